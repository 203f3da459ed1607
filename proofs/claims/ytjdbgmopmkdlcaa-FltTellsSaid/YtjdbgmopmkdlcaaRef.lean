/-
  What the functions of the document's own answer for layer 1 return, but for Sum, in whatever world, for words: integers from 0 to less than 2^64 (the one condition). They tell what flt's tell.
-/
import Derived.Test.YtjdbgmopmkdlcaaFlt
import Derived.Test.YtjdbgmopmkdlcaaOrd
namespace Go.Proofs.Ytjdbgmopmkdlcaa

theorem ret_two {j k : IntKind} {a b c d : Int} (h : a = c) (g : b = d) : Ending.returned (.tuple #[.int j a, .int k b]) = .returned (.tuple #[.int j c, .int k d]) := by rw [h, g]

set_option maxHeartbeats 400000 in
theorem parts_any (x : Int) (w : World) (h0 : 0 ≤ x) (h1 : x < 18446744073709551616) :
    Calls Try.prog 27 #[.int .u64 x] w fun e w' => e = .returned (.tuple #[.int .i64 (x % 9223372036854775808 / 4503599627370496), .int .u64 (x % 4503599627370496)]) ∧ w = w' := by
  have d0 : 0 ≤ x / 4503599627370496 := by omega
  have d1 : x / 4503599627370496 < 4096 := by omega
  go_enter Try.func27, Try.ntmps27
  go_wp2
  go_ret2
  exact ⟨ret_two (by omega) (by omega), rfl⟩

theorem kind_is (x : Int) (h0 : 0 ≤ x) (h1 : x < 18446744073709551616) : kind x =
    if x % 9223372036854775808 / 4503599627370496 = 2047 ∧ x % 4503599627370496 ≠ 0 then 3 else if x % 9223372036854775808 / 4503599627370496 = 2047 then 2
    else if x % 9223372036854775808 / 4503599627370496 = 0 ∧ x % 4503599627370496 = 0 then 0 else 1 := by
  unfold kind canon
  by_cases c : 9218868437227405312 < x % 9223372036854775808
  · rw [if_pos c, if_neg (by omega), if_neg (by omega), if_neg (by omega), if_pos rfl, if_pos (by omega)]
  · rw [if_neg c, if_neg (by omega : ¬ (x % 9223372036854775808 / 4503599627370496 = 2047 ∧ x % 4503599627370496 ≠ 0))]
    by_cases d : x % 9223372036854775808 = 9218868437227405312
    · rw [if_neg (by omega : ¬ x = 9223372036854775808), if_pos (by omega : x % 9223372036854775808 / 4503599627370496 = 2047), if_neg (by omega)]
      by_cases e : x = 9218868437227405312
      · rw [if_pos e]
      · rw [if_neg e, if_pos (by omega)]
    · rw [if_neg (by omega : ¬ x % 9223372036854775808 / 4503599627370496 = 2047)]
      by_cases z : x % 9223372036854775808 = 0
      · rw [if_pos (by omega : x % 9223372036854775808 / 4503599627370496 = 0 ∧ x % 4503599627370496 = 0)]
        by_cases e : x = 9223372036854775808
        · rw [if_pos e, if_pos rfl]
        · rw [if_neg e, if_pos (by omega)]
      · rw [if_neg (by omega : ¬ x = 9223372036854775808), if_neg (by omega), if_neg (by omega), if_neg (by omega), if_neg (by omega), if_neg (by omega)]

set_option maxHeartbeats 400000 in
theorem rkind_any (x : Int) (w : World) (h0 : 0 ≤ x) (h1 : x < 18446744073709551616) :
    Calls Try.prog 14 #[.int .u64 x] w fun e w' => e = .returned (.int .i64 (kind x)) ∧ w = w' := by
  have H := Lib.hid (kind_is x h0 h1)
  have p0 : 0 ≤ x % 9223372036854775808 / 4503599627370496 := by omega
  have p1 : x % 9223372036854775808 / 4503599627370496 < 2048 := by omega
  have q0 : 0 ≤ x % 4503599627370496 := by omega
  have q1 : x % 4503599627370496 < 4503599627370496 := by omega
  have P := Lib.hid (parts_any x · h0 h1)
  generalize x % 9223372036854775808 / 4503599627370496 = p at *
  generalize x % 4503599627370496 = q at *
  rcases c1 : (p == 2047) with _ | _ <;> rcases c2 : (q == 0) with _ | _ <;> rcases c3 : (p == 0) with _ | _
  all_goals
    have c4 : (q != 0) = !(q == 0) := rfl
    rw [c2] at c4
    simp only [Bool.not_true, Bool.not_false] at c4
    have c1' : _ := Lib.hid c1
    have c2' : _ := Lib.hid c2
    have c3' : _ := Lib.hid c3
    go_enter Try.func14, Try.ntmps14
    go_wp2_with (go_at_call 27; with_reducible refine (P.out _).mono ?_; rintro e w' ⟨rfl, rfl⟩)
    go_ret
    refine ⟨ret_u64 ?_, rfl⟩
    have c1 := c1'.out
    have c2 := c2'.out
    have c3 := c3'.out
    simp only [beq_iff_eq, beq_eq_false_iff_ne, ne_eq] at c1 c2 c3
    rw [H.out]
    simp [*]

theorem kind_cases (x : Int) : kind x = 0 ∨ kind x = 1 ∨ kind x = 2 ∨ kind x = 3 := by
  unfold kind
  split <;> (try split) <;> (try split) <;> (try split) <;> omega

theorem canon_is (x : Int) (h0 : 0 ≤ x) (h1 : x < 18446744073709551616) : canon x = if kind x = 3 then 9221120237041090561 else if kind x = 0 then 0 else x := by
  rw [kind_is x h0 h1]
  unfold canon
  by_cases c : 9218868437227405312 < x % 9223372036854775808
  · rw [if_pos c, if_pos (by omega : x % 9223372036854775808 / 4503599627370496 = 2047 ∧ x % 4503599627370496 ≠ 0), if_pos rfl]
  · rw [if_neg c, if_neg (by omega : ¬ (x % 9223372036854775808 / 4503599627370496 = 2047 ∧ x % 4503599627370496 ≠ 0))]
    by_cases d : x % 9223372036854775808 = 9218868437227405312
    · rw [if_neg (by omega : ¬ x = 9223372036854775808), if_pos (by omega : x % 9223372036854775808 / 4503599627370496 = 2047), if_neg (by omega), if_neg (by omega)]
    · rw [if_neg (by omega : ¬ x % 9223372036854775808 / 4503599627370496 = 2047)]
      by_cases z : x % 9223372036854775808 = 0
      · rw [if_pos (by omega : x % 9223372036854775808 / 4503599627370496 = 0 ∧ x % 4503599627370496 = 0), if_neg (by omega : ¬ (0 : Int) = 3), if_pos rfl]
        split <;> omega
      · rw [if_neg (by omega : ¬ x = 9223372036854775808), if_neg (by omega : ¬ (x % 9223372036854775808 / 4503599627370496 = 0 ∧ x % 4503599627370496 = 0)), if_neg (by omega), if_neg (by omega)]

set_option maxHeartbeats 400000 in
theorem rcanon_any (x : Int) (w : World) (h0 : 0 ≤ x) (h1 : x < 18446744073709551616) :
    Calls Try.prog 12 #[.int .u64 x] w fun e w' => e = .returned (.int .u64 (canon x)) ∧ w = w' := by
  have H := Lib.hid (canon_is x h0 h1)
  rcases c1 : (kind x == 3) with _ | _ <;> rcases c2 : (kind x == 0) with _ | _
  all_goals
    have c1' : _ := Lib.hid c1
    have c2' : _ := Lib.hid c2
    go_enter Try.func12, Try.ntmps12
    go_wp2_with (go_at_call 14; with_reducible refine (rkind_any _ _ (by omega) (by omega)).mono ?_; rintro e w' ⟨rfl, rfl⟩)
    go_ret
    refine ⟨ret_u64 ?_, rfl⟩
    have c1 := c1'.out
    have c2 := c2'.out
    simp only [beq_iff_eq, beq_eq_false_iff_ne, ne_eq] at c1 c2
    rw [H.out]
    simp [*]

set_option maxHeartbeats 400000 in
theorem rrank_any (x : Int) (w : World) (h0 : 0 ≤ x) (h1 : x < 18446744073709551616) :
    Calls Try.prog 16 #[.int .u64 x] w fun e w' => e = .returned (.int .u64 (rank x)) ∧ w = w' := by
  have c0 := canon_lo x h0
  have c1 := canon_hi x h1
  have hn := not_word (canon x) c0 c1
  by_cases hs : 9223372036854775808 ≤ canon x
  · have hr : RowKit.Hid (rank x = 18446744073709551615 - canon x) := Lib.hid (by unfold rank; rw [if_pos hs])
    have hd : (canon x / 9223372036854775808 == 1) = true := by simp only [beq_iff_eq]; omega
    go_enter Try.func16, Try.ntmps16
    go_wp2_with (go_at_call 12; with_reducible refine (rcanon_any _ _ (by omega) (by omega)).mono ?_; rintro e w' ⟨rfl, rfl⟩)
    go_ret
    exact ⟨ret_u64 hr.out.symm, rfl⟩
  · have hr : RowKit.Hid (rank x = canon x + 9223372036854775808) := Lib.hid (by unfold rank; rw [if_neg hs])
    have hd : (canon x / 9223372036854775808 == 1) = false := by simp only [beq_eq_false_iff_ne, ne_eq]; omega
    go_enter Try.func16, Try.ntmps16
    go_wp2_with (go_at_call 12; with_reducible refine (rcanon_any _ _ (by omega) (by omega)).mono ?_; rintro e w' ⟨rfl, rfl⟩)
    go_ret
    exact ⟨ret_u64 hr.out.symm, rfl⟩

set_option maxHeartbeats 400000 in
theorem rless_any (x y : Int) (w : World) (h0 : 0 ≤ x) (h1 : x < 18446744073709551616) (g0 : 0 ≤ y) (g1 : y < 18446744073709551616) :
    Calls Try.prog 18 #[.int .u64 x, .int .u64 y] w fun e w' => e = .returned (.bool (less x y)) ∧ w = w' := by
  go_enter Try.func18, Try.ntmps18
  go_wp2_with (go_at_call 16; with_reducible refine (rrank_any _ _ (by omega) (by omega)).mono ?_; rintro e w' ⟨rfl, rfl⟩)
  go_ret
  exact ⟨rfl, rfl⟩

set_option maxHeartbeats 400000 in
theorem rmax_any (x y : Int) (w : World) (h0 : 0 ≤ x) (h1 : x < 18446744073709551616) (g0 : 0 ≤ y) (g1 : y < 18446744073709551616) :
    Calls Try.prog 20 #[.int .u64 x, .int .u64 y] w fun e w' => e = .returned (.int .u64 (maxOf x y)) ∧ w = w' := by
  by_cases hl : less x y = true
  · have hr : RowKit.Hid (maxOf x y = canon y) := Lib.hid (by simp only [less, decide_eq_true_eq] at hl; unfold maxOf; rw [if_pos hl])
    go_enter Try.func20, Try.ntmps20
    go_wp2_with (first | (go_at_call 18; with_reducible refine (rless_any _ _ _ (by omega) (by omega) (by omega) (by omega)).mono ?_; rintro e w' ⟨rfl, rfl⟩) | (go_at_call 12; with_reducible refine (rcanon_any _ _ (by omega) (by omega)).mono ?_; rintro e w' ⟨rfl, rfl⟩))
    go_ret
    exact ⟨ret_u64 hr.out.symm, rfl⟩
  · have hr : RowKit.Hid (maxOf x y = canon x) := Lib.hid (by simp only [less, decide_eq_true_eq] at hl; unfold maxOf; rw [if_neg hl])
    have hl' : less x y = false := by simpa using hl
    clear hl
    go_enter Try.func20, Try.ntmps20
    go_wp2_with (first | (go_at_call 18; with_reducible refine (rless_any _ _ _ (by omega) (by omega) (by omega) (by omega)).mono ?_; rintro e w' ⟨rfl, rfl⟩) | (go_at_call 12; with_reducible refine (rcanon_any _ _ (by omega) (by omega)).mono ?_; rintro e w' ⟨rfl, rfl⟩))
    go_ret
    exact ⟨ret_u64 hr.out.symm, rfl⟩

theorem rank_unrank (r : Int) (h0 : 0 ≤ r) (h1 : r < 18446744073709551616) (hc : canon (unrank r) = unrank r) : rank (unrank r) = r := by
  have h := canon_cases (unrank r) (unrank_lo r h1) (unrank_hi r h0 h1)
  unfold rank
  rw [hc] at h ⊢
  unfold unrank at *
  by_cases c : 9223372036854775808 ≤ r
  · rw [if_pos c] at h ⊢; rw [if_neg (by omega)]; omega
  · rw [if_neg c] at h ⊢; rw [if_pos (by omega)]; omega

set_option maxHeartbeats 400000 in
theorem rword_any (r : Int) (w : World) (h0 : 0 ≤ r) (h1 : r < 18446744073709551616) :
    Calls Try.prog 24 #[.int .u64 r] w fun e w' => e = .returned (.tuple #[.int .u64 (wordOf r), .bool (wordIs r)]) ∧ w = w' := by
  have u0 := unrank_lo r h1
  have u1 := unrank_hi r h0 h1
  have hn := not_word r h0 h1
  have RU := Lib.hid (rank_unrank r h0 h1)
  have WO : RowKit.Hid (wordOf r = if canon (unrank r) = unrank r then unrank r else 0) := Lib.hid rfl
  have WI : RowKit.Hid (wordIs r = decide (canon (unrank r) = unrank r)) := Lib.hid rfl
  by_cases hs : 9223372036854775808 ≤ r
  · have hd : (r / 9223372036854775808 == 1) = true := by simp only [beq_iff_eq]; omega
    have hu : unrank r = r - 9223372036854775808 := by unfold unrank; rw [if_pos hs]
    have H := Lib.hid hu.symm
    generalize unrank r = u at *
    clear hu
    have hv := H.out
    by_cases hc : (canon u != u) = true
    · have g : RowKit.Hid (¬ canon u = u) := Lib.hid (by simpa using hc)
      go_enter Try.func24, Try.ntmps24
      go_wp2_with (go_at_call 12; with_reducible refine (rcanon_any _ _ (by omega) (by omega)).mono ?_; rintro e w' ⟨rfl, rfl⟩)
      go_ret2
      exact ⟨ret_pair (by rw [WO.out, if_neg g.out]) (by rw [WI.out, decide_eq_false g.out]), rfl⟩
    · have hc' : (canon u != u) = false := by simpa using hc
      have g : RowKit.Hid (canon u = u) := Lib.hid (by simpa using hc)
      have hr := RU.out g.out
      clear hc
      go_enter Try.func24, Try.ntmps24
      go_wp2_with (first | (go_at_call 12; with_reducible refine (rcanon_any _ _ (by omega) (by omega)).mono ?_; rintro e w' ⟨rfl, rfl⟩) | (go_at_call 16; with_reducible refine (rrank_any _ _ (by omega) (by omega)).mono ?_; rintro e w' ⟨rfl, rfl⟩))
      go_ret2
      exact ⟨ret_pair (by rw [WO.out, if_pos g.out]) (by rw [WI.out, decide_eq_true g.out]), rfl⟩
  · have hd : (r / 9223372036854775808 == 1) = false := by simp only [beq_eq_false_iff_ne, ne_eq]; omega
    have hu : unrank r = 18446744073709551615 - r := by unfold unrank; rw [if_neg hs]
    rw [← hu] at hn
    clear hu
    generalize unrank r = u at *
    by_cases hc : (canon u != u) = true
    · have g : RowKit.Hid (¬ canon u = u) := Lib.hid (by simpa using hc)
      go_enter Try.func24, Try.ntmps24
      go_wp2_with (go_at_call 12; with_reducible refine (rcanon_any _ _ (by omega) (by omega)).mono ?_; rintro e w' ⟨rfl, rfl⟩)
      go_ret2
      exact ⟨ret_pair (by rw [WO.out, if_neg g.out]) (by rw [WI.out, decide_eq_false g.out]), rfl⟩
    · have hc' : (canon u != u) = false := by simpa using hc
      have g : RowKit.Hid (canon u = u) := Lib.hid (by simpa using hc)
      have hr := RU.out g.out
      clear hc
      go_enter Try.func24, Try.ntmps24
      go_wp2_with (first | (go_at_call 12; with_reducible refine (rcanon_any _ _ (by omega) (by omega)).mono ?_; rintro e w' ⟨rfl, rfl⟩) | (go_at_call 16; with_reducible refine (rrank_any _ _ (by omega) (by omega)).mono ?_; rintro e w' ⟨rfl, rfl⟩))
      go_ret2
      exact ⟨ret_pair (by rw [WO.out, if_pos g.out]) (by rw [WI.out, decide_eq_true g.out]), rfl⟩

end Go.Proofs.Ytjdbgmopmkdlcaa
