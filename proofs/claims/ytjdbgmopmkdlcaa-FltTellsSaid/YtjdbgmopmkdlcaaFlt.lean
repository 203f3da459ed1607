/-
  What each function of package flt returns, in whatever world, for words: integers from 0 to less than 2^64 (the one condition). Each call leaves the world alone, but that Sum may draw a NaN's bits.
-/
import Derived.Test.YtjdbgmopmkdlcaaChecked
import Derived.Test.YtjdbgmopmkdlcaaWords
import Derived.WalkKit
import Derived.WalkLawsBesides
import Derived.Lib.Hide
namespace Go.Proofs.Ytjdbgmopmkdlcaa

theorem ret_u64 {k : IntKind} {a b : Int} (h : a = b) : Ending.returned (.int k a) = .returned (.int k b) := by rw [h]

set_option maxHeartbeats 400000 in
theorem isNaN_any (x : Int) (w : World) (h0 : 0 ≤ x) (h1 : x < 18446744073709551616) :
    Calls Try.prog 26 #[.int .u64 x] w fun e w' => e = .returned (.bool (isNan x)) ∧ w = w' := by
  have hb := andNot_sign x h0 h1
  go_enter Try.func26, Try.ntmps26
  go_wp2
  go_ret
  exact ⟨rfl, rfl⟩

set_option maxHeartbeats 400000 in
theorem canon_any (x : Int) (w : World) (h0 : 0 ≤ x) (h1 : x < 18446744073709551616) :
    Calls Try.prog 11 #[.int .u64 x] w fun e w' => e = .returned (.int .u64 (canon x)) ∧ w = w' := by
  by_cases hn : isNan x = true
  · have hc : RowKit.Hid (canon x = 9221120237041090561) := Lib.hid (by simp only [isNan, decide_eq_true_eq] at hn; unfold canon; rw [if_pos hn])
    go_enter Try.func11, Try.ntmps11
    go_wp2_with (go_at_call 26; with_reducible refine (isNaN_any _ _ (by omega) (by omega)).mono ?_; rintro e w' ⟨rfl, rfl⟩)
    go_ret
    exact ⟨ret_u64 hc.out.symm, rfl⟩
  · have hn' : isNan x = false := by simpa using hn
    by_cases hz : (x == 9223372036854775808) = true
    · have hc : RowKit.Hid (canon x = 0) := Lib.hid (by simp only [isNan, decide_eq_true_eq] at hn; unfold canon; rw [if_neg hn, if_pos (by simpa using hz)])
      clear hn
      go_enter Try.func11, Try.ntmps11
      go_wp2_with (go_at_call 26; with_reducible refine (isNaN_any _ _ (by omega) (by omega)).mono ?_; rintro e w' ⟨rfl, rfl⟩)
      go_ret
      exact ⟨ret_u64 hc.out.symm, rfl⟩
    · have hz' : (x == 9223372036854775808) = false := by simpa using hz
      have hc : RowKit.Hid (canon x = x) := Lib.hid (by simp only [isNan, decide_eq_true_eq] at hn; unfold canon; rw [if_neg hn, if_neg (by simpa using hz)])
      clear hn hz
      go_enter Try.func11, Try.ntmps11
      go_wp2_with (go_at_call 26; with_reducible refine (isNaN_any _ _ (by omega) (by omega)).mono ?_; rintro e w' ⟨rfl, rfl⟩)
      go_ret
      exact ⟨ret_u64 hc.out.symm, rfl⟩

set_option maxHeartbeats 400000 in
theorem rank_any (x : Int) (w : World) (h0 : 0 ≤ x) (h1 : x < 18446744073709551616) :
    Calls Try.prog 15 #[.int .u64 x] w fun e w' => e = .returned (.int .u64 (rank x)) ∧ w = w' := by
  have c0 := canon_lo x h0
  have c1 := canon_hi x h1
  have ha := and_sign (canon x) c0 c1
  by_cases hs : 9223372036854775808 ≤ canon x
  · rw [if_pos hs] at ha
    have hr : RowKit.Hid (rank x = 18446744073709551615 - canon x) := Lib.hid (by unfold rank; rw [if_pos hs])
    have hn := not_word (canon x) c0 c1
    go_enter Try.func15, Try.ntmps15
    go_wp2_with (go_at_call 11; with_reducible refine (canon_any _ _ (by omega) (by omega)).mono ?_; rintro e w' ⟨rfl, rfl⟩)
    go_ret
    exact ⟨ret_u64 hr.out.symm, rfl⟩
  · rw [if_neg hs] at ha
    have hr : RowKit.Hid (rank x = canon x + 9223372036854775808) := Lib.hid (by unfold rank; rw [if_neg hs])
    have hn := or_sign (canon x) c0 (by omega)
    go_enter Try.func15, Try.ntmps15
    go_wp2_with (go_at_call 11; with_reducible refine (canon_any _ _ (by omega) (by omega)).mono ?_; rintro e w' ⟨rfl, rfl⟩)
    go_ret
    exact ⟨ret_u64 hr.out.symm, rfl⟩

theorem rank_lo (x : Int) (h0 : 0 ≤ x) (h1 : x < 18446744073709551616) : 0 ≤ rank x := by
  have c0 := canon_lo x h0
  have c1 := canon_hi x h1
  unfold rank; split <;> omega

theorem rank_hi (x : Int) (h0 : 0 ≤ x) (h1 : x < 18446744073709551616) : rank x < 18446744073709551616 := by
  have c0 := canon_lo x h0
  have c1 := canon_hi x h1
  unfold rank; split <;> omega

set_option maxHeartbeats 400000 in
theorem less_any (x y : Int) (w : World) (h0 : 0 ≤ x) (h1 : x < 18446744073709551616) (g0 : 0 ≤ y) (g1 : y < 18446744073709551616) :
    Calls Try.prog 17 #[.int .u64 x, .int .u64 y] w fun e w' => e = .returned (.bool (less x y)) ∧ w = w' := by
  go_enter Try.func17, Try.ntmps17
  go_wp2_with (go_at_call 15; with_reducible refine (rank_any _ _ (by omega) (by omega)).mono ?_; rintro e w' ⟨rfl, rfl⟩)
  go_ret
  exact ⟨rfl, rfl⟩

set_option maxHeartbeats 400000 in
theorem max_any (x y : Int) (w : World) (h0 : 0 ≤ x) (h1 : x < 18446744073709551616) (g0 : 0 ≤ y) (g1 : y < 18446744073709551616) :
    Calls Try.prog 19 #[.int .u64 x, .int .u64 y] w fun e w' => e = .returned (.int .u64 (maxOf x y)) ∧ w = w' := by
  by_cases hl : less x y = true
  · have hr : RowKit.Hid (maxOf x y = canon y) := Lib.hid (by simp only [less, decide_eq_true_eq] at hl; unfold maxOf; rw [if_pos hl])
    go_enter Try.func19, Try.ntmps19
    go_wp2_with (first | (go_at_call 17; with_reducible refine (less_any _ _ _ (by omega) (by omega) (by omega) (by omega)).mono ?_; rintro e w' ⟨rfl, rfl⟩) | (go_at_call 11; with_reducible refine (canon_any _ _ (by omega) (by omega)).mono ?_; rintro e w' ⟨rfl, rfl⟩))
    go_ret
    exact ⟨ret_u64 hr.out.symm, rfl⟩
  · have hr : RowKit.Hid (maxOf x y = canon x) := Lib.hid (by simp only [less, decide_eq_true_eq] at hl; unfold maxOf; rw [if_neg hl])
    have hl' : less x y = false := by simpa using hl
    clear hl
    go_enter Try.func19, Try.ntmps19
    go_wp2_with (first | (go_at_call 17; with_reducible refine (less_any _ _ _ (by omega) (by omega) (by omega) (by omega)).mono ?_; rintro e w' ⟨rfl, rfl⟩) | (go_at_call 11; with_reducible refine (canon_any _ _ (by omega) (by omega)).mono ?_; rintro e w' ⟨rfl, rfl⟩))
    go_ret
    exact ⟨ret_u64 hr.out.symm, rfl⟩

theorem unrank_lo (x : Int) (h1 : x < 18446744073709551616) : 0 ≤ unrank x := by unfold unrank; split <;> omega

theorem unrank_hi (x : Int) (h0 : 0 ≤ x) (h1 : x < 18446744073709551616) : unrank x < 18446744073709551616 := by unfold unrank; split <;> omega

set_option maxHeartbeats 400000 in
theorem kind_any (x : Int) (w : World) (h0 : 0 ≤ x) (h1 : x < 18446744073709551616) :
    Calls Try.prog 13 #[.int .u64 x] w fun e w' => e = .returned (.int .i64 (kind x)) ∧ w = w' := by
  have c0 := canon_lo x h0
  have c1 := canon_hi x h1
  have hk : RowKit.Hid (kind x = if canon x = 0 then 0 else if canon x = 9218868437227405312 then 2 else if canon x = 18442240474082181120 then 2 else if canon x = 9221120237041090561 then 3 else 1) := Lib.hid rfl
  by_cases e0 : (canon x == 0) = true
  · go_enter Try.func13, Try.ntmps13
    go_wp2_with (go_at_call 11; with_reducible refine (canon_any _ _ (by omega) (by omega)).mono ?_; rintro e w' ⟨rfl, rfl⟩)
    go_ret
    exact ⟨ret_u64 (by rw [hk.out, if_pos (by simpa using e0)]), rfl⟩
  have e0' : (canon x == 0) = false := by simpa using e0
  have d0 : RowKit.Hid (¬ canon x = 0) := Lib.hid (by simpa using e0)
  clear e0
  by_cases e1 : (canon x == 9218868437227405312) = true
  · go_enter Try.func13, Try.ntmps13
    go_wp2_with (go_at_call 11; with_reducible refine (canon_any _ _ (by omega) (by omega)).mono ?_; rintro e w' ⟨rfl, rfl⟩)
    go_ret
    exact ⟨ret_u64 (by rw [hk.out, if_neg d0.out, if_pos (by simpa using e1)]), rfl⟩
  have e1' : (canon x == 9218868437227405312) = false := by simpa using e1
  have d1 : RowKit.Hid (¬ canon x = 9218868437227405312) := Lib.hid (by simpa using e1)
  clear e1
  by_cases e2 : (canon x == 18442240474082181120) = true
  · go_enter Try.func13, Try.ntmps13
    go_wp2_with (go_at_call 11; with_reducible refine (canon_any _ _ (by omega) (by omega)).mono ?_; rintro e w' ⟨rfl, rfl⟩)
    go_ret
    exact ⟨ret_u64 (by rw [hk.out, if_neg d0.out, if_neg d1.out, if_pos (by simpa using e2)]), rfl⟩
  have e2' : (canon x == 18442240474082181120) = false := by simpa using e2
  have d2 : RowKit.Hid (¬ canon x = 18442240474082181120) := Lib.hid (by simpa using e2)
  clear e2
  by_cases e3 : (canon x == 9221120237041090561) = true
  · go_enter Try.func13, Try.ntmps13
    go_wp2_with (go_at_call 11; with_reducible refine (canon_any _ _ (by omega) (by omega)).mono ?_; rintro e w' ⟨rfl, rfl⟩)
    go_ret
    exact ⟨ret_u64 (by rw [hk.out, if_neg d0.out, if_neg d1.out, if_neg d2.out, if_pos (by simpa using e3)]), rfl⟩
  have e3' : (canon x == 9221120237041090561) = false := by simpa using e3
  have d3 : RowKit.Hid (¬ canon x = 9221120237041090561) := Lib.hid (by simpa using e3)
  clear e3
  go_enter Try.func13, Try.ntmps13
  go_wp2_with (go_at_call 11; with_reducible refine (canon_any _ _ (by omega) (by omega)).mono ?_; rintro e w' ⟨rfl, rfl⟩)
  go_ret
  exact ⟨ret_u64 (by rw [hk.out, if_neg d0.out, if_neg d1.out, if_neg d2.out, if_neg d3.out]), rfl⟩

theorem ret_pair {k : IntKind} {a b : Int} {p q : Bool} (h : a = b) (g : p = q) : Ending.returned (.tuple #[.int k a, .bool p]) = .returned (.tuple #[.int k b, .bool q]) := by rw [h, g]

set_option maxHeartbeats 400000 in
theorem word_any (r : Int) (w : World) (h0 : 0 ≤ r) (h1 : r < 18446744073709551616) :
    Calls Try.prog 23 #[.int .u64 r] w fun e w' => e = .returned (.tuple #[.int .u64 (wordOf r), .bool (wordIs r)]) ∧ w = w' := by
  have u0 := unrank_lo r h1
  have u1 := unrank_hi r h0 h1
  have ha := and_sign r h0 h1
  have hn := not_word r h0 h1
  by_cases hs : 9223372036854775808 ≤ r
  · rw [if_pos hs] at ha
    have hx := xor_sign r h0 h1
    rw [if_pos hs] at hx
    have hu : unrank r = r - 9223372036854775808 := by unfold unrank; rw [if_pos hs]
    have H := Lib.hid hu
    rw [← hu] at hx
    clear hu
    by_cases hc : (canon (unrank r) != unrank r) = true
    · have g : RowKit.Hid (¬ canon (unrank r) = unrank r) := Lib.hid (by simpa using hc)
      go_enter Try.func23, Try.ntmps23
      go_wp2_with (go_at_call 11; with_reducible refine (canon_any _ _ (by omega) (by omega)).mono ?_; rintro e w' ⟨rfl, rfl⟩)
      go_ret2
      exact ⟨ret_pair (by unfold wordOf; rw [if_neg g.out]) (by unfold wordIs; rw [decide_eq_false g.out]), rfl⟩
    · have hc' : (canon (unrank r) != unrank r) = false := by simpa using hc
      have g : RowKit.Hid (canon (unrank r) = unrank r) := Lib.hid (by simpa using hc)
      clear hc
      go_enter Try.func23, Try.ntmps23
      go_wp2_with (go_at_call 11; with_reducible refine (canon_any _ _ (by omega) (by omega)).mono ?_; rintro e w' ⟨rfl, rfl⟩)
      go_ret2
      exact ⟨ret_pair (by unfold wordOf; rw [if_pos g.out]) (by unfold wordIs; rw [decide_eq_true g.out]), rfl⟩
  · rw [if_neg hs] at ha
    have hu : unrank r = 18446744073709551615 - r := by unfold unrank; rw [if_neg hs]
    rw [← hu] at hn
    clear hu
    by_cases hc : (canon (unrank r) != unrank r) = true
    · have g : RowKit.Hid (¬ canon (unrank r) = unrank r) := Lib.hid (by simpa using hc)
      go_enter Try.func23, Try.ntmps23
      go_wp2_with (go_at_call 11; with_reducible refine (canon_any _ _ (by omega) (by omega)).mono ?_; rintro e w' ⟨rfl, rfl⟩)
      go_ret2
      exact ⟨ret_pair (by unfold wordOf; rw [if_neg g.out]) (by unfold wordIs; rw [decide_eq_false g.out]), rfl⟩
    · have hc' : (canon (unrank r) != unrank r) = false := by simpa using hc
      have g : RowKit.Hid (canon (unrank r) = unrank r) := Lib.hid (by simpa using hc)
      clear hc
      go_enter Try.func23, Try.ntmps23
      go_wp2_with (go_at_call 11; with_reducible refine (canon_any _ _ (by omega) (by omega)).mono ?_; rintro e w' ⟨rfl, rfl⟩)
      go_ret2
      exact ⟨ret_pair (by unfold wordOf; rw [if_pos g.out]) (by unfold wordIs; rw [decide_eq_true g.out]), rfl⟩

end Go.Proofs.Ytjdbgmopmkdlcaa
