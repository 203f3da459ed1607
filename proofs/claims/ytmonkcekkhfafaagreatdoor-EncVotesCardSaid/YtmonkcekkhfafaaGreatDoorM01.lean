/-
  Parts of a proof, one behind the other: FltWords, FltOrd, FltCalls, FltSum, FltRef, FltRound, FltJam. Each says its own conditions.
-/
import Derived.WalkKit
import Derived.Test.YtmonkcekkhfafaaGreatDoorChecked
import Derived.WalkLawsBesides
import Derived.Lib.Hide
import Derived.Deep.Draws
import Ieee.Arith

/- FltWords:
  What the functions of package flt tell of words, as plain functions of integers. No condition: definitions, and facts on them for integers from 0 to less than 2^64.
-/
namespace Go.Proofs.YtmonkcekkhfafaaGreatDoor

/-- Canon, of an integer that is a word. -/
def canon (x : Int) : Int := if 9218868437227405312 < x % 9223372036854775808 then 9221120237041090561 else if x = 9223372036854775808 then 0 else x

def isNan (x : Int) : Bool := decide (9218868437227405312 < x % 9223372036854775808)

def kind (x : Int) : Int := if canon x = 0 then 0 else if canon x = 9218868437227405312 then 2 else if canon x = 18442240474082181120 then 2 else if canon x = 9221120237041090561 then 3 else 1

def rank (x : Int) : Int := if 9223372036854775808 ≤ canon x then 18446744073709551615 - canon x else canon x + 9223372036854775808

def unrank (r : Int) : Int := if 9223372036854775808 ≤ r then r - 9223372036854775808 else 18446744073709551615 - r

def wordIs (r : Int) : Bool := decide (canon (unrank r) = unrank r)

def wordOf (r : Int) : Int := if canon (unrank r) = unrank r then unrank r else 0

def less (x y : Int) : Bool := decide (rank x < rank y)

def maxOf (x y : Int) : Int := if rank x < rank y then canon y else canon x

/-- The word of the sum as the model adds; a NaN where it has none. -/
def addWord (x y : Int) : Int := match Ieee.double.add x.toNat y.toNat with
  | some r => (r : Int)
  | none => 9221120237041090561

def sumOf (x y : Int) : Int := canon (addWord x y)

theorem andNot_sign (x : Int) (h0 : 0 ≤ x) (h1 : x < 18446744073709551616) : bits .andNot .u64 x 9223372036854775808 = x % 9223372036854775808 := by
  rw [u64_andNot x _ h0 h1 (by omega) (by omega)]
  obtain ⟨X, rfl⟩ := Int.eq_ofNat_of_zero_le h0
  have e : (X &&& 9223372036854775807) = X % 9223372036854775808 := Nat.and_two_pow_sub_one_eq_mod X 63
  simp only [Int.toNat_natCast]
  have e2 : (18446744073709551615 - (9223372036854775808 : Int).toNat) = 9223372036854775807 := by decide
  rw [e2, e]
  omega

theorem and_sign (x : Int) (h0 : 0 ≤ x) (h1 : x < 18446744073709551616) : bits .and .u64 x 9223372036854775808 = if 9223372036854775808 ≤ x then 9223372036854775808 else 0 := by
  rw [u64_and x _ h0 h1 (by omega) (by omega)]
  obtain ⟨X, rfl⟩ := Int.eq_ofNat_of_zero_le h0
  simp only [Int.toNat_natCast]
  have e2 : (9223372036854775808 : Int).toNat = 9223372036854775808 := by decide
  rw [e2, nat_bit63]
  split <;> omega

theorem or_sign (x : Int) (h0 : 0 ≤ x) (h1 : x < 9223372036854775808) : bits .or .u64 x 9223372036854775808 = x + 9223372036854775808 := by
  rw [u64_or x _ h0 (by omega) (by omega) (by omega)]
  obtain ⟨X, rfl⟩ := Int.eq_ofNat_of_zero_le h0
  have e2 : (9223372036854775808 : Int).toNat = 9223372036854775808 := by decide
  simp only [Int.toNat_natCast]
  rw [e2, nat_join63' 9223372036854775808 X (by omega) (by omega)]
  omega

theorem xor_sign_nat (X : Nat) (h : X < 18446744073709551616) : X ^^^ 9223372036854775808 = if 9223372036854775808 ≤ X then X - 9223372036854775808 else X + 9223372036854775808 := by
  have m : (X ^^^ 2 ^ 63) % 2 ^ 63 = X % 2 ^ 63 := by rw [Nat.xor_mod_two_pow]; simp
  have d : (X ^^^ 2 ^ 63) / 2 ^ 63 = X / 2 ^ 63 ^^^ 1 := by rw [Nat.xor_div_two_pow]
  have c : X / 2 ^ 63 = 0 ∨ X / 2 ^ 63 = 1 := by omega
  rw [show (9223372036854775808 : Nat) = 2 ^ 63 from rfl]
  generalize X ^^^ 2 ^ 63 = Y at m d ⊢
  rcases c with c | c <;> rw [c] at d <;> simp at d <;> split <;> omega

theorem xor_sign (x : Int) (h0 : 0 ≤ x) (h1 : x < 18446744073709551616) : bits .xor .u64 x 9223372036854775808 = if 9223372036854775808 ≤ x then x - 9223372036854775808 else x + 9223372036854775808 := by
  obtain ⟨X, rfl⟩ := Int.eq_ofNat_of_zero_le h0
  rw [show bits .xor .u64 (X : Int) 9223372036854775808 = _ from bits_xor_u64_nat X 9223372036854775808 (by omega) (by omega), xor_sign_nat X (by omega)]
  split <;> split <;> omega

theorem not_word (x : Int) (h0 : 0 ≤ x) (h1 : x < 18446744073709551616) : bits .xor .u64 IntKind.u64.max x = 18446744073709551615 - x := by
  rw [show IntKind.u64.max = 18446744073709551615 from rfl]
  obtain ⟨X, rfl⟩ := Int.eq_ofNat_of_zero_le h0
  rw [show bits .xor .u64 18446744073709551615 (X : Int) = _ from bits_xor_u64_nat 18446744073709551615 X (by omega) (by omega)]
  have e : (BitVec.allOnes 64 ^^^ BitVec.ofNat 64 X).toNat = 18446744073709551615 - X := by
    rw [BitVec.allOnes_xor, BitVec.toNat_not, BitVec.toNat_ofNat, Nat.mod_eq_of_lt (by omega)]
  rw [BitVec.toNat_xor, BitVec.toNat_ofNat, Nat.mod_eq_of_lt (by omega : X < 2 ^ 64)] at e
  have e2 : (BitVec.allOnes 64).toNat = 18446744073709551615 := rfl
  rw [e2] at e
  omega

theorem canon_lo (x : Int) (h0 : 0 ≤ x) : 0 ≤ canon x := by
  unfold canon
  split <;> (try split) <;> omega

theorem canon_hi (x : Int) (h1 : x < 18446744073709551616) : canon x < 18446744073709551616 := by
  unfold canon
  split <;> (try split) <;> omega

theorem canon_canon (x : Int) : canon (canon x) = canon x := by
  unfold canon
  split
  · simp
  · split
    · simp
    · rfl

end Go.Proofs.YtmonkcekkhfafaaGreatDoor

/- FltOrd:
  The order of words by their ranks, as facts on the plain functions of integers, for integers from 0 to less than 2^64 (the one condition).
-/
namespace Go.Proofs.YtmonkcekkhfafaaGreatDoor

/-- A canonical word is a NaN, or no NaN and not minus zero. -/
theorem canon_cases (x : Int) (h0 : 0 ≤ x) (h1 : x < 18446744073709551616) :
    (canon x = 9221120237041090561) ∨ (0 ≤ canon x ∧ canon x ≤ 9218868437227405312) ∨ (9223372036854775808 < canon x ∧ canon x ≤ 18442240474082181120) := by
  unfold canon; split
  · exact Or.inl rfl
  · split <;> omega

theorem canon_of {y : Int} (h : y = 9221120237041090561 ∨ (0 ≤ y ∧ y ≤ 9218868437227405312) ∨ (9223372036854775808 < y ∧ y ≤ 18442240474082181120)) : canon y = y := by
  unfold canon; split
  · omega
  · rw [if_neg (by omega)]

theorem unrank_rank (x : Int) (h0 : 0 ≤ x) (h1 : x < 18446744073709551616) : unrank (rank x) = canon x := by
  have h := canon_cases x h0 h1
  unfold rank unrank
  split <;> split <;> omega

theorem wordOf_rank (x : Int) (h0 : 0 ≤ x) (h1 : x < 18446744073709551616) : wordOf (rank x) = canon x := by
  unfold wordOf; rw [unrank_rank x h0 h1, canon_canon]; simp

theorem rank_inj (a b : Int) (h0 : 0 ≤ a) (h1 : a < 18446744073709551616) (g0 : 0 ≤ b) (g1 : b < 18446744073709551616) : rank a = rank b ↔ canon a = canon b := by
  constructor
  · intro h; rw [← unrank_rank a h0 h1, h, unrank_rank b g0 g1]
  · intro h; unfold rank; rw [h]

theorem rank_negInf : rank 18442240474082181120 = 4503599627370495 := by decide +kernel
theorem kind_three (a : Int) : kind a = 3 ↔ canon a = 9221120237041090561 := by
  unfold kind
  constructor
  · intro h; split at h <;> (try split at h) <;> (try split at h) <;> (try split at h) <;> first | omega | assumption
  · intro h; rw [h]; decide +kernel

end Go.Proofs.YtmonkcekkhfafaaGreatDoor

/- FltCalls:
  What each function of package flt returns, in whatever world, for words: integers from 0 to less than 2^64 (the one condition). Each call leaves the world alone, but that Sum may draw a NaN's bits.
-/
namespace Go.Proofs.YtmonkcekkhfafaaGreatDoor

theorem ret_u64 {k : IntKind} {a b : Int} (h : a = b) : Ending.returned (.int k a) = .returned (.int k b) := by rw [h]

set_option maxHeartbeats 400000 in
theorem isNaN_any (x : Int) (w : World) (h0 : 0 ≤ x) (h1 : x < 18446744073709551616) :
    Calls Tryz.prog 94 #[.int .u64 x] w fun e w' => e = .returned (.bool (isNan x)) ∧ w = w' := by
  have hb := andNot_sign x h0 h1
  go_enter Tryz.func94, Tryz.ntmps94
  go_wp2
  go_ret
  exact ⟨rfl, rfl⟩

set_option maxHeartbeats 400000 in
theorem canon_any (x : Int) (w : World) (h0 : 0 ≤ x) (h1 : x < 18446744073709551616) :
    Calls Tryz.prog 53 #[.int .u64 x] w fun e w' => e = .returned (.int .u64 (canon x)) ∧ w = w' := by
  by_cases hn : isNan x = true
  · have hc : RowKit.Hid (canon x = 9221120237041090561) := Lib.hid (by simp only [isNan, decide_eq_true_eq] at hn; unfold canon; rw [if_pos hn])
    go_enter Tryz.func53, Tryz.ntmps53
    go_wp2_with (go_at_call 94; with_reducible refine (isNaN_any _ _ (by omega) (by omega)).mono ?_; rintro e w' ⟨rfl, rfl⟩)
    go_ret
    exact ⟨ret_u64 hc.out.symm, rfl⟩
  · have hn' : isNan x = false := by simpa using hn
    by_cases hz : (x == 9223372036854775808) = true
    · have hc : RowKit.Hid (canon x = 0) := Lib.hid (by simp only [isNan, decide_eq_true_eq] at hn; unfold canon; rw [if_neg hn, if_pos (by simpa using hz)])
      clear hn
      go_enter Tryz.func53, Tryz.ntmps53
      go_wp2_with (go_at_call 94; with_reducible refine (isNaN_any _ _ (by omega) (by omega)).mono ?_; rintro e w' ⟨rfl, rfl⟩)
      go_ret
      exact ⟨ret_u64 hc.out.symm, rfl⟩
    · have hz' : (x == 9223372036854775808) = false := by simpa using hz
      have hc : RowKit.Hid (canon x = x) := Lib.hid (by simp only [isNan, decide_eq_true_eq] at hn; unfold canon; rw [if_neg hn, if_neg (by simpa using hz)])
      clear hn hz
      go_enter Tryz.func53, Tryz.ntmps53
      go_wp2_with (go_at_call 94; with_reducible refine (isNaN_any _ _ (by omega) (by omega)).mono ?_; rintro e w' ⟨rfl, rfl⟩)
      go_ret
      exact ⟨ret_u64 hc.out.symm, rfl⟩

set_option maxHeartbeats 400000 in
theorem rank_any (x : Int) (w : World) (h0 : 0 ≤ x) (h1 : x < 18446744073709551616) :
    Calls Tryz.prog 25 #[.int .u64 x] w fun e w' => e = .returned (.int .u64 (rank x)) ∧ w = w' := by
  have c0 := canon_lo x h0
  have c1 := canon_hi x h1
  have ha := and_sign (canon x) c0 c1
  by_cases hs : 9223372036854775808 ≤ canon x
  · rw [if_pos hs] at ha
    have hr : RowKit.Hid (rank x = 18446744073709551615 - canon x) := Lib.hid (by unfold rank; rw [if_pos hs])
    have hn := not_word (canon x) c0 c1
    go_enter Tryz.func25, Tryz.ntmps25
    go_wp2_with (go_at_call 53; with_reducible refine (canon_any _ _ (by omega) (by omega)).mono ?_; rintro e w' ⟨rfl, rfl⟩)
    go_ret
    exact ⟨ret_u64 hr.out.symm, rfl⟩
  · rw [if_neg hs] at ha
    have hr : RowKit.Hid (rank x = canon x + 9223372036854775808) := Lib.hid (by unfold rank; rw [if_neg hs])
    have hn := or_sign (canon x) c0 (by omega)
    go_enter Tryz.func25, Tryz.ntmps25
    go_wp2_with (go_at_call 53; with_reducible refine (canon_any _ _ (by omega) (by omega)).mono ?_; rintro e w' ⟨rfl, rfl⟩)
    go_ret
    exact ⟨ret_u64 hr.out.symm, rfl⟩

theorem rank_lo (x : Int) (h0 : 0 ≤ x) (h1 : x < 18446744073709551616) : 0 ≤ rank x := by
  have c0 := canon_lo x h0
  have c1 := canon_hi x h1
  unfold rank; split <;> omega

theorem rank_hi (x : Int) (h0 : 0 ≤ x) (h1 : x < 18446744073709551616) : rank x < 18446744073709551616 := by
  have c0 := canon_lo x h0
  have c1 := canon_hi x h1
  unfold rank; split <;> omega



theorem unrank_lo (x : Int) (h1 : x < 18446744073709551616) : 0 ≤ unrank x := by unfold unrank; split <;> omega

theorem unrank_hi (x : Int) (h0 : 0 ≤ x) (h1 : x < 18446744073709551616) : unrank x < 18446744073709551616 := by unfold unrank; split <;> omega


theorem ret_pair {k : IntKind} {a b : Int} {p q : Bool} (h : a = b) (g : p = q) : Ending.returned (.tuple #[.int k a, .bool p]) = .returned (.tuple #[.int k b, .bool q]) := by rw [h, g]

set_option maxHeartbeats 400000 in
theorem word_any (r : Int) (w : World) (h0 : 0 ≤ r) (h1 : r < 18446744073709551616) :
    Calls Tryz.prog 110 #[.int .u64 r] w fun e w' => e = .returned (.tuple #[.int .u64 (wordOf r), .bool (wordIs r)]) ∧ w = w' := by
  have u0 := unrank_lo r h1
  have u1 := unrank_hi r h0 h1
  have ha := and_sign r h0 h1
  have hn := not_word r h0 h1
  by_cases hs : 9223372036854775808 ≤ r
  · rw [if_pos hs] at ha
    have hx := xor_sign r h0 h1
    rw [if_pos hs] at hx
    have hu : unrank r = r - 9223372036854775808 := by unfold unrank; rw [if_pos hs]
    have H := Lib.hid hu
    rw [← hu] at hx
    clear hu
    by_cases hc : (canon (unrank r) != unrank r) = true
    · have g : RowKit.Hid (¬ canon (unrank r) = unrank r) := Lib.hid (by simpa using hc)
      go_enter Tryz.func110, Tryz.ntmps110
      go_wp2_with (go_at_call 53; with_reducible refine (canon_any _ _ (by omega) (by omega)).mono ?_; rintro e w' ⟨rfl, rfl⟩)
      go_ret2
      exact ⟨ret_pair (by unfold wordOf; rw [if_neg g.out]) (by unfold wordIs; rw [decide_eq_false g.out]), rfl⟩
    · have hc' : (canon (unrank r) != unrank r) = false := by simpa using hc
      have g : RowKit.Hid (canon (unrank r) = unrank r) := Lib.hid (by simpa using hc)
      clear hc
      go_enter Tryz.func110, Tryz.ntmps110
      go_wp2_with (go_at_call 53; with_reducible refine (canon_any _ _ (by omega) (by omega)).mono ?_; rintro e w' ⟨rfl, rfl⟩)
      go_ret2
      exact ⟨ret_pair (by unfold wordOf; rw [if_pos g.out]) (by unfold wordIs; rw [decide_eq_true g.out]), rfl⟩
  · rw [if_neg hs] at ha
    have hu : unrank r = 18446744073709551615 - r := by unfold unrank; rw [if_neg hs]
    rw [← hu] at hn
    clear hu
    by_cases hc : (canon (unrank r) != unrank r) = true
    · have g : RowKit.Hid (¬ canon (unrank r) = unrank r) := Lib.hid (by simpa using hc)
      go_enter Tryz.func110, Tryz.ntmps110
      go_wp2_with (go_at_call 53; with_reducible refine (canon_any _ _ (by omega) (by omega)).mono ?_; rintro e w' ⟨rfl, rfl⟩)
      go_ret2
      exact ⟨ret_pair (by unfold wordOf; rw [if_neg g.out]) (by unfold wordIs; rw [decide_eq_false g.out]), rfl⟩
    · have hc' : (canon (unrank r) != unrank r) = false := by simpa using hc
      have g : RowKit.Hid (canon (unrank r) = unrank r) := Lib.hid (by simpa using hc)
      clear hc
      go_enter Tryz.func110, Tryz.ntmps110
      go_wp2_with (go_at_call 53; with_reducible refine (canon_any _ _ (by omega) (by omega)).mono ?_; rintro e w' ⟨rfl, rfl⟩)
      go_ret2
      exact ⟨ret_pair (by unfold wordOf; rw [if_pos g.out]) (by unfold wordIs; rw [decide_eq_true g.out]), rfl⟩

end Go.Proofs.YtmonkcekkhfafaaGreatDoor

/- FltSum:
  What flt.Sum returns, in whatever world, for two words from 0 to less than 2^64: Canon of the model's own sum of the two floats; a NaN where there is none. The world is as it was, but that a NaN's bits may have been drawn.
-/
namespace Go.Proofs.YtmonkcekkhfafaaGreatDoor



theorem add_lt (x y : Nat) (r : Nat) (h : Ieee.double.add x y = some r) : r < 18446744073709551616 := Ieee.Format.add_lt Ieee.double h

theorem addWord_lo (x y : Int) : 0 ≤ addWord x y := by unfold addWord; split <;> omega

theorem addWord_hi (x y : Int) : addWord x y < 18446744073709551616 := by
  unfold addWord; split
  · rename_i r h; have := add_lt _ _ _ h; omega
  · omega

theorem sum_lo (x y : Int) : 0 ≤ sumOf x y := canon_lo _ (addWord_lo x y)

theorem sum_hi (x y : Int) : sumOf x y < 18446744073709551616 := canon_hi _ (addWord_hi x y)


end Go.Proofs.YtmonkcekkhfafaaGreatDoor

/- FltRef:
  What the functions of the document's own answer for layer 1 return, but for Sum, in whatever world, for words: integers from 0 to less than 2^64 (the one condition). They tell what flt's tell.
-/
namespace Go.Proofs.YtmonkcekkhfafaaGreatDoor

theorem ret_two {j k : IntKind} {a b c d : Int} (h : a = c) (g : b = d) : Ending.returned (.tuple #[.int j a, .int k b]) = .returned (.tuple #[.int j c, .int k d]) := by rw [h, g]

set_option maxHeartbeats 400000 in
theorem parts_any (x : Int) (w : World) (h0 : 0 ≤ x) (h1 : x < 18446744073709551616) :
    Calls Tryz.prog 127 #[.int .u64 x] w fun e w' => e = .returned (.tuple #[.int .i64 (x % 9223372036854775808 / 4503599627370496), .int .u64 (x % 4503599627370496)]) ∧ w = w' := by
  have d0 : 0 ≤ x / 4503599627370496 := by omega
  have d1 : x / 4503599627370496 < 4096 := by omega
  go_enter Tryz.func127, Tryz.ntmps127
  go_wp2
  go_ret2
  exact ⟨ret_two (by omega) (by omega), rfl⟩

theorem kind_is (x : Int) (h0 : 0 ≤ x) (h1 : x < 18446744073709551616) : kind x =
    if x % 9223372036854775808 / 4503599627370496 = 2047 ∧ x % 4503599627370496 ≠ 0 then 3 else if x % 9223372036854775808 / 4503599627370496 = 2047 then 2
    else if x % 9223372036854775808 / 4503599627370496 = 0 ∧ x % 4503599627370496 = 0 then 0 else 1 := by
  unfold kind canon
  by_cases c : 9218868437227405312 < x % 9223372036854775808
  · rw [if_pos c, if_neg (by omega), if_neg (by omega), if_neg (by omega), if_pos rfl, if_pos (by omega)]
  · rw [if_neg c, if_neg (by omega : ¬ (x % 9223372036854775808 / 4503599627370496 = 2047 ∧ x % 4503599627370496 ≠ 0))]
    by_cases d : x % 9223372036854775808 = 9218868437227405312
    · rw [if_neg (by omega : ¬ x = 9223372036854775808), if_pos (by omega : x % 9223372036854775808 / 4503599627370496 = 2047), if_neg (by omega)]
      by_cases e : x = 9218868437227405312
      · rw [if_pos e]
      · rw [if_neg e, if_pos (by omega)]
    · rw [if_neg (by omega : ¬ x % 9223372036854775808 / 4503599627370496 = 2047)]
      by_cases z : x % 9223372036854775808 = 0
      · rw [if_pos (by omega : x % 9223372036854775808 / 4503599627370496 = 0 ∧ x % 4503599627370496 = 0)]
        by_cases e : x = 9223372036854775808
        · rw [if_pos e, if_pos rfl]
        · rw [if_neg e, if_pos (by omega)]
      · rw [if_neg (by omega : ¬ x = 9223372036854775808), if_neg (by omega), if_neg (by omega), if_neg (by omega), if_neg (by omega), if_neg (by omega)]

set_option maxHeartbeats 400000 in
theorem rkind_any (x : Int) (w : World) (h0 : 0 ≤ x) (h1 : x < 18446744073709551616) :
    Calls Tryz.prog 106 #[.int .u64 x] w fun e w' => e = .returned (.int .i64 (kind x)) ∧ w = w' := by
  have H := Lib.hid (kind_is x h0 h1)
  have p0 : 0 ≤ x % 9223372036854775808 / 4503599627370496 := by omega
  have p1 : x % 9223372036854775808 / 4503599627370496 < 2048 := by omega
  have q0 : 0 ≤ x % 4503599627370496 := by omega
  have q1 : x % 4503599627370496 < 4503599627370496 := by omega
  have P := Lib.hid (parts_any x · h0 h1)
  generalize x % 9223372036854775808 / 4503599627370496 = p at *
  generalize x % 4503599627370496 = q at *
  rcases c1 : (p == 2047) with _ | _ <;> rcases c2 : (q == 0) with _ | _ <;> rcases c3 : (p == 0) with _ | _
  all_goals
    have c4 : (q != 0) = !(q == 0) := rfl
    rw [c2] at c4
    simp only [Bool.not_true, Bool.not_false] at c4
    have c1' : _ := Lib.hid c1
    have c2' : _ := Lib.hid c2
    have c3' : _ := Lib.hid c3
    go_enter Tryz.func106, Tryz.ntmps106
    go_wp2_with (go_at_call 127; with_reducible refine (P.out _).mono ?_; rintro e w' ⟨rfl, rfl⟩)
    go_ret
    refine ⟨ret_u64 ?_, rfl⟩
    have c1 := c1'.out
    have c2 := c2'.out
    have c3 := c3'.out
    simp only [beq_iff_eq, beq_eq_false_iff_ne, ne_eq] at c1 c2 c3
    rw [H.out]
    simp [*]

theorem canon_is (x : Int) (h0 : 0 ≤ x) (h1 : x < 18446744073709551616) : canon x = if kind x = 3 then 9221120237041090561 else if kind x = 0 then 0 else x := by
  rw [kind_is x h0 h1]
  unfold canon
  by_cases c : 9218868437227405312 < x % 9223372036854775808
  · rw [if_pos c, if_pos (by omega : x % 9223372036854775808 / 4503599627370496 = 2047 ∧ x % 4503599627370496 ≠ 0), if_pos rfl]
  · rw [if_neg c, if_neg (by omega : ¬ (x % 9223372036854775808 / 4503599627370496 = 2047 ∧ x % 4503599627370496 ≠ 0))]
    by_cases d : x % 9223372036854775808 = 9218868437227405312
    · rw [if_neg (by omega : ¬ x = 9223372036854775808), if_pos (by omega : x % 9223372036854775808 / 4503599627370496 = 2047), if_neg (by omega), if_neg (by omega)]
    · rw [if_neg (by omega : ¬ x % 9223372036854775808 / 4503599627370496 = 2047)]
      by_cases z : x % 9223372036854775808 = 0
      · rw [if_pos (by omega : x % 9223372036854775808 / 4503599627370496 = 0 ∧ x % 4503599627370496 = 0), if_neg (by omega : ¬ (0 : Int) = 3), if_pos rfl]
        split <;> omega
      · rw [if_neg (by omega : ¬ x = 9223372036854775808), if_neg (by omega : ¬ (x % 9223372036854775808 / 4503599627370496 = 0 ∧ x % 4503599627370496 = 0)), if_neg (by omega), if_neg (by omega)]

set_option maxHeartbeats 400000 in
theorem rcanon_any (x : Int) (w : World) (h0 : 0 ≤ x) (h1 : x < 18446744073709551616) :
    Calls Tryz.prog 65 #[.int .u64 x] w fun e w' => e = .returned (.int .u64 (canon x)) ∧ w = w' := by
  have H := Lib.hid (canon_is x h0 h1)
  rcases c1 : (kind x == 3) with _ | _ <;> rcases c2 : (kind x == 0) with _ | _
  all_goals
    have c1' : _ := Lib.hid c1
    have c2' : _ := Lib.hid c2
    go_enter Tryz.func65, Tryz.ntmps65
    go_wp2_with (go_at_call 106; with_reducible refine (rkind_any _ _ (by omega) (by omega)).mono ?_; rintro e w' ⟨rfl, rfl⟩)
    go_ret
    refine ⟨ret_u64 ?_, rfl⟩
    have c1 := c1'.out
    have c2 := c2'.out
    simp only [beq_iff_eq, beq_eq_false_iff_ne, ne_eq] at c1 c2
    rw [H.out]
    simp [*]

set_option maxHeartbeats 400000 in
theorem rrank_any (x : Int) (w : World) (h0 : 0 ≤ x) (h1 : x < 18446744073709551616) :
    Calls Tryz.prog 70 #[.int .u64 x] w fun e w' => e = .returned (.int .u64 (rank x)) ∧ w = w' := by
  have c0 := canon_lo x h0
  have c1 := canon_hi x h1
  have hn := not_word (canon x) c0 c1
  by_cases hs : 9223372036854775808 ≤ canon x
  · have hr : RowKit.Hid (rank x = 18446744073709551615 - canon x) := Lib.hid (by unfold rank; rw [if_pos hs])
    have hd : (canon x / 9223372036854775808 == 1) = true := by simp only [beq_iff_eq]; omega
    go_enter Tryz.func70, Tryz.ntmps70
    go_wp2_with (go_at_call 65; with_reducible refine (rcanon_any _ _ (by omega) (by omega)).mono ?_; rintro e w' ⟨rfl, rfl⟩)
    go_ret
    exact ⟨ret_u64 hr.out.symm, rfl⟩
  · have hr : RowKit.Hid (rank x = canon x + 9223372036854775808) := Lib.hid (by unfold rank; rw [if_neg hs])
    have hd : (canon x / 9223372036854775808 == 1) = false := by simp only [beq_eq_false_iff_ne, ne_eq]; omega
    go_enter Tryz.func70, Tryz.ntmps70
    go_wp2_with (go_at_call 65; with_reducible refine (rcanon_any _ _ (by omega) (by omega)).mono ?_; rintro e w' ⟨rfl, rfl⟩)
    go_ret
    exact ⟨ret_u64 hr.out.symm, rfl⟩

set_option maxHeartbeats 400000 in
theorem rless_any (x y : Int) (w : World) (h0 : 0 ≤ x) (h1 : x < 18446744073709551616) (g0 : 0 ≤ y) (g1 : y < 18446744073709551616) :
    Calls Tryz.prog 120 #[.int .u64 x, .int .u64 y] w fun e w' => e = .returned (.bool (less x y)) ∧ w = w' := by
  go_enter Tryz.func120, Tryz.ntmps120
  go_wp2_with (go_at_call 70; with_reducible refine (rrank_any _ _ (by omega) (by omega)).mono ?_; rintro e w' ⟨rfl, rfl⟩)
  go_ret
  exact ⟨rfl, rfl⟩

set_option maxHeartbeats 400000 in
theorem rmax_any (x y : Int) (w : World) (h0 : 0 ≤ x) (h1 : x < 18446744073709551616) (g0 : 0 ≤ y) (g1 : y < 18446744073709551616) :
    Calls Tryz.prog 98 #[.int .u64 x, .int .u64 y] w fun e w' => e = .returned (.int .u64 (maxOf x y)) ∧ w = w' := by
  by_cases hl : less x y = true
  · have hr : RowKit.Hid (maxOf x y = canon y) := Lib.hid (by simp only [less, decide_eq_true_eq] at hl; unfold maxOf; rw [if_pos hl])
    go_enter Tryz.func98, Tryz.ntmps98
    go_wp2_with (first | (go_at_call 120; with_reducible refine (rless_any _ _ _ (by omega) (by omega) (by omega) (by omega)).mono ?_; rintro e w' ⟨rfl, rfl⟩) | (go_at_call 65; with_reducible refine (rcanon_any _ _ (by omega) (by omega)).mono ?_; rintro e w' ⟨rfl, rfl⟩))
    go_ret
    exact ⟨ret_u64 hr.out.symm, rfl⟩
  · have hr : RowKit.Hid (maxOf x y = canon x) := Lib.hid (by simp only [less, decide_eq_true_eq] at hl; unfold maxOf; rw [if_neg hl])
    have hl' : less x y = false := by simpa using hl
    clear hl
    go_enter Tryz.func98, Tryz.ntmps98
    go_wp2_with (first | (go_at_call 120; with_reducible refine (rless_any _ _ _ (by omega) (by omega) (by omega) (by omega)).mono ?_; rintro e w' ⟨rfl, rfl⟩) | (go_at_call 65; with_reducible refine (rcanon_any _ _ (by omega) (by omega)).mono ?_; rintro e w' ⟨rfl, rfl⟩))
    go_ret
    exact ⟨ret_u64 hr.out.symm, rfl⟩

end Go.Proofs.YtmonkcekkhfafaaGreatDoor

/- FltRound:
  How the model rounds, over whole numbers: the rung of a number of least units, rounded to the nearest and to the even one of two; that it takes each rung's number back to the rung. No condition on sizes.
-/
namespace Go.Proofs.YtmonkcekkhfafaaGreatDoor

/-- V over 2 to the L, to the nearest, to the even one of two. -/
def rne (V L : Nat) : Nat := V / 2 ^ L + (if 2 ^ L < 2 * (V % 2 ^ L) ∨ (2 ^ L = 2 * (V % 2 ^ L) ∧ V / 2 ^ L % 2 = 1) then 1 else 0)

theorem cut_rne (neg : Bool) (n d : Nat) (h : d ≤ n.log2 + 2) : Ieee.Toward.even.cut neg n d = rne n d := by
  unfold Ieee.Toward.cut rne
  rw [Nat.min_eq_left h, Nat.one_shiftLeft]
  by_cases c : 2 ^ d < 2 * (n % 2 ^ d) ∨ (2 ^ d = 2 * (n % 2 ^ d) ∧ n / 2 ^ d % 2 = 1)
  · rw [if_pos c]
    rcases c with c | ⟨c, e⟩
    · simp [c]
    · simp [← c, e]
  · rw [if_neg c]
    have c1 : ¬ 2 ^ d < 2 * (n % 2 ^ d) := fun h => c (Or.inl h)
    have c2 : ¬ (2 ^ d = 2 * (n % 2 ^ d) ∧ n / 2 ^ d % 2 = 1) := fun h => c (Or.inr h)
    have c3 : ((2 ^ d == 2 * (n % 2 ^ d)) && (n / 2 ^ d % 2 == 1)) = false := by
      rw [Bool.eq_false_iff]; intro h; simp only [Bool.and_eq_true, beq_iff_eq] at h; exact c2 h
    simp only [c1, c3]; simp

theorem rne_zero (V : Nat) : rne V 0 = V := by simp [rne, Nat.mod_one]

theorem rne_scale (m L k : Nat) : rne (m * 2 ^ k) (L + k) = rne m L := by
  have hk : 0 < 2 ^ k := Nat.two_pow_pos k
  have e1 : m * 2 ^ k / 2 ^ (L + k) = m / 2 ^ L := by rw [Nat.pow_add, Nat.mul_div_mul_right _ _ hk]
  have e2 : m * 2 ^ k % 2 ^ (L + k) = m % 2 ^ L * 2 ^ k := by rw [Nat.pow_add, Nat.mul_mod_mul_right]
  unfold rne
  rw [e1, e2, Nat.pow_add]
  have a : (2 ^ L * 2 ^ k < 2 * (m % 2 ^ L * 2 ^ k)) ↔ (2 ^ L < 2 * (m % 2 ^ L)) := by
    rw [← Nat.mul_assoc]; exact Nat.mul_lt_mul_right hk
  have b : (2 ^ L * 2 ^ k = 2 * (m % 2 ^ L * 2 ^ k)) ↔ (2 ^ L = 2 * (m % 2 ^ L)) := by
    rw [← Nat.mul_assoc]; exact Nat.mul_left_inj (by omega)
  simp only [a, b]

theorem rne_exact (m L : Nat) : rne (m * 2 ^ L) L = m := by
  have := rne_scale m 0 L
  rw [Nat.zero_add, rne_zero] at this
  exact this

/-- The rung of a number of least units, without a greatest one. -/
def rungOf (V : Nat) : Nat := (V.log2 - 52) * 2 ^ 52 + rne V (V.log2 - 52)

theorem log2_mul_pow (m k : Nat) (h : m ≠ 0) : (m * 2 ^ k).log2 = m.log2 + k := by
  have h2 : m * 2 ^ k ≠ 0 := Nat.mul_ne_zero h (by have := Nat.two_pow_pos k; omega)
  rw [Nat.log2_eq_iff h2]
  have l := Nat.log2_self_le h
  have u := @Nat.lt_log2_self m
  constructor
  · rw [Nat.pow_add]; exact Nat.mul_le_mul_right _ l
  · rw [show m.log2 + k + 1 = (m.log2 + 1) + k from by omega, Nat.pow_add]
    exact Nat.mul_lt_mul_of_pos_right u (Nat.two_pow_pos k)

theorem leastPlace_double : Ieee.double.leastPlace = -1074 := by decide

theorem nearest_rung (neg : Bool) (m k : Nat) :
    Ieee.double.nearest neg m (-1074 + (k : Int)) = Ieee.double.word neg (min (rungOf (m * 2 ^ k)) 9218868437227405312) := by
  unfold Ieee.Format.nearest
  by_cases h : m = 0
  · subst h; simp [rungOf, rne]
  · rw [if_neg h, leastPlace_double]
    have hf : (Ieee.double.fractionBits : Int) = 52 := rfl
    have hb : Ieee.double.binade = 2 ^ 52 := rfl
    have hi : Ieee.double.infRung = 9218868437227405312 := by decide
    rw [hf, hb, hi]
    simp only
    have hl := log2_mul_pow m k h
    have e1 : (max ((-1074 : Int) + k + m.log2 - 52) (-1074) - -1074).toNat = m.log2 + k - 52 := by omega
    have e2 : ((-1074 : Int) + k - max ((-1074 : Int) + k + m.log2 - 52) (-1074)).toNat = k - (m.log2 + k - 52) := by omega
    have e3 : (max ((-1074 : Int) + k + m.log2 - 52) (-1074) - ((-1074 : Int) + k)).toNat = (m.log2 + k - 52) - k := by omega
    rw [e1, e2, e3, Nat.shiftLeft_eq]
    suffices key : Ieee.Toward.even.cut neg (m * 2 ^ (k - (m.log2 + k - 52))) (m.log2 + k - 52 - k) = rne (m * 2 ^ k) (m.log2 + k - 52) by
      rw [key]; unfold rungOf; rw [hl]
    by_cases c : m.log2 + k - 52 ≤ k
    · obtain ⟨d, hd⟩ : ∃ d, k = d + (m.log2 + k - 52) := ⟨k - (m.log2 + k - 52), by omega⟩
      generalize m.log2 + k - 52 = L at *
      rw [show L - k = 0 from by omega, cut_rne _ _ _ (by omega), rne_zero, hd, show d + L - L = d from by omega, Nat.pow_add, ← Nat.mul_assoc, rne_exact]
    · rw [show k - (m.log2 + k - 52) = 0 from by omega, Nat.pow_zero, Nat.mul_one]
      rw [cut_rne _ _ _ (by omega)]
      have s := rne_scale m (m.log2 + k - 52 - k) k
      rw [show m.log2 + k - 52 - k + k = m.log2 + k - 52 from by omega] at s
      exact s.symm

/-- The number of least units that a rung stands for. -/
def magOf (g : Nat) : Nat := if g < 2 ^ 52 then g else (2 ^ 52 + g % 2 ^ 52) * 2 ^ (g / 2 ^ 52 - 1)

theorem log2_small (m : Nat) (h1 : 2 ^ 52 ≤ m) (h2 : m < 2 ^ 53) : m.log2 = 52 := (Nat.log2_eq_iff (by omega)).2 ⟨h1, h2⟩

theorem log2_lt (m k : Nat) (h : m < 2 ^ (k + 1)) : m.log2 ≤ k := by
  by_cases z : m = 0
  · subst z; simp
  · have := (Nat.log2_lt z).2 h; omega

theorem rung_mag (g : Nat) : rungOf (magOf g) = g := by
  unfold magOf
  split
  · rename_i h
    have l : g.log2 ≤ 51 := log2_lt g 51 h
    unfold rungOf
    rw [show g.log2 - 52 = 0 from by omega, rne_zero]; omega
  · rename_i h
    have hm : 2 ^ 52 ≤ 2 ^ 52 + g % 2 ^ 52 := by omega
    have hm2 : 2 ^ 52 + g % 2 ^ 52 < 2 ^ 53 := by omega
    have l := log2_small _ hm hm2
    unfold rungOf
    rw [log2_mul_pow _ _ (by omega), l, show 52 + (g / 2 ^ 52 - 1) - 52 = g / 2 ^ 52 - 1 from by omega, rne_exact]
    omega

theorem rung_pos (V : Nat) (h : V ≠ 0) : rungOf V ≠ 0 := by
  unfold rungOf
  by_cases c : V.log2 ≤ 52
  · rw [show V.log2 - 52 = 0 from by omega, rne_zero]; omega
  · have : 1 ≤ V.log2 - 52 := by omega
    have : 2 ^ 52 ≤ (V.log2 - 52) * 2 ^ 52 := Nat.le_mul_of_pos_left _ this
    omega

theorem rung_zero : rungOf 0 = 0 := by decide

end Go.Proofs.YtmonkcekkhfafaaGreatDoor

/- FltJam:
  Numbers shifted to the right with the last bit kept: set if any bit is lost. Rounded in eighths they are rounded as the numbers themselves. No condition but those that each fact names.
-/
namespace Go.Proofs.YtmonkcekkhfafaaGreatDoor

/-- T, d bits lower, the last bit being set if any bit is lost. -/
def jam (T d : Nat) : Nat := 2 * (T / 2 ^ (d + 1)) + (if T % 2 ^ (d + 1) = 0 then 0 else 1)

def jam1 (s : Nat) : Nat := 2 * (s / 4) + (if s % 4 = 0 then 0 else 1)

theorem jam_zero (T : Nat) : jam T 0 = T := by
  unfold jam
  rw [show 2 ^ (0 + 1) = 2 from rfl]
  split <;> omega

/-- T over P times c, and what is left. -/
theorem div_more (T P c : Nat) : T / (P * c) = T / P / c := (Nat.div_div_eq_div_mul T P c).symm

theorem jam_succ (T d : Nat) : jam T (d + 1) = jam1 (jam T d) := by
  unfold jam jam1
  rw [show d + 1 + 1 = (d + 1) + 1 from rfl, Nat.pow_succ 2 (d + 1)]
  have hp := Nat.two_pow_pos (d + 1)
  generalize 2 ^ (d + 1) = P at hp ⊢
  rw [div_more, Nat.mod_mul]
  have hr := Nat.mod_lt T hp
  generalize T / P = q
  generalize T % P = r at hr ⊢
  have h2 : q % 2 = 0 ∨ q % 2 = 1 := by omega
  rcases h2 with h | h <;> rw [h] <;> by_cases z : r = 0
  · subst z; simp; split <;> omega
  · rw [if_neg (by omega), if_neg z, if_neg (by omega)]; omega
  · rw [if_neg (by omega), if_pos z, if_neg (by omega)]; omega
  · rw [if_neg (by omega), if_neg z, if_neg (by omega)]; omega

theorem jam_scale (T d k : Nat) : jam (T * 2 ^ k) (d + k) = jam T d := by
  have hk := Nat.two_pow_pos k
  unfold jam
  rw [show d + k + 1 = (d + 1) + k from by omega, Nat.pow_add, Nat.mul_div_mul_right _ _ hk, Nat.mul_mod_mul_right]
  congr 1
  by_cases z : T % 2 ^ (d + 1) = 0
  · rw [z]; simp
  · rw [if_neg z, if_neg (Nat.mul_ne_zero z (by omega))]

theorem jam_exact (T d : Nat) : jam (T * 2 ^ d) d = T := by
  have := jam_scale T 0 d
  rw [Nat.zero_add, jam_zero] at this; exact this

theorem jam_add (m T d : Nat) : jam (2 * m * 2 ^ d + T) d = 2 * m + jam T d := by
  unfold jam
  have e : 2 * m * 2 ^ d = 2 ^ (d + 1) * m := by rw [Nat.pow_succ, Nat.mul_comm 2 m, Nat.mul_assoc, Nat.mul_comm 2, Nat.mul_comm]
  rw [e]
  have hp := Nat.two_pow_pos (d + 1)
  generalize 2 ^ (d + 1) = P at hp ⊢
  rw [Nat.mul_add_div hp, Nat.mul_add_mod]
  omega

theorem jam_sub (m T d : Nat) (h : T ≤ 2 * m * 2 ^ d) : jam (2 * m * 2 ^ d - T) d = 2 * m - jam T d := by
  unfold jam
  have e : 2 * m * 2 ^ d = 2 ^ (d + 1) * m := by rw [Nat.pow_succ, Nat.mul_comm 2 m, Nat.mul_assoc, Nat.mul_comm 2, Nat.mul_comm]
  rw [e] at h ⊢
  have hp := Nat.two_pow_pos (d + 1)
  generalize 2 ^ (d + 1) = P at hp h ⊢
  have dm := Nat.div_add_mod T P
  have hr := Nat.mod_lt T hp
  generalize T / P = q at dm ⊢
  generalize T % P = r at dm hr ⊢
  subst dm
  by_cases z : r = 0
  · subst z
    rw [Nat.add_zero, ← Nat.mul_sub, Nat.mul_div_cancel_left _ hp, Nat.mul_mod_right]
    simp; omega
  · have hq : q < m := by
      rcases Nat.lt_or_ge q m with c | c
      · exact c
      · have := Nat.mul_le_mul_left P c; omega
    obtain ⟨t, ht⟩ : ∃ t, m = q + 1 + t := ⟨m - (q + 1), by omega⟩
    have e2 : P * m - (P * q + r) = P * t + (P - r) := by
      subst ht
      rw [Nat.mul_add, Nat.mul_add, Nat.mul_one]
      generalize P * q = A
      generalize P * t = B
      omega
    rw [e2, Nat.mul_add_div hp, Nat.mul_add_mod, Nat.div_eq_of_lt (by omega), Nat.mod_eq_of_lt (by omega), if_neg (by omega), if_neg z]
    omega

theorem jam_lt_iff (T d b : Nat) : jam T d < 2 * b ↔ T < 2 * b * 2 ^ d := by
  have e : 2 * b * 2 ^ d = b * 2 ^ (d + 1) := by rw [Nat.pow_succ, Nat.mul_comm 2 b, Nat.mul_assoc, Nat.mul_comm 2]
  rw [e, ← Nat.div_lt_iff_lt_mul (Nat.two_pow_pos (d + 1))]
  unfold jam
  split <;> omega

theorem jam_eq_zero (T d : Nat) : jam T d = 0 ↔ T = 0 := by
  constructor
  · intro h
    have a := jam_lt_iff T d 1
    unfold jam at h
    have dm := Nat.div_add_mod T (2 ^ (d + 1))
    split at h
    · rename_i z
      have q : T / 2 ^ (d + 1) = 0 := by omega
      rw [q, z] at dm; omega
    · omega
  · intro h; subst h; simp [jam]

theorem rne_jam (T d : Nat) : rne (jam T d) 3 = rne T (d + 3) := by
  unfold rne
  rw [show d + 3 = (d + 1) + 2 from by omega, Nat.pow_add 2 (d + 1) 2]
  unfold jam
  have hp := Nat.two_pow_pos (d + 1)
  generalize 2 ^ (d + 1) = P at hp ⊢
  rw [show 2 ^ 2 = 4 from rfl, show 2 ^ 3 = 8 from rfl, div_more, Nat.mod_mul]
  have hr := Nat.mod_lt T hp
  generalize T / P = q
  generalize T % P = r at hr ⊢
  by_cases z : r = 0
  · rw [if_pos z]
    have h4 : q % 4 = 0 ∨ q % 4 = 1 ∨ q % 4 = 2 ∨ q % 4 = 3 := by omega
    rcases h4 with h | h | h | h <;> rw [h] <;> split <;> split <;> omega
  · rw [if_neg z]
    have h4 : q % 4 = 0 ∨ q % 4 = 1 ∨ q % 4 = 2 ∨ q % 4 = 3 := by omega
    rcases h4 with h | h | h | h <;> rw [h] <;> split <;> split <;> omega

theorem rne_jam2 (T d : Nat) : rne (2 * jam T (d + 1)) 3 = rne T (d + 3) := by
  unfold rne
  rw [show d + 3 = (d + 1 + 1) + 1 from by omega, Nat.pow_add 2 (d + 1 + 1) 1]
  unfold jam
  have hp := Nat.two_pow_pos (d + 1 + 1)
  generalize 2 ^ (d + 1 + 1) = P at hp ⊢
  rw [show 2 ^ 1 = 2 from rfl, show 2 ^ 3 = 8 from rfl, div_more, Nat.mod_mul]
  have hr := Nat.mod_lt T hp
  generalize T / P = q
  generalize T % P = r at hr ⊢
  by_cases z : r = 0
  · rw [if_pos z]
    have h4 : q % 2 = 0 ∨ q % 2 = 1 := by omega
    rcases h4 with h | h <;> rw [h] <;> split <;> split <;> omega
  · rw [if_neg z]
    have h4 : q % 2 = 0 ∨ q % 2 = 1 := by omega
    rcases h4 with h | h <;> rw [h] <;> split <;> split <;> omega

/-- What is exact may be doubled. -/
theorem jam_double (U d : Nat) (h : U % 2 ^ (d + 1) = 0) : 2 * jam U (d + 1) = jam U d := by
  obtain ⟨T, rfl⟩ := Nat.dvd_of_mod_eq_zero h
  rw [Nat.mul_comm (2 ^ (d + 1)) T, jam_exact, Nat.pow_succ, Nat.mul_comm (2 ^ d) 2, ← Nat.mul_assoc, jam_exact]; omega

theorem mod_pow_le (U d : Nat) (h : U % 2 ^ (d + 1) = 0) : U % 2 ^ d = 0 := by
  rw [Nat.pow_succ] at h
  exact Nat.mod_eq_zero_of_dvd (Nat.dvd_trans (Nat.dvd_mul_right _ _) (Nat.dvd_of_mod_eq_zero h))

/-- What made leaves: a number in eighths, and its exponent, as normal as may be. -/
theorem made_rung (V s e : Nat) (he : 1 ≤ e) (hs : s = jam (8 * V) (e - 1) ∨ s = 2 * jam (8 * V) e) (hlt : s < 72057594037927936) (hn : 36028797018963968 ≤ s ∨ e = 1) :
    rungOf V = (e - 1) * 2 ^ 52 + rne s 3 := by
  obtain ⟨k, rfl⟩ : ∃ k, e = k + 1 := ⟨e - 1, by omega⟩
  rw [Nat.add_sub_cancel] at hs ⊢
  have r8 : rne V k = rne (8 * V) (k + 3) := by
    have := rne_scale V k 3
    rw [show V * 2 ^ 3 = 8 * V from by omega] at this
    exact this.symm
  have hr : rne s 3 = rne V k := by
    rw [r8]
    rcases hs with hs | hs
    · rw [hs, rne_jam]
    · rw [hs, rne_jam2]
  have up : V < 2 ^ (53 + k) := by
    rcases hs with hs | hs
    · have := (jam_lt_iff (8 * V) k 36028797018963968).1 (by omega)
      rw [Nat.pow_add]; omega
    · have := (jam_lt_iff (8 * V) (k + 1) 18014398509481984).1 (by omega)
      rw [Nat.pow_succ] at this
      rw [Nat.pow_add]; omega
  have lo : 36028797018963968 ≤ s → 2 ^ (52 + k) ≤ V := by
    intro h
    rcases hs with hs | hs
    · have := jam_lt_iff (8 * V) k 18014398509481984
      rw [Nat.pow_add]; omega
    · have := jam_lt_iff (8 * V) (k + 1) 9007199254740992
      rw [Nat.pow_succ] at this
      rw [Nat.pow_add]; omega
  have l : V.log2 - 52 = k := by
    rcases hn with hn | hn
    · have h2 := lo hn
      have := (Nat.log2_eq_iff (by have := Nat.two_pow_pos (52 + k); omega) (k := 52 + k)).2 ⟨h2, by rw [show 52 + k + 1 = 53 + k from by omega]; exact up⟩
      omega
    · have := log2_lt V (52 + k) (by rw [show 52 + k + 1 = 53 + k from by omega]; exact up)
      omega
  unfold rungOf
  rw [l, hr]

end Go.Proofs.YtmonkcekkhfafaaGreatDoor

