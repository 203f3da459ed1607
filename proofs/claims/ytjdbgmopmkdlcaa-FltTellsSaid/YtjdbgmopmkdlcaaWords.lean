/-
  What the functions of package flt tell of words, as plain functions of integers. No condition: definitions, and facts on them for integers from 0 to less than 2^64.
-/
import Derived.WalkKit
namespace Go.Proofs.Ytjdbgmopmkdlcaa

/-- Canon, of an integer that is a word. -/
def canon (x : Int) : Int := if 9218868437227405312 < x % 9223372036854775808 then 9221120237041090561 else if x = 9223372036854775808 then 0 else x

def isNan (x : Int) : Bool := decide (9218868437227405312 < x % 9223372036854775808)

def kind (x : Int) : Int := if canon x = 0 then 0 else if canon x = 9218868437227405312 then 2 else if canon x = 18442240474082181120 then 2 else if canon x = 9221120237041090561 then 3 else 1

def rank (x : Int) : Int := if 9223372036854775808 ≤ canon x then 18446744073709551615 - canon x else canon x + 9223372036854775808

def unrank (r : Int) : Int := if 9223372036854775808 ≤ r then r - 9223372036854775808 else 18446744073709551615 - r

def wordIs (r : Int) : Bool := decide (canon (unrank r) = unrank r)

def wordOf (r : Int) : Int := if canon (unrank r) = unrank r then unrank r else 0

def less (x y : Int) : Bool := decide (rank x < rank y)

def maxOf (x y : Int) : Int := if rank x < rank y then canon y else canon x

/-- The word of the sum as the model adds; a NaN where it has none. -/
def addWord (x y : Int) : Int := match Ieee.double.add x.toNat y.toNat with
  | some r => (r : Int)
  | none => 9221120237041090561

def sumOf (x y : Int) : Int := canon (addWord x y)

theorem andNot_sign (x : Int) (h0 : 0 ≤ x) (h1 : x < 18446744073709551616) : bits .andNot .u64 x 9223372036854775808 = x % 9223372036854775808 := by
  rw [u64_andNot x _ h0 h1 (by omega) (by omega)]
  obtain ⟨X, rfl⟩ := Int.eq_ofNat_of_zero_le h0
  have e : (X &&& 9223372036854775807) = X % 9223372036854775808 := Nat.and_two_pow_sub_one_eq_mod X 63
  simp only [Int.toNat_natCast]
  have e2 : (18446744073709551615 - (9223372036854775808 : Int).toNat) = 9223372036854775807 := by decide
  rw [e2, e]
  omega

theorem and_sign (x : Int) (h0 : 0 ≤ x) (h1 : x < 18446744073709551616) : bits .and .u64 x 9223372036854775808 = if 9223372036854775808 ≤ x then 9223372036854775808 else 0 := by
  rw [u64_and x _ h0 h1 (by omega) (by omega)]
  obtain ⟨X, rfl⟩ := Int.eq_ofNat_of_zero_le h0
  simp only [Int.toNat_natCast]
  have e2 : (9223372036854775808 : Int).toNat = 9223372036854775808 := by decide
  rw [e2, nat_bit63]
  split <;> omega

theorem or_sign (x : Int) (h0 : 0 ≤ x) (h1 : x < 9223372036854775808) : bits .or .u64 x 9223372036854775808 = x + 9223372036854775808 := by
  rw [u64_or x _ h0 (by omega) (by omega) (by omega)]
  obtain ⟨X, rfl⟩ := Int.eq_ofNat_of_zero_le h0
  have e2 : (9223372036854775808 : Int).toNat = 9223372036854775808 := by decide
  simp only [Int.toNat_natCast]
  rw [e2, nat_join63' 9223372036854775808 X (by omega) (by omega)]
  omega

theorem xor_sign_nat (X : Nat) (h : X < 18446744073709551616) : X ^^^ 9223372036854775808 = if 9223372036854775808 ≤ X then X - 9223372036854775808 else X + 9223372036854775808 := by
  have m : (X ^^^ 2 ^ 63) % 2 ^ 63 = X % 2 ^ 63 := by rw [Nat.xor_mod_two_pow]; simp
  have d : (X ^^^ 2 ^ 63) / 2 ^ 63 = X / 2 ^ 63 ^^^ 1 := by rw [Nat.xor_div_two_pow]
  have c : X / 2 ^ 63 = 0 ∨ X / 2 ^ 63 = 1 := by omega
  rw [show (9223372036854775808 : Nat) = 2 ^ 63 from rfl]
  generalize X ^^^ 2 ^ 63 = Y at m d ⊢
  rcases c with c | c <;> rw [c] at d <;> simp at d <;> split <;> omega

theorem xor_sign (x : Int) (h0 : 0 ≤ x) (h1 : x < 18446744073709551616) : bits .xor .u64 x 9223372036854775808 = if 9223372036854775808 ≤ x then x - 9223372036854775808 else x + 9223372036854775808 := by
  obtain ⟨X, rfl⟩ := Int.eq_ofNat_of_zero_le h0
  rw [show bits .xor .u64 (X : Int) 9223372036854775808 = _ from bits_xor_u64_nat X 9223372036854775808 (by omega) (by omega), xor_sign_nat X (by omega)]
  split <;> split <;> omega

theorem not_word (x : Int) (h0 : 0 ≤ x) (h1 : x < 18446744073709551616) : bits .xor .u64 IntKind.u64.max x = 18446744073709551615 - x := by
  rw [show IntKind.u64.max = 18446744073709551615 from rfl]
  obtain ⟨X, rfl⟩ := Int.eq_ofNat_of_zero_le h0
  rw [show bits .xor .u64 18446744073709551615 (X : Int) = _ from bits_xor_u64_nat 18446744073709551615 X (by omega) (by omega)]
  have e : (BitVec.allOnes 64 ^^^ BitVec.ofNat 64 X).toNat = 18446744073709551615 - X := by
    rw [BitVec.allOnes_xor, BitVec.toNat_not, BitVec.toNat_ofNat, Nat.mod_eq_of_lt (by omega)]
  rw [BitVec.toNat_xor, BitVec.toNat_ofNat, Nat.mod_eq_of_lt (by omega : X < 2 ^ 64)] at e
  have e2 : (BitVec.allOnes 64).toNat = 18446744073709551615 := rfl
  rw [e2] at e
  omega

theorem canon_lo (x : Int) (h0 : 0 ≤ x) : 0 ≤ canon x := by
  unfold canon
  split <;> (try split) <;> omega

theorem canon_hi (x : Int) (h1 : x < 18446744073709551616) : canon x < 18446744073709551616 := by
  unfold canon
  split <;> (try split) <;> omega

theorem canon_canon (x : Int) : canon (canon x) = canon x := by
  unfold canon
  split
  · simp
  · split
    · simp
    · rfl

end Go.Proofs.Ytjdbgmopmkdlcaa
