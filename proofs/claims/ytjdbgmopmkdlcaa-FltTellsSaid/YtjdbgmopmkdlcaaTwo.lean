/-
  Twice a float; floats' order and that of the whole numbers for which they stand; a float and its opposite. For words from 0 to less than 2^64 (the one condition).
-/
import Derived.Test.YtjdbgmopmkdlcaaAdd
namespace Go.Proofs.Ytjdbgmopmkdlcaa

theorem double_mag (g : Nat) (h : 2 ^ 52 ≤ g) : 2 * magOf g = magOf (g + 2 ^ 52) := by
  unfold magOf
  rw [if_neg (by omega), if_neg (by omega)]
  have e1 : (g + 2 ^ 52) % 2 ^ 52 = g % 2 ^ 52 := Nat.add_mod_right _ _
  have e2 : (g + 2 ^ 52) / 2 ^ 52 - 1 = (g / 2 ^ 52 - 1) + 1 := by omega
  rw [e1, e2, Nat.pow_succ 2 (g / 2 ^ 52 - 1)]
  generalize 2 ^ (g / 2 ^ 52 - 1) = P
  generalize 2 ^ 52 + g % 2 ^ 52 = M
  rw [Nat.mul_comm 2, Nat.mul_assoc]

theorem double_small (g : Nat) (h : g < 2 ^ 52) : 2 * magOf g = magOf (2 * g) := by
  unfold magOf
  rw [if_pos h]
  by_cases c : 2 * g < 2 ^ 52
  · rw [if_pos c]
  · rw [if_neg c]
    have e1 : (2 * g) / 2 ^ 52 - 1 = 0 := by omega
    rw [e1]; omega

theorem natAbs_sval (x : Int) : (sval x).natAbs = magOf (x % 9223372036854775808).toNat := by
  unfold sval; split <;> simp

theorem sval_neg (x : Int) (h0 : 0 ≤ x) (h1 : x < 18446744073709551616) (hp : 0 < magOf (x % 9223372036854775808).toNat) : sval x < 0 ↔ 9223372036854775808 ≤ x := by
  unfold sval; split <;> omega

theorem mag_zero : magOf 0 = 0 := by decide +kernel

theorem mag_pos (g : Nat) (h : 0 < g) : 0 < magOf g := by
  rcases Nat.eq_zero_or_pos (magOf g) with e | e
  · have := rung_mag g
    rw [e, rung_zero] at this; omega
  · exact e

theorem sum_self (a : Int) (a0 : 0 ≤ a) (a1 : a < 18446744073709551616) (h : a % 9223372036854775808 < 9218868437227405312) :
    sumOf a a = (if 9223372036854775808 ≤ a ∧ 0 < a % 9223372036854775808 then 9223372036854775808 else 0) + ((min (rungOf (2 * magOf (a % 9223372036854775808).toNat)) 9218868437227405312 : Nat) : Int) := by
  rw [sumOf_finite a a a0 a1 h a0 a1 h]
  have e : (sval a + sval a).natAbs = 2 * magOf (a % 9223372036854775808).toNat := by rw [← natAbs_sval]; omega
  rw [e]
  have c : (sval a + sval a < 0) ↔ (9223372036854775808 ≤ a ∧ 0 < a % 9223372036854775808) := by
    rcases Int.lt_or_le 0 (a % 9223372036854775808) with z | z
    · have hp := mag_pos (a % 9223372036854775808).toNat (by omega)
      have := sval_neg a a0 a1 hp
      omega
    · have z' : (a % 9223372036854775808).toNat = 0 := by omega
      unfold sval; rw [z', mag_zero]; constructor
      · intro hh; split at hh <;> simp at hh
      · intro hh; omega
  simp only [c]

theorem twice_all (a : Int) (a0 : 0 ≤ a) (a1 : a < 18446744073709551616) :
    (9218868437227405312 < a % 9223372036854775808 → sumOf a a = 9221120237041090561) ∧
    (a % 9223372036854775808 ≤ 9218868437227405312 → 9214364837600034816 ≤ a % 9223372036854775808 → sumOf a a = a / 9223372036854775808 * 9223372036854775808 + 9218868437227405312) ∧
    (a % 9223372036854775808 = 0 → sumOf a a = 0) ∧
    (0 < a % 9223372036854775808 → a % 9223372036854775808 < 4503599627370496 → sumOf a a = a / 9223372036854775808 * 9223372036854775808 + 2 * (a % 9223372036854775808)) ∧
    (4503599627370496 ≤ a % 9223372036854775808 → a % 9223372036854775808 < 9214364837600034816 → sumOf a a = a + 4503599627370496) := by
  refine ⟨fun h => sumOf_nan_left a a a0 h, fun h g => ?_, fun h => ?_, fun h g => ?_, fun h g => ?_⟩
  · by_cases c : a % 9223372036854775808 = 9218868437227405312
    · rw [sumOf_inf_both a a a0 a1 c a0 a1 c, if_pos rfl]; omega
    · rw [sum_self a a0 a1 (by omega), double_mag _ (by omega), rung_mag]
      split <;> omega
  · rw [sum_self a a0 a1 (by omega)]
    have z' : (a % 9223372036854775808).toNat = 0 := by omega
    rw [z', mag_zero, Nat.mul_zero, rung_zero, if_neg (by omega)]; rfl
  · rw [sum_self a a0 a1 (by omega), double_small _ (by omega), rung_mag]
    split <;> omega
  · rw [sum_self a a0 a1 (by omega), double_mag _ (by omega), rung_mag]
    split <;> omega

end Go.Proofs.Ytjdbgmopmkdlcaa
