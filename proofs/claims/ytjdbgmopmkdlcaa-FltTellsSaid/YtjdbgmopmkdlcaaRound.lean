/-
  How the model rounds, over whole numbers: the rung of a number of least units, rounded to the nearest and to the even one of two; that it takes each rung's number back to the rung. No condition on sizes.
-/
import Ieee.Arith
namespace Go.Proofs.Ytjdbgmopmkdlcaa

/-- V over 2 to the L, to the nearest, to the even one of two. -/
def rne (V L : Nat) : Nat := V / 2 ^ L + (if 2 ^ L < 2 * (V % 2 ^ L) ∨ (2 ^ L = 2 * (V % 2 ^ L) ∧ V / 2 ^ L % 2 = 1) then 1 else 0)

theorem cut_rne (neg : Bool) (n d : Nat) (h : d ≤ n.log2 + 2) : Ieee.Toward.even.cut neg n d = rne n d := by
  unfold Ieee.Toward.cut rne
  rw [Nat.min_eq_left h, Nat.one_shiftLeft]
  by_cases c : 2 ^ d < 2 * (n % 2 ^ d) ∨ (2 ^ d = 2 * (n % 2 ^ d) ∧ n / 2 ^ d % 2 = 1)
  · rw [if_pos c]
    rcases c with c | ⟨c, e⟩
    · simp [c]
    · simp [← c, e]
  · rw [if_neg c]
    have c1 : ¬ 2 ^ d < 2 * (n % 2 ^ d) := fun h => c (Or.inl h)
    have c2 : ¬ (2 ^ d = 2 * (n % 2 ^ d) ∧ n / 2 ^ d % 2 = 1) := fun h => c (Or.inr h)
    have c3 : ((2 ^ d == 2 * (n % 2 ^ d)) && (n / 2 ^ d % 2 == 1)) = false := by
      rw [Bool.eq_false_iff]; intro h; simp only [Bool.and_eq_true, beq_iff_eq] at h; exact c2 h
    simp only [c1, c3]; simp

theorem rne_zero (V : Nat) : rne V 0 = V := by simp [rne, Nat.mod_one]

theorem rne_scale (m L k : Nat) : rne (m * 2 ^ k) (L + k) = rne m L := by
  have hk : 0 < 2 ^ k := Nat.two_pow_pos k
  have e1 : m * 2 ^ k / 2 ^ (L + k) = m / 2 ^ L := by rw [Nat.pow_add, Nat.mul_div_mul_right _ _ hk]
  have e2 : m * 2 ^ k % 2 ^ (L + k) = m % 2 ^ L * 2 ^ k := by rw [Nat.pow_add, Nat.mul_mod_mul_right]
  unfold rne
  rw [e1, e2, Nat.pow_add]
  have a : (2 ^ L * 2 ^ k < 2 * (m % 2 ^ L * 2 ^ k)) ↔ (2 ^ L < 2 * (m % 2 ^ L)) := by
    rw [← Nat.mul_assoc]; exact Nat.mul_lt_mul_right hk
  have b : (2 ^ L * 2 ^ k = 2 * (m % 2 ^ L * 2 ^ k)) ↔ (2 ^ L = 2 * (m % 2 ^ L)) := by
    rw [← Nat.mul_assoc]; exact Nat.mul_left_inj (by omega)
  simp only [a, b]

theorem rne_exact (m L : Nat) : rne (m * 2 ^ L) L = m := by
  have := rne_scale m 0 L
  rw [Nat.zero_add, rne_zero] at this
  exact this

/-- The rung of a number of least units, without a greatest one. -/
def rungOf (V : Nat) : Nat := (V.log2 - 52) * 2 ^ 52 + rne V (V.log2 - 52)

theorem log2_mul_pow (m k : Nat) (h : m ≠ 0) : (m * 2 ^ k).log2 = m.log2 + k := by
  have h2 : m * 2 ^ k ≠ 0 := Nat.mul_ne_zero h (by have := Nat.two_pow_pos k; omega)
  rw [Nat.log2_eq_iff h2]
  have l := Nat.log2_self_le h
  have u := @Nat.lt_log2_self m
  constructor
  · rw [Nat.pow_add]; exact Nat.mul_le_mul_right _ l
  · rw [show m.log2 + k + 1 = (m.log2 + 1) + k from by omega, Nat.pow_add]
    exact Nat.mul_lt_mul_of_pos_right u (Nat.two_pow_pos k)

theorem leastPlace_double : Ieee.double.leastPlace = -1074 := by decide

theorem nearest_rung (neg : Bool) (m k : Nat) :
    Ieee.double.nearest neg m (-1074 + (k : Int)) = Ieee.double.word neg (min (rungOf (m * 2 ^ k)) 9218868437227405312) := by
  unfold Ieee.Format.nearest
  by_cases h : m = 0
  · subst h; simp [rungOf, rne]
  · rw [if_neg h, leastPlace_double]
    have hf : (Ieee.double.fractionBits : Int) = 52 := rfl
    have hb : Ieee.double.binade = 2 ^ 52 := rfl
    have hi : Ieee.double.infRung = 9218868437227405312 := by decide
    rw [hf, hb, hi]
    simp only
    have hl := log2_mul_pow m k h
    have e1 : (max ((-1074 : Int) + k + m.log2 - 52) (-1074) - -1074).toNat = m.log2 + k - 52 := by omega
    have e2 : ((-1074 : Int) + k - max ((-1074 : Int) + k + m.log2 - 52) (-1074)).toNat = k - (m.log2 + k - 52) := by omega
    have e3 : (max ((-1074 : Int) + k + m.log2 - 52) (-1074) - ((-1074 : Int) + k)).toNat = (m.log2 + k - 52) - k := by omega
    rw [e1, e2, e3, Nat.shiftLeft_eq]
    suffices key : Ieee.Toward.even.cut neg (m * 2 ^ (k - (m.log2 + k - 52))) (m.log2 + k - 52 - k) = rne (m * 2 ^ k) (m.log2 + k - 52) by
      rw [key]; unfold rungOf; rw [hl]
    by_cases c : m.log2 + k - 52 ≤ k
    · obtain ⟨d, hd⟩ : ∃ d, k = d + (m.log2 + k - 52) := ⟨k - (m.log2 + k - 52), by omega⟩
      generalize m.log2 + k - 52 = L at *
      rw [show L - k = 0 from by omega, cut_rne _ _ _ (by omega), rne_zero, hd, show d + L - L = d from by omega, Nat.pow_add, ← Nat.mul_assoc, rne_exact]
    · rw [show k - (m.log2 + k - 52) = 0 from by omega, Nat.pow_zero, Nat.mul_one]
      rw [cut_rne _ _ _ (by omega)]
      have s := rne_scale m (m.log2 + k - 52 - k) k
      rw [show m.log2 + k - 52 - k + k = m.log2 + k - 52 from by omega] at s
      exact s.symm

/-- The number of least units that a rung stands for. -/
def magOf (g : Nat) : Nat := if g < 2 ^ 52 then g else (2 ^ 52 + g % 2 ^ 52) * 2 ^ (g / 2 ^ 52 - 1)

theorem log2_small (m : Nat) (h1 : 2 ^ 52 ≤ m) (h2 : m < 2 ^ 53) : m.log2 = 52 := (Nat.log2_eq_iff (by omega)).2 ⟨h1, h2⟩

theorem log2_lt (m k : Nat) (h : m < 2 ^ (k + 1)) : m.log2 ≤ k := by
  by_cases z : m = 0
  · subst z; simp
  · have := (Nat.log2_lt z).2 h; omega

theorem rung_mag (g : Nat) : rungOf (magOf g) = g := by
  unfold magOf
  split
  · rename_i h
    have l : g.log2 ≤ 51 := log2_lt g 51 h
    unfold rungOf
    rw [show g.log2 - 52 = 0 from by omega, rne_zero]; omega
  · rename_i h
    have hm : 2 ^ 52 ≤ 2 ^ 52 + g % 2 ^ 52 := by omega
    have hm2 : 2 ^ 52 + g % 2 ^ 52 < 2 ^ 53 := by omega
    have l := log2_small _ hm hm2
    unfold rungOf
    rw [log2_mul_pow _ _ (by omega), l, show 52 + (g / 2 ^ 52 - 1) - 52 = g / 2 ^ 52 - 1 from by omega, rne_exact]
    omega

theorem rung_pos (V : Nat) (h : V ≠ 0) : rungOf V ≠ 0 := by
  unfold rungOf
  by_cases c : V.log2 ≤ 52
  · rw [show V.log2 - 52 = 0 from by omega, rne_zero]; omega
  · have : 1 ≤ V.log2 - 52 := by omega
    have : 2 ^ 52 ≤ (V.log2 - 52) * 2 ^ 52 := Nat.le_mul_of_pos_left _ this
    omega

theorem rung_zero : rungOf 0 = 0 := by decide

end Go.Proofs.Ytjdbgmopmkdlcaa
