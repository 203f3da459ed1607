/-
  Links that are made and let go of process by process, as sets of bits; a look at one bit by a shift. Conditions: p is a process; the set fits into an int.
-/
import Derived.Test.YthegokjhgdneoaaBits
namespace Go.Proofs.Ythegokjhgdneoaa

theorem bv_range (A : Int) (h0 : -9223372036854775808 ≤ A) (h1 : A < 9223372036854775808) : (bv A).toInt = A := by
  unfold bv
  rw [BitVec.toInt_ofInt]
  unfold Int.bmod
  simp only [Nat.reducePow]
  split <;> omega

theorem shr_bv (A k : Int) (h0 : -9223372036854775808 ≤ A) (h1 : A < 9223372036854775808) : bv (A / 2 ^ k.toNat) = (bv A).sshiftRight k.toNat := by
  have e := BitVec.toInt_sshiftRight (x := bv A) (n := k.toNat)
  rw [bv_range A h0 h1, Int.shiftRight_eq_div_pow] at e
  have c : ((2 ^ k.toNat : Nat) : Int) = (2 : Int) ^ k.toNat := by simp
  rw [c] at e
  rw [← e, bv_toInt]

theorem and_one (v : BitVec 64) : (v &&& 1#64).toInt = if v.getLsbD 0 then 1 else 0 := by
  rw [BitVec.and_one_eq_setWidth_ofBool_getLsbD]
  cases v.getLsbD 0 <;> decide

theorem low_bit (A k : Int) (h0 : -9223372036854775808 ≤ A) (h1 : A < 9223372036854775808) (k0 : 0 ≤ k) (k1 : k < 16) : bits .and .i64 (A / 2 ^ k.toNat) 1 = if hasP A k then 1 else 0 := by
  rw [bits_and, shr_bv A k h0 h1]
  have e1 : bv 1 = 1#64 := by decide
  rw [e1, and_one, hasP_eq A k k0 k1]
  congr 1
  rw [BitVec.getLsbD_sshiftRight]
  rw [if_pos (by omega)]
  simp

theorem look1 (A k : Int) (h0 : -9223372036854775808 ≤ A) (h1 : A < 9223372036854775808) (k0 : 0 ≤ k) (k1 : k < 16) : (bits .and .i64 (A / 2 ^ k.toNat) 1 == 1) = hasP A k := by
  rw [low_bit A k h0 h1 k0 k1]
  cases hasP A k <;> rfl
theorem look0 (A k : Int) (h0 : -9223372036854775808 ≤ A) (h1 : A < 9223372036854775808) (k0 : 0 ≤ k) (k1 : k < 16) : (bits .and .i64 (A / 2 ^ k.toNat) 1 == 0) = !hasP A k := by
  rw [low_bit A k h0 h1 k0 k1]
  cases hasP A k <;> rfl

/-- The links of those of A below k. -/
def Upto (A k l : Int) : Prop := ∃ v : BitVec 64, l = v.toInt ∧ ∀ j, v.getLsbD j = (decide (j < k.toNat) && (bv A).getLsbD j)
/-- The links of A, but for those of B below k. -/
def Gone (A B k l : Int) : Prop := ∃ v : BitVec 64, l = v.toInt ∧ ∀ j, v.getLsbD j = ((bv A).getLsbD j && !(decide (j < k.toNat) && (bv B).getLsbD j))

theorem high (A : Int) (h0 : 0 ≤ A) (h1 : A < 65536) (j : Nat) (hj : 16 ≤ j) : (bv A).getLsbD j = false := by
  obtain ⟨a, rfl⟩ := Int.eq_ofNat_of_zero_le h0
  unfold bv
  rw [BitVec.ofInt_natCast, BitVec.getLsbD_ofNat]
  have : a < 2 ^ j := Nat.lt_of_lt_of_le (show a < 2 ^ 16 by omega) (Nat.pow_le_pow_right (by omega) hj)
  rw [Nat.testBit_lt_two_pow this]
  simp

theorem upto0 (A : Int) : Upto A 0 0 := ⟨0#64, by decide, fun j => by simp⟩

theorem upto_yes {A k l : Int} (h : Upto A k l) (k0 : 0 ≤ k) (k1 : k < 16) (hb : hasP A k = true) : Upto A (k + 1) (withP l k) := by
  obtain ⟨v, rfl, hv⟩ := h
  rw [hasP_eq A k k0 k1] at hb
  refine ⟨v ||| BitVec.twoPow 64 k.toNat, by unfold withP; rw [bits_or, bv_toInt, bv_bit], fun j => ?_⟩
  rw [BitVec.getLsbD_or, hv, BitVec.getLsbD_twoPow]
  have e : (k + 1).toNat = k.toNat + 1 := by omega
  rw [e]
  by_cases hj : j = k.toNat
  · subst hj
    have : k.toNat < 64 := by omega
    simp [hb, this]
  · have e1 : ¬ k.toNat = j := fun h => hj h.symm
    have e2 : (j < k.toNat + 1) = (j < k.toNat) := propext ⟨fun _ => by omega, fun _ => by omega⟩
    simp [e1, e2]

theorem upto_no {A k l : Int} (h : Upto A k l) (k0 : 0 ≤ k) (k1 : k < 16) (hb : hasP A k = false) : Upto A (k + 1) l := by
  obtain ⟨v, rfl, hv⟩ := h
  rw [hasP_eq A k k0 k1] at hb
  refine ⟨v, rfl, fun j => ?_⟩
  rw [hv]
  have e : (k + 1).toNat = k.toNat + 1 := by omega
  rw [e]
  by_cases hj : j = k.toNat
  · subst hj
    simp [hb]
  · have e2 : (j < k.toNat + 1) = (j < k.toNat) := propext ⟨fun _ => by omega, fun _ => by omega⟩
    simp [e2]

theorem upto_end {A k l : Int} (B : Int) (h : Upto A k l) (hk : 16 ≤ k) (h0 : 0 ≤ A) (h1 : A < 65536) : Gone A B 0 l := by
  obtain ⟨v, rfl, hv⟩ := h
  refine ⟨v, rfl, fun j => ?_⟩
  rw [hv]
  by_cases hj : j < k.toNat
  · simp [hj]
  · rw [high A h0 h1 j (by omega)]
    simp

theorem gone_yes {A B k l : Int} (h : Gone A B k l) (k0 : 0 ≤ k) (k1 : k < 16) (hb : hasP B k = true) : Gone A B (k + 1) (lessP l k) := by
  obtain ⟨v, rfl, hv⟩ := h
  rw [hasP_eq B k k0 k1] at hb
  refine ⟨v &&& ~~~ BitVec.twoPow 64 k.toNat, by unfold lessP; rw [bits_andNot, bv_toInt, bv_bit], fun j => ?_⟩
  rw [BitVec.getLsbD_and, hv, BitVec.getLsbD_not, BitVec.getLsbD_twoPow]
  have e : (k + 1).toNat = k.toNat + 1 := by omega
  rw [e]
  by_cases hj : j = k.toNat
  · subst hj
    simp [hb]
  · have e1 : ¬ k.toNat = j := fun h => hj h.symm
    have e2 : (j < k.toNat + 1) = (j < k.toNat) := propext ⟨fun _ => by omega, fun _ => by omega⟩
    by_cases h64 : j < 64
    · simp [e1, e2, h64]
    · rw [BitVec.getLsbD_of_ge _ _ (by omega)]
      simp

theorem gone_no {A B k l : Int} (h : Gone A B k l) (k0 : 0 ≤ k) (k1 : k < 16) (hb : hasP B k = false) : Gone A B (k + 1) l := by
  obtain ⟨v, rfl, hv⟩ := h
  rw [hasP_eq B k k0 k1] at hb
  refine ⟨v, rfl, fun j => ?_⟩
  rw [hv]
  have e : (k + 1).toNat = k.toNat + 1 := by omega
  rw [e]
  by_cases hj : j = k.toNat
  · subst hj
    simp [hb]
  · have e2 : (j < k.toNat + 1) = (j < k.toNat) := propext ⟨fun _ => by omega, fun _ => by omega⟩
    simp [e2]

theorem gone_end {A B k l : Int} (h : Gone A B k l) (hk : 16 ≤ k) (h0 : 0 ≤ B) (h1 : B < 65536) : l = bits .andNot .i64 A B := by
  obtain ⟨v, rfl, hv⟩ := h
  rw [bits_andNot]
  congr 1
  apply BitVec.eq_of_getLsbD_eq
  intro j hj
  rw [hv, BitVec.getLsbD_and, BitVec.getLsbD_not]
  by_cases hjk : j < k.toNat
  · simp [hjk, hj]
  · rw [high B h0 h1 j (by omega)]
    simp [hj]

theorem andNot_range (A B : Int) : -9223372036854775808 ≤ bits .andNot .i64 A B ∧ bits .andNot .i64 A B < 9223372036854775808 := by
  rw [bits_andNot]
  exact ⟨BitVec.le_toInt _, BitVec.toInt_lt⟩

end Go.Proofs.Ythegokjhgdneoaa
