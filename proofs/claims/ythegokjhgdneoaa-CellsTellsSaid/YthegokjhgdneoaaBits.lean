/-
  Links, bit by bit: what a link, a release and the look at one leave and tell. Conditions: p is a process, from 0 to 15.
-/
import Derived.Test.YthegokjhgdneoaaAwake
namespace Go.Proofs.Ythegokjhgdneoaa

def bv (x : Int) : BitVec 64 := BitVec.ofInt 64 x

theorem wrap_toInt (v : BitVec 64) : IntKind.i64.wrap (v.toNat : Int) = v.toInt := by
  rw [IntKind.wrap_i64, BitVec.toInt_eq_toNat_bmod]
  have := v.isLt
  unfold Int.bmod
  simp only [Nat.reducePow] at *
  split <;> omega

theorem bv_toInt (v : BitVec 64) : bv v.toInt = v := by unfold bv; simp

theorem bits_or (x y : Int) : bits .or .i64 x y = (bv x ||| bv y).toInt := by
  show IntKind.i64.wrap ((BitVec.ofInt 64 x ||| BitVec.ofInt 64 y).toNat : Int) = _
  exact wrap_toInt _
theorem bits_and (x y : Int) : bits .and .i64 x y = (bv x &&& bv y).toInt := by
  show IntKind.i64.wrap ((BitVec.ofInt 64 x &&& BitVec.ofInt 64 y).toNat : Int) = _
  exact wrap_toInt _
theorem bits_andNot (x y : Int) : bits .andNot .i64 x y = (bv x &&& ~~~ bv y).toInt := by
  show IntKind.i64.wrap ((BitVec.ofInt 64 x &&& ~~~ BitVec.ofInt 64 y).toNat : Int) = _
  exact wrap_toInt _

theorem bv_bit (p : Int) : bv (bit p) = BitVec.twoPow 64 p.toNat := by
  unfold bv bit
  apply BitVec.eq_of_toNat_eq
  have e : ((2 : Int) ^ p.toNat) = ((2 ^ p.toNat : Nat) : Int) := by simp
  rw [e, BitVec.ofInt_natCast]
  simp [BitVec.toNat_twoPow]

theorem hasP_eq (l p : Int) (h0 : 0 ≤ p) (h1 : p < 16) : hasP l p = (bv l).getLsbD p.toNat := by
  unfold hasP
  rw [bits_and, bv_bit p, BitVec.and_twoPow]
  split
  · rename_i h
    rw [h]
    have h2 : (BitVec.twoPow 64 p.toNat).toInt ≠ 0 := by
      intro e
      have e2 := congrArg bv e
      rw [bv_toInt] at e2
      have e3 := congrArg (fun v : BitVec 64 => v.getLsbD p.toNat) e2
      simp [BitVec.getLsbD_twoPow, bv] at e3
      omega
    simpa using h2
  · rename_i h
    simp at h
    rw [h]
    simp

theorem bv_withP (l p : Int) : bv (withP l p) = bv l ||| BitVec.twoPow 64 p.toNat := by
  unfold withP
  rw [bits_or, bv_toInt, bv_bit p]
theorem bv_lessP (l p : Int) : bv (lessP l p) = bv l &&& ~~~ BitVec.twoPow 64 p.toNat := by
  unfold lessP
  rw [bits_andNot, bv_toInt, bv_bit p]

theorem has_with (l p q : Int) (h0 : 0 ≤ p) (h1 : p < 16) (g0 : 0 ≤ q) (g1 : q < 16) : hasP (withP l p) q = (hasP l q || decide (p = q)) := by
  rw [hasP_eq _ q g0 g1, hasP_eq _ q g0 g1, bv_withP _ _, BitVec.getLsbD_or, BitVec.getLsbD_twoPow]
  congr 1
  by_cases e : p = q
  · subst e; simp; omega
  · have : ¬ p.toNat = q.toNat := by omega
    simp [e, this]
theorem has_less (l p q : Int) (h0 : 0 ≤ p) (h1 : p < 16) (g0 : 0 ≤ q) (g1 : q < 16) : hasP (lessP l p) q = (hasP l q && decide (p ≠ q)) := by
  rw [hasP_eq _ q g0 g1, hasP_eq _ q g0 g1, bv_lessP _ _, BitVec.getLsbD_and, BitVec.getLsbD_not, BitVec.getLsbD_twoPow]
  congr 1
  by_cases e : p = q
  · subst e; simp
  · have : ¬ p.toNat = q.toNat := by omega
    have h : q.toNat < 64 := by omega
    simp [e, this, h]
theorem has_none (p : Int) (h0 : 0 ≤ p) (h1 : p < 16) : hasP 0 p = false := by
  rw [hasP_eq _ p h0 h1]; simp [bv]

end Go.Proofs.Ythegokjhgdneoaa
