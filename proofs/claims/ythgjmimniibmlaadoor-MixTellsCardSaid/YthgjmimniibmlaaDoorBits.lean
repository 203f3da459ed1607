/-
  A word unfolded bit by bit, from the highest one on: the bits that are there and the next one. No condition but those that each fact names.
-/
import Derived.Test.YthgjmimniibmlaaDoorWords
namespace Go.Proofs.YthgjmimniibmlaaDoor

/-- The bits of U from k on. -/
def up (U k : Nat) : Nat := U / 2 ^ k * 2 ^ k

theorem and_word (a b : Nat) (ha : a < 18446744073709551616) (hb : b < 18446744073709551616) : bits .and .u64 (a : Int) (b : Int) = ((a &&& b : Nat) : Int) := by
  have hx : a &&& b < 2 ^ 64 := Nat.and_lt_two_pow _ (by omega)
  have h1 : (BitVec.ofInt 64 (a : Int)).toNat = a := by
    rw [BitVec.ofInt_natCast, BitVec.toNat_ofNat]; exact Nat.mod_eq_of_lt (by omega)
  have h2 : (BitVec.ofInt 64 (b : Int)).toNat = b := by
    rw [BitVec.ofInt_natCast, BitVec.toNat_ofNat]; exact Nat.mod_eq_of_lt (by omega)
  show IntKind.u64.wrap ((BitVec.ofInt 64 (a : Int) &&& BitVec.ofInt 64 (b : Int)).toNat : Int) = _
  rw [BitVec.toNat_and, h1, h2, IntKind.wrap_u64]
  omega
theorem or_word (a b : Nat) (ha : a < 18446744073709551616) (hb : b < 18446744073709551616) : bits .or .u64 (a : Int) (b : Int) = ((a ||| b : Nat) : Int) := by
  have hx : a ||| b < 2 ^ 64 := Nat.or_lt_two_pow (by omega) (by omega)
  have h1 : (BitVec.ofInt 64 (a : Int)).toNat = a := by
    rw [BitVec.ofInt_natCast, BitVec.toNat_ofNat]; exact Nat.mod_eq_of_lt (by omega)
  have h2 : (BitVec.ofInt 64 (b : Int)).toNat = b := by
    rw [BitVec.ofInt_natCast, BitVec.toNat_ofNat]; exact Nat.mod_eq_of_lt (by omega)
  show IntKind.u64.wrap ((BitVec.ofInt 64 (a : Int) ||| BitVec.ofInt 64 (b : Int)).toNat : Int) = _
  rw [BitVec.toNat_or, h1, h2, IntKind.wrap_u64]
  omega

theorem one_word (v : Nat) (h : v < 18446744073709551616) : bits .and .u64 (v : Int) 1 = ((v % 2 : Nat) : Int) := by
  have := and_word v 1 h (by decide)
  rw [Nat.and_one_is_mod] at this
  exact this
theorem two_word (p q : Nat) (hp : p < 2) (hq : q < 2) : bits .xor .u64 (p : Int) (q : Int) = (((p + q) % 2 : Nat) : Int) := by
  rw [bits_xor_u64_nat p q (by omega) (by omega)]
  have hp' : p = 0 ∨ p = 1 := by omega
  have hq' : q = 0 ∨ q = 1 := by omega
  rcases hp' with rfl | rfl <;> rcases hq' with rfl | rfl <;> rfl

theorem up_step (U i : Nat) : up U (i + 1) + U / 2 ^ i % 2 * 2 ^ i = up U i := by
  unfold up
  rw [Nat.pow_succ, ← Nat.div_div_eq_div_mul]
  have := Nat.div_add_mod (U / 2 ^ i) 2
  generalize U / 2 ^ i = q at this ⊢
  rw [Nat.mul_comm (2 ^ i) 2, ← Nat.mul_assoc, ← Nat.add_mul]
  congr 1
  omega

theorem up_lt {U : Nat} (h : U < 18446744073709551616) (k : Nat) : up U k < 18446744073709551616 :=
  Nat.lt_of_le_of_lt (Nat.div_mul_le_self _ _) h

theorem up_or (U i b : Nat) (hb : b < 2) : up U (i + 1) ||| b * 2 ^ i = up U (i + 1) + b * 2 ^ i := by
  unfold up
  rw [Nat.mul_comm (U / 2 ^ (i + 1))]
  refine (Nat.two_pow_add_eq_or_of_lt ?_ _).symm
  have hp := Nat.two_pow_pos i
  rw [Nat.pow_succ]
  have : b * 2 ^ i ≤ 1 * 2 ^ i := Nat.mul_le_mul_right _ (by omega)
  omega

theorem up_div (U i d : Nat) : up U (i + 1) / 2 ^ (i + 1 + d) = U / 2 ^ (i + 1 + d) := by
  unfold up
  generalize i + 1 = k
  rw [Nat.pow_add 2 k d, ← Nat.div_div_eq_div_mul, Nat.mul_div_cancel _ (Nat.two_pow_pos _), Nat.div_div_eq_div_mul]

theorem bit_fold (U n i : Nat) : foldN n U / 2 ^ i % 2 = (U / 2 ^ i % 2 + U / 2 ^ (i + n) % 2) % 2 := by
  unfold foldN
  rw [Nat.xor_div_two_pow, Nat.shiftRight_eq_div_pow, Nat.div_div_eq_div_mul, ← Nat.pow_add, Nat.add_comm n i]
  generalize U / 2 ^ i = a
  generalize U / 2 ^ (i + n) = b
  have := @Nat.xor_mod_two_pow a b 1
  rw [Nat.pow_one] at this
  rw [this]
  have h1 : a % 2 = 0 ∨ a % 2 = 1 := by omega
  have h2 : b % 2 = 0 ∨ b % 2 = 1 := by omega
  rcases h1 with h | h <;> rcases h2 with g | g <;> rw [h, g] <;> rfl

/-- The next bit, laid to those that are there. -/
theorem lay (U i b : Nat) (hU : U < 18446744073709551616) (hi : i < 64) (hb : U / 2 ^ i % 2 = b) :
    bits .or .u64 ((up U (i + 1) : Nat) : Int) (IntKind.u64.wrap ((b : Int) * 2 ^ i)) = ((up U i : Nat) : Int) := by
  have hb2 : b < 2 := by omega
  have hp : b * 2 ^ i < 18446744073709551616 := by
    have h1 : b * 2 ^ i ≤ 1 * 2 ^ i := Nat.mul_le_mul_right _ (by omega)
    have h2 : 2 ^ i < 2 ^ 64 := Nat.pow_lt_pow_right (by decide) hi
    omega
  have e : IntKind.u64.wrap ((b : Int) * 2 ^ i) = ((b * 2 ^ i : Nat) : Int) := by
    rw [IntKind.wrap_u64, show ((b : Int) * 2 ^ i) = ((b * 2 ^ i : Nat) : Int) by rw [Int.natCast_mul, Int.natCast_pow]; rfl]
    omega
  rw [e, or_word _ _ (up_lt hU _) hp, up_or U i b hb2, ← hb, up_step]

theorem low_bit (x : Int) (i : Nat) (h0 : 0 ≤ x) (h : x < 18446744073709551616) : bits .and .u64 (x / 2 ^ i) 1 = ((x.toNat / 2 ^ i % 2 : Nat) : Int) := by
  rw [shr_word x i h0, one_word _ (shr_lt i (by omega)), Nat.shiftRight_eq_div_pow]

/-- A round of the document's own way, where a bit that is there counts. -/
theorem round_in (x : Int) (n i : Nat) (hn : 22 ≤ n) (hi : i < 64) (h0 : 0 ≤ x) (h : x < 18446744073709551616) :
    bits .or .u64 ((up (unfN n x.toNat) (i + 1) : Nat) : Int) (IntKind.u64.wrap (bits .xor .u64 (bits .and .u64 (x / 2 ^ i) 1) (bits .and .u64 (((up (unfN n x.toNat) (i + 1) : Nat) : Int) / 2 ^ (i + n)) 1) * 2 ^ i)) =
      ((up (unfN n x.toNat) i : Nat) : Int) := by
  have hU := unfN_lt n (x := x.toNat) (by omega)
  have hf := fold_unf (n := n) (x := x.toNat) hn (by omega)
  generalize unfN n x.toNat = U at hU hf ⊢
  have hu := up_lt hU (i + 1)
  rw [low_bit x i h0 h, low_bit _ _ (by omega) (by omega), Int.toNat_natCast, two_word _ _ (by omega) (by omega)]
  refine lay U i _ hU hi ?_
  obtain ⟨d, rfl⟩ : ∃ d, n = 1 + d := ⟨n - 1, by omega⟩
  rw [← Nat.add_assoc i 1 d, up_div, ← hf, bit_fold, ← Nat.add_assoc i 1 d]
  omega
/-- .. and where there is none. -/
theorem round_out (x : Int) (n i : Nat) (hn : 22 ≤ n) (hi : i < 64) (h0 : 0 ≤ x) (h : x < 18446744073709551616) (ho : 64 ≤ i + n) :
    bits .or .u64 ((up (unfN n x.toNat) (i + 1) : Nat) : Int) (IntKind.u64.wrap (bits .and .u64 (x / 2 ^ i) 1 * 2 ^ i)) =
      ((up (unfN n x.toNat) i : Nat) : Int) := by
  have hU := unfN_lt n (x := x.toNat) (by omega)
  have hf := fold_unf (n := n) (x := x.toNat) hn (by omega)
  generalize unfN n x.toNat = U at hU hf ⊢
  rw [low_bit x i h0 h]
  refine lay U i _ hU hi ?_
  rw [← hf, bit_fold]
  have hz : U / 2 ^ (i + n) = 0 := by
    apply Nat.div_eq_of_lt
    have : 2 ^ 64 ≤ 2 ^ (i + n) := Nat.pow_le_pow_right (by decide) ho
    omega
  rw [hz]
  omega

theorem up_all {U : Nat} (h : U < 18446744073709551616) : up U 64 = 0 := by
  unfold up
  rw [Nat.div_eq_of_lt (by omega), Nat.zero_mul]
theorem up_none (U : Nat) : up U 0 = U := by
  unfold up
  rw [Nat.pow_zero, Nat.div_one, Nat.mul_one]

end Go.Proofs.YthgjmimniibmlaaDoor
