/-
  Words (integers from 0 to less than 2^64) that are folded, unfolded, mixed and unmixed, as plain functions, and that the ones undo the others. No condition but those that each fact names.
-/
import Derived.Laws.Bits64
namespace Go.Proofs.YtnmeakkehonnmaaDoor

/-- Folded by n. -/
def foldN (n x : Nat) : Nat := x ^^^ (x >>> n)
/-- Unfolded by n, of 22 to 31: two folds more shift all out. -/
def unfN (n x : Nat) : Nat := (x ^^^ (x >>> n)) ^^^ (x >>> (2 * n))
def timesN (c x : Nat) : Nat := x * c % 18446744073709551616

theorem shr_lt {x : Nat} (n : Nat) (h : x < 18446744073709551616) : x >>> n < 18446744073709551616 := by
  rw [Nat.shiftRight_eq_div_pow]; exact Nat.lt_of_le_of_lt (Nat.div_le_self _ _) h
theorem xor_lt {x y : Nat} (h : x < 18446744073709551616) (g : y < 18446744073709551616) : x ^^^ y < 18446744073709551616 :=
  Nat.xor_lt_two_pow (n := 64) h g
theorem foldN_lt (n : Nat) {x : Nat} (h : x < 18446744073709551616) : foldN n x < 18446744073709551616 := xor_lt h (shr_lt n h)
theorem unfN_lt (n : Nat) {x : Nat} (h : x < 18446744073709551616) : unfN n x < 18446744073709551616 := xor_lt (foldN_lt n h) (shr_lt _ h)
theorem timesN_lt (c x : Nat) : timesN c x < 18446744073709551616 := Nat.mod_lt _ (by decide)

theorem shr_out {n x : Nat} (hn : 22 ≤ n) (h : x < 18446744073709551616) : x >>> (3 * n) = 0 := by
  rw [Nat.shiftRight_eq_div_pow]
  apply Nat.div_eq_of_lt
  have : 2 ^ 64 ≤ 2 ^ (3 * n) := Nat.pow_le_pow_right (by decide) (by omega)
  omega

theorem unf_fold {n x : Nat} (hn : 22 ≤ n) (h : x < 18446744073709551616) : unfN n (foldN n x) = x := by
  unfold unfN foldN
  rw [Nat.shiftRight_xor_distrib, Nat.shiftRight_xor_distrib, ← Nat.shiftRight_add, ← Nat.shiftRight_add]
  rw [show n + n = 2 * n by omega, show n + 2 * n = 3 * n by omega, shr_out hn h, Nat.xor_zero]
  rw [Nat.xor_assoc x, ← Nat.xor_assoc (x >>> n), Nat.xor_self, Nat.zero_xor, Nat.xor_assoc, Nat.xor_self, Nat.xor_zero]

theorem fold_unf {n x : Nat} (hn : 22 ≤ n) (h : x < 18446744073709551616) : foldN n (unfN n x) = x := by
  unfold unfN foldN
  rw [Nat.shiftRight_xor_distrib, Nat.shiftRight_xor_distrib, ← Nat.shiftRight_add, ← Nat.shiftRight_add]
  rw [show n + n = 2 * n by omega, show 2 * n + n = 3 * n by omega, shr_out hn h, Nat.xor_zero]
  rw [Nat.xor_assoc x, Nat.xor_assoc x, Nat.xor_self, Nat.xor_zero]

theorem times_back {c d x : Nat} (hc : c * d % 18446744073709551616 = 1) (h : x < 18446744073709551616) : timesN d (timesN c x) = x := by
  unfold timesN
  rw [Nat.mod_mul_mod, Nat.mul_assoc, Nat.mul_mod, hc, Nat.mul_one, Nat.mod_mod, Nat.mod_eq_of_lt h]

/-- Mixed, and unmixed. -/
def mixN (x : Nat) : Nat := foldN 31 (timesN 10723151780598845931 (foldN 27 (timesN 13787848793156543929 (foldN 30 x))))
def unmixN (x : Nat) : Nat := unfN 30 (timesN 10871156337175269513 (unfN 27 (timesN 3573116690164977347 (unfN 31 x))))

theorem mixN_lt {x : Nat} (_h : x < 18446744073709551616) : mixN x < 18446744073709551616 := foldN_lt _ (timesN_lt _ _)
theorem unmixN_lt {x : Nat} (_h : x < 18446744073709551616) : unmixN x < 18446744073709551616 := unfN_lt _ (timesN_lt _ _)

theorem unmix_mix {x : Nat} (h : x < 18446744073709551616) : unmixN (mixN x) = x := by
  unfold unmixN mixN
  rw [unf_fold (by decide) (timesN_lt _ _), times_back (by decide) (foldN_lt _ (timesN_lt _ _)), unf_fold (by decide) (timesN_lt _ _), times_back (by decide) (foldN_lt _ h), unf_fold (by decide) h]
theorem mix_unmix {x : Nat} (h : x < 18446744073709551616) : mixN (unmixN x) = x := by
  unfold unmixN mixN
  rw [fold_unf (by decide) (timesN_lt _ _), times_back (by decide) (unfN_lt _ (timesN_lt _ _)), fold_unf (by decide) (timesN_lt _ _), times_back (by decide) (unfN_lt _ h), fold_unf (by decide) h]

/-- The same over integers. -/
def fold (n : Nat) (x : Int) : Int := (foldN n x.toNat : Nat)
def unf (n : Nat) (x : Int) : Int := (unfN n x.toNat : Nat)
def times (c : Nat) (x : Int) : Int := (timesN c x.toNat : Nat)
def mixed (x : Int) : Int := (mixN x.toNat : Nat)
def unmixed (x : Int) : Int := (unmixN x.toNat : Nat)

theorem fold_bd (n : Nat) (x : Int) (h : x < 18446744073709551616) : 0 ≤ fold n x ∧ fold n x < 18446744073709551616 := by
  have := foldN_lt n (x := x.toNat) (by omega); unfold fold; omega
theorem mixed_bd (x : Int) (h : x < 18446744073709551616) : 0 ≤ mixed x ∧ mixed x < 18446744073709551616 := by
  have := mixN_lt (x := x.toNat) (by omega); unfold mixed; omega
theorem unmixed_bd (x : Int) (h : x < 18446744073709551616) : 0 ≤ unmixed x ∧ unmixed x < 18446744073709551616 := by
  have := unmixN_lt (x := x.toNat) (by omega); unfold unmixed; omega
theorem unmixed_mixed (x : Int) (h0 : 0 ≤ x) (h : x < 18446744073709551616) : unmixed (mixed x) = x := by
  unfold unmixed mixed; rw [Int.toNat_natCast, unmix_mix (by omega)]; omega
theorem mixed_unmixed (x : Int) (h0 : 0 ≤ x) (h : x < 18446744073709551616) : mixed (unmixed x) = x := by
  unfold unmixed mixed; rw [Int.toNat_natCast, mix_unmix (by omega)]; omega
theorem mixed_inj (x y : Int) (hx0 : 0 ≤ x) (hx : x < 18446744073709551616) (hy0 : 0 ≤ y) (hy : y < 18446744073709551616) (h : mixed x = mixed y) : x = y := by
  rw [← unmixed_mixed x hx0 hx, h, unmixed_mixed y hy0 hy]

/-- How the walk spells them. -/
theorem shr_word (x : Int) (s : Nat) (h0 : 0 ≤ x) : x / 2 ^ s = ((x.toNat >>> s : Nat) : Int) := by
  rw [Nat.shiftRight_eq_div_pow]
  conv => lhs; rw [← Int.toNat_of_nonneg h0]
  rw [Int.natCast_ediv, Int.natCast_pow]; rfl
theorem xor_word (x y : Int) (h0 : 0 ≤ x) (h : x < 18446744073709551616) (g0 : 0 ≤ y) (g : y < 18446744073709551616) : bits .xor .u64 x y = ((x.toNat ^^^ y.toNat : Nat) : Int) := by
  have := bits_xor_u64_nat x.toNat y.toNat (by omega) (by omega)
  rwa [Int.toNat_of_nonneg h0, Int.toNat_of_nonneg g0] at this
theorem fold_word (x : Int) (s : Nat) (h0 : 0 ≤ x) (h : x < 18446744073709551616) : bits .xor .u64 x (x / 2 ^ s) = fold s x := by
  have hs := shr_lt s (x := x.toNat) (by omega)
  rw [shr_word x s h0, xor_word x _ h0 h (Int.natCast_nonneg _) (Int.ofNat_lt.2 hs), Int.toNat_natCast]; rfl
theorem unf_word (x : Int) (s : Nat) (h0 : 0 ≤ x) (h : x < 18446744073709551616) : bits .xor .u64 (fold s x) (x / 2 ^ (2 * s)) = unf s x := by
  have hs := shr_lt (2 * s) (x := x.toNat) (by omega)
  have hf := fold_bd s x h
  rw [shr_word x _ h0, xor_word _ _ hf.1 hf.2 (Int.natCast_nonneg _) (Int.ofNat_lt.2 hs), Int.toNat_natCast]
  unfold fold unf
  rw [Int.toNat_natCast]; rfl
theorem times_word (x : Int) (c : Nat) (h0 : 0 ≤ x) : IntKind.u64.wrap (x * c) = times c x := by
  rw [IntKind.wrap_u64]
  unfold times timesN
  rw [Int.natCast_emod, Int.natCast_mul, Int.toNat_of_nonneg h0]; rfl

end Go.Proofs.YtnmeakkehonnmaaDoor
