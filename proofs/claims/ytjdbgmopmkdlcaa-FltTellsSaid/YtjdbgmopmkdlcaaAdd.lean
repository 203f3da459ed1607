/-
  Sums of words, over whole numbers: of two numbers' words the sum is the rounded rung of the whole numbers' sum; of a NaN, or of two unlike infinities, a NaN; of an infinite one and a number that one. For words from 0 to less than 2^64 (the one condition).
-/
import Derived.Test.YtjdbgmopmkdlcaaOrd
import Derived.Test.YtjdbgmopmkdlcaaRound
namespace Go.Proofs.Ytjdbgmopmkdlcaa

/-- The whole number of least units that a finite word stands for. -/
def sval (x : Int) : Int := if 9223372036854775808 ≤ x then -((magOf (x % 9223372036854775808).toNat : Nat) : Int) else ((magOf (x % 9223372036854775808).toNat : Nat) : Int)

theorem word_double (neg : Bool) (r : Nat) : Ieee.double.word neg r = if neg then 9223372036854775808 + r else r := by
  unfold Ieee.Format.word
  rw [show Ieee.double.signWeight = 9223372036854775808 from by decide]

theorem read_double (X : Nat) : Ieee.double.read X =
    if X % 9223372036854775808 < 2 ^ 52 then .number (X / 9223372036854775808 % 2 == 1) (X % 9223372036854775808) (-1074)
    else if X % 9223372036854775808 < 9218868437227405312 then .number (X / 9223372036854775808 % 2 == 1) (2 ^ 52 + X % 9223372036854775808 % 2 ^ 52) (-1074 + (X % 9223372036854775808 / 2 ^ 52 - 1 : Nat))
    else if X % 9223372036854775808 = 9218868437227405312 then .infinity (X / 9223372036854775808 % 2 == 1)
    else .nan (X / 9223372036854775808 % 2 == 1) (X % 9223372036854775808 - 9218868437227405312) := by
  unfold Ieee.Format.read
  rw [show Ieee.double.signWeight = 9223372036854775808 from by decide, show Ieee.double.binade = 2 ^ 52 from rfl, show Ieee.double.infRung = 9218868437227405312 from by decide, leastPlace_double]

theorem read_finite (X : Nat) (h : X % 9223372036854775808 < 9218868437227405312) :
    ∃ m k : Nat, Ieee.double.read X = .number (X / 9223372036854775808 % 2 == 1) m (-1074 + (k : Int)) ∧ m * 2 ^ k = magOf (X % 9223372036854775808) := by
  rw [read_double]
  by_cases c : X % 9223372036854775808 < 2 ^ 52
  · rw [if_pos c]
    exact ⟨X % 9223372036854775808, 0, by simp, by unfold magOf; rw [if_pos c]; omega⟩
  · rw [if_neg c, if_pos h]
    exact ⟨_, _, rfl, by unfold magOf; rw [if_neg c]⟩

theorem read_infinite (X : Nat) (h : X % 9223372036854775808 = 9218868437227405312) : Ieee.double.read X = .infinity (X / 9223372036854775808 % 2 == 1) := by
  rw [read_double, if_neg (by omega), if_neg (by omega), if_pos h]

theorem read_nan (X : Nat) (h : 9218868437227405312 < X % 9223372036854775808) : ∃ s f, Ieee.double.read X = .nan s f := by
  rw [read_double, if_neg (by omega), if_neg (by omega), if_neg (by omega)]; exact ⟨_, _, rfl⟩

theorem sum_comm (a b : Ieee.Datum) : a.sum b = b.sum a := by
  cases a <;> cases b <;> simp only [Ieee.Datum.sum]
  · rename_i s m i t n j
    rw [Int.min_comm j i, Int.add_comm (Ieee.signed t n _), Bool.and_comm t s]
  · rename_i s t
    by_cases h : s = t
    · subst h; rfl
    · rw [if_neg h, if_neg (fun e => h e.symm)]

theorem add_comm (x y : Nat) : Ieee.double.add x y = Ieee.double.add y x := by unfold Ieee.Format.add; rw [sum_comm]

theorem sumOf_comm (x y : Int) : sumOf x y = sumOf y x := by unfold sumOf addWord; rw [add_comm]

theorem add_nan_left (X Y : Nat) (h : 9218868437227405312 < X % 9223372036854775808) : Ieee.double.add X Y = none := by
  obtain ⟨s, f, e⟩ := read_nan X h
  unfold Ieee.Format.add; rw [e]; simp [Ieee.Datum.sum]

theorem canon_nan : canon 9221120237041090561 = 9221120237041090561 := by decide +kernel

theorem sumOf_nan_left (x y : Int) (h0 : 0 ≤ x) (h : 9218868437227405312 < x % 9223372036854775808) : sumOf x y = 9221120237041090561 := by
  unfold sumOf addWord
  rw [add_nan_left x.toNat y.toNat (by omega)]; exact canon_nan

theorem sumOf_nan_right (x y : Int) (h0 : 0 ≤ y) (h : 9218868437227405312 < y % 9223372036854775808) : sumOf x y = 9221120237041090561 := by
  rw [sumOf_comm]; exact sumOf_nan_left y x h0 h

theorem bit_sign (X : Nat) (h : X < 18446744073709551616) : (X / 9223372036854775808 % 2 == 1) = decide (9223372036854775808 ≤ X) := by
  rw [Bool.eq_iff_iff]; simp only [beq_iff_eq, decide_eq_true_eq]; omega

/-- An infinite word and a number's: that one. -/
theorem sumOf_inf_left (x y : Int) (h0 : 0 ≤ x) (h1 : x < 18446744073709551616) (hx : x % 9223372036854775808 = 9218868437227405312) (_g0 : 0 ≤ y) (_g1 : y < 18446744073709551616) (hy : y % 9223372036854775808 < 9218868437227405312) : sumOf x y = x := by
  obtain ⟨m, k, e, _⟩ := read_finite y.toNat (by omega)
  unfold sumOf addWord Ieee.Format.add
  rw [e, read_infinite x.toNat (by omega), bit_sign _ (by omega)]
  simp only [Ieee.Datum.sum, Option.map_some, Ieee.Format.write, word_double, show Ieee.double.infRung = 9218868437227405312 from by decide]
  by_cases c : 9223372036854775808 ≤ x
  · rw [decide_eq_true (by omega : 9223372036854775808 ≤ x.toNat)]
    have : x = 18442240474082181120 := by omega
    rw [this]; decide +kernel
  · rw [decide_eq_false (by omega : ¬ 9223372036854775808 ≤ x.toNat)]
    have : x = 9218868437227405312 := by omega
    rw [this]; decide +kernel

theorem sumOf_inf_right (x y : Int) (h0 : 0 ≤ x) (h1 : x < 18446744073709551616) (hx : x % 9223372036854775808 = 9218868437227405312) (g0 : 0 ≤ y) (g1 : y < 18446744073709551616) (hy : y % 9223372036854775808 < 9218868437227405312) : sumOf y x = x := by
  rw [sumOf_comm]; exact sumOf_inf_left x y h0 h1 hx g0 g1 hy

/-- Two infinite words. -/
theorem sumOf_inf_both (x y : Int) (h0 : 0 ≤ x) (h1 : x < 18446744073709551616) (hx : x % 9223372036854775808 = 9218868437227405312) (g0 : 0 ≤ y) (g1 : y < 18446744073709551616) (hy : y % 9223372036854775808 = 9218868437227405312) : sumOf x y = if x = y then x else 9221120237041090561 := by
  have a : x = 9218868437227405312 ∨ x = 18442240474082181120 := by omega
  have b : y = 9218868437227405312 ∨ y = 18442240474082181120 := by omega
  rcases a with rfl | rfl <;> rcases b with rfl | rfl <;> decide +kernel

theorem shl_signed (s : Bool) (m u : Nat) : Ieee.signed s m u = (if s then -1 else 1) * ((m * 2 ^ u : Nat) : Int) := by
  unfold Ieee.signed; rw [Nat.shiftLeft_eq]; cases s <;> simp

theorem sval_toNat (x : Int) (h0 : 0 ≤ x) (h1 : x < 18446744073709551616) : sval x = (if (x.toNat / 9223372036854775808 % 2 == 1) then -1 else 1) * ((magOf (x.toNat % 9223372036854775808) : Nat) : Int) := by
  unfold sval
  rw [bit_sign _ (by omega), show (x % 9223372036854775808).toNat = x.toNat % 9223372036854775808 from by omega]
  by_cases c : 9223372036854775808 ≤ x
  · rw [if_pos c, decide_eq_true (by omega : 9223372036854775808 ≤ x.toNat)]; simp
  · rw [if_neg c, decide_eq_false (by omega : ¬ 9223372036854775808 ≤ x.toNat)]; simp

theorem pow_split (k b : Nat) (h : b ≤ k) : 2 ^ k = 2 ^ (k - b) * 2 ^ b := by rw [← Nat.pow_add]; congr 1; omega

theorem total_scaled (s t : Bool) (m n i j : Nat) :
    (Ieee.signed s m (i - min i j) + Ieee.signed t n (j - min i j)) * (2 ^ (min i j) : Nat) = (if s then -1 else 1) * ((m * 2 ^ i : Nat) : Int) + (if t then -1 else 1) * ((n * 2 ^ j : Nat) : Int) := by
  rw [shl_signed, shl_signed, Int.add_mul]
  have a := pow_split i (min i j) (Nat.min_le_left _ _)
  have b := pow_split j (min i j) (Nat.min_le_right _ _)
  have a' : ((m * 2 ^ i : Nat) : Int) = ((m * 2 ^ (i - min i j) : Nat) : Int) * ((2 ^ (min i j) : Nat) : Int) := by
    rw [← Int.natCast_mul, Nat.mul_assoc, ← a]
  have b' : ((n * 2 ^ j : Nat) : Int) = ((n * 2 ^ (j - min i j) : Nat) : Int) * ((2 ^ (min i j) : Nat) : Int) := by
    rw [← Int.natCast_mul, Nat.mul_assoc, ← b]
  rw [a', b', Int.mul_assoc, Int.mul_assoc]

theorem sumOf_finite (x y : Int) (h0 : 0 ≤ x) (h1 : x < 18446744073709551616) (hx : x % 9223372036854775808 < 9218868437227405312) (g0 : 0 ≤ y) (g1 : y < 18446744073709551616) (hy : y % 9223372036854775808 < 9218868437227405312) :
    sumOf x y = (if sval x + sval y < 0 then 9223372036854775808 else 0) + ((min (rungOf (sval x + sval y).natAbs) 9218868437227405312 : Nat) : Int) := by
  obtain ⟨m, i, e, em⟩ := read_finite x.toNat (by omega)
  obtain ⟨n, j, f, fn⟩ := read_finite y.toNat (by omega)
  rw [sval_toNat x h0 h1, sval_toNat y g0 g1, ← em, ← fn]
  generalize (x.toNat / 9223372036854775808 % 2 == 1) = s at e ⊢
  generalize (y.toNat / 9223372036854775808 % 2 == 1) = t at f ⊢
  unfold sumOf addWord Ieee.Format.add
  rw [e, f]
  simp only [Ieee.Datum.sum, Option.map_some, Ieee.Format.write]
  have tb : (min (-1074 + (i : Int)) (-1074 + (j : Int))) = -1074 + ((min i j : Nat) : Int) := by omega
  have t1 : (-1074 + (i : Int) - min (-1074 + (i : Int)) (-1074 + (j : Int))).toNat = i - min i j := by omega
  have t2 : (-1074 + (j : Int) - min (-1074 + (i : Int)) (-1074 + (j : Int))).toNat = j - min i j := by omega
  rw [t1, t2, tb, nearest_rung, word_double]
  have ts := total_scaled s t m n i j
  have hp : (0 : Int) < ((2 ^ (min i j) : Nat) : Int) := by have := Nat.two_pow_pos (min i j); omega
  rw [← ts]
  generalize Ieee.signed s m (i - min i j) + Ieee.signed t n (j - min i j) = T at ts ⊢
  have na : (T * ((2 ^ (min i j) : Nat) : Int)).natAbs = T.natAbs * 2 ^ (min i j) := by rw [Int.natAbs_mul]; rfl
  have ng : T * ((2 ^ (min i j) : Nat) : Int) < 0 ↔ T < 0 := by
    constructor
    · intro h
      rcases Int.lt_or_le T 0 with c | c
      · exact c
      · have := Int.mul_nonneg c (Int.le_of_lt hp); omega
    · intro h; exact Int.mul_neg_of_neg_of_pos h hp
  rw [na]
  by_cases z : T = 0
  · subst z
    simp only [if_true, Int.natAbs_zero, Nat.zero_mul, rung_zero, Int.zero_mul]
    cases s <;> cases t <;> decide +kernel
  · rw [if_neg z]
    have rp : rungOf (T.natAbs * 2 ^ (min i j)) ≠ 0 := rung_pos _ (Nat.mul_ne_zero (by omega) (by have := Nat.two_pow_pos (min i j); omega))
    generalize rungOf (T.natAbs * 2 ^ (min i j)) = R at rp ⊢
    by_cases c : T < 0
    · rw [decide_eq_true c, if_pos (ng.2 c)]
      simp only [if_true]
      rw [canon_of (by omega)]; omega
    · rw [decide_eq_false c, if_neg (fun h => c (ng.1 h))]
      simp only [Bool.false_eq_true, if_false]
      rw [canon_of (by omega)]; omega

theorem max_lo (x y : Int) (h0 : 0 ≤ x) (g0 : 0 ≤ y) : 0 ≤ maxOf x y := by
  unfold maxOf; split
  · exact canon_lo y g0
  · exact canon_lo x h0

theorem max_hi (x y : Int) (h1 : x < 18446744073709551616) (g1 : y < 18446744073709551616) : maxOf x y < 18446744073709551616 := by
  unfold maxOf; split
  · exact canon_hi y g1
  · exact canon_hi x h1

theorem rank_canon (x : Int) : rank (canon x) = rank x := by unfold rank; rw [canon_canon]

theorem rank_max (x y : Int) : rank (maxOf x y) = if rank x < rank y then rank y else rank x := by
  unfold maxOf; split <;> rw [rank_canon]

theorem canon_max (x y : Int) : canon (maxOf x y) = maxOf x y := by
  unfold maxOf; split <;> rw [canon_canon]

/-- Two canonical words of one rank are one. -/
theorem eq_of_rank {x y : Int} (h0 : 0 ≤ x) (h1 : x < 18446744073709551616) (g0 : 0 ≤ y) (g1 : y < 18446744073709551616) (hx : canon x = x) (hy : canon y = y) (h : rank x = rank y) : x = y := by
  have := (rank_inj x y h0 h1 g0 g1).1 h
  rw [hx, hy] at this; exact this

theorem max_comm (x y : Int) (h0 : 0 ≤ x) (h1 : x < 18446744073709551616) (g0 : 0 ≤ y) (g1 : y < 18446744073709551616) : maxOf y x = maxOf x y := by
  refine eq_of_rank (max_lo _ _ g0 h0) (max_hi _ _ g1 h1) (max_lo _ _ h0 g0) (max_hi _ _ h1 g1) (canon_max _ _) (canon_max _ _) ?_
  rw [rank_max, rank_max]; split <;> split <;> omega

theorem max_assoc (x y z : Int) (h0 : 0 ≤ x) (h1 : x < 18446744073709551616) (g0 : 0 ≤ y) (g1 : y < 18446744073709551616) (k0 : 0 ≤ z) (k1 : z < 18446744073709551616) : maxOf (maxOf x y) z = maxOf x (maxOf y z) := by
  refine eq_of_rank (max_lo _ _ (max_lo _ _ h0 g0) k0) (max_hi _ _ (max_hi _ _ h1 g1) k1) (max_lo _ _ h0 (max_lo _ _ g0 k0)) (max_hi _ _ h1 (max_hi _ _ g1 k1)) (canon_max _ _) (canon_max _ _) ?_
  rw [rank_max, rank_max, rank_max, rank_max]
  split <;> split <;> (try split) <;> (try split) <;> omega

theorem max_not_less_left (x y : Int) : less (maxOf x y) x = false := by
  simp only [less, decide_eq_false_iff_not, rank_max]; split <;> omega

theorem max_not_less_right (x y : Int) : less (maxOf x y) y = false := by
  simp only [less, decide_eq_false_iff_not, rank_max]; split <;> omega

theorem max_self (x : Int) : maxOf x x = canon x := by unfold maxOf; split <;> rfl

theorem max_or (x y : Int) (h : (maxOf x y == canon x) = false) : (maxOf x y == canon y) = true := by
  unfold maxOf at *
  by_cases c : rank x < rank y
  · rw [if_pos c]; simp
  · rw [if_neg c] at h; simp at h

theorem max_negInf (x : Int) (h0 : 0 ≤ x) (h1 : x < 18446744073709551616) : maxOf x 18442240474082181120 = canon x := by
  have h := less_negInf x h0 h1
  by_cases c : rank x < rank 18442240474082181120
  · have := less_negInf x h0 h1
    unfold maxOf; rw [if_pos c]
    simp only [less, decide_eq_false_iff_not] at h; exact absurd c h
  · unfold maxOf; rw [if_neg c]

theorem max_nan (x : Int) (h0 : 0 ≤ x) (h1 : x < 18446744073709551616) : maxOf x 9221120237041090561 = 9221120237041090561 := by
  by_cases k : kind x = 3
  · have e := (kind_three x).1 k
    unfold maxOf; split
    · exact canon_nan
    · exact e
  · have h := less_nan_right x h0 h1 k
    simp only [less, decide_eq_true_eq] at h
    unfold maxOf; rw [if_pos h]; exact canon_nan

end Go.Proofs.Ytjdbgmopmkdlcaa
