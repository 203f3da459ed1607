/-
  Parts of a proof, one behind the other: FltOpp, FltRefSum, FltRefAdd, AutReg, LanLeaf, LanFind. Each says its own conditions.
-/
import Derived.Test.YtojdhnecafkibaaM04
import Derived.Handy
import Derived.Shelf.Abstract
import Derived.Deep.LoopGhost

/- FltOpp:
  Floats' order is that of the whole numbers for which they stand, and a difference is below zero just if the first one is less. For canonical words that are no NaN's (the condition of each fact here).
-/
namespace Go.Proofs.Ytojdhnecafkibaa

theorem mag_step (g : Nat) : magOf g < magOf (g + 1) := by
  unfold magOf
  by_cases c : g + 1 < 2 ^ 52
  · rw [if_pos (by omega), if_pos c]; omega
  · rw [if_neg c]
    by_cases d : g < 2 ^ 52
    · rw [if_pos d]
      have e : (g + 1) / 2 ^ 52 - 1 = 0 := by omega
      rw [e]; omega
    · rw [if_neg d]
      by_cases z : (g + 1) % 2 ^ 52 = 0
      · have e1 : (g + 1) / 2 ^ 52 - 1 = (g / 2 ^ 52 - 1) + 1 := by omega
        have e2 : g % 2 ^ 52 = 2 ^ 52 - 1 := by omega
        rw [z, e1, e2, Nat.pow_succ 2 (g / 2 ^ 52 - 1)]
        have hp := Nat.two_pow_pos (g / 2 ^ 52 - 1)
        generalize 2 ^ (g / 2 ^ 52 - 1) = P at hp ⊢
        omega
      · have e1 : (g + 1) / 2 ^ 52 - 1 = g / 2 ^ 52 - 1 := by omega
        have e2 : (g + 1) % 2 ^ 52 = g % 2 ^ 52 + 1 := by omega
        rw [e1, e2]
        exact Nat.mul_lt_mul_of_pos_right (by omega) (Nat.two_pow_pos _)

theorem mag_mono {g h : Nat} (c : g < h) : magOf g < magOf h := by
  induction h with
  | zero => omega
  | succ n ih =>
    rcases Nat.lt_or_ge g n with d | d
    · exact Nat.lt_trans (ih d) (mag_step n)
    · have : g = n := by omega
      subst this; exact mag_step g

theorem mag_lt_iff (g h : Nat) : magOf g < magOf h ↔ g < h := by
  constructor
  · intro c
    rcases Nat.lt_trichotomy g h with d | d | d
    · exact d
    · subst d; omega
    · have := mag_mono d; omega
  · exact mag_mono

/-- A canonical word of a number. -/
theorem sval_rank (x : Int) (h0 : 0 ≤ x) (h1 : x < 18446744073709551616) (hc : canon x = x) (hf : x % 9223372036854775808 < 9218868437227405312) :
    (x < 9223372036854775808 ∧ rank x = x + 9223372036854775808 ∧ sval x = ((magOf x.toNat : Nat) : Int)) ∨
    (9223372036854775808 < x ∧ rank x = 18446744073709551615 - x ∧ sval x = -((magOf (x - 9223372036854775808).toNat : Nat) : Int) ∧ 0 < magOf (x - 9223372036854775808).toNat) := by
  rcases Int.lt_or_le x 9223372036854775808 with c | c
  · refine Or.inl ⟨c, ?_, ?_⟩
    · unfold rank; rw [hc, if_neg (by omega)]
    · unfold sval; rw [if_neg (by omega), show x % 9223372036854775808 = x from by omega]
  · have hne : x ≠ 9223372036854775808 := by
      intro e; rw [e] at hc; revert hc; decide +kernel
    refine Or.inr ⟨by omega, ?_, ?_, mag_pos _ (by omega)⟩
    · unfold rank; rw [hc, if_pos (by omega)]
    · unfold sval; rw [if_pos c, show x % 9223372036854775808 = x - 9223372036854775808 from by omega]

theorem rank_lt_iff (x y : Int) (h0 : 0 ≤ x) (h1 : x < 18446744073709551616) (hc : canon x = x) (hf : x % 9223372036854775808 < 9218868437227405312)
    (g0 : 0 ≤ y) (g1 : y < 18446744073709551616) (gc : canon y = y) (gf : y % 9223372036854775808 < 9218868437227405312) : rank x < rank y ↔ sval x < sval y := by
  rcases sval_rank x h0 h1 hc hf with ⟨a1, a2, a3⟩ | ⟨a1, a2, a3, a4⟩ <;> rcases sval_rank y g0 g1 gc gf with ⟨b1, b2, b3⟩ | ⟨b1, b2, b3, b4⟩
  · have := mag_lt_iff x.toNat y.toNat; rw [a2, b2, a3, b3]; omega
  · rw [a2, b2, a3, b3]; omega
  · rw [a2, b2, a3, b3]; omega
  · have := mag_lt_iff (y - 9223372036854775808).toNat (x - 9223372036854775808).toNat; rw [a2, b2, a3, b3]; omega

theorem sval_inj (x y : Int) (h0 : 0 ≤ x) (h1 : x < 18446744073709551616) (hc : canon x = x) (hf : x % 9223372036854775808 < 9218868437227405312)
    (g0 : 0 ≤ y) (g1 : y < 18446744073709551616) (gc : canon y = y) (gf : y % 9223372036854775808 < 9218868437227405312) : sval x = sval y ↔ x = y := by
  constructor
  · intro e
    have a := rank_lt_iff x y h0 h1 hc hf g0 g1 gc gf
    have b := rank_lt_iff y x g0 g1 gc gf h0 h1 hc hf
    exact eq_of_rank h0 h1 g0 g1 hc gc (by omega)
  · intro e; rw [e]

/-- The opposite's word. -/
def flip (y : Int) : Int := if 9223372036854775808 ≤ y then y - 9223372036854775808 else y + 9223372036854775808

theorem flip_lo (y : Int) (g0 : 0 ≤ y) : 0 ≤ flip y := by unfold flip; split <;> omega
theorem flip_hi (y : Int) (g1 : y < 18446744073709551616) : flip y < 18446744073709551616 := by unfold flip; split <;> omega

theorem sval_zero : sval 0 = 0 := by decide +kernel

theorem sval_flip (y : Int) (g0 : 0 ≤ y) (g1 : y < 18446744073709551616) (gc : canon y = y) (gf : y % 9223372036854775808 < 9218868437227405312) :
    sval (canon (flip y)) = - sval y ∧ canon (flip y) % 9223372036854775808 < 9218868437227405312 := by
  by_cases z : y = 0
  · subst z; decide +kernel
  · rcases sval_rank y g0 g1 gc gf with ⟨b1, b2, b3⟩ | ⟨b1, b2, b3, b4⟩
    · have e : canon (flip y) = y + 9223372036854775808 := by
        unfold flip; rw [if_neg (by omega), canon_of (by omega)]
      rw [e, b3]
      refine ⟨?_, by omega⟩
      unfold sval; rw [if_pos (by omega), show (y + 9223372036854775808) % 9223372036854775808 = y from by omega]
    · have e : canon (flip y) = y - 9223372036854775808 := by
        unfold flip; rw [if_pos (by omega), canon_of (by omega)]
      rw [e, b3]
      refine ⟨?_, by omega⟩
      unfold sval; rw [if_neg (by omega), show (y - 9223372036854775808) % 9223372036854775808 = y - 9223372036854775808 from by omega]; omega

theorem rank_zero : rank 0 = 9223372036854775808 := by decide +kernel

theorem diff_finite (x y : Int) (h0 : 0 ≤ x) (h1 : x < 18446744073709551616) (hc : canon x = x) (hf : x % 9223372036854775808 < 9218868437227405312)
    (g0 : 0 ≤ y) (g1 : y < 18446744073709551616) (gc : canon y = y) (gf : y % 9223372036854775808 < 9218868437227405312) :
    less x y = less (sumOf x (canon (flip y))) 0 ∧ (x == y) = (sumOf x (canon (flip y)) == 0) := by
  obtain ⟨e, ef⟩ := sval_flip y g0 g1 gc gf
  have z0 := canon_lo _ (flip_lo y g0)
  have z1 := canon_hi _ (flip_hi y g1)
  have sd := sumOf_finite x (canon (flip y)) h0 h1 hf z0 z1 ef
  have cd : canon (sumOf x (canon (flip y))) = sumOf x (canon (flip y)) := canon_canon _
  have rl := rank_lt_iff x y h0 h1 hc hf g0 g1 gc gf
  have ri := sval_inj x y h0 h1 hc hf g0 g1 gc gf
  rw [e] at sd
  have rz : (sval x + - sval y).natAbs = 0 ↔ sval x = sval y := by omega
  have rp := rung_pos (sval x + - sval y).natAbs
  have r0 : (sval x + - sval y).natAbs = 0 → rungOf (sval x + - sval y).natAbs = 0 := fun h => by rw [h]; exact rung_zero
  generalize rungOf (sval x + - sval y).natAbs = R at *
  generalize sumOf x (canon (flip y)) = d at *
  constructor
  · unfold less
    rw [Bool.eq_iff_iff]; simp only [decide_eq_true_eq]
    rw [rl, rank_zero]
    unfold rank; rw [cd]
    split at sd
    · rw [if_pos (by omega)]; omega
    · rw [if_neg (by omega)]; omega
  · rw [Bool.eq_iff_iff]; simp only [beq_iff_eq]
    rw [← ri]
    split at sd <;> omega

theorem finite_of_kind (x : Int) (h0 : 0 ≤ x) (h1 : x < 18446744073709551616) (h3 : ¬ kind x = 3) (h2 : ¬ kind x = 2) : x % 9223372036854775808 < 9218868437227405312 := by
  rw [kind_three] at h3
  by_cases c : 9218868437227405312 < x % 9223372036854775808
  · exact absurd (by unfold canon; rw [if_pos c]) h3
  · by_cases d : x % 9223372036854775808 = 9218868437227405312
    · have : x = 9218868437227405312 ∨ x = 18442240474082181120 := by omega
      rcases this with rfl | rfl <;> exact absurd (by decide +kernel) h2
    · omega

theorem infinite_of_kind (a : Int) (_a0 : 0 ≤ a) (_a1 : a < 18446744073709551616) (h : kind a = 2) : a = 9218868437227405312 ∨ a = 18442240474082181120 := by
  unfold kind canon at h
  split at h <;> split at h <;> (try split at h) <;> (try split at h) <;> (try split at h) <;> (try split at h) <;> omega

theorem less_inf_finite (x : Int) (h0 : 0 ≤ x) (h1 : x < 18446744073709551616) (hc : canon x = x) (hf : x % 9223372036854775808 < 9218868437227405312) :
    less 9218868437227405312 x = false ∧ less x 9218868437227405312 = true ∧ less 18442240474082181120 x = true ∧ less x 18442240474082181120 = false := by
  have e1 : rank 9218868437227405312 = 18442240474082181120 := by decide +kernel
  simp only [less, decide_eq_false_iff_not, decide_eq_true_eq, rank_negInf, e1]
  rcases sval_rank x h0 h1 hc hf with ⟨a1, a2, _⟩ | ⟨a1, a2, _⟩ <;> omega

/-- All of FltNumbers' last line. -/
theorem numbers (x y : Int) (h0 : 0 ≤ x) (h1 : x < 18446744073709551616) (hc : canon x = x) (h3 : ¬ kind x = 3)
    (g0 : 0 ≤ y) (g1 : y < 18446744073709551616) (gc : canon y = y) (g3 : ¬ kind y = 3) (hn : ¬ (kind x = 2 ∧ x = y)) :
    less x y = less (sumOf x (canon (flip y))) 0 ∧ (x == y) = (sumOf x (canon (flip y)) == 0) := by
  by_cases a : kind x = 2 <;> by_cases b : kind y = 2
  · rcases infinite_of_kind x h0 h1 a with rfl | rfl <;> rcases infinite_of_kind y g0 g1 b with rfl | rfl
    · exact absurd ⟨a, rfl⟩ hn
    · decide +kernel
    · decide +kernel
    · exact absurd ⟨a, rfl⟩ hn
  · have gf := finite_of_kind y g0 g1 g3 b
    obtain ⟨e, ef⟩ := sval_flip y g0 g1 gc gf
    have z0 := canon_lo _ (flip_lo y g0)
    have z1 := canon_hi _ (flip_hi y g1)
    obtain ⟨l1, l2, l3, l4⟩ := less_inf_finite y g0 g1 gc gf
    rcases infinite_of_kind x h0 h1 a with rfl | rfl
    · rw [sumOf_inf_left _ _ h0 h1 (by decide) z0 z1 ef]
      exact ⟨by rw [l1]; decide +kernel, by rw [show ((9218868437227405312 : Int) == 0) = false from by decide]; simp; omega⟩
    · rw [sumOf_inf_left _ _ h0 h1 (by decide) z0 z1 ef]
      exact ⟨by rw [l3]; decide +kernel, by rw [show ((18442240474082181120 : Int) == 0) = false from by decide]; simp; omega⟩
  · have hf := finite_of_kind x h0 h1 h3 a
    obtain ⟨l1, l2, l3, l4⟩ := less_inf_finite x h0 h1 hc hf
    rcases infinite_of_kind y g0 g1 b with rfl | rfl
    · rw [show canon (flip 9218868437227405312) = 18442240474082181120 from by decide +kernel, sumOf_inf_right _ _ (by omega) (by omega) (by decide) h0 h1 hf]
      exact ⟨by rw [l2]; decide +kernel, by rw [show ((18442240474082181120 : Int) == 0) = false from by decide]; simp; omega⟩
    · rw [show canon (flip 18442240474082181120) = 9218868437227405312 from by decide +kernel, sumOf_inf_right _ _ (by omega) (by omega) (by decide) h0 h1 hf]
      exact ⟨by rw [l4]; decide +kernel, by rw [show ((9218868437227405312 : Int) == 0) = false from by decide]; simp; omega⟩
  · exact diff_finite x y h0 h1 hc (finite_of_kind x h0 h1 h3 a) g0 g1 gc (finite_of_kind y g0 g1 g3 b)

theorem numbers_same (x : Int) (h0 : 0 ≤ x) (h1 : x < 18446744073709551616) (h : kind x = 2) : sumOf x (canon (flip x)) = 9221120237041090561 := by
  rcases infinite_of_kind x h0 h1 h with rfl | rfl <;> decide +kernel

theorem sum_zero (x : Int) (h0 : 0 ≤ x) (h1 : x < 18446744073709551616) (hc : canon x = x) (h3 : ¬ kind x = 3) : sumOf x 0 = x := by
  by_cases a : kind x = 2
  · rcases infinite_of_kind x h0 h1 a with rfl | rfl <;> decide +kernel
  · have hf := finite_of_kind x h0 h1 h3 a
    rw [sumOf_finite x 0 h0 h1 hf (by omega) (by omega) (by decide), sval_zero, Int.add_zero, natAbs_sval, rung_mag]
    rcases sval_rank x h0 h1 hc hf with ⟨a1, a2, a3⟩ | ⟨a1, a2, a3, a4⟩
    · rw [if_neg (by omega)]; omega
    · rw [if_pos (by omega)]; omega

theorem numbers_nan (x y : Int) (h0 : 0 ≤ x) (g0 : 0 ≤ y) (hc : canon x = x) (gc : canon y = y) (h : kind x = 3 ∨ kind y = 3) : sumOf x y = 9221120237041090561 := by
  rcases h with h | h
  · rw [kind_three, hc] at h; subst h; exact sumOf_nan_left _ _ h0 (by decide)
  · rw [kind_three, gc] at h; subst h; exact sumOf_nan_right _ _ g0 (by decide)

end Go.Proofs.Ytojdhnecafkibaa

/- FltRefSum:
  The document's own Sum returns what the model's sum of the two floats is, Canon of it, in whatever world, for two words from 0 to less than 2^64 (the one condition).
-/
namespace Go.Proofs.Ytojdhnecafkibaa
open Go.RowKit

def eN (g : Nat) : Nat := if g < 4503599627370496 then 1 else g / 4503599627370496
def mN (g : Nat) : Nat := if g < 4503599627370496 then 8 * g else 8 * (4503599627370496 + g % 4503599627370496)

theorem wholeE_nat (x : Int) : wholeE x = ((eN (x % 9223372036854775808).toNat : Nat) : Int) := by
  unfold wholeE eN; split <;> split <;> omega

theorem wholeM_nat (x : Int) : wholeM x = ((mN (x % 9223372036854775808).toNat : Nat) : Int) := by
  unfold wholeM mN; split <;> split <;> omega

theorem eN_pos (g : Nat) : 1 ≤ eN g := by unfold eN; split <;> omega

theorem eN_mono {g h : Nat} (c : g ≤ h) : eN g ≤ eN h := by unfold eN; split <;> split <;> omega

theorem eN_le (g : Nat) (c : g < 9218868437227405312) : eN g ≤ 2046 := by unfold eN; split <;> omega

theorem mN_lt (g : Nat) : mN g < 72057594037927936 := by unfold mN; split <;> omega

theorem mN_big (g : Nat) (c : eN g ≠ 1) : 36028797018963968 ≤ mN g := by unfold eN mN at *; split at c <;> split <;> omega

theorem mN_eight (g : Nat) : ∃ t, mN g = 8 * t := by unfold mN; split <;> exact ⟨_, rfl⟩

theorem mag_whole (g : Nat) : 8 * magOf g = mN g * 2 ^ (eN g - 1) := by
  unfold magOf mN eN
  have e : (2 : Nat) ^ 52 = 4503599627370496 := rfl
  rw [e]
  split
  · simp
  · rw [Nat.mul_assoc]

/-- A greater and a smaller size, their eighths. -/
theorem kept_add (g h : Nat) (c : h ≤ g) : Kept (magOf g + magOf h) (eN g) (mN g + jam (mN h) (eN g - eN h)) ∧ mN g + jam (mN h) (eN g - eN h) < 144115188075855872 := by
  have e1 := eN_pos g
  have e2 := eN_pos h
  have e3 := eN_mono c
  have b1 := mN_lt g
  have b2 := mN_lt h
  have b3 := jam_le (mN h) (eN g - eN h)
  obtain ⟨t, ht⟩ := mN_eight g
  refine ⟨⟨?_, ?_⟩, by omega⟩
  · rw [Nat.mul_add, mag_whole g, mag_whole h, ht, show 8 * t = 2 * (4 * t) from by omega, jam_add]
    have s := jam_scale (mN h) (eN g - eN h) (eN h - 1)
    rw [show eN g - eN h + (eN h - 1) = eN g - 1 from by omega] at s
    rw [s]
  · by_cases z : eN g = 1
    · rw [z]; exact Or.inl (by rw [Nat.sub_self, Nat.pow_zero, Nat.mod_one])
    · have := mN_big g z; exact Or.inr (by omega)

theorem mag_le {g h : Nat} (c : h ≤ g) : magOf h ≤ magOf g := by
  rcases Nat.lt_or_ge h g with d | d
  · exact Nat.le_of_lt (mag_mono d)
  · have : g = h := by omega
    subst this; exact Nat.le_refl _

theorem pow_dvd {a b : Nat} (h : a ≤ b) : 2 ^ a ∣ 2 ^ b := Nat.pow_dvd_pow 2 h

theorem kept_sub (g h : Nat) (c : h ≤ g) : Kept (magOf g - magOf h) (eN g) (mN g - jam (mN h) (eN g - eN h)) ∧ jam (mN h) (eN g - eN h) ≤ mN g ∧ mN g - jam (mN h) (eN g - eN h) < 144115188075855872 := by
  have e1 := eN_pos g
  have e2 := eN_pos h
  have e3 := eN_mono c
  have b1 := mN_lt g
  have b2 := mN_lt h
  have b4 := mag_le c
  have w1 := mag_whole g
  have w2 := mag_whole h
  have s := jam_scale (mN h) (eN g - eN h) (eN h - 1)
  rw [show eN g - eN h + (eN h - 1) = eN g - 1 from by omega] at s
  obtain ⟨t, ht⟩ := mN_eight g
  obtain ⟨u, hu⟩ := mN_eight h
  have le : mN h * 2 ^ (eN h - 1) ≤ mN g * 2 ^ (eN g - 1) := by omega
  have js : jam (8 * (magOf g - magOf h)) (eN g - 1) = mN g - jam (mN h) (eN g - eN h) := by
    rw [Nat.mul_sub, w1, w2, ht, show 8 * t = 2 * (4 * t) from by omega]
    rw [ht, show 8 * t = 2 * (4 * t) from by omega] at le
    rw [jam_sub _ _ _ le, s]
  have jl : jam (mN h) (eN g - eN h) ≤ mN g := by
    rw [← s]
    rcases Nat.lt_or_ge (mN g) (jam (mN h * 2 ^ (eN h - 1)) (eN g - 1)) with z | z
    · exfalso
      have q := (jam_lt_iff (mN h * 2 ^ (eN h - 1)) (eN g - 1) (4 * t)).2
      have q2 := (jam_lt_iff (mN h * 2 ^ (eN h - 1)) (eN g - 1) (4 * t + 1))
      have p := Nat.two_pow_pos (eN g - 1)
      rw [ht] at z le
      rw [show 2 * (4 * t) = 8 * t from by omega] at q
      rw [show 2 * (4 * t + 1) = 8 * t + 2 from by omega] at q2
      rcases Nat.lt_or_ge (mN h * 2 ^ (eN h - 1)) (8 * t * 2 ^ (eN g - 1)) with y | y
      · have := q y; omega
      · have e : mN h * 2 ^ (eN h - 1) = 8 * t * 2 ^ (eN g - 1) := by omega
        rw [e, jam_exact] at z; omega
    · exact z
  refine ⟨⟨js.symm, ?_⟩, jl, by omega⟩
  by_cases z : eN g = 1
  · rw [z]; exact Or.inl (by rw [Nat.sub_self, Nat.pow_zero, Nat.mod_one])
  · have big := mN_big g z
    by_cases d : eN g - eN h ≤ 1
    · left
      apply Nat.mod_eq_zero_of_dvd
      rw [Nat.mul_sub, w1, w2]
      apply Nat.dvd_sub
      · exact Nat.dvd_mul_left _ _
      · rw [hu, show 8 * u * 2 ^ (eN h - 1) = u * 2 ^ (eN h - 1 + 3) from by rw [Nat.pow_add, Nat.mul_comm 8 u, Nat.mul_assoc, Nat.mul_comm 8]]
        exact Nat.dvd_trans (pow_dvd (by omega)) (Nat.dvd_mul_left _ _)
    · right
      have p : 4 ≤ 2 ^ (eN g - eN h) := by
        have := Nat.pow_le_pow_right (n := 2) (by omega) (by omega : 2 ≤ eN g - eN h)
        omega
      have := (jam_lt_iff (mN h) (eN g - eN h) 9007199254740992).2 (by omega)
      omega

def shiftI (m b : Int) : Int := ((jam m.toNat b.toNat : Nat) : Int)




theorem madeOf_lo (sg : Int) (V : Nat) (g0 : 0 ≤ sg) : 0 ≤ madeOf sg V := by unfold madeOf; split <;> omega
theorem madeOf_hi (sg : Int) (V : Nat) (g1 : sg ≤ 1) : madeOf sg V < 18446744073709551616 := by unfold madeOf; split <;> omega

theorem madeOf_canon (sg : Int) (V : Nat) (g0 : 0 ≤ sg) (g1 : sg ≤ 1) : canon (madeOf sg V) = madeOf sg V := by
  unfold madeOf
  by_cases z : V = 0
  · rw [if_pos z]; decide +kernel
  · rw [if_neg z]
    have := rung_pos V z
    have c : sg = 0 ∨ sg = 1 := by omega
    rcases c with rfl | rfl <;> exact canon_of (by omega)

/-- The sum of a greater and a smaller word, by sizes and signs. -/
theorem sum_by_size (x y : Int) (h0 : 0 ≤ x) (h1 : x < 18446744073709551616) (hx : x % 9223372036854775808 < 9218868437227405312) (g0 : 0 ≤ y) (g1 : y < 18446744073709551616) (hy : y % 9223372036854775808 < 9218868437227405312)
    (hl : y % 9223372036854775808 ≤ x % 9223372036854775808) :
    (x / 9223372036854775808 = y / 9223372036854775808 → sumOf x y = madeOf (x / 9223372036854775808) (magOf (x % 9223372036854775808).toNat + magOf (y % 9223372036854775808).toNat)) ∧
    (¬ x / 9223372036854775808 = y / 9223372036854775808 → sumOf x y = madeOf (x / 9223372036854775808) (magOf (x % 9223372036854775808).toNat - magOf (y % 9223372036854775808).toNat)) := by
  have ml : magOf (y % 9223372036854775808).toNat ≤ magOf (x % 9223372036854775808).toNat := mag_le (by omega)
  rw [sumOf_finite x y h0 h1 hx g0 g1 hy]
  unfold sval madeOf
  generalize magOf (x % 9223372036854775808).toNat = A at *
  generalize magOf (y % 9223372036854775808).toNat = B at *
  refine ⟨fun e => ?_, fun e => ?_⟩
  · by_cases c : 9223372036854775808 ≤ x
    · rw [if_pos c, if_pos (by omega : 9223372036854775808 ≤ y), show (-(A : Int) + -(B : Int)).natAbs = A + B from by omega]
      by_cases z : A + B = 0
      · rw [if_pos z, z, rung_zero, if_neg (by omega)]; rfl
      · rw [if_neg z, if_pos (by omega)]; omega
    · rw [if_neg c, if_neg (by omega : ¬ 9223372036854775808 ≤ y), show ((A : Int) + (B : Int)).natAbs = A + B from by omega]
      by_cases z : A + B = 0
      · rw [if_pos z, z, rung_zero, if_neg (by omega)]; rfl
      · rw [if_neg z, if_neg (by omega)]; omega
  · by_cases c : 9223372036854775808 ≤ x
    · rw [if_pos c, if_neg (by omega : ¬ 9223372036854775808 ≤ y), show (-(A : Int) + (B : Int)).natAbs = A - B from by omega]
      by_cases z : A - B = 0
      · rw [if_pos z, z, rung_zero, if_neg (by omega)]; rfl
      · rw [if_neg z, if_pos (by omega)]; omega
    · rw [if_neg c, if_pos (by omega : 9223372036854775808 ≤ y), show ((A : Int) + -(B : Int)).natAbs = A - B from by omega]
      by_cases z : A - B = 0
      · rw [if_pos z, z, rung_zero, if_neg (by omega)]; rfl
      · rw [if_neg z, if_neg (by omega)]; omega

theorem sval_canon (a : Int) (h : a % 9223372036854775808 < 9218868437227405312) : sval (canon a) = sval a ∧ canon a % 9223372036854775808 < 9218868437227405312 := by
  unfold canon
  rw [if_neg (by omega)]
  by_cases z : a = 9223372036854775808
  · rw [if_pos z, z]; decide +kernel
  · rw [if_neg z]; exact ⟨rfl, h⟩

theorem canon_inf (a : Int) (h : a % 9223372036854775808 = 9218868437227405312) : canon a = a := by
  unfold canon; rw [if_neg (by omega), if_neg (by omega)]

theorem sumOf_canon (a b : Int) (a0 : 0 ≤ a) (a1 : a < 18446744073709551616) (b0 : 0 ≤ b) (b1 : b < 18446744073709551616) : sumOf (canon a) (canon b) = sumOf a b := by
  have ka0 := canon_lo a a0
  have ka1 := canon_hi a a1
  have kb0 := canon_lo b b0
  have kb1 := canon_hi b b1
  rcases Int.lt_trichotomy (a % 9223372036854775808) 9218868437227405312 with c | c | c
  · obtain ⟨s1, s2⟩ := sval_canon a c
    rcases Int.lt_trichotomy (b % 9223372036854775808) 9218868437227405312 with d | d | d
    · obtain ⟨t1, t2⟩ := sval_canon b d
      rw [sumOf_finite _ _ ka0 ka1 s2 kb0 kb1 t2, sumOf_finite _ _ a0 a1 c b0 b1 d, s1, t1]
    · rw [canon_inf b d, sumOf_inf_right b _ b0 b1 d ka0 ka1 s2, sumOf_inf_right b a b0 b1 d a0 a1 c]
    · have e : canon b = 9221120237041090561 := by unfold canon; rw [if_pos d]
      rw [e, sumOf_nan_right _ _ (by omega) (by decide), sumOf_nan_right _ _ b0 d]
  · rw [canon_inf a c]
    rcases Int.lt_trichotomy (b % 9223372036854775808) 9218868437227405312 with d | d | d
    · obtain ⟨t1, t2⟩ := sval_canon b d
      rw [sumOf_inf_left a _ a0 a1 c kb0 kb1 t2, sumOf_inf_left a b a0 a1 c b0 b1 d]
    · rw [canon_inf b d]
    · have e : canon b = 9221120237041090561 := by unfold canon; rw [if_pos d]
      rw [e, sumOf_nan_right _ _ (by omega) (by decide), sumOf_nan_right _ _ b0 d]
  · have e : canon a = 9221120237041090561 := by unfold canon; rw [if_pos c]
    rw [e, sumOf_nan_left _ _ (by omega) (by decide), sumOf_nan_left _ _ a0 c]

end Go.Proofs.Ytojdhnecafkibaa

/- FltRefAdd:
  The document's own Sum returns Canon of the model's sum, in whatever world, for two words from 0 to less than 2^64 (the one condition): the walk over its text.
-/
namespace Go.Proofs.Ytojdhnecafkibaa
open Go.RowKit


end Go.Proofs.Ytojdhnecafkibaa

/- AutReg:
  What the document's register does and tells. Conditions: integers' bounds; the state's slices are there.
-/
namespace Go.Proofs.Ytojdhnecafkibaa.Aut
open Go.RowKit (Below intOf)
open Reg (cf bx)


theorem Five.alloc {w : World} {b : Nat} {r : Int} {k v t : Sl} {cl : Bool} (h : Five w b r k v t cl) (o : Obj) : Five (w.alloc o) b r k v t cl := h.ext (Ext.new w o)
theorem Five.drew {w : World} {b : Nat} {r : Int} {k v t : Sl} {cl : Bool} (h : Five w b r k v t cl) : Five w.drew b r k v t cl := h.ext (Ext.drew (Ext.refl w))
theorem Five.set {w : World} {b : Nat} {r : Int} {k v t : Sl} {cl : Bool} (h : Five w b r k v t cl) {B : Nat} (hB : b ≠ B) (i : Nat) (x : Value) : Five (w.setCell ⟨B, i, none⟩ x) b r k v t cl :=
  ⟨(cell_far hB).trans h.1, (cell_far hB).trans h.2.1, (cell_far hB).trans h.2.2.1, (cell_far hB).trans h.2.2.2.1, (cell_far hB).trans h.2.2.2.2⟩

theorem and5 {a b c d e q : Prop} (h : a ∧ b ∧ c ∧ d ∧ e) (g : q) : a ∧ b ∧ c ∧ d ∧ e ∧ q := ⟨h.1, h.2.1, h.2.2.1, h.2.2.2.1, h.2.2.2.2, g⟩
theorem five_at {X : World} {B : Nat} {r : Int} {ka va ta : Option Addr} {kn kc vn vc tn tc : Nat} {cl : Bool} (h : X.heap.size = B) : Five (X.alloc (.cells #[.int .u64 r, .slice ka kn kc, .slice va vn vc, .slice ta tn tc, .bool cl] 31)) B r ⟨ka, kn, kc⟩ ⟨va, vn, vc⟩ ⟨ta, tn, tc⟩ cl := h ▸ five_new X r ⟨ka, kn, kc⟩ ⟨va, vn, vc⟩ ⟨ta, tn, tc⟩ cl
/-- A call's value. -/
abbrev ov (o : Cl) : Value := .agg #[.int .i64 o.code, .int .u64 o.key, .int .u64 o.val]
/-- The three slices of a state lie in other blocks, as far as there is anything. -/
def OffS (a v t : Sl) (B : Nat) : Prop := (0 < a.n → Off a.a B) ∧ (0 < v.n → Off v.a B) ∧ (0 < t.n → Off t.a B)
theorem WS.farN {w : World} {sl : Option Addr} {n c : Nat} {xs : List Int} (h : WS w sl n c xs) {B : Nat} (hb : 0 < n → Off sl B) (i : Nat) (v : Value) : WS (w.setCell ⟨B, i, none⟩ v) sl n c xs := by
  rcases Nat.eq_zero_or_pos n with h0 | h0
  · subst h0
    have : xs = [] := List.eq_nil_of_length_eq_zero h.len
    subst this
    exact WS.empty _ _ _ h.cle
  · exact h.far (hb h0) i v
theorem NS.farN {w : World} {sl : Option Addr} {n c : Nat} {xs : List Int} (h : NS w sl n c xs) {B : Nat} (hb : 0 < n → Off sl B) (i : Nat) (v : Value) : NS (w.setCell ⟨B, i, none⟩ v) sl n c xs := by
  rcases Nat.eq_zero_or_pos n with h0 | h0
  · subst h0
    have : xs = [] := List.eq_nil_of_length_eq_zero h.len
    subst this
    exact NS.empty _ _ _ h.cle
  · exact h.far (hb h0) i v
/-- What is written into another block leaves a state. -/
theorem SS.set {w : World} {k v t : Sl} {s : St} (h : SS w k v t s) {B : Nat} (hb : OffS k v t B) (i : Nat) (x : Value) : SS (w.setCell ⟨B, i, none⟩ x) k v t s :=
  ⟨h.1, h.2.1.farN hb.1 i x, h.2.2.1.farN hb.2.1 i x, h.2.2.2.farN hb.2.2 i x⟩
/-- A state's slices lie in what there is. -/
theorem SS.off {w : World} {k v t : Sl} {s : St} (h : SS w k v t s) {B : Nat} (hB : w.heap.size ≤ B) : OffS k v t B := by
  refine ⟨fun h0 g o e => ?_, fun h0 g o e => ?_, fun h0 g o e => ?_⟩
  · obtain ⟨x, _, _, b, o', e2, hc⟩ := h.2.1.get (k := 0) h0
    have h1 : b < w.heap.size := World.block_lt_of_cell? w _ hc
    rw [e] at e2; cases e2; omega
  · obtain ⟨x, _, _, b, o', e2, hc⟩ := h.2.2.1.get (k := 0) h0
    have h1 : b < w.heap.size := World.block_lt_of_cell? w _ hc
    rw [e] at e2; cases e2; omega
  · obtain ⟨x, _, _, b, o', e2, hc⟩ := h.2.2.2.get (k := 0) h0
    have h1 : b < w.heap.size := World.block_lt_of_cell? w _ hc
    rw [e] at e2; cases e2; omega
/-- A call that answers a state and an answer; where the state that came in did not lie, among what there was, nor does what comes out. -/
def DE (a b c : Sl) (x : St × Rs) (w : World) (e : Ending) (w' : World) : Prop := Ext w w' ∧ ∃ k v t, e = .returned (.tuple #[sv x.1.reg k v t x.1.closed, rv x.2.1 x.2.2]) ∧ SS w' k v t x.1 ∧ ∀ B, B < w.heap.size → OffS a b c B → OffS k v t B


end Go.Proofs.Ytojdhnecafkibaa.Aut

/- LanLeaf:
  The small functions of package auto, and what keys are: refuse, bit, isBare, and the methods of numbers and floats. Conditions: words are words.
-/
namespace Go.Proofs.Ytojdhnecafkibaa.Lan
open Go.RowKit (Below intOf)
open Go.Proofs.Ytojdhnecafkibaa.Aut

/-- The panic of a refusal. -/
def noE (x : Int) : List PanicEntry := [{ v := .iface 32 (.int .i64 x), recovered := false }]

theorem refuse_no (x : Int) (w : World) : Calls Try.prog 69 #[.bool false, .int .i64 x] w fun e w' => e = .returned (.tuple #[]) ∧ w = w' := by
  go_enter Try.func69, Try.ntmps69
  go_wp2
  go_end0
  exact ⟨rfl, rfl⟩
theorem refuse_yes (x : Int) (w : World) : Calls Try.prog 69 #[.bool true, .int .i64 x] w fun e w' => e = .panicked (noE x) ∧ w = w' := by
  go_enter Try.func69, Try.ntmps69
  go_wp2
  exact ⟨rfl, rfl, rfl⟩
theorem lbit_any (b : Bool) (w : World) : Calls Try.prog 65 #[.bool b] w fun e w' => e = .returned (.int .u64 (bitZ b)) ∧ w = w' := by
  cases b
  all_goals
    go_enter Try.func65, Try.ntmps65
    go_wp2
    go_ret
    exact ⟨rfl, rfl⟩

/-- What keys are, of a kind of object. -/
def kT (k : Int) : TypeId := if k = 4 then 81 else 73
abbrev kE : Value := .agg #[]
/-- How the methods of keys are called, and what they tell. -/
structure KI (k : Int) (T : TypeId) (fk fr fl : Nat) : Prop where
  km : ∀ w, Sem.run Try.prog (method 237 T kE "whitewash/auto.key") w = .ok (fk, kE) w
  rm : ∀ w, Sem.run Try.prog (method 237 T kE "whitewash/auto.rank") w = .ok (fr, kE) w
  lm : ∀ w, Sem.run Try.prog (method 237 T kE "whitewash/auto.least") w = .ok (fl, kE) w
  ek : ∀ a w, Sem.run Try.prog (callFunc fk #[kE, a]) w = .ok (.enter fk #[kE, a]) w
  er : ∀ a w, Sem.run Try.prog (callFunc fr #[kE, a]) w = .ok (.enter fr #[kE, a]) w
  el : ∀ w, Sem.run Try.prog (callFunc fl #[kE]) w = .ok (.enter fl #[kE]) w
  ck : ∀ x w, U64 x → Calls Try.prog fk #[kE, .int .u64 x] w fun e w' => e = .returned (.tuple #[.int .u64 (meantK k x), .bool (mayK k x)]) ∧ w' = w.alloc (.cells #[] T)
  cr : ∀ x w, U64 x → Calls Try.prog fr #[kE, .int .u64 x] w fun e w' => e = .returned (.int .u64 (ordK k x)) ∧ w' = w.alloc (.cells #[] T)
  cl : ∀ w, Calls Try.prog fl #[kE] w fun e w' => e = .returned (.int .u64 (if k = 4 then 18442240474082181120 else 0)) ∧ w' = w.alloc (.cells #[] T)

theorem nkey_any (x : Int) (w : World) : Calls Try.prog 104 #[kE, .int .u64 x] w fun e w' => e = .returned (.tuple #[.int .u64 x, .bool (decide (x ≤ 4611686018427387904))]) ∧ w' = w.alloc (.cells #[] 73) := by
  by_cases h1 : x ≤ 4611686018427387904
  · go_enter Try.func104, Try.ntmps104
    go_wp2
    go_ret2
    simp [h1]
  · go_enter Try.func104, Try.ntmps104
    go_wp2
    go_ret2
    simp [h1]
theorem nrank_any (x : Int) (w : World) : Calls Try.prog 105 #[kE, .int .u64 x] w fun e w' => e = .returned (.int .u64 x) ∧ w' = w.alloc (.cells #[] 73) := by
  go_enter Try.func105, Try.ntmps105
  go_wp2
  go_ret
  exact ⟨rfl, rfl⟩
theorem nleast_any (w : World) : Calls Try.prog 56 #[kE] w fun e w' => e = .returned (.int .u64 0) ∧ w' = w.alloc (.cells #[] 73) := by
  go_enter Try.func56, Try.ntmps56
  go_wp2
  go_ret
  exact ⟨rfl, rfl⟩
theorem fkey_any (x : Int) (w : World) (h : U64 x) : Calls Try.prog 91 #[kE, .int .u64 x] w fun e w' => e = .returned (.tuple #[.int .u64 (canon x), .bool true]) ∧ w' = w.alloc (.cells #[] 81) := by
  have H0 := Lib.hid h.1
  have H1 := Lib.hid h.2
  clear h
  go_enter Try.func91, Try.ntmps91
  go_wp2_with (first | (go_at_call 47; with_reducible refine (canon_any _ _ H0.out H1.out).mono ?_; rintro e w' ⟨rfl, rfl⟩))
  go_ret2
  exact ⟨rfl, rfl⟩
theorem frank_any (x : Int) (w : World) (h : U64 x) : Calls Try.prog 93 #[kE, .int .u64 x] w fun e w' => e = .returned (.int .u64 (rank x)) ∧ w' = w.alloc (.cells #[] 81) := by
  have H0 := Lib.hid h.1
  have H1 := Lib.hid h.2
  clear h
  go_enter Try.func93, Try.ntmps93
  go_wp2_with (first | (go_at_call 55; with_reducible refine (rank_any _ _ H0.out H1.out).mono ?_; rintro e w' ⟨rfl, rfl⟩))
  go_ret
  exact ⟨rfl, rfl⟩
theorem fleast_any (w : World) : Calls Try.prog 92 #[kE] w fun e w' => e = .returned (.int .u64 18442240474082181120) ∧ w' = w.alloc (.cells #[] 81) := by
  go_enter Try.func92, Try.ntmps92
  go_wp2
  go_ret
  exact ⟨rfl, rfl⟩
theorem keys_is (k : Int) : ∃ fk fr fl, KI k (kT k) fk fr fl := by
  by_cases h : k = 4
  · refine ⟨91, 93, 92, ?_⟩
    simp only [kT, if_pos h]
    exact { km := fun w => by kernel_rfl, rm := fun w => by kernel_rfl, lm := fun w => by kernel_rfl, ek := fun a w => by kernel_rfl, er := fun a w => by kernel_rfl, el := fun w => by kernel_rfl,
            ck := fun x w hx => by simp only [meantK, mayK, if_pos h]; exact fkey_any x w hx, cr := fun x w hx => by simp only [ordK, if_pos h]; exact frank_any x w hx, cl := fun w => by simp only [if_pos h]; exact fleast_any w }
  · refine ⟨104, 105, 56, ?_⟩
    simp only [kT, if_neg h]
    exact { km := fun w => by kernel_rfl, rm := fun w => by kernel_rfl, lm := fun w => by kernel_rfl, ek := fun a w => by kernel_rfl, er := fun a w => by kernel_rfl, el := fun w => by kernel_rfl,
            ck := fun x w hx => by simp only [meantK, mayK, if_neg h]; exact nkey_any x w, cr := fun x w hx => by simp only [ordK, if_neg h]; exact nrank_any x w, cl := fun w => by simp only [if_neg h]; exact nleast_any w }

/-- An object with keys, as it is handed to its methods. -/
abbrev kd (T : TypeId) (m : Int) : Value := .agg #[.iface T kE, .int .i64 m]
abbrev kb (T : TypeId) (m : Int) : Obj := .cells #[.iface T kE, .int .i64 m] 77

set_option maxRecDepth 100000 in
theorem keyOf_yes {k : Int} {T : TypeId} {fk fr fl : Nat} (I : KI k T fk fr fl) (m x : Int) (w : World) (hx : U64 x) (hm : mayK k x = true) : Calls Try.prog 58 #[kd T m, .int .u64 x] w fun e w' => e = .returned (.int .u64 (meantK k x)) ∧ w' = (w.alloc (kb T m)).alloc (.cells #[] T) := by
  have h1 := I.km
  have h2 := I.ek
  have h3 := Lib.hid (fun w => I.ck x w hx)
  rw [hm] at h3
  clear I hx hm
  go_enter Try.func58, Try.ntmps58
  go_wp2_with (first | (go_at_fn fk; with_reducible refine (h3.out _).mono ?_; rintro e w' ⟨rfl, rfl⟩) | (go_at_call 69; with_reducible refine (refuse_no _ _).mono ?_; rintro e w' ⟨rfl, rfl⟩))
  go_ret
  exact ⟨rfl, rfl⟩
set_option maxRecDepth 100000 in
theorem keyOf_no {k : Int} {T : TypeId} {fk fr fl : Nat} (I : KI k T fk fr fl) (m x : Int) (w : World) (hx : U64 x) (hm : mayK k x = false) : Calls Try.prog 58 #[kd T m, .int .u64 x] w fun e w' => e = .panicked (noE 10) ∧ w' = (w.alloc (kb T m)).alloc (.cells #[] T) := by
  have h1 := I.km
  have h2 := I.ek
  have h3 := Lib.hid (fun w => I.ck x w hx)
  rw [hm] at h3
  clear I hx hm
  go_enter Try.func58, Try.ntmps58
  go_wp2_with (first | (go_at_fn fk; with_reducible refine (h3.out _).mono ?_; rintro e w' ⟨rfl, rfl⟩) | (go_at_call 69; with_reducible refine (refuse_yes _ _).mono ?_; rintro e w' ⟨rfl, rfl⟩))
  exact ⟨rfl, rfl, rfl⟩

end Go.Proofs.Ytojdhnecafkibaa.Lan

/- LanFind:
  Where a key is: cmp.Compare, the closure that compares keys, slices.BinarySearchFunc, and find. Conditions: the keys rise, and are written as themselves.
-/
namespace Go.Proofs.Ytojdhnecafkibaa.Lan
open Go.RowKit (Below intOf)
open Go.Proofs.Ytojdhnecafkibaa.Aut

/-- Which of two comes first. -/
def cmpI (x y : Int) : Int := if x < y then -1 else if y < x then 1 else 0
theorem cmpI_neg {x y : Int} : cmpI x y < 0 ↔ x < y := by unfold cmpI; split <;> (try split) <;> omega
theorem cmpI_zero {x y : Int} : cmpI x y = 0 ↔ x = y := by unfold cmpI; split <;> (try split) <;> omega

theorem isnan_any (x : Int) (w : World) : Calls Try.prog 79 #[.int .u64 x] w fun e w' => e = .returned (.bool false) ∧ w = w' := by
  go_enter Try.func79, Try.ntmps79
  go_wp2
  go_ret
  simp
theorem compare_any (x y : Int) (w : World) : Calls Try.prog 74 #[.int .u64 x, .int .u64 y] w fun e w' => e = .returned (.int .i64 (cmpI x y)) ∧ w = w' := by
  rcases Int.lt_trichotomy x y with h | h | h
  · have e : cmpI x y = -1 := by unfold cmpI; rw [if_pos h]
    rw [e]
    go_enter Try.func74, Try.ntmps74
    go_wp2_with (first | (go_at_call 79; with_reducible refine (isnan_any _ _).mono ?_; rintro e w' ⟨rfl, rfl⟩))
    go_ret
    exact ⟨rfl, rfl⟩
  · have e : cmpI x y = 0 := by unfold cmpI; rw [if_neg (by omega), if_neg (by omega)]
    have h1 : ¬ x < y := by omega
    have h2 : ¬ y < x := by omega
    rw [e]
    clear h
    go_enter Try.func74, Try.ntmps74
    go_wp2_with (first | (go_at_call 79; with_reducible refine (isnan_any _ _).mono ?_; rintro e w' ⟨rfl, rfl⟩))
    go_ret
    exact ⟨rfl, rfl⟩
  · have e : cmpI x y = 1 := by unfold cmpI; rw [if_neg (by omega), if_pos h]
    have h1 : ¬ x < y := by omega
    rw [e]
    go_enter Try.func74, Try.ntmps74
    go_wp2_with (first | (go_at_call 79; with_reducible refine (isnan_any _ _).mono ?_; rintro e w' ⟨rfl, rfl⟩))
    go_ret
    exact ⟨rfl, rfl⟩

theorem box_alloc {w : World} {b o : Nat} {v : Value} {x : Obj} (h : w.cell? ⟨b, o, none⟩ = some v) : (w.alloc x).cell? ⟨b, o, none⟩ = some v := (Ext.new w x).cell h
theorem box_drew {w : World} {b o : Nat} {v : Value} (h : w.cell? ⟨b, o, none⟩ = some v) : w.drew.cell? ⟨b, o, none⟩ = some v := h

set_option maxHeartbeats 1000000 in
set_option maxRecDepth 100000 in
theorem closure_any {k : Int} {T : TypeId} {fk fr fl : Nat} (I : KI k T fk fr fl) (B : Nat) (y x : Int) (w : World) (hy : U64 y) (hx : U64 x) (hB : w.cell? ⟨B, 0, none⟩ = some (.iface T kE)) :
    Calls Try.prog 73 #[.int .u64 y, .int .u64 x, .pointer (some ⟨B, 0, none⟩)] w fun e w' => e = .returned (.int .i64 (cmpI (ordK k y) (ordK k x))) ∧ Ext w w' := by
  have h1 := I.rm
  have h2 := I.er
  have h3 := Lib.hid (fun w => I.cr x w hx)
  have h4 := Lib.hid (fun w => I.cr y w hy)
  clear I hx hy
  go_enter Try.func73, Try.ntmps73
  go_wp2_with (fail)
  go_region_held3 (fun w' => w'.cell? ⟨B, 0, none⟩ = some (.iface T kE))
    (repeat (first | (with_reducible assumption) | (with_reducible refine box_alloc ?_) | (with_reducible refine box_drew ?_)))
    (first
      | (go_at_fn fr; (with_reducible refine (h3.out _).mono ?_); rintro e w' ⟨rfl, rfl⟩)
      | (go_at_fn fr; (with_reducible refine (h4.out _).mono ?_); rintro e w' ⟨rfl, rfl⟩)
      | (go_at_call 74; (with_reducible refine (compare_any _ _ _).mono ?_); rintro e w' ⟨rfl, rfl⟩))
  all_goals
    go_wp2_with (fail)
    go_ret
    refine ⟨rfl, ?_⟩
    repeat (first | exact Ext.refl _ | refine Ext.alloc ?_ _ | refine Ext.drew ?_)

/-- Whether a key is where it would be. -/
def hitK (k : Int) (xs : List Int) (x : Int) : Bool := match xs[posK k xs x]? with
  | some y => decide (ordK k y = ordK k x)
  | none => false
theorem hit_here {k : Int} {xs : List Int} {x : Int} (hx : U64 x) (mx : meantK k x = x) (hu : ∀ y ∈ xs, U64 y ∧ meantK k y = y) : hitK k xs x = hereK xs (posK k xs x) x := by
  unfold hitK hereK
  cases h : xs[posK k xs x]? with
  | none => simp
  | some y =>
    have := hu y (List.mem_of_getElem? h)
    by_cases e : y = x
    · subst e; simp
    · have e2 : ordK k y ≠ ordK k x := fun c => e (ord_inj this.1 hx this.2 mx c)
      simp [e, e2]

set_option maxHeartbeats 4000000 in
set_option maxRecDepth 1000000 in
theorem search_any {k : Int} {T : TypeId} {fk fr fl : Nat} (I : KI k T fk fr fl) (B : Nat) (sl : Option Addr) (n c : Nat) (xs : List Int) (x : Int) (w : World) (hW : WS w sl n c xs) (hx : U64 x) (hr : RisingK k xs) (hB : w.cell? ⟨B, 0, none⟩ = some (.iface T kE)) :
    Calls Try.prog 72 #[.slice sl n c, .int .u64 x, .func (.func 73) #[] #[.pointer (some ⟨B, 0, none⟩)]] w fun e w' =>
      e = .returned (.tuple #[.int .i64 (posK k xs x : Nat), .bool (hitK k xs x)]) ∧ Ext w w' := by
  have eg : ∀ a b w, (callFunc 73 #[a, b, .pointer (some ⟨B, 0, none⟩)]).run Try.prog w = .ok (.enter 73 #[a, b, .pointer (some ⟨B, 0, none⟩)]) w := fun a b w => enters_of Try.func73 (by kernel_rfl) rfl _ w
  have HC : RowKit.Hid (∀ (W : World) (y : Int), Ext w W → U64 y → Calls Try.prog 73 #[.int .u64 y, .int .u64 x, .pointer (some ⟨B, 0, none⟩)] W fun e w' => e = .returned (.int .i64 (cmpI (ordK k y) (ordK k x))) ∧ Ext W w') :=
    Lib.hid fun W y hE hy => closure_any I B y x W hy hx (hE.cell hB)
  have hn := hW.le
  have HW := Lib.hid hW
  have HR := Lib.hid hr
  have hlen := Lib.hid hW.len
  generalize hP : posK k xs x = P
  generalize hH : hitK k xs x = R
  have HP := Lib.hid hP
  have HH := Lib.hid hH
  clear hP hH I hx hB hW hr
  by_cases h0 : n = 0
  · subst h0
    have hz : P = 0 := by rw [← HP.out]; have := pos_le k xs x; rw [hlen.out] at this; omega
    have hq : R = false := by
      rw [← HH.out]; unfold hitK
      have : xs = [] := List.eq_nil_of_length_eq_zero hlen.out
      subst this; rfl
    subst hz hq
    go_enter Try.func72, Try.ntmps72
    go_wp2
    go_rounds 1
    go_ret2
    exact ⟨rfl, Ext.refl _⟩
  obtain ⟨b, o, rfl⟩ := HW.out.addr (Nat.pos_of_ne_zero h0)
  go_enter Try.func72, Try.ntmps72
  go_wp2
  go_loopg [9, 10] n (fun kx s9 s10 wr => ∃ lo hi : Nat, s9 = .int .i64 lo ∧ s10 = .int .i64 hi ∧ lo ≤ hi ∧ hi ≤ n ∧ hi - lo ≤ kx ∧ RowKit.Hid (Ext w wr) ∧
    RowKit.Hid ((∀ (t : Nat) y, t < lo → xs[t]? = some y → ordK k y < ordK k x) ∧ (∀ (t : Nat) y, hi ≤ t → xs[t]? = some y → ¬ ordK k y < ordK k x)))
  case atStart => exact ⟨0, n, rfl, rfl, Nat.zero_le _, Nat.le_refl _, by omega, Lib.hid (Ext.refl _), Lib.hid ⟨fun t y ht => absurd ht (Nat.not_lt_zero _), fun t y h1 h2 => by
      have := (List.getElem?_eq_some_iff.1 h2).1; rw [hlen.out] at this; omega⟩⟩
  case round =>
    obtain ⟨lo, hi, rfl, rfl, hlh, hin, hg, S1, J⟩ := hrel
    by_cases hlt : lo < hi
    · obtain ⟨y, hy, hyu, b', o', eb, hyc⟩ := HW.out.get (k := (lo + hi) / 2) (by omega)
      cases eb
      have cm := S1.out.cell hyc
      have hc := HC.out _ y S1.out hyu
      have Y := Lib.hid hy
      clear hyc hyu hy
      by_cases hyx : ordK k y < ordK k x
      · have e1 : cmpI (ordK k y) (ordK k x) = -1 := by unfold cmpI; rw [if_pos hyx]
        rw [e1] at hc
        have HYX := Lib.hid hyx
        clear e1 hyx
        go_wp2_with (go_at_call 73; (with_reducible refine hc.mono ?_); rintro e w' ⟨rfl, hE⟩)
        go_roundg (hi - ((lo + hi) / 2 + 1))
        case measure => omega
        case rel =>
          refine ⟨(lo + hi) / 2 + 1, hi, by rw [show ((lo : Int) + (hi : Int)) / 2 + 1 = (((lo + hi) / 2 + 1 : Nat) : Int) by omega], rfl, by omega, hin, Nat.le_refl _, Lib.hid (S1.out.trans hE), Lib.hid ⟨fun t z ht hz => ?_, J.out.2⟩⟩
          by_cases c2 : t = (lo + hi) / 2
          · subst c2; rw [Y.out] at hz; cases hz; exact HYX.out
          · exact Int.lt_trans (HR.out.lt hz Y.out (by omega)) HYX.out
      · have e1 : ¬ cmpI (ordK k y) (ordK k x) < 0 := fun h => hyx (cmpI_neg.1 h)
        generalize cmpI (ordK k y) (ordK k x) = cv at hc e1
        have HYX := Lib.hid hyx
        clear hyx
        go_wp2_with (go_at_call 73; (with_reducible refine hc.mono ?_); rintro e w' ⟨rfl, hE⟩)
        go_roundg ((lo + hi) / 2 - lo)
        case measure => omega
        case rel =>
          refine ⟨lo, (lo + hi) / 2, rfl, by rw [show ((lo : Int) + (hi : Int)) / 2 = (((lo + hi) / 2 : Nat) : Int) by omega], by omega, by omega, Nat.le_refl _, Lib.hid (S1.out.trans hE), Lib.hid ⟨J.out.1, fun t z ht hz => ?_⟩⟩
          by_cases c2 : t = (lo + hi) / 2
          · subst c2; rw [Y.out] at hz; cases hz; exact HYX.out
          · have := HR.out.lt Y.out hz (by omega)
            have := HYX.out
            omega
    · obtain rfl : hi = lo := by omega
      have ecnt : P = hi := by
        rw [← HP.out]
        exact pos_eq (by rw [hlen.out]; exact hin) (fun t y ht hy => J.out.1 t y ht hy) (fun y hy => J.out.2 hi y (Nat.le_refl _) hy)
      subst ecnt
      by_cases hn2 : P < n
      · obtain ⟨y, hy, hyu, b', o', eb, hyc⟩ := HW.out.get hn2
        cases eb
        have cm := S1.out.cell hyc
        have hc := HC.out _ y S1.out hyu
        have hR : R = decide (cmpI (ordK k y) (ordK k x) = 0) := by
          rw [← HH.out]; unfold hitK; rw [HP.out, hy]; simp only [cmpI_zero]
        generalize cmpI (ordK k y) (ordK k x) = cv at hc hR
        clear hyc hyu hy
        subst hR
        go_wp2_with (go_at_call 73; (with_reducible refine hc.mono ?_); rintro e w' ⟨rfl, hE⟩)
        go_ret2
        exact ⟨rfl, S1.out.trans hE⟩
      · have hq : R = false := by
          rw [← HH.out]; unfold hitK; rw [HP.out, List.getElem?_eq_none (by rw [hlen.out]; omega)]
        subst hq
        go_wp2
        go_ret2
        exact ⟨rfl, S1.out⟩

end Go.Proofs.Ytojdhnecafkibaa.Lan

