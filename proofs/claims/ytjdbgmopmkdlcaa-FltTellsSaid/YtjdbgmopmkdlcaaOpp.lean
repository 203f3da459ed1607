/-
  Floats' order is that of the whole numbers for which they stand, and a difference is below zero just if the first one is less. For canonical words that are no NaN's (the condition of each fact here).
-/
import Derived.Test.YtjdbgmopmkdlcaaTwo
namespace Go.Proofs.Ytjdbgmopmkdlcaa

theorem mag_step (g : Nat) : magOf g < magOf (g + 1) := by
  unfold magOf
  by_cases c : g + 1 < 2 ^ 52
  · rw [if_pos (by omega), if_pos c]; omega
  · rw [if_neg c]
    by_cases d : g < 2 ^ 52
    · rw [if_pos d]
      have e : (g + 1) / 2 ^ 52 - 1 = 0 := by omega
      rw [e]; omega
    · rw [if_neg d]
      by_cases z : (g + 1) % 2 ^ 52 = 0
      · have e1 : (g + 1) / 2 ^ 52 - 1 = (g / 2 ^ 52 - 1) + 1 := by omega
        have e2 : g % 2 ^ 52 = 2 ^ 52 - 1 := by omega
        rw [z, e1, e2, Nat.pow_succ 2 (g / 2 ^ 52 - 1)]
        have hp := Nat.two_pow_pos (g / 2 ^ 52 - 1)
        generalize 2 ^ (g / 2 ^ 52 - 1) = P at hp ⊢
        omega
      · have e1 : (g + 1) / 2 ^ 52 - 1 = g / 2 ^ 52 - 1 := by omega
        have e2 : (g + 1) % 2 ^ 52 = g % 2 ^ 52 + 1 := by omega
        rw [e1, e2]
        exact Nat.mul_lt_mul_of_pos_right (by omega) (Nat.two_pow_pos _)

theorem mag_mono {g h : Nat} (c : g < h) : magOf g < magOf h := by
  induction h with
  | zero => omega
  | succ n ih =>
    rcases Nat.lt_or_ge g n with d | d
    · exact Nat.lt_trans (ih d) (mag_step n)
    · have : g = n := by omega
      subst this; exact mag_step g

theorem mag_lt_iff (g h : Nat) : magOf g < magOf h ↔ g < h := by
  constructor
  · intro c
    rcases Nat.lt_trichotomy g h with d | d | d
    · exact d
    · subst d; omega
    · have := mag_mono d; omega
  · exact mag_mono

/-- A canonical word of a number. -/
theorem sval_rank (x : Int) (h0 : 0 ≤ x) (h1 : x < 18446744073709551616) (hc : canon x = x) (hf : x % 9223372036854775808 < 9218868437227405312) :
    (x < 9223372036854775808 ∧ rank x = x + 9223372036854775808 ∧ sval x = ((magOf x.toNat : Nat) : Int)) ∨
    (9223372036854775808 < x ∧ rank x = 18446744073709551615 - x ∧ sval x = -((magOf (x - 9223372036854775808).toNat : Nat) : Int) ∧ 0 < magOf (x - 9223372036854775808).toNat) := by
  rcases Int.lt_or_le x 9223372036854775808 with c | c
  · refine Or.inl ⟨c, ?_, ?_⟩
    · unfold rank; rw [hc, if_neg (by omega)]
    · unfold sval; rw [if_neg (by omega), show x % 9223372036854775808 = x from by omega]
  · have hne : x ≠ 9223372036854775808 := by
      intro e; rw [e] at hc; revert hc; decide +kernel
    refine Or.inr ⟨by omega, ?_, ?_, mag_pos _ (by omega)⟩
    · unfold rank; rw [hc, if_pos (by omega)]
    · unfold sval; rw [if_pos c, show x % 9223372036854775808 = x - 9223372036854775808 from by omega]

theorem rank_lt_iff (x y : Int) (h0 : 0 ≤ x) (h1 : x < 18446744073709551616) (hc : canon x = x) (hf : x % 9223372036854775808 < 9218868437227405312)
    (g0 : 0 ≤ y) (g1 : y < 18446744073709551616) (gc : canon y = y) (gf : y % 9223372036854775808 < 9218868437227405312) : rank x < rank y ↔ sval x < sval y := by
  rcases sval_rank x h0 h1 hc hf with ⟨a1, a2, a3⟩ | ⟨a1, a2, a3, a4⟩ <;> rcases sval_rank y g0 g1 gc gf with ⟨b1, b2, b3⟩ | ⟨b1, b2, b3, b4⟩
  · have := mag_lt_iff x.toNat y.toNat; rw [a2, b2, a3, b3]; omega
  · rw [a2, b2, a3, b3]; omega
  · rw [a2, b2, a3, b3]; omega
  · have := mag_lt_iff (y - 9223372036854775808).toNat (x - 9223372036854775808).toNat; rw [a2, b2, a3, b3]; omega

theorem sval_inj (x y : Int) (h0 : 0 ≤ x) (h1 : x < 18446744073709551616) (hc : canon x = x) (hf : x % 9223372036854775808 < 9218868437227405312)
    (g0 : 0 ≤ y) (g1 : y < 18446744073709551616) (gc : canon y = y) (gf : y % 9223372036854775808 < 9218868437227405312) : sval x = sval y ↔ x = y := by
  constructor
  · intro e
    have a := rank_lt_iff x y h0 h1 hc hf g0 g1 gc gf
    have b := rank_lt_iff y x g0 g1 gc gf h0 h1 hc hf
    exact eq_of_rank h0 h1 g0 g1 hc gc (by omega)
  · intro e; rw [e]

/-- The opposite's word. -/
def flip (y : Int) : Int := if 9223372036854775808 ≤ y then y - 9223372036854775808 else y + 9223372036854775808

theorem flip_lo (y : Int) (g0 : 0 ≤ y) : 0 ≤ flip y := by unfold flip; split <;> omega
theorem flip_hi (y : Int) (g1 : y < 18446744073709551616) : flip y < 18446744073709551616 := by unfold flip; split <;> omega

theorem sval_zero : sval 0 = 0 := by decide +kernel

theorem sval_flip (y : Int) (g0 : 0 ≤ y) (g1 : y < 18446744073709551616) (gc : canon y = y) (gf : y % 9223372036854775808 < 9218868437227405312) :
    sval (canon (flip y)) = - sval y ∧ canon (flip y) % 9223372036854775808 < 9218868437227405312 := by
  by_cases z : y = 0
  · subst z; decide +kernel
  · rcases sval_rank y g0 g1 gc gf with ⟨b1, b2, b3⟩ | ⟨b1, b2, b3, b4⟩
    · have e : canon (flip y) = y + 9223372036854775808 := by
        unfold flip; rw [if_neg (by omega), canon_of (by omega)]
      rw [e, b3]
      refine ⟨?_, by omega⟩
      unfold sval; rw [if_pos (by omega), show (y + 9223372036854775808) % 9223372036854775808 = y from by omega]
    · have e : canon (flip y) = y - 9223372036854775808 := by
        unfold flip; rw [if_pos (by omega), canon_of (by omega)]
      rw [e, b3]
      refine ⟨?_, by omega⟩
      unfold sval; rw [if_neg (by omega), show (y - 9223372036854775808) % 9223372036854775808 = y - 9223372036854775808 from by omega]; omega

theorem rank_zero : rank 0 = 9223372036854775808 := by decide +kernel

theorem diff_finite (x y : Int) (h0 : 0 ≤ x) (h1 : x < 18446744073709551616) (hc : canon x = x) (hf : x % 9223372036854775808 < 9218868437227405312)
    (g0 : 0 ≤ y) (g1 : y < 18446744073709551616) (gc : canon y = y) (gf : y % 9223372036854775808 < 9218868437227405312) :
    less x y = less (sumOf x (canon (flip y))) 0 ∧ (x == y) = (sumOf x (canon (flip y)) == 0) := by
  obtain ⟨e, ef⟩ := sval_flip y g0 g1 gc gf
  have z0 := canon_lo _ (flip_lo y g0)
  have z1 := canon_hi _ (flip_hi y g1)
  have sd := sumOf_finite x (canon (flip y)) h0 h1 hf z0 z1 ef
  have cd : canon (sumOf x (canon (flip y))) = sumOf x (canon (flip y)) := canon_canon _
  have rl := rank_lt_iff x y h0 h1 hc hf g0 g1 gc gf
  have ri := sval_inj x y h0 h1 hc hf g0 g1 gc gf
  rw [e] at sd
  have rz : (sval x + - sval y).natAbs = 0 ↔ sval x = sval y := by omega
  have rp := rung_pos (sval x + - sval y).natAbs
  have r0 : (sval x + - sval y).natAbs = 0 → rungOf (sval x + - sval y).natAbs = 0 := fun h => by rw [h]; exact rung_zero
  generalize rungOf (sval x + - sval y).natAbs = R at *
  generalize sumOf x (canon (flip y)) = d at *
  constructor
  · unfold less
    rw [Bool.eq_iff_iff]; simp only [decide_eq_true_eq]
    rw [rl, rank_zero]
    unfold rank; rw [cd]
    split at sd
    · rw [if_pos (by omega)]; omega
    · rw [if_neg (by omega)]; omega
  · rw [Bool.eq_iff_iff]; simp only [beq_iff_eq]
    rw [← ri]
    split at sd <;> omega

theorem finite_of_kind (x : Int) (h0 : 0 ≤ x) (h1 : x < 18446744073709551616) (h3 : ¬ kind x = 3) (h2 : ¬ kind x = 2) : x % 9223372036854775808 < 9218868437227405312 := by
  rw [kind_three] at h3
  by_cases c : 9218868437227405312 < x % 9223372036854775808
  · exact absurd (by unfold canon; rw [if_pos c]) h3
  · by_cases d : x % 9223372036854775808 = 9218868437227405312
    · have : x = 9218868437227405312 ∨ x = 18442240474082181120 := by omega
      rcases this with rfl | rfl <;> exact absurd (by decide +kernel) h2
    · omega

theorem infinite_of_kind (a : Int) (_a0 : 0 ≤ a) (_a1 : a < 18446744073709551616) (h : kind a = 2) : a = 9218868437227405312 ∨ a = 18442240474082181120 := by
  unfold kind canon at h
  split at h <;> split at h <;> (try split at h) <;> (try split at h) <;> (try split at h) <;> (try split at h) <;> omega

theorem less_inf_finite (x : Int) (h0 : 0 ≤ x) (h1 : x < 18446744073709551616) (hc : canon x = x) (hf : x % 9223372036854775808 < 9218868437227405312) :
    less 9218868437227405312 x = false ∧ less x 9218868437227405312 = true ∧ less 18442240474082181120 x = true ∧ less x 18442240474082181120 = false := by
  have e1 : rank 9218868437227405312 = 18442240474082181120 := by decide +kernel
  simp only [less, decide_eq_false_iff_not, decide_eq_true_eq, rank_negInf, e1]
  rcases sval_rank x h0 h1 hc hf with ⟨a1, a2, _⟩ | ⟨a1, a2, _⟩ <;> omega

/-- All of FltNumbers' last line. -/
theorem numbers (x y : Int) (h0 : 0 ≤ x) (h1 : x < 18446744073709551616) (hc : canon x = x) (h3 : ¬ kind x = 3)
    (g0 : 0 ≤ y) (g1 : y < 18446744073709551616) (gc : canon y = y) (g3 : ¬ kind y = 3) (hn : ¬ (kind x = 2 ∧ x = y)) :
    less x y = less (sumOf x (canon (flip y))) 0 ∧ (x == y) = (sumOf x (canon (flip y)) == 0) := by
  by_cases a : kind x = 2 <;> by_cases b : kind y = 2
  · rcases infinite_of_kind x h0 h1 a with rfl | rfl <;> rcases infinite_of_kind y g0 g1 b with rfl | rfl
    · exact absurd ⟨a, rfl⟩ hn
    · decide +kernel
    · decide +kernel
    · exact absurd ⟨a, rfl⟩ hn
  · have gf := finite_of_kind y g0 g1 g3 b
    obtain ⟨e, ef⟩ := sval_flip y g0 g1 gc gf
    have z0 := canon_lo _ (flip_lo y g0)
    have z1 := canon_hi _ (flip_hi y g1)
    obtain ⟨l1, l2, l3, l4⟩ := less_inf_finite y g0 g1 gc gf
    rcases infinite_of_kind x h0 h1 a with rfl | rfl
    · rw [sumOf_inf_left _ _ h0 h1 (by decide) z0 z1 ef]
      exact ⟨by rw [l1]; decide +kernel, by rw [show ((9218868437227405312 : Int) == 0) = false from by decide]; simp; omega⟩
    · rw [sumOf_inf_left _ _ h0 h1 (by decide) z0 z1 ef]
      exact ⟨by rw [l3]; decide +kernel, by rw [show ((18442240474082181120 : Int) == 0) = false from by decide]; simp; omega⟩
  · have hf := finite_of_kind x h0 h1 h3 a
    obtain ⟨l1, l2, l3, l4⟩ := less_inf_finite x h0 h1 hc hf
    rcases infinite_of_kind y g0 g1 b with rfl | rfl
    · rw [show canon (flip 9218868437227405312) = 18442240474082181120 from by decide +kernel, sumOf_inf_right _ _ (by omega) (by omega) (by decide) h0 h1 hf]
      exact ⟨by rw [l2]; decide +kernel, by rw [show ((18442240474082181120 : Int) == 0) = false from by decide]; simp; omega⟩
    · rw [show canon (flip 18442240474082181120) = 9218868437227405312 from by decide +kernel, sumOf_inf_right _ _ (by omega) (by omega) (by decide) h0 h1 hf]
      exact ⟨by rw [l4]; decide +kernel, by rw [show ((9218868437227405312 : Int) == 0) = false from by decide]; simp; omega⟩
  · exact diff_finite x y h0 h1 hc (finite_of_kind x h0 h1 h3 a) g0 g1 gc (finite_of_kind y g0 g1 g3 b)

theorem numbers_same (x : Int) (h0 : 0 ≤ x) (h1 : x < 18446744073709551616) (h : kind x = 2) : sumOf x (canon (flip x)) = 9221120237041090561 := by
  rcases infinite_of_kind x h0 h1 h with rfl | rfl <;> decide +kernel

theorem sum_zero (x : Int) (h0 : 0 ≤ x) (h1 : x < 18446744073709551616) (hc : canon x = x) (h3 : ¬ kind x = 3) : sumOf x 0 = x := by
  by_cases a : kind x = 2
  · rcases infinite_of_kind x h0 h1 a with rfl | rfl <;> decide +kernel
  · have hf := finite_of_kind x h0 h1 h3 a
    rw [sumOf_finite x 0 h0 h1 hf (by omega) (by omega) (by decide), sval_zero, Int.add_zero, natAbs_sval, rung_mag]
    rcases sval_rank x h0 h1 hc hf with ⟨a1, a2, a3⟩ | ⟨a1, a2, a3, a4⟩
    · rw [if_neg (by omega)]; omega
    · rw [if_pos (by omega)]; omega

theorem numbers_nan (x y : Int) (h0 : 0 ≤ x) (g0 : 0 ≤ y) (hc : canon x = x) (gc : canon y = y) (h : kind x = 3 ∨ kind y = 3) : sumOf x y = 9221120237041090561 := by
  rcases h with h | h
  · rw [kind_three, hc] at h; subst h; exact sumOf_nan_left _ _ h0 (by decide)
  · rw [kind_three, gc] at h; subst h; exact sumOf_nan_right _ _ g0 (by decide)

end Go.Proofs.Ytjdbgmopmkdlcaa
