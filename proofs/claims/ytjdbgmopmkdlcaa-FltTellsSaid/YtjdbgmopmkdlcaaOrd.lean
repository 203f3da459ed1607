/-
  The order of words by their ranks, as facts on the plain functions of integers, for integers from 0 to less than 2^64 (the one condition).
-/
import Derived.Test.YtjdbgmopmkdlcaaWords
namespace Go.Proofs.Ytjdbgmopmkdlcaa

/-- A canonical word is a NaN, or no NaN and not minus zero. -/
theorem canon_cases (x : Int) (h0 : 0 ≤ x) (h1 : x < 18446744073709551616) :
    (canon x = 9221120237041090561) ∨ (0 ≤ canon x ∧ canon x ≤ 9218868437227405312) ∨ (9223372036854775808 < canon x ∧ canon x ≤ 18442240474082181120) := by
  unfold canon; split
  · exact Or.inl rfl
  · split <;> omega

theorem canon_of {y : Int} (h : y = 9221120237041090561 ∨ (0 ≤ y ∧ y ≤ 9218868437227405312) ∨ (9223372036854775808 < y ∧ y ≤ 18442240474082181120)) : canon y = y := by
  unfold canon; split
  · omega
  · rw [if_neg (by omega)]

theorem unrank_rank (x : Int) (h0 : 0 ≤ x) (h1 : x < 18446744073709551616) : unrank (rank x) = canon x := by
  have h := canon_cases x h0 h1
  unfold rank unrank
  split <;> split <;> omega

theorem wordIs_rank (x : Int) (h0 : 0 ≤ x) (h1 : x < 18446744073709551616) : wordIs (rank x) = true := by
  unfold wordIs; rw [unrank_rank x h0 h1, canon_canon]; simp

theorem wordOf_rank (x : Int) (h0 : 0 ≤ x) (h1 : x < 18446744073709551616) : wordOf (rank x) = canon x := by
  unfold wordOf; rw [unrank_rank x h0 h1, canon_canon]; simp

theorem rank_inj (a b : Int) (h0 : 0 ≤ a) (h1 : a < 18446744073709551616) (g0 : 0 ≤ b) (g1 : b < 18446744073709551616) : rank a = rank b ↔ canon a = canon b := by
  constructor
  · intro h; rw [← unrank_rank a h0 h1, h, unrank_rank b g0 g1]
  · intro h; unfold rank; rw [h]

theorem rank_same (a b : Int) (h0 : 0 ≤ a) (h1 : a < 18446744073709551616) (g0 : 0 ≤ b) (g1 : b < 18446744073709551616) : ∃ B : Bool, (rank a == rank b) = B ∧ (canon a == canon b) = B := by
  refine ⟨canon a == canon b, ?_, rfl⟩
  rw [Bool.eq_iff_iff]; simpa using rank_inj a b h0 h1 g0 g1

theorem less_trans {a b c : Int} (h : less a b = true) (g : less b c = true) : less a c = true := by
  simp only [less, decide_eq_true_eq] at *; omega

theorem less_self (a : Int) : less a a = false := by simp [less]

theorem less_not {a b : Int} (h : less a b = true) : less b a = false := by
  simp only [less, decide_eq_true_eq, decide_eq_false_iff_not] at *; omega

theorem rank_negInf : rank 18442240474082181120 = 4503599627370495 := by decide +kernel
theorem rank_nan : rank 9221120237041090561 = 18444492273895866369 := by decide +kernel

theorem less_negInf (a : Int) (h0 : 0 ≤ a) (h1 : a < 18446744073709551616) : less a 18442240474082181120 = false := by
  have h := canon_cases a h0 h1
  simp only [less, decide_eq_false_iff_not, rank_negInf]
  unfold rank; split <;> omega

theorem less_nan_left (a : Int) (h0 : 0 ≤ a) (h1 : a < 18446744073709551616) : less 9221120237041090561 a = false := by
  have h := canon_cases a h0 h1
  simp only [less, decide_eq_false_iff_not, rank_nan]
  unfold rank; split <;> omega

theorem kind_three (a : Int) : kind a = 3 ↔ canon a = 9221120237041090561 := by
  unfold kind
  constructor
  · intro h; split at h <;> (try split at h) <;> (try split at h) <;> (try split at h) <;> first | omega | assumption
  · intro h; rw [h]; decide +kernel

theorem less_nan_right (a : Int) (h0 : 0 ≤ a) (h1 : a < 18446744073709551616) (hk : ¬ kind a = 3) : less a 9221120237041090561 = true := by
  have h := canon_cases a h0 h1
  rw [kind_three] at hk
  simp only [less, decide_eq_true_eq, rank_nan]
  unfold rank; split <;> omega

end Go.Proofs.Ytjdbgmopmkdlcaa
