/-
  The fixed first calls of every statement (awake) come out true, in whatever world; the world is as it was, but for draws.
-/
import Derived.Test.YtjdbgmopmkdlcaaSum
import Derived.KernelRfl
namespace Go.Proofs.Ytjdbgmopmkdlcaa

set_option maxHeartbeats 1000000 in
theorem awake_any (w : World) :
    Calls Try.prog 10 #[] w fun e w' => e = .returned (.bool true) ∧ ∃ n, w' = w.drewN n := by
  have f1 : wordOf 9223372036854775808 = 0 := by kernel_rfl
  have f2 : wordIs 9223372036854775808 = true := by kernel_rfl
  have f3 : wordIs 0 = false := by kernel_rfl
  have f4 : (rank 0 == 9223372036854775808) = true := by kernel_rfl
  have f5 : (rank 18442240474082181120 == 4503599627370495) = true := by kernel_rfl
  have f6 : (sumOf 9218868437227405312 18442240474082181120 == 9221120237041090561) = true := by kernel_rfl
  have f7 : (canon 9223372036854775808 == 0) = true := by kernel_rfl
  have f8 : (canon 9221120237041090568 == 9221120237041090561) = true := by kernel_rfl
  have f9 : less 18442240474082181120 0 = true := by kernel_rfl
  have f10 : (maxOf 9218868437227405312 9221120237041090561 == 9221120237041090561) = true := by kernel_rfl
  have f11 : (kind 1 == 1) = true := by kernel_rfl
  have f12 : (sumOf 4607182418800017408 4607182418800017408 == 4611686018427387904) = true := by kernel_rfl
  go_enter Try.func10, Try.ntmps10
  go_wp2_with (first
    | (go_at_call 23; with_reducible refine (word_any _ _ (by omega) (by omega)).mono ?_; rintro e w' ⟨rfl, rfl⟩)
    | (go_at_call 15; with_reducible refine (rank_any _ _ (by omega) (by omega)).mono ?_; rintro e w' ⟨rfl, rfl⟩)
    | (go_at_call 21; with_reducible refine (sum_any _ _ _).mono ?_; rintro e w' ⟨rfl, n, rfl⟩)
    | (go_at_call 11; with_reducible refine (canon_any _ _ (by omega) (by omega)).mono ?_; rintro e w' ⟨rfl, rfl⟩)
    | (go_at_call 17; with_reducible refine (less_any _ _ _ (by omega) (by omega) (by omega) (by omega)).mono ?_; rintro e w' ⟨rfl, rfl⟩)
    | (go_at_call 19; with_reducible refine (max_any _ _ _ (by omega) (by omega) (by omega) (by omega)).mono ?_; rintro e w' ⟨rfl, rfl⟩)
    | (go_at_call 13; with_reducible refine (kind_any _ _ (by omega) (by omega)).mono ?_; rintro e w' ⟨rfl, rfl⟩))
  go_ret
  exact ⟨rfl, _, rfl⟩

end Go.Proofs.Ytjdbgmopmkdlcaa
