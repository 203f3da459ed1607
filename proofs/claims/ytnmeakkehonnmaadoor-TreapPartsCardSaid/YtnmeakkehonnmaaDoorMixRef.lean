/-
  What the document's own functions for mixed words return, in whatever world, for words: integers from 0 to less than 2^64 (the conditions): the same as the plain ones. Each leaves the world alone.
-/
import Derived.Test.YtnmeakkehonnmaaDoorMixSlot
namespace Go.Proofs.YtnmeakkehonnmaaDoor
open Go.RowKit (intOf Grown)

set_option maxHeartbeats 400000 in
theorem refFolded_any (x n : Int) (k : Nat) (w : World) (hk : n.toNat = k) (h0 : 0 ≤ x) (h1 : x < 18446744073709551616) (g0 : 0 ≤ n) (g1 : n < 64) :
    Calls Tryd.prog 34 #[.int .u64 x, .int .i64 n] w fun e w' => e = .returned (.int .u64 (fold k x)) ∧ w = w' := by
  subst hk
  have hx := fold_word x n.toNat h0 h1
  go_enter Tryd.func34, Tryd.ntmps34
  go_wp2
  go_ret
  exact ⟨rfl, rfl⟩

set_option maxHeartbeats 400000 in
theorem refMix_any (x : Int) (w : World) (h0 : 0 ≤ x) (h1 : x < 18446744073709551616) :
    Calls Tryd.prog 31 #[.int .u64 x] w fun e w' => e = .returned (.int .u64 (mixed x)) ∧ w = w' := by
  have hm : RowKit.Hid (fold 31 (m2 x) = mixed x) := Lib.hid (by rw [← m3_mixed, ← m3_word1, IntKind.wrap_u64]; have := fold_bd 31 (m2 x) (m2_bd x).2; omega)
  have e1 := m1_word x h1
  have e2 := m2_word x
  have b1 := m1_bd x
  have b2 := m2_bd x
  go_enter Tryd.func31, Tryd.ntmps31
  go_wp2_with (first
    | (go_at_call 34; with_reducible refine (refFolded_any x 30 30 _ rfl (by omega) (by omega) (by omega) (by omega)).mono ?_; rintro e w' ⟨rfl, rfl⟩)
    | (go_at_call 34; with_reducible refine (refFolded_any (m1 x) 27 27 _ rfl (by omega) (by omega) (by omega) (by omega)).mono ?_; rintro e w' ⟨rfl, rfl⟩)
    | (go_at_call 34; with_reducible refine (refFolded_any (m2 x) 31 31 _ rfl (by omega) (by omega) (by omega) (by omega)).mono ?_; rintro e w' ⟨rfl, rfl⟩))
  go_ret
  exact ⟨ret_int hm.out, rfl⟩


set_option maxHeartbeats 1000000 in
theorem refBefore_any (x y : Int) (w : World) (h0 : 0 ≤ x) (h1 : x < 18446744073709551616) (g0 : 0 ≤ y) (g1 : y < 18446744073709551616) :
    Calls Tryd.prog 25 #[.int .u64 x, .int .u64 y] w fun e w' => e = .returned (.bool (decide (mixed y < mixed x))) ∧ w = w' := by
  go_enter Tryd.func25, Tryd.ntmps25
  go_wp2_with (first
    | (go_at_call 31; with_reducible refine (refMix_any x _ (by omega) (by omega)).mono ?_; rintro e w' ⟨rfl, rfl⟩)
    | (go_at_call 31; with_reducible refine (refMix_any y _ (by omega) (by omega)).mono ?_; rintro e w' ⟨rfl, rfl⟩))
  go_ret
  exact ⟨rfl, rfl⟩

end Go.Proofs.YtnmeakkehonnmaaDoor
