/-
  What each function of package mix returns, in whatever world that holds the package's table, for words: integers from 0 to less than 2^64 (the condition that each fact names). Each call leaves memory as it was, but for new blocks and draws.
-/
import Derived.Test.YthgjmimniibmlaaDoorChecked
import Derived.Test.YthgjmimniibmlaaDoorWords
import Derived.WalkKit
import Derived.WalkLawsBesides
import Derived.Lib.Hide
namespace Go.Proofs.YthgjmimniibmlaaDoor

theorem ret_int {k : IntKind} {a b : Int} (h : a = b) : Ending.returned (.int k a) = .returned (.int k b) := by rw [h]

set_option maxHeartbeats 400000 in
theorem folded_any (x n : Int) (w : World) (h0 : 0 ≤ x) (h1 : x < 18446744073709551616) (g0 : 0 ≤ n) (g1 : n < 64) :
    Calls Tryd.prog 16 #[.int .u64 x, .int .u64 n] w fun e w' => e = .returned (.int .u64 (fold n.toNat x)) ∧ w = w' := by
  have hx := fold_word x n.toNat h0 h1
  go_enter Tryd.func16, Tryd.ntmps16
  go_wp2
  go_ret
  exact ⟨rfl, rfl⟩

open Go.RowKit (intOf) in
set_option maxHeartbeats 1000000 in
theorem unfolded_any (x n : Int) (w : World) (h0 : 0 ≤ x) (h1 : x < 18446744073709551616) (g0 : 22 ≤ n) (g1 : n < 32) :
    Calls Tryd.prog 18 #[.int .u64 x, .int .u64 n] w fun e w' => e = .returned (.int .u64 (unf n.toNat x)) ∧ w = w' := by
  have hA := fold_word x n.toNat h0 h1
  have hB := unf_word x n.toNat h0 h1
  rw [show 2 * n.toNat = (n + n).toNat by omega] at hB
  go_enter Tryd.func18, Tryd.ntmps18
  go_wp2
  go_loop [5, 6] (fun o s => (o = .int .u64 x ∧ s = .int .u64 n) ∨ (o = .int .u64 (fold n.toNat x) ∧ s = .int .u64 (n + n)) ∨ (o = .int .u64 (unf n.toNat x) ∧ s = .int .u64 (n + n + n))) (fun _ s => (100 - intOf s).toNat)
  case atStart => exact .inl ⟨rfl, rfl⟩
  case round =>
    rcases hrel with ⟨rfl, rfl⟩ | ⟨rfl, rfl⟩ | ⟨rfl, rfl⟩
    · have hl : n < 64 := by omega
      go_wp2
      go_round
      case rel => exact .inr (.inl ⟨rfl, rfl⟩)
      case measure => simp [intOf]; omega
    · have hl : n + n < 64 := by omega
      go_wp2
      go_round
      case rel => exact .inr (.inr ⟨rfl, rfl⟩)
      case measure => simp [intOf]; omega
    · have hl : ¬ n + n + n < 64 := by omega
      go_wp2
      go_ret
      exact ⟨rfl, rfl⟩

end Go.Proofs.YthgjmimniibmlaaDoor
