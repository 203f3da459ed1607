/-
  What each function of package mix returns, in whatever world that holds the package's table, for words: integers from 0 to less than 2^64 (the condition that each fact names). Each call leaves memory as it was, but for new blocks and draws.
-/
import Derived.Test.YtnmeakkehonnmaaDoorChecked
import Derived.Test.YtnmeakkehonnmaaDoorMixWords
import Derived.WalkKit
import Derived.WalkLawsBesides
import Derived.Lib.Hide
namespace Go.Proofs.YtnmeakkehonnmaaDoor

theorem ret_int {k : IntKind} {a b : Int} (h : a = b) : Ending.returned (.int k a) = .returned (.int k b) := by rw [h]

set_option maxHeartbeats 400000 in
theorem folded_any (x n : Int) (w : World) (h0 : 0 ≤ x) (h1 : x < 18446744073709551616) (g0 : 0 ≤ n) (g1 : n < 64) :
    Calls Tryd.prog 37 #[.int .u64 x, .int .u64 n] w fun e w' => e = .returned (.int .u64 (fold n.toNat x)) ∧ w = w' := by
  have hx := fold_word x n.toNat h0 h1
  go_enter Tryd.func37, Tryd.ntmps37
  go_wp2
  go_ret
  exact ⟨rfl, rfl⟩

end Go.Proofs.YtnmeakkehonnmaaDoor
