/-
  No cell of these rows narrows 'for every input' (looked for: loops, veiled, ifaces, maps, wideKeys, modest, calm, conditions, laid).
  DERIVED. THE GIVEN ROWS OF THIS SEAT. 5 by the template 'for every input the law returns true; each argument reads behind the call as it read before'; 0 by the template 'total and deterministic' (their statements: YtdipddnnckfnmaaGreatTotals.lean).
  GIVEN WITH THE SEED: the statements are not yours to turn. If you find one false, say at which input.
  Laid BY PROGRAM, IN A SANDBOX (cutbox-rows.mjs): the forced cells as the released guide's own fill.sh prints them over the translation c44773eb6d7683d6… (all of the seat's roots in one cut). By AI agents, Wed Nov 11 2026. No macro, syntax, notation, axiom, sorry.
-/
import Derived.Test.YtdipddnnckfnmaaGreatChecked
import GoSem.Claim
import GoSem.ClaimJoined
import GoSem.ClaimMapViews
import Derived.JoinedTies
import Derived.KernelRfl
namespace Go.Proofs.YtdipddnnckfnmaaGreat
/- THE CELL 'sum', in the pinned program and in every row, IS THE sha256 OF THE DUMP (.gsa) THAT YtdipddnnckfnmaaGreatProg.lean LOADS. Nothing in Lean hashes anything: it is a label: what it is worth is what the hold of that sum in a sandbox is worth. -/
noncomputable def Tryz.pinned : Pinned := { name := "ytdipddnnckfnmaagreat", sum := "c44773eb6d7683d646429b77ced4b733f3471b6975d800b3ff5d604f7f524bcb", checked := Tryz.checked }
namespace Rows
def none {H : Type} : Left H := { results := [], args := [] }

/-- 'whitewashlaw09.AutoTells': WHATEVER THE INPUT: true; the input reads as it did. -/
def autoTellsSpec : ChangeSpec := { name := "autoTells", fn := fun _ => fun
  | [d1, d2, d3, d4, d5, d6, d7, d8] => { results := [.lit (.bool true)], args := [d1, d2, d3, d4, d5, d6, d7, d8] }
  | _ => none }
def autoTellsRow : OpenClaim := { program := "ytdipddnnckfnmaagreat", sum := "c44773eb6d7683d646429b77ced4b733f3471b6975d800b3ff5d604f7f524bcb", func := "whitewash/whitewashlaw09.AutoTells", spec := "autoTells", unfollowed := true, recurses := true, apart := false }
def AutoTellsSaid : Prop := autoTellsRow.holds Tryz.pinned (OpenSpec.ofChange autoTellsSpec)

/-- ITS FALSE NEIGHBOUR: 'it returns false'. Refute it at one input. -/
def autoTellsWrong : ChangeSpec := { name := "autoTells", fn := fun _ => fun
  | [d1, d2, d3, d4, d5, d6, d7, d8] => { results := [.lit (.bool false)], args := [d1, d2, d3, d4, d5, d6, d7, d8] }
  | _ => none }
def AutoTellsWrongFalsely : Prop := autoTellsRow.holds Tryz.pinned (OpenSpec.ofChange autoTellsWrong)

/-- 'whitewashlaw09.AutoKept': WHATEVER THE INPUT: true; the input reads as it did. -/
def autoKeptSpec : ChangeSpec := { name := "autoKept", fn := fun _ => fun
  | [d1, d2, d3, d4] => { results := [.lit (.bool true)], args := [d1, d2, d3, d4] }
  | _ => none }
def autoKeptRow : OpenClaim := { program := "ytdipddnnckfnmaagreat", sum := "c44773eb6d7683d646429b77ced4b733f3471b6975d800b3ff5d604f7f524bcb", func := "whitewash/whitewashlaw09.AutoKept", spec := "autoKept", unfollowed := true, recurses := true, apart := false }
def AutoKeptSaid : Prop := autoKeptRow.holds Tryz.pinned (OpenSpec.ofChange autoKeptSpec)

/-- ITS FALSE NEIGHBOUR: 'it returns false'. Refute it at one input. -/
def autoKeptWrong : ChangeSpec := { name := "autoKept", fn := fun _ => fun
  | [d1, d2, d3, d4] => { results := [.lit (.bool false)], args := [d1, d2, d3, d4] }
  | _ => none }
def AutoKeptWrongFalsely : Prop := autoKeptRow.holds Tryz.pinned (OpenSpec.ofChange autoKeptWrong)

/-- 'whitewashlaw09.AutoSeen': WHATEVER THE INPUT: true; the input reads as it did. -/
def autoSeenSpec : ChangeSpec := { name := "autoSeen", fn := fun _ => fun
  | [d1, d2, d3, d4, d5] => { results := [.lit (.bool true)], args := [d1, d2, d3, d4, d5] }
  | _ => none }
def autoSeenRow : OpenClaim := { program := "ytdipddnnckfnmaagreat", sum := "c44773eb6d7683d646429b77ced4b733f3471b6975d800b3ff5d604f7f524bcb", func := "whitewash/whitewashlaw09.AutoSeen", spec := "autoSeen", unfollowed := true, recurses := true, apart := false }
def AutoSeenSaid : Prop := autoSeenRow.holds Tryz.pinned (OpenSpec.ofChange autoSeenSpec)

/-- ITS FALSE NEIGHBOUR: 'it returns false'. Refute it at one input. -/
def autoSeenWrong : ChangeSpec := { name := "autoSeen", fn := fun _ => fun
  | [d1, d2, d3, d4, d5] => { results := [.lit (.bool false)], args := [d1, d2, d3, d4, d5] }
  | _ => none }
def AutoSeenWrongFalsely : Prop := autoSeenRow.holds Tryz.pinned (OpenSpec.ofChange autoSeenWrong)

/-- 'whitewashlaw09.AutoPuts': WHATEVER THE INPUT: true; the input reads as it did. -/
def autoPutsSpec : ChangeSpec := { name := "autoPuts", fn := fun _ => fun
  | [d1, d2, d3, d4, d5] => { results := [.lit (.bool true)], args := [d1, d2, d3, d4, d5] }
  | _ => none }
def autoPutsRow : OpenClaim := { program := "ytdipddnnckfnmaagreat", sum := "c44773eb6d7683d646429b77ced4b733f3471b6975d800b3ff5d604f7f524bcb", func := "whitewash/whitewashlaw09.AutoPuts", spec := "autoPuts", unfollowed := true, recurses := true, apart := false }
def AutoPutsSaid : Prop := autoPutsRow.holds Tryz.pinned (OpenSpec.ofChange autoPutsSpec)

/-- ITS FALSE NEIGHBOUR: 'it returns false'. Refute it at one input. -/
def autoPutsWrong : ChangeSpec := { name := "autoPuts", fn := fun _ => fun
  | [d1, d2, d3, d4, d5] => { results := [.lit (.bool false)], args := [d1, d2, d3, d4, d5] }
  | _ => none }
def AutoPutsWrongFalsely : Prop := autoPutsRow.holds Tryz.pinned (OpenSpec.ofChange autoPutsWrong)

/-- 'whitewashlaw09.AutoFloats': WHATEVER THE INPUT: true; the input reads as it did. -/
def autoFloatsSpec : ChangeSpec := { name := "autoFloats", fn := fun _ => fun
  | [d1, d2, d3, d4] => { results := [.lit (.bool true)], args := [d1, d2, d3, d4] }
  | _ => none }
def autoFloatsRow : OpenClaim := { program := "ytdipddnnckfnmaagreat", sum := "c44773eb6d7683d646429b77ced4b733f3471b6975d800b3ff5d604f7f524bcb", func := "whitewash/whitewashlaw09.AutoFloats", spec := "autoFloats", unfollowed := true, recurses := true, apart := false }
def AutoFloatsSaid : Prop := autoFloatsRow.holds Tryz.pinned (OpenSpec.ofChange autoFloatsSpec)

/-- ITS FALSE NEIGHBOUR: 'it returns false'. Refute it at one input. -/
def autoFloatsWrong : ChangeSpec := { name := "autoFloats", fn := fun _ => fun
  | [d1, d2, d3, d4] => { results := [.lit (.bool false)], args := [d1, d2, d3, d4] }
  | _ => none }
def AutoFloatsWrongFalsely : Prop := autoFloatsRow.holds Tryz.pinned (OpenSpec.ofChange autoFloatsWrong)

/- THE SECOND FORM. 'bulk': how many values and letters a reading holds, each counted each time it is reached (what is shared counts as often as it is met; a slice's spare places count too). A statement '..UptoSaid' is the law's where the arguments, and the package variables that the reading takes, are together of bulk at most 1048576: NARROWER than '..Said'. Prove '..Said' where nothing that the law and all that it calls make is longer than what came in: it says more and counts as full. Else prove '..UptoSaid'. A law counts once. -/
mutual
def uptoBulk {H : Type} : DataW H → Nat
  | .lit (.string bytes) => bytes.length + 1
  | .lit _ => 1
  | .nil => 1
  | .ptr d => uptoBulk d + 1
  | .slice elems spare => uptoBulkAll elems + uptoBulkAll spare + 1
  | .agg parts => uptoBulkAll parts + 1
  | .iface _ d => uptoBulk d + 1
  | .map entries => uptoBulkEntries entries + 1
  | .held _ => 1
def uptoBulkAll {H : Type} : List (DataW H) → Nat
  | [] => 0
  | d :: r => uptoBulk d + uptoBulkAll r
def uptoBulkEntries {H : Type} : List (Lit × DataW H) → Nat
  | [] => 0
  | x :: r => uptoBulkEntry x + uptoBulkEntries r
def uptoBulkEntry {H : Type} : Lit × DataW H → Nat
  | (.string bytes, d) => bytes.length + uptoBulk d + 1
  | (_, d) => uptoBulk d + 1
 end
def uptoSmall : (H : Type) → List (DataW H) → Bool := fun _ ds => decide (uptoBulkAll ds ≤ 1048576)
def OpenSpec.upto (s : _root_.Go.ChangeSpec) : _root_.Go.OpenSpec := { _root_.Go.OpenSpec.ofChange s with cond := some uptoSmall }

/-- 'whitewashlaw09.AutoTells', WHERE WHAT IT READS IS OF BULK AT MOST 1048576: true; the input reads as it did. -/
def autoTellsUptoRow : OpenClaim := { program := "ytdipddnnckfnmaagreat", sum := "c44773eb6d7683d646429b77ced4b733f3471b6975d800b3ff5d604f7f524bcb", func := "whitewash/whitewashlaw09.AutoTells", spec := "autoTells", unfollowed := true, recurses := true, apart := false, narrowed := true }
def AutoTellsUptoSaid : Prop := autoTellsUptoRow.holds Tryz.pinned (OpenSpec.upto autoTellsSpec)

/-- 'whitewashlaw09.AutoKept', WHERE WHAT IT READS IS OF BULK AT MOST 1048576: true; the input reads as it did. -/
def autoKeptUptoRow : OpenClaim := { program := "ytdipddnnckfnmaagreat", sum := "c44773eb6d7683d646429b77ced4b733f3471b6975d800b3ff5d604f7f524bcb", func := "whitewash/whitewashlaw09.AutoKept", spec := "autoKept", unfollowed := true, recurses := true, apart := false, narrowed := true }
def AutoKeptUptoSaid : Prop := autoKeptUptoRow.holds Tryz.pinned (OpenSpec.upto autoKeptSpec)

/-- 'whitewashlaw09.AutoSeen', WHERE WHAT IT READS IS OF BULK AT MOST 1048576: true; the input reads as it did. -/
def autoSeenUptoRow : OpenClaim := { program := "ytdipddnnckfnmaagreat", sum := "c44773eb6d7683d646429b77ced4b733f3471b6975d800b3ff5d604f7f524bcb", func := "whitewash/whitewashlaw09.AutoSeen", spec := "autoSeen", unfollowed := true, recurses := true, apart := false, narrowed := true }
def AutoSeenUptoSaid : Prop := autoSeenUptoRow.holds Tryz.pinned (OpenSpec.upto autoSeenSpec)

/-- 'whitewashlaw09.AutoPuts', WHERE WHAT IT READS IS OF BULK AT MOST 1048576: true; the input reads as it did. -/
def autoPutsUptoRow : OpenClaim := { program := "ytdipddnnckfnmaagreat", sum := "c44773eb6d7683d646429b77ced4b733f3471b6975d800b3ff5d604f7f524bcb", func := "whitewash/whitewashlaw09.AutoPuts", spec := "autoPuts", unfollowed := true, recurses := true, apart := false, narrowed := true }
def AutoPutsUptoSaid : Prop := autoPutsUptoRow.holds Tryz.pinned (OpenSpec.upto autoPutsSpec)

/-- 'whitewashlaw09.AutoFloats', WHERE WHAT IT READS IS OF BULK AT MOST 1048576: true; the input reads as it did. -/
def autoFloatsUptoRow : OpenClaim := { program := "ytdipddnnckfnmaagreat", sum := "c44773eb6d7683d646429b77ced4b733f3471b6975d800b3ff5d604f7f524bcb", func := "whitewash/whitewashlaw09.AutoFloats", spec := "autoFloats", unfollowed := true, recurses := true, apart := false, narrowed := true }
def AutoFloatsUptoSaid : Prop := autoFloatsUptoRow.holds Tryz.pinned (OpenSpec.upto autoFloatsSpec)

end Rows
end Go.Proofs.YtdipddnnckfnmaaGreat
