/-
  No cell of these rows narrows 'for every input' (looked for: loops, veiled, ifaces, maps, wideKeys, modest, calm, conditions, laid).
  DERIVED. THE GIVEN ROWS OF THIS SEAT. 4 by the template 'for every input the law returns true; each argument reads behind the call as it read before'; 0 by the template 'total and deterministic' (their statements: YtknafhomikmiiaaTotals.lean).
  GIVEN WITH THE SEED: the statements are not yours to turn. If you find one false, say at which input.
  Laid BY PROGRAM, IN A SANDBOX (cutbox-rows.mjs): the forced cells as the released guide's own fill.sh prints them over the translation b495974a8c3bf395… (all of the seat's roots in one cut). By AI agents, Wed Nov 11 2026. No macro, syntax, notation, axiom, sorry.
-/
import Derived.Test.YtknafhomikmiiaaChecked
import GoSem.Claim
import GoSem.ClaimJoined
import GoSem.ClaimMapViews
import Derived.JoinedTies
import Derived.KernelRfl
namespace Go.Proofs.Ytknafhomikmiiaa
/- THE CELL 'sum', in the pinned program and in every row, IS THE sha256 OF THE DUMP (.gsa) THAT YtknafhomikmiiaaProg.lean LOADS. Nothing in Lean hashes anything: it is a label: what it is worth is what the hold of that sum in a sandbox is worth. -/
noncomputable def Try.pinned : Pinned := { name := "ytknafhomikmiiaa", sum := "b495974a8c3bf39588ca2aab031485fb5383e084aebe7df9c723b3c2a4625913", checked := Try.checked }
namespace Rows
def none {H : Type} : Left H := { results := [], args := [] }

/-- 'whitewashlaw06.RecTells': WHATEVER THE INPUT: true; the input reads as it did. -/
def recTellsSpec : ChangeSpec := { name := "recTells", fn := fun _ => fun
  | [d1, d2, d3, d4, d5] => { results := [.lit (.bool true)], args := [d1, d2, d3, d4, d5] }
  | _ => none }
def recTellsRow : OpenClaim := { program := "ytknafhomikmiiaa", sum := "b495974a8c3bf39588ca2aab031485fb5383e084aebe7df9c723b3c2a4625913", func := "whitewash/whitewashlaw06.RecTells", spec := "recTells", apart := false }
def RecTellsSaid : Prop := recTellsRow.holds Try.pinned (OpenSpec.ofChange recTellsSpec)

/-- ITS FALSE NEIGHBOUR: 'it returns false'. Refute it at one input. -/
def recTellsWrong : ChangeSpec := { name := "recTells", fn := fun _ => fun
  | [d1, d2, d3, d4, d5] => { results := [.lit (.bool false)], args := [d1, d2, d3, d4, d5] }
  | _ => none }
def RecTellsWrongFalsely : Prop := recTellsRow.holds Try.pinned (OpenSpec.ofChange recTellsWrong)

/-- 'whitewashlaw06.RecBack': WHATEVER THE INPUT: true; the input reads as it did. -/
def recBackSpec : ChangeSpec := { name := "recBack", fn := fun _ => fun
  | [d1, d2, d3, d4, d5, d6] => { results := [.lit (.bool true)], args := [d1, d2, d3, d4, d5, d6] }
  | _ => none }
def recBackRow : OpenClaim := { program := "ytknafhomikmiiaa", sum := "b495974a8c3bf39588ca2aab031485fb5383e084aebe7df9c723b3c2a4625913", func := "whitewash/whitewashlaw06.RecBack", spec := "recBack", apart := false }
def RecBackSaid : Prop := recBackRow.holds Try.pinned (OpenSpec.ofChange recBackSpec)

/-- ITS FALSE NEIGHBOUR: 'it returns false'. Refute it at one input. -/
def recBackWrong : ChangeSpec := { name := "recBack", fn := fun _ => fun
  | [d1, d2, d3, d4, d5, d6] => { results := [.lit (.bool false)], args := [d1, d2, d3, d4, d5, d6] }
  | _ => none }
def RecBackWrongFalsely : Prop := recBackRow.holds Try.pinned (OpenSpec.ofChange recBackWrong)

/-- 'whitewashlaw06.RecWords': WHATEVER THE INPUT: true; the input reads as it did. -/
def recWordsSpec : ChangeSpec := { name := "recWords", fn := fun _ => fun
  | [d1, d2] => { results := [.lit (.bool true)], args := [d1, d2] }
  | _ => none }
def recWordsRow : OpenClaim := { program := "ytknafhomikmiiaa", sum := "b495974a8c3bf39588ca2aab031485fb5383e084aebe7df9c723b3c2a4625913", func := "whitewash/whitewashlaw06.RecWords", spec := "recWords", apart := false }
def RecWordsSaid : Prop := recWordsRow.holds Try.pinned (OpenSpec.ofChange recWordsSpec)

/-- ITS FALSE NEIGHBOUR: 'it returns false'. Refute it at one input. -/
def recWordsWrong : ChangeSpec := { name := "recWords", fn := fun _ => fun
  | [d1, d2] => { results := [.lit (.bool false)], args := [d1, d2] }
  | _ => none }
def RecWordsWrongFalsely : Prop := recWordsRow.holds Try.pinned (OpenSpec.ofChange recWordsWrong)

/-- 'whitewashlaw06.RecHeads': WHATEVER THE INPUT: true; the input reads as it did. -/
def recHeadsSpec : ChangeSpec := { name := "recHeads", fn := fun _ => fun
  | [d1, d2, d3] => { results := [.lit (.bool true)], args := [d1, d2, d3] }
  | _ => none }
def recHeadsRow : OpenClaim := { program := "ytknafhomikmiiaa", sum := "b495974a8c3bf39588ca2aab031485fb5383e084aebe7df9c723b3c2a4625913", func := "whitewash/whitewashlaw06.RecHeads", spec := "recHeads", apart := false }
def RecHeadsSaid : Prop := recHeadsRow.holds Try.pinned (OpenSpec.ofChange recHeadsSpec)

/-- ITS FALSE NEIGHBOUR: 'it returns false'. Refute it at one input. -/
def recHeadsWrong : ChangeSpec := { name := "recHeads", fn := fun _ => fun
  | [d1, d2, d3] => { results := [.lit (.bool false)], args := [d1, d2, d3] }
  | _ => none }
def RecHeadsWrongFalsely : Prop := recHeadsRow.holds Try.pinned (OpenSpec.ofChange recHeadsWrong)

/- THE SECOND FORM. 'bulk': how many values and letters a reading holds, each counted each time it is reached (what is shared counts as often as it is met; a slice's spare places count too). A statement '..UptoSaid' is the law's where the arguments, and the package variables that the reading takes, are together of bulk at most 1048576: NARROWER than '..Said'. Prove '..Said' where nothing that the law and all that it calls make is longer than what came in: it says more and counts as full. Else prove '..UptoSaid'. A law counts once. -/
mutual
def uptoBulk {H : Type} : DataW H → Nat
  | .lit (.string bytes) => bytes.length + 1
  | .lit _ => 1
  | .nil => 1
  | .ptr d => uptoBulk d + 1
  | .slice elems spare => uptoBulkAll elems + uptoBulkAll spare + 1
  | .agg parts => uptoBulkAll parts + 1
  | .iface _ d => uptoBulk d + 1
  | .map entries => uptoBulkEntries entries + 1
  | .held _ => 1
def uptoBulkAll {H : Type} : List (DataW H) → Nat
  | [] => 0
  | d :: r => uptoBulk d + uptoBulkAll r
def uptoBulkEntries {H : Type} : List (Lit × DataW H) → Nat
  | [] => 0
  | x :: r => uptoBulkEntry x + uptoBulkEntries r
def uptoBulkEntry {H : Type} : Lit × DataW H → Nat
  | (.string bytes, d) => bytes.length + uptoBulk d + 1
  | (_, d) => uptoBulk d + 1
 end
def uptoSmall : (H : Type) → List (DataW H) → Bool := fun _ ds => decide (uptoBulkAll ds ≤ 1048576)
def OpenSpec.upto (s : _root_.Go.ChangeSpec) : _root_.Go.OpenSpec := { _root_.Go.OpenSpec.ofChange s with cond := some uptoSmall }

/-- 'whitewashlaw06.RecTells', WHERE WHAT IT READS IS OF BULK AT MOST 1048576: true; the input reads as it did. -/
def recTellsUptoRow : OpenClaim := { program := "ytknafhomikmiiaa", sum := "b495974a8c3bf39588ca2aab031485fb5383e084aebe7df9c723b3c2a4625913", func := "whitewash/whitewashlaw06.RecTells", spec := "recTells", apart := false, narrowed := true }
def RecTellsUptoSaid : Prop := recTellsUptoRow.holds Try.pinned (OpenSpec.upto recTellsSpec)

/-- 'whitewashlaw06.RecBack', WHERE WHAT IT READS IS OF BULK AT MOST 1048576: true; the input reads as it did. -/
def recBackUptoRow : OpenClaim := { program := "ytknafhomikmiiaa", sum := "b495974a8c3bf39588ca2aab031485fb5383e084aebe7df9c723b3c2a4625913", func := "whitewash/whitewashlaw06.RecBack", spec := "recBack", apart := false, narrowed := true }
def RecBackUptoSaid : Prop := recBackUptoRow.holds Try.pinned (OpenSpec.upto recBackSpec)

/-- 'whitewashlaw06.RecWords', WHERE WHAT IT READS IS OF BULK AT MOST 1048576: true; the input reads as it did. -/
def recWordsUptoRow : OpenClaim := { program := "ytknafhomikmiiaa", sum := "b495974a8c3bf39588ca2aab031485fb5383e084aebe7df9c723b3c2a4625913", func := "whitewash/whitewashlaw06.RecWords", spec := "recWords", apart := false, narrowed := true }
def RecWordsUptoSaid : Prop := recWordsUptoRow.holds Try.pinned (OpenSpec.upto recWordsSpec)

/-- 'whitewashlaw06.RecHeads', WHERE WHAT IT READS IS OF BULK AT MOST 1048576: true; the input reads as it did. -/
def recHeadsUptoRow : OpenClaim := { program := "ytknafhomikmiiaa", sum := "b495974a8c3bf39588ca2aab031485fb5383e084aebe7df9c723b3c2a4625913", func := "whitewash/whitewashlaw06.RecHeads", spec := "recHeads", apart := false, narrowed := true }
def RecHeadsUptoSaid : Prop := recHeadsUptoRow.holds Try.pinned (OpenSpec.upto recHeadsSpec)

end Rows
end Go.Proofs.Ytknafhomikmiiaa
