/-
  NARROWER THAN 'FOR EVERY INPUT', by the rows' own cells (each row's printed sentence says how): EncTells: laid · EncBack: laid · EncOne: laid · EncZero: laid · EncParts: laid · EncVotes: laid.
  DERIVED. THE GIVEN ROWS OF THIS SEAT. 6 by the template 'for every input the law returns true; each argument reads behind the call as it read before'; 0 by the template 'total and deterministic' (their statements: YtmonkcekkhfafaaGreatDoorTotals.lean).
  GIVEN WITH THE SEED: the statements are not yours to turn. If you find one false, say at which input.
  Laid BY PROGRAM, IN A SANDBOX (cutbox-rows.mjs): the forced cells as the released guide's own fill.sh prints them over the translation 54cb6b858a8b6be6… (all of the seat's roots in one cut). By AI agents, Wed Nov 11 2026. No macro, syntax, notation, axiom, sorry.
-/
import Derived.Test.YtmonkcekkhfafaaGreatDoorChecked
import GoSem.Claim
import GoSem.ClaimJoined
import GoSem.ClaimMapViews
import Derived.JoinedTies
import Derived.KernelRfl
namespace Go.Proofs.YtmonkcekkhfafaaGreatDoor
/- THE CELL 'sum', in the pinned program and in every row, IS THE sha256 OF THE DUMP (.gsa) THAT YtmonkcekkhfafaaGreatDoorProg.lean LOADS. Nothing in Lean hashes anything: it is a label: what it is worth is what the hold of that sum in a sandbox is worth. -/
noncomputable def Tryz.pinned : Pinned := { name := "ytmonkcekkhfafaagreatdoor", sum := "54cb6b858a8b6be6133122e40d5084f3b17ad6a22da6f4e890b7a883fbd96bc9", checked := Tryz.checked }
namespace Rows
def none {H : Type} : Left H := { results := [], args := [] }

/- WHAT THE LISTED PACKAGE-LEVEL VARIABLES READ AS WHEN THE CALL BEGINS. Each datum BY PROGRAM (the guide's laid-datum.mjs) off the statement by which the dump's own 'gosem.cut.vars' lays the variable. In a bare row this is a premise. The card (YtmonkcekkhfafaaGreatDoorCards.lean) ties it to the program's text. -/
def laid_whitewash_mix_rounds {H : Type} : DataW H := .agg [.agg [.lit (.int .u64 30), .lit (.int .u64 13787848793156543929), .lit (.int .u64 10871156337175269513)], .agg [.lit (.int .u64 27), .lit (.int .u64 10723151780598845931), .lit (.int .u64 3573116690164977347)], .agg [.lit (.int .u64 31), .lit (.int .u64 1), .lit (.int .u64 1)]]
def laid_whitewash_region_homes {H : Type} : DataW H := .agg [.agg [.lit (.int .i64 0), .lit (.int .i64 0)], .agg [.lit (.int .i64 1), .lit (.int .i64 0)], .agg [.lit (.int .i64 1), .lit (.int .i64 2)], .agg [.lit (.int .i64 1), .lit (.int .i64 4)], .agg [.lit (.int .i64 2), .lit (.int .i64 4)], .agg [.lit (.int .i64 9), .lit (.int .i64 1)]]

/-- 'whitewashlaw10.EncTells': WHATEVER THE INPUT: true; the input reads as it did. -/
def encTellsSpec : ChangeSpec := { name := "encTells", fn := fun _ => fun
  | [d1, d2, d3, d4, d5, d6, d7] => { results := [.lit (.bool true)], args := [d1, d2, d3, d4, d5, d6, d7] }
  | _ => none }
def encTellsRow : OpenClaim := { program := "ytmonkcekkhfafaagreatdoor", sum := "54cb6b858a8b6be6133122e40d5084f3b17ad6a22da6f4e890b7a883fbd96bc9", func := "whitewash/whitewashlaw10.EncTells", spec := "encTells", unfollowed := true, recurses := true, named := ["whitewash/region.homes", "whitewash/mix.rounds"], apart := false, laid := [("whitewash/mix.rounds", laid_whitewash_mix_rounds), ("whitewash/region.homes", laid_whitewash_region_homes)] }
def EncTellsSaid : Prop := encTellsRow.holds Tryz.pinned (OpenSpec.ofChange encTellsSpec)

/-- ITS FALSE NEIGHBOUR: 'it returns false'. Refute it at one input. -/
def encTellsWrong : ChangeSpec := { name := "encTells", fn := fun _ => fun
  | [d1, d2, d3, d4, d5, d6, d7] => { results := [.lit (.bool false)], args := [d1, d2, d3, d4, d5, d6, d7] }
  | _ => none }
def EncTellsWrongFalsely : Prop := encTellsRow.holds Tryz.pinned (OpenSpec.ofChange encTellsWrong)

/-- 'whitewashlaw10.EncBack': WHATEVER THE INPUT: true; the input reads as it did. -/
def encBackSpec : ChangeSpec := { name := "encBack", fn := fun _ => fun
  | [d1, d2, d3] => { results := [.lit (.bool true)], args := [d1, d2, d3] }
  | _ => none }
def encBackRow : OpenClaim := { program := "ytmonkcekkhfafaagreatdoor", sum := "54cb6b858a8b6be6133122e40d5084f3b17ad6a22da6f4e890b7a883fbd96bc9", func := "whitewash/whitewashlaw10.EncBack", spec := "encBack", unfollowed := true, recurses := true, named := ["whitewash/region.homes", "whitewash/mix.rounds"], apart := false, laid := [("whitewash/mix.rounds", laid_whitewash_mix_rounds), ("whitewash/region.homes", laid_whitewash_region_homes)] }
def EncBackSaid : Prop := encBackRow.holds Tryz.pinned (OpenSpec.ofChange encBackSpec)

/-- ITS FALSE NEIGHBOUR: 'it returns false'. Refute it at one input. -/
def encBackWrong : ChangeSpec := { name := "encBack", fn := fun _ => fun
  | [d1, d2, d3] => { results := [.lit (.bool false)], args := [d1, d2, d3] }
  | _ => none }
def EncBackWrongFalsely : Prop := encBackRow.holds Tryz.pinned (OpenSpec.ofChange encBackWrong)

/-- 'whitewashlaw10.EncOne': WHATEVER THE INPUT: true; the input reads as it did. -/
def encOneSpec : ChangeSpec := { name := "encOne", fn := fun _ => fun
  | [d1, d2, d3, d4] => { results := [.lit (.bool true)], args := [d1, d2, d3, d4] }
  | _ => none }
def encOneRow : OpenClaim := { program := "ytmonkcekkhfafaagreatdoor", sum := "54cb6b858a8b6be6133122e40d5084f3b17ad6a22da6f4e890b7a883fbd96bc9", func := "whitewash/whitewashlaw10.EncOne", spec := "encOne", unfollowed := true, recurses := true, named := ["whitewash/region.homes", "whitewash/mix.rounds"], apart := false, laid := [("whitewash/mix.rounds", laid_whitewash_mix_rounds), ("whitewash/region.homes", laid_whitewash_region_homes)] }
def EncOneSaid : Prop := encOneRow.holds Tryz.pinned (OpenSpec.ofChange encOneSpec)

/-- ITS FALSE NEIGHBOUR: 'it returns false'. Refute it at one input. -/
def encOneWrong : ChangeSpec := { name := "encOne", fn := fun _ => fun
  | [d1, d2, d3, d4] => { results := [.lit (.bool false)], args := [d1, d2, d3, d4] }
  | _ => none }
def EncOneWrongFalsely : Prop := encOneRow.holds Tryz.pinned (OpenSpec.ofChange encOneWrong)

/-- 'whitewashlaw10.EncZero': WHATEVER THE INPUT: true; the input reads as it did. -/
def encZeroSpec : ChangeSpec := { name := "encZero", fn := fun _ => fun
  | [d] => { results := [.lit (.bool true)], args := [d] }
  | _ => none }
def encZeroRow : OpenClaim := { program := "ytmonkcekkhfafaagreatdoor", sum := "54cb6b858a8b6be6133122e40d5084f3b17ad6a22da6f4e890b7a883fbd96bc9", func := "whitewash/whitewashlaw10.EncZero", spec := "encZero", unfollowed := true, recurses := true, named := ["whitewash/region.homes", "whitewash/mix.rounds"], apart := false, laid := [("whitewash/mix.rounds", laid_whitewash_mix_rounds), ("whitewash/region.homes", laid_whitewash_region_homes)] }
def EncZeroSaid : Prop := encZeroRow.holds Tryz.pinned (OpenSpec.ofChange encZeroSpec)

/-- ITS FALSE NEIGHBOUR: 'it returns false'. Refute it at one input. -/
def encZeroWrong : ChangeSpec := { name := "encZero", fn := fun _ => fun
  | [d] => { results := [.lit (.bool false)], args := [d] }
  | _ => none }
def EncZeroWrongFalsely : Prop := encZeroRow.holds Tryz.pinned (OpenSpec.ofChange encZeroWrong)

/-- 'whitewashlaw10.EncParts': WHATEVER THE INPUT: true; the input reads as it did. -/
def encPartsSpec : ChangeSpec := { name := "encParts", fn := fun _ => fun
  | [d1, d2] => { results := [.lit (.bool true)], args := [d1, d2] }
  | _ => none }
def encPartsRow : OpenClaim := { program := "ytmonkcekkhfafaagreatdoor", sum := "54cb6b858a8b6be6133122e40d5084f3b17ad6a22da6f4e890b7a883fbd96bc9", func := "whitewash/whitewashlaw10.EncParts", spec := "encParts", unfollowed := true, recurses := true, named := ["whitewash/region.homes", "whitewash/mix.rounds"], apart := false, laid := [("whitewash/mix.rounds", laid_whitewash_mix_rounds), ("whitewash/region.homes", laid_whitewash_region_homes)] }
def EncPartsSaid : Prop := encPartsRow.holds Tryz.pinned (OpenSpec.ofChange encPartsSpec)

/-- ITS FALSE NEIGHBOUR: 'it returns false'. Refute it at one input. -/
def encPartsWrong : ChangeSpec := { name := "encParts", fn := fun _ => fun
  | [d1, d2] => { results := [.lit (.bool false)], args := [d1, d2] }
  | _ => none }
def EncPartsWrongFalsely : Prop := encPartsRow.holds Tryz.pinned (OpenSpec.ofChange encPartsWrong)

/-- 'whitewashlaw10.EncVotes': WHATEVER THE INPUT: true; the input reads as it did. -/
def encVotesSpec : ChangeSpec := { name := "encVotes", fn := fun _ => fun
  | [d1, d2, d3, d4] => { results := [.lit (.bool true)], args := [d1, d2, d3, d4] }
  | _ => none }
def encVotesRow : OpenClaim := { program := "ytmonkcekkhfafaagreatdoor", sum := "54cb6b858a8b6be6133122e40d5084f3b17ad6a22da6f4e890b7a883fbd96bc9", func := "whitewash/whitewashlaw10.EncVotes", spec := "encVotes", unfollowed := true, recurses := true, named := ["whitewash/region.homes", "whitewash/mix.rounds"], apart := false, laid := [("whitewash/mix.rounds", laid_whitewash_mix_rounds), ("whitewash/region.homes", laid_whitewash_region_homes)] }
def EncVotesSaid : Prop := encVotesRow.holds Tryz.pinned (OpenSpec.ofChange encVotesSpec)

/-- ITS FALSE NEIGHBOUR: 'it returns false'. Refute it at one input. -/
def encVotesWrong : ChangeSpec := { name := "encVotes", fn := fun _ => fun
  | [d1, d2, d3, d4] => { results := [.lit (.bool false)], args := [d1, d2, d3, d4] }
  | _ => none }
def EncVotesWrongFalsely : Prop := encVotesRow.holds Tryz.pinned (OpenSpec.ofChange encVotesWrong)

/- THE SECOND FORM. 'bulk': how many values and letters a reading holds, each counted each time it is reached (what is shared counts as often as it is met; a slice's spare places count too). A statement '..UptoSaid' is the law's where the arguments, and the package variables that the reading takes, are together of bulk at most 1048576: NARROWER than '..Said'. Prove '..Said' where nothing that the law and all that it calls make is longer than what came in: it says more and counts as full. Else prove '..UptoSaid'. A law counts once. -/
mutual
def uptoBulk {H : Type} : DataW H → Nat
  | .lit (.string bytes) => bytes.length + 1
  | .lit _ => 1
  | .nil => 1
  | .ptr d => uptoBulk d + 1
  | .slice elems spare => uptoBulkAll elems + uptoBulkAll spare + 1
  | .agg parts => uptoBulkAll parts + 1
  | .iface _ d => uptoBulk d + 1
  | .map entries => uptoBulkEntries entries + 1
  | .held _ => 1
def uptoBulkAll {H : Type} : List (DataW H) → Nat
  | [] => 0
  | d :: r => uptoBulk d + uptoBulkAll r
def uptoBulkEntries {H : Type} : List (Lit × DataW H) → Nat
  | [] => 0
  | x :: r => uptoBulkEntry x + uptoBulkEntries r
def uptoBulkEntry {H : Type} : Lit × DataW H → Nat
  | (.string bytes, d) => bytes.length + uptoBulk d + 1
  | (_, d) => uptoBulk d + 1
 end
def uptoSmall : (H : Type) → List (DataW H) → Bool := fun _ ds => decide (uptoBulkAll ds ≤ 1048576)
def OpenSpec.upto (s : _root_.Go.ChangeSpec) : _root_.Go.OpenSpec := { _root_.Go.OpenSpec.ofChange s with cond := some uptoSmall }

/-- 'whitewashlaw10.EncTells', WHERE WHAT IT READS IS OF BULK AT MOST 1048576: true; the input reads as it did. -/
def encTellsUptoRow : OpenClaim := { program := "ytmonkcekkhfafaagreatdoor", sum := "54cb6b858a8b6be6133122e40d5084f3b17ad6a22da6f4e890b7a883fbd96bc9", func := "whitewash/whitewashlaw10.EncTells", spec := "encTells", unfollowed := true, recurses := true, named := ["whitewash/region.homes", "whitewash/mix.rounds"], apart := false, laid := [("whitewash/mix.rounds", laid_whitewash_mix_rounds), ("whitewash/region.homes", laid_whitewash_region_homes)], narrowed := true }
def EncTellsUptoSaid : Prop := encTellsUptoRow.holds Tryz.pinned (OpenSpec.upto encTellsSpec)

/-- 'whitewashlaw10.EncBack', WHERE WHAT IT READS IS OF BULK AT MOST 1048576: true; the input reads as it did. -/
def encBackUptoRow : OpenClaim := { program := "ytmonkcekkhfafaagreatdoor", sum := "54cb6b858a8b6be6133122e40d5084f3b17ad6a22da6f4e890b7a883fbd96bc9", func := "whitewash/whitewashlaw10.EncBack", spec := "encBack", unfollowed := true, recurses := true, named := ["whitewash/region.homes", "whitewash/mix.rounds"], apart := false, laid := [("whitewash/mix.rounds", laid_whitewash_mix_rounds), ("whitewash/region.homes", laid_whitewash_region_homes)], narrowed := true }
def EncBackUptoSaid : Prop := encBackUptoRow.holds Tryz.pinned (OpenSpec.upto encBackSpec)

/-- 'whitewashlaw10.EncOne', WHERE WHAT IT READS IS OF BULK AT MOST 1048576: true; the input reads as it did. -/
def encOneUptoRow : OpenClaim := { program := "ytmonkcekkhfafaagreatdoor", sum := "54cb6b858a8b6be6133122e40d5084f3b17ad6a22da6f4e890b7a883fbd96bc9", func := "whitewash/whitewashlaw10.EncOne", spec := "encOne", unfollowed := true, recurses := true, named := ["whitewash/region.homes", "whitewash/mix.rounds"], apart := false, laid := [("whitewash/mix.rounds", laid_whitewash_mix_rounds), ("whitewash/region.homes", laid_whitewash_region_homes)], narrowed := true }
def EncOneUptoSaid : Prop := encOneUptoRow.holds Tryz.pinned (OpenSpec.upto encOneSpec)

/-- 'whitewashlaw10.EncZero', WHERE WHAT IT READS IS OF BULK AT MOST 1048576: true; the input reads as it did. -/
def encZeroUptoRow : OpenClaim := { program := "ytmonkcekkhfafaagreatdoor", sum := "54cb6b858a8b6be6133122e40d5084f3b17ad6a22da6f4e890b7a883fbd96bc9", func := "whitewash/whitewashlaw10.EncZero", spec := "encZero", unfollowed := true, recurses := true, named := ["whitewash/region.homes", "whitewash/mix.rounds"], apart := false, laid := [("whitewash/mix.rounds", laid_whitewash_mix_rounds), ("whitewash/region.homes", laid_whitewash_region_homes)], narrowed := true }
def EncZeroUptoSaid : Prop := encZeroUptoRow.holds Tryz.pinned (OpenSpec.upto encZeroSpec)

/-- 'whitewashlaw10.EncParts', WHERE WHAT IT READS IS OF BULK AT MOST 1048576: true; the input reads as it did. -/
def encPartsUptoRow : OpenClaim := { program := "ytmonkcekkhfafaagreatdoor", sum := "54cb6b858a8b6be6133122e40d5084f3b17ad6a22da6f4e890b7a883fbd96bc9", func := "whitewash/whitewashlaw10.EncParts", spec := "encParts", unfollowed := true, recurses := true, named := ["whitewash/region.homes", "whitewash/mix.rounds"], apart := false, laid := [("whitewash/mix.rounds", laid_whitewash_mix_rounds), ("whitewash/region.homes", laid_whitewash_region_homes)], narrowed := true }
def EncPartsUptoSaid : Prop := encPartsUptoRow.holds Tryz.pinned (OpenSpec.upto encPartsSpec)

/-- 'whitewashlaw10.EncVotes', WHERE WHAT IT READS IS OF BULK AT MOST 1048576: true; the input reads as it did. -/
def encVotesUptoRow : OpenClaim := { program := "ytmonkcekkhfafaagreatdoor", sum := "54cb6b858a8b6be6133122e40d5084f3b17ad6a22da6f4e890b7a883fbd96bc9", func := "whitewash/whitewashlaw10.EncVotes", spec := "encVotes", unfollowed := true, recurses := true, named := ["whitewash/region.homes", "whitewash/mix.rounds"], apart := false, laid := [("whitewash/mix.rounds", laid_whitewash_mix_rounds), ("whitewash/region.homes", laid_whitewash_region_homes)], narrowed := true }
def EncVotesUptoSaid : Prop := encVotesUptoRow.holds Tryz.pinned (OpenSpec.upto encVotesSpec)

end Rows
end Go.Proofs.YtmonkcekkhfafaaGreatDoor
