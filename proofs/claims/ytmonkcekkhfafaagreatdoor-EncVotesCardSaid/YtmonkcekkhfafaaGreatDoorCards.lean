/-
  DERIVED. GIVEN WITH THE SEED: THE CARDS: each row of YtmonkcekkhfafaaGreatDoorRows.lean that lists a variable, with what it lists TIED to the program's text (the seventh form; the later family's looks); each row that meets fmt, with fmt's text TOLD by the authors' own Lean function (tested against real Go, not proved from fmt's source: count such statements apart). THE CARD IS WHAT COUNTS. Prove the row's statement (the work); the ties are given (YtmonkcekkhfafaaGreatDoorTie.lean); close each card by the builder's one call (the guide's Derived/Test/ToyasCard.lean, 'card_holds'). Laid BY PROGRAM, IN A SANDBOX (cutbox-door.mjs). By AI agents, Wed Nov 11 2026. No macro, syntax, notation, axiom, sorry.
-/
import Derived.Test.YtmonkcekkhfafaaGreatDoorRows
import GoSem.ClaimSeven
namespace Go.Proofs.YtmonkcekkhfafaaGreatDoor
namespace Rows

/-- THE TIED CARD OF 'whitewashlaw10.EncTells'. -/
def encTellsCard : Claim7 := { stood := { row := encTellsRow, standIns := [], harness := (true, "036f03a8f59a33c9180d3302833a1ec4b62a039364da83a470b17da30856b764"), looks := false }, kinds := [], alts := [], laidByText := true, laidKinds := [.data, .data], laidTests := true, laidLooks := .later }
def EncTellsCardSaid : Prop := Claim7.holds Tryz.pinned (.plain (OpenSpec.ofChange encTellsSpec)) encTellsCard

/-- THE TIED CARD OF 'whitewashlaw10.EncBack'. -/
def encBackCard : Claim7 := { stood := { row := encBackRow, standIns := [], harness := (true, "036f03a8f59a33c9180d3302833a1ec4b62a039364da83a470b17da30856b764"), looks := false }, kinds := [], alts := [], laidByText := true, laidKinds := [.data, .data], laidTests := true, laidLooks := .later }
def EncBackCardSaid : Prop := Claim7.holds Tryz.pinned (.plain (OpenSpec.ofChange encBackSpec)) encBackCard

/-- THE TIED CARD OF 'whitewashlaw10.EncOne'. -/
def encOneCard : Claim7 := { stood := { row := encOneRow, standIns := [], harness := (true, "036f03a8f59a33c9180d3302833a1ec4b62a039364da83a470b17da30856b764"), looks := false }, kinds := [], alts := [], laidByText := true, laidKinds := [.data, .data], laidTests := true, laidLooks := .later }
def EncOneCardSaid : Prop := Claim7.holds Tryz.pinned (.plain (OpenSpec.ofChange encOneSpec)) encOneCard

/-- THE TIED CARD OF 'whitewashlaw10.EncZero'. -/
def encZeroCard : Claim7 := { stood := { row := encZeroRow, standIns := [], harness := (true, "036f03a8f59a33c9180d3302833a1ec4b62a039364da83a470b17da30856b764"), looks := false }, kinds := [], alts := [], laidByText := true, laidKinds := [.data, .data], laidTests := true, laidLooks := .later }
def EncZeroCardSaid : Prop := Claim7.holds Tryz.pinned (.plain (OpenSpec.ofChange encZeroSpec)) encZeroCard

/-- THE TIED CARD OF 'whitewashlaw10.EncParts'. -/
def encPartsCard : Claim7 := { stood := { row := encPartsRow, standIns := [], harness := (true, "036f03a8f59a33c9180d3302833a1ec4b62a039364da83a470b17da30856b764"), looks := false }, kinds := [], alts := [], laidByText := true, laidKinds := [.data, .data], laidTests := true, laidLooks := .later }
def EncPartsCardSaid : Prop := Claim7.holds Tryz.pinned (.plain (OpenSpec.ofChange encPartsSpec)) encPartsCard

/-- THE TIED CARD OF 'whitewashlaw10.EncVotes'. -/
def encVotesCard : Claim7 := { stood := { row := encVotesRow, standIns := [], harness := (true, "036f03a8f59a33c9180d3302833a1ec4b62a039364da83a470b17da30856b764"), looks := false }, kinds := [], alts := [], laidByText := true, laidKinds := [.data, .data], laidTests := true, laidLooks := .later }
def EncVotesCardSaid : Prop := Claim7.holds Tryz.pinned (.plain (OpenSpec.ofChange encVotesSpec)) encVotesCard

/-- THE SECOND FORM's CARD OF 'whitewashlaw10.EncTells'. -/
def encTellsUptoCard : Claim7 := { stood := { row := encTellsUptoRow, standIns := [], harness := (true, "036f03a8f59a33c9180d3302833a1ec4b62a039364da83a470b17da30856b764"), looks := false }, kinds := [], alts := [], laidByText := true, laidKinds := [.data, .data], laidTests := true, laidLooks := .later }
def EncTellsUptoCardSaid : Prop := Claim7.holds Tryz.pinned (.plain (OpenSpec.upto encTellsSpec)) encTellsUptoCard

/-- THE SECOND FORM's CARD OF 'whitewashlaw10.EncBack'. -/
def encBackUptoCard : Claim7 := { stood := { row := encBackUptoRow, standIns := [], harness := (true, "036f03a8f59a33c9180d3302833a1ec4b62a039364da83a470b17da30856b764"), looks := false }, kinds := [], alts := [], laidByText := true, laidKinds := [.data, .data], laidTests := true, laidLooks := .later }
def EncBackUptoCardSaid : Prop := Claim7.holds Tryz.pinned (.plain (OpenSpec.upto encBackSpec)) encBackUptoCard

/-- THE SECOND FORM's CARD OF 'whitewashlaw10.EncOne'. -/
def encOneUptoCard : Claim7 := { stood := { row := encOneUptoRow, standIns := [], harness := (true, "036f03a8f59a33c9180d3302833a1ec4b62a039364da83a470b17da30856b764"), looks := false }, kinds := [], alts := [], laidByText := true, laidKinds := [.data, .data], laidTests := true, laidLooks := .later }
def EncOneUptoCardSaid : Prop := Claim7.holds Tryz.pinned (.plain (OpenSpec.upto encOneSpec)) encOneUptoCard

/-- THE SECOND FORM's CARD OF 'whitewashlaw10.EncZero'. -/
def encZeroUptoCard : Claim7 := { stood := { row := encZeroUptoRow, standIns := [], harness := (true, "036f03a8f59a33c9180d3302833a1ec4b62a039364da83a470b17da30856b764"), looks := false }, kinds := [], alts := [], laidByText := true, laidKinds := [.data, .data], laidTests := true, laidLooks := .later }
def EncZeroUptoCardSaid : Prop := Claim7.holds Tryz.pinned (.plain (OpenSpec.upto encZeroSpec)) encZeroUptoCard

/-- THE SECOND FORM's CARD OF 'whitewashlaw10.EncParts'. -/
def encPartsUptoCard : Claim7 := { stood := { row := encPartsUptoRow, standIns := [], harness := (true, "036f03a8f59a33c9180d3302833a1ec4b62a039364da83a470b17da30856b764"), looks := false }, kinds := [], alts := [], laidByText := true, laidKinds := [.data, .data], laidTests := true, laidLooks := .later }
def EncPartsUptoCardSaid : Prop := Claim7.holds Tryz.pinned (.plain (OpenSpec.upto encPartsSpec)) encPartsUptoCard

/-- THE SECOND FORM's CARD OF 'whitewashlaw10.EncVotes'. -/
def encVotesUptoCard : Claim7 := { stood := { row := encVotesUptoRow, standIns := [], harness := (true, "036f03a8f59a33c9180d3302833a1ec4b62a039364da83a470b17da30856b764"), looks := false }, kinds := [], alts := [], laidByText := true, laidKinds := [.data, .data], laidTests := true, laidLooks := .later }
def EncVotesUptoCardSaid : Prop := Claim7.holds Tryz.pinned (.plain (OpenSpec.upto encVotesSpec)) encVotesUptoCard
end Rows
end Go.Proofs.YtmonkcekkhfafaaGreatDoor
