/-
  DERIVED. GIVEN WITH THE SEED: THE CARDS: each row of YtbgeojahhbchlaaDoorRows.lean that lists a variable, with what it lists TIED to the program's text (the seventh form; the later family's looks); each row that meets fmt, with fmt's text TOLD by the authors' own Lean function (tested against real Go, not proved from fmt's source: count such statements apart). THE CARD IS WHAT COUNTS. Prove the row's statement (the work); the ties are given (YtbgeojahhbchlaaDoorTie.lean); close each card by the builder's one call (the guide's Derived/Test/ToyasCard.lean, 'card_holds'). Laid BY PROGRAM, IN A SANDBOX (cutbox-door.mjs). By AI agents, Wed Nov 11 2026. No macro, syntax, notation, axiom, sorry.
-/
import Derived.Test.YtbgeojahhbchlaaDoorRows
import GoSem.ClaimSeven
namespace Go.Proofs.YtbgeojahhbchlaaDoor
namespace Rows

/-- THE TIED CARD OF 'whitewashlaw04.RegionTells'. -/
def regionTellsCard : Claim7 := { stood := { row := regionTellsRow, standIns := [], harness := (true, "f7e08895814beb6142bbacbc1bba4b1f449b624d83cbe30d02c01376d8c56f2e"), looks := false }, kinds := [], alts := [], laidByText := true, laidKinds := [.data], laidTests := true, laidLooks := .later }
def RegionTellsCardSaid : Prop := Claim7.holds Tryd.pinned (.plain (OpenSpec.ofChange regionTellsSpec)) regionTellsCard

/-- THE TIED CARD OF 'whitewashlaw04.RegionParts'. -/
def regionPartsCard : Claim7 := { stood := { row := regionPartsRow, standIns := [], harness := (true, "f7e08895814beb6142bbacbc1bba4b1f449b624d83cbe30d02c01376d8c56f2e"), looks := false }, kinds := [], alts := [], laidByText := true, laidKinds := [.data], laidTests := true, laidLooks := .later }
def RegionPartsCardSaid : Prop := Claim7.holds Tryd.pinned (.plain (OpenSpec.ofChange regionPartsSpec)) regionPartsCard

/-- THE TIED CARD OF 'whitewashlaw04.RegionRises'. -/
def regionRisesCard : Claim7 := { stood := { row := regionRisesRow, standIns := [], harness := (true, "f7e08895814beb6142bbacbc1bba4b1f449b624d83cbe30d02c01376d8c56f2e"), looks := false }, kinds := [], alts := [], laidByText := true, laidKinds := [.data], laidTests := true, laidLooks := .later }
def RegionRisesCardSaid : Prop := Claim7.holds Tryd.pinned (.plain (OpenSpec.ofChange regionRisesSpec)) regionRisesCard

/-- THE TIED CARD OF 'whitewashlaw04.RegionGrows'. -/
def regionGrowsCard : Claim7 := { stood := { row := regionGrowsRow, standIns := [], harness := (true, "f7e08895814beb6142bbacbc1bba4b1f449b624d83cbe30d02c01376d8c56f2e"), looks := false }, kinds := [], alts := [], laidByText := true, laidKinds := [.data], laidTests := true, laidLooks := .later }
def RegionGrowsCardSaid : Prop := Claim7.holds Tryd.pinned (.plain (OpenSpec.ofChange regionGrowsSpec)) regionGrowsCard

/-- THE SECOND FORM's CARD OF 'whitewashlaw04.RegionTells'. -/
def regionTellsUptoCard : Claim7 := { stood := { row := regionTellsUptoRow, standIns := [], harness := (true, "f7e08895814beb6142bbacbc1bba4b1f449b624d83cbe30d02c01376d8c56f2e"), looks := false }, kinds := [], alts := [], laidByText := true, laidKinds := [.data], laidTests := true, laidLooks := .later }
def RegionTellsUptoCardSaid : Prop := Claim7.holds Tryd.pinned (.plain (OpenSpec.upto regionTellsSpec)) regionTellsUptoCard

/-- THE SECOND FORM's CARD OF 'whitewashlaw04.RegionParts'. -/
def regionPartsUptoCard : Claim7 := { stood := { row := regionPartsUptoRow, standIns := [], harness := (true, "f7e08895814beb6142bbacbc1bba4b1f449b624d83cbe30d02c01376d8c56f2e"), looks := false }, kinds := [], alts := [], laidByText := true, laidKinds := [.data], laidTests := true, laidLooks := .later }
def RegionPartsUptoCardSaid : Prop := Claim7.holds Tryd.pinned (.plain (OpenSpec.upto regionPartsSpec)) regionPartsUptoCard

/-- THE SECOND FORM's CARD OF 'whitewashlaw04.RegionRises'. -/
def regionRisesUptoCard : Claim7 := { stood := { row := regionRisesUptoRow, standIns := [], harness := (true, "f7e08895814beb6142bbacbc1bba4b1f449b624d83cbe30d02c01376d8c56f2e"), looks := false }, kinds := [], alts := [], laidByText := true, laidKinds := [.data], laidTests := true, laidLooks := .later }
def RegionRisesUptoCardSaid : Prop := Claim7.holds Tryd.pinned (.plain (OpenSpec.upto regionRisesSpec)) regionRisesUptoCard

/-- THE SECOND FORM's CARD OF 'whitewashlaw04.RegionGrows'. -/
def regionGrowsUptoCard : Claim7 := { stood := { row := regionGrowsUptoRow, standIns := [], harness := (true, "f7e08895814beb6142bbacbc1bba4b1f449b624d83cbe30d02c01376d8c56f2e"), looks := false }, kinds := [], alts := [], laidByText := true, laidKinds := [.data], laidTests := true, laidLooks := .later }
def RegionGrowsUptoCardSaid : Prop := Claim7.holds Tryd.pinned (.plain (OpenSpec.upto regionGrowsSpec)) regionGrowsUptoCard
end Rows
end Go.Proofs.YtbgeojahhbchlaaDoor
