/-
  DERIVED. GIVEN WITH THE SEED: THE CARDS: each row of YtclkoffnjiiioaaDoorRows.lean that lists a variable, with what it lists TIED to the program's text (the seventh form; the later family's looks); each row that meets fmt, with fmt's text TOLD by the authors' own Lean function (tested against real Go, not proved from fmt's source: count such statements apart). THE CARD IS WHAT COUNTS. Prove the row's statement (the work); the ties are given (YtclkoffnjiiioaaDoorTie.lean); close each card by the builder's one call (the guide's Derived/Test/ToyasCard.lean, 'card_holds'). Laid BY PROGRAM, IN A SANDBOX (cutbox-door.mjs). By AI agents, Wed Nov 11 2026. No macro, syntax, notation, axiom, sorry.
-/
import Derived.Test.YtclkoffnjiiioaaDoorRows
import GoSem.ClaimSeven
namespace Go.Proofs.YtclkoffnjiiioaaDoor
namespace Rows

/-- THE TIED CARD OF 'kilnlaw12.ListingPrints'. -/
def listingPrintsCard : Claim7 := { stood := { row := listingPrintsRow, standIns := [], harness := (true, "2db3add3f4c891b7878fb40229295eb38689a9b9d919c442f08fb7f73a0c75ef"), looks := false }, kinds := [], alts := [], laidByText := true, laidKinds := [.data, .data, .data, .data], laidTests := true, laidLooks := .later }
def ListingPrintsCardSaid : Prop := Claim7.holds Tryd.pinned (.plain (OpenSpec.ofChange listingPrintsSpec)) listingPrintsCard

/-- THE SECOND FORM's CARD OF 'kilnlaw12.ListingPrints'. -/
def listingPrintsUptoCard : Claim7 := { stood := { row := listingPrintsUptoRow, standIns := [], harness := (true, "2db3add3f4c891b7878fb40229295eb38689a9b9d919c442f08fb7f73a0c75ef"), looks := false }, kinds := [], alts := [], laidByText := true, laidKinds := [.data, .data, .data, .data], laidTests := true, laidLooks := .later }
def ListingPrintsUptoCardSaid : Prop := Claim7.holds Tryd.pinned (.plain (OpenSpec.upto listingPrintsSpec)) listingPrintsUptoCard
end Rows
end Go.Proofs.YtclkoffnjiiioaaDoor
