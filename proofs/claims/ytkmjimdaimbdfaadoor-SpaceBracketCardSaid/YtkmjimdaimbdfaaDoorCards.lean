/-
  DERIVED. GIVEN WITH THE SEED: THE CARDS: each row of YtkmjimdaimbdfaaDoorRows.lean that lists a variable, with what it lists TIED to the program's text (the seventh form; the later family's looks); each row that meets fmt, with fmt's text TOLD by the authors' own Lean function (tested against real Go, not proved from fmt's source: count such statements apart). THE CARD IS WHAT COUNTS. Prove the row's statement (the work); the ties are given (YtkmjimdaimbdfaaDoorTie.lean); close each card by the builder's one call (the guide's Derived/Test/ToyasCard.lean, 'card_holds'). Laid BY PROGRAM, IN A SANDBOX (cutbox-door.mjs). By AI agents, Wed Nov 11 2026. No macro, syntax, notation, axiom, sorry.
-/
import Derived.Test.YtkmjimdaimbdfaaDoorRows
import GoSem.ClaimSeven
namespace Go.Proofs.YtkmjimdaimbdfaaDoor
namespace Rows

/-- THE TIED CARD OF 'kilnlaw5.SpaceTruly'. -/
def spaceTrulyCard : Claim7 := { stood := { row := spaceTrulyRow, standIns := [], harness := (true, "ef0c3ab90468cd5773bf0d6c2f4f58a6ea143175321426007bf19880d006d302"), looks := false }, kinds := [], alts := [], laidByText := true, laidKinds := [.data, .data], laidTests := true, laidLooks := .later }
def SpaceTrulyCardSaid : Prop := Claim7.holds Tryd.pinned (.plain (OpenSpec.ofChange spaceTrulySpec)) spaceTrulyCard

/-- THE TIED CARD OF 'kilnlaw5.SpaceBracket'. -/
def spaceBracketCard : Claim7 := { stood := { row := spaceBracketRow, standIns := [], harness := (true, "ef0c3ab90468cd5773bf0d6c2f4f58a6ea143175321426007bf19880d006d302"), looks := false }, kinds := [], alts := [], laidByText := true, laidKinds := [.data, .data], laidTests := true, laidLooks := .later }
def SpaceBracketCardSaid : Prop := Claim7.holds Tryd.pinned (.plain (OpenSpec.ofChange spaceBracketSpec)) spaceBracketCard

/-- THE TIED CARD OF 'kilnlaw5.SpaceAgain'. -/
def spaceAgainCard : Claim7 := { stood := { row := spaceAgainRow, standIns := [], harness := (true, "ef0c3ab90468cd5773bf0d6c2f4f58a6ea143175321426007bf19880d006d302"), looks := false }, kinds := [], alts := [], laidByText := true, laidKinds := [.data, .data], laidTests := true, laidLooks := .later }
def SpaceAgainCardSaid : Prop := Claim7.holds Tryd.pinned (.plain (OpenSpec.ofChange spaceAgainSpec)) spaceAgainCard

/-- THE SECOND FORM's CARD OF 'kilnlaw5.SpaceTruly'. -/
def spaceTrulyUptoCard : Claim7 := { stood := { row := spaceTrulyUptoRow, standIns := [], harness := (true, "ef0c3ab90468cd5773bf0d6c2f4f58a6ea143175321426007bf19880d006d302"), looks := false }, kinds := [], alts := [], laidByText := true, laidKinds := [.data, .data], laidTests := true, laidLooks := .later }
def SpaceTrulyUptoCardSaid : Prop := Claim7.holds Tryd.pinned (.plain (OpenSpec.upto spaceTrulySpec)) spaceTrulyUptoCard

/-- THE SECOND FORM's CARD OF 'kilnlaw5.SpaceBracket'. -/
def spaceBracketUptoCard : Claim7 := { stood := { row := spaceBracketUptoRow, standIns := [], harness := (true, "ef0c3ab90468cd5773bf0d6c2f4f58a6ea143175321426007bf19880d006d302"), looks := false }, kinds := [], alts := [], laidByText := true, laidKinds := [.data, .data], laidTests := true, laidLooks := .later }
def SpaceBracketUptoCardSaid : Prop := Claim7.holds Tryd.pinned (.plain (OpenSpec.upto spaceBracketSpec)) spaceBracketUptoCard

/-- THE SECOND FORM's CARD OF 'kilnlaw5.SpaceAgain'. -/
def spaceAgainUptoCard : Claim7 := { stood := { row := spaceAgainUptoRow, standIns := [], harness := (true, "ef0c3ab90468cd5773bf0d6c2f4f58a6ea143175321426007bf19880d006d302"), looks := false }, kinds := [], alts := [], laidByText := true, laidKinds := [.data, .data], laidTests := true, laidLooks := .later }
def SpaceAgainUptoCardSaid : Prop := Claim7.holds Tryd.pinned (.plain (OpenSpec.upto spaceAgainSpec)) spaceAgainUptoCard
end Rows
end Go.Proofs.YtkmjimdaimbdfaaDoor
