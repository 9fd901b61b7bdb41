/-
  DERIVED. GIVEN WITH THE SEED: THE CARDS: each row of YtpaekbghnejhoaaDoorRows.lean that lists a variable, with what it lists TIED to the program's text (the seventh form; the later family's looks); each row that meets fmt, with fmt's text TOLD by the authors' own Lean function (tested against real Go, not proved from fmt's source: count such statements apart). THE CARD IS WHAT COUNTS. Prove the row's statement (the work); the ties are given (YtpaekbghnejhoaaDoorTie.lean); close each card by the builder's one call (the guide's Derived/Test/ToyasCard.lean, 'card_holds'). Laid BY PROGRAM, IN A SANDBOX (cutbox-door.mjs). By AI agents, Wed Nov 11 2026. No macro, syntax, notation, axiom, sorry.
-/
import Derived.Test.YtpaekbghnejhoaaDoorRows
import GoSem.ClaimSeven
namespace Go.Proofs.YtpaekbghnejhoaaDoor
namespace Rows

/-- THE TIED CARD OF 'kilnlaw3.CollectFreely'. -/
def collectFreelyCard : Claim7 := { stood := { row := collectFreelyRow, standIns := [], harness := (true, "e830a6fe3ecf76df54279f74d0fe05593ee7f67d03106f0181078ec74fcf840a"), looks := false }, kinds := [], alts := [], laidByText := true, laidKinds := [.data, .data], laidTests := true, laidLooks := .later }
def CollectFreelyCardSaid : Prop := Claim7.holds Tryd.pinned (.plain (OpenSpec.ofChange collectFreelySpec)) collectFreelyCard

/-- THE TIED CARD OF 'kilnlaw3.CollectKeeps'. -/
def collectKeepsCard : Claim7 := { stood := { row := collectKeepsRow, standIns := [], harness := (true, "e830a6fe3ecf76df54279f74d0fe05593ee7f67d03106f0181078ec74fcf840a"), looks := false }, kinds := [], alts := [], laidByText := true, laidKinds := [.data], laidTests := true, laidLooks := .later }
def CollectKeepsCardSaid : Prop := Claim7.holds Tryd.pinned (.plain (OpenSpec.ofChange collectKeepsSpec)) collectKeepsCard

/-- THE TIED CARD OF 'kilnlaw3.CollectReaches'. -/
def collectReachesCard : Claim7 := { stood := { row := collectReachesRow, standIns := [], harness := (true, "e830a6fe3ecf76df54279f74d0fe05593ee7f67d03106f0181078ec74fcf840a"), looks := false }, kinds := [], alts := [], laidByText := true, laidKinds := [.data], laidTests := true, laidLooks := .later }
def CollectReachesCardSaid : Prop := Claim7.holds Tryd.pinned (.plain (OpenSpec.ofChange collectReachesSpec)) collectReachesCard

/-- THE TIED CARD OF 'kilnlaw3.CollectRuns'. -/
def collectRunsCard : Claim7 := { stood := { row := collectRunsRow, standIns := [], harness := (true, "e830a6fe3ecf76df54279f74d0fe05593ee7f67d03106f0181078ec74fcf840a"), looks := false }, kinds := [], alts := [], laidByText := true, laidKinds := [.data], laidTests := true, laidLooks := .later }
def CollectRunsCardSaid : Prop := Claim7.holds Tryd.pinned (.plain (OpenSpec.ofChange collectRunsSpec)) collectRunsCard

/-- THE SECOND FORM's CARD OF 'kilnlaw3.CollectFreely'. -/
def collectFreelyUptoCard : Claim7 := { stood := { row := collectFreelyUptoRow, standIns := [], harness := (true, "e830a6fe3ecf76df54279f74d0fe05593ee7f67d03106f0181078ec74fcf840a"), looks := false }, kinds := [], alts := [], laidByText := true, laidKinds := [.data, .data], laidTests := true, laidLooks := .later }
def CollectFreelyUptoCardSaid : Prop := Claim7.holds Tryd.pinned (.plain (OpenSpec.upto collectFreelySpec)) collectFreelyUptoCard

/-- THE SECOND FORM's CARD OF 'kilnlaw3.CollectKeeps'. -/
def collectKeepsUptoCard : Claim7 := { stood := { row := collectKeepsUptoRow, standIns := [], harness := (true, "e830a6fe3ecf76df54279f74d0fe05593ee7f67d03106f0181078ec74fcf840a"), looks := false }, kinds := [], alts := [], laidByText := true, laidKinds := [.data], laidTests := true, laidLooks := .later }
def CollectKeepsUptoCardSaid : Prop := Claim7.holds Tryd.pinned (.plain (OpenSpec.upto collectKeepsSpec)) collectKeepsUptoCard

/-- THE SECOND FORM's CARD OF 'kilnlaw3.CollectReaches'. -/
def collectReachesUptoCard : Claim7 := { stood := { row := collectReachesUptoRow, standIns := [], harness := (true, "e830a6fe3ecf76df54279f74d0fe05593ee7f67d03106f0181078ec74fcf840a"), looks := false }, kinds := [], alts := [], laidByText := true, laidKinds := [.data], laidTests := true, laidLooks := .later }
def CollectReachesUptoCardSaid : Prop := Claim7.holds Tryd.pinned (.plain (OpenSpec.upto collectReachesSpec)) collectReachesUptoCard

/-- THE SECOND FORM's CARD OF 'kilnlaw3.CollectRuns'. -/
def collectRunsUptoCard : Claim7 := { stood := { row := collectRunsUptoRow, standIns := [], harness := (true, "e830a6fe3ecf76df54279f74d0fe05593ee7f67d03106f0181078ec74fcf840a"), looks := false }, kinds := [], alts := [], laidByText := true, laidKinds := [.data], laidTests := true, laidLooks := .later }
def CollectRunsUptoCardSaid : Prop := Claim7.holds Tryd.pinned (.plain (OpenSpec.upto collectRunsSpec)) collectRunsUptoCard
end Rows
end Go.Proofs.YtpaekbghnejhoaaDoor
