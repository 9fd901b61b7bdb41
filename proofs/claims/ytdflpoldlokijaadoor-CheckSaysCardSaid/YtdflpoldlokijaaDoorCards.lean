/-
  DERIVED. GIVEN WITH THE SEED: THE CARDS: each row of YtdflpoldlokijaaDoorRows.lean that lists a variable, with what it lists TIED to the program's text (the seventh form; the later family's looks); each row that meets fmt, with fmt's text TOLD by the authors' own Lean function (tested against real Go, not proved from fmt's source: count such statements apart). THE CARD IS WHAT COUNTS. Prove the row's statement (the work); the ties are given (YtdflpoldlokijaaDoorTie.lean); close each card by the builder's one call (the guide's Derived/Test/ToyasCard.lean, 'card_holds'). Laid BY PROGRAM, IN A SANDBOX (cutbox-door.mjs). By AI agents, Wed Nov 11 2026. No macro, syntax, notation, axiom, sorry.
-/
import Derived.Test.YtdflpoldlokijaaDoorRows
import GoSem.ClaimSeven
namespace Go.Proofs.YtdflpoldlokijaaDoor
namespace Rows

/-- THE TIED CARD OF 'kilnlaw11.CheckSafe'. -/
def checkSafeCard : Claim7 := { stood := { row := checkSafeRow, standIns := [], harness := (true, "6705b0894790ab898084b976169707efc39c37c9ff057571360e5da90e5f4388"), looks := false }, kinds := [], alts := [], laidByText := true, laidKinds := [.data], laidTests := true, laidLooks := .later }
def CheckSafeCardSaid : Prop := Claim7.holds Tryd.pinned (.plain (OpenSpec.ofChange checkSafeSpec)) checkSafeCard

/-- THE TIED CARD OF 'kilnlaw11.CheckSays'. -/
def checkSaysCard : Claim7 := { stood := { row := checkSaysRow, standIns := [], harness := (true, "6705b0894790ab898084b976169707efc39c37c9ff057571360e5da90e5f4388"), looks := false }, kinds := [], alts := [], laidByText := true, laidKinds := [.data], laidTests := true, laidLooks := .later }
def CheckSaysCardSaid : Prop := Claim7.holds Tryd.pinned (.plain (OpenSpec.ofChange checkSaysSpec)) checkSaysCard

/-- THE SECOND FORM's CARD OF 'kilnlaw11.CheckSafe'. -/
def checkSafeUptoCard : Claim7 := { stood := { row := checkSafeUptoRow, standIns := [], harness := (true, "6705b0894790ab898084b976169707efc39c37c9ff057571360e5da90e5f4388"), looks := false }, kinds := [], alts := [], laidByText := true, laidKinds := [.data], laidTests := true, laidLooks := .later }
def CheckSafeUptoCardSaid : Prop := Claim7.holds Tryd.pinned (.plain (OpenSpec.upto checkSafeSpec)) checkSafeUptoCard

/-- THE SECOND FORM's CARD OF 'kilnlaw11.CheckSays'. -/
def checkSaysUptoCard : Claim7 := { stood := { row := checkSaysUptoRow, standIns := [], harness := (true, "6705b0894790ab898084b976169707efc39c37c9ff057571360e5da90e5f4388"), looks := false }, kinds := [], alts := [], laidByText := true, laidKinds := [.data], laidTests := true, laidLooks := .later }
def CheckSaysUptoCardSaid : Prop := Claim7.holds Tryd.pinned (.plain (OpenSpec.upto checkSaysSpec)) checkSaysUptoCard
end Rows
end Go.Proofs.YtdflpoldlokijaaDoor
