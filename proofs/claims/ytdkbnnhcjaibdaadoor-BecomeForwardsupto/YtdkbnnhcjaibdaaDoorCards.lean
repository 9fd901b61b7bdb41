/-
  DERIVED. GIVEN WITH THE SEED: THE CARDS: each row of YtdkbnnhcjaibdaaDoorRows.lean that lists a variable, with what it lists TIED to the program's text (the seventh form; the later family's looks); each row that meets fmt, with fmt's text TOLD by the authors' own Lean function (tested against real Go, not proved from fmt's source: count such statements apart). THE CARD IS WHAT COUNTS. Prove the row's statement (the work); the ties are given (YtdkbnnhcjaibdaaDoorTie.lean); close each card by the builder's one call (the guide's Derived/Test/ToyasCard.lean, 'card_holds'). Laid BY PROGRAM, IN A SANDBOX (cutbox-door.mjs). By AI agents, Wed Nov 11 2026. No macro, syntax, notation, axiom, sorry.
-/
import Derived.Test.YtdkbnnhcjaibdaaDoorRows
import GoSem.ClaimSeven
namespace Go.Proofs.YtdkbnnhcjaibdaaDoor
namespace Rows

/-- THE TIED CARD OF 'kilnlaw2.HeapAgain'. -/
def heapAgainCard : Claim7 := { stood := { row := heapAgainRow, standIns := [], harness := (true, "66297736d04a0d39e52da1b274f20d020e6941bc30c68440b819db8cd290c5f6"), looks := false }, kinds := [], alts := [], laidByText := true, laidKinds := [.data, .data], laidTests := true, laidLooks := .later }
def HeapAgainCardSaid : Prop := Claim7.holds Tryd.pinned (.plain (OpenSpec.ofChange heapAgainSpec)) heapAgainCard

/-- THE TIED CARD OF 'kilnlaw2.HeapPlays'. -/
def heapPlaysCard : Claim7 := { stood := { row := heapPlaysRow, standIns := [], harness := (true, "66297736d04a0d39e52da1b274f20d020e6941bc30c68440b819db8cd290c5f6"), looks := false }, kinds := [], alts := [], laidByText := true, laidKinds := [.data, .data], laidTests := true, laidLooks := .later }
def HeapPlaysCardSaid : Prop := Claim7.holds Tryd.pinned (.plain (OpenSpec.ofChange heapPlaysSpec)) heapPlaysCard

/-- THE TIED CARD OF 'kilnlaw4.BecomeSwapped'. -/
def becomeSwappedCard : Claim7 := { stood := { row := becomeSwappedRow, standIns := [], harness := (true, "66297736d04a0d39e52da1b274f20d020e6941bc30c68440b819db8cd290c5f6"), looks := false }, kinds := [], alts := [], laidByText := true, laidKinds := [.data], laidTests := true, laidLooks := .later }
def BecomeSwappedCardSaid : Prop := Claim7.holds Tryd.pinned (.plain (OpenSpec.ofChange becomeSwappedSpec)) becomeSwappedCard

/-- THE TIED CARD OF 'kilnlaw4.BecomeForwards'. -/
def becomeForwardsCard : Claim7 := { stood := { row := becomeForwardsRow, standIns := [], harness := (true, "66297736d04a0d39e52da1b274f20d020e6941bc30c68440b819db8cd290c5f6"), looks := false }, kinds := [], alts := [], laidByText := true, laidKinds := [.data], laidTests := true, laidLooks := .later }
def BecomeForwardsCardSaid : Prop := Claim7.holds Tryd.pinned (.plain (OpenSpec.ofChange becomeForwardsSpec)) becomeForwardsCard

/-- THE TIED CARD OF 'kilnlaw4.BecomeSwaps'. -/
def becomeSwapsCard : Claim7 := { stood := { row := becomeSwapsRow, standIns := [], harness := (true, "66297736d04a0d39e52da1b274f20d020e6941bc30c68440b819db8cd290c5f6"), looks := false }, kinds := [], alts := [], laidByText := true, laidKinds := [.data], laidTests := true, laidLooks := .later }
def BecomeSwapsCardSaid : Prop := Claim7.holds Tryd.pinned (.plain (OpenSpec.ofChange becomeSwapsSpec)) becomeSwapsCard

/-- THE TIED CARD OF 'kilnlaw4.BecomeForwarded'. -/
def becomeForwardedCard : Claim7 := { stood := { row := becomeForwardedRow, standIns := [], harness := (true, "66297736d04a0d39e52da1b274f20d020e6941bc30c68440b819db8cd290c5f6"), looks := false }, kinds := [], alts := [], laidByText := true, laidKinds := [.data], laidTests := true, laidLooks := .later }
def BecomeForwardedCardSaid : Prop := Claim7.holds Tryd.pinned (.plain (OpenSpec.ofChange becomeForwardedSpec)) becomeForwardedCard

/-- THE SECOND FORM's CARD OF 'kilnlaw2.HeapAgain'. -/
def heapAgainUptoCard : Claim7 := { stood := { row := heapAgainUptoRow, standIns := [], harness := (true, "66297736d04a0d39e52da1b274f20d020e6941bc30c68440b819db8cd290c5f6"), looks := false }, kinds := [], alts := [], laidByText := true, laidKinds := [.data, .data], laidTests := true, laidLooks := .later }
def HeapAgainUptoCardSaid : Prop := Claim7.holds Tryd.pinned (.plain (OpenSpec.upto heapAgainSpec)) heapAgainUptoCard

/-- THE SECOND FORM's CARD OF 'kilnlaw2.HeapPlays'. -/
def heapPlaysUptoCard : Claim7 := { stood := { row := heapPlaysUptoRow, standIns := [], harness := (true, "66297736d04a0d39e52da1b274f20d020e6941bc30c68440b819db8cd290c5f6"), looks := false }, kinds := [], alts := [], laidByText := true, laidKinds := [.data, .data], laidTests := true, laidLooks := .later }
def HeapPlaysUptoCardSaid : Prop := Claim7.holds Tryd.pinned (.plain (OpenSpec.upto heapPlaysSpec)) heapPlaysUptoCard

/-- THE SECOND FORM's CARD OF 'kilnlaw4.BecomeSwapped'. -/
def becomeSwappedUptoCard : Claim7 := { stood := { row := becomeSwappedUptoRow, standIns := [], harness := (true, "66297736d04a0d39e52da1b274f20d020e6941bc30c68440b819db8cd290c5f6"), looks := false }, kinds := [], alts := [], laidByText := true, laidKinds := [.data], laidTests := true, laidLooks := .later }
def BecomeSwappedUptoCardSaid : Prop := Claim7.holds Tryd.pinned (.plain (OpenSpec.upto becomeSwappedSpec)) becomeSwappedUptoCard

/-- THE SECOND FORM's CARD OF 'kilnlaw4.BecomeForwards'. -/
def becomeForwardsUptoCard : Claim7 := { stood := { row := becomeForwardsUptoRow, standIns := [], harness := (true, "66297736d04a0d39e52da1b274f20d020e6941bc30c68440b819db8cd290c5f6"), looks := false }, kinds := [], alts := [], laidByText := true, laidKinds := [.data], laidTests := true, laidLooks := .later }
def BecomeForwardsUptoCardSaid : Prop := Claim7.holds Tryd.pinned (.plain (OpenSpec.upto becomeForwardsSpec)) becomeForwardsUptoCard

/-- THE SECOND FORM's CARD OF 'kilnlaw4.BecomeSwaps'. -/
def becomeSwapsUptoCard : Claim7 := { stood := { row := becomeSwapsUptoRow, standIns := [], harness := (true, "66297736d04a0d39e52da1b274f20d020e6941bc30c68440b819db8cd290c5f6"), looks := false }, kinds := [], alts := [], laidByText := true, laidKinds := [.data], laidTests := true, laidLooks := .later }
def BecomeSwapsUptoCardSaid : Prop := Claim7.holds Tryd.pinned (.plain (OpenSpec.upto becomeSwapsSpec)) becomeSwapsUptoCard

/-- THE SECOND FORM's CARD OF 'kilnlaw4.BecomeForwarded'. -/
def becomeForwardedUptoCard : Claim7 := { stood := { row := becomeForwardedUptoRow, standIns := [], harness := (true, "66297736d04a0d39e52da1b274f20d020e6941bc30c68440b819db8cd290c5f6"), looks := false }, kinds := [], alts := [], laidByText := true, laidKinds := [.data], laidTests := true, laidLooks := .later }
def BecomeForwardedUptoCardSaid : Prop := Claim7.holds Tryd.pinned (.plain (OpenSpec.upto becomeForwardedSpec)) becomeForwardedUptoCard
end Rows
end Go.Proofs.YtdkbnnhcjaibdaaDoor
