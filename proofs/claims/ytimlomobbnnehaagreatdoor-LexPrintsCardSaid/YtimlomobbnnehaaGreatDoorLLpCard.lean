import Derived.Test.YtimlomobbnnehaaGreatDoorLLpProof
import Derived.Test.YtimlomobbnnehaaGreatDoorCards
import Derived.Test.YtimlomobbnnehaaGreatDoorTie
import Derived.SevenTiedAt
namespace Go.Proofs.YtimlomobbnnehaaGreatDoor
open Go
theorem lexPrints_card_holds : Rows.LexPrintsCardSaid :=
  Claim7.holds_tied_plain_at .later [] [.data, .data, .data, .data, .data, .pinned] true (true, "9e1df7712e695606d70f59571b180c5bed14e535959e639f6709d384c63de31a") false
    lexPrints.proved (fun _ h => by cases h) (by kernel_rfl) (fun _ h => by cases h) lexPrints_row_tie rfl ⟨rfl, rfl⟩ (by kernel_rfl) rfl
    (fun f fn hf hfn => by
      obtain rfl : f = 3 := Option.some.inj ((show Tryz.prog.funcNamed "kiln/kilnlaw7.LexPrints" = some 3 by kernel_rfl).symm.trans hf) |>.symm
      obtain rfl : fn = Tryz.f3 := (Option.some.inj (Tryz.func3.symm.trans hfn)).symm
      exact ⟨by kernel_rfl, fun j t ht => by
        rw [Tryz.params3] at ht
        have hm : t ∈ [22] := by simpa using Array.mem_of_getElem? ht
        have hall : ([22].all fun u => !Tryz.prog.wantsStandIn u) = true := by kernel_rfl
        exact (show Tryz.prog.wantsStandIn t = false by simpa using List.all_eq_true.1 hall t hm)⟩)
    (by kernel_rfl)
end Go.Proofs.YtimlomobbnnehaaGreatDoor
