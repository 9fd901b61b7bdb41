import Derived.Test.YtheolmnjedbjmaaGreatDoorGI
import Derived.Test.YtheolmnjedbjmaaGreatDoorCards
import Derived.Test.YtheolmnjedbjmaaGreatDoorTie
import Derived.SevenTiedAt
namespace Go.Proofs.YtheolmnjedbjmaaGreatDoor
open Go
theorem scriptPrintsUpto_card_holds : Rows.ScriptPrintsUptoCardSaid :=
  Claim7.holds_tied_plain_at .later [] [.data, .data, .data] true (true, "ce72dcbb67a94dc375430ac6c15174c3ea74cf685643ec68cefdf1d5a5e872aa") true
    scriptPrints.proved (fun _ h => by cases h) (by kernel_rfl) (fun _ h => by cases h) scriptPrintsUpto_row_tie rfl ⟨rfl, rfl⟩ (by kernel_rfl) rfl
    (fun f fn hf hfn => by
      obtain rfl : f = 3 := Option.some.inj ((show Tryz.prog.funcNamed "kiln/kilnlaw24.ScriptPrints" = some 3 by kernel_rfl).symm.trans hf) |>.symm
      obtain rfl : fn = Tryz.f3 := (Option.some.inj (Tryz.func3.symm.trans hfn)).symm
      exact ⟨by kernel_rfl, fun j t ht => by
        rw [Tryz.params3] at ht
        have hm : t ∈ [24] := by simpa using Array.mem_of_getElem? ht
        have hall : ([24].all fun u => !Tryz.prog.wantsStandIn u) = true := by kernel_rfl
        exact (show Tryz.prog.wantsStandIn t = false by simpa using List.all_eq_true.1 hall t hm)⟩)
    (by kernel_rfl)
end Go.Proofs.YtheolmnjedbjmaaGreatDoor
