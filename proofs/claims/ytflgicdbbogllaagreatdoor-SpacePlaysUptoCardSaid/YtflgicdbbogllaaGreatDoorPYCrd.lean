import Derived.Test.YtflgicdbbogllaaGreatDoorPYPrf
import Derived.Test.YtflgicdbbogllaaGreatDoorCards
import Derived.Test.YtflgicdbbogllaaGreatDoorTie
import Derived.SevenTiedAt
set_option linter.unusedSimpArgs false
set_option linter.unusedVariables false
namespace Go.Proofs.YtflgicdbbogllaaGreatDoor
open Go
theorem spacePlaysUpto_card_holds : Rows.SpacePlaysUptoCardSaid :=
 Claim7.holds_tied_plain_at .later [] [.data, .data] true (true, "253da5218a1bcbd76e2c8265cc7c19e98981743e066109d6352c06fff0a6202a") false
  spacePlays.proved (fun _ h => by cases h) (by kernel_rfl) (fun _ h => by cases h) spacePlaysUpto_row_tie rfl ⟨rfl, rfl⟩ (by kernel_rfl) rfl
  (fun f fn hf hfn => by
   obtain rfl : f = 3 := Option.some.inj ((show Tryz.prog.funcNamed "kiln/kilnlaw5.SpacePlays" = some 3 by kernel_rfl).symm.trans hf) |>.symm
   obtain rfl : fn = Tryz.f3 := (Option.some.inj (Tryz.func3.symm.trans hfn)).symm
   exact ⟨by kernel_rfl, fun j t ht => by
    rw [Tryz.params3] at ht;have hm : t ∈ [3, 3, 3, 22] := by simpa using Array.mem_of_getElem? ht
    have hall : ([3, 3, 3, 22].all fun u => !Tryz.prog.wantsStandIn u) = true := by kernel_rfl
    exact (show Tryz.prog.wantsStandIn t = false by simpa using jBR.1 hall t hm)⟩)
  (by kernel_rfl)
end Go.Proofs.YtflgicdbbogllaaGreatDoor
