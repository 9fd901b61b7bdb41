import Derived.Test.YtfhkhmgodkheaaaGreatDoorQAUGsProof
import Derived.Test.YtfhkhmgodkheaaaGreatDoorCards
import Derived.Test.YtfhkhmgodkheaaaGreatDoorTie
import Derived.SevenTiedAt
set_option linter.unusedSimpArgs false
set_option linter.unusedVariables false
namespace Go.Proofs.YtfhkhmgodkheaaaGreatDoor
open Go
theorem parseGaps_card_holds:Rows.ParseGapsCardSaid :=
 Claim7.holds_tied_plain_at .later [] [.data,.data,.data,.data,.data,.data,.pinned] true (true, "af77b4469b7b9dd5a2461baf8e6a261e7cab0788ba2fb54de74bccc34aec8c51") true
  parseGaps.proved (fun _ h=>by cases h) (by kernel_rfl) (fun _ h=>by cases h) parseGaps_row_tie rfl ⟨rfl,rfl⟩ (by kernel_rfl) rfl
  (fun f fn hf hfn=>by
   obtain rfl:f=7:=Option.some.inj ((show Tryz.prog.funcNamed "kiln/kilnlaw8.ParseGaps" = some 7 by kernel_rfl).symm.trans hf) |>.symm
   obtain rfl:fn=Tryz.f7:=(Option.some.inj (Tryz.func7.symm.trans hfn)).symm
   exact ⟨by kernel_rfl,fun j t ht=>by
    rw [Tryz.params7] at ht
    have hm:t∈[9,4,3,9,4]:=by simpa using Array.mem_of_getElem? ht
    have hall:([9,4,3,9,4].all fun u=>!Tryz.prog.wantsStandIn u)=true:=by kernel_rfl
    exact (show Tryz.prog.wantsStandIn t=false by simpa using List.all_eq_true.1 hall t hm)⟩)
  (by kernel_rfl)
end Go.Proofs.YtfhkhmgodkheaaaGreatDoor
