import Derived.Test.YtfhkhmgodkheaaaGreatDoorQCUBsProof
import Derived.Test.YtfhkhmgodkheaaaGreatDoorCards
import Derived.Test.YtfhkhmgodkheaaaGreatDoorTie
import Derived.SevenTiedAt
set_option linter.unusedSimpArgs false
set_option linter.unusedVariables false
namespace Go.Proofs.YtfhkhmgodkheaaaGreatDoor
open Go
theorem parseBracket_card_holds:Rows.ParseBracketCardSaid :=
 Claim7.holds_tied_plain_at .later [] [.data,.data,.data,.data,.data,.data,.pinned] true (true, "af77b4469b7b9dd5a2461baf8e6a261e7cab0788ba2fb54de74bccc34aec8c51") true
  parseBracket.proved (fun _ h=>by cases h) (by kernel_rfl) (fun _ h=>by cases h) parseBracket_row_tie rfl ⟨rfl,rfl⟩ (by kernel_rfl) rfl
  (fun f fn hf hfn=>by
   obtain rfl:f=4:=Option.some.inj ((show Tryz.prog.funcNamed "kiln/kilnlaw8.ParseBracket" = some 4 by kernel_rfl).symm.trans hf) |>.symm
   obtain rfl:fn=Tryz.f4:=(Option.some.inj (Tryz.func4.symm.trans hfn)).symm;exact ⟨by kernel_rfl,fun j t ht=>by
    rw [Tryz.params4] at ht;have hm:t∈[9,3]:=by simpa using Array.mem_of_getElem? ht
    have hall:([9,3].all fun u=>!Tryz.prog.wantsStandIn u)=true:=by kernel_rfl
    exact (show Tryz.prog.wantsStandIn t=false by simpa using List.all_eq_true.1 hall t hm)⟩)
  (by kernel_rfl)
end Go.Proofs.YtfhkhmgodkheaaaGreatDoor
