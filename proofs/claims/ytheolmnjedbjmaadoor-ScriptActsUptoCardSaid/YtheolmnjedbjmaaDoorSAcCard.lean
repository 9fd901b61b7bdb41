import Derived.Test.YtheolmnjedbjmaaDoorSAcProof
import Derived.Test.YtheolmnjedbjmaaDoorCards
import Derived.Test.YtheolmnjedbjmaaDoorTie
import Derived.SevenTiedAt
namespace Go.Proofs.YtheolmnjedbjmaaDoor
open Go
theorem scriptActsUpto_card_holds : Rows.ScriptActsUptoCardSaid :=
  Claim7.holds_tied_plain_at .later [] [.data, .data, .data] true (true, "5bca62516319765069277f7cc3643f74223dd62629e6bbee2c650fddf1129013") true
    scriptActs.proved (fun _ h => by cases h) (by kernel_rfl) (fun _ h => by cases h) scriptActsUpto_row_tie rfl ⟨rfl, rfl⟩ (by kernel_rfl) rfl
    (fun f fn hf hfn => by
      obtain rfl : f = 4 := Option.some.inj ((show Tryd.prog.funcNamed "kiln/kilnlaw24.ScriptActs" = some 4 by kernel_rfl).symm.trans hf) |>.symm
      obtain rfl : fn = Tryd.f4 := (Option.some.inj (Tryd.func4.symm.trans hfn)).symm
      exact ⟨by kernel_rfl, fun j t ht => by
        rw [Tryd.params4] at ht
        have hm : t ∈ [29] := by simpa using Array.mem_of_getElem? ht
        have hall : ([29].all fun u => !Tryd.prog.wantsStandIn u) = true := by kernel_rfl
        exact (show Tryd.prog.wantsStandIn t = false by simpa using List.all_eq_true.1 hall t hm)⟩)
    (by kernel_rfl)
end Go.Proofs.YtheolmnjedbjmaaDoor
