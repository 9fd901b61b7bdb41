import Derived.Test.YtheolmnjedbjmaaDoorSTlProof
import Derived.Test.YtheolmnjedbjmaaDoorCards
import Derived.Test.YtheolmnjedbjmaaDoorTie
import Derived.SevenTiedAt
namespace Go.Proofs.YtheolmnjedbjmaaDoor
open Go
theorem scriptTellsUpto_card_holds : Rows.ScriptTellsUptoCardSaid :=
  Claim7.holds_tied_plain_at .later [] [.data, .data, .data] true (true, "5bca62516319765069277f7cc3643f74223dd62629e6bbee2c650fddf1129013") true
    scriptTells.proved (fun _ h => by cases h) (by kernel_rfl) (fun _ h => by cases h) scriptTellsUpto_row_tie rfl ⟨rfl, rfl⟩ (by kernel_rfl) rfl
    (fun f fn hf hfn => by
      obtain rfl : f = 3 := Option.some.inj ((show Tryd.prog.funcNamed "kiln/kilnlaw24.ScriptTells" = some 3 by kernel_rfl).symm.trans hf) |>.symm
      obtain rfl : fn = Tryd.f3 := (Option.some.inj (Tryd.func3.symm.trans hfn)).symm
      exact ⟨by kernel_rfl, fun j t ht => by
        rw [Tryd.params3] at ht
        have hm : t ∈ [26] := by simpa using Array.mem_of_getElem? ht
        have hall : ([26].all fun u => !Tryd.prog.wantsStandIn u) = true := by kernel_rfl
        exact (show Tryd.prog.wantsStandIn t = false by simpa using List.all_eq_true.1 hall t hm)⟩)
    (by kernel_rfl)
end Go.Proofs.YtheolmnjedbjmaaDoor
