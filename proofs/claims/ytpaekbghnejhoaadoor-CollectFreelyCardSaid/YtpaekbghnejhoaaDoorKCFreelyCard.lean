import Derived.Test.YtpaekbghnejhoaaDoorKCFreelyProof
import Derived.Test.YtpaekbghnejhoaaDoorCards
import Derived.Test.YtpaekbghnejhoaaDoorTie
import Derived.SevenTiedAt
namespace Go.Proofs.YtpaekbghnejhoaaDoor
open Go
theorem collectFreely_card_holds : Rows.CollectFreelyCardSaid :=
  Claim7.holds_tied_plain_at .later [] [.data, .data] true (true, "e830a6fe3ecf76df54279f74d0fe05593ee7f67d03106f0181078ec74fcf840a") false
    collectFreely.proved (fun _ h => by cases h) (by kernel_rfl) (fun _ h => by cases h) collectFreely_row_tie rfl ⟨rfl, rfl⟩ (by kernel_rfl) rfl
    (fun f fn hf hfn => by
      obtain rfl : f = 3 := Option.some.inj ((show Tryd.prog.funcNamed "kiln/kilnlaw3.CollectFreely" = some 3 by kernel_rfl).symm.trans hf) |>.symm
      obtain rfl : fn = Tryd.f3 := (Option.some.inj (Tryd.func3.symm.trans hfn)).symm
      exact ⟨by kernel_rfl, fun j t ht => by
        rw [Tryd.params3] at ht
        have hm : t ∈ [24, 25, 26] := by simpa using Array.mem_of_getElem? ht
        have hall : ([24, 25, 26].all fun u => !Tryd.prog.wantsStandIn u) = true := by kernel_rfl
        exact (show Tryd.prog.wantsStandIn t = false by simpa using List.all_eq_true.1 hall t hm)⟩)
    (by kernel_rfl)
end Go.Proofs.YtpaekbghnejhoaaDoor
