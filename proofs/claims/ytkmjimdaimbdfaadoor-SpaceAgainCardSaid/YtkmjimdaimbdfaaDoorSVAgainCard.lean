import Derived.Test.YtkmjimdaimbdfaaDoorSVAgainProof
import Derived.Test.YtkmjimdaimbdfaaDoorCards
import Derived.Test.YtkmjimdaimbdfaaDoorTie
import Derived.SevenTiedAt
namespace Go.Proofs.YtkmjimdaimbdfaaDoor
open Go
theorem spaceAgain_card_holds : Rows.SpaceAgainCardSaid :=
  Claim7.holds_tied_plain_at .later [] [.data, .data] true (true, "ef0c3ab90468cd5773bf0d6c2f4f58a6ea143175321426007bf19880d006d302") false
    spaceAgain.proved (fun _ h => by cases h) (by kernel_rfl) (fun _ h => by cases h) spaceAgain_row_tie rfl ⟨rfl, rfl⟩ (by kernel_rfl) rfl
    (fun f fn hf hfn => by
      obtain rfl : f = 5 := Option.some.inj ((show Tryd.prog.funcNamed "kiln/kilnlaw5.SpaceAgain" = some 5 by kernel_rfl).symm.trans hf) |>.symm
      obtain rfl : fn = Tryd.f5 := (Option.some.inj (Tryd.func5.symm.trans hfn)).symm
      exact ⟨by kernel_rfl, fun j t ht => by
        rw [Tryd.params5] at ht
        have hm : t ∈ [3, 3, 22] := by simpa using Array.mem_of_getElem? ht
        have hall : ([3, 3, 22].all fun u => !Tryd.prog.wantsStandIn u) = true := by kernel_rfl
        exact (show Tryd.prog.wantsStandIn t = false by simpa using List.all_eq_true.1 hall t hm)⟩)
    (by kernel_rfl)
end Go.Proofs.YtkmjimdaimbdfaaDoor
