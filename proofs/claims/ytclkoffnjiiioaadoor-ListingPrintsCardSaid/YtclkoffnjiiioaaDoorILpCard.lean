import Derived.Test.YtclkoffnjiiioaaDoorILpProof
import Derived.Test.YtclkoffnjiiioaaDoorCards
import Derived.Test.YtclkoffnjiiioaaDoorTie
import Derived.SevenTiedAt
namespace Go.Proofs.YtclkoffnjiiioaaDoor
open Go
theorem listingPrints_card_holds : Rows.ListingPrintsCardSaid :=
  Claim7.holds_tied_plain_at .later [] [.data, .data, .data, .data] true (true, "2db3add3f4c891b7878fb40229295eb38689a9b9d919c442f08fb7f73a0c75ef") false
    listingPrints.proved (fun _ h => by cases h) (by kernel_rfl) (fun _ h => by cases h) listingPrints_row_tie rfl ⟨rfl, rfl⟩ (by kernel_rfl) rfl
    (fun f fn hf hfn => by
      obtain rfl : f = 3 := Option.some.inj ((show Tryd.prog.funcNamed "kiln/kilnlaw12.ListingPrints" = some 3 by kernel_rfl).symm.trans hf) |>.symm
      obtain rfl : fn = Tryd.f3 := (Option.some.inj (Tryd.func3.symm.trans hfn)).symm
      exact ⟨by kernel_rfl, fun j t ht => by
        rw [Tryd.params3] at ht
        have hm : t ∈ [25] := by simpa using Array.mem_of_getElem? ht
        have hall : ([25].all fun u => !Tryd.prog.wantsStandIn u) = true := by kernel_rfl
        exact (show Tryd.prog.wantsStandIn t = false by simpa using List.all_eq_true.1 hall t hm)⟩)
    (by kernel_rfl)
end Go.Proofs.YtclkoffnjiiioaaDoor
