import Derived.Test.YtclkoffnjiiioaaGreatDoorJRsProof
import Derived.Test.YtclkoffnjiiioaaGreatDoorCards
import Derived.Test.YtclkoffnjiiioaaGreatDoorTie
import Derived.SevenTiedAt
namespace Go.Proofs.YtclkoffnjiiioaaGreatDoor
open Go
theorem listingReadsUpto_card_holds : Rows.ListingReadsUptoCardSaid :=
  Claim7.holds_tied_plain_at .later [] [.data, .data, .data, .data, .sentinel, .sentinel, .data, .pinned] true (true, "46fc8272bce3d35653b8a563c4fc0261b9fa2d3c501b44cc7b175e6f0d15dd0c") true
    listingReads.proved (fun _ h => by cases h) (by kernel_rfl) (fun _ h => by cases h) listingReadsUpto_row_tie rfl ⟨rfl, rfl⟩ (by kernel_rfl) rfl
    (fun f fn hf hfn => by
      obtain rfl : f = 5 := Option.some.inj ((show Tryz.prog.funcNamed "kiln/kilnlaw12.ListingReads" = some 5 by kernel_rfl).symm.trans hf) |>.symm
      obtain rfl : fn = Tryz.f5 := (Option.some.inj (Tryz.func5.symm.trans hfn)).symm
      exact ⟨by kernel_rfl, fun j t ht => by
        rw [Tryz.params5] at ht
        have hm : t ∈ [38] := by simpa using Array.mem_of_getElem? ht
        have hall : ([38].all fun u => !Tryz.prog.wantsStandIn u) = true := by kernel_rfl
        exact (show Tryz.prog.wantsStandIn t = false by simpa using List.all_eq_true.1 hall t hm)⟩)
    (by kernel_rfl)
end Go.Proofs.YtclkoffnjiiioaaGreatDoor
