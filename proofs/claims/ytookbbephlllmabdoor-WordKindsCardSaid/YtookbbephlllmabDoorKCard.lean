import Derived.Test.YtookbbephlllmabDoorKProof
import Derived.Test.YtookbbephlllmabDoorCards
import Derived.Test.YtookbbephlllmabDoorTie
import Derived.SevenTiedAt
namespace Go.Proofs.YtookbbephlllmabDoor
open Go
theorem wordKinds_card_holds : Rows.WordKindsCardSaid :=
  Claim7.holds_tied_plain_at .later [] [.data, .data, .data, .data] true (true, "1ff0e4a3cf72a735949c860a45ffbd73dc15bae2839c04a5f9c7ba4ca9d411c8") false
    wordKinds.proved (fun _ h => by cases h) (by kernel_rfl) (fun _ h => by cases h) wordKinds_row_tie rfl ⟨rfl, rfl⟩ (by kernel_rfl) rfl
    (fun f fn hf hfn => by
      obtain rfl : f = 3 := Option.some.inj ((show Tryd.prog.funcNamed "kiln/kilnlaw1.WordKinds" = some 3 by kernel_rfl).symm.trans hf) |>.symm
      obtain rfl : fn = Tryd.f3 := (Option.some.inj (Tryd.func3.symm.trans hfn)).symm
      exact ⟨by kernel_rfl, fun j t ht => by
        rw [Tryd.params3] at ht
        have hm : t ∈ [3] := by simpa using Array.mem_of_getElem? ht
        have hall : ([3].all fun u => !Tryd.prog.wantsStandIn u) = true := by kernel_rfl
        exact (show Tryd.prog.wantsStandIn t = false by simpa using List.all_eq_true.1 hall t hm)⟩)
    (by kernel_rfl)
end Go.Proofs.YtookbbephlllmabDoor
