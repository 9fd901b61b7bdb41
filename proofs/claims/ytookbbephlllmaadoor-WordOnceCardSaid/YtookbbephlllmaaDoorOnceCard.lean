import Derived.Test.YtookbbephlllmaaDoorOnceProof
import Derived.Test.YtookbbephlllmaaDoorCards
import Derived.Test.YtookbbephlllmaaDoorTie
import Derived.SevenTiedAt
namespace Go.Proofs.YtookbbephlllmaaDoor
open Go
theorem wordOnce_card_holds : Rows.WordOnceCardSaid :=
  Claim7.holds_tied_plain_at .later [] [.data] true (true, "852ea4f0239fb6da46b58e72548800ab25d2544b10d3ef38b6e3eebca5d3be08") false
    wordOnce.proved (fun _ h => by cases h) (by kernel_rfl) (fun _ h => by cases h) wordOnce_row_tie rfl ⟨rfl, rfl⟩ (by kernel_rfl) rfl
    (fun f fn hf hfn => by
      obtain rfl : f = 3 := Option.some.inj ((show Tryd.prog.funcNamed "kiln/kilnlaw1.WordOnce" = some 3 by kernel_rfl).symm.trans hf) |>.symm
      obtain rfl : fn = Tryd.f3 := (Option.some.inj (Tryd.func3.symm.trans hfn)).symm
      exact ⟨by kernel_rfl, fun j t ht => by
        rw [Tryd.params3] at ht
        have hm : t ∈ [3, 3, 3, 3] := by simpa using Array.mem_of_getElem? ht
        have hall : ([3, 3, 3, 3].all fun u => !Tryd.prog.wantsStandIn u) = true := by kernel_rfl
        exact (show Tryd.prog.wantsStandIn t = false by simpa using List.all_eq_true.1 hall t hm)⟩)
    (by kernel_rfl)
end Go.Proofs.YtookbbephlllmaaDoor
