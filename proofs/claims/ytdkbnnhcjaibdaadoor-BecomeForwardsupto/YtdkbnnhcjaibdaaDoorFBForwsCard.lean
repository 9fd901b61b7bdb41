import Derived.Test.YtdkbnnhcjaibdaaDoorFBForwsProof
import Derived.Test.YtdkbnnhcjaibdaaDoorCards
import Derived.Test.YtdkbnnhcjaibdaaDoorTie
import Derived.SevenTiedAt
namespace Go.Proofs.YtdkbnnhcjaibdaaDoor
open Go
theorem becomeForwardsUpto_card_holds : Rows.BecomeForwardsUptoCardSaid :=
  Claim7.holds_tied_plain_at .later [] [.data] true (true, "66297736d04a0d39e52da1b274f20d020e6941bc30c68440b819db8cd290c5f6") false
    becomeForwards.proved (fun _ h => by cases h) (by kernel_rfl) (fun _ h => by cases h) becomeForwardsUpto_row_tie rfl ⟨rfl, rfl⟩ (by kernel_rfl) rfl
    (fun f fn hf hfn => by
      obtain rfl : f = 6 := Option.some.inj ((show Tryd.prog.funcNamed "kiln/kilnlaw4.BecomeForwards" = some 6 by kernel_rfl).symm.trans hf) |>.symm
      obtain rfl : fn = Tryd.f6 := (Option.some.inj (Tryd.func6.symm.trans hfn)).symm
      exact ⟨by kernel_rfl, fun j t ht => by
        rw [Tryd.params6] at ht
        have hm : t ∈ [45, 36, 36] := by simpa using Array.mem_of_getElem? ht
        have hall : ([45, 36, 36].all fun u => !Tryd.prog.wantsStandIn u) = true := by kernel_rfl
        exact (show Tryd.prog.wantsStandIn t = false by simpa using List.all_eq_true.1 hall t hm)⟩)
    (by kernel_rfl)
end Go.Proofs.YtdkbnnhcjaibdaaDoor
