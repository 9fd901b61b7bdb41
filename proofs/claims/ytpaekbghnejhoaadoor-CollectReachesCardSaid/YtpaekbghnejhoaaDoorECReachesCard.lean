import Derived.Test.YtpaekbghnejhoaaDoorECReachesProof
import Derived.Test.YtpaekbghnejhoaaDoorCards
import Derived.Test.YtpaekbghnejhoaaDoorTie
import Derived.SevenTiedAt
namespace Go.Proofs.YtpaekbghnejhoaaDoor
open Go
theorem collectReaches_card_holds : Rows.CollectReachesCardSaid :=
  Claim7.holds_tied_plain_at .later [] [.data] true (true, "e830a6fe3ecf76df54279f74d0fe05593ee7f67d03106f0181078ec74fcf840a") false
    collectReaches.proved (fun _ h => by cases h) (by kernel_rfl) (fun _ h => by cases h) collectReaches_row_tie rfl ⟨rfl, rfl⟩ (by kernel_rfl) rfl
    (fun f fn hf hfn => by
      obtain rfl : f = 5 := Option.some.inj ((show Tryd.prog.funcNamed "kiln/kilnlaw3.CollectReaches" = some 5 by kernel_rfl).symm.trans hf) |>.symm
      obtain rfl : fn = Tryd.f5 := (Option.some.inj (Tryd.func5.symm.trans hfn)).symm
      exact ⟨by kernel_rfl, fun j t ht => by
        rw [Tryd.params5] at ht
        have hm : t ∈ [24, 25] := by simpa using Array.mem_of_getElem? ht
        have hall : ([24, 25].all fun u => !Tryd.prog.wantsStandIn u) = true := by kernel_rfl
        exact (show Tryd.prog.wantsStandIn t = false by simpa using List.all_eq_true.1 hall t hm)⟩)
    (by kernel_rfl)
end Go.Proofs.YtpaekbghnejhoaaDoor
