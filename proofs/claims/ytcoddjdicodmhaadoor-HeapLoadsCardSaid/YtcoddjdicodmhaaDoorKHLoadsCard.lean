import Derived.Test.YtcoddjdicodmhaaDoorKHLoadsProof
import Derived.Test.YtcoddjdicodmhaaDoorCards
import Derived.Test.YtcoddjdicodmhaaDoorTie
import Derived.SevenTiedAt
namespace Go.Proofs.YtcoddjdicodmhaaDoor
open Go
theorem heapLoads_card_holds : Rows.HeapLoadsCardSaid :=
  Claim7.holds_tied_plain_at .later [] [.data] true (true, "37db42ac9b80e5b43e72efeceb774d1845bcec3da300aa678cc13c1bc002f165") false
    heapLoads.proved (fun _ h => by cases h) (by kernel_rfl) (fun _ h => by cases h) heapLoads_row_tie rfl ⟨rfl, rfl⟩ (by kernel_rfl) rfl
    (fun f fn hf hfn => by
      obtain rfl : f = 4 := Option.some.inj ((show Tryd.prog.funcNamed "kiln/kilnlaw2.HeapLoads" = some 4 by kernel_rfl).symm.trans hf) |>.symm
      obtain rfl : fn = Tryd.f4 := (Option.some.inj (Tryd.func4.symm.trans hfn)).symm
      exact ⟨by kernel_rfl, fun j t ht => by
        rw [Tryd.params4] at ht
        have hm : t ∈ [38] := by simpa using Array.mem_of_getElem? ht
        have hall : ([38].all fun u => !Tryd.prog.wantsStandIn u) = true := by kernel_rfl
        exact (show Tryd.prog.wantsStandIn t = false by simpa using List.all_eq_true.1 hall t hm)⟩)
    (by kernel_rfl)
end Go.Proofs.YtcoddjdicodmhaaDoor
