import Derived.Test.YtklfnjlenbgmoaaDoorAHAgProof
import Derived.Test.YtklfnjlenbgmoaaDoorCards
import Derived.Test.YtklfnjlenbgmoaaDoorTie
import Derived.SevenTiedAt
namespace Go.Proofs.YtklfnjlenbgmoaaDoor
open Go
theorem heapAgain_card_holds : Rows.HeapAgainCardSaid :=
  Claim7.holds_tied_plain_at .later [] [.data, .data] true (true, "37db42ac9b80e5b43e72efeceb774d1845bcec3da300aa678cc13c1bc002f165") false
    heapAgain.proved (fun _ h => by cases h) (by kernel_rfl) (fun _ h => by cases h) heapAgain_row_tie rfl ⟨rfl, rfl⟩ (by kernel_rfl) rfl
    (fun f fn hf hfn => by
      obtain rfl : f = 7 := Option.some.inj ((show Tryd.prog.funcNamed "kiln/kilnlaw2.HeapAgain" = some 7 by kernel_rfl).symm.trans hf) |>.symm
      obtain rfl : fn = Tryd.f7 := (Option.some.inj (Tryd.func7.symm.trans hfn)).symm
      exact ⟨by kernel_rfl, fun j t ht => by
        rw [Tryd.params7] at ht
        have hm : t ∈ [3, 3, 51, 51] := by simpa using Array.mem_of_getElem? ht
        have hall : ([3, 3, 51, 51].all fun u => !Tryd.prog.wantsStandIn u) = true := by kernel_rfl
        exact (show Tryd.prog.wantsStandIn t = false by simpa using List.all_eq_true.1 hall t hm)⟩)
    (by kernel_rfl)
end Go.Proofs.YtklfnjlenbgmoaaDoor
