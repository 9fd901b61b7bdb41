import Derived.Test.YtcodfojgilneaaaDoorHMarksProof
import Derived.Test.YtcodfojgilneaaaDoorCards
import Derived.Test.YtcodfojgilneaaaDoorTie
import Derived.SevenTiedAt
namespace Go.Proofs.YtcodfojgilneaaaDoor
open Go
theorem heapMarks_card_holds : Rows.HeapMarksCardSaid :=
  Claim7.holds_tied_plain_at .later [] [.data, .data] true (true, "37db42ac9b80e5b43e72efeceb774d1845bcec3da300aa678cc13c1bc002f165") false
    heapMarks.proved (fun _ h => by cases h) (by kernel_rfl) (fun _ h => by cases h) heapMarks_row_tie rfl ⟨rfl, rfl⟩ (by kernel_rfl) rfl
    (fun f fn hf hfn => by
      obtain rfl : f = 3 := Option.some.inj ((show Tryd.prog.funcNamed "kiln/kilnlaw2.HeapMarks" = some 3 by kernel_rfl).symm.trans hf) |>.symm
      obtain rfl : fn = Tryd.f3 := (Option.some.inj (Tryd.func3.symm.trans hfn)).symm
      exact ⟨by kernel_rfl, fun j t ht => by
        rw [Tryd.params3] at ht
        have hm : t ∈ [3, 22] := by simpa using Array.mem_of_getElem? ht
        have hall : ([3, 22].all fun u => !Tryd.prog.wantsStandIn u) = true := by kernel_rfl
        exact (show Tryd.prog.wantsStandIn t = false by simpa using List.all_eq_true.1 hall t hm)⟩)
    (by kernel_rfl)
end Go.Proofs.YtcodfojgilneaaaDoor
