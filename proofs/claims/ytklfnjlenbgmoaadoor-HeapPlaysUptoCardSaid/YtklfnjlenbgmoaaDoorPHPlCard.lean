import Derived.Test.YtklfnjlenbgmoaaDoorPHPlProof
import Derived.Test.YtklfnjlenbgmoaaDoorCards
import Derived.Test.YtklfnjlenbgmoaaDoorTie
import Derived.SevenTiedAt
namespace Go.Proofs.YtklfnjlenbgmoaaDoor
open Go
theorem heapPlaysUpto_card_holds : Rows.HeapPlaysUptoCardSaid :=
 Claim7.holds_tied_plain_at .later [] [.data, .data] true (true, "37db42ac9b80e5b43e72efeceb774d1845bcec3da300aa678cc13c1bc002f165") false
  heapPlays.proved (fun _ h => by cases h) (by kernel_rfl) (fun _ h => by cases h) heapPlaysUpto_row_tie rfl ⟨rfl, rfl⟩ (by kernel_rfl) rfl
  (fun f fn hf hfn => by
   obtain rfl : f = 8 := Option.some.inj ((show Tryd.prog.funcNamed "kiln/kilnlaw2.HeapPlays" = some 8 by kernel_rfl).symm.trans hf) |>.symm
   obtain rfl : fn = Tryd.f8 := (Option.some.inj (Tryd.func8.symm.trans hfn)).symm
   exact ⟨by kernel_rfl, fun j t ht => by
    rw [Tryd.params8] at ht
    have hm : t ∈ [3, 3, 3, 51] := by simpa using Array.mem_of_getElem? ht
    have hall : ([3, 3, 3, 51].all fun u => !Tryd.prog.wantsStandIn u) = true := by kernel_rfl
    exact (show Tryd.prog.wantsStandIn t = false by simpa using List.all_eq_true.1 hall t hm)⟩)
  (by kernel_rfl)
end Go.Proofs.YtklfnjlenbgmoaaDoor
