import Derived.Test.YtimlomobbnnehaaDoorLCutT
import Derived.Laws.EntriesVeiled
namespace Go.Proofs.YtimlomobbnnehaaDoor
open Go.RowKit
set_option linter.unusedVariables false
set_option linter.unusedSimpArgs false
def fv (n : Nat) : Value := .func (.func n) #[] #[]
def openA : Array Value := #[fv 19, .bool false, fv 20, .bool true, fv 21, .bool true, fv 22, .bool false, fv 23, .bool false, fv 24, .bool false, fv 25, .bool false, fv 26, .bool false, fv 27, .bool false]
set_option maxHeartbeats 8000000 in
set_option maxRecDepth 1000000 in
theorem openings_ok (w : World) : Calls Tryd.prog 12 #[] w fun e w' => e = .returned (.agg openA) ∧ w' = w.alloc (.cells openA 37) := by
  go_enter Tryd.func12, Tryd.ntmps12
  go_wp2
  refine bodyPost_ret (v := .agg openA) (results_cell_row (p := 0) (ty := 37) Tryd.results12 _ _ w.heap.size 37 openA (0, 0) _ rfl (heap_alloc_new w _) Tryd.underlying37 rfl (by kernel_rfl)) rfl ⟨rfl, rfl⟩
end Go.Proofs.YtimlomobbnnehaaDoor

