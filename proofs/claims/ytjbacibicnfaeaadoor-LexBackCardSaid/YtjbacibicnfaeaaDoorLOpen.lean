import Derived.Test.YtjbacibicnfaeaaDoorLCutT
import Derived.Laws.EntriesVeiled
namespace Go.Proofs.YtjbacibicnfaeaaDoor
open Go.RowKit
set_option linter.unusedVariables false
set_option linter.unusedSimpArgs false
def fv (n : Nat) : Value := .func (.func n) #[] #[]
def openA : Array Value := #[fv 39, .bool false, fv 40, .bool true, fv 41, .bool true, fv 42, .bool false, fv 43, .bool false, fv 44, .bool false, fv 45, .bool false, fv 46, .bool false, fv 47, .bool false]
set_option maxHeartbeats 8000000 in
set_option maxRecDepth 1000000 in
theorem openings_ok (w : World) : Calls Tryd.prog 21 #[] w fun e w' => e = .returned (.agg openA) ∧ w' = w.alloc (.cells openA 50) := by
  go_enter Tryd.func21, Tryd.ntmps21
  go_wp2
  refine bodyPost_ret (v := .agg openA) (results_cell_row (p := 0) (ty := 50) Tryd.results21 _ _ w.heap.size 50 openA (0, 0) _ rfl (heap_alloc_new w _) Tryd.underlying50 rfl (by kernel_rfl)) rfl ⟨rfl, rfl⟩
end Go.Proofs.YtjbacibicnfaeaaDoor
