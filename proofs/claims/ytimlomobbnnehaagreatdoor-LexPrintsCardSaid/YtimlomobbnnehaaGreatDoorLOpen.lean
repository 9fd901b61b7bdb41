import Derived.Test.YtimlomobbnnehaaGreatDoorG04LCutT
import Derived.Laws.EntriesVeiled
namespace Go.Proofs.YtimlomobbnnehaaGreatDoor
open Go.RowKit
set_option linter.unusedVariables false
set_option linter.unusedSimpArgs false
def fv (n : Nat) : Value := .func (.func n) #[] #[]
def openA : Array Value := #[fv 37, .bool false, fv 38, .bool true, fv 39, .bool true, fv 40, .bool false, fv 41, .bool false, fv 42, .bool false, fv 43, .bool false, fv 44, .bool false, fv 45, .bool false]
set_option maxHeartbeats 8000000 in
set_option maxRecDepth 1000000 in
theorem openings_ok (w : World) : Calls Tryz.prog 22 #[] w fun e w' => e = .returned (.agg openA) ∧ w' = w.alloc (.cells openA 58) := by
  go_enter Tryz.func22, Tryz.ntmps22
  go_wp2
  refine bodyPost_ret (v := .agg openA) (results_cell_row (p := 0) (ty := 58) Tryz.results22 _ _ w.heap.size 58 openA (0, 0) _ rfl (heap_alloc_new w _) Tryz.underlying58 rfl (by kernel_rfl)) rfl ⟨rfl, rfl⟩
end Go.Proofs.YtimlomobbnnehaaGreatDoor

