import Derived.Test.YtalcnihagnnkaaaDoorKHAlive
namespace Go.Proofs.YtalcnihagnnkaaaDoor
open Go.RowKit
set_option linter.unusedVariables false
theorem newA (w : World) : Calls Tryd.prog 10 #[.int .i64 40, .int .i64 3] w fun e w' => e = .returned (.tuple #[.pointer (some ⟨w.heap.size, 0, none⟩), .int .i64 0]) ∧ St w w.heap.size w' nilLay A0 := by
  refine (New_in 40 3 w (by decide) (by decide)).mono ?_
  rintro e w' ⟨rfl, q1, q2, q3⟩
  refine ⟨rfl, q1, q2, fun b hb => ?_⟩
  simp [foot, Lay.blocks, nilLay, blk] at hb
  omega
set_option maxRecDepth 20000 in
set_option maxHeartbeats 2000000 in
theorem alive_any (w : World) (hT : Tab w) (hT2 : Tab64 w) (h2 : 2 ≤ w.heap.size) :
    Calls Tryd.prog 13 #[] w fun e w' => e = .returned (.bool true) ∧ Fr [] w w' := by
  have HT := mkHid hT
  have HT2 := mkHid hT2
  clear hT hT2
  go_enter Tryd.func13, Tryd.ntmps13
  go_wp2_with fail
  refine Calls.mono (newA w) ?_
  rintro e w1 ⟨rfl, hs1⟩
  have HS1 := mkHid hs1
  clear hs1
  go_wp2_with (first | (go_at_call 11; refine (num_any _ _ (by omega) (by omega)).mono ?_; rintro e w' ⟨rfl, hw'⟩; rw [hw']; clear hw' w'))
  refine Calls.mono (alloc1 w w1 _ _ HS1.out HT.out HT2.out h2) ?_
  rintro e w2 ⟨rfl, l2, hs2⟩
  have HS2 := mkHid hs2
  clear hs2 HS1
  go_wp2_with fail
  refine Calls.mono (alloc2 w w2 _ _ HS2.out HT.out HT2.out h2) ?_
  rintro e w3 ⟨rfl, l3, hs3⟩
  have HS3 := mkHid hs3
  clear hs3 HS2
  go_wp2_with fail
  refine Calls.mono (put1 w w3 _ _ HS3.out HT.out h2) ?_
  rintro e w4 ⟨rfl, hs4⟩
  have HS4 := mkHid hs4
  clear hs4 HS3
  go_wp2_with fail
  refine Calls.mono (put2 w w4 _ _ HS4.out HT.out h2) ?_
  rintro e w5 ⟨rfl, hs5⟩
  have HS5 := mkHid hs5
  clear hs5 HS4
  go_wp2_with fail
  refine Calls.mono (exch1 w w5 _ _ HS5.out) ?_
  rintro e w6 ⟨rfl, hs6⟩
  have HS6 := mkHid hs6
  clear hs6 HS5
  go_wp2_with fail
  refine Calls.mono (keep1 w (w6.alloc (.cells #[.int .i64 1] 3)) _ w6.heap.size _ (HS6.out.more (Fr.alloc _ _ _)) (heap_alloc_new _ _) (fun hm => by have := HS6.out.rep.lt _ hm; omega)) ?_
  rintro e w7 ⟨rfl, hs7⟩
  have HS7 := mkHid hs7
  clear hs7 HS6
  go_wp2_with fail
  refine Calls.mono (at1 w w7 _ _ HS7.out) ?_
  rintro e w8 ⟨rfl, hs8⟩
  have HS8 := mkHid hs8
  clear hs8 HS7
  go_wp2_with (first | (go_at_call 11; refine (num_any _ _ (by omega) (by omega)).mono ?_; rintro e w' ⟨rfl, hw'⟩; rw [hw']; clear hw' w'))
  go_ret
  exact ⟨ret_bool (by simp), HS8.out.fr⟩
end Go.Proofs.YtalcnihagnnkaaaDoor
