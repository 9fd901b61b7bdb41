import Derived.Test.YtimlomobbnnehaaDoorLKnown0
namespace Go.Proofs.YtimlomobbnnehaaDoor
open Go.RowKit Go.Maps
set_option linter.unusedVariables false
set_option linter.unusedSimpArgs false
set_option maxHeartbeats 8000000 in
set_option maxRecDepth 1000000 in
theorem known_ok (w : World) (hT : Tab w) : Calls Tryd.prog 10 #[] w fun e w' => e = .returned (.bool true) ∧ Bl w w' := by
  have HT1 := mkHid (tokens_is lex1 (by decide))
  have HT2 := mkHid (tokens_is lex2 (by decide))
  go_enter Tryd.func10, Tryd.ntmps10
  go_wp2_with (first
    | (go_at_call 6; have hh := M3; refine (same_ok _ _ toks1 want1 false _ R1.out R2.out agree1 (by decide)).mono ?_; rintro e w4 ⟨rfl, b4⟩
       have d2 : w4.cell? ⟨w2.heap.size, 0, none⟩ = some (.int .i64 70) := by rw [cell_in ((b4.block _ (lt_of_heap hF2.out)).trans hF2.out)]; rfl
       have d3 : w4.cell? ⟨w2.heap.size, 1, none⟩ = some (.int .i64 2) := by rw [cell_in ((b4.block _ (lt_of_heap hF2.out)).trans hF2.out)]; rfl
       have B4 := mkHid ((hT3.out).trans b4))
    | (go_at_call 15; have hh := M2; refine (sel3 _).mono ?_; rintro e w3 ⟨rfl, b3⟩
       have hF2 := mkHid (blk_in b3)
       have bb := mkHid (((Bl.alloc w2 _).trans b3))
       have hF1 := mkHid (((b2.trans bb.out).block _ (by show w1.heap.size < ((w1.heap.push _).push _).size; simp; omega)).trans (show ((w1.alloc (.cells #[.int .i64 0, .int .i64 0] 25)).alloc _).heap[w1.heap.size]? = _ from (Below.heap_alloc _ _ _ (by show w1.heap.size < (w1.heap.push _).size; simp)).trans (heap_alloc_new w1 _)))
       have d1 : w3.cell? ⟨w1.heap.size, 0, none⟩ = some (.int .i64 0) := by rw [cell_in hF1.out]; rfl
       have R1 := mkHid ((RdT.own o1).keep (((Bl.alloc2 w1 _ _).trans b2).trans bb.out))
       have R2 := mkHid ((want_rd2 w1 (.cells #[.int .i64 0, .int .i64 0] 25)).keep (b2.trans bb.out))
       have hT3 := mkHid ((b1.trans ((Bl.alloc2 w1 _ _).trans b2)).trans bb.out)
       have M3 := trivial)
    | (go_at_call 5; have hh := M1; refine (HT2.out _ (hT.mono (b1.trans (Bl.alloc2 w1 _ _)))).mono ?_; rintro e w2 ⟨v2, rfl, o2, b2⟩; have M2 := trivial)
    | (go_at_call 5; (fail_if_success (have hh := M1)); refine (HT1.out _ hT).mono ?_; rintro e w1 ⟨v1, rfl, o1, b1⟩; have M1 := trivial)
    | (go_at_call 16; go_in))
  go_ret
  exact ⟨rfl, B4.out⟩
end Go.Proofs.YtimlomobbnnehaaDoor

