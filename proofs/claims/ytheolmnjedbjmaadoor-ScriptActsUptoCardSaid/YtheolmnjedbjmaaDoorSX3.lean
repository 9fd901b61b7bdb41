import Derived.Test.YtheolmnjedbjmaaDoorSX2
namespace Go.Proofs.YtheolmnjedbjmaaDoor
open Go.RowKit
set_option linter.unusedVariables false
set_option linter.unusedSimpArgs false
attribute [local go_sem ↓] Go.wp_at_zero Go.wp_at_succ
theorem size65 : (Tryd.prog.info? 65).map (·.size) = some 6 := by kernel_rfl
set_option maxRecDepth 100000 in
set_option maxHeartbeats 4000000 in
theorem stepOf_ok (W : World) (k : Int) : Calls Tryd.prog 23 #[.int .i64 k] W fun e w' => (∃ cs, e = .returned (.tuple #[.agg cs, .bool (decide (1 ≤ k ∧ k ≤ 12))]) ∧ cs.size = 6 ∧ cs.all (·.oneCell') = true ∧ (1 ≤ k ∧ k ≤ 12 → cs = stepV k.toNat)) ∧ Bl W w' := by
  have hmf : ∀ (fn : Fn) (first cap : Array Value) (w : World), (Instr.makeFunc fn first cap).run Tryd.prog w = .ok (.func fn first cap) w := fun _ _ _ _ => rfl
  have hz : (W.alloc (.cells #[.int .i64 k] 3)).heap.size = W.heap.size + 1 := by simp
  have HF : Hid (Calls Tryd.prog 38 #[.func (.func 39) #[] #[.pointer (some ⟨W.heap.size, 0, none⟩)]] ((W.alloc (.cells #[.int .i64 k] 3)).alloc (.cells step0 65)) fun e w' => ∃ cs, e = .returned (.tuple #[.agg cs, .bool (decide (1 ≤ k ∧ k ≤ 12))]) ∧ Hid (cs.size = 6 ∧ cs.all (·.oneCell') = true ∧ (1 ≤ k ∧ k ≤ 12 → cs = stepV k.toNat)) ∧ Hid (w'.heap[W.heap.size + 1]? = some (.cells step0 65 (0, 0))) ∧ ∃ W6, w'.setRow (W.heap.size + 1) cs = W6 ∧ Hid (W6.heap[W.heap.size + 1]? = some (.cells cs 65 (0, 0)) ∧ Bl W W6)) := by
    have h0 : ((W.alloc (.cells #[.int .i64 k] 3)).alloc (.cells step0 65)).heap[W.heap.size]? = some (.cells #[.int .i64 k] 3 (0, 0)) := (Below.heap_alloc _ _ _ (by simp)).trans (heap_alloc_new W _)
    have h1 : ((W.alloc (.cells #[.int .i64 k] 3)).alloc (.cells step0 65)).heap[W.heap.size + 1]? = some (.cells step0 65 (0, 0)) := by
      rw [← hz]
      exact heap_alloc_new _ _
    refine (first_ok _ W.heap.size k (cell_in h0 0) (lt_of_heap h0)).mono ?_
    rintro e w' ⟨⟨cs, he, hc⟩, hb⟩
    have h2 := (hb.block _ (lt_of_heap h1)).trans h1
    exact ⟨cs, he, hc, h2, _, rfl, setRow_heap _ _ _ _ _ _ h2, bl_setRow (((Bl.alloc W _).trans (Bl.alloc _ _)).trans hb) _ _ (by omega)⟩
  generalize decide (1 ≤ k ∧ k ≤ 12) = b at *
  go_enter Tryd.func23, Tryd.ntmps23
  go_wp2_with (first
    | (go_at_call 38; refine HF.out.mono ?_; rintro e w5 ⟨cs, rfl, hcs, hr5, W6, hW6, H6⟩)
    | (refine wpList_store_row rfl 65 _ _ rfl (W.heap.size + 1) cs rfl rfl 65 _ hr5.out (by rw [hcs.out.1]; exact size65) (by rw [hcs.out.1]; rfl) hcs.out.2.1 ?_; rw [hW6]))
  refine bodyPost_ret (v := .tuple #[.agg cs, .bool b]) (results_ct Tryd.results23 _ _ (W.heap.size + 1) 65 _ (0, 0) _ rfl H6.out.1 Tryd.underlying65 rfl (by rw [hcs.out.1]; exact size65)) rfl ?_
  exact ⟨⟨cs, rfl, hcs.out⟩, H6.out.2⟩
end Go.Proofs.YtheolmnjedbjmaaDoor
