import Derived.Test.YtheolmnjedbjmaaDoorSLg
import Derived.Test.YtheolmnjedbjmaaDoorSL8
import Derived.Test.YtheolmnjedbjmaaDoorSL3
import Derived.Test.YtheolmnjedbjmaaDoorSL1
namespace Go.Proofs.YtheolmnjedbjmaaDoor
open Go.RowKit
set_option linter.unusedVariables false
set_option linter.unusedSimpArgs false
attribute [local go_sem ↓] Go.wp_at_zero Go.wp_at_succ

theorem run_cat {X Y Z : Bs} (hZ : X ++ Y = Z) (hl : X.length + Y.length ≤ 9223372036854775807) (w : World) : (binOp .add 9 (.string (ba X)) (.string (ba Y))).run Tryd.prog w = .ok (.string (ba Z)) w := by
  have h1 := ba_size X
  have h2 := ba_size Y
  have h3 : ¬ 9223372036854775807 < (ba X).size + (ba Y).size := by rw [h1, h2]; omega
  rw [← hZ, ← ba_app]
  go_simp
theorem cat_run {a : Act} {x y : Operand} {X Y Z : Bs} {o : Oper} (hx : a.eval x = .string (ba X)) (hy : a.eval y = .string (ba Y)) (hZ : X ++ Y = Z) (hl : X.length + Y.length ≤ 9223372036854775807) (ho : o.op = .binOp .add 9 x y 9) (w : World) : (execOp a.eval o).run Tryd.prog w = .ok (.value (.string (ba Z))) w := by
  have h := run_cat hZ hl w
  simp [execOp, ho, hx, hy, eqGuard, h]
theorem conv_step {a : Act} {x : Operand} {v v' : Value} {o : Oper} {s d : TypeId} {w w' : World} (ho : o.op = .convert s d x) (hx : a.eval x = v) (hr : (convert s d v).run Tryd.prog w = .ok v' w') : (execOp a.eval o).run Tryd.prog w = .ok (.value v') w' := by
  simp only [execOp, ho, hx, Sem.run_bind, hr]
  rfl
theorem ba_toList (t : Bs) : (ba t).toList = t := by rw [toList_data]; exact ba_data t
theorem cutNl_len (l : Bs) : (cutNl l).length ≤ l.length := by
  unfold cutNl Lib.trimSuffix
  split
  · rw [List.length_take]; omega
  · exact Nat.le_refl _
theorem linesT_ne : ∀ (t : Bs), ∀ l ∈ linesT t, 1 ≤ l.length
  | [], l, h => by cases h
  | c :: r, l, h => by
    unfold linesT at h
    split at h
    · rcases List.mem_cons.1 h with rfl | h
      · simp
      · exact linesT_ne r l h
    · have ih := linesT_ne r
      cases hr : linesT r with
      | nil => rw [hr] at h; simp at h; subst h; simp
      | cons x xs =>
        rw [hr] at h ih
        rcases List.mem_cons.1 h with rfl | h
        · simp
        · exact ih l (by simp [h])
theorem sum_mem (l : List Nat) (x : Nat) (h : x ∈ l) : x ≤ l.sum := by
  induction l with
  | nil => cases h
  | cons a l ih =>
    rw [List.sum_cons]
    rcases List.mem_cons.1 h with rfl | h
    · omega
    · have := ih h; omega
theorem len_sum (L : List Bs) (h : ∀ l ∈ L, 1 ≤ l.length) : L.length ≤ (L.map List.length).sum := by
  induction L with
  | nil => simp
  | cons a L ih =>
    have := ih (fun l hl => h l (by simp [hl]))
    have := h a (by simp)
    simp
    omega
theorem linesT_small (t : Bs) : (linesT t).length ≤ t.length ∧ ∀ l ∈ linesT t, l.length ≤ t.length := by
  have h1 := lines_len t
  refine ⟨by rw [← h1]; exact len_sum _ (linesT_ne t), fun l hl => ?_⟩
  rw [← h1]
  exact sum_mem _ _ (List.mem_map.2 ⟨l, hl, rfl⟩)
theorem linesB_small (t : Bs) : (linesB t).length ≤ t.length ∧ ∀ i (hi : i < (linesB t).length), (linesB t)[i].length ≤ t.length := by
  have h := linesT_small t
  refine ⟨by unfold linesB; rw [List.length_map]; exact h.1, fun i hi => ?_⟩
  unfold linesB at hi ⊢
  rw [List.length_map] at hi
  rw [List.getElem_map]
  exact Nat.le_trans (cutNl_len _) (h.2 _ (List.getElem_mem hi))
theorem tellLines_sum (L : List Bs) : (tellLines L).length = 3 * L.length + (L.map List.length).sum := by
  induction L with
  | nil => rfl
  | cons a L ih =>
    unfold tellLines at ih ⊢
    rw [List.flatMap_cons, List.length_append, ih]
    simp
    omega
theorem sum_cut (L : List Bs) : ((L.map cutNl).map List.length).sum ≤ (L.map List.length).sum := by
  induction L with
  | nil => simp
  | cons a L ih =>
    have := cutNl_len a
    simp at ih ⊢
    omega
theorem sum_take (L : List Nat) (i : Nat) : (L.take i).sum ≤ L.sum := by
  induction L generalizing i with
  | nil => simp
  | cons a L ih =>
    cases i with
    | zero => simp
    | succ i => have := ih i; simp; omega
theorem tellLines_len (t : Bs) (i : Nat) : (tellLines ((linesB t).take i)).length ≤ 4 * t.length := by
  rw [tellLines_sum]
  have h1 := (linesB_small t).1
  have h2 : (((linesB t).take i).map List.length).sum ≤ t.length := by
    rw [List.map_take]
    refine Nat.le_trans (sum_take _ _) ?_
    unfold linesB
    refine Nat.le_trans (sum_cut _) ?_
    rw [lines_len]
    exact Nat.le_refl _
  rw [List.length_take]
  omega
def In64 (n : Int) : Prop := -9223372036854775808 ≤ n ∧ n ≤ 9223372036854775807
/-- an answer, and where its texts lie -/
def ansV (n1 : Int) (c1 c2 : Bs) (n5 n2 n3 n4 : Int) (t : Bs) : Array Value := #[.int .i64 n1, .string (ba c1), .string (ba c2), .int .i64 n5, .int .i64 n2, .int .i64 n3, .int .i64 n4, .string (ba t)]
set_option maxRecDepth 100000 in
set_option maxHeartbeats 16000000 in
theorem rtell_ok (n1 : Int) (c1 c2 : Bs) (n5 n2 n3 n4 : Int) (t : Bs) (h1 : In64 n1) (h2 : In64 n2) (h3 : In64 n3) (h4 : In64 n4) (h5 : In64 n5) (hc1 : c1.length ≤ 1099511627776) (hc2 : c2.length ≤ 1099511627776) (ht : t.length ≤ 1099511627776) (W : World) (hp : Pw W) :
    Calls Tryd.prog 6 #[.agg #[.int .i64 n1, .string (ba c1), .string (ba c2), .int .i64 n5, .int .i64 n2, .int .i64 n3, .int .i64 n4, .string (ba t)]] W fun e w' => e = .returned (.string (ba (tellP n1 n2 n3 n4 n5 c1 c2 t))) ∧ Bl W w' := by
  obtain ⟨bx, hbx⟩ : ∃ o : Obj, o = .cells #[.int .i64 n1, .string (ba c1), .string (ba c2), .int .i64 n5, .int .i64 n2, .int .i64 n3, .int .i64 n4, .string (ba t)] 26 := ⟨_, rfl⟩
  have hg : (W.alloc bx).heap[W.heap.size]? = some (.cells #[.int .i64 n1, .string (ba c1), .string (ba c2), .int .i64 n5, .int .i64 n2, .int .i64 n3, .int .i64 n4, .string (ba t)] 26 (0, 0)) := by rw [hbx]; exact heap_alloc_new W _
  have hbW : Bl W (W.alloc bx) := Bl.alloc _ _
  have HW0 := mkHid hbW
  have HA : Hid (∀ U, Bl (W.alloc bx) U → U.heap[W.heap.size]? = some (.cells #[.int .i64 n1, .string (ba c1), .string (ba c2), .int .i64 n5, .int .i64 n2, .int .i64 n3, .int .i64 n4, .string (ba t)] 26 (0, 0))) := fun U hU => (hU.block _ (lt_of_heap hg)).trans hg
  have HS : Hid (∀ U, Bl (W.alloc bx) U → U.cell? ⟨W.heap.size, 0, none⟩ = some (.int .i64 n1) ∧ U.cell? ⟨W.heap.size, 1, none⟩ = some (.string (ba c1)) ∧ U.cell? ⟨W.heap.size, 2, none⟩ = some (.string (ba c2)) ∧ U.cell? ⟨W.heap.size, 3, none⟩ = some (.int .i64 n5) ∧ U.cell? ⟨W.heap.size, 4, none⟩ = some (.int .i64 n2) ∧ U.cell? ⟨W.heap.size, 5, none⟩ = some (.int .i64 n3) ∧ U.cell? ⟨W.heap.size, 6, none⟩ = some (.int .i64 n4)) := fun U hU => by
    have q := HA.out U hU
    exact ⟨cell_in q 0, cell_in q 1, cell_in q 2, cell_in q 3, cell_in q 4, cell_in q 5, cell_in q 6⟩
  have HP : Hid (∀ U, Bl (W.alloc bx) U → Pw U) := fun U hU => (hp.bl hbW).bl hU
  have HI0 : Hid (∀ U, Bl (W.alloc bx) U → Calls Tryd.prog 17 #[.int .i64 n1] U fun e w' => e = .returned (.string (ba (Lib.itoa n1))) ∧ Bl U w') := fun U hU => rnum_ok n1 h1.1 h1.2 U (HP.out U hU)
  have HI1 : Hid (∀ U, Bl (W.alloc bx) U → Calls Tryd.prog 17 #[.int .i64 n2] U fun e w' => e = .returned (.string (ba (Lib.itoa n2))) ∧ Bl U w') := fun U hU => rnum_ok n2 h2.1 h2.2 U (HP.out U hU)
  have HI2 : Hid (∀ U, Bl (W.alloc bx) U → Calls Tryd.prog 17 #[.int .i64 n3] U fun e w' => e = .returned (.string (ba (Lib.itoa n3))) ∧ Bl U w') := fun U hU => rnum_ok n3 h3.1 h3.2 U (HP.out U hU)
  have HI3 : Hid (∀ U, Bl (W.alloc bx) U → Calls Tryd.prog 17 #[.int .i64 n4] U fun e w' => e = .returned (.string (ba (Lib.itoa n4))) ∧ Bl U w') := fun U hU => rnum_ok n4 h4.1 h4.2 U (HP.out U hU)
  have HI4 : Hid (∀ U, Bl (W.alloc bx) U → Calls Tryd.prog 17 #[.int .i64 n5] U fun e w' => e = .returned (.string (ba (Lib.itoa n5))) ∧ Bl U w') := fun U hU => rnum_ok n5 h5.1 h5.2 U (HP.out U hU)
  have HI5 : Hid (∀ U, Bl (W.alloc bx) U → Calls Tryd.prog 18 #[.string (ba c1)] U fun e w' => e = .returned (.string (ba (wordB c1))) ∧ Bl U w') := fun U hU => written_ok c1 (by omega) U (HP.out U hU)
  have HI6 : Hid (∀ U, Bl (W.alloc bx) U → Calls Tryd.prog 18 #[.string (ba c2)] U fun e w' => e = .returned (.string (ba (wordB c2))) ∧ Bl U w') := fun U hU => written_ok c2 (by omega) U (HP.out U hU)
  have BV0 : Hid (Bl (W.alloc bx) (W.alloc bx).drew) := bl_drew _
  have l1 := itoa_len n1 h1.1 h1.2
  have l2 := itoa_len n2 h2.1 h2.2
  have l3 := itoa_len n3 h3.1 h3.2
  have l4 := itoa_len n4 h4.1 h4.2
  have l5 := itoa_len n5 h5.1 h5.2
  have l6 : (wordB c1).length ≤ 3298534883400 := by unfold wordB; rw [List.length_cons]; have := esc_len c1; omega
  have l7 : (wordB c2).length ≤ 3298534883400 := by unfold wordB; rw [List.length_cons]; have := esc_len c2; omega
  have HT : Hid (tellP n1 n2 n3 n4 n5 c1 c2 t = ([97, 110, 115, 119, 101, 114, 32] ++ Lib.itoa n1 ++ [32] ++ Lib.itoa n2 ++ [32] ++ Lib.itoa n3 ++ [32] ++ Lib.itoa n4 ++ [32] ++ Lib.itoa n5 ++ [32] ++ wordB c1 ++ [32] ++ wordB c2 ++ [10]) ++ tellLines (linesB t)) := mkHid (by
    unfold tellP numsW
    simp)
  rw [HT.out]
  clear HT
  generalize Lib.itoa n1 = a1 at *
  generalize Lib.itoa n2 = a2 at *
  generalize Lib.itoa n3 = a3 at *
  generalize Lib.itoa n4 = a4 at *
  generalize Lib.itoa n5 = a5 at *
  generalize wordB c1 = e1 at *
  generalize wordB c2 = e2 at *
  obtain ⟨hd, hHD⟩ : ∃ hd, ([97, 110, 115, 119, 101, 114, 32] ++ a1 ++ [32] ++ a2 ++ [32] ++ a3 ++ [32] ++ a4 ++ [32] ++ a5 ++ [32] ++ e1 ++ [32] ++ e2 ++ [10] : Bs) = hd := ⟨_, rfl⟩
  rw [hHD]
  have hdl : hd.length ≤ 6597069767000 := by rw [← hHD]; simp only [List.length_append, List.length_cons, List.length_nil]; omega
  have HHD := mkHid hHD
  clear h1 h2 h3 h4 h5 hp hg hbW hc1 hc2 hHD
  rw [hbx] at HS HP HI0 HI1 HI2 HI3 HI4 HI5 HI6 BV0 HW0 HA
  clear hbx bx
  go_enter Tryd.func6, Tryd.ntmps6
  go_upto_region 1 with fail
  refine wp_region_held_drew (S := fun U => U.cell? ⟨W.heap.size, 0, none⟩ = some (.int .i64 n1) ∧ U.cell? ⟨W.heap.size, 1, none⟩ = some (.string (ba c1)) ∧ U.cell? ⟨W.heap.size, 2, none⟩ = some (.string (ba c2)) ∧ U.cell? ⟨W.heap.size, 3, none⟩ = some (.int .i64 n5) ∧ U.cell? ⟨W.heap.size, 4, none⟩ = some (.int .i64 n2) ∧ U.cell? ⟨W.heap.size, 5, none⟩ = some (.int .i64 n3) ∧ U.cell? ⟨W.heap.size, 6, none⟩ = some (.int .i64 n4)) (by kernel_rfl) (HS.out _ BV0.out) (fun hHeld => ?_)
  refine wpAnyH_take (i := 0) (v := ?_) rfl (by kernel_rfl) (by kernel_rfl) (by kernel_rfl) (fun _ _ _ h => h) (Or.inl ⟨by rfl, ?_⟩) (by assumption) ?_
  rotate_left
  · (intro w hSw; (try dsimp only at hSw); (try go_split_ands); first | (go_simp; done) | (go_simp; with_reducible rfl))
  try simp only [Act.put, List.getElem_toArray, List.getElem_cons_zero, List.getElem_cons_succ, List.setIfInBounds_toArray, List.set_cons_zero, List.set_cons_succ]
  refine wpAnyH_take (i := 1) (v := ?_) rfl (by kernel_rfl) (by kernel_rfl) (by kernel_rfl) (fun _ _ _ h => h) (Or.inl ⟨by rfl, ?_⟩) (by assumption) ?_
  rotate_left
  · (intro w hSw; (try dsimp only at hSw); (try go_split_ands); first | (go_simp; done) | (go_simp; with_reducible rfl))
  try simp only [Act.put, List.getElem_toArray, List.getElem_cons_zero, List.getElem_cons_succ, List.setIfInBounds_toArray, List.set_cons_zero, List.set_cons_succ]
  refine wpAnyH_take (i := 2) (v := ?_) rfl (by kernel_rfl) (by kernel_rfl) (by kernel_rfl) (fun _ _ _ h => h) (Or.inl ⟨by rfl, ?_⟩) (by assumption) ?_
  rotate_left
  · (intro w hSw; (try dsimp only at hSw); (try go_split_ands); first | (go_simp; done) | (go_simp; with_reducible rfl))
  try simp only [Act.put, List.getElem_toArray, List.getElem_cons_zero, List.getElem_cons_succ, List.setIfInBounds_toArray, List.set_cons_zero, List.set_cons_succ]
  refine wpAnyH_take (i := 6) (v := ?_) rfl (by kernel_rfl) (by kernel_rfl) (by kernel_rfl) (fun _ _ _ h => h) (Or.inl ⟨by rfl, ?_⟩) (by assumption) ?_
  rotate_left
  · (intro w hSw; (try dsimp only at hSw); (try go_split_ands); first | (go_simp; done) | (go_simp; with_reducible rfl))
  try simp only [Act.put, List.getElem_toArray, List.getElem_cons_zero, List.getElem_cons_succ, List.setIfInBounds_toArray, List.set_cons_zero, List.set_cons_succ]
  refine wpAnyH_take (i := 7) (v := ?_) rfl (by kernel_rfl) (by kernel_rfl) (by kernel_rfl) (fun _ _ _ h => h) (Or.inl ⟨by rfl, ?_⟩) (by assumption) ?_
  rotate_left
  · (intro w hSw; (try dsimp only at hSw); (try go_split_ands); first | (go_simp; done) | (go_simp; with_reducible rfl))
  try simp only [Act.put, List.getElem_toArray, List.getElem_cons_zero, List.getElem_cons_succ, List.setIfInBounds_toArray, List.set_cons_zero, List.set_cons_succ]
  refine wpAnyH_take (i := 11) (v := ?_) rfl (by kernel_rfl) (by kernel_rfl) (by kernel_rfl) (fun _ _ _ h => h) (Or.inl ⟨by rfl, ?_⟩) (by assumption) ?_
  rotate_left
  · (intro w hSw; (try dsimp only at hSw); (try go_split_ands); first | (go_simp; done) | (go_simp; with_reducible rfl))
  try simp only [Act.put, List.getElem_toArray, List.getElem_cons_zero, List.getElem_cons_succ, List.setIfInBounds_toArray, List.set_cons_zero, List.set_cons_succ]
  refine wpAnyH_take (i := 12) (v := ?_) rfl (by kernel_rfl) (by kernel_rfl) (by kernel_rfl) (fun _ _ _ h => h) (Or.inl ⟨by rfl, ?_⟩) (by assumption) ?_
  rotate_left
  · (intro w hSw; (try dsimp only at hSw); (try go_split_ands); first | (go_simp; done) | (go_simp; with_reducible rfl))
  try simp only [Act.put, List.getElem_toArray, List.getElem_cons_zero, List.getElem_cons_succ, List.setIfInBounds_toArray, List.set_cons_zero, List.set_cons_succ]
  refine wpAnyH_take (i := 16) (v := ?_) rfl (by kernel_rfl) (by kernel_rfl) (by kernel_rfl) (fun _ _ _ h => h) (Or.inl ⟨by rfl, ?_⟩) (by assumption) ?_
  rotate_left
  · (intro w hSw; (try dsimp only at hSw); (try go_split_ands); first | (go_simp; done) | (go_simp; with_reducible rfl))
  try simp only [Act.put, List.getElem_toArray, List.getElem_cons_zero, List.getElem_cons_succ, List.setIfInBounds_toArray, List.set_cons_zero, List.set_cons_succ]
  refine wpAnyH_take (i := 17) (v := ?_) rfl (by kernel_rfl) (by kernel_rfl) (by kernel_rfl) (fun _ _ _ h => h) (Or.inl ⟨by rfl, ?_⟩) (by assumption) ?_
  rotate_left
  · (intro w hSw; (try dsimp only at hSw); (try go_split_ands); first | (go_simp; done) | (go_simp; with_reducible rfl))
  try simp only [Act.put, List.getElem_toArray, List.getElem_cons_zero, List.getElem_cons_succ, List.setIfInBounds_toArray, List.set_cons_zero, List.set_cons_succ]
  refine wpAnyH_take (i := 21) (v := ?_) rfl (by kernel_rfl) (by kernel_rfl) (by kernel_rfl) (fun _ _ _ h => h) (Or.inl ⟨by rfl, ?_⟩) (by assumption) ?_
  rotate_left
  · (intro w hSw; (try dsimp only at hSw); (try go_split_ands); first | (go_simp; done) | (go_simp; with_reducible rfl))
  try simp only [Act.put, List.getElem_toArray, List.getElem_cons_zero, List.getElem_cons_succ, List.setIfInBounds_toArray, List.set_cons_zero, List.set_cons_succ]
  refine wpAnyH_take (i := 22) (v := ?_) rfl (by kernel_rfl) (by kernel_rfl) (by kernel_rfl) (fun _ _ _ h => h) (Or.inl ⟨by rfl, ?_⟩) (by assumption) ?_
  rotate_left
  · (intro w hSw; (try dsimp only at hSw); (try go_split_ands); first | (go_simp; done) | (go_simp; with_reducible rfl))
  try simp only [Act.put, List.getElem_toArray, List.getElem_cons_zero, List.getElem_cons_succ, List.setIfInBounds_toArray, List.set_cons_zero, List.set_cons_succ]
  refine wpAnyH_take (i := 23) (v := ?_) rfl (by kernel_rfl) (by kernel_rfl) (by kernel_rfl) (fun _ _ _ h => h) (Or.inl ⟨by rfl, ?_⟩) (by assumption) ?_
  rotate_left
  · (intro w hSw; (try dsimp only at hSw); (try go_split_ands); first | (go_simp; done) | (go_simp; with_reducible rfl))
  try simp only [Act.put, List.getElem_toArray, List.getElem_cons_zero, List.getElem_cons_succ, List.setIfInBounds_toArray, List.set_cons_zero, List.set_cons_succ]
  refine wpAnyH_take (i := 27) (v := ?_) rfl (by kernel_rfl) (by kernel_rfl) (by kernel_rfl) (fun _ _ _ h => h) (Or.inl ⟨by rfl, ?_⟩) (by assumption) ?_
  rotate_left
  · (intro w hSw; (try dsimp only at hSw); (try go_split_ands); first | (go_simp; done) | (go_simp; with_reducible rfl))
  try simp only [Act.put, List.getElem_toArray, List.getElem_cons_zero, List.getElem_cons_succ, List.setIfInBounds_toArray, List.set_cons_zero, List.set_cons_succ]
  refine wpAnyH_take (i := 28) (v := ?_) rfl (by kernel_rfl) (by kernel_rfl) (by kernel_rfl) (fun _ _ _ h => h) (Or.inl ⟨by rfl, ?_⟩) (by assumption) ?_
  rotate_left
  · (intro w hSw; (try dsimp only at hSw); (try go_split_ands); first | (go_simp; done) | (go_simp; with_reducible rfl))
  try simp only [Act.put, List.getElem_toArray, List.getElem_cons_zero, List.getElem_cons_succ, List.setIfInBounds_toArray, List.set_cons_zero, List.set_cons_succ]
  refine wpAnyH_take (i := 29) (v := ?_) rfl (by kernel_rfl) (by kernel_rfl) (by kernel_rfl) (fun _ _ _ h => h) (Or.inl ⟨by rfl, ?_⟩) (by assumption) ?_
  rotate_left
  · (intro w hSw; (try dsimp only at hSw); (try go_split_ands); first | (go_simp; done) | (go_simp; with_reducible rfl))
  try simp only [Act.put, List.getElem_toArray, List.getElem_cons_zero, List.getElem_cons_succ, List.setIfInBounds_toArray, List.set_cons_zero, List.set_cons_succ]
  refine wpAnyH_take (i := 33) (v := ?_) rfl (by kernel_rfl) (by kernel_rfl) (by kernel_rfl) (fun _ _ _ h => h) (Or.inl ⟨by rfl, ?_⟩) (by assumption) ?_
  rotate_left
  · (intro w hSw; (try dsimp only at hSw); (try go_split_ands); first | (go_simp; done) | (go_simp; with_reducible rfl))
  try simp only [Act.put, List.getElem_toArray, List.getElem_cons_zero, List.getElem_cons_succ, List.setIfInBounds_toArray, List.set_cons_zero, List.set_cons_succ]
  refine wpAnyH_take (i := 34) (v := ?_) rfl (by kernel_rfl) (by kernel_rfl) (by kernel_rfl) (fun _ _ _ h => h) (Or.inl ⟨by rfl, ?_⟩) (by assumption) ?_
  rotate_left
  · (intro w hSw; (try dsimp only at hSw); (try go_split_ands); first | (go_simp; done) | (go_simp; with_reducible rfl))
  try simp only [Act.put, List.getElem_toArray, List.getElem_cons_zero, List.getElem_cons_succ, List.setIfInBounds_toArray, List.set_cons_zero, List.set_cons_succ]
  refine wpAnyH_take (i := 35) (v := ?_) rfl (by kernel_rfl) (by kernel_rfl) (by kernel_rfl) (fun _ _ _ h => h) (Or.inl ⟨by rfl, ?_⟩) (by assumption) ?_
  rotate_left
  · (intro w hSw; (try dsimp only at hSw); (try go_split_ands); first | (go_simp; done) | (go_simp; with_reducible rfl))
  try simp only [Act.put, List.getElem_toArray, List.getElem_cons_zero, List.getElem_cons_succ, List.setIfInBounds_toArray, List.set_cons_zero, List.set_cons_succ]
  refine oneH (i := 3) (by kernel_rfl) rfl (fun K hK => ?_)
  refine stepE (by rfl) 17 Tryd.f17 Tryd.func17 (by kernel_rfl) (by kernel_rfl) _ _ rfl _ (by first | (simp [Act.eval]; done) | (simp [Act.eval]; rfl)) _ (HI0.out _ BV0.out) ?_
  rintro _ w1 ⟨rfl, bb1⟩
  have BV1 := mkHid (BV0.out.trans bb1)
  clear bb1
  refine hK.out _ _ (HS.out _ BV1.out) (fun hHeld => ?_)
  clear hK K
  try simp only [Act.put, List.getElem_toArray, List.getElem_cons_zero, List.getElem_cons_succ, List.setIfInBounds_toArray, List.set_cons_zero, List.set_cons_succ]
  refine wpAnyH_take (i := 4) (v := .string (ba ([97, 110, 115, 119, 101, 114, 32] ++ a1))) rfl (by kernel_rfl) (by kernel_rfl) (by kernel_rfl) (fun _ _ _ h => h) (Or.inl ⟨by rfl, ?_⟩) (by assumption) ?_
  · (intro w hSw; (try dsimp only at hSw); (try go_split_ands); (refine cat_run (X := _) (Y := _) ?_ ?_ rfl (by simp only [List.length_append, List.length_cons, List.length_nil]; omega) rfl _ <;> first | rfl | (simp [Act.eval]; done) | (simp [Act.eval]; rfl)))
  try simp only [Act.put, List.getElem_toArray, List.getElem_cons_zero, List.getElem_cons_succ, List.setIfInBounds_toArray, List.set_cons_zero, List.set_cons_succ]
  refine wpAnyH_take (i := 5) (v := .string (ba ([97, 110, 115, 119, 101, 114, 32] ++ a1 ++ [32]))) rfl (by kernel_rfl) (by kernel_rfl) (by kernel_rfl) (fun _ _ _ h => h) (Or.inl ⟨by rfl, ?_⟩) (by assumption) ?_
  · (intro w hSw; (try dsimp only at hSw); (try go_split_ands); (refine cat_run (X := _) (Y := _) ?_ ?_ rfl (by simp only [List.length_append, List.length_cons, List.length_nil]; omega) rfl _ <;> first | rfl | (simp [Act.eval]; done) | (simp [Act.eval]; rfl)))
  try simp only [Act.put, List.getElem_toArray, List.getElem_cons_zero, List.getElem_cons_succ, List.setIfInBounds_toArray, List.set_cons_zero, List.set_cons_succ]
  refine oneH (i := 8) (by kernel_rfl) rfl (fun K hK => ?_)
  refine stepE (by rfl) 17 Tryd.f17 Tryd.func17 (by kernel_rfl) (by kernel_rfl) _ _ rfl _ (by first | (simp [Act.eval]; done) | (simp [Act.eval]; rfl)) _ (HI1.out _ BV1.out) ?_
  rintro _ w2 ⟨rfl, bb2⟩
  have BV2 := mkHid (BV1.out.trans bb2)
  clear bb2
  refine hK.out _ _ (HS.out _ BV2.out) (fun hHeld => ?_)
  clear hK K
  try simp only [Act.put, List.getElem_toArray, List.getElem_cons_zero, List.getElem_cons_succ, List.setIfInBounds_toArray, List.set_cons_zero, List.set_cons_succ]
  refine wpAnyH_take (i := 9) (v := .string (ba ([97, 110, 115, 119, 101, 114, 32] ++ a1 ++ [32] ++ a2))) rfl (by kernel_rfl) (by kernel_rfl) (by kernel_rfl) (fun _ _ _ h => h) (Or.inl ⟨by rfl, ?_⟩) (by assumption) ?_
  · (intro w hSw; (try dsimp only at hSw); (try go_split_ands); (refine cat_run (X := _) (Y := _) ?_ ?_ rfl (by simp only [List.length_append, List.length_cons, List.length_nil]; omega) rfl _ <;> first | rfl | (simp [Act.eval]; done) | (simp [Act.eval]; rfl)))
  try simp only [Act.put, List.getElem_toArray, List.getElem_cons_zero, List.getElem_cons_succ, List.setIfInBounds_toArray, List.set_cons_zero, List.set_cons_succ]
  refine wpAnyH_take (i := 10) (v := .string (ba ([97, 110, 115, 119, 101, 114, 32] ++ a1 ++ [32] ++ a2 ++ [32]))) rfl (by kernel_rfl) (by kernel_rfl) (by kernel_rfl) (fun _ _ _ h => h) (Or.inl ⟨by rfl, ?_⟩) (by assumption) ?_
  · (intro w hSw; (try dsimp only at hSw); (try go_split_ands); (refine cat_run (X := _) (Y := _) ?_ ?_ rfl (by simp only [List.length_append, List.length_cons, List.length_nil]; omega) rfl _ <;> first | rfl | (simp [Act.eval]; done) | (simp [Act.eval]; rfl)))
  try simp only [Act.put, List.getElem_toArray, List.getElem_cons_zero, List.getElem_cons_succ, List.setIfInBounds_toArray, List.set_cons_zero, List.set_cons_succ]
  refine oneH (i := 13) (by kernel_rfl) rfl (fun K hK => ?_)
  refine stepE (by rfl) 17 Tryd.f17 Tryd.func17 (by kernel_rfl) (by kernel_rfl) _ _ rfl _ (by first | (simp [Act.eval]; done) | (simp [Act.eval]; rfl)) _ (HI2.out _ BV2.out) ?_
  rintro _ w3 ⟨rfl, bb3⟩
  have BV3 := mkHid (BV2.out.trans bb3)
  clear bb3
  refine hK.out _ _ (HS.out _ BV3.out) (fun hHeld => ?_)
  clear hK K
  try simp only [Act.put, List.getElem_toArray, List.getElem_cons_zero, List.getElem_cons_succ, List.setIfInBounds_toArray, List.set_cons_zero, List.set_cons_succ]
  refine wpAnyH_take (i := 14) (v := .string (ba ([97, 110, 115, 119, 101, 114, 32] ++ a1 ++ [32] ++ a2 ++ [32] ++ a3))) rfl (by kernel_rfl) (by kernel_rfl) (by kernel_rfl) (fun _ _ _ h => h) (Or.inl ⟨by rfl, ?_⟩) (by assumption) ?_
  · (intro w hSw; (try dsimp only at hSw); (try go_split_ands); (refine cat_run (X := _) (Y := _) ?_ ?_ rfl (by simp only [List.length_append, List.length_cons, List.length_nil]; omega) rfl _ <;> first | rfl | (simp [Act.eval]; done) | (simp [Act.eval]; rfl)))
  try simp only [Act.put, List.getElem_toArray, List.getElem_cons_zero, List.getElem_cons_succ, List.setIfInBounds_toArray, List.set_cons_zero, List.set_cons_succ]
  refine wpAnyH_take (i := 15) (v := .string (ba ([97, 110, 115, 119, 101, 114, 32] ++ a1 ++ [32] ++ a2 ++ [32] ++ a3 ++ [32]))) rfl (by kernel_rfl) (by kernel_rfl) (by kernel_rfl) (fun _ _ _ h => h) (Or.inl ⟨by rfl, ?_⟩) (by assumption) ?_
  · (intro w hSw; (try dsimp only at hSw); (try go_split_ands); (refine cat_run (X := _) (Y := _) ?_ ?_ rfl (by simp only [List.length_append, List.length_cons, List.length_nil]; omega) rfl _ <;> first | rfl | (simp [Act.eval]; done) | (simp [Act.eval]; rfl)))
  try simp only [Act.put, List.getElem_toArray, List.getElem_cons_zero, List.getElem_cons_succ, List.setIfInBounds_toArray, List.set_cons_zero, List.set_cons_succ]
  refine oneH (i := 18) (by kernel_rfl) rfl (fun K hK => ?_)
  refine stepE (by rfl) 17 Tryd.f17 Tryd.func17 (by kernel_rfl) (by kernel_rfl) _ _ rfl _ (by first | (simp [Act.eval]; done) | (simp [Act.eval]; rfl)) _ (HI3.out _ BV3.out) ?_
  rintro _ w4 ⟨rfl, bb4⟩
  have BV4 := mkHid (BV3.out.trans bb4)
  clear bb4
  refine hK.out _ _ (HS.out _ BV4.out) (fun hHeld => ?_)
  clear hK K
  try simp only [Act.put, List.getElem_toArray, List.getElem_cons_zero, List.getElem_cons_succ, List.setIfInBounds_toArray, List.set_cons_zero, List.set_cons_succ]
  refine wpAnyH_take (i := 19) (v := .string (ba ([97, 110, 115, 119, 101, 114, 32] ++ a1 ++ [32] ++ a2 ++ [32] ++ a3 ++ [32] ++ a4))) rfl (by kernel_rfl) (by kernel_rfl) (by kernel_rfl) (fun _ _ _ h => h) (Or.inl ⟨by rfl, ?_⟩) (by assumption) ?_
  · (intro w hSw; (try dsimp only at hSw); (try go_split_ands); (refine cat_run (X := _) (Y := _) ?_ ?_ rfl (by simp only [List.length_append, List.length_cons, List.length_nil]; omega) rfl _ <;> first | rfl | (simp [Act.eval]; done) | (simp [Act.eval]; rfl)))
  try simp only [Act.put, List.getElem_toArray, List.getElem_cons_zero, List.getElem_cons_succ, List.setIfInBounds_toArray, List.set_cons_zero, List.set_cons_succ]
  refine wpAnyH_take (i := 20) (v := .string (ba ([97, 110, 115, 119, 101, 114, 32] ++ a1 ++ [32] ++ a2 ++ [32] ++ a3 ++ [32] ++ a4 ++ [32]))) rfl (by kernel_rfl) (by kernel_rfl) (by kernel_rfl) (fun _ _ _ h => h) (Or.inl ⟨by rfl, ?_⟩) (by assumption) ?_
  · (intro w hSw; (try dsimp only at hSw); (try go_split_ands); (refine cat_run (X := _) (Y := _) ?_ ?_ rfl (by simp only [List.length_append, List.length_cons, List.length_nil]; omega) rfl _ <;> first | rfl | (simp [Act.eval]; done) | (simp [Act.eval]; rfl)))
  try simp only [Act.put, List.getElem_toArray, List.getElem_cons_zero, List.getElem_cons_succ, List.setIfInBounds_toArray, List.set_cons_zero, List.set_cons_succ]
  refine oneH (i := 24) (by kernel_rfl) rfl (fun K hK => ?_)
  refine stepE (by rfl) 17 Tryd.f17 Tryd.func17 (by kernel_rfl) (by kernel_rfl) _ _ rfl _ (by first | (simp [Act.eval]; done) | (simp [Act.eval]; rfl)) _ (HI4.out _ BV4.out) ?_
  rintro _ w5 ⟨rfl, bb5⟩
  have BV5 := mkHid (BV4.out.trans bb5)
  clear bb5
  refine hK.out _ _ (HS.out _ BV5.out) (fun hHeld => ?_)
  clear hK K
  try simp only [Act.put, List.getElem_toArray, List.getElem_cons_zero, List.getElem_cons_succ, List.setIfInBounds_toArray, List.set_cons_zero, List.set_cons_succ]
  refine wpAnyH_take (i := 25) (v := .string (ba ([97, 110, 115, 119, 101, 114, 32] ++ a1 ++ [32] ++ a2 ++ [32] ++ a3 ++ [32] ++ a4 ++ [32] ++ a5))) rfl (by kernel_rfl) (by kernel_rfl) (by kernel_rfl) (fun _ _ _ h => h) (Or.inl ⟨by rfl, ?_⟩) (by assumption) ?_
  · (intro w hSw; (try dsimp only at hSw); (try go_split_ands); (refine cat_run (X := _) (Y := _) ?_ ?_ rfl (by simp only [List.length_append, List.length_cons, List.length_nil]; omega) rfl _ <;> first | rfl | (simp [Act.eval]; done) | (simp [Act.eval]; rfl)))
  try simp only [Act.put, List.getElem_toArray, List.getElem_cons_zero, List.getElem_cons_succ, List.setIfInBounds_toArray, List.set_cons_zero, List.set_cons_succ]
  refine wpAnyH_take (i := 26) (v := .string (ba ([97, 110, 115, 119, 101, 114, 32] ++ a1 ++ [32] ++ a2 ++ [32] ++ a3 ++ [32] ++ a4 ++ [32] ++ a5 ++ [32]))) rfl (by kernel_rfl) (by kernel_rfl) (by kernel_rfl) (fun _ _ _ h => h) (Or.inl ⟨by rfl, ?_⟩) (by assumption) ?_
  · (intro w hSw; (try dsimp only at hSw); (try go_split_ands); (refine cat_run (X := _) (Y := _) ?_ ?_ rfl (by simp only [List.length_append, List.length_cons, List.length_nil]; omega) rfl _ <;> first | rfl | (simp [Act.eval]; done) | (simp [Act.eval]; rfl)))
  try simp only [Act.put, List.getElem_toArray, List.getElem_cons_zero, List.getElem_cons_succ, List.setIfInBounds_toArray, List.set_cons_zero, List.set_cons_succ]
  refine oneH (i := 30) (by kernel_rfl) rfl (fun K hK => ?_)
  refine stepE (by rfl) 18 Tryd.f18 Tryd.func18 (by kernel_rfl) (by kernel_rfl) _ _ rfl _ (by first | (simp [Act.eval]; done) | (simp [Act.eval]; rfl)) _ (HI5.out _ BV5.out) ?_
  rintro _ w6 ⟨rfl, bb6⟩
  have BV6 := mkHid (BV5.out.trans bb6)
  clear bb6
  refine hK.out _ _ (HS.out _ BV6.out) (fun hHeld => ?_)
  clear hK K
  try simp only [Act.put, List.getElem_toArray, List.getElem_cons_zero, List.getElem_cons_succ, List.setIfInBounds_toArray, List.set_cons_zero, List.set_cons_succ]
  refine wpAnyH_take (i := 31) (v := .string (ba ([97, 110, 115, 119, 101, 114, 32] ++ a1 ++ [32] ++ a2 ++ [32] ++ a3 ++ [32] ++ a4 ++ [32] ++ a5 ++ [32] ++ e1))) rfl (by kernel_rfl) (by kernel_rfl) (by kernel_rfl) (fun _ _ _ h => h) (Or.inl ⟨by rfl, ?_⟩) (by assumption) ?_
  · (intro w hSw; (try dsimp only at hSw); (try go_split_ands); (refine cat_run (X := _) (Y := _) ?_ ?_ rfl (by simp only [List.length_append, List.length_cons, List.length_nil]; omega) rfl _ <;> first | rfl | (simp [Act.eval]; done) | (simp [Act.eval]; rfl)))
  try simp only [Act.put, List.getElem_toArray, List.getElem_cons_zero, List.getElem_cons_succ, List.setIfInBounds_toArray, List.set_cons_zero, List.set_cons_succ]
  refine wpAnyH_take (i := 32) (v := .string (ba ([97, 110, 115, 119, 101, 114, 32] ++ a1 ++ [32] ++ a2 ++ [32] ++ a3 ++ [32] ++ a4 ++ [32] ++ a5 ++ [32] ++ e1 ++ [32]))) rfl (by kernel_rfl) (by kernel_rfl) (by kernel_rfl) (fun _ _ _ h => h) (Or.inl ⟨by rfl, ?_⟩) (by assumption) ?_
  · (intro w hSw; (try dsimp only at hSw); (try go_split_ands); (refine cat_run (X := _) (Y := _) ?_ ?_ rfl (by simp only [List.length_append, List.length_cons, List.length_nil]; omega) rfl _ <;> first | rfl | (simp [Act.eval]; done) | (simp [Act.eval]; rfl)))
  try simp only [Act.put, List.getElem_toArray, List.getElem_cons_zero, List.getElem_cons_succ, List.setIfInBounds_toArray, List.set_cons_zero, List.set_cons_succ]
  refine oneH (i := 36) (by kernel_rfl) rfl (fun K hK => ?_)
  refine stepE (by rfl) 18 Tryd.f18 Tryd.func18 (by kernel_rfl) (by kernel_rfl) _ _ rfl _ (by first | (simp [Act.eval]; done) | (simp [Act.eval]; rfl)) _ (HI6.out _ BV6.out) ?_
  rintro _ w7 ⟨rfl, bb7⟩
  have BV7 := mkHid (BV6.out.trans bb7)
  clear bb7
  refine hK.out _ _ (HS.out _ BV7.out) (fun hHeld => ?_)
  clear hK K
  try simp only [Act.put, List.getElem_toArray, List.getElem_cons_zero, List.getElem_cons_succ, List.setIfInBounds_toArray, List.set_cons_zero, List.set_cons_succ]
  refine wpAnyH_take (i := 37) (v := .string (ba ([97, 110, 115, 119, 101, 114, 32] ++ a1 ++ [32] ++ a2 ++ [32] ++ a3 ++ [32] ++ a4 ++ [32] ++ a5 ++ [32] ++ e1 ++ [32] ++ e2))) rfl (by kernel_rfl) (by kernel_rfl) (by kernel_rfl) (fun _ _ _ h => h) (Or.inl ⟨by rfl, ?_⟩) (by assumption) ?_
  · (intro w hSw; (try dsimp only at hSw); (try go_split_ands); (refine cat_run (X := _) (Y := _) ?_ ?_ rfl (by simp only [List.length_append, List.length_cons, List.length_nil]; omega) rfl _ <;> first | rfl | (simp [Act.eval]; done) | (simp [Act.eval]; rfl)))
  try simp only [Act.put, List.getElem_toArray, List.getElem_cons_zero, List.getElem_cons_succ, List.setIfInBounds_toArray, List.set_cons_zero, List.set_cons_succ]
  refine wpAnyH_take (i := 38) (v := .string (ba ([97, 110, 115, 119, 101, 114, 32] ++ a1 ++ [32] ++ a2 ++ [32] ++ a3 ++ [32] ++ a4 ++ [32] ++ a5 ++ [32] ++ e1 ++ [32] ++ e2 ++ [10]))) rfl (by kernel_rfl) (by kernel_rfl) (by kernel_rfl) (fun _ _ _ h => h) (Or.inl ⟨by rfl, ?_⟩) (by assumption) ?_
  · (intro w hSw; (try dsimp only at hSw); (try go_split_ands); (refine cat_run (X := _) (Y := _) ?_ ?_ rfl (by simp only [List.length_append, List.length_cons, List.length_nil]; omega) rfl _ <;> first | rfl | (simp [Act.eval]; done) | (simp [Act.eval]; rfl)))
  try simp only [Act.put, List.getElem_toArray, List.getElem_cons_zero, List.getElem_cons_succ, List.setIfInBounds_toArray, List.set_cons_zero, List.set_cons_succ]
  obtain ⟨pv, w8, hcv, hpz, hb8⟩ := conv_new w7 (HP.out _ BV7.out) ([97, 110, 115, 119, 101, 114, 32] ++ a1 ++ [32] ++ a2 ++ [32] ++ a3 ++ [32] ++ a4 ++ [32] ++ a5 ++ [32] ++ e1 ++ [32] ++ e2 ++ [10]) (by simp only [List.length_append, List.length_cons, List.length_nil]; omega)
  refine oneH (i := 39) (by kernel_rfl) rfl (fun K hK => ?_)
  refine stepB2 (by rfl) (v := pv) (w' := w8) (by first | exact conv_step rfl (by simp [Act.eval]) hcv) ?_
  refine hK.out _ _ (HS.out _ (BV7.out.trans hb8)) (fun hHeld => ?_)
  clear hK K
  try simp only [Act.put, List.getElem_toArray, List.getElem_cons_zero, List.getElem_cons_succ, List.setIfInBounds_toArray, List.set_cons_zero, List.set_cons_succ]
  refine wpAnyH_take (i := 40) (v := ?_) rfl (by kernel_rfl) (by kernel_rfl) (by kernel_rfl) (fun _ _ _ h => h) (Or.inl ⟨by rfl, ?_⟩) (by assumption) ?_
  rotate_left
  · (intro w hSw; (try dsimp only at hSw); (try go_split_ands); first | (go_simp; done) | (go_simp; with_reducible rfl))
  try simp only [Act.put, List.getElem_toArray, List.getElem_cons_zero, List.getElem_cons_succ, List.setIfInBounds_toArray, List.set_cons_zero, List.set_cons_succ]
  refine wpAnyH_done (by kernel_rfl) ?_ _
  rw [HHD.out] at hpz
  have HPZ := mkHid hpz
  have B8 := mkHid ((HW0.out.trans BV7.out).trans hb8)
  have c7 : w8.cell? ⟨W.heap.size, 7, none⟩ = some (.string (ba t)) := cell_in (HA.out _ (BV7.out.trans hb8)) 7
  have HB8 := hb8.size
  have htl := ba_toList t
  by_cases hte : t = []
  · subst hte
    have q1 : ((ba []).toList == []) = true := by rw [ba_toList]; rfl
    have q2 : (ba []).toList.isEmpty = true := by rw [ba_toList]; rfl
    have HC := hpz.conv
    have HE : Hid ((⟨hd.toArray⟩ : ByteArray) = ba (hd ++ tellLines (linesB []))) := mkHid (by simp [tellLines, linesB, linesT]; rfl)
    rw [HE.out] at HC
    clear hpz HPZ BV0 BV1 BV2 BV3 BV4 BV5 BV6 BV7 hcv hb8 hHeld HI0 HI1 HI2 HI3 HI4 HI5 HI6 HS HA HP HW0
    go_wp2_with fail
    go_ret
    exact ⟨rfl, B8.out⟩
  · have q2 : t.isEmpty = false := by cases t with | nil => exact absurd rfl hte | cons a l => rfl
    have HL : Hid (Calls Tryd.prog 19 #[.string (ba t)] w8 fun e w' => ∃ p c, e = .returned (.slice p (linesB t).length c) ∧ Mine w8 w' p c ((linesB t).map ba)) := rlines_ok t (by omega) w8
    have hlines := lines_len t
    generalize hLt : linesB t = L at *
    have hLl : L.length ≤ t.length ∧ ∀ i (hi : i < L.length), L[i].length ≤ t.length := by rw [← hLt]; exact linesB_small t
    have HLN : Hid (∀ i, i ≤ L.length → (tellLines (L.take i)).length ≤ 4 * t.length) := mkHid (by intro i hi; rw [← hLt]; exact tellLines_len t i)
    clear hpz BV0 BV1 BV2 BV3 BV4 BV5 BV6 hcv hHeld HI0 HI1 HI2 HI3 HI4 HI5 HI6 HS HA HP HW0 hlines
    go_wp2_with (go_at_call 19; refine HL.out.mono ?_; rintro e w9 ⟨lp, lc, rfl, hm⟩)
    have HPZ9 : Hid (Pz w9 w7.heap.size pv hd) := mkHid (HPZ.out.bl hm.fr.bl)
    have HC : Hid (∀ V, Pf w7.heap.size w9 V → ∀ i (hi : i < L.length), ∃ g, lp = some ⟨g, 0, none⟩ ∧ V.cell? ⟨g, i, none⟩ = some (.string (ba L[i]))) := mkHid (by
      intro V hV i hi
      have hr := hm.row
      rw [List.length_map] at hr
      obtain ⟨_, g, e, hc, _, hgl⟩ := row_cell hr (by omega)
      obtain ⟨cur, hcur⟩ := own_blk hr g (by rw [e]; simp [blk])
      refine ⟨g, e, ?_⟩
      have hVg := hV.hb hcur (fun c fz => by simp)
      have := hc i hi
      rw [cell_in hcur] at this
      rw [cell_in hVg, this]
      congr 2
      rw [List.getD_eq_getElem?_getD, List.getElem?_map, List.getElem?_eq_getElem hi]
      rfl)
    have B9 := mkHid (B8.out.trans hm.fr.bl)
    have hB9 : w7.heap.size ≤ w9.heap.size := Nat.le_trans HB8 hm.fr.bl.size
    have hB7 : W.heap.size ≤ w7.heap.size := by have := BV7.out.size; simp at this; omega
    clear hm HL HPZ BV7 B8 hb8
    go_loopw [3, 5] (fun pg q wr => ∃ i : Nat, i ≤ L.length ∧ q = .int .i64 (i : Int) ∧ Hid (Pz wr w7.heap.size pg (hd ++ tellLines (L.take i)) ∧ Pf w7.heap.size w9 wr)) (fun _ q _ => L.length - (intOf q).toNat)
    case atStart => exact ⟨0, Nat.zero_le _, rfl, by simpa [tellLines] using HPZ9.out, Pf.refl _ _⟩
    case round =>
      clear HPZ9
      obtain ⟨i, hi, rfl, hst⟩ := hrel
      have i0 : (0 : Int) ≤ (i : Int) := by omega
      obtain ⟨hp, hf⟩ := hst.out
      have hln := HLN.out i hi
      by_cases hlt : i < L.length
      · have i1 : (i : Int) < (L.length : Int) := by omega
        obtain ⟨g, rfl, hc0⟩ := HC.out wr hf i hlt
        have hX := hLl.2 i hlt
        have hnx : Hid (hd ++ tellLines (L.take i) ++ ([46, 32] ++ L[i] ++ [10]) = hd ++ tellLines (L.take (i + 1))) := mkHid (by
          rw [List.append_assoc, List.take_succ_eq_append_getElem hlt]
          unfold tellLines
          rw [List.flatMap_append]
          simp)
        obtain ⟨v2, w2, hr2, hp2, hf2⟩ := hp.str ([46, 32] ++ L[i] ++ [10]) (by simp only [List.length_append, List.length_cons, List.length_nil]; omega)
        rw [hnx.out] at hp2
        have hs2 : ba ([46, 32] ++ L[i] ++ [10]) = (⟨#[46, 32]⟩ : ByteArray) ++ ba L[i] ++ (⟨#[10]⟩ : ByteArray) := by rw [← ba_app, ← ba_app]; rfl
        rw [hs2] at hr2
        have hz := ba_size L[i]
        have hz1 : ¬ 9223372036854775807 < 2 + (ba L[i]).size := by rw [hz]; omega
        have hz3 : ¬ 9223372036854775807 < 2 + L[i].length := by omega
        have hz4 : ¬ 9223372036854775807 < 2 + L[i].length + 1 := by omega
        have HR2 := mkHid hr2
        have H2 := mkHid (And.intro hp2 (hf.trans hf2))
        clear hst hp hf hr2 hp2 hf2 hln hX hnx
        generalize L[i] = X at *
        go_wp2_with (at_builtin; refine Lib.wpList_append_run _ rfl (.tmp 60) (.tmp 66) 47 9 rfl _ _ rfl rfl _ _ HR2.out ?_)
        go_roundw
        case rel => exact ⟨i + 1, by omega, by go_num, H2.out⟩
        case measure => simp [intOf]; omega
      · have hie : i = L.length := by omega
        subst hie
        rw [List.take_of_length_le (Nat.le_refl _)] at hp
        have HC2 := hp.conv
        have HE : Hid (Bl W wr) := mkHid ⟨B9.out.os ▸ hf.below.os, B9.out.tape ▸ hf.below.tape, B9.out.output ▸ hf.below.output, Nat.le_trans B9.out.size hf.below.size, fun k hk => (hf.below.block k (by omega)).trans (B9.out.block k hk)⟩
        clear hst hp hf hln
        go_wp2_with fail
        go_ret
        exact ⟨by rw [hLt]; rfl, HE.out⟩
end Go.Proofs.YtheolmnjedbjmaaDoor
