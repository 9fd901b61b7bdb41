import Derived.Test.YtheolmnjedbjmaaGreatDoorGG
namespace Go.Proofs.YtheolmnjedbjmaaGreatDoor
open Go.RowKit
set_option linter.unusedVariables false
set_option linter.unusedSimpArgs false
attribute [local go_sem ↓] Go.wp_at_zero Go.wp_at_succ
theorem ow_lower {w : World} {B B' E sz n : Nat} {v : Value} {xs : List Value} (h : w.ownsRow B E sz v n xs) (hB : B' ≤ B) : w.ownsRow B' E sz v n xs := by
  refine ⟨h.1, ?_⟩
  rcases h.2 with h1 | ⟨g, cap, cur, e, hg, r⟩
  · exact Or.inl h1
  · exact Or.inr ⟨g, cap, cur, e, Nat.le_trans hB hg, r⟩
theorem own_nil (w : World) (B E sz : Nat) : w.ownsRow B E sz (.slice none 0 0) 0 [] := ⟨by simp, Or.inl ⟨rfl, rfl⟩⟩
/-- the play's fields as they are handed in -/
abbrev plC (g off cc : Nat) : Array Value := #[.int .i64 0, .int .i64 0, .slice (some ⟨g, off, none⟩) 1 cc]
abbrev hdC (g off cc : Nat) : Array Value := #[.int .i64 0, .int .i64 0, .slice (some ⟨g, off, none⟩) 1 cc, .slice none 0 0, .slice none 0 0]
set_option maxRecDepth 100000 in
set_option maxHeartbeats 16000000 in
theorem hand_ok (W : World) (g off cc : Nat) (a : AK) (q : Option Addr) (c : Nat) (h : Aw W g off a q c) (ha : Ak2 a) : Calls Tryz.prog 7 #[.agg #[.int .i64 0, .int .i64 0, .slice (some ⟨g, off, none⟩) 1 cc]] W fun e w' => e = .returned (.pointer (some ⟨W.heap.size + 1, 0, none⟩)) ∧ ∃ tb cT gb cF vN, Hs W w' W.heap.size (plC g off cc) (W.heap.size + 1) tb a cT (.slice (some ⟨gb, 0, none⟩) 1 cF) (.slice (some ⟨gb, 0, none⟩) 9 cF) vN 8 := by
  obtain ⟨W1, hW1⟩ : ∃ X, (W.alloc (.cells (plC g off cc) 24)).alloc (.cells (hdC g off cc) 32) = X := ⟨_, rfl⟩
  have z0 : (W.alloc (.cells (plC g off cc) 24)).heap.size = W.heap.size + 1 := by simp
  have z1 : W1.heap.size = W.heap.size + 2 := by rw [← hW1]; simp
  have b1 : Bl W W1 := by rw [← hW1]; exact (Bl.alloc _ _).trans (Bl.alloc _ _)
  have qp : W1.heap[W.heap.size]? = some (.cells (plC g off cc) 24 (0, 0)) := by
    rw [← hW1]
    exact (Below.heap_alloc _ _ _ (by simp)).trans (heap_alloc_new W _)
  have qh : W1.heap[W.heap.size + 1]? = some (.cells (hdC g off cc) 32 (0, 0)) := by
    rw [← hW1, ← z0]
    exact heap_alloc_new _ _
  have h1 := h.bl b1
  have c0 := h1.cells 0 (.int .i64 a.kind) rfl
  have c1 := h1.cells 1 (.string a.name) rfl
  have c2 := h1.cells 2 (.string a.other) rfl
  have c3 := h1.cells 3 (.slice q a.names.length c) rfl
  have c4 := h1.cells 4 (.string a.text) rfl
  have c5 := h1.cells 5 (.int .i64 a.num) rfl
  have c6 := h1.cells 6 (.int .i64 a.fuel) rfl
  rw [Nat.add_zero] at c0
  have p2 := lit_in qp 2 (.slice (some ⟨g, off, none⟩) 1 cc) rfl
  obtain ⟨ab, hab⟩ : ∃ ab, W1.heap.size = ab := ⟨_, rfl⟩
  obtain ⟨W2, hW2⟩ : ∃ X, W1.alloc (.cells (akC a q c) 40) = X := ⟨_, rfl⟩
  have b2 : Bl W1 W2 := by rw [← hW2]; exact Bl.alloc _ _
  have qa : W2.heap[ab]? = some (.cells (akC a q c) 40 (0, 0)) := by rw [← hW2, ← hab]; exact heap_alloc_new _ _
  have n3 := lit_in qa 3 (.slice q a.names.length c) rfl
  have hnl := ha.len
  have HTW : Hid (Calls Tryz.prog 19 #[.slice q a.names.length c] W2 fun e w3 => ∃ tb cT, e = .returned (.slice (some ⟨tb, 0, none⟩) (a.names.length + 8) cT) ∧ w3.cell? ⟨W.heap.size + 1, 4, none⟩ = some (.slice none 0 0) ∧ ∃ pN nN cN w4, (Builtin.append_ #[30, 30] 30 #[.slice none 0 0, .slice (some ⟨w3.heap.size, 0, none⟩) 1 1]).run Tryz.prog (w3.alloc (.cells #[.slice (some ⟨tb, 0, none⟩) (a.names.length + 8) cT] 38)) = .ok (.slice pN nN cN) w4 ∧ w4.cell? ⟨W.heap.size + 1, 4, none⟩ = some (.slice none 0 0) ∧ w4.frozen? ⟨W.heap.size + 1, 4, none⟩ = false ∧ ∃ W5, w4.setCell ⟨W.heap.size + 1, 4, none⟩ (.slice pN nN cN) = W5 ∧ W5.cell? ⟨ab, 3, none⟩ = some (.slice q a.names.length c) ∧ W5.frozen? ⟨ab, 3, none⟩ = false ∧ (∀ U, (Instr.slice 38 (.slice (some ⟨tb, 0, none⟩) (a.names.length + 8) cT) none (some (.int .i64 (a.names.length : Int))) none).run Tryz.prog U = .ok (.slice (some ⟨tb, 0, none⟩) a.names.length cT) U) ∧ ∃ W6, W5.setCell ⟨ab, 3, none⟩ (.slice (some ⟨tb, 0, none⟩) a.names.length cT) = W6 ∧ Hid (∀ U, Bl W6.drew U → U.cell? ⟨W.heap.size + 1, 3, none⟩ = some (.slice none 0 0) ∧ U.frozen? ⟨W.heap.size + 1, 3, none⟩ = false ∧ U.cell? ⟨ab, 0, none⟩ = some (.int .i64 a.kind) ∧ U.cell? ⟨ab, 1, none⟩ = some (.string a.name) ∧ U.cell? ⟨ab, 2, none⟩ = some (.string a.other) ∧ U.cell? ⟨ab, 3, none⟩ = some (.slice (some ⟨tb, 0, none⟩) a.names.length cT) ∧ U.cell? ⟨ab, 4, none⟩ = some (.string a.text) ∧ U.cell? ⟨ab, 5, none⟩ = some (.int .i64 a.num) ∧ U.cell? ⟨ab, 6, none⟩ = some (.int .i64 a.fuel)) ∧ ∃ pF nF cF w7, (Builtin.append_ #[22, 22] 22 #[.slice none 0 0, .slice (some ⟨W6.heap.size, 0, none⟩) 1 1]).run Tryz.prog (W6.drew.alloc (.cells #[.int .i64 a.kind, .string a.name, .string a.other, .slice (some ⟨tb, 0, none⟩) a.names.length cT, .string a.text, .int .i64 a.num, .int .i64 a.fuel] 40)) = .ok (.slice pF nF cF) w7 ∧ Hid (w7.cell? ⟨W.heap.size + 1, 3, none⟩ = some (.slice none 0 0) ∧ w7.frozen? ⟨W.heap.size + 1, 3, none⟩ = false ∧ w7.cell? ⟨ab, 0, none⟩ = some (.int .i64 a.kind) ∧ w7.cell? ⟨ab, 1, none⟩ = some (.string a.name) ∧ w7.cell? ⟨ab, 2, none⟩ = some (.string a.other) ∧ w7.cell? ⟨ab, 3, none⟩ = some (.slice (some ⟨tb, 0, none⟩) a.names.length cT) ∧ w7.cell? ⟨ab, 4, none⟩ = some (.string a.text) ∧ w7.cell? ⟨ab, 5, none⟩ = some (.int .i64 a.num) ∧ w7.cell? ⟨ab, 6, none⟩ = some (.int .i64 a.fuel)) ∧ ∃ W8, w7.setCell ⟨W.heap.size + 1, 3, none⟩ (.slice pF nF cF) = W8 ∧ Hid (Hs W W8 W.heap.size (plC g off cc) (W.heap.size + 1) tb a cT (.slice (some ⟨g, off, none⟩) 1 cc) (.slice pF nF cF) (.slice pN nN cN) 0)) := by
    refine (twin_ok W2 q a.names c ((h1.bl b2).names) (by omega)).mono ?_
    rintro e w3 ⟨v, rfl, ho, hb3⟩
    obtain ⟨tb, cT, cur, rfl, htb, hcur, hcT, -, -, -⟩ := own_cells ho (by omega)
    have hW3 : Bl W w3 := (b1.trans b2).trans hb3
    have qh3 := ((b2.trans hb3).block _ (lt_of_heap qh)).trans qh
    have qp3 := ((b2.trans hb3).block _ (lt_of_heap qp)).trans qp
    have qa3 := (hb3.block _ (lt_of_heap qa)).trans qa
    have ho3 := ow_lower (B' := W.heap.size) ho (b1.trans b2).size
    obtain ⟨vN, w4, hr4, ho4, hp4, hf4⟩ := push_lst (own_nil w3 W.heap.size 38 1) hW3.size (some ⟨tb, 0, none⟩) (a.names.length + 8) cT (by omega)
    obtain ⟨pN, cN, rfl⟩ := own_slice ho4
    have b4 : Bl w3 w4 := Fr.bl hf4
    have qh4 := (b4.block _ (lt_of_heap qh3)).trans qh3
    have qp4 := (b4.block _ (lt_of_heap qp3)).trans qp3
    have qa4 := (b4.block _ (lt_of_heap qa3)).trans qa3
    have ho4t := b4.ow ho3
    -- h.Names
    have qh5 := set_in qh4 4 (.slice pN (0 + 1) cN)
    have qp5 := set_box (i := 4) (y := .slice pN (0 + 1) cN) qh4 qp4 (by decide)
    have qa5 := set_box (i := 4) (y := .slice pN (0 + 1) cN) qh4 qa4 (by decide)
    have ho5t := ow_set (i := 4) (y := .slice pN (0 + 1) cN) ho4t qh4 (by decide)
    have ho5n := ow_set (i := 4) (y := .slice pN (0 + 1) cN) ho4 qh4 (by decide)
    have bW5 := bl_setCell (hW3.trans b4) (W.heap.size + 1) 4 (.slice pN (0 + 1) cN) (by omega)
    obtain ⟨W5, hW5⟩ : ∃ X, w4.setCell ⟨W.heap.size + 1, 4, none⟩ (.slice pN (0 + 1) cN) = X := ⟨_, rfl⟩
    rw [hW5] at qh5 qp5 qa5 ho5t ho5n bW5
    have hneq : ab ≠ W.heap.size + 1 := by omega
    -- a.Names
    have qa6 := set_in qa5 3 (.slice (some ⟨tb, 0, none⟩) a.names.length cT)
    have qh6 := set_box (i := 3) (y := .slice (some ⟨tb, 0, none⟩) a.names.length cT) qa5 qh5 (by decide)
    have qp6 := set_box (i := 3) (y := .slice (some ⟨tb, 0, none⟩) a.names.length cT) qa5 qp5 (by decide)
    have ho6t := ow_set (i := 3) (y := .slice (some ⟨tb, 0, none⟩) a.names.length cT) ho5t qa5 (by decide)
    have ho6n := ow_set (i := 3) (y := .slice (some ⟨tb, 0, none⟩) a.names.length cT) ho5n qa5 (by decide)
    have bW6 := bl_setCell bW5 ab 3 (.slice (some ⟨tb, 0, none⟩) a.names.length cT) (by omega)
    obtain ⟨W6, hW6⟩ : ∃ X, W5.setCell ⟨ab, 3, none⟩ (.slice (some ⟨tb, 0, none⟩) a.names.length cT) = X := ⟨_, rfl⟩
    rw [hW6] at qh6 qp6 qa6 ho6t ho6n bW6
    -- h.Full
    obtain ⟨vF, w7, hr7, ho7, hp7, hf7⟩ := push_act (own_nil W6.drew W.heap.size 40 7) bW6.size a (some ⟨tb, 0, none⟩) cT (by omega)
    obtain ⟨pF, cF, rfl⟩ := own_slice ho7
    have b7 : Bl W6.drew w7 := Fr.bl hf7
    have HS : ∀ U, Bl W6.drew U → U.cell? ⟨W.heap.size + 1, 3, none⟩ = some (.slice none 0 0) ∧ U.frozen? ⟨W.heap.size + 1, 3, none⟩ = false ∧ U.cell? ⟨ab, 0, none⟩ = some (.int .i64 a.kind) ∧ U.cell? ⟨ab, 1, none⟩ = some (.string a.name) ∧ U.cell? ⟨ab, 2, none⟩ = some (.string a.other) ∧ U.cell? ⟨ab, 3, none⟩ = some (.slice (some ⟨tb, 0, none⟩) a.names.length cT) ∧ U.cell? ⟨ab, 4, none⟩ = some (.string a.text) ∧ U.cell? ⟨ab, 5, none⟩ = some (.int .i64 a.num) ∧ U.cell? ⟨ab, 6, none⟩ = some (.int .i64 a.fuel) := fun U hU => by
      have e1 := (hU.block _ (lt_of_heap (w := W6.drew) qh6)).trans (show W6.drew.heap[W.heap.size + 1]? = _ from qh6)
      have e2 := (hU.block _ (lt_of_heap (w := W6.drew) qa6)).trans (show W6.drew.heap[ab]? = _ from qa6)
      exact ⟨lit_in e1 3 _ rfl, frozen_in e1 3, lit_in e2 0 _ rfl, lit_in e2 1 _ rfl, lit_in e2 2 _ rfl, lit_in e2 3 _ rfl, lit_in e2 4 _ rfl, lit_in e2 5 _ rfl, lit_in e2 6 _ rfl⟩
    have qh7 := (b7.block _ (lt_of_heap (w := W6.drew) qh6)).trans (show W6.drew.heap[W.heap.size + 1]? = _ from qh6)
    have qp7 := (b7.block _ (lt_of_heap (w := W6.drew) qp6)).trans (show W6.drew.heap[W.heap.size]? = _ from qp6)
    have ho7t := b7.ow (show W6.drew.ownsRow _ _ _ _ _ _ from ho6t)
    have ho7n := b7.ow (show W6.drew.ownsRow _ _ _ _ _ _ from ho6n)
    refine ⟨tb, cT, rfl, lit_in qh3 4 _ rfl, pN, _, cN, w4, hr4, lit_in qh4 4 _ rfl, frozen_in qh4 4, W5, hW5, lit_in qa5 3 _ rfl, frozen_in qa5 3, fun U => slice_h36 tb _ cT _ (by omega) U, W6, hW6, HS, pF, _, cF, w7, hr7, HS w7 b7, _, rfl, ?_⟩
    refine ⟨set_box qh7 qp7 (by decide), set_in qh7 3 _, ow_set ho7t qh7 (by decide), ow_set ho7n qh7 (by decide), ?_, bl_setCell (bW6.trans ((bl_drew W6).trans b7)) _ _ _ (by omega), by omega⟩
    have e : fullC a tb cT 0 = [] ++ (akC a (some ⟨tb, 0, none⟩) cT).toList := by simp [fullC]
    rw [e]
    exact ow_set ho7 qh7 (by decide)
  have H1l : ∀ U, (Instr.slice 22 (.slice none 0 0) none none none).run Tryz.prog U = (Instr.slice 22 (.slice none 0 0) none none none).run Tryz.prog U := fun _ => rfl
  clear H1l
  have HB1 := mkHid b1
  clear h h1 b1 b2 qp qh qa z0 z1 ha
  simp only [akC] at hW2
  go_enter Tryz.func7, Tryz.ntmps7
  go_wp2_with fail
  go_loopw [4] (fun x wr => (x = .int .i64 0 ∧ wr = W1) ∨ (x = .int .i64 1 ∧ Hid (∃ tb cT pN nN cN pF nF cF, Hs W wr W.heap.size (plC g off cc) (W.heap.size + 1) tb a cT (.slice (some ⟨g, off, none⟩) 1 cc) (.slice pF nF cF) (.slice pN nN cN) 0))) (fun x _ => 1 - (intOf x).toNat)
  case atStart => exact Or.inl ⟨rfl, rfl⟩
  case round =>
    rcases hrel with ⟨rfl, hwr⟩ | ⟨rfl, hst⟩
    · subst wr
      go_upto_region 9 with (first
        | (go_at_call 19; refine HTW.out.mono ?_; rintro e w3 ⟨tb, cT, rfl, n4, pN, nN, cN, w4, hr4, m4, f4, W5, hW5, a5, g5, hsl, W6, hW6, HS9, pF, nF, cF, w7, hr7, HS7, W8, hW8, HH⟩)
        | (at_builtin; refine Lib.wpList_append_run _ rfl (.tmp 30) (.tmp 32) 30 30 rfl _ _ rfl rfl _ _ hr4 ?_))
      refine wp_region_last (L := 10) (S := fun U => U.cell? ⟨W.heap.size + 1, 3, none⟩ = some (.slice none 0 0) ∧ U.frozen? ⟨W.heap.size + 1, 3, none⟩ = false ∧ U.cell? ⟨ab, 0, none⟩ = some (.int .i64 a.kind) ∧ U.cell? ⟨ab, 1, none⟩ = some (.string a.name) ∧ U.cell? ⟨ab, 2, none⟩ = some (.string a.other) ∧ U.cell? ⟨ab, 3, none⟩ = some (.slice (some ⟨tb, 0, none⟩) a.names.length cT) ∧ U.cell? ⟨ab, 4, none⟩ = some (.string a.text) ∧ U.cell? ⟨ab, 5, none⟩ = some (.int .i64 a.num) ∧ U.cell? ⟨ab, 6, none⟩ = some (.int .i64 a.fuel)) (by kernel_rfl) (HS9.out _ (Bl.refl _)) (fun hHeld => ?_)
      refine wpLast_take (i := 0) (v := ?_) rfl (by kernel_rfl) (by kernel_rfl) (by kernel_rfl) (by decide) (by kernel_rfl) (fun _ _ _ h => h) (Or.inl ⟨by rfl, ?_⟩) (by assumption) ?_
      rotate_left
      · (intro w hSw; (try dsimp only at hSw); (try go_split_ands); first | (go_simp; done) | (go_simp; with_reducible rfl))
      try simp only [Act.put, List.getElem_toArray, List.getElem_cons_zero, List.getElem_cons_succ, List.setIfInBounds_toArray, List.set_cons_zero, List.set_cons_succ]
      refine wpLast_take (i := 1) (v := ?_) rfl (by kernel_rfl) (by kernel_rfl) (by kernel_rfl) (by decide) (by kernel_rfl) (fun _ _ _ h => h) (Or.inl ⟨by rfl, ?_⟩) (by assumption) ?_
      rotate_left
      · (intro w hSw; (try dsimp only at hSw); (try go_split_ands); first | (go_simp; done) | (go_simp; with_reducible rfl))
      try simp only [Act.put, List.getElem_toArray, List.getElem_cons_zero, List.getElem_cons_succ, List.setIfInBounds_toArray, List.set_cons_zero, List.set_cons_succ]
      refine wpLast_take (i := 2) (v := ?_) rfl (by kernel_rfl) (by kernel_rfl) (by kernel_rfl) (by decide) (by kernel_rfl) (fun _ _ _ h => h) (Or.inl ⟨by rfl, ?_⟩) (by assumption) ?_
      rotate_left
      · (intro w hSw; (try dsimp only at hSw); (try go_split_ands); first | (go_simp; done) | (go_simp; with_reducible rfl))
      try simp only [Act.put, List.getElem_toArray, List.getElem_cons_zero, List.getElem_cons_succ, List.setIfInBounds_toArray, List.set_cons_zero, List.set_cons_succ]
      refine wpLast_take (i := 3) (v := ?_) rfl (by kernel_rfl) (by kernel_rfl) (by kernel_rfl) (by decide) (by kernel_rfl) (fun _ _ _ h => h) (Or.inl ⟨by rfl, ?_⟩) (by assumption) ?_
      rotate_left
      · (intro w hSw; (try dsimp only at hSw); (try go_split_ands); first | (go_simp; done) | (go_simp; with_reducible rfl))
      try simp only [Act.put, List.getElem_toArray, List.getElem_cons_zero, List.getElem_cons_succ, List.setIfInBounds_toArray, List.set_cons_zero, List.set_cons_succ]
      refine wpLast_take (i := 4) (v := ?_) rfl (by kernel_rfl) (by kernel_rfl) (by kernel_rfl) (by decide) (by kernel_rfl) (fun _ _ _ h => h) (Or.inl ⟨by rfl, ?_⟩) (by assumption) ?_
      rotate_left
      · (intro w hSw; (try dsimp only at hSw); (try go_split_ands); first | (go_simp; done) | (go_simp; with_reducible rfl))
      try simp only [Act.put, List.getElem_toArray, List.getElem_cons_zero, List.getElem_cons_succ, List.setIfInBounds_toArray, List.set_cons_zero, List.set_cons_succ]
      refine wpLast_take (i := 5) (v := ?_) rfl (by kernel_rfl) (by kernel_rfl) (by kernel_rfl) (by decide) (by kernel_rfl) (fun _ _ _ h => h) (Or.inl ⟨by rfl, ?_⟩) (by assumption) ?_
      rotate_left
      · (intro w hSw; (try dsimp only at hSw); (try go_split_ands); first | (go_simp; done) | (go_simp; with_reducible rfl))
      try simp only [Act.put, List.getElem_toArray, List.getElem_cons_zero, List.getElem_cons_succ, List.setIfInBounds_toArray, List.set_cons_zero, List.set_cons_succ]
      refine wpLast_one (i := 6) (by kernel_rfl) rfl (by decide) (fun K hK => ?_)
      go_simp
      refine hK.out _ _ (HS9.out _ (Bl.alloc _ _)) (fun hHeld => ?_)
      clear hK K
      try simp only [Act.put, List.getElem_toArray, List.getElem_cons_zero, List.getElem_cons_succ, List.setIfInBounds_toArray, List.set_cons_zero, List.set_cons_succ]
      refine wpLast_one (i := 7) (by kernel_rfl) rfl (by decide) (fun K hK => ?_)
      refine step_append_run rfl (.tmp 46) (.tmp 48) 22 22 rfl _ _ (by simp [Act.eval]) (by simp [Act.eval]) _ _ hr7 ?_
      refine hK.out _ _ (HS7.out) (fun hHeld => ?_)
      clear hK K
      try simp only [Act.put, List.getElem_toArray, List.getElem_cons_zero, List.getElem_cons_succ, List.setIfInBounds_toArray, List.set_cons_zero, List.set_cons_succ]
      refine wpLast_one (i := 8) (by kernel_rfl) rfl (by decide) (fun K hK => ?_)
      go_simp
      refine hK.out _ _ (by assumption) (fun hHeld => ?_)
      clear hK K
      try simp only [Act.put, List.getElem_toArray, List.getElem_cons_zero, List.getElem_cons_succ, List.setIfInBounds_toArray, List.set_cons_zero, List.set_cons_succ]
      refine wpLast_take (i := 9) (v := ?_) rfl (by kernel_rfl) (by kernel_rfl) (by kernel_rfl) (by decide) (by kernel_rfl) (fun _ _ _ h => h) (Or.inl ⟨by rfl, ?_⟩) (by assumption) ?_
      rotate_left
      · (intro w hSw; (try dsimp only at hSw); (try go_split_ands); first | (go_simp; done) | (go_simp; with_reducible rfl))
      try simp only [Act.put, List.getElem_toArray, List.getElem_cons_zero, List.getElem_cons_succ, List.setIfInBounds_toArray, List.set_cons_zero, List.set_cons_succ]
      refine wpLast_end (by kernel_rfl) rfl (by kernel_rfl) (fun K hK => ?_)
      (try go_split_ands); go_simp
      refine hK.out _ _ ?_
      clear hK K
      try simp only [Act.put, List.getElem_toArray, List.getElem_cons_zero, List.getElem_cons_succ, List.setIfInBounds_toArray, List.set_cons_zero, List.set_cons_succ]
      go_wp2_with fail
      go_roundw
      case rel => exact Or.inr ⟨rfl, tb, cT, pN, nN, cN, pF, nF, cF, HH.out⟩
      case measure => simp [intOf]
    · obtain ⟨tb, cT, pN, nN, cN, pF, nF, cF, hS⟩ := hst.out
      have d2 := lit_in hS.pbx 2 (.slice (some ⟨g, off, none⟩) 1 cc) rfl
      have H0 : Hid (∃ pF nF cF, Hs W wr W.heap.size (plC g off cc) (W.heap.size + 1) tb a cT (.slice (some ⟨g, off, none⟩) 1 cc) (.slice pF nF cF) (.slice pN nN cN) 0) := ⟨_, _, _, hS⟩
      clear hS hst HTW hW1 hW2 c0 c1 c2 c3 c4 c5 c6 p2 n3 hab
      go_wp2_with fail
      clear d2
      go_loopw [7] (fun x wr => ∃ j : Nat, j ≤ 8 ∧ x = .int .i64 (j : Int) ∧ Hid (∃ pF nF cF, Hs W wr W.heap.size (plC g off cc) (W.heap.size + 1) tb a cT (.slice (some ⟨g, off, none⟩) 1 cc) (.slice pF nF cF) (.slice pN nN cN) j)) (fun x _ => 8 - (intOf x).toNat)
      case atStart => exact ⟨0, Nat.zero_le _, rfl, H0⟩
      case round =>
        clear H0
        obtain ⟨j, hj, rfl, hst⟩ := hrel
        have j0 : (0 : Int) ≤ (j : Int) := by omega
        obtain ⟨pF, nF, cF, hS⟩ := hst.out
        by_cases hlt : j < 8
        · have j1 : (j : Int) < 8 := by omega
          have d3 := lit_in hS.box 3 (.slice pF nF cF) rfl
          obtain ⟨v', w', hr, k1, k2, p2, n2, cc2, rfl, W4, hW4, HH⟩ := hS.push (by omega)
          have hr2 : (Builtin.append_ #[22, 22] 22 #[.slice pF nF cF, .slice (some ⟨wr.heap.size, 0, none⟩) 1 1]).run Tryz.prog (wr.alloc (.cells #[.int .i64 77, .string ⟨#[]⟩, .string ⟨#[]⟩, .slice none 0 0, .string ⟨#[]⟩, .int .i64 0, .int .i64 0] 40)) = .ok (.slice p2 n2 cc2) w' := hr
          clear hS hst hr
          go_wp2_with (at_builtin; refine Lib.wpList_append_run _ rfl (.tmp 60) (.tmp 62) 22 22 rfl _ _ rfl rfl _ _ hr2 ?_)
          go_roundw
          case rel => exact ⟨j + 1, by omega, by go_num, p2, n2, cc2, HH.out⟩
          case measure => simp [intOf]; omega
        · have hje : j = 8 := by omega
          subst hje
          obtain ⟨gb, capF, cur, hvF, hgb, hcur, hcF, -, -, -⟩ := own_cells hS.fl (by omega)
          injection hvF with e1 e2 e3
          subst e1 e2 e3
          have hsl : ∀ U, (Instr.slice 22 (.slice (some ⟨gb, 0, none⟩) 9 cF) none (some (.int .i64 1)) none).run Tryz.prog U = .ok (.slice (some ⟨gb, 0, none⟩) 1 cF) U := fun U => slice_h29 gb 9 cF (by omega) U
          have HS14 : Hid (wr.drew.cell? ⟨W.heap.size + 1, 3, none⟩ = some (.slice (some ⟨gb, 0, none⟩) 9 cF) ∧ wr.drew.cell? ⟨W.heap.size, 2, none⟩ = some (.slice (some ⟨g, off, none⟩) 1 cc) ∧ wr.drew.cell? ⟨W.heap.size + 1, 2, none⟩ = some (.slice (some ⟨g, off, none⟩) 1 cc) ∧ wr.drew.frozen? ⟨W.heap.size + 1, 2, none⟩ = false) := by
            have e1 : wr.drew.heap[W.heap.size + 1]? = _ := hS.box
            have e2 : wr.drew.heap[W.heap.size]? = _ := hS.pbx
            exact ⟨lit_in e1 3 _ rfl, lit_in e2 2 _ rfl, lit_in e1 2 _ rfl, frozen_in e1 2⟩
          have HZ : Hid (Hs W (wr.drew.setCell ⟨W.heap.size + 1, 2, none⟩ (.slice (some ⟨gb, 0, none⟩) 1 cF)) W.heap.size (plC g off cc) (W.heap.size + 1) tb a cT (.slice (some ⟨gb, 0, none⟩) 1 cF) (.slice (some ⟨gb, 0, none⟩) 9 cF) (.slice pN nN cN) 8) := by
            have e1 : wr.drew.heap[W.heap.size + 1]? = _ := hS.box
            have e2 : wr.drew.heap[W.heap.size]? = _ := hS.pbx
            exact ⟨set_box e1 e2 (by decide), set_in e1 2 _, ow_set (show wr.drew.ownsRow _ _ _ _ _ _ from hS.tw) e1 (by decide), ow_set (show wr.drew.ownsRow _ _ _ _ _ _ from hS.nm) e1 (by decide), ow_set (show wr.drew.ownsRow _ _ _ _ _ _ from hS.fl) e1 (by decide), bl_setCell (hS.bl.trans (bl_drew wr)) _ _ _ hS.hbW, hS.hbW⟩
          clear hS hst hcur
          go_upto_region 14 with fail
          refine wp_region_last (L := 12) (S := fun U => U.cell? ⟨W.heap.size + 1, 3, none⟩ = some (.slice (some ⟨gb, 0, none⟩) 9 cF) ∧ U.cell? ⟨W.heap.size, 2, none⟩ = some (.slice (some ⟨g, off, none⟩) 1 cc) ∧ U.cell? ⟨W.heap.size + 1, 2, none⟩ = some (.slice (some ⟨g, off, none⟩) 1 cc) ∧ U.frozen? ⟨W.heap.size + 1, 2, none⟩ = false) (by kernel_rfl) (HS14.out) (fun hHeld => ?_)
          refine wpLast_take (i := 0) (v := ?_) rfl (by kernel_rfl) (by kernel_rfl) (by kernel_rfl) (by decide) (by kernel_rfl) (fun _ _ _ h => h) (Or.inl ⟨by rfl, ?_⟩) (by assumption) ?_
          rotate_left
          · (intro w hSw; (try dsimp only at hSw); (try go_split_ands); first | (go_simp; done) | (go_simp; with_reducible rfl))
          try simp only [Act.put, List.getElem_toArray, List.getElem_cons_zero, List.getElem_cons_succ, List.setIfInBounds_toArray, List.set_cons_zero, List.set_cons_succ]
          refine wpLast_take (i := 1) (v := ?_) rfl (by kernel_rfl) (by kernel_rfl) (by kernel_rfl) (by decide) (by kernel_rfl) (fun _ _ _ h => h) (Or.inl ⟨by rfl, ?_⟩) (by assumption) ?_
          rotate_left
          · (intro w hSw; (try dsimp only at hSw); (try go_split_ands); first | (go_simp; done) | (go_simp; with_reducible rfl))
          try simp only [Act.put, List.getElem_toArray, List.getElem_cons_zero, List.getElem_cons_succ, List.setIfInBounds_toArray, List.set_cons_zero, List.set_cons_succ]
          refine wpLast_take (i := 2) (v := ?_) rfl (by kernel_rfl) (by kernel_rfl) (by kernel_rfl) (by decide) (by kernel_rfl) (fun _ _ _ h => h) (Or.inl ⟨by rfl, ?_⟩) (by assumption) ?_
          rotate_left
          · (intro w hSw; (try dsimp only at hSw); (try go_split_ands); first | (go_simp; done) | (go_simp; with_reducible rfl))
          try simp only [Act.put, List.getElem_toArray, List.getElem_cons_zero, List.getElem_cons_succ, List.setIfInBounds_toArray, List.set_cons_zero, List.set_cons_succ]
          refine wpLast_take (i := 3) (v := ?_) rfl (by kernel_rfl) (by kernel_rfl) (by kernel_rfl) (by decide) (by kernel_rfl) (fun _ _ _ h => h) (Or.inl ⟨by rfl, ?_⟩) (by assumption) ?_
          rotate_left
          · (intro w hSw; (try dsimp only at hSw); (try go_split_ands); first | (go_simp; done) | (go_simp; with_reducible rfl))
          try simp only [Act.put, List.getElem_toArray, List.getElem_cons_zero, List.getElem_cons_succ, List.setIfInBounds_toArray, List.set_cons_zero, List.set_cons_succ]
          refine wpLast_take (i := 4) (v := ?_) rfl (by kernel_rfl) (by kernel_rfl) (by kernel_rfl) (by decide) (by kernel_rfl) (fun _ _ _ h => h) (Or.inl ⟨by rfl, ?_⟩) (by assumption) ?_
          rotate_left
          · (intro w hSw; (try dsimp only at hSw); (try go_split_ands); first | (go_simp; done) | (go_simp; with_reducible rfl))
          try simp only [Act.put, List.getElem_toArray, List.getElem_cons_zero, List.getElem_cons_succ, List.setIfInBounds_toArray, List.set_cons_zero, List.set_cons_succ]
          refine wpLast_take (i := 5) (v := ?_) rfl (by kernel_rfl) (by kernel_rfl) (by kernel_rfl) (by decide) (by kernel_rfl) (fun _ _ _ h => h) (Or.inl ⟨by rfl, ?_⟩) (by assumption) ?_
          rotate_left
          · (intro w hSw; (try dsimp only at hSw); (try go_split_ands); first | (go_simp; done) | (go_simp; with_reducible rfl))
          try simp only [Act.put, List.getElem_toArray, List.getElem_cons_zero, List.getElem_cons_succ, List.setIfInBounds_toArray, List.set_cons_zero, List.set_cons_succ]
          refine wpLast_take (i := 6) (v := ?_) rfl (by kernel_rfl) (by kernel_rfl) (by kernel_rfl) (by decide) (by kernel_rfl) (fun _ _ _ h => h) (Or.inl ⟨by rfl, ?_⟩) (by assumption) ?_
          rotate_left
          · (intro w hSw; (try dsimp only at hSw); (try go_split_ands); first | (go_simp; done) | (go_simp; with_reducible rfl))
          try simp only [Act.put, List.getElem_toArray, List.getElem_cons_zero, List.getElem_cons_succ, List.setIfInBounds_toArray, List.set_cons_zero, List.set_cons_succ]
          refine wpLast_take (i := 7) (v := ?_) rfl (by kernel_rfl) (by kernel_rfl) (by kernel_rfl) (by decide) (by kernel_rfl) (fun _ _ _ h => h) (Or.inl ⟨by rfl, ?_⟩) (by assumption) ?_
          rotate_left
          · (intro w hSw; (try dsimp only at hSw); (try go_split_ands); first | (go_simp; done) | (go_simp; with_reducible rfl))
          try simp only [Act.put, List.getElem_toArray, List.getElem_cons_zero, List.getElem_cons_succ, List.setIfInBounds_toArray, List.set_cons_zero, List.set_cons_succ]
          refine wpLast_take (i := 8) (v := ?_) rfl (by kernel_rfl) (by kernel_rfl) (by kernel_rfl) (by decide) (by kernel_rfl) (fun _ _ _ h => h) (Or.inl ⟨by rfl, ?_⟩) (by assumption) ?_
          rotate_left
          · (intro w hSw; (try dsimp only at hSw); (try go_split_ands); first | (go_simp; done) | (go_simp; with_reducible rfl))
          try simp only [Act.put, List.getElem_toArray, List.getElem_cons_zero, List.getElem_cons_succ, List.setIfInBounds_toArray, List.set_cons_zero, List.set_cons_succ]
          refine wpLast_one (i := 9) (by kernel_rfl) rfl (by decide) (fun K hK => ?_)
          go_simp
          refine hK.out _ _ (by assumption) (fun hHeld => ?_)
          clear hK K
          try simp only [Act.put, List.getElem_toArray, List.getElem_cons_zero, List.getElem_cons_succ, List.setIfInBounds_toArray, List.set_cons_zero, List.set_cons_succ]
          refine wpLast_one (i := 10) (by kernel_rfl) rfl (by decide) (fun K hK => ?_)
          go_simp
          refine hK.out _ _ (by assumption) (fun hHeld => ?_)
          clear hK K
          try simp only [Act.put, List.getElem_toArray, List.getElem_cons_zero, List.getElem_cons_succ, List.setIfInBounds_toArray, List.set_cons_zero, List.set_cons_succ]
          refine wpLast_take (i := 11) (v := ?_) rfl (by kernel_rfl) (by kernel_rfl) (by kernel_rfl) (by decide) (by kernel_rfl) (fun _ _ _ h => h) (Or.inl ⟨by rfl, ?_⟩) (by assumption) ?_
          rotate_left
          · (intro w hSw; (try dsimp only at hSw); (try go_split_ands); first | (go_simp; done) | (go_simp; with_reducible rfl))
          try simp only [Act.put, List.getElem_toArray, List.getElem_cons_zero, List.getElem_cons_succ, List.setIfInBounds_toArray, List.set_cons_zero, List.set_cons_succ]
          refine wpLast_end (by kernel_rfl) rfl (by kernel_rfl) (fun K hK => ?_)
          (try go_split_ands); go_simp
          refine hK.out _ _ ?_
          clear hK K
          try simp only [Act.put, List.getElem_toArray, List.getElem_cons_zero, List.getElem_cons_succ, List.setIfInBounds_toArray, List.set_cons_zero, List.set_cons_succ]
          go_wp2_with fail
          go_ret
          exact ⟨rfl, tb, cT, gb, cF, _, HZ.out⟩
end Go.Proofs.YtheolmnjedbjmaaGreatDoor

