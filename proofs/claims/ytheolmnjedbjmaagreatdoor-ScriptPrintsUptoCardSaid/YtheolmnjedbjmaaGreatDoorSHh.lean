import Derived.Test.YtheolmnjedbjmaaGreatDoorSHb
namespace Go.Proofs.YtheolmnjedbjmaaGreatDoor
open Go.RowKit
set_option linter.unusedVariables false
set_option linter.unusedSimpArgs false
attribute [local go_sem ↓] Go.wp_at_zero Go.wp_at_succ
theorem cell_bl {U V : World} (k : Bl U V) {b i : Nat} {v : Value} (h : U.cell? ⟨b, i, none⟩ = some v) : V.cell? ⟨b, i, none⟩ = some v := by
  have hlt : b < U.heap.size := World.block_lt_of_cell? U _ h
  rw [World.cell?_of_block (w := U) (k.block b hlt)]
  exact h
theorem flat7 : ∀ (L : List (List Value)) (h : ∀ x ∈ L, x.length = 7) (i f : Nat) (hi : i < L.length), f < 7 → L.flatten[i * 7 + f]? = (L[i])[f]?
  | [], _, i, f, hi, _ => by simp at hi
  | x :: L, h, 0, f, hi, hf => by
    rw [List.flatten_cons, Nat.zero_mul, Nat.zero_add, List.getElem?_append_left (by rw [h x (by simp)]; exact hf)]
    rfl
  | x :: L, h, i + 1, f, hi, hf => by
    have hx := h x (by simp)
    rw [List.flatten_cons, List.getElem?_append_right (by omega), hx, show (i + 1) * 7 + f - 7 = i * 7 + f by omega]
    exact flat7 L (fun y hy => h y (by simp [hy])) i f (by simpa using hi) hf
theorem flat7_len : ∀ (L : List (List Value)) (h : ∀ x ∈ L, x.length = 7), L.flatten.length = L.length * 7
  | [], _ => rfl
  | x :: L, h => by
    rw [List.flatten_cons, List.length_append, h x (by simp), flat7_len L (fun y hy => h y (by simp [hy])), List.length_cons]
    omega
/-- what can be read of what was handed in: any acts -/
structure HfN (U : World) (hb : Nat) (ws os : Int) (acts : List AQ) (ts : List (Nat × Nat)) (gb cF : Nat) (pN : Option Addr) (cN n : Nat) : Prop where
  h0 : U.cell? ⟨hb, 0, none⟩ = some (.int .i64 ws)
  h1 : U.cell? ⟨hb, 1, none⟩ = some (.int .i64 os)
  h2 : U.cell? ⟨hb, 2, none⟩ = some (.slice (some ⟨gb, 0, none⟩) n cF)
  h3 : U.cell? ⟨hb, 3, none⟩ = some (.slice (some ⟨gb, 0, none⟩) (n + 8) cF)
  h4 : U.cell? ⟨hb, 4, none⟩ = some (.slice pN n cN)
  act : ∀ (i : Nat) (hi : i < acts.length) (hi2 : i < ts.length), Aw U gb (i * 7) acts[i].1 (some ⟨ts[i].1, 0, none⟩) ts[i].2
  marks : ∀ i, n ≤ i → i < n + 8 → Aw U gb (i * 7) mark77 none 0
  nm : ∀ (i : Nat) (hi : i < acts.length) (hi2 : i < ts.length), ∃ nb, pN = some ⟨nb, 0, none⟩ ∧ U.cell? ⟨nb, i, none⟩ = some (.slice (some ⟨ts[i].1, 0, none⟩) (acts[i].1.names.length + 8) ts[i].2)
  tw : ∀ (i : Nat) (hi : i < acts.length) (hi2 : i < ts.length) (j : Nat) (hj : j < (acts[i].1.names ++ mark8).length), U.cell? ⟨ts[i].1, j, none⟩ = some (.string (acts[i].1.names ++ mark8)[j])
theorem HfN.bl {U V : World} {hb : Nat} {ws os : Int} {acts : List AQ} {ts : List (Nat × Nat)} {gb cF : Nat} {pN : Option Addr} {cN n : Nat} (h : HfN U hb ws os acts ts gb cF pN cN n) (k : Bl U V) : HfN V hb ws os acts ts gb cF pN cN n :=
  ⟨cell_bl k h.h0, cell_bl k h.h1, cell_bl k h.h2, cell_bl k h.h3, cell_bl k h.h4, fun i hi hi2 => (h.act i hi hi2).bl k, fun i h1 h2 => (h.marks i h1 h2).bl k, fun i hi hi2 => by
    obtain ⟨nb, e, hc⟩ := h.nm i hi hi2
    exact ⟨nb, e, cell_bl k hc⟩, fun i hi hi2 j hj => cell_bl k (h.tw i hi hi2 j hj)⟩
theorem Hn.hf {W w : World} {pb : Nat} {P : Array Value} {hb : Nat} {ws os : Int} {acts : List AQ} {ts : List (Nat × Nat)} {gb cF n : Nat} {vN : Value} (h : Hn W w pb P hb ws os acts ts (.slice (some ⟨gb, 0, none⟩) n cF) (.slice (some ⟨gb, 0, none⟩) (n + 8) cF) vN 8) (ht : ts.length = n) (hl : acts.length = n) : ∃ pN cN, vN = .slice pN n cN ∧ HfN w hb ws os acts ts gb cF pN cN n ∧ ∃ curF, w.heap[gb]? = some (.cells curF 40 (0, 0)) ∧ curF.size = cF * 7 ∧ n + 8 ≤ cF ∧ W.heap.size ≤ gb := by
  obtain ⟨pN, cN, rfl⟩ := own_slice h.nm
  obtain ⟨gb', cF', curF, e, hgb, hcF, hF1, -, hFs, hFc⟩ := own_cells h.fl (by omega)
  injection e with e1 e2 e3
  injection e1 with e1
  injection e1 with e1 e4
  subst e1 e3
  have hL : ∀ x ∈ List.zipWith (fun (x : AQ) t => acC x.1 t) acts ts, x.length = 7 := fun x hx => by
    obtain ⟨i, hi, rfl⟩ := List.getElem_of_mem hx
    rw [List.getElem_zipWith]
    rfl
  have hM : ∀ x ∈ List.replicate 8 (akC mark77 none 0).toList, x.length = 7 := fun x hx => by
    have := List.eq_of_mem_replicate hx
    rw [this]
    rfl
  have hzl : (List.zipWith (fun (x : AQ) t => acC x.1 t) acts ts).length = n := by rw [List.length_zipWith]; omega
  have hal : (actsN acts ts).length = n * 7 := by
    unfold actsN
    rw [flat7_len _ hL, hzl]
  rw [ht] at hF1
  refine ⟨pN, cN, by rw [ht], ⟨lit_in h.box 0 _ rfl, lit_in h.box 1 _ rfl, lit_in h.box 2 _ rfl, lit_in h.box 3 _ rfl, ?_, fun i hi hi2 => ⟨fun f v hv => ?_, fun j hj => ?_, lt_of_heap hcF⟩, fun i h1 h2 => ⟨fun f v hv => ?_, fun j hj => absurd hj (by simp [mark77]), lt_of_heap hcF⟩, fun i hi hi2 => ?_, fun i hi hi2 j hj => ?_⟩, curF, hcF, hFs, hF1, hgb⟩
  · rw [← ht]
    exact lit_in h.box 4 _ rfl
  · have hf7 : f < 7 := (Array.getElem?_eq_some_iff.1 hv).1
    refine lit_in hcF (i * 7 + f) _ (hFc (i * 7 + f) v ?_)
    rw [List.getElem?_append_left (by rw [hal]; omega)]
    unfold actsN
    rw [flat7 _ hL i f (by rw [hzl]; omega) hf7, List.getElem_zipWith]
    unfold acC
    rw [Array.getElem?_toList]
    exact hv
  · obtain ⟨tg, tcap, tcur, e, -, htc, -, -, -, hTc⟩ := own_cells (h.tw i hi2 hi) (by omega)
    injection e with e1
    injection e1 with e1
    injection e1 with e1 e4
    subst e1
    refine ⟨ts[i].1, 0, rfl, ?_⟩
    rw [Nat.zero_add]
    refine lit_in htc j _ (hTc j _ ?_)
    unfold strs
    rw [List.getElem?_map, List.getElem?_append_left hj, List.getElem?_eq_getElem hj]
    rfl
  · have hf7 : f < 7 := (Array.getElem?_eq_some_iff.1 hv).1
    refine lit_in hcF (i * 7 + f) _ (hFc (i * 7 + f) v ?_)
    rw [List.getElem?_append_right (by rw [hal]; omega), hal, show i * 7 + f - n * 7 = (i - n) * 7 + f by omega]
    unfold marksN
    rw [flat7 _ hM (i - n) f (by rw [List.length_replicate]; omega) hf7, List.getElem_replicate, Array.getElem?_toList]
    exact hv
  · obtain ⟨nb, ncap, ncur, e, -, hnc, -, -, -, hNc⟩ := own_cells h.nm (by omega)
    injection e with e1
    subst e1
    refine ⟨nb, rfl, lit_in hnc i _ (hNc i _ ?_)⟩
    unfold namesN
    rw [List.getElem?_eq_getElem (by rw [List.length_zipWith]; omega), List.getElem_zipWith]
    rfl
  · obtain ⟨tg, tcap, tcur, e, -, htc, -, -, -, hTc⟩ := own_cells (h.tw i hi2 hi) (by omega)
    injection e with e1
    injection e1 with e1
    injection e1 with e1 e4
    subst e1
    refine lit_in htc j _ (hTc j _ ?_)
    unfold strs
    rw [List.getElem?_map, List.getElem?_eq_getElem hj]
    rfl
set_option maxRecDepth 100000 in
set_option maxHeartbeats 16000000 in
theorem samePlayN_ok (W : World) (ws os : Int) (n c1 c2 : Nat) (p1 p2 : Option Addr) (acts : List AK) (hl : acts.length = n) (h1 : ∀ i (hi : i < acts.length), ∃ g1 o1 q1 k1, p1 = some ⟨g1, o1, none⟩ ∧ Aw W g1 (o1 + i * 7) acts[i] q1 k1) (h2 : ∀ i (hi : i < acts.length), ∃ g2 o2 q2 k2, p2 = some ⟨g2, o2, none⟩ ∧ Aw W g2 (o2 + i * 7) acts[i] q2 k2) (hz : ∀ a ∈ acts, a.names.length ≤ 1048576) (hn : n ≤ 1048576) : Calls Tryz.prog 14 #[.agg #[.int .i64 ws, .int .i64 os, .slice p1 n c1], .agg #[.int .i64 ws, .int .i64 os, .slice p2 n c2]] W fun e w' => e = .returned (.bool true) ∧ Bl W w' := by
  obtain ⟨W1, hW1⟩ : ∃ X, (W.alloc (.cells (plN ws os p1 n c1) 24)).alloc (.cells (plN ws os p2 n c2) 24) = X := ⟨_, rfl⟩
  have z0 : (W.alloc (.cells (plN ws os p1 n c1) 24)).heap.size = W.heap.size + 1 := by simp
  have b1 : Bl W W1 := by rw [← hW1]; exact (Bl.alloc _ _).trans (Bl.alloc _ _)
  have qp : W1.heap[W.heap.size]? = some (.cells (plN ws os p1 n c1) 24 (0, 0)) := by
    rw [← hW1]
    exact (Below.heap_alloc _ _ _ (by simp)).trans (heap_alloc_new W _)
  have qh : W1.heap[W.heap.size + 1]? = some (.cells (plN ws os p2 n c2) 24 (0, 0)) := by
    rw [← hW1, ← z0]
    exact heap_alloc_new _ _
  have r0 := lit_in qp 0 (.int .i64 ws) rfl
  have r1 := lit_in qp 1 (.int .i64 os) rfl
  have r2 := lit_in qp 2 (.slice p1 n c1) rfl
  have r3 := lit_in qh 0 (.int .i64 ws) rfl
  have r4 := lit_in qh 1 (.int .i64 os) rfl
  have r5 := lit_in qh 2 (.slice p2 n c2) rfl
  have HQ : Hid (∀ U, Bl W1 U → U.cell? ⟨W.heap.size, 2, none⟩ = some (.slice p1 n c1) ∧ U.cell? ⟨W.heap.size + 1, 2, none⟩ = some (.slice p2 n c2) ∧ Bl W U) := fun U hU => ⟨cell_bl hU r2, cell_bl hU r5, b1.trans hU⟩
  have H1 := mkHid h1
  have H2 := mkHid h2
  have HZ := mkHid hz
  clear h1 h2 hz qp qh z0 b1
  go_enter Tryz.func14, Tryz.ntmps14
  go_wp2_with fail
  go_loopw [5] (fun x wr => ∃ i : Nat, i ≤ n ∧ x = .int .i64 (i : Int) ∧ Hid (Bl W1 wr)) (fun x _ => n - (intOf x).toNat)
  case atStart => exact ⟨0, Nat.zero_le _, rfl, Bl.refl _⟩
  case round =>
    clear r0 r1 r2 r3 r4 r5
    obtain ⟨i, hi, rfl, hst⟩ := hrel
    have i0 : (0 : Int) ≤ (i : Int) := by omega
    obtain ⟨wo, rfl⟩ : ∃ V, V = wr := ⟨wr, rfl⟩
    obtain ⟨e2, e5, bW⟩ := HQ.out _ hst.out
    by_cases hlt : i < n
    · have i1 : (i : Int) < (n : Int) := by omega
      obtain ⟨g1, o1, q1, k1, rfl, x1⟩ := H1.out i (by omega)
      obtain ⟨g2, o2, q2, k2, rfl, x2⟩ := H2.out i (by omega)
      have hzz := HZ.out acts[i] (List.getElem_mem (by omega))
      obtain ⟨a, ha⟩ : ∃ a, acts[i]'(by omega) = a := ⟨_, rfl⟩
      rw [ha] at x1 x2 hzz
      have HS : Hid (∀ U, Bl wo U → U.cell? ⟨W.heap.size, 2, none⟩ = some (.slice (some ⟨g1, o1, none⟩) n c1) ∧ U.cell? ⟨W.heap.size + 1, 2, none⟩ = some (.slice (some ⟨g2, o2, none⟩) n c2) ∧ U.cell? ⟨g1, o1 + i * 7, none⟩ = some (.int .i64 a.kind) ∧ U.cell? ⟨g1, o1 + i * 7 + 1, none⟩ = some (.string a.name) ∧ U.cell? ⟨g1, o1 + i * 7 + 2, none⟩ = some (.string a.other) ∧ U.cell? ⟨g1, o1 + i * 7 + 3, none⟩ = some (.slice q1 a.names.length k1) ∧ U.cell? ⟨g1, o1 + i * 7 + 4, none⟩ = some (.string a.text) ∧ U.cell? ⟨g1, o1 + i * 7 + 5, none⟩ = some (.int .i64 a.num) ∧ U.cell? ⟨g1, o1 + i * 7 + 6, none⟩ = some (.int .i64 a.fuel) ∧ U.cell? ⟨g2, o2 + i * 7, none⟩ = some (.int .i64 a.kind) ∧ U.cell? ⟨g2, o2 + i * 7 + 1, none⟩ = some (.string a.name) ∧ U.cell? ⟨g2, o2 + i * 7 + 2, none⟩ = some (.string a.other) ∧ U.cell? ⟨g2, o2 + i * 7 + 3, none⟩ = some (.slice q2 a.names.length k2) ∧ U.cell? ⟨g2, o2 + i * 7 + 4, none⟩ = some (.string a.text) ∧ U.cell? ⟨g2, o2 + i * 7 + 5, none⟩ = some (.int .i64 a.num) ∧ U.cell? ⟨g2, o2 + i * 7 + 6, none⟩ = some (.int .i64 a.fuel)) := fun U hU => by
        have x := x1.bl (bW.trans hU)
        have y := x2.bl (bW.trans hU)
        exact ⟨cell_bl hU e2, cell_bl hU e5, x.cells 0 _ rfl, x.cells 1 _ rfl, x.cells 2 _ rfl, x.cells 3 _ rfl, x.cells 4 _ rfl, x.cells 5 _ rfl, x.cells 6 _ rfl, y.cells 0 _ rfl, y.cells 1 _ rfl, y.cells 2 _ rfl, y.cells 3 _ rfl, y.cells 4 _ rfl, y.cells 5 _ rfl, y.cells 6 _ rfl⟩
      have HC : Hid (Calls Tryz.prog 29 #[.agg #[.int .i64 a.kind, .string a.name, .string a.other, .slice q1 a.names.length k1, .string a.text, .int .i64 a.num, .int .i64 a.fuel], .agg #[.int .i64 a.kind, .string a.name, .string a.other, .slice q2 a.names.length k2, .string a.text, .int .i64 a.num, .int .i64 a.fuel]] wo.drew fun e w' => e = .returned (.bool true) ∧ Bl wo.drew w') := by
        refine (same_ok wo.drew a a q1 q2 k1 k2 ((x1.bl (bW.trans (bl_drew wo))).names) ((x2.bl (bW.trans (bl_drew wo))).names) (by omega) (by omega)).mono ?_
        rintro e w' ⟨rfl, h⟩
        exact ⟨by rw [decide_eq_true rfl], h⟩
      have HBd : Hid (∀ V, Bl wo V → Bl W1 V) := fun V k => hst.out.trans k
      clear x1 x2 hst ha
      go_upto_region 6 with fail
      refine wp_region_held_drew (S := fun U => U.cell? ⟨W.heap.size, 2, none⟩ = some (.slice (some ⟨g1, o1, none⟩) n c1) ∧ U.cell? ⟨W.heap.size + 1, 2, none⟩ = some (.slice (some ⟨g2, o2, none⟩) n c2) ∧ U.cell? ⟨g1, o1 + i * 7, none⟩ = some (.int .i64 a.kind) ∧ U.cell? ⟨g1, o1 + i * 7 + 1, none⟩ = some (.string a.name) ∧ U.cell? ⟨g1, o1 + i * 7 + 2, none⟩ = some (.string a.other) ∧ U.cell? ⟨g1, o1 + i * 7 + 3, none⟩ = some (.slice q1 a.names.length k1) ∧ U.cell? ⟨g1, o1 + i * 7 + 4, none⟩ = some (.string a.text) ∧ U.cell? ⟨g1, o1 + i * 7 + 5, none⟩ = some (.int .i64 a.num) ∧ U.cell? ⟨g1, o1 + i * 7 + 6, none⟩ = some (.int .i64 a.fuel) ∧ U.cell? ⟨g2, o2 + i * 7, none⟩ = some (.int .i64 a.kind) ∧ U.cell? ⟨g2, o2 + i * 7 + 1, none⟩ = some (.string a.name) ∧ U.cell? ⟨g2, o2 + i * 7 + 2, none⟩ = some (.string a.other) ∧ U.cell? ⟨g2, o2 + i * 7 + 3, none⟩ = some (.slice q2 a.names.length k2) ∧ U.cell? ⟨g2, o2 + i * 7 + 4, none⟩ = some (.string a.text) ∧ U.cell? ⟨g2, o2 + i * 7 + 5, none⟩ = some (.int .i64 a.num) ∧ U.cell? ⟨g2, o2 + i * 7 + 6, none⟩ = some (.int .i64 a.fuel)) (by kernel_rfl) (HS.out _ (bl_drew wo)) (fun hHeld => ?_)
      refine wpAnyH_take (i := 0) (v := ?_) rfl (by kernel_rfl) (by kernel_rfl) (by kernel_rfl) (fun _ _ _ h => h) (Or.inl ⟨by rfl, ?_⟩) (by assumption) ?_
      rotate_left
      · (intro w hSw; (try dsimp only at hSw); (try go_split_ands); first | (go_simp; done) | (go_simp; with_reducible rfl))
      try simp only [Act.put, List.getElem_toArray, List.getElem_cons_zero, List.getElem_cons_succ, List.setIfInBounds_toArray, List.set_cons_zero, List.set_cons_succ]
      refine wpAnyH_take (i := 1) (v := ?_) rfl (by kernel_rfl) (by kernel_rfl) (by kernel_rfl) (fun _ _ _ h => h) (Or.inl ⟨by rfl, ?_⟩) (by assumption) ?_
      rotate_left
      · (intro w hSw; (try dsimp only at hSw); (try go_split_ands); first | (go_simp; done) | (go_simp; with_reducible rfl))
      try simp only [Act.put, List.getElem_toArray, List.getElem_cons_zero, List.getElem_cons_succ, List.setIfInBounds_toArray, List.set_cons_zero, List.set_cons_succ]
      refine wpAnyH_take (i := 2) (v := ?_) rfl (by kernel_rfl) (by kernel_rfl) (by kernel_rfl) (fun _ _ _ h => h) (Or.inl ⟨by rfl, ?_⟩) (by assumption) ?_
      rotate_left
      · (intro w hSw; (try dsimp only at hSw); (try go_split_ands); first | (go_simp; done) | (go_simp; with_reducible rfl))
      try simp only [Act.put, List.getElem_toArray, List.getElem_cons_zero, List.getElem_cons_succ, List.setIfInBounds_toArray, List.set_cons_zero, List.set_cons_succ]
      refine wpAnyH_take (i := 3) (v := ?_) rfl (by kernel_rfl) (by kernel_rfl) (by kernel_rfl) (fun _ _ _ h => h) (Or.inl ⟨by rfl, ?_⟩) (by assumption) ?_
      rotate_left
      · (intro w hSw; (try dsimp only at hSw); (try go_split_ands); first | (go_simp; done) | (go_simp; with_reducible rfl))
      try simp only [Act.put, List.getElem_toArray, List.getElem_cons_zero, List.getElem_cons_succ, List.setIfInBounds_toArray, List.set_cons_zero, List.set_cons_succ]
      refine wpAnyH_take (i := 4) (v := ?_) rfl (by kernel_rfl) (by kernel_rfl) (by kernel_rfl) (fun _ _ _ h => h) (Or.inl ⟨by rfl, ?_⟩) (by assumption) ?_
      rotate_left
      · (intro w hSw; (try dsimp only at hSw); (try go_split_ands); first | (go_simp; done) | (go_simp; with_reducible rfl))
      try simp only [Act.put, List.getElem_toArray, List.getElem_cons_zero, List.getElem_cons_succ, List.setIfInBounds_toArray, List.set_cons_zero, List.set_cons_succ]
      refine wpAnyH_take (i := 5) (v := ?_) rfl (by kernel_rfl) (by kernel_rfl) (by kernel_rfl) (fun _ _ _ h => h) (Or.inl ⟨by rfl, ?_⟩) (by assumption) ?_
      rotate_left
      · (intro w hSw; (try dsimp only at hSw); (try go_split_ands); first | (go_simp; done) | (go_simp; with_reducible rfl))
      try simp only [Act.put, List.getElem_toArray, List.getElem_cons_zero, List.getElem_cons_succ, List.setIfInBounds_toArray, List.set_cons_zero, List.set_cons_succ]
      refine wpAnyH_take (i := 6) (v := ?_) rfl (by kernel_rfl) (by kernel_rfl) (by kernel_rfl) (fun _ _ _ h => h) (Or.inl ⟨by rfl, ?_⟩) (by assumption) ?_
      rotate_left
      · (intro w hSw; (try dsimp only at hSw); (try go_split_ands); first | (go_simp; done) | (go_simp; with_reducible rfl))
      try simp only [Act.put, List.getElem_toArray, List.getElem_cons_zero, List.getElem_cons_succ, List.setIfInBounds_toArray, List.set_cons_zero, List.set_cons_succ]
      refine wpAnyH_take (i := 7) (v := ?_) rfl (by kernel_rfl) (by kernel_rfl) (by kernel_rfl) (fun _ _ _ h => h) (Or.inl ⟨by rfl, ?_⟩) (by assumption) ?_
      rotate_left
      · (intro w hSw; (try dsimp only at hSw); (try go_split_ands); first | (go_simp; done) | (go_simp; with_reducible rfl))
      try simp only [Act.put, List.getElem_toArray, List.getElem_cons_zero, List.getElem_cons_succ, List.setIfInBounds_toArray, List.set_cons_zero, List.set_cons_succ]
      refine wpAnyH_take (i := 8) (v := ?_) rfl (by kernel_rfl) (by kernel_rfl) (by kernel_rfl) (fun _ _ _ h => h) (Or.inl ⟨by rfl, ?_⟩) (by assumption) ?_
      rotate_left
      · (intro w hSw; (try dsimp only at hSw); (try go_split_ands); first | (go_simp; done) | (go_simp; with_reducible rfl))
      try simp only [Act.put, List.getElem_toArray, List.getElem_cons_zero, List.getElem_cons_succ, List.setIfInBounds_toArray, List.set_cons_zero, List.set_cons_succ]
      refine wpAnyH_take (i := 9) (v := ?_) rfl (by kernel_rfl) (by kernel_rfl) (by kernel_rfl) (fun _ _ _ h => h) (Or.inl ⟨by rfl, ?_⟩) (by assumption) ?_
      rotate_left
      · (intro w hSw; (try dsimp only at hSw); (try go_split_ands); first | (go_simp; done) | (go_simp; with_reducible rfl))
      try simp only [Act.put, List.getElem_toArray, List.getElem_cons_zero, List.getElem_cons_succ, List.setIfInBounds_toArray, List.set_cons_zero, List.set_cons_succ]
      refine oneH (i := 10) (by kernel_rfl) rfl (fun K hK => ?_)
      refine stepE (by rfl) 29 Tryz.f29 Tryz.func29 (by kernel_rfl) (by kernel_rfl) _ _ rfl _ (by first | (simp [Act.eval]; done) | (simp [Act.eval]; rfl)) _ (HC.out.mono (fun e w1 h => And.intro h.1 (mkHid ((bl_drew wo).trans h.2)))) ?_
      rintro _ w1 ⟨rfl, hg1⟩
      refine hK.out _ _ (HS.out _ hg1.out) (fun hHeld => ?_)
      clear hK K
      try simp only [Act.put, List.getElem_toArray, List.getElem_cons_zero, List.getElem_cons_succ, List.setIfInBounds_toArray, List.set_cons_zero, List.set_cons_succ]
      refine wpAnyH_take (i := 11) (v := ?_) rfl (by kernel_rfl) (by kernel_rfl) (by kernel_rfl) (fun _ _ _ h => h) (Or.inl ⟨by rfl, ?_⟩) (by assumption) ?_
      rotate_left
      · (intro w hSw; (try dsimp only at hSw); (try go_split_ands); first | (go_simp; done) | (go_simp; with_reducible rfl))
      try simp only [Act.put, List.getElem_toArray, List.getElem_cons_zero, List.getElem_cons_succ, List.setIfInBounds_toArray, List.set_cons_zero, List.set_cons_succ]
      refine wpAnyH_done (by kernel_rfl) ?_ _
      go_wp2_with fail
      go_roundw
      case rel => exact ⟨i + 1, by omega, by go_num, HBd.out _ hg1.out⟩
      case measure => simp [intOf]; omega
    · have hie : i = n := by omega
      subst hie
      have HB := mkHid bW
      clear hst bW
      go_wp2_with fail
      go_ret
      exact ⟨rfl, HB.out⟩
end Go.Proofs.YtheolmnjedbjmaaGreatDoor
