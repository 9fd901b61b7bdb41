import Derived.Test.YtklfnjlenbgmoaaDoorAHStepD
namespace Go.Proofs.YtklfnjlenbgmoaaDoor
open Go.RowKit
set_option linter.unusedVariables false
attribute [local go_sem ↓] Go.wp_at_zero Go.wp_at_succ
theorem th_cells {w : World} {m : Nat} {M : MS} {g : Nat} (h : MRep w m M) (hg : M.pt = some ⟨g, 0, none⟩) (k : Nat) (hk : k < M.things.length) :
    w.cell? ⟨g, k * 5, none⟩ = some (.bool (M.things.getD k noTh).there) ∧ w.cell? ⟨g, k * 5 + 1, none⟩ = some (.int .i64 (M.things.getD k noTh).cls) ∧ w.cell? ⟨g, k * 5 + 2, none⟩ = some (.int .i64 ((M.things.getD k noTh).fmt : Int)) ∧
    w.cell? ⟨g, k * 5 + 3, none⟩ = some (.int .i64 ((M.things.getD k noTh).place : Int)) ∧ w.cell? ⟨g, k * 5 + 4, none⟩ = some (.slice (M.things.getD k noTh).p (M.things.getD k noTh).slots.length (M.things.getD k noTh).c) := by
  obtain ⟨g', hg', hc, _, _⟩ := h.thAt (by omega)
  rw [hg] at hg'
  injection hg' with e
  injection e with e _ _
  subst e
  exact hc k hk
theorem row_th {w : World} {S : List Th} {g c : Nat} (h : w.ownsRow 0 119 5 (.slice (some ⟨g, 0, none⟩) S.length c) S.length (thCells S)) (k : Nat) (hk : k < S.length) :
    w.cell? ⟨g, k * 5, none⟩ = some (.bool (S.getD k noTh).there) ∧ w.cell? ⟨g, k * 5 + 1, none⟩ = some (.int .i64 (S.getD k noTh).cls) ∧ w.cell? ⟨g, k * 5 + 2, none⟩ = some (.int .i64 ((S.getD k noTh).fmt : Int)) ∧
    w.cell? ⟨g, k * 5 + 3, none⟩ = some (.int .i64 ((S.getD k noTh).place : Int)) ∧ w.cell? ⟨g, k * 5 + 4, none⟩ = some (.slice (S.getD k noTh).p (S.getD k noTh).slots.length (S.getD k noTh).c) := by
  obtain ⟨a0, a1, a2, a3, a4⟩ := thCells_at S k hk
  rw [h.cellAt _ (by omega), h.cellAt _ (by omega), h.cellAt _ (by omega), h.cellAt _ (by omega), h.cellAt _ (by omega)]
  exact ⟨a0, a1, a2, a3, a4⟩
theorem row_frozen {w : World} {S : List Th} {g c : Nat} (h : w.ownsRow 0 119 5 (.slice (some ⟨g, 0, none⟩) S.length c) S.length (thCells S)) (hk : 0 < S.length) (o : Nat) : w.frozen? ⟨g, o, none⟩ = false := by
  obtain ⟨cur, hcur⟩ := own_blk h g (by simp [blk])
  exact frozen_in hcur o
theorem Eqw.trans {w w' w'' : World} (h : Eqw w w') (k : Eqw w' w'') : Eqw w w'' := ⟨k.1.trans h.1, k.2.1.trans h.2.1, k.2.2.1.trans h.2.2.1, k.2.2.2.trans h.2.2.2⟩
theorem Eqw.set {w w' : World} (h : Eqw w w') (p : Addr) (v : Value) : Eqw (w.setCell p v) (w'.setCell p v) := by
  obtain ⟨h1, h2, h3, h4⟩ := h
  refine ⟨h1, h2, h3, ?_⟩
  simp only [World.setCell, h4]
theorem Eqw.setTh {w w' : World} (h : Eqw w w') (g q : Nat) (t : Th) : Eqw (setTh w g q t) (setTh w' g q t) := by
  unfold Go.Proofs.YtklfnjlenbgmoaaDoor.setTh
  exact ((((h.set _ _).set _ _).set _ _).set _ _).set _ _
theorem Exch_inv (x y : Nat) (a : Nat) (l : Lay) (H : HS) (M : MS) (w : World) (h : Rep w a l H) (hi : Inv H M) (hx : x < M.things.length) (hy : y < M.things.length) (bx : (M.things.getD x noTh).there = true) (by_ : (M.things.getD y noTh).there = true) (hage : (H.age : Int) ≤ 1000000000) :
    Calls Tryd.prog 46 #[.pointer (some ⟨a, 0, none⟩), .int .i64 ((x : Int) + 1), .int .i64 ((y : Int) + 1)] w fun e w' => e = .returned (.int .i64 0) ∧ Rep w' a l (exchH H (x + 1) (y + 1)) ∧ Nx a l l w w' := by
  obtain ⟨a1, a2, a3⟩ := has_yes (hi.is x hx bx).has
  obtain ⟨b1, b2, b3⟩ := has_yes (hi.is y hy by_).has
  obtain ⟨t1, t2⟩ := hi.turn x hx bx
  obtain ⟨u1, u2⟩ := hi.turn y hy by_
  have ho := hi.safe.order
  rw [show (x : Int) + 1 = ((x + 1 : Nat) : Int) from by omega, show (y : Int) + 1 = ((y + 1 : Nat) : Int) from by omega]
  by_cases e : x = y
  · subst e
    exact Exchange_same (x + 1) a l H w h a1 a2 a3 t1 hi.safe.seats (by omega) hage
  · exact Exchange_ok (x + 1) (y + 1) a l H w h a1 a2 a3 b1 b2 b3 (by omega) t1 u1 (fun e2 => by rw [e2, u2] at t2; omega) hi.safe.seats (by omega) hage
set_option maxRecDepth 20000 in
set_option maxHeartbeats 4000000 in
theorem step_exch_in (O C X : Int) (x y : Nat) (ls : Value) (D : List Nat) (w0 : World) (a m : Nat) (W : World) (l : Lay) (H : HS) (M : MS) (hS : Side D w0 a m W l H M) (hi : Inv H M) (hx : x < M.things.length) (hy : y < M.things.length) (bx : (M.things.getD x noTh).there = true) (by_ : (M.things.getD y noTh).there = true) (hage : (H.age : Int) ≤ 1000000000) :
    Calls Tryd.prog 25 #[.pointer (some ⟨m, 0, none⟩), .pointer (some ⟨a, 0, none⟩), stepV 8 O ((x : Int) + 1) ((y : Int) + 1) C X ls] W fun e w' => e = .returned (.bool true) ∧ Went D w0 a m H { M with things := (M.things.set x (M.things.getD y noTh)).set y (M.things.getD x noTh) } w' := by
  generalize hN : ({ M with things := (M.things.set x (M.things.getD y noTh)).set y (M.things.getD x noTh) } : MS) = N
  have hA1 := hS.box (stepO 8 O ((x : Int) + 1) ((y : Int) + 1) C X ls)
  have hlen := hi.model.len
  have HF := mkHid (Exch_inv x y a l H M _ hA1.side.rep hi hx hy bx by_ hage)
  have HA := mkHid hA1
  have HI := mkHid hi
  have HV := mkHid (hi.exch x y hx hy bx by_)
  obtain ⟨W1, hW1⟩ : ∃ W1, W1 = W.alloc (stepO 8 O ((x : Int) + 1) ((y : Int) + 1) C X ls) := ⟨_, rfl⟩
  rw [← hW1] at HF HA
  unfold stepV
  unfold stepO at hW1
  clear hS hi hA1
  go_enter Tryd.func25, Tryd.ntmps25
  go_wp2_with fail
  rw [← hW1]
  refine Calls.mono HF.out ?_
  rintro e w2 ⟨rfl, hr2, hx2⟩
  have hA2 := HA.out.heap hr2 hx2
  obtain ⟨q2, q3, -, -⟩ := stepO_cells hA2.box
  have HHas := has_ok ((x : Int) + 1) m M w2 hA2.side.mrep HI.out.model.len
  rw [mhas_of x hx bx] at HHas
  have HH := mkHid HHas
  have HHas2 := has_ok ((y : Int) + 1) m M w2 hA2.side.mrep HI.out.model.len
  rw [mhas_of y hy by_] at HHas2
  have HH2 := mkHid HHas2
  have hmr := hA2.side.mrep
  obtain ⟨g, hg, hc, hf, hgl⟩ := hmr.thAt (by omega)
  obtain ⟨x0, x1, x2, x3, x4⟩ := th_cells hmr hg x hx
  have c3 := hmr.c3
  rw [hg] at c3
  have k1 : (0 : Int) ≤ (x : Int) := by omega
  have k2 : (x : Int) < (M.things.length : Int) := by omega
  have k3 : (0 : Int) ≤ (y : Int) := by omega
  have k4 : (y : Int) < (M.things.length : Int) := by omega
  have wx : IntKind.i64.wrap ((x : Int) + 1 - 1) = (x : Int) := by rw [iwrap]; unfold wrap64; omega
  have wy : IntKind.i64.wrap ((y : Int) + 1 - 1) = (y : Int) := by rw [iwrap]; unfold wrap64; omega
  have HG := mkHid hg
  have HA2 := mkHid hA2
  have hWl := lt_of_heap hA2.box
  have hml := hmr.lt m (by simp [mfoot])
  clear hr2 hx2 hA2 HHas HHas2 hmr hc hf hg HF
  have HE : Hid (∀ V1 V2 V, Fr [] w2 V1 → Eqw (setTh V1 g x (M.things.getD y noTh)) V2 → Eqw (setTh V2 g y (M.things.getD x noTh)) V → Went D w0 a m H N V) := by
    intro V1 V2 V hV1 hV2 hV
    have hA3 := HA2.out.idle hV1
    have hgm : g ∈ mfoot m M := by simp [mfoot, HG.out, blk]
    refine ⟨l, _, { M with things := (M.things.set x (M.things.getD y noTh)).set y (M.things.getD x noTh) }, (hA3.side.model (hA3.side.mrep.swap HG.out x y hx hy) ((setTh_fr _ g x _ _ hgm).trans (setTh_fr _ g y _ _ hgm) (fun b hb => .inl hb)) (fun b hb => .inl (mfoot_swap x y hx hy b hb))).eqw ((hV2.setTh g y _).trans hV), HV.out, Nat.le_refl _, by rw [← hN]; exact Lk.refl _⟩
  have HRow : Hid (∀ V1, Fr [] w2 V1 → V1.ownsRow 0 119 5 (.slice (some ⟨g, 0, none⟩) M.things.length M.ct) M.things.length (thCells M.things)) := by
    intro V1 hV1
    have := (HA2.out.idle hV1).side.mrep.row
    rw [HG.out] at this
    exact this
  have hgy : Hid ((M.things.set x (M.things.getD y noTh)).getD y noTh = M.things.getD y noTh) := by
    unfold Hid
    rw [getD_set _ _ _ _ hx]
    split <;> rfl
  have hd1 : g ≠ W.heap.size := fun e => HA2.out.nm (by rw [← e]; simp [mfoot, HG.out, blk])
  have hd2 : g ≠ m := (HA2.out.side.mrep.pt_ne HG.out).1
  have hd3 : g ≠ w2.heap.size := by omega
  go_wp2_with fail
  refine Calls.mono HH.out ?_
  rintro e w1 ⟨rfl, hw1⟩
  rw [hw1]
  clear hw1 w1
  go_wp2_with fail
  refine Calls.mono HH2.out ?_
  rintro e w1 ⟨rfl, hw1⟩
  rw [hw1]
  clear hw1 w1
  go_wp2_with fail
  clear HH HH2 HV HI
  have HSl : Hid ((M.things.set x (M.things.getD y noTh)).length = M.things.length) := by unfold Hid; rw [List.length_set]
  generalize hty : M.things.getD y noTh = ty at *
  generalize htx : M.things.getD x noTh = tx at *
  obtain ⟨th, tcl, fm, pl, sl, tp, tc⟩ := tx
  obtain ⟨th', tcl', fm', pl', sl', tp', tc'⟩ := ty
  dsimp only at *
  subst bx
  subst by_
  go_region
  all_goals go_wp2_with fail
  obtain ⟨V1, hV1⟩ : ∃ V1, V1 = (w2.alloc (Obj.cells #[.bool true, .int .i64 tcl, .int .i64 (fm : Int), .int .i64 (pl : Int), .slice tp sl.length tc] 119)).drew := ⟨_, rfl⟩
  rw [← hV1]
  have F1 : Fr [] w2 V1 := by rw [hV1]; exact (Fr.alloc [] _ _).trans (Fr.drew [] _) (by simp)
  have hB1 : V1.heap[w2.heap.size]? = some (.cells #[.bool true, .int .i64 tcl, .int .i64 (fm : Int), .int .i64 (pl : Int), .slice tp sl.length tc] 119 (0, 0)) := by rw [hV1]; exact heap_alloc_new _ _
  have hA3 := HA2.out.idle F1
  have d3 := (F1.cell (p := ⟨m, 3, none⟩) hml (by simp)).trans c3
  obtain ⟨e2, e3, -, -⟩ := stepO_cells hA3.box
  obtain ⟨y0, y1, y2, y3, y4⟩ := row_th (HRow.out V1 F1) y hy
  rw [hty] at y0 y1 y2 y3 y4
  obtain ⟨x0', x1', x2', x3', x4'⟩ := row_th (HRow.out V1 F1) x hx
  rw [htx] at x0' x1' x2' x3' x4'
  have fx := row_frozen (HRow.out V1 F1) (by omega)
  have f0 := fx (x * 5)
  have f1 := fx (x * 5 + 1)
  have f2 := fx (x * 5 + 2)
  have f3 := fx (x * 5 + 3)
  have f4 := fx (x * 5 + 4)
  dsimp only at *
  have HF1 := mkHid F1
  have HB1 := mkHid hB1
  have HA3 := mkHid hA3
  have HRow1 := mkHid (HRow.out V1 F1)
  clear F1 hA3 fx hB1 x0 x1 x2 x3 x4 c3 q2 q3 HRow
  clear hV1
  go_region
  all_goals go_wp2_with fail
  obtain ⟨V2, hV2⟩ : ∃ V2, V2 = (setTh V1 g x ⟨true, tcl', fm', pl', sl', tp', tc'⟩).drew := ⟨_, rfl⟩
  have E2 : Eqw (setTh V1 g x ⟨true, tcl', fm', pl', sl', tp', tc'⟩) V2 := by rw [hV2]; exact eqw_drew _
  unfold setTh at hV2
  dsimp only at hV2
  rw [← hV2]
  have hel : ∀ o, o ≠ g → V2.heap[o]? = V1.heap[o]? := fun o ho => by rw [E2.2.2.2, setTh_else ho]
  have g3 : V2.cell? ⟨m, 3, none⟩ = some (.slice (some ⟨g, 0, none⟩) M.things.length M.ct) := (World.cell?_of_block (w := V1) (hel m (fun e => hd2 e.symm))).trans d3
  have g4 : V2.cell? ⟨W.heap.size, 3, none⟩ = some (.int .i64 ((y : Int) + 1)) := (World.cell?_of_block (w := V1) (hel _ (fun e => hd1 e.symm))).trans e3
  have hB2 := (hel w2.heap.size (fun e => hd3 e.symm)).trans HB1.out
  have b0 := cell_in hB2 0
  have b1 := cell_in hB2 1
  have b2 := cell_in hB2 2
  have b3 := cell_in hB2 3
  have b4 := cell_in hB2 4
  simp only [List.getElem?_toArray, List.getElem?_cons_succ, List.getElem?_cons_zero] at b0 b1 b2 b3 b4
  have hrow2 : V2.ownsRow 0 119 5 (.slice (some ⟨g, 0, none⟩) (M.things.set x ⟨true, tcl', fm', pl', sl', tp', tc'⟩).length M.ct) (M.things.set x ⟨true, tcl', fm', pl', sl', tp', tc'⟩).length (thCells (M.things.set x ⟨true, tcl', fm', pl', sl', tp', tc'⟩)) := by
    rw [HSl.out]
    exact own_congr (setTh_row HRow1.out hx) (fun b _ => by rw [E2.2.2.2])
  obtain ⟨v0, v1, v2, v3, v4⟩ := row_th hrow2 y (by rw [HSl.out]; exact hy)
  rw [hgy.out] at v0 v1 v2 v3 v4
  have fy := row_frozen hrow2 (by rw [HSl.out]; omega)
  have f0' := fy (y * 5)
  have f1' := fy (y * 5 + 1)
  have f2' := fy (y * 5 + 2)
  have f3' := fy (y * 5 + 3)
  have f4' := fy (y * 5 + 4)
  dsimp only at *
  have HE2 := mkHid E2
  clear E2 hV2 fy hrow2 hB2 hel f0 f1 f2 f3 f4 x0' x1' x2' x3' x4' y0 y1 y2 y3 y4 d3 e2 e3
  go_region
  all_goals go_wp2_with (go_at_call 11; refine (num_any _ _ (by omega) (by omega)).mono ?_; rintro e w1 ⟨rfl, rfl⟩)
  go_ret
  exact ⟨rfl, HE.out V1 V2 _ HF1.out HE2.out ⟨rfl, rfl, rfl, rfl⟩⟩
end Go.Proofs.YtklfnjlenbgmoaaDoor
