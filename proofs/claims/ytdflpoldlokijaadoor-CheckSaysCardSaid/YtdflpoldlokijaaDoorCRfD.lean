import Derived.Test.YtdflpoldlokijaaDoorCRfC
namespace Go.Proofs.YtdflpoldlokijaaDoor
open Go.RowKit
set_option linter.unusedVariables false
set_option linter.unusedSimpArgs false
attribute [local go_sem ↓] Go.wp_at_zero Go.wp_at_succ
theorem hid_drv {a b : World} (h : Hid (Fr [] a b)) : Hid (Fr [] a b.drew) := h.out.tr0 (Fr.drew [] b)
theorem kind_pos2 (o : Nat) (h1 : 1 ≤ o) (h2 : o ≤ 28) : 1 ≤ (shp o).kind ∧ (shp o).kind ≤ 7 := by
  rcases (show o = 1 ∨ o = 2 ∨ o = 3 ∨ o = 4 ∨ o = 5 ∨ o = 6 ∨ o = 7 ∨ o = 8 ∨ o = 9 ∨ o = 10 ∨ o = 11 ∨ o = 12 ∨ o = 13 ∨ o = 14 ∨ o = 15 ∨ o = 16 ∨ o = 17 ∨ o = 18 ∨ o = 19 ∨ o = 20 ∨ o = 21 ∨ o = 22 ∨ o = 23 ∨ o = 24 ∨ o = 25 ∨ o = 26 ∨ o = 27 ∨ o = 28 by omega) with rfl | rfl | rfl | rfl | rfl | rfl | rfl | rfl | rfl | rfl | rfl | rfl | rfl | rfl | rfl | rfl | rfl | rfl | rfl | rfl | rfl | rfl | rfl | rfl | rfl | rfl | rfl | rfl <;> decide
theorem kind_two (o : Nat) (h1 : 1 ≤ o) (h2 : o ≤ 28) : (shp o).kind = 2 → o = 19 := by
  rcases (show o = 1 ∨ o = 2 ∨ o = 3 ∨ o = 4 ∨ o = 5 ∨ o = 6 ∨ o = 7 ∨ o = 8 ∨ o = 9 ∨ o = 10 ∨ o = 11 ∨ o = 12 ∨ o = 13 ∨ o = 14 ∨ o = 15 ∨ o = 16 ∨ o = 17 ∨ o = 18 ∨ o = 19 ∨ o = 20 ∨ o = 21 ∨ o = 22 ∨ o = 23 ∨ o = 24 ∨ o = 25 ∨ o = 26 ∨ o = 27 ∨ o = 28 by omega) with rfl | rfl | rfl | rfl | rfl | rfl | rfl | rfl | rfl | rfl | rfl | rfl | rfl | rfl | rfl | rfl | rfl | rfl | rfl | rfl | rfl | rfl | rfl | rfl | rfl | rfl | rfl | rfl <;> decide
/-- what going on from an instruction leaves -/
def GoP (w : World) (B x v : Nat) (F : WFx) (bs : List Bd) (pb : Option Addr) (cb : Nat) (rs : List Ri) (pr : Option Addr) (cr el : Nat) (l : List Pl) (V : RV) (pd : Option Addr) (cd : Nat) (y : Nat) (e : Ending) (w' : World) : Prop :=
  Fr (x :: v :: blk pd) w w' ∧ ((endsP l y ∧ e = .returned (.bool false) ∧ WR w' B x F bs pb cb rs pr cr el 114 ∧ ∃ m' c', VW w' B v (dsOf l V.dep) pd cd m' c') ∨ (¬ endsP l y ∧ e = .returned (.bool (goesV l V y).2) ∧ WR w' B x F bs pb cb rs pr cr el 0 ∧ VW w' B v (dsOf l (goesV l V y).1.dep) pd cd (goesV l V y).1.most (goesV l V y).1.clash))
section
variable {w : World} {B x v : Nat} {F : WFx} {bs : List Bd} {pb : Option Addr} {cb : Nat} {rs : List Ri} {pr : Option Addr} {cr : Nat} {el : Nat} {l : List Pl} {V : RV} {pd : Option Addr} {cd : Nat}
set_option maxRecDepth 100000 in
set_option maxHeartbeats 16000000 in
theorem goes_ok (h : WR w B x F bs pb cb rs pr cr el 0) (hv : VW w B v (dsOf l V.dep) pd cd V.most V.clash) (hB : B ≤ w.heap.size) (hn : l.length ≤ 4096) (hj : RJ l rs) (hl : PlOk l) (hvl : V.dep.length = l.length) (hbs : bs.length ≤ 100000)
    (hbe : ∀ (b : Nat) (u : Bd), bs[b]? = some u → u.b < l.length → (plD l u.b).body = b + 1) (hbx : ∀ y, y < l.length → (plD l y).body ≠ 0 → (plD l y).op = 19 → ∃ (b : Nat) (u : Bd), bs[b]? = some u ∧ u.b = (plD l y).fin ∧ u.ar + 1 = ((plD l y).body : Int))
    (hjb : ∀ y, y < l.length → (plD l y).body ≠ 0 → 4 ≤ (shp (plD l y).op).kind → (plD l (plD l y).to).body = (plD l y).body)
    (y : Nat) (hy : y < l.length) (hyb : (plD l y).body ≠ 0) (hd0 : 0 ≤ depD V.dep y) (hd1 : depD V.dep y ≤ 100000) (hm0 : 0 ≤ V.most) (hm1 : V.most ≤ 100000) :
    Calls Tryd.prog 60 #[.pointer (some ⟨x, 0, none⟩), .pointer (some ⟨v, 0, none⟩), .int .i64 (plK l y : Int)] w fun e w' => GoP w B x v F bs pb cb rs pr cr el l V pd cd y e w' := by
  obtain ⟨r, hri, ra, rfin, rop, rbd, rnx, rto, rsd, rns, o1, o2⟩ := hj.at_ _ y (stK_at l _ y hy hyb)
  have hrl := hj.rl
  have hrlen : rs.length ≤ 4096 := by rw [hj.len]; have := stK_len_le l l.length; omega
  obtain ⟨g, rfl, hkl, hc⟩ := h.ins _ r hri
  have hdl : (dsOf l V.dep).length = rs.length := by rw [dsOf_len, hj.len]
  obtain ⟨gd, rfl, hgdB, yd, zd⟩ := hv.depth (plK l y) (by rw [hdl]; exact hkl)
  rw [List.getD_eq_getElem?_getD, dsOf_get l V.dep y hy hyb, Option.getD_some] at yd
  have hK4 : plK l y ≤ 4096 := by omega
  -- the values
  obtain ⟨p, hp⟩ : ∃ p, plD l y = p := ⟨_, rfl⟩
  have hgoes : goesV l V y = goesV l V y := rfl
  obtain ⟨rr, hrr⟩ : ∃ q, depD V.dep y - (((shp p.op).takes : Int) + p.args) = q := ⟨_, rfl⟩
  obtain ⟨v1, hv1⟩ : ∃ q : RV, (if rr < 0 then { V with clash := true } else V : RV) = q := ⟨_, rfl⟩
  obtain ⟨r1, hr1⟩ : ∃ q : Int, (if rr < 0 then 0 else rr : Int) = q := ⟨_, rfl⟩
  obtain ⟨v2, hv2⟩ : ∃ q, mstV v1 (r1 + (shp p.op).on) = q := ⟨_, rfl⟩
  obtain ⟨v3, hv3⟩ : ∃ q, (if 4 ≤ (shp p.op).kind then mstV v2 (r1 + (shp p.op).jump) else v2) = q := ⟨_, rfl⟩
  obtain ⟨q4, hq4⟩ : ∃ q, (if (shp p.op).kind = 1 ∨ (shp p.op).kind = 2 ∨ (shp p.op).kind = 5 ∨ (shp p.op).kind = 7 then reachV v3 p.nxt (r1 + (shp p.op).on) else (v3, false)) = q := ⟨_, rfl⟩
  obtain ⟨q5, hq5⟩ : ∃ q, (if 4 ≤ (shp p.op).kind then reachV q4.1 p.to (r1 + (shp p.op).jump) else (q4.1, false)) = q := ⟨_, rfl⟩
  obtain ⟨q6, hq6⟩ : ∃ q, (if (shp p.op).kind = 2 then reachV q5.1 p.fin 0 else (q5.1, false)) = q := ⟨_, rfl⟩
  have hfin : goesV l V y = (q6.1, q4.2 || q5.2 || q6.2) := by
    rw [← hq6, ← hq5, ← hq4, ← hv3, ← hv2, ← hr1, ← hv1, ← hrr, ← hp]
    rfl
  have d1 : v1.dep = V.dep := by rw [← hv1]; split <;> rfl
  have e1 : v1.most = V.most := by rw [← hv1]; split <;> rfl
  have d2 : v2.dep = V.dep ∧ v2.clash = v1.clash := by rw [← hv2]; exact ⟨(mstV_dep _ _).1.trans d1, (mstV_dep _ _).2⟩
  have d3 : v3.dep = V.dep ∧ v3.clash = v1.clash := by
    rw [← hv3]
    split
    · exact ⟨(mstV_dep _ _).1.trans d2.1, (mstV_dep _ _).2.trans d2.2⟩
    · exact d2
  have l4 : q4.1.dep.length = l.length := by
    rw [← hq4]
    split
    · rw [reachV_len, d3.1, hvl]
    · show v3.dep.length = _; rw [d3.1, hvl]
  have l5 : q5.1.dep.length = l.length := by
    rw [← hq5]
    split
    · rw [reachV_len, l4]
    · exact l4
  have m4 : q4.1.most = v3.most := by
    rw [← hq4]
    split
    · rw [reachV_most]
    · rfl
  have m5 : q5.1.most = v3.most := by
    rw [← hq5]
    split
    · rw [reachV_most, m4]
    · exact m4
  have m6 : q6.1.most = v3.most := by
    rw [← hq6]
    split
    · rw [reachV_most, m5]
    · exact m5
  have r1a : 0 ≤ r1 ∧ r1 ≤ 100000 := by rw [← hr1]; split <;> omega
  have bsh := sh_le (p.op : Int)
  have m2e : v2.most = if V.most < r1 + (shp p.op).on then r1 + (shp p.op).on else V.most := by rw [← hv2, mstV_most, e1]
  have m3e : 4 ≤ (shp p.op).kind → v3.most = if v2.most < r1 + (shp p.op).jump then r1 + (shp p.op).jump else v2.most := fun h4 => by rw [← hv3, if_pos h4, mstV_most]
  have m3n : ¬ 4 ≤ (shp p.op).kind → v3.most = v2.most := fun h4 => by rw [← hv3, if_neg h4]
  have m2r : 0 ≤ v2.most ∧ v2.most ≤ 100010 := by rw [m2e]; split <;> omega
  -- memory
  obtain ⟨w1, hw1⟩ : ∃ U, w.alloc (.cells #[.int .i64 (r.at_ : Int), .int .i64 (r.sz : Int), .int .i64 (r.op : Int), .int .i64 (r.body : Int), .int .i64 (r.nx : Int), .int .i64 r.to_, .int .i64 r.a, .int .i64 r.b, .int .i64 r.c] 78) = U := ⟨_, rfl⟩
  have F1 : Fr [] w w1 := by rw [← hw1]; exact Fr.alloc [] w _
  have G1 := heap_alloc_new w (.cells #[.int .i64 (r.at_ : Int), .int .i64 (r.sz : Int), .int .i64 (r.op : Int), .int .i64 (r.body : Int), .int .i64 (r.nx : Int), .int .i64 r.to_, .int .i64 r.a, .int .i64 r.b, .int .i64 r.c] 78)
  rw [hw1] at G1
  have S1 : w.heap.size < w1.heap.size := lt_of_heap G1
  have hvx : v ≠ x := fun e => ty_ne hv.top h.top (by decide) e
  have hgx : gd ≠ x := fun e => by
    obtain ⟨c, hcc⟩ := row_block hv.row (g := gd) rfl
    exact ty_ne hcc h.top (by decide) e
  have hgb : ∀ b ∈ blk pb, b ∉ v :: blk (some ⟨gd, 0, none⟩) := fun b hb hm => by
    obtain ⟨c, hcc⟩ := row_block h.bod ((blk_own pb bs.length cb b).2 hb)
    rcases List.mem_cons.1 hm with e | hm
    · exact ty_ne hcc hv.top (by decide) e
    · obtain ⟨c2, hc2⟩ := row_block hv.row (g := gd) rfl
      simp [blk] at hm
      exact ty_ne hcc hc2 (by decide) hm
  have hgr : ∀ b ∈ blk (some (⟨g, 0, none⟩ : Addr)), b ∉ v :: blk (some ⟨gd, 0, none⟩) := fun b hb hm => by
    obtain ⟨c, hcc⟩ := row_block h.lst ((blk_own (some ⟨g, 0, none⟩) rs.length cr b).2 hb)
    rcases List.mem_cons.1 hm with e | hm
    · exact ty_ne hcc hv.top (by decide) e
    · obtain ⟨c2, hc2⟩ := row_block hv.row (g := gd) rfl
      simp [blk] at hm
      exact ty_ne hcc hc2 (by decide) hm
  have hvB := hv.base
  have hSB : ∀ b ∈ v :: blk (some (⟨gd, 0, none⟩ : Addr)), B ≤ b := fun b hb => by
    rcases List.mem_cons.1 hb with e | hb
    · rw [e]; exact hvB
    · simp [blk] at hb; rw [hb]; exact hgdB
  have hvl1 := lt_of_heap hv.top
  have hgl1 := (own_lt hv.row gd rfl).2
  have HWK : Hid (∀ W, Fr (v :: blk (some ⟨gd, 0, none⟩)) w1 W → WR W B x F bs pb cb rs (some ⟨g, 0, none⟩) cr el 0 ∧ W.heap[w.heap.size]? = some (.cells #[.int .i64 (r.at_ : Int), .int .i64 (r.sz : Int), .int .i64 (r.op : Int), .int .i64 (r.body : Int), .int .i64 (r.nx : Int), .int .i64 r.to_, .int .i64 r.a, .int .i64 r.b, .int .i64 r.c] 78 (0, 0)) ∧ Fr (x :: v :: blk (some ⟨gd, 0, none⟩)) w W) := fun W hW =>
    ⟨(h.idle F1).keep hW (by simp [blk]; exact ⟨Ne.symm hvx, Ne.symm hgx⟩) hgb hgr hSB, (hW.block _ S1 (by simp [blk]; omega)).trans G1, (F1.mono (by simp)).trans (hW.mono (S' := x :: v :: blk (some ⟨gd, 0, none⟩)) (fun b hb => .inl (by simp at hb ⊢; exact .inr hb))) (fun b hb => .inl hb)⟩
  have HV1 : Hid (VW w1 B v (dsOf l V.dep) (some ⟨gd, 0, none⟩) cd V.most V.clash) := hv.idle F1
  have z10 : w.cell? ⟨x, 10, none⟩ = some (.slice (some ⟨g, 0, none⟩) rs.length cr) := h.cell 10
  have y0 : w.cell? ⟨g, plK l y * 9, none⟩ = some (.int .i64 (r.at_ : Int)) := hc 0 (by omega)
  have y1 : w.cell? ⟨g, plK l y * 9 + 1, none⟩ = some (.int .i64 (r.sz : Int)) := hc 1 (by omega)
  have y2 : w.cell? ⟨g, plK l y * 9 + 2, none⟩ = some (.int .i64 (r.op : Int)) := hc 2 (by omega)
  have y3 : w.cell? ⟨g, plK l y * 9 + 3, none⟩ = some (.int .i64 (r.body : Int)) := hc 3 (by omega)
  have y4 : w.cell? ⟨g, plK l y * 9 + 4, none⟩ = some (.int .i64 (r.nx : Int)) := hc 4 (by omega)
  have y5 : w.cell? ⟨g, plK l y * 9 + 5, none⟩ = some (.int .i64 r.to_) := hc 5 (by omega)
  have y6 : w.cell? ⟨g, plK l y * 9 + 6, none⟩ = some (.int .i64 r.a) := hc 6 (by omega)
  have y7 : w.cell? ⟨g, plK l y * 9 + 7, none⟩ = some (.int .i64 r.b) := hc 7 (by omega)
  have y8 : w.cell? ⟨g, plK l y * 9 + 8, none⟩ = some (.int .i64 r.c) := hc 8 (by omega)
  have k0 : (0 : Int) ≤ (plK l y : Int) := by omega
  have k1 : (plK l y : Int) < (rs.length : Int) := by omega
  have cv0 : w1.cell? ⟨v, 0, none⟩ = some (.slice (some ⟨gd, 0, none⟩) (dsOf l V.dep).length cd) := by rw [cell_in HV1.out.top]; rfl
  rw [hdl] at cv0
  have ydv : w1.cell? ⟨gd, plK l y, none⟩ = some (.int .i64 (depD V.dep y)) := F1.cl yd
  have HCU : Hid (∀ U, Hid (Fr [] w1 U) → U.cell? ⟨v, 0, none⟩ = some (.slice (some ⟨gd, 0, none⟩) rs.length cd) ∧ U.cell? ⟨gd, plK l y, none⟩ = some (.int .i64 (depD V.dep y)) ∧ U.cell? ⟨w.heap.size, 0, none⟩ = some (.int .i64 (r.at_ : Int)) ∧ U.cell? ⟨w.heap.size, 1, none⟩ = some (.int .i64 (r.sz : Int)) ∧ U.cell? ⟨w.heap.size, 2, none⟩ = some (.int .i64 (r.op : Int)) ∧ U.cell? ⟨w.heap.size, 3, none⟩ = some (.int .i64 (r.body : Int)) ∧ U.cell? ⟨w.heap.size, 4, none⟩ = some (.int .i64 (r.nx : Int)) ∧ U.cell? ⟨w.heap.size, 5, none⟩ = some (.int .i64 r.to_) ∧ U.cell? ⟨w.heap.size, 6, none⟩ = some (.int .i64 r.a) ∧ U.cell? ⟨w.heap.size, 7, none⟩ = some (.int .i64 r.b) ∧ U.cell? ⟨w.heap.size, 8, none⟩ = some (.int .i64 r.c)) := fun U hU => by
    have hb := hU.out.hb G1
    exact ⟨hU.out.cl cv0, hU.out.cl ydv, cell_in hb 0, cell_in hb 1, cell_in hb 2, cell_in hb 3, cell_in hb 4, cell_in hb 5, cell_in hb 6, cell_in hb 7, cell_in hb 8⟩
  have lx0 := cell_in G1 0
  have lx1 := cell_in G1 1
  have lx2 := cell_in G1 2
  have lx3 := cell_in G1 3
  have lx4 := cell_in G1 4
  have lx5 := cell_in G1 5
  have lx6 := cell_in G1 6
  have lx7 := cell_in G1 7
  have lx8 := cell_in G1 8
  rw [hp] at rop rfin rbd rnx rto rsd rns
  have hargs : (p.args : Int) ≤ 8 := by
    by_cases hs : r.op = 17 ∨ r.op = 18
    · have := (rsd hs).2; omega
    · have := rns hs; omega
  have HT : Hid (∀ U, Calls Tryd.prog 69 #[.agg #[.int .i64 (r.at_ : Int), .int .i64 (r.sz : Int), .int .i64 (r.op : Int), .int .i64 (r.body : Int), .int .i64 (r.nx : Int), .int .i64 r.to_, .int .i64 r.a, .int .i64 r.b, .int .i64 r.c]] U fun e w' => e = .returned (.int .i64 ((shp p.op).takes + p.args)) ∧ Fr [] U w') := fun U => by rw [← rop]; exact takes_ok r.op p.args o1 o2 _ _ _ _ _ _ _ _ rsd rns U
  have HLv : Hid (∀ U, Calls Tryd.prog 70 #[.agg #[.int .i64 (r.at_ : Int), .int .i64 (r.sz : Int), .int .i64 (r.op : Int), .int .i64 (r.body : Int), .int .i64 (r.nx : Int), .int .i64 r.to_, .int .i64 r.a, .int .i64 r.b, .int .i64 r.c]] U fun e w' => e = .returned (.tuple #[.int .i64 ((shp p.op).on : Int), .int .i64 ((shp p.op).jump : Int)]) ∧ Fr [] U w') := fun U => by rw [← rop]; exact leaves_ok r.op o1 o2 _ _ _ _ _ _ _ _ U
  have HSt : Hid (∀ U, Calls Tryd.prog 71 #[.int .i64 (r.op : Int)] U fun e w' => e = .returned (.bool (decide ((shp p.op).kind = 3 ∨ (shp p.op).kind = 4 ∨ (shp p.op).kind = 6))) ∧ w' = U) := fun U => by rw [← rop]; exact stays_ok r.op o1 o2 U
  obtain ⟨sb, hsb⟩ : ∃ b, decide ((shp p.op).kind = 3 ∨ (shp p.op).kind = 4 ∨ (shp p.op).kind = 6) = b := ⟨_, rfl⟩
  rw [hsb] at HSt
  have HSb := mkHid hsb
  clear hsb
  have hwrr : IntKind.i64.wrap (depD V.dep y - (((shp p.op).takes : Int) + (p.args : Int))) = rr := by rw [← hrr]; exact iwrap_id (by omega) (by omega)
  have hop28 : 1 ≤ p.op ∧ p.op ≤ 28 := by omega
  have hkp := kind_pos2 p.op hop28.1 hop28.2
  have hnxt := hl.op y hy hyb
  have hblk := hl.blk y hy hyb
  have hjmp := hl.jmp y hy hyb
  have hjbb := hjb y hy hyb
  rw [hp] at hnxt hblk hjmp hyb hjbb
  have HJb := mkHid hjbb
  have hends : endsP l y ↔ ((shp p.op).kind = 1 ∨ (shp p.op).kind = 2 ∨ (shp p.op).kind = 5 ∨ (shp p.op).kind = 7) ∧ (p.nxt = l.length ∨ (plD l p.nxt).body ≠ p.body) := by unfold endsP onK; rw [hp]
  have HBx : Hid ((shp p.op).kind = 2 → ∃ (b : Nat) (u : Bd), bs[b]? = some u ∧ u.b = p.fin ∧ u.ar = (r.body : Int)) := fun h2 => by
    have h19 : p.op = 19 := kind_two p.op hop28.1 hop28.2 h2
    obtain ⟨b, u, b1, b2, b3⟩ := hbx y hy (by rw [hp]; exact hyb) (by rw [hp]; exact h19)
    rw [hp] at b2 b3
    exact ⟨b, u, b1, b2, by omega⟩
  have HBe := mkHid hbe
  have HRL := mkHid hrl
  have HFin := mkHid hfin
  have HEn := mkHid hends
  have HS1 := mkHid S1
  have HB1 : Hid (B ≤ w.heap.size) := hB
  have HRr : Hid (r.at_ = y ∧ y + r.sz = p.fin ∧ r.op = p.op ∧ r.body + 1 = p.body ∧ r.nx = p.nxt ∧ r.to_ = (if 4 ≤ (shp p.op).kind then (p.to : Int) else -1)) := ⟨ra, rfin, rop, rbd, rnx, rto⟩
  have HD1 : Hid (v1.dep = V.dep ∧ v1.most = V.most) := ⟨d1, e1⟩
  have HD2 := mkHid d2
  have HD3 := mkHid d3
  have HL4 := mkHid l4
  have HL5 := mkHid l5
  have HM6 := mkHid m6
  have HM2 := mkHid m2e
  have HM3 := mkHid m3e
  have HM3n := mkHid m3n
  have HQ4 := mkHid hq4
  have HQ5 := mkHid hq5
  have HQ6 := mkHid hq6
  have HV1q := mkHid hv1
  have HR1q := mkHid hr1
  have HPq := mkHid hp
  have HNx := mkHid hnxt
  have HBk := mkHid hblk
  have HJm := mkHid hjmp
  have HYb := mkHid hyb
  have HVL := mkHid hvl
  have HOpp := mkHid hop28
  clear h hv hj hbe hbx hri hc hrl hfin F1 G1 hgoes hends hgb hgr hSB ra rfin rop rbd rnx rto rsd rns d1 e1 d2 d3 l4 l5 m4 m5 m6 m2e m3e m3n hq4 hq5 hq6 hv1 hr1 hv2 hv3 hp hnxt hblk hjmp hyb hvl hrr hop28 hl hjb hjbb
  generalize hkk : plK l y = kk at *
  generalize hnn : rs.length = nn at *
  generalize hdep : depD V.dep y = dd at *
  have hxw1 : x < w1.heap.size := by have := (HWK.out w1 (Fr.refl _ _)).1; exact lt_of_heap this.top
  have hvw1 : v < w1.heap.size := by omega
  have hgw1 : gd < w1.heap.size := by omega
  go_enter Tryd.func60, Tryd.ntmps60
  go_upto_region 2 with fail
  try rw [hw1]
  clear hw1
  go_cut [8] (fun t8 W => t8 = .int .i64 rr ∧ Hid (Fr [] w1 W))
  case first =>
    have hR : Hid (Fr [] w1 w1) := Fr.refl _ _
    go_region_held3 (fun U => U.cell? ⟨v, 0, none⟩ = some (.slice (some ⟨gd, 0, none⟩) nn cd) ∧ U.cell? ⟨gd, kk, none⟩ = some (.int .i64 dd) ∧ U.cell? ⟨w.heap.size, 0, none⟩ = some (.int .i64 (r.at_ : Int)) ∧ U.cell? ⟨w.heap.size, 1, none⟩ = some (.int .i64 (r.sz : Int)) ∧ U.cell? ⟨w.heap.size, 2, none⟩ = some (.int .i64 (r.op : Int)) ∧ U.cell? ⟨w.heap.size, 3, none⟩ = some (.int .i64 (r.body : Int)) ∧ U.cell? ⟨w.heap.size, 4, none⟩ = some (.int .i64 (r.nx : Int)) ∧ U.cell? ⟨w.heap.size, 5, none⟩ = some (.int .i64 r.to_) ∧ U.cell? ⟨w.heap.size, 6, none⟩ = some (.int .i64 r.a) ∧ U.cell? ⟨w.heap.size, 7, none⟩ = some (.int .i64 r.b) ∧ U.cell? ⟨w.heap.size, 8, none⟩ = some (.int .i64 r.c))
      (first
        | exact HCU.out _ h5
        | exact HCU.out _ (hid_drv hR)
        | exact HCU.out _ hR)
      ((go_at_call 69; refine (HT.out _).mono ?_; rintro e w5 ⟨rfl, f5⟩; have h5 : Hid (Fr [] w1 w5) := (Fr.drew [] w1).tr0 f5; clear f5))
    all_goals go_wp2_with fail
    all_goals
      go_meet
      case rel => exact ⟨by first | rfl | (rw [hwrr]), h5⟩
  case rest =>
    obtain ⟨rfl, hW1⟩ := hcut
    have hg2 : Hid (Fr (v :: blk (some ⟨gd, 0, none⟩)) w1 wc ∧ VW wc B v (dsOf l V.dep) (some ⟨gd, 0, none⟩) cd V.most V.clash) := ⟨hW1.out.mono (by simp), HV1.out.idle hW1.out⟩
    have cc2 : wc.cell? ⟨v, 2, none⟩ = some (.bool V.clash) := by rw [cell_in hg2.out.2.top]; rfl
    have zc2 := frozen_in hg2.out.2.top 2
    clear cv0 ydv lx0 lx1 lx2 lx3 lx4 lx5 lx6 lx7 lx8 y0 y1 y2 y3 y4 y5 y6 y7 y8 z10 HT HCU HV1 hW1 yd zd
    have hwro : IntKind.i64.wrap (r1 + ((shp p.op).on : Int)) = r1 + ((shp p.op).on : Int) := iwrap_id (by omega) (by omega)
    have hwrj : IntKind.i64.wrap (r1 + ((shp p.op).jump : Int)) = r1 + ((shp p.op).jump : Int) := iwrap_id (by omega) (by omega)
    go_upto_if 36 with fail
    go_cut [8] (fun t8 W => t8 = .int .i64 r1 ∧ Hid (Fr (v :: blk (some ⟨gd, 0, none⟩)) w1 W ∧ VW W B v (dsOf l V.dep) (some ⟨gd, 0, none⟩) cd V.most v1.clash))
    case first =>
      by_cases hneg : rr < 0
      · have hv := hg2.out.2.setTop 2 (.bool true) V.most true rfl
        have HS : Hid (Fr (v :: blk (some ⟨gd, 0, none⟩)) w1 (wc.setCell ⟨v, 2, none⟩ (.bool true)) ∧ VW (wc.setCell ⟨v, 2, none⟩ (.bool true)) B v (dsOf l V.dep) (some ⟨gd, 0, none⟩) cd V.most v1.clash) := ⟨hg2.out.1.trans hv.2 (fun b hb => .inl (by simp at hb; simp [hb])), by rw [show v1.clash = true from by rw [← HV1q.out, if_pos hneg]]; exact hv.1⟩
        have HS0 : Hid (r1 = 0) := by show r1 = 0; rw [← HR1q.out, if_pos hneg]
        clear hv hg2
        go_wp2_with fail
        go_meet
        case rel => exact ⟨by rw [HS0.out], HS.out⟩
      · have hnd : decide (rr < 0) = false := decide_eq_false hneg
        have HS0 : Hid (r1 = rr) := by show r1 = rr; rw [← HR1q.out, if_neg hneg]
        have HS1 : Hid (v1.clash = V.clash) := by show v1.clash = _; rw [← HV1q.out, if_neg hneg]
        go_wp2_with fail
        go_meet
        case rel => exact ⟨by rw [HS0.out], by rw [HS1.out]; exact hg2.out⟩
    case rest =>
      obtain ⟨rfl, hW2⟩ := hcut
      clear hg2 cc2 zc2
      obtain ⟨K2, g2, -⟩ := HWK.out wc hW2.out.1
      have x0 := cell_in g2 0
      have x1 := cell_in g2 1
      have x2 := cell_in g2 2
      have x3 := cell_in g2 3
      have x4 := cell_in g2 4
      have x5 := cell_in g2 5
      have x6 := cell_in g2 6
      have x7 := cell_in g2 7
      have x8 := cell_in g2 8
      have H5m : Hid (∀ w5, Fr [] wc w5 → Hid (Fr (v :: blk (some ⟨gd, 0, none⟩)) w1 w5 ∧ VW w5 B v (dsOf l V.dep) (some ⟨gd, 0, none⟩) cd V.most v1.clash) ∧ w5.cell? ⟨v, 1, none⟩ = some (.int .i64 V.most) ∧ w5.frozen? ⟨v, 1, none⟩ = false) := fun w5 f5 => by
        have hh := hW2.out.2.idle f5
        exact ⟨⟨hW2.out.1.trans f5 (by simp), hh⟩, by rw [cell_in hh.top]; rfl, frozen_in hh.top 1⟩
      clear hW2 K2 g2
      go_upto_if 52 with (go_at_call 70; refine (HLv.out _).mono ?_; rintro e w5 ⟨rfl, f5⟩; obtain ⟨h5, cm1, zm1⟩ := H5m.out w5 f5; clear f5 H5m)
      go_cut [] (fun W => Hid (Fr (v :: blk (some ⟨gd, 0, none⟩)) w1 W ∧ VW W B v (dsOf l V.dep) (some ⟨gd, 0, none⟩) cd v2.most v1.clash))
      case first =>
        by_cases hm : V.most < r1 + ((shp p.op).on : Int)
        · have hv := h5.out.2.setTop 1 (.int .i64 (r1 + ((shp p.op).on : Int))) (r1 + ((shp p.op).on : Int)) v1.clash rfl
          have HS : Hid (Fr (v :: blk (some ⟨gd, 0, none⟩)) w1 (w5.setCell ⟨v, 1, none⟩ (.int .i64 (r1 + ((shp p.op).on : Int)))) ∧ VW (w5.setCell ⟨v, 1, none⟩ (.int .i64 (r1 + ((shp p.op).on : Int)))) B v (dsOf l V.dep) (some ⟨gd, 0, none⟩) cd v2.most v1.clash) := ⟨h5.out.1.trans hv.2 (fun b hb => .inl (by simp at hb; simp [hb])), by rw [HM2.out, if_pos hm]; exact hv.1⟩
          clear hv h5
          go_wp2_with fail
          go_meet
          case rel => exact HS.out
        · have hmd : decide (V.most < r1 + ((shp p.op).on : Int)) = false := decide_eq_false hm
          have HS : Hid (v2.most = V.most) := by show v2.most = _; rw [HM2.out, if_neg hm]
          go_wp2_with fail
          go_meet
          case rel => rw [HS.out]; exact h5.out
      case rest =>
        have hW3 := hcut
        clear hcut h5 cm1 zm1 x0 x1 x2 x3 x4 x5 x6 x7 x8
        obtain ⟨K3, g3, f3⟩ := HWK.out wc hW3.out.1
        have x2 := cell_in g3 2
        have x3 := cell_in g3 3
        have x4 := cell_in g3 4
        go_upto_if 62 with (go_at_call 71; refine (HSt.out _).mono ?_; rintro e w' ⟨rfl, hw'⟩; rw [hw']; clear hw' w')
        go_cut [11, 12] (fun t11 t12 W => t11 = .bool q4.2 ∧ Hid (¬ endsP l y ∧ Fr (v :: blk (some ⟨gd, 0, none⟩)) w1 W ∧ VW W B v (dsOf l q4.1.dep) (some ⟨gd, 0, none⟩) cd v2.most q4.1.clash))
        case first =>
          by_cases hon : (shp p.op).kind = 1 ∨ (shp p.op).kind = 2 ∨ (shp p.op).kind = 5 ∨ (shp p.op).kind = 7
          · have hst : sb = false := HSb.out.symm.trans (decide_eq_false (by omega))
            subst hst
            obtain ⟨-, -, -, rb, rn, -⟩ := HRr.out
            by_cases he : p.nxt = l.length ∨ (plD l p.nxt).body ≠ p.body
            · have HEnd : Hid (endsP l y) := HEn.out.2 ⟨hon, he⟩
              have HBg : Hid (Calls Tryd.prog 58 #[.pointer (some ⟨x, 0, none⟩), .int .i64 (r.body : Int), .int .i64 (r.nx : Int)] wc fun e w' => e = .returned (.int .i64 (-1)) ∧ w' = wc) := by
                have := begins_ok K3 (by rw [hnn]; omega) r.body (r.nx : Int)
                rw [HRL.out.no (r.nx : Int) r.body (fun z hz hzl => by
                  have : z = p.nxt := by omega
                  subst this
                  rcases he with he | he
                  · omega
                  · rw [rb]; exact he)] at this
                exact this
              have HFl : Hid (Calls Tryd.prog 53 #[.pointer (some ⟨x, 0, none⟩), .int .i64 114] wc fun en w' => en = .returned (.tuple #[]) ∧ Fr [x] wc w' ∧ WR w' B x F bs pb cb rs (some ⟨g, 0, none⟩) cr el 114) := fails_ok K3 114
              have HVk : Hid (∀ w', Fr [x] wc w' → VW w' B v (dsOf l V.dep) (some ⟨gd, 0, none⟩) cd v2.most v1.clash) := fun w' f' => by
                have hh := hW3.out.2
                exact ⟨(f'.block v (lt_of_heap hh.top) (by simp; exact hvx)).trans hh.top, hh.base, own_congr hh.row fun b hb => f'.block b (own_lt hh.row b hb).2 (by simp [Value.ownBlock] at hb; simp; rw [← hb]; exact hgx)⟩
              have HF3 := mkHid f3
              have HLe : Hid ((dsOf l V.dep).length = rs.length) := by show _ = _; rw [hdl, hnn]
              clear K3 g3 f3 he hon rb rn
              go_wp2_with (first
                | (go_at_call 58; refine HBg.out.mono ?_; rintro e w' ⟨rfl, hw'⟩; rw [hw']; clear hw' w')
                | (go_at_call 53; refine HFl.out.mono ?_; rintro e w6 ⟨rfl, f6, k6⟩; have F6 := mkHid f6; have K6 := mkHid k6; clear f6 k6))
              go_ret
              exact ⟨HF3.out.trans F6.out (fun b hb => .inl (by simp at hb; simp [hb])), .inl ⟨HEnd.out, rfl, K6.out, _, _, HVk.out _ F6.out⟩⟩
            · have HEnd : Hid (¬ endsP l y) := fun hh => he (HEn.out.1 hh).2
              have hnl : p.nxt < l.length := by
                have := HNx.out
                have h2 : p.nxt ≠ l.length := fun e => he (.inl e)
                omega
              have hnb : (plD l p.nxt).body = p.body := by
                by_cases e : (plD l p.nxt).body = p.body
                · exact e
                · exact absurd (.inr e) he
              have hnz : (plD l p.nxt).body ≠ 0 := by rw [hnb]; exact HYb.out
              have HBg : Hid (Calls Tryd.prog 58 #[.pointer (some ⟨x, 0, none⟩), .int .i64 (r.body : Int), .int .i64 (r.nx : Int)] wc fun e w' => e = .returned (.int .i64 (plK l p.nxt : Int)) ∧ w' = wc) := by
                have := begins_ok K3 (by rw [hnn]; omega) r.body (r.nx : Int)
                rw [rn, HRL.out.yes p.nxt r.body hnl (by rw [hnb, rb])] at this
                rw [rn]
                exact this
              have hpk : plK l p.nxt < (dsOf l V.dep).length := by rw [dsOf_len]; exact plK_lt l _ _ hnl hnz
              have hRq : reachD (dsOf l V.dep) v1.clash (plK l p.nxt) (r1 + ((shp p.op).on : Int)) = (dsOf l q4.1.dep, q4.1.clash, q4.2) := by
                have := reach_rel l v3 p.nxt (r1 + ((shp p.op).on : Int)) (by rw [HD3.out.1, HVL.out]) hnl hnz
                rw [HD3.out.1, HD3.out.2] at this
                rw [this]
                have e4 := HQ4.out
                rw [if_pos hon] at e4
                rw [e4]
              have HRe := reach_ok hW3.out.2 (plK l p.nxt) hpk (by rw [hdl]; omega) (r1 + ((shp p.op).on : Int))
              rw [hRq] at HRe
              replace HRe := mkHid HRe
              have hk0 : ¬ ((plK l p.nxt : Int) < 0) := by omega
              have hk0d : decide ((plK l p.nxt : Int) < 0) = false := decide_eq_false hk0
              have HFr := mkHid hW3.out.1
              clear K3 g3 f3 he hon rb rn hRq hpk hnz hnb hnl hk0 hW3
              generalize plK l p.nxt = kn at *
              go_wp2_with (first
                | (go_at_call 58; refine HBg.out.mono ?_; rintro e w' ⟨rfl, hw'⟩; rw [hw']; clear hw' w')
                | (go_at_call 72; refine HRe.out.mono ?_; rintro e w6 ⟨rfl, f6, k6⟩; have F6 := mkHid f6; have K6 := mkHid k6; clear f6 k6))
              go_meet
              case rel => exact ⟨rfl, HEnd.out, HFr.out.trans F6.out (fun b hb => .inl hb), K6.out⟩
          · have hst : sb = true := HSb.out.symm.trans (decide_eq_true (by omega))
            subst hst
            have HEnd : Hid (¬ endsP l y) := fun hh => hon (HEn.out.1 hh).1
            have e4 := HQ4.out
            rw [if_neg hon] at e4
            have HS : Hid (q4.2 = false ∧ Fr (v :: blk (some ⟨gd, 0, none⟩)) w1 wc ∧ VW wc B v (dsOf l q4.1.dep) (some ⟨gd, 0, none⟩) cd v2.most q4.1.clash) := by
              rw [← e4]
              exact ⟨rfl, hW3.out.1, by rw [HD3.out.1, HD3.out.2]; exact hW3.out.2⟩
            clear K3 g3 f3 e4 hon hW3
            go_wp2_with fail
            go_meet
            case rel => exact ⟨by rw [HS.out.1], HEnd.out, HS.out.2⟩
        case rest =>
          obtain ⟨rfl, hW4⟩ := hcut
          clear hW3 K3 g3 f3 x2 x3 x4
          obtain ⟨K4, g4, f4⟩ := HWK.out wc hW4.out.2.1
          have HEnd : Hid (¬ endsP l y) := hW4.out.1
          have x2 := cell_in g4 2
          have x3 := cell_in g4 3
          have x5 := cell_in g4 5
          go_upto_if 81 with fail
          go_cut [11, 13, 14] (fun t11 t13 t14 W => t11 = .bool (q4.2 || q5.2) ∧ Hid (Fr (v :: blk (some ⟨gd, 0, none⟩)) w1 W ∧ VW W B v (dsOf l q5.1.dep) (some ⟨gd, 0, none⟩) cd v3.most q5.1.clash))
          case first =>
            obtain ⟨-, -, -, rb, -, rt⟩ := HRr.out
            by_cases h4 : 4 ≤ (shp p.op).kind
            · rw [if_pos h4] at rt
              obtain ⟨htl, htz⟩ := HJm.out h4
              have htb := HJb.out h4
              have HBg : Hid (Calls Tryd.prog 58 #[.pointer (some ⟨x, 0, none⟩), .int .i64 (r.body : Int), .int .i64 r.to_] wc fun e w' => e = .returned (.int .i64 (plK l p.to : Int)) ∧ w' = wc) := by
                have := begins_ok K4 (by rw [hnn]; omega) r.body r.to_
                rw [rt, HRL.out.yes p.to r.body htl (by rw [htb, rb])] at this
                rw [rt]
                exact this
              have hpk : plK l p.to < (dsOf l q4.1.dep).length := by rw [dsOf_len]; exact plK_lt l _ _ htl htz
              have hRq : reachD (dsOf l q4.1.dep) q4.1.clash (plK l p.to) (r1 + ((shp p.op).jump : Int)) = (dsOf l q5.1.dep, q5.1.clash, q5.2) := by
                have := reach_rel l q4.1 p.to (r1 + ((shp p.op).jump : Int)) HL4.out htl htz
                rw [this]
                have e5 := HQ5.out
                rw [if_pos h4] at e5
                rw [e5]
              have HRe := reach_ok hW4.out.2.2 (plK l p.to) hpk (by rw [dsOf_len]; have := stK_len_le l l.length; omega) (r1 + ((shp p.op).jump : Int))
              rw [hRq] at HRe
              replace HRe := mkHid HRe
              have HFr := mkHid hW4.out.2.1
              have ht0 : (0 : Int) ≤ r.to_ := by omega
              have HM3q := mkHid (HM3.out h4)
              have HAf : Hid (∀ w6, Fr (v :: blk (some ⟨gd, 0, none⟩)) wc w6 → VW w6 B v (dsOf l q5.1.dep) (some ⟨gd, 0, none⟩) cd v2.most q5.1.clash → w6.cell? ⟨v, 1, none⟩ = some (.int .i64 v2.most) ∧ w6.frozen? ⟨v, 1, none⟩ = false ∧ (v2.most < r1 + ((shp p.op).jump : Int) → Hid (Fr (v :: blk (some ⟨gd, 0, none⟩)) w1 (w6.setCell ⟨v, 1, none⟩ (.int .i64 (r1 + ((shp p.op).jump : Int)))) ∧ VW (w6.setCell ⟨v, 1, none⟩ (.int .i64 (r1 + ((shp p.op).jump : Int)))) B v (dsOf l q5.1.dep) (some ⟨gd, 0, none⟩) cd v3.most q5.1.clash)) ∧ (¬ v2.most < r1 + ((shp p.op).jump : Int) → Hid (Fr (v :: blk (some ⟨gd, 0, none⟩)) w1 w6 ∧ VW w6 B v (dsOf l q5.1.dep) (some ⟨gd, 0, none⟩) cd v3.most q5.1.clash))) := fun w6 f6 k6 => by
                refine ⟨by rw [cell_in k6.top]; rfl, frozen_in k6.top 1, fun hm => ?_, fun hm => ?_⟩
                · have hv := k6.setTop 1 (.int .i64 (r1 + ((shp p.op).jump : Int))) (r1 + ((shp p.op).jump : Int)) q5.1.clash rfl
                  exact ⟨(HFr.out.trans f6 (fun b hb => .inl hb)).trans hv.2 (fun b hb => .inl (by simp at hb; simp [hb])), by rw [HM3q.out, if_pos hm]; exact hv.1⟩
                · exact ⟨HFr.out.trans f6 (fun b hb => .inl hb), by rw [HM3q.out, if_neg hm]; exact k6⟩
              clear K4 g4 f4 rb rt hRq hpk htl htz htb hW4 h4
              generalize plK l p.to = kn at *
              by_cases hm : v2.most < r1 + ((shp p.op).jump : Int)
              · cases hq : q4.2
                all_goals go_wp2_with (first
                  | (go_at_call 58; refine HBg.out.mono ?_; rintro e w' ⟨rfl, hw'⟩; rw [hw']; clear hw' w')
                  | (go_at_call 72; refine HRe.out.mono ?_; rintro e w6 ⟨rfl, f6, k6⟩; obtain ⟨cm1, zm1, a1, -⟩ := HAf.out w6 f6 k6; have A1 := a1 hm; clear f6 k6 a1))
                all_goals
                  go_meet
                  case rel => exact ⟨by rw [hq]; simp, A1.out⟩
              · have hmd : decide (v2.most < r1 + ((shp p.op).jump : Int)) = false := decide_eq_false hm
                cases hq : q4.2
                all_goals go_wp2_with (first
                  | (go_at_call 58; refine HBg.out.mono ?_; rintro e w' ⟨rfl, hw'⟩; rw [hw']; clear hw' w')
                  | (go_at_call 72; refine HRe.out.mono ?_; rintro e w6 ⟨rfl, f6, k6⟩; obtain ⟨cm1, zm1, -, a1⟩ := HAf.out w6 f6 k6; have A1 := a1 hm; clear f6 k6 a1))
                all_goals
                  go_meet
                  case rel => exact ⟨by rw [hq]; simp, A1.out⟩
            · rw [if_neg h4] at rt
              have e5 := HQ5.out
              rw [if_neg h4] at e5
              have HS : Hid ((q4.2 || q5.2) = q4.2 ∧ Fr (v :: blk (some ⟨gd, 0, none⟩)) w1 wc ∧ VW wc B v (dsOf l q5.1.dep) (some ⟨gd, 0, none⟩) cd v3.most q5.1.clash) := by
                rw [← e5]
                exact ⟨by simp, hW4.out.2.1, by rw [HM3n.out h4]; exact hW4.out.2.2⟩
              have hd5 : decide (0 ≤ r.to_) = false := decide_eq_false (by omega)
              have hd6 : ¬ (0 ≤ r.to_) := by omega
              clear K4 g4 f4 e5 h4 hW4 rb rt
              go_wp2_with fail
              go_meet
              case rel => exact ⟨by rw [HS.out.1], HS.out.2⟩
          case rest =>
            obtain ⟨rfl, hW5⟩ := hcut
            clear hW4 K4 g4 f4 x2 x3 x5
            obtain ⟨K5, g5, f5⟩ := HWK.out wc hW5.out.1
            have x0 := cell_in g5 0
            have x1 := cell_in g5 1
            have x2 := cell_in g5 2
            have x3 := cell_in g5 3
            go_upto_if 114 with fail
            go_cut [11, 15, 16, 17] (fun t11 t15 t16 t17 W => t11 = .bool (q4.2 || q5.2 || q6.2) ∧ Hid (Fr (v :: blk (some ⟨gd, 0, none⟩)) w1 W ∧ VW W B v (dsOf l q6.1.dep) (some ⟨gd, 0, none⟩) cd v3.most q6.1.clash))
            case first =>
              obtain ⟨ra, rf, ro, rb, -, -⟩ := HRr.out
              by_cases h2 : (shp p.op).kind = 2
              · have h19 : ((r.op : Int) == 19) = true := beq_iff_eq.2 (by have := kind_two p.op HOpp.out.1 HOpp.out.2 h2; omega)
                obtain ⟨hfl, hfz⟩ := HBk.out h2
                have hff : (r.at_ : Int) + (r.sz : Int) = (p.fin : Int) := by omega
                have hwrf : IntKind.i64.wrap ((r.at_ : Int) + (r.sz : Int)) = (r.at_ : Int) + (r.sz : Int) := iwrap_id (by omega) (by omega)
                have c9 : wc.cell? ⟨x, 9, none⟩ = some (.slice pb bs.length cb) := K5.cell 9
                have HBxx := mkHid (HBx.out h2)
                have HK5 := mkHid K5
                have HFF := mkHid hff
                have HFz : Hid (p.fin < l.length ∧ (plD l p.fin).body ≠ 0) := ⟨hfl, hfz⟩
                have HRb := mkHid rb
                have hRq : reachD (dsOf l q5.1.dep) q5.1.clash (plK l p.fin) 0 = (dsOf l q6.1.dep, q6.1.clash, q6.2) := by
                  have := reach_rel l q5.1 p.fin 0 HL5.out hfl hfz
                  rw [this]
                  have e6 := HQ6.out
                  rw [if_pos h2] at e6
                  rw [e6]
                have hpk : plK l p.fin < (dsOf l q5.1.dep).length := by rw [dsOf_len]; exact plK_lt l _ _ hfl hfz
                have HRe : Hid (∀ n, Calls Tryd.prog 72 #[.pointer (some ⟨v, 0, none⟩), .int .i64 (plK l p.fin : Int), .int .i64 0] (wc.drewN n) fun e w' => e = .returned (.bool q6.2) ∧ Fr (v :: blk (some ⟨gd, 0, none⟩)) (wc.drewN n) w' ∧ VW w' B v (dsOf l q6.1.dep) (some ⟨gd, 0, none⟩) cd v3.most q6.1.clash) := fun n => by
                  have := reach_ok (hW5.out.2.idle (Fr.drewN [] wc n)) (plK l p.fin) hpk (by rw [dsOf_len]; have := stK_len_le l l.length; omega) 0
                  rw [hRq] at this
                  exact this
                have HFr := mkHid hW5.out.1
                clear K5 g5 f5 hRq hpk hfl hfz hW5 ra rf ro rb h2 hff HWK HEn HFin HSt HLv HD1 HD2 HD3 HL4 HL5 HM6 HM2 HM3 HM3n HQ4 HQ5 HQ6 HV1q HR1q HPq HNx HBk HJm HYb HVL HJb HBx HOpp HRr HEnd HS1 HB1 HSb hwro hwrj hwrr bsh m2r r1a hkp hm0 hm1 hd0 hd1 hargs hgdB hvx hgx hvB hvl1 hgl1 S1 hdl hkl
                generalize hbn : bs.length = bn at *
                generalize hpf : plK l p.fin = kn at *
                go_wp2_with fail
                clear h19
                rename ((r.op : Int) == 19) = true => hsp
                clear hsp
                go_loopw [15, 16] (fun q15 q16 wr => (∃ n, wr = wc.drewN n) ∧ ∃ b : Nat, q16 = .int .i64 (b : Int) ∧ b ≤ bn ∧ ((q15 = .int .i64 (-1) ∧ Hid (∀ (b' : Nat) (u : Bd), b' < b → bs[b']? = some u → ¬(u.b = p.fin ∧ u.ar = (r.body : Int)))) ∨ q15 = .int .i64 (kn : Int))) (fun _ q16 _ => bn - (intOf q16).toNat)
                case atStart => exact ⟨⟨0, rfl⟩, 0, rfl, by omega, .inl ⟨rfl, fun b' u hb => by omega⟩⟩
                case round =>
                  obtain ⟨⟨n0, rfl⟩, b, rfl, hbl, hcs⟩ := hrel
                  have b0 : (0 : Int) ≤ (b : Int) := by omega
                  by_cases hlt : b < bn
                  · have b1 : (b : Int) < (bn : Int) := by omega
                    obtain ⟨u, hu⟩ : ∃ u, bs[b]? = some u := ⟨bs[b], List.getElem?_eq_getElem (by omega)⟩
                    obtain ⟨gb, rfl, -, u0, -, u2, -, -⟩ := HK5.out.body b u hu
                    replace u0 : wc.cell? ⟨gb, b * 5, none⟩ = some (.int .i64 (u.b : Int)) := u0
                    have HEt : Hid (u.b = p.fin → ∀ m, Calls Tryd.prog 59 #[.pointer (some ⟨x, 0, none⟩), .int .i64 (b : Int)] (wc.drewN m) fun e w' => e = .returned (.int .i64 (kn : Int)) ∧ ∃ n, w' = wc.drewN n) := fun he m => by
                      have := entry_ok (HK5.out.dr m) (by omega) (by omega) b u hu
                      have hbody : (plD l p.fin).body = b + 1 := by rw [← he]; exact HBe.out b u hu (by rw [he]; exact HFz.out.1)
                      rw [he, HRL.out.yes p.fin b HFz.out.1 hbody, hpf] at this
                      refine this.mono ?_
                      rintro e w' ⟨rfl, n, rfl⟩
                      exact ⟨rfl, m + n, by rw [World.drewN_drewN]⟩
                    have HSk : Hid (¬(u.b = p.fin ∧ u.ar = (r.body : Int)) → (∀ (b' : Nat) (u : Bd), b' < b → bs[b']? = some u → ¬(u.b = p.fin ∧ u.ar = (r.body : Int))) → ∀ (b' : Nat) (u : Bd), b' < b + 1 → bs[b']? = some u → ¬(u.b = p.fin ∧ u.ar = (r.body : Int))) := fun hno hall b' u' hb' hu' => by
                      by_cases e : b' = b
                      · subst e; rw [hu] at hu'; rw [← Option.some.inj hu']; exact hno
                      · exact hall b' u' (by omega) hu'
                    clear hu
                    by_cases e1 : (u.b : Int) = (r.at_ : Int) + (r.sz : Int)
                    · have q1 : ((u.b : Int) == (r.at_ : Int) + (r.sz : Int)) = true := beq_iff_eq.2 e1
                      have q1d : decide ((u.b : Int) = (r.at_ : Int) + (r.sz : Int)) = true := decide_eq_true e1
                      have hef : u.b = p.fin := by have := HFF.out; omega
                      replace HEt := mkHid (HEt.out hef)
                      by_cases e2 : u.ar = (r.body : Int)
                      · have q2 : (u.ar == (r.body : Int)) = true := beq_iff_eq.2 e2
                        clear e1 e2 hef HSk hcs
                        go_wp2_with fail
                        go_quiet (fail)
                        go_wp2_with fail
                        refine (HEt.out (n0 + nq)).mono ?_
                        rintro e w7 ⟨he7, n7, hw7⟩
                        subst he7
                        subst hw7
                        go_wp2_with fail
                        go_roundw
                        case rel =>
                          exact ⟨⟨n7, rfl⟩, b + 1, by go_num, by omega, .inr rfl⟩
                        case measure => simp [intOf]; omega
                      · have q2 : (u.ar == (r.body : Int)) = false := beq_eq_false_iff_ne.2 e2
                        replace HSk := mkHid (HSk.out (fun hh => e2 hh.2))
                        clear e1 hef HEt
                        go_wp2_with fail
                        go_quiet (fail)
                        all_goals go_wp2_with fail
                        all_goals
                          go_roundw
                          case rel =>
                            refine ⟨⟨_, rfl⟩, b + 1, by go_num, by omega, ?_⟩
                            rcases hcs with ⟨hq, hh⟩ | hq
                            · exact .inl ⟨hq, HSk.out hh.out⟩
                            · exact .inr hq
                          case measure => simp [intOf]; omega
                    · have q1 : ((u.b : Int) == (r.at_ : Int) + (r.sz : Int)) = false := beq_eq_false_iff_ne.2 e1
                      replace HSk := mkHid (HSk.out (fun hh => e1 (by have := HFF.out; omega)))
                      clear HEt
                      go_wp2_with fail
                      go_quiet (fail)
                      all_goals go_wp2_with fail
                      all_goals
                        go_roundw
                        case rel =>
                          refine ⟨⟨_, rfl⟩, b + 1, by go_num, by omega, ?_⟩
                          rcases hcs with ⟨hq, hh⟩ | hq
                          · exact .inl ⟨hq, HSk.out hh.out⟩
                          · exact .inr hq
                        case measure => simp [intOf]; omega
                  · have b1 : decide ((b : Int) < (bn : Int)) = false := decide_eq_false (by omega)
                    have hq15 : ∃ q, q = Value.int .i64 (kn : Int) := ⟨_, rfl⟩
                    rcases hcs with ⟨rfl, hh⟩ | rfl
                    · obtain ⟨b', u, z1, z2, z3⟩ := HBxx.out
                      exact absurd ⟨z2, z3⟩ (hh.out b' u (by have := (List.getElem?_eq_some_iff.1 z1).1; omega) z1)
                    · cases hq : (q4.2 || q5.2)
                      all_goals go_wp2_with (go_at_call 72; refine (HRe.out _).mono ?_; rintro e w6 ⟨rfl, f6, k6⟩; have F6 := mkHid f6; have K6 := mkHid k6; clear f6 k6)
                      all_goals
                        go_meet
                        case rel => exact ⟨by rw [hq]; simp, HFr.out.trans ((Fr.drewN _ wc n0).trans F6.out (fun b hb => .inl hb)) (fun b hb => .inl hb), K6.out⟩
              · have h19 : ((r.op : Int) == 19) = false := beq_eq_false_iff_ne.2 (fun e => h2 (by rw [show p.op = 19 by omega]; rfl))
                have e6 := HQ6.out
                rw [if_neg h2] at e6
                have HS : Hid ((q4.2 || q5.2 || q6.2) = (q4.2 || q5.2) ∧ Fr (v :: blk (some ⟨gd, 0, none⟩)) w1 wc ∧ VW wc B v (dsOf l q6.1.dep) (some ⟨gd, 0, none⟩) cd v3.most q6.1.clash) := by
                  rw [← e6]
                  exact ⟨by simp, hW5.out.1, hW5.out.2⟩
                clear K5 g5 f5 e6 h2 hW5 ra rf ro rb
                go_wp2_with fail
                go_meet
                case rel => exact ⟨by rw [HS.out.1], HS.out.2⟩
            case rest =>
              obtain ⟨rfl, hW6⟩ := hcut
              clear hW5 K5 g5 f5 x0 x1 x2 x3
              have HZ : Hid (Fr (x :: v :: blk (some ⟨gd, 0, none⟩)) w wc ∧ WR wc B x F bs pb cb rs (some ⟨g, 0, none⟩) cr el 0 ∧ VW wc B v (dsOf l q6.1.dep) (some ⟨gd, 0, none⟩) cd v3.most q6.1.clash) := by
                obtain ⟨K6, -, f6⟩ := HWK.out wc hW6.out.1
                exact ⟨f6, K6, hW6.out.2⟩
              clear hW6
              go_wp2_with fail
              go_ret
              exact ⟨HZ.out.1, .inr ⟨HEnd.out, by rw [HFin.out]; rfl, HZ.out.2.1, by rw [HFin.out]; show VW wc B v (dsOf l q6.1.dep) _ cd q6.1.most q6.1.clash; rw [HM6.out]; exact HZ.out.2.2⟩⟩
end
end Go.Proofs.YtdflpoldlokijaaDoor
