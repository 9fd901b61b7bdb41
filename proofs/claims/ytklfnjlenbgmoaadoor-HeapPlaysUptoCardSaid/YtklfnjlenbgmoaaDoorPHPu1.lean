import Derived.Test.YtklfnjlenbgmoaaDoorPHPu0
import Derived.Test.YtklfnjlenbgmoaaDoorPG25RKeep
import Derived.Deep.RegionHeld3
set_option linter.unusedSimpArgs false
set_option linter.unusedVariables false
namespace Go.Proofs.YtklfnjlenbgmoaaDoor
open Go.RowKit Go.Maps
attribute [local go_sem ↓] Go.wp_at_zero Go.wp_at_succ
set_option maxRecDepth 20000 in
set_option maxHeartbeats 4000000 in
theorem mr_keep (O A B C X : Int) (zs : List Int) (ao : Option Addr) (cc : Nat) (n a : Nat) (y : Wl) (w : World) (h : WOk w n a y) (ha : a ≤ 1) (hn : n ≤ 4000000) (hzl : zs.length ≤ 1048576) (hL : Rd w (.slice ao zs.length cc) zs) (hNL : 0 < zs.length → ∀ g, (Value.slice ao zs.length cc).ownBlock = some g → ¬ Liv y g) :
  Calls Tryd.prog 89 #[.pointer (some ⟨y.b, 0, none⟩), stepV 11 O A B C X (.slice ao zs.length cc), .int .i64 (a : Int)] w fun e w' => e = .returned (.bool true) ∧ StepTo w n y w' := by
 have F0 : Fr [] w (w.alloc (.cells #[.int .i64 11, .int .i64 O, .int .i64 A, .int .i64 B, .int .i64 C, .int .i64 X, .slice ao zs.length cc] 58)) := Fr.alloc [] _ _
 have HF0 := mkHid F0
 have HY : Hid (WOk (w.alloc (.cells #[.int .i64 11, .int .i64 O, .int .i64 A, .int .i64 B, .int .i64 C, .int .i64 X, .slice ao zs.length cc] 58)) n a y) := h.idle F0
 have HSt : Hid (∀ w', StepTo (w.alloc (.cells #[.int .i64 11, .int .i64 O, .int .i64 A, .int .i64 B, .int .i64 C, .int .i64 X, .slice ao zs.length cc] 58)) n y w' → StepTo w n y w') := fun w' ⟨x', t', q1, q2, q3, q4⟩ => ⟨x', t', q1, q2, q3, (Go1.idle y F0).trans q4⟩
 have HBl : Hid (∀ V Y, Fr Y (w.alloc (.cells #[.int .i64 11, .int .i64 O, .int .i64 A, .int .i64 B, .int .i64 C, .int .i64 X, .slice ao zs.length cc] 58)) V → (∀ g ∈ Y, g < w.heap.size) → V.heap[w.heap.size]? = some (.cells #[.int .i64 11, .int .i64 O, .int .i64 A, .int .i64 B, .int .i64 C, .int .i64 X, .slice ao zs.length cc] 58 (0, 0))) := fun V Y hV hX => (hV.block w.heap.size (by simp) (fun hm => by have := hX _ hm; omega)).trans (heap_alloc_new w _)
 have HLt : Hid (∀ g, Liv y g → g < w.heap.size) := fun g hg => h.lt hg
 obtain ⟨c0, c1⟩ := cells_of HY.out ha a ha
 have eA : y.at a a = y.dA := if_pos rfl
 rw [eA] at c0 c1
 have a1 : (0 : Int) ≤ (a : Int) := by omega
 have a2 : (a : Int) < 2 := by omega
 have a3 : IntKind.i64.wrap (a : Int) = (a : Int) := by rw [iwrap]; unfold wrap64; omega
 have HRd := mkHid (hL.idle F0)
 have HNL := mkHid hNL
 obtain ⟨vv, wv, rv, ov, fv⟩ := run_copyI zs (.slice ao zs.length cc) _ (hL.idle F0)
 obtain ⟨⟨pv, nv, cv⟩, ev, env_, -⟩ := le_of ov
 replace ev : Value.slice pv nv cv = vv := ev
 replace env_ : nv = zs.length := env_
 subst ev
 subst env_
 have HRun1 := mkHid rv
 have HOv := mkHid ov
 have HFv := mkHid fv
 have sv := fv.size
 obtain ⟨g, c2, w5, r5, o5, f5, lg⟩ := run_two wv _ pv cv zs ov sv (by omega)
 have HRun2 := mkHid r5
 have HO5 := mkHid o5
 have hlg : Hid (w.heap.size < g) := mkHid (by simp at lg; omega)
 have F5 : Hid (Fr [] (w.alloc (.cells #[.int .i64 11, .int .i64 O, .int .i64 A, .int .i64 B, .int .i64 C, .int .i64 X, .slice ao zs.length cc] 58)) w5) := mkHid (fv.trans f5 fun b hb => .inr ((ov.lt b ((blk_own _ _ _ _).2 hb)).1))
 have hc2 : zs.length + 2 ≤ c2 := by
  rcases o5.2 with ⟨h2, h3⟩ | ⟨g', cap, cur, h2, z1, z2, z3, z4, z5, z6⟩
  ·cases h2
  ·injection h2 with _ _ h2
   omega
 have z1 : (0 : Int) ≤ (zs.length : Int) := by omega
 have z2 : (zs.length : Int) ≤ (c2 : Int) := by omega
 have b6 : w5.cell? ⟨w.heap.size, 6, none⟩ = some (.slice ao zs.length cc) := by rw [cell_in (HBl.out w5 [] F5.out (by simp))]; rfl
 clear hL hNL rv ov fv r5 o5 f5 lg sv
 clear h F0
 unfold stepV
 go_enter Tryd.func89, Tryd.ntmps89
 go_wp2_with (at_builtin; first | refine Lib.wpList_append_run _ rfl (.const _) (.tmp _) 22 22 rfl _ _ rfl rfl _ _ HRun1.out ?_ | refine Lib.wpList_append_run _ rfl (.tmp _) (.tmp _) 22 22 rfl _ _ rfl rfl _ _ HRun2.out ?_)
 generalize w.alloc (.cells #[.int .i64 11, .int .i64 O, .int .i64 A, .int .i64 B, .int .i64 C, .int .i64 X, .slice ao zs.length cc] 58) = W0 at *
 obtain ⟨s0, hs0⟩ : ∃ s0, s0 = w.heap.size := ⟨_, rfl⟩
 rw [← hs0] at HBl HLt
 try rw [← hs0] at hlg
 try rw [← hs0] at b6
 try rw [← hs0]
 clear hs0
 have HNg : Hid (¬ Liv y g) := fun hm => by have := HLt.out g hm; have := hlg.out; omega
 have HY5 : Hid (WOk w5 n a y) := HY.out.idle F5.out
 have HFg : Rd w5 (.slice (some ⟨g, 0, none⟩) zs.length c2) zs := own_front HO5.out (by omega)
 obtain ⟨k1, k2, k3, Q, hz, hBo⟩ := both_keep w5 n y.dA zs (some ⟨g, 0, none⟩) c2 ao cc HY5.out.okA HY5.out.tb (by omega) hzl HFg (fun _ g' hg' hm => by
  have e : g = g' := by simpa [Value.ownBlock] using hg'
  exact HNg.out (liv4 (e ▸ hm))) (fun g' off t e => by injection e with e; injection e with e1 e2; exact e2.symm) (HRd.out.idle F5.out) (fun h0 g' hg' hm => HNL.out h0 g' hg' (liv4 hm))
 have HBo := mkHid hBo
 have HKp : Hid (∀ V p q, Hid (Q p q V) → V.cell? ⟨s0, 6, none⟩ = some (.slice ao zs.length cc) ∧ V.cell? ⟨s0, 4, none⟩ = some (.int .i64 C) ∧ V.ownsRow W0.heap.size 3 1 (.slice (some ⟨g, 0, none⟩) (zs.length + 2) c2) (zs.length + 2) ((zs ++ [-7, -8]).map (Value.int .i64)) ∧ Rd V (.slice ao zs.length cc) zs ∧ V.heap[s0]? = some (.cells #[.int .i64 11, .int .i64 O, .int .i64 A, .int .i64 B, .int .i64 C, .int .i64 X, .slice ao zs.length cc] 58 (0, 0))) := fun V p q hq => by
  have hf := HBo.out.frm hq.out
  have hb := HBl.out V _ ((F5.out.mono (by simp)).trans hf fun g hg => .inl hg) fun g hg => HLt.out g (liv4 hg)
  refine ⟨by rw [cell_in hb]; rfl, by rw [cell_in hb]; rfl, own_congr HO5.out fun b hb' => hf.block b (HO5.out.lt b hb').2 (fun hm => ?_), (HRd.out.idle F5.out).keep hf fun h0 g' hg' hm => HNL.out h0 g' hg' (liv4 hm), hb⟩
  have e : g = b := by simpa [Value.ownBlock] using hb'
  exact HNg.out (liv4 (e ▸ hm))
 have HS0 : Hid (∀ V, Hid (Q true true V) → s0 < V.heap.size) := fun V hq => lt_of_heap (HBl.out V _ ((F5.out.mono (by simp)).trans (HBo.out.frm hq.out) fun g hg => .inl hg) fun g hg => HLt.out g (liv4 hg))
 have H34 := mkHid (HBo.out.prog HBo.out.start)
 have H111 : Hid (∀ V, Hid (Q true false V) → Calls Tryd.prog 111 #[vR y.dA, .slice ao zs.length cc] V fun e w'' => e = .returned (.tuple #[.int .i64 k1, .int .i64 k2, .int .i64 k3]) ∧ Hid (Q true true w'')) := fun V hV => HBo.out.docu hV.out
 have HDn : Hid (∀ V, Hid (Q true true V) → ∃ y1 : Wl, Hid (y1.b = y.b) ∧ Hid (WOk V (n + 1) a y1) ∧ Hid (Go1 w5 V y y1) ∧ Hid (vO y1.dA = vO y.dA ∧ vR y1.dA = vR y.dA)) := fun V hV => by
  obtain ⟨D', hp⟩ := HBo.out.done hV.out
  exact ⟨{ y with dA := D' }, mkHid rfl, HY5.out.pair (by omega) hp, go_pair hp, mkHid ⟨hp.pO, hp.pR⟩⟩
 have HN0 : Hid (¬ Liv y s0 ∧ s0 < w5.heap.size ∧ s0 < g) := mkHid ⟨fun hm => by have := HLt.out s0 hm; omega, lt_of_heap (HBl.out w5 [] F5.out (by simp)), hlg.out⟩
 have HG5 : Hid (g < w5.heap.size ∧ W0.heap.size ≤ g ∧ 2 ≤ g) := mkHid ⟨(HO5.out.lt g rfl).2, (HO5.out.lt g rfl).1, by have := (HO5.out.lt g rfl).1; have := HY.out.tb.s; omega⟩
 clear hBo HBo HFg HRun1 HRun2 HOv HFv HY HY5
 generalize vO y.dA = vo at *
 generalize vR y.dA = vr at *
 refine H34.out.mono ?_
 rintro e w6 ⟨rfl, q6⟩
 replace q6 : Hid (Q true false w6) := q6
 obtain ⟨b6, -, -, -, -⟩ := HKp.out w6 _ _ q6
 go_wp2_with fail
 refine (H111.out w6 q6).mono ?_
 rintro e w7 ⟨rfl, q7⟩
 obtain ⟨b6, b4, o7, rd7, hb7⟩ := HKp.out w7 _ _ q7
 have HB7 := mkHid hb7
 obtain ⟨y1, hy1, HY7, HG7, HV7⟩ := HDn.out w7 q7
 have HO7 := mkHid o7
 have HM7 : Hid (∀ V, Hid (Fr [] w7 V) → Calls Tryd.prog 91 #[.slice (some ⟨g, 0, none⟩) zs.length c2, .slice ao zs.length cc] V fun e w' => e = .returned (.bool true) ∧ ∃ n, w' = V.drewN n) := fun V hV => sameInts_ok zs (.slice (some ⟨g, 0, none⟩) zs.length c2) (.slice ao zs.length cc) V ((own_front o7 (by omega)).idle hV.out) (rd7.idle hV.out)
 have HC7 : Hid (∀ V, Hid (Fr [] w7 V) → V.cell? ⟨s0, 6, none⟩ = some (.slice ao zs.length cc) ∧ V.cell? ⟨s0, 4, none⟩ = some (.int .i64 C) ∧ V.cell? ⟨g, zs.length, none⟩ = some (.int .i64 (-7)) ∧ V.cell? ⟨g, zs.length + 1, none⟩ = some (.int .i64 (-8))) := fun V hV => by
  have l0 : s0 < w7.heap.size := HS0.out w7 q7
  have l1 : g < w7.heap.size := (o7.lt g rfl).2
  have y1 := own_get (ls := zs ++ [-7, -8]) o7 zs.length (by simp)
  have y2 := own_get (ls := zs ++ [-7, -8]) o7 (zs.length + 1) (by simp)
  simp [List.getD_eq_getElem?_getD] at y1 y2
  exact ⟨(hV.out.cell (p := ⟨s0, 6, none⟩) l0 (by simp)).trans b6, (hV.out.cell (p := ⟨s0, 4, none⟩) l0 (by simp)).trans b4, (hV.out.cell (p := ⟨g, _, none⟩) l1 (by simp)).trans y1, (hV.out.cell (p := ⟨g, _, none⟩) l1 (by simp)).trans y2⟩
 have HRd7 := mkHid rd7
 clear o7 rd7 hb7 q6 q7 H34 H111 HKp HDn HO5
 go_wp2_with fail
 have u0 : Hid (Fr [] w7 w7.drew) := Fr.drew [] w7
 have z3 : (zs.length : Int) < (zs.length : Int) + 2 := by omega
 have z4 : (zs.length : Int) + 1 < (zs.length : Int) + 2 := by omega
 have z5 : IntKind.i64.wrap ((zs.length : Int) + 1) = (zs.length : Int) + 1 := by rw [iwrap]; unfold wrap64; omega
 have z6 : ((zs.length : Int) + 1).toNat = zs.length + 1 := by omega
 have z7 : (0 : Int) ≤ (zs.length : Int) + 1 := by omega
 go_region_held3 (fun V => V.cell? ⟨s0, 6, none⟩ = some (.slice ao zs.length cc) ∧ V.cell? ⟨s0, 4, none⟩ = some (.int .i64 C) ∧ V.cell? ⟨g, zs.length, none⟩ = some (.int .i64 (-7)) ∧ V.cell? ⟨g, zs.length + 1, none⟩ = some (.int .i64 (-8)))
  (first
   | exact HC7.out _ u1
   | exact HC7.out _ u0)
  (first
   | (go_at_call 11; refine (num_any _ _ (by omega) (by omega)).mono ?_; rintro e w' ⟨rfl, hw'⟩; subst hw')
   | (go_at_call 91; refine (HM7.out _ u0).mono ?_; rintro e w8 ⟨rfl, n8, e8⟩; have u1 : Hid (Fr [] w7 w8) := (by rw [e8]; exact hid_tr u0 (Fr.drewN [] _ _)); clear e8))
 by_cases hb2 : 1 < zs.length ∧ ¬ C.tmod 2 = 0
 ·obtain ⟨hb3, hb4⟩ := hb2
  obtain ⟨b6, b4, -, -⟩ := HC7.out w8 u1
  have v1 : (1 : Int) < (zs.length : Int) := by omega
  have o8 : w8.ownsRow W0.heap.size 3 1 (.slice (some ⟨g, 0, none⟩) (zs.length + 2) c2) (zs.length + 2) ((zs ++ [-7, -8]).map (Value.int .i64)) := own_congr HO7.out fun b hb => u1.out.block b (HO7.out.lt b hb).2 (by simp)
  have x0 := own_get (ls := zs ++ [-7, -8]) o8 0 (by simp)
  have x1 := own_get (ls := zs ++ [-7, -8]) o8 1 (by simp)
  obtain ⟨m1, hm1⟩ : ∃ m1, (zs ++ [-7, -8]).getD 1 0 = m1 := ⟨_, rfl⟩
  obtain ⟨m0, hm0⟩ : ∃ m0, (zs ++ [-7, -8]).getD 0 0 = m0 := ⟨_, rfl⟩
  rw [hm1] at x1
  rw [hm0] at x0
  obtain ⟨cur, hcur⟩ : ∃ cur, w8.heap[g]? = some (.cells cur 3 (0, 0)) := row_block o8 rfl
  have x2 := frozen_in hcur 0
  obtain ⟨zt, hzt⟩ : ∃ zt, zt = zs.set 0 m1 := ⟨_, rfl⟩
  have hlt : zt.length = zs.length := by rw [hzt]; simp
  have F9 : Fr [g] w8 (w8.setCell ⟨g, 0, none⟩ (.int .i64 m1)) := Fr.setCell (S := [g]) _ ⟨g, 0, none⟩ _ (by simp)
  have o9 : (w8.setCell ⟨g, 0, none⟩ (.int .i64 m1)).ownsRow 0 3 1 (.slice (some ⟨g, 0, none⟩) (zs.length + 2) c2) (zs.length + 2) ((zt ++ [-7, -8]).map (Value.int .i64)) := by
   have := own_stored (own_base o8 (Nat.zero_le _)) 0 (.int .i64 m1)
   rw [← List.map_set, List.set_append_left _ _ (by omega), ← hzt] at this
   exact this
  have HY9 : WOk (w8.setCell ⟨g, 0, none⟩ (.int .i64 m1)) (n + 1) a y1 := (HY7.out.idle u1.out).apart F9 (HG7.out.not HNg.out HG5.out.1) HG5.out.2.2 (row_cel o9)
  have HG9 : Go1 W0 (w8.setCell ⟨g, 0, none⟩ (.int .i64 m1)) y y1 := (((Go1.idle y F5.out).trans HG7.out).trans (Go1.idle y1 u1.out)).over F9 HG5.out.2.1
  have hb9 : (w8.setCell ⟨g, 0, none⟩ (.int .i64 m1)).heap[s0]? = some (.cells #[.int .i64 11, .int .i64 O, .int .i64 A, .int .i64 B, .int .i64 C, .int .i64 X, .slice ao zs.length cc] 58 (0, 0)) := (F9.block s0 (by have := HN0.out.2.1; have := HG7.out.size; have := u1.out.size; omega) (by have := HN0.out.2.2; simp; omega)).trans ((u1.out.block s0 (lt_of_heap HB7.out) (by simp)).trans HB7.out)
  have rd9 : Rd (w8.setCell ⟨g, 0, none⟩ (.int .i64 m1)) (.slice (some ⟨g, 0, none⟩) zs.length c2) zt := by
   have := own_front o9 (by omega)
   rw [hlt] at this
   exact this
  obtain ⟨vc, wc, rc, oc, fc⟩ := run_copyI zt _ _ rd9
  obtain ⟨⟨pc, nc, cx⟩, ec, enc, gc⟩ := le_of oc
  replace ec : Value.slice pc nc cx = vc := ec
  replace enc : nc = zt.length := enc
  rw [hlt] at enc
  subst ec
  subst enc
  have HYc : Hid (WOk wc (n + 1) a y1) := HY9.idle fc
  have HGc : Hid (Go1 W0 wc y y1) := HG9.trans (Go1.idle y1 fc)
  have oGc : wc.ownsRow 0 3 1 (.slice (some ⟨g, 0, none⟩) (zs.length + 2) c2) (zs.length + 2) ((zt ++ [-7, -8]).map (Value.int .i64)) := own_congr o9 fun b hb => fc.block b (o9.lt b hb).2 (by simp)
  have hbc := (fc.block s0 (lt_of_heap hb9) (by simp)).trans hb9
  have rdc1 : Rd wc (.slice (some ⟨g, 0, none⟩) zt.length c2) zt := own_front oGc (by omega)
  have rdc2 : Rd wc (.slice pc zt.length cx) zt := by
   have := own_rd oc (by omega)
   rw [← hlt] at this
   exact this
  have ngy : ¬ Liv y1 g := HG7.out.not HNg.out HG5.out.1
  have nsy : ¬ Liv y1 s0 := HG7.out.not HN0.out.1 HN0.out.2.1
  have npc : ∀ b ∈ blk pc, ¬ Liv y1 b := fun b hb hm => by
   have := (oc.lt b ((gc b).1 hb)).1
   have := HY9.lt hm
   omega
  obtain ⟨j1, j2, j3, Q2, hz2, hBo2⟩ := both_keep wc (n + 1) y1.dA zt (some ⟨g, 0, none⟩) c2 pc cx HYc.out.okA HYc.out.tb (by omega) (by omega) rdc1 (fun _ g' hg' hm => by
   have e : g = g' := by simpa [Value.ownBlock] using hg'
   exact ngy (liv4 (e ▸ hm))) (fun g' off t e => by injection e with e; injection e with e1 e2; exact e2.symm) rdc2 (fun h0 g' hg' hm => npc g' (by rw [hlt] at hg'; exact (gc g').2 hg') (liv4 hm))
  rw [hlt, HV7.out.1, HV7.out.2] at hBo2
  have HBo2 := mkHid hBo2
  have HKp2 : Hid (∀ V p q, Hid (Q2 p q V) → V.cell? ⟨s0, 6, none⟩ = some (.slice ao zs.length cc) ∧ V.ownsRow 0 3 1 (.slice (some ⟨g, 0, none⟩) (zs.length + 2) c2) (zs.length + 2) ((zt ++ [-7, -8]).map (Value.int .i64)) ∧ Rd V (.slice pc zs.length cx) zt ∧ s0 < V.heap.size) := fun V p q hq => by
   have hf := HBo2.out.frm hq.out
   have hb := (hf.block s0 (lt_of_heap hbc) fun hm => nsy (liv4 hm)).trans hbc
   refine ⟨by rw [cell_in hb]; rfl, own_congr oGc fun b hb' => hf.block b (oGc.lt b hb').2 (fun hm => ?_), ?_, lt_of_heap hb⟩
   ·have e : g = b := by simpa [Value.ownBlock] using hb'
    exact ngy (liv4 (e ▸ hm))
   ·have := rdc2.keep hf fun h0 g' hg' hm => npc g' (by rw [hlt] at hg'; exact (gc g').2 hg') (liv4 hm)
    rw [hlt] at this
    exact this
  have H34 := mkHid (HBo2.out.prog HBo2.out.start)
  have H111 : Hid (∀ V, Hid (Q2 true false V) → Calls Tryd.prog 111 #[vr, .slice pc zs.length cx] V fun e w'' => e = .returned (.tuple #[.int .i64 j1, .int .i64 j2, .int .i64 j3]) ∧ Hid (Q2 true true w'')) := fun V hV => HBo2.out.docu hV.out
  have HDn2 : Hid (∀ V, Hid (Q2 true true V) → ∃ y2 : Wl, Hid (y2.b = y.b) ∧ Hid (WOk V (n + 2) a y2) ∧ Hid (Go1 W0 V y y2) ∧ Hid (¬ Liv y2 g)) := fun V hV => by
   obtain ⟨D', hp⟩ := HBo2.out.done hV.out
   have gp := go_pair hp
   exact ⟨{ y1 with dA := D' }, mkHid hy1.out, HYc.out.pair (by omega) hp, HGc.out.trans gp, gp.not ngy (oGc.lt g rfl).2⟩
  have b6c := (HKp2.out wc _ _ HBo2.out.start).1
  have HRun3 := mkHid rc
  clear hBo2 HBo2 rc oc fc gc HYc HGc oGc hbc rdc1 rdc2 ngy nsy npc o8 o9 F9 HY9 HG9 hb9 rd9 hcur HM7 HC7 HRd7 HO7 HY7 HG7 HB7 hm1 hm0 hzt HNL HRd
  go_wp2_with (at_builtin; refine Lib.wpList_append_run _ rfl (.const _) (.tmp _) 22 22 rfl _ _ rfl rfl _ _ HRun3.out ?_)
  refine H34.out.mono ?_
  rintro e w11 ⟨rfl, q11⟩
  replace q11 : Hid (Q2 true false w11) := q11
  obtain ⟨b6d, -, -, -⟩ := HKp2.out w11 _ _ q11
  go_wp2_with fail
  refine (H111.out w11 q11).mono ?_
  rintro e w13 ⟨rfl, q13⟩
  obtain ⟨b6e, o13, rd13, l13⟩ := HKp2.out w13 _ _ q13
  obtain ⟨y2, hy2, HY13, HG13, HN13⟩ := HDn2.out w13 q13
  have HO13 := mkHid o13
  have HM13 : Hid (∀ V, Hid (Fr [] w13 V) → Calls Tryd.prog 91 #[.slice (some ⟨g, 0, none⟩) zs.length c2, .slice pc zs.length cx] V fun e w' => e = .returned (.bool true) ∧ ∃ n, w' = V.drewN n) := fun V hV => sameInts_ok zt (.slice (some ⟨g, 0, none⟩) zs.length c2) (.slice pc zs.length cx) V (by
   have := (own_front o13 (by omega)).idle hV.out
   rw [hlt] at this
   exact this) (rd13.idle hV.out)
  have HC13 : Hid (∀ V, Hid (Fr [] w13 V) → V.cell? ⟨s0, 6, none⟩ = some (.slice ao zs.length cc)) := fun V hV => (hV.out.cell (p := ⟨s0, 6, none⟩) l13 (by simp)).trans b6e
  have t0 : Hid (Fr [] w13 w13.drew) := Fr.drew [] w13
  clear o13 rd13 q11 q13 H34 H111 HKp2 HDn2 l13
  go_wp2_with (go_at_call 11; refine (num_any _ _ (by omega) (by omega)).mono ?_; rintro e w' ⟨rfl, hw'⟩; rw [hw']; clear hw' w')
  refine (HM13.out w13 (Fr.refl _ _)).mono ?_
  rintro e w14 ⟨rfl, n14, e14⟩
  have t1 : Hid (Fr [] w13 w14) := mkHid (by rw [e14]; exact Fr.drewN [] _ _)
  clear e14
  have HXl : Hid ((zt ++ [-7, -8]).length = zs.length + 2) := mkHid (by rw [List.length_append, hlt]; rfl)
  have HRowL : Hid (w14.ownsRow 0 3 1 (.slice (some ⟨g, 0, none⟩) (zs.length + 2) c2) (zs.length + 2) ((zt ++ [-7, -8]).map (Value.int .i64))) := mkHid (own_congr HO13.out fun b hb => t1.out.block b (HO13.out.lt b hb).2 (by simp))
  have HFin : Hid (∀ V', Hid (Fr [g] w14 V') → Cel V' g → StepTo w n y V') := fun V' hV' hc => HSt.out V' ⟨y2, a, ha, hy2.out, ((HY13.out.idle t1.out).apart hV'.out HN13.out HG5.out.2.2 hc).more (by omega), ((HG13.out.trans (Go1.idle y2 t1.out)).over hV'.out HG5.out.2.1)⟩
  clear HM13 HC13 HO13 HY13 HG13 HSt
  go_wp2_with fail
  go_loopw [18] (fun q wr => ∃ j : Nat, j ≤ zs.length + 2 ∧ q = .int .i64 j ∧ Hid (wr.ownsRow 0 3 1 (.slice (some ⟨g, 0, none⟩) (zs.length + 2) c2) (zs.length + 2) ((onesK (zt ++ [-7, -8]) j).map (Value.int .i64))) ∧ Hid (Fr [g] w14 wr)) (fun q _ => zs.length + 2 - (intOf q).toNat)
  case atStart => exact ⟨0, Nat.zero_le _, rfl, mkHid (by unfold onesK; simpa using own_base HRowL.out (Nat.zero_le _)), Fr.refl _ _⟩
  case round =>
   obtain ⟨j, hjn, rfl, hown, hq⟩ := hrel
   have j1 : (0 : Int) ≤ (j : Int) := by omega
   by_cases hlt : j < zs.length + 2
   ·have j2 : (j : Int) < (zs.length : Int) + 2 := by omega
    have hwl := onesK_len (zt ++ [-7, -8]) j (by rw [HXl.out]; exact hjn)
    have x1 := own_get hown.out j (by rw [hwl, HXl.out]; exact hlt)
    obtain ⟨cur, hcur⟩ : ∃ cur, wr.heap[g]? = some (.cells cur 3 (0, 0)) := row_block hown.out rfl
    have x2 := frozen_in hcur j
    have HO2 : Hid ((wr.setCell ⟨g, j, none⟩ (.int .i64 1)).ownsRow 0 3 1 (.slice (some ⟨g, 0, none⟩) (zs.length + 2) c2) (zs.length + 2) ((onesK (zt ++ [-7, -8]) (j + 1)).map (Value.int .i64))) := by
     have := (hown.out.stored j (.int .i64 1)).1
     rw [← List.map_set, onesK_set (zt ++ [-7, -8]) j (by rw [HXl.out]; exact hlt)] at this
     exact this
    have HF2 : Hid (Fr [g] w14 (wr.setCell ⟨g, j, none⟩ (.int .i64 1))) := hq.out.trans (Fr.setCell (S := [g]) _ ⟨g, j, none⟩ _ (by simp)) (fun b hb => .inl hb)
    generalize (onesK (zt ++ [-7, -8]) j).getD j 0 = uu at *
    clear hown hcur hwl hq
    go_wp2_with fail
    go_roundw
    case rel => exact ⟨j + 1, by omega, by go_num, HO2, HF2⟩
    case measure => simp [intOf]; omega
   ·have j2 : ¬ (j : Int) < (zs.length : Int) + 2 := by omega
    have HZ := mkHid (HFin.out wr hq (row_cel hown.out))
    clear hown hq
    go_wp2_with fail
    go_ret
    exact ⟨rfl, HZ.out⟩
 ·have HXl : Hid ((zs ++ [-7, -8]).length = zs.length + 2) := mkHid (by simp)
  have HRowL : Hid (w8.ownsRow W0.heap.size 3 1 (.slice (some ⟨g, 0, none⟩) (zs.length + 2) c2) (zs.length + 2) ((zs ++ [-7, -8]).map (Value.int .i64))) := mkHid (own_congr HO7.out fun b hb => u1.out.block b (HO7.out.lt b hb).2 (by simp))
  have HFin : Hid (∀ V', Hid (Fr [g] w8 V') → Cel V' g → StepTo w n y V') := fun V' hV' hc => HSt.out V' ⟨y1, a, ha, hy1.out, ((HY7.out.idle u1.out).apart hV'.out (HG7.out.not HNg.out HG5.out.1) HG5.out.2.2 hc).more (by omega), ((((Go1.idle y F5.out).trans HG7.out).trans (Go1.idle y1 u1.out)).over hV'.out HG5.out.2.1)⟩
  obtain ⟨b6, b4, -, -⟩ := HC7.out w8 u1
  have hor : ¬ (1 : Int) < (zs.length : Int) ∨ C.tmod 2 = 0 := by
   by_cases h1 : 1 < zs.length
   ·right
    by_cases h2 : C.tmod 2 = 0
    ·exact h2
    ·exact absurd ⟨h1, h2⟩ hb2
   ·left; omega
  clear HM7 HC7 HRd7 HO7 HY7 HG7 hb2 HSt HNL HRd
  by_cases h1 : (1 : Int) < (zs.length : Int)
  ·have h2 : C.tmod 2 = 0 := by
    rcases hor with q | q
    ·exact absurd h1 q
    ·exact q
   clear hor
   go_wp2_with fail
   go_loopw [18] (fun q wr => ∃ j : Nat, j ≤ zs.length + 2 ∧ q = .int .i64 j ∧ Hid (wr.ownsRow 0 3 1 (.slice (some ⟨g, 0, none⟩) (zs.length + 2) c2) (zs.length + 2) ((onesK (zs ++ [-7, -8]) j).map (Value.int .i64))) ∧ Hid (Fr [g] w8 wr)) (fun q _ => zs.length + 2 - (intOf q).toNat)
   case atStart => exact ⟨0, Nat.zero_le _, rfl, mkHid (by unfold onesK; simpa using own_base HRowL.out (Nat.zero_le _)), Fr.refl _ _⟩
   case round =>
    obtain ⟨j, hjn, rfl, hown, hq⟩ := hrel
    have j1 : (0 : Int) ≤ (j : Int) := by omega
    by_cases hlt : j < zs.length + 2
    ·have j2 : (j : Int) < (zs.length : Int) + 2 := by omega
     have hwl := onesK_len (zs ++ [-7, -8]) j (by rw [HXl.out]; exact hjn)
     have x1 := own_get hown.out j (by rw [hwl, HXl.out]; exact hlt)
     obtain ⟨cur, hcur⟩ : ∃ cur, wr.heap[g]? = some (.cells cur 3 (0, 0)) := row_block hown.out rfl
     have x2 := frozen_in hcur j
     have HO2 : Hid ((wr.setCell ⟨g, j, none⟩ (.int .i64 1)).ownsRow 0 3 1 (.slice (some ⟨g, 0, none⟩) (zs.length + 2) c2) (zs.length + 2) ((onesK (zs ++ [-7, -8]) (j + 1)).map (Value.int .i64))) := by
      have := (hown.out.stored j (.int .i64 1)).1
      rw [← List.map_set, onesK_set (zs ++ [-7, -8]) j (by rw [HXl.out]; exact hlt)] at this
      exact this
     have HF2 : Hid (Fr [g] w8 (wr.setCell ⟨g, j, none⟩ (.int .i64 1))) := hq.out.trans (Fr.setCell (S := [g]) _ ⟨g, j, none⟩ _ (by simp)) (fun b hb => .inl hb)
     generalize (onesK (zs ++ [-7, -8]) j).getD j 0 = uu at *
     clear hown hcur hwl hq
     go_wp2_with fail
     go_roundw
     case rel => exact ⟨j + 1, by omega, by go_num, HO2, HF2⟩
     case measure => simp [intOf]; omega
    ·have j2 : ¬ (j : Int) < (zs.length : Int) + 2 := by omega
     have HZ := mkHid (HFin.out wr hq (row_cel hown.out))
     clear hown hq
     go_wp2_with fail
     go_ret
     exact ⟨rfl, HZ.out⟩
  ·clear hor
   go_wp2_with fail
   go_loopw [18] (fun q wr => ∃ j : Nat, j ≤ zs.length + 2 ∧ q = .int .i64 j ∧ Hid (wr.ownsRow 0 3 1 (.slice (some ⟨g, 0, none⟩) (zs.length + 2) c2) (zs.length + 2) ((onesK (zs ++ [-7, -8]) j).map (Value.int .i64))) ∧ Hid (Fr [g] w8 wr)) (fun q _ => zs.length + 2 - (intOf q).toNat)
   case atStart => exact ⟨0, Nat.zero_le _, rfl, mkHid (by unfold onesK; simpa using own_base HRowL.out (Nat.zero_le _)), Fr.refl _ _⟩
   case round =>
    obtain ⟨j, hjn, rfl, hown, hq⟩ := hrel
    have j1 : (0 : Int) ≤ (j : Int) := by omega
    by_cases hlt : j < zs.length + 2
    ·have j2 : (j : Int) < (zs.length : Int) + 2 := by omega
     have hwl := onesK_len (zs ++ [-7, -8]) j (by rw [HXl.out]; exact hjn)
     have x1 := own_get hown.out j (by rw [hwl, HXl.out]; exact hlt)
     obtain ⟨cur, hcur⟩ : ∃ cur, wr.heap[g]? = some (.cells cur 3 (0, 0)) := row_block hown.out rfl
     have x2 := frozen_in hcur j
     have HO2 : Hid ((wr.setCell ⟨g, j, none⟩ (.int .i64 1)).ownsRow 0 3 1 (.slice (some ⟨g, 0, none⟩) (zs.length + 2) c2) (zs.length + 2) ((onesK (zs ++ [-7, -8]) (j + 1)).map (Value.int .i64))) := by
      have := (hown.out.stored j (.int .i64 1)).1
      rw [← List.map_set, onesK_set (zs ++ [-7, -8]) j (by rw [HXl.out]; exact hlt)] at this
      exact this
     have HF2 : Hid (Fr [g] w8 (wr.setCell ⟨g, j, none⟩ (.int .i64 1))) := hq.out.trans (Fr.setCell (S := [g]) _ ⟨g, j, none⟩ _ (by simp)) (fun b hb => .inl hb)
     generalize (onesK (zs ++ [-7, -8]) j).getD j 0 = uu at *
     clear hown hcur hwl hq
     go_wp2_with fail
     go_roundw
     case rel => exact ⟨j + 1, by omega, by go_num, HO2, HF2⟩
     case measure => simp [intOf]; omega
    ·have j2 : ¬ (j : Int) < (zs.length : Int) + 2 := by omega
     have HZ := mkHid (HFin.out wr hq (row_cel hown.out))
     clear hown hq
     go_wp2_with fail
     go_ret
     exact ⟨rfl, HZ.out⟩
end Go.Proofs.YtklfnjlenbgmoaaDoor
