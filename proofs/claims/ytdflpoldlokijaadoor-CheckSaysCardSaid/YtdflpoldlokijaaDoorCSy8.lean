import Derived.Test.YtdflpoldlokijaaDoorG29CSy7
import Derived.Test.YtdflpoldlokijaaDoorCRfH
namespace Go.Proofs.YtdflpoldlokijaaDoor
open Go.RowKit
set_option linter.unusedVariables false
set_option linter.unusedSimpArgs false
attribute [local go_sem ↓] Go.wp_at_zero Go.wp_at_succ
def argW2 (w : World) (c b : Array Value) : World := (w.alloc (.cells c 25)).alloc (.cells b 27)
theorem argW2_fr (w : World) (c b : Array Value) : Fr [] w (argW2 w c b) := ((Fr.refl [] w).al _).al _
theorem argW2_c (w : World) (c b : Array Value) : (argW2 w c b).heap[w.heap.size]? = some (.cells c 25 (0, 0)) := (Fr.alloc [] _ _).hb (heap_alloc_new w _)
theorem argW2_b (w : World) (c b : Array Value) : (argW2 w c b).heap[w.heap.size + 1]? = some (.cells b 27 (0, 0)) := by
  have := heap_alloc_new (w.alloc (.cells c 25)) (.cells b 27)
  simpa [argW2] using this
theorem own_fr {w w' : World} {B : Nat} {e : TypeId} {s n : Nat} {v : Value} {xs : List Value} (h : w.ownsRow B e s v n xs) (f : Fr [] w w') : w'.ownsRow B e s v n xs := own_congr h fun b hb => f.block b (own_lt h b hb).2 (by simp)
theorem hid_drew2 {w0 w : World} (h : Hid (Fr [] w0 w)) : Hid (Fr [] w0 w.drew) := h.out.tr0 (Fr.drew [] w)
theorem own_zero {w : World} {B : Nat} {e : TypeId} {s n : Nat} {v : Value} {xs : List Value} (h : w.ownsRow B e s v n xs) : w.ownsRow 0 e s v n xs := ⟨h.1, h.2.imp id (fun ⟨g, cap, cur, e1, q1, q2⟩ => ⟨g, cap, cur, e1, Nat.zero_le _, q2⟩)⟩
set_option maxRecDepth 100000 in
set_option maxHeartbeats 16000000 in
theorem says_any (C : Cx) (h : Hd) (ts : List LitT) (lp : Option Addr) (lc : Nat) (pw : Option Addr) (cw : Nat) (w : World) (hc : CodeR w C ts lp lc pw cw) :
    Calls Tryd.prog 4 #[.agg (cdv h lp C.lits lc pw C.ws.length cw), .agg (bnv C.b)] w fun e w' => e = .returned (.bool true) ∧ Fr [] w w' := by
  have hsh := hc.words.short
  have HBey : Hid (∀ V, Fr [] w V → Calls Tryd.prog 5 #[.slice lp C.lits lc] V fun e w' => AnyS V ts e w') := fun V hV => by
    rw [← hc.ln]; exact beyond_is V lp lc ts (hc.lits.idle hV)
  have HTwin : Hid (∀ V, Fr [] w V → Calls Tryd.prog 7 #[.slice lp C.lits lc] V fun e w' => TeP V ts e w') := fun V hV => by
    rw [← hc.ln]; exact twin_is w lp lc ts hc.lits V hV
  have HMk : Hid (∀ V, Fr [] w V → Calls Tryd.prog 6 #[.slice pw C.ws.length cw] V fun e w' => ∃ g c, e = .returned (.slice (some ⟨g, 0, none⟩) (C.ws.length + 64) c) ∧ Fr [] V w' ∧ V.heap.size ≤ g ∧ C.ws.length + 64 ≤ c ∧ w'.ownsRow V.heap.size 3 1 (.slice (some ⟨g, 0, none⟩) (C.ws.length + 64) c) (C.ws.length + 64) ((C.ws ++ mkS 64).map (Value.int .i64))) := fun V hV => by
    refine (marked_is C.ws _ V (hc.words.idle hV)).mono ?_
    rintro e w' ⟨p, c, rfl, f, o⟩
    rcases o.2 with ⟨e0, e1⟩ | ⟨g, cap, cur, e0, q1, q2, q3, q4⟩
    · omega
    · injection e0 with e0 _ e2
      subst e0 e2
      exact ⟨g, c, rfl, f, q1, by omega, o⟩
  have HW0 : Hid (Fr [] w (argW2 w (cdv h lp C.lits lc pw C.ws.length cw) (bnv C.b))) := argW2_fr ..
  have HBx : Hid (∀ V, Fr [] (argW2 w (cdv h lp C.lits lc pw C.ws.length cw) (bnv C.b)) V → V.heap[w.heap.size]? = some (.cells (cdv h lp C.lits lc pw C.ws.length cw) 25 (0, 0)) ∧ V.heap[w.heap.size + 1]? = some (.cells (bnv C.b) 27 (0, 0))) := fun V hV => ⟨hV.hb (argW2_c ..), hV.hb (argW2_b ..)⟩
  have HCel : Hid (∀ V, Fr [] (argW2 w (cdv h lp C.lits lc pw C.ws.length cw) (bnv C.b)) V → V.cell? ⟨w.heap.size, 0, none⟩ = some (.int .i64 h.args) ∧ V.cell? ⟨w.heap.size, 1, none⟩ = some (.int .i64 h.temps) ∧ V.cell? ⟨w.heap.size, 2, none⟩ = some (.int .i64 h.stack) ∧ V.cell? ⟨w.heap.size, 3, none⟩ = some (.slice lp C.lits lc) ∧ V.cell? ⟨w.heap.size, 4, none⟩ = some (.slice pw C.ws.length cw) ∧ w.heap.size + 1 < V.heap.size) := fun V hV => by
    obtain ⟨hc, hb⟩ := HBx.out V hV
    exact ⟨cell_in hc 0, cell_in hc 1, cell_in hc 2, cell_in hc 3, cell_in hc 4, lt_of_heap hb⟩
  have HAe : Hid (argW2 w (cdv h lp C.lits lc pw C.ws.length cw) (bnv C.b) = (w.alloc (.cells #[.int .i64 h.args, .int .i64 h.temps, .int .i64 h.stack, .slice lp C.lits lc, .slice pw C.ws.length cw] 25)).alloc (.cells #[.int .i64 C.b.fields, .int .i64 C.b.classes, .int .i64 C.b.globals, .int .i64 C.b.symbols] 27)) := rfl
  have HC := mkHid hc
  clear hc
  generalize hA : argW2 w (cdv h lp C.lits lc pw C.ws.length cw) (bnv C.b) = W0 at *
  clear hA
  unfold cdv bnv
  go_enter Tryd.func4, Tryd.ntmps4
  go_wp2_with fail
  rw [← HAe.out]
  refine (HBey.out W0 HW0.out).mono ?_
  rintro e w1 ⟨bb, rfl, f1, hsm⟩
  cases bb
  case true =>
    go_wp2_with fail
    go_ret
    exact ⟨rfl, HW0.out.tr0 f1⟩
  case false =>
  have HSm := mkHid (hsm rfl)
  obtain ⟨a0, a1, a2, a3, a4, a9⟩ := HCel.out w1 f1
  have F1 := mkHid f1
  have HSz : Hid (w.heap.size + 1 < w1.heap.size) := a9
  have a8 : w.heap.size < w1.heap.size := by omega
  clear f1 hsm a9 HAe HBey
  go_wp2_with fail
  generalize hU1 : w1.alloc (.cells #[.int .i64 h.args, .int .i64 h.temps, .int .i64 h.stack, .slice lp C.lits lc, .slice pw C.ws.length cw] 25) = U1
  have HFU : Hid (Fr [] w1 U1) := by rw [← hU1]; exact Fr.alloc [] w1 _
  have HGB : Hid (U1.heap[w1.heap.size]? = some (.cells #[.int .i64 h.args, .int .i64 h.temps, .int .i64 h.stack, .slice lp C.lits lc, .slice pw C.ws.length cw] 25 (0, 0))) := by rw [← hU1]; exact heap_alloc_new w1 _
  clear hU1 a0 a1 a2 a3 a4 a8
  have HFw : Hid (Fr [] W0 U1) := F1.out.tr0 HFU.out
  have HGi : Hid (W0.heap.size ≤ w1.heap.size) := F1.out.size
  clear HFU F1
  generalize w1.heap.size = gi at *
  clear w1
  refine (HMk.out U1 (HW0.out.tr0 HFw.out)).mono ?_
  rintro e w2 ⟨gm, cm, rfl, f2, hgm, hcm, row2⟩
  obtain ⟨a0, a1, a2, a3, a4, a9⟩ := HCel.out w2 (HFw.out.tr0 f2)
  have hb2 := f2.hb HGB.out
  have g4 : w2.cell? ⟨gi, 4, none⟩ = some (.slice pw C.ws.length cw) := cell_in hb2 4
  have z4 := frozen_in hb2 4
  have n1 : ¬ w.heap.size = gi := by have := HSz.out; omega
  have n2 : ¬ gi = w.heap.size := by have := HSz.out; omega
  have nc : (C.ws.length : Int) ≤ (cm : Int) := by omega
  have F2 := mkHid f2
  have HRow := mkHid row2
  have HGm := mkHid (And.intro hgm hcm)
  have hU1g := lt_of_heap HGB.out
  clear f2 row2 hgm hcm hb2 a0 a1 a2 a9
  go_wp2_with fail
  generalize hU2 : w2.setCell ⟨gi, 4, none⟩ (.slice (some ⟨gm, 0, none⟩) C.ws.length cm) = U2
  have F2b : Hid (Fr [] W0 U2) := by rw [← hU2]; exact (HFw.out.tr0 F2.out).st HGi.out 4 _
  have HGB2 : Hid (U2.heap[gi]? = some (.cells #[.int .i64 h.args, .int .i64 h.temps, .int .i64 h.stack, .slice lp C.lits lc, .slice (some ⟨gm, 0, none⟩) C.ws.length cm] 25 (0, 0))) := by rw [← hU2]; exact set_in (F2.out.hb HGB.out) 4 _
  have HRow2 : Hid (U2.ownsRow 0 3 1 (.slice (some ⟨gm, 0, none⟩) (C.ws.length + 64) cm) (C.ws.length + 64) ((C.ws ++ mkS 64).map (Value.int .i64)) ∧ gi < gm ∧ gm < U2.heap.size) := by
    have h1 := HRow.out
    have h2 := own_lt h1 gm rfl
    rw [← hU2]
    refine ⟨own_zero (own_congr h1 fun b hb => ?_), by have := HGm.out.1; omega, by simpa using h2.2⟩
    have : b = gm := by simpa [Value.ownBlock] using hb.symm
    exact Below.heap_setCell _ _ _ _ (by rw [this]; show gm ≠ gi; have := HGm.out.1; omega)
  clear hU2 F2 HRow HMk HFw a3 a4 g4 z4
  refine (HTwin.out U2 (HW0.out.tr0 F2b.out)).mono ?_
  rintro e w3 ⟨gt, ct, us, rfl, hus, hst, f3, hm3⟩
  rw [HC.out.ln]
  have hb3 := f3.hb HGB2.out
  obtain ⟨b0, b1⟩ := HBx.out w3 (F2b.out.tr0 f3)
  have g0 : w3.cell? ⟨gi, 0, none⟩ = some (.int .i64 h.args) := cell_in hb3 0
  have g1 : w3.cell? ⟨gi, 1, none⟩ = some (.int .i64 h.temps) := cell_in hb3 1
  have g2 : w3.cell? ⟨gi, 2, none⟩ = some (.int .i64 h.stack) := cell_in hb3 2
  have g3 : w3.cell? ⟨gi, 3, none⟩ = some (.slice lp C.lits lc) := cell_in hb3 3
  have g4 : w3.cell? ⟨gi, 4, none⟩ = some (.slice (some ⟨gm, 0, none⟩) C.ws.length cm) := cell_in hb3 4
  have z3 := frozen_in hb3 3
  have d0 : w3.cell? ⟨w.heap.size + 1, 0, none⟩ = some (.int .i64 C.b.fields) := cell_in b1 0
  have d1 : w3.cell? ⟨w.heap.size + 1, 1, none⟩ = some (.int .i64 C.b.classes) := cell_in b1 1
  have d2 : w3.cell? ⟨w.heap.size + 1, 2, none⟩ = some (.int .i64 C.b.globals) := cell_in b1 2
  have d3 : w3.cell? ⟨w.heap.size + 1, 3, none⟩ = some (.int .i64 C.b.symbols) := cell_in b1 3
  have n3 : ¬ w.heap.size + 1 = gi := by have := HSz.out; omega
  have n4 : ¬ gi = w.heap.size + 1 := by have := HSz.out; omega
  have HSy : Hid (Sy w (w3.setCell ⟨gi, 3, none⟩ (.slice (some ⟨gt, 0, none⟩) C.lits ct)) C h ts us lp lc pw cw gi gm cm (some ⟨gt, 0, none⟩) ct U2.heap.size w3.heap.size) := by
    have fs : Fr [gi] w3 (w3.setCell ⟨gi, 3, none⟩ (.slice (some ⟨gt, 0, none⟩) C.lits ct)) := Fr.setCell (S := [gi]) w3 ⟨gi, 3, none⟩ _ (by simp)
    have fW : Fr [] W0 (w3.setCell ⟨gi, 3, none⟩ (.slice (some ⟨gt, 0, none⟩) C.lits ct)) := (F2b.out.tr0 f3).st HGi.out 3 _
    obtain ⟨b0', b1'⟩ := HBx.out _ fW
    obtain ⟨r1, r2, r3⟩ := HRow2.out
    have hz := HSz.out
    have hg3 : gi < U2.heap.size := lt_of_heap HGB2.out
    refine ⟨HW0.out.tr0 fW, b0', b1', by rw [set_in hb3 3 _]; rfl, by omega, r2, r3, f3.size, by simp, HC.out.tb, ⟨?_, ?_, hst, HC.out.ln, HC.out.rng, HC.out.tb.idle (HW0.out.tr0 fW), hsh⟩⟩
    · refine own_congr r1 fun b hb => ?_
      have e : b = gm := by simpa [Value.ownBlock] using hb.symm
      rw [e]
      exact (fs.block gm (Nat.lt_of_lt_of_le r3 f3.size) (by simp; omega)).trans (f3.block gm r3 (by simp))
    · exact hm3.keep (fs.frp (Ok := fun b => b = gi) (fun g hg => .inl (by simpa using hg))) (fun b hb e => by have := hb.1; omega)
  have HSmU := mkHid (smL_st hst HSm.out)
  clear HGB2 HRow2 F2b HTwin HSm hb3 f3 hm3 b0 b1 hus hst HGB hU1g HGm HCel HBx
  go_wp2_with fail
  generalize hU3 : w3.setCell ⟨gi, 3, none⟩ (.slice (some ⟨gt, 0, none⟩) C.lits ct) = w4 at *
  generalize U2.heap.size = lo at *
  generalize w3.heap.size = hi at *
  clear hU3 g0 g1 g2 g3 g4 z3 d0 d1 d2 d3
  refine (HSy.out.check).mono ?_
  rintro e w5 ⟨rfl, f5⟩
  have S5 := mkHid (HSy.out.idle f5)
  have HRC : Hid (∀ V, Fr [] w V → CodeR V C ts lp lc pw cw) := fun V hV => ⟨HC.out.words.idle hV, HC.out.cap, HC.out.lits.idle hV, HC.out.ln, HC.out.rng, HC.out.tb.idle hV⟩
  have HCel : Hid (∀ V, Sy w V C h ts us lp lc pw cw gi gm cm (some ⟨gt, 0, none⟩) ct lo hi → (V.cell? ⟨w.heap.size, 0, none⟩ = some (.int .i64 h.args) ∧ V.cell? ⟨w.heap.size, 1, none⟩ = some (.int .i64 h.temps) ∧ V.cell? ⟨w.heap.size, 2, none⟩ = some (.int .i64 h.stack) ∧ V.cell? ⟨w.heap.size, 3, none⟩ = some (.slice lp C.lits lc) ∧ V.cell? ⟨w.heap.size, 4, none⟩ = some (.slice pw C.ws.length cw)) ∧ (V.cell? ⟨gi, 0, none⟩ = some (.int .i64 h.args) ∧ V.cell? ⟨gi, 1, none⟩ = some (.int .i64 h.temps) ∧ V.cell? ⟨gi, 2, none⟩ = some (.int .i64 h.stack) ∧ V.cell? ⟨gi, 3, none⟩ = some (.slice (some ⟨gt, 0, none⟩) C.lits ct) ∧ V.cell? ⟨gi, 4, none⟩ = some (.slice (some ⟨gm, 0, none⟩) C.ws.length cm)) ∧ (V.cell? ⟨w.heap.size + 1, 0, none⟩ = some (.int .i64 C.b.fields) ∧ V.cell? ⟨w.heap.size + 1, 1, none⟩ = some (.int .i64 C.b.classes) ∧ V.cell? ⟨w.heap.size + 1, 2, none⟩ = some (.int .i64 C.b.globals) ∧ V.cell? ⟨w.heap.size + 1, 3, none⟩ = some (.int .i64 C.b.symbols))) := fun V s => ⟨⟨cell_in s.cb 0, cell_in s.cb 1, cell_in s.cb 2, cell_in s.cb 3, cell_in s.cb 4⟩, ⟨cell_in s.gb 0, cell_in s.gb 1, cell_in s.gb 2, cell_in s.gb 3, cell_in s.gb 4⟩, ⟨cell_in s.bb 0, cell_in s.bb 1, cell_in s.bb 2, cell_in s.bb 3⟩⟩
  have HNum := mkHid num_ok
  obtain ⟨D, hD⟩ : ∃ D, depthsP C h (lookL C.b.symbols ts 0).1 = D := ⟨_, rfl⟩
  have HRk : Hid (∀ V, Fr [] w V → Calls Tryd.prog 13 #[.agg #[.int .i64 h.args, .int .i64 h.temps, .int .i64 h.stack, .slice lp C.lits lc, .slice pw C.ws.length cw], .agg #[.int .i64 C.b.fields, .int .i64 C.b.classes, .int .i64 C.b.globals, .int .i64 C.b.symbols]] V fun e w' => e = .returned (.int .i64 D.1) ∧ Fr [] V w') := fun V hV => by
    have := rCheck_ok C h ts lp lc pw cw V (HRC.out V hV)
    rw [hD] at this
    exact this
  have HRd : Hid (∀ V, Fr [] w V → Calls Tryd.prog 15 #[.agg #[.int .i64 h.args, .int .i64 h.temps, .int .i64 h.stack, .slice lp C.lits lc, .slice pw C.ws.length cw], .agg #[.int .i64 C.b.fields, .int .i64 C.b.classes, .int .i64 C.b.globals, .int .i64 C.b.symbols]] V fun e w' => ∃ p c, e = .returned (.tuple #[.slice p (dl D).length c, .int .i64 D.1]) ∧ Fr [] V w' ∧ w'.ownsRow V.heap.size 3 1 (.slice p (dl D).length c) (dl D).length ((dl D).map (Value.int .i64))) := fun V hV => by
    have := rDepths_ok C h ts lp lc pw cw V (HRC.out V hV)
    rw [hD] at this
    refine this.mono ?_
    rintro e w' ⟨v, rfl, f, h0, h1⟩
    obtain ⟨p, c, rfl, ho⟩ := dep_row h0 h1
    exact ⟨p, c, rfl, f, ho⟩
  have HDp : Hid (∀ V, Sy w V C h ts us lp lc pw cw gi gm cm (some ⟨gt, 0, none⟩) ct lo hi → Calls Tryd.prog 14 #[.agg #[.int .i64 h.args, .int .i64 h.temps, .int .i64 h.stack, .slice (some ⟨gt, 0, none⟩) C.lits ct, .slice (some ⟨gm, 0, none⟩) C.ws.length cm], .agg #[.int .i64 C.b.fields, .int .i64 C.b.classes, .int .i64 C.b.globals, .int .i64 C.b.symbols]] V fun e w' => ∃ p c, e = .returned (.tuple #[.slice p (dl D).length c, .int .i64 D.1]) ∧ Fr [] V w' ∧ w'.ownsRow V.heap.size 3 1 (.slice p (dl D).length c) (dl D).length ((dl D).map (Value.int .i64)) ∧ (dl D).length ≤ 4096) := fun V s => by
    have := s.depths
    rw [hD] at this
    exact this
  rw [hD]
  have HNl : Hid (us.length = C.lits) := HSy.out.gv.len
  clear hD f5 HSy
  obtain ⟨⟨c0, c1, c2, c3, c4⟩, ⟨g0, g1, g2, g3, g4⟩, ⟨d0, d1, d2, d3⟩⟩ := HCel.out w5 S5.out
  go_wp2_with fail
  refine (HRk.out w5 S5.out.fr).mono ?_
  rintro e w6 ⟨rfl, f6⟩
  have S6 := mkHid (S5.out.idle f6)
  clear f6 S5 c0 c1 c2 c3 c4 g0 g1 g2 g3 g4 d0 d1 d2 d3 HRk
  generalize hde : D.1 = de at *
  generalize hls : dl D = ls at *
  clear hde hls
  go_wp2_with fail
  refine (HNum.out de w6).mono ?_
  rintro e w7 ⟨rfl, rfl⟩
  obtain ⟨⟨c0, c1, c2, c3, c4⟩, ⟨g0, g1, g2, g3, g4⟩, ⟨d0, d1, d2, d3⟩⟩ := HCel.out w7 S6.out
  go_wp2_with fail
  refine (HDp.out w7 S6.out).mono ?_
  rintro e w8 ⟨pl, cl, rfl, f8, row8, hn⟩
  have S8 := mkHid (S6.out.idle f8)
  have HR8 := mkHid row8
  have HB8 : Hid (hi ≤ w7.heap.size) := S6.out.his
  have HB8s : Hid (w7.heap.size ≤ w8.heap.size) := f8.size
  clear f8 row8 S6 c0 c1 c2 c3 c4 g0 g1 g2 g3 g4 d0 d1 d2 d3
  generalize hnn : ls.length = nn at *
  generalize w7.heap.size = b8 at *
  clear w7
  obtain ⟨⟨c0, c1, c2, c3, c4⟩, ⟨g0, g1, g2, g3, g4⟩, ⟨d0, d1, d2, d3⟩⟩ := HCel.out w8 S8.out
  go_wp2_with fail
  refine (HDp.out w8 S8.out).mono ?_
  rintro e w9 ⟨p2, q2, rfl, f9, row9, -⟩
  have S9 := mkHid (S8.out.idle f9)
  have HR8b : Hid (w9.ownsRow b8 3 1 (.slice pl nn cl) nn (ls.map (Value.int .i64)) ∧ ∀ g ∈ blk pl, g < w8.heap.size) := ⟨own_congr HR8.out fun b hb => f9.block b (own_lt HR8.out b hb).2 (by simp), fun g hg => (own_lt HR8.out g ((blk_own _ _ _ _).2 hg)).2⟩
  have HR9 := mkHid row9
  have HB9 : Hid (w8.heap.size ≤ w9.heap.size) := f9.size
  clear f9 row9 S8 HR8 c0 c1 c2 c3 c4 g0 g1 g2 g3 g4 d0 d1 d2 d3
  generalize w8.heap.size = b9 at *
  clear w8
  obtain ⟨⟨c0, c1, c2, c3, c4⟩, ⟨g0, g1, g2, g3, g4⟩, ⟨d0, d1, d2, d3⟩⟩ := HCel.out w9 S9.out
  go_wp2_with fail
  refine (HRd.out w9 S9.out.fr).mono ?_
  rintro e wA ⟨p3, q3, rfl, fA, rowA⟩
  have SA := mkHid (S9.out.idle fA)
  -- what is told, three times
  have HRw : Hid (wA.ownsRow b8 3 1 (.slice pl nn cl) nn (ls.map (Value.int .i64)) ∧ (∀ g ∈ blk pl, g < b9) ∧ wA.ownsRow b9 3 1 (.slice p2 nn q2) nn (ls.map (Value.int .i64)) ∧ wA.ownsRow b9 3 1 (.slice p3 nn q3) nn (ls.map (Value.int .i64)) ∧ b8 ≤ wA.heap.size) := by
    have h1 := HR8b.out.1
    have h2 := HR9.out
    exact ⟨own_congr h1 fun b hb => fA.block b (own_lt h1 b hb).2 (by simp), HR8b.out.2, own_congr h2 fun b hb => fA.block b (own_lt h2 b hb).2 (by simp), own_base rowA HB9.out, Nat.le_trans HB8s.out (Nat.le_trans HB9.out fA.size)⟩
  clear fA rowA S9 HR8b HR9 HB9 c0 c1 c2 c3 c4 g0 g1 g2 g3 g4 d0 d1 d2 d3 HRd HRC w9
  have HSame : Hid (∀ V pa ca pb cb, Rc V pa ls → Rc V pb ls → Calls Tryd.prog 16 #[.slice pa nn ca, .slice pb nn cb] V fun e w' => e = .returned (.bool true) ∧ Fr [] V w') := fun V pa ca pb cb ha hb => same_is ls nn hnn (by omega) pa pb ca cb V ha hb
  have HMk2 : Hid (∀ V, Sy w V C h ts us lp lc pw cw gi gm cm (some ⟨gt, 0, none⟩) ct lo hi → Calls Tryd.prog 6 #[.slice pw C.ws.length cw] V fun e w' => ∃ p c, e = .returned (.slice p (C.ws.length + 64) c) ∧ Fr [] V w' ∧ Calls Tryd.prog 16 #[.slice (some ⟨gm, 0, none⟩) (C.ws.length + 64) cm, .slice p (C.ws.length + 64) c] w' fun e w'' => e = .returned (.bool true) ∧ Fr [] w' w'') := fun V s => by
    refine (marked_is C.ws _ V (HC.out.words.idle s.fr)).mono ?_
    rintro e w' ⟨p, c, rfl, f, o⟩
    refine ⟨p, c, rfl, f, same_is (C.ws ++ mkS 64) (C.ws.length + 64) (by simp [mkS_len]) (by omega) _ _ _ _ w' (own_rc (s.idle f).gv.row) (own_rc o)⟩
  have HWh : Hid (∀ V, Sy w V C h ts us lp lc pw cw gi gm cm (some ⟨gt, 0, none⟩) ct lo hi → Calls Tryd.prog 17 #[.slice (some ⟨gt, 0, none⟩) C.lits ct, .slice lp C.lits lc] V fun e w' => e = .returned (.bool true) ∧ Fr [] V w') := fun V s => by
    have := whole_ok V _ _ _ us s.gv.lits 0 lp lc ts (HC.out.lits.idle s.fr) s.gv.st
    rw [HNl.out, HC.out.ln] at this
    refine this.mono ?_
    rintro e w' ⟨rfl, n, rfl⟩
    exact ⟨rfl, ((Fr.refl [] V).dn 0).dn n⟩
  go_wp2_with fail
  refine (HNum.out de wA).mono ?_
  rintro e w7 ⟨rfl, rfl⟩
  go_wp2_with fail
  refine (HNum.out de w7).mono ?_
  rintro e wA ⟨rfl, rfl⟩
  go_wp2_with fail
  refine (HSame.out wA _ _ _ _ (own_rc HRw.out.1) (own_rc HRw.out.2.2.2.1)).mono ?_
  rintro e w7 ⟨rfl, f7⟩
  have hrw := HRw.out
  have S7 := mkHid (SA.out.idle f7)
  replace HRw : Hid (w7.ownsRow b8 3 1 (.slice pl nn cl) nn (ls.map (Value.int .i64)) ∧ (∀ g ∈ blk pl, g < b9) ∧ w7.ownsRow b9 3 1 (.slice p2 nn q2) nn (ls.map (Value.int .i64)) ∧ w7.ownsRow b9 3 1 (.slice p3 nn q3) nn (ls.map (Value.int .i64)) ∧ b8 ≤ w7.heap.size) := ⟨own_fr hrw.1 f7, hrw.2.1, own_fr hrw.2.2.1 f7, own_fr hrw.2.2.2.1 f7, Nat.le_trans hrw.2.2.2.2 f7.size⟩
  clear f7 SA hrw wA
  go_wp2_with fail
  refine (HSame.out w7 _ _ _ _ (own_rc HRw.out.2.2.1) (own_rc HRw.out.2.2.2.1)).mono ?_
  rintro e w8 ⟨rfl, f8⟩
  have hrw := HRw.out
  have S8 := mkHid (S7.out.idle f8)
  replace HRw : Hid (w8.ownsRow b8 3 1 (.slice pl nn cl) nn (ls.map (Value.int .i64)) ∧ (∀ g ∈ blk pl, g < b9) ∧ w8.ownsRow b9 3 1 (.slice p2 nn q2) nn (ls.map (Value.int .i64)) ∧ w8.ownsRow b9 3 1 (.slice p3 nn q3) nn (ls.map (Value.int .i64)) ∧ b8 ≤ w8.heap.size) := ⟨own_fr hrw.1 f8, hrw.2.1, own_fr hrw.2.2.1 f8, own_fr hrw.2.2.2.1 f8, Nat.le_trans hrw.2.2.2.2 f8.size⟩
  clear f8 S7 hrw w7
  obtain ⟨⟨-, -, -, -, c4⟩, -, -⟩ := HCel.out w8 S8.out
  go_wp2_with fail
  refine (HMk2.out w8 S8.out).mono ?_
  rintro e w9 ⟨p4, q4, rfl, f9, hsm⟩
  clear c4
  have F9 := mkHid f9
  go_wp2_with fail
  refine hsm.mono ?_
  rintro e wA ⟨rfl, fA⟩
  have hrw := HRw.out
  replace fA := F9.out.tr0 fA
  have SA := mkHid (S8.out.idle fA)
  replace HRw : Hid (wA.ownsRow b8 3 1 (.slice pl nn cl) nn (ls.map (Value.int .i64)) ∧ (∀ g ∈ blk pl, g < b9) ∧ wA.ownsRow b9 3 1 (.slice p2 nn q2) nn (ls.map (Value.int .i64)) ∧ wA.ownsRow b9 3 1 (.slice p3 nn q3) nn (ls.map (Value.int .i64)) ∧ b8 ≤ wA.heap.size) := ⟨own_fr hrw.1 fA, hrw.2.1, own_fr hrw.2.2.1 fA, own_fr hrw.2.2.2.1 fA, Nat.le_trans hrw.2.2.2.2 fA.size⟩
  clear fA S8 hrw F9 hsm f9 w8 w9
  obtain ⟨⟨-, -, -, c3, c4⟩, ⟨-, -, -, g3, g4⟩, -⟩ := HCel.out wA SA.out
  go_wp2_with fail
  refine (HWh.out wA SA.out).mono ?_
  rintro e w7 ⟨rfl, f7⟩
  have hrw := HRw.out
  have S7 := mkHid (SA.out.idle f7)
  replace HRw : Hid (w7.ownsRow b8 3 1 (.slice pl nn cl) nn (ls.map (Value.int .i64)) ∧ (∀ g ∈ blk pl, g < b9) ∧ w7.ownsRow b9 3 1 (.slice p2 nn q2) nn (ls.map (Value.int .i64)) ∧ w7.ownsRow b9 3 1 (.slice p3 nn q3) nn (ls.map (Value.int .i64)) ∧ b8 ≤ w7.heap.size) := ⟨own_fr hrw.1 f7, hrw.2.1, own_fr hrw.2.2.1 f7, own_fr hrw.2.2.2.1 f7, Nat.le_trans hrw.2.2.2.2 f7.size⟩
  clear f7 SA hrw wA c3 c4 g3 g4 HWh
  have HP8 : Hid (∀ g ∈ blk pl, b8 ≤ g) := fun g hg => (own_lt HRw.out.1 g ((blk_own _ _ _ _).2 hg)).1
  have HBD : Hid (b8 ≤ w7.heap.size ∧ ∀ g ∈ blk pl, g < w7.heap.size) := by
    refine ⟨?_, fun g hg => (own_lt HRw.out.1 g ((blk_own _ _ _ _).2 hg)).2⟩
    exact HRw.out.2.2.2.2
  go_wp2_with fail
  go_loopw [16] (fun q wr => ∃ i : Nat, q = .int .i64 (i : Int) ∧ i ≤ nn ∧ Hid (wr.ownsRow b8 3 1 (.slice pl nn cl) nn ((nine ls i).map (Value.int .i64)) ∧ Fr (blk pl) w7 wr)) (fun q _ => nn - (intOf q).toNat)
  case atStart => exact ⟨0, rfl, by omega, by simpa [nine] using HRw.out.1, Fr.refl _ _⟩
  case round =>
    obtain ⟨i, rfl, hi1, hst⟩ := hrel
    have i0 : (0 : Int) ≤ (i : Int) := by omega
    by_cases hlt : i < nn
    · have i1 : (i : Int) < (nn : Int) := by omega
      obtain ⟨ho, hf⟩ := hst.out
      obtain ⟨gl, rfl⟩ := own_some ho (by omega)
      obtain ⟨r1, r2, x1, z1⟩ := row_set ho i (-9) hlt
      rw [nine_set ls i (by omega)] at r1
      have HE : Hid ((wr.setCell ⟨gl, i, none⟩ (.int .i64 (-9))).ownsRow b8 3 1 (.slice (some ⟨gl, 0, none⟩) nn cl) nn ((nine ls (i + 1)).map (Value.int .i64)) ∧ Fr (blk (some (⟨gl, 0, none⟩ : Addr))) w7 (wr.setCell ⟨gl, i, none⟩ (.int .i64 (-9)))) := ⟨r1, hf.trans r2 (fun b hb => .inl hb)⟩
      generalize (nine ls i).getD i 0 = old at *
      clear hst ho hf r1 r2
      go_wp2_with fail
      go_roundw
      case rel => exact ⟨i + 1, by go_num, by omega, HE.out⟩
      case measure => simp [intOf]; omega
    · have hie : i = nn := by omega
      subst hie
      have HL0 : Hid (Lng w7 wr b8 pl i cl pl cl 0) := by
        obtain ⟨ho, hf⟩ := hst.out
        have e : nine ls i = List.replicate i (-9) := by rw [← hnn]; exact nine_all ls
        rw [e] at ho
        have e2 : (List.replicate i (-9 : Int)).length = i := by simp
        refine ⟨ho, ?_, hf, .inl rfl⟩
        have := own_rd (ss := List.replicate i (-9)) (v := .slice pl i cl) (by rw [e2]; exact ho) (by rw [e2]; omega)
        exact this
      clear hst i0
      go_wp2_with fail
      go_loopw [15, 17] (fun m q wr => ∃ k : Nat, q = .int .i64 (k : Int) ∧ k ≤ 64 ∧ ∃ p c, m = .slice p (i + k) c ∧ Hid (Lng w7 wr b8 pl i cl p c k)) (fun _ q _ => 64 - (intOf q).toNat)
      case atStart => exact ⟨0, rfl, by omega, pl, cl, rfl, HL0.out⟩
      case round =>
        clear HL0
        obtain ⟨k, rfl, hk1, p, c, rfl, hst⟩ := hrel
        have k0 : (0 : Int) ≤ (k : Int) := by omega
        by_cases hlt : k < 64
        · have k1 : (k : Int) < 64 := by omega
          obtain ⟨p', c', w', hr, hL⟩ := hst.out.push (by omega) HBD.out.1 HBD.out.2
          have HR2 := mkHid hr
          have HL := mkHid hL
          clear hst hr hL
          go_wp2_with (at_builtin; refine Lib.wpList_append_run _ rfl (.tmp 121) (.tmp 122) 23 23 rfl _ _ rfl rfl _ _ HR2.out ?_)
          go_roundw
          case rel => exact ⟨k + 1, by go_num, by omega, p', c', rfl, HL.out⟩
          case measure => simp [intOf]; omega
        · have hke : k = 64 := by omega
          subst hke
          have SE : Hid (Sy w wr C h ts us lp lc pw cw gi gm cm (some ⟨gt, 0, none⟩) ct lo hi) := S7.out.kw (hst.out.fr.kw S7.out.his (fun b hb => Nat.le_trans HB8.out (HP8.out b hb)))
          have HLg : Hid (LgR wr hi p pl i) := hst.out.lgr HB8.out HBD.out.1 HP8.out
          have HTM : Hid (Rc wr p2 ls ∧ Rc wr p3 ls) := by
            obtain ⟨-, q1, q2, q3, -⟩ := HRw.out
            refine ⟨(own_rc q2).keep (fun g hg hl => hst.out.fr.block g hl (fun hm => ?_)), (own_rc q3).keep (fun g hg hl => hst.out.fr.block g hl (fun hm => ?_))⟩
            · have h1 := q1 g hm
              have h2 := (own_lt q2 g ((blk_own _ _ _ _).2 hg)).1
              omega
            · have h1 := q1 g hm
              have h2 := (own_lt q3 g ((blk_own _ _ _ _).2 hg)).1
              omega
          clear hst HRw HP8 HBD S7 HB8s k0 hk1 hlt hi1
          generalize wr = wE at *
          obtain ⟨⟨c0, c1, c2, c3, c4⟩, ⟨g0, g1, g2, g3, g4⟩, ⟨d0, d1, d2, d3⟩⟩ := HCel.out wE SE.out
          go_wp2_with fail
          refine (HDp.out wE SE.out).mono ?_
          rintro e wF ⟨p5, q5, rfl, fF, rowF, -⟩
          have SF := mkHid (SE.out.idle fF)
          replace HLg := mkHid (HLg.out.idle fF)
          have HTM3 : Hid (Rc wF p2 ls ∧ Rc wF p3 ls ∧ Rc wF p5 ls) := ⟨HTM.out.1.keep (fun g _ hl => fF.block g hl (by simp)), HTM.out.2.keep (fun g _ hl => fF.block g hl (by simp)), own_rc rowF⟩
          clear fF rowF SE HTM c0 c1 c2 c3 c4 g0 g1 g2 g3 g4 d0 d1 d2 d3
          go_wp2_with fail
          refine (HNum.out de wF).mono ?_
          rintro e w7 ⟨rfl, rfl⟩
          go_wp2_with fail
          refine (HSame.out w7 _ _ _ _ HTM3.out.1 HTM3.out.2.1).mono ?_
          rintro e w8 ⟨rfl, f8⟩
          have S8 := mkHid (SF.out.idle f8)
          replace HLg := mkHid (HLg.out.idle f8)
          have HTM : Hid (Rc w8 p3 ls ∧ Rc w8 p5 ls) := ⟨HTM3.out.2.1.keep (fun g _ hl => f8.block g hl (by simp)), HTM3.out.2.2.keep (fun g _ hl => f8.block g hl (by simp))⟩
          clear f8 SF HTM3 w7
          go_wp2_with fail
          refine (HSame.out w8 _ _ _ _ HTM.out.2 HTM.out.1).mono ?_
          rintro e w9 ⟨rfl, f9⟩
          have S9 := mkHid (S8.out.idle f9)
          replace HLg := mkHid (HLg.out.idle f9)
          clear f9 S8 HTM w8
          obtain ⟨⟨-, -, -, -, c4⟩, -, -⟩ := HCel.out w9 S9.out
          go_wp2_with fail
          refine (HMk2.out w9 S9.out).mono ?_
          rintro e wA ⟨p4, q4, rfl, fA, hsm⟩
          have FA := mkHid fA
          clear c4 fA
          go_wp2_with fail
          refine hsm.mono ?_
          rintro e w7 ⟨rfl, f7⟩
          replace f7 := FA.out.tr0 f7
          have S7 := mkHid (S9.out.idle f7)
          replace HLg := mkHid (HLg.out.idle f7)
          clear f7 FA hsm S9 wA w9 HMk2 HSame HDp
          obtain ⟨-, ⟨-, -, -, -, g4⟩, -⟩ := HCel.out w7 S7.out
          go_wp2_with fail
          go_loopw [19] (fun q wr => ∃ i3 : Nat, q = .int .i64 (i3 : Int) ∧ i3 ≤ C.ws.length ∧ Hid (∃ ws : List Int, XS w7 wr C gm cm ws)) (fun q _ => C.ws.length - (intOf q).toNat)
          case atStart => exact ⟨0, rfl, by omega, _, S7.out.xs⟩
          case round =>
            clear g4
            obtain ⟨i3, rfl, hi3, hst⟩ := hrel
            obtain ⟨ws, hx⟩ := hst.out
            have i30 : (0 : Int) ≤ (i3 : Int) := by omega
            have hgb : wr.heap[gi]? = some (.cells (cdv h (some ⟨gt, 0, none⟩) C.lits ct (some ⟨gm, 0, none⟩) C.ws.length cm) 25 (0, 0)) := (hx.fr.block gi (lt_of_heap S7.out.gb) (by simp; have := S7.out.gmi; omega)).trans S7.out.gb
            have g4 : wr.cell? ⟨gi, 4, none⟩ = some (.slice (some ⟨gm, 0, none⟩) C.ws.length cm) := cell_in hgb 4
            have g3 : wr.cell? ⟨gi, 3, none⟩ = some (.slice (some ⟨gt, 0, none⟩) C.lits ct) := cell_in hgb 3
            by_cases hlt : i3 < C.ws.length
            · have i31 : (i3 : Int) < (C.ws.length : Int) := by omega
              obtain ⟨old, x1, z1, hnx⟩ := hx.step i3 hlt
              have HNx := mkHid hnx
              have HS : Hid (wr.drew.cell? ⟨gi, 4, none⟩ = some (.slice (some ⟨gm, 0, none⟩) C.ws.length cm) ∧ wr.drew.cell? ⟨gm, i3, none⟩ = some (.int .i64 old)) := ⟨g4, x1⟩
              clear hst hx hnx hgb g3
              generalize hwn : C.ws.length = wn at *
              go_upto_region 31 with fail
              refine wp_region_last (L := 10) (S := (fun U => U.cell? ⟨gi, 4, none⟩ = some (.slice (some ⟨gm, 0, none⟩) wn cm) ∧ U.cell? ⟨gm, i3, none⟩ = some (.int .i64 old))) (by kernel_rfl) (HS.out) (fun hHeld => ?_)
              refine wpLast_take (i := 0) (v := ?_) rfl (by kernel_rfl) (by kernel_rfl) (by kernel_rfl) (by decide) (by kernel_rfl) (fun _ _ _ h => h) (Or.inl ⟨by rfl, ?_⟩) (by assumption) ?_
              rotate_left
              · (intro w hSw; (try dsimp only at hSw); first | (go_simp; done) | (go_simp; with_reducible rfl))
              try simp only [Act.put, List.getElem_toArray, List.getElem_cons_zero, List.getElem_cons_succ, List.setIfInBounds_toArray, List.set_cons_zero, List.set_cons_succ]
              refine wpLast_take (i := 1) (v := ?_) rfl (by kernel_rfl) (by kernel_rfl) (by kernel_rfl) (by decide) (by kernel_rfl) (fun _ _ _ h => h) (Or.inl ⟨by rfl, ?_⟩) (by assumption) ?_
              rotate_left
              · (intro w hSw; (try dsimp only at hSw); first | (go_simp; done) | (go_simp; with_reducible rfl))
              try simp only [Act.put, List.getElem_toArray, List.getElem_cons_zero, List.getElem_cons_succ, List.setIfInBounds_toArray, List.set_cons_zero, List.set_cons_succ]
              refine wpLast_take (i := 2) (v := ?_) rfl (by kernel_rfl) (by kernel_rfl) (by kernel_rfl) (by decide) (by kernel_rfl) (fun _ _ _ h => h) (Or.inl ⟨by rfl, ?_⟩) (by assumption) ?_
              rotate_left
              · (intro w hSw; (try dsimp only at hSw); first | (go_simp; done) | (go_simp; with_reducible rfl))
              try simp only [Act.put, List.getElem_toArray, List.getElem_cons_zero, List.getElem_cons_succ, List.setIfInBounds_toArray, List.set_cons_zero, List.set_cons_succ]
              refine wpLast_take (i := 3) (v := ?_) rfl (by kernel_rfl) (by kernel_rfl) (by kernel_rfl) (by decide) (by kernel_rfl) (fun _ _ _ h => h) (Or.inl ⟨by rfl, ?_⟩) (by assumption) ?_
              rotate_left
              · (intro w hSw; (try dsimp only at hSw); first | (go_simp; done) | (go_simp; with_reducible rfl))
              try simp only [Act.put, List.getElem_toArray, List.getElem_cons_zero, List.getElem_cons_succ, List.setIfInBounds_toArray, List.set_cons_zero, List.set_cons_succ]
              refine wpLast_take (i := 4) (v := ?_) rfl (by kernel_rfl) (by kernel_rfl) (by kernel_rfl) (by decide) (by kernel_rfl) (fun _ _ _ h => h) (Or.inl ⟨by rfl, ?_⟩) (by assumption) ?_
              rotate_left
              · (intro w hSw; (try dsimp only at hSw); first | (go_simp; done) | (go_simp; with_reducible rfl))
              try simp only [Act.put, List.getElem_toArray, List.getElem_cons_zero, List.getElem_cons_succ, List.setIfInBounds_toArray, List.set_cons_zero, List.set_cons_succ]
              refine wpLast_take (i := 5) (v := ?_) rfl (by kernel_rfl) (by kernel_rfl) (by kernel_rfl) (by decide) (by kernel_rfl) (fun _ _ _ h => h) (Or.inl ⟨by rfl, ?_⟩) (by assumption) ?_
              rotate_left
              · (intro w hSw; (try dsimp only at hSw); first | (go_simp; done) | (go_simp; with_reducible rfl))
              try simp only [Act.put, List.getElem_toArray, List.getElem_cons_zero, List.getElem_cons_succ, List.setIfInBounds_toArray, List.set_cons_zero, List.set_cons_succ]
              refine wpLast_take (i := 6) (v := ?_) rfl (by kernel_rfl) (by kernel_rfl) (by kernel_rfl) (by decide) (by kernel_rfl) (fun _ _ _ h => h) (Or.inl ⟨by rfl, ?_⟩) (by assumption) ?_
              rotate_left
              · (intro w hSw; (try dsimp only at hSw); first | (go_simp; done) | (go_simp; with_reducible rfl))
              try simp only [Act.put, List.getElem_toArray, List.getElem_cons_zero, List.getElem_cons_succ, List.setIfInBounds_toArray, List.set_cons_zero, List.set_cons_succ]
              refine wpLast_take (i := 7) (v := ?_) rfl (by kernel_rfl) (by kernel_rfl) (by kernel_rfl) (by decide) (by kernel_rfl) (fun _ _ _ h => h) (Or.inl ⟨by rfl, ?_⟩) (by assumption) ?_
              rotate_left
              · (intro w hSw; (try dsimp only at hSw); first | (go_simp; done) | (go_simp; with_reducible rfl))
              try simp only [Act.put, List.getElem_toArray, List.getElem_cons_zero, List.getElem_cons_succ, List.setIfInBounds_toArray, List.set_cons_zero, List.set_cons_succ]
              refine wpLast_take (i := 8) (v := ?_) rfl (by kernel_rfl) (by kernel_rfl) (by kernel_rfl) (by decide) (by kernel_rfl) (fun _ _ _ h => h) (Or.inl ⟨by rfl, ?_⟩) (by assumption) ?_
              rotate_left
              · (intro w hSw; (try dsimp only at hSw); first | (go_simp; done) | (go_simp; with_reducible rfl))
              try simp only [Act.put, List.getElem_toArray, List.getElem_cons_zero, List.getElem_cons_succ, List.setIfInBounds_toArray, List.set_cons_zero, List.set_cons_succ]
              refine wpLast_one (i := 9) (by kernel_rfl) rfl (by decide) (fun K hK => ?_)
              go_simp
              refine hK.out _ _ (HS.out) (fun hHeld => ?_)
              clear hK K
              try simp only [Act.put, List.getElem_toArray, List.getElem_cons_zero, List.getElem_cons_succ, List.setIfInBounds_toArray, List.set_cons_zero, List.set_cons_succ]
              refine wpLast_end (by kernel_rfl) rfl (by kernel_rfl) (fun K hK => ?_)
              go_simp
              refine hK.out _ _ ?_
              clear hK K
              try simp only [Act.put, List.getElem_toArray, List.getElem_cons_zero, List.getElem_cons_succ, List.setIfInBounds_toArray, List.set_cons_zero, List.set_cons_succ]
              go_wp2_with fail
              go_roundw
              case rel => exact ⟨i3 + 1, by go_num, by omega, HNx.out⟩
              case measure => simp [intOf]; omega
            · have hie : i3 = C.ws.length := by omega
              subst hie
              have HTu : Hid (Calls Tryd.prog 18 #[.slice (some ⟨gt, 0, none⟩) C.lits ct] wr fun e w' => e = .returned (.tuple #[]) ∧ Hid (∃ us', Sy w w' ⟨ws, C.lits, C.b⟩ h us' us' lp lc pw cw gi gm cm (some ⟨gt, 0, none⟩) ct lo hi ∧ LgR w' hi p pl i)) := by
                have := turn_ok w7 _ _ _ us S7.out.gv.lits HSmU.out wr (fun b => b = gm) (hx.fr.frp (fun g hg => .inl (by simpa using hg))) (fun b hb e => by have := S7.out.gml; omega)
                rw [HNl.out] at this
                refine this.mono ?_
                rintro e w' ⟨rfl, f', us', hl', hm'⟩
                refine ⟨rfl, us', S7.out.over hx f' (hl'.trans HNl.out.symm) hm', HLg.out.keep (fun g hg hl => ?_)⟩
                have h1 := S7.out.gml
                have h2 := S7.out.lohi
                exact (f'.block g (Nat.lt_of_lt_of_le hl hx.fr.size) (fun hh => by omega)).trans (hx.fr.block g hl (by simp; omega))
              have HLn : Hid (ws.length = C.ws.length) := hx.len
              clear hst hx hgb HLg S7 HSmU i30
              go_wp2_with fail
              refine HTu.out.mono ?_
              rintro e w8 ⟨rfl, h8⟩
              obtain ⟨us', s8, hl8⟩ := h8.out
              have HLg := mkHid hl8
              have S8 := mkHid s8
              clear HTu h8 s8 hl8 g3 g4 HCel HNl
              generalize w7 = wq at *
              have HLnn := HLn.out
              obtain ⟨C', hC'⟩ : ∃ C' : Cx, (⟨ws, C.lits, C.b⟩ : Cx) = C' := ⟨_, rfl⟩
              rw [hC'] at S8
              have HE1 : Hid (C'.lits = C.lits ∧ C'.b = C.b ∧ C'.ws.length = C.ws.length) := by rw [← hC']; exact ⟨rfl, rfl, HLn.out⟩
              clear HLn HLnn hC'
              have HCel : Hid (∀ V, Sy w V C' h us' us' lp lc pw cw gi gm cm (some ⟨gt, 0, none⟩) ct lo hi → (V.cell? ⟨w.heap.size, 0, none⟩ = some (.int .i64 h.args) ∧ V.cell? ⟨w.heap.size, 1, none⟩ = some (.int .i64 h.temps) ∧ V.cell? ⟨w.heap.size, 2, none⟩ = some (.int .i64 h.stack) ∧ V.cell? ⟨w.heap.size, 3, none⟩ = some (.slice lp C.lits lc) ∧ V.cell? ⟨w.heap.size, 4, none⟩ = some (.slice pw C.ws.length cw)) ∧ (V.cell? ⟨gi, 0, none⟩ = some (.int .i64 h.args) ∧ V.cell? ⟨gi, 1, none⟩ = some (.int .i64 h.temps) ∧ V.cell? ⟨gi, 2, none⟩ = some (.int .i64 h.stack) ∧ V.cell? ⟨gi, 3, none⟩ = some (.slice (some ⟨gt, 0, none⟩) C.lits ct) ∧ V.cell? ⟨gi, 4, none⟩ = some (.slice (some ⟨gm, 0, none⟩) C.ws.length cm)) ∧ (V.cell? ⟨w.heap.size + 1, 0, none⟩ = some (.int .i64 C.b.fields) ∧ V.cell? ⟨w.heap.size + 1, 1, none⟩ = some (.int .i64 C.b.classes) ∧ V.cell? ⟨w.heap.size + 1, 2, none⟩ = some (.int .i64 C.b.globals) ∧ V.cell? ⟨w.heap.size + 1, 3, none⟩ = some (.int .i64 C.b.symbols)) ∧ w.heap.size + 2 ≤ gi ∧ gi < V.heap.size) := fun V s => by
                have h1 := s.cb
                have h2 := s.gb
                have h3 := s.bb
                rw [HE1.out.1, HE1.out.2.2] at h1 h2
                rw [HE1.out.2.1] at h3
                exact ⟨⟨cell_in h1 0, cell_in h1 1, cell_in h1 2, cell_in h1 3, cell_in h1 4⟩, ⟨cell_in h2 0, cell_in h2 1, cell_in h2 2, cell_in h2 3, cell_in h2 4⟩, ⟨cell_in h3 0, cell_in h3 1, cell_in h3 2, cell_in h3 3⟩, s.gi2, lt_of_heap h2⟩
              obtain ⟨⟨c0, c1, c2, c3, c4⟩, ⟨g0, g1, g2, g3, g4⟩, -, e1, e2⟩ := HCel.out w8 S8.out
              have e3 : w.heap.size < w8.heap.size := by omega
              go_wp2_with fail
              generalize hU1 : w8.alloc (.cells #[.int .i64 h.args, .int .i64 h.temps, .int .i64 h.stack, .slice lp C.lits lc, .slice pw C.ws.length cw] 25) = U1
              have HFU : Hid (Fr [] w8 U1) := by rw [← hU1]; exact Fr.alloc [] w8 _
              have HGB : Hid (U1.heap[w8.heap.size]? = some (.cells #[.int .i64 h.args, .int .i64 h.temps, .int .i64 h.stack, .slice lp C.lits lc, .slice pw C.ws.length cw] 25 (0, 0))) := by rw [← hU1]; exact heap_alloc_new w8 _
              have HGo : Hid (gi < w8.heap.size) := e2
              have S9 := mkHid (S8.out.idle HFU.out)
              have HLw : Hid (∀ W, Fr [w8.heap.size] U1 W → LgR W hi p pl i) := fun W hW => HLg.out.idle (HFU.out.trans hW (fun b hb => .inr (by simp at hb; omega)))
              clear HLg
              have HOu : Hid (w8.heap.size < U1.heap.size) := lt_of_heap HGB.out
              have HOv : Hid (w.heap.size ≤ w8.heap.size ∧ hi ≤ w8.heap.size) := ⟨by omega, S8.out.his⟩
              clear hU1 c0 c1 c2 c3 c4 g0 g1 g2 g3 g4 e1 e2 e3 HFU S8
              generalize w8.heap.size = ov at *
              have hR : Hid (Fr [] U1 U1) := Fr.refl _ _
              have HC4 : Hid (∀ V, Hid (Fr [] U1 V) → V.cell? ⟨gi, 4, none⟩ = some (.slice (some ⟨gm, 0, none⟩) C.ws.length cm)) := fun V hV => (HCel.out V (S9.out.idle hV.out)).2.1.2.2.2.2
              have HC4s : Hid (∀ V v, Hid (Fr [] U1 V) → (V.setCell ⟨ov, 4, none⟩ v).cell? ⟨gi, 4, none⟩ = some (.slice (some ⟨gm, 0, none⟩) C.ws.length cm)) := fun V v hV => by
                have h2 := HC4.out V hV
                exact ((Fr.setCell (S := [ov]) V ⟨ov, 4, none⟩ v (by simp)).cell (p := ⟨gi, 4, none⟩) (World.block_lt_of_cell? V _ h2) (by simp; have := HGo.out; omega)).trans h2
              have HMk3 : Hid (∀ V, Hid (Fr [] U1 V) → Calls Tryd.prog 6 #[.slice (some ⟨gm, 0, none⟩) C.ws.length cm] V fun e w' => ∃ g c, e = .returned (.slice (some ⟨g, 0, none⟩) (C.ws.length + 64) c) ∧ Hid (Fr [] U1 w') ∧ C.ws.length + 64 ≤ c ∧ Hid (w'.ownsRow U1.heap.size 3 1 (.slice (some ⟨g, 0, none⟩) (C.ws.length + 64) c) (C.ws.length + 64) ((C'.ws ++ mkS 64).map (Value.int .i64))) ∧ g ≠ ov ∧ w'.cell? ⟨ov, 4, none⟩ = some (.slice pw C.ws.length cw) ∧ w'.frozen? ⟨ov, 4, none⟩ = false) := fun V hV => by
                have hr := (S9.out.idle hV.out).gv.code.words
                rw [HE1.out.2.2] at hr
                have := marked_is C'.ws _ V hr
                rw [HE1.out.2.2] at this
                refine this.mono ?_
                rintro e w' ⟨p, c, rfl, f, o⟩
                have hb := (hV.out.tr0 f).hb HGB.out
                have hov := lt_of_heap HGB.out
                rcases o.2 with ⟨e0, e1⟩ | ⟨g, cap, cur, e0, q1, q2, q3, q4⟩
                · omega
                · injection e0 with e0 _ e2
                  subst e0 e2
                  have := hV.out.size
                  exact ⟨g, c, rfl, hV.out.tr0 f, by omega, own_base o this, by omega, cell_in hb 4, frozen_in hb 4⟩
              have HEnd : Hid (∀ V g c, Hid (Fr [] U1 V) → Hid (V.ownsRow U1.heap.size 3 1 (.slice (some ⟨g, 0, none⟩) (C.ws.length + 64) c) (C.ws.length + 64) ((C'.ws ++ mkS 64).map (Value.int .i64))) → g ≠ ov → (V.setCell ⟨ov, 4, none⟩ (.slice (some ⟨g, 0, none⟩) C.ws.length c)).ownsRow U1.heap.size 3 1 (.slice (some ⟨g, 0, none⟩) (C.ws.length + 64) c) (C.ws.length + 64) ((C'.ws ++ mkS 64).map (Value.int .i64)) ∧ (V.setCell ⟨ov, 4, none⟩ (.slice (some ⟨g, 0, none⟩) C.ws.length c)).heap[ov]? = some (.cells (cdv h lp C.lits lc (some ⟨g, 0, none⟩) C.ws.length c) 25 (0, 0)) ∧ Fr [ov] U1 (V.setCell ⟨ov, 4, none⟩ (.slice (some ⟨g, 0, none⟩) C.ws.length c))) := fun V g c hV hrd hg => by
                have hb := hV.out.hb HGB.out
                have fs : Fr [ov] V (V.setCell ⟨ov, 4, none⟩ (.slice (some ⟨g, 0, none⟩) C.ws.length c)) := Fr.setCell (S := [ov]) V ⟨ov, 4, none⟩ _ (by simp)
                refine ⟨own_congr hrd.out fun b hb => ?_, by rw [set_in hb 4 _]; rfl, (hV.out.mono (by simp)).trans fs (fun b hb => .inl hb)⟩
                have e : b = g := by simpa [Value.ownBlock] using hb.symm
                rw [e]
                exact fs.block g (own_lt hrd.out g rfl).2 (by simpa using hg)
              go_cut [] (fun W => Hid (∃ g c, C.ws.length + 64 ≤ c ∧ W.ownsRow U1.heap.size 3 1 (.slice (some ⟨g, 0, none⟩) (C.ws.length + 64) c) (C.ws.length + 64) ((C'.ws ++ mkS 64).map (Value.int .i64)) ∧ W.heap[ov]? = some (.cells (cdv h lp C.lits lc (some ⟨g, 0, none⟩) C.ws.length c) 25 (0, 0)) ∧ Fr [ov] U1 W))
              case first =>
                generalize C.ws.length = nw at *
                have nn0 : (0 : Int) ≤ (nw : Int) := by omega
                go_region_held3 (fun W => W.cell? ⟨gi, 4, none⟩ = some (.slice (some ⟨gm, 0, none⟩) nw cm))
                  (first
                    | exact HC4.out _ (hid_drew2 hR)
                    | exact HC4.out _ hR
                    | exact HC4.out _ hg2
                    | exact HC4s.out _ _ hg2)
                  ((go_at_call 6; refine (HMk3.out _ (hid_drew2 hR)).mono ?_; rintro e w2 ⟨g, c, rfl, hg2, hc2, hrd2, hgn, v4, z4⟩; have hc3 : (nw : Int) ≤ (c : Int) := by omega))
                all_goals go_wp2_with fail
                all_goals
                  go_meet
                  case rel => exact ⟨g, c, hc2, HEnd.out w2 g c hg2 hrd2 hgn⟩
              case rest =>
                obtain ⟨gn, cn, hcn, rown, hbn, fn⟩ := hcut.out
                clear hcut HEnd HMk3 HC4s HC4 hR HGB
                have SB := mkHid (S9.out.kw (fn.kw S9.out.his (fun b hb => by simp at hb; rw [hb]; exact HOv.out.2)))
                have HFn := mkHid fn
                have HRn := mkHid rown
                have HBn := mkHid hbn
                have HOs : Hid (ov < wc.heap.size) := lt_of_heap hbn
                have HL' : Hid (us'.length = C.lits) := by rw [← HE1.out.1]; exact S9.out.gv.len
                clear fn rown hbn S9
                have HTw : Hid (Calls Tryd.prog 7 #[.slice (some ⟨gt, 0, none⟩) C.lits ct] wc fun e w' => ∃ g c us2, e = .returned (.slice (some ⟨g, 0, none⟩) C.lits c) ∧ us2.length = C.lits ∧ stL us2 = stL us' ∧ Fr [] wc w' ∧ LitsM w' (fun b => wc.heap.size ≤ b ∧ b < w'.heap.size) (some ⟨g, 0, none⟩) c us2) := by
                  have := twin_is wc (some ⟨gt, 0, none⟩) ct us' SB.out.gv.lits.plain wc (Fr.refl [] wc)
                  rw [HL'.out] at this
                  refine this.mono ?_
                  rintro e w' ⟨g, c, us2, rfl, h1, h2, h3, h4⟩
                  rw [HL'.out] at h1 ⊢
                  exact ⟨g, c, us2, rfl, h1, h2, h3, h4⟩
                obtain ⟨-, ⟨g0, g1, g2, g3, g4⟩, -, e1, e2⟩ := HCel.out wc SB.out
                clear g0 g1 g2 g4
                go_wp2_with fail
                refine HTw.out.mono ?_
                rintro e w4 ⟨gk, ck, us2, rfl, hu2, hst2, f4, hm4⟩
                clear g3 e1 e2 HTw
                have hb4 := f4.hb HBn.out
                obtain ⟨⟨c0, c1, c2, c3, c4⟩, ⟨g0, g1, g2, g3, g4⟩, ⟨d0, d1, d2, d3⟩, e1, e2⟩ := HCel.out w4 (SB.out.idle f4)
                have o0 : w4.cell? ⟨ov, 0, none⟩ = some (.int .i64 h.args) := cell_in hb4 0
                have o1 : w4.cell? ⟨ov, 1, none⟩ = some (.int .i64 h.temps) := cell_in hb4 1
                have o2 : w4.cell? ⟨ov, 2, none⟩ = some (.int .i64 h.stack) := cell_in hb4 2
                have o3 : w4.cell? ⟨ov, 3, none⟩ = some (.slice lp C.lits lc) := cell_in hb4 3
                have o4 : w4.cell? ⟨ov, 4, none⟩ = some (.slice (some ⟨gn, 0, none⟩) C.ws.length cn) := cell_in hb4 4
                have z3 := frozen_in hb4 3
                have m1 : ¬ w.heap.size + 1 = ov := by have := HGo.out; omega
                have m2 : ¬ ov = w.heap.size + 1 := by have := HGo.out; omega
                obtain ⟨D', hD'⟩ : ∃ D, depthsP C' h (lookL C'.b.symbols us' 0).1 = D := ⟨_, rfl⟩
                have HS5 : Hid (Sy w (w4.setCell ⟨ov, 3, none⟩ (.slice (some ⟨gk, 0, none⟩) C.lits ck)) C' h us' us' lp lc pw cw gi gm cm (some ⟨gt, 0, none⟩) ct lo hi ∧ LgR (w4.setCell ⟨ov, 3, none⟩ (.slice (some ⟨gk, 0, none⟩) C.lits ck)) hi p pl i ∧ CodeR (w4.setCell ⟨ov, 3, none⟩ (.slice (some ⟨gk, 0, none⟩) C.lits ck)) C' us2 (some ⟨gk, 0, none⟩) ck (some ⟨gn, 0, none⟩) cn ∧ (w4.setCell ⟨ov, 3, none⟩ (.slice (some ⟨gk, 0, none⟩) C.lits ck)).heap[ov]? = some (.cells (cdv h (some ⟨gk, 0, none⟩) C.lits ck (some ⟨gn, 0, none⟩) C.ws.length cn) 25 (0, 0))) := by
                  have fs : Fr [ov] w4 (w4.setCell ⟨ov, 3, none⟩ (.slice (some ⟨gk, 0, none⟩) C.lits ck)) := Fr.setCell (S := [ov]) w4 ⟨ov, 3, none⟩ _ (by simp)
                  have fc : Fr [ov] wc (w4.setCell ⟨ov, 3, none⟩ (.slice (some ⟨gk, 0, none⟩) C.lits ck)) := (f4.mono (by simp)).trans fs (fun b hb => .inl hb)
                  have s5 := SB.out.kw (fc.kw SB.out.his (fun b hb => by simp at hb; rw [hb]; exact HOv.out.2))
                  have hrn := HRn.out
                  have hgn := own_lt hrn gn rfl
                  have hovU : ov < U1.heap.size := HOu.out
                  refine ⟨s5, HLw.out _ (HFn.out.trans fc (fun b hb => .inl hb)), ?_, by rw [set_in hb4 3 _]; rfl⟩
                  have row5 : (w4.setCell ⟨ov, 3, none⟩ (.slice (some ⟨gk, 0, none⟩) C.lits ck)).ownsRow U1.heap.size 3 1 (.slice (some ⟨gn, 0, none⟩) (C'.ws.length + (mkS 64).length) cn) (C'.ws.length + (mkS 64).length) ((C'.ws ++ mkS 64).map (Value.int .i64)) := by
                    rw [HE1.out.2.2, mkS_len]
                    refine own_congr hrn fun b hb => ?_
                    have e : b = gn := by simpa [Value.ownBlock] using hb.symm
                    rw [e]
                    exact fc.block gn hgn.2 (by simp; omega)
                  obtain ⟨r1, r2, -⟩ := rd_front row5 (by rw [mkS_len]; omega) (by rw [HE1.out.2.2]; omega)
                  exact ⟨r1, r2, (hm4.keep (fs.frp (Ok := fun b => b = ov) (fun g hg => .inl (by simpa using hg))) (fun b hb e => by have := hb.1; have := HOs.out; omega)).plain, hu2.trans HE1.out.1.symm, s5.gv.rng, s5.gv.tb⟩
                have HLk : Hid (depthsP C' h (lookL C'.b.symbols us2 0).1 = D') := by rw [← hD', look_st C'.b.symbols us2 us' 0 hst2]; exact rfl
                clear c0 c1 c2 c3 c4 g0 g1 g2 g3 g4 hb4 f4 hm4 hst2 hu2 SB HRn HBn HFn HLw e1 e2
                go_wp2_with fail
                generalize hU4 : w4.setCell ⟨ov, 3, none⟩ (.slice (some ⟨gk, 0, none⟩) C.lits ck) = U4 at *
                clear o0 o1 o2 o3 o4 z3 d0 d1 d2 d3 hU4
                obtain ⟨s5, hl5, hc5, hb5⟩ := HS5.out
                have S5 := mkHid s5
                have HLg := mkHid hl5
                have HCo : Hid (∀ V, Fr [] U4 V → CodeR V C' us2 (some ⟨gk, 0, none⟩) ck (some ⟨gn, 0, none⟩) cn) := fun V hV => ⟨hc5.words.idle hV, hc5.cap, hc5.lits.idle hV, hc5.ln, hc5.rng, hc5.tb.idle hV⟩
                have HBo : Hid (U4.heap[ov]? = some (.cells (cdv h (some ⟨gk, 0, none⟩) C.lits ck (some ⟨gn, 0, none⟩) C.ws.length cn) 25 (0, 0))) := hb5
                have HRk : Hid (∀ V, Fr [] U4 V → Calls Tryd.prog 13 #[.agg #[.int .i64 h.args, .int .i64 h.temps, .int .i64 h.stack, .slice (some ⟨gk, 0, none⟩) C.lits ck, .slice (some ⟨gn, 0, none⟩) C.ws.length cn], .agg #[.int .i64 C.b.fields, .int .i64 C.b.classes, .int .i64 C.b.globals, .int .i64 C.b.symbols]] V fun e w' => e = .returned (.int .i64 D'.1) ∧ Fr [] V w') := fun V hV => by
                  have := rCheck_ok C' h us2 (some ⟨gk, 0, none⟩) ck (some ⟨gn, 0, none⟩) cn V (HCo.out V hV)
                  rw [HLk.out, HE1.out.1, HE1.out.2.1, HE1.out.2.2] at this
                  exact this
                have HRd : Hid (∀ V, Fr [] U4 V → Calls Tryd.prog 15 #[.agg #[.int .i64 h.args, .int .i64 h.temps, .int .i64 h.stack, .slice (some ⟨gk, 0, none⟩) C.lits ck, .slice (some ⟨gn, 0, none⟩) C.ws.length cn], .agg #[.int .i64 C.b.fields, .int .i64 C.b.classes, .int .i64 C.b.globals, .int .i64 C.b.symbols]] V fun e w' => ∃ p c, e = .returned (.tuple #[.slice p (dl D').length c, .int .i64 D'.1]) ∧ Fr [] V w' ∧ w'.ownsRow V.heap.size 3 1 (.slice p (dl D').length c) (dl D').length ((dl D').map (Value.int .i64))) := fun V hV => by
                  have := rDepths_ok C' h us2 (some ⟨gk, 0, none⟩) ck (some ⟨gn, 0, none⟩) cn V (HCo.out V hV)
                  rw [HLk.out, HE1.out.1, HE1.out.2.1, HE1.out.2.2] at this
                  refine this.mono ?_
                  rintro e w' ⟨v, rfl, f, h0, h1⟩
                  obtain ⟨p, c, rfl, ho⟩ := dep_row h0 h1
                  exact ⟨p, c, rfl, f, ho⟩
                have HCk : Hid (∀ V, Sy w V C' h us' us' lp lc pw cw gi gm cm (some ⟨gt, 0, none⟩) ct lo hi → Calls Tryd.prog 8 #[.agg #[.int .i64 h.args, .int .i64 h.temps, .int .i64 h.stack, .slice (some ⟨gt, 0, none⟩) C.lits ct, .slice (some ⟨gm, 0, none⟩) C.ws.length cm], .agg #[.int .i64 C.b.fields, .int .i64 C.b.classes, .int .i64 C.b.globals, .int .i64 C.b.symbols]] V fun e w' => e = .returned (.int .i64 D'.1) ∧ Fr [] V w') := fun V s => by
                  have := s.check
                  rw [hD', HE1.out.1, HE1.out.2.1, HE1.out.2.2] at this
                  exact this
                have HDp : Hid (∀ V, Sy w V C' h us' us' lp lc pw cw gi gm cm (some ⟨gt, 0, none⟩) ct lo hi → Calls Tryd.prog 14 #[.agg #[.int .i64 h.args, .int .i64 h.temps, .int .i64 h.stack, .slice (some ⟨gt, 0, none⟩) C.lits ct, .slice (some ⟨gm, 0, none⟩) C.ws.length cm], .agg #[.int .i64 C.b.fields, .int .i64 C.b.classes, .int .i64 C.b.globals, .int .i64 C.b.symbols]] V fun e w' => ∃ p c, e = .returned (.tuple #[.slice p (dl D').length c, .int .i64 D'.1]) ∧ Fr [] V w' ∧ w'.ownsRow V.heap.size 3 1 (.slice p (dl D').length c) (dl D').length ((dl D').map (Value.int .i64)) ∧ (dl D').length ≤ 4096) := fun V s => by
                  have := s.depths
                  rw [hD', HE1.out.1, HE1.out.2.1, HE1.out.2.2] at this
                  exact this
                have HOc : Hid (∀ V, Fr [] U4 V → V.cell? ⟨ov, 0, none⟩ = some (.int .i64 h.args) ∧ V.cell? ⟨ov, 1, none⟩ = some (.int .i64 h.temps) ∧ V.cell? ⟨ov, 2, none⟩ = some (.int .i64 h.stack) ∧ V.cell? ⟨ov, 3, none⟩ = some (.slice (some ⟨gk, 0, none⟩) C.lits ck) ∧ V.cell? ⟨ov, 4, none⟩ = some (.slice (some ⟨gn, 0, none⟩) C.ws.length cn)) := fun V hV => by
                  have hb := hV.hb HBo.out
                  exact ⟨cell_in hb 0, cell_in hb 1, cell_in hb 2, cell_in hb 3, cell_in hb 4⟩
                clear s5 hl5 hc5 hb5 HS5 HLk hD' HCo
                refine (HRk.out U4 (Fr.refl [] U4)).mono ?_
                rintro e w5 ⟨rfl, f5⟩
                have F5 := mkHid f5
                replace S5 := mkHid (S5.out.idle f5)
                replace HLg := mkHid (HLg.out.idle f5)
                clear f5 HRk
                obtain ⟨-, ⟨g0, g1, g2, g3, g4⟩, ⟨d0, d1, d2, d3⟩, -, -⟩ := HCel.out w5 S5.out
                go_wp2_with fail
                refine (HCk.out w5 S5.out).mono ?_
                rintro e w6 ⟨rfl, f6⟩
                have S6 := mkHid (S5.out.idle f6)
                have F6 := mkHid (F5.out.tr0 f6)
                replace HLg := mkHid (HLg.out.idle f6)
                clear f6 F5 S5 g0 g1 g2 g3 g4 d0 d1 d2 d3 HCk
                generalize hde : D'.1 = dE at *
                generalize hlt' : dl D' = lt at *
                clear hde hlt'
                go_wp2_with fail
                refine (HNum.out dE w6).mono ?_
                rintro e w7 ⟨rfl, rfl⟩
                obtain ⟨o0, o1, o2, o3, o4⟩ := HOc.out w7 F6.out
                obtain ⟨-, -, ⟨d0, d1, d2, d3⟩, -, -⟩ := HCel.out w7 S6.out
                go_wp2_with fail
                refine (HRd.out w7 F6.out).mono ?_
                rintro e w8 ⟨p6, q6, rfl, f8, row8⟩
                have S8 := mkHid (S6.out.idle f8)
                replace HLg := mkHid (HLg.out.idle f8)
                have HR8 := mkHid row8
                clear f8 row8 S6 F6 o0 o1 o2 o3 o4 d0 d1 d2 d3 HRd HOc
                obtain ⟨-, ⟨g0, g1, g2, g3, g4⟩, ⟨d0, d1, d2, d3⟩, -, -⟩ := HCel.out w8 S8.out
                go_wp2_with fail
                refine (HDp.out w8 S8.out).mono ?_
                rintro e w9 ⟨p7, q7, rfl, f9, row9, hs9⟩
                have S9 := mkHid (S8.out.idle f9)
                replace HLg := mkHid (HLg.out.idle f9)
                have HR9 : Hid (Rc w9 p7 lt ∧ Rc w9 p6 lt) := ⟨own_rc row9, (own_rc HR8.out).keep (fun g _ hl => f9.block g hl (by simp))⟩
                have HSame2 : Hid (Calls Tryd.prog 16 #[.slice p7 lt.length q7, .slice p6 lt.length q6] w9 fun e w' => e = .returned (.bool true) ∧ Fr [] w9 w') := same_is lt lt.length rfl (by omega) p7 p6 q7 q6 w9 HR9.out.1 HR9.out.2
                clear f9 row9 S8 HR8 HR9 g0 g1 g2 g3 g4 d0 d1 d2 d3 HDp HCel
                go_wp2_with fail
                go_loopw [23] (fun q wr => wr = w9 ∧ ∃ j : Nat, q = .int .i64 (j : Int) ∧ j ≤ i + 64) (fun q _ => i + 64 - (intOf q).toNat)
                case atStart => exact ⟨rfl, 0, rfl, by omega⟩
                case round =>
                  obtain ⟨rfl, j, rfl, hj⟩ := hrel
                  have j0 : (0 : Int) ≤ (j : Int) := by omega
                  by_cases hlt : j < i + 64
                  · have j1 : (j : Int) < ((i + 64 : Nat) : Int) := by omega
                    obtain ⟨gp, op, rfl, hcp⟩ := HLg.out.ra (by simp)
                    have x1 : wr.cell? ⟨gp, op + j, none⟩ = some (.int .i64 (-9)) := by
                      rw [hcp j (by simpa using hlt), List.getD_eq_getElem?_getD, List.getElem?_replicate, if_pos hlt]; rfl
                    clear hcp
                    by_cases hl2 : j < i
                    · have j2 : (j : Int) < (i : Int) := by omega
                      obtain ⟨gq, oq, rfl, hcq⟩ := HLg.out.rb (by simp; omega)
                      have x2 : wr.cell? ⟨gq, oq + j, none⟩ = some (.int .i64 (-9)) := by
                        rw [hcq j (by simpa using hl2), List.getD_eq_getElem?_getD, List.getElem?_replicate, if_pos hl2]; rfl
                      clear hcq
                      go_wp2_with fail
                      go_roundw
                      case rel => exact ⟨trivial, j + 1, by go_num, by omega⟩
                      case measure => simp [intOf]; omega
                    · have j2 : decide ((j : Int) < (i : Int)) = false := decide_eq_false (by omega)
                      go_wp2_with fail
                      go_roundw
                      case rel => exact ⟨trivial, j + 1, by go_num, by omega⟩
                      case measure => simp [intOf]; omega
                  · have hje : j = i + 64 := by omega
                    subst hje
                    have HFw := mkHid S9.out.fr
                    clear S9 HLg
                    go_wp2_with fail
                    refine (HNum.out dE wr).mono ?_
                    rintro e w5 ⟨rfl, rfl⟩
                    go_wp2_with fail
                    refine HSame2.out.mono ?_
                    rintro e w6 ⟨rfl, f6⟩
                    go_wp2_with fail
                    go_ret
                    exact ⟨rfl, HFw.out.tr0 f6⟩
end Go.Proofs.YtdflpoldlokijaaDoor
