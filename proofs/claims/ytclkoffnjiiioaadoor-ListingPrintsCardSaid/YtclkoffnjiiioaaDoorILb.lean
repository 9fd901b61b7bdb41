import Derived.Test.YtclkoffnjiiioaaDoorILo
import Derived.Test.YtclkoffnjiiioaaDoorCSy4
namespace Go.Proofs.YtclkoffnjiiioaaDoor
open Go.RowKit
set_option linter.unusedVariables false
set_option linter.unusedSimpArgs false
attribute [local go_sem ↓] Go.wp_at_zero Go.wp_at_succ
set_option maxRecDepth 100000 in
set_option maxHeartbeats 16000000 in
theorem prints_any (K : Co) (lp : Option Addr) (lc : Nat) (pw : Option Addr) (cw : Nat) (w : World) (hc : CoR w K lp lc pw cw) :
    Calls Tryd.prog 3 #[.agg (K.v lp lc pw cw)] w fun e w' => e = .returned (.bool true) ∧ Fr [] w w' := by
  have hsh := hc.words.short
  have HBey : Hid (∀ V, Fr [] w V → Calls Tryd.prog 4 #[.slice lp K.ts.length lc] V fun e w' => AnyS V K.ts e w') := fun V hV => beyond_is V lp lc K.ts (hc.lits.idle hV)
  have HTwin : Hid (∀ V, Fr [] w V → Calls Tryd.prog 5 #[.slice lp K.ts.length lc] V fun e w' => TeP V K.ts e w') := fun V hV => twin_is w lp lc K.ts hc.lits V hV
  obtain ⟨W0, hW0⟩ : ∃ V, w.alloc (.cells (K.v lp lc pw cw) 25) = V := ⟨_, rfl⟩
  have hb0 : W0.heap[w.heap.size]? = some (.cells (K.v lp lc pw cw) 25 (0, 0)) := by rw [← hW0]; exact heap_alloc_new w _
  have HW0 : Hid (Fr [] w W0) := by rw [← hW0]; exact Fr.alloc [] w _
  have HAe : Hid (w.alloc (.cells #[.int .i64 K.args, .int .i64 K.temps, .int .i64 K.stack, .slice lp K.ts.length lc, .slice pw K.ws.length cw] 25) = W0) := hW0
  have HBx : Hid (∀ V, Fr [] W0 V → V.heap[w.heap.size]? = some (.cells (K.v lp lc pw cw) 25 (0, 0))) := fun V hV => hV.hb hb0
  have HCel : Hid (∀ V, Fr [] W0 V → V.cell? ⟨w.heap.size, 0, none⟩ = some (.int .i64 K.args) ∧ V.cell? ⟨w.heap.size, 1, none⟩ = some (.int .i64 K.temps) ∧ V.cell? ⟨w.heap.size, 2, none⟩ = some (.int .i64 K.stack) ∧ V.cell? ⟨w.heap.size, 3, none⟩ = some (.slice lp K.ts.length lc) ∧ V.cell? ⟨w.heap.size, 4, none⟩ = some (.slice pw K.ws.length cw) ∧ w.heap.size < V.heap.size) := fun V hV => by
    have hc := hV.hb hb0
    exact ⟨cell_in hc 0, cell_in hc 1, cell_in hc 2, cell_in hc 3, cell_in hc 4, lt_of_heap hc⟩
  have HC := mkHid hc
  clear hc hb0 hW0
  unfold Co.v
  go_enter Tryd.func3, Tryd.ntmps3
  go_wp2_with fail
  rw [HAe.out]
  refine (HBey.out W0 HW0.out).mono ?_
  rintro e w1 ⟨bb, rfl, f1, hsm⟩
  cases bb
  case true =>
    go_wp2_with fail
    go_ret
    exact ⟨rfl, HW0.out.tr0 f1⟩
  case false =>
  have HSm := mkHid (hsm rfl)
  obtain ⟨a0, a1, a2, a3, a4, a8⟩ := HCel.out w1 f1
  have F1 := mkHid f1
  have HSz : Hid (w.heap.size < w1.heap.size) := a8
  clear f1 hsm HAe HBey
  obtain ⟨U1, hU1⟩ : ∃ V, w1.alloc (.cells #[.int .i64 K.args, .int .i64 K.temps, .int .i64 K.stack, .slice lp K.ts.length lc, .slice pw K.ws.length cw] 25) = V := ⟨_, rfl⟩
  have HFU : Hid (Fr [] w1 U1) := by rw [← hU1]; exact Fr.alloc [] w1 _
  have HGB : Hid (U1.heap[w1.heap.size]? = some (.cells (K.v lp lc pw cw) 25 (0, 0))) := by rw [← hU1]; exact heap_alloc_new w1 _
  have HU1 := mkHid hU1
  obtain ⟨v2, w2, v3, w3, gm, cm, hr2, hr3, hv3, row3, hgm, hcm, f2, f3⟩ := words_mark K.ws _ U1 (HC.out.words.idle (HW0.out.tr0 (F1.out.tr0 HFU.out))) (by omega)
  subst hv3
  rw [← hU1] at hr2
  have HR2 := mkHid hr2
  have HR3 := mkHid hr3
  clear hU1 hr2 hr3
  obtain ⟨y0, y1, y2, y3, y4, y8⟩ := HCel.out U1 (F1.out.tr0 HFU.out)
  obtain ⟨x0, x1, x2, x3, x4, x8⟩ := HCel.out w3 (F1.out.tr0 (HFU.out.tr0 f3))
  have hb3 := f3.hb HGB.out
  have g4 : w3.cell? ⟨w1.heap.size, 4, none⟩ = some (.slice pw K.ws.length cw) := cell_in hb3 4
  have z4 := frozen_in hb3 4
  have n1 : ¬ w.heap.size = w1.heap.size := by have := HSz.out; omega
  have n2 : ¬ w1.heap.size = w.heap.size := by have := HSz.out; omega
  have nc : (K.ws.length : Int) ≤ (cm : Int) := by omega
  have F3 := mkHid f3
  have HRow := mkHid row3
  have HGm := mkHid (And.intro hgm hcm)
  have hU1g := lt_of_heap HGB.out
  clear f2 f3 row3 hgm hcm hb3
  go_wp2_with (at_builtin; first | refine Lib.wpList_append_run _ rfl (.tmp 15) (.tmp 17) 23 23 rfl _ _ rfl rfl _ _ HR2.out ?_ | refine Lib.wpList_append_run _ rfl (.tmp 19) (.tmp 20) 23 23 rfl _ _ rfl rfl _ _ HR3.out ?_)
  obtain ⟨gi, hgi⟩ : ∃ g, w1.heap.size = g := ⟨_, rfl⟩
  rw [hgi] at HGB HSz g4 z4 n1 n2 hU1g ⊢
  have HGi : Hid (W0.heap.size ≤ gi) := by rw [← hgi]; exact F1.out.size
  have HFw : Hid (Fr [] W0 w3) := F1.out.tr0 (HFU.out.tr0 F3.out)
  have HGu : Hid (gi < gm) := by have := HGm.out.1; show gi < gm; omega
  generalize hU2 : w3.setCell ⟨gi, 4, none⟩ (.slice (some ⟨gm, 0, none⟩) K.ws.length cm) = U2
  have F2b : Hid (Fr [] W0 U2) := by rw [← hU2]; exact HFw.out.st HGi.out 4 _
  have HGB2 : Hid (U2.heap[gi]? = some (.cells #[.int .i64 K.args, .int .i64 K.temps, .int .i64 K.stack, .slice lp K.ts.length lc, .slice (some ⟨gm, 0, none⟩) K.ws.length cm] 25 (0, 0))) := by rw [← hU2]; exact set_in (F3.out.hb HGB.out) 4 _
  have HRow2 : Hid (U2.ownsRow 0 3 1 (.slice (some ⟨gm, 0, none⟩) (K.ws.length + 1) cm) (K.ws.length + 1) ((K.ws ++ [-7]).map (Value.int .i64)) ∧ gm < U2.heap.size) := by
    have h1 := HRow.out
    have h2 := own_lt h1 gm rfl
    rw [← hU2]
    refine ⟨own_congr h1 fun b hb => ?_, by simpa using h2.2⟩
    have : b = gm := by simpa [Value.ownBlock] using hb.symm
    exact Below.heap_setCell _ _ _ _ (by rw [this]; show gm ≠ gi; have := HGu.out; omega)
  clear hU2 F3 HRow HFw HR2 HR3 HU1 HFU F1 HGB x0 x1 x2 x3 x4 x8 y0 y1 y2 y3 y4 y8 a0 a1 a2 a3 a4 a8 g4 z4 hgi hU1g
  refine (HTwin.out U2 (HW0.out.tr0 F2b.out)).mono ?_
  rintro e w3 ⟨gt, ct, us, rfl, hus, hst, f3, hm3⟩
  have hb3 := f3.hb HGB2.out
  have b0 := HBx.out w3 (F2b.out.tr0 f3)
  have g0 : w3.cell? ⟨gi, 0, none⟩ = some (.int .i64 K.args) := cell_in hb3 0
  have g1 : w3.cell? ⟨gi, 1, none⟩ = some (.int .i64 K.temps) := cell_in hb3 1
  have g2 : w3.cell? ⟨gi, 2, none⟩ = some (.int .i64 K.stack) := cell_in hb3 2
  have g3 : w3.cell? ⟨gi, 3, none⟩ = some (.slice lp K.ts.length lc) := cell_in hb3 3
  have g4 : w3.cell? ⟨gi, 4, none⟩ = some (.slice (some ⟨gm, 0, none⟩) K.ws.length cm) := cell_in hb3 4
  have z3 := frozen_in hb3 3
  obtain ⟨K', hK'⟩ : ∃ K', (⟨K.args, K.temps, K.stack, us, K.ws⟩ : Co) = K' := ⟨_, rfl⟩
  have HSp : Hid (Sp w (w3.setCell ⟨gi, 3, none⟩ (.slice (some ⟨gt, 0, none⟩) K.ts.length ct)) K K' lp lc pw cw gi gm cm (some ⟨gt, 0, none⟩) ct U2.heap.size w3.heap.size) := by
    have fs : Fr [gi] w3 (w3.setCell ⟨gi, 3, none⟩ (.slice (some ⟨gt, 0, none⟩) K.ts.length ct)) := Fr.setCell (S := [gi]) w3 ⟨gi, 3, none⟩ _ (by simp)
    have fW : Fr [] W0 (w3.setCell ⟨gi, 3, none⟩ (.slice (some ⟨gt, 0, none⟩) K.ts.length ct)) := (F2b.out.tr0 f3).st HGi.out 3 _
    have b0' := HBx.out _ fW
    obtain ⟨r1, r3⟩ := HRow2.out
    have hz := HSz.out
    have hg3 : gi < U2.heap.size := lt_of_heap HGB2.out
    have hgu := HGu.out
    subst hK'
    refine ⟨HW0.out.tr0 fW, b0', by rw [set_in hb3 3 _, ← hus]; rfl, by omega, hgu, r3, f3.size, by simp, ⟨?_, HGm.out.2, ?_, nmL_st hst HC.out.nums, HC.out.rng, HC.out.hd, HC.out.tb.idle (HW0.out.tr0 fW), HC.out.pw.idle (HW0.out.tr0 fW), hsh⟩⟩
    · refine own_congr r1 fun b hb => ?_
      have e : b = gm := by simpa [Value.ownBlock] using hb.symm
      rw [e]
      exact (fs.block gm (Nat.lt_of_lt_of_le r3 f3.size) (by simp; omega)).trans (f3.block gm r3 (by simp))
    · exact hm3.keep (fs.frp (Ok := fun b => b = gi) (fun g hg => .inl (by simpa using hg))) (fun b hb e => by have := hb.1; omega)
  have HSmU : Hid (∀ t ∈ K'.ts, SmT t) := by rw [← hK']; exact smL_st hst HSm.out
  have HKs : Hid (stL K'.ts = stL K.ts ∧ K'.ts.length = K.ts.length ∧ K'.ws = K.ws ∧ K'.args = K.args ∧ K'.temps = K.temps ∧ K'.stack = K.stack ∧ prP K' = prP K) := by subst hK'; exact ⟨hst, hus, rfl, rfl, rfl, rfl, prP_st K us hst⟩
  have HPr : Hid (∀ V, Sp w V K K' lp lc pw cw gi gm cm (some ⟨gt, 0, none⟩) ct U2.heap.size w3.heap.size → Calls Tryd.prog 6 #[.agg #[.int .i64 K.args, .int .i64 K.temps, .int .i64 K.stack, .slice (some ⟨gt, 0, none⟩) K.ts.length ct, .slice (some ⟨gm, 0, none⟩) K.ws.length cm]] V fun e w' => e = .returned (.tuple #[.string ⟨(prP K).2.toArray⟩, .int .i64 (prP K).1]) ∧ Fr [] V w') := fun V s => by
    obtain ⟨-, h2, h3, h4, h5, h6, h7⟩ := HKs.out
    have := print_ok K' _ _ _ _ V s.gp.cor
    rw [h7] at this
    unfold Co.v at this
    rw [h2, h3, h4, h5, h6] at this
    exact this
  have HRp : Hid (∀ V, Fr [] w V → Calls Tryd.prog 7 #[.agg #[.int .i64 K.args, .int .i64 K.temps, .int .i64 K.stack, .slice lp K.ts.length lc, .slice pw K.ws.length cw]] V fun e w' => e = .returned (.tuple #[.string ⟨(prP K).2.toArray⟩, .int .i64 (prP K).1]) ∧ Fr [] V w') := fun V hV => rprint_ok K lp lc pw cw V (HC.out.idle hV)
  clear HGB2 HRow2 F2b HTwin HSm hb3 f3 hm3 b0 hus hst HGm HCel HBx hK' us
  go_wp2_with fail
  generalize hU3 : w3.setCell ⟨gi, 3, none⟩ (.slice (some ⟨gt, 0, none⟩) K.ts.length ct) = w4 at *
  generalize U2.heap.size = lo at *
  generalize w3.heap.size = hi at *
  clear hU3 g0 g1 g2 g3 g4 z3
  have HCel : Hid (∀ V, Sp w V K K' lp lc pw cw gi gm cm (some ⟨gt, 0, none⟩) ct lo hi → (V.cell? ⟨w.heap.size, 0, none⟩ = some (.int .i64 K.args) ∧ V.cell? ⟨w.heap.size, 1, none⟩ = some (.int .i64 K.temps) ∧ V.cell? ⟨w.heap.size, 2, none⟩ = some (.int .i64 K.stack) ∧ V.cell? ⟨w.heap.size, 3, none⟩ = some (.slice lp K.ts.length lc) ∧ V.cell? ⟨w.heap.size, 4, none⟩ = some (.slice pw K.ws.length cw)) ∧ V.cell? ⟨gi, 0, none⟩ = some (.int .i64 K.args) ∧ V.cell? ⟨gi, 1, none⟩ = some (.int .i64 K.temps) ∧ V.cell? ⟨gi, 2, none⟩ = some (.int .i64 K.stack) ∧ V.cell? ⟨gi, 3, none⟩ = some (.slice (some ⟨gt, 0, none⟩) K.ts.length ct) ∧ V.cell? ⟨gi, 4, none⟩ = some (.slice (some ⟨gm, 0, none⟩) K.ws.length cm)) := fun V s => by
    obtain ⟨-, h2, h3, h4, h5, h6, -⟩ := HKs.out
    have hc := s.cb
    have hg := s.gb
    unfold Co.v at hg
    rw [h2, h3, h4, h5, h6] at hg
    exact ⟨⟨cell_in hc 0, cell_in hc 1, cell_in hc 2, cell_in hc 3, cell_in hc 4⟩, cell_in hg 0, cell_in hg 1, cell_in hg 2, cell_in hg 3, cell_in hg 4⟩
  have HSS : Hid (∀ V, Sp w V K K' lp lc pw cw gi gm cm (some ⟨gt, 0, none⟩) ct lo hi → V.cell? ⟨w.heap.size, 3, none⟩ = some (.slice lp K.ts.length lc) ∧ V.cell? ⟨w.heap.size, 4, none⟩ = some (.slice pw K.ws.length cw) ∧ V.cell? ⟨gi, 3, none⟩ = some (.slice (some ⟨gt, 0, none⟩) K.ts.length ct) ∧ V.cell? ⟨gm, K.ws.length, none⟩ = some (.int .i64 (-7))) := fun V s => by
    obtain ⟨⟨-, -, -, c3, c4⟩, -, -, -, d3, -⟩ := HCel.out V s
    have := s.gp.mark
    rw [HKs.out.2.2.1] at this
    exact ⟨c3, c4, d3, this⟩
  have HNum := mkHid num_ok
  have HSame : Hid (∀ V, Sp w V K K' lp lc pw cw gi gm cm (some ⟨gt, 0, none⟩) ct lo hi → Calls Tryd.prog 9 #[.slice (some ⟨gm, 0, none⟩) K.ws.length cm, .slice pw K.ws.length cw] V fun e w' => e = .returned (.bool true) ∧ Fr [] V w') := fun V s => by
    have h1 := s.gp.words.rc
    rw [HKs.out.2.2.1] at h1
    exact same_is K.ws K.ws.length rfl (by omega) _ _ _ _ V h1 (HC.out.words.idle s.fr).rc
  have HWh : Hid (∀ V, Sp w V K K' lp lc pw cw gi gm cm (some ⟨gt, 0, none⟩) ct lo hi → Calls Tryd.prog 10 #[.slice (some ⟨gt, 0, none⟩) K.ts.length ct, .slice lp K.ts.length lc] V fun e w' => e = .returned (.bool true) ∧ Fr [] V w') := fun V s => by
    have := whole_ok V _ _ _ K'.ts s.gp.lits 0 lp lc K.ts (HC.out.lits.idle s.fr) HKs.out.1
    rw [HKs.out.2.1] at this
    refine this.mono ?_
    rintro e w' ⟨rfl, n, rfl⟩
    exact ⟨rfl, ((Fr.refl [] V).dn 0).dn n⟩
  refine (HPr.out w4 HSp.out).mono ?_
  rintro e w5 ⟨rfl, f5⟩
  have S5 := mkHid (HSp.out.idle f5)
  clear f5 HSp
  obtain ⟨⟨c0, c1, c2, c3, c4⟩, g0, g1, g2, g3, g4⟩ := HCel.out w5 S5.out
  go_wp2_with fail
  refine (HRp.out w5 S5.out.fr).mono ?_
  rintro e w6 ⟨rfl, f6⟩
  have S6 := mkHid (S5.out.idle f6)
  clear f6 S5 c0 c1 c2 c3 c4 g0 g1 g2 g3 g4
  obtain ⟨er, her⟩ : ∃ n, (prP K).1 = n := ⟨_, rfl⟩
  obtain ⟨tx, htx⟩ : ∃ s : ByteArray, ⟨(prP K).2.toArray⟩ = s := ⟨_, rfl⟩
  rw [her, htx]
  have Sd : Hid (Sp w w6.drew K K' lp lc pw cw gi gm cm (some ⟨gt, 0, none⟩) ct lo hi) := S6.out.idle (Fr.drew [] w6)
  have nl : (K.ws.length : Int) < (K.ws.length : Int) + 1 := by omega
  have nl0 : (0 : Int) ≤ (K.ws.length : Int) := by omega
  clear S6 her htx HPr HRp
  go_wp2_with fail
  refine wp_region_h (S := (fun V => V.cell? ⟨w.heap.size, 3, none⟩ = some (.slice lp K.ts.length lc) ∧ V.cell? ⟨w.heap.size, 4, none⟩ = some (.slice pw K.ws.length cw) ∧ V.cell? ⟨gi, 3, none⟩ = some (.slice (some ⟨gt, 0, none⟩) K.ts.length ct) ∧ V.cell? ⟨gm, K.ws.length, none⟩ = some (.int .i64 (-7)))) (by kernel_rfl) (HSS.out _ Sd.out) (fun hHeld => ?_)
  refine wpAnyH_take (i := 0) (v := ?_) rfl (by kernel_rfl) (by kernel_rfl) (by kernel_rfl) (fun _ _ _ h => h) (Or.inl ⟨by rfl, ?_⟩) (by assumption) ?_
  rotate_left
  · (intro w hSw; (try dsimp only at hSw); (try (obtain ⟨s1, s2, s3, s4⟩ := hSw)); first | (go_simp; done) | (go_simp; with_reducible rfl))
  try simp only [Act.put, List.getElem_toArray, List.getElem_cons_zero, List.getElem_cons_succ, List.setIfInBounds_toArray, List.set_cons_zero, List.set_cons_succ]
  refine wpAnyH_take (i := 1) (v := ?_) rfl (by kernel_rfl) (by kernel_rfl) (by kernel_rfl) (fun _ _ _ h => h) (Or.inl ⟨by rfl, ?_⟩) (by assumption) ?_
  rotate_left
  · (intro w hSw; (try dsimp only at hSw); (try (obtain ⟨s1, s2, s3, s4⟩ := hSw)); first | (go_simp; done) | (go_simp; with_reducible rfl))
  try simp only [Act.put, List.getElem_toArray, List.getElem_cons_zero, List.getElem_cons_succ, List.setIfInBounds_toArray, List.set_cons_zero, List.set_cons_succ]
  refine wpAnyH_take (i := 2) (v := .bool false) rfl (by kernel_rfl) (by kernel_rfl) (by kernel_rfl) (fun _ _ _ h => h) (Or.inl ⟨by rfl, ?_⟩) (by assumption) ?_
  · (intro w hSw; (try dsimp only at hSw); first | (go_simp; done) | (go_simp; with_reducible rfl) | (go_simp; omega) | (go_simp; simp; omega) | (go_simp; trace_state; fail))
  try simp only [Act.put, List.getElem_toArray, List.getElem_cons_zero, List.getElem_cons_succ, List.setIfInBounds_toArray, List.set_cons_zero, List.set_cons_succ]
  refine wpAnyH_take (i := 3) (v := .bool false) rfl (by kernel_rfl) (by kernel_rfl) (by kernel_rfl) (fun _ _ _ h => h) (Or.inl ⟨by rfl, ?_⟩) (by assumption) ?_
  · (intro w hSw; (try dsimp only at hSw); first | (go_simp; done) | (go_simp; with_reducible rfl) | (go_simp; omega) | (go_simp; simp; omega) | (go_simp; trace_state; fail))
  try simp only [Act.put, List.getElem_toArray, List.getElem_cons_zero, List.getElem_cons_succ, List.setIfInBounds_toArray, List.set_cons_zero, List.set_cons_succ]
  refine wpAnyH_take (i := 4) (v := ?_) rfl (by kernel_rfl) (by kernel_rfl) (by kernel_rfl) (fun _ _ _ h => h) (Or.inl ⟨by rfl, ?_⟩) (by assumption) ?_
  rotate_left
  · (intro w hSw; (try dsimp only at hSw); (try (obtain ⟨s1, s2, s3, s4⟩ := hSw)); first | (go_simp; done) | (go_simp; with_reducible rfl))
  try simp only [Act.put, List.getElem_toArray, List.getElem_cons_zero, List.getElem_cons_succ, List.setIfInBounds_toArray, List.set_cons_zero, List.set_cons_succ]
  refine wpAnyH_take (i := 6) (v := ?_) rfl (by kernel_rfl) (by kernel_rfl) (by kernel_rfl) (fun _ _ _ h => h) (Or.inl ⟨by rfl, ?_⟩) (by assumption) ?_
  rotate_left
  · (intro w hSw; (try dsimp only at hSw); (try (obtain ⟨s1, s2, s3, s4⟩ := hSw)); first | (go_simp; done) | (go_simp; with_reducible rfl))
  try simp only [Act.put, List.getElem_toArray, List.getElem_cons_zero, List.getElem_cons_succ, List.setIfInBounds_toArray, List.set_cons_zero, List.set_cons_succ]
  refine wpH_one (i := 5) (by kernel_rfl) rfl (fun K hK => ?_)
  go_simp
  go_wp2_with fail
  refine (HNum.out _ _).mono ?_
  rintro e w7 ⟨rfl, rfl⟩
  refine hK.out _ _ (HSS.out _ Sd.out) (fun hHeld => ?_)
  clear hK K
  try simp only [Act.put, List.getElem_toArray, List.getElem_cons_zero, List.getElem_cons_succ, List.setIfInBounds_toArray, List.set_cons_zero, List.set_cons_succ]
  refine wpAnyH_take (i := 7) (v := .bool false) rfl (by kernel_rfl) (by kernel_rfl) (by kernel_rfl) (fun _ _ _ h => h) (Or.inl ⟨by rfl, ?_⟩) (by assumption) ?_
  · (intro w hSw; (try dsimp only at hSw); first | (go_simp; done) | (go_simp; with_reducible rfl) | (go_simp; omega) | (go_simp; simp; omega) | (go_simp; trace_state; fail))
  try simp only [Act.put, List.getElem_toArray, List.getElem_cons_zero, List.getElem_cons_succ, List.setIfInBounds_toArray, List.set_cons_zero, List.set_cons_succ]
  refine wpAnyH_take (i := 8) (v := .bool false) rfl (by kernel_rfl) (by kernel_rfl) (by kernel_rfl) (fun _ _ _ h => h) (Or.inl ⟨by rfl, ?_⟩) (by assumption) ?_
  · (intro w hSw; (try dsimp only at hSw); first | (go_simp; done) | (go_simp; with_reducible rfl) | (go_simp; omega) | (go_simp; simp; omega) | (go_simp; trace_state; fail))
  try simp only [Act.put, List.getElem_toArray, List.getElem_cons_zero, List.getElem_cons_succ, List.setIfInBounds_toArray, List.set_cons_zero, List.set_cons_succ]
  refine wpAnyH_take (i := 9) (v := .bool false) rfl (by kernel_rfl) (by kernel_rfl) (by kernel_rfl) (fun _ _ _ h => h) (Or.inl ⟨by rfl, ?_⟩) (by assumption) ?_
  · (intro w hSw; (try dsimp only at hSw); first | (go_simp; done) | (go_simp; with_reducible rfl) | (go_simp; omega) | (go_simp; simp; omega) | (go_simp; trace_state; fail))
  try simp only [Act.put, List.getElem_toArray, List.getElem_cons_zero, List.getElem_cons_succ, List.setIfInBounds_toArray, List.set_cons_zero, List.set_cons_succ]
  refine wpAnyH_take (i := 10) (v := ?_) rfl (by kernel_rfl) (by kernel_rfl) (by kernel_rfl) (fun _ _ _ h => h) (Or.inl ⟨by rfl, ?_⟩) (by assumption) ?_
  rotate_left
  · (intro w hSw; (try dsimp only at hSw); (try (obtain ⟨s1, s2, s3, s4⟩ := hSw)); first | (go_simp; done) | (go_simp; with_reducible rfl))
  try simp only [Act.put, List.getElem_toArray, List.getElem_cons_zero, List.getElem_cons_succ, List.setIfInBounds_toArray, List.set_cons_zero, List.set_cons_succ]
  refine wpAnyH_take (i := 11) (v := ?_) rfl (by kernel_rfl) (by kernel_rfl) (by kernel_rfl) (fun _ _ _ h => h) (Or.inl ⟨by rfl, ?_⟩) (by assumption) ?_
  rotate_left
  · (intro w hSw; (try dsimp only at hSw); (try (obtain ⟨s1, s2, s3, s4⟩ := hSw)); first | (go_simp; done) | (go_simp; with_reducible rfl))
  try simp only [Act.put, List.getElem_toArray, List.getElem_cons_zero, List.getElem_cons_succ, List.setIfInBounds_toArray, List.set_cons_zero, List.set_cons_succ]
  refine wpAnyH_take (i := 12) (v := ?_) rfl (by kernel_rfl) (by kernel_rfl) (by kernel_rfl) (fun _ _ _ h => h) (Or.inl ⟨by rfl, ?_⟩) (by assumption) ?_
  rotate_left
  · (intro w hSw; (try dsimp only at hSw); (try (obtain ⟨s1, s2, s3, s4⟩ := hSw)); first | (go_simp; done) | (go_simp; with_reducible rfl))
  try simp only [Act.put, List.getElem_toArray, List.getElem_cons_zero, List.getElem_cons_succ, List.setIfInBounds_toArray, List.set_cons_zero, List.set_cons_succ]
  refine wpAnyH_take (i := 13) (v := ?_) rfl (by kernel_rfl) (by kernel_rfl) (by kernel_rfl) (fun _ _ _ h => h) (Or.inl ⟨by rfl, ?_⟩) (by assumption) ?_
  rotate_left
  · (intro w hSw; (try dsimp only at hSw); (try (obtain ⟨s1, s2, s3, s4⟩ := hSw)); first | (go_simp; done) | (go_simp; with_reducible rfl))
  try simp only [Act.put, List.getElem_toArray, List.getElem_cons_zero, List.getElem_cons_succ, List.setIfInBounds_toArray, List.set_cons_zero, List.set_cons_succ]
  refine wpAnyH_take (i := 14) (v := ?_) rfl (by kernel_rfl) (by kernel_rfl) (by kernel_rfl) (fun _ _ _ h => h) (Or.inl ⟨by rfl, ?_⟩) (by assumption) ?_
  rotate_left
  · (intro w hSw; (try dsimp only at hSw); (try (obtain ⟨s1, s2, s3, s4⟩ := hSw)); first | (go_simp; done) | (go_simp; with_reducible rfl))
  try simp only [Act.put, List.getElem_toArray, List.getElem_cons_zero, List.getElem_cons_succ, List.setIfInBounds_toArray, List.set_cons_zero, List.set_cons_succ]
  refine wpAnyH_take (i := 15) (v := ?_) rfl (by kernel_rfl) (by kernel_rfl) (by kernel_rfl) (fun _ _ _ h => h) (Or.inl ⟨by rfl, ?_⟩) (by assumption) ?_
  rotate_left
  · (intro w hSw; (try dsimp only at hSw); (try (obtain ⟨s1, s2, s3, s4⟩ := hSw)); first | (go_simp; done) | (go_simp; with_reducible rfl))
  try simp only [Act.put, List.getElem_toArray, List.getElem_cons_zero, List.getElem_cons_succ, List.setIfInBounds_toArray, List.set_cons_zero, List.set_cons_succ]
  refine wpAnyH_take (i := 16) (v := ?_) rfl (by kernel_rfl) (by kernel_rfl) (by kernel_rfl) (fun _ _ _ h => h) (Or.inl ⟨by rfl, ?_⟩) (by assumption) ?_
  rotate_left
  · (intro w hSw; (try dsimp only at hSw); (try (obtain ⟨s1, s2, s3, s4⟩ := hSw)); first | (go_simp; done) | (go_simp; with_reducible rfl))
  try simp only [Act.put, List.getElem_toArray, List.getElem_cons_zero, List.getElem_cons_succ, List.setIfInBounds_toArray, List.set_cons_zero, List.set_cons_succ]
  refine wpH_one (i := 17) (by kernel_rfl) rfl (fun K hK => ?_)
  go_simp
  go_wp2_with fail
  refine (HSame.out _ Sd.out).mono ?_
  rintro e w8 ⟨rfl, f8⟩
  have S8 := mkHid (Sd.out.idle f8)
  clear f8
  refine hK.out _ _ (HSS.out _ S8.out) (fun hHeld => ?_)
  clear hK K
  try simp only [Act.put, List.getElem_toArray, List.getElem_cons_zero, List.getElem_cons_succ, List.setIfInBounds_toArray, List.set_cons_zero, List.set_cons_succ]
  refine wpAnyH_take (i := 18) (v := .bool false) rfl (by kernel_rfl) (by kernel_rfl) (by kernel_rfl) (fun _ _ _ h => h) (Or.inl ⟨by rfl, ?_⟩) (by assumption) ?_
  · (intro w hSw; (try dsimp only at hSw); first | (go_simp; done) | (go_simp; with_reducible rfl) | (go_simp; omega) | (go_simp; simp; omega) | (go_simp; trace_state; fail))
  try simp only [Act.put, List.getElem_toArray, List.getElem_cons_zero, List.getElem_cons_succ, List.setIfInBounds_toArray, List.set_cons_zero, List.set_cons_succ]
  refine wpAnyH_take (i := 19) (v := .bool false) rfl (by kernel_rfl) (by kernel_rfl) (by kernel_rfl) (fun _ _ _ h => h) (Or.inl ⟨by rfl, ?_⟩) (by assumption) ?_
  · (intro w hSw; (try dsimp only at hSw); first | (go_simp; done) | (go_simp; with_reducible rfl) | (go_simp; omega) | (go_simp; simp; omega) | (go_simp; trace_state; fail))
  try simp only [Act.put, List.getElem_toArray, List.getElem_cons_zero, List.getElem_cons_succ, List.setIfInBounds_toArray, List.set_cons_zero, List.set_cons_succ]
  refine wpAnyH_take (i := 20) (v := .bool false) rfl (by kernel_rfl) (by kernel_rfl) (by kernel_rfl) (fun _ _ _ h => h) (Or.inl ⟨by rfl, ?_⟩) (by assumption) ?_
  · (intro w hSw; (try dsimp only at hSw); first | (go_simp; done) | (go_simp; with_reducible rfl) | (go_simp; omega) | (go_simp; simp; omega) | (go_simp; trace_state; fail))
  try simp only [Act.put, List.getElem_toArray, List.getElem_cons_zero, List.getElem_cons_succ, List.setIfInBounds_toArray, List.set_cons_zero, List.set_cons_succ]
  refine wpAnyH_take (i := 21) (v := ?_) rfl (by kernel_rfl) (by kernel_rfl) (by kernel_rfl) (fun _ _ _ h => h) (Or.inl ⟨by rfl, ?_⟩) (by assumption) ?_
  rotate_left
  · (intro w hSw; (try dsimp only at hSw); (try (obtain ⟨s1, s2, s3, s4⟩ := hSw)); first | (go_simp; done) | (go_simp; with_reducible rfl))
  try simp only [Act.put, List.getElem_toArray, List.getElem_cons_zero, List.getElem_cons_succ, List.setIfInBounds_toArray, List.set_cons_zero, List.set_cons_succ]
  refine wpAnyH_take (i := 22) (v := ?_) rfl (by kernel_rfl) (by kernel_rfl) (by kernel_rfl) (fun _ _ _ h => h) (Or.inl ⟨by rfl, ?_⟩) (by assumption) ?_
  rotate_left
  · (intro w hSw; (try dsimp only at hSw); (try (obtain ⟨s1, s2, s3, s4⟩ := hSw)); first | (go_simp; done) | (go_simp; with_reducible rfl))
  try simp only [Act.put, List.getElem_toArray, List.getElem_cons_zero, List.getElem_cons_succ, List.setIfInBounds_toArray, List.set_cons_zero, List.set_cons_succ]
  refine wpAnyH_take (i := 23) (v := ?_) rfl (by kernel_rfl) (by kernel_rfl) (by kernel_rfl) (fun _ _ _ h => h) (Or.inl ⟨by rfl, ?_⟩) (by assumption) ?_
  rotate_left
  · (intro w hSw; (try dsimp only at hSw); (try (obtain ⟨s1, s2, s3, s4⟩ := hSw)); first | (go_simp; done) | (go_simp; with_reducible rfl))
  try simp only [Act.put, List.getElem_toArray, List.getElem_cons_zero, List.getElem_cons_succ, List.setIfInBounds_toArray, List.set_cons_zero, List.set_cons_succ]
  refine wpAnyH_take (i := 24) (v := ?_) rfl (by kernel_rfl) (by kernel_rfl) (by kernel_rfl) (fun _ _ _ h => h) (Or.inl ⟨by rfl, ?_⟩) (by assumption) ?_
  rotate_left
  · (intro w hSw; (try dsimp only at hSw); (try (obtain ⟨s1, s2, s3, s4⟩ := hSw)); first | (go_simp; done) | (go_simp; with_reducible rfl))
  try simp only [Act.put, List.getElem_toArray, List.getElem_cons_zero, List.getElem_cons_succ, List.setIfInBounds_toArray, List.set_cons_zero, List.set_cons_succ]
  refine wpAnyH_take (i := 25) (v := ?_) rfl (by kernel_rfl) (by kernel_rfl) (by kernel_rfl) (fun _ _ _ h => h) (Or.inl ⟨by rfl, ?_⟩) (by assumption) ?_
  rotate_left
  · (intro w hSw; (try dsimp only at hSw); (try (obtain ⟨s1, s2, s3, s4⟩ := hSw)); first | (go_simp; done) | (go_simp; with_reducible rfl))
  try simp only [Act.put, List.getElem_toArray, List.getElem_cons_zero, List.getElem_cons_succ, List.setIfInBounds_toArray, List.set_cons_zero, List.set_cons_succ]
  refine wpAnyH_take (i := 26) (v := ?_) rfl (by kernel_rfl) (by kernel_rfl) (by kernel_rfl) (fun _ _ _ h => h) (Or.inl ⟨by rfl, ?_⟩) (by assumption) ?_
  rotate_left
  · (intro w hSw; (try dsimp only at hSw); (try (obtain ⟨s1, s2, s3, s4⟩ := hSw)); first | (go_simp; done) | (go_simp; with_reducible rfl))
  try simp only [Act.put, List.getElem_toArray, List.getElem_cons_zero, List.getElem_cons_succ, List.setIfInBounds_toArray, List.set_cons_zero, List.set_cons_succ]
  refine wpAnyH_take (i := 27) (v := .bool false) rfl (by kernel_rfl) (by kernel_rfl) (by kernel_rfl) (fun _ _ _ h => h) (Or.inl ⟨by rfl, ?_⟩) (by assumption) ?_
  · (intro w hSw; (try dsimp only at hSw); first | (go_simp; done) | (go_simp; with_reducible rfl) | (go_simp; omega) | (go_simp; simp; omega) | (go_simp; trace_state; fail))
  try simp only [Act.put, List.getElem_toArray, List.getElem_cons_zero, List.getElem_cons_succ, List.setIfInBounds_toArray, List.set_cons_zero, List.set_cons_succ]
  refine wpAnyH_take (i := 28) (v := .bool false) rfl (by kernel_rfl) (by kernel_rfl) (by kernel_rfl) (fun _ _ _ h => h) (Or.inl ⟨by rfl, ?_⟩) (by assumption) ?_
  · (intro w hSw; (try dsimp only at hSw); first | (go_simp; done) | (go_simp; with_reducible rfl) | (go_simp; omega) | (go_simp; simp; omega) | (go_simp; trace_state; fail))
  try simp only [Act.put, List.getElem_toArray, List.getElem_cons_zero, List.getElem_cons_succ, List.setIfInBounds_toArray, List.set_cons_zero, List.set_cons_succ]
  refine wpAnyH_take (i := 29) (v := .bool false) rfl (by kernel_rfl) (by kernel_rfl) (by kernel_rfl) (fun _ _ _ h => h) (Or.inl ⟨by rfl, ?_⟩) (by assumption) ?_
  · (intro w hSw; (try dsimp only at hSw); first | (go_simp; done) | (go_simp; with_reducible rfl) | (go_simp; omega) | (go_simp; simp; omega) | (go_simp; trace_state; fail))
  try simp only [Act.put, List.getElem_toArray, List.getElem_cons_zero, List.getElem_cons_succ, List.setIfInBounds_toArray, List.set_cons_zero, List.set_cons_succ]
  refine wpAnyH_take (i := 30) (v := ?_) rfl (by kernel_rfl) (by kernel_rfl) (by kernel_rfl) (fun _ _ _ h => h) (Or.inl ⟨by rfl, ?_⟩) (by assumption) ?_
  rotate_left
  · (intro w hSw; (try dsimp only at hSw); (try (obtain ⟨s1, s2, s3, s4⟩ := hSw)); first | (go_simp; done) | (go_simp; with_reducible rfl))
  try simp only [Act.put, List.getElem_toArray, List.getElem_cons_zero, List.getElem_cons_succ, List.setIfInBounds_toArray, List.set_cons_zero, List.set_cons_succ]
  refine wpAnyH_take (i := 31) (v := ?_) rfl (by kernel_rfl) (by kernel_rfl) (by kernel_rfl) (fun _ _ _ h => h) (Or.inl ⟨by rfl, ?_⟩) (by assumption) ?_
  rotate_left
  · (intro w hSw; (try dsimp only at hSw); (try (obtain ⟨s1, s2, s3, s4⟩ := hSw)); first | (go_simp; done) | (go_simp; with_reducible rfl))
  try simp only [Act.put, List.getElem_toArray, List.getElem_cons_zero, List.getElem_cons_succ, List.setIfInBounds_toArray, List.set_cons_zero, List.set_cons_succ]
  refine wpAnyH_take (i := 32) (v := ?_) rfl (by kernel_rfl) (by kernel_rfl) (by kernel_rfl) (fun _ _ _ h => h) (Or.inl ⟨by rfl, ?_⟩) (by assumption) ?_
  rotate_left
  · (intro w hSw; (try dsimp only at hSw); (try (obtain ⟨s1, s2, s3, s4⟩ := hSw)); first | (go_simp; done) | (go_simp; with_reducible rfl))
  try simp only [Act.put, List.getElem_toArray, List.getElem_cons_zero, List.getElem_cons_succ, List.setIfInBounds_toArray, List.set_cons_zero, List.set_cons_succ]
  refine wpAnyH_take (i := 33) (v := ?_) rfl (by kernel_rfl) (by kernel_rfl) (by kernel_rfl) (fun _ _ _ h => h) (Or.inl ⟨by rfl, ?_⟩) (by assumption) ?_
  rotate_left
  · (intro w hSw; (try dsimp only at hSw); (try (obtain ⟨s1, s2, s3, s4⟩ := hSw)); first | (go_simp; done) | (go_simp; with_reducible rfl))
  try simp only [Act.put, List.getElem_toArray, List.getElem_cons_zero, List.getElem_cons_succ, List.setIfInBounds_toArray, List.set_cons_zero, List.set_cons_succ]
  refine wpH_one (i := 34) (by kernel_rfl) rfl (fun K hK => ?_)
  go_simp
  go_wp2_with fail
  refine (HWh.out _ S8.out).mono ?_
  rintro e w9 ⟨rfl, f9⟩
  have S9 := mkHid (S8.out.idle f9)
  clear f9
  refine hK.out _ _ (HSS.out _ S9.out) (fun hHeld => ?_)
  clear hK K
  try simp only [Act.put, List.getElem_toArray, List.getElem_cons_zero, List.getElem_cons_succ, List.setIfInBounds_toArray, List.set_cons_zero, List.set_cons_succ]
  refine wpAnyH_take (i := 35) (v := .bool false) rfl (by kernel_rfl) (by kernel_rfl) (by kernel_rfl) (fun _ _ _ h => h) (Or.inl ⟨by rfl, ?_⟩) (by assumption) ?_
  · (intro w hSw; (try dsimp only at hSw); first | (go_simp; done) | (go_simp; with_reducible rfl) | (go_simp; omega) | (go_simp; simp; omega) | (go_simp; trace_state; fail))
  try simp only [Act.put, List.getElem_toArray, List.getElem_cons_zero, List.getElem_cons_succ, List.setIfInBounds_toArray, List.set_cons_zero, List.set_cons_succ]
  refine wpAnyH_take (i := 36) (v := .bool false) rfl (by kernel_rfl) (by kernel_rfl) (by kernel_rfl) (fun _ _ _ h => h) (Or.inl ⟨by rfl, ?_⟩) (by assumption) ?_
  · (intro w hSw; (try dsimp only at hSw); first | (go_simp; done) | (go_simp; with_reducible rfl) | (go_simp; omega) | (go_simp; simp; omega) | (go_simp; trace_state; fail))
  try simp only [Act.put, List.getElem_toArray, List.getElem_cons_zero, List.getElem_cons_succ, List.setIfInBounds_toArray, List.set_cons_zero, List.set_cons_succ]
  refine wpAnyH_done (by kernel_rfl) ?_ _
  try simp only [Act.put, List.getElem_toArray, List.getElem_cons_zero, List.getElem_cons_succ, List.setIfInBounds_toArray, List.set_cons_zero, List.set_cons_succ]
  clear Sd S8 HSame HWh HSS
  generalize hwx : w9 = wB at *
  clear hwx
  have HX0 : Hid (∀ wr ws, XS wB wr K.ws.length gm cm ws → wr.cell? ⟨gi, 4, none⟩ = some (.slice (some ⟨gm, 0, none⟩) K.ws.length cm) ∧ wr.cell? ⟨gi, 3, none⟩ = some (.slice (some ⟨gt, 0, none⟩) K.ts.length ct)) := fun wr ws x => by
    obtain ⟨-, -, -, -, d3, d4⟩ := HCel.out wB S9.out
    have hg := lt_of_heap S9.out.gb
    have hb := x.fr.block gi hg (by have := S9.out.gmi; simp; omega)
    exact ⟨(World.cell?_of_block (w := wB) (a := ⟨gi, 4, none⟩) hb).trans d4, (World.cell?_of_block (w := wB) (a := ⟨gi, 3, none⟩) hb).trans d3⟩
  have HX1 : Hid (XS wB wB K.ws.length gm cm K.ws) := by
    have := S9.out.gp.xs
    rw [HKs.out.2.2.1] at this
    exact this
  go_wp2_with fail
  go_loopw [9] (fun q wr => ∃ i : Nat, i ≤ K.ws.length ∧ q = .int .i64 (i : Int) ∧ Hid (∃ ws, XS wB wr K.ws.length gm cm ws)) (fun q _ => K.ws.length - (intOf q).toNat)
  case atStart => exact ⟨0, Nat.zero_le _, rfl, _, HX1.out⟩
  case round =>
    clear HX1
    obtain ⟨i, hi1, rfl, hst⟩ := hrel
    have i0 : (0 : Int) ≤ (i : Int) := by omega
    obtain ⟨ws, hx⟩ := hst.out
    obtain ⟨g4, g3⟩ := HX0.out wr ws hx
    by_cases hlt : i < K.ws.length
    · have i1 : (i : Int) < (K.ws.length : Int) := by omega
      have x0 := hx.get i hlt
      have wp1 : IntKind.i64.wrap ((i : Int) + 1) = (i : Int) + 1 := iwrap_id (by omega) (by omega)
      by_cases h5 : ws.getD i 0 = 5
      rotate_left
      · have q5 : (ws.getD i 0 == 5) = false := by simpa using h5
        generalize ws.getD i 0 = o at *
        clear hx
        go_wp2_with fail
        go_roundw
        case rel => exact ⟨i + 1, by omega, by go_num, hst.out⟩
        case measure => simp [intOf]; omega
      rw [h5] at x0
      by_cases hn1 : i + 1 < K.ws.length
      rotate_left
      · have j1 : ¬ (i : Int) + 1 < (K.ws.length : Int) := by omega
        clear hx
        go_wp2_with fail
        go_roundw
        case rel => exact ⟨i + 1, by omega, by go_num, hst.out⟩
        case measure => simp [intOf]; omega
      have j1 : (i : Int) + 1 < (K.ws.length : Int) := by omega
      have j0 : (0 : Int) ≤ (i : Int) + 1 := by omega
      have j2 : ((i : Int) + 1).toNat = i + 1 := by omega
      have x1 := hx.get (i + 1) hn1
      obtain ⟨z1, ws', hx'⟩ := hx.step (i + 1) hn1
      have z2 : wr.drew.frozen? ⟨gm, i + 1, none⟩ = false := z1
      have HX' : Hid (∃ ws', XS wB (wr.drew.setCell ⟨gm, i + 1, none⟩ (.int .i64 (Go.bits .xor .i64 (ws.getD (i + 1) 0) 1))) K.ws.length gm cm ws') := ⟨ws', hx'⟩
      generalize ws.getD (i + 1) 0 = old at *
      have HKp : Hid (wr.drew.cell? ⟨gi, 4, none⟩ = some (.slice (some ⟨gm, 0, none⟩) K.ws.length cm) ∧ wr.drew.cell? ⟨gm, i + 1, none⟩ = some (.int .i64 old)) := ⟨g4, x1⟩
      clear hst hx z1 hx'
      go_wp2_with fail
      refine wp_region_last (L := 12) (S := (fun V => V.cell? ⟨gi, 4, none⟩ = some (.slice (some ⟨gm, 0, none⟩) K.ws.length cm) ∧ V.cell? ⟨gm, i + 1, none⟩ = some (.int .i64 old))) (by kernel_rfl) (HKp.out) (fun hHeld => ?_)
      refine wpLast_take (i := 0) (v := ?_) rfl (by kernel_rfl) (by kernel_rfl) (by kernel_rfl) (by decide) (by kernel_rfl) (fun _ _ _ h => h) (Or.inl ⟨by rfl, ?_⟩) (by assumption) ?_
      rotate_left
      · (intro w hSw; (try dsimp only at hSw); first | (go_simp; done) | (go_simp; with_reducible rfl))
      try simp only [Act.put, List.getElem_toArray, List.getElem_cons_zero, List.getElem_cons_succ, List.setIfInBounds_toArray, List.set_cons_zero, List.set_cons_succ]
      refine wpLast_take (i := 1) (v := ?_) rfl (by kernel_rfl) (by kernel_rfl) (by kernel_rfl) (by decide) (by kernel_rfl) (fun _ _ _ h => h) (Or.inl ⟨by rfl, ?_⟩) (by assumption) ?_
      rotate_left
      · (intro w hSw; (try dsimp only at hSw); first | (go_simp; done) | (go_simp; with_reducible rfl))
      try simp only [Act.put, List.getElem_toArray, List.getElem_cons_zero, List.getElem_cons_succ, List.setIfInBounds_toArray, List.set_cons_zero, List.set_cons_succ]
      refine wpLast_take (i := 2) (v := ?_) rfl (by kernel_rfl) (by kernel_rfl) (by kernel_rfl) (by decide) (by kernel_rfl) (fun _ _ _ h => h) (Or.inl ⟨by rfl, ?_⟩) (by assumption) ?_
      rotate_left
      · (intro w hSw; (try dsimp only at hSw); first | (go_simp; done) | (go_simp; with_reducible rfl))
      try simp only [Act.put, List.getElem_toArray, List.getElem_cons_zero, List.getElem_cons_succ, List.setIfInBounds_toArray, List.set_cons_zero, List.set_cons_succ]
      refine wpLast_take (i := 3) (v := ?_) rfl (by kernel_rfl) (by kernel_rfl) (by kernel_rfl) (by decide) (by kernel_rfl) (fun _ _ _ h => h) (Or.inl ⟨by rfl, ?_⟩) (by assumption) ?_
      rotate_left
      · (intro w hSw; (try dsimp only at hSw); first | (go_simp; done) | (go_simp; with_reducible rfl))
      try simp only [Act.put, List.getElem_toArray, List.getElem_cons_zero, List.getElem_cons_succ, List.setIfInBounds_toArray, List.set_cons_zero, List.set_cons_succ]
      refine wpLast_take (i := 4) (v := ?_) rfl (by kernel_rfl) (by kernel_rfl) (by kernel_rfl) (by decide) (by kernel_rfl) (fun _ _ _ h => h) (Or.inl ⟨by rfl, ?_⟩) (by assumption) ?_
      rotate_left
      · (intro w hSw; (try dsimp only at hSw); first | (go_simp; done) | (go_simp; with_reducible rfl))
      try simp only [Act.put, List.getElem_toArray, List.getElem_cons_zero, List.getElem_cons_succ, List.setIfInBounds_toArray, List.set_cons_zero, List.set_cons_succ]
      refine wpLast_take (i := 5) (v := ?_) rfl (by kernel_rfl) (by kernel_rfl) (by kernel_rfl) (by decide) (by kernel_rfl) (fun _ _ _ h => h) (Or.inl ⟨by rfl, ?_⟩) (by assumption) ?_
      rotate_left
      · (intro w hSw; (try dsimp only at hSw); first | (go_simp; done) | (go_simp; with_reducible rfl))
      try simp only [Act.put, List.getElem_toArray, List.getElem_cons_zero, List.getElem_cons_succ, List.setIfInBounds_toArray, List.set_cons_zero, List.set_cons_succ]
      refine wpLast_take (i := 6) (v := ?_) rfl (by kernel_rfl) (by kernel_rfl) (by kernel_rfl) (by decide) (by kernel_rfl) (fun _ _ _ h => h) (Or.inl ⟨by rfl, ?_⟩) (by assumption) ?_
      rotate_left
      · (intro w hSw; (try dsimp only at hSw); first | (go_simp; done) | (go_simp; with_reducible rfl))
      try simp only [Act.put, List.getElem_toArray, List.getElem_cons_zero, List.getElem_cons_succ, List.setIfInBounds_toArray, List.set_cons_zero, List.set_cons_succ]
      refine wpLast_take (i := 7) (v := ?_) rfl (by kernel_rfl) (by kernel_rfl) (by kernel_rfl) (by decide) (by kernel_rfl) (fun _ _ _ h => h) (Or.inl ⟨by rfl, ?_⟩) (by assumption) ?_
      rotate_left
      · (intro w hSw; (try dsimp only at hSw); first | (go_simp; done) | (go_simp; with_reducible rfl))
      try simp only [Act.put, List.getElem_toArray, List.getElem_cons_zero, List.getElem_cons_succ, List.setIfInBounds_toArray, List.set_cons_zero, List.set_cons_succ]
      refine wpLast_take (i := 8) (v := ?_) rfl (by kernel_rfl) (by kernel_rfl) (by kernel_rfl) (by decide) (by kernel_rfl) (fun _ _ _ h => h) (Or.inl ⟨by rfl, ?_⟩) (by assumption) ?_
      rotate_left
      · (intro w hSw; (try dsimp only at hSw); first | (go_simp; done) | (go_simp; with_reducible rfl))
      try simp only [Act.put, List.getElem_toArray, List.getElem_cons_zero, List.getElem_cons_succ, List.setIfInBounds_toArray, List.set_cons_zero, List.set_cons_succ]
      refine wpLast_take (i := 9) (v := ?_) rfl (by kernel_rfl) (by kernel_rfl) (by kernel_rfl) (by decide) (by kernel_rfl) (fun _ _ _ h => h) (Or.inl ⟨by rfl, ?_⟩) (by assumption) ?_
      rotate_left
      · (intro w hSw; (try dsimp only at hSw); first | (go_simp; done) | (go_simp; with_reducible rfl))
      try simp only [Act.put, List.getElem_toArray, List.getElem_cons_zero, List.getElem_cons_succ, List.setIfInBounds_toArray, List.set_cons_zero, List.set_cons_succ]
      refine wpLast_take (i := 10) (v := ?_) rfl (by kernel_rfl) (by kernel_rfl) (by kernel_rfl) (by decide) (by kernel_rfl) (fun _ _ _ h => h) (Or.inl ⟨by rfl, ?_⟩) (by assumption) ?_
      rotate_left
      · (intro w hSw; (try dsimp only at hSw); first | (go_simp; done) | (go_simp; with_reducible rfl))
      try simp only [Act.put, List.getElem_toArray, List.getElem_cons_zero, List.getElem_cons_succ, List.setIfInBounds_toArray, List.set_cons_zero, List.set_cons_succ]
      refine wpLast_take (i := 11) (v := ?_) rfl (by kernel_rfl) (by kernel_rfl) (by kernel_rfl) (by decide) (by kernel_rfl) (fun _ _ _ h => h) (Or.inl ⟨by rfl, ?_⟩) (by assumption) ?_
      rotate_left
      · (intro w hSw; (try dsimp only at hSw); first | (go_simp; done) | (go_simp; with_reducible rfl))
      try simp only [Act.put, List.getElem_toArray, List.getElem_cons_zero, List.getElem_cons_succ, List.setIfInBounds_toArray, List.set_cons_zero, List.set_cons_succ]
      refine wpLast_end (by kernel_rfl) rfl (by kernel_rfl) (fun K hK => ?_)
      go_simp
      refine hK.out _ _ ?_
      clear hK K
      try simp only [Act.put, List.getElem_toArray, List.getElem_cons_zero, List.getElem_cons_succ, List.setIfInBounds_toArray, List.set_cons_zero, List.set_cons_succ]
      go_wp2_with fail
      go_roundw
      case rel => exact ⟨i + 1, by omega, by go_num, HX'.out⟩
      case measure => simp [intOf]; omega
    · have hie : i = K.ws.length := by omega
      subst hie
      have HTn : Hid (Calls Tryd.prog 11 #[.slice (some ⟨gt, 0, none⟩) K.ts.length ct] wr fun e w' => e = .returned (.tuple #[]) ∧ ∃ K2, Sp w w' K K2 lp lc pw cw gi gm cm (some ⟨gt, 0, none⟩) ct lo hi ∧ K2.ts.length = K.ts.length ∧ K2.ws.length = K.ws.length ∧ K2.args = K.args ∧ K2.temps = K.temps ∧ K2.stack = K.stack) := by
        obtain ⟨-, h2, h3, h4, h5, h6, -⟩ := HKs.out
        have hf : FrP (fun b => b = gm) wB wr := hx.fr.frp (fun b hb => .inl (by simpa using hb))
        have := turn_ok wB _ _ _ K'.ts S9.out.gp.lits HSmU.out S9.out.gp.nums wr (fun b => b = gm) hf (fun b hb e => by have := S9.out.gml; have := hb.1; omega)
        rw [h2] at this
        refine this.mono ?_
        rintro e w' ⟨rfl, f, us, hul, hm, hnu⟩
        exact ⟨rfl, _, S9.out.over HC.out.tb HC.out.pw (by rw [h3]; exact hx) f (hul.trans h2.symm) hm hnu, hul, hx.len, h4, h5, h6⟩
      clear hst hx S9 HX0
      go_wp2_with fail
      refine HTn.out.mono ?_
      rintro e wC ⟨rfl, K2, sC, k1, k2, k3, k4, k5⟩
      clear HTn g3 g4 HCel HKs HSmU
      have hgC := sC.gb
      unfold Co.v at hgC
      rw [k1, k2, k3, k4, k5] at hgC
      have HGC : Hid (∀ V, Fr [] wC V → V.cell? ⟨gi, 0, none⟩ = some (.int .i64 K.args) ∧ V.cell? ⟨gi, 1, none⟩ = some (.int .i64 K.temps) ∧ V.cell? ⟨gi, 2, none⟩ = some (.int .i64 K.stack) ∧ V.cell? ⟨gi, 3, none⟩ = some (.slice (some ⟨gt, 0, none⟩) K.ts.length ct) ∧ V.cell? ⟨gi, 4, none⟩ = some (.slice (some ⟨gm, 0, none⟩) K.ws.length cm)) := fun V f => by
        have hg := f.hb hgC
        exact ⟨cell_in hg 0, cell_in hg 1, cell_in hg 2, cell_in hg 3, cell_in hg 4⟩
      have hgl := lt_of_heap hgC
      obtain ⟨g0, g1, g2, g3, g4⟩ := HGC.out wC (Fr.refl [] wC)
      obtain ⟨U, hU⟩ : ∃ V, wC.alloc (.cells #[.int .i64 K.args, .int .i64 K.temps, .int .i64 K.stack, .slice (some ⟨gt, 0, none⟩) K.ts.length ct, .slice (some ⟨gm, 0, none⟩) K.ws.length cm] 25) = V := ⟨_, rfl⟩
      have hUb : U.heap[wC.heap.size]? = some (.cells #[.int .i64 K.args, .int .i64 K.temps, .int .i64 K.stack, .slice (some ⟨gt, 0, none⟩) K.ts.length ct, .slice (some ⟨gm, 0, none⟩) K.ws.length cm] 25 (0, 0)) := by rw [← hU]; exact heap_alloc_new wC _
      have fU : Fr [] wC U := by rw [← hU]; exact Fr.alloc [] wC _
      have hUs : wC.heap.size < U.heap.size := lt_of_heap hUb
      have hrd : Rd U (.slice (some ⟨gm, 0, none⟩) K.ws.length cm) K2.ws := by
        have := sC.gp.words.idle fU
        rw [k2] at this
        exact this
      obtain ⟨pv, cv, wD, hrD, rowD, fD, hcv⟩ := words_copy K2.ws _ U hrd
      rw [k2] at hrD
      rw [← hU] at hrD
      obtain ⟨gx, hgx⟩ : ∃ g, wC.heap.size = g := ⟨_, rfl⟩
      have hDb := fD.hb hUb
      rw [hgx] at hDb hUs hgl
      have o4 : wD.cell? ⟨gx, 4, none⟩ = some (.slice (some ⟨gm, 0, none⟩) K.ws.length cm) := cell_in hDb 4
      have p4 := frozen_in hDb 4
      have nx1 : ¬ gi = gx := by omega
      have nx2 : ¬ gx = gi := by omega
      obtain ⟨q0, q1, q2, q3, q4⟩ := HGC.out wD (fU.tr0 fD)
      obtain ⟨U4, hU4⟩ : ∃ V, wD.setCell ⟨gx, 4, none⟩ (.slice pv K.ws.length cv) = V := ⟨_, rfl⟩
      have f4 : Fr [] wC U4 := by rw [← hU4]; exact (fU.tr0 fD).st (by omega) 4 _
      have h4b : U4.heap[gx]? = some (.cells #[.int .i64 K.args, .int .i64 K.temps, .int .i64 K.stack, .slice (some ⟨gt, 0, none⟩) K.ts.length ct, .slice pv K.ws.length cv] 25 (0, 0)) := by rw [← hU4]; exact set_in hDb 4 _
      have row4 : U4.ownsRow U.heap.size 3 1 (.slice pv K2.ws.length cv) K2.ws.length (K2.ws.map (Value.int .i64)) := by
        rw [← hU4]
        exact own_congr rowD fun b hb => Below.heap_setCell _ _ _ _ (by have := (own_lt rowD b hb).1; show b ≠ gx; omega)
      have HTw := mkHid (twin_is wC (some ⟨gt, 0, none⟩) ct K2.ts sC.gp.lits.plain U4 f4)
      rw [k1] at HTw
      have HRD := mkHid hrD
      have SC := mkHid sC
      have HB4 := mkHid h4b
      have HR4 := mkHid row4
      have F4 := mkHid f4
      have HU4 := mkHid hU4
      clear sC hrD rowD fD hDb hUb fU hU hrd f4 h4b row4 hgC hU4
      subst hgx
      go_wp2_with (at_builtin; refine Lib.wpList_append_run _ rfl (.const (.slice none 0 0)) (.tmp 117) 23 23 rfl _ _ rfl rfl _ _ HRD.out ?_)
      rw [HU4.out]
      refine HTw.out.mono ?_
      rintro e wE ⟨gt2, ct2, us3, rfl, hu3, hs3, fE, hmE⟩
      rw [k1]
      have hEb := fE.hb HB4.out
      have e0 : wE.cell? ⟨wC.heap.size, 0, none⟩ = some (.int .i64 K.args) := cell_in hEb 0
      have e1 : wE.cell? ⟨wC.heap.size, 1, none⟩ = some (.int .i64 K.temps) := cell_in hEb 1
      have e2 : wE.cell? ⟨wC.heap.size, 2, none⟩ = some (.int .i64 K.stack) := cell_in hEb 2
      have e3 : wE.cell? ⟨wC.heap.size, 3, none⟩ = some (.slice (some ⟨gt, 0, none⟩) K.ts.length ct) := cell_in hEb 3
      have e4 : wE.cell? ⟨wC.heap.size, 4, none⟩ = some (.slice pv K.ws.length cv) := cell_in hEb 4
      have y3 := frozen_in hEb 3
      obtain ⟨U5, hU5⟩ : ∃ V, wE.setCell ⟨wC.heap.size, 3, none⟩ (.slice (some ⟨gt2, 0, none⟩) K.ts.length ct2) = V := ⟨_, rfl⟩
      have F5 : Hid (Fr [] wC U5) := by rw [← hU5]; exact (F4.out.tr0 fE).st (Nat.le_refl _) 3 _
      have HRp2 : Hid (Calls Tryd.prog 7 #[.agg #[.int .i64 K.args, .int .i64 K.temps, .int .i64 K.stack, .slice (some ⟨gt2, 0, none⟩) K.ts.length ct2, .slice pv K.ws.length cv]] U5 fun e w' => e = .returned (.tuple #[.string ⟨(prP K2).2.toArray⟩, .int .i64 (prP K2).1]) ∧ Fr [] U5 w') := by
        have fs : Fr [wC.heap.size] wE U5 := by rw [← hU5]; exact Fr.setCell (S := [wC.heap.size]) wE ⟨wC.heap.size, 3, none⟩ _ (by simp)
        have row5 : U5.ownsRow U.heap.size 3 1 (.slice pv K2.ws.length cv) K2.ws.length (K2.ws.map (Value.int .i64)) := own_congr (own_fr HR4.out fE) fun b hb => fs.block b (own_lt (own_fr HR4.out fE) b hb).2 (by have := (own_lt HR4.out b hb).1; simp; omega)
        have fW : Fr [] w U5 := SC.out.fr.tr0 F5.out
        have hlits : LitsR U5 (some ⟨gt2, 0, none⟩) ct2 us3 := (hmE.keep (fs.frp (Ok := fun b => b = wC.heap.size) (fun g hg => .inl (by simpa using hg))) (fun b hb e => by have := hb.1; have := lt_of_heap HB4.out; omega)).plain
        have := rprint_ok ⟨K2.args, K2.temps, K2.stack, us3, K2.ws⟩ (some ⟨gt2, 0, none⟩) ct2 pv cv U5 ⟨own_rd row5 SC.out.gp.short, hcv, hlits, nmL_st hs3 SC.out.gp.nums, SC.out.gp.rng, SC.out.gp.hd, HC.out.tb.idle fW, HC.out.pw.idle fW⟩
        rw [prP_st K2 us3 hs3] at this
        have this : Calls Tryd.prog 7 #[.agg #[.int .i64 K2.args, .int .i64 K2.temps, .int .i64 K2.stack, .slice (some ⟨gt2, 0, none⟩) us3.length ct2, .slice pv K2.ws.length cv]] U5 fun e w' => e = .returned (.tuple #[.string ⟨(prP K2).2.toArray⟩, .int .i64 (prP K2).1]) ∧ Fr [] U5 w' := this
        rw [hu3, k1, k2, k3, k4, k5] at this
        exact this
      have HU5 := mkHid hU5
      clear hU5 hEb fE hmE hs3 hu3 HR4 F4 HTw HU4 HRD q0 q1 q2 q3 q4 g0 g1 g2 g3 g4 o4 p4
      go_wp2_with fail
      rw [HU5.out]
      refine HRp2.out.mono ?_
      rintro e wF ⟨rfl, fF⟩
      have SF := mkHid (SC.out.idle (F5.out.tr0 fF))
      obtain ⟨g0, g1, g2, g3, g4⟩ := HGC.out wF (F5.out.tr0 fF)
      have HPr2 : Hid (Calls Tryd.prog 6 #[.agg #[.int .i64 K.args, .int .i64 K.temps, .int .i64 K.stack, .slice (some ⟨gt, 0, none⟩) K.ts.length ct, .slice (some ⟨gm, 0, none⟩) K.ws.length cm]] wF fun e w' => e = .returned (.tuple #[.string ⟨(prP K2).2.toArray⟩, .int .i64 (prP K2).1]) ∧ Fr [] wF w') := by
        have := print_ok K2 _ _ _ _ wF SF.out.gp.cor
        unfold Co.v at this
        rw [k1, k2, k3, k4, k5] at this
        exact this
      clear fF HU5 HRp2 F5 SC HGC e0 e1 e2 e3 e4 y3 HB4
      generalize (prP K2).1 = er2 at *
      generalize (⟨(prP K2).2.toArray⟩ : ByteArray) = tx2 at *
      go_wp2_with fail
      refine HPr2.out.mono ?_
      rintro e wG ⟨rfl, fG⟩
      have HEn : Hid (Fr [] w wG) := SF.out.fr.tr0 fG
      clear fG HPr2 SF g0 g1 g2 g3 g4
      go_wp2_with fail
      refine (HNum.out _ _).mono ?_
      rintro e wH ⟨rfl, rfl⟩
      go_wp2_with fail
      go_ret
      exact ⟨by simp, HEn.out⟩
end Go.Proofs.YtclkoffnjiiioaaDoor
