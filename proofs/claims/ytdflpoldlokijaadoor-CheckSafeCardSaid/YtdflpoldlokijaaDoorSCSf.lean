import Derived.Test.YtdflpoldlokijaaDoorSG36CSf0
namespace Go.Proofs.YtdflpoldlokijaaDoor
open Go.RowKit
set_option linter.unusedVariables false
set_option linter.unusedSimpArgs false
attribute [local go_sem ↓] Go.wp_at_zero Go.wp_at_succ
theorem hid_drew {w0 w : World} (h : Hid (Fr [] w0 w)) : Hid (Fr [] w0 w.drew) := h.out.tr0 (Fr.drew [] w)
theorem hid_al {w0 w : World} {o : Obj} (h : Hid (Fr [] w0 w)) : Hid (Fr [] w0 (w.alloc o)) := h.out.al o
def argW (w : World) (c b : Array Value) : World := (w.alloc (.cells c 25)).alloc (.cells b 27)
theorem argW_fr (w : World) (c b : Array Value) : Fr [] w (argW w c b) := ((Fr.refl [] w).al _).al _
theorem argW_c (w : World) (c b : Array Value) : (argW w c b).heap[w.heap.size]? = some (.cells c 25 (0, 0)) := (Fr.alloc [] _ _).hb (heap_alloc_new w _)
theorem argW_b (w : World) (c b : Array Value) : (argW w c b).heap[w.heap.size + 1]? = some (.cells b 27 (0, 0)) := by
  have := heap_alloc_new (w.alloc (.cells c 25)) (.cells b 27)
  simpa [argW] using this
set_option maxRecDepth 100000 in
set_option maxHeartbeats 4000000 in
theorem safe_any (C : Cx) (h : Hd) (ts : List LitT) (lp : Option Addr) (lc : Nat) (pw : Option Addr) (cw : Nat) (seed steps : Int) (w : World) (hw : Rd w (.slice pw C.ws.length cw) C.ws) (hl : LitsR w lp lc ts) (hln : ts.length = C.lits) (hr : ∀ i, -9223372036854775808 ≤ C.w i ∧ C.w i ≤ 9223372036854775807) (ht : Tb w)
    (s1 : -9223372036854775808 ≤ seed) (s2 : seed ≤ 9223372036854775807) (t1 : -9223372036854775808 ≤ steps) (t2 : steps ≤ 9223372036854775807) :
    Calls Tryd.prog 3 #[.agg (cdv h lp C.lits lc pw C.ws.length cw), .agg (bnv C.b), .int .i64 seed, .int .i64 steps] w fun e w' => e = .returned (.bool true) ∧ Fr [] w w' := by
  have hsh := hw.short
  have HBey : Hid (∀ V, Fr [] w V → Calls Tryd.prog 5 #[.slice lp C.lits lc] V fun e w' => AnyB V e w') := fun V hV => by
    rw [← hln]; exact beyond_ok V lp lc ts (hl.idle hV)
  have HTwin : Hid (∀ V, Fr [] w V → Calls Tryd.prog 7 #[.slice lp C.lits lc] V fun e w' => TwP V C.lits e w') := fun V hV => by
    rw [← hln]; exact twin_ok w lp lc ts hl V hV
  have HMk : Hid (∀ V, Fr [] w V → Calls Tryd.prog 6 #[.slice pw C.ws.length cw] V fun e w' => ∃ g c, e = .returned (.slice (some ⟨g, 0, none⟩) (C.ws.length + 64) c) ∧ Fr [] V w' ∧ V.heap.size ≤ g ∧ C.ws.length + 64 ≤ c ∧ Rd w' (.slice (some ⟨g, 0, none⟩) C.ws.length c) C.ws) := fun V hV => by
    refine (marked_ok C.ws _ V (hw.idle hV)).mono ?_
    rintro e w' ⟨p, c, ms, rfl, f, o⟩
    rcases o.2 with ⟨e0, e1⟩ | ⟨g, cap, cur, e0, q1, q2, q3, q4, q5, q6⟩
    · omega
    · injection e0 with e0 _ e2
      subst e0 e2
      refine ⟨g, c, rfl, f, q1, q3, ⟨⟨_, _, rfl, fun hp => ⟨g, 0, rfl, lt_of_heap q2, fun i hi => ?_⟩⟩, fun c' e => (by injection e with e; cases e), hsh⟩⟩
      have hml : (C.ws ++ ms).length = C.ws.length + 64 := by have := o.1; simp at this ⊢; omega
      rw [Nat.zero_add, o.cellAt i (by omega), List.getElem?_map, List.getElem?_append_left hi, List.getElem?_eq_getElem hi, List.getD_eq_getElem?_getD, List.getElem?_eq_getElem hi]; rfl
  have HW0 : Hid (Fr [] w (argW w (cdv h lp C.lits lc pw C.ws.length cw) (bnv C.b))) := argW_fr ..
  have HCel : Hid (∀ V, Fr [] (argW w (cdv h lp C.lits lc pw C.ws.length cw) (bnv C.b)) V → (V.cell? ⟨w.heap.size, 0, none⟩ = some (.int .i64 h.args) ∧ V.cell? ⟨w.heap.size, 1, none⟩ = some (.int .i64 h.temps) ∧ V.cell? ⟨w.heap.size, 2, none⟩ = some (.int .i64 h.stack) ∧ V.cell? ⟨w.heap.size, 3, none⟩ = some (.slice lp C.lits lc) ∧ V.cell? ⟨w.heap.size, 4, none⟩ = some (.slice pw C.ws.length cw)) ∧ (V.cell? ⟨w.heap.size + 1, 0, none⟩ = some (.int .i64 C.b.fields) ∧ V.cell? ⟨w.heap.size + 1, 1, none⟩ = some (.int .i64 C.b.classes) ∧ V.cell? ⟨w.heap.size + 1, 2, none⟩ = some (.int .i64 C.b.globals) ∧ V.cell? ⟨w.heap.size + 1, 3, none⟩ = some (.int .i64 C.b.symbols)) ∧ w.heap.size + 1 < V.heap.size) := fun V hV => by
    have hc := hV.hb (argW_c w (cdv h lp C.lits lc pw C.ws.length cw) (bnv C.b))
    have hb := hV.hb (argW_b w (cdv h lp C.lits lc pw C.ws.length cw) (bnv C.b))
    exact ⟨⟨cell_in hc 0, cell_in hc 1, cell_in hc 2, cell_in hc 3, cell_in hc 4⟩, ⟨cell_in hb 0, cell_in hb 1, cell_in hb 2, cell_in hb 3⟩, lt_of_heap hb⟩
  have HAe : Hid (argW w (cdv h lp C.lits lc pw C.ws.length cw) (bnv C.b) = (w.alloc (.cells #[.int .i64 h.args, .int .i64 h.temps, .int .i64 h.stack, .slice lp C.lits lc, .slice pw C.ws.length cw] 25)).alloc (.cells #[.int .i64 C.b.fields, .int .i64 C.b.classes, .int .i64 C.b.globals, .int .i64 C.b.symbols] 27)) := rfl
  have HWords := mkHid hw
  have HLits := mkHid hl
  have HRng := mkHid hr
  have HTb := mkHid ht
  clear hw hl hr ht
  unfold cdv bnv
  generalize hA : argW w (cdv h lp C.lits lc pw C.ws.length cw) (bnv C.b) = W0 at *
  have HA := mkHid hA
  clear hA
  go_enter Tryd.func3, Tryd.ntmps3
  go_wp2_with (go_at_call 5; rw [← HAe.out]; refine (HBey.out W0 HW0.out).mono ?_; rintro e w1 ⟨bb, rfl, f1⟩; obtain ⟨⟨a0, a1, a2, a3, a4⟩, ⟨a5, a6, a7, a8⟩, a9⟩ := HCel.out w1 f1; have F1 := mkHid f1; clear f1)
  · go_ret
    exact ⟨rfl, HW0.out.tr0 F1.out⟩
  have HSz : Hid (w.heap.size + 1 < w1.heap.size) := a9
  generalize hU1 : w1.alloc (.cells #[.int .i64 h.args, .int .i64 h.temps, .int .i64 h.stack, .slice lp C.lits lc, .slice pw C.ws.length cw] 25) = U1
  have HFU : Hid (Fr [] w1 U1) := by rw [← hU1]; exact Fr.alloc [] w1 _
  have HGB : Hid (U1.heap[w1.heap.size]? = some (.cells #[.int .i64 h.args, .int .i64 h.temps, .int .i64 h.stack, .slice lp C.lits lc, .slice pw C.ws.length cw] 25 (0, 0))) := by rw [← hU1]; exact heap_alloc_new w1 _
  clear hU1 a0 a1 a2 a3 a4 a5 a6 a7 a8 a9
  have hR : Hid (Fr [] U1 U1) := Fr.refl _ _
  have HC4 : Hid (∀ V, Hid (Fr [] U1 V) → V.cell? ⟨w.heap.size, 4, none⟩ = some (.slice pw C.ws.length cw)) := fun V hV => (HCel.out V (F1.out.tr0 (HFU.out.tr0 hV.out))).1.2.2.2.2
  have HC4s : Hid (∀ V v, Hid (Fr [] U1 V) → (V.setCell ⟨w1.heap.size, 4, none⟩ v).cell? ⟨w.heap.size, 4, none⟩ = some (.slice pw C.ws.length cw)) := fun V v hV => by
    have h2 := HC4.out V hV
    exact ((Fr.setCell (S := [w1.heap.size]) V ⟨w1.heap.size, 4, none⟩ v (by simp)).cell (p := ⟨w.heap.size, 4, none⟩) (World.block_lt_of_cell? V _ h2) (by simp; have := HSz.out; omega)).trans h2
  have HMk2 : Hid (∀ V, Hid (Fr [] U1 V) → Calls Tryd.prog 6 #[.slice pw C.ws.length cw] V fun e w' => ∃ g c, e = .returned (.slice (some ⟨g, 0, none⟩) (C.ws.length + 64) c) ∧ Hid (Fr [] U1 w') ∧ C.ws.length + 64 ≤ c ∧ Hid (Rd w' (.slice (some ⟨g, 0, none⟩) C.ws.length c) C.ws) ∧ g ≠ w1.heap.size ∧ w'.cell? ⟨w1.heap.size, 4, none⟩ = some (.slice pw C.ws.length cw) ∧ w'.frozen? ⟨w1.heap.size, 4, none⟩ = false) := fun V hV => by
    refine (HMk.out V (HW0.out.tr0 (F1.out.tr0 (HFU.out.tr0 hV.out)))).mono ?_
    rintro e w' ⟨g, c, rfl, f, hgv, hc, hrd⟩
    have hb := (hV.out.tr0 f).hb HGB.out
    exact ⟨g, c, rfl, hV.out.tr0 f, hc, hrd, by have := lt_of_heap (hV.out.hb HGB.out); omega, cell_in hb 4, frozen_in hb 4⟩
  have HEnd : Hid (∀ V g c, Hid (Fr [] U1 V) → Hid (Rd V (.slice (some ⟨g, 0, none⟩) C.ws.length c) C.ws) → g ≠ w1.heap.size → Rd (V.setCell ⟨w1.heap.size, 4, none⟩ (.slice (some ⟨g, 0, none⟩) C.ws.length c)) (.slice (some ⟨g, 0, none⟩) C.ws.length c) C.ws ∧ (V.setCell ⟨w1.heap.size, 4, none⟩ (.slice (some ⟨g, 0, none⟩) C.ws.length c)).heap[w1.heap.size]? = some (.cells (cdv h lp C.lits lc (some ⟨g, 0, none⟩) C.ws.length c) 25 (0, 0)) ∧ Fr [] w1 (V.setCell ⟨w1.heap.size, 4, none⟩ (.slice (some ⟨g, 0, none⟩) C.ws.length c))) := fun V g c hV hrd hg => by
    have hb := hV.out.hb HGB.out
    refine ⟨hrd.out.keep (Fr.setCell (S := [w1.heap.size]) V ⟨w1.heap.size, 4, none⟩ _ (by simp)) (fun _ g' hg' hm => ?_), ?_, (HFU.out.tr0 hV.out).st (Nat.le_refl _) 4 _⟩
    · simp [Value.ownBlock] at hg' hm
      omega
    · rw [set_in hb 4 _]; rfl
  go_cut [] (fun W => Hid (∃ g c, C.ws.length + 64 ≤ c ∧ g ≠ w1.heap.size ∧ Rd W (.slice (some ⟨g, 0, none⟩) C.ws.length c) C.ws ∧ W.heap[w1.heap.size]? = some (.cells (cdv h lp C.lits lc (some ⟨g, 0, none⟩) C.ws.length c) 25 (0, 0)) ∧ Fr [] w1 W))
  case first =>
    generalize C.ws.length = nn at *
    have nn0 : (0 : Int) ≤ (nn : Int) := by omega
    go_region_held3 (fun W => W.cell? ⟨w.heap.size, 4, none⟩ = some (.slice pw nn cw))
      (first
        | exact HC4.out _ (hid_drew hR)
        | exact HC4.out _ hR
        | exact HC4.out _ hg2
        | exact HC4s.out _ _ hg2)
      ((go_at_call 6; refine (HMk2.out _ (hid_drew hR)).mono ?_; rintro e w2 ⟨g, c, rfl, hg2, hc2, hrd2, hgn, v4, z4⟩; have hc3 : (nn : Int) ≤ (c : Int) := by omega))
    all_goals go_wp2_with fail
    all_goals
      go_meet
      case rel => exact ⟨g, c, hc2, hgn, HEnd.out w2 g c hg2 hrd2 hgn⟩
  case rest =>
    obtain ⟨g, c, hgc, hgn, hrd, hgb, hf1⟩ := hcut.out
    have HRd := mkHid hrd
    have HF1 := mkHid hf1
    have HGv := mkHid hgb
    have v3 := cell_in hgb 3
    have z3 := frozen_in hgb 3
    have v3 : wc.cell? ⟨w1.heap.size, 3, none⟩ = some (.slice lp C.lits lc) := v3
    obtain ⟨⟨a0, a1, a2, a3, a4⟩, ⟨a5, a6, a7, a8⟩, a9⟩ := HCel.out wc (F1.out.tr0 hf1)
    have HTw2 : Hid (Calls Tryd.prog 7 #[.slice lp C.lits lc] wc fun e w' => TwP wc C.lits e w') := HTwin.out wc (HW0.out.tr0 (F1.out.tr0 hf1))
    have HTwE : Hid (∀ V p q us, us.length = C.lits → Fr [] wc V → LitsO V (fun g => wc.heap.size ≤ g) p q us → V.cell? ⟨w1.heap.size, 3, none⟩ = some (.slice lp C.lits lc) ∧ V.frozen? ⟨w1.heap.size, 3, none⟩ = false ∧ (V.setCell ⟨w1.heap.size, 3, none⟩ (.slice p C.lits q)).heap[w1.heap.size]? = some (.cells (cdv h p C.lits q (some ⟨g, 0, none⟩) C.ws.length c) 25 (0, 0)) ∧ CodeR (V.setCell ⟨w1.heap.size, 3, none⟩ (.slice p C.lits q)) C us p q (some ⟨g, 0, none⟩) c ∧ Fr [] w1 (V.setCell ⟨w1.heap.size, 3, none⟩ (.slice p C.lits q))) := fun V p q us hus hV hO => by
      have hb := hV.hb HGv.out
      have fs : Fr [w1.heap.size] V (V.setCell ⟨w1.heap.size, 3, none⟩ (.slice p C.lits q)) := Fr.setCell (S := [w1.heap.size]) V ⟨w1.heap.size, 3, none⟩ _ (by simp)
      have fe : Fr [] w1 (V.setCell ⟨w1.heap.size, 3, none⟩ (.slice p C.lits q)) := (HF1.out.tr0 hV).st (Nat.le_refl _) 3 _
      have hlt := lt_of_heap HGv.out
      refine ⟨cell_in hb 3, frozen_in hb 3, by rw [set_in hb 3 _]; rfl, ⟨(HRd.out.idle hV).keep fs (fun _ g' hg' hm => ?_), by omega, (hO.keep (Ok' := fun _ => True) fs (fun g' hg' _ hm => by simp at hm; omega) (fun _ _ _ => trivial)).plain, hus, HRng.out, HTb.out.idle (HW0.out.tr0 (F1.out.tr0 fe))⟩, fe⟩
      simp [Value.ownBlock] at hg' hm
      omega
    generalize wc = w2 at *
    clear hcut hrd hgb hf1
    have HCk : Hid (∀ V p q us, CodeR V C us p q (some ⟨g, 0, none⟩) c → Calls Tryd.prog 8 #[.agg #[.int .i64 h.args, .int .i64 h.temps, .int .i64 h.stack, .slice p C.lits q, .slice (some ⟨g, 0, none⟩) C.ws.length c], .agg #[.int .i64 C.b.fields, .int .i64 C.b.classes, .int .i64 C.b.globals, .int .i64 C.b.symbols]] V fun e w' => ∃ lk, e = .returned (.int .i64 (depthsP C h lk).1) ∧ Fr [] V w' ∧ (C.lits = 0 → lk = 0)) := fun V p q us hV => check_ok C h us p q (some ⟨g, 0, none⟩) c V hV
    have HNum := mkHid num_ok
    have hne1 : ¬ w1.heap.size = w.heap.size + 1 := by have := HSz.out; omega
    have hne2 : ¬ w.heap.size + 1 = w1.heap.size := by have := HSz.out; omega
    clear v3 z3 a0 a1 a2 a4
    go_wp2_with (first
      | (go_at_call 7; refine HTw2.out.mono ?_; rintro e w3 ⟨p3, q3, us3, rfl, hus3, f3, o3⟩; obtain ⟨x3, y3, hb3, hc3, hf3⟩ := HTwE.out w3 p3 q3 us3 hus3 f3 o3; have hg3 := f3.hb HGv.out; obtain ⟨-, ⟨b5, b6, b7, b8⟩, -⟩ := HCel.out w3 (F1.out.tr0 (HF1.out.tr0 f3)); have u0 : w3.cell? ⟨w1.heap.size, 0, none⟩ = some (.int .i64 h.args) := cell_in hg3 0
         have u1 : w3.cell? ⟨w1.heap.size, 1, none⟩ = some (.int .i64 h.temps) := cell_in hg3 1
         have u2 : w3.cell? ⟨w1.heap.size, 2, none⟩ = some (.int .i64 h.stack) := cell_in hg3 2
         have u4 : w3.cell? ⟨w1.heap.size, 4, none⟩ = some (.slice (some ⟨g, 0, none⟩) C.ws.length c) := cell_in hg3 4
         have HC3 := mkHid hc3
         have HF3 := mkHid hf3
         clear hb3 hc3 hf3 f3 o3 hg3)
      | (go_at_call 8; refine (HCk.out _ _ _ _ HC3.out).mono ?_; rintro e w4 ⟨lk, rfl, f4, -⟩; have F4 := mkHid (HF3.out.tr0 f4); clear f4))
    clear HTw2 HTwE HCk HGv HRd HMk HMk2 HEnd HC4 HC4s HC3 HBey HTwin hR x3 y3 u0 u1 u2 u4 b5 b6 b7 b8 a3 a5 a6 a7 a8 a9 HGB HFU
    have HWk : Hid (∀ V, Fr [] w V → Calls Tryd.prog 10 #[] V fun e w' => e = .returned (.bool true) ∧ Fr [] V w') := fun V hV => works_ok V (HTb.out.idle hV)
    have HF4 : Hid (Fr [] W0 w4) := F1.out.tr0 F4.out
    clear F4 HF3 F1 HF1
    by_cases hz : (depthsP C h lk).1 = 0
    · have hD : 4096 < C.ws.length ∨ 64 < C.lits → False := fun hh => by
        unfold depthsP at hz; rw [if_pos hh] at hz; simp at hz
      have hD2 : ¬ (4096 < C.ws.length ∨ 64 < C.lits) := hD
      have hS2 : ¬ (scopeB h.args h.temps = false ∨ inR h.stack 0 256 = false) := fun hh => by
        unfold depthsP at hz; rw [if_neg hD2, if_pos hh] at hz; simp at hz
      have hz2 : (wordsP C h).1 = 0 := by
        unfold depthsP at hz
        rw [if_neg hD2, if_neg hS2] at hz
        by_cases hk : lk ≠ 0
        · rw [if_pos hk] at hz; exact absurd hz hk
        · rw [if_neg hk] at hz; exact hz
      obtain ⟨pls, inf, S, -, hpos, -⟩ := words_safe C h hz2
      simp only [not_or, Bool.not_eq_false] at hS2
      obtain ⟨hsc, hst⟩ := hS2
      simp [scopeB, inR] at hsc hst
      have n4 : C.ws.length ≤ 4096 := by omega
      have htt : ((h.temps.toNat : Nat) : Int) = h.temps := Int.toNat_of_nonneg (by omega)
      have HInit : Hid (∀ V, Fr [] W0 V → SL w ((V.alloc (.cells #[.int .i64 h.temps] 3)).alloc (.cells #[.int .i64 0, .int .i64 (C.ws.length : Int), .slice (some ⟨V.heap.size, 0, none⟩) 1 1] 37)) C h lp lc pw cw pls inf (wordsP C h).2 [⟨0, C.ws.length, some ⟨V.heap.size, 0, none⟩, 1, [h.temps.toNat]⟩] (some ⟨V.heap.size + 1, 0, none⟩) 1) := fun V hV => by
        have f2 : Fr [] W0 ((V.alloc (.cells #[.int .i64 h.temps] 3)).alloc (.cells #[.int .i64 0, .int .i64 (C.ws.length : Int), .slice (some ⟨V.heap.size, 0, none⟩) 1 1] 37)) := (hV.al _).al _
        have hA := HA.out
        have hsz := HW0.out.size
        have hsv := hV.size
        refine ⟨HW0.out.tr0 f2, f2.hb (by rw [← hA]; exact argW_c ..), f2.hb (by rw [← hA]; exact argW_b ..), ⟨rfl, .inr ⟨V.heap.size + 1, 1, #[.int .i64 0, .int .i64 (C.ws.length : Int), .slice (some ⟨V.heap.size, 0, none⟩) 1 1], rfl, by omega, ?_, Nat.le_refl _, by decide, rfl, rfl⟩⟩, fun u hu => ?_, fun u hu => ?_⟩
        · have := heap_alloc_new (V.alloc (.cells #[.int .i64 h.temps] 3)) (.cells #[.int .i64 0, .int .i64 (C.ws.length : Int), .slice (some ⟨V.heap.size, 0, none⟩) 1 1] 37)
          simpa using this
        · have e : u = ⟨0, C.ws.length, some ⟨V.heap.size, 0, none⟩, 1, [h.temps.toNat]⟩ := by simpa using hu
          subst e
          refine ⟨rfl, .inr ⟨V.heap.size, 1, #[.int .i64 h.temps], rfl, by omega, (Fr.alloc [] _ _).hb (heap_alloc_new V _), Nat.le_refl _, by decide, rfl, ?_⟩⟩
          show [Value.int .i64 h.temps] = [Value.int .i64 ((h.temps.toNat : Nat) : Int)]
          rw [htt]
        · have e : u = ⟨0, C.ws.length, some ⟨V.heap.size, 0, none⟩, 1, [h.temps.toNat]⟩ := by simpa using hu
          subst e
          exact ⟨⟨1, Nat.le_refl _, S.head, S.first⟩, S.zero, Nat.le_refl _, by show 1 ≤ 25; omega, fun y hy => by simp at hy; omega⟩
      have HClip : Hid (∀ V, Calls Tryd.prog 11 #[.int .i64 steps, .int .i64 1, .int .i64 2000] V fun e w' => ∃ n : Nat, e = .returned (.int .i64 (n : Int)) ∧ n ≤ 2000 ∧ w' = V) := fun V => by
        refine (clipped_ok steps 1 2000 V (by decide) (by decide) (by decide) t1 t2).mono ?_
        rintro e w' ⟨m, rfl, m1, m2, rfl⟩
        exact ⟨m.toNat, by rw [Int.toNat_of_nonneg (by omega)], by omega, rfl⟩
      have HClip2 : Hid (∀ V, Calls Tryd.prog 11 #[.int .i64 seed, .int .i64 0, .int .i64 1073741824] V fun e w' => ∃ m : Int, e = .returned (.int .i64 m) ∧ 0 ≤ m ∧ m ≤ 1073741824 ∧ w' = V) := fun V => clipped_ok seed 0 1073741824 V (by decide) (by decide) (by decide) s1 s2
      have HS := mkHid S
      have HSt := mkHid hst
      obtain ⟨⟨-, a1, -, -, a4⟩, -, -⟩ := HCel.out w4 HF4.out
      rw [hz]
      clear S hsc hst hD hD2 hz hz2 htt
      go_wp2_with (first
        | (go_at_call 9; refine (HNum.out _ _).mono ?_; rintro e w' ⟨rfl, hw'⟩; rw [hw']; clear hw' w')
        | (go_at_call 11; refine (HClip.out _).mono ?_; rintro e w' ⟨n, rfl, hn, hw'⟩; rw [hw']; clear hw' w'))
      have HI0 := mkHid (HInit.out w4 HF4.out)
      obtain ⟨dep, hdep⟩ : ∃ dep, (wordsP C h).2 = dep := ⟨_, rfl⟩
      rw [hdep] at HS HI0
      clear HInit HClip HF4 a1 a4 hdep HNum hne1 hne2 hln hpos HLits HRng HCel HAe HA hus3
      generalize hW5 : (w4.alloc (.cells #[.int .i64 h.temps] 3)).alloc (.cells #[.int .i64 0, .int .i64 (C.ws.length : Int), .slice (some ⟨w4.heap.size, 0, none⟩) 1 1] 37) = w5 at *
      clear hW5
      go_loopw [12, 13] (fun l q wr => ∃ (i m : Nat) (pl : Option Addr) (cl : Nat), q = .int .i64 i ∧ i ≤ 40 ∧ l = .slice pl m cl ∧ m ≤ 2040 ∧ Hid (∃ us, us.length = m ∧ SL w wr C h lp lc pw cw pls inf dep us pl cl)) (fun _ q _ => 41 - (intOf q).toNat)
      case atStart => exact ⟨0, 1, some ⟨w4.heap.size + 1, 0, none⟩, 1, rfl, by omega, rfl, by omega, _, rfl, HI0.out⟩
      case round =>
        clear HI0
        obtain ⟨i, m, pl, cl, rfl, hi, rfl, hm, hst⟩ := hrel
        have i0 : (0 : Int) ≤ (i : Int) := by omega
        by_cases hgo : i < m ∧ i < 40
        · obtain ⟨hi1, hi2⟩ := hgo
          have i1 : (i : Int) < (m : Int) := by omega
          have i2 : (i : Int) < 40 := by omega
          go_wp2_with fail
          generalize wr = wo at *
          go_loopw [12, 14] (fun l q wr => ∃ (r m : Nat) (pl : Option Addr) (cl : Nat), q = .int .i64 r ∧ r ≤ 3 ∧ l = .slice pl m cl ∧ m ≤ 2040 ∧ i < m ∧ Hid (∃ us, us.length = m ∧ SL w wr C h lp lc pw cw pls inf dep us pl cl)) (fun _ q _ => 3 - (intOf q).toNat)
          case atStart => exact ⟨0, m, pl, cl, rfl, by omega, rfl, hm, hi1, hst.out⟩
          case round =>
            clear hst hm i1 hi1
            obtain ⟨r, m, pl, cl, rfl, hr3, rfl, hm, hi1, hst⟩ := hrel
            have r0 : (0 : Int) ≤ (r : Int) := by omega
            have i1 : (i : Int) < (m : Int) := by omega
            by_cases hr : r < 3
            · have r1 : (r : Int) < 3 := by omega
              obtain ⟨us, hul, hsl⟩ := hst.out
              subst hul
              obtain ⟨u, hu⟩ : ∃ u, us[i]? = some u := ⟨_, List.getElem?_eq_getElem hi1⟩
              have hum := List.mem_of_getElem? hu
              obtain ⟨gl, rfl⟩ : ∃ gl, pl = some ⟨gl, 0, none⟩ := by
                rcases hsl.row.2 with ⟨e, e0⟩ | ⟨g, cap, cur, e, q1, q2, q3, q4⟩
                · omega
                · injection e with e1
                  exact ⟨g, e1⟩
              have hcell : ∀ j, j < 3 → wr.cell? ⟨gl, i * 3 + j, none⟩ = (inc u)[j]? := fun j hj => by
                rw [hsl.row.cellAt (i * 3 + j) (by omega)]
                exact inCells_at us i u j hu hj
              have c0 : wr.cell? ⟨gl, i * 3, none⟩ = some (.int .i64 (u.b : Int)) := hcell 0 (by omega)
              have c1 : wr.cell? ⟨gl, i * 3 + 1, none⟩ = some (.int .i64 (u.e : Int)) := hcell 1 (by omega)
              have c2 : wr.cell? ⟨gl, i * 3 + 2, none⟩ = some (.slice u.p u.sc.length u.c) := hcell 2 (by omega)
              have hR : Hid (Fr [] wr wr) := Fr.refl _ _
              have HAll : Hid (∀ V, Hid (Fr [] wr V) → (V.cell? ⟨w.heap.size, 0, none⟩ = some (.int .i64 h.args) ∧ V.cell? ⟨w.heap.size, 1, none⟩ = some (.int .i64 h.temps) ∧ V.cell? ⟨w.heap.size, 2, none⟩ = some (.int .i64 h.stack) ∧ V.cell? ⟨w.heap.size, 3, none⟩ = some (.slice lp C.lits lc) ∧ V.cell? ⟨w.heap.size, 4, none⟩ = some (.slice pw C.ws.length cw)) ∧ (V.cell? ⟨w.heap.size + 1, 0, none⟩ = some (.int .i64 C.b.fields) ∧ V.cell? ⟨w.heap.size + 1, 1, none⟩ = some (.int .i64 C.b.classes) ∧ V.cell? ⟨w.heap.size + 1, 2, none⟩ = some (.int .i64 C.b.globals) ∧ V.cell? ⟨w.heap.size + 1, 3, none⟩ = some (.int .i64 C.b.symbols)) ∧ V.cell? ⟨gl, i * 3, none⟩ = some (.int .i64 (u.b : Int)) ∧ V.cell? ⟨gl, i * 3 + 1, none⟩ = some (.int .i64 (u.e : Int)) ∧ V.cell? ⟨gl, i * 3 + 2, none⟩ = some (.slice u.p u.sc.length u.c)) := fun V hV => by
                have hc := hV.out.hb hsl.cc
                have hb := hV.out.hb hsl.cb
                exact ⟨⟨cell_in hc 0, cell_in hc 1, cell_in hc 2, cell_in hc 3, cell_in hc 4⟩, ⟨cell_in hb 0, cell_in hb 1, cell_in hb 2, cell_in hb 3⟩, hV.out.cl c0, hV.out.cl c1, hV.out.cl c2⟩
              have HSl := mkHid hsl
              have HU := mkHid hum
              clear hst hsl hcell c0 c1 c2 hu hum
              go_wp2_with fail
              go_cut [15] (fun v W => ∃ x, v = .pointer (some ⟨x, 0, none⟩) ∧ Hid (∃ V sd, Fr [] wr V ∧ x = V.heap.size ∧ 0 ≤ sd ∧ sd < 2147483648 ∧ W = V.alloc (.cells (wcs ⟨C, h, lp, lc, pw, cw, u.b, u.e, u.p, u.c, u.sc, n⟩ ⟨u.b, 0, sd, false, false, 0⟩ none 0 0) 41)))
              case first =>
                go_region_held3 (fun V => (V.cell? ⟨w.heap.size, 0, none⟩ = some (.int .i64 h.args) ∧ V.cell? ⟨w.heap.size, 1, none⟩ = some (.int .i64 h.temps) ∧ V.cell? ⟨w.heap.size, 2, none⟩ = some (.int .i64 h.stack) ∧ V.cell? ⟨w.heap.size, 3, none⟩ = some (.slice lp C.lits lc) ∧ V.cell? ⟨w.heap.size, 4, none⟩ = some (.slice pw C.ws.length cw)) ∧ (V.cell? ⟨w.heap.size + 1, 0, none⟩ = some (.int .i64 C.b.fields) ∧ V.cell? ⟨w.heap.size + 1, 1, none⟩ = some (.int .i64 C.b.classes) ∧ V.cell? ⟨w.heap.size + 1, 2, none⟩ = some (.int .i64 C.b.globals) ∧ V.cell? ⟨w.heap.size + 1, 3, none⟩ = some (.int .i64 C.b.symbols)) ∧ V.cell? ⟨gl, i * 3, none⟩ = some (.int .i64 (u.b : Int)) ∧ V.cell? ⟨gl, i * 3 + 1, none⟩ = some (.int .i64 (u.e : Int)) ∧ V.cell? ⟨gl, i * 3 + 2, none⟩ = some (.slice u.p u.sc.length u.c))
                  (first
                    | exact HAll.out _ (hid_drew hR)
                    | exact HAll.out _ hR
                    | exact HAll.out _ (hid_al (hid_drew hR)))
                  ((go_at_call 11; refine (HClip2.out _).mono ?_; rintro e w' ⟨m2, rfl, m3, m4, hw'⟩; rw [hw']; clear hw' w'))
                all_goals go_wp2_with fail
                all_goals
                  go_meet
                  case rel =>
                    have e1 : IntKind.i64.wrap (IntKind.i64.wrap (m2 + IntKind.i64.wrap (77 * (r : Int))) + (i : Int)) = m2 + 77 * (r : Int) + (i : Int) := by
                      rw [iwrap_id (n := 77 * (r : Int)) (by omega) (by omega), iwrap_id (n := m2 + 77 * (r : Int)) (by omega) (by omega), iwrap_id (by omega) (by omega)]
                    exact ⟨_, rfl, wr.drew, m2 + 77 * (r : Int) + (i : Int), Fr.drew [] wr, rfl, by omega, by omega, by rw [e1]; rfl⟩
              case rest =>
                obtain ⟨x, rfl, hcx⟩ := hcut
                obtain ⟨V, sd, hV, rfl, sd1, sd2, hwc⟩ := hcx.out
                obtain ⟨k, hk, hwk, hiv⟩ := HSl.out.walker HS.out HWords.out n4 HSt.out u HU.out n sd ⟨sd1, sd2⟩ hV
                rw [← hwc] at hwk
                have hfw : Fr [] V wc := by rw [hwc]; exact Fr.alloc [] V _
                have HWa : Hid (Calls Tryd.prog 12 #[.pointer (some ⟨V.heap.size, 0, none⟩)] wc fun e w' => WalkP wc V.heap.size V.heap.size ⟨C, h, lp, lc, pw, cw, u.b, u.e, u.p, u.c, u.sc, n⟩ pls inf dep e w') := walks_ok HS.out hwk hfw.size hk hiv hn
                have HAft : Hid (∀ w2 s2 pi2 ci2 ins2, Kw V.heap.size wc w2 → WK w2 V.heap.size V.heap.size ⟨C, h, lp, lc, pw, cw, u.b, u.e, u.p, u.c, u.sc, n⟩ s2 pi2 ci2 ins2 → ins2.length ≤ 2000 → (∀ u ∈ ins2, BodyOk pls inf dep u.b u.e u.sc) → w2.cell? ⟨V.heap.size, 19, none⟩ = some (.slice pi2 ins2.length ci2) ∧ SL w w2 C h lp lc pw cw pls inf dep us (some ⟨gl, 0, none⟩) cl ∧ (us.length < 40 → ∃ p' c' w', (Builtin.append_ #[38, 38] 38 #[.slice (some ⟨gl, 0, none⟩) us.length cl, .slice pi2 ins2.length ci2]).run Tryd.prog w2 = .ok (.slice p' (us.length + ins2.length) c') w' ∧ SL w w' C h lp lc pw cw pls inf dep (us ++ ins2) p' c')) := fun w2 s2 pi2 ci2 ins2 kw2 k2 n2 b2 => by
                  have f2 : Fr [] wr w2 := kw2.fr (hV.tr0 hfw) hV.size
                  have hs2 := HSl.out.idle f2
                  exact ⟨k2.cell 19, hs2, fun hlt => hs2.more k2.inr k2.ink (Nat.le_trans HSl.out.fr.size hV.size) b2 (by omega)⟩
                clear hcx hwc hwk hiv hk hfw
                generalize wc = w6 at *
                by_cases happ : r = 0 ∧ us.length < 40
                · obtain ⟨rfl, hlt⟩ := happ
                  have q1 : (us.length : Int) < 40 := by omega
                  go_wp2_with (first
                    | (go_at_call 12; refine HWa.out.mono ?_; rintro e w2 ⟨rfl, kw2, s2, pi2, ci2, ins2, k2, n2, b2⟩; obtain ⟨z19, hs2, hap⟩ := HAft.out w2 s2 pi2 ci2 ins2 kw2 k2 n2 b2; obtain ⟨p', c', w7, hrun, hs7⟩ := hap hlt; have HRun := mkHid hrun; have HS7 := mkHid hs7; clear kw2 k2 b2 hs2 hap hrun hs7)
                    | (at_builtin; refine Lib.wpList_append_run _ rfl (.tmp 107) (.tmp 111) 38 38 rfl _ _ rfl rfl _ _ HRun.out ?_))
                  go_roundw
                  case rel => exact ⟨1, us.length + ins2.length, p', c', by go_num, by omega, rfl, by omega, by omega, us ++ ins2, by simp, HS7.out⟩
                  case measure => simp [intOf]
                · have HNo : Hid (∀ w2 s2 pi2 ci2 ins2, Kw V.heap.size w6 w2 → WK w2 V.heap.size V.heap.size ⟨C, h, lp, lc, pw, cw, u.b, u.e, u.p, u.c, u.sc, n⟩ s2 pi2 ci2 ins2 → ins2.length ≤ 2000 → (∀ u ∈ ins2, BodyOk pls inf dep u.b u.e u.sc) → SL w w2 C h lp lc pw cw pls inf dep us (some ⟨gl, 0, none⟩) cl) := fun w2 s2 pi2 ci2 ins2 kw2 k2 n2 b2 => (HAft.out w2 s2 pi2 ci2 ins2 kw2 k2 n2 b2).2.1
                  by_cases hr0 : r = 0
                  · have hge : ¬ us.length < 40 := fun hh => happ ⟨hr0, hh⟩
                    subst hr0
                    have q1 : decide ((us.length : Int) < 40) = false := decide_eq_false (by omega)
                    clear happ HAft
                    go_wp2_with (go_at_call 12; refine HWa.out.mono ?_; rintro e w2 ⟨rfl, kw2, s2, pi2, ci2, ins2, k2, n2, b2⟩; have HS2 := mkHid (HNo.out w2 s2 pi2 ci2 ins2 kw2 k2 n2 b2); clear kw2 k2 b2)
                    go_roundw
                    case rel => exact ⟨1, us.length, some ⟨gl, 0, none⟩, cl, by go_num, by omega, rfl, hm, hi1, us, rfl, HS2.out⟩
                    case measure => simp [intOf]
                  · have q1 : ((r : Int) == 0) = false := beq_eq_false_iff_ne.2 (by omega)
                    clear happ HAft
                    go_wp2_with (go_at_call 12; refine HWa.out.mono ?_; rintro e w2 ⟨rfl, kw2, s2, pi2, ci2, ins2, k2, n2, b2⟩; have HS2 := mkHid (HNo.out w2 s2 pi2 ci2 ins2 kw2 k2 n2 b2); clear kw2 k2 b2)
                    go_roundw
                    case rel => exact ⟨r + 1, us.length, some ⟨gl, 0, none⟩, cl, by go_num, by omega, rfl, hm, hi1, us, rfl, HS2.out⟩
                    case measure => simp [intOf]; omega
            · have r1 : ¬ (r : Int) < 3 := by omega
              have r2 : decide ((r : Int) < 3) = false := decide_eq_false r1
              go_wp2_with fail
              go_roundw
              case rel => exact ⟨i + 1, m, pl, cl, by go_num, by omega, rfl, hm, hst.out⟩
              case measure => simp [intOf]; omega
        · obtain ⟨us, hul, hsl⟩ := hst.out
          have HF := mkHid hsl.fr
          clear hst hsl
          have hall : (decide ((i : Int) < (m : Int)) && decide ((i : Int) < 40)) = false := by
            rcases Nat.lt_or_ge i m with h1 | h1
            · have : ¬ i < 40 := fun h2 => hgo ⟨h1, h2⟩
              simp; omega
            · simp; omega
          rcases Nat.lt_or_ge i m with h1 | h1
          · have h2 : ¬ i < 40 := fun h2 => hgo ⟨h1, h2⟩
            have e1 : (i : Int) < (m : Int) := by omega
            have e2 : decide ((i : Int) < 40) = false := decide_eq_false (by omega)
            clear hgo hall
            go_wp2_with (go_at_call 10; refine (HWk.out _ HF.out).mono ?_; rintro e w6 ⟨rfl, f6⟩; have F6 := mkHid f6; clear f6)
            go_ret
            exact ⟨rfl, HF.out.tr0 F6.out⟩
          · have e1 : decide ((i : Int) < (m : Int)) = false := decide_eq_false (by omega)
            clear hgo hall
            go_wp2_with (go_at_call 10; refine (HWk.out _ HF.out).mono ?_; rintro e w6 ⟨rfl, f6⟩; have F6 := mkHid f6; clear f6)
            go_ret
            exact ⟨rfl, HF.out.tr0 F6.out⟩
    · have q0 : ((depthsP C h lk).1 != 0) = true := by simpa using hz
      generalize (depthsP C h lk).1 = E at *
      go_wp2_with (first
        | (go_at_call 9; refine (HNum.out _ _).mono ?_; rintro e w' ⟨rfl, hw'⟩; rw [hw']; clear hw' w')
        | (go_at_call 10; refine (HWk.out _ (HW0.out.tr0 HF4.out)).mono ?_; rintro e w5 ⟨rfl, f5⟩; have F5 := mkHid f5; clear f5))
      go_ret
      exact ⟨rfl, (HW0.out.tr0 HF4.out).tr0 F5.out⟩
end Go.Proofs.YtdflpoldlokijaaDoor
