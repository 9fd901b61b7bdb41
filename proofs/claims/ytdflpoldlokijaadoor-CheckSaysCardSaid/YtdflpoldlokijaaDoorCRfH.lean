import Derived.Test.YtdflpoldlokijaaDoorCRfG
namespace Go.Proofs.YtdflpoldlokijaaDoor
open Go.RowKit
set_option linter.unusedVariables false
set_option linter.unusedSimpArgs false
attribute [local go_sem ↓] Go.wp_at_zero Go.wp_at_succ
set_option maxHeartbeats 4000000 in
theorem rCheck_ok (C : Cx) (h : Hd) (ts : List LitT) (lp : Option Addr) (lc : Nat) (pw : Option Addr) (cw : Nat) (w : World) (hc : CodeR w C ts lp lc pw cw) :
    Calls Tryd.prog 13 #[.agg (cdv h lp C.lits lc pw C.ws.length cw), .agg (bnv C.b)] w fun e w' => e = .returned (.int .i64 (depthsP C h (lookL C.b.symbols ts 0).1).1) ∧ Fr [] w w' := by
  have F2 : Fr [] w ((w.alloc (.cells #[.int .i64 h.args, .int .i64 h.temps, .int .i64 h.stack, .slice lp C.lits lc, .slice pw C.ws.length cw] 25)).alloc (.cells #[.int .i64 C.b.fields, .int .i64 C.b.classes, .int .i64 C.b.globals, .int .i64 C.b.symbols] 27)) := ((Fr.refl [] w).al _).al _
  have HL := mkHid (look_ok2 C h ts lp lc pw cw _ (⟨hc.words.idle F2, hc.cap, hc.lits.idle F2, hc.ln, hc.rng, hc.tb.idle F2⟩ : CodeR _ C ts lp lc pw cw))
  have HF2 := mkHid F2
  obtain ⟨D, hD⟩ : ∃ D, depthsP C h (lookL C.b.symbols ts 0).1 = D := ⟨_, rfl⟩
  rw [hD] at HL ⊢
  unfold cdv bnv at *
  clear hc hD F2
  go_enter Tryd.func13, Tryd.ntmps13
  go_wp2_with (go_at_call 20; refine HL.out.mono ?_; rintro e w3 ⟨x, v, rfl, f3, bs, pb, cb, rs, pr, cr, el, ds, pd, cd, m, c, k3, -, -⟩; have c12 : w3.cell? ⟨x, 12, none⟩ = some (.int .i64 D.1) := k3.cell 12; have F3 := mkHid (HF2.out.tr0 f3); clear f3 k3)
  go_ret
  exact ⟨rfl, F3.out⟩
set_option maxRecDepth 100000 in
set_option maxHeartbeats 8000000 in
theorem rDepths_ok (C : Cx) (h : Hd) (ts : List LitT) (lp : Option Addr) (lc : Nat) (pw : Option Addr) (cw : Nat) (w : World) (hc : CodeR w C ts lp lc pw cw) :
    Calls Tryd.prog 15 #[.agg (cdv h lp C.lits lc pw C.ws.length cw), .agg (bnv C.b)] w fun e w' => ∃ v, e = .returned (.tuple #[v, .int .i64 (depthsP C h (lookL C.b.symbols ts 0).1).1]) ∧ Fr [] w w' ∧ ((depthsP C h (lookL C.b.symbols ts 0).1).1 = 0 → w'.ownsRow w.heap.size 3 1 v C.ws.length ((depthsP C h (lookL C.b.symbols ts 0).1).2.map (Value.int .i64))) ∧ ((depthsP C h (lookL C.b.symbols ts 0).1).1 ≠ 0 → v = .slice none 0 0) := by
  have F2 : Fr [] w ((w.alloc (.cells #[.int .i64 h.args, .int .i64 h.temps, .int .i64 h.stack, .slice lp C.lits lc, .slice pw C.ws.length cw] 25)).alloc (.cells #[.int .i64 C.b.fields, .int .i64 C.b.classes, .int .i64 C.b.globals, .int .i64 C.b.symbols] 27)) := ((Fr.refl [] w).al _).al _
  have HL := mkHid (look_ok2 C h ts lp lc pw cw _ (⟨hc.words.idle F2, hc.cap, hc.lits.idle F2, hc.ln, hc.rng, hc.tb.idle F2⟩ : CodeR _ C ts lp lc pw cw))
  have HF2 := mkHid F2
  have hn4 : (depthsP C h (lookL C.b.symbols ts 0).1).1 = 0 → C.ws.length ≤ 4096 := fun hh => by
    unfold depthsP at hh
    split at hh
    · cases hh
    · omega
  have HGC : Hid (((w.alloc (.cells #[.int .i64 h.args, .int .i64 h.temps, .int .i64 h.stack, .slice lp C.lits lc, .slice pw C.ws.length cw] 25)).alloc (.cells #[.int .i64 C.b.fields, .int .i64 C.b.classes, .int .i64 C.b.globals, .int .i64 C.b.symbols] 27)).heap[w.heap.size]? = some (.cells #[.int .i64 h.args, .int .i64 h.temps, .int .i64 h.stack, .slice lp C.lits lc, .slice pw C.ws.length cw] 25 (0, 0))) := al_old (heap_alloc_new w _) _
  obtain ⟨D, hD⟩ : ∃ D, depthsP C h (lookL C.b.symbols ts 0).1 = D := ⟨_, rfl⟩
  rw [hD] at HL hn4 ⊢
  unfold cdv bnv at *
  clear hc hD F2
  by_cases hE : D.1 = 0
  · have n4 := hn4 hE
    have HE := mkHid hE
    rw [hE]
    clear hE hn4
    go_enter Tryd.func15, Tryd.ntmps15
    go_wp2_with (go_at_call 20; refine HL.out.mono ?_; rintro e w3 ⟨x, v, rfl, f3, bs, pb, cb, rs, pr, cr, el, ds, pd, cd, m, c, k3, v3, h3⟩; have c12 : w3.cell? ⟨x, 12, none⟩ = some (.int .i64 0) := (k3.cell 12).trans (by rw [← HE.out]; rfl); have F3 := mkHid (HF2.out.tr0 f3); have K3 := mkHid k3; have V3 := mkHid v3; have H3 := mkHid (h3 HE.out); have g3 := f3.hb HGC.out; have c4 := cell_in g3 4; have G3 := mkHid g3; clear f3 k3 v3 h3 g3)
    go_loopw [8, 9] (fun q8 q9 wr => ∃ (i : Nat) (p : Option Addr) (cc : Nat), q9 = .int .i64 (i : Int) ∧ q8 = .slice p i cc ∧ i ≤ C.ws.length ∧ Hid (Fr [] w3 wr ∧ wr.ownsRow w3.heap.size 3 1 (.slice p i cc) i ((List.replicate i (-1 : Int)).map (Value.int .i64)))) (fun _ q9 _ => C.ws.length - (intOf q9).toNat)
    case atStart => exact ⟨0, none, 0, rfl, rfl, by omega, Fr.refl _ _, World.ownsRow_nil _ _ _ _⟩
    case round =>
      obtain ⟨i, p, cc, rfl, rfl, hi, hst⟩ := hrel
      obtain ⟨fr, ho⟩ := hst.out
      have i0 : (0 : Int) ≤ (i : Int) := by omega
      have c4r : wr.cell? ⟨w.heap.size, 4, none⟩ = some (.slice pw C.ws.length cw) := fr.cl c4
      by_cases hlt : i < C.ws.length
      · have i1 : (i : Int) < (C.ws.length : Int) := by omega
        obtain ⟨p', c', w', hrun, hown, hm⟩ := push_int wr w3.heap.size p cc (List.replicate i (-1)) (-1) (by simpa using ho) (by simp; omega) fr.size
        simp only [List.length_replicate] at hrun hown
        have e1 : List.replicate i (-1 : Int) ++ [-1] = List.replicate (i + 1) (-1) := by rw [List.replicate_succ']
        rw [e1] at hown
        simp only [List.length_replicate] at hown
        have HRun := mkHid hrun
        have HEnd : Hid (Fr [] w3 w' ∧ w'.ownsRow w3.heap.size 3 1 (.slice p' (i + 1) c') (i + 1) ((List.replicate (i + 1) (-1 : Int)).map (Value.int .i64))) := by
          refine ⟨?_, hown⟩
          rcases hm with ⟨-, -, e3⟩ | ⟨e1, -⟩
          · exact fr.trans e3 (fun b hb => .inr (own_lt ho b ((blk_own _ _ _ _).2 hb)).1)
          · exact fr.tr0 e1
        clear hst hrun hown hm ho fr
        go_wp2_with (at_builtin; refine Lib.wpList_append_run _ rfl (.tmp 33) (.tmp 34) 23 23 rfl _ _ rfl rfl _ _ HRun.out ?_)
        go_roundw
        case rel => exact ⟨i + 1, p', c', by go_num, rfl, by omega, HEnd.out⟩
        case measure => simp [intOf]; omega
      · have i1 : decide ((i : Int) < (C.ws.length : Int)) = false := decide_eq_false (by omega)
        have hie : Hid (i = C.ws.length) := by show i = _; omega
        have HFr := mkHid fr
        have HOw := mkHid ho
        clear hst fr ho
        rename World => w4
        generalize hnn : rs.length = nn at *
        have hdl : ds.length = nn := by rw [← H3.out.len, hnn]
        have hn46 : nn ≤ 4096 := by have := H3.out.short; omega
        go_wp2_with fail
        go_loopw [10] (fun q10 wr => ∃ j : Nat, q10 = .int .i64 (j : Int) ∧ j ≤ nn ∧ Hid (Fr [] w3 wr ∧ ∃ L : List Int, L.length = i ∧ wr.ownsRow w3.heap.size 3 1 (.slice p i cc) i (L.map (Value.int .i64)) ∧ (∀ (k : Nat) (r : Ri), k < j → rs[k]? = some r → L.getD r.at_ 0 = depD D.2 r.at_) ∧ ∀ y, y < i → (∀ (k : Nat) (r : Ri), k < j → rs[k]? = some r → r.at_ ≠ y) → L.getD y 0 = -1)) (fun q10 _ => nn - (intOf q10).toNat)
        case atStart => exact ⟨0, rfl, by omega, HFr.out, List.replicate i (-1), by simp, HOw.out, fun k r hk => by omega, fun y hy _ => by rw [List.getD_eq_getElem?_getD, List.getElem?_replicate, if_pos hy]; rfl⟩
        case round =>
          rename World => w5
          clear c4r c4 c12 HFr HOw
          obtain ⟨j, rfl, hj, hst⟩ := hrel
          obtain ⟨fr, L, hLl, ho, hL1, hL2⟩ := hst.out
          have hr := K3.out.idle fr
          have hv := V3.out.idle fr
          have j0 : (0 : Int) ≤ (j : Int) := by omega
          have c10 : w5.cell? ⟨x, 10, none⟩ = some (.slice pr nn cr) := by rw [← hnn]; exact hr.cell 10
          by_cases hlt : j < nn
          · have j1 : (j : Int) < (nn : Int) := by omega
            obtain ⟨r, hri⟩ : ∃ r, rs[j]? = some r := ⟨rs[j]'(by omega), List.getElem?_eq_getElem _⟩
            obtain ⟨hra, hrd⟩ := H3.out.at_ j r hri
            rw [← hie.out] at hra
            obtain ⟨gr, rfl, -, hcs⟩ := hr.ins j r hri
            obtain ⟨gd, rfl, -, yd, -⟩ := hv.depth j (by rw [hdl]; exact hlt)
            have y0 : w5.cell? ⟨gr, j * 9, none⟩ = some (.int .i64 (r.at_ : Int)) := hcs 0 (by omega)
            rw [List.getD_eq_getElem?_getD, hrd, Option.getD_some] at yd
            have cv0 : w5.cell? ⟨v, 0, none⟩ = some (.slice (some ⟨gd, 0, none⟩) nn cd) := by rw [cell_in hv.top, hdl]; rfl
            obtain ⟨dv, hdv⟩ : ∃ q, depD D.2 r.at_ = q := ⟨_, rfl⟩
            rw [hdv] at yd
            obtain ⟨gl, rfl, yl, zl⟩ : ∃ gl, p = some ⟨gl, 0, none⟩ ∧ w5.cell? ⟨gl, r.at_, none⟩ = some (.int .i64 (L.getD r.at_ 0)) ∧ w5.frozen? ⟨gl, r.at_, none⟩ = false := by
              rcases ho.2 with ⟨e, e0⟩ | ⟨gl, cap, cur, e, q1, q2, q3, q4⟩
              · omega
              · injection e with e1 _ e3
                subst e1 e3
                have ho2 := ho
                rw [← hLl] at ho2
                exact ⟨gl, rfl, own_get ho2 r.at_ (by omega), frozen_in q2 _⟩
            have a0 : (0 : Int) ≤ (r.at_ : Int) := by omega
            have a1 : (r.at_ : Int) < (i : Int) := by omega
            have hst5 := (ho.stored r.at_ (.int .i64 dv)).1
            rw [← List.map_set] at hst5
            have HS : Hid (w5.cell? ⟨x, 10, none⟩ = some (.slice (some ⟨gr, 0, none⟩) nn cr) ∧ w5.cell? ⟨gr, j * 9, none⟩ = some (.int .i64 (r.at_ : Int)) ∧ w5.cell? ⟨v, 0, none⟩ = some (.slice (some ⟨gd, 0, none⟩) nn cd) ∧ w5.cell? ⟨gd, j, none⟩ = some (.int .i64 dv)) := ⟨c10, y0, cv0, yd⟩
            have HEnd : Hid (Fr [] w3 ((w5.drew).setCell ⟨gl, r.at_, none⟩ (.int .i64 dv)) ∧ ∃ L : List Int, L.length = i ∧ ((w5.drew).setCell ⟨gl, r.at_, none⟩ (.int .i64 dv)).ownsRow w3.heap.size 3 1 (.slice (some ⟨gl, 0, none⟩) i cc) i (L.map (Value.int .i64)) ∧ (∀ (k : Nat) (r : Ri), k < j + 1 → rs[k]? = some r → L.getD r.at_ 0 = depD D.2 r.at_) ∧ ∀ y, y < i → (∀ (k : Nat) (r : Ri), k < j + 1 → rs[k]? = some r → r.at_ ≠ y) → L.getD y 0 = -1) := by
              have hglB : w3.heap.size ≤ gl := (own_lt ho gl rfl).1
              refine ⟨(fr.tr0 (Fr.drew [] w5)).st hglB _ _, L.set r.at_ dv, by simp [hLl], own_congr hst5 (fun b hb => rfl), fun k r2 hk hr2 => ?_, fun y hy hno => ?_⟩
              · by_cases e : r2.at_ = r.at_
                · rw [e, List.getD_eq_getElem?_getD, List.getElem?_set_self (by omega), ← hdv]; rfl
                · rw [List.getD_eq_getElem?_getD, List.getElem?_set_ne (Ne.symm e), ← List.getD_eq_getElem?_getD]
                  refine hL1 k r2 ?_ hr2
                  by_cases e2 : k = j
                  · subst e2; rw [hri] at hr2; exact absurd (by rw [Option.some.inj hr2]) e
                  · omega
              · have hne := hno j r (by omega) hri
                rw [List.getD_eq_getElem?_getD, List.getElem?_set_ne hne, ← List.getD_eq_getElem?_getD]
                exact hL2 y hy (fun k r2 hk hr2 => hno k r2 (by omega) hr2)
            clear hst hr hv fr ho hL1 hL2 hst5 hcs hri hrd hdv
            generalize L.getD r.at_ 0 = oldv at *
            go_upto_region 12 with fail
            refine wp_region_last (L := 17) (S := (fun U => U.cell? ⟨x, 10, none⟩ = some (.slice (some ⟨gr, 0, none⟩) nn cr) ∧ U.cell? ⟨gr, j * 9, none⟩ = some (.int .i64 (r.at_ : Int)) ∧ U.cell? ⟨v, 0, none⟩ = some (.slice (some ⟨gd, 0, none⟩) nn cd) ∧ U.cell? ⟨gd, j, none⟩ = some (.int .i64 dv))) (by kernel_rfl) (HS.out) (fun hHeld => ?_)
            refine wpLast_take (i := 0) (v := ?_) rfl (by kernel_rfl) (by kernel_rfl) (by kernel_rfl) (by decide) (by kernel_rfl) (fun _ _ _ h => h) (Or.inl ⟨by rfl, ?_⟩) (by assumption) ?_
            rotate_left
            · (intro w hSw; (try dsimp only at hSw); first | (go_simp; done) | (go_simp; with_reducible rfl))
            try simp only [Act.put, List.getElem_toArray, List.getElem_cons_zero, List.getElem_cons_succ, List.setIfInBounds_toArray, List.set_cons_zero, List.set_cons_succ]
            refine wpLast_take (i := 1) (v := ?_) rfl (by kernel_rfl) (by kernel_rfl) (by kernel_rfl) (by decide) (by kernel_rfl) (fun _ _ _ h => h) (Or.inl ⟨by rfl, ?_⟩) (by assumption) ?_
            rotate_left
            · (intro w hSw; (try dsimp only at hSw); first | (go_simp; done) | (go_simp; with_reducible rfl))
            try simp only [Act.put, List.getElem_toArray, List.getElem_cons_zero, List.getElem_cons_succ, List.setIfInBounds_toArray, List.set_cons_zero, List.set_cons_succ]
            refine wpLast_take (i := 2) (v := ?_) rfl (by kernel_rfl) (by kernel_rfl) (by kernel_rfl) (by decide) (by kernel_rfl) (fun _ _ _ h => h) (Or.inl ⟨by rfl, ?_⟩) (by assumption) ?_
            rotate_left
            · (intro w hSw; (try dsimp only at hSw); first | (go_simp; done) | (go_simp; with_reducible rfl))
            try simp only [Act.put, List.getElem_toArray, List.getElem_cons_zero, List.getElem_cons_succ, List.setIfInBounds_toArray, List.set_cons_zero, List.set_cons_succ]
            refine wpLast_take (i := 3) (v := ?_) rfl (by kernel_rfl) (by kernel_rfl) (by kernel_rfl) (by decide) (by kernel_rfl) (fun _ _ _ h => h) (Or.inl ⟨by rfl, ?_⟩) (by assumption) ?_
            rotate_left
            · (intro w hSw; (try dsimp only at hSw); first | (go_simp; done) | (go_simp; with_reducible rfl))
            try simp only [Act.put, List.getElem_toArray, List.getElem_cons_zero, List.getElem_cons_succ, List.setIfInBounds_toArray, List.set_cons_zero, List.set_cons_succ]
            refine wpLast_take (i := 4) (v := ?_) rfl (by kernel_rfl) (by kernel_rfl) (by kernel_rfl) (by decide) (by kernel_rfl) (fun _ _ _ h => h) (Or.inl ⟨by rfl, ?_⟩) (by assumption) ?_
            rotate_left
            · (intro w hSw; (try dsimp only at hSw); first | (go_simp; done) | (go_simp; with_reducible rfl))
            try simp only [Act.put, List.getElem_toArray, List.getElem_cons_zero, List.getElem_cons_succ, List.setIfInBounds_toArray, List.set_cons_zero, List.set_cons_succ]
            refine wpLast_take (i := 5) (v := ?_) rfl (by kernel_rfl) (by kernel_rfl) (by kernel_rfl) (by decide) (by kernel_rfl) (fun _ _ _ h => h) (Or.inl ⟨by rfl, ?_⟩) (by assumption) ?_
            rotate_left
            · (intro w hSw; (try dsimp only at hSw); first | (go_simp; done) | (go_simp; with_reducible rfl))
            try simp only [Act.put, List.getElem_toArray, List.getElem_cons_zero, List.getElem_cons_succ, List.setIfInBounds_toArray, List.set_cons_zero, List.set_cons_succ]
            refine wpLast_take (i := 6) (v := ?_) rfl (by kernel_rfl) (by kernel_rfl) (by kernel_rfl) (by decide) (by kernel_rfl) (fun _ _ _ h => h) (Or.inl ⟨by rfl, ?_⟩) (by assumption) ?_
            rotate_left
            · (intro w hSw; (try dsimp only at hSw); first | (go_simp; done) | (go_simp; with_reducible rfl))
            try simp only [Act.put, List.getElem_toArray, List.getElem_cons_zero, List.getElem_cons_succ, List.setIfInBounds_toArray, List.set_cons_zero, List.set_cons_succ]
            refine wpLast_take (i := 7) (v := ?_) rfl (by kernel_rfl) (by kernel_rfl) (by kernel_rfl) (by decide) (by kernel_rfl) (fun _ _ _ h => h) (Or.inl ⟨by rfl, ?_⟩) (by assumption) ?_
            rotate_left
            · (intro w hSw; (try dsimp only at hSw); first | (go_simp; done) | (go_simp; with_reducible rfl))
            try simp only [Act.put, List.getElem_toArray, List.getElem_cons_zero, List.getElem_cons_succ, List.setIfInBounds_toArray, List.set_cons_zero, List.set_cons_succ]
            refine wpLast_take (i := 8) (v := ?_) rfl (by kernel_rfl) (by kernel_rfl) (by kernel_rfl) (by decide) (by kernel_rfl) (fun _ _ _ h => h) (Or.inl ⟨by rfl, ?_⟩) (by assumption) ?_
            rotate_left
            · (intro w hSw; (try dsimp only at hSw); first | (go_simp; done) | (go_simp; with_reducible rfl))
            try simp only [Act.put, List.getElem_toArray, List.getElem_cons_zero, List.getElem_cons_succ, List.setIfInBounds_toArray, List.set_cons_zero, List.set_cons_succ]
            refine wpLast_take (i := 9) (v := ?_) rfl (by kernel_rfl) (by kernel_rfl) (by kernel_rfl) (by decide) (by kernel_rfl) (fun _ _ _ h => h) (Or.inl ⟨by rfl, ?_⟩) (by assumption) ?_
            rotate_left
            · (intro w hSw; (try dsimp only at hSw); first | (go_simp; done) | (go_simp; with_reducible rfl))
            try simp only [Act.put, List.getElem_toArray, List.getElem_cons_zero, List.getElem_cons_succ, List.setIfInBounds_toArray, List.set_cons_zero, List.set_cons_succ]
            refine wpLast_take (i := 10) (v := ?_) rfl (by kernel_rfl) (by kernel_rfl) (by kernel_rfl) (by decide) (by kernel_rfl) (fun _ _ _ h => h) (Or.inl ⟨by rfl, ?_⟩) (by assumption) ?_
            rotate_left
            · (intro w hSw; (try dsimp only at hSw); first | (go_simp; done) | (go_simp; with_reducible rfl))
            try simp only [Act.put, List.getElem_toArray, List.getElem_cons_zero, List.getElem_cons_succ, List.setIfInBounds_toArray, List.set_cons_zero, List.set_cons_succ]
            refine wpLast_take (i := 11) (v := ?_) rfl (by kernel_rfl) (by kernel_rfl) (by kernel_rfl) (by decide) (by kernel_rfl) (fun _ _ _ h => h) (Or.inl ⟨by rfl, ?_⟩) (by assumption) ?_
            rotate_left
            · (intro w hSw; (try dsimp only at hSw); first | (go_simp; done) | (go_simp; with_reducible rfl))
            try simp only [Act.put, List.getElem_toArray, List.getElem_cons_zero, List.getElem_cons_succ, List.setIfInBounds_toArray, List.set_cons_zero, List.set_cons_succ]
            refine wpLast_take (i := 12) (v := ?_) rfl (by kernel_rfl) (by kernel_rfl) (by kernel_rfl) (by decide) (by kernel_rfl) (fun _ _ _ h => h) (Or.inl ⟨by rfl, ?_⟩) (by assumption) ?_
            rotate_left
            · (intro w hSw; (try dsimp only at hSw); first | (go_simp; done) | (go_simp; with_reducible rfl))
            try simp only [Act.put, List.getElem_toArray, List.getElem_cons_zero, List.getElem_cons_succ, List.setIfInBounds_toArray, List.set_cons_zero, List.set_cons_succ]
            refine wpLast_take (i := 13) (v := ?_) rfl (by kernel_rfl) (by kernel_rfl) (by kernel_rfl) (by decide) (by kernel_rfl) (fun _ _ _ h => h) (Or.inl ⟨by rfl, ?_⟩) (by assumption) ?_
            rotate_left
            · (intro w hSw; (try dsimp only at hSw); first | (go_simp; done) | (go_simp; with_reducible rfl))
            try simp only [Act.put, List.getElem_toArray, List.getElem_cons_zero, List.getElem_cons_succ, List.setIfInBounds_toArray, List.set_cons_zero, List.set_cons_succ]
            refine wpLast_take (i := 14) (v := ?_) rfl (by kernel_rfl) (by kernel_rfl) (by kernel_rfl) (by decide) (by kernel_rfl) (fun _ _ _ h => h) (Or.inl ⟨by rfl, ?_⟩) (by assumption) ?_
            rotate_left
            · (intro w hSw; (try dsimp only at hSw); first | (go_simp; done) | (go_simp; with_reducible rfl))
            try simp only [Act.put, List.getElem_toArray, List.getElem_cons_zero, List.getElem_cons_succ, List.setIfInBounds_toArray, List.set_cons_zero, List.set_cons_succ]
            refine wpLast_take (i := 15) (v := ?_) rfl (by kernel_rfl) (by kernel_rfl) (by kernel_rfl) (by decide) (by kernel_rfl) (fun _ _ _ h => h) (Or.inl ⟨by rfl, ?_⟩) (by assumption) ?_
            rotate_left
            · (intro w hSw; (try dsimp only at hSw); first | (go_simp; done) | (go_simp; with_reducible rfl))
            try simp only [Act.put, List.getElem_toArray, List.getElem_cons_zero, List.getElem_cons_succ, List.setIfInBounds_toArray, List.set_cons_zero, List.set_cons_succ]
            refine wpLast_one (i := 16) (by kernel_rfl) rfl (by decide) (fun K hK => ?_)
            go_simp
            refine hK.out _ _ (HS.out) (fun hHeld => ?_)
            clear hK K
            try simp only [Act.put, List.getElem_toArray, List.getElem_cons_zero, List.getElem_cons_succ, List.setIfInBounds_toArray, List.set_cons_zero, List.set_cons_succ]
            refine wpLast_end (by kernel_rfl) rfl (by kernel_rfl) (fun K hK => ?_)
            go_simp
            refine hK.out _ _ ?_
            clear hK K
            try simp only [Act.put, List.getElem_toArray, List.getElem_cons_zero, List.getElem_cons_succ, List.setIfInBounds_toArray, List.set_cons_zero, List.set_cons_succ]
            go_wp2_with fail
            go_roundw
            case rel => exact ⟨j + 1, by go_num, by omega, HEnd.out⟩
            case measure => simp [intOf]; omega
          · have j1 : decide ((j : Int) < (nn : Int)) = false := decide_eq_false (by omega)
            have HZ : Hid (Fr [] w w5 ∧ w5.ownsRow w.heap.size 3 1 (.slice p i cc) C.ws.length (D.2.map (Value.int .i64))) := by
              have hLD : L = D.2 := by
                refine List.ext_getElem (by rw [hLl, hie.out, H3.out.dl]) fun y y1 y2 => ?_
                have hyi : y < i := by rw [← hLl]; exact y1
                have hg : L.getD y 0 = depD D.2 y := by
                  by_cases hex : ∃ (k : Nat) (r : Ri), rs[k]? = some r ∧ r.at_ = y
                  · obtain ⟨k, r, h1, h2⟩ := hex
                    have := hL1 k r (by have := (List.getElem?_eq_some_iff.1 h1).1; omega) h1
                    rw [h2] at this
                    exact this
                  · have h1 := hL2 y hyi (fun k r _ hr hh => hex ⟨k, r, hr, hh⟩)
                    rw [h1]
                    by_cases hd : depD D.2 y = -1
                    · exact hd.symm
                    · exact absurd (H3.out.all y (by rw [← hie.out]; exact hyi) hd) hex
                unfold depD at hg
                rw [List.getD_eq_getElem?_getD, List.getD_eq_getElem?_getD, List.getElem?_eq_getElem y1, List.getElem?_eq_getElem y2] at hg
                simpa using hg
              rw [hLD] at ho
              have hs3 : w.heap.size ≤ w3.heap.size := F3.out.size
              refine ⟨F3.out.tr0 fr, ?_⟩
              rw [← hie.out]
              exact ⟨ho.1, ho.2.imp id (fun ⟨g, cap, cur, e1, q1, q2⟩ => ⟨g, cap, cur, e1, Nat.le_trans hs3 q1, q2⟩)⟩
            clear hst hr hv fr ho hL1 hL2
            go_wp2_with fail
            go_ret2
            exact ⟨_, rfl, HZ.out.1, fun _ => HZ.out.2, fun hh => absurd rfl hh⟩
  · have q0 : (D.1 != 0) = true := by simpa using hE
    generalize hde : D.1 = de at *
    go_enter Tryd.func15, Tryd.ntmps15
    go_wp2_with (go_at_call 20; refine HL.out.mono ?_; rintro e w3 ⟨x, v, rfl, f3, bs, pb, cb, rs, pr, cr, el, ds, pd, cd, m, c, k3, -, -⟩; have c12 : w3.cell? ⟨x, 12, none⟩ = some (.int .i64 de) := (k3.cell 12).trans (by rw [← hde]; rfl); have F3 := mkHid (HF2.out.tr0 f3); clear f3 k3)
    go_quiet (fail)
    go_wp2_with fail
    go_ret2
    exact ⟨_, rfl, F3.out.dn _, fun hh => absurd hh hE, fun _ => rfl⟩
end Go.Proofs.YtdflpoldlokijaaDoor
