import Derived.Test.YtdflpoldlokijaaDoorCRfA
namespace Go.Proofs.YtdflpoldlokijaaDoor
open Go.RowKit
set_option linter.unusedVariables false
set_option linter.unusedSimpArgs false
attribute [local go_sem ↓] Go.wp_at_zero Go.wp_at_succ
theorem readP_pre (C : Cx) : ∀ (f : Nat) (sc : List Nat) (at_ en k : Nat) (R : Rs), ∃ t, (readP C f sc at_ en k R).2.inf = R.inf ++ t := by
  intro f
  induction f with
  | zero => intro sc at_ en k R; exact ⟨[], by simp [readP]⟩
  | succ f ih =>
    intro sc at_ en k R
    unfold readP
    split
    · split
      · exact ⟨[], by simp⟩
      · split
        · split
          · obtain ⟨t, ht⟩ := ih (sc ++ [(C.w (at_ + 2)).toNat]) (instrP C sc at_ en).2.fin (instrP C sc at_ en).2.nxt (R.inf.length + 1) ⟨R.pls.set at_ ((instrP C sc at_ en).2.at k), R.inf ++ [(sc ++ [(C.w (at_ + 2)).toNat], (instrP C sc at_ en).2.fin, (instrP C sc at_ en).2.nxt)]⟩
            exact ⟨_, by rw [ht, List.append_assoc]⟩
          · obtain ⟨t, ht⟩ := ih (sc ++ [(C.w (at_ + 2)).toNat]) (instrP C sc at_ en).2.fin (instrP C sc at_ en).2.nxt (R.inf.length + 1) ⟨R.pls.set at_ ((instrP C sc at_ en).2.at k), R.inf ++ [(sc ++ [(C.w (at_ + 2)).toNat], (instrP C sc at_ en).2.fin, (instrP C sc at_ en).2.nxt)]⟩
            obtain ⟨t2, ht2⟩ := ih sc (instrP C sc at_ en).2.nxt en k (readP C f (sc ++ [(C.w (at_ + 2)).toNat]) (instrP C sc at_ en).2.fin (instrP C sc at_ en).2.nxt (R.inf.length + 1) ⟨R.pls.set at_ ((instrP C sc at_ en).2.at k), R.inf ++ [(sc ++ [(C.w (at_ + 2)).toNat], (instrP C sc at_ en).2.fin, (instrP C sc at_ en).2.nxt)]⟩).2
            exact ⟨_, by rw [ht2, ht, List.append_assoc, List.append_assoc]⟩
        · obtain ⟨t, ht⟩ := ih sc (instrP C sc at_ en).2.nxt en k ⟨R.pls.set at_ ((instrP C sc at_ en).2.at k), R.inf⟩
          exact ⟨t, ht⟩
    · exact ⟨[], by simp⟩
/-- reading a body, under way -/
def RdS (w1 : World) (B x : Nat) (F : WFx) (pb pr : Option Addr) (el k : Nat) (sc : List Nat) (fr en f : Nat) (FIN : Int × Rs) (at_ : Nat) (wr : World) : Prop :=
  Fr (rfoot x pb pr) w1 wr ∧ ((∃ g R bs' pb' cb' pr' cr', en - at_ < g ∧ g ≤ f ∧ readP F.C g sc at_ en (k + 1) R = FIN ∧ WR wr B x F bs' pb' cb' (lsR F.C R.pls at_) pr' cr' el 0 ∧ Nw w1 pb pb' ∧ Nw w1 pr pr' ∧ BOk bs' R.inf ∧ BQ bs' R.pls k at_ ∧ R.inf[k]? = some (sc, fr, en) ∧ (∀ i, at_ ≤ i → (plD R.pls i).body = 0) ∧ R.pls.length = F.C.ws.length ∧ R.inf.length + (en - at_) ≤ 100000)
    ∨ (FIN.1 ≠ 0 ∧ ∃ bs' pb' cb' rs' pr' cr', WR wr B x F bs' pb' cb' rs' pr' cr' el FIN.1 ∧ Nw w1 pb pb' ∧ Nw w1 pr pr'))
theorem rfoot_not {x gx : Nat} {V : World} {pb pb' pr pr' : Option Addr} (h : ∀ g ∈ rfoot x pb pr, g < gx) (hb : Nw V pb pb') (hr : Nw V pr pr') (hg : gx < V.heap.size) : gx ∉ rfoot x pb' pr' := fun hm => by
  rcases rfoot_sub hb hr gx hm with h1 | h1
  · have := h gx h1; omega
  · omega
/-- the first test -/
theorem instrP_bad1 (C : Cx) (sc : List Nat) (at_ en : Nat) (h : ¬(1 ≤ C.w at_ ∧ C.w at_ ≤ 28)) : (instrP C sc at_ en).1 = 110 := by
  unfold instrP
  simp only
  have hk : (shp (C.w at_)).kind = 0 := by unfold shp; rw [if_neg h]; rfl
  rw [if_pos (.inl hk)]
theorem kind_pos (o : Nat) (h1 : 1 ≤ o) (h2 : o ≤ 28) : (shp o).kind ≠ 0 := by
  rcases (show o = 1 ∨ o = 2 ∨ o = 3 ∨ o = 4 ∨ o = 5 ∨ o = 6 ∨ o = 7 ∨ o = 8 ∨ o = 9 ∨ o = 10 ∨ o = 11 ∨ o = 12 ∨ o = 13 ∨ o = 14 ∨ o = 15 ∨ o = 16 ∨ o = 17 ∨ o = 18 ∨ o = 19 ∨ o = 20 ∨ o = 21 ∨ o = 22 ∨ o = 23 ∨ o = 24 ∨ o = 25 ∨ o = 26 ∨ o = 27 ∨ o = 28 by omega) with rfl | rfl | rfl | rfl | rfl | rfl | rfl | rfl | rfl | rfl | rfl | rfl | rfl | rfl | rfl | rfl | rfl | rfl | rfl | rfl | rfl | rfl | rfl | rfl | rfl | rfl | rfl | rfl <;> decide
/-- an instruction, test by test -/
theorem instrP_eq (C : Cx) (sc : List Nat) (at_ en o : Nat) (ho : C.w at_ = (o : Int)) (h1 : 1 ≤ o) (h2 : o ≤ 28) : instrP C sc at_ en =
    if en < at_ + 1 + (shp o).opd ∨ mayP sc o = false then (110, noPl)
    else if o = 19 ∧ (en : Int) - (at_ + 1 + (shp o).opd : Nat) < C.w (at_ + 3) then (110, noPl)
    else if fitP C.b C.lits sc o (C.w (at_ + 1)) (C.w (at_ + 2)) (C.w (at_ + 3)) = false then (111, noPl)
    else (0, ⟨o, 0, if o = 17 ∨ o = 18 then (C.w (at_ + 2)).toNat else 0, at_ + 1 + (shp o).opd, if o = 19 then at_ + 1 + (shp o).opd + (C.w (at_ + 3)).toNat else at_ + 1 + (shp o).opd, 0⟩) := by
  unfold instrP
  simp only [ho, Int.toNat_natCast]
  have hk := kind_pos o h1 h2
  have e19 : ((o : Int) = 19) = (o = 19) := propext ⟨fun h => by omega, fun h => by omega⟩
  have e17 : ((o : Int) = 17 ∨ (o : Int) = 18) = (o = 17 ∨ o = 18) := propext ⟨fun h => by omega, fun h => by omega⟩
  simp only [hk, false_or, e19, e17]
set_option maxRecDepth 100000 in
set_option maxHeartbeats 16000000 in
theorem rd_step (f : Nat) (IH : ∀ g, g < f → RdC g) : RdC f := by
  intro w B x F bs pb cb pr cr el R k sc fr en h hB h4 hrg hbo hbq hk hs1 hs25 hz hpl hf hfe hen hin
  obtain ⟨FIN, hFIN⟩ : ∃ q, readP F.C f sc fr en (k + 1) R = q := ⟨_, rfl⟩
  rw [hFIN]
  obtain ⟨u, hu, ub, ue, une, usl, -, -⟩ := hbo.at_ k sc fr en hk
  obtain ⟨g0, rfl, hkl, y0, y1, y2, y3, y4⟩ := h.body k u hu
  simp only [I] at y0 y1 y3 y4
  rw [ub] at y0
  rw [ue] at y1
  have c9 : w.cell? ⟨x, 9, none⟩ = some (.slice (some ⟨g0, 0, none⟩) bs.length cb) := h.cell 9
  have k0 : (0 : Int) ≤ (k : Int) := by omega
  have k1 : (k : Int) < (bs.length : Int) := by omega
  obtain ⟨w1, hw1⟩ : ∃ V, w.alloc (.cells #[.int .i64 (fr : Int), .int .i64 (en : Int), .int .i64 u.ar, .int .i64 (u.ne : Int), .int .i64 (u.sl : Int)] 85) = V := ⟨_, rfl⟩
  have F1 : Fr [] w w1 := by rw [← hw1]; exact Fr.alloc [] w _
  have S1 : w1.heap.size = w.heap.size + 1 := by rw [← hw1]; simp
  have G1 : w1.heap[w.heap.size]? = some (.cells #[.int .i64 (fr : Int), .int .i64 (en : Int), .int .i64 u.ar, .int .i64 (u.ne : Int), .int .i64 (u.sl : Int)] 85 (0, 0)) := by rw [← hw1]; exact heap_alloc_new w _
  have b0 : w1.cell? ⟨w.heap.size, 0, none⟩ = some (.int .i64 (fr : Int)) := cell_in G1 0
  have hfl := h.footL
  have HGB : Hid (∀ V, Fr (rfoot x (some ⟨g0, 0, none⟩) pr) w1 V → V.heap[w.heap.size]? = some (.cells #[.int .i64 (fr : Int), .int .i64 (en : Int), .int .i64 u.ar, .int .i64 (u.ne : Int), .int .i64 (u.sl : Int)] 85 (0, 0))) := fun V hV => (hV.block _ (by omega) (fun hm => by have := (hfl _ hm).2; omega)).trans G1
  have HB1 : Hid (B ≤ w1.heap.size) := by show B ≤ _; omega
  have HFW : Hid (∀ V, Fr (rfoot x (some ⟨g0, 0, none⟩) pr) w1 V → Fr (rfoot x (some ⟨g0, 0, none⟩) pr) w V) := fun V hV => (F1.mono (by simp)).trans hV (fun b hb => .inl hb)
  have HST : Hid (RdS w1 B x F (some ⟨g0, 0, none⟩) pr el k sc fr en f FIN fr w1) := ⟨Fr.refl _ _, .inl ⟨f, R, bs, _, cb, pr, cr, hf, Nat.le_refl _, hFIN, h.idle F1, Nw.refl _ _, Nw.refl _ _, hbo, hbq, hk, hz, hpl, hin⟩⟩
  have HW1 : Hid (w.heap.size ≤ w1.heap.size) := F1.size
  have HW2 : Hid (w.heap.size < w1.heap.size) := by show w.heap.size < _; omega
  have HFL0 : Hid (∀ g ∈ rfoot x (some ⟨g0, 0, none⟩) pr, g < w.heap.size) := fun g hg => (hfl g hg).2
  have HI := mkHid IH
  have HRg := mkHid hrg
  have hen4 : en ≤ 4096 := by omega
  have hne25 : u.ne ≤ 25 := by omega
  clear h hbo hbq hk hu hFIN IH hrg hz hpl hf hin F1 G1 hfl usl ub ue hB
  go_enter Tryd.func37, Tryd.ntmps37
  go_wp2_with fail
  try rw [hw1]
  clear hw1
  go_loopw [5] (fun q wr => ∃ at_ : Nat, at_ ≤ en ∧ q = .int .i64 (at_ : Int) ∧ Hid (RdS w1 B x F (some ⟨g0, 0, none⟩) pr el k sc fr en f FIN at_ wr)) (fun q _ => en - (intOf q).toNat)
  case atStart => exact ⟨fr, hfe, rfl, HST⟩
  case round =>
    clear HST y0 y1 y2 y3 y4 c9 k0 k1 b0
    obtain ⟨at_, hae, rfl, hst⟩ := hrel
    obtain ⟨hF, hcs⟩ := hst.out
    have hG := HGB.out wr hF
    have b1 : wr.cell? ⟨w.heap.size, 1, none⟩ = some (.int .i64 (en : Int)) := cell_in hG 1
    have b3 : wr.cell? ⟨w.heap.size, 3, none⟩ = some (.int .i64 (u.ne : Int)) := cell_in hG 3
    have a0 : (0 : Int) ≤ (at_ : Int) := by omega
    rcases hcs with ⟨g, R, bs1, pb1, cb1, pr1, cr1, hg1, hg2, hfin, hr, nb, nr, hbo, hbq, hk, hz, hpl, hin⟩ | ⟨hne, bs1, pb1, cb1, rs1, pr1, cr1, hr, nb, nr⟩
    · have c12 : wr.cell? ⟨x, 12, none⟩ = some (.int .i64 0) := hr.cell 12
      by_cases hlt : at_ < en
      · have a1 : (at_ : Int) < (en : Int) := by omega
        obtain ⟨g', rfl⟩ : ∃ g', g = g' + 1 := ⟨g - 1, by omega⟩
        unfold readP at hfin
        rw [if_pos hlt] at hfin
        have hB1 : B ≤ wr.heap.size := Nat.le_trans HB1.out hF.size
        have hbl := hbo.len
        have HErr : Hid (∀ (V : World) (e : Int), Fr [] wr V → FIN.1 = e → e ≠ 0 → Calls Tryd.prog 53 #[.pointer (some ⟨x, 0, none⟩), .int .i64 e] V fun en' w' => en' = .returned (.tuple #[]) ∧ RdP w B x F (some ⟨g0, 0, none⟩) pr el k FIN en (.returned (.tuple #[])) w') := fun V e hV hE hn0 => (fails_ok (hr.idle hV) e).mono (by
          rintro e2 w2 ⟨rfl, f2, k2⟩
          refine ⟨rfl, rfl, ?_, bs1, pb1, cb1, _, pr1, cr1, by rw [hE]; exact k2, nb.old HW1.out, nr.old HW1.out, fun hh => absurd (hE.symm.trans hh) hn0⟩
          exact HFW.out _ (hF.trans ((hV.mono (S' := [x]) (by simp)).trans f2 (fun b hb => .inl hb)) (fun b hb => .inl (by simp at hb; rw [hb]; exact rfoot_x _ _ _))))
        obtain ⟨pw, cw, ew, hw⟩ := hr.words.at_
        obtain ⟨gw, off, e2, hgw, hwc⟩ := hw (by omega)
        have xw : wr.cell? ⟨gw, off + at_, none⟩ = some (.int .i64 (F.C.w at_)) := hwc at_ (by omega)
        injection ew with e3 _ e4
        have c4 : wr.cell? ⟨x, 4, none⟩ = some (.slice (some ⟨gw, off, none⟩) F.C.ws.length F.cw) := by rw [hr.cell 4]; show some (Value.slice F.pw F.C.ws.length F.cw) = _; rw [e3, e2]
        have aw : (at_ : Int) < (F.C.ws.length : Int) := by omega
        clear hw hwc e2 e3 e4
        have hbad : ∀ e : Int, (instrP F.C sc at_ en).1 = e → e ≠ 0 → FIN.1 = e := fun e he hn0 => by
          rw [if_pos (by rw [he]; exact hn0)] at hfin
          rw [← hfin]; exact he
        by_cases hop : 1 ≤ F.C.w at_ ∧ F.C.w at_ ≤ 28
        · obtain ⟨o, ho⟩ := Int.eq_ofNat_of_zero_le (show 0 ≤ F.C.w at_ by omega)
          have o1 : 1 ≤ o := by omega
          have o2 : o ≤ 28 := by omega
          have hieq := instrP_eq F.C sc at_ en o ho o1 o2
          rw [ho] at xw
          obtain ⟨nn, hnn⟩ : ∃ nn, 1 + (shp o).opd = nn := ⟨_, rfl⟩
          have hn4 : nn ≤ 4 := by have := (sh_le (o : Int)).2.2.2.2; omega
          have hn1 : 1 ≤ nn := by omega
          rw [show at_ + 1 + (shp o).opd = at_ + nn by omega] at hieq
          have HSz : Hid (Calls Tryd.prog 29 #[.int .i64 (o : Int)] wr fun e w' => e = .returned (.int .i64 (nn : Int)) ∧ w' = wr) := by rw [← hnn]; exact size_ok o wr o1 o2
          have hwr0 : IntKind.i64.wrap ((en : Int) - (at_ : Int)) = (en : Int) - (at_ : Int) := iwrap_id (by omega) (by omega)
          have n0 : ((nn : Int) == 0) = false := beq_eq_false_iff_ne.2 (by omega)
          by_cases hB2 : en < at_ + nn
          · have HE := mkHid (hbad 110 (by rw [hieq, if_pos (.inl hB2)]) (by decide))
            have q1 : (en : Int) - (at_ : Int) < (nn : Int) := by omega
            clear hst hr hfin hbad hieq hG hF hop hbo hbq hk hz hpl hin ho
            generalize F.C.ws.length = wl at *
            go_wp2_with (first
              | (go_at_call 29; refine HSz.out.mono ?_; rintro e w2 ⟨rfl, hw2⟩; rw [hw2]; clear hw2 w2)
              | (go_at_call 53; refine (HErr.out _ 110 (Fr.refl _ _) HE.out (by decide)).mono ?_; rintro e w3 ⟨rfl, k3⟩; have K3 := mkHid k3; clear k3))
            first | go_end0 | (refine bodyPost_ret (results_none rfl _ _ _) rfl ?_)
            exact K3.out
          · have q1 : decide ((en : Int) - (at_ : Int) < (nn : Int)) = false := decide_eq_false (by omega)
            have hmay : ∀ b, mayP sc o = b → True := fun _ _ => trivial
            simp only [hB2, false_or] at hieq
            have H1 : Hid (Calls Tryd.prog 55 #[.pointer (some ⟨x, 0, none⟩), .int .i64 ((at_ : Int) + 1)] wr fun e w' => e = .returned (.int .i64 (F.C.w (at_ + 1))) ∧ w' = wr) := rword_ok hr (at_ + 1) (by omega) h4
            have H2 : Hid (Calls Tryd.prog 55 #[.pointer (some ⟨x, 0, none⟩), .int .i64 ((at_ : Int) + 2)] wr fun e w' => e = .returned (.int .i64 (F.C.w (at_ + 2))) ∧ w' = wr) := rword_ok hr (at_ + 2) (by omega) h4
            have H3 : Hid (Calls Tryd.prog 55 #[.pointer (some ⟨x, 0, none⟩), .int .i64 ((at_ : Int) + 3)] wr fun e w' => e = .returned (.int .i64 (F.C.w (at_ + 3))) ∧ w' = wr) := rword_ok hr (at_ + 3) (by omega) h4
            have hwr1 : IntKind.i64.wrap ((at_ : Int) + 1) = (at_ : Int) + 1 := iwrap_id (by omega) (by omega)
            have hwr2 : IntKind.i64.wrap ((at_ : Int) + 2) = (at_ : Int) + 2 := iwrap_id (by omega) (by omega)
            have hwr3 : IntKind.i64.wrap ((at_ : Int) + 3) = (at_ : Int) + 3 := iwrap_id (by omega) (by omega)
            have hwrn : IntKind.i64.wrap ((at_ : Int) + (nn : Int)) = (at_ : Int) + (nn : Int) := iwrap_id (by omega) (by omega)
            have hwre : IntKind.i64.wrap ((en : Int) - ((at_ : Int) + (nn : Int))) = (en : Int) - ((at_ : Int) + (nn : Int)) := iwrap_id (by omega) (by omega)
            obtain ⟨V1, hV1⟩ : ∃ V, wr.alloc (.cells #[.int .i64 (at_ : Int), .int .i64 (nn : Int), .int .i64 (o : Int), .int .i64 (k : Int), .int .i64 0, .int .i64 (-1), .int .i64 (F.C.w (at_ + 1)), .int .i64 (F.C.w (at_ + 2)), .int .i64 (F.C.w (at_ + 3))] 78) = V := ⟨_, rfl⟩
            have FV1 : Fr [] wr V1 := by rw [← hV1]; exact Fr.alloc [] wr _
            have GV1 := heap_alloc_new wr (.cells #[.int .i64 (at_ : Int), .int .i64 (nn : Int), .int .i64 (o : Int), .int .i64 (k : Int), .int .i64 0, .int .i64 (-1), .int .i64 (F.C.w (at_ + 1)), .int .i64 (F.C.w (at_ + 2)), .int .i64 (F.C.w (at_ + 3))] 78)
            rw [hV1] at GV1
            have v14 : V1.cell? ⟨wr.heap.size, 4, none⟩ = some (.int .i64 0) := cell_in GV1 4
            have z14 := frozen_in GV1 4
            obtain ⟨V2, hV2⟩ : ∃ V, V1.setCell ⟨wr.heap.size, 4, none⟩ (.int .i64 ((at_ : Int) + (nn : Int))) = V := ⟨_, rfl⟩
            have FV2 : Fr [] wr V2 := by rw [← hV2]; exact FV1.st (Nat.le_refl _) 4 _
            have GV2 := set_in GV1 4 (.int .i64 ((at_ : Int) + (nn : Int)))
            rw [hV2] at GV2
            have GV2 : V2.heap[wr.heap.size]? = some (.cells #[.int .i64 (at_ : Int), .int .i64 (nn : Int), .int .i64 (o : Int), .int .i64 (k : Int), .int .i64 ((at_ : Int) + (nn : Int)), .int .i64 (-1), .int .i64 (F.C.w (at_ + 1)), .int .i64 (F.C.w (at_ + 2)), .int .i64 (F.C.w (at_ + 3))] 78 (0, 0)) := GV2
            have SV2 : V2.heap.size = wr.heap.size + 1 := by rw [← hV2, ← hV1]; simp
            have v0 : V2.cell? ⟨wr.heap.size, 0, none⟩ = some (.int .i64 (at_ : Int)) := cell_in GV2 0
            have v1 : V2.cell? ⟨wr.heap.size, 1, none⟩ = some (.int .i64 (nn : Int)) := cell_in GV2 1
            have v2 : V2.cell? ⟨wr.heap.size, 2, none⟩ = some (.int .i64 (o : Int)) := cell_in GV2 2
            have v3 : V2.cell? ⟨wr.heap.size, 3, none⟩ = some (.int .i64 (k : Int)) := cell_in GV2 3
            have v4 : V2.cell? ⟨wr.heap.size, 4, none⟩ = some (.int .i64 ((at_ : Int) + (nn : Int))) := cell_in GV2 4
            have v5 : V2.cell? ⟨wr.heap.size, 5, none⟩ = some (.int .i64 (-1)) := cell_in GV2 5
            have v6 : V2.cell? ⟨wr.heap.size, 6, none⟩ = some (.int .i64 (F.C.w (at_ + 1))) := cell_in GV2 6
            have v7 : V2.cell? ⟨wr.heap.size, 7, none⟩ = some (.int .i64 (F.C.w (at_ + 2))) := cell_in GV2 7
            have v8 : V2.cell? ⟨wr.heap.size, 8, none⟩ = some (.int .i64 (F.C.w (at_ + 3))) := cell_in GV2 8
            have b1v : V2.cell? ⟨w.heap.size, 1, none⟩ = some (.int .i64 (en : Int)) := FV2.cl b1
            have b3v : V2.cell? ⟨w.heap.size, 3, none⟩ = some (.int .i64 (u.ne : Int)) := FV2.cl b3
            have HFV2 := mkHid FV2
            have HOp : Hid (Calls Tryd.prog 56 #[.pointer (some ⟨x, 0, none⟩), .agg #[.int .i64 (at_ : Int), .int .i64 (nn : Int), .int .i64 (o : Int), .int .i64 (k : Int), .int .i64 ((at_ : Int) + (nn : Int)), .int .i64 (-1), .int .i64 (F.C.w (at_ + 1)), .int .i64 (F.C.w (at_ + 2)), .int .i64 (F.C.w (at_ + 3))]] V2 fun e w' => e = .returned (.bool (fitP F.C.b F.C.lits sc o (F.C.w (at_ + 1)) (F.C.w (at_ + 2)) (F.C.w (at_ + 3)))) ∧ Fr [] V2 w') := operands_ok (hr.idle FV2) hbo k sc fr en hk hs1 hs25 (by omega) o o1 o2 _ _ _ _ _ _ _ (HRg.out _)
            -- what comes behind operands
            have HLoc : Hid (∀ V, Fr [] V2 V → V.heap[wr.heap.size]? = some (.cells #[.int .i64 (at_ : Int), .int .i64 (nn : Int), .int .i64 (o : Int), .int .i64 (k : Int), .int .i64 ((at_ : Int) + (nn : Int)), .int .i64 (-1), .int .i64 (F.C.w (at_ + 1)), .int .i64 (F.C.w (at_ + 2)), .int .i64 (F.C.w (at_ + 3))] 78 (0, 0)) ∧ WR V B x F bs1 pb1 cb1 (lsR F.C R.pls at_) pr1 cr1 el 0 ∧ V.heap[w.heap.size]? = some (.cells #[.int .i64 (fr : Int), .int .i64 (en : Int), .int .i64 u.ar, .int .i64 (u.ne : Int), .int .i64 (u.sl : Int)] 85 (0, 0)) ∧ Fr [] wr V ∧ wr.heap.size < V.heap.size) := fun V hV => ⟨hV.hb GV2, hr.idle (FV2.tr0 hV), hV.hb (FV2.hb hG), FV2.tr0 hV, by have := hV.size; omega⟩
            have HNB := mkHid nb
            have HNR := mkHid nr
            have HFo := mkHid hr.footL
            have HBO := mkHid hbo
            have HBQ := mkHid hbq
            have HKk := mkHid hk
            have HZ := mkHid hz
            have HPL := mkHid hpl
            have HFF := mkHid hF
            have HFi := mkHid hfin
            have HBd := mkHid hbad
            have HIe := mkHid hieq
            have HWR := mkHid hr
            have hrl : (lsR F.C R.pls at_).length ≤ 4096 := by rw [lsR_len]; have := stK_len_le R.pls at_; omega
            have HHG := mkHid hG
            have HHo := mkHid ho
            clear hst hr nb nr hbo hbq hk hz hpl hF hfin hbad hieq hop GV1 GV2 FV1 FV2 hmay hG ho
            generalize hwl : F.C.ws.length = wl at *
            generalize hW1 : F.C.w (at_ + 1) = A1 at *
            generalize hW2 : F.C.w (at_ + 2) = A2 at *
            generalize hW3 : F.C.w (at_ + 3) = A3 at *
            have hopI : ∀ n : Nat, ((o : Int) == (n : Int)) = decide (o = n) := fun n => by
              by_cases e : o = n
              · rw [e]; simp
              · rw [decide_eq_false e]; exact beq_eq_false_iff_ne.2 (by omega)
            have h19 : ((o : Int) == 19) = decide (o = 19) := hopI 19
            have h20 : ((o : Int) == 20) = decide (o = 20) := hopI 20
            have h21 : ((o : Int) == 21) = decide (o = 21) := hopI 21
            have h22 : ((o : Int) == 22) = decide (o = 22) := hopI 22
            clear hopI
            have hmayV : mayP sc o = if o = 20 then decide (sc.length = 1) else if o = 21 ∨ o = 22 then decide (1 < sc.length) else true := rfl
            by_cases b19 : o = 19
            · rw [decide_eq_true b19] at h19
              have hmy : mayP sc o = true := by rw [hmayV, if_neg (by omega), if_neg (by omega)]
              rw [decide_eq_false (by omega : ¬ o = 20)] at h20
              rw [decide_eq_false (by omega : ¬ o = 21)] at h21
              rw [decide_eq_false (by omega : ¬ o = 22)] at h22
              replace b19 := mkHid b19
              by_cases hC : (en : Int) - ((at_ + nn : Nat) : Int) < A3
              · have d1 : (0 : Int) < A3 := by omega
                have d2 : (en : Int) - ((at_ : Int) + (nn : Int)) < A3 := by omega
                have HE := mkHid (HBd.out 110 (by rw [HIe.out]; rw [if_neg (by rw [hmy]; decide), if_pos ⟨b19.out, hC⟩]) (by decide))
                clear HBd HIe HFi hmayV
                go_wp2_with (first
                  | (go_at_call 29; refine HSz.out.mono ?_; rintro e w2 ⟨rfl, hw2⟩; rw [hw2]; clear hw2 w2)
                  | (go_at_call 55; refine H1.out.mono ?_; rintro e w2 ⟨rfl, hw2⟩; rw [hw2]; clear hw2 w2 H1)
                  | (go_at_call 55; refine H2.out.mono ?_; rintro e w2 ⟨rfl, hw2⟩; rw [hw2]; clear hw2 w2 H2)
                  | (go_at_call 55; refine H3.out.mono ?_; rintro e w2 ⟨rfl, hw2⟩; rw [hw2]; clear hw2 w2 H3)
                  | (go_at_call 53; refine (HErr.out _ 110 (by first | exact HFV2.out | exact HFV.out) HE.out (by decide)).mono ?_; rintro e w3 ⟨rfl, k3⟩; have K3 := mkHid k3; clear k3))
                first | go_end0 | (refine bodyPost_ret (results_none rfl _ _ _) rfl ?_)
                exact K3.out
              · have d2 : decide ((en : Int) - ((at_ : Int) + (nn : Int)) < A3) = false := decide_eq_false (by omega)
                cases hft : fitP F.C.b F.C.lits sc o A1 A2 A3
                · rw [hft] at HOp
                  by_cases d1 : (0 : Int) < A3
                  · skip
                    have HE := mkHid (HBd.out 111 (by rw [HIe.out]; rw [if_neg (by rw [hmy]; decide), if_neg (fun hh => hC hh.2), if_pos hft]) (by decide))
                    clear HBd HIe HFi hmayV
                    go_wp2_with (first
                      | (go_at_call 29; refine HSz.out.mono ?_; rintro e w2 ⟨rfl, hw2⟩; rw [hw2]; clear hw2 w2)
                      | (go_at_call 55; refine H1.out.mono ?_; rintro e w2 ⟨rfl, hw2⟩; rw [hw2]; clear hw2 w2 H1)
                      | (go_at_call 55; refine H2.out.mono ?_; rintro e w2 ⟨rfl, hw2⟩; rw [hw2]; clear hw2 w2 H2)
                      | (go_at_call 55; refine H3.out.mono ?_; rintro e w2 ⟨rfl, hw2⟩; rw [hw2]; clear hw2 w2 H3)
                      | (go_at_call 56; refine HOp.out.mono ?_; rintro e V3 ⟨rfl, f3⟩; obtain ⟨gx, r3, gb, fw, sx⟩ := HLoc.out V3 f3; have HFV := mkHid fw; have HR3 := mkHid r3; have HGX := mkHid gx; have HGb := mkHid gb; have x0 := cell_in gx 0; have x1 := cell_in gx 1; have x2 := cell_in gx 2; have x3 := cell_in gx 3; have x4 := cell_in gx 4; have x5 := cell_in gx 5; have x6 := cell_in gx 6; have x7 := cell_in gx 7; have x8 := cell_in gx 8; have zx4 := frozen_in gx 4; clear f3 r3 gb fw HOp HLoc gx)
                      | (go_at_call 53; refine (HErr.out _ 111 (by first | exact HFV2.out | exact HFV.out) HE.out (by decide)).mono ?_; rintro e w3 ⟨rfl, k3⟩; have K3 := mkHid k3; clear k3))
                    first | go_end0 | (refine bodyPost_ret (results_none rfl _ _ _) rfl ?_)
                    exact K3.out
                  · replace d1 : decide ((0 : Int) < A3) = false := decide_eq_false d1
                    have HE := mkHid (HBd.out 111 (by rw [HIe.out]; rw [if_neg (by rw [hmy]; decide), if_neg (fun hh => hC hh.2), if_pos hft]) (by decide))
                    clear HBd HIe HFi hmayV
                    go_wp2_with (first
                      | (go_at_call 29; refine HSz.out.mono ?_; rintro e w2 ⟨rfl, hw2⟩; rw [hw2]; clear hw2 w2)
                      | (go_at_call 55; refine H1.out.mono ?_; rintro e w2 ⟨rfl, hw2⟩; rw [hw2]; clear hw2 w2 H1)
                      | (go_at_call 55; refine H2.out.mono ?_; rintro e w2 ⟨rfl, hw2⟩; rw [hw2]; clear hw2 w2 H2)
                      | (go_at_call 55; refine H3.out.mono ?_; rintro e w2 ⟨rfl, hw2⟩; rw [hw2]; clear hw2 w2 H3)
                      | (go_at_call 56; refine HOp.out.mono ?_; rintro e V3 ⟨rfl, f3⟩; obtain ⟨gx, r3, gb, fw, sx⟩ := HLoc.out V3 f3; have HFV := mkHid fw; have HR3 := mkHid r3; have HGX := mkHid gx; have HGb := mkHid gb; have x0 := cell_in gx 0; have x1 := cell_in gx 1; have x2 := cell_in gx 2; have x3 := cell_in gx 3; have x4 := cell_in gx 4; have x5 := cell_in gx 5; have x6 := cell_in gx 6; have x7 := cell_in gx 7; have x8 := cell_in gx 8; have zx4 := frozen_in gx 4; clear f3 r3 gb fw HOp HLoc gx)
                      | (go_at_call 53; refine (HErr.out _ 111 (by first | exact HFV2.out | exact HFV.out) HE.out (by decide)).mono ?_; rintro e w3 ⟨rfl, k3⟩; have K3 := mkHid k3; clear k3))
                    first | go_end0 | (refine bodyPost_ret (results_none rfl _ _ _) rfl ?_)
                    exact K3.out
                · rw [hft] at HOp
                  obtain ⟨s1, s2, s3, s4⟩ := fit19_facts (by rw [← b19.out]; exact hft)
                  obtain ⟨sl, rfl⟩ := Int.eq_ofNat_of_zero_le s1
                  obtain ⟨m, rfl⟩ := Int.eq_ofNat_of_zero_le (show 0 ≤ A3 by omega)
                  have hm0 : 0 < m := by omega
                  have hme : at_ + nn + m ≤ en := by omega
                  have hwrg : IntKind.i64.wrap ((at_ : Int) + (nn : Int) + (m : Int)) = (at_ : Int) + (nn : Int) + (m : Int) := iwrap_id (by omega) (by omega)
                  have HPp : Hid (instrP F.C sc at_ en = (0, ⟨o, 0, if o = 17 ∨ o = 18 then sl else 0, at_ + nn, at_ + nn + m, 0⟩)) := by
                    show _ = _
                    rw [HIe.out, if_neg (by rw [hmy]; decide), if_neg (fun hh => hC hh.2), if_neg (by rw [hft]; decide)]
                    simp [b19.out]
                  have HFi2 := HFi.out
                  rw [HPp.out] at HFi2
                  rw [if_neg (by simp), if_pos b19.out] at HFi2
                  simp only [Int.toNat_natCast] at HFi2
                  replace HFi2 := mkHid HFi2
                  have HFt := mkHid hft
                  have d1 : (0 : Int) < (m : Int) := by omega
                  clear HBd HIe HFi HPp hft hmayV
                  go_wp2_with (first
                    | (go_at_call 29; refine HSz.out.mono ?_; rintro e w2 ⟨rfl, hw2⟩; rw [hw2]; clear hw2 w2)
                    | (go_at_call 55; refine H1.out.mono ?_; rintro e w2 ⟨rfl, hw2⟩; rw [hw2]; clear hw2 w2 H1)
                    | (go_at_call 55; refine H2.out.mono ?_; rintro e w2 ⟨rfl, hw2⟩; rw [hw2]; clear hw2 w2 H2)
                    | (go_at_call 55; refine H3.out.mono ?_; rintro e w2 ⟨rfl, hw2⟩; rw [hw2]; clear hw2 w2 H3)
                    | (go_at_call 56; refine HOp.out.mono ?_; rintro e V3 ⟨rfl, f3⟩; obtain ⟨gx, r3, gb, fw, sx⟩ := HLoc.out V3 f3; have HFV := mkHid fw; have HR3 := mkHid r3; have HGX := mkHid gx; have HGb := mkHid gb; have x0 := cell_in gx 0; have x1 := cell_in gx 1; have x2 := cell_in gx 2; have x3 := cell_in gx 3; have x4 := cell_in gx 4; have x5 := cell_in gx 5; have x6 := cell_in gx 6; have x7 := cell_in gx 7; have x8 := cell_in gx 8; have zx4 := frozen_in gx 4; clear f3 r3 gb fw HOp HLoc gx))
                  obtain ⟨V4, hV4⟩ : ∃ V, V3.setCell ⟨wr.heap.size, 4, none⟩ (.int .i64 ((at_ : Int) + (nn : Int) + (m : Int))) = V := ⟨_, rfl⟩
                  try rw [hV4]
                  have F4 : Fr [] wr V4 := by rw [← hV4]; exact HFV.out.st (Nat.le_refl _) 4 _
                  have G4 := set_in HGX.out 4 (.int .i64 ((at_ : Int) + (nn : Int) + (m : Int)))
                  rw [hV4] at G4
                  have G4 : V4.heap[wr.heap.size]? = some (.cells #[.int .i64 (at_ : Int), .int .i64 (nn : Int), .int .i64 (o : Int), .int .i64 (k : Int), .int .i64 ((at_ : Int) + (nn : Int) + (m : Int)), .int .i64 (-1), .int .i64 A1, .int .i64 (sl : Int), .int .i64 (m : Int)] 78 (0, 0)) := G4
                  have S4 : wr.heap.size < V4.heap.size := lt_of_heap G4
                  have R4 := HWR.out.idle F4
                  have B4 := F4.hb HHG.out
                  have y0 := cell_in G4 0
                  have y1 := cell_in G4 1
                  have y2 := cell_in G4 2
                  have y3 := cell_in G4 3
                  have y4 := cell_in G4 4
                  have y5 := cell_in G4 5
                  have y6 := cell_in G4 6
                  have y7 := cell_in G4 7
                  have y8 := cell_in G4 8
                  have hlx4 : x < V4.heap.size := lt_of_heap R4.top
                  have c10 : V4.cell? ⟨x, 10, none⟩ = some (.slice pr1 (lsR F.C R.pls at_).length cr1) := R4.cell 10
                  obtain ⟨p', c', w5, hr5, hk5, hf5, t10, z10, hn5⟩ := (R4.dr 1).moreIns (Nat.le_trans hB1 F4.size) ⟨at_, nn, o, k, at_ + nn + m, -1, A1, sl, m⟩ (by omega)
                  have er : (ric ⟨at_, nn, o, k, at_ + nn + m, -1, A1, sl, m⟩).toArray = #[.int .i64 (at_ : Int), .int .i64 (nn : Int), .int .i64 (o : Int), .int .i64 (k : Int), .int .i64 ((at_ : Int) + (nn : Int) + (m : Int)), .int .i64 (-1), .int .i64 A1, .int .i64 (sl : Int), .int .i64 (m : Int)] := by simp only [ric, I]; push_cast; rfl
                  rw [er] at hr5
                  have HR5 := mkHid hr5
                  have hfr : ∀ g ∈ rfoot x pb1 pr1, g < wr.heap.size := fun g hg => (HFo.out g hg).2
                  have hmo := lsR_more F.C R.pls at_ (at_ + nn) (Pl.at ⟨o, 0, if o = 17 ∨ o = 18 then sl else 0, at_ + nn, at_ + nn + m, 0⟩ (k + 1)) (by rw [HPL.out]; omega) (by omega) HZ.out (by simp [Pl.at])
                  have hri : riOf F.C (Pl.at ⟨o, 0, if o = 17 ∨ o = 18 then sl else 0, at_ + nn, at_ + nn + m, 0⟩ (k + 1)) at_ = ⟨at_, nn, o, k, at_ + nn + m, -1, A1, sl, m⟩ := by
                    unfold riOf Pl.at
                    simp only [hW1, hW2, hW3]
                    congr 1 <;> omega
                  rw [hri] at hmo
                  have hgne : wr.heap.size ∉ rfoot x pb1 pr1 := fun hm => by have := hfr _ hm; omega
                  have hbne : w.heap.size ∉ rfoot x pb1 pr1 := rfoot_not (V := w1) (fun g hg => HFL0.out g hg) HNB.out HNR.out HW2.out
                  have hf5' : Fr (rfoot x pb1 pr1) V4 (w5.setCell ⟨x, 10, none⟩ (.slice p' ((lsR F.C R.pls at_).length + 1) c')) := ((Fr.drewN _ V4 1).trans (hf5.mono (S' := rfoot x pb1 pr1) (fun b hb => .inl (by
                    rcases List.mem_cons.1 hb with h1 | h1
                    · rw [h1]; exact rfoot_x _ _ _
                    · exact rfoot_r h1))) (fun b hb => .inl hb))
                  have HEnd5 : Hid (WR (w5.setCell ⟨x, 10, none⟩ (.slice p' ((lsR F.C R.pls at_).length + 1) c')) B x F bs1 pb1 cb1 (lsR F.C (R.pls.set at_ (Pl.at ⟨o, 0, if o = 17 ∨ o = 18 then sl else 0, at_ + nn, at_ + nn + m, 0⟩ (k + 1))) (at_ + nn)) p' c' el 0 ∧ Fr (rfoot x pb1 pr1) V4 (w5.setCell ⟨x, 10, none⟩ (.slice p' ((lsR F.C R.pls at_).length + 1) c'))) := ⟨by rw [hmo.1]; exact hk5, hf5'⟩
                  have HN5 : Hid (Nw V4 pr1 p') := hn5
                  have HZ1 := mkHid hmo.2
                  have HB4 := mkHid B4
                  have HG4 := mkHid G4
                  have HF4 := mkHid F4
                  generalize hgl : (lsR F.C R.pls at_).length = ll at *
                  clear hr5 hk5 hf5 er hn5 hmo hri R4 B4 G4 F4 hV4 hf5' HFV HR3 HGX HGb x0 x1 x2 x3 x4 x5 x6 x7 x8 zx4
                  go_cut [] (fun W => Hid (WR W B x F bs1 pb1 cb1 (lsR F.C (R.pls.set at_ (Pl.at ⟨o, 0, if o = 17 ∨ o = 18 then sl else 0, at_ + nn, at_ + nn + m, 0⟩ (k + 1))) (at_ + nn)) p' c' el 0 ∧ Fr (rfoot x pb1 pr1) V4 W))
                  case first =>
                    go_region_law (refine step_append_run rfl (.tmp 133) (.tmp 135) 60 60 rfl (.slice pr1 ll cr1) (.slice (some ⟨V4.heap.size, 0, none⟩) 1 1) (by simp [Act.eval]) (by simp [Act.eval]) _ _ HR5.out ?_)
                    all_goals go_wp2_with fail
                    all_goals
                      go_meet
                      case rel => exact HEnd5.out
                  case rest =>
                    rename World => wk
                    clear HEnd5 HR5 t10 z10 c10 y0 y1 y2 y3 y4 y5 y6 y7 y8
                    obtain ⟨kc, fc⟩ := hcut.out
                    have gC := (fc.block _ S4 hgne).trans HG4.out
                    have bC := (fc.block _ (lt_of_heap HB4.out) hbne).trans HB4.out
                    have y4 := cell_in gC 4
                    have y7 := cell_in gC 7
                    have b3c := cell_in bC 3
                    have hlxc : x < wk.heap.size := lt_of_heap kc.top
                    have hlgc : wr.heap.size < wk.heap.size := lt_of_heap gC
                    have hlbc : w.heap.size < wk.heap.size := lt_of_heap bC
                    have c9 : wk.cell? ⟨x, 9, none⟩ = some (.slice pb1 bs1.length cb1) := kc.cell 9
                    have hBc : B ≤ wk.heap.size := Nat.le_trans hB1 (Nat.le_trans HF4.out.size fc.size)
                    obtain ⟨p2, c2, w6, hr6, hk6, hf6, t9, z9, hn6⟩ := (kc.dr 1).moreBd hBc ⟨at_ + nn, at_ + nn + m, (k : Int), u.ne + 1, sl⟩ (by omega)
                    have eb : (bdc ⟨at_ + nn, at_ + nn + m, (k : Int), u.ne + 1, sl⟩).toArray = #[.int .i64 ((at_ : Int) + (nn : Int)), .int .i64 ((at_ : Int) + (nn : Int) + (m : Int)), .int .i64 (k : Int), .int .i64 ((u.ne : Int) + 1), .int .i64 (sl : Int)] := by simp only [bdc, I]; push_cast; rfl
                    rw [eb] at hr6
                    have HR6 := mkHid hr6
                    have hwru : IntKind.i64.wrap ((u.ne : Int) + 1) = (u.ne : Int) + 1 := iwrap_id (by omega) (by omega)
                    have hf6' : Fr (rfoot x pb1 p') wk (w6.setCell ⟨x, 9, none⟩ (.slice p2 (bs1.length + 1) c2)) := ((Fr.drewN _ wk 1).trans (hf6.mono (S' := rfoot x pb1 p') (fun b hb => .inl (by
                      rcases List.mem_cons.1 hb with h1 | h1
                      · rw [h1]; exact rfoot_x _ _ _
                      · exact rfoot_b h1))) (fun b hb => .inl hb))
                    have HEnd6 : Hid (WR (w6.setCell ⟨x, 9, none⟩ (.slice p2 (bs1.length + 1) c2)) B x F (bs1 ++ [⟨at_ + nn, at_ + nn + m, (k : Int), u.ne + 1, sl⟩]) p2 c2 (lsR F.C (R.pls.set at_ (Pl.at ⟨o, 0, if o = 17 ∨ o = 18 then sl else 0, at_ + nn, at_ + nn + m, 0⟩ (k + 1))) (at_ + nn)) p' c' el 0 ∧ Fr (rfoot x pb1 p') wk (w6.setCell ⟨x, 9, none⟩ (.slice p2 (bs1.length + 1) c2))) := ⟨hk6, hf6'⟩
                    have HN6 : Hid (Nw wk pb1 p2) := hn6
                    have hgxx : wr.heap.size ≠ x := fun e => hgne (by rw [e]; exact rfoot_x _ _ _)
                    have hbxx : w.heap.size ≠ x := fun e => hbne (by rw [e]; exact rfoot_x _ _ _)
                    have hgxb : wr.heap.size ∉ x :: blk pb1 := fun hm => hgne ((List.mem_cons.1 hm).elim (fun h1 => by rw [h1]; exact rfoot_x _ _ _) rfoot_b)
                    have hbxb : w.heap.size ∉ x :: blk pb1 := fun hm => hbne ((List.mem_cons.1 hm).elim (fun h1 => by rw [h1]; exact rfoot_x _ _ _) rfoot_b)
                    have gE := (hf6.block _ (lt_of_heap (w := wk) gC) hgxb).trans gC
                    have bE := (hf6.block _ (lt_of_heap (w := wk) bC) hbxb).trans bC
                    have gF := (Below.heap_setCell w6 ⟨x, 9, none⟩ (.slice p2 (bs1.length + 1) c2) _ hgxx).symm.trans gE
                    have bF := (Below.heap_setCell w6 ⟨x, 9, none⟩ (.slice p2 (bs1.length + 1) c2) _ hbxx).symm.trans bE
                    have HKp1 : Hid (wk.drew.cell? ⟨x, 9, none⟩ = some (.slice pb1 bs1.length cb1) ∧ wk.drew.cell? ⟨wr.heap.size, 4, none⟩ = some (.int .i64 ((at_ : Int) + (nn : Int) + (m : Int))) ∧ wk.drew.cell? ⟨wr.heap.size, 7, none⟩ = some (.int .i64 (sl : Int)) ∧ wk.drew.cell? ⟨w.heap.size, 3, none⟩ = some (.int .i64 (u.ne : Int))) := ⟨c9, cell_in (w := wk.drew) gC 4, cell_in (w := wk.drew) gC 7, cell_in (w := wk.drew) bC 3⟩
                    have HKp2 : Hid ((wk.drew.alloc (.cells #[.int .i64 ((at_ : Int) + (nn : Int)), .int .i64 ((at_ : Int) + (nn : Int) + (m : Int)), .int .i64 (k : Int), .int .i64 ((u.ne : Int) + 1), .int .i64 (sl : Int)] 85)).cell? ⟨x, 9, none⟩ = some (.slice pb1 bs1.length cb1) ∧ (wk.drew.alloc (.cells #[.int .i64 ((at_ : Int) + (nn : Int)), .int .i64 ((at_ : Int) + (nn : Int) + (m : Int)), .int .i64 (k : Int), .int .i64 ((u.ne : Int) + 1), .int .i64 (sl : Int)] 85)).cell? ⟨wr.heap.size, 4, none⟩ = some (.int .i64 ((at_ : Int) + (nn : Int) + (m : Int))) ∧ (wk.drew.alloc (.cells #[.int .i64 ((at_ : Int) + (nn : Int)), .int .i64 ((at_ : Int) + (nn : Int) + (m : Int)), .int .i64 (k : Int), .int .i64 ((u.ne : Int) + 1), .int .i64 (sl : Int)] 85)).cell? ⟨wr.heap.size, 7, none⟩ = some (.int .i64 (sl : Int)) ∧ (wk.drew.alloc (.cells #[.int .i64 ((at_ : Int) + (nn : Int)), .int .i64 ((at_ : Int) + (nn : Int) + (m : Int)), .int .i64 (k : Int), .int .i64 ((u.ne : Int) + 1), .int .i64 (sl : Int)] 85)).cell? ⟨w.heap.size, 3, none⟩ = some (.int .i64 (u.ne : Int))) := ⟨cell_in (al_old (w := wk.drew) kc.top _) 9, cell_in (al_old (w := wk.drew) gC _) 4, cell_in (al_old (w := wk.drew) gC _) 7, cell_in (al_old (w := wk.drew) bC _) 3⟩
                    have HKp3 : Hid (w6.cell? ⟨x, 9, none⟩ = some (.slice pb1 bs1.length cb1) ∧ w6.cell? ⟨wr.heap.size, 4, none⟩ = some (.int .i64 ((at_ : Int) + (nn : Int) + (m : Int))) ∧ w6.cell? ⟨wr.heap.size, 7, none⟩ = some (.int .i64 (sl : Int)) ∧ w6.cell? ⟨w.heap.size, 3, none⟩ = some (.int .i64 (u.ne : Int))) := ⟨t9, cell_in gF 4, cell_in gF 7, cell_in bF 3⟩
                    have HFc := mkHid fc
                    have HBl := mkHid hbl
                    have HgC := mkHid gC
                    clear hbl hcut kc fc hr6 hk6 hf6 eb hn6 hf6' bC gC gE bE gF bF hgxb hbxb
                    generalize hgb : bs1.length = nb at *
                    go_wp2_with fail
                    go_cut [] (fun W => Hid (WR W B x F (bs1 ++ [⟨at_ + nn, at_ + nn + m, (k : Int), u.ne + 1, sl⟩]) p2 c2 (lsR F.C (R.pls.set at_ (Pl.at ⟨o, 0, if o = 17 ∨ o = 18 then sl else 0, at_ + nn, at_ + nn + m, 0⟩ (k + 1))) (at_ + nn)) p' c' el 0 ∧ Fr (rfoot x pb1 p') wk W))
                    case first =>
                      refine wp_region_last (L := 19) (S := (fun U => U.cell? ⟨x, 9, none⟩ = some (.slice pb1 nb cb1) ∧ U.cell? ⟨wr.heap.size, 4, none⟩ = some (.int .i64 ((at_ : Int) + (nn : Int) + (m : Int))) ∧ U.cell? ⟨wr.heap.size, 7, none⟩ = some (.int .i64 (sl : Int)) ∧ U.cell? ⟨w.heap.size, 3, none⟩ = some (.int .i64 (u.ne : Int)))) (by kernel_rfl) (HKp1.out) (fun hHeld => ?_)
                      refine wpLast_take (i := 0) (v := ?_) rfl (by kernel_rfl) (by kernel_rfl) (by kernel_rfl) (by decide) (by kernel_rfl) (fun _ _ _ h => h) (Or.inl ⟨by rfl, ?_⟩) (by assumption) ?_
                      rotate_left
                      · (intro w hSw; (try dsimp only at hSw); first | (go_simp; done) | (go_simp; with_reducible rfl))
                      try simp only [Act.put, List.getElem_toArray, List.getElem_cons_zero, List.getElem_cons_succ, List.setIfInBounds_toArray, List.set_cons_zero, List.set_cons_succ]
                      refine wpLast_take (i := 1) (v := ?_) rfl (by kernel_rfl) (by kernel_rfl) (by kernel_rfl) (by decide) (by kernel_rfl) (fun _ _ _ h => h) (Or.inl ⟨by rfl, ?_⟩) (by assumption) ?_
                      rotate_left
                      · (intro w hSw; (try dsimp only at hSw); first | (go_simp; done) | (go_simp; with_reducible rfl))
                      try simp only [Act.put, List.getElem_toArray, List.getElem_cons_zero, List.getElem_cons_succ, List.setIfInBounds_toArray, List.set_cons_zero, List.set_cons_succ]
                      refine wpLast_take (i := 2) (v := ?_) rfl (by kernel_rfl) (by kernel_rfl) (by kernel_rfl) (by decide) (by kernel_rfl) (fun _ _ _ h => h) (Or.inl ⟨by rfl, ?_⟩) (by assumption) ?_
                      rotate_left
                      · (intro w hSw; (try dsimp only at hSw); first | (go_simp; done) | (go_simp; with_reducible rfl))
                      try simp only [Act.put, List.getElem_toArray, List.getElem_cons_zero, List.getElem_cons_succ, List.setIfInBounds_toArray, List.set_cons_zero, List.set_cons_succ]
                      refine wpLast_take (i := 3) (v := ?_) rfl (by kernel_rfl) (by kernel_rfl) (by kernel_rfl) (by decide) (by kernel_rfl) (fun _ _ _ h => h) (Or.inl ⟨by rfl, ?_⟩) (by assumption) ?_
                      rotate_left
                      · (intro w hSw; (try dsimp only at hSw); first | (go_simp; done) | (go_simp; with_reducible rfl))
                      try simp only [Act.put, List.getElem_toArray, List.getElem_cons_zero, List.getElem_cons_succ, List.setIfInBounds_toArray, List.set_cons_zero, List.set_cons_succ]
                      refine wpLast_take (i := 4) (v := ?_) rfl (by kernel_rfl) (by kernel_rfl) (by kernel_rfl) (by decide) (by kernel_rfl) (fun _ _ _ h => h) (Or.inl ⟨by rfl, ?_⟩) (by assumption) ?_
                      rotate_left
                      · (intro w hSw; (try dsimp only at hSw); first | (go_simp; done) | (go_simp; with_reducible rfl))
                      try simp only [Act.put, List.getElem_toArray, List.getElem_cons_zero, List.getElem_cons_succ, List.setIfInBounds_toArray, List.set_cons_zero, List.set_cons_succ]
                      refine wpLast_take (i := 5) (v := ?_) rfl (by kernel_rfl) (by kernel_rfl) (by kernel_rfl) (by decide) (by kernel_rfl) (fun _ _ _ h => h) (Or.inl ⟨by rfl, ?_⟩) (by assumption) ?_
                      rotate_left
                      · (intro w hSw; (try dsimp only at hSw); first | (go_simp; done) | (go_simp; with_reducible rfl))
                      try simp only [Act.put, List.getElem_toArray, List.getElem_cons_zero, List.getElem_cons_succ, List.setIfInBounds_toArray, List.set_cons_zero, List.set_cons_succ]
                      refine wpLast_take (i := 6) (v := ?_) rfl (by kernel_rfl) (by kernel_rfl) (by kernel_rfl) (by decide) (by kernel_rfl) (fun _ _ _ h => h) (Or.inl ⟨by rfl, ?_⟩) (by assumption) ?_
                      rotate_left
                      · (intro w hSw; (try dsimp only at hSw); first | (go_simp; done) | (go_simp; with_reducible rfl))
                      try simp only [Act.put, List.getElem_toArray, List.getElem_cons_zero, List.getElem_cons_succ, List.setIfInBounds_toArray, List.set_cons_zero, List.set_cons_succ]
                      refine wpLast_take (i := 7) (v := ?_) rfl (by kernel_rfl) (by kernel_rfl) (by kernel_rfl) (by decide) (by kernel_rfl) (fun _ _ _ h => h) (Or.inl ⟨by rfl, ?_⟩) (by assumption) ?_
                      rotate_left
                      · (intro w hSw; (try dsimp only at hSw); first | (go_simp; done) | (go_simp; with_reducible rfl))
                      try simp only [Act.put, List.getElem_toArray, List.getElem_cons_zero, List.getElem_cons_succ, List.setIfInBounds_toArray, List.set_cons_zero, List.set_cons_succ]
                      refine wpLast_take (i := 8) (v := ?_) rfl (by kernel_rfl) (by kernel_rfl) (by kernel_rfl) (by decide) (by kernel_rfl) (fun _ _ _ h => h) (Or.inl ⟨by rfl, ?_⟩) (by assumption) ?_
                      rotate_left
                      · (intro w hSw; (try dsimp only at hSw); first | (go_simp; done) | (go_simp; with_reducible rfl))
                      try simp only [Act.put, List.getElem_toArray, List.getElem_cons_zero, List.getElem_cons_succ, List.setIfInBounds_toArray, List.set_cons_zero, List.set_cons_succ]
                      refine wpLast_take (i := 9) (v := ?_) rfl (by kernel_rfl) (by kernel_rfl) (by kernel_rfl) (by decide) (by kernel_rfl) (fun _ _ _ h => h) (Or.inl ⟨by rfl, ?_⟩) (by assumption) ?_
                      rotate_left
                      · (intro w hSw; (try dsimp only at hSw); first | (go_simp; done) | (go_simp; with_reducible rfl))
                      try simp only [Act.put, List.getElem_toArray, List.getElem_cons_zero, List.getElem_cons_succ, List.setIfInBounds_toArray, List.set_cons_zero, List.set_cons_succ]
                      refine wpLast_take (i := 10) (v := ?_) rfl (by kernel_rfl) (by kernel_rfl) (by kernel_rfl) (by decide) (by kernel_rfl) (fun _ _ _ h => h) (Or.inl ⟨by rfl, ?_⟩) (by assumption) ?_
                      rotate_left
                      · (intro w hSw; (try dsimp only at hSw); first | (go_simp; done) | (go_simp; with_reducible rfl))
                      try simp only [Act.put, List.getElem_toArray, List.getElem_cons_zero, List.getElem_cons_succ, List.setIfInBounds_toArray, List.set_cons_zero, List.set_cons_succ]
                      refine wpLast_take (i := 11) (v := ?_) rfl (by kernel_rfl) (by kernel_rfl) (by kernel_rfl) (by decide) (by kernel_rfl) (fun _ _ _ h => h) (Or.inl ⟨by rfl, ?_⟩) (by assumption) ?_
                      rotate_left
                      · (intro w hSw; (try dsimp only at hSw); first | (go_simp; done) | (go_simp; with_reducible rfl))
                      try simp only [Act.put, List.getElem_toArray, List.getElem_cons_zero, List.getElem_cons_succ, List.setIfInBounds_toArray, List.set_cons_zero, List.set_cons_succ]
                      refine wpLast_take (i := 12) (v := ?_) rfl (by kernel_rfl) (by kernel_rfl) (by kernel_rfl) (by decide) (by kernel_rfl) (fun _ _ _ h => h) (Or.inl ⟨by rfl, ?_⟩) (by assumption) ?_
                      rotate_left
                      · (intro w hSw; (try dsimp only at hSw); first | (go_simp; done) | (go_simp; with_reducible rfl))
                      try simp only [Act.put, List.getElem_toArray, List.getElem_cons_zero, List.getElem_cons_succ, List.setIfInBounds_toArray, List.set_cons_zero, List.set_cons_succ]
                      refine wpLast_take (i := 13) (v := ?_) rfl (by kernel_rfl) (by kernel_rfl) (by kernel_rfl) (by decide) (by kernel_rfl) (fun _ _ _ h => h) (Or.inl ⟨by rfl, ?_⟩) (by assumption) ?_
                      rotate_left
                      · (intro w hSw; (try dsimp only at hSw); first | (go_simp; done) | (go_simp; with_reducible rfl))
                      try simp only [Act.put, List.getElem_toArray, List.getElem_cons_zero, List.getElem_cons_succ, List.setIfInBounds_toArray, List.set_cons_zero, List.set_cons_succ]
                      refine wpLast_take (i := 14) (v := ?_) rfl (by kernel_rfl) (by kernel_rfl) (by kernel_rfl) (by decide) (by kernel_rfl) (fun _ _ _ h => h) (Or.inl ⟨by rfl, ?_⟩) (by assumption) ?_
                      rotate_left
                      · (intro w hSw; (try dsimp only at hSw); first | (go_simp; done) | (go_simp; with_reducible rfl))
                      try simp only [Act.put, List.getElem_toArray, List.getElem_cons_zero, List.getElem_cons_succ, List.setIfInBounds_toArray, List.set_cons_zero, List.set_cons_succ]
                      refine wpLast_one (i := 15) (by kernel_rfl) rfl (by decide) (fun K hK => ?_)
                      go_simp
                      refine hK.out _ _ (HKp2.out) (fun hHeld => ?_)
                      clear hK K
                      try simp only [Act.put, List.getElem_toArray, List.getElem_cons_zero, List.getElem_cons_succ, List.setIfInBounds_toArray, List.set_cons_zero, List.set_cons_succ]
                      refine wpLast_one (i := 16) (by kernel_rfl) rfl (by decide) (fun K hK => ?_)
                      refine step_append_run rfl (.tmp 145) (.tmp 156) 59 59 rfl (.slice pb1 nb cb1) (.slice (some ⟨wk.heap.size, 0, none⟩) 1 1) (by simp [Act.eval]) (by simp [Act.eval]) _ _ HR6.out ?_
                      refine hK.out _ _ (HKp3.out) (fun hHeld => ?_)
                      clear hK K
                      try simp only [Act.put, List.getElem_toArray, List.getElem_cons_zero, List.getElem_cons_succ, List.setIfInBounds_toArray, List.set_cons_zero, List.set_cons_succ]
                      refine wpLast_one (i := 17) (by kernel_rfl) rfl (by decide) (fun K hK => ?_)
                      go_simp
                      refine hK.out _ _ (HKp3.out) (fun hHeld => ?_)
                      clear hK K
                      try simp only [Act.put, List.getElem_toArray, List.getElem_cons_zero, List.getElem_cons_succ, List.setIfInBounds_toArray, List.set_cons_zero, List.set_cons_succ]
                      refine wpLast_one (i := 18) (by kernel_rfl) rfl (by decide) (fun K hK => ?_)
                      go_simp
                      refine hK.out _ _ (HKp3.out) (fun hHeld => ?_)
                      clear hK K
                      try simp only [Act.put, List.getElem_toArray, List.getElem_cons_zero, List.getElem_cons_succ, List.setIfInBounds_toArray, List.set_cons_zero, List.set_cons_succ]
                      refine wpLast_end (by kernel_rfl) rfl (by kernel_rfl) (fun K hK => ?_)
                      go_simp
                      refine hK.out _ _ ?_
                      clear hK K
                      try simp only [Act.put, List.getElem_toArray, List.getElem_cons_zero, List.getElem_cons_succ, List.setIfInBounds_toArray, List.set_cons_zero, List.set_cons_succ]
                      go_wp2_with fail
                      go_meet
                      case rel => exact HEnd6.out
                    case rest =>
                      rename World => wd
                      have hbl := HBl.out
                      have hcut2 := hcut
                      clear hcut
                      clear HEnd6 HR6 t9 z9 c9 y4 y7 b3c
                      obtain ⟨kd, fd⟩ := hcut2.out
                      have hsz4 : V4.heap.size ≤ wk.heap.size := HFc.out.size
                      have hgn2 : wr.heap.size ∉ rfoot x pb1 p' := rfoot_not (V := V4) hfr (Nw.refl _ _) HN5.out S4
                      have gD := (fd.block _ (lt_of_heap HgC.out) hgn2).trans HgC.out
                      have hBd : B ≤ wd.heap.size := Nat.le_trans hBc fd.size
                      have hl9 : (bs1 ++ [(⟨at_ + nn, at_ + nn + m, (k : Int), u.ne + 1, sl⟩ : Bd)]).length = nb + 1 := by simp [hgb]
                      have c9 : wd.cell? ⟨x, 9, none⟩ = some (.slice p2 (nb + 1) c2) := by rw [← hl9]; exact kd.cell 9
                      obtain ⟨ub0, hub0, -, -, hube, -, -, -⟩ := HBO.out.at_ k sc fr en HKk.out
                      have HRead := HI.out g' (by omega) wd B x F _ p2 c2 p' c' el ⟨R.pls.set at_ (Pl.at ⟨o, 0, if o = 17 ∨ o = 18 then sl else 0, at_ + nn, at_ + nn + m, 0⟩ (k + 1)), R.inf ++ [(sc ++ [sl], at_ + nn, at_ + nn + m)]⟩ nb (sc ++ [sl]) (at_ + nn) (at_ + nn + m) kd hBd (by rw [hwl]; exact h4) HRg.out
                        (by
                          have := HBO.out.more k sc fr en HKk.out hs1 ub0 hub0 hube (at_ + nn) (at_ + nn + m) sl
                          rw [show ub0.ne = u.ne by omega] at this
                          exact this)
                        (by
                          have := HBQ.out.block (at_ + nn) (Pl.at ⟨o, 0, if o = 17 ∨ o = 18 then sl else 0, at_ + nn, at_ + nn + m, 0⟩ (k + 1)) (by rw [HPL.out]; omega) (by omega) HZ.out rfl rfl ⟨at_ + nn, at_ + nn + m, (k : Int), u.ne + 1, sl⟩ rfl rfl
                          rw [hgb] at this
                          exact this)
                        (by rw [hbl, List.getElem?_append_right (Nat.le_refl _), Nat.sub_self]; rfl) (by simp) (by simp; omega) HZ1.out (by rw [List.length_set]; rw [HPL.out, hwl]) (by omega) (by omega) (by rw [hwl]; omega) (by simp; omega)
                      obtain ⟨⟨ZE, ZR⟩, hZ⟩ : ∃ Z, readP F.C g' (sc ++ [sl]) (at_ + nn) (at_ + nn + m) (nb + 1) ⟨R.pls.set at_ (Pl.at ⟨o, 0, if o = 17 ∨ o = 18 then sl else 0, at_ + nn, at_ + nn + m, 0⟩ (k + 1)), R.inf ++ [(sc ++ [sl], at_ + nn, at_ + nn + m)]⟩ = Z := ⟨_, rfl⟩
                      have hpre := readP_pre F.C g' (sc ++ [sl]) (at_ + nn) (at_ + nn + m) (nb + 1) ⟨R.pls.set at_ (Pl.at ⟨o, 0, if o = 17 ∨ o = 18 then sl else 0, at_ + nn, at_ + nn + m, 0⟩ (k + 1)), R.inf ++ [(sc ++ [sl], at_ + nn, at_ + nn + m)]⟩
                      have hinf := readP_inf F.C g' (sc ++ [sl]) (at_ + nn) (at_ + nn + m) (nb + 1) ⟨R.pls.set at_ (Pl.at ⟨o, 0, if o = 17 ∨ o = 18 then sl else 0, at_ + nn, at_ + nn + m, 0⟩ (k + 1)), R.inf ++ [(sc ++ [sl], at_ + nn, at_ + nn + m)]⟩
                      have hlen := readP_len F.C g' (sc ++ [sl]) (at_ + nn) (at_ + nn + m) (nb + 1) ⟨R.pls.set at_ (Pl.at ⟨o, 0, if o = 17 ∨ o = 18 then sl else 0, at_ + nn, at_ + nn + m, 0⟩ (k + 1)), R.inf ++ [(sc ++ [sl], at_ + nn, at_ + nn + m)]⟩
                      have hFi3 := HFi2.out
                      rw [← hbl] at hFi3
                      rw [hZ] at HRead hpre hinf hlen hFi3
                      simp only [List.length_append, List.length_singleton, List.length_set] at hinf hlen
                      simp only at hpre hFi3
                      have hgn3 : wr.heap.size ∉ rfoot x p2 p' := rfoot_not (V := V4) hfr (HN6.out.old hsz4) HN5.out S4
                      have hsd : wr.heap.size < wd.heap.size := lt_of_heap gD
                      have HAft : Hid (∀ w7, RdP wd B x F p2 p' el nb (ZE, ZR) (at_ + nn + m) (.returned (.tuple #[])) w7 → w7.cell? ⟨wr.heap.size, 4, none⟩ = some (.int .i64 ((at_ : Int) + (nn : Int) + (m : Int))) ∧ RdS w1 B x F (some ⟨g0, 0, none⟩) pr el k sc fr en f FIN (at_ + nn + m) w7) := fun w7 ⟨_, f7, bs7, pb7, cb7, rs7, pr7, cr7, k7, n7b, n7r, h7⟩ => by
                        have hs1w : w1.heap.size ≤ V4.heap.size := Nat.le_trans HFF.out.size HF4.out.size
                        have hsdw : w1.heap.size ≤ wd.heap.size := Nat.le_trans hs1w (Nat.le_trans hsz4 fd.size)
                        have nbA : Nw w1 (some ⟨g0, 0, none⟩) p2 := HNB.out.trans HN6.out (Nat.le_trans hs1w hsz4)
                        have nrA : Nw w1 pr p' := HNR.out.trans HN5.out hs1w
                        have nbB := nbA.trans n7b hsdw
                        have nrB := nrA.trans n7r hsdw
                        have FA : Fr (rfoot x (some ⟨g0, 0, none⟩) pr) w1 w7 := (((HFF.out.trans HF4.out (by simp)).trans HFc.out (rfoot_sub HNB.out HNR.out)).trans fd (rfoot_sub HNB.out nrA)).trans f7 (rfoot_sub nbA nrA)
                        refine ⟨by rw [cell_in ((f7.block _ hsd hgn3).trans gD)]; rfl, FA, ?_⟩
                        by_cases hE : ZE = 0
                        · subst hE
                          rw [if_neg (by simp)] at hFi3
                          obtain ⟨q1, q2, q3, q4⟩ := h7 rfl
                          obtain ⟨t, ht⟩ := hpre
                          subst q2
                          refine .inl ⟨g', ZR, bs7, pb7, cb7, pr7, cr7, by omega, by omega, hFi3, k7, nbB, nrB, q1, q4.back k (fun u7 hu7 => ?_), ?_, q3, by rw [hlen, HPL.out, hwl], by omega⟩
                          · have hin7 : ZR.inf[nb]? = some (sc ++ [sl], at_ + nn, at_ + nn + m) := by
                              rw [ht, hbl, List.append_assoc, List.getElem?_append_right (Nat.le_refl _), Nat.sub_self]
                              rfl
                            obtain ⟨u8, h81, h82, -⟩ := q1.at_ nb _ _ _ hin7
                            rw [hu7] at h81
                            rw [Option.some.inj h81, h82]
                            omega
                          · have hkl : k < R.inf.length := (List.getElem?_eq_some_iff.1 HKk.out).1
                            rw [ht, List.append_assoc, List.getElem?_append_left hkl]
                            exact HKk.out
                        · rw [if_pos hE] at hFi3
                          rw [← hFi3]
                          exact .inr ⟨hE, bs7, pb7, cb7, rs7, pr7, cr7, k7, nbB, nrB⟩
                      have HRd := mkHid HRead
                      have hnb : (nb : Int) ≤ 100000 := by omega
                      have hwb1 : IntKind.i64.wrap (nb : Int) = (nb : Int) := iwrap_id (by omega) (by omega)
                      have hwb2 : IntKind.i64.wrap ((nb : Int) + 1 - 1) = (nb : Int) := iwrap_id (by omega) (by omega) |>.trans (by omega)
                      clear hbl hcut2 kd fd gD HRead hpre hinf hlen hFi3 hZ HFi2
                      go_wp2_with (go_at_call 37; refine HRd.out.mono ?_; rintro e w7 h7; have he := h7.1; subst he; obtain ⟨y4, h8⟩ := HAft.out w7 h7; have H8 := mkHid h8; clear h8 h7)
                      go_roundw
                      case rel => exact ⟨at_ + nn + m, hme, by push_cast; rfl, H8.out⟩
                      case measure => simp [intOf]; omega
            rw [decide_eq_false b19] at h19
            by_cases b20 : o = 20
            · rw [decide_eq_true b20] at h20
              rw [decide_eq_false (by omega : ¬ o = 21)] at h21
              rw [decide_eq_false (by omega : ¬ o = 22)] at h22
              by_cases hC : 0 < u.ne
              · have d1 : (0 : Int) < (u.ne : Int) := by omega
                have hmf : mayP sc o = false := by rw [hmayV, if_pos b20]; exact decide_eq_false (by omega)
                replace b20 := mkHid b20
                have HE := mkHid (HBd.out 110 (by rw [HIe.out]; rw [if_pos hmf]) (by decide))
                clear HBd HIe HFi hmayV
                go_wp2_with (first
                  | (go_at_call 29; refine HSz.out.mono ?_; rintro e w2 ⟨rfl, hw2⟩; rw [hw2]; clear hw2 w2)
                  | (go_at_call 55; refine H1.out.mono ?_; rintro e w2 ⟨rfl, hw2⟩; rw [hw2]; clear hw2 w2 H1)
                  | (go_at_call 55; refine H2.out.mono ?_; rintro e w2 ⟨rfl, hw2⟩; rw [hw2]; clear hw2 w2 H2)
                  | (go_at_call 55; refine H3.out.mono ?_; rintro e w2 ⟨rfl, hw2⟩; rw [hw2]; clear hw2 w2 H3)
                  | (go_at_call 53; refine (HErr.out _ 110 (by first | exact HFV2.out | exact HFV.out) HE.out (by decide)).mono ?_; rintro e w3 ⟨rfl, k3⟩; have K3 := mkHid k3; clear k3))
                first | go_end0 | (refine bodyPost_ret (results_none rfl _ _ _) rfl ?_)
                exact K3.out
              have d1 : decide ((0 : Int) < (u.ne : Int)) = false := decide_eq_false (by omega)
              have hmy : mayP sc o = true := by rw [hmayV, if_pos b20]; exact decide_eq_true (by omega)
              replace b20 := mkHid b20
              cases hft : fitP F.C.b F.C.lits sc o A1 A2 A3
              · rw [hft] at HOp
                have HE := mkHid (HBd.out 111 (by rw [HIe.out]; rw [if_neg (by rw [hmy]; decide), if_neg (fun hh => b19 hh.1), if_pos hft]) (by decide))
                clear HBd HIe HFi hmayV
                go_wp2_with (first
                  | (go_at_call 29; refine HSz.out.mono ?_; rintro e w2 ⟨rfl, hw2⟩; rw [hw2]; clear hw2 w2)
                  | (go_at_call 55; refine H1.out.mono ?_; rintro e w2 ⟨rfl, hw2⟩; rw [hw2]; clear hw2 w2 H1)
                  | (go_at_call 55; refine H2.out.mono ?_; rintro e w2 ⟨rfl, hw2⟩; rw [hw2]; clear hw2 w2 H2)
                  | (go_at_call 55; refine H3.out.mono ?_; rintro e w2 ⟨rfl, hw2⟩; rw [hw2]; clear hw2 w2 H3)
                  | (go_at_call 56; refine HOp.out.mono ?_; rintro e V3 ⟨rfl, f3⟩; obtain ⟨gx, r3, gb, fw, sx⟩ := HLoc.out V3 f3; have HFV := mkHid fw; have HR3 := mkHid r3; have HGX := mkHid gx; have HGb := mkHid gb; have x0 := cell_in gx 0; have x1 := cell_in gx 1; have x2 := cell_in gx 2; have x3 := cell_in gx 3; have x4 := cell_in gx 4; have x5 := cell_in gx 5; have x6 := cell_in gx 6; have x7 := cell_in gx 7; have x8 := cell_in gx 8; have zx4 := frozen_in gx 4; clear f3 r3 gb fw HOp HLoc gx)
                  | (go_at_call 53; refine (HErr.out _ 111 (by first | exact HFV2.out | exact HFV.out) HE.out (by decide)).mono ?_; rintro e w3 ⟨rfl, k3⟩; have K3 := mkHid k3; clear k3))
                first | go_end0 | (refine bodyPost_ret (results_none rfl _ _ _) rfl ?_)
                exact K3.out
              · rw [hft] at HOp
                have HPp : Hid (instrP F.C sc at_ en = (0, ⟨o, 0, if o = 17 ∨ o = 18 then A2.toNat else 0, at_ + nn, at_ + nn, 0⟩)) := by
                  show _ = _
                  rw [HIe.out, if_neg (by rw [hmy]; decide), if_neg (fun hh => by omega), if_neg (by rw [hft]; decide)]
                  simp [b19]
                have HFi2 := HFi.out
                rw [HPp.out] at HFi2
                rw [if_neg (by simp), if_neg b19] at HFi2
                simp only at HFi2
                replace HFi2 := mkHid HFi2
                clear HBd HIe HFi HPp
                go_wp2_with (first
                  | (go_at_call 29; refine HSz.out.mono ?_; rintro e w2 ⟨rfl, hw2⟩; rw [hw2]; clear hw2 w2)
                  | (go_at_call 55; refine H1.out.mono ?_; rintro e w2 ⟨rfl, hw2⟩; rw [hw2]; clear hw2 w2 H1)
                  | (go_at_call 55; refine H2.out.mono ?_; rintro e w2 ⟨rfl, hw2⟩; rw [hw2]; clear hw2 w2 H2)
                  | (go_at_call 55; refine H3.out.mono ?_; rintro e w2 ⟨rfl, hw2⟩; rw [hw2]; clear hw2 w2 H3)
                  | (go_at_call 56; refine HOp.out.mono ?_; rintro e V3 ⟨rfl, f3⟩; obtain ⟨gx, r3, gb, fw, sx⟩ := HLoc.out V3 f3; have HFV := mkHid fw; have HR3 := mkHid r3; have HGX := mkHid gx; have HGb := mkHid gb; have x0 := cell_in gx 0; have x1 := cell_in gx 1; have x2 := cell_in gx 2; have x3 := cell_in gx 3; have x4 := cell_in gx 4; have x5 := cell_in gx 5; have x6 := cell_in gx 6; have x7 := cell_in gx 7; have x8 := cell_in gx 8; have zx4 := frozen_in gx 4; clear f3 r3 gb fw HOp HLoc gx))
                obtain ⟨p', c', w4, hr4, hk4, hf4, t10, z10, hn4⟩ := (HR3.out.dr 1).moreIns (Nat.le_trans hB1 HFV.out.size) ⟨at_, nn, o, k, at_ + nn, -1, A1, A2, A3⟩ (by omega)
                have er : (ric ⟨at_, nn, o, k, at_ + nn, -1, A1, A2, A3⟩).toArray = #[.int .i64 (at_ : Int), .int .i64 (nn : Int), .int .i64 (o : Int), .int .i64 (k : Int), .int .i64 ((at_ : Int) + (nn : Int)), .int .i64 (-1), .int .i64 A1, .int .i64 A2, .int .i64 A3] := by simp only [ric, I]; push_cast; rfl
                rw [er] at hr4
                have HR4 := mkHid hr4
                have hlx : x < V3.heap.size := lt_of_heap HR3.out.top
                have c10 : V3.cell? ⟨x, 10, none⟩ = some (.slice pr1 (lsR F.C R.pls at_).length cr1) := HR3.out.cell 10
                have HEnd : Hid (RdS w1 B x F (some ⟨g0, 0, none⟩) pr el k sc fr en f FIN (at_ + nn) (w4.setCell ⟨x, 10, none⟩ (.slice p' ((lsR F.C R.pls at_).length + 1) c'))) := by
                  have hmo := lsR_more F.C R.pls at_ (at_ + nn) (Pl.at ⟨o, 0, if o = 17 ∨ o = 18 then A2.toNat else 0, at_ + nn, at_ + nn, 0⟩ (k + 1)) (by rw [HPL.out]; omega) (by omega) HZ.out (by simp [Pl.at])
                  have hri : riOf F.C (Pl.at ⟨o, 0, if o = 17 ∨ o = 18 then A2.toNat else 0, at_ + nn, at_ + nn, 0⟩ (k + 1)) at_ = ⟨at_, nn, o, k, at_ + nn, -1, A1, A2, A3⟩ := by
                    unfold riOf Pl.at
                    simp only [hW1, hW2, hW3]
                    congr 1 <;> omega
                  rw [hri] at hmo
                  have hFn := HFF.out.trans (((HFV.out.tr0 (Fr.drewN [] V3 1)).mono (S' := rfoot x pb1 pr1) (by simp)).trans (hf4.mono (S' := rfoot x pb1 pr1) (fun b hb => .inl (by
                    rcases List.mem_cons.1 hb with h1 | h1
                    · rw [h1]; exact rfoot_x _ _ _
                    · exact rfoot_r h1))) (fun b hb => .inl hb)) (rfoot_sub HNB.out HNR.out)
                  exact ⟨hFn, .inl ⟨g', _, bs1, pb1, cb1, p', c', by omega, by omega, HFi2.out, by rw [hmo.1]; exact hk4, HNB.out, HNR.out.trans hn4 (Nat.le_trans HFF.out.size HFV.out.size), HBO.out, HBQ.out.step _ _ (by rw [HPL.out]; omega) (by omega) HZ.out rfl b19, HKk.out, hmo.2, by rw [List.length_set, HPL.out, hwl], by show R.inf.length + _ ≤ _; omega⟩⟩
                generalize hgl : (lsR F.C R.pls at_).length = ll at *
                clear hr4 hk4 hf4 er hn4
                go_region_law (refine step_append_run rfl (.tmp 133) (.tmp 135) 60 60 rfl (.slice pr1 ll cr1) (.slice (some ⟨V3.heap.size, 0, none⟩) 1 1) (by simp [Act.eval]) (by simp [Act.eval]) _ _ HR4.out ?_)
                all_goals go_wp2_with fail
                all_goals
                  go_roundw
                  case rel => exact ⟨at_ + nn, by omega, by push_cast; rfl, HEnd.out⟩
                  case measure => simp [intOf]; omega
            rw [decide_eq_false b20] at h20
            by_cases b21 : o = 21
            · rw [decide_eq_true b21] at h21
              rw [decide_eq_false (by omega : ¬ o = 22)] at h22
              by_cases hC : u.ne = 0
              · have d1 : ((u.ne : Int) == 0) = true := beq_iff_eq.2 (by omega)
                have hnz : sc.length = 1 := by omega
                replace hC := mkHid hC
                have hmf : mayP sc o = false := by rw [hmayV, if_neg (by omega), if_pos (by omega)]; exact decide_eq_false (by omega)
                replace b21 := mkHid b21
                have HE := mkHid (HBd.out 110 (by rw [HIe.out]; rw [if_pos hmf]) (by decide))
                clear HBd HIe HFi hmayV
                go_wp2_with (first
                  | (go_at_call 29; refine HSz.out.mono ?_; rintro e w2 ⟨rfl, hw2⟩; rw [hw2]; clear hw2 w2)
                  | (go_at_call 55; refine H1.out.mono ?_; rintro e w2 ⟨rfl, hw2⟩; rw [hw2]; clear hw2 w2 H1)
                  | (go_at_call 55; refine H2.out.mono ?_; rintro e w2 ⟨rfl, hw2⟩; rw [hw2]; clear hw2 w2 H2)
                  | (go_at_call 55; refine H3.out.mono ?_; rintro e w2 ⟨rfl, hw2⟩; rw [hw2]; clear hw2 w2 H3)
                  | (go_at_call 53; refine (HErr.out _ 110 (by first | exact HFV2.out | exact HFV.out) HE.out (by decide)).mono ?_; rintro e w3 ⟨rfl, k3⟩; have K3 := mkHid k3; clear k3))
                first | go_end0 | (refine bodyPost_ret (results_none rfl _ _ _) rfl ?_)
                exact K3.out
              have d1 : ((u.ne : Int) == 0) = false := beq_eq_false_iff_ne.2 (by omega)
              have hmy : mayP sc o = true := by rw [hmayV, if_neg (by omega), if_pos (by omega)]; exact decide_eq_true (by omega)
              replace b21 := mkHid b21
              cases hft : fitP F.C.b F.C.lits sc o A1 A2 A3
              · rw [hft] at HOp
                have HE := mkHid (HBd.out 111 (by rw [HIe.out]; rw [if_neg (by rw [hmy]; decide), if_neg (fun hh => b19 hh.1), if_pos hft]) (by decide))
                clear HBd HIe HFi hmayV
                go_wp2_with (first
                  | (go_at_call 29; refine HSz.out.mono ?_; rintro e w2 ⟨rfl, hw2⟩; rw [hw2]; clear hw2 w2)
                  | (go_at_call 55; refine H1.out.mono ?_; rintro e w2 ⟨rfl, hw2⟩; rw [hw2]; clear hw2 w2 H1)
                  | (go_at_call 55; refine H2.out.mono ?_; rintro e w2 ⟨rfl, hw2⟩; rw [hw2]; clear hw2 w2 H2)
                  | (go_at_call 55; refine H3.out.mono ?_; rintro e w2 ⟨rfl, hw2⟩; rw [hw2]; clear hw2 w2 H3)
                  | (go_at_call 56; refine HOp.out.mono ?_; rintro e V3 ⟨rfl, f3⟩; obtain ⟨gx, r3, gb, fw, sx⟩ := HLoc.out V3 f3; have HFV := mkHid fw; have HR3 := mkHid r3; have HGX := mkHid gx; have HGb := mkHid gb; have x0 := cell_in gx 0; have x1 := cell_in gx 1; have x2 := cell_in gx 2; have x3 := cell_in gx 3; have x4 := cell_in gx 4; have x5 := cell_in gx 5; have x6 := cell_in gx 6; have x7 := cell_in gx 7; have x8 := cell_in gx 8; have zx4 := frozen_in gx 4; clear f3 r3 gb fw HOp HLoc gx)
                  | (go_at_call 53; refine (HErr.out _ 111 (by first | exact HFV2.out | exact HFV.out) HE.out (by decide)).mono ?_; rintro e w3 ⟨rfl, k3⟩; have K3 := mkHid k3; clear k3))
                first | go_end0 | (refine bodyPost_ret (results_none rfl _ _ _) rfl ?_)
                exact K3.out
              · rw [hft] at HOp
                have HPp : Hid (instrP F.C sc at_ en = (0, ⟨o, 0, if o = 17 ∨ o = 18 then A2.toNat else 0, at_ + nn, at_ + nn, 0⟩)) := by
                  show _ = _
                  rw [HIe.out, if_neg (by rw [hmy]; decide), if_neg (fun hh => by omega), if_neg (by rw [hft]; decide)]
                  simp [b19]
                have HFi2 := HFi.out
                rw [HPp.out] at HFi2
                rw [if_neg (by simp), if_neg b19] at HFi2
                simp only at HFi2
                replace HFi2 := mkHid HFi2
                clear HBd HIe HFi HPp
                go_wp2_with (first
                  | (go_at_call 29; refine HSz.out.mono ?_; rintro e w2 ⟨rfl, hw2⟩; rw [hw2]; clear hw2 w2)
                  | (go_at_call 55; refine H1.out.mono ?_; rintro e w2 ⟨rfl, hw2⟩; rw [hw2]; clear hw2 w2 H1)
                  | (go_at_call 55; refine H2.out.mono ?_; rintro e w2 ⟨rfl, hw2⟩; rw [hw2]; clear hw2 w2 H2)
                  | (go_at_call 55; refine H3.out.mono ?_; rintro e w2 ⟨rfl, hw2⟩; rw [hw2]; clear hw2 w2 H3)
                  | (go_at_call 56; refine HOp.out.mono ?_; rintro e V3 ⟨rfl, f3⟩; obtain ⟨gx, r3, gb, fw, sx⟩ := HLoc.out V3 f3; have HFV := mkHid fw; have HR3 := mkHid r3; have HGX := mkHid gx; have HGb := mkHid gb; have x0 := cell_in gx 0; have x1 := cell_in gx 1; have x2 := cell_in gx 2; have x3 := cell_in gx 3; have x4 := cell_in gx 4; have x5 := cell_in gx 5; have x6 := cell_in gx 6; have x7 := cell_in gx 7; have x8 := cell_in gx 8; have zx4 := frozen_in gx 4; clear f3 r3 gb fw HOp HLoc gx))
                obtain ⟨p', c', w4, hr4, hk4, hf4, t10, z10, hn4⟩ := (HR3.out.dr 1).moreIns (Nat.le_trans hB1 HFV.out.size) ⟨at_, nn, o, k, at_ + nn, -1, A1, A2, A3⟩ (by omega)
                have er : (ric ⟨at_, nn, o, k, at_ + nn, -1, A1, A2, A3⟩).toArray = #[.int .i64 (at_ : Int), .int .i64 (nn : Int), .int .i64 (o : Int), .int .i64 (k : Int), .int .i64 ((at_ : Int) + (nn : Int)), .int .i64 (-1), .int .i64 A1, .int .i64 A2, .int .i64 A3] := by simp only [ric, I]; push_cast; rfl
                rw [er] at hr4
                have HR4 := mkHid hr4
                have hlx : x < V3.heap.size := lt_of_heap HR3.out.top
                have c10 : V3.cell? ⟨x, 10, none⟩ = some (.slice pr1 (lsR F.C R.pls at_).length cr1) := HR3.out.cell 10
                have HEnd : Hid (RdS w1 B x F (some ⟨g0, 0, none⟩) pr el k sc fr en f FIN (at_ + nn) (w4.setCell ⟨x, 10, none⟩ (.slice p' ((lsR F.C R.pls at_).length + 1) c'))) := by
                  have hmo := lsR_more F.C R.pls at_ (at_ + nn) (Pl.at ⟨o, 0, if o = 17 ∨ o = 18 then A2.toNat else 0, at_ + nn, at_ + nn, 0⟩ (k + 1)) (by rw [HPL.out]; omega) (by omega) HZ.out (by simp [Pl.at])
                  have hri : riOf F.C (Pl.at ⟨o, 0, if o = 17 ∨ o = 18 then A2.toNat else 0, at_ + nn, at_ + nn, 0⟩ (k + 1)) at_ = ⟨at_, nn, o, k, at_ + nn, -1, A1, A2, A3⟩ := by
                    unfold riOf Pl.at
                    simp only [hW1, hW2, hW3]
                    congr 1 <;> omega
                  rw [hri] at hmo
                  have hFn := HFF.out.trans (((HFV.out.tr0 (Fr.drewN [] V3 1)).mono (S' := rfoot x pb1 pr1) (by simp)).trans (hf4.mono (S' := rfoot x pb1 pr1) (fun b hb => .inl (by
                    rcases List.mem_cons.1 hb with h1 | h1
                    · rw [h1]; exact rfoot_x _ _ _
                    · exact rfoot_r h1))) (fun b hb => .inl hb)) (rfoot_sub HNB.out HNR.out)
                  exact ⟨hFn, .inl ⟨g', _, bs1, pb1, cb1, p', c', by omega, by omega, HFi2.out, by rw [hmo.1]; exact hk4, HNB.out, HNR.out.trans hn4 (Nat.le_trans HFF.out.size HFV.out.size), HBO.out, HBQ.out.step _ _ (by rw [HPL.out]; omega) (by omega) HZ.out rfl b19, HKk.out, hmo.2, by rw [List.length_set, HPL.out, hwl], by show R.inf.length + _ ≤ _; omega⟩⟩
                generalize hgl : (lsR F.C R.pls at_).length = ll at *
                clear hr4 hk4 hf4 er hn4
                go_region_law (refine step_append_run rfl (.tmp 133) (.tmp 135) 60 60 rfl (.slice pr1 ll cr1) (.slice (some ⟨V3.heap.size, 0, none⟩) 1 1) (by simp [Act.eval]) (by simp [Act.eval]) _ _ HR4.out ?_)
                all_goals go_wp2_with fail
                all_goals
                  go_roundw
                  case rel => exact ⟨at_ + nn, by omega, by push_cast; rfl, HEnd.out⟩
                  case measure => simp [intOf]; omega
            rw [decide_eq_false b21] at h21
            by_cases b22 : o = 22
            · rw [decide_eq_true b22] at h22
              by_cases hC : u.ne = 0
              · have d1 : ((u.ne : Int) == 0) = true := beq_iff_eq.2 (by omega)
                have hnz : sc.length = 1 := by omega
                replace hC := mkHid hC
                have hmf : mayP sc o = false := by rw [hmayV, if_neg (by omega), if_pos (by omega)]; exact decide_eq_false (by omega)
                replace b22 := mkHid b22
                have HE := mkHid (HBd.out 110 (by rw [HIe.out]; rw [if_pos hmf]) (by decide))
                clear HBd HIe HFi hmayV
                go_wp2_with (first
                  | (go_at_call 29; refine HSz.out.mono ?_; rintro e w2 ⟨rfl, hw2⟩; rw [hw2]; clear hw2 w2)
                  | (go_at_call 55; refine H1.out.mono ?_; rintro e w2 ⟨rfl, hw2⟩; rw [hw2]; clear hw2 w2 H1)
                  | (go_at_call 55; refine H2.out.mono ?_; rintro e w2 ⟨rfl, hw2⟩; rw [hw2]; clear hw2 w2 H2)
                  | (go_at_call 55; refine H3.out.mono ?_; rintro e w2 ⟨rfl, hw2⟩; rw [hw2]; clear hw2 w2 H3)
                  | (go_at_call 53; refine (HErr.out _ 110 (by first | exact HFV2.out | exact HFV.out) HE.out (by decide)).mono ?_; rintro e w3 ⟨rfl, k3⟩; have K3 := mkHid k3; clear k3))
                first | go_end0 | (refine bodyPost_ret (results_none rfl _ _ _) rfl ?_)
                exact K3.out
              have d1 : ((u.ne : Int) == 0) = false := beq_eq_false_iff_ne.2 (by omega)
              have hmy : mayP sc o = true := by rw [hmayV, if_neg (by omega), if_pos (by omega)]; exact decide_eq_true (by omega)
              replace b22 := mkHid b22
              cases hft : fitP F.C.b F.C.lits sc o A1 A2 A3
              · rw [hft] at HOp
                have HE := mkHid (HBd.out 111 (by rw [HIe.out]; rw [if_neg (by rw [hmy]; decide), if_neg (fun hh => b19 hh.1), if_pos hft]) (by decide))
                clear HBd HIe HFi hmayV
                go_wp2_with (first
                  | (go_at_call 29; refine HSz.out.mono ?_; rintro e w2 ⟨rfl, hw2⟩; rw [hw2]; clear hw2 w2)
                  | (go_at_call 55; refine H1.out.mono ?_; rintro e w2 ⟨rfl, hw2⟩; rw [hw2]; clear hw2 w2 H1)
                  | (go_at_call 55; refine H2.out.mono ?_; rintro e w2 ⟨rfl, hw2⟩; rw [hw2]; clear hw2 w2 H2)
                  | (go_at_call 55; refine H3.out.mono ?_; rintro e w2 ⟨rfl, hw2⟩; rw [hw2]; clear hw2 w2 H3)
                  | (go_at_call 56; refine HOp.out.mono ?_; rintro e V3 ⟨rfl, f3⟩; obtain ⟨gx, r3, gb, fw, sx⟩ := HLoc.out V3 f3; have HFV := mkHid fw; have HR3 := mkHid r3; have HGX := mkHid gx; have HGb := mkHid gb; have x0 := cell_in gx 0; have x1 := cell_in gx 1; have x2 := cell_in gx 2; have x3 := cell_in gx 3; have x4 := cell_in gx 4; have x5 := cell_in gx 5; have x6 := cell_in gx 6; have x7 := cell_in gx 7; have x8 := cell_in gx 8; have zx4 := frozen_in gx 4; clear f3 r3 gb fw HOp HLoc gx)
                  | (go_at_call 53; refine (HErr.out _ 111 (by first | exact HFV2.out | exact HFV.out) HE.out (by decide)).mono ?_; rintro e w3 ⟨rfl, k3⟩; have K3 := mkHid k3; clear k3))
                first | go_end0 | (refine bodyPost_ret (results_none rfl _ _ _) rfl ?_)
                exact K3.out
              · rw [hft] at HOp
                have HPp : Hid (instrP F.C sc at_ en = (0, ⟨o, 0, if o = 17 ∨ o = 18 then A2.toNat else 0, at_ + nn, at_ + nn, 0⟩)) := by
                  show _ = _
                  rw [HIe.out, if_neg (by rw [hmy]; decide), if_neg (fun hh => by omega), if_neg (by rw [hft]; decide)]
                  simp [b19]
                have HFi2 := HFi.out
                rw [HPp.out] at HFi2
                rw [if_neg (by simp), if_neg b19] at HFi2
                simp only at HFi2
                replace HFi2 := mkHid HFi2
                clear HBd HIe HFi HPp
                go_wp2_with (first
                  | (go_at_call 29; refine HSz.out.mono ?_; rintro e w2 ⟨rfl, hw2⟩; rw [hw2]; clear hw2 w2)
                  | (go_at_call 55; refine H1.out.mono ?_; rintro e w2 ⟨rfl, hw2⟩; rw [hw2]; clear hw2 w2 H1)
                  | (go_at_call 55; refine H2.out.mono ?_; rintro e w2 ⟨rfl, hw2⟩; rw [hw2]; clear hw2 w2 H2)
                  | (go_at_call 55; refine H3.out.mono ?_; rintro e w2 ⟨rfl, hw2⟩; rw [hw2]; clear hw2 w2 H3)
                  | (go_at_call 56; refine HOp.out.mono ?_; rintro e V3 ⟨rfl, f3⟩; obtain ⟨gx, r3, gb, fw, sx⟩ := HLoc.out V3 f3; have HFV := mkHid fw; have HR3 := mkHid r3; have HGX := mkHid gx; have HGb := mkHid gb; have x0 := cell_in gx 0; have x1 := cell_in gx 1; have x2 := cell_in gx 2; have x3 := cell_in gx 3; have x4 := cell_in gx 4; have x5 := cell_in gx 5; have x6 := cell_in gx 6; have x7 := cell_in gx 7; have x8 := cell_in gx 8; have zx4 := frozen_in gx 4; clear f3 r3 gb fw HOp HLoc gx))
                obtain ⟨p', c', w4, hr4, hk4, hf4, t10, z10, hn4⟩ := (HR3.out.dr 1).moreIns (Nat.le_trans hB1 HFV.out.size) ⟨at_, nn, o, k, at_ + nn, -1, A1, A2, A3⟩ (by omega)
                have er : (ric ⟨at_, nn, o, k, at_ + nn, -1, A1, A2, A3⟩).toArray = #[.int .i64 (at_ : Int), .int .i64 (nn : Int), .int .i64 (o : Int), .int .i64 (k : Int), .int .i64 ((at_ : Int) + (nn : Int)), .int .i64 (-1), .int .i64 A1, .int .i64 A2, .int .i64 A3] := by simp only [ric, I]; push_cast; rfl
                rw [er] at hr4
                have HR4 := mkHid hr4
                have hlx : x < V3.heap.size := lt_of_heap HR3.out.top
                have c10 : V3.cell? ⟨x, 10, none⟩ = some (.slice pr1 (lsR F.C R.pls at_).length cr1) := HR3.out.cell 10
                have HEnd : Hid (RdS w1 B x F (some ⟨g0, 0, none⟩) pr el k sc fr en f FIN (at_ + nn) (w4.setCell ⟨x, 10, none⟩ (.slice p' ((lsR F.C R.pls at_).length + 1) c'))) := by
                  have hmo := lsR_more F.C R.pls at_ (at_ + nn) (Pl.at ⟨o, 0, if o = 17 ∨ o = 18 then A2.toNat else 0, at_ + nn, at_ + nn, 0⟩ (k + 1)) (by rw [HPL.out]; omega) (by omega) HZ.out (by simp [Pl.at])
                  have hri : riOf F.C (Pl.at ⟨o, 0, if o = 17 ∨ o = 18 then A2.toNat else 0, at_ + nn, at_ + nn, 0⟩ (k + 1)) at_ = ⟨at_, nn, o, k, at_ + nn, -1, A1, A2, A3⟩ := by
                    unfold riOf Pl.at
                    simp only [hW1, hW2, hW3]
                    congr 1 <;> omega
                  rw [hri] at hmo
                  have hFn := HFF.out.trans (((HFV.out.tr0 (Fr.drewN [] V3 1)).mono (S' := rfoot x pb1 pr1) (by simp)).trans (hf4.mono (S' := rfoot x pb1 pr1) (fun b hb => .inl (by
                    rcases List.mem_cons.1 hb with h1 | h1
                    · rw [h1]; exact rfoot_x _ _ _
                    · exact rfoot_r h1))) (fun b hb => .inl hb)) (rfoot_sub HNB.out HNR.out)
                  exact ⟨hFn, .inl ⟨g', _, bs1, pb1, cb1, p', c', by omega, by omega, HFi2.out, by rw [hmo.1]; exact hk4, HNB.out, HNR.out.trans hn4 (Nat.le_trans HFF.out.size HFV.out.size), HBO.out, HBQ.out.step _ _ (by rw [HPL.out]; omega) (by omega) HZ.out rfl b19, HKk.out, hmo.2, by rw [List.length_set, HPL.out, hwl], by show R.inf.length + _ ≤ _; omega⟩⟩
                generalize hgl : (lsR F.C R.pls at_).length = ll at *
                clear hr4 hk4 hf4 er hn4
                go_region_law (refine step_append_run rfl (.tmp 133) (.tmp 135) 60 60 rfl (.slice pr1 ll cr1) (.slice (some ⟨V3.heap.size, 0, none⟩) 1 1) (by simp [Act.eval]) (by simp [Act.eval]) _ _ HR4.out ?_)
                all_goals go_wp2_with fail
                all_goals
                  go_roundw
                  case rel => exact ⟨at_ + nn, by omega, by push_cast; rfl, HEnd.out⟩
                  case measure => simp [intOf]; omega
            rw [decide_eq_false b22] at h22
            have hmy : mayP sc o = true := by rw [hmayV, if_neg b20, if_neg (by omega)]
            cases hft : fitP F.C.b F.C.lits sc o A1 A2 A3
            · rw [hft] at HOp
              have HE := mkHid (HBd.out 111 (by rw [HIe.out]; rw [if_neg (by rw [hmy]; decide), if_neg (fun hh => b19 hh.1), if_pos hft]) (by decide))
              clear HBd HIe HFi hmayV
              go_wp2_with (first
                | (go_at_call 29; refine HSz.out.mono ?_; rintro e w2 ⟨rfl, hw2⟩; rw [hw2]; clear hw2 w2)
                | (go_at_call 55; refine H1.out.mono ?_; rintro e w2 ⟨rfl, hw2⟩; rw [hw2]; clear hw2 w2 H1)
                | (go_at_call 55; refine H2.out.mono ?_; rintro e w2 ⟨rfl, hw2⟩; rw [hw2]; clear hw2 w2 H2)
                | (go_at_call 55; refine H3.out.mono ?_; rintro e w2 ⟨rfl, hw2⟩; rw [hw2]; clear hw2 w2 H3)
                | (go_at_call 56; refine HOp.out.mono ?_; rintro e V3 ⟨rfl, f3⟩; obtain ⟨gx, r3, gb, fw, sx⟩ := HLoc.out V3 f3; have HFV := mkHid fw; have HR3 := mkHid r3; have HGX := mkHid gx; have HGb := mkHid gb; have x0 := cell_in gx 0; have x1 := cell_in gx 1; have x2 := cell_in gx 2; have x3 := cell_in gx 3; have x4 := cell_in gx 4; have x5 := cell_in gx 5; have x6 := cell_in gx 6; have x7 := cell_in gx 7; have x8 := cell_in gx 8; have zx4 := frozen_in gx 4; clear f3 r3 gb fw HOp HLoc gx)
                | (go_at_call 53; refine (HErr.out _ 111 (by first | exact HFV2.out | exact HFV.out) HE.out (by decide)).mono ?_; rintro e w3 ⟨rfl, k3⟩; have K3 := mkHid k3; clear k3))
              first | go_end0 | (refine bodyPost_ret (results_none rfl _ _ _) rfl ?_)
              exact K3.out
            · rw [hft] at HOp
              have HPp : Hid (instrP F.C sc at_ en = (0, ⟨o, 0, if o = 17 ∨ o = 18 then A2.toNat else 0, at_ + nn, at_ + nn, 0⟩)) := by
                show _ = _
                rw [HIe.out, if_neg (by rw [hmy]; decide), if_neg (fun hh => by omega), if_neg (by rw [hft]; decide)]
                simp [b19]
              have HFi2 := HFi.out
              rw [HPp.out] at HFi2
              rw [if_neg (by simp), if_neg b19] at HFi2
              simp only at HFi2
              replace HFi2 := mkHid HFi2
              clear HBd HIe HFi HPp
              go_wp2_with (first
                | (go_at_call 29; refine HSz.out.mono ?_; rintro e w2 ⟨rfl, hw2⟩; rw [hw2]; clear hw2 w2)
                | (go_at_call 55; refine H1.out.mono ?_; rintro e w2 ⟨rfl, hw2⟩; rw [hw2]; clear hw2 w2 H1)
                | (go_at_call 55; refine H2.out.mono ?_; rintro e w2 ⟨rfl, hw2⟩; rw [hw2]; clear hw2 w2 H2)
                | (go_at_call 55; refine H3.out.mono ?_; rintro e w2 ⟨rfl, hw2⟩; rw [hw2]; clear hw2 w2 H3)
                | (go_at_call 56; refine HOp.out.mono ?_; rintro e V3 ⟨rfl, f3⟩; obtain ⟨gx, r3, gb, fw, sx⟩ := HLoc.out V3 f3; have HFV := mkHid fw; have HR3 := mkHid r3; have HGX := mkHid gx; have HGb := mkHid gb; have x0 := cell_in gx 0; have x1 := cell_in gx 1; have x2 := cell_in gx 2; have x3 := cell_in gx 3; have x4 := cell_in gx 4; have x5 := cell_in gx 5; have x6 := cell_in gx 6; have x7 := cell_in gx 7; have x8 := cell_in gx 8; have zx4 := frozen_in gx 4; clear f3 r3 gb fw HOp HLoc gx))
              obtain ⟨p', c', w4, hr4, hk4, hf4, t10, z10, hn4⟩ := (HR3.out.dr 1).moreIns (Nat.le_trans hB1 HFV.out.size) ⟨at_, nn, o, k, at_ + nn, -1, A1, A2, A3⟩ (by omega)
              have er : (ric ⟨at_, nn, o, k, at_ + nn, -1, A1, A2, A3⟩).toArray = #[.int .i64 (at_ : Int), .int .i64 (nn : Int), .int .i64 (o : Int), .int .i64 (k : Int), .int .i64 ((at_ : Int) + (nn : Int)), .int .i64 (-1), .int .i64 A1, .int .i64 A2, .int .i64 A3] := by simp only [ric, I]; push_cast; rfl
              rw [er] at hr4
              have HR4 := mkHid hr4
              have hlx : x < V3.heap.size := lt_of_heap HR3.out.top
              have c10 : V3.cell? ⟨x, 10, none⟩ = some (.slice pr1 (lsR F.C R.pls at_).length cr1) := HR3.out.cell 10
              have HEnd : Hid (RdS w1 B x F (some ⟨g0, 0, none⟩) pr el k sc fr en f FIN (at_ + nn) (w4.setCell ⟨x, 10, none⟩ (.slice p' ((lsR F.C R.pls at_).length + 1) c'))) := by
                have hmo := lsR_more F.C R.pls at_ (at_ + nn) (Pl.at ⟨o, 0, if o = 17 ∨ o = 18 then A2.toNat else 0, at_ + nn, at_ + nn, 0⟩ (k + 1)) (by rw [HPL.out]; omega) (by omega) HZ.out (by simp [Pl.at])
                have hri : riOf F.C (Pl.at ⟨o, 0, if o = 17 ∨ o = 18 then A2.toNat else 0, at_ + nn, at_ + nn, 0⟩ (k + 1)) at_ = ⟨at_, nn, o, k, at_ + nn, -1, A1, A2, A3⟩ := by
                  unfold riOf Pl.at
                  simp only [hW1, hW2, hW3]
                  congr 1 <;> omega
                rw [hri] at hmo
                have hFn := HFF.out.trans (((HFV.out.tr0 (Fr.drewN [] V3 1)).mono (S' := rfoot x pb1 pr1) (by simp)).trans (hf4.mono (S' := rfoot x pb1 pr1) (fun b hb => .inl (by
                  rcases List.mem_cons.1 hb with h1 | h1
                  · rw [h1]; exact rfoot_x _ _ _
                  · exact rfoot_r h1))) (fun b hb => .inl hb)) (rfoot_sub HNB.out HNR.out)
                exact ⟨hFn, .inl ⟨g', _, bs1, pb1, cb1, p', c', by omega, by omega, HFi2.out, by rw [hmo.1]; exact hk4, HNB.out, HNR.out.trans hn4 (Nat.le_trans HFF.out.size HFV.out.size), HBO.out, HBQ.out.step _ _ (by rw [HPL.out]; omega) (by omega) HZ.out rfl b19, HKk.out, hmo.2, by rw [List.length_set, HPL.out, hwl], by show R.inf.length + _ ≤ _; omega⟩⟩
              generalize hgl : (lsR F.C R.pls at_).length = ll at *
              clear hr4 hk4 hf4 er hn4
              go_region_law (refine step_append_run rfl (.tmp 133) (.tmp 135) 60 60 rfl (.slice pr1 ll cr1) (.slice (some ⟨V3.heap.size, 0, none⟩) 1 1) (by simp [Act.eval]) (by simp [Act.eval]) _ _ HR4.out ?_)
              all_goals go_wp2_with fail
              all_goals
                go_roundw
                case rel => exact ⟨at_ + nn, by omega, by push_cast; rfl, HEnd.out⟩
                case measure => simp [intOf]; omega
        · have HE := mkHid (hbad 110 (instrP_bad1 _ _ _ _ hop) (by decide))
          have HSz : Hid (Calls Tryd.prog 29 #[.int .i64 (F.C.w at_)] wr fun e w' => e = .returned (.int .i64 0) ∧ w' = wr) := size_no _ wr hop
          clear hst hr hfin hbad hG hF hop hbo hbq hk hz hpl hin
          generalize F.C.ws.length = wl at *
          generalize F.C.w at_ = ov at *
          go_wp2_with (first
            | (go_at_call 29; refine HSz.out.mono ?_; rintro e w2 ⟨rfl, hw2⟩; rw [hw2]; clear hw2 w2)
            | (go_at_call 53; refine (HErr.out _ 110 (Fr.refl _ _) HE.out (by decide)).mono ?_; rintro e w3 ⟨rfl, k3⟩; have K3 := mkHid k3; clear k3))
          first | go_end0 | (refine bodyPost_ret (results_none rfl _ _ _) rfl ?_)
          exact K3.out
      · have a1 : decide ((at_ : Int) < (en : Int)) = false := decide_eq_false (by omega)
        have HZ : Hid (RdP w B x F (some ⟨g0, 0, none⟩) pr el k FIN en (.returned (.tuple #[])) wr) := by
          have hfin2 : FIN = (0, R) := by
            rw [← hfin]
            obtain ⟨g', rfl⟩ : ∃ g', g = g' + 1 := ⟨g - 1, by omega⟩
            unfold readP
            rw [if_neg hlt]
          have hae2 : at_ = en := by omega
          subst hae2
          rw [hfin2]
          exact ⟨rfl, HFW.out _ hF, bs1, pb1, cb1, _, pr1, cr1, hr, nb.old HW1.out, nr.old HW1.out, fun _ => ⟨hbo, rfl, hz, hbq⟩⟩
        clear hst hr hfin hG hF hbo hbq hk hz hpl hin
        go_wp2_with fail
        first | go_end0 | (refine bodyPost_ret (results_none rfl _ _ _) rfl ?_)
        exact HZ.out
    · have c12 : wr.cell? ⟨x, 12, none⟩ = some (.int .i64 FIN.1) := hr.cell 12
      have HZ : Hid (RdP w B x F (some ⟨g0, 0, none⟩) pr el k FIN en (.returned (.tuple #[])) wr) := ⟨rfl, HFW.out _ hF, bs1, pb1, cb1, rs1, pr1, cr1, hr, nb.old HW1.out, nr.old HW1.out, fun hh => absurd hh hne⟩
      have q0 : (FIN.1 == 0) = false := beq_eq_false_iff_ne.2 hne
      generalize FIN.1 = fe at *
      clear hst hr hG hF
      by_cases hlt : at_ < en
      · have a1 : (at_ : Int) < (en : Int) := by omega
        go_wp2_with fail
        first | go_end0 | (refine bodyPost_ret (results_none rfl _ _ _) rfl ?_)
        exact HZ.out
      · have a1 : decide ((at_ : Int) < (en : Int)) = false := decide_eq_false (by omega)
        go_wp2_with fail
        first | go_end0 | (refine bodyPost_ret (results_none rfl _ _ _) rfl ?_)
        exact HZ.out
theorem rd_all (f : Nat) : RdC f := by
  induction f using Nat.strongRecOn with
  | _ f ih => exact rd_step f ih
end Go.Proofs.YtdflpoldlokijaaDoor
