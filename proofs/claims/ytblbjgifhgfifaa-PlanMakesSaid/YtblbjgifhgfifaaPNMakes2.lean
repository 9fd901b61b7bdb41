import Derived.Test.YtblbjgifhgfifaaPNMakes
namespace Go.Proofs.Ytblbjgifhgfifaa
open Go.RowKit
set_option linter.unusedVariables false
set_option linter.unusedSimpArgs false
theorem Txs.eqc {l k : List Cl} {name : ByteArray} {own : List ByteArray} (h : Txs l name own) (ht : EqC l k) : Txs k name own := by
  refine ⟨fun i => ?_, h.own, h.name⟩
  obtain ⟨e1, e2, e3, _⟩ := ht.at_ i
  rw [e1, e2, e3]
  exact h.cl i
theorem Txs.eqc2 {l k : List Cl} {name : ByteArray} {own : List ByteArray} (h : Txs l name own) (ht : EqC l k) : Txs k name own.reverse := ⟨(h.eqc ht).cl, fun s hs => h.own s (List.mem_reverse.1 hs), h.name⟩
set_option maxRecDepth 20000 in
set_option maxHeartbeats 4000000 in
/-- PlanMakes -/
theorem makes_any (hP : ProgMake) (l : List Cl) (kernel : Int) (name : ByteArray) (own : List ByteArray) (v ov : Value) (w : World) (h : RdC w v l) (ho : RdS w ov own) (hx : Txs l name own) :
    Calls Try.prog 6 #[v, .int .i64 kernel, .string name, ov] w fun e w' => e = .returned (.bool true) ∧ Fr [] w w' := by
  have HBy := mkHid (lBeyond_ok l own v ov w h ho)
  have HP := mkHid hP
  have HTX := mkHid hx
  have HC := mkHid h
  have HO := mkHid ho
  have HFx : Hid (∀ W, Calls Try.prog 18 #[] W fun e w' => e = .returned (.bool true) ∧ Fr [] W w') := mkHid (fun W => lFixed_ok hP W)
  clear h ho hP hx
  go_enter Try.func6, Try.ntmps6
  go_wp2_with fail
  refine Calls.mono HBy.out ?_
  rintro e w1 (⟨rfl, rfl, hb⟩ | ⟨rfl, rfl⟩)
  rotate_left
  · go_wp2_with fail
    go_ret
    exact ⟨rfl, Fr.refl _ _⟩
  have hask : Ask l own := ask_of hb
  have hask2 : Ask l own.reverse := ask_of (by rw [List.length_reverse]; exact hb)
  clear HBy
  go_wp2_with fail
  refine Calls.mono (lHand_ok l v w1 HC.out (by omega)) ?_
  rintro e w2 ⟨b, rfl, hend⟩
  have F2 : Hid (Fr [] w1 w2) := mkHid hend.choose_spec.choose_spec.choose_spec.choose_spec.choose_spec.choose_spec.2.2.2.2.2.1
  obtain ⟨gF, cF, pO, cO, k, vs, hrd⟩ := hrd_of hend (by omega)
  have HR2 := mkHid hrd
  have HEq := mkHid (hrd_eqv hrd)
  clear hend hrd
  go_wp2_with fail
  refine Calls.mono (lMarked_ok own ov w2 (HO.out.idle F2.out) (by omega)) ?_
  rintro e w3 ⟨pm, cm, rfl, hm3⟩
  have HM3 := mkHid hm3
  have F3 : Hid (Fr [] w1 w3) := mkHid (F2.out.trans hm3.fr (by simp))
  have HR3 := mkHid (HR2.out.idle hm3.fr)
  clear hm3
  obtain ⟨gm, rfl⟩ : ∃ gm, pm = some ⟨gm, 0, none⟩ := by
    have hr := HM3.out.row
    rcases hr.2 with ⟨e, e2⟩ | ⟨g', c', cur, e, _⟩
    · rw [marks_len] at e2; omega
    · injection e with e; exact ⟨g', e⟩
  have HmR : Hid (RdS w3 (.slice (some ⟨gm, 0, none⟩) own.length cm) own) := mkHid (by
    have h0 := mine_rd HM3.out (by rw [marks_len]; omega)
    have := RdS.front (k := own.length) h0 (by rw [marks_len]; omega)
    unfold marks at this
    rw [List.take_left] at this
    exact this)
  have hcm := HmR.out.cap _ _ _ rfl
  have hcmi : (own.length : Int) ≤ (cm : Int) := by omega
  have HGv : Hid (RdC w3 (.slice (some ⟨gF, 0, none⟩) l.length cF) (k.take l.length)) := mkHid (by
    have h0 := HR3.out.full
    rw [← HR3.out.kl] at h0
    exact RdC.front h0 (by rw [HR3.out.kl]; omega))
  have HCb : Hid (∀ V, Hid (Fr [] w3 V) → V.cell? ⟨b, 0, none⟩ = some (.slice (some ⟨gF, 0, none⟩) l.length cF)) := mkHid (fun V hV => by
    have ht := (HR3.out.idle hV.out).top
    rw [cell_in ht]; rfl)
  have HMk1 : Hid (∀ V, Hid (Fr [] w3 V) → Calls Try.prog 13 #[.slice (some ⟨gF, 0, none⟩) l.length cF, .int .i64 kernel, .string name, .slice (some ⟨gm, 0, none⟩) own.length cm] V fun e w' => ∃ p c xs, e = .returned (.tuple #[.slice p xs.length c, .int .i64 (makeP l kernel name own).2]) ∧ Hid (Fr [] w3 w') ∧ Hid (RdH w' (.slice p xs.length c) xs) ∧ Hid (xs.map Cg.c = (makeP l kernel name own).1) ∧ Hid (∀ g, cgBlk (.slice p xs.length c) xs g → w3.heap.size ≤ g)) := mkHid (fun V hV => by
    have hc := HP.out _ kernel name own _ _ V (HGv.out.idle hV.out) (HmR.out.idle hV.out) (HEq.out.ask hask) (HTX.out.eqc HEq.out)
    rw [HEq.out.make] at hc
    refine Calls.mono hc ?_
    rintro e w' ⟨vr, rfl, xs, q1, q2, q3, q4⟩
    obtain ⟨p, c, e, _⟩ := q1.at_
    subst e
    exact ⟨p, c, xs, rfl, mkHid (hV.out.trans q3 (by simp)), mkHid q1, mkHid q2, mkHid (fun g hg => Nat.le_trans hV.out.size (q4 g hg))⟩)
  obtain ⟨po, co, rfl, ho1⟩ := HO.out.at_
  have HO1 := mkHid ho1
  have hR : Hid (Fr [] w3 w3) := mkHid (Fr.refl _ _)
  clear ho1 hcm
  go_wp2_with fail
  go_region_held3 (fun V => V.cell? ⟨b, 0, none⟩ = some (.slice (some ⟨gF, 0, none⟩) l.length cF))
    (first
      | exact HCb.out _ (hid_drew' hR)
      | exact HCb.out _ hR
      | exact HCb.out _ hg4)
    (first
      | (go_at_call 13; refine (HMk1.out _ (hid_drew' hR)).mono ?_; rintro e w4 ⟨pr, cr, xs, rfl, hg4, hx4, hxm, hxn⟩))
  have HRf := mkHid (rMake_ok l kernel name own v _ w4 ((HC.out.idle F3.out).idle hg4.out) ((HO.out.idle F3.out).idle hg4.out) hask)
  go_wp2_with fail
  refine Calls.mono HRf.out ?_
  rintro e w5 ⟨vr5, rfl, ys, hy, hym, f5, hyn⟩
  obtain ⟨py, cy, ey, _⟩ := hy.at_
  subst ey
  have F35 : Hid (Fr [] w3 w5) := mkHid (hg4.out.trans f5 (by simp))
  have HX5 := mkHid (hx4.out.idle f5)
  have HY5 := mkHid hy
  have hsame : xs.map Cg.c = ys.map Cg.c := hxm.out.trans hym.symm
  have HSC : Hid (∀ V, Hid (Fr [] w5 V) → Calls Try.prog 14 #[.slice pr xs.length cr, .slice py ys.length cy] V fun e w' => e = .returned (.bool true) ∧ Hid (Fr [] w5 w')) := mkHid (fun V hV => by
    refine Calls.mono (lSameC_ok xs ys _ _ V (HX5.out.idle hV.out) (HY5.out.idle hV.out)) ?_
    rintro e w' ⟨rfl, f⟩
    exact ⟨by rw [decide_eq_true hsame], mkHid (hV.out.trans f (by simp))⟩)
  have HHL : Hid (∀ V, Hid (Fr [] w5 V) → Calls Try.prog 24 #[.pointer (some ⟨b, 0, none⟩), v] V fun e w' => e = .returned (.bool true) ∧ Hid (Fr [] w5 w')) := mkHid (fun V hV => by
    refine Calls.mono (lHLeft_ok l v V (((HC.out.idle F3.out).idle F35.out).idle hV.out) (by omega) b gF cF pO cO k vs ((HR3.out.idle F35.out).idle hV.out)) ?_
    rintro e w' ⟨rfl, f⟩
    exact ⟨rfl, mkHid (hV.out.trans f (by simp))⟩)
  have HLf : Hid (∀ V, Hid (Fr [] w5 V) → Calls Try.prog 25 #[.slice (some ⟨gm, 0, none⟩) (own.length + 8) cm, .slice po own.length co] V fun e w' => e = .returned (.bool true) ∧ Hid (Fr [] w5 w')) := mkHid (fun V hV => by
    have h0 := mine_rd HM3.out (by rw [marks_len]; omega)
    rw [marks_len] at h0
    refine Calls.mono (lLeft_ok (marks own 8) own _ _ V ((h0.idle F35.out).idle hV.out) (((HO.out.idle F3.out).idle F35.out).idle hV.out) (by omega)) ?_
    rintro e w' ⟨rfl, f⟩
    exact ⟨by rw [decide_eq_true rfl], mkHid (hV.out.trans f (by simp))⟩)
  have HXN := mkHid hxn.out
  have HYN : Hid (∀ g, cgBlk (.slice py ys.length cy) ys g → w3.heap.size ≤ g) := mkHid (fun g hg => Nat.le_trans hg4.out.size (hyn g hg))
  have HSame := mkHid hsame
  have hR5 : Hid (Fr [] w5 w5) := mkHid (Fr.refl _ _)
  clear HRf hy hym f5 hyn hsame HMk1 hx4 hxm hxn
  generalize (makeP l kernel name own).2 = E at *
  go_wp2_with (first
    | (go_at_call 17; refine (lNum_ok _ _).mono ?_; rintro e wx ⟨rfl, rfl⟩)
    | (go_at_call 14; refine (HSC.out _ hR5).mono ?_; rintro e w6 ⟨rfl, h6⟩)
    | (go_at_call 24; refine (HHL.out _ h6).mono ?_; rintro e w7 ⟨rfl, h7⟩)
    | (go_at_call 25; refine (HLf.out _ h7).mono ?_; rintro e w8 ⟨rfl, h8⟩))
  obtain ⟨w5, rfl⟩ : ∃ x, x = wx := ⟨_, rfl⟩
  have F8 : Hid (Fr [] w1 w8) := mkHid ((F3.out.trans F35.out (by simp)).trans h8.out (by simp))
  have F38 : Hid (Fr [] w3 w8) := mkHid (F35.out.trans h8.out (by simp))
  have hol : own.length ≤ 1048576 := by omega
  have HOc : Hid (∀ V, Fr [] w8 V → ∀ m, m < own.length → ∃ go oo, po = some ⟨go, oo, none⟩ ∧ V.cell? ⟨go, oo + m, none⟩ = some (.string (own.getD m ⟨#[]⟩))) := mkHid (fun V hV m hm => by
    obtain ⟨go, oo, q1, q2, q3⟩ := HO1.out (by omega)
    exact ⟨go, oo, q1, ((F8.out.trans hV (by simp)).cell (p := ⟨go, oo + m, none⟩) q2 (by simp)).trans (q3 m hm)⟩)
  clear HSC HHL HLf h6 h7 HCb
  go_loopw [15, 16] (fun u q wr => ∃ (m : Nat) (z : Int) (p : Option Addr) (c n : Nat), m ≤ own.length ∧ q = .int .i64 z ∧ z = (m : Int) - 1 ∧ u = .slice p n c ∧ Hid (n = own.length - m) ∧ Hid (Mine w8 wr p c (own.reverse.take n))) (fun _ q _ => (intOf q + 1).toNat)
  case atStart => exact ⟨own.length, (own.length : Int) - 1, none, 0, 0, Nat.le_refl _, by go_num, rfl, rfl, mkHid (by omega), mkHid (mine_nil _)⟩
  case round =>
    obtain ⟨m, z, p, c, n, hm, rfl, hz1, rfl, hn, hmi⟩ := hrel
    cases m with
    | succ m =>
      obtain rfl : z = (m : Int) := by omega
      clear hz1
      have b1 : (0 : Int) ≤ (m : Int) := by omega
      have b2 : (m : Int) < (own.length : Int) := by omega
      obtain ⟨go, oo, rfl, kx⟩ := HOc.out wr hmi.out.fr m (by omega)
      have hnl : n < own.reverse.length := by have := hn.out; simp; omega
      have hlen : (own.reverse.take n).length = n := by simp; simp at hnl; omega
      obtain ⟨p5, c5, wz, r5, h5⟩ := mine_push hmi.out (own.reverse.getD n ⟨#[]⟩) (by rw [hlen]; have := hn.out; omega)
      rw [hlen] at r5
      rw [take_snoc hnl] at h5
      have hge : own.reverse.getD n ⟨#[]⟩ = own.getD m ⟨#[]⟩ := by
        have e1 : n = own.length - 1 - m := by have := hn.out; omega
        rw [List.getD_eq_getElem?_getD, List.getD_eq_getElem?_getD, e1, List.getElem?_reverse (by omega), show own.length - 1 - (own.length - 1 - m) = m by omega]
      rw [hge] at r5
      have HR5 := mkHid r5
      have HS5 := mkHid h5
      have HN5 : Hid (n + 1 = own.length - m) := mkHid (by have := hn.out; omega)
      clear r5 h5 hge hlen hnl hn hmi HOc
      generalize own.getD m ⟨#[]⟩ = x at *
      go_wp2_with (at_builtin; refine Lib.wpList_append_run _ rfl (.tmp 80) (.tmp 85) 24 24 rfl _ _ rfl rfl _ _ HR5.out ?_)
      go_roundw
      case rel => exact ⟨m, (m : Int) - 1, p5, c5, n + 1, by omega, by go_num, rfl, rfl, HN5, HS5⟩
      case measure => simp [intOf]; try omega
    | zero =>
      have b1 : ¬ (0 : Int) ≤ z := by omega
      have hn2 : n = own.length := by have := hn.out; omega
      subst hn2
      have hT : Mine w8 wr p c own.reverse := by have := hmi.out; rwa [← List.length_reverse, List.take_length] at this
      have HT := mkHid hT
      clear hT hmi hn hz1
      go_wp2_with fail
      obtain ⟨w9, rfl⟩ : ∃ x, x = wr := ⟨_, rfl⟩
      have F39 : Hid (Fr [] w3 w9) := mkHid (F38.out.trans HT.out.fr (by simp))
      have hgm := own_lt HM3.out.row gm rfl
      have HRow0 : Hid (w9.ownsRow w2.heap.size 9 1 (.slice (some ⟨gm, 0, none⟩) (overT own 0).length cm) (overT own 0).length ((overT own 0).map Value.string)) := mkHid (by
        rw [overT_zero]
        exact own_congr HM3.out.row (fun g hg => F39.out.block g (own_lt HM3.out.row g hg).2 (by simp)))
      have HTr : Hid (∀ V, Fr [gm] w9 V → RdS V (.slice p own.length c) own.reverse) := mkHid (fun V hV => by
        have h0 := mine_rd HT.out (by rw [List.length_reverse]; omega)
        rw [List.length_reverse] at h0
        refine h0.keep hV (fun _ g hg hm => ?_)
        simp at hm
        subst hm
        have q1 := (own_lt HT.out.row g (by rw [List.length_reverse]; exact hg)).1
        have q2 := F38.out.size
        omega)
      clear HOc
      go_loopw [17] (fun q wq => ∃ i : Nat, i ≤ own.length ∧ q = .int .i64 i ∧ Hid (wq.ownsRow w2.heap.size 9 1 (.slice (some ⟨gm, 0, none⟩) (overT own i).length cm) (overT own i).length ((overT own i).map Value.string)) ∧ Hid (Fr [gm] w9 wq)) (fun q _ => own.length - (intOf q).toNat)
      case atStart => exact ⟨0, Nat.zero_le _, rfl, HRow0, mkHid (Fr.refl _ _)⟩
      case round =>
        obtain ⟨i, hi, rfl, hrow, hfi⟩ := hrel
        have i1 : (0 : Int) ≤ (i : Int) := by omega
        by_cases hlt : i < own.length
        · have i2 : (i : Int) < (own.length : Int) := by omega
          have hol2 := overT_len own i hi
          have i3 : (i : Int) < (own.length : Int) + 8 := by omega
          obtain ⟨pp, cc, ep, hp1⟩ := (HTr.out wr hfi.out).at_
          injection ep with ep1 ep2 ep3
          subst ep1
          obtain ⟨gt, ot, rfl, y1, y2⟩ := hp1 (by rw [List.length_reverse]; omega)
          have kx := y2 i (by rw [List.length_reverse]; exact hlt)
          obtain ⟨_, g', eg, q1, q2, q3⟩ := row_cell hrow.out (by omega)
          injection eg with eg
          injection eg with eg
          subst eg
          have km := q1 i (by omega)
          have kf := q2 i
          have HNx : Hid ((wr.setCell ⟨gm, i, none⟩ (.string (own.reverse.getD i ⟨#[]⟩))).ownsRow w2.heap.size 9 1 (.slice (some ⟨gm, 0, none⟩) (overT own (i + 1)).length cm) (overT own (i + 1)).length ((overT own (i + 1)).map Value.string)) := mkHid (by
            have := own_set hrow.out i (by omega) (own.reverse.getD i ⟨#[]⟩)
            rw [overT_set own i hlt] at this
            exact this)
          clear ep2 ep3 hp1 y1 y2 q1 q2 q3 hrow HRow0 hol2
          generalize own.reverse.getD i ⟨#[]⟩ = x at *
          generalize (overT own i).getD i ⟨#[]⟩ = x0 at *
          go_wp2_with fail
          go_roundw
          case rel => exact ⟨i + 1, by omega, by go_num, HNx, mkHid (hfi.out.trans (Fr.setCell (S := [gm]) _ _ _ (by simp)) (fun g hg => Or.inl hg))⟩
          case measure => simp [intOf]; omega
        · have hie : i = own.length := by omega
          subst hie
          clear HRow0
          obtain ⟨wA, rfl⟩ : ∃ x, x = wr := ⟨_, rfl⟩
          have hfW := hfi.out
          have hS2 : ∀ g ∈ [gm], w2.heap.size ≤ g := fun g hg => by simp at hg; omega
          have hS1 : ∀ g ∈ [gm], w1.heap.size ≤ g := fun g hg => by simp at hg; have := F2.out.size; omega
          have hGv2 : RdC w2 (.slice (some ⟨gF, 0, none⟩) l.length cF) (k.take l.length) := by
            have h0 := HR2.out.full
            rw [← HR2.out.kl] at h0
            exact RdC.front h0 (by rw [HR2.out.kl]; omega)
          have HGA : Hid (RdC wA (.slice (some ⟨gF, 0, none⟩) l.length cF) (k.take l.length)) := mkHid (hGv2.newer (HGv.out.idle F39.out) hfW hS2)
          have HCA : Hid (RdC wA v l) := mkHid (HC.out.newer ((HC.out.idle F3.out).idle F39.out) hfW hS1)
          have hbA : wA.heap[b]? = _ := ((hfW.block b (by have := lt_of_heap HR3.out.top; have := F39.out.size; omega) (fun hm => by simp at hm; have := lt_of_heap HR2.out.top; omega)).trans ((F39.out.block b (lt_of_heap HR3.out.top) (by simp)).trans HR3.out.top))
          have HCb2 : Hid (∀ V, Hid (Fr [] wA V) → V.cell? ⟨b, 0, none⟩ = some (.slice (some ⟨gF, 0, none⟩) l.length cF)) := mkHid (fun V hV => by
            have ht := (hV.out.block b (lt_of_heap hbA) (by simp)).trans hbA
            rw [cell_in ht]; rfl)
          have HmA : Hid (RdS wA (.slice (some ⟨gm, 0, none⟩) own.length cm) own.reverse) := mkHid (by
            have hlen := overT_len own own.length (Nat.le_refl _)
            obtain ⟨_, _, _, _, _, _, q⟩ := own_front hrow.out (by omega) (k := own.length) (by omega) (by omega)
            rw [overT_front] at q
            exact q)
          have HTA := mkHid (HTr.out wA hfW)
          have F59 : Fr [] w5 w9 := h8.out.trans HT.out.fr (by simp)
          have HXA : Hid (RdH wA (.slice pr xs.length cr) xs) := mkHid ((HX5.out.idle F59).keep hfW (fun g hg hm => by simp at hm; have := HXN.out g hg; omega))
          have HYA : Hid (RdH wA (.slice py ys.length cy) ys) := mkHid ((HY5.out.idle F59).keep hfW (fun g hg hm => by simp at hm; have := HYN.out g hg; omega))
          have FA : Hid (Fr [] w1 wA) := mkHid ((F3.out.trans F39.out (by simp)).trans hfW (fun g hg => Or.inr (hS1 g hg)))
          have HMk2 : Hid (∀ V, Hid (Fr [] wA V) → Calls Try.prog 13 #[.slice (some ⟨gF, 0, none⟩) l.length cF, .int .i64 kernel, .string name, .slice (some ⟨gm, 0, none⟩) own.length cm] V fun e w' => ∃ p c xs, e = .returned (.tuple #[.slice p xs.length c, .int .i64 (makeP l kernel name own.reverse).2]) ∧ Hid (Fr [] wA w') ∧ Hid (RdH w' (.slice p xs.length c) xs) ∧ Hid (xs.map Cg.c = (makeP l kernel name own.reverse).1)) := mkHid (fun V hV => by
            have hc := HP.out _ kernel name own.reverse _ _ V (HGA.out.idle hV.out) (HmA.out.idle hV.out) (HEq.out.ask hask2) (HTX.out.eqc2 HEq.out)
            rw [HEq.out.make] at hc
            refine Calls.mono hc ?_
            rintro e w' ⟨vr, rfl, xs, q1, q2, q3, q4⟩
            obtain ⟨p, c, e, _⟩ := q1.at_
            subst e
            exact ⟨p, c, xs, rfl, mkHid (hV.out.trans q3 (by simp)), mkHid q1, mkHid q2⟩)
          have hRA : Hid (Fr [] wA wA) := mkHid (Fr.refl _ _)
          have hqc := HmA.out.cap _ _ _ rfl
          clear hfW hGv2 hbA F59 hrow hfi HTr HGv HmR HX5 HY5 HT hg4 hqc hgm hS2 hS1
          go_wp2_with fail
          go_region_held3 (fun V => V.cell? ⟨b, 0, none⟩ = some (.slice (some ⟨gF, 0, none⟩) l.length cF))
            (first
              | exact HCb2.out _ (hid_drew' hRA)
              | exact HCb2.out _ hRA
              | exact HCb2.out _ hgB)
            (first
              | (go_at_call 13; refine (HMk2.out _ (hid_drew' hRA)).mono ?_; rintro e wB ⟨pz, cz, zs, rfl, hgB, hzB, hzm⟩))
          go_wp2_with fail
          refine Calls.mono (rMake_ok l kernel name own.reverse v _ wB (HCA.out.idle hgB.out) (HTA.out.idle hgB.out) hask2) ?_
          rintro e wC ⟨vrC, rfl, us, hu, hum, fC, _⟩
          obtain ⟨pu, cu, eu, _⟩ := hu.at_
          subst eu
          have hsame2 : zs.map Cg.c = us.map Cg.c := hzm.out.trans hum.symm
          have HS1 := mkHid (lSameC_ok zs us _ _ wC (hzB.out.idle fC) hu)
          rw [decide_eq_true hsame2] at HS1
          have FAC : Hid (Fr [] wA wC) := mkHid (hgB.out.trans fC (by simp))
          clear hu hum fC hsame2 HMk2 hzB hzm
          generalize (makeP l kernel name own.reverse).2 = E2 at *
          go_wp2_with (go_at_call 17; refine (lNum_ok _ _).mono ?_; rintro e wx ⟨rfl, rfl⟩)
          refine Calls.mono HS1.out ?_
          rintro e wD ⟨rfl, fD⟩
          have FAD : Hid (Fr [] wA wD) := mkHid (FAC.out.trans fD (by simp))
          have HS2 := mkHid (lSameC_ok xs ys _ _ wD (HXA.out.idle FAD.out) (HYA.out.idle FAD.out))
          rw [decide_eq_true HSame.out] at HS2
          clear HS1 fD
          go_wp2_with fail
          refine Calls.mono HS2.out ?_
          rintro e wE ⟨rfl, fE⟩
          have FAE : Hid (Fr [] wA wE) := mkHid (FAD.out.trans fE (by simp))
          clear HS2 fE
          go_wp2_with (go_at_call 18; refine (HFx.out _).mono ?_; rintro e wy ⟨rfl, fy⟩)
          go_ret
          exact ⟨rfl, (FA.out.trans FAE.out (by simp)).trans fy (by simp)⟩
end Go.Proofs.Ytblbjgifhgfifaa
