import Derived.Test.YtdflpoldlokijaaDoorG34CWlk0
namespace Go.Proofs.YtdflpoldlokijaaDoor
open Go.RowKit
set_option linter.unusedVariables false
set_option linter.unusedSimpArgs false
attribute [local go_sem ↓] Go.wp_at_zero Go.wp_at_succ
def jK (r : Ri) : Int := lenR r.op r.a r.b
def jOk (rs : List Ri) (r : Ri) : Bool :=
  if 4 ≤ (shp r.op).kind then decide (jK r ≤ 4096 ∧ -4096 ≤ jK r ∧ 0 ≤ begF rs r.body ((r.at_ : Int) + r.sz + jK r) 0 ∧ (if r.op = 26 ∨ r.op = 28 then (r.at_ : Int) + r.sz + jK r < r.at_ else 0 ≤ jK r)) else true
def jSet (r : Ri) : Ri := if 4 ≤ (shp r.op).kind then { r with to_ := (r.at_ : Int) + r.sz + jK r } else r
def rsJ (rs : List Ri) (i : Nat) : List Ri := (rs.take i).map jSet ++ rs.drop i
theorem begF_key : ∀ (rs rs' : List Ri) (b : Nat) (a : Int) (i : Nat), rs.map (fun r => (r.at_, r.body)) = rs'.map (fun r => (r.at_, r.body)) → begF rs b a i = begF rs' b a i
  | [], [], _, _, _, _ => rfl
  | [], _ :: _, _, _, _, h => by simp at h
  | _ :: _, [], _, _, _, h => by simp at h
  | r :: t, r' :: t', b, a, i, h => by
    simp only [List.map_cons, List.cons.injEq, Prod.mk.injEq] at h
    obtain ⟨⟨h1, h2⟩, h3⟩ := h
    unfold begF
    rw [h1, h2, begF_key t t' b a (i + 1) h3]
theorem jSet_key (r : Ri) : ((jSet r).at_, (jSet r).body) = (r.at_, r.body) := by unfold jSet; split <;> rfl
theorem map_jSet_key (l : List Ri) : (l.map jSet).map (fun r => (r.at_, r.body)) = l.map (fun r => (r.at_, r.body)) := by
  rw [List.map_map]
  exact List.map_congr_left fun r _ => jSet_key r
theorem rsJ_key (rs : List Ri) (i : Nat) : (rsJ rs i).map (fun r => (r.at_, r.body)) = rs.map (fun r => (r.at_, r.body)) := by
  unfold rsJ
  rw [List.map_append, map_jSet_key, ← List.map_append, List.take_append_drop]
theorem rsJ_len (rs : List Ri) (i : Nat) : (rsJ rs i).length = rs.length := by unfold rsJ; simp; omega
theorem rsJ_zero (rs : List Ri) : rsJ rs 0 = rs := by simp [rsJ]
theorem rsJ_all (rs : List Ri) : rsJ rs rs.length = rs.map jSet := by simp [rsJ]
theorem rsJ_at (rs : List Ri) (i : Nat) (h : i < rs.length) : (rsJ rs i)[i]? = rs[i]? := by
  unfold rsJ
  rw [List.getElem?_append_right (by simp; omega)]
  simp [show min i rs.length = i by omega]
theorem rsJ_succ (rs : List Ri) (i : Nat) (r : Ri) (h : rs[i]? = some r) : rsJ rs (i + 1) = (rsJ rs i).set i (jSet r) := by
  obtain ⟨hi, hr⟩ := List.getElem?_eq_some_iff.1 h
  unfold rsJ
  rw [List.take_succ_eq_append_getElem hi, List.map_append, List.set_append_right _ _ (by simp; omega)]
  rw [show i - ((rs.take i).map jSet).length = 0 by simp; omega, List.drop_eq_getElem_cons hi, List.set_cons_zero, hr]
  simp
theorem jSet_no (rs : List Ri) (i : Nat) (r : Ri) (h : rs[i]? = some r) (hk : ¬ 4 ≤ (shp r.op).kind) : rsJ rs (i + 1) = rsJ rs i := by
  rw [rsJ_succ rs i r h]
  have e : jSet r = r := by unfold jSet; rw [if_neg hk]
  rw [e]
  have h2 := rsJ_at rs i (List.getElem?_eq_some_iff.1 h).1
  rw [h] at h2
  obtain ⟨h3, h4⟩ := List.getElem?_eq_some_iff.1 h2
  rw [← h4]
  exact List.set_getElem_self h3
section
variable {w : World} {B x : Nat} {F : WFx} {bs : List Bd} {pb : Option Addr} {cb : Nat} {rs : List Ri} {pr : Option Addr} {cr : Nat} {el : Nat}
set_option maxRecDepth 100000 in
set_option maxHeartbeats 8000000 in
theorem jumps_ok (h : WR w B x F bs pb cb rs pr cr el 0) (hB : B ≤ w.heap.size) (hn : rs.length ≤ 100000) (hok : ∀ (i : Nat) (r : Ri), rs[i]? = some r → 1 ≤ r.op ∧ r.op ≤ 28 ∧ r.at_ + r.sz ≤ 100000) :
    Calls Tryd.prog 38 #[.pointer (some ⟨x, 0, none⟩)] w fun e w' => e = .returned (.tuple #[]) ∧ Kw B w w' ∧ ((rs.all (jOk rs) = true ∧ WR w' B x F bs pb cb (rs.map jSet) pr cr el 0) ∨ (rs.all (jOk rs) = false ∧ ∃ rs', WR w' B x F bs pb cb rs' pr cr el 112)) := by
  have HW := mkHid h
  have HOk := mkHid hok
  clear h hok
  go_enter Tryd.func38, Tryd.ntmps38
  go_wp2_with fail
  go_loopw [2] (fun q wr => ∃ i : Nat, q = .int .i64 (i : Int) ∧ i ≤ rs.length ∧ Hid (WR wr B x F bs pb cb (rsJ rs i) pr cr el 0 ∧ Kw B w wr ∧ ∀ (j : Nat) (r : Ri), j < i → rs[j]? = some r → jOk rs r = true)) (fun q _ => rs.length - (intOf q).toNat)
  case atStart => exact ⟨0, rfl, by omega, by rw [rsJ_zero]; exact HW.out, Kw.refl _ _, fun j r hj => by omega⟩
  case round =>
    clear HW
    obtain ⟨i, rfl, hi, hst⟩ := hrel
    obtain ⟨hr, hk, hj⟩ := hst.out
    have i0 : (0 : Int) ≤ (i : Int) := by omega
    have hlenJ := rsJ_len rs i
    have c10 : wr.cell? ⟨x, 10, none⟩ = some (.slice pr rs.length cr) := by rw [← hlenJ]; exact hr.cell 10
    have hB1 : B ≤ wr.heap.size := Nat.le_trans hB hk.size
    by_cases hlt : i < rs.length
    · obtain ⟨r, hri⟩ : ∃ r, rs[i]? = some r := ⟨rs[i], List.getElem?_eq_getElem hlt⟩
      have hri2 : (rsJ rs i)[i]? = some r := by rw [rsJ_at rs i hlt]; exact hri
      obtain ⟨o1, o2, o3⟩ := HOk.out i r hri
      obtain ⟨g, rfl, -, hc⟩ := hr.ins i r hri2
      have y0 : wr.cell? ⟨g, i * 9, none⟩ = some (.int .i64 (r.at_ : Int)) := hc 0 (by omega)
      have y1 : wr.cell? ⟨g, i * 9 + 1, none⟩ = some (.int .i64 (r.sz : Int)) := hc 1 (by omega)
      have y2 : wr.cell? ⟨g, i * 9 + 2, none⟩ = some (.int .i64 (r.op : Int)) := hc 2 (by omega)
      have y3 : wr.cell? ⟨g, i * 9 + 3, none⟩ = some (.int .i64 (r.body : Int)) := hc 3 (by omega)
      have y4 : wr.cell? ⟨g, i * 9 + 4, none⟩ = some (.int .i64 (r.nx : Int)) := hc 4 (by omega)
      have y5 : wr.cell? ⟨g, i * 9 + 5, none⟩ = some (.int .i64 r.to_) := hc 5 (by omega)
      have y6 : wr.cell? ⟨g, i * 9 + 6, none⟩ = some (.int .i64 r.a) := hc 6 (by omega)
      have y7 : wr.cell? ⟨g, i * 9 + 7, none⟩ = some (.int .i64 r.b) := hc 7 (by omega)
      have y8 : wr.cell? ⟨g, i * 9 + 8, none⟩ = some (.int .i64 r.c) := hc 8 (by omega)
      have i1 : (i : Int) < (rs.length : Int) := by omega
      have HLen : Hid (∀ V, Calls Tryd.prog 57 #[.agg #[.int .i64 (r.at_ : Int), .int .i64 (r.sz : Int), .int .i64 (r.op : Int), .int .i64 (r.body : Int), .int .i64 (r.nx : Int), .int .i64 r.to_, .int .i64 r.a, .int .i64 r.b, .int .i64 r.c]] V fun e w' => e = .returned (.tuple #[.int .i64 (jK r), .bool (decide (4 ≤ (shp r.op).kind))]) ∧ Fr [] V w') := fun V => length_ok r.op o1 o2 _ _ _ _ _ _ _ _ V
      have HLoc : Hid (∀ w2, Fr [] (wr.alloc (.cells #[.int .i64 (r.at_ : Int), .int .i64 (r.sz : Int), .int .i64 (r.op : Int), .int .i64 (r.body : Int), .int .i64 (r.nx : Int), .int .i64 r.to_, .int .i64 r.a, .int .i64 r.b, .int .i64 r.c] 78)) w2 → w2.cell? ⟨wr.heap.size, 0, none⟩ = some (.int .i64 (r.at_ : Int)) ∧ w2.cell? ⟨wr.heap.size, 1, none⟩ = some (.int .i64 (r.sz : Int)) ∧ w2.cell? ⟨wr.heap.size, 2, none⟩ = some (.int .i64 (r.op : Int)) ∧ w2.cell? ⟨wr.heap.size, 3, none⟩ = some (.int .i64 (r.body : Int)) ∧ w2.cell? ⟨x, 10, none⟩ = some (.slice (some ⟨g, 0, none⟩) rs.length cr) ∧ w2.cell? ⟨g, i * 9 + 5, none⟩ = some (.int .i64 r.to_) ∧ w2.frozen? ⟨g, i * 9 + 5, none⟩ = false ∧ Hid (WR w2 B x F bs pb cb (rsJ rs i) (some ⟨g, 0, none⟩) cr el 0 ∧ Fr [] wr w2)) := fun w2 f2 => by
        have h0 := f2.hb (heap_alloc_new wr (.cells #[.int .i64 (r.at_ : Int), .int .i64 (r.sz : Int), .int .i64 (r.op : Int), .int .i64 (r.body : Int), .int .i64 (r.nx : Int), .int .i64 r.to_, .int .i64 r.a, .int .i64 r.b, .int .i64 r.c] 78))
        have F2 := (Fr.alloc [] wr _).tr0 f2
        exact ⟨cell_in h0 0, cell_in h0 1, cell_in h0 2, cell_in h0 3, F2.cl c10, F2.cl y5, (hr.idle F2).setTo i r hri2 0 g rfl |>.2.2, hr.idle F2, F2⟩
      have HBg : Hid (∀ V, WR V B x F bs pb cb (rsJ rs i) (some ⟨g, 0, none⟩) cr el 0 → Calls Tryd.prog 58 #[.pointer (some ⟨x, 0, none⟩), .int .i64 (r.body : Int), .int .i64 ((r.at_ : Int) + (r.sz : Int) + jK r)] V fun e w' => e = .returned (.int .i64 (begF rs r.body ((r.at_ : Int) + r.sz + jK r) 0)) ∧ w' = V) := fun V hV => by
        have := begins_ok hV (by rw [hlenJ]; exact hn) r.body ((r.at_ : Int) + r.sz + jK r)
        rw [begF_key _ rs _ _ _ (rsJ_key rs i)] at this
        exact this
      have HFl : Hid (∀ V, WR V B x F bs pb cb (rsJ rs i) (some ⟨g, 0, none⟩) cr el 0 → Calls Tryd.prog 53 #[.pointer (some ⟨x, 0, none⟩), .int .i64 112] V fun en w' => en = .returned (.tuple #[]) ∧ Fr [x] V w' ∧ WR w' B x F bs pb cb (rsJ rs i) (some ⟨g, 0, none⟩) cr el 112) := fun V hV => fails_ok hV 112
      have HNo : Hid (jOk rs r = false → rs.all (jOk rs) = false) := fun hh => List.all_eq_false.2 ⟨r, List.mem_of_getElem? hri, by simp [hh]⟩
      have HYes : Hid (jOk rs r = true → ∀ (j : Nat) (r' : Ri), j < i + 1 → rs[j]? = some r' → jOk rs r' = true) := fun hh j r' hj1 hj2 => by
        by_cases e : j = i
        · subst e; rw [hri] at hj2; rw [← Option.some.inj hj2]; exact hh
        · exact hj j r' (by omega) hj2
      have HSt : Hid (∀ V, WR V B x F bs pb cb (rsJ rs i) (some ⟨g, 0, none⟩) cr el 0 → 4 ≤ (shp r.op).kind → WR (V.setCell ⟨g, i * 9 + 5, none⟩ (.int .i64 ((r.at_ : Int) + (r.sz : Int) + jK r))) B x F bs pb cb (rsJ rs (i + 1)) (some ⟨g, 0, none⟩) cr el 0 ∧ Fr [g] V (V.setCell ⟨g, i * 9 + 5, none⟩ (.int .i64 ((r.at_ : Int) + (r.sz : Int) + jK r)))) := fun V hV h4 => by
        have := hV.setTo i r hri2 ((r.at_ : Int) + r.sz + jK r) g rfl
        rw [rsJ_succ rs i r hri]
        have e : jSet r = { r with to_ := (r.at_ : Int) + r.sz + jK r } := by unfold jSet; rw [if_pos h4]
        rw [e]
        exact ⟨this.1, this.2.1⟩
      have HSk : Hid (¬ 4 ≤ (shp r.op).kind → rsJ rs (i + 1) = rsJ rs i) := jSet_no rs i r hri
      have HgB : Hid (B ≤ g) := (own_lt hr.lst g rfl).1
      have HxB : Hid (B ≤ x) := hr.base
      have HK := mkHid hk
      have hJ : jOk rs r = if 4 ≤ (shp r.op).kind then decide (jK r ≤ 4096 ∧ -4096 ≤ jK r ∧ 0 ≤ begF rs r.body ((r.at_ : Int) + r.sz + jK r) 0 ∧ (if r.op = 26 ∨ r.op = 28 then (r.at_ : Int) + r.sz + jK r < r.at_ else 0 ≤ jK r)) else true := rfl
      have hkb : True := trivial
      clear hst hr hk hj hc hri hri2 hlenJ
      have z1 : (r.at_ : Int) + (r.sz : Int) ≤ 100000 := by omega
      have z2 : (0 : Int) ≤ (r.at_ : Int) := by omega
      have z3 : (0 : Int) ≤ (r.sz : Int) := by omega
      have hwr1 : IntKind.i64.wrap ((r.at_ : Int) + (r.sz : Int)) = (r.at_ : Int) + (r.sz : Int) := iwrap_id (by omega) (by omega)
      generalize hbeg : begF rs r.body ((r.at_ : Int) + r.sz + jK r) 0 = bg at *
      generalize hnn : rs.length = nn at *
      by_cases h4 : 4 ≤ (shp r.op).kind
      · rw [decide_eq_true h4] at HLen
        rw [if_pos h4] at hJ
        generalize jK r = kk at *
        have hopI : ∀ n : Nat, ((r.op : Int) == (n : Int)) = decide (r.op = n) := fun n => by
          by_cases e : r.op = n
          · rw [e]; simp
          · rw [decide_eq_false e]; exact beq_eq_false_iff_ne.2 (by omega)
        have h26 : ((r.op : Int) == 26) = decide (r.op = 26) := hopI 26
        have h28 : ((r.op : Int) == 28) = decide (r.op = 28) := hopI 28
        clear hopI
        by_cases q1 : 4096 < kk
        · skip
          have HN := mkHid (HNo.out (by rw [hJ]; exact decide_eq_false (by omega)))
          clear hJ hkb HNo HYes HSt HSk
          go_wp2_with (first
            | (go_at_call 57; refine (HLen.out _).mono ?_; rintro e w2 ⟨rfl, f2⟩; obtain ⟨l0, l1, l2, l3, c10b, y5b, z5b, HKW⟩ := HLoc.out w2 f2; clear f2 HLen)
            | (go_at_call 58; refine (HBg.out _ HKW.out.1).mono ?_; rintro e w3 ⟨rfl, hw3⟩; rw [hw3]; clear hw3 w3)
            | (go_at_call 53; refine (HFl.out _ HKW.out.1).mono ?_; rintro e w4 ⟨rfl, f4, k4⟩; have F4 := mkHid f4; have K4 := mkHid k4; clear f4 k4))
          first | go_end0 | (refine bodyPost_ret (results_none rfl _ _ _) rfl ?_)
          exact ⟨rfl, HK.out.trans ((HKW.out.2.kw hB1 (by simp)).trans (F4.out.kw (Nat.le_trans hB1 HKW.out.2.size) (fun b hb => by simp at hb; rw [hb]; exact HxB.out))), .inr ⟨HN.out, _, K4.out⟩⟩
        have d1 : decide (4096 < kk) = false := decide_eq_false q1
        by_cases q2 : kk < -4096
        · skip
          have HN := mkHid (HNo.out (by rw [hJ]; exact decide_eq_false (by omega)))
          clear hJ hkb HNo HYes HSt HSk
          go_wp2_with (first
            | (go_at_call 57; refine (HLen.out _).mono ?_; rintro e w2 ⟨rfl, f2⟩; obtain ⟨l0, l1, l2, l3, c10b, y5b, z5b, HKW⟩ := HLoc.out w2 f2; clear f2 HLen)
            | (go_at_call 58; refine (HBg.out _ HKW.out.1).mono ?_; rintro e w3 ⟨rfl, hw3⟩; rw [hw3]; clear hw3 w3)
            | (go_at_call 53; refine (HFl.out _ HKW.out.1).mono ?_; rintro e w4 ⟨rfl, f4, k4⟩; have F4 := mkHid f4; have K4 := mkHid k4; clear f4 k4))
          first | go_end0 | (refine bodyPost_ret (results_none rfl _ _ _) rfl ?_)
          exact ⟨rfl, HK.out.trans ((HKW.out.2.kw hB1 (by simp)).trans (F4.out.kw (Nat.le_trans hB1 HKW.out.2.size) (fun b hb => by simp at hb; rw [hb]; exact HxB.out))), .inr ⟨HN.out, _, K4.out⟩⟩
        have d2 : decide (kk < -4096) = false := decide_eq_false q2
        have hwr2 : IntKind.i64.wrap ((r.at_ : Int) + (r.sz : Int) + kk) = (r.at_ : Int) + (r.sz : Int) + kk := iwrap_id (by omega) (by omega)
        by_cases b1 : r.op = 26
        · rw [decide_eq_true b1] at h26
          by_cases q3 : bg < 0
          · skip
            replace b1 := mkHid b1
            have HN := mkHid (HNo.out (by rw [hJ]; exact decide_eq_false (by omega)))
            clear hJ hkb HNo HYes HSt HSk
            go_wp2_with (first
              | (go_at_call 57; refine (HLen.out _).mono ?_; rintro e w2 ⟨rfl, f2⟩; obtain ⟨l0, l1, l2, l3, c10b, y5b, z5b, HKW⟩ := HLoc.out w2 f2; clear f2 HLen)
              | (go_at_call 58; refine (HBg.out _ HKW.out.1).mono ?_; rintro e w3 ⟨rfl, hw3⟩; rw [hw3]; clear hw3 w3)
              | (go_at_call 53; refine (HFl.out _ HKW.out.1).mono ?_; rintro e w4 ⟨rfl, f4, k4⟩; have F4 := mkHid f4; have K4 := mkHid k4; clear f4 k4))
            first | go_end0 | (refine bodyPost_ret (results_none rfl _ _ _) rfl ?_)
            exact ⟨rfl, HK.out.trans ((HKW.out.2.kw hB1 (by simp)).trans (F4.out.kw (Nat.le_trans hB1 HKW.out.2.size) (fun b hb => by simp at hb; rw [hb]; exact HxB.out))), .inr ⟨HN.out, _, K4.out⟩⟩
          have d3 : decide (bg < 0) = false := decide_eq_false q3
          have hI : (if r.op = 26 ∨ r.op = 28 then (r.at_ : Int) + r.sz + kk < r.at_ else 0 ≤ kk) = ((r.at_ : Int) + r.sz + kk < r.at_) := if_pos (.inl b1)
          replace hI := mkHid hI
          replace b1 := mkHid b1
          by_cases q4 : (r.at_ : Int) ≤ (r.at_ : Int) + (r.sz : Int) + kk
          · skip
            have HN := mkHid (HNo.out (by rw [hJ]; exact decide_eq_false (by intro hh; have h5 := hh.2.2.2; rw [hI.out] at h5; omega)))
            clear hJ hkb HNo HYes HSt HSk
            go_wp2_with (first
              | (go_at_call 57; refine (HLen.out _).mono ?_; rintro e w2 ⟨rfl, f2⟩; obtain ⟨l0, l1, l2, l3, c10b, y5b, z5b, HKW⟩ := HLoc.out w2 f2; clear f2 HLen)
              | (go_at_call 58; refine (HBg.out _ HKW.out.1).mono ?_; rintro e w3 ⟨rfl, hw3⟩; rw [hw3]; clear hw3 w3)
              | (go_at_call 53; refine (HFl.out _ HKW.out.1).mono ?_; rintro e w4 ⟨rfl, f4, k4⟩; have F4 := mkHid f4; have K4 := mkHid k4; clear f4 k4))
            first | go_end0 | (refine bodyPost_ret (results_none rfl _ _ _) rfl ?_)
            exact ⟨rfl, HK.out.trans ((HKW.out.2.kw hB1 (by simp)).trans (F4.out.kw (Nat.le_trans hB1 HKW.out.2.size) (fun b hb => by simp at hb; rw [hb]; exact HxB.out))), .inr ⟨HN.out, _, K4.out⟩⟩
          have d4 : decide ((r.at_ : Int) ≤ (r.at_ : Int) + (r.sz : Int) + kk) = false := decide_eq_false q4
          have HY := mkHid (HYes.out (by rw [hJ]; exact decide_eq_true (by exact ⟨by omega, by omega, by omega, by rw [hI.out]; omega⟩)))
          have HS2 : Hid (∀ V, WR V B x F bs pb cb (rsJ rs i) (some ⟨g, 0, none⟩) cr el 0 → _) := fun V hV => HSt.out V hV h4
          clear hJ hkb HNo HYes HSt HSk HFl h4
          go_wp2_with (first
            | (go_at_call 57; refine (HLen.out _).mono ?_; rintro e w2 ⟨rfl, f2⟩; obtain ⟨l0, l1, l2, l3, c10b, y5b, z5b, HKW⟩ := HLoc.out w2 f2; clear f2 HLen)
            | (go_at_call 58; refine (HBg.out _ HKW.out.1).mono ?_; rintro e w3 ⟨rfl, hw3⟩; rw [hw3]; clear hw3 w3))
          go_roundw
          case rel => exact ⟨i + 1, by go_num, by omega, (HS2.out _ HKW.out.1).1, HK.out.trans ((HKW.out.2.kw hB1 (by simp)).trans ((HS2.out _ HKW.out.1).2.kw (Nat.le_trans hB1 HKW.out.2.size) (fun b hb => by simp at hb; rw [hb]; exact HgB.out))), HY.out⟩
          case measure => simp [intOf]; omega
        rw [decide_eq_false b1] at h26
        by_cases b2 : r.op = 28
        · rw [decide_eq_true b2] at h28
          by_cases q3 : bg < 0
          · skip
            replace b2 := mkHid b2
            have HN := mkHid (HNo.out (by rw [hJ]; exact decide_eq_false (by omega)))
            clear hJ hkb HNo HYes HSt HSk
            go_wp2_with (first
              | (go_at_call 57; refine (HLen.out _).mono ?_; rintro e w2 ⟨rfl, f2⟩; obtain ⟨l0, l1, l2, l3, c10b, y5b, z5b, HKW⟩ := HLoc.out w2 f2; clear f2 HLen)
              | (go_at_call 58; refine (HBg.out _ HKW.out.1).mono ?_; rintro e w3 ⟨rfl, hw3⟩; rw [hw3]; clear hw3 w3)
              | (go_at_call 53; refine (HFl.out _ HKW.out.1).mono ?_; rintro e w4 ⟨rfl, f4, k4⟩; have F4 := mkHid f4; have K4 := mkHid k4; clear f4 k4))
            first | go_end0 | (refine bodyPost_ret (results_none rfl _ _ _) rfl ?_)
            exact ⟨rfl, HK.out.trans ((HKW.out.2.kw hB1 (by simp)).trans (F4.out.kw (Nat.le_trans hB1 HKW.out.2.size) (fun b hb => by simp at hb; rw [hb]; exact HxB.out))), .inr ⟨HN.out, _, K4.out⟩⟩
          have d3 : decide (bg < 0) = false := decide_eq_false q3
          have hI : (if r.op = 26 ∨ r.op = 28 then (r.at_ : Int) + r.sz + kk < r.at_ else 0 ≤ kk) = ((r.at_ : Int) + r.sz + kk < r.at_) := if_pos (.inr b2)
          replace hI := mkHid hI
          replace b2 := mkHid b2
          by_cases q4 : (r.at_ : Int) ≤ (r.at_ : Int) + (r.sz : Int) + kk
          · skip
            have HN := mkHid (HNo.out (by rw [hJ]; exact decide_eq_false (by intro hh; have h5 := hh.2.2.2; rw [hI.out] at h5; omega)))
            clear hJ hkb HNo HYes HSt HSk
            go_wp2_with (first
              | (go_at_call 57; refine (HLen.out _).mono ?_; rintro e w2 ⟨rfl, f2⟩; obtain ⟨l0, l1, l2, l3, c10b, y5b, z5b, HKW⟩ := HLoc.out w2 f2; clear f2 HLen)
              | (go_at_call 58; refine (HBg.out _ HKW.out.1).mono ?_; rintro e w3 ⟨rfl, hw3⟩; rw [hw3]; clear hw3 w3)
              | (go_at_call 53; refine (HFl.out _ HKW.out.1).mono ?_; rintro e w4 ⟨rfl, f4, k4⟩; have F4 := mkHid f4; have K4 := mkHid k4; clear f4 k4))
            first | go_end0 | (refine bodyPost_ret (results_none rfl _ _ _) rfl ?_)
            exact ⟨rfl, HK.out.trans ((HKW.out.2.kw hB1 (by simp)).trans (F4.out.kw (Nat.le_trans hB1 HKW.out.2.size) (fun b hb => by simp at hb; rw [hb]; exact HxB.out))), .inr ⟨HN.out, _, K4.out⟩⟩
          have d4 : decide ((r.at_ : Int) ≤ (r.at_ : Int) + (r.sz : Int) + kk) = false := decide_eq_false q4
          have HY := mkHid (HYes.out (by rw [hJ]; exact decide_eq_true (by exact ⟨by omega, by omega, by omega, by rw [hI.out]; omega⟩)))
          have HS2 : Hid (∀ V, WR V B x F bs pb cb (rsJ rs i) (some ⟨g, 0, none⟩) cr el 0 → _) := fun V hV => HSt.out V hV h4
          clear hJ hkb HNo HYes HSt HSk HFl h4
          go_wp2_with (first
            | (go_at_call 57; refine (HLen.out _).mono ?_; rintro e w2 ⟨rfl, f2⟩; obtain ⟨l0, l1, l2, l3, c10b, y5b, z5b, HKW⟩ := HLoc.out w2 f2; clear f2 HLen)
            | (go_at_call 58; refine (HBg.out _ HKW.out.1).mono ?_; rintro e w3 ⟨rfl, hw3⟩; rw [hw3]; clear hw3 w3))
          go_roundw
          case rel => exact ⟨i + 1, by go_num, by omega, (HS2.out _ HKW.out.1).1, HK.out.trans ((HKW.out.2.kw hB1 (by simp)).trans ((HS2.out _ HKW.out.1).2.kw (Nat.le_trans hB1 HKW.out.2.size) (fun b hb => by simp at hb; rw [hb]; exact HgB.out))), HY.out⟩
          case measure => simp [intOf]; omega
        rw [decide_eq_false b2] at h28
        by_cases q3 : bg < 0
        · skip
          have HN := mkHid (HNo.out (by rw [hJ]; exact decide_eq_false (by omega)))
          clear hJ hkb HNo HYes HSt HSk
          go_wp2_with (first
            | (go_at_call 57; refine (HLen.out _).mono ?_; rintro e w2 ⟨rfl, f2⟩; obtain ⟨l0, l1, l2, l3, c10b, y5b, z5b, HKW⟩ := HLoc.out w2 f2; clear f2 HLen)
            | (go_at_call 58; refine (HBg.out _ HKW.out.1).mono ?_; rintro e w3 ⟨rfl, hw3⟩; rw [hw3]; clear hw3 w3)
            | (go_at_call 53; refine (HFl.out _ HKW.out.1).mono ?_; rintro e w4 ⟨rfl, f4, k4⟩; have F4 := mkHid f4; have K4 := mkHid k4; clear f4 k4))
          first | go_end0 | (refine bodyPost_ret (results_none rfl _ _ _) rfl ?_)
          exact ⟨rfl, HK.out.trans ((HKW.out.2.kw hB1 (by simp)).trans (F4.out.kw (Nat.le_trans hB1 HKW.out.2.size) (fun b hb => by simp at hb; rw [hb]; exact HxB.out))), .inr ⟨HN.out, _, K4.out⟩⟩
        have d3 : decide (bg < 0) = false := decide_eq_false q3
        have hI : (if r.op = 26 ∨ r.op = 28 then (r.at_ : Int) + r.sz + kk < r.at_ else 0 ≤ kk) = (0 ≤ kk) := if_neg (by omega)
        replace hI := mkHid hI
        by_cases q4 : kk < 0
        · skip
          have HN := mkHid (HNo.out (by rw [hJ]; exact decide_eq_false (by intro hh; have h5 := hh.2.2.2; rw [hI.out] at h5; omega)))
          clear hJ hkb HNo HYes HSt HSk
          go_wp2_with (first
            | (go_at_call 57; refine (HLen.out _).mono ?_; rintro e w2 ⟨rfl, f2⟩; obtain ⟨l0, l1, l2, l3, c10b, y5b, z5b, HKW⟩ := HLoc.out w2 f2; clear f2 HLen)
            | (go_at_call 58; refine (HBg.out _ HKW.out.1).mono ?_; rintro e w3 ⟨rfl, hw3⟩; rw [hw3]; clear hw3 w3)
            | (go_at_call 53; refine (HFl.out _ HKW.out.1).mono ?_; rintro e w4 ⟨rfl, f4, k4⟩; have F4 := mkHid f4; have K4 := mkHid k4; clear f4 k4))
          first | go_end0 | (refine bodyPost_ret (results_none rfl _ _ _) rfl ?_)
          exact ⟨rfl, HK.out.trans ((HKW.out.2.kw hB1 (by simp)).trans (F4.out.kw (Nat.le_trans hB1 HKW.out.2.size) (fun b hb => by simp at hb; rw [hb]; exact HxB.out))), .inr ⟨HN.out, _, K4.out⟩⟩
        have d4 : decide (kk < 0) = false := decide_eq_false q4
        have HY := mkHid (HYes.out (by rw [hJ]; exact decide_eq_true (by exact ⟨by omega, by omega, by omega, by rw [hI.out]; omega⟩)))
        have HS2 : Hid (∀ V, WR V B x F bs pb cb (rsJ rs i) (some ⟨g, 0, none⟩) cr el 0 → _) := fun V hV => HSt.out V hV h4
        clear hJ hkb HNo HYes HSt HSk HFl h4
        go_wp2_with (first
          | (go_at_call 57; refine (HLen.out _).mono ?_; rintro e w2 ⟨rfl, f2⟩; obtain ⟨l0, l1, l2, l3, c10b, y5b, z5b, HKW⟩ := HLoc.out w2 f2; clear f2 HLen)
          | (go_at_call 58; refine (HBg.out _ HKW.out.1).mono ?_; rintro e w3 ⟨rfl, hw3⟩; rw [hw3]; clear hw3 w3))
        go_roundw
        case rel => exact ⟨i + 1, by go_num, by omega, (HS2.out _ HKW.out.1).1, HK.out.trans ((HKW.out.2.kw hB1 (by simp)).trans ((HS2.out _ HKW.out.1).2.kw (Nat.le_trans hB1 HKW.out.2.size) (fun b hb => by simp at hb; rw [hb]; exact HgB.out))), HY.out⟩
        case measure => simp [intOf]; omega
      · rw [decide_eq_false h4] at HLen
        rw [if_neg h4] at hJ
        have HSk2 := mkHid (HSk.out h4)
        have HY := mkHid (HYes.out hJ)
        clear h4 hJ hkb HSk HYes HNo HSt HFl HBg
        go_wp2_with (go_at_call 57; refine (HLen.out _).mono ?_; rintro e w2 ⟨rfl, f2⟩; obtain ⟨l0, l1, l2, l3, c10b, y5b, z5b, HKW⟩ := HLoc.out w2 f2; clear f2)
        go_roundw
        case rel => exact ⟨i + 1, by go_num, by omega, by rw [HSk2.out]; exact HKW.out.1, HK.out.trans (HKW.out.2.kw hB1 (by simp)), HY.out⟩
        case measure => simp [intOf]; omega
    · have i1 : decide ((i : Int) < (rs.length : Int)) = false := decide_eq_false (by omega)
      have HZ : Hid (Kw B w wr ∧ rs.all (jOk rs) = true ∧ WR wr B x F bs pb cb (rs.map jSet) pr cr el 0) := by
        refine ⟨hk, List.all_eq_true.2 fun r hr => ?_, ?_⟩
        · obtain ⟨j, hjl, hjr⟩ := List.getElem_of_mem hr
          exact hj j r (by omega) (by rw [List.getElem?_eq_getElem hjl, hjr])
        · have : i = rs.length := by omega
          rw [this, rsJ_all] at hr
          exact hr
      clear hst hr hk hj hlenJ
      generalize rs.length = nn at *
      go_wp2_with fail
      first | go_end0 | (refine bodyPost_ret (results_none rfl _ _ _) rfl ?_)
      exact ⟨rfl, HZ.out.1, .inl HZ.out.2⟩
end
end Go.Proofs.YtdflpoldlokijaaDoor
