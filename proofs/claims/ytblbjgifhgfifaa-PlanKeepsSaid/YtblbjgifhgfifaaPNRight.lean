import Derived.Test.YtblbjgifhgfifaaPNTurn
namespace Go.Proofs.Ytblbjgifhgfifaa
open Go.RowKit
set_option linter.unusedVariables false
set_option linter.unusedSimpArgs false
open Classical in
/-- where a text stands in a list that can be read -/
noncomputable def whereV (w : World) (u : Value) (s : ByteArray) : Int := if h : ∃ ss, RdS w u ss then amongZ h.choose s else 0
theorem whereV_eq {w : World} {u : Value} {ss : List ByteArray} (h : RdS w u ss) (s : ByteArray) : whereV w u s = amongZ ss s := by
  have hx : ∃ ss, RdS w u ss := ⟨ss, h⟩
  unfold whereV
  rw [dif_pos hx, h.inj hx.choose_spec]
theorem amongZ_nodup {l : List ByteArray} (hn : l.Nodup) {i : Nat} (hi : i < l.length) : amongZ l (l.getD i ⟨#[]⟩) = (i : Int) := by
  unfold amongZ
  rw [pos_nodup hn (by rw [List.getD_eq_getElem?_getD, List.getElem?_eq_getElem hi]; rfl)]
theorem RdS.cap_any {w : World} {p q : Option Addr} {n c : Nat} {ss : List ByteArray} (h : RdS w (.slice p n c) ss) : ∀ p' n' c', Value.slice q n c = .slice p' n' c' → n' ≤ c' ∧ c' ≤ 9223372036854775807 := fun p' n' c' e => by
  have := h.cap _ _ _ rfl
  injection e with _ e2 e3
  omega
theorem RdS.back {w : World} {g off c n : Nat} {ss : List ByteArray} (h : RdS w (.slice (some ⟨g, off, none⟩) ss.length c) ss) (hn : n ≤ ss.length) : RdS w (.slice (some ⟨g, off + n, none⟩) (ss.length - n) (c - n)) (ss.drop n) := by
  obtain ⟨p', c', e, h1⟩ := h.at_
  injection e with e1 e2 e3
  subst e1
  have hl : (ss.drop n).length = ss.length - n := by simp
  have hc := h.cap _ _ _ rfl
  refine ⟨⟨_, _, by rw [hl], fun hp => ?_⟩, fun c2 hc2 => (by injection hc2 with e; cases e), by have := h.short; omega, fun p2 n2 c2 hc2 => by injection hc2 with _ e2 e3; omega⟩
  rw [hl] at hp
  obtain ⟨g', off', q1, q2, q3⟩ := h1 (by omega)
  injection q1 with q1
  injection q1 with q1 q4
  subst q1
  subst q4
  refine ⟨g, off + n, rfl, q2, fun i hi => ?_⟩
  rw [hl] at hi
  rw [Nat.add_assoc, q3 (n + i) (by omega), List.getD_eq_getElem?_getD, List.getD_eq_getElem?_getD, List.getElem?_drop]
set_option maxRecDepth 20000 in
set_option maxHeartbeats 4000000 in
/-- a change that is what it should be is told so -/
theorem lRight_ok (x : Cg) (l : List Cl) (name : ByteArray) (v : Value) (w : World) (ro : RdS w x.vo x.c.old) (rn : RdS w x.vn x.c.new) (rf : RdI w x.vf x.c.frm) (h : RdC w v l) (c : Nat) (hc : c < l.length) (hcls : x.c.cls = (c : Int) + 1)
    (hnd : x.c.new.Nodup) (hfrm : x.c.frm = x.c.new.map (amongZ x.c.old)) (hsuf : (clAt l c).name = name ∨ ∃ m, x.c.new = m ++ (clAt l c).own) :
    Calls Try.prog 19 #[.agg #[.int .i64 x.c.cls, x.vo, x.vn, x.vf], v, .string name] w fun e w' => e = .returned (.bool true) ∧ Fr [] w w' := by
  obtain ⟨⟨cls, old, new, frm⟩, vo, vn, vf⟩ := x
  dsimp only at *
  subst hcls
  have hfl : frm.length = new.length := by rw [hfrm, List.length_map]
  have hfg : ∀ j, j < new.length → frm.getD j 0 = amongZ old (new.getD j ⟨#[]⟩) := fun j hj => by
    rw [hfrm, List.getD_eq_getElem?_getD, List.getElem?_map, List.getD_eq_getElem?_getD, List.getElem?_eq_getElem hj]; rfl
  have HO := mkHid (h.own c hc)
  obtain ⟨pv, c0, rfl, hcell⟩ := h.at_
  have s1 := h.short
  obtain ⟨g, off, rfl, x1, x2⟩ := hcell (by omega)
  obtain ⟨k0, k1, k2, k3⟩ := x2 c hc
  obtain ⟨pn, cn, rfl, hn⟩ := rn.at_
  obtain ⟨pf, cf, rfl, hf⟩ := rf.at_
  obtain ⟨po, co, rfl, _⟩ := ro.at_
  obtain ⟨px, cx, ex, hx⟩ := HO.out.at_
  have sn := rn.short
  have capn := rn.cap _ _ _ rfl
  rw [hfl] at hf ⊢
  obtain ⟨W0, hW0⟩ : ∃ W0, W0 = w.alloc (.cells #[.int .i64 ((c : Int) + 1), .slice po old.length co, .slice pn new.length cn, .slice pf new.length cf] 36) := ⟨_, rfl⟩
  have F0 : Fr [] w W0 := by rw [hW0]; exact Fr.alloc [] _ _
  have hB : W0.heap[w.heap.size]? = some (.cells #[.int .i64 ((c : Int) + 1), .slice po old.length co, .slice pn new.length cn, .slice pf new.length cf] 36 (0, 0)) := by rw [hW0]; exact heap_alloc_new w _
  obtain ⟨b, hb⟩ : ∃ b, b = w.heap.size := ⟨_, rfl⟩
  rw [← hb] at hB
  have HRn : Hid (RdS W0 (.slice pn new.length cn) new) := mkHid (rn.idle F0)
  have HRo : Hid (RdS W0 (.slice po old.length co) old) := mkHid (ro.idle F0)
  have HCx : Hid (∀ W, Fr [] W0 W → W.cell? ⟨b, 0, none⟩ = some (.int .i64 ((c : Int) + 1)) ∧ W.cell? ⟨b, 1, none⟩ = some (.slice po old.length co) ∧ W.cell? ⟨b, 2, none⟩ = some (.slice pn new.length cn) ∧ W.cell? ⟨b, 3, none⟩ = some (.slice pf new.length cf)) := mkHid (fun W hW => by
    have hb := (hW.block b (lt_of_heap hB) (by simp)).trans hB
    exact ⟨by rw [cell_in hb]; rfl, by rw [cell_in hb]; rfl, by rw [cell_in hb]; rfl, by rw [cell_in hb]; rfl⟩)
  have HT : Hid (∀ W, Fr [] W0 W → ∀ j, j < new.length → ∃ gn on gf of, pn = some ⟨gn, on, none⟩ ∧ pf = some ⟨gf, of, none⟩ ∧ W.cell? ⟨gn, on + j, none⟩ = some (.string (new.getD j ⟨#[]⟩)) ∧ W.cell? ⟨gf, of + j, none⟩ = some (.int .i64 (amongZ old (new.getD j ⟨#[]⟩)))) := mkHid (fun W hW j hj => by
    have hF := F0.trans hW (by simp)
    obtain ⟨gn, on, e1, q1, q2⟩ := hn (by omega)
    obtain ⟨gf, of, e2, q3, q4⟩ := hf (by omega)
    exact ⟨gn, on, gf, of, e1, e2, (hF.cell (p := ⟨gn, on + j, none⟩) q1 (by simp)).trans (q2 j hj), by rw [(hF.cell (p := ⟨gf, of + j, none⟩) q3 (by simp)), q4 j (by omega), hfg j hj]⟩)
  have HC : Hid (∀ W, Fr [] W0 W → W.cell? ⟨g, off + c * 4, none⟩ = some (.string (clAt l c).name) ∧ W.cell? ⟨g, off + c * 4 + 1, none⟩ = some (.string (clAt l c).sup) ∧ W.cell? ⟨g, off + c * 4 + 2, none⟩ = some (.slice px (clAt l c).own.length cx) ∧ W.cell? ⟨g, off + c * 4 + 3, none⟩ = some (.int .i64 (clAt l c).lay)) := mkHid (fun W hW => by
    have hF := F0.trans hW (by simp)
    exact ⟨(hF.cell (p := ⟨g, off + c * 4, none⟩) x1 (by simp)).trans k0, (hF.cell (p := ⟨g, off + c * 4 + 1, none⟩) x1 (by simp)).trans k1, by rw [(hF.cell (p := ⟨g, off + c * 4 + 2, none⟩) x1 (by simp)), k2, ex], (hF.cell (p := ⟨g, off + c * 4 + 3, none⟩) x1 (by simp)).trans k3⟩)
  have HNd := mkHid hnd
  have HF0 := mkHid F0
  rw [ex] at HO
  have HOw : Hid (RdS W0 (.slice px (clAt l c).own.length cx) (clAt l c).own) := mkHid (HO.out.idle F0)
  clear h hcell x1 x2 k0 k1 k2 k3 rn rf ro hn hf hx ex F0 hfrm hnd hB HO hfl hfg
  have c1 : (0 : Int) ≤ (c : Int) := by omega
  have c2 : (c : Int) < (l.length : Int) := by omega
  have HW0 := mkHid hW0
  have Hb := mkHid hb
  clear hW0 hb
  go_enter Try.func19, Try.ntmps19
  go_wp2_with fail
  rw [← HW0.out, ← Hb.out]
  clear HW0 Hb
  go_loopw [7] (fun q wr => ∃ j : Nat, j ≤ new.length ∧ q = .int .i64 j ∧ Hid (Fr [] W0 wr)) (fun q _ => new.length - (intOf q).toNat)
  case atStart => exact ⟨0, Nat.zero_le _, rfl, mkHid (Fr.refl _ _)⟩
  case round =>
    obtain ⟨j, hj, rfl, hfr⟩ := hrel
    have j1 : (0 : Int) ≤ (j : Int) := by omega
    obtain ⟨u0, u1, u2, u3⟩ := HCx.out wr hfr.out
    by_cases hlt : j < new.length
    · have j2 : (j : Int) < (new.length : Int) := by omega
      obtain ⟨gn, on, gf, of, rfl, rfl, y1, y2⟩ := HT.out wr hfr.out j hlt
      have HW : Hid (∀ N U s, (∃ ss, RdS wr U ss) → Calls Try.prog 44 #[U, .string s] (wr.drewN N) fun e w' => e = .returned (.int .i64 (whereV wr U s)) ∧ w' = wr.drewN N) := mkHid (fun N U s ⟨ss, hU⟩ => by
        rw [whereV_eq hU]; exact lWhere_ok ss s U _ (hU.idle (Fr.drewN _ _ _)))
      have ew1 : whereV wr (.slice (some ⟨gn, on, none⟩) new.length cn) (new.getD j ⟨#[]⟩) = (j : Int) := by
        rw [whereV_eq (HRn.out.idle hfr.out), amongZ_nodup HNd.out hlt]
      have ew2 : whereV wr (.slice po old.length co) (new.getD j ⟨#[]⟩) = amongZ old (new.getD j ⟨#[]⟩) := whereV_eq (HRo.out.idle hfr.out) _
      have E1 : Hid (∃ ss, RdS wr (.slice (some ⟨gn, on, none⟩) new.length cn) ss) := mkHid ⟨_, HRn.out.idle hfr.out⟩
      have E2 : Hid (∃ ss, RdS wr (.slice po old.length co) ss) := mkHid ⟨_, HRo.out.idle hfr.out⟩
      clear HT HC HRn HRo HNd HOw
      generalize new.getD j ⟨#[]⟩ = x at *
      generalize amongZ old x = z at *
      go_wp2_with fail
      go_quiet ((go_at_call 44; exact Calls.quiet_of_same (HW.out _ _ _ (by first | exact E1.out | exact E2.out))))
      go_wp2_with fail
      go_roundw
      case rel => exact ⟨j + 1, by omega, by go_num, mkHid (hfr.out.trans (Fr.drewN [] _ _) (by simp))⟩
      case measure => simp [intOf]; omega
    · have hje : j = new.length := by omega
      subst hje
      obtain ⟨v0, v1, v2, v3⟩ := HC.out wr hfr.out
      have HSuf := mkHid hsuf
      have HRw := mkHid (HRn.out.idle hfr.out)
      have HOx := mkHid (HOw.out.idle hfr.out)
      have hF := HF0.out.trans hfr.out (by simp)
      have HFw := mkHid hF
      have hl3 := World.block_lt_of_cell? wr _ u2
      have HA3 : Hid (∀ o, (wr.alloc o).cell? ⟨b, 2, none⟩ = some (.slice pn new.length cn)) := mkHid (fun o => ((Fr.alloc [] wr o).cell (p := ⟨b, 2, none⟩) hl3 (by simp)).trans u2)
      clear HT HC HRn HRo HNd HOw hsuf hF
      generalize hown : (clAt l c).own = X at *
      generalize hnam : (clAt l c).name = nm at *
      clear hown hnam
      generalize (clAt l c).sup = sp at *
      generalize (clAt l c).lay = ly at *
      by_cases hnm : nm = name
      · have hbb : (nm.toList == name.toList) = true := by rw [tl_eq]; exact decide_eq_true hnm
        clear HSuf hnm HRw HOx
        go_wp2_with fail
        go_ret
        exact ⟨rfl, HFw.out.trans (Fr.alloc [] _ _) (by simp)⟩
      · have hbb : (nm.toList == name.toList) = false := by rw [tl_eq]; exact decide_eq_false hnm
        obtain ⟨m, hm⟩ := HSuf.out.resolve_left hnm
        subst hm
        rw [List.length_append] at *
        obtain ⟨V, hV⟩ : ∃ V, V = wr.alloc (.cells #[.string nm, .string sp, .slice px X.length cx, .int .i64 ly] 47) := ⟨_, rfl⟩
        have FV : Fr [] wr V := by rw [hV]; exact Fr.alloc [] _ _
        have HSm : Hid (∀ N U Y, (∃ ss, RdS V U ss) → (∃ ts, RdS V Y ts) → Calls Try.prog 21 #[U, Y] (V.drewN N) fun e w' => e = .returned (.bool (sameV V U Y)) ∧ ∃ m, w' = (V.drewN N).drewN m) := mkHid (fun N U Y ⟨ss, hU⟩ ⟨ts, hY⟩ => by
          rw [sameV_eq hU hY]
          exact lSame_ok ss ts U Y _ (hU.idle (Fr.drewN _ _ _)) (hY.idle (Fr.drewN _ _ _)))
        have hRX := HOx.out.idle FV
        have EX : Hid (∃ ss, RdS V (.slice px X.length cx) ss) := mkHid ⟨_, hRX⟩
        have FVw : Hid (Fr [] w V) := mkHid (HFw.out.trans FV (by simp))
        have a2 := HA3.out (.cells #[.string nm, .string sp, .slice px X.length cx, .int .i64 ly] 47)
        rw [← hV] at a2
        have a3 : V.cell? ⟨wr.heap.size, 2, none⟩ = some (.slice px X.length cx) := by
          have : V.heap[wr.heap.size]? = some (.cells #[.string nm, .string sp, .slice px X.length cx, .int .i64 ly] 47 (0, 0)) := by rw [hV]; exact heap_alloc_new _ _
          rw [cell_in this]; rfl
        have HVe := mkHid hV
        have m1 : ((m.length : Int) + (X.length : Int)) - (X.length : Int) = (m.length : Int) := by omega
        have m2 : (m.length : Int) ≤ (m.length : Int) + (X.length : Int) := by omega
        have m3 : (0 : Int) ≤ (m.length : Int) := by omega
        have m4 : (m.length : Int) + (X.length : Int) ≤ (cn : Int) := by omega
        by_cases hpos : 0 < m.length + X.length
        · obtain ⟨pq, cq, eq, hq⟩ := HRw.out.at_
          rw [List.length_append] at eq hq
          injection eq with eq1 eq2 eq3
          subst eq1
          obtain ⟨gn, on, rfl, _, _⟩ := hq hpos
          have hRD : RdS V (.slice (if cn = m.length then some ⟨gn, on, none⟩ else some ⟨gn, on + m.length, none⟩) X.length (cn - m.length)) X := by
            have h0 := HRw.out.idle FV
            rw [← List.length_append] at h0
            have h1 := RdS.back (n := m.length) h0 (by simp)
            rw [List.drop_left, List.length_append, Nat.add_sub_cancel_left] at h1
            by_cases e : cn = m.length
            · rw [if_pos e]
              have hX0 : X = [] := List.length_eq_zero_iff.1 (by omega)
              subst hX0
              exact ⟨⟨_, _, rfl, fun h => by simp at h⟩, fun c2 hc2 => (by injection hc2 with e; cases e), by simp, h1.cap_any⟩
            · rw [if_neg e]; exact h1
          have E1 : Hid (∃ ss, RdS V (.slice (if cn = m.length then some ⟨gn, on, none⟩ else some ⟨gn, on + m.length, none⟩) X.length (cn - m.length)) ss) := mkHid ⟨_, hRD⟩
          have eo : sameV V (.slice (if cn = m.length then some ⟨gn, on, none⟩ else some ⟨gn, on + m.length, none⟩) X.length (cn - m.length)) (.slice px X.length cx) = true := by rw [sameV_eq hRD hRX]; exact decide_eq_true rfl
          have HEo := mkHid eo
          clear eo
          clear hV HRw HOx hRX hRD hq eq2 eq3 FV HSuf hnm HA3
          go_wp2_with fail
          rw [← HVe.out]
          clear HVe
          go_quiet ((go_at_call 21; exact Calls.quiet_of (HSm.out _ _ _ (by exact E1.out) (by exact EX.out))))
          rw [HEo.out]
          go_wp2_with fail
          all_goals
            go_ret
            exact ⟨rfl, FVw.out.trans (Fr.drewN [] _ _) (by simp)⟩
        · have hm0 : m = [] := List.length_eq_zero_iff.1 (by omega)
          have hX0 : X = [] := List.length_eq_zero_iff.1 (by omega)
          subst hm0
          subst hX0
          have HE : Hid (∀ q c, c ≤ 9223372036854775807 → (q = none → c = 0) → RdS V (.slice q 0 c) []) := mkHid (fun q c h1 h2 => ⟨⟨q, c, rfl, fun h => by simp at h⟩, fun c2 hc2 => (by injection hc2 with e1 e2 e3; rw [← e3]; exact h2 e1), by simp, fun p2 n2 c2 hc2 => by injection hc2 with _ e2 e3; omega⟩)
          have HEq : Hid (∀ q c, c ≤ 9223372036854775807 → (q = none → c = 0) → sameV V (.slice q 0 c) (.slice px 0 cx) = true) := mkHid (fun q c h1 h2 => (sameV_eq (HE.out q c h1 h2) hRX).trans (decide_eq_true rfl))
          have hnil := HRw.out.nil
          have cc : cn ≤ 9223372036854775807 := capn.2
          clear hV HRw HOx hRX FV HSuf hnm HA3 m1 m2 m3 m4 hpos capn
          simp only [List.length_nil, Nat.add_zero] at *
          cases pn with
          | none =>
            have hc0 : cn = 0 := hnil cn rfl
            subst hc0
            clear hnil
            go_wp2_with fail
            rw [← HVe.out]
            clear HVe
            go_quiet ((go_at_call 21; exact Calls.quiet_of (HSm.out _ _ _ (by exact ⟨[], HE.out _ _ (by omega) (by simp)⟩) (by exact EX.out))))
            rw [HEq.out _ _ (by omega) (by simp)]
            go_wp2_with fail
            go_ret
            exact ⟨rfl, FVw.out.trans (Fr.drewN [] _ _) (by simp)⟩
          | some a =>
            clear hnil
            go_wp2_with fail
            rw [← HVe.out]
            clear HVe
            go_quiet ((go_at_call 21; exact Calls.quiet_of (HSm.out _ _ _ (by exact ⟨[], HE.out _ _ (by omega) (by first | simp | (split <;> simp))⟩) (by exact EX.out))))
            rw [HEq.out _ _ (by omega) (by first | simp | (split <;> simp))]
            go_wp2_with fail
            all_goals
              go_ret
              exact ⟨rfl, FVw.out.trans (Fr.drewN [] _ _) (by simp)⟩
end Go.Proofs.Ytblbjgifhgfifaa
