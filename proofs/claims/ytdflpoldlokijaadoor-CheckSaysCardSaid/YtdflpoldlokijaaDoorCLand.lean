import Derived.Test.YtdflpoldlokijaaDoorCLand0
import Derived.WalkMore
namespace Go.Proofs.YtdflpoldlokijaaDoor
open Go.RowKit
set_option linter.unusedVariables false
set_option linter.unusedSimpArgs false
attribute [local go_sem ↓] Go.wp_at_zero Go.wp_at_succ
set_option maxRecDepth 100000 in
set_option maxHeartbeats 8000000 in
theorem jumpsLand_ok {w : World} {B a : Nat} {C : Cx} {wv : Value} {sc : List Nat} {ps : Option Addr} {cs : Nat} {pls : List Pl} {pp : Option Addr} {k : Nat} (h : RR w B a C wv sc ps cs pls pp k) (hB : B ≤ w.heap.size)
    (hJ : ∀ i, i < pls.length → 4 ≤ (shp (plD pls i).op).kind → i < (plD pls i).fin ∧ (plD pls i).fin ≤ C.ws.length) :
    Calls Tryd.prog 26 #[.pointer (some ⟨a, 0, none⟩)] w fun e w' => ∃ b, e = .returned (.bool b) ∧ Kw B w w' ∧ ((List.range pls.length).all (landP C pls) = b) ∧ (b = true → RR w' B a C wv sc ps cs (jumpN C pls pls.length) pp k) := by
  have hsh := h.short
  have hplen := h.plen
  obtain ⟨-, -, -, -, -, -, -, -, c8⟩ := h.cells
  have HH := mkHid h
  have HJ := mkHid hJ
  have hn : (pls.length : Int) ≤ 4096 := by omega
  have HPl := mkHid hplen
  clear h hJ hplen
  go_enter Tryd.func26, Tryd.ntmps26
  go_wp2_with fail
  go_step3
  go_wp2_with fail
  go_step3
  go_wp2_with fail
  go_loopw [10] (fun q wr => ∃ i : Nat, i ≤ pls.length ∧ q = .int .i64 i ∧ Hid (RR wr B a C wv sc ps cs (jumpN C pls i) pp k ∧ Kw B w wr ∧ ∀ j, j < i → landP C pls j = true)) (fun q _ => pls.length - (intOf q).toNat)
  case atStart => exact ⟨0, Nat.zero_le _, rfl, by rw [jumpN_zero]; exact HH.out, Kw.refl _ _, fun j hj => by omega⟩
  case round =>
    clear c8
    obtain ⟨i, hin, rfl, hst⟩ := hrel
    have i0 : (0 : Int) ≤ (i : Int) := by omega
    by_cases hlt : i < pls.length
    · have i1 : (i : Int) < (pls.length : Int) := by omega
      obtain ⟨hr, hk, hl⟩ := hst.out
      have hlen := jumpN_len C pls i
      obtain ⟨-, -, -, -, -, -, -, -, c8⟩ := hr.cells
      rw [hlen] at c8
      obtain ⟨gp, rfl, hgB, y0, y1, y2, y3, y4, y5⟩ := hr.place i (by rw [hlen]; exact hlt)
      rw [jumpN_ge C pls i i (Nat.le_refl _)] at y0 y1 y2 y3 y4 y5
      obtain ⟨p, hp⟩ : ∃ p, plD pls i = p := ⟨_, rfl⟩
      rw [hp] at y0 y1 y2 y3 y4 y5
      simp only [I] at y0 y1 y3 y5
      have hB1 : B ≤ wr.heap.size := Nat.le_trans hB hk.size
      have HSH : Hid (Calls Tryd.prog 44 #[.int .i64 p.op] wr fun e w' => e = .returned (shv (shp p.op)) ∧ Fr [] wr w') := shapeOf_ok _ _ hr.tb
      have HJi := HJ.out i hlt
      have hlnd : ∀ t, 4 ≤ (shp p.op).kind → toP C p i = some t → landP C pls i = decide ((plD pls t).body = p.body) := fun t h4 ht => by rw [← hp]; exact land_some (by rw [hp]; exact h4) (by rw [hp]; exact ht)
      have hlnn : 4 ≤ (shp p.op).kind → toP C p i = none → landP C pls i = false := fun h4 ht => land_none (by rw [hp]; exact h4) (by rw [hp]; exact ht)
      have hsuc := jumpN_succ C pls i hlt
      have hfalse : landP C pls i = false → (List.range pls.length).all (landP C pls) = false := fun h => by
        rw [List.all_eq_false]; exact ⟨i, by simpa using hlt, by simp [h]⟩
      rw [hp] at HJi hsuc
      have hk7 := (sh_le p.op).2.2.2.1
      have HR := mkHid hr
      have HK := mkHid hk
      have HL := mkHid hl
      have HFa := mkHid hfalse
      have HSu := mkHid hsuc
      have hgne : gp ≠ a := fun e => by
        obtain ⟨cur, hc⟩ := row_block hr.pl (g := gp) rfl
        exact ty_ne hc hr.top (by decide) e
      have hla := lt_of_heap hr.top
      have hlg := (own_lt hr.pl gp rfl).2
      have HPp := mkHid hp
      by_cases h4 : 4 ≤ (shp p.op).kind
      · obtain ⟨j1, j2⟩ := HJi h4
        have HON : Hid (∀ V, Fr [] wr V → Calls Tryd.prog 45 #[.pointer (some ⟨a, 0, none⟩), .pointer (some ⟨gp, i * 6, none⟩)] V fun e w' => e = .returned (.int .i64 (onwP C p.fin)) ∧ ∃ n, w' = V.drewN n) := fun V hV => onward_ok (hr.idle hV) gp (i * 6) p.fin (hV.cl y3) (by omega) j2
        have HBW : Hid (∀ V, Fr [] wr V → Calls Tryd.prog 46 #[.pointer (some ⟨a, 0, none⟩), .pointer (some ⟨gp, i * 6, none⟩), .int .i64 i] V fun e w' => e = .returned (.int .i64 (bwdP C p.fin i)) ∧ ∃ n, w' = V.drewN n) := fun V hV => backward_ok (hr.idle hV) gp (i * 6) p.fin (hV.cl y3) (by omega) j2 i j1
        have HLs := mkHid (fun t ht => hlnd t h4 ht)
        have HLn := mkHid (hlnn h4)
        have HGo : Hid (∀ t, toP C p i = some t → jumpN C pls (i + 1) = (jumpN C pls i).set i ((plD (jumpN C pls i) i).toSet t)) := fun t ht => by rw [HSu.out, goto_yes h4 ht, jumpN_ge C pls i i (Nat.le_refl _), HPp.out]
        have tc45 : (shp p.op).kind = 4 ∨ (shp p.op).kind = 5 → (toP C p i = none ∧ onwP C p.fin = -1) ∨ ∃ t, toP C p i = some t ∧ onwP C p.fin = (t : Int) ∧ t < C.ws.length := toP_on
        have tc67 : (shp p.op).kind = 6 ∨ (shp p.op).kind = 7 → (toP C p i = none ∧ bwdP C p.fin i = -1) ∨ ∃ t, toP C p i = some t ∧ bwdP C p.fin i = (t : Int) ∧ t < C.ws.length := fun h => toP_bw h j2 j1
        generalize hS : shp p.op = s at *
        obtain ⟨kd, od, tk, on, jp⟩ := s
        simp only [shv, I] at HSH h4 hk7 tc45 tc67
        have HFr3 : Hid (∀ w1 n v, Fr [] wr w1 → Kw B w ((w1.drewN n).setCell ⟨gp, i * 6 + 5, none⟩ v)) := fun w1 n v f1 => HK.out.trans (((f1.dn n).kw hB1 (by simp)).trans ((Fr.setCell (S := [gp]) (w1.drewN n) ⟨gp, i * 6 + 5, none⟩ v (by simp)).kw (Nat.le_trans hB1 f1.size) (fun x hx => by simp at hx; rw [hx]; exact hgB)))
        have HRR : Hid (∀ w1 n t, Fr [] wr w1 → toP C p i = some t → RR ((w1.drewN n).setCell ⟨gp, i * 6 + 5, none⟩ (.int .i64 (t : Int))) B a C wv sc ps cs (jumpN C pls (i + 1)) (some ⟨gp, 0, none⟩) k) := fun w1 n t f1 ht => by
          rw [HGo.out t ht]
          exact (hr.idle (f1.dn n)).to_ i (by rw [hlen]; exact hlt) t
        have hcl : ∀ w1, Fr [] wr w1 → w1.cell? ⟨a, 8, none⟩ = some (.slice (some ⟨gp, 0, none⟩) pls.length pls.length) ∧ w1.cell? ⟨gp, i * 6 + 1, none⟩ = some (.int .i64 (p.body : Int)) ∧ w1.cell? ⟨gp, i * 6 + 5, none⟩ = some (.int .i64 (p.to : Int)) ∧ w1.frozen? ⟨gp, i * 6 + 5, none⟩ = false ∧ a < w1.heap.size ∧ gp < w1.heap.size := fun w1 f1 => by
          have h1 := hr.idle f1
          obtain ⟨cur, hc⟩ := row_block h1.pl (g := gp) rfl
          exact ⟨f1.cl c8, f1.cl y1, f1.cl y5, frozen_in hc _, lt_of_heap h1.top, (own_lt h1.pl gp rfl).2⟩
        have hbt : ∀ w1 t, Fr [] wr w1 → t < C.ws.length → w1.cell? ⟨gp, t * 6 + 1, none⟩ = some (.int .i64 ((plD pls t).body : Int)) := fun w1 t f1 ht => by
          obtain ⟨g2, e2, -, -, z1, -⟩ := (hr.idle f1).place t (by rw [hlen, HPl.out]; exact ht)
          injection e2 with e2
          injection e2 with e2
          subst e2
          rw [jumpN_body] at z1
          exact z1
        have HCl := mkHid hcl
        have HBt := mkHid hbt
        clear hst hr hk hl hp HJi hlnd hlnn hsuc hfalse hlen hcl hbt hS HJ HH
        rcases (show kd = 4 ∨ kd = 5 ∨ kd = 6 ∨ kd = 7 by omega) with rfl | rfl | rfl | rfl
        · rcases tc45 (by decide) with ⟨tn, ov⟩ | ⟨t, tn, ov, tl⟩
          · rw [ov] at HON
            have HFl := mkHid (HFa.out (HLn.out tn))
            clear tc45 tc67 ov tn
            go_wp2_with (first | (go_at_call 44; refine HSH.out.mono ?_; rintro e w1 ⟨rfl, f1⟩; obtain ⟨z1, z2, z3, z4, z5, z6⟩ := HCl.out w1 f1; have F1 := mkHid f1; clear f1) | (go_at_call 45; refine (HON.out w1 F1.out).mono ?_; rintro e w2 ⟨rfl, n2, rfl⟩) | (refine wpList_field rfl 99 (.tmp 23) 0 rfl (.int .i64 4) (by go_simp; rfl) ?_))
            obtain ⟨W, hW⟩ : ∃ W, (w1.drewN n2).setCell ⟨gp, i * 6 + 5, none⟩ (.int .i64 (-1)) = W := ⟨_, rfl⟩
            rw [hW]
            have u5 : W.cell? ⟨gp, i * 6 + 5, none⟩ = some (.int .i64 (-1)) := by
              rw [← hW]; obtain ⟨cur, hc⟩ := row_block (HR.out.idle (F1.out.dn n2)).pl (g := gp) rfl
              rw [cell_in (set_in hc _ _)]
              have hz : w1.cell? ⟨gp, i * 6 + 5, none⟩ = cur[i * 6 + 5]? := cell_in (w := w1) hc _
              rw [z3] at hz
              obtain ⟨hs, -⟩ := Array.getElem?_eq_some_iff.1 hz.symm
              simp [hs]
            have HKW : Hid (Kw B w W) := by rw [← hW]; exact HFr3.out w1 n2 _ F1.out
            clear hW z1 z2 z3 z4 z5 z6
            go_quiet (fail)
            go_wp2_with fail
            rw [Exit.noGoto_ret]
            go_wp2_with fail
            go_ret
            exact ⟨false, rfl, HKW.out.trans ((Fr.drewN [] W _).kw (Nat.le_trans hB HKW.out.size) (by simp)), HFl.out, fun h => by cases h⟩
          · rw [ov] at HON
            have HLs2 := mkHid (HLs.out t tn)
            have HT := mkHid tn
            have tl2 : (t : Int) < (pls.length : Int) := by have := HPl.out; omega
            have t0 : (0 : Int) ≤ (t : Int) := by omega
            have dt : ((t : Int) == -1) = false := beq_eq_false_iff_ne.2 (by omega)
            clear tc45 tc67 ov tn
            have HBtt := mkHid (fun w1 f1 => HBt.out w1 t f1 tl)
            have HRb : Hid (∀ W, RR W B a C wv sc ps cs (jumpN C pls (i + 1)) (some ⟨gp, 0, none⟩) k → W.cell? ⟨a, 8, none⟩ = some (.slice (some ⟨gp, 0, none⟩) pls.length pls.length) ∧ W.cell? ⟨gp, i * 6 + 1, none⟩ = some (.int .i64 (p.body : Int)) ∧ W.cell? ⟨gp, t * 6 + 1, none⟩ = some (.int .i64 ((plD pls t).body : Int))) := fun W hW => by
              have hl2 := jumpN_len C pls (i + 1)
              obtain ⟨-, -, -, -, -, -, -, -, c8⟩ := hW.cells
              obtain ⟨g2, e2, -, -, q1, -⟩ := hW.place i (by rw [hl2]; exact hlt)
              obtain ⟨g3, e3, -, -, q2, -⟩ := hW.place t (by rw [hl2, HPl.out]; exact tl)
              injection e2 with e2
              injection e2 with e2
              injection e3 with e3
              injection e3 with e3
              subst e2 e3
              rw [jumpN_body] at q1 q2
              rw [HPp.out] at q1
              rw [hl2] at c8
              exact ⟨c8, q1, q2⟩
            by_cases hb : (plD pls t).body = p.body
            · have HSt : Hid (landP C pls i = true) := by show landP C pls i = true; rw [HLs2.out]; exact decide_eq_true hb
              go_wp2_with (first | (go_at_call 44; refine HSH.out.mono ?_; rintro e w1 ⟨rfl, f1⟩; obtain ⟨z1, z2, z3, z4, z5, z6⟩ := HCl.out w1 f1; have F1 := mkHid f1; clear f1) | (go_at_call 45; refine (HON.out w1 F1.out).mono ?_; rintro e w2 ⟨rfl, n2, rfl⟩) | (refine wpList_field rfl 99 (.tmp 23) 0 rfl (.int .i64 4) (by go_simp; rfl) ?_))
              obtain ⟨W, hW⟩ : ∃ W, (w1.drewN n2).setCell ⟨gp, i * 6 + 5, none⟩ (.int .i64 (t : Int)) = W := ⟨_, rfl⟩
              rw [hW]
              have HRW : Hid (RR W B a C wv sc ps cs (jumpN C pls (i + 1)) (some ⟨gp, 0, none⟩) k) := by rw [← hW]; exact HRR.out w1 n2 t F1.out HT.out
              have HKW : Hid (Kw B w W) := by rw [← hW]; exact HFr3.out w1 n2 _ F1.out
              obtain ⟨u1, u2, u3⟩ := HRb.out W HRW.out
              rw [hb] at u3
              have u5 : W.cell? ⟨gp, i * 6 + 5, none⟩ = some (.int .i64 (t : Int)) := by
                obtain ⟨g2, e2, -, -, -, -, -, -, q5⟩ := HRW.out.place i (by rw [jumpN_len]; exact hlt)
                injection e2 with e2
                injection e2 with e2
                subst e2
                rw [HGo.out t HT.out, plD_set_eq _ _ _ (by rw [jumpN_len]; exact hlt)] at q5
                exact q5
              clear hW z1 z2 z3 z4 z5 z6 HLs2 hb
              generalize p.body = bo at *
              go_quiet (fail)
              go_wp2_with fail
              go_roundw
              case rel =>
                refine ⟨i + 1, by omega, by go_num, HRW.out.idle (Fr.drewN [] W _), HKW.out.trans ((Fr.drewN [] W _).kw (Nat.le_trans hB HKW.out.size) (by simp)), fun j hj => ?_⟩
                by_cases e : j = i
                · rw [e]; exact HSt.out
                · exact HL.out j (by omega)
              case measure => simp [intOf]; omega
            · have HFl : Hid ((List.range pls.length).all (landP C pls) = false) := HFa.out (by rw [HLs2.out]; exact decide_eq_false hb)
              have nb : (((plD pls t).body : Int) != (p.body : Int)) = true := by simpa using (show ¬ ((plD pls t).body : Int) = (p.body : Int) by omega)
              go_wp2_with (first | (go_at_call 44; refine HSH.out.mono ?_; rintro e w1 ⟨rfl, f1⟩; obtain ⟨z1, z2, z3, z4, z5, z6⟩ := HCl.out w1 f1; have F1 := mkHid f1; clear f1) | (go_at_call 45; refine (HON.out w1 F1.out).mono ?_; rintro e w2 ⟨rfl, n2, rfl⟩) | (refine wpList_field rfl 99 (.tmp 23) 0 rfl (.int .i64 4) (by go_simp; rfl) ?_))
              obtain ⟨W, hW⟩ : ∃ W, (w1.drewN n2).setCell ⟨gp, i * 6 + 5, none⟩ (.int .i64 (t : Int)) = W := ⟨_, rfl⟩
              rw [hW]
              have HRW : Hid (RR W B a C wv sc ps cs (jumpN C pls (i + 1)) (some ⟨gp, 0, none⟩) k) := by rw [← hW]; exact HRR.out w1 n2 t F1.out HT.out
              have HKW : Hid (Kw B w W) := by rw [← hW]; exact HFr3.out w1 n2 _ F1.out
              obtain ⟨u1, u2, u3⟩ := HRb.out W HRW.out
              have u5 : W.cell? ⟨gp, i * 6 + 5, none⟩ = some (.int .i64 (t : Int)) := by
                obtain ⟨g2, e2, -, -, -, -, -, -, q5⟩ := HRW.out.place i (by rw [jumpN_len]; exact hlt)
                injection e2 with e2
                injection e2 with e2
                subst e2
                rw [HGo.out t HT.out, plD_set_eq _ _ _ (by rw [jumpN_len]; exact hlt)] at q5
                exact q5
              clear hW z1 z2 z3 z4 z5 z6 HLs2 hb
              generalize (plD pls t).body = bt at *
              generalize p.body = bo at *
              go_quiet (fail)
              go_wp2_with fail
              rw [Exit.noGoto_ret]
              go_wp2_with fail
              go_ret
              exact ⟨false, rfl, HKW.out.trans ((Fr.drewN [] W _).kw (Nat.le_trans hB HKW.out.size) (by simp)), HFl.out, fun h => by cases h⟩
        · rcases tc45 (by decide) with ⟨tn, ov⟩ | ⟨t, tn, ov, tl⟩
          · rw [ov] at HON
            have HFl := mkHid (HFa.out (HLn.out tn))
            clear tc45 tc67 ov tn
            go_wp2_with (first | (go_at_call 44; refine HSH.out.mono ?_; rintro e w1 ⟨rfl, f1⟩; obtain ⟨z1, z2, z3, z4, z5, z6⟩ := HCl.out w1 f1; have F1 := mkHid f1; clear f1) | (go_at_call 45; refine (HON.out w1 F1.out).mono ?_; rintro e w2 ⟨rfl, n2, rfl⟩) | (refine wpList_field rfl 99 (.tmp 23) 0 rfl (.int .i64 5) (by go_simp; rfl) ?_))
            obtain ⟨W, hW⟩ : ∃ W, (w1.drewN n2).setCell ⟨gp, i * 6 + 5, none⟩ (.int .i64 (-1)) = W := ⟨_, rfl⟩
            rw [hW]
            have u5 : W.cell? ⟨gp, i * 6 + 5, none⟩ = some (.int .i64 (-1)) := by
              rw [← hW]; obtain ⟨cur, hc⟩ := row_block (HR.out.idle (F1.out.dn n2)).pl (g := gp) rfl
              rw [cell_in (set_in hc _ _)]
              have hz : w1.cell? ⟨gp, i * 6 + 5, none⟩ = cur[i * 6 + 5]? := cell_in (w := w1) hc _
              rw [z3] at hz
              obtain ⟨hs, -⟩ := Array.getElem?_eq_some_iff.1 hz.symm
              simp [hs]
            have HKW : Hid (Kw B w W) := by rw [← hW]; exact HFr3.out w1 n2 _ F1.out
            clear hW z1 z2 z3 z4 z5 z6
            go_quiet (fail)
            go_wp2_with fail
            rw [Exit.noGoto_ret]
            go_wp2_with fail
            go_ret
            exact ⟨false, rfl, HKW.out.trans ((Fr.drewN [] W _).kw (Nat.le_trans hB HKW.out.size) (by simp)), HFl.out, fun h => by cases h⟩
          · rw [ov] at HON
            have HLs2 := mkHid (HLs.out t tn)
            have HT := mkHid tn
            have tl2 : (t : Int) < (pls.length : Int) := by have := HPl.out; omega
            have t0 : (0 : Int) ≤ (t : Int) := by omega
            have dt : ((t : Int) == -1) = false := beq_eq_false_iff_ne.2 (by omega)
            clear tc45 tc67 ov tn
            have HBtt := mkHid (fun w1 f1 => HBt.out w1 t f1 tl)
            have HRb : Hid (∀ W, RR W B a C wv sc ps cs (jumpN C pls (i + 1)) (some ⟨gp, 0, none⟩) k → W.cell? ⟨a, 8, none⟩ = some (.slice (some ⟨gp, 0, none⟩) pls.length pls.length) ∧ W.cell? ⟨gp, i * 6 + 1, none⟩ = some (.int .i64 (p.body : Int)) ∧ W.cell? ⟨gp, t * 6 + 1, none⟩ = some (.int .i64 ((plD pls t).body : Int))) := fun W hW => by
              have hl2 := jumpN_len C pls (i + 1)
              obtain ⟨-, -, -, -, -, -, -, -, c8⟩ := hW.cells
              obtain ⟨g2, e2, -, -, q1, -⟩ := hW.place i (by rw [hl2]; exact hlt)
              obtain ⟨g3, e3, -, -, q2, -⟩ := hW.place t (by rw [hl2, HPl.out]; exact tl)
              injection e2 with e2
              injection e2 with e2
              injection e3 with e3
              injection e3 with e3
              subst e2 e3
              rw [jumpN_body] at q1 q2
              rw [HPp.out] at q1
              rw [hl2] at c8
              exact ⟨c8, q1, q2⟩
            by_cases hb : (plD pls t).body = p.body
            · have HSt : Hid (landP C pls i = true) := by show landP C pls i = true; rw [HLs2.out]; exact decide_eq_true hb
              go_wp2_with (first | (go_at_call 44; refine HSH.out.mono ?_; rintro e w1 ⟨rfl, f1⟩; obtain ⟨z1, z2, z3, z4, z5, z6⟩ := HCl.out w1 f1; have F1 := mkHid f1; clear f1) | (go_at_call 45; refine (HON.out w1 F1.out).mono ?_; rintro e w2 ⟨rfl, n2, rfl⟩) | (refine wpList_field rfl 99 (.tmp 23) 0 rfl (.int .i64 5) (by go_simp; rfl) ?_))
              obtain ⟨W, hW⟩ : ∃ W, (w1.drewN n2).setCell ⟨gp, i * 6 + 5, none⟩ (.int .i64 (t : Int)) = W := ⟨_, rfl⟩
              rw [hW]
              have HRW : Hid (RR W B a C wv sc ps cs (jumpN C pls (i + 1)) (some ⟨gp, 0, none⟩) k) := by rw [← hW]; exact HRR.out w1 n2 t F1.out HT.out
              have HKW : Hid (Kw B w W) := by rw [← hW]; exact HFr3.out w1 n2 _ F1.out
              obtain ⟨u1, u2, u3⟩ := HRb.out W HRW.out
              rw [hb] at u3
              have u5 : W.cell? ⟨gp, i * 6 + 5, none⟩ = some (.int .i64 (t : Int)) := by
                obtain ⟨g2, e2, -, -, -, -, -, -, q5⟩ := HRW.out.place i (by rw [jumpN_len]; exact hlt)
                injection e2 with e2
                injection e2 with e2
                subst e2
                rw [HGo.out t HT.out, plD_set_eq _ _ _ (by rw [jumpN_len]; exact hlt)] at q5
                exact q5
              clear hW z1 z2 z3 z4 z5 z6 HLs2 hb
              generalize p.body = bo at *
              go_quiet (fail)
              go_wp2_with fail
              go_roundw
              case rel =>
                refine ⟨i + 1, by omega, by go_num, HRW.out.idle (Fr.drewN [] W _), HKW.out.trans ((Fr.drewN [] W _).kw (Nat.le_trans hB HKW.out.size) (by simp)), fun j hj => ?_⟩
                by_cases e : j = i
                · rw [e]; exact HSt.out
                · exact HL.out j (by omega)
              case measure => simp [intOf]; omega
            · have HFl : Hid ((List.range pls.length).all (landP C pls) = false) := HFa.out (by rw [HLs2.out]; exact decide_eq_false hb)
              have nb : (((plD pls t).body : Int) != (p.body : Int)) = true := by simpa using (show ¬ ((plD pls t).body : Int) = (p.body : Int) by omega)
              go_wp2_with (first | (go_at_call 44; refine HSH.out.mono ?_; rintro e w1 ⟨rfl, f1⟩; obtain ⟨z1, z2, z3, z4, z5, z6⟩ := HCl.out w1 f1; have F1 := mkHid f1; clear f1) | (go_at_call 45; refine (HON.out w1 F1.out).mono ?_; rintro e w2 ⟨rfl, n2, rfl⟩) | (refine wpList_field rfl 99 (.tmp 23) 0 rfl (.int .i64 5) (by go_simp; rfl) ?_))
              obtain ⟨W, hW⟩ : ∃ W, (w1.drewN n2).setCell ⟨gp, i * 6 + 5, none⟩ (.int .i64 (t : Int)) = W := ⟨_, rfl⟩
              rw [hW]
              have HRW : Hid (RR W B a C wv sc ps cs (jumpN C pls (i + 1)) (some ⟨gp, 0, none⟩) k) := by rw [← hW]; exact HRR.out w1 n2 t F1.out HT.out
              have HKW : Hid (Kw B w W) := by rw [← hW]; exact HFr3.out w1 n2 _ F1.out
              obtain ⟨u1, u2, u3⟩ := HRb.out W HRW.out
              have u5 : W.cell? ⟨gp, i * 6 + 5, none⟩ = some (.int .i64 (t : Int)) := by
                obtain ⟨g2, e2, -, -, -, -, -, -, q5⟩ := HRW.out.place i (by rw [jumpN_len]; exact hlt)
                injection e2 with e2
                injection e2 with e2
                subst e2
                rw [HGo.out t HT.out, plD_set_eq _ _ _ (by rw [jumpN_len]; exact hlt)] at q5
                exact q5
              clear hW z1 z2 z3 z4 z5 z6 HLs2 hb
              generalize (plD pls t).body = bt at *
              generalize p.body = bo at *
              go_quiet (fail)
              go_wp2_with fail
              rw [Exit.noGoto_ret]
              go_wp2_with fail
              go_ret
              exact ⟨false, rfl, HKW.out.trans ((Fr.drewN [] W _).kw (Nat.le_trans hB HKW.out.size) (by simp)), HFl.out, fun h => by cases h⟩
        · rcases tc67 (by decide) with ⟨tn, ov⟩ | ⟨t, tn, ov, tl⟩
          · rw [ov] at HBW
            have HFl := mkHid (HFa.out (HLn.out tn))
            clear tc67 tc45 ov tn
            go_wp2_with (first | (go_at_call 44; refine HSH.out.mono ?_; rintro e w1 ⟨rfl, f1⟩; obtain ⟨z1, z2, z3, z4, z5, z6⟩ := HCl.out w1 f1; have F1 := mkHid f1; clear f1) | (go_at_call 46; refine (HBW.out w1 F1.out).mono ?_; rintro e w2 ⟨rfl, n2, rfl⟩) | (refine wpList_field rfl 99 (.tmp 23) 0 rfl (.int .i64 6) (by go_simp; rfl) ?_))
            obtain ⟨W, hW⟩ : ∃ W, (w1.drewN n2).setCell ⟨gp, i * 6 + 5, none⟩ (.int .i64 (-1)) = W := ⟨_, rfl⟩
            rw [hW]
            have u5 : W.cell? ⟨gp, i * 6 + 5, none⟩ = some (.int .i64 (-1)) := by
              rw [← hW]; obtain ⟨cur, hc⟩ := row_block (HR.out.idle (F1.out.dn n2)).pl (g := gp) rfl
              rw [cell_in (set_in hc _ _)]
              have hz : w1.cell? ⟨gp, i * 6 + 5, none⟩ = cur[i * 6 + 5]? := cell_in (w := w1) hc _
              rw [z3] at hz
              obtain ⟨hs, -⟩ := Array.getElem?_eq_some_iff.1 hz.symm
              simp [hs]
            have HKW : Hid (Kw B w W) := by rw [← hW]; exact HFr3.out w1 n2 _ F1.out
            clear hW z1 z2 z3 z4 z5 z6
            go_quiet (fail)
            go_wp2_with fail
            rw [Exit.noGoto_ret]
            go_wp2_with fail
            go_ret
            exact ⟨false, rfl, HKW.out.trans ((Fr.drewN [] W _).kw (Nat.le_trans hB HKW.out.size) (by simp)), HFl.out, fun h => by cases h⟩
          · rw [ov] at HBW
            have HLs2 := mkHid (HLs.out t tn)
            have HT := mkHid tn
            have tl2 : (t : Int) < (pls.length : Int) := by have := HPl.out; omega
            have t0 : (0 : Int) ≤ (t : Int) := by omega
            have dt : ((t : Int) == -1) = false := beq_eq_false_iff_ne.2 (by omega)
            clear tc67 tc45 ov tn
            have HBtt := mkHid (fun w1 f1 => HBt.out w1 t f1 tl)
            have HRb : Hid (∀ W, RR W B a C wv sc ps cs (jumpN C pls (i + 1)) (some ⟨gp, 0, none⟩) k → W.cell? ⟨a, 8, none⟩ = some (.slice (some ⟨gp, 0, none⟩) pls.length pls.length) ∧ W.cell? ⟨gp, i * 6 + 1, none⟩ = some (.int .i64 (p.body : Int)) ∧ W.cell? ⟨gp, t * 6 + 1, none⟩ = some (.int .i64 ((plD pls t).body : Int))) := fun W hW => by
              have hl2 := jumpN_len C pls (i + 1)
              obtain ⟨-, -, -, -, -, -, -, -, c8⟩ := hW.cells
              obtain ⟨g2, e2, -, -, q1, -⟩ := hW.place i (by rw [hl2]; exact hlt)
              obtain ⟨g3, e3, -, -, q2, -⟩ := hW.place t (by rw [hl2, HPl.out]; exact tl)
              injection e2 with e2
              injection e2 with e2
              injection e3 with e3
              injection e3 with e3
              subst e2 e3
              rw [jumpN_body] at q1 q2
              rw [HPp.out] at q1
              rw [hl2] at c8
              exact ⟨c8, q1, q2⟩
            by_cases hb : (plD pls t).body = p.body
            · have HSt : Hid (landP C pls i = true) := by show landP C pls i = true; rw [HLs2.out]; exact decide_eq_true hb
              go_wp2_with (first | (go_at_call 44; refine HSH.out.mono ?_; rintro e w1 ⟨rfl, f1⟩; obtain ⟨z1, z2, z3, z4, z5, z6⟩ := HCl.out w1 f1; have F1 := mkHid f1; clear f1) | (go_at_call 46; refine (HBW.out w1 F1.out).mono ?_; rintro e w2 ⟨rfl, n2, rfl⟩) | (refine wpList_field rfl 99 (.tmp 23) 0 rfl (.int .i64 6) (by go_simp; rfl) ?_))
              obtain ⟨W, hW⟩ : ∃ W, (w1.drewN n2).setCell ⟨gp, i * 6 + 5, none⟩ (.int .i64 (t : Int)) = W := ⟨_, rfl⟩
              rw [hW]
              have HRW : Hid (RR W B a C wv sc ps cs (jumpN C pls (i + 1)) (some ⟨gp, 0, none⟩) k) := by rw [← hW]; exact HRR.out w1 n2 t F1.out HT.out
              have HKW : Hid (Kw B w W) := by rw [← hW]; exact HFr3.out w1 n2 _ F1.out
              obtain ⟨u1, u2, u3⟩ := HRb.out W HRW.out
              rw [hb] at u3
              have u5 : W.cell? ⟨gp, i * 6 + 5, none⟩ = some (.int .i64 (t : Int)) := by
                obtain ⟨g2, e2, -, -, -, -, -, -, q5⟩ := HRW.out.place i (by rw [jumpN_len]; exact hlt)
                injection e2 with e2
                injection e2 with e2
                subst e2
                rw [HGo.out t HT.out, plD_set_eq _ _ _ (by rw [jumpN_len]; exact hlt)] at q5
                exact q5
              clear hW z1 z2 z3 z4 z5 z6 HLs2 hb
              generalize p.body = bo at *
              go_quiet (fail)
              go_wp2_with fail
              go_roundw
              case rel =>
                refine ⟨i + 1, by omega, by go_num, HRW.out.idle (Fr.drewN [] W _), HKW.out.trans ((Fr.drewN [] W _).kw (Nat.le_trans hB HKW.out.size) (by simp)), fun j hj => ?_⟩
                by_cases e : j = i
                · rw [e]; exact HSt.out
                · exact HL.out j (by omega)
              case measure => simp [intOf]; omega
            · have HFl : Hid ((List.range pls.length).all (landP C pls) = false) := HFa.out (by rw [HLs2.out]; exact decide_eq_false hb)
              have nb : (((plD pls t).body : Int) != (p.body : Int)) = true := by simpa using (show ¬ ((plD pls t).body : Int) = (p.body : Int) by omega)
              go_wp2_with (first | (go_at_call 44; refine HSH.out.mono ?_; rintro e w1 ⟨rfl, f1⟩; obtain ⟨z1, z2, z3, z4, z5, z6⟩ := HCl.out w1 f1; have F1 := mkHid f1; clear f1) | (go_at_call 46; refine (HBW.out w1 F1.out).mono ?_; rintro e w2 ⟨rfl, n2, rfl⟩) | (refine wpList_field rfl 99 (.tmp 23) 0 rfl (.int .i64 6) (by go_simp; rfl) ?_))
              obtain ⟨W, hW⟩ : ∃ W, (w1.drewN n2).setCell ⟨gp, i * 6 + 5, none⟩ (.int .i64 (t : Int)) = W := ⟨_, rfl⟩
              rw [hW]
              have HRW : Hid (RR W B a C wv sc ps cs (jumpN C pls (i + 1)) (some ⟨gp, 0, none⟩) k) := by rw [← hW]; exact HRR.out w1 n2 t F1.out HT.out
              have HKW : Hid (Kw B w W) := by rw [← hW]; exact HFr3.out w1 n2 _ F1.out
              obtain ⟨u1, u2, u3⟩ := HRb.out W HRW.out
              have u5 : W.cell? ⟨gp, i * 6 + 5, none⟩ = some (.int .i64 (t : Int)) := by
                obtain ⟨g2, e2, -, -, -, -, -, -, q5⟩ := HRW.out.place i (by rw [jumpN_len]; exact hlt)
                injection e2 with e2
                injection e2 with e2
                subst e2
                rw [HGo.out t HT.out, plD_set_eq _ _ _ (by rw [jumpN_len]; exact hlt)] at q5
                exact q5
              clear hW z1 z2 z3 z4 z5 z6 HLs2 hb
              generalize (plD pls t).body = bt at *
              generalize p.body = bo at *
              go_quiet (fail)
              go_wp2_with fail
              rw [Exit.noGoto_ret]
              go_wp2_with fail
              go_ret
              exact ⟨false, rfl, HKW.out.trans ((Fr.drewN [] W _).kw (Nat.le_trans hB HKW.out.size) (by simp)), HFl.out, fun h => by cases h⟩
        · rcases tc67 (by decide) with ⟨tn, ov⟩ | ⟨t, tn, ov, tl⟩
          · rw [ov] at HBW
            have HFl := mkHid (HFa.out (HLn.out tn))
            clear tc67 tc45 ov tn
            go_wp2_with (first | (go_at_call 44; refine HSH.out.mono ?_; rintro e w1 ⟨rfl, f1⟩; obtain ⟨z1, z2, z3, z4, z5, z6⟩ := HCl.out w1 f1; have F1 := mkHid f1; clear f1) | (go_at_call 46; refine (HBW.out w1 F1.out).mono ?_; rintro e w2 ⟨rfl, n2, rfl⟩) | (refine wpList_field rfl 99 (.tmp 23) 0 rfl (.int .i64 7) (by go_simp; rfl) ?_))
            obtain ⟨W, hW⟩ : ∃ W, (w1.drewN n2).setCell ⟨gp, i * 6 + 5, none⟩ (.int .i64 (-1)) = W := ⟨_, rfl⟩
            rw [hW]
            have u5 : W.cell? ⟨gp, i * 6 + 5, none⟩ = some (.int .i64 (-1)) := by
              rw [← hW]; obtain ⟨cur, hc⟩ := row_block (HR.out.idle (F1.out.dn n2)).pl (g := gp) rfl
              rw [cell_in (set_in hc _ _)]
              have hz : w1.cell? ⟨gp, i * 6 + 5, none⟩ = cur[i * 6 + 5]? := cell_in (w := w1) hc _
              rw [z3] at hz
              obtain ⟨hs, -⟩ := Array.getElem?_eq_some_iff.1 hz.symm
              simp [hs]
            have HKW : Hid (Kw B w W) := by rw [← hW]; exact HFr3.out w1 n2 _ F1.out
            clear hW z1 z2 z3 z4 z5 z6
            go_quiet (fail)
            go_wp2_with fail
            rw [Exit.noGoto_ret]
            go_wp2_with fail
            go_ret
            exact ⟨false, rfl, HKW.out.trans ((Fr.drewN [] W _).kw (Nat.le_trans hB HKW.out.size) (by simp)), HFl.out, fun h => by cases h⟩
          · rw [ov] at HBW
            have HLs2 := mkHid (HLs.out t tn)
            have HT := mkHid tn
            have tl2 : (t : Int) < (pls.length : Int) := by have := HPl.out; omega
            have t0 : (0 : Int) ≤ (t : Int) := by omega
            have dt : ((t : Int) == -1) = false := beq_eq_false_iff_ne.2 (by omega)
            clear tc67 tc45 ov tn
            have HBtt := mkHid (fun w1 f1 => HBt.out w1 t f1 tl)
            have HRb : Hid (∀ W, RR W B a C wv sc ps cs (jumpN C pls (i + 1)) (some ⟨gp, 0, none⟩) k → W.cell? ⟨a, 8, none⟩ = some (.slice (some ⟨gp, 0, none⟩) pls.length pls.length) ∧ W.cell? ⟨gp, i * 6 + 1, none⟩ = some (.int .i64 (p.body : Int)) ∧ W.cell? ⟨gp, t * 6 + 1, none⟩ = some (.int .i64 ((plD pls t).body : Int))) := fun W hW => by
              have hl2 := jumpN_len C pls (i + 1)
              obtain ⟨-, -, -, -, -, -, -, -, c8⟩ := hW.cells
              obtain ⟨g2, e2, -, -, q1, -⟩ := hW.place i (by rw [hl2]; exact hlt)
              obtain ⟨g3, e3, -, -, q2, -⟩ := hW.place t (by rw [hl2, HPl.out]; exact tl)
              injection e2 with e2
              injection e2 with e2
              injection e3 with e3
              injection e3 with e3
              subst e2 e3
              rw [jumpN_body] at q1 q2
              rw [HPp.out] at q1
              rw [hl2] at c8
              exact ⟨c8, q1, q2⟩
            by_cases hb : (plD pls t).body = p.body
            · have HSt : Hid (landP C pls i = true) := by show landP C pls i = true; rw [HLs2.out]; exact decide_eq_true hb
              go_wp2_with (first | (go_at_call 44; refine HSH.out.mono ?_; rintro e w1 ⟨rfl, f1⟩; obtain ⟨z1, z2, z3, z4, z5, z6⟩ := HCl.out w1 f1; have F1 := mkHid f1; clear f1) | (go_at_call 46; refine (HBW.out w1 F1.out).mono ?_; rintro e w2 ⟨rfl, n2, rfl⟩) | (refine wpList_field rfl 99 (.tmp 23) 0 rfl (.int .i64 7) (by go_simp; rfl) ?_))
              obtain ⟨W, hW⟩ : ∃ W, (w1.drewN n2).setCell ⟨gp, i * 6 + 5, none⟩ (.int .i64 (t : Int)) = W := ⟨_, rfl⟩
              rw [hW]
              have HRW : Hid (RR W B a C wv sc ps cs (jumpN C pls (i + 1)) (some ⟨gp, 0, none⟩) k) := by rw [← hW]; exact HRR.out w1 n2 t F1.out HT.out
              have HKW : Hid (Kw B w W) := by rw [← hW]; exact HFr3.out w1 n2 _ F1.out
              obtain ⟨u1, u2, u3⟩ := HRb.out W HRW.out
              rw [hb] at u3
              have u5 : W.cell? ⟨gp, i * 6 + 5, none⟩ = some (.int .i64 (t : Int)) := by
                obtain ⟨g2, e2, -, -, -, -, -, -, q5⟩ := HRW.out.place i (by rw [jumpN_len]; exact hlt)
                injection e2 with e2
                injection e2 with e2
                subst e2
                rw [HGo.out t HT.out, plD_set_eq _ _ _ (by rw [jumpN_len]; exact hlt)] at q5
                exact q5
              clear hW z1 z2 z3 z4 z5 z6 HLs2 hb
              generalize p.body = bo at *
              go_quiet (fail)
              go_wp2_with fail
              go_roundw
              case rel =>
                refine ⟨i + 1, by omega, by go_num, HRW.out.idle (Fr.drewN [] W _), HKW.out.trans ((Fr.drewN [] W _).kw (Nat.le_trans hB HKW.out.size) (by simp)), fun j hj => ?_⟩
                by_cases e : j = i
                · rw [e]; exact HSt.out
                · exact HL.out j (by omega)
              case measure => simp [intOf]; omega
            · have HFl : Hid ((List.range pls.length).all (landP C pls) = false) := HFa.out (by rw [HLs2.out]; exact decide_eq_false hb)
              have nb : (((plD pls t).body : Int) != (p.body : Int)) = true := by simpa using (show ¬ ((plD pls t).body : Int) = (p.body : Int) by omega)
              go_wp2_with (first | (go_at_call 44; refine HSH.out.mono ?_; rintro e w1 ⟨rfl, f1⟩; obtain ⟨z1, z2, z3, z4, z5, z6⟩ := HCl.out w1 f1; have F1 := mkHid f1; clear f1) | (go_at_call 46; refine (HBW.out w1 F1.out).mono ?_; rintro e w2 ⟨rfl, n2, rfl⟩) | (refine wpList_field rfl 99 (.tmp 23) 0 rfl (.int .i64 7) (by go_simp; rfl) ?_))
              obtain ⟨W, hW⟩ : ∃ W, (w1.drewN n2).setCell ⟨gp, i * 6 + 5, none⟩ (.int .i64 (t : Int)) = W := ⟨_, rfl⟩
              rw [hW]
              have HRW : Hid (RR W B a C wv sc ps cs (jumpN C pls (i + 1)) (some ⟨gp, 0, none⟩) k) := by rw [← hW]; exact HRR.out w1 n2 t F1.out HT.out
              have HKW : Hid (Kw B w W) := by rw [← hW]; exact HFr3.out w1 n2 _ F1.out
              obtain ⟨u1, u2, u3⟩ := HRb.out W HRW.out
              have u5 : W.cell? ⟨gp, i * 6 + 5, none⟩ = some (.int .i64 (t : Int)) := by
                obtain ⟨g2, e2, -, -, -, -, -, -, q5⟩ := HRW.out.place i (by rw [jumpN_len]; exact hlt)
                injection e2 with e2
                injection e2 with e2
                subst e2
                rw [HGo.out t HT.out, plD_set_eq _ _ _ (by rw [jumpN_len]; exact hlt)] at q5
                exact q5
              clear hW z1 z2 z3 z4 z5 z6 HLs2 hb
              generalize (plD pls t).body = bt at *
              generalize p.body = bo at *
              go_quiet (fail)
              go_wp2_with fail
              rw [Exit.noGoto_ret]
              go_wp2_with fail
              go_ret
              exact ⟨false, rfl, HKW.out.trans ((Fr.drewN [] W _).kw (Nat.le_trans hB HKW.out.size) (by simp)), HFl.out, fun h => by cases h⟩
      · have HSt : Hid (∀ W, Fr [] wr W → RR W B a C wv sc ps cs (jumpN C pls (i + 1)) (some ⟨gp, 0, none⟩) k ∧ Kw B w W ∧ ∀ j, j < i + 1 → landP C pls j = true) := fun W hW => by
          refine ⟨?_, HK.out.trans (hW.kw hB1 (by simp)), fun j hj => ?_⟩
          · rw [HSu.out, goto_no h4]
            have e : (jumpN C pls i).set i p = jumpN C pls i := by
              apply List.ext_getElem?
              intro x
              by_cases hx : i = x
              · subst hx
                rw [List.getElem?_set_self (by rw [hlen]; exact hlt)]
                have := jumpN_ge C pls i i (Nat.le_refl _)
                rw [hp] at this
                unfold plD at this
                rw [List.getD_eq_getElem?_getD, List.getElem?_eq_getElem (by rw [hlen]; exact hlt)] at this
                rw [List.getElem?_eq_getElem (by rw [hlen]; exact hlt), ← this]; rfl
              · rw [List.getElem?_set_ne hx]
            rw [e]
            exact hr.idle hW
          · by_cases e : j = i
            · subst e; exact land_no (by rw [hp]; exact h4)
            · exact hl j (by omega)
        generalize hS : shp p.op = s at *
        obtain ⟨kd, od, tk, on, jp⟩ := s
        simp only [shv, I] at HSH h4 hk7
        have e4 : ((kd : Int) == 4) = false := beq_eq_false_iff_ne.2 (by omega)
        have e5 : ((kd : Int) == 5) = false := beq_eq_false_iff_ne.2 (by omega)
        have e6 : ((kd : Int) == 6) = false := beq_eq_false_iff_ne.2 (by omega)
        have e7 : ((kd : Int) == 7) = false := beq_eq_false_iff_ne.2 (by omega)
        clear hst hr hk hl hp HJi hlnd hlnn hsuc hfalse hlen HJ HH hS
        go_wp2_with (first | (go_at_call 44; refine HSH.out.mono ?_; rintro e w1 ⟨rfl, f1⟩; have F1 := mkHid f1; clear f1) | (refine wpList_field rfl 99 (.tmp 23) 0 rfl (.int .i64 (kd : Int)) (by go_simp; rfl) ?_))
        go_roundw
        case rel => exact ⟨i + 1, by omega, by go_num, HSt.out _ F1.out⟩
        case measure => simp [intOf]; omega
    · have hie : i = pls.length := by omega
      have HSt : Hid (RR wr B a C wv sc ps cs (jumpN C pls pls.length) pp k ∧ Kw B w wr ∧ (List.range pls.length).all (landP C pls) = true) := by
        obtain ⟨hr, hk, hl⟩ := hst.out
        rw [hie] at hr hl
        exact ⟨hr, hk, List.all_eq_true.2 fun j hj => hl j (by simpa using hj)⟩
      have i1 : ¬ (i : Int) < (pls.length : Int) := by omega
      have d1 : decide ((i : Int) < (pls.length : Int)) = false := decide_eq_false i1
      clear hst hie
      go_wp2_with fail
      go_ret
      exact ⟨true, rfl, HSt.out.2.1, HSt.out.2.2, fun _ => HSt.out.1⟩
end Go.Proofs.YtdflpoldlokijaaDoor
