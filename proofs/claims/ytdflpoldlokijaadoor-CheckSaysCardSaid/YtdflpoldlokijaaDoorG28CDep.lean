import Derived.Test.YtdflpoldlokijaaDoorCLv
import Derived.Test.YtdflpoldlokijaaDoorG26CMul
import Derived.Test.YtdflpoldlokijaaDoorCRep2
import Derived.Test.YtdflpoldlokijaaDoorG13CTwin
import Derived.Test.YtdflpoldlokijaaDoorCDep0
import Derived.Test.YtdflpoldlokijaaDoorCNew
import Derived.Test.YtdflpoldlokijaaDoorCLand
namespace Go.Proofs.YtdflpoldlokijaaDoor
open Go.RowKit
set_option linter.unusedVariables false
set_option linter.unusedSimpArgs false
attribute [local go_sem ↓] Go.wp_at_zero Go.wp_at_succ
theorem max_same : ∀ (l : List Int), 0 < l.length → (∀ x ∈ l, -1 ≤ x) → l.foldl max (l.getD 0 0) = l.foldl max (-1)
  | [], h, _ => by simp at h
  | a :: t, _, h => by
    have ha := h a (by simp)
    show t.foldl max (max a a) = t.foldl max (max (-1) a)
    rw [show max a a = a by omega, show max (-1) a = a by omega]
theorem goP_step (l : List Pl) (f i : Nat) (s : Wk) (h : i < s.come.length) : goP l (f + 1) i s = goP l f (i + 1) (leaveP l s (s.come.getD i 0)) := by
  show (if i < s.come.length then _ else _) = _
  rw [if_pos h]
theorem goP_stop (l : List Pl) (f i : Nat) (s : Wk) (h : ¬ i < s.come.length) : goP l (f + 1) i s = s := by
  show (if i < s.come.length then _ else _) = _
  rw [if_neg h]
set_option maxRecDepth 100000 in
set_option maxHeartbeats 4000000 in
theorem follow_ok (pls : List Pl) (pp : Option Addr) (stack : Int) (w : World) (hp : PlR w w.heap.size pp pls) (ht : Tb w) (hn : pls.length ≤ 4096) (hok : PlOk pls) (hb0 : 0 < pls.length → (plD pls 0).body ≠ 0) (hargs : ∀ i, i < pls.length → (plD pls i).args ≤ 8) :
    Calls Tryd.prog 27 #[.slice pp pls.length pls.length, .int .i64 stack] w fun e w' => ∃ v, e = .returned (.tuple #[v, .int .i64 (followP pls stack).1]) ∧ Fr [] w w' ∧ ((followP pls stack).1 = 0 → w'.ownsRow w.heap.size 3 1 v pls.length ((followP pls stack).2.map (Value.int .i64))) ∧ ((followP pls stack).1 ≠ 0 → v = .slice none 0 0) := by
  by_cases h0 : pls.length = 0
  · have HF : Hid (followP pls stack = (114, [])) := mkHid (if_pos h0)
    have e0 : ((pls.length : Int) == 0) = true := beq_iff_eq.2 (by omega)
    clear hp ht hok hb0 hargs h0
    go_enter Tryd.func27, Tryd.ntmps27
    go_wp2_with fail
    go_ret2
    rw [HF.out]
    exact ⟨_, rfl, Fr.refl _ _, fun h => (by cases h), fun _ => rfl⟩
  · have e0 : ((pls.length : Int) == 0) = false := beq_eq_false_iff_ne.2 (by omega)
    obtain ⟨FIN, hFIN⟩ : ∃ q, goP pls (pls.length + 1) 0 (startP pls.length) = q := ⟨_, rfl⟩
    have HF : Hid (followP pls stack = if FIN.ended then (114, []) else if FIN.uneven ∨ FIN.dep.foldl max (-1) ≠ stack then (113, []) else (0, FIN.dep)) := by
      show followP pls stack = _
      unfold followP
      rw [if_neg h0, hFIN]
    obtain ⟨s1, s2, s3⟩ := startP_ok pls (by omega) (hb0 (by omega))
    have hpos := ht.pos
    have HREP : Hid (Calls Tryd.prog 47 #[.slice (some ⟨w.heap.size, 0, none⟩) 1 1, .int .i64 pls.length] (w.alloc (.cells #[.int .i64 (-1)] 3)) fun e w' => ∃ g2, e = .returned (.slice (some ⟨g2, 0, none⟩) pls.length pls.length) ∧ w'.ownsRow (w.alloc (.cells #[.int .i64 (-1)] 3)).heap.size 3 1 (.slice (some ⟨g2, 0, none⟩) pls.length pls.length) pls.length ((List.replicate pls.length (-1 : Int)).map (Value.int .i64)) ∧ Fr [] (w.alloc (.cells #[.int .i64 (-1)] 3)) w') := repeat_ok w.heap.size pls.length _ (by rw [cell_in (heap_alloc_new w _)]; rfl) (by omega) hn
    have HFW : Hid (∀ w2 g2, w2.ownsRow (w.alloc (.cells #[.int .i64 (-1)] 3)).heap.size 3 1 (.slice (some ⟨g2, 0, none⟩) pls.length pls.length) pls.length ((List.replicate pls.length (-1 : Int)).map (Value.int .i64)) → Fr [] (w.alloc (.cells #[.int .i64 (-1)] 3)) w2 → FW (w2.alloc (.cells #[.slice pp pls.length pls.length, .slice (some ⟨g2, 0, none⟩) pls.length pls.length, .slice none 0 0, .bool false, .bool false] 106)) w.heap.size w2.heap.size pls pp (some ⟨g2, 0, none⟩) ⟨List.replicate pls.length (-1), [], false, false⟩ none 0 ∧ Fr [] w (w2.alloc (.cells #[.slice pp pls.length pls.length, .slice (some ⟨g2, 0, none⟩) pls.length pls.length, .slice none 0 0, .bool false, .bool false] 106))) := fun w2 g2 ho hf => by
      have f2 : Fr [] w w2 := (Fr.alloc [] w _).tr0 hf
      have f3 := f2.al (.cells #[.slice pp pls.length pls.length, .slice (some ⟨g2, 0, none⟩) pls.length pls.length, .slice none 0 0, .bool false, .bool false] 106)
      refine ⟨⟨heap_alloc_new w2 _, f2.size, ?_, ⟨rfl, .inl ⟨rfl, rfl⟩⟩, hp.kw (f3.kw (Nat.le_refl _) (by simp)), fun g hg => by simp [blk] at hg, ht.idle f3, hpos, hn⟩, f3⟩
      have ho2 : w2.ownsRow w.heap.size 3 1 (.slice (some ⟨g2, 0, none⟩) pls.length pls.length) pls.length ((List.replicate pls.length (-1 : Int)).map (Value.int .i64)) := by
        refine ⟨ho.1, ?_⟩
        rcases ho.2 with h2 | ⟨g, cap, cur, e, q1, q2, q3⟩
        · exact .inl h2
        · exact .inr ⟨g, cap, cur, e, by simp at q1; omega, q2, q3⟩
      exact own_congr ho2 fun g hg => Below.heap_alloc _ _ _ (own_lt ho2 g hg).2
    have HMt : Hid (∀ W x pd, FW W w.heap.size x pls pp pd ⟨List.replicate pls.length (-1), [], false, false⟩ none 0 → w.heap.size ≤ W.heap.size → Calls Tryd.prog 48 #[.pointer (some ⟨x, 0, none⟩), .int .i64 0, .int .i64 0] W fun e w' => e = .returned (.tuple #[]) ∧ Fr (foot x pd none) W w' ∧ ∃ pc' cc', FW w' w.heap.size x pls pp pd (startP pls.length) pc' cc' ∧ Nw W none pc') := fun W x pd hW hB => meet_ok hW hB 0 0 (by omega) (by simp)
    have HS1 := mkHid s1
    have HOk := mkHid hok
    have HArgs := mkHid hargs
    have HFin := mkHid hFIN
    have n1 : (1 : Int) ≤ (pls.length : Int) := by omega
    clear hp ht hok hb0 hargs h0 s1 hFIN
    go_enter Tryd.func27, Tryd.ntmps27
    go_wp2_with (first
      | (go_at_call 47; refine HREP.out.mono ?_; rintro e w2 ⟨g2, rfl, o2, f2⟩; have HX := mkHid (HFW.out w2 g2 o2 f2); clear o2 f2)
      | (go_at_call 48; refine (HMt.out _ _ _ HX.out.1 HX.out.2.size).mono ?_; rintro e w4 ⟨rfl, k4, pc4, cc4, h4, n4⟩; have G4 := mkHid h4; have K4 := mkHid (Kw.fr (HX.out.1.kw HX.out.2.size k4) HX.out.2 (Nat.le_refl _)); clear h4 k4 n4))
    obtain ⟨x, hx⟩ : ∃ x, w2.heap.size = x := ⟨_, rfl⟩
    rw [hx] at G4 ⊢
    clear hx
    go_loopw [7] (fun q wr => ∃ i : Nat, q = .int .i64 i ∧ i ≤ pls.length ∧ Hid (∃ s pc cc f, i ≤ s.come.length ∧ FW wr w.heap.size x pls pp (some ⟨g2, 0, none⟩) s pc cc ∧ Fr [] w wr ∧ GoInv pls i s ∧ goP pls f i s = FIN ∧ pls.length < i + f)) (fun q _ => pls.length - (intOf q).toNat)
    case atStart => exact ⟨0, rfl, Nat.zero_le _, startP pls.length, pc4, cc4, pls.length + 1, Nat.zero_le _, G4.out, K4.out, HS1.out, HFin.out, by omega⟩
    case round =>
      clear G4 K4 HX HREP HFW HMt HS1 HFin
      obtain ⟨i, rfl, hil, hst⟩ := hrel
      obtain ⟨s, pc, cc, f, hi, hfw, hfr, hgo, hfin, hlen⟩ := hst.out
      have hcl := nodup_len pls.length hgo.ok.nodup (fun x hx => (hgo.ok.lt x hx).1)
      obtain ⟨-, c1, c2, c3, c4⟩ := hfw.cells
      obtain ⟨f', rfl⟩ : ∃ f', f = f' + 1 := ⟨f - 1, by omega⟩
      have i0 : (0 : Int) ≤ (i : Int) := by omega
      by_cases hlt : i < s.come.length
      · have i1 : (i : Int) < (s.come.length : Int) := by omega
        rw [goP_step pls f' i s hlt] at hfin
        have hstp := hgo.step HOk.out hlt
        have hm : s.come.getD i 0 ∈ s.come := by rw [List.getD_eq_getElem?_getD, List.getElem?_eq_getElem hlt]; exact List.getElem_mem hlt
        obtain ⟨gc, hgc, y0⟩ : ∃ gc, pc = some ⟨gc, 0, none⟩ ∧ wr.cell? ⟨gc, i, none⟩ = some (.int .i64 ((s.come.getD i 0 : Nat) : Int)) := by
          have h1 := hfw.come
          rcases h1.2 with ⟨e, e0⟩ | ⟨g, cap, cur, e, q1, q2, q3, q4⟩
          · omega
          · injection e with e1 _ e3
            subst e1 e3
            refine ⟨g, rfl, ?_⟩
            rw [h1.cellAt i (by omega), List.getElem?_map, List.getD_eq_getElem?_getD, List.getElem?_eq_getElem hlt]; rfl
        subst hgc
        generalize s.come.getD i 0 = at_ at *
        obtain ⟨m1, m2, m3, m4⟩ := hgo.ok.lt at_ hm
        have HLv : Hid (Calls Tryd.prog 49 #[.pointer (some ⟨x, 0, none⟩), .int .i64 at_] wr fun e w' => e = .returned (.tuple #[]) ∧ Kw w.heap.size wr w' ∧ ∃ pc' cc', FW w' w.heap.size x pls pp (some ⟨g2, 0, none⟩) (leaveP pls s at_) pc' cc') := leave_ok hfw hfr.size at_ m1 (by omega) ⟨by omega, by omega⟩ (plD pls at_) rfl (HArgs.out at_ m1) (HOk.out.op at_ m1 m2) (fun hk => (HOk.out.blk at_ m1 m2 hk).1) (fun hk => (HOk.out.jmp at_ m1 m2 hk).1)
        have HS := mkHid hstp
        have HFn := mkHid hfin
        have HFr := mkHid hfr
        have hle : s.come.length ≤ (leaveP pls s at_).come.length := by obtain ⟨t, ht⟩ := hstp.2.pre; rw [ht]; simp
        clear hst hfw hfr hgo hfin hm m2 m3 m4 hstp c1 c3 c4
        go_wp2_with (go_at_call 49; refine HLv.out.mono ?_; rintro e w5 ⟨rfl, k5, pc5, cc5, h5⟩; have G5 := mkHid h5; have K5 := mkHid k5; clear h5 k5)
        go_roundw
        case rel => exact ⟨i + 1, by go_num, by omega, _, pc5, cc5, f', by omega, G5.out, K5.out.fr HFr.out (Nat.le_refl _), HS.out.1, HFn.out, by omega⟩
        case measure => simp [intOf]; omega
      · have i1 : ¬ (i : Int) < (s.come.length : Int) := by omega
        have d1 : decide ((i : Int) < (s.come.length : Int)) = false := decide_eq_false i1
        rw [goP_stop pls f' i s hlt] at hfin
        subst hfin
        have hdl := hfw.dl
        have HRd : Hid (Rd wr (.slice (some ⟨g2, 0, none⟩) pls.length pls.length) s.dep) := by
          have h1 := hfw.dep
          rw [← hdl] at h1 ⊢
          exact own_rd h1 (by omega)
        have HMx := mkHid (max_ok s.dep _ wr HRd.out (by omega) (by omega))
        have HMs : Hid (s.dep.foldl max (s.dep.getD 0 0) = s.dep.foldl max (-1)) := max_same s.dep (by omega) (fun x hx => by
          obtain ⟨j, hj, hjx⟩ := List.getElem_of_mem hx
          by_cases hm : depD s.dep j = -1
          · have e : depD s.dep j = x := by unfold depD; rw [List.getD_eq_getElem?_getD, List.getElem?_eq_getElem hj, hjx]; rfl
            omega
          · have := (hgo.ok.lt j ((hgo.ok.mem j).2 hm)).2.2.1
            have e : depD s.dep j = x := by unfold depD; rw [List.getD_eq_getElem?_getD, List.getElem?_eq_getElem hj, hjx]; rfl
            omega)
        rw [HMs.out] at HMx
        have HFr := mkHid hfr
        have HDep := mkHid hfw.dep
        clear hst hfw hfr hgo HMs
        obtain ⟨M, hM⟩ : ∃ M, s.dep.foldl max (-1) = M := ⟨_, rfl⟩
        rw [hM] at HMx HF
        cases he : s.ended
        · rw [he] at c3 HF
          simp only [Bool.false_eq_true, if_false] at HF
          cases hu : s.uneven
          · rw [hu] at c4 HF
            simp only [Bool.false_eq_true, false_or] at HF
            by_cases hms : M = stack
            · rw [if_neg (by simpa using hms)] at HF
              have q1 : (M != stack) = false := by simpa using hms
              subst hms
              clear hM he hu
              go_wp2_with (go_at_call 50; refine HMx.out.mono ?_; rintro e w5 ⟨rfl, hw5⟩; rw [hw5]; clear hw5 w5)
              go_ret2
              rw [HF.out]
              exact ⟨_, rfl, HFr.out, fun _ => HDep.out, fun h => absurd rfl h⟩
            · rw [if_pos hms] at HF
              have q1 : (M != stack) = true := by simpa using hms
              clear hM he hu hms
              go_wp2_with (go_at_call 50; refine HMx.out.mono ?_; rintro e w5 ⟨rfl, hw5⟩; rw [hw5]; clear hw5 w5)
              go_ret2
              rw [HF.out]
              exact ⟨_, rfl, HFr.out, fun h => (by cases h), fun _ => rfl⟩
          · rw [hu] at c4 HF
            simp only [true_or, if_true] at HF
            clear hM he hu
            go_wp2_with (go_at_call 50; fail)
            go_ret2
            rw [HF.out]
            exact ⟨_, rfl, HFr.out, fun h => (by cases h), fun _ => rfl⟩
        · rw [he] at c3 HF
          simp only [if_true] at HF
          clear hM he
          go_wp2_with fail
          go_ret2
          rw [HF.out]
          exact ⟨_, rfl, HFr.out, fun h => (by cases h), fun _ => rfl⟩
end Go.Proofs.YtdflpoldlokijaaDoor
namespace Go.Proofs.YtdflpoldlokijaaDoor
open Go.RowKit
set_option linter.unusedVariables false
set_option linter.unusedSimpArgs false
attribute [local go_sem ↓] Go.wp_at_zero Go.wp_at_succ
set_option maxRecDepth 100000 in
set_option maxHeartbeats 4000000 in
theorem look_ok (w : World) (p : Option Addr) (c : Nat) (ts : List LitT) (h : LitsR w p c ts) (s : Nat) (sym : Int) (W0 : World) (hf : Fr [] w W0) (hs : w.heap.size ≤ s) (hsh : Shf W0 s sym 0) :
    Calls Tryd.prog 23 #[.pointer (some ⟨s, 0, none⟩), .slice p ts.length c] W0 fun e w' => e = .returned (.int .i64 (lookL sym ts 0).1) ∧ Fr [s] W0 w' := by
  have HIn : Hid (∀ t ∈ ts, ∀ (w' : World) (g off el : Nat), Fr [] w w' → Shf w' s sym el → el ≤ 4096 → LitAt w' g off t → g < w.heap.size → Calls Tryd.prog 41 #[.pointer (some ⟨s, 0, none⟩), .pointer (some ⟨g, off, none⟩)] w' fun e w'' => e = .returned (.int .i64 (inT sym t el).1) ∧ Fr [s] w' w'' ∧ Shf w'' s sym (inT sym t el).2 ∧ ((inT sym t el).1 = 0 → (inT sym t el).2 ≤ 4096)) := fun t ht w' g off el a1 a2 a3 a4 a5 => by
    cases h with
    | mk _ _ _ nil at_ short txt kids => exact inside_ok w t.p t.c t.kids (kids t ht) t rfl rfl rfl w' s g off sym el a1 hs a2 a3 a4 a5
  have HOb : Hid (∀ t ∈ ts, ∀ (w' : World) (g off : Nat), LitAt w' g off t → Calls Tryd.prog 40 #[.pointer (some ⟨g, off, none⟩)] w' fun e w'' => e = .returned (.bool (objB t)) ∧ w'' = w') := fun t ht w' g off a1 => by
    cases h with
    | mk _ _ _ nil at_ short txt kids =>
      refine isObject_ok g off t w' a1 (txt t ht) ?_
      have := kids t ht
      cases this with
      | mk _ _ _ _ _ sh _ _ => exact sh
  have hlen : ts.length ≤ 2513169434916 := by cases h with | mk _ _ _ nil at_ short txt kids => exact short
  have HAt : Hid (0 < ts.length → ∃ g off, p = some ⟨g, off, none⟩ ∧ g < w.heap.size ∧ ∀ i t, ts[i]? = some t → LitAt w g (off + i * 4) t) := by
    cases h with | mk _ _ _ nil at_ short txt kids => exact at_
  have HF := mkHid hf
  have HSh := mkHid hsh
  obtain ⟨R, hR⟩ : ∃ R, lookL sym ts 0 = R := ⟨_, rfl⟩
  have HR0 := mkHid hR
  rw [hR]
  clear h hf hsh hR
  go_enter Tryd.func23, Tryd.ntmps23
  go_wp2_with fail
  go_loopw [10] (fun q wr => ∃ i : Nat, i ≤ ts.length ∧ q = .int .i64 i ∧ Hid (∃ el' : Nat, Shf wr s sym el' ∧ el' ≤ 4096 ∧ Fr [s] W0 wr ∧ R = lookL sym (ts.drop i) el')) (fun q _ => ts.length - (intOf q).toNat)
  case atStart => exact ⟨0, Nat.zero_le _, rfl, 0, HSh.out, by omega, Fr.refl _ _, by rw [← HR0.out, List.drop_zero]⟩
  case round =>
    obtain ⟨i, hin, rfl, hst⟩ := hrel
    have i0 : (0 : Int) ≤ (i : Int) := by omega
    obtain ⟨el1, hs1, he1, hf1, hRi⟩ := hst.out
    by_cases hlt : i < ts.length
    · have i1 : (i : Int) < (ts.length : Int) := by omega
      have F0 : Fr [] w wr := HF.out.trans hf1 (fun b hb => .inr (by simp at hb; omega))
      obtain ⟨ge, oe, rfl, hge, hce⟩ := HAt.out (by omega)
      obtain ⟨t2, ht2⟩ : ∃ t2, ts[i]? = some t2 := ⟨_, List.getElem?_eq_getElem hlt⟩
      have hl2 := (hce i t2 ht2).idle F0
      have hmem := List.mem_of_getElem? ht2
      rw [drop_at ht2] at hRi
      have HRi : Hid (R = if objB t2 = false then (111, el1) else if (inT sym t2 el1).1 ≠ 0 then inT sym t2 el1 else lookL sym (ts.drop (i + 1)) (inT sym t2 el1).2) := hRi
      clear hRi
      have HObt := mkHid (HOb.out t2 hmem wr ge (oe + i * 4) hl2)
      have HInt := mkHid (HIn.out t2 hmem wr ge (oe + i * 4) el1 F0 hs1 he1 hl2 hge)
      have HF1 := mkHid hf1
      have hne : ts.length ≠ 0 := by omega
      clear hst hs1 F0 hce hl2 ht2 hmem hf1
      cases hb : objB t2
      · rw [hb] at HObt
        go_wp2_with (go_at_call 40; refine HObt.out.mono ?_; rintro e w1 ⟨rfl, hw1⟩; rw [hw1]; clear hw1 w1)
        go_ret
        have hR := HRi.out
        rw [if_pos hb] at hR
        subst hR
        exact ⟨rfl, HF1.out⟩
      · rw [hb] at HObt
        go_wp2_with (first
          | (go_at_call 40; refine HObt.out.mono ?_; rintro e w1 ⟨rfl, hw1⟩; rw [hw1]; clear hw1 w1)
          | (go_at_call 41; fail))
        refine HInt.out.mono ?_
        rintro e w5 ⟨rfl, f5, s5, k5⟩
        have hR := HRi.out
        rw [if_neg (by rw [hb]; decide)] at hR
        obtain ⟨⟨E5, el5⟩, hq⟩ : ∃ q, inT sym t2 el1 = q := ⟨_, rfl⟩
        rw [hq] at hR s5 k5 ⊢
        simp only at hR s5 k5
        have HR5 := mkHid hR
        clear hR hq
        have F5 := mkHid (HF1.out.trans f5 (fun b hb => .inl hb))
        have S5 := mkHid s5
        have K5 := mkHid k5
        clear f5 s5 k5
        by_cases hE : E5 = 0
        · subst hE
          go_wp2_with fail
          go_roundw
          case rel => exact ⟨i + 1, by omega, by go_num, el5, S5.out, by first | exact K5.out rfl | exact K5.out trivial | exact K5.out, F5.out, by rw [HR5.out, if_neg (by simp)]⟩
          case measure => simp [intOf]; omega
        · have qE : (E5 != 0) = true := by simpa using hE
          go_wp2_with fail
          go_ret
          have hR := HR5.out
          rw [if_pos hE] at hR
          subst hR
          exact ⟨rfl, F5.out⟩
    · have i1 : ¬ (i : Int) < (ts.length : Int) := by omega
      have d1 : decide ((i : Int) < (ts.length : Int)) = false := decide_eq_false i1
      have HF1 := mkHid hf1
      rw [List.drop_eq_nil_of_le (by omega)] at hRi
      have HRz : Hid (R = (0, el1)) := hRi
      clear hst hs1 hf1 hRi
      go_wp2_with fail
      go_ret
      have hR := HRz.out
      subst hR
      exact ⟨rfl, HF1.out⟩
end Go.Proofs.YtdflpoldlokijaaDoor
namespace Go.Proofs.YtdflpoldlokijaaDoor
open Go.RowKit
set_option linter.unusedVariables false
set_option linter.unusedSimpArgs false
attribute [local go_sem ↓] Go.wp_at_zero Go.wp_at_succ
/-- a code as a value -/
def cdv (h : Hd) (lp : Option Addr) (ln lc : Nat) (pw : Option Addr) (n cw : Nat) : Array Value := #[.int .i64 h.args, .int .i64 h.temps, .int .i64 h.stack, .slice lp ln lc, .slice pw n cw]
def bnv (b : Bn) : Array Value := #[.int .i64 b.fields, .int .i64 b.classes, .int .i64 b.globals, .int .i64 b.symbols]
structure CodeR (w : World) (C : Cx) (ts : List LitT) (lp : Option Addr) (lc : Nat) (pw : Option Addr) (cw : Nat) : Prop where
  words : Rd w (.slice pw C.ws.length cw) C.ws
  cap : C.ws.length ≤ cw
  lits : LitsR w lp lc ts
  ln : ts.length = C.lits
  rng : ∀ i, -9223372036854775808 ≤ C.w i ∧ C.w i ≤ 9223372036854775807
  tb : Tb w
theorem RR.plr {w : World} {B a : Nat} {C : Cx} {wv : Value} {sc : List Nat} {ps : Option Addr} {cs : Nat} {pls : List Pl} {pp : Option Addr} {k : Nat} (h : RR w B a C wv sc ps cs pls pp k) : PlR w w.heap.size pp pls := fun i hi => by
  obtain ⟨g, e, hg, a, b, c, d, e', f⟩ := h.place i hi
  have hl := World.block_lt_of_cell? w _ a
  exact ⟨g, e, hl, hl, a, b, c, d, e', f⟩
set_option maxRecDepth 100000 in
set_option maxHeartbeats 4000000 in
theorem depths_ok (C : Cx) (h : Hd) (ts : List LitT) (lp : Option Addr) (lc : Nat) (pw : Option Addr) (cw : Nat) (w : World) (hc : CodeR w C ts lp lc pw cw) :
    Calls Tryd.prog 14 #[.agg (cdv h lp C.lits lc pw C.ws.length cw), .agg (bnv C.b)] w fun e w' => ∃ lk v, e = .returned (.tuple #[v, .int .i64 (depthsP C h lk).1]) ∧ Fr [] w w' ∧ depthsP C h lk = depthsP C h (lookL C.b.symbols ts 0).1 ∧ ((depthsP C h lk).1 = 0 → w'.ownsRow w.heap.size 3 1 v C.ws.length ((depthsP C h lk).2.map (Value.int .i64))) ∧ ((depthsP C h lk).1 ≠ 0 → v = .slice none 0 0) := by
  have hsh := hc.words.short
  have hls : C.lits ≤ 2513169434916 := by
    rw [← hc.ln]
    cases hc.lits with
    | mk _ _ _ nil at_ short txt kids => exact short
  unfold cdv bnv
  by_cases k1 : 4096 < C.ws.length ∨ 64 < C.lits
  · have HD : Hid (∀ lk, depthsP C h lk = (73, [])) := fun lk => if_pos k1
    have F2 : Hid (∀ o1 o2 : Obj, Fr [] w ((w.alloc o1).alloc o2)) := fun o1 o2 => ((Fr.refl [] w).al o1).al o2
    clear hc
    by_cases k2 : 4096 < C.ws.length
    · have d1 : (4096 : Int) < (C.ws.length : Int) := by omega
      clear k1 k2
      go_enter Tryd.func14, Tryd.ntmps14
      go_wp2_with fail
      go_ret2
      exact ⟨0, _, by rw [HD.out]; rfl, F2.out _ _, by rw [HD.out, HD.out], fun h => (by rw [HD.out] at h; cases h), fun _ => rfl⟩
    · have d1 : decide ((4096 : Int) < (C.ws.length : Int)) = false := decide_eq_false (by omega)
      have d2 : (64 : Int) < (C.lits : Int) := by omega
      clear k1 k2
      go_enter Tryd.func14, Tryd.ntmps14
      go_wp2_with fail
      go_ret2
      exact ⟨0, _, by rw [HD.out]; rfl, F2.out _ _, by rw [HD.out, HD.out], fun h => (by rw [HD.out] at h; cases h), fun _ => rfl⟩
  · have d1 : decide ((4096 : Int) < (C.ws.length : Int)) = false := decide_eq_false (by omega)
    have d2 : decide ((64 : Int) < (C.lits : Int)) = false := decide_eq_false (by omega)
    have HSc : Hid (∀ V, Calls Tryd.prog 21 #[.int .i64 h.args, .int .i64 h.temps] V fun e w' => e = .returned (.bool (scopeB h.args h.temps)) ∧ w' = V) := fun V => isScope_ok _ _ V
    have HSt : Hid (∀ V, Calls Tryd.prog 22 #[.int .i64 h.stack, .int .i64 0, .int .i64 256] V fun e w' => e = .returned (.bool (inR h.stack 0 256)) ∧ w' = V) := fun V => within_ok _ _ _ V
    have F2 : Hid (∀ o1 o2 : Obj, Fr [] w ((w.alloc o1).alloc o2)) := fun o1 o2 => ((Fr.refl [] w).al o1).al o2
    by_cases k2 : scopeB h.args h.temps = false ∨ inR h.stack 0 256 = false
    · have HD : Hid (∀ lk, depthsP C h lk = (111, [])) := fun lk => by unfold depthsP; rw [if_neg k1, if_pos k2]
      clear hc
      by_cases k3 : scopeB h.args h.temps = false
      · rw [k3] at HSc
        clear k1 k2 k3
        go_enter Tryd.func14, Tryd.ntmps14
        go_wp2_with (go_at_call 21; refine (HSc.out _).mono ?_; rintro e w' ⟨rfl, hw'⟩; rw [hw']; clear hw' w')
        go_ret2
        exact ⟨0, _, by rw [HD.out]; rfl, F2.out _ _, by rw [HD.out, HD.out], fun h => (by rw [HD.out] at h; cases h), fun _ => rfl⟩
      · have k4 : inR h.stack 0 256 = false := by rcases k2 with h1 | h1; exact absurd h1 k3; exact h1
        have k3 : scopeB h.args h.temps = true := by simpa using k3
        rw [k3] at HSc
        rw [k4] at HSt
        clear k1 k2 k3 k4
        go_enter Tryd.func14, Tryd.ntmps14
        go_wp2_with (first | (go_at_call 21; refine (HSc.out _).mono ?_; rintro e w' ⟨rfl, hw'⟩; rw [hw']; clear hw' w') | (go_at_call 22; refine (HSt.out _).mono ?_; rintro e w' ⟨rfl, hw'⟩; rw [hw']; clear hw' w'))
        go_ret2
        exact ⟨0, _, by rw [HD.out]; rfl, F2.out _ _, by rw [HD.out, HD.out], fun h => (by rw [HD.out] at h; cases h), fun _ => rfl⟩
    · simp only [not_or, Bool.not_eq_false] at k2
      obtain ⟨k3, k4⟩ := k2
      rw [k3] at HSc
      rw [k4] at HSt
      have HD : Hid (∀ lk, depthsP C h lk = if lk ≠ 0 then (lk, []) else wordsP C h) := fun lk => by
        unfold depthsP; rw [if_neg k1, if_neg (by simp [k3, k4])]
      have k5 : 0 ≤ h.temps ∧ h.temps ≤ 32 := by unfold scopeB inR at k3; simp at k3; omega
      obtain ⟨t, ht⟩ := Int.eq_ofNat_of_zero_le k5.1
      have HCR := mkHid hc
      have HLn := mkHid hc.ln
      have k1a : C.ws.length ≤ 4096 := by omega
      have k1b : C.lits ≤ 64 := by omega
      have ht32 : t ≤ 32 := by omega
      have htn : h.temps.toNat = t := by omega
      have HWo : Hid (wordsP C h = if (readP C (C.ws.length + 1) [t] 0 C.ws.length 1 (startR C t)).1 ≠ 0 then ((readP C (C.ws.length + 1) [t] 0 C.ws.length 1 (startR C t)).1, []) else if (List.range C.ws.length).all (landP C (readP C (C.ws.length + 1) [t] 0 C.ws.length 1 (startR C t)).2.pls) = false then (112, []) else followP (jumpN C (readP C (C.ws.length + 1) [t] 0 C.ws.length 1 (startR C t)).2.pls C.ws.length) h.stack) := by
        show wordsP C h = _
        unfold wordsP; rw [htn]
      rw [ht] at HSc ⊢
      have n0 : (C.ws.length : Int) ≤ 4096 := by omega
      clear hc k1 k3 k4 k5 ht htn
      generalize h.args = ar at *
      generalize h.stack = st at *
      go_enter Tryd.func14, Tryd.ntmps14
      go_wp2_with (first | (go_at_call 21; refine (HSc.out _).mono ?_; rintro e w' ⟨rfl, hw'⟩; rw [hw']; clear hw' w') | (go_at_call 22; refine (HSt.out _).mono ?_; rintro e w' ⟨rfl, hw'⟩; rw [hw']; clear hw' w') | (go_at_call 23; fail))
      obtain ⟨W0, hW0⟩ : ∃ W0, ((w.alloc (.cells #[.int .i64 ar, .int .i64 (t : Int), .int .i64 st, .slice lp C.lits lc, .slice pw C.ws.length cw] 25)).alloc (.cells #[.int .i64 C.b.fields, .int .i64 C.b.classes, .int .i64 C.b.globals, .int .i64 C.b.symbols] 27)).alloc (.cells #[.int .i64 C.b.symbols, .int .i64 0] 66) = W0 := ⟨_, rfl⟩
      rw [hW0]
      have f0 : Fr [] w W0 := by rw [← hW0]; exact (((Fr.refl [] w).al _).al _).al _
      have b0 : W0.heap[w.heap.size]? = some (.cells #[.int .i64 ar, .int .i64 (t : Int), .int .i64 st, .slice lp C.lits lc, .slice pw C.ws.length cw] 25 (0, 0)) := by rw [← hW0]; exact al_old (al_old (heap_alloc_new w _) _) _
      have b1 : W0.heap[w.heap.size + 1]? = some (.cells #[.int .i64 C.b.fields, .int .i64 C.b.classes, .int .i64 C.b.globals, .int .i64 C.b.symbols] 27 (0, 0)) := by rw [← hW0]; exact al_old (new_at _ _ _ (by simp)) _
      have b2 : Shf W0 (w.heap.size + 1 + 1) C.b.symbols 0 := by unfold Shf; rw [← hW0]; exact new_at _ _ _ (by simp)
      have HLk := look_ok w lp lc ts HCR.out.lits (w.heap.size + 1 + 1) C.b.symbols W0 f0 (by omega) b2
      rw [HLn.out] at HLk
      refine HLk.mono ?_
      rintro e w1 ⟨rfl, f1⟩
      obtain ⟨E, z1⟩ : ∃ E, (lookL C.b.symbols ts 0).1 = E := ⟨_, rfl⟩
      rw [z1]
      have F1 : Fr [] w w1 := f0.trans f1 (fun b hb => .inr (by simp at hb; omega))
      have c0 := (f1.block _ (lt_of_heap b0) (fun hm => by have := List.mem_singleton.1 hm; omega)).trans b0
      have c1 := (f1.block _ (lt_of_heap b1) (fun hm => by have := List.mem_singleton.1 hm; omega)).trans b1
      have HF1 := mkHid F1
      have HZ1 := mkHid z1
      have HC0 := mkHid c0
      have HC1 := mkHid c1
      clear HLk f1 F1 b0 b1 b2 f0 hW0 HSc HSt F2 z1
      by_cases hE : E = 0
      · subst hE
        have HB := lt_of_heap c1
        have x0 : w1.cell? ⟨w.heap.size, 0, none⟩ = some (.int .i64 ar) := by rw [cell_in c0]; rfl
        have x1 : w1.cell? ⟨w.heap.size, 1, none⟩ = some (.int .i64 (t : Int)) := by rw [cell_in c0]; rfl
        have x2 : w1.cell? ⟨w.heap.size, 2, none⟩ = some (.int .i64 st) := by rw [cell_in c0]; rfl
        have x3 : w1.cell? ⟨w.heap.size, 3, none⟩ = some (.slice lp C.lits lc) := by rw [cell_in c0]; rfl
        have x4 : w1.cell? ⟨w.heap.size, 4, none⟩ = some (.slice pw C.ws.length cw) := by rw [cell_in c0]; rfl
        have y0 : w1.cell? ⟨w.heap.size + 1, 0, none⟩ = some (.int .i64 C.b.fields) := by rw [cell_in c1]; rfl
        have y1 : w1.cell? ⟨w.heap.size + 1, 1, none⟩ = some (.int .i64 C.b.classes) := by rw [cell_in c1]; rfl
        have y2 : w1.cell? ⟨w.heap.size + 1, 2, none⟩ = some (.int .i64 C.b.globals) := by rw [cell_in c1]; rfl
        have y3 : w1.cell? ⟨w.heap.size + 1, 3, none⟩ = some (.int .i64 C.b.symbols) := by rw [cell_in c1]; rfl
        have HNew := mkHid (newReader_ok C t ar st lp lc pw cw w1 (HCR.out.words.idle HF1.out) HCR.out.cap (HCR.out.tb.idle HF1.out) k1a k1b ht32 HCR.out.rng)
        have HD0 : Hid (depthsP C h 0 = wordsP C h) := by show depthsP C h 0 = _; rw [HD.out]; rfl
        obtain ⟨q, hq⟩ : ∃ q, readP C (C.ws.length + 1) [t] 0 C.ws.length 1 (startR C t) = q := ⟨_, rfl⟩
        have hgood : q.1 = 0 → Good C q.2 := fun h0 => by rw [← hq]; exact read_good C t (by rw [hq]; exact h0)
        rw [hq] at HWo
        have HRead : Hid (∀ W a ps pp, RR W w1.heap.size a C (.slice pw C.ws.length cw) [t] ps 1 (List.replicate C.ws.length noPl) pp 0 → w1.heap.size ≤ W.heap.size → Calls Tryd.prog 25 #[.pointer (some ⟨a, 0, none⟩), .int .i64 0, .int .i64 (C.ws.length : Int)] W fun e w' => e = .returned (.int .i64 q.1) ∧ Kw w1.heap.size W w' ∧ ∃ ps' cs', RR w' w1.heap.size a C (.slice pw C.ws.length cw) [t] ps' cs' q.2.pls pp q.2.inf.length) := fun W a ps pp hW hB => by
          rw [← hq]
          exact read_ok (C.ws.length + 1) W w1.heap.size a C _ [t] ps 1 (List.replicate C.ws.length noPl) pp [] 0 C.ws.length hW hB (by omega) (by omega) (Nat.le_refl _) (by simp; omega)
        have HGood := mkHid hgood
        clear hq hgood c0 c1
        obtain ⟨E3, R⟩ := q
        simp only at HWo HRead HGood
        have HKc : Hid (∀ V, Kw w1.heap.size w1 V → V.cell? ⟨w.heap.size, 4, none⟩ = some (.slice pw C.ws.length cw) ∧ V.cell? ⟨w.heap.size, 2, none⟩ = some (.int .i64 st)) := fun V hV => by
          have := (hV.block w.heap.size (by omega)).trans HC0.out
          exact ⟨by rw [cell_in this]; rfl, by rw [cell_in this]; rfl⟩
        go_wp2_with (first
          | (go_at_call 24; refine HNew.out.mono ?_; rintro e w2 ⟨a, ps, pp, rfl, f2, r2⟩; have K2 := mkHid (f2.kw (Nat.le_refl _) (by simp)); obtain ⟨u4, u2⟩ := HKc.out w2 K2.out; have R2 := mkHid r2; have S2 := mkHid f2.size; clear f2 r2)
          | (go_at_call 25; fail))
        refine (HRead.out w2 a ps pp R2.out S2.out).mono ?_
        rintro e w3 ⟨rfl, k3, ps3, cs3, r3⟩
        have K3 := mkHid (K2.out.trans k3)
        have R3 := mkHid r3
        clear k3 r3 u4 u2 HNew HRead R2 K2 x0 x1 x2 x3 x4 y0 y1 y2 y3
        by_cases hE3 : E3 = 0
        · subst hE3
          have G := HGood.out rfl
          rw [if_neg (by simp)] at HWo
          have hRl := G.len
          have HJL := mkHid (jumpsLand_ok R3.out K3.out.size G.jmp)
          have HRl := mkHid hRl
          cases hb : (List.range C.ws.length).all (landP C R.pls)
          · have HBb : Hid ((List.range R.pls.length).all (landP C R.pls) = false) := by show List.all _ _ = false; rw [hRl]; exact hb
            rw [hb] at HWo
            simp only [if_true] at HWo
            clear hRl G hb
            go_wp2_with (go_at_call 26; refine HJL.out.mono ?_; rintro e w4 ⟨bb, rfl, k4, hb4, r4⟩; have eb : bb = false := hb4.symm.trans HBb.out; subst eb; have K4 := mkHid (K3.out.trans k4); clear k4 hb4 r4)
            go_ret2
            exact ⟨0, _, by rw [HD0.out, HWo.out]; rfl, K4.out.fr HF1.out HF1.out.size, by rw [HZ1.out], fun h0 => (by rw [HD0.out, HWo.out] at h0; cases h0), fun _ => rfl⟩
          · have HBb : Hid ((List.range R.pls.length).all (landP C R.pls) = true) := by show List.all _ _ = true; rw [hRl]; exact hb
            rw [hb] at HWo
            simp only [Bool.true_eq_false, if_false] at HWo
            rw [← hRl] at HWo
            have HPl := mkHid (G.pl HBb.out)
            have hjl : (jumpN C R.pls R.pls.length).length = R.pls.length := jumpN_len ..
            have HJl := mkHid hjl
            clear hRl G hb hjl
            go_wp2_with (go_at_call 26; refine HJL.out.mono ?_; rintro e w4 ⟨bb, rfl, k4, hb4, r4⟩; have eb : bb = true := hb4.symm.trans HBb.out; subst eb; have K4 := mkHid (K3.out.trans k4); have R4 := mkHid (r4 rfl); clear k4 hb4 r4)
            obtain ⟨-, -, -, -, -, -, -, -, u8⟩ := R4.out.cells
            obtain ⟨-, u2⟩ := HKc.out w4 K4.out
            have hl4 : (jumpN C R.pls R.pls.length).length ≤ 4096 := by rw [HJl.out, HRl.out]; exact k1a
            have HFo := mkHid (follow_ok (jumpN C R.pls R.pls.length) pp st w4.drew (R4.out.idle (Fr.drew [] w4)).plr (R4.out.idle (Fr.drew [] w4)).tb hl4 HPl.out.1 (fun h0 => HPl.out.2.1 (by rw [HJl.out] at h0; exact h0)) (fun i hi => HPl.out.2.2 i (by rw [HJl.out] at hi; exact hi)))
            obtain ⟨nn, hnn⟩ : ∃ nn, (jumpN C R.pls R.pls.length).length = nn := ⟨_, rfl⟩
            have HNn : Hid (nn = C.ws.length) := by show nn = _; rw [← hnn, HJl.out]; exact HRl.out
            rw [hnn] at u8 HFo
            obtain ⟨⟨E5, D5⟩, hq5⟩ : ∃ q, followP (jumpN C R.pls R.pls.length) st = q := ⟨_, rfl⟩
            rw [hq5] at HFo HWo
            simp only at HFo
            have HS1 := mkHid HF1.out.size
            clear hnn hq5 hl4 HPl HJL
            go_region_with (go_at_call 27; refine HFo.out.mono ?_; rintro e w5 ⟨v5, rfl, f5, o5, n5⟩; have F5 := mkHid f5; have O5 := mkHid o5; have N5 := mkHid n5; clear f5 o5 n5)
            all_goals go_wp2_with fail
            all_goals go_ret2
            all_goals refine ⟨0, v5, by rw [HD0.out, HWo.out]; rfl, ?_, by rw [HZ1.out], fun h0 => ?_, fun h0 => ?_⟩
            all_goals first
              | exact (K4.out.fr HF1.out HS1.out).tr0 ((Fr.drew [] w4).tr0 F5.out)
              | (rw [HD0.out, HWo.out] at h0 ⊢
                 have o := O5.out h0
                 rw [HNn.out] at o
                 exact ⟨o.1, o.2.imp id (fun ⟨g, cap, cur, e1, q1, q2⟩ => ⟨g, cap, cur, e1, Nat.le_trans (Nat.le_trans HS1.out K4.out.size) q1, q2⟩)⟩)
              | (rw [HD0.out, HWo.out] at h0; exact N5.out h0)
        · have qE : (E3 != 0) = true := by simpa using hE3
          rw [if_pos hE3] at HWo
          go_wp2_with fail
          go_ret2
          exact ⟨0, _, by rw [HD0.out, HWo.out]; rfl, K3.out.fr HF1.out HF1.out.size, by rw [HZ1.out], fun h0 => absurd (by rw [HD0.out, HWo.out] at h0; exact h0) hE3, fun _ => rfl⟩
      · have qE : (E != 0) = true := by simpa using hE
        have HDE : Hid (depthsP C h E = (E, [])) := by show depthsP C h E = _; rw [HD.out, if_pos hE]
        go_wp2_with fail
        go_ret2
        exact ⟨E, _, by rw [HDE.out]; rfl, HF1.out, by rw [HZ1.out], fun h0 => absurd (by rw [HDE.out] at h0; exact h0) hE, fun _ => rfl⟩
end Go.Proofs.YtdflpoldlokijaaDoor
