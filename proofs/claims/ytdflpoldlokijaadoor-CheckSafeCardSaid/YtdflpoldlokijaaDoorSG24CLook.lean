import Derived.Test.YtdflpoldlokijaaDoorSCLv
import Derived.Test.YtdflpoldlokijaaDoorSG22CMul
import Derived.Test.YtdflpoldlokijaaDoorSCRep2
import Derived.Test.YtdflpoldlokijaaDoorSG13CJmp
namespace Go.Proofs.YtdflpoldlokijaaDoor
open Go.RowKit
set_option linter.unusedVariables false
set_option linter.unusedSimpArgs false
attribute [local go_sem ↓] Go.wp_at_zero Go.wp_at_succ
theorem max_same : ∀ (l : List Int), 0 < l.length → (∀ x ∈ l, -1 ≤ x) → l.foldl max (l.getD 0 0) = l.foldl max (-1)
  | [], h, _ => by simp at h
  | a :: t, _, h => by
    have ha := h a (by simp)
    show t.foldl max (max a a) = t.foldl max (max (-1) a)
    rw [show max a a = a by omega, show max (-1) a = a by omega]
theorem goP_step (l : List Pl) (f i : Nat) (s : Wk) (h : i < s.come.length) : goP l (f + 1) i s = goP l f (i + 1) (leaveP l s (s.come.getD i 0)) := by
  show (if i < s.come.length then _ else _) = _
  rw [if_pos h]
theorem goP_stop (l : List Pl) (f i : Nat) (s : Wk) (h : ¬ i < s.come.length) : goP l (f + 1) i s = s := by
  show (if i < s.come.length then _ else _) = _
  rw [if_neg h]
set_option maxRecDepth 100000 in
set_option maxHeartbeats 4000000 in
theorem follow_ok (pls : List Pl) (pp : Option Addr) (stack : Int) (w : World) (hp : PlR w w.heap.size pp pls) (ht : Tb w) (hn : pls.length ≤ 4096) (hok : PlOk pls) (hb0 : 0 < pls.length → (plD pls 0).body ≠ 0) (hargs : ∀ i, i < pls.length → (plD pls i).args ≤ 8) :
    Calls Tryd.prog 27 #[.slice pp pls.length pls.length, .int .i64 stack] w fun e w' => ∃ v, e = .returned (.tuple #[v, .int .i64 (followP pls stack).1]) ∧ Fr [] w w' ∧ ((followP pls stack).1 = 0 → w'.ownsRow w.heap.size 3 1 v pls.length ((followP pls stack).2.map (Value.int .i64))) ∧ ((followP pls stack).1 ≠ 0 → v = .slice none 0 0) := by
  by_cases h0 : pls.length = 0
  · have HF : Hid (followP pls stack = (114, [])) := mkHid (if_pos h0)
    have e0 : ((pls.length : Int) == 0) = true := beq_iff_eq.2 (by omega)
    clear hp ht hok hb0 hargs h0
    go_enter Tryd.func27, Tryd.ntmps27
    go_wp2_with fail
    go_ret2
    rw [HF.out]
    exact ⟨_, rfl, Fr.refl _ _, fun h => (by cases h), fun _ => rfl⟩
  · have e0 : ((pls.length : Int) == 0) = false := beq_eq_false_iff_ne.2 (by omega)
    obtain ⟨FIN, hFIN⟩ : ∃ q, goP pls (pls.length + 1) 0 (startP pls.length) = q := ⟨_, rfl⟩
    have HF : Hid (followP pls stack = if FIN.ended then (114, []) else if FIN.uneven ∨ FIN.dep.foldl max (-1) ≠ stack then (113, []) else (0, FIN.dep)) := by
      show followP pls stack = _
      unfold followP
      rw [if_neg h0, hFIN]
    obtain ⟨s1, s2, s3⟩ := startP_ok pls (by omega) (hb0 (by omega))
    have hpos := ht.pos
    have HREP : Hid (Calls Tryd.prog 47 #[.slice (some ⟨w.heap.size, 0, none⟩) 1 1, .int .i64 pls.length] (w.alloc (.cells #[.int .i64 (-1)] 3)) fun e w' => ∃ g2, e = .returned (.slice (some ⟨g2, 0, none⟩) pls.length pls.length) ∧ w'.ownsRow (w.alloc (.cells #[.int .i64 (-1)] 3)).heap.size 3 1 (.slice (some ⟨g2, 0, none⟩) pls.length pls.length) pls.length ((List.replicate pls.length (-1 : Int)).map (Value.int .i64)) ∧ Fr [] (w.alloc (.cells #[.int .i64 (-1)] 3)) w') := repeat_ok w.heap.size pls.length _ (by rw [cell_in (heap_alloc_new w _)]; rfl) (by omega) hn
    have HFW : Hid (∀ w2 g2, w2.ownsRow (w.alloc (.cells #[.int .i64 (-1)] 3)).heap.size 3 1 (.slice (some ⟨g2, 0, none⟩) pls.length pls.length) pls.length ((List.replicate pls.length (-1 : Int)).map (Value.int .i64)) → Fr [] (w.alloc (.cells #[.int .i64 (-1)] 3)) w2 → FW (w2.alloc (.cells #[.slice pp pls.length pls.length, .slice (some ⟨g2, 0, none⟩) pls.length pls.length, .slice none 0 0, .bool false, .bool false] 106)) w.heap.size w2.heap.size pls pp (some ⟨g2, 0, none⟩) ⟨List.replicate pls.length (-1), [], false, false⟩ none 0 ∧ Fr [] w (w2.alloc (.cells #[.slice pp pls.length pls.length, .slice (some ⟨g2, 0, none⟩) pls.length pls.length, .slice none 0 0, .bool false, .bool false] 106))) := fun w2 g2 ho hf => by
      have f2 : Fr [] w w2 := (Fr.alloc [] w _).tr0 hf
      have f3 := f2.al (.cells #[.slice pp pls.length pls.length, .slice (some ⟨g2, 0, none⟩) pls.length pls.length, .slice none 0 0, .bool false, .bool false] 106)
      refine ⟨⟨heap_alloc_new w2 _, f2.size, ?_, ⟨rfl, .inl ⟨rfl, rfl⟩⟩, hp.kw (f3.kw (Nat.le_refl _) (by simp)), fun g hg => by simp [blk] at hg, ht.idle f3, hpos, hn⟩, f3⟩
      have ho2 : w2.ownsRow w.heap.size 3 1 (.slice (some ⟨g2, 0, none⟩) pls.length pls.length) pls.length ((List.replicate pls.length (-1 : Int)).map (Value.int .i64)) := by
        refine ⟨ho.1, ?_⟩
        rcases ho.2 with h2 | ⟨g, cap, cur, e, q1, q2, q3⟩
        · exact .inl h2
        · exact .inr ⟨g, cap, cur, e, by simp at q1; omega, q2, q3⟩
      exact own_congr ho2 fun g hg => Below.heap_alloc _ _ _ (own_lt ho2 g hg).2
    have HMt : Hid (∀ W x pd, FW W w.heap.size x pls pp pd ⟨List.replicate pls.length (-1), [], false, false⟩ none 0 → w.heap.size ≤ W.heap.size → Calls Tryd.prog 48 #[.pointer (some ⟨x, 0, none⟩), .int .i64 0, .int .i64 0] W fun e w' => e = .returned (.tuple #[]) ∧ Fr (foot x pd none) W w' ∧ ∃ pc' cc', FW w' w.heap.size x pls pp pd (startP pls.length) pc' cc' ∧ Nw W none pc') := fun W x pd hW hB => meet_ok hW hB 0 0 (by omega) (by simp)
    have HS1 := mkHid s1
    have HOk := mkHid hok
    have HArgs := mkHid hargs
    have HFin := mkHid hFIN
    have n1 : (1 : Int) ≤ (pls.length : Int) := by omega
    clear hp ht hok hb0 hargs h0 s1 hFIN
    go_enter Tryd.func27, Tryd.ntmps27
    go_wp2_with (first
      | (go_at_call 47; refine HREP.out.mono ?_; rintro e w2 ⟨g2, rfl, o2, f2⟩; have HX := mkHid (HFW.out w2 g2 o2 f2); clear o2 f2)
      | (go_at_call 48; refine (HMt.out _ _ _ HX.out.1 HX.out.2.size).mono ?_; rintro e w4 ⟨rfl, k4, pc4, cc4, h4, n4⟩; have G4 := mkHid h4; have K4 := mkHid (Kw.fr (HX.out.1.kw HX.out.2.size k4) HX.out.2 (Nat.le_refl _)); clear h4 k4 n4))
    obtain ⟨x, hx⟩ : ∃ x, w2.heap.size = x := ⟨_, rfl⟩
    rw [hx] at G4 ⊢
    clear hx
    go_loopw [7] (fun q wr => ∃ i : Nat, q = .int .i64 i ∧ i ≤ pls.length ∧ Hid (∃ s pc cc f, i ≤ s.come.length ∧ FW wr w.heap.size x pls pp (some ⟨g2, 0, none⟩) s pc cc ∧ Fr [] w wr ∧ GoInv pls i s ∧ goP pls f i s = FIN ∧ pls.length < i + f)) (fun q _ => pls.length - (intOf q).toNat)
    case atStart => exact ⟨0, rfl, Nat.zero_le _, startP pls.length, pc4, cc4, pls.length + 1, Nat.zero_le _, G4.out, K4.out, HS1.out, HFin.out, by omega⟩
    case round =>
      clear G4 K4 HX HREP HFW HMt HS1 HFin
      obtain ⟨i, rfl, hil, hst⟩ := hrel
      obtain ⟨s, pc, cc, f, hi, hfw, hfr, hgo, hfin, hlen⟩ := hst.out
      have hcl := nodup_len pls.length hgo.ok.nodup (fun x hx => (hgo.ok.lt x hx).1)
      obtain ⟨-, c1, c2, c3, c4⟩ := hfw.cells
      obtain ⟨f', rfl⟩ : ∃ f', f = f' + 1 := ⟨f - 1, by omega⟩
      have i0 : (0 : Int) ≤ (i : Int) := by omega
      by_cases hlt : i < s.come.length
      · have i1 : (i : Int) < (s.come.length : Int) := by omega
        rw [goP_step pls f' i s hlt] at hfin
        have hstp := hgo.step HOk.out hlt
        have hm : s.come.getD i 0 ∈ s.come := by rw [List.getD_eq_getElem?_getD, List.getElem?_eq_getElem hlt]; exact List.getElem_mem hlt
        obtain ⟨gc, hgc, y0⟩ : ∃ gc, pc = some ⟨gc, 0, none⟩ ∧ wr.cell? ⟨gc, i, none⟩ = some (.int .i64 ((s.come.getD i 0 : Nat) : Int)) := by
          have h1 := hfw.come
          rcases h1.2 with ⟨e, e0⟩ | ⟨g, cap, cur, e, q1, q2, q3, q4⟩
          · omega
          · injection e with e1 _ e3
            subst e1 e3
            refine ⟨g, rfl, ?_⟩
            rw [h1.cellAt i (by omega), List.getElem?_map, List.getD_eq_getElem?_getD, List.getElem?_eq_getElem hlt]; rfl
        subst hgc
        generalize s.come.getD i 0 = at_ at *
        obtain ⟨m1, m2, m3, m4⟩ := hgo.ok.lt at_ hm
        have HLv : Hid (Calls Tryd.prog 49 #[.pointer (some ⟨x, 0, none⟩), .int .i64 at_] wr fun e w' => e = .returned (.tuple #[]) ∧ Kw w.heap.size wr w' ∧ ∃ pc' cc', FW w' w.heap.size x pls pp (some ⟨g2, 0, none⟩) (leaveP pls s at_) pc' cc') := leave_ok hfw hfr.size at_ m1 (by omega) ⟨by omega, by omega⟩ (plD pls at_) rfl (HArgs.out at_ m1) (HOk.out.op at_ m1 m2) (fun hk => (HOk.out.blk at_ m1 m2 hk).1) (fun hk => (HOk.out.jmp at_ m1 m2 hk).1)
        have HS := mkHid hstp
        have HFn := mkHid hfin
        have HFr := mkHid hfr
        have hle : s.come.length ≤ (leaveP pls s at_).come.length := by obtain ⟨t, ht⟩ := hstp.2.pre; rw [ht]; simp
        clear hst hfw hfr hgo hfin hm m2 m3 m4 hstp c1 c3 c4
        go_wp2_with (go_at_call 49; refine HLv.out.mono ?_; rintro e w5 ⟨rfl, k5, pc5, cc5, h5⟩; have G5 := mkHid h5; have K5 := mkHid k5; clear h5 k5)
        go_roundw
        case rel => exact ⟨i + 1, by go_num, by omega, _, pc5, cc5, f', by omega, G5.out, K5.out.fr HFr.out (Nat.le_refl _), HS.out.1, HFn.out, by omega⟩
        case measure => simp [intOf]; omega
      · have i1 : ¬ (i : Int) < (s.come.length : Int) := by omega
        have d1 : decide ((i : Int) < (s.come.length : Int)) = false := decide_eq_false i1
        rw [goP_stop pls f' i s hlt] at hfin
        subst hfin
        have hdl := hfw.dl
        have HRd : Hid (Rd wr (.slice (some ⟨g2, 0, none⟩) pls.length pls.length) s.dep) := by
          have h1 := hfw.dep
          rw [← hdl] at h1 ⊢
          exact own_rd h1 (by omega)
        have HMx := mkHid (max_ok s.dep _ wr HRd.out (by omega) (by omega))
        have HMs : Hid (s.dep.foldl max (s.dep.getD 0 0) = s.dep.foldl max (-1)) := max_same s.dep (by omega) (fun x hx => by
          obtain ⟨j, hj, hjx⟩ := List.getElem_of_mem hx
          by_cases hm : depD s.dep j = -1
          · have e : depD s.dep j = x := by unfold depD; rw [List.getD_eq_getElem?_getD, List.getElem?_eq_getElem hj, hjx]; rfl
            omega
          · have := (hgo.ok.lt j ((hgo.ok.mem j).2 hm)).2.2.1
            have e : depD s.dep j = x := by unfold depD; rw [List.getD_eq_getElem?_getD, List.getElem?_eq_getElem hj, hjx]; rfl
            omega)
        rw [HMs.out] at HMx
        have HFr := mkHid hfr
        have HDep := mkHid hfw.dep
        clear hst hfw hfr hgo HMs
        obtain ⟨M, hM⟩ : ∃ M, s.dep.foldl max (-1) = M := ⟨_, rfl⟩
        rw [hM] at HMx HF
        cases he : s.ended
        · rw [he] at c3 HF
          simp only [Bool.false_eq_true, if_false] at HF
          cases hu : s.uneven
          · rw [hu] at c4 HF
            simp only [Bool.false_eq_true, false_or] at HF
            by_cases hms : M = stack
            · rw [if_neg (by simpa using hms)] at HF
              have q1 : (M != stack) = false := by simpa using hms
              subst hms
              clear hM he hu
              go_wp2_with (go_at_call 50; refine HMx.out.mono ?_; rintro e w5 ⟨rfl, hw5⟩; rw [hw5]; clear hw5 w5)
              go_ret2
              rw [HF.out]
              exact ⟨_, rfl, HFr.out, fun _ => HDep.out, fun h => absurd rfl h⟩
            · rw [if_pos hms] at HF
              have q1 : (M != stack) = true := by simpa using hms
              clear hM he hu hms
              go_wp2_with (go_at_call 50; refine HMx.out.mono ?_; rintro e w5 ⟨rfl, hw5⟩; rw [hw5]; clear hw5 w5)
              go_ret2
              rw [HF.out]
              exact ⟨_, rfl, HFr.out, fun h => (by cases h), fun _ => rfl⟩
          · rw [hu] at c4 HF
            simp only [true_or, if_true] at HF
            clear hM he hu
            go_wp2_with (go_at_call 50; fail)
            go_ret2
            rw [HF.out]
            exact ⟨_, rfl, HFr.out, fun h => (by cases h), fun _ => rfl⟩
        · rw [he] at c3 HF
          simp only [if_true] at HF
          clear hM he
          go_wp2_with fail
          go_ret2
          rw [HF.out]
          exact ⟨_, rfl, HFr.out, fun h => (by cases h), fun _ => rfl⟩
end Go.Proofs.YtdflpoldlokijaaDoor
namespace Go.Proofs.YtdflpoldlokijaaDoor
open Go.RowKit
set_option linter.unusedVariables false
set_option linter.unusedSimpArgs false
attribute [local go_sem ↓] Go.wp_at_zero Go.wp_at_succ
/-- a literal as it lies in memory -/
inductive LitT where
  | mk (kind : Int) (text : ByteArray) (num : Int) (p : Option Addr) (c : Nat) (kids : List LitT)
def LitT.kind : LitT → Int | .mk k _ _ _ _ _ => k
def LitT.text : LitT → ByteArray | .mk _ t _ _ _ _ => t
def LitT.num : LitT → Int | .mk _ _ n _ _ _ => n
def LitT.p : LitT → Option Addr | .mk _ _ _ p _ _ => p
def LitT.c : LitT → Nat | .mk _ _ _ _ c _ => c
def LitT.kids : LitT → List LitT | .mk _ _ _ _ _ l => l
def LitT.items (t : LitT) : Value := .slice t.p t.kids.length t.c
def litc (t : LitT) : List Value := [.int .i64 t.kind, .string t.text, .int .i64 t.num, t.items]
structure LitAt (w : World) (g off : Nat) (t : LitT) : Prop where
  c0 : w.cell? ⟨g, off, none⟩ = some (.int .i64 t.kind)
  c1 : w.cell? ⟨g, off + 1, none⟩ = some (.string t.text)
  c2 : w.cell? ⟨g, off + 2, none⟩ = some (.int .i64 t.num)
  c3 : w.cell? ⟨g, off + 3, none⟩ = some t.items
theorem LitAt.idle {w w' : World} {g off : Nat} {t : LitT} (h : LitAt w g off t) (hf : Fr [] w w') : LitAt w' g off t := ⟨hf.cl h.c0, hf.cl h.c1, hf.cl h.c2, hf.cl h.c3⟩
/-- literals that can be read, with all that is in them -/
inductive LitsR (w : World) : Option Addr → Nat → List LitT → Prop
  | mk (p : Option Addr) (c : Nat) (ts : List LitT) (nil : p = none → c = 0) (at_ : 0 < ts.length → ∃ g off, p = some ⟨g, off, none⟩ ∧ g < w.heap.size ∧ ∀ i t, ts[i]? = some t → LitAt w g (off + i * 4) t) (short : ts.length ≤ 2513169434916) (txt : ∀ t ∈ ts, t.text.size ≤ 140737488355328)
      (kids : ∀ t ∈ ts, LitsR w t.p t.c t.kids) : LitsR w p c ts
theorem LitsR.idle {w w' : World} {p : Option Addr} {c : Nat} {ts : List LitT} (h : LitsR w p c ts) (hf : Fr [] w w') : LitsR w' p c ts := by
  induction h with
  | mk p c ts nil at_ short txt kids ih =>
    refine .mk p c ts nil (fun hp => ?_) short txt ih
    obtain ⟨g, off, e, hg, hc⟩ := at_ hp
    exact ⟨g, off, e, Nat.lt_of_lt_of_le hg hf.size, fun i t ht => (hc i t ht).idle hf⟩
def objB (t : LitT) : Bool := if t.kind = 2 then decide ((t.text.size : Int) ≤ 256) else if t.kind = 4 then decide ((t.kids.length : Int) ≤ 32) else false
def elemB (sym : Int) (t : LitT) : Bool := if t.kind = 1 then inR t.num (-1073741824) 1073741823 else if t.kind = 3 then bel t.num sym else if t.kind = 5 ∨ t.kind = 6 ∨ t.kind = 7 then true else objB t
set_option maxRecDepth 100000 in
set_option maxHeartbeats 1000000 in
theorem isObject_ok (g off : Nat) (t : LitT) (w : World) (h : LitAt w g off t) (ht : t.text.size ≤ 140737488355328) (hl : t.kids.length ≤ 2513169434916) : Calls Tryd.prog 40 #[.pointer (some ⟨g, off, none⟩)] w fun e w' => e = .returned (.bool (objB t)) ∧ w' = w := by
  obtain ⟨c0, c1, -, c3'⟩ := h
  have c3 : w.cell? ⟨g, off + 3, none⟩ = some (.slice t.p t.kids.length t.c) := c3'
  clear c3'
  have HO : Hid (objB t = if t.kind = 2 then decide ((t.text.size : Int) ≤ 256) else if t.kind = 4 then decide ((t.kids.length : Int) ≤ 32) else false) := mkHid rfl
  generalize t.kind = k at *
  generalize t.text = tx at *
  generalize t.kids.length = n at *
  generalize t.p = pi at *
  generalize t.c = ci at *
  by_cases k2 : k = 2
  · subst k2
    rw [if_pos rfl] at HO
    go_enter Tryd.func40, Tryd.ntmps40
    go_wp2_with fail
    go_ret
    exact ⟨by rw [HO.out]; rfl, rfl⟩
  · rw [if_neg k2] at HO
    have q2 : (k == 2) = false := beq_eq_false_iff_ne.2 k2
    by_cases k4 : k = 4
    · subst k4
      rw [if_pos rfl] at HO
      clear k2 q2
      go_enter Tryd.func40, Tryd.ntmps40
      go_wp2_with fail
      go_ret
      exact ⟨by rw [HO.out]; rfl, rfl⟩
    · rw [if_neg k4] at HO
      have q4 : (k == 4) = false := beq_eq_false_iff_ne.2 k4
      clear k2 k4
      go_enter Tryd.func40, Tryd.ntmps40
      go_wp2_with fail
      go_ret
      exact ⟨by rw [HO.out]; rfl, rfl⟩
set_option maxHeartbeats 2000000 in
theorem isElement_ok (s g off : Nat) (sym : Int) (t : LitT) (w : World) (hs : w.cell? ⟨s, 0, none⟩ = some (.int .i64 sym)) (h : LitAt w g off t) (ht : t.text.size ≤ 140737488355328) (hl : t.kids.length ≤ 2513169434916) : Calls Tryd.prog 61 #[.pointer (some ⟨s, 0, none⟩), .pointer (some ⟨g, off, none⟩)] w fun e w' => e = .returned (.bool (elemB sym t)) ∧ ∃ n, w' = w.drewN n := by
  have HOb := mkHid (isObject_ok g off t w h ht hl)
  obtain ⟨c0, -, c2, -⟩ := h
  have HE : Hid (elemB sym t = if t.kind = 1 then inR t.num (-1073741824) 1073741823 else if t.kind = 3 then bel t.num sym else if t.kind = 5 ∨ t.kind = 6 ∨ t.kind = 7 then true else objB t) := mkHid rfl
  generalize objB t = ob at *
  generalize t.kind = k at *
  generalize t.num = nu at *
  by_cases k1 : k = 1
  · subst k1
    rw [if_pos rfl] at HE
    have HW := mkHid (within_ok nu (-1073741824) 1073741823 w)
    generalize inR nu (-1073741824) 1073741823 = bb at *
    go_enter Tryd.func61, Tryd.ntmps61
    go_wp2_with (go_at_call 22; refine HW.out.mono ?_; rintro e w' ⟨rfl, hw'⟩; rw [hw']; clear hw' w')
    go_ret
    exact ⟨by rw [HE.out]; rfl, 0, rfl⟩
  · rw [if_neg k1] at HE
    have q1 : (k == 1) = false := beq_eq_false_iff_ne.2 k1
    by_cases k3 : k = 3
    · subst k3
      rw [if_pos rfl] at HE
      have HB : Hid (∀ q, Calls Tryd.prog 65 #[.int .i64 nu, .int .i64 sym] (w.drewN q) fun e w' => e = .returned (.bool (bel nu sym)) ∧ w' = w.drewN q) := fun q => below_ok _ _ _
      generalize bel nu sym = bb at *
      go_enter Tryd.func61, Tryd.ntmps61
      go_wp2_with fail
      go_quiet (first | (go_at_call 65; refine (HB.out _).mono ?_; rintro e w'' ⟨rfl, rfl⟩; exact ⟨rfl, _, rfl⟩))
      go_wp2_with fail
      go_ret
      exact ⟨by rw [HE.out]; rfl, _, rfl⟩
    · rw [if_neg k3] at HE
      have q3 : (k == 3) = false := beq_eq_false_iff_ne.2 k3
      by_cases k5 : k = 5 ∨ k = 6 ∨ k = 7
      · rw [if_pos k5] at HE
        rcases k5 with rfl | rfl | rfl
        all_goals clear k1 k3 q1 q3
        all_goals go_enter Tryd.func61, Tryd.ntmps61
        all_goals go_wp2_with fail
        all_goals go_ret
        all_goals exact ⟨by rw [HE.out]; rfl, 0, rfl⟩
      · rw [if_neg k5] at HE
        have q5 : (k == 5) = false := beq_eq_false_iff_ne.2 (by omega)
        have q6 : (k == 6) = false := beq_eq_false_iff_ne.2 (by omega)
        have q7 : (k == 7) = false := beq_eq_false_iff_ne.2 (by omega)
        clear k1 k3 k5
        go_enter Tryd.func61, Tryd.ntmps61
        go_wp2_with (go_at_call 40; refine HOb.out.mono ?_; rintro e w' ⟨rfl, hw'⟩; rw [hw']; clear hw' w')
        go_ret
        exact ⟨by rw [HE.out]; rfl, 0, rfl⟩
/-- the one who looks at literals, in memory -/
def Shf (w : World) (s : Nat) (sym : Int) (el : Nat) : Prop := w.heap[s]? = some (.cells #[.int .i64 sym, .int .i64 (el : Int)] 66 (0, 0))
set_option maxRecDepth 100000 in
set_option maxHeartbeats 4000000 in
theorem inside_ok (w0 : World) (p : Option Addr) (c : Nat) (ts : List LitT) (h : LitsR w0 p c ts) : ∀ (t : LitT), t.p = p → t.c = c → t.kids = ts → ∀ (w : World) (s g off : Nat) (sym : Int) (el : Nat), Fr [] w0 w → w0.heap.size ≤ s → Shf w s sym el → el ≤ 4096 → LitAt w g off t → g < w0.heap.size →
    Calls Tryd.prog 41 #[.pointer (some ⟨s, 0, none⟩), .pointer (some ⟨g, off, none⟩)] w fun e w' => ∃ (E : Int) (el' : Nat), e = .returned (.int .i64 E) ∧ Fr [s] w w' ∧ Shf w' s sym el' ∧ (E = 0 → el' ≤ 4096) := by
  induction h with
  | mk p c ts nil at_ short txt kids ih =>
    intro t hp hc hk w s g off sym el hf hs hsh hel hl hg
    have c0 := hl.c0
    have c3 : w.cell? ⟨g, off + 3, none⟩ = some (.slice p ts.length c) := by have := hl.c3; unfold LitT.items at this; rw [hp, hc, hk] at this; exact this
    have HL := mkHid hl
    have HSh := mkHid hsh
    have HIh := mkHid ih
    have HAt := mkHid at_
    have HTx := mkHid txt
    have HF := mkHid hf
    have HKi := mkHid kids
    have hsg : s ≠ g := by omega
    generalize t.kind = k at *
    clear hl hsh ih at_ nil txt kids hf hp hc hk
    by_cases k4 : k = 4
    · subst k4
      go_enter Tryd.func41, Tryd.ntmps41
      go_wp2_with fail
      go_loopw [18] (fun q wr => ∃ i : Nat, i ≤ ts.length ∧ q = .int .i64 i ∧ Hid (∃ el' : Nat, Shf wr s sym el' ∧ el' ≤ 4096 ∧ Fr [s] w wr)) (fun q _ => ts.length - (intOf q).toNat)
      case atStart => exact ⟨0, Nat.zero_le _, rfl, el, HSh.out, hel, Fr.refl _ _⟩
      case round =>
        obtain ⟨i, hin, rfl, hst⟩ := hrel
        have i0 : (0 : Int) ≤ (i : Int) := by omega
        obtain ⟨el1, hs1, he1, hf1⟩ := hst.out
        have F0 : Fr [] w0 wr := HF.out.trans hf1 (fun b hb => .inr (by simp at hb; omega))
        have hgw : g < w.heap.size := Nat.lt_of_lt_of_le hg HF.out.size
        have c3' : wr.cell? ⟨g, off + 3, none⟩ = some (.slice p ts.length c) := (hf1.cell (p := ⟨g, off + 3, none⟩) hgw (by simp; exact Ne.symm hsg)).trans c3
        by_cases hlt : i < ts.length
        · have i1 : (i : Int) < (ts.length : Int) := by omega
          obtain ⟨ge, oe, rfl, hge, hce⟩ := HAt.out (by omega)
          obtain ⟨t2, ht2⟩ : ∃ t2, ts[i]? = some t2 := ⟨_, List.getElem?_eq_getElem hlt⟩
          have hl0 := hce i t2 ht2
          have hl2 := hl0.idle F0
          have hmem := List.mem_of_getElem? ht2
          have y0 : wr.cell? ⟨s, 0, none⟩ = some (.int .i64 sym) := by rw [cell_in hs1]; rfl
          have y1 : wr.cell? ⟨s, 1, none⟩ = some (.int .i64 (el1 : Int)) := by rw [cell_in hs1]; rfl
          have hkl : t2.kids.length ≤ 2513169434916 := by
            have := HKi.out t2 hmem
            cases this with
            | mk _ _ _ _ _ sh _ _ => exact sh
          have HEl := mkHid (isElement_ok s ge (oe + i * 4) sym t2 wr y0 hl2 (HTx.out t2 hmem) hkl)
          have fz := frozen_in hs1 1
          have HS2 : Hid (∀ n, Shf ((wr.drewN n).setCell ⟨s, 1, none⟩ (.int .i64 ((el1 : Int) + 1))) s sym (el1 + 1) ∧ Fr [s] w ((wr.drewN n).setCell ⟨s, 1, none⟩ (.int .i64 ((el1 : Int) + 1)))) := fun n => by
            refine ⟨?_, (hf1.trans (Fr.drewN [s] wr n) (by simp)).trans (Fr.setCell (S := [s]) (wr.drewN n) ⟨s, 1, none⟩ _ (by simp)) (fun b hb => .inl hb)⟩
            unfold Shf
            rw [set_in (w := wr.drewN n) hs1 1 _]
            push_cast
            rfl
          have HIn : Hid (∀ W, Shf W s sym (el1 + 1) → Fr [s] w W → el1 + 1 ≤ 4096 → Calls Tryd.prog 41 #[.pointer (some ⟨s, 0, none⟩), .pointer (some ⟨ge, oe + i * 4, none⟩)] W fun e w' => ∃ (E : Int) (el' : Nat), e = .returned (.int .i64 E) ∧ Fr [s] W w' ∧ Shf w' s sym el' ∧ (E = 0 → el' ≤ 4096)) := fun W hW hWf he => by
            have F0W : Fr [] w0 W := HF.out.trans hWf (fun b hb => .inr (by simp at hb; omega))
            exact HIh.out t2 hmem t2 rfl rfl rfl W s ge (oe + i * 4) sym (el1 + 1) F0W hs hW he (hl0.idle F0W) hge
          have HN := mkHid (fun n => (hf1.trans (Fr.drewN [s] wr n) (by simp)))
          have HShN : Hid (∀ n, Shf (wr.drewN n) s sym el1) := fun n => hs1
          have HF1 := mkHid hf1
          clear hst hs1 hf1 F0 hce hl0 hl2 ht2 hmem
          cases hb : elemB sym t2
          · rw [hb] at HEl
            go_wp2_with (go_at_call 61; refine HEl.out.mono ?_; rintro e w1 ⟨rfl, n1, rfl⟩)
            go_ret
            first | exact ⟨111, el1, rfl, HN.out _, HShN.out _, fun h => by cases h⟩ | exact ⟨111, rfl, HN.out _, el1, HShN.out _, fun h => by cases h⟩
          · rw [hb] at HEl
            by_cases h96 : el1 + 1 ≤ 4096
            · have e96 : ¬ (4096 : Int) < (el1 : Int) + 1 := by omega
              go_wp2_with (first
                | (go_at_call 61; refine HEl.out.mono ?_; rintro e w1 ⟨rfl, n1, rfl⟩)
                | (go_at_call 41; fail))
              obtain ⟨W, hW⟩ : ∃ W, (wr.drewN n1).setCell ⟨s, 1, none⟩ (.int .i64 ((el1 : Int) + 1)) = W := ⟨_, rfl⟩
              have hS2 := HS2.out n1
              rw [hW] at hS2 ⊢
              refine (HIn.out W hS2.1 hS2.2 h96).mono ?_
              rintro e w5 ⟨E5, el5, rfl, f5, s5, k5⟩
              have F5 := mkHid (hS2.2.trans f5 (fun b hb => .inl hb))
              have S5 := mkHid s5
              have K5 := mkHid k5
              clear hS2 hW f5 s5 k5
              by_cases hE : E5 = 0
              · subst hE
                go_wp2_with fail
                go_roundw
                case rel => exact ⟨i + 1, by omega, by go_num, el5, S5.out, by first | exact K5.out rfl | exact K5.out trivial | exact K5.out, F5.out⟩
                case measure => simp [intOf]; omega
              · have qE : (E5 != 0) = true := by simpa using hE
                go_wp2_with fail
                go_ret
                first | exact ⟨E5, el5, rfl, F5.out, S5.out, K5.out⟩ | exact ⟨E5, rfl, F5.out, el5, S5.out, K5.out⟩
            · have e96 : (4096 : Int) < (el1 : Int) + 1 := by omega
              go_wp2_with (go_at_call 61; refine HEl.out.mono ?_; rintro e w1 ⟨rfl, n1, rfl⟩)
              go_ret
              first | exact ⟨73, el1 + 1, rfl, (HS2.out n1).2, (HS2.out n1).1, fun h => by cases h⟩ | exact ⟨73, rfl, (HS2.out n1).2, el1 + 1, (HS2.out n1).1, fun h => by cases h⟩
        · have i1 : ¬ (i : Int) < (ts.length : Int) := by omega
          have d1 : decide ((i : Int) < (ts.length : Int)) = false := decide_eq_false i1
          have HF1 := mkHid hf1
          have HS1 := mkHid hs1
          clear hst hs1 hf1 F0
          go_wp2_with fail
          go_ret
          first | exact ⟨0, el1, rfl, HF1.out, HS1.out, fun _ => he1⟩ | exact ⟨0, rfl, HF1.out, el1, HS1.out, fun _ => he1⟩
    · have q4 : (k != 4) = true := by simpa using k4
      go_enter Tryd.func41, Tryd.ntmps41
      go_wp2_with fail
      go_ret
      first | exact ⟨0, el, rfl, Fr.refl _ _, HSh.out, fun _ => hel⟩ | exact ⟨0, rfl, Fr.refl _ _, el, HSh.out, fun _ => hel⟩
end Go.Proofs.YtdflpoldlokijaaDoor
namespace Go.Proofs.YtdflpoldlokijaaDoor
open Go.RowKit
set_option linter.unusedVariables false
set_option linter.unusedSimpArgs false
attribute [local go_sem ↓] Go.wp_at_zero Go.wp_at_succ
set_option maxRecDepth 100000 in
set_option maxHeartbeats 4000000 in
theorem look_ok (w : World) (p : Option Addr) (c : Nat) (ts : List LitT) (h : LitsR w p c ts) (s : Nat) (sym : Int) (W0 : World) (hf : Fr [] w W0) (hs : w.heap.size ≤ s) (hsh : Shf W0 s sym 0) :
    Calls Tryd.prog 23 #[.pointer (some ⟨s, 0, none⟩), .slice p ts.length c] W0 fun e w' => ∃ E : Int, e = .returned (.int .i64 E) ∧ Fr [s] W0 w' ∧ (ts.length = 0 → E = 0) := by
  have HIn : Hid (∀ t ∈ ts, ∀ (w' : World) (g off el : Nat), Fr [] w w' → Shf w' s sym el → el ≤ 4096 → LitAt w' g off t → g < w.heap.size → Calls Tryd.prog 41 #[.pointer (some ⟨s, 0, none⟩), .pointer (some ⟨g, off, none⟩)] w' fun e w'' => ∃ (E : Int) (el' : Nat), e = .returned (.int .i64 E) ∧ Fr [s] w' w'' ∧ Shf w'' s sym el' ∧ (E = 0 → el' ≤ 4096)) := fun t ht w' g off el a1 a2 a3 a4 a5 => by
    cases h with
    | mk _ _ _ nil at_ short txt kids => exact inside_ok w t.p t.c t.kids (kids t ht) t rfl rfl rfl w' s g off sym el a1 hs a2 a3 a4 a5
  have HOb : Hid (∀ t ∈ ts, ∀ (w' : World) (g off : Nat), LitAt w' g off t → Calls Tryd.prog 40 #[.pointer (some ⟨g, off, none⟩)] w' fun e w'' => e = .returned (.bool (objB t)) ∧ w'' = w') := fun t ht w' g off a1 => by
    cases h with
    | mk _ _ _ nil at_ short txt kids =>
      refine isObject_ok g off t w' a1 (txt t ht) ?_
      have := kids t ht
      cases this with
      | mk _ _ _ _ _ sh _ _ => exact sh
  have hlen : ts.length ≤ 2513169434916 := by cases h with | mk _ _ _ nil at_ short txt kids => exact short
  have HAt : Hid (0 < ts.length → ∃ g off, p = some ⟨g, off, none⟩ ∧ g < w.heap.size ∧ ∀ i t, ts[i]? = some t → LitAt w g (off + i * 4) t) := by
    cases h with | mk _ _ _ nil at_ short txt kids => exact at_
  have HF := mkHid hf
  have HSh := mkHid hsh
  clear h hf hsh
  go_enter Tryd.func23, Tryd.ntmps23
  go_wp2_with fail
  go_loopw [10] (fun q wr => ∃ i : Nat, i ≤ ts.length ∧ q = .int .i64 i ∧ Hid (∃ el' : Nat, Shf wr s sym el' ∧ el' ≤ 4096 ∧ Fr [s] W0 wr)) (fun q _ => ts.length - (intOf q).toNat)
  case atStart => exact ⟨0, Nat.zero_le _, rfl, 0, HSh.out, by omega, Fr.refl _ _⟩
  case round =>
    obtain ⟨i, hin, rfl, hst⟩ := hrel
    have i0 : (0 : Int) ≤ (i : Int) := by omega
    obtain ⟨el1, hs1, he1, hf1⟩ := hst.out
    by_cases hlt : i < ts.length
    · have i1 : (i : Int) < (ts.length : Int) := by omega
      have F0 : Fr [] w wr := HF.out.trans hf1 (fun b hb => .inr (by simp at hb; omega))
      obtain ⟨ge, oe, rfl, hge, hce⟩ := HAt.out (by omega)
      obtain ⟨t2, ht2⟩ : ∃ t2, ts[i]? = some t2 := ⟨_, List.getElem?_eq_getElem hlt⟩
      have hl2 := (hce i t2 ht2).idle F0
      have hmem := List.mem_of_getElem? ht2
      have HObt := mkHid (HOb.out t2 hmem wr ge (oe + i * 4) hl2)
      have HInt := mkHid (HIn.out t2 hmem wr ge (oe + i * 4) el1 F0 hs1 he1 hl2 hge)
      have HF1 := mkHid hf1
      have hne : ts.length ≠ 0 := by omega
      clear hst hs1 F0 hce hl2 ht2 hmem hf1
      cases hb : objB t2
      · rw [hb] at HObt
        go_wp2_with (go_at_call 40; refine HObt.out.mono ?_; rintro e w1 ⟨rfl, hw1⟩; rw [hw1]; clear hw1 w1)
        go_ret
        exact ⟨111, rfl, HF1.out, fun h => absurd h hne⟩
      · rw [hb] at HObt
        go_wp2_with (first
          | (go_at_call 40; refine HObt.out.mono ?_; rintro e w1 ⟨rfl, hw1⟩; rw [hw1]; clear hw1 w1)
          | (go_at_call 41; fail))
        refine HInt.out.mono ?_
        rintro e w5 ⟨E5, el5, rfl, f5, s5, k5⟩
        have F5 := mkHid (HF1.out.trans f5 (fun b hb => .inl hb))
        have S5 := mkHid s5
        have K5 := mkHid k5
        clear f5 s5 k5
        by_cases hE : E5 = 0
        · subst hE
          go_wp2_with fail
          go_roundw
          case rel => exact ⟨i + 1, by omega, by go_num, el5, S5.out, by first | exact K5.out rfl | exact K5.out trivial | exact K5.out, F5.out⟩
          case measure => simp [intOf]; omega
        · have qE : (E5 != 0) = true := by simpa using hE
          go_wp2_with fail
          go_ret
          exact ⟨E5, rfl, F5.out, fun h => absurd h hne⟩
    · have i1 : ¬ (i : Int) < (ts.length : Int) := by omega
      have d1 : decide ((i : Int) < (ts.length : Int)) = false := decide_eq_false i1
      have HF1 := mkHid hf1
      clear hst hs1 hf1
      go_wp2_with fail
      go_ret
      exact ⟨0, rfl, HF1.out, fun _ => rfl⟩
end Go.Proofs.YtdflpoldlokijaaDoor
