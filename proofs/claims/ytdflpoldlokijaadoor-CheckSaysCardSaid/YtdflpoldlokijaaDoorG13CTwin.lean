import Derived.Test.YtdflpoldlokijaaDoorG12CIns
import Derived.Deep.RegionLaw
namespace Go.Proofs.YtdflpoldlokijaaDoor
open Go.RowKit
set_option linter.unusedVariables false
set_option linter.unusedSimpArgs false
/-- all blocks below B are as they were -/
structure Kw (B : Nat) (w w' : World) : Prop where
  os : w'.os = w.os
  tape : w'.tape = w.tape
  output : w'.output = w.output
  size : w.heap.size ≤ w'.heap.size
  block : ∀ k, k < B → w'.heap[k]? = w.heap[k]?
theorem Kw.refl (B : Nat) (w : World) : Kw B w w := ⟨rfl, rfl, rfl, Nat.le_refl _, fun _ _ => rfl⟩
theorem Kw.trans {B : Nat} {a b c : World} (h : Kw B a b) (k : Kw B b c) : Kw B a c := ⟨k.os.trans h.os, k.tape.trans h.tape, k.output.trans h.output, Nat.le_trans h.size k.size, fun i hi => (k.block i hi).trans (h.block i hi)⟩
theorem Fr.kw {w w' : World} {S : List Nat} (h : Fr S w w') {B : Nat} (hB : B ≤ w.heap.size) (hS : ∀ b ∈ S, B ≤ b) : Kw B w w' := ⟨h.os, h.tape, h.output, h.size, fun k hk => h.block k (by omega) (fun hm => by have := hS k hm; omega)⟩
theorem Kw.fr {w0 w w' : World} {B : Nat} (h : Kw B w w') (h0 : Fr [] w0 w) (hB : w0.heap.size ≤ B) : Fr [] w0 w' := ⟨h.os.trans h0.os, h.tape.trans h0.tape, h.output.trans h0.output, Nat.le_trans h0.size h.size, fun k hk hn => (h.block k (by omega)).trans (h0.block k hk hn)⟩
theorem Kw.fr' {w w' : World} {B : Nat} (h : Kw B w w') (hB : w.heap.size ≤ B) : Fr [] w w' := h.fr (Fr.refl [] w) hB
/-- the reading of a body, as the program does it -/
def ReadC (f : Nat) : Prop := ∀ (w : World) (B a : Nat) (C : Cx) (wv : Value) (sc : List Nat) (ps : Option Addr) (cs : Nat) (pls : List Pl) (pp : Option Addr) (inf : List Inf) (fr en : Nat), RR w B a C wv sc ps cs pls pp inf.length → B ≤ w.heap.size → en - fr < f → fr ≤ en → en ≤ C.ws.length → inf.length + (en - fr) ≤ 100000 →
  Calls Tryd.prog 25 #[.pointer (some ⟨a, 0, none⟩), .int .i64 fr, .int .i64 en] w fun e w' => e = .returned (.int .i64 (readP C f sc fr en (inf.length + 1) ⟨pls, inf ++ [(sc, fr, en)]⟩).1) ∧ Kw B w w' ∧ ∃ ps' cs', RR w' B a C wv sc ps' cs' (readP C f sc fr en (inf.length + 1) ⟨pls, inf ++ [(sc, fr, en)]⟩).2.pls pp (readP C f sc fr en (inf.length + 1) ⟨pls, inf ++ [(sc, fr, en)]⟩).2.inf.length
theorem readP_inf (C : Cx) : ∀ (f : Nat) (sc : List Nat) (at_ en k : Nat) (R : Rs), (readP C f sc at_ en k R).2.inf.length ≤ R.inf.length + (en - at_) := by
  intro f
  induction f with
  | zero => intro sc at_ en k R; simp [readP]
  | succ f ih =>
    intro sc at_ en k R
    unfold readP
    split
    · rename_i hlt
      split
      · simp
      · rename_i he
        have he : (instrP C sc at_ en).1 = 0 := by simpa using he
        obtain ⟨hok, -, -⟩ := instrP_ok C sc at_ en he
        have h1 := hok.gt
        have h2 := hok.ne
        split
        · split
          · refine Nat.le_trans (ih _ _ _ _ _) ?_
            simp
            omega
          · refine Nat.le_trans (ih _ _ _ _ _) ?_
            have := ih (sc ++ [(C.w (at_ + 2)).toNat]) (instrP C sc at_ en).2.fin (instrP C sc at_ en).2.nxt (R.inf.length + 1) ⟨R.pls.set at_ ((instrP C sc at_ en).2.at k), R.inf ++ [(sc ++ [(C.w (at_ + 2)).toNat], (instrP C sc at_ en).2.fin, (instrP C sc at_ en).2.nxt)]⟩
            simp only [List.length_append, List.length_singleton] at this
            omega
        · refine Nat.le_trans (ih _ _ _ _ _) ?_
          simp
          omega
    · simp
theorem own_less {w : World} {B : Nat} {e : TypeId} {p : Option Addr} {n c : Nat} {xs : List Value} {x : Value} (h : w.ownsRow B e 1 (.slice p (n + 1) c) (n + 1) (xs ++ [x])) (hn : xs.length = n) : w.ownsRow B e 1 (.slice p n c) n xs := by
  refine ⟨by omega, ?_⟩
  rcases h.2 with ⟨h2, h3⟩ | ⟨g, cap, cur, e1, q1, q2, q3, q4, q5, q6⟩
  · omega
  · injection e1 with e1 _ e3
    subst e1 e3
    refine .inr ⟨g, c, cur, rfl, q1, q2, by omega, q4, q5, ?_⟩
    have := congrArg (List.take n) q6
    rw [List.take_take, show min n ((n + 1) * 1) = n * 1 by omega, List.take_left' hn] at this
    exact this
/-- the scopes of a reader are others -/
theorem RR.scs' {w w' : World} {B a : Nat} {C : Cx} {wv : Value} {sc sc2 : List Nat} {ps ps2 : Option Addr} {cs cs2 : Nat} {pls : List Pl} {pp : Option Addr} {k : Nat} (h : RR w B a C wv sc ps cs pls pp k) {S : List Nat} (hf : Fr S w w') (hS : ∀ g ∈ S, B ≤ g) (h2 : ∀ g ∈ blk pp, g ∉ S)
    (ht : w'.heap[a]? = some (.cells (rcells C wv ps2 cs2 sc2 k pp pls.length) 74 (0, 0))) (ho : w'.ownsRow B 3 1 (.slice ps2 sc2.length cs2) sc2.length (sc2.map I)) (h25 : sc2.length ≤ 25) (h1 : 1 ≤ sc2.length) (h32 : ∀ x ∈ sc2, x ≤ 32) : RR w' B a C wv sc2 ps2 cs2 pls pp k :=
  ⟨ht, h.base, h.words.keep hf fun hp g hg hm => by have := h.wlo hp g hg; have := hS g hm; omega, h.wlo, ho, own_congr h.pl fun g hg => hf.block g (own_lt h.pl g hg).2 (h2 g ((blk_own _ _ _ _).1 hg)),
    h.tb.fr hf fun hm => by have := hS 0 hm; have := h.b0; omega, h.b0, h.short, h.lits, h.plen, h25, h1, h32, h.wcap, h.rng⟩
def zN (sc : List Nat) : List Int := sc.map fun n : Nat => (n : Int)
theorem zN_map (sc : List Nat) : (zN sc).map (Value.int .i64) = sc.map I := by unfold zN; rw [List.map_map]; rfl
theorem zN_len (sc : List Nat) : (zN sc).length = sc.length := by simp [zN]
theorem zN_snoc (sc : List Nat) (s : Nat) : zN sc ++ [(s : Int)] = zN (sc ++ [s]) := by simp [zN]
theorem step_append_run {P : Program} {ops : Array Oper} {o : Oper} {a : Act} {w : World} {K : Act → World → Prop} {Q : Exit → Act → World → Prop} {E : Prop}
    (hg : o.guard = none) (s x : Operand) (t tn : TypeId) (ho : o.op = .call { callee := .builtin .append, args := #[s, x], argTypes := #[t, tn] }) (vs vx : Value) (hs : a.eval s = vs) (hx : a.eval x = vx)
    (v' : Value) (w' : World) (hr : (Builtin.append_ #[t, tn] o.type #[vs, vx]).run P w = .ok v' w') (h : K (a.put o.dst v') w') : if Region.wanted o (yielded ops a.tmps) = true then Oper.wp P o a w K Q else E := by
  have hw : Region.wanted o (yielded ops a.tmps) = true := by simp [Region.wanted, hg]
  rw [if_pos hw]
  exact Lib.wp_append_run w s x t tn ho vs vx hs hx v' w' hr h
end Go.Proofs.YtdflpoldlokijaaDoor
namespace Go.Proofs.YtdflpoldlokijaaDoor
open Go.RowKit
set_option linter.unusedVariables false
set_option linter.unusedSimpArgs false
attribute [local go_sem ↓] Go.wp_at_zero Go.wp_at_succ
/-- a literal as it lies in memory -/
inductive LitT where
  | mk (kind : Int) (text : ByteArray) (num : Int) (p : Option Addr) (c : Nat) (kids : List LitT)
def LitT.kind : LitT → Int | .mk k _ _ _ _ _ => k
def LitT.text : LitT → ByteArray | .mk _ t _ _ _ _ => t
def LitT.num : LitT → Int | .mk _ _ n _ _ _ => n
def LitT.p : LitT → Option Addr | .mk _ _ _ p _ _ => p
def LitT.c : LitT → Nat | .mk _ _ _ _ c _ => c
def LitT.kids : LitT → List LitT | .mk _ _ _ _ _ l => l
def LitT.items (t : LitT) : Value := .slice t.p t.kids.length t.c
def litc (t : LitT) : List Value := [.int .i64 t.kind, .string t.text, .int .i64 t.num, t.items]
structure LitAt (w : World) (g off : Nat) (t : LitT) : Prop where
  c0 : w.cell? ⟨g, off, none⟩ = some (.int .i64 t.kind)
  c1 : w.cell? ⟨g, off + 1, none⟩ = some (.string t.text)
  c2 : w.cell? ⟨g, off + 2, none⟩ = some (.int .i64 t.num)
  c3 : w.cell? ⟨g, off + 3, none⟩ = some t.items
theorem LitAt.idle {w w' : World} {g off : Nat} {t : LitT} (h : LitAt w g off t) (hf : Fr [] w w') : LitAt w' g off t := ⟨hf.cl h.c0, hf.cl h.c1, hf.cl h.c2, hf.cl h.c3⟩
/-- literals that can be read, with all that is in them -/
inductive LitsR (w : World) : Option Addr → Nat → List LitT → Prop
  | mk (p : Option Addr) (c : Nat) (ts : List LitT) (nil : p = none → c = 0) (at_ : 0 < ts.length → ∃ g off, p = some ⟨g, off, none⟩ ∧ g < w.heap.size ∧ ∀ i t, ts[i]? = some t → LitAt w g (off + i * 4) t) (short : ts.length ≤ 2513169434916) (txt : ∀ t ∈ ts, t.text.size ≤ 140737488355328)
      (kids : ∀ t ∈ ts, LitsR w t.p t.c t.kids) : LitsR w p c ts
theorem LitsR.idle {w w' : World} {p : Option Addr} {c : Nat} {ts : List LitT} (h : LitsR w p c ts) (hf : Fr [] w w') : LitsR w' p c ts := by
  induction h with
  | mk p c ts nil at_ short txt kids ih =>
    refine .mk p c ts nil (fun hp => ?_) short txt ih
    obtain ⟨g, off, e, hg, hc⟩ := at_ hp
    exact ⟨g, off, e, Nat.lt_of_lt_of_le hg hf.size, fun i t ht => (hc i t ht).idle hf⟩
def objB (t : LitT) : Bool := if t.kind = 2 then decide ((t.text.size : Int) ≤ 256) else if t.kind = 4 then decide ((t.kids.length : Int) ≤ 32) else false
def elemB (sym : Int) (t : LitT) : Bool := if t.kind = 1 then inR t.num (-1073741824) 1073741823 else if t.kind = 3 then bel t.num sym else if t.kind = 5 ∨ t.kind = 6 ∨ t.kind = 7 then true else objB t
set_option maxRecDepth 100000 in
set_option maxHeartbeats 1000000 in
theorem isObject_ok (g off : Nat) (t : LitT) (w : World) (h : LitAt w g off t) (ht : t.text.size ≤ 140737488355328) (hl : t.kids.length ≤ 2513169434916) : Calls Tryd.prog 40 #[.pointer (some ⟨g, off, none⟩)] w fun e w' => e = .returned (.bool (objB t)) ∧ w' = w := by
  obtain ⟨c0, c1, -, c3'⟩ := h
  have c3 : w.cell? ⟨g, off + 3, none⟩ = some (.slice t.p t.kids.length t.c) := c3'
  clear c3'
  have HO : Hid (objB t = if t.kind = 2 then decide ((t.text.size : Int) ≤ 256) else if t.kind = 4 then decide ((t.kids.length : Int) ≤ 32) else false) := mkHid rfl
  generalize t.kind = k at *
  generalize t.text = tx at *
  generalize t.kids.length = n at *
  generalize t.p = pi at *
  generalize t.c = ci at *
  by_cases k2 : k = 2
  · subst k2
    rw [if_pos rfl] at HO
    go_enter Tryd.func40, Tryd.ntmps40
    go_wp2_with fail
    go_ret
    exact ⟨by rw [HO.out]; rfl, rfl⟩
  · rw [if_neg k2] at HO
    have q2 : (k == 2) = false := beq_eq_false_iff_ne.2 k2
    by_cases k4 : k = 4
    · subst k4
      rw [if_pos rfl] at HO
      clear k2 q2
      go_enter Tryd.func40, Tryd.ntmps40
      go_wp2_with fail
      go_ret
      exact ⟨by rw [HO.out]; rfl, rfl⟩
    · rw [if_neg k4] at HO
      have q4 : (k == 4) = false := beq_eq_false_iff_ne.2 k4
      clear k2 k4
      go_enter Tryd.func40, Tryd.ntmps40
      go_wp2_with fail
      go_ret
      exact ⟨by rw [HO.out]; rfl, rfl⟩
set_option maxHeartbeats 2000000 in
theorem isElement_ok (s g off : Nat) (sym : Int) (t : LitT) (w : World) (hs : w.cell? ⟨s, 0, none⟩ = some (.int .i64 sym)) (h : LitAt w g off t) (ht : t.text.size ≤ 140737488355328) (hl : t.kids.length ≤ 2513169434916) : Calls Tryd.prog 61 #[.pointer (some ⟨s, 0, none⟩), .pointer (some ⟨g, off, none⟩)] w fun e w' => e = .returned (.bool (elemB sym t)) ∧ ∃ n, w' = w.drewN n := by
  have HOb := mkHid (isObject_ok g off t w h ht hl)
  obtain ⟨c0, -, c2, -⟩ := h
  have HE : Hid (elemB sym t = if t.kind = 1 then inR t.num (-1073741824) 1073741823 else if t.kind = 3 then bel t.num sym else if t.kind = 5 ∨ t.kind = 6 ∨ t.kind = 7 then true else objB t) := mkHid rfl
  generalize objB t = ob at *
  generalize t.kind = k at *
  generalize t.num = nu at *
  by_cases k1 : k = 1
  · subst k1
    rw [if_pos rfl] at HE
    have HW := mkHid (within_ok nu (-1073741824) 1073741823 w)
    generalize inR nu (-1073741824) 1073741823 = bb at *
    go_enter Tryd.func61, Tryd.ntmps61
    go_wp2_with (go_at_call 22; refine HW.out.mono ?_; rintro e w' ⟨rfl, hw'⟩; rw [hw']; clear hw' w')
    go_ret
    exact ⟨by rw [HE.out]; rfl, 0, rfl⟩
  · rw [if_neg k1] at HE
    have q1 : (k == 1) = false := beq_eq_false_iff_ne.2 k1
    by_cases k3 : k = 3
    · subst k3
      rw [if_pos rfl] at HE
      have HB : Hid (∀ q, Calls Tryd.prog 65 #[.int .i64 nu, .int .i64 sym] (w.drewN q) fun e w' => e = .returned (.bool (bel nu sym)) ∧ w' = w.drewN q) := fun q => below_ok _ _ _
      generalize bel nu sym = bb at *
      go_enter Tryd.func61, Tryd.ntmps61
      go_wp2_with fail
      go_quiet (first | (go_at_call 65; refine (HB.out _).mono ?_; rintro e w'' ⟨rfl, rfl⟩; exact ⟨rfl, _, rfl⟩))
      go_wp2_with fail
      go_ret
      exact ⟨by rw [HE.out]; rfl, _, rfl⟩
    · rw [if_neg k3] at HE
      have q3 : (k == 3) = false := beq_eq_false_iff_ne.2 k3
      by_cases k5 : k = 5 ∨ k = 6 ∨ k = 7
      · rw [if_pos k5] at HE
        rcases k5 with rfl | rfl | rfl
        all_goals clear k1 k3 q1 q3
        all_goals go_enter Tryd.func61, Tryd.ntmps61
        all_goals go_wp2_with fail
        all_goals go_ret
        all_goals exact ⟨by rw [HE.out]; rfl, 0, rfl⟩
      · rw [if_neg k5] at HE
        have q5 : (k == 5) = false := beq_eq_false_iff_ne.2 (by omega)
        have q6 : (k == 6) = false := beq_eq_false_iff_ne.2 (by omega)
        have q7 : (k == 7) = false := beq_eq_false_iff_ne.2 (by omega)
        clear k1 k3 k5
        go_enter Tryd.func61, Tryd.ntmps61
        go_wp2_with (go_at_call 40; refine HOb.out.mono ?_; rintro e w' ⟨rfl, hw'⟩; rw [hw']; clear hw' w')
        go_ret
        exact ⟨by rw [HE.out]; rfl, 0, rfl⟩
/-- the one who looks at literals, in memory -/
def Shf (w : World) (s : Nat) (sym : Int) (el : Nat) : Prop := w.heap[s]? = some (.cells #[.int .i64 sym, .int .i64 (el : Int)] 66 (0, 0))
mutual
/-- what is within a literal: what is wrong with it, and how many elements were met -/
def inT (sym : Int) : LitT → Nat → Int × Nat
  | .mk k _ _ _ _ kids, n => if k = 4 then inL sym kids n else (0, n)
def inL (sym : Int) : List LitT → Nat → Int × Nat
  | [], n => (0, n)
  | t :: ts, n => if elemB sym t = false then (111, n) else if 4096 < n + 1 then (73, n + 1) else if (inT sym t (n + 1)).1 ≠ 0 then inT sym t (n + 1) else inL sym ts (inT sym t (n + 1)).2
end
def lookL (sym : Int) : List LitT → Nat → Int × Nat
  | [], n => (0, n)
  | t :: ts, n => if objB t = false then (111, n) else if (inT sym t n).1 ≠ 0 then inT sym t n else lookL sym ts (inT sym t n).2
theorem inT_at (sym : Int) (t : LitT) (n : Nat) : inT sym t n = if t.kind = 4 then inL sym t.kids n else (0, n) := by
  cases t with
  | mk k a b c d kids => rw [inT]; rfl
theorem inL_nil (sym : Int) (n : Nat) : inL sym [] n = (0, n) := by rw [inL]
theorem inL_cons (sym : Int) (t : LitT) (ts : List LitT) (n : Nat) : inL sym (t :: ts) n = if elemB sym t = false then (111, n) else if 4096 < n + 1 then (73, n + 1) else if (inT sym t (n + 1)).1 ≠ 0 then inT sym t (n + 1) else inL sym ts (inT sym t (n + 1)).2 := by rw [inL]
theorem drop_at {α : Type} {l : List α} {i : Nat} {t : α} (h : l[i]? = some t) : l.drop i = t :: l.drop (i + 1) := by
  obtain ⟨hlt, e⟩ := List.getElem?_eq_some_iff.1 h
  rw [List.drop_eq_getElem_cons hlt, e]
set_option maxRecDepth 100000 in
set_option maxHeartbeats 4000000 in
theorem inside_ok (w0 : World) (p : Option Addr) (c : Nat) (ts : List LitT) (h : LitsR w0 p c ts) : ∀ (t : LitT), t.p = p → t.c = c → t.kids = ts → ∀ (w : World) (s g off : Nat) (sym : Int) (el : Nat), Fr [] w0 w → w0.heap.size ≤ s → Shf w s sym el → el ≤ 4096 → LitAt w g off t → g < w0.heap.size →
    Calls Tryd.prog 41 #[.pointer (some ⟨s, 0, none⟩), .pointer (some ⟨g, off, none⟩)] w fun e w' => e = .returned (.int .i64 (inT sym t el).1) ∧ Fr [s] w w' ∧ Shf w' s sym (inT sym t el).2 ∧ ((inT sym t el).1 = 0 → (inT sym t el).2 ≤ 4096) := by
  induction h with
  | mk p c ts nil at_ short txt kids ih =>
    intro t hp hc hk w s g off sym el hf hs hsh hel hl hg
    have c0 := hl.c0
    have c3 : w.cell? ⟨g, off + 3, none⟩ = some (.slice p ts.length c) := by have := hl.c3; unfold LitT.items at this; rw [hp, hc, hk] at this; exact this
    have HL := mkHid hl
    have HSh := mkHid hsh
    have HIh := mkHid ih
    have HAt := mkHid at_
    have HTx := mkHid txt
    have HF := mkHid hf
    have HKi := mkHid kids
    have hsg : s ≠ g := by omega
    have hT := inT_at sym t el
    rw [hk] at hT
    obtain ⟨R, hR⟩ : ∃ R, inT sym t el = R := ⟨_, rfl⟩
    rw [hR] at hT
    rw [hR]
    clear hR
    have HT := mkHid hT
    generalize t.kind = k at *
    clear hl hsh ih at_ nil txt kids hf hp hc hk hT
    by_cases k4 : k = 4
    · subst k4
      go_enter Tryd.func41, Tryd.ntmps41
      go_wp2_with fail
      go_loopw [18] (fun q wr => ∃ i : Nat, i ≤ ts.length ∧ q = .int .i64 i ∧ Hid (∃ el' : Nat, Shf wr s sym el' ∧ el' ≤ 4096 ∧ Fr [s] w wr ∧ R = inL sym (ts.drop i) el')) (fun q _ => ts.length - (intOf q).toNat)
      case atStart => exact ⟨0, Nat.zero_le _, rfl, el, HSh.out, hel, Fr.refl _ _, by have := HT.out; simpa using this⟩
      case round =>
        obtain ⟨i, hin, rfl, hst⟩ := hrel
        have i0 : (0 : Int) ≤ (i : Int) := by omega
        obtain ⟨el1, hs1, he1, hf1, hRi⟩ := hst.out
        have F0 : Fr [] w0 wr := HF.out.trans hf1 (fun b hb => .inr (by simp at hb; omega))
        have hgw : g < w.heap.size := Nat.lt_of_lt_of_le hg HF.out.size
        have c3' : wr.cell? ⟨g, off + 3, none⟩ = some (.slice p ts.length c) := (hf1.cell (p := ⟨g, off + 3, none⟩) hgw (by simp; exact Ne.symm hsg)).trans c3
        by_cases hlt : i < ts.length
        · have i1 : (i : Int) < (ts.length : Int) := by omega
          obtain ⟨ge, oe, rfl, hge, hce⟩ := HAt.out (by omega)
          obtain ⟨t2, ht2⟩ : ∃ t2, ts[i]? = some t2 := ⟨_, List.getElem?_eq_getElem hlt⟩
          have hl0 := hce i t2 ht2
          have hl2 := hl0.idle F0
          have hmem := List.mem_of_getElem? ht2
          rw [drop_at ht2, inL_cons] at hRi
          have HRi := mkHid hRi
          clear hRi
          have y0 : wr.cell? ⟨s, 0, none⟩ = some (.int .i64 sym) := by rw [cell_in hs1]; rfl
          have y1 : wr.cell? ⟨s, 1, none⟩ = some (.int .i64 (el1 : Int)) := by rw [cell_in hs1]; rfl
          have hkl : t2.kids.length ≤ 2513169434916 := by
            have := HKi.out t2 hmem
            cases this with
            | mk _ _ _ _ _ sh _ _ => exact sh
          have HEl := mkHid (isElement_ok s ge (oe + i * 4) sym t2 wr y0 hl2 (HTx.out t2 hmem) hkl)
          have fz := frozen_in hs1 1
          have HS2 : Hid (∀ n, Shf ((wr.drewN n).setCell ⟨s, 1, none⟩ (.int .i64 ((el1 : Int) + 1))) s sym (el1 + 1) ∧ Fr [s] w ((wr.drewN n).setCell ⟨s, 1, none⟩ (.int .i64 ((el1 : Int) + 1)))) := fun n => by
            refine ⟨?_, (hf1.trans (Fr.drewN [s] wr n) (by simp)).trans (Fr.setCell (S := [s]) (wr.drewN n) ⟨s, 1, none⟩ _ (by simp)) (fun b hb => .inl hb)⟩
            unfold Shf
            rw [set_in (w := wr.drewN n) hs1 1 _]
            push_cast
            rfl
          have HIn : Hid (∀ W, Shf W s sym (el1 + 1) → Fr [s] w W → el1 + 1 ≤ 4096 → Calls Tryd.prog 41 #[.pointer (some ⟨s, 0, none⟩), .pointer (some ⟨ge, oe + i * 4, none⟩)] W fun e w' => e = .returned (.int .i64 (inT sym t2 (el1 + 1)).1) ∧ Fr [s] W w' ∧ Shf w' s sym (inT sym t2 (el1 + 1)).2 ∧ ((inT sym t2 (el1 + 1)).1 = 0 → (inT sym t2 (el1 + 1)).2 ≤ 4096)) := fun W hW hWf he => by
            have F0W : Fr [] w0 W := HF.out.trans hWf (fun b hb => .inr (by simp at hb; omega))
            exact HIh.out t2 hmem t2 rfl rfl rfl W s ge (oe + i * 4) sym (el1 + 1) F0W hs hW he (hl0.idle F0W) hge
          have HN := mkHid (fun n => (hf1.trans (Fr.drewN [s] wr n) (by simp)))
          have HShN : Hid (∀ n, Shf (wr.drewN n) s sym el1) := fun n => hs1
          have HF1 := mkHid hf1
          clear hst hs1 hf1 F0 hce hl0 hl2 ht2 hmem
          cases hb : elemB sym t2
          · rw [hb] at HEl
            go_wp2_with (go_at_call 61; refine HEl.out.mono ?_; rintro e w1 ⟨rfl, n1, rfl⟩)
            go_ret
            have hR := HRi.out
            rw [if_pos hb] at hR
            subst hR
            exact ⟨rfl, HN.out _, HShN.out _, fun h => by cases h⟩
          · rw [hb] at HEl
            by_cases h96 : el1 + 1 ≤ 4096
            · have e96 : ¬ (4096 : Int) < (el1 : Int) + 1 := by omega
              go_wp2_with (first
                | (go_at_call 61; refine HEl.out.mono ?_; rintro e w1 ⟨rfl, n1, rfl⟩)
                | (go_at_call 41; fail))
              obtain ⟨W, hW⟩ : ∃ W, (wr.drewN n1).setCell ⟨s, 1, none⟩ (.int .i64 ((el1 : Int) + 1)) = W := ⟨_, rfl⟩
              have hS2 := HS2.out n1
              rw [hW] at hS2 ⊢
              refine (HIn.out W hS2.1 hS2.2 h96).mono ?_
              rintro e w5 ⟨rfl, f5, s5, k5⟩
              have hR := HRi.out
              rw [if_neg (by rw [hb]; decide), if_neg (by omega)] at hR
              obtain ⟨⟨E5, el5⟩, hq⟩ : ∃ q, inT sym t2 (el1 + 1) = q := ⟨_, rfl⟩
              rw [hq] at hR s5 k5 ⊢
              simp only at hR s5 k5
              have HR5 := mkHid hR
              clear hR hq
              have F5 := mkHid (hS2.2.trans f5 (fun b hb => .inl hb))
              have S5 := mkHid s5
              have K5 := mkHid k5
              clear hS2 hW f5 s5 k5
              by_cases hE : E5 = 0
              · subst hE
                go_wp2_with fail
                go_roundw
                case rel => exact ⟨i + 1, by omega, by go_num, el5, S5.out, by first | exact K5.out rfl | exact K5.out trivial | exact K5.out, F5.out, by rw [HR5.out, if_neg (by simp)]⟩
                case measure => simp [intOf]; omega
              · have qE : (E5 != 0) = true := by simpa using hE
                go_wp2_with fail
                go_ret
                have hR := HR5.out
                rw [if_pos hE] at hR
                subst hR
                exact ⟨rfl, F5.out, S5.out, K5.out⟩
            · have e96 : (4096 : Int) < (el1 : Int) + 1 := by omega
              go_wp2_with (go_at_call 61; refine HEl.out.mono ?_; rintro e w1 ⟨rfl, n1, rfl⟩)
              go_ret
              have hR := HRi.out
              rw [if_neg (by rw [hb]; decide), if_pos (by omega)] at hR
              subst hR
              exact ⟨rfl, (HS2.out n1).2, (HS2.out n1).1, fun h => by cases h⟩
        · have i1 : ¬ (i : Int) < (ts.length : Int) := by omega
          have d1 : decide ((i : Int) < (ts.length : Int)) = false := decide_eq_false i1
          have HF1 := mkHid hf1
          have HS1 := mkHid hs1
          rw [List.drop_eq_nil_of_le (by omega), inL_nil] at hRi
          have HRz := mkHid hRi
          clear hst hs1 hf1 F0 hRi
          go_wp2_with fail
          go_ret
          have hR := HRz.out
          subst hR
          exact ⟨rfl, HF1.out, HS1.out, fun _ => he1⟩
    · have q4 : (k != 4) = true := by simpa using k4
      go_enter Tryd.func41, Tryd.ntmps41
      go_wp2_with fail
      go_ret
      have hR := HT.out
      rw [if_neg k4] at hR
      subst hR
      exact ⟨rfl, Fr.refl _ _, HSh.out, fun _ => hel⟩
end Go.Proofs.YtdflpoldlokijaaDoor
namespace Go.Proofs.YtdflpoldlokijaaDoor
open Go.RowKit
set_option linter.unusedVariables false
set_option linter.unusedSimpArgs false
/-- one more struct behind a row: in its own block, or in a new one and the old one stays -/
theorem pushS {t e : TypeId} {sz by_ : Nat} {z0 : Value} (hu : Tryd.prog.underlying t = some (.slice e)) (hinf : (Tryd.prog.info? e).map (fun i => (i.zero, i.size, i.bytes)) = some (some z0, sz, by_)) (hzc : z0.cells.size = sz) (hsz0 : 0 < sz) (w : World) (base : Nat) (p : Option Addr) (c n : Nat) (xs x : List Value) (h4 : x.length = sz) (h : w.ownsRow base e sz (.slice p n c) n xs) (hx : ∀ u ∈ x, u.oneCell' = true) (hn : n + 1 ≤ maxLen) (hb : ((n + 1) + (n + 1) / 4 + 192) * by_ ≤ 281474976710656) (hB : base ≤ w.heap.size) :
    ∃ p' c' w', (Builtin.append_ #[t, t] t #[.slice p n c, .slice (some ⟨w.heap.size, 0, none⟩) 1 1]).run Tryd.prog (w.alloc (.cells x.toArray e)) = .ok (.slice p' (n + 1) c') w' ∧
      w'.ownsRow base e sz (.slice p' (n + 1) c') (n + 1) (xs ++ x) ∧ ((p' = p ∧ c' = c ∧ Fr (blk p) w w') ∨ (Fr [] w w' ∧ ∀ g ∈ blk p', w.heap.size ≤ g)) := by
  obtain ⟨i, hi, hz, hsize, hby⟩ := info_parts hinf
  have hA : (w.alloc (.cells x.toArray e)).heap.size = w.heap.size + 1 := by simp
  have hown : (w.alloc (.cells x.toArray e)).ownsRow base e sz (.slice p n c) n xs := own_congr h (fun g hg => Below.heap_alloc _ _ _ (own_lt h g hg).2)
  have hnews : ∀ j u, x[j]? = some u → (w.alloc (.cells x.toArray e)).cell? ((⟨w.heap.size, 0, none⟩ : Addr).add j) = some u := by
    have := World.news_of_block (heap_alloc_new w (.cells x.toArray e))
    simpa using this
  have h63 := hn
  obtain ⟨v', w', hr, h2, h3, _⟩ := run_append_own_wide (P := Tryd.prog) (w.alloc (.cells x.toArray e)) base t t e i _ sz by_ hu hi hz hsize hby hzc hsz0 _ _ _ hown ⟨w.heap.size, 0, none⟩ 1 1 x (by rw [h4, Nat.one_mul]) hnews hx h63 hb (by omega)
  rcases h.2 with ⟨e1, e2⟩ | ⟨g, c0, cur, e1, q1, q2, q3, q4, q5, q6⟩
  · injection e1 with e1 e3 e4
    subst e1
    subst e4
    subst e2
    have hnil : xs = [] := List.length_eq_zero_iff.1 (by rw [h.1, Nat.zero_mul])
    subst hnil
    have hr2 := run_append_nil (P := Tryd.prog) (w.alloc (.cells x.toArray e)) t t e i _ hu hi hz ⟨w.heap.size, 0, none⟩ 1 1 x (by rw [hsize, h4, Nat.one_mul]) hnews (by decide) (by decide) (by rw [hby]; simp at hb; omega)
    have hr3 := hr
    rw [hr2] at hr3
    injection hr3 with hv hw
    subst hv
    subst hw
    exact ⟨_, _, _, hr, h2, Or.inr ⟨(Fr.alloc [] w _).trans ((Fr.drew [] _).trans (Fr.alloc [] _ _) (by simp)) (by simp), fun g hg => by simp [blk] at hg; omega⟩⟩
  · injection e1 with e1 _ e4
    subst e1
    subst e4
    by_cases hroom : n + 1 ≤ c
    · have hg : (w.alloc (.cells x.toArray e)).heap[g]? = some (.cells cur e (0, 0)) := (Below.heap_alloc _ _ _ (lt_of_heap q2)).trans q2
      have hr2 := run_append_room (P := Tryd.prog) (w.alloc (.cells x.toArray e)) t t e i hu hi g n c cur hg ⟨w.heap.size, 0, none⟩ 1 1 x (by rw [hsize, h4, Nat.one_mul]) hnews hx hroom (by rw [hsize, q5, h4, ← Nat.add_one_mul]; exact Nat.mul_le_mul_right _ hroom)
      have hr3 := hr
      rw [hr2] at hr3
      injection hr3 with hv hw
      subst hv
      refine ⟨_, _, w', hr, h2, Or.inl ⟨rfl, rfl, (Fr.alloc (blk (some ⟨g, 0, none⟩)) w _).trans (Fr.grown (S := [g]) h3 (fun k hk => ?_)) (by simp [blk])⟩⟩
      simp [Value.ownBlock] at hk
      simp [hk]
    · have holds : ∀ j u, xs[j]? = some u → (w.alloc (.cells x.toArray e)).cell? ((⟨g, 0, none⟩ : Addr).add j) = some u := hown.cells (g := g) rfl
      have hr2 := run_append_grow (P := Tryd.prog) (w.alloc (.cells x.toArray e)) t t e i _ hu hi hz ⟨g, 0, none⟩ n c xs (by rw [hsize]; exact h.1) holds ⟨w.heap.size, 0, none⟩ 1 1 x (by rw [hsize, h4, Nat.one_mul]) hnews (by omega) (by unfold maxLen at h63; omega) (by rw [hby]; exact growslice_fits_wide (by omega) hb)
      have hr3 := hr
      rw [hr2] at hr3
      injection hr3 with hv hw
      subst hv
      subst hw
      exact ⟨_, _, _, hr, h2, Or.inr ⟨(Fr.alloc [] w _).trans ((Fr.drew [] _).trans (Fr.alloc [] _ _) (by simp)) (by simp), fun g hg => by simp [blk] at hg; omega⟩⟩
end Go.Proofs.YtdflpoldlokijaaDoor
namespace Go.Proofs.YtdflpoldlokijaaDoor
open Go.RowKit
set_option linter.unusedVariables false
set_option linter.unusedSimpArgs false
attribute [local go_sem ↓] Go.wp_at_zero Go.wp_at_succ
theorem info54 : (Tryd.prog.info? 54).map (fun i => (i.zero, i.size, i.bytes)) = some (some (.agg #[.int .i64 0, .string ⟨#[]⟩, .int .i64 0, .slice none 0 0]), 4, 56) := by kernel_rfl
/-- literals whose blocks are all of a kind -/
inductive LitsO (w : World) (Ok : Nat → Prop) : Option Addr → Nat → List LitT → Prop
  | mk (p : Option Addr) (c : Nat) (ts : List LitT) (nil : p = none → c = 0) (at_ : 0 < ts.length → ∃ g off, p = some ⟨g, off, none⟩ ∧ g < w.heap.size ∧ Ok g ∧ ∀ i t, ts[i]? = some t → LitAt w g (off + i * 4) t) (short : ts.length ≤ 2513169434916) (txt : ∀ t ∈ ts, t.text.size ≤ 140737488355328)
      (kids : ∀ t ∈ ts, LitsO w Ok t.p t.c t.kids) : LitsO w Ok p c ts
theorem LitsO.keep {w w' : World} {Ok Ok' : Nat → Prop} {S : List Nat} {p : Option Addr} {c : Nat} {ts : List LitT} (h : LitsO w Ok p c ts) (hf : Fr S w w') (hS : ∀ g, Ok g → g < w.heap.size → g ∉ S) (hO : ∀ g, Ok g → g < w.heap.size → Ok' g) : LitsO w' Ok' p c ts := by
  induction h with
  | mk p c ts nil at_ short txt kids ih =>
    refine .mk p c ts nil (fun hp => ?_) short txt ih
    obtain ⟨g, off, e, hg, ho, hc⟩ := at_ hp
    have hn := hS g ho hg
    exact ⟨g, off, e, Nat.lt_of_lt_of_le hg hf.size, hO g ho hg, fun i t ht => by
      have hl := hc i t ht
      exact ⟨(hf.cell (p := ⟨g, off + i * 4, none⟩) hg hn).trans hl.c0, (hf.cell (p := ⟨g, off + i * 4 + 1, none⟩) hg hn).trans hl.c1, (hf.cell (p := ⟨g, off + i * 4 + 2, none⟩) hg hn).trans hl.c2, (hf.cell (p := ⟨g, off + i * 4 + 3, none⟩) hg hn).trans hl.c3⟩⟩
theorem LitsO.plain {w : World} {Ok : Nat → Prop} {p : Option Addr} {c : Nat} {ts : List LitT} (h : LitsO w Ok p c ts) : LitsR w p c ts := by
  induction h with
  | mk p c ts nil at_ short txt kids ih =>
    refine .mk p c ts nil (fun hp => ?_) short txt ih
    obtain ⟨g, off, e, hg, ho, hc⟩ := at_ hp
    exact ⟨g, off, e, hg, hc⟩
def litCells (l : List LitT) : List Value := l.flatMap litc
theorem litCells_at (l : List LitT) : ∀ i t j, l[i]? = some t → j < 4 → (litCells l)[i * 4 + j]? = (litc t)[j]? := by
  induction l with
  | nil => intro i t j h; simp at h
  | cons q l ih =>
    intro i t j hi hj
    have e : litCells (q :: l) = litc q ++ litCells l := by simp [litCells]
    rw [e]
    cases i with
    | zero =>
      have : q = t := by simpa using hi
      subst this
      rw [List.getElem?_append_left (by simp [litc]; omega)]; simp
    | succ i =>
      rw [List.getElem?_append_right (by simp [litc]; omega), show (i + 1) * 4 + j - (litc q).length = i * 4 + j from by simp [litc]; omega]
      exact ih i t j (by simpa using hi) hj
/-- a row of literals of one's own can be read -/
theorem row_lits {w : World} {B : Nat} {Ok : Nat → Prop} {p : Option Addr} {n c : Nat} {us rest : List LitT} (h : w.ownsRow B 54 4 (.slice p n c) n (litCells (us ++ rest))) (hn : (us ++ rest).length = n) (hp : 0 < n) (hOk : ∀ g, g ∈ blk p → Ok g) (hs : us.length ≤ 2513169434916) (ht : ∀ t ∈ us, t.text.size ≤ 140737488355328) (hk : ∀ t ∈ us, LitsO w Ok t.p t.c t.kids) : LitsO w Ok p c us := by
  rcases h.2 with ⟨e, e0⟩ | ⟨g, cap, cur, e, q1, q2, q3, q4⟩
  · omega
  · injection e with e1 _ e3
    subst e1 e3
    refine .mk _ _ us (fun h0 => by cases h0) (fun _ => ⟨g, 0, rfl, lt_of_heap q2, hOk g (by simp [blk]), fun i t hit => ?_⟩) hs ht hk
    have hlt : i < us.length := (List.getElem?_eq_some_iff.1 hit).1
    have hit2 : (us ++ rest)[i]? = some t := by rw [List.getElem?_append_left hlt]; exact hit
    have hc : ∀ j, j < 4 → w.cell? ⟨g, i * 4 + j, none⟩ = (litc t)[j]? := fun j hj => by
      rw [h.cellAt (i * 4 + j) (by simp at hn; omega)]
      exact litCells_at _ i t j hit2 hj
    rw [Nat.zero_add]
    exact ⟨hc 0 (by omega), hc 1 (by omega), hc 2 (by omega), hc 3 (by omega)⟩
end Go.Proofs.YtdflpoldlokijaaDoor
