import Derived.Test.YtdflpoldlokijaaDoorG30CRf0
import Derived.Test.YtdflpoldlokijaaDoorG13CTwin
import Derived.Test.YtdflpoldlokijaaDoorG28CDep
namespace Go.Proofs.YtdflpoldlokijaaDoor
open Go.RowKit
set_option linter.unusedVariables false
set_option linter.unusedSimpArgs false
attribute [local go_sem ↓] Go.wp_at_zero Go.wp_at_succ
structure Bd where
  b : Nat
  e : Nat
  ar : Int
  ne : Nat
  sl : Nat
structure Ri where
  at_ : Nat
  sz : Nat
  op : Nat
  body : Nat
  nx : Nat
  to_ : Int
  a : Int
  b : Int
  c : Int
def bdc (u : Bd) : List Value := [I u.b, I u.e, .int .i64 u.ar, I u.ne, I u.sl]
def ric (r : Ri) : List Value := [I r.at_, I r.sz, I r.op, I r.body, I r.nx, .int .i64 r.to_, .int .i64 r.a, .int .i64 r.b, .int .i64 r.c]
structure WFx where
  C : Cx
  h : Hd
  lp : Option Addr
  lc : Nat
  pw : Option Addr
  cw : Nat
def wrc (F : WFx) (pb : Option Addr) (nb cb : Nat) (pr : Option Addr) (nr cr : Nat) (el : Nat) (er : Int) : Array Value :=
  #[.int .i64 F.h.args, .int .i64 F.h.temps, .int .i64 F.h.stack, .slice F.lp F.C.lits F.lc, .slice F.pw F.C.ws.length F.cw, .int .i64 F.C.b.fields, .int .i64 F.C.b.classes, .int .i64 F.C.b.globals, .int .i64 F.C.b.symbols,
    .slice pb nb cb, .slice pr nr cr, I el, .int .i64 er]
/-- the document's work, in memory -/
structure WR (w : World) (B x : Nat) (F : WFx) (bs : List Bd) (pb : Option Addr) (cb : Nat) (rs : List Ri) (pr : Option Addr) (cr : Nat) (el : Nat) (er : Int) : Prop where
  top : w.heap[x]? = some (.cells (wrc F pb bs.length cb pr rs.length cr el er) 62 (0, 0))
  base : B ≤ x
  words : Rd w (.slice F.pw F.C.ws.length F.cw) F.C.ws
  wlo : 0 < F.C.ws.length → ∀ g, (Value.slice F.pw F.C.ws.length F.cw).ownBlock = some g → g < B
  bod : w.ownsRow B 85 5 (.slice pb bs.length cb) bs.length (bs.flatMap bdc)
  lst : w.ownsRow B 78 9 (.slice pr rs.length cr) rs.length (rs.flatMap ric)
section
variable {w : World} {B x : Nat} {F : WFx} {bs : List Bd} {pb : Option Addr} {cb : Nat} {rs : List Ri} {pr : Option Addr} {cr : Nat} {el : Nat} {er : Int}
theorem WR.keep {w' : World} (h : WR w B x F bs pb cb rs pr cr el er) {S : List Nat} (hf : Fr S w w') (hx : x ∉ S) (hb : ∀ g ∈ blk pb, g ∉ S) (hr : ∀ g ∈ blk pr, g ∉ S) (hS : ∀ g ∈ S, B ≤ g) : WR w' B x F bs pb cb rs pr cr el er :=
  ⟨(hf.block x (lt_of_heap h.top) hx).trans h.top, h.base, h.words.keep hf fun hp g hg hm => by have := h.wlo hp g hg; have := hS g hm; omega, h.wlo,
    own_congr h.bod fun g hg => hf.block g (own_lt h.bod g hg).2 (hb g ((blk_own _ _ _ _).1 hg)), own_congr h.lst fun g hg => hf.block g (own_lt h.lst g hg).2 (hr g ((blk_own _ _ _ _).1 hg))⟩
theorem WR.idle {w' : World} (h : WR w B x F bs pb cb rs pr cr el er) (hf : Fr [] w w') : WR w' B x F bs pb cb rs pr cr el er := h.keep hf (by simp) (by simp) (by simp) (by simp)
theorem WR.dr (h : WR w B x F bs pb cb rs pr cr el er) (n : Nat) : WR (w.drewN n) B x F bs pb cb rs pr cr el er := h.idle ((Fr.refl _ _).dn n)
theorem WR.bne (h : WR w B x F bs pb cb rs pr cr el er) : ∀ g ∈ blk pb, g ≠ x := fun g hg e => by
  obtain ⟨c, hc⟩ := row_block h.bod ((blk_own pb bs.length cb g).2 hg)
  exact ty_ne hc h.top (by decide) e
theorem WR.rne (h : WR w B x F bs pb cb rs pr cr el er) : ∀ g ∈ blk pr, g ≠ x := fun g hg e => by
  obtain ⟨c, hc⟩ := row_block h.lst ((blk_own pr rs.length cr g).2 hg)
  exact ty_ne hc h.top (by decide) e
theorem WR.brn (h : WR w B x F bs pb cb rs pr cr el er) : ∀ g ∈ blk pb, g ∉ blk pr := fun g hg hm => by
  obtain ⟨c, hc⟩ := row_block h.bod ((blk_own pb bs.length cb g).2 hg)
  obtain ⟨d, hd⟩ := row_block h.lst ((blk_own pr rs.length cr g).2 hm)
  exact ty_ne hc hd (by decide) rfl
/-- one of its numbers is written -/
theorem WR.set (h : WR w B x F bs pb cb rs pr cr el er) (i : Nat) (v : Value) (el' : Nat) (er' : Int) (ht : (wrc F pb bs.length cb pr rs.length cr el er).setIfInBounds i v = wrc F pb bs.length cb pr rs.length cr el' er') : WR (w.setCell ⟨x, i, none⟩ v) B x F bs pb cb rs pr cr el' er' ∧ Fr [x] w (w.setCell ⟨x, i, none⟩ v) := by
  have f : Fr [x] w (w.setCell ⟨x, i, none⟩ v) := Fr.setCell (S := [x]) w ⟨x, i, none⟩ v (by simp)
  have hS : ∀ g ∈ [x], B ≤ g := fun g hg => by simp at hg; rw [hg]; exact h.base
  exact ⟨⟨by rw [set_in h.top i v, ht], h.base, h.words.keep f fun hp g hg hm => by have := h.wlo hp g hg; have := hS g hm; omega, h.wlo,
    own_congr h.bod fun g hg => f.block g (own_lt h.bod g hg).2 (by simp; exact h.bne g ((blk_own _ _ _ _).1 hg)), own_congr h.lst fun g hg => f.block g (own_lt h.lst g hg).2 (by simp; exact h.rne g ((blk_own _ _ _ _).1 hg))⟩, f⟩
theorem WR.cell (h : WR w B x F bs pb cb rs pr cr el er) (i : Nat) : w.cell? ⟨x, i, none⟩ = (wrc F pb bs.length cb pr rs.length cr el er)[i]? := cell_in h.top i
theorem WR.fz (h : WR w B x F bs pb cb rs pr cr el er) (i : Nat) : w.frozen? ⟨x, i, none⟩ = false := frozen_in h.top i
theorem WR.kwx {w' : World} (h : WR w B x F bs pb cb rs pr cr el er) (hB : B ≤ w.heap.size) (hf : Fr [x] w w') : Kw B w w' := hf.kw hB (fun g hg => by simp at hg; rw [hg]; exact h.base)
set_option maxHeartbeats 1000000 in
theorem fails_ok (h : WR w B x F bs pb cb rs pr cr el 0) (e : Int) : Calls Tryd.prog 53 #[.pointer (some ⟨x, 0, none⟩), .int .i64 e] w fun en w' => en = .returned (.tuple #[]) ∧ Fr [x] w w' ∧ WR w' B x F bs pb cb rs pr cr el e := by
  have c12 : w.cell? ⟨x, 12, none⟩ = some (.int .i64 0) := h.cell 12
  have z12 := h.fz 12
  have HZ := mkHid (h.set 12 (.int .i64 e) el e rfl)
  clear h
  go_enter Tryd.func53, Tryd.ntmps53
  go_wp2_with fail
  go_end0
  exact ⟨rfl, HZ.out.2, HZ.out.1⟩
set_option maxHeartbeats 1000000 in
theorem fails_no (h : WR w B x F bs pb cb rs pr cr el er) (hn : er ≠ 0) (e : Int) : Calls Tryd.prog 53 #[.pointer (some ⟨x, 0, none⟩), .int .i64 e] w fun en w' => en = .returned (.tuple #[]) ∧ w' = w := by
  have c12 : w.cell? ⟨x, 12, none⟩ = some (.int .i64 er) := h.cell 12
  have q : (er == 0) = false := beq_eq_false_iff_ne.2 hn
  clear h
  go_enter Tryd.func53, Tryd.ntmps53
  go_wp2_with fail
  go_end0
  exact ⟨rfl, rfl⟩
set_option maxHeartbeats 1000000 in
theorem rword_ok (h : WR w B x F bs pb cb rs pr cr el er) (i : Nat) (hi : i ≤ 100000) (n4 : F.C.ws.length ≤ 4096) : Calls Tryd.prog 55 #[.pointer (some ⟨x, 0, none⟩), .int .i64 (i : Int)] w fun e w' => e = .returned (.int .i64 (F.C.w i)) ∧ w' = w := by
  by_cases hlt : i < F.C.ws.length
  · obtain ⟨p, c, ew, hw⟩ := h.words.at_
    obtain ⟨g, off, e2, hg, hwc⟩ := hw (by omega)
    have x1 : w.cell? ⟨g, off + i, none⟩ = some (.int .i64 (F.C.w i)) := hwc i hlt
    injection ew with e3 _ e4
    have c4 : w.cell? ⟨x, 4, none⟩ = some (.slice (some ⟨g, off, none⟩) F.C.ws.length F.cw) := by rw [h.cell 4]; show some (Value.slice F.pw F.C.ws.length F.cw) = _; rw [e3, e2]
    generalize F.C.w i = z at *
    generalize F.C.ws.length = nn at *
    have d1 : decide ((nn : Int) ≤ (i : Int)) = false := decide_eq_false (by omega)
    have d2 : (i : Int) < (nn : Int) := by omega
    have d3 : (0 : Int) ≤ (i : Int) := by omega
    clear h hw hwc e2 e3 e4
    go_enter Tryd.func55, Tryd.ntmps55
    go_wp2_with fail
    go_ret
    exact ⟨rfl, rfl⟩
  · have e0 : F.C.w i = 0 := by unfold Cx.w; rw [List.getD_eq_getElem?_getD, List.getElem?_eq_none (by omega)]; rfl
    have c4 : w.cell? ⟨x, 4, none⟩ = some (.slice F.pw F.C.ws.length F.cw) := h.cell 4
    rw [e0]
    generalize F.C.ws.length = nn at *
    have d1 : (nn : Int) ≤ (i : Int) := by omega
    clear h
    go_enter Tryd.func55, Tryd.ntmps55
    go_wp2_with fail
    go_ret
    exact ⟨rfl, rfl⟩
end
/-- the bodies as the document has them -/
structure BOk (bs : List Bd) (inf : List Inf) : Prop where
  len : bs.length = inf.length
  at_ : ∀ k sc b e, inf[k]? = some (sc, b, e) → ∃ u, bs[k]? = some u ∧ u.b = b ∧ u.e = e ∧ u.ne + 1 = sc.length ∧ u.sl = sc.getD (sc.length - 1) 0 ∧ (sc.length = 1 → u.ar = -1) ∧ (1 < sc.length → ∃ j : Nat, j < k ∧ u.ar = (j : Int) ∧ ∃ b' e', inf[j]? = some (sc.take (sc.length - 1), b', e'))
/-- how many slots the scope so far outward has; -1: there is none -/
def scopeR (sc : List Nat) (out : Int) : Int := if 0 ≤ out ∧ out < sc.length then ((sc.getD (sc.length - 1 - out.toNat) 0 : Nat) : Int) else -1
theorem bdcs_len (l : List Bd) : (l.flatMap bdc).length = l.length * 5 := by
  induction l with
  | nil => rfl
  | cons q l ih => rw [List.flatMap_cons, List.length_append, ih]; simp [bdc]; omega
theorem bdcs_at (l : List Bd) : ∀ (i : Nat) (u : Bd) (j : Nat), l[i]? = some u → j < 5 → (l.flatMap bdc)[i * 5 + j]? = (bdc u)[j]? := by
  induction l with
  | nil => intro i u j h; simp at h
  | cons q l ih =>
    intro i u j h hj
    rw [List.flatMap_cons]
    cases i with
    | zero =>
      simp at h
      subst h
      rw [Nat.zero_mul, Nat.zero_add, List.getElem?_append_left (by simp [bdc]; omega)]
    | succ i =>
      rw [List.getElem?_append_right (by simp [bdc]; omega), show (i + 1) * 5 + j - (bdc q).length = i * 5 + j by simp [bdc]; omega]
      exact ih i u j (by simpa using h) hj
theorem rics_len (l : List Ri) : (l.flatMap ric).length = l.length * 9 := by
  induction l with
  | nil => rfl
  | cons q l ih => rw [List.flatMap_cons, List.length_append, ih]; simp [ric]; omega
theorem rics_at (l : List Ri) : ∀ (i : Nat) (u : Ri) (j : Nat), l[i]? = some u → j < 9 → (l.flatMap ric)[i * 9 + j]? = (ric u)[j]? := by
  induction l with
  | nil => intro i u j h; simp at h
  | cons q l ih =>
    intro i u j h hj
    rw [List.flatMap_cons]
    cases i with
    | zero =>
      simp at h
      subst h
      rw [Nat.zero_mul, Nat.zero_add, List.getElem?_append_left (by simp [ric]; omega)]
    | succ i =>
      rw [List.getElem?_append_right (by simp [ric]; omega), show (i + 1) * 9 + j - (ric q).length = i * 9 + j by simp [ric]; omega]
      exact ih i u j (by simpa using h) hj
section
variable {w : World} {B x : Nat} {F : WFx} {bs : List Bd} {pb : Option Addr} {cb : Nat} {rs : List Ri} {pr : Option Addr} {cr : Nat} {el : Nat} {er : Int}
/-- a body's cells -/
theorem WR.body (h : WR w B x F bs pb cb rs pr cr el er) (k : Nat) (u : Bd) (hk : bs[k]? = some u) : ∃ g, pb = some ⟨g, 0, none⟩ ∧ k < bs.length ∧ w.cell? ⟨g, k * 5, none⟩ = some (I u.b) ∧ w.cell? ⟨g, k * 5 + 1, none⟩ = some (I u.e) ∧ w.cell? ⟨g, k * 5 + 2, none⟩ = some (.int .i64 u.ar) ∧ w.cell? ⟨g, k * 5 + 3, none⟩ = some (I u.ne) ∧ w.cell? ⟨g, k * 5 + 4, none⟩ = some (I u.sl) := by
  have hlt : k < bs.length := (List.getElem?_eq_some_iff.1 hk).1
  have h1 := h.bod
  rcases h1.2 with ⟨e, e0⟩ | ⟨g, cap, cur, e, q1, q2, q3, q4⟩
  · omega
  · injection e with e1 _ e3
    subst e1 e3
    have hc : ∀ j, j < 5 → w.cell? ⟨g, k * 5 + j, none⟩ = (bdc u)[j]? := fun j hj => by
      rw [h1.cellAt (k * 5 + j) (by omega)]
      exact bdcs_at bs k u j hk hj
    exact ⟨g, rfl, hlt, hc 0 (by omega), hc 1 (by omega), hc 2 (by omega), hc 3 (by omega), hc 4 (by omega)⟩
theorem WR.ins (h : WR w B x F bs pb cb rs pr cr el er) (k : Nat) (u : Ri) (hk : rs[k]? = some u) : ∃ g, pr = some ⟨g, 0, none⟩ ∧ k < rs.length ∧ ∀ j, j < 9 → w.cell? ⟨g, k * 9 + j, none⟩ = (ric u)[j]? := by
  have hlt : k < rs.length := (List.getElem?_eq_some_iff.1 hk).1
  have h1 := h.lst
  rcases h1.2 with ⟨e, e0⟩ | ⟨g, cap, cur, e, q1, q2, q3, q4⟩
  · omega
  · injection e with e1 _ e3
    subst e1 e3
    exact ⟨g, rfl, hlt, fun j hj => by rw [h1.cellAt (k * 9 + j) (by omega)]; exact rics_at rs k u j hk hj⟩
set_option maxRecDepth 100000 in
set_option maxHeartbeats 2000000 in
theorem scope_ok (h : WR w B x F bs pb cb rs pr cr el er) {inf : List Inf} (hb : BOk bs inf) (k : Nat) (sc : List Nat) (b e : Nat) (hk : inf[k]? = some (sc, b, e)) (hs1 : 1 ≤ sc.length) (hs25 : sc.length ≤ 25) (hl : bs.length ≤ 100000) (out : Int) (ho1 : -9223372036854775808 ≤ out) (ho2 : out ≤ 9223372036854775807) :
    Calls Tryd.prog 68 #[.pointer (some ⟨x, 0, none⟩), .int .i64 (k : Int), .int .i64 out] w fun en w' => en = .returned (.int .i64 (scopeR sc out)) ∧ w' = w := by
  have HW := mkHid h
  have HBk := mkHid hb
  by_cases hneg : out < 0
  · have e1 : scopeR sc out = -1 := by unfold scopeR; rw [if_neg (by omega)]
    rw [e1]
    clear h hb hk
    go_enter Tryd.func68, Tryd.ntmps68
    go_wp2_with fail
    go_ret
    exact ⟨rfl, rfl⟩
  · have d0 : decide (out < 0) = false := decide_eq_false hneg
    have c9 : w.cell? ⟨x, 9, none⟩ = some (.slice pb bs.length cb) := h.cell 9
    have HK := mkHid hk
    clear h hb hk
    go_enter Tryd.func68, Tryd.ntmps68
    go_wp2_with fail
    go_loopw [1, 7] (fun bv q wr => wr = w ∧ ∃ i : Nat, q = .int .i64 (i : Int) ∧ (i : Int) ≤ out ∧ i ≤ sc.length ∧ ((i = sc.length ∧ bv = .int .i64 (-1)) ∨ (i < sc.length ∧ ∃ j : Nat, bv = .int .i64 (j : Int) ∧ Hid (∃ b' e', inf[j]? = some (sc.take (sc.length - i), b', e'))))) (fun _ q _ => 26 - (intOf q).toNat)
    case atStart => exact ⟨rfl, 0, rfl, by omega, by omega, .inr ⟨by omega, k, rfl, b, e, by rw [Nat.sub_zero, List.take_length]; exact HK.out⟩⟩
    case round =>
      obtain ⟨rfl, i, rfl, hio, his, hcs⟩ := hrel
      have i0 : (0 : Int) ≤ (i : Int) := by omega
      rcases hcs with ⟨hie, rfl⟩ | ⟨hlt, j, rfl, hj⟩
      · have e1 : scopeR sc out = -1 := by unfold scopeR; rw [if_neg (by omega)]
        by_cases hio2 : (i : Int) < out
        · go_wp2_with fail
          go_ret
          first | exact ⟨rfl, rfl⟩ | exact ⟨by rw [e1]; rfl, rfl⟩
        · have d2 : decide ((i : Int) < out) = false := decide_eq_false hio2
          go_wp2_with fail
          go_ret
          first | exact ⟨rfl, rfl⟩ | exact ⟨by rw [e1]; rfl, rfl⟩
      · have a1 : i + 1 = sc.length → sc.length - i = 1 := fun hh => by omega
        have a2 : ¬ i + 1 = sc.length → 1 < sc.length - i := fun hh => by omega
        obtain ⟨b', e', hj2⟩ := hj.out
        have htl : (sc.take (sc.length - i)).length = sc.length - i := by simp
        obtain ⟨u, hu, -, -, -, usl, uar1, uar2⟩ := HBk.out.at_ j _ b' e' hj2
        rw [htl] at usl uar1 uar2
        obtain ⟨g, rfl, hjl, -, -, y2, -, y4⟩ := HW.out.body j u hu
        have j0 : (0 : Int) ≤ (j : Int) := by omega
        have j1 : (j : Int) < (bs.length : Int) := by omega
        by_cases hio2 : (i : Int) < out
        · have HNx : Hid (∃ bv, u.ar = bv ∧ ((i + 1 = sc.length ∧ bv = -1) ∨ (i + 1 < sc.length ∧ ∃ j : Nat, bv = (j : Int) ∧ ∃ b' e', inf[j]? = some (sc.take (sc.length - (i + 1)), b', e')))) := by
            by_cases h1 : i + 1 = sc.length
            · exact ⟨_, rfl, .inl ⟨h1, uar1 (a1 h1)⟩⟩
            · obtain ⟨j2, -, ej2, b2, e2, h2⟩ := uar2 (a2 h1)
              refine ⟨_, rfl, .inr ⟨by omega, j2, ej2, b2, e2, ?_⟩⟩
              rw [List.take_take, Nat.min_eq_left (Nat.sub_le _ _), Nat.sub_sub] at h2
              exact h2
          clear hj hj2 uar1 uar2 usl hu
          obtain ⟨bv, hbv, hcs⟩ := HNx.out
          rw [hbv] at y2
          go_wp2_with fail
          go_roundw
          case rel =>
            refine ⟨trivial, i + 1, by go_num, by omega, by omega, ?_⟩
            rcases hcs with ⟨h1, rfl⟩ | ⟨h1, j2, rfl, h2⟩
            · exact .inl ⟨h1, rfl⟩
            · exact .inr ⟨h1, j2, rfl, h2⟩
          case measure => simp [intOf]; omega
        · have d2 : decide ((i : Int) < out) = false := decide_eq_false hio2
          have e1 : scopeR sc out = ((u.sl : Nat) : Int) := by
            unfold scopeR
            rw [if_pos (by omega), show out.toNat = i by omega, usl, List.getD_eq_getElem?_getD, List.getD_eq_getElem?_getD, List.getElem?_take, if_pos (by omega), show sc.length - 1 - i = sc.length - i - 1 by omega]
          have y4 : wr.cell? ⟨g, j * 5 + 4, none⟩ = some (.int .i64 ((u.sl : Nat) : Int)) := y4
          clear hj hj2 uar1 uar2 usl hu
          go_wp2_with fail
          go_ret
          first | exact ⟨rfl, rfl⟩ | exact ⟨by rw [e1]; rfl, rfl⟩
end
end Go.Proofs.YtdflpoldlokijaaDoor
