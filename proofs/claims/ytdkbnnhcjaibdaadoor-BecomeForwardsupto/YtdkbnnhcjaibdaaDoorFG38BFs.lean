import Derived.Test.YtdkbnnhcjaibdaaDoorFBRfF
import Derived.Test.YtdkbnnhcjaibdaaDoorFBForw
import Derived.Test.YtdkbnnhcjaibdaaDoorFG36BWipe
namespace Go.Proofs.YtdkbnnhcjaibdaaDoor
open Go.RowKit
set_option linter.unusedVariables false
set_option linter.unusedSimpArgs false
attribute [local go_sem ↓] Go.wp_at_zero Go.wp_at_succ
set_option maxHeartbeats 1000000 in
theorem Forward_nil (va vb : Value) (w : World) : Calls Tryd.prog 39 #[.pointer none, va, vb] w fun e w' => e = .returned (.tuple #[.int .i64 0, .int .i64 2]) ∧ Fr [] w w' := by
  have HM := mkHid (pairs_nil va vb w)
  go_enter Tryd.func39, Tryd.ntmps39
  go_wp2_with fail
  refine Calls.mono HM.out ?_
  rintro e w1 ⟨rfl, hf⟩
  have HF := mkHid hf
  clear hf HM
  go_wp2_with fail
  go_ret2
  exact ⟨rfl, HF.out⟩
set_option maxHeartbeats 1000000 in
theorem rForward_nil (va vb : Value) (w : World) : Calls Tryd.prog 40 #[.pointer none, va, vb] w fun e w' => e = .returned (.tuple #[.int .i64 0, .int .i64 2]) ∧ Fr [] w w' := by
  have HM := mkHid (may_nil va vb w)
  go_enter Tryd.func40, Tryd.ntmps40
  go_wp2_with fail
  refine Calls.mono HM.out ?_
  rintro e w1 ⟨rfl, hf⟩
  have HF := mkHid hf
  clear hf HM
  go_wp2_with fail
  go_ret2
  exact ⟨rfl, HF.out⟩
/-- how many words a Forward turns -/
def fwCnt (d : Option Ds) (sa sb : List Int) : Int :=
  match d with
  | none => 0
  | some d => if fitN (hasL d.ks) sa sb = 0 then (((d.ks.map (cntKey (pf (sa.zip sb)))).sum : Nat) : Int) else 0
/-- what it leaves -/
def fwD (d : Option Ds) (sa sb : List Int) : Option Ds :=
  match d with
  | none => none
  | some d => if fitN (hasL d.ks) sa sb = 0 then some { d with ks := d.ks.map (turnKey (pf (sa.zip sb))) } else some d
theorem fwD_len (d : Option Ds) (sa sb : List Int) : (ksD (fwD d sa sb)).length = (ksD d).length := by
  cases d with
  | none => rfl
  | some d =>
    unfold fwD
    by_cases h : fitN (hasL d.ks) sa sb = 0
    · simp only [if_pos h, ksD, List.length_map]
    · simp only [if_neg h]
/-- what keys a heap may have -/
def KAx (d : Option Ds) : Prop :=
  match d with
  | none => True
  | some d => (∃ H M, KA d.words d.oops d.mark d.ks H M) ∧ ∀ k ∈ d.ks, k.1 ≤ 65536
/-- the program's heap -/
def PF (S : List Nat) (d : Option Ds) (hv : Value) (w : World) : Prop := (∃ ag, PS S d ag hv w) ∧ KAx d
theorem PF.keep {S T : List Nat} {d : Option Ds} {hv : Value} {w w' : World} (h : PF S d hv w) (hf : Fr T w w') (hd : ∀ g ∈ S, g ∉ T) : PF S d hv w' := by
  obtain ⟨⟨ag, h1⟩, h2⟩ := h
  exact ⟨⟨ag, h1.keep hf hd⟩, h2⟩
theorem p_forward {S : List Nat} {d : Option Ds} {hv : Value} {w : World} (h : PF S d hv w) (sa sb : List Int) (va vb : Value) (ha : Rd w va sa) (hb : Rd w vb sb) (hT : Tab w) (h0 : 0 ∉ S) (hW : 0 < w.heap.size) :
    Calls Tryd.prog 39 #[hv, va, vb] w fun e w' => e = .returned (.tuple #[.int .i64 (fwCnt d sa sb), .int .i64 (swAns d sa sb)]) ∧ PF S (fwD d sa sb) hv w' ∧ Fr S w w' := by
  obtain ⟨⟨ag, hp⟩, hx⟩ := h
  cases d with
  | none =>
    obtain ⟨rfl, rfl⟩ := hp
    exact (Forward_nil va vb w).mono fun e w' ⟨h1, h2⟩ => ⟨h1, ⟨⟨0, rfl, rfl⟩, trivial⟩, h2.mono (by simp)⟩
  | some d =>
    obtain ⟨a, l, H, M, rfl, rfl, h3, h4, rfl⟩ := hp
    obtain ⟨-, hbk⟩ := hx
    refine (Forward_ok sa sb va vb w h3 h4 hbk ha hb hT h0 hW).mono ?_
    unfold fwCnt swAns fwD
    rw [ka_hasL h4, cnt_sum h4]
    rintro e w' (⟨h5, h6, h7⟩ | ⟨h5, h6, H', M', h7, h8, h9, h10⟩)
    · simp only [if_neg h5]
      exact ⟨h6, ⟨⟨_, a, l, H, M, rfl, rfl, h3.keep h7 (by simp), h4, rfl⟩, ⟨H, M, h4⟩, hbk⟩, h7.mono (by simp)⟩
    · simp only [if_pos h5]
      refine ⟨by rw [h6, h5], ⟨⟨_, a, l, H', M', rfl, rfl, h7, h8, h9⟩, ⟨H', M', h8⟩, fun k hk => ?_⟩, h10.1⟩
      obtain ⟨k0, k1, rfl⟩ := List.mem_map.1 hk
      exact hbk k0 k1
/-- the document's heap -/
def RF (B N : Nat) (d : Option Ds) (rv : Value) (w : World) : Prop :=
  match d with
  | none => rv = .pointer none
  | some d => ∃ (r : Nat) (R : RS), rv = .pointer (some ⟨r, 0, none⟩) ∧ RRep w B r R ∧ RK d.words d.oops d.mark d.ks N R.bare ∧ (R.objs.map fun o => o.oop).Nodup ∧ Lone R
def RBf (B : Nat) (w : World) (T : List Nat) : Prop := ∀ g ∈ T, B ≤ g ∧ ∃ cur t, t ≠ 3 ∧ w.heap[g]? = some (.cells cur t (0, 0))
theorem rbf_foot {w : World} {B r : Nat} {R : RS} (h : RRep w B r R) : RBf B w (fFoot R) := fun g hg => by
  rcases mem_fFoot.1 hg with e | ⟨o, o1, e⟩
  · obtain ⟨cur, hc⟩ := row_block h.row e
    exact ⟨(h.row.lt g e).1, cur, 153, by decide, hc⟩
  · obtain ⟨cur, hc⟩ := row_block (h.slots o o1) e
    exact ⟨((h.slots o o1).lt g e).1, cur, 35, by decide, hc⟩
theorem Apart.outF {B : Nat} {w : World} {v : Value} {T : List Nat} (h : Apart B w v) (hT : RBf B w T) (g : Nat) (hg : v.ownBlock = some g) : g ∉ T := fun hm => by
  obtain ⟨h1, cur, t, h2, h3⟩ := hT g hm
  rcases h g hg with h4 | ⟨cur2, h4⟩
  · omega
  · rw [h4] at h3
    injection h3 with h3
    injection h3 with _ h3 _
    exact h2 h3.symm
theorem RF.sd {B N : Nat} {d : Option Ds} {rv : Value} {w : World} (h : RF B N d rv w) : ∃ tn, RSd B N d tn none rv w := by
  cases d with
  | none => exact ⟨0, h, rfl⟩
  | some d =>
    obtain ⟨r, R, h1, h2, h3, h4, h5⟩ := h
    exact ⟨R.turn, r, R, h1, h2, h3, h4, rfl, fun bn h => by cases h⟩
theorem RF.keep {B N : Nat} {d : Option Ds} {rv : Value} {w w' : World} {S : List Nat} (h : RF B N d rv w) (hf : Fr S w w') (hd : ∀ g ∈ S, g < B ∨ ∃ cur, w.heap[g]? = some (.cells cur 3 (0, 0))) : RF B N d rv w' := by
  cases d with
  | none => exact h
  | some d =>
    obtain ⟨r, R, h1, h2, h3⟩ := h
    refine ⟨r, R, h1, ?_, h3⟩
    have key : ∀ {t : TypeId} {cur : Array Value} {g : Nat}, w.heap[g]? = some (.cells cur t (0, 0)) → B ≤ g → t ≠ 3 → w'.heap[g]? = w.heap[g]? := fun {t cur g} hg hB ht => hf.block g (lt_of_heap hg) (fun hm => by
      rcases hd g hm with h4 | ⟨cur2, h4⟩
      · omega
      · rw [h4] at hg
        injection hg with hg
        injection hg with _ hg _
        exact ht hg.symm)
    refine ⟨h2.lo, (key h2.top h2.lo (by decide)).trans h2.top, own_congr h2.row fun g hg => ?_, fun o ho => own_congr (h2.slots o ho) fun g hg => ?_⟩
    · obtain ⟨cur, hc⟩ := row_block h2.row hg
      exact key hc (h2.row.lt g hg).1 (by decide)
    · obtain ⟨cur, hc⟩ := row_block (h2.slots o ho) hg
      exact key hc ((h2.slots o ho).lt g hg).1 (by decide)
theorem r_forward {B N : Nat} {d : Option Ds} {rv : Value} {w : World} (h : RF B N d rv w) (hx : KAx d) (sa sb : List Int) (va vb : Value) (ha : Rd w va sa) (hb : Rd w vb sb) (hs : sa.length + sb.length ≤ 1048576) (oa : 0 < sa.length → Apart B w va) (ob : 0 < sb.length → Apart B w vb) :
    Calls Tryd.prog 40 #[rv, va, vb] w fun e w' => e = .returned (.tuple #[.int .i64 (fwCnt d sa sb), .int .i64 (swAns d sa sb)]) ∧ RF B N (fwD d sa sb) rv w' ∧ ∃ T, RBf B w T ∧ Fr T w w' := by
  cases d with
  | none =>
    have e : rv = .pointer none := h
    subst e
    exact (rForward_nil va vb w).mono fun e w' ⟨h1, h2⟩ => ⟨h1, rfl, [], fun g hg => (by simp at hg), h2⟩
  | some d =>
    obtain ⟨r, R, rfl, h2, h3, h4, h5⟩ := h
    obtain ⟨⟨H, M, hka⟩, hbk⟩ := hx
    have hm := rbf_foot h2
    refine (rForward_ok sa sb va vb B r R w h2 h5 h4 h3 hka hbk ha hb hs (fun h0 g hg => (oa h0).outF hm g hg) (fun h0 g hg => (ob h0).outF hm g hg)).mono ?_
    unfold fwCnt swAns fwD
    rw [rhas_keys (R := R) (ks := d.ks) h3.keys]
    rintro e w' (⟨h7, h8, h9⟩ | ⟨h7, h8, h9, h10⟩)
    · simp only [if_neg h7]
      exact ⟨h8, ⟨r, R, rfl, h2.idle h9, h3, h4, h5⟩, [], fun g hg => (by simp at hg), h9⟩
    · simp only [if_pos h7]
      obtain ⟨R', q1, q2, q3⟩ := h9.ex
      exact ⟨by rw [h8, h7], ⟨r, R', rfl, q1, q2.rk h3 q3 (endK_turn _ _), q2.nodup h4, q2.lone h5⟩, _, hm, h10⟩
end Go.Proofs.YtdkbnnhcjaibdaaDoor
namespace Go.Proofs.YtdkbnnhcjaibdaaDoor
open Go.RowKit
set_option linter.unusedVariables false
set_option linter.unusedSimpArgs false
theorem Rd.blk {w : World} {v : Value} {ss : List Int} (h : Rd w v ss) (h0 : 0 < ss.length) (g : Nat) (hg : v.ownBlock = some g) : g < w.heap.size := by
  obtain ⟨p, c, rfl, hp⟩ := h.at_
  obtain ⟨g', off, rfl, h1, -⟩ := hp h0
  have : g' = g := by simpa [Value.ownBlock] using hg
  omega
theorem own_ty {w : World} {b n : Nat} {g c : Nat} {zs : List Value} (h : w.ownsRow b 3 1 (.slice (some ⟨g, 0, none⟩) n c) n zs) : ∃ cur, w.heap[g]? = some (.cells cur 3 (0, 0)) := row_block h rfl
/-- the two heaps, loaded -/
theorem loadedF (x y z : Int) (ov : Value) (la : List OI) (w : World) (ha : SAt w ov la) (hT : Tab w) (hT0 : 0 < w.heap.size) :
    Calls Tryd.prog 37 #[.agg #[.int .i64 x, .int .i64 y, .int .i64 z, ov]] w fun e w' => ∃ (d : Option Ds) (S : List Nat) (B : Nat) (P Q : Option Addr), e = .returned (.tuple #[.pointer P, .pointer Q, .bool true]) ∧ PF S d (.pointer P) w' ∧ RF B w'.heap.size d (.pointer Q) w' ∧ (∀ g ∈ S, w.heap.size ≤ g ∧ g < B) ∧ w.heap.size ≤ B ∧ B ≤ w'.heap.size ∧ (ksD d).length ≤ 65538 ∧ Fr [] w w' := by
  refine (loaded4_ok x y z ov la w ha hT hT0).mono ?_
  rintro e w' (⟨rfl, hf⟩ | ⟨xn, yn, zn, a, B, r, l, H, M, R, rfl, htw, hof, hf, hnew, hB1, hB2⟩)
  · exact ⟨none, [], w.heap.size, none, none, rfl, ⟨⟨0, rfl, rfl⟩, trivial⟩, rfl, by simp, Nat.le_refl _, hf.size, by simp [ksD], hf⟩
  · refine ⟨some ⟨xn, yn, zn, la.map oiKey⟩, foot a l, B, _, _, rfl, ⟨⟨_, a, l, H, M, rfl, rfl, htw.rep, htw.ka, rfl⟩, ⟨H, M, htw.ka⟩, fun k hk => ?_⟩, ⟨r, R, rfl, htw.rrep, ?_, ka_oops htw.ka htw.rk.keys, hof.lone⟩, fun g hg => ⟨hnew g hg, htw.apart g hg⟩, hB1, hB2, htw.ka.klen, hf⟩
    · obtain ⟨i, hi, e⟩ := List.getElem_of_mem hk
      have h1 := (takesK_yes (hof.good i k (by rw [List.getElem?_eq_getElem hi, e]))).2.1
      have h2 := htw.ka.small
      omega
    · have k := htw.rk
      exact ⟨k.words, k.oops, k.mark, k.keys, k.fin, k.slots, k.own, by show 0 ≤ 1000; omega⟩
/-- where all lies that the law has in hand -/
structure Lif where
  S : List Nat
  B : Nat
  N : Nat
  P : Option Addr
  Q : Option Addr
  bx : Nat
  gx : Nat
  cx : Nat
  gy : Nat
  cy : Nat
/-- .. and what it holds -/
structure FwSt (W : World) (L : Lif) (d d' : Option Ds) (xs ys : List Int) (w : World) : Prop where
  ps : PF L.S d (.pointer L.P) w
  rs : RF L.B L.N d' (.pointer L.Q) w
  x : w.ownsRow L.bx 3 1 (.slice (some ⟨L.gx, 0, none⟩) xs.length L.cx) xs.length (xs.map (Value.int .i64))
  y : w.ownsRow L.bx 3 1 (.slice (some ⟨L.gy, 0, none⟩) ys.length L.cy) ys.length (ys.map (Value.int .i64))
  own : ∀ g ∈ L.S, W.heap.size ≤ g ∧ g < L.B
  lo : W.heap.size ≤ L.B
  bx : L.B ≤ L.bx
  ne : L.gx ≠ L.gy
  fr : Fr [] W w
  tab : Tab W
  pos : 0 < W.heap.size
section
variable {W : World} {L : Lif} {d d' : Option Ds} {xs ys : List Int} {w w' : World}
theorem FwSt.xB (h : FwSt W L d d' xs ys w) : L.B ≤ L.gx ∧ L.B ≤ L.gy := by
  have h1 := (h.x.lt L.gx rfl).1
  have h2 := (h.y.lt L.gy rfl).1
  have := h.bx
  omega
theorem FwSt.rest {T : List Nat} (h : FwSt W L d d' xs ys w) (hf : Fr T w w') (hT : ∀ g ∈ T, g < L.B ∨ ∃ cur t, t ≠ 3 ∧ w.heap[g]? = some (.cells cur t (0, 0))) (hW : ∀ g ∈ T, W.heap.size ≤ g) :
    w'.ownsRow L.bx 3 1 (.slice (some ⟨L.gx, 0, none⟩) xs.length L.cx) xs.length (xs.map (Value.int .i64)) ∧ w'.ownsRow L.bx 3 1 (.slice (some ⟨L.gy, 0, none⟩) ys.length L.cy) ys.length (ys.map (Value.int .i64)) ∧ Fr [] W w' := by
  have key : ∀ {cur : Array Value} {g : Nat}, w.heap[g]? = some (.cells cur 3 (0, 0)) → L.B ≤ g → w'.heap[g]? = w.heap[g]? := fun {cur g} hg hB => hf.block g (lt_of_heap hg) (fun hm => by
    rcases hT g hm with h4 | ⟨cur2, t2, h3, h4⟩
    · omega
    · rw [h4] at hg
      injection hg with hg
      injection hg with _ hg _
      exact h3 hg)
  refine ⟨own_congr h.x fun g hg => ?_, own_congr h.y fun g hg => ?_, h.fr.trans hf fun g hg => .inr (hW g hg)⟩
  · obtain ⟨cur, hc⟩ := row_block h.x hg
    exact key hc (Nat.le_trans h.bx (h.x.lt g hg).1)
  · obtain ⟨cur, hc⟩ := row_block h.y hg
    exact key hc (Nat.le_trans h.bx (h.y.lt g hg).1)
theorem FwSt.idle (h : FwSt W L d d' xs ys w) (hf : Fr [] w w') : FwSt W L d d' xs ys w' := by
  obtain ⟨r1, r2, r5⟩ := h.rest hf (by simp) (by simp)
  exact ⟨h.ps.keep hf (by simp), h.rs.keep hf (by simp), r1, r2, h.own, h.lo, h.bx, h.ne, r5, h.tab, h.pos⟩
theorem FwSt.prog {d2 : Option Ds} (h : FwSt W L d d' xs ys w) (hf : Fr L.S w w') (hp : PF L.S d2 (.pointer L.P) w') : FwSt W L d2 d' xs ys w' := by
  obtain ⟨r1, r2, r5⟩ := h.rest hf (fun g hg => .inl (h.own g hg).2) (fun g hg => (h.own g hg).1)
  exact ⟨hp, h.rs.keep hf (fun g hg => .inl (h.own g hg).2), r1, r2, h.own, h.lo, h.bx, h.ne, r5, h.tab, h.pos⟩
theorem FwSt.doc {d2 : Option Ds} {T : List Nat} (h : FwSt W L d d' xs ys w) (hT : RBf L.B w T) (hf : Fr T w w') (hr : RF L.B L.N d2 (.pointer L.Q) w') : FwSt W L d d2 xs ys w' := by
  obtain ⟨r1, r2, r5⟩ := h.rest hf (fun g hg => .inr (hT g hg).2) (fun g hg => Nat.le_trans h.lo (hT g hg).1)
  exact ⟨h.ps.keep hf (fun g hg hm => by have := (h.own g hg).2; have := (hT g hm).1; omega), hr, r1, r2, h.own, h.lo, h.bx, h.ne, r5, h.tab, h.pos⟩
theorem FwSt.wipeX {xs2 : List Int} (h : FwSt W L d d' xs ys w) (hf : Fr [L.gx] w w') (hl : xs2.length = xs.length) (hx : w'.ownsRow L.bx 3 1 (.slice (some ⟨L.gx, 0, none⟩) xs.length L.cx) xs.length (xs2.map (Value.int .i64))) : FwSt W L d d' xs2 ys w' := by
  obtain ⟨cur, hc⟩ := own_ty h.x
  have hB := h.xB
  obtain ⟨cury, hcy⟩ := own_ty h.y
  refine ⟨h.ps.keep hf (fun g hg hm => ?_), h.rs.keep hf (fun g hg => .inr ?_), by rw [hl]; exact hx, own_congr h.y fun g hg => ?_, h.own, h.lo, h.bx, h.ne, h.fr.trans hf (fun g hg => .inr ?_), h.tab, h.pos⟩
  · have e : g = L.gx := by simpa using hm
    have := (h.own g hg).2
    omega
  · have e : g = L.gx := by simpa using hg
    subst e
    exact ⟨cur, hc⟩
  · have e : L.gy = g := by simpa [Value.ownBlock] using hg
    subst e
    exact hf.block _ (lt_of_heap hcy) (by simpa using fun e => h.ne e.symm)
  · have e : g = L.gx := by simpa using hg
    have := h.lo
    omega
theorem FwSt.wipeY {ys2 : List Int} (h : FwSt W L d d' xs ys w) (hf : Fr [L.gy] w w') (hl : ys2.length = ys.length) (hx : w'.ownsRow L.bx 3 1 (.slice (some ⟨L.gy, 0, none⟩) ys.length L.cy) ys.length (ys2.map (Value.int .i64))) : FwSt W L d d' xs ys2 w' := by
  obtain ⟨cur, hc⟩ := own_ty h.y
  have hB := h.xB
  obtain ⟨cury, hcy⟩ := own_ty h.x
  refine ⟨h.ps.keep hf (fun g hg hm => ?_), h.rs.keep hf (fun g hg => .inr ?_), own_congr h.x fun g hg => ?_, by rw [hl]; exact hx, h.own, h.lo, h.bx, h.ne, h.fr.trans hf (fun g hg => .inr ?_), h.tab, h.pos⟩
  · have e : g = L.gy := by simpa using hm
    have := (h.own g hg).2
    omega
  · have e : g = L.gy := by simpa using hg
    subst e
    exact ⟨cur, hc⟩
  · have e : L.gx = g := by simpa [Value.ownBlock] using hg
    subst e
    exact hf.block _ (lt_of_heap hcy) (by simpa using h.ne)
  · have e : g = L.gy := by simpa using hg
    have := h.lo
    omega
/-- a list that came in, or one of the handed ones, cut to its front -/
def ArgF (L : Lif) (W w : World) (v : Value) (ss : List Int) : Prop := Rd w v ss ∧ (0 < ss.length → Apart L.B w v)
theorem FwSt.argIn (h : FwSt W L d d' xs ys w) {v : Value} {ss : List Int} (hr : Rd W v ss) : ArgF L W w v ss :=
  ⟨hr.idle h.fr, fun h0 g hg => .inl (by have := hr.blk h0 g hg; have := h.lo; omega)⟩
theorem FwSt.argX (h : FwSt W L d d' xs ys w) {ss ms : List Int} (e : xs = ss ++ ms) (hl : ss.length ≤ 17592186043904) : ArgF L W w (.slice (some ⟨L.gx, 0, none⟩) ss.length L.cx) ss := by
  have hx := h.x
  have ht := own_ty h.x
  subst e
  refine ⟨own_front hx hl, fun _ g hg => .inr ?_⟩
  have e : L.gx = g := by simpa [Value.ownBlock] using hg
  subst e
  exact ht
theorem FwSt.argY (h : FwSt W L d d' xs ys w) {ss ms : List Int} (e : ys = ss ++ ms) (hl : ss.length ≤ 17592186043904) : ArgF L W w (.slice (some ⟨L.gy, 0, none⟩) ss.length L.cy) ss := by
  have hx := h.y
  have ht := own_ty h.y
  subst e
  refine ⟨own_front hx hl, fun _ g hg => .inr ?_⟩
  have e : L.gy = g := by simpa [Value.ownBlock] using hg
  subst e
  exact ht
theorem fw_fwd (h : FwSt W L d d' xs ys w) (sa sb : List Int) (va vb : Value) (ha : ArgF L W w va sa) (hb : ArgF L W w vb sb) :
    Calls Tryd.prog 39 #[.pointer L.P, va, vb] w fun e w' => e = .returned (.tuple #[.int .i64 (fwCnt d sa sb), .int .i64 (swAns d sa sb)]) ∧ FwSt W L (fwD d sa sb) d' xs ys w' :=
  (p_forward h.ps sa sb va vb ha.1 hb.1 (h.tab.fr h.fr h.pos) (fun hm => by have := (h.own 0 hm).1; have := h.pos; omega) (Nat.lt_of_lt_of_le h.pos h.fr.size)).mono fun e w' ⟨h1, h2, h3⟩ => ⟨h1, h.prog h3 h2⟩
theorem fw_rfwd (h : FwSt W L d d' xs ys w) (hx : KAx d') (sa sb : List Int) (va vb : Value) (ha : ArgF L W w va sa) (hb : ArgF L W w vb sb) (hs : sa.length + sb.length ≤ 1048576) :
    Calls Tryd.prog 40 #[.pointer L.Q, va, vb] w fun e w' => e = .returned (.tuple #[.int .i64 (fwCnt d' sa sb), .int .i64 (swAns d' sa sb)]) ∧ FwSt W L d (fwD d' sa sb) xs ys w' :=
  (r_forward h.rs hx sa sb va vb ha.1 hb.1 hs ha.2 hb.2).mono fun e w' ⟨h1, h2, T, h3, h4⟩ => ⟨h1, h.doc h3 h4 h2⟩
theorem fw_state (h : FwSt W L d d' xs ys w) : Calls Tryd.prog 18 #[.pointer L.P] w fun e w' => ∃ ov ls, e = .returned (.agg #[.int .i64 (wordsD d : Int), .int .i64 (oopsD d : Int), .int .i64 (markD d : Int), ov]) ∧ SAt w' ov ls ∧ ls.map oiKey = ksD d ∧ FwSt W L d d' xs ys w' := by
  obtain ⟨⟨ag, hp⟩, -⟩ := h.ps
  exact (p_state hp).mono fun e w' ⟨ov, ls, h1, h2, h3, h4⟩ => ⟨ov, ls, h1, h2, h3, h.idle h4⟩
theorem fw_rstate (h : FwSt W L d d xs ys w) : Calls Tryd.prog 27 #[.pointer L.Q] w fun e w' => ∃ ov ls, e = .returned (.agg #[.int .i64 (wordsD d : Int), .int .i64 (oopsD d : Int), .int .i64 (markD d : Int), ov]) ∧ SAt w' ov ls ∧ ls.map oiKey = ksD d ∧ FwSt W L d d xs ys w' ∧ Fr [] w w' := by
  obtain ⟨⟨ag, hp⟩, -⟩ := h.ps
  obtain ⟨tn, hs⟩ := h.rs.sd
  exact (r_state hs hp).mono fun e w' ⟨ov, ls, h1, h2, h3, h4⟩ => ⟨ov, ls, h1, h2, h3, h.idle h4, h4⟩
end
end Go.Proofs.YtdkbnnhcjaibdaaDoor
