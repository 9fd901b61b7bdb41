import Derived.Test.YtdkbnnhcjaibdaaDoorSG33BWipe
namespace Go.Proofs.YtdkbnnhcjaibdaaDoor
open Go.RowKit
set_option linter.unusedVariables false
set_option linter.unusedSimpArgs false
theorem Rd.blk {w : World} {v : Value} {ss : List Int} (h : Rd w v ss) (h0 : 0 < ss.length) (g : Nat) (hg : v.ownBlock = some g) : g < w.heap.size := by
  obtain ⟨p, c, rfl, hp⟩ := h.at_
  obtain ⟨g', off, rfl, h1, -⟩ := hp h0
  have : g' = g := by simpa [Value.ownBlock] using hg
  omega
/-- the two heaps, loaded -/
theorem loadedD (x y z : Int) (ov : Value) (la : List OI) (w : World) (ha : SAt w ov la) (hT : Tab w) (hT0 : 0 < w.heap.size) :
    Calls Tryd.prog 37 #[.agg #[.int .i64 x, .int .i64 y, .int .i64 z, ov]] w fun e w' => ∃ (d : Option Ds) (S : List Nat) (B bn : Nat) (P Q : Option Addr), e = .returned (.tuple #[.pointer P, .pointer Q, .bool true]) ∧ PS S d 0 (.pointer P) w' ∧ RSd B w'.heap.size d 0 (some bn) (.pointer Q) w' ∧ (∀ g ∈ S, w.heap.size ≤ g ∧ g < B) ∧ w.heap.size ≤ B ∧ B ≤ w'.heap.size ∧ (d = none → bn = 0) ∧ (ksD d).length ≤ 65538 ∧ Fr [] w w' := by
  refine (loaded4_ok x y z ov la w ha hT hT0).mono ?_
  rintro e w' (⟨rfl, hf⟩ | ⟨xn, yn, zn, a, B, r, l, H, M, R, rfl, htw, hof, hf, hnew, hB1, hB2⟩)
  · exact ⟨none, [], w.heap.size, 0, none, none, rfl, ⟨rfl, rfl⟩, ⟨rfl, rfl⟩, by simp, Nat.le_refl _, hf.size, fun _ => rfl, by simp [ksD], hf⟩
  · have hag : H.age = 0 := by have := htw.age; have := hof.turn; omega
    refine ⟨some ⟨xn, yn, zn, la.map oiKey⟩, foot a l, B, R.born, _, _, rfl, ⟨a, l, H, M, rfl, rfl, htw.rep, htw.ka, hag⟩, ⟨r, R, rfl, htw.rrep, ?_, ka_oops htw.ka htw.rk.keys, hof.turn, fun bn hb => ?_⟩, fun g hg => ⟨hnew g hg, htw.apart g hg⟩, hB1, hB2, (fun h => by cases h), htw.ka.klen, hf⟩
    · have k := htw.rk
      exact ⟨k.words, k.oops, k.mark, k.keys, k.fin, k.slots, k.own, by show 0 ≤ 1000; omega⟩
    · injection hb with hb
      exact ⟨hb, hof.old⟩
/-- where all lies that the law has in hand -/
structure Lie where
  S : List Nat
  B : Nat
  N : Nat
  P : Option Addr
  Q : Option Addr
  X : Nat
  Y : Nat
  bx : Nat
  gx : Nat
  cx : Nat
  gy : Nat
  cy : Nat
  n : Nat
  bn : Nat
/-- .. and what it holds -/
structure SwSt (W : World) (L : Lie) (d d' : Option Ds) (ag tn : Nat) (fr : Option Nat) (xs ys : List Int) (w : World) : Prop where
  ps : PS L.S d ag (.pointer L.P) w
  rs : RSd L.B L.N d' tn fr (.pointer L.Q) w
  x : w.ownsRow L.bx 3 1 (.slice (some ⟨L.gx, 0, none⟩) xs.length L.cx) xs.length (xs.map (Value.int .i64))
  y : w.ownsRow L.bx 3 1 (.slice (some ⟨L.gy, 0, none⟩) ys.length L.cy) ys.length (ys.map (Value.int .i64))
  p : w.heap[L.X]? = some (.cells #[.pointer L.P, .int .i64 0, .int .i64 (L.n : Int)] 91 (0, 0))
  q : w.heap[L.Y]? = some (.cells #[.pointer L.Q, .int .i64 (L.bn : Int), .int .i64 0] 94 (0, 0))
  own : ∀ g ∈ L.S, W.heap.size ≤ g ∧ g < L.B
  lo : W.heap.size ≤ L.B
  bx : L.B ≤ L.bx
  X : L.B ≤ L.X
  Y : L.B ≤ L.Y
  ne : L.gx ≠ L.gy
  len : (ksD d').length ≤ 65538
  fr : Fr [] W w
section
variable {W : World} {L : Lie} {d d' : Option Ds} {ag tn : Nat} {fr : Option Nat} {xs ys : List Int} {w w' : World}
theorem SwSt.xB (h : SwSt W L d d' ag tn fr xs ys w) : L.B ≤ L.gx ∧ L.B ≤ L.gy := by
  have h1 := (h.x.lt L.gx rfl).1
  have h2 := (h.y.lt L.gy rfl).1
  have := h.bx
  omega
/-- blocks of other kinds are written: the lists and the points stay -/
theorem SwSt.rest {T : List Nat} (h : SwSt W L d d' ag tn fr xs ys w) (hf : Fr T w w') (hT : ∀ g ∈ T, g < L.B ∨ ∃ cur t, (t = 137 ∨ t = 153) ∧ w.heap[g]? = some (.cells cur t (0, 0))) (hW : ∀ g ∈ T, W.heap.size ≤ g) :
    w'.ownsRow L.bx 3 1 (.slice (some ⟨L.gx, 0, none⟩) xs.length L.cx) xs.length (xs.map (Value.int .i64)) ∧ w'.ownsRow L.bx 3 1 (.slice (some ⟨L.gy, 0, none⟩) ys.length L.cy) ys.length (ys.map (Value.int .i64)) ∧
    w'.heap[L.X]? = some (.cells #[.pointer L.P, .int .i64 0, .int .i64 (L.n : Int)] 91 (0, 0)) ∧ w'.heap[L.Y]? = some (.cells #[.pointer L.Q, .int .i64 (L.bn : Int), .int .i64 0] 94 (0, 0)) ∧ Fr [] W w' := by
  have key : ∀ {t : TypeId} {cur : Array Value} {g : Nat}, w.heap[g]? = some (.cells cur t (0, 0)) → L.B ≤ g → t ≠ 137 → t ≠ 153 → w'.heap[g]? = w.heap[g]? := fun {t cur g} hg hB h1 h2 => hf.block g (lt_of_heap hg) (fun hm => by
    rcases hT g hm with h4 | ⟨cur2, t2, h3, h4⟩
    · omega
    · rw [h4] at hg
      injection hg with hg
      injection hg with _ hg _
      rcases h3 with h3 | h3
      · exact h1 (by rw [← hg, h3])
      · exact h2 (by rw [← hg, h3]))
  refine ⟨own_congr h.x fun g hg => ?_, own_congr h.y fun g hg => ?_, (key h.p h.X (by decide) (by decide)).trans h.p, (key h.q h.Y (by decide) (by decide)).trans h.q, h.fr.trans hf fun g hg => .inr (hW g hg)⟩
  · obtain ⟨cur, hc⟩ := row_block h.x hg
    exact key hc (Nat.le_trans h.bx (h.x.lt g hg).1) (by decide) (by decide)
  · obtain ⟨cur, hc⟩ := row_block h.y hg
    exact key hc (Nat.le_trans h.bx (h.y.lt g hg).1) (by decide) (by decide)
theorem SwSt.idle (h : SwSt W L d d' ag tn fr xs ys w) (hf : Fr [] w w') : SwSt W L d d' ag tn fr xs ys w' := by
  obtain ⟨r1, r2, r3, r4, r5⟩ := h.rest hf (by simp) (by simp)
  exact ⟨h.ps.idle hf, h.rs.idle hf, r1, r2, r3, r4, h.own, h.lo, h.bx, h.X, h.Y, h.ne, h.len, r5⟩
/-- the program's heap has changed -/
theorem SwSt.prog {d2 : Option Ds} {ag2 : Nat} (h : SwSt W L d d' ag tn fr xs ys w) (hf : Fr L.S w w') (hp : PS L.S d2 ag2 (.pointer L.P) w') : SwSt W L d2 d' ag2 tn fr xs ys w' := by
  obtain ⟨r1, r2, r3, r4, r5⟩ := h.rest hf (fun g hg => .inl (h.own g hg).2) (fun g hg => (h.own g hg).1)
  exact ⟨hp, h.rs.keep hf (fun g hg => .inl (h.own g hg).2), r1, r2, r3, r4, h.own, h.lo, h.bx, h.X, h.Y, h.ne, h.len, r5⟩
/-- the document's heap has changed -/
theorem SwSt.doc {d2 : Option Ds} {tn2 : Nat} {fr2 : Option Nat} {T : List Nat} (h : SwSt W L d d' ag tn fr xs ys w) (hT : RBl L.B w T) (hf : Fr T w w') (hr : RSd L.B L.N d2 tn2 fr2 (.pointer L.Q) w') (hl : (ksD d2).length ≤ 65538) : SwSt W L d d2 ag tn2 fr2 xs ys w' := by
  obtain ⟨r1, r2, r3, r4, r5⟩ := h.rest hf (fun g hg => .inr (hT g hg).2) (fun g hg => Nat.le_trans h.lo (hT g hg).1)
  exact ⟨h.ps.keep hf (fun g hg hm => by have := (h.own g hg).2; have := (hT g hm).1; omega), hr, r1, r2, r3, r4, h.own, h.lo, h.bx, h.X, h.Y, h.ne, hl, r5⟩
theorem own_ty {b n : Nat} {g c : Nat} {zs : List Value} (h : w.ownsRow b 3 1 (.slice (some ⟨g, 0, none⟩) n c) n zs) : ∃ cur, w.heap[g]? = some (.cells cur 3 (0, 0)) := row_block h rfl
/-- one of the lists is written over -/
theorem SwSt.wipeX {xs2 : List Int} (h : SwSt W L d d' ag tn fr xs ys w) (hf : Fr [L.gx] w w') (hl : xs2.length = xs.length) (hx : w'.ownsRow L.bx 3 1 (.slice (some ⟨L.gx, 0, none⟩) xs.length L.cx) xs.length (xs2.map (Value.int .i64))) : SwSt W L d d' ag tn fr xs2 ys w' := by
  obtain ⟨cur, hc⟩ := own_ty h.x
  have hB := h.xB
  have key : ∀ {t : TypeId} {cur2 : Array Value} {g : Nat}, w.heap[g]? = some (.cells cur2 t (0, 0)) → g ≠ L.gx → w'.heap[g]? = w.heap[g]? := fun {t cur2 g} hg hn => hf.block g (lt_of_heap hg) (by simpa using hn)
  have ty : ∀ {t : TypeId} {cur2 : Array Value} {g : Nat}, w.heap[g]? = some (.cells cur2 t (0, 0)) → t ≠ 3 → g ≠ L.gx := fun {t cur2 g} hg ht e => by
    rw [e, hc] at hg
    injection hg with hg
    injection hg with _ hg _
    exact ht hg.symm
  have hy := own_ty h.y
  obtain ⟨cury, hcy⟩ := hy
  refine ⟨h.ps.keep hf (fun g hg hm => ?_), h.rs.keep hf (fun g hg => .inr ?_), by rw [hl]; exact hx, own_congr h.y fun g hg => ?_, (key h.p (ty h.p (by decide))).trans h.p, (key h.q (ty h.q (by decide))).trans h.q, h.own, h.lo, h.bx, h.X, h.Y, h.ne, h.len, h.fr.trans hf (fun g hg => .inr ?_)⟩
  · have e : g = L.gx := by simpa using hm
    have := (h.own g hg).2
    omega
  · have e : g = L.gx := by simpa using hg
    subst e
    exact ⟨cur, hc⟩
  · have e : L.gy = g := by simpa [Value.ownBlock] using hg
    subst e
    exact key hcy (fun e => h.ne e.symm)
  · have e : g = L.gx := by simpa using hg
    have := h.lo
    omega
theorem SwSt.wipeY {ys2 : List Int} (h : SwSt W L d d' ag tn fr xs ys w) (hf : Fr [L.gy] w w') (hl : ys2.length = ys.length) (hx : w'.ownsRow L.bx 3 1 (.slice (some ⟨L.gy, 0, none⟩) ys.length L.cy) ys.length (ys2.map (Value.int .i64))) : SwSt W L d d' ag tn fr xs ys2 w' := by
  obtain ⟨cur, hc⟩ := own_ty h.y
  have hB := h.xB
  have key : ∀ {t : TypeId} {cur2 : Array Value} {g : Nat}, w.heap[g]? = some (.cells cur2 t (0, 0)) → g ≠ L.gy → w'.heap[g]? = w.heap[g]? := fun {t cur2 g} hg hn => hf.block g (lt_of_heap hg) (by simpa using hn)
  have ty : ∀ {t : TypeId} {cur2 : Array Value} {g : Nat}, w.heap[g]? = some (.cells cur2 t (0, 0)) → t ≠ 3 → g ≠ L.gy := fun {t cur2 g} hg ht e => by
    rw [e, hc] at hg
    injection hg with hg
    injection hg with _ hg _
    exact ht hg.symm
  have hy := own_ty h.x
  obtain ⟨cury, hcy⟩ := hy
  refine ⟨h.ps.keep hf (fun g hg hm => ?_), h.rs.keep hf (fun g hg => .inr ?_), own_congr h.x fun g hg => ?_, by rw [hl]; exact hx, (key h.p (ty h.p (by decide))).trans h.p, (key h.q (ty h.q (by decide))).trans h.q, h.own, h.lo, h.bx, h.X, h.Y, h.ne, h.len, h.fr.trans hf (fun g hg => .inr ?_)⟩
  · have e : g = L.gy := by simpa using hm
    have := (h.own g hg).2
    omega
  · have e : g = L.gy := by simpa using hg
    subst e
    exact ⟨cur, hc⟩
  · have e : L.gx = g := by simpa [Value.ownBlock] using hg
    subst e
    exact key hcy h.ne
  · have e : g = L.gy := by simpa using hg
    have := h.lo
    omega
theorem swD_len (d : Option Ds) (sa sb : List Int) : (ksD (swD d sa sb)).length = (ksD d).length := by
  cases d with
  | none => rfl
  | some d =>
    unfold swD
    by_cases h : fitN (hasL d.ks) sa sb = 0
    · simp only [if_pos h, ksD]
      unfold swapK
      rw [List.length_map]
    · simp only [if_neg h]
/-- a list that came in, or one of the handed ones, cut to its front -/
def Arg (L : Lie) (W w : World) (v : Value) (ss : List Int) : Prop := Rd w v ss ∧ (0 < ss.length → ∀ g, v.ownBlock = some g → g < W.heap.size ∨ ((L.B ≤ g) ∧ ∃ cur, w.heap[g]? = some (.cells cur 3 (0, 0))))
theorem Arg.in_ {v : Value} {ss : List Int} (h : Rd W v ss) (hf : Fr [] W w) : Arg L W w v ss := ⟨h.idle hf, fun h0 g hg => .inl (h.blk h0 g hg)⟩
theorem SwSt.argX (h : SwSt W L d d' ag tn fr xs ys w) {ss ms : List Int} (e : xs = ss ++ ms) (hl : ss.length ≤ 17592186043904) : Arg L W w (.slice (some ⟨L.gx, 0, none⟩) ss.length L.cx) ss := by
  have hx := h.x
  have hB := h.xB
  have ht := own_ty h.x
  subst e
  refine ⟨own_front hx hl, fun _ g hg => .inr ?_⟩
  have e : L.gx = g := by simpa [Value.ownBlock] using hg
  subst e
  exact ⟨hB.1, ht⟩
theorem SwSt.argY (h : SwSt W L d d' ag tn fr xs ys w) {ss ms : List Int} (e : ys = ss ++ ms) (hl : ss.length ≤ 17592186043904) : Arg L W w (.slice (some ⟨L.gy, 0, none⟩) ss.length L.cy) ss := by
  have hx := h.y
  have hB := h.xB
  have ht := own_ty h.y
  subst e
  refine ⟨own_front hx hl, fun _ g hg => .inr ?_⟩
  have e : L.gy = g := by simpa [Value.ownBlock] using hg
  subst e
  exact ⟨hB.2, ht⟩
theorem Arg.apart {v : Value} {ss : List Int} (h : Arg L W w v ss) (hs : SwSt W L d d' ag tn fr xs ys w) : 0 < ss.length → Apart L.B w v := fun h0 g hg => by
  rcases h.2 h0 g hg with h1 | ⟨-, h1⟩
  · have := hs.lo
    exact .inl (by omega)
  · exact .inr h1
theorem sw_swap (h : SwSt W L d d' ag tn fr xs ys w) (sa sb : List Int) (va vb : Value) (ha : Arg L W w va sa) (hb : Arg L W w vb sb) (hage : ag ≤ 100000) :
    Calls Tryd.prog 32 #[.pointer L.P, va, vb] w fun e w' => e = .returned (.int .i64 (swAns d sa sb)) ∧ SwSt W L (swD d sa sb) d' (ag + swN d sa sb) tn fr xs ys w' ∧ swN d sa sb ≤ 65538 := by
  refine (p_swap h.ps sa sb va vb ha.1 hb.1 (fun h0 g hg hm => ?_) hage).mono fun e w' ⟨h1, h2, h3, h4⟩ => ⟨h1, h.prog h3 h2, h4⟩
  have := h.own g hm
  rcases ha.2 h0 g hg with h4 | ⟨h4, -⟩
  · omega
  · omega
theorem sw_rswap (h : SwSt W L d d' ag tn fr xs ys w) (sa sb : List Int) (va vb : Value) (ha : Arg L W w va sa) (hb : Arg L W w vb sb) (hs : sa.length + sb.length ≤ 1048576) (ht : tn ≤ 1000000) :
    Calls Tryd.prog 45 #[.pointer L.Q, va, vb] w fun e w' => e = .returned (.int .i64 (swAns d' sa sb)) ∧ SwSt W L d (swD d' sa sb) ag (tn + swN d' sa sb) (if swN d' sa sb = 0 then fr else none) xs ys w' :=
  (r_swap h.rs sa sb va vb ha.1 hb.1 hs (ha.apart h) (hb.apart h) ht h.len).mono fun e w' ⟨h1, h2, T, h3, h4⟩ => ⟨h1, h.doc h3 h4 h2 (by rw [swD_len]; exact h.len)⟩
theorem sw_back (h : SwSt W L d d' ag tn fr xs ys w) (hn : 0 = ag → L.n = (ksD d).length) (hage : ag ≤ 1000000000) :
    Calls Tryd.prog 46 #[.pointer L.P, .agg #[.pointer L.P, .int .i64 0, .int .i64 (L.n : Int)]] w fun e w' => e = .returned (.int .i64 (bkAns d (decide (0 = ag)))) ∧ SwSt W L d d' (ag + bkN d (decide (0 = ag))) tn fr xs ys w' :=
  (p_back h.ps 0 L.n hn hage).mono fun e w' ⟨h1, h2, h3⟩ => ⟨h1, h.prog h3 h2⟩
theorem sw_rback (h : SwSt W L d d' ag tn fr xs ys w) (hn : 0 = tn → fr = some L.bn) (ht : tn ≤ 1000000000) :
    Calls Tryd.prog 47 #[.pointer L.Q, .agg #[.pointer L.Q, .int .i64 (L.bn : Int), .int .i64 0]] w fun e w' => e = .returned (.int .i64 (bkAns d' (decide (0 = tn)))) ∧ SwSt W L d d' ag (tn + bkN d' (decide (0 = tn))) none xs ys w' :=
  (r_back h.rs 0 hn ht h.len).mono fun e w' ⟨h1, h2, T, h3, h4⟩ => ⟨h1, h.doc h3 h4 h2 h.len⟩
end
end Go.Proofs.YtdkbnnhcjaibdaaDoor
