import Derived.Test.YtjeeibokdnepgaaSFill
namespace Go.Proofs.Ytjeeibokdnepgaa
open Go.RowKit Go.Maps Go.WideMaps
set_option linter.unusedVariables false
set_option linter.unusedSimpArgs false
def snap (S : List Nat) (W : World) : Nat → Obj → Prop := fun g ob => g ∈ S ∧ W.heap[g]? = some ob
theorem Sh.snapped {w0 W W' : World} {sh : Nat} {v : Bool → Option Addr × Option Addr} {c : Bool → Cont} {X : Nat → Obj → Prop} (h : Sh w0 W sh v c X) {T S' : List Nat} (hf : Fr T W W') (hT : ∀ g ∈ T, g < W.heap.size → ∃ ob, X g ob) (hT0 : ∀ g ∈ T, w0.heap.size ≤ g) (hS : ∀ g ∈ S', (∃ ob, X g ob) ∨ W.heap.size ≤ g) : Sh w0 W' sh v c (snap S' W') := by
  obtain ⟨o, h1, h2, h3⟩ := h.at_
  have hsh := lt_of_heap h1.top
  refine ⟨o, ⟨(hf.block sh hsh (fun hm => ?_)).trans h1.top, fun j t ht => (h1.ok j t ht).keep hf (fun g hg hm => ?_), h1.apart, h1.shn, h1.base, h1.fr.trans hf (fun g hg => Or.inr (hT0 g hg)), fun g ob hx => ⟨hx.2, fun e => ?_, fun j hj => ?_⟩⟩, h2, h3⟩
  · obtain ⟨ob, hx⟩ := hT sh hm hsh
    exact (h1.rest sh ob hx).2.1 rfl
  · obtain ⟨ob, hx⟩ := hT g hm ((h1.ok j t ht).lt g hg)
    exact (h1.rest g ob hx).2.2 j (by rw [ht]; exact hg)
  · subst e
    rcases hS g hx.1 with ⟨ob', hx'⟩ | h4
    · exact (h1.rest g ob' hx').2.1 rfl
    · omega
  · rcases hS g hx.1 with ⟨ob', hx'⟩ | h4
    · exact (h1.rest g ob' hx').2.2 j hj
    · have := h1.lt j g hj; omega
theorem RdS.congr {w w' : World} {v : Value} {ss : List ByteArray} (h : RdS w v ss) (hb : ∀ g, v.ownBlock = some g → w'.heap[g]? = w.heap[g]?) : RdS w' v ss := by
  obtain ⟨p, c, e, h1⟩ := h.at_
  refine ⟨⟨p, c, e, fun hp => ?_⟩, h.nil, h.short⟩
  obtain ⟨g, off, e2, h2, h3⟩ := h1 hp
  have hg := hb g (by rw [e, e2]; rfl)
  refine ⟨g, off, e2, ?_, fun i hi => (World.cell?_of_block (w := w) hg).trans (h3 i hi)⟩
  rw [Array.getElem?_eq_getElem h2] at hg
  exact lt_of_heap hg
/-- what stands in both lists of lists at a place -/
def Dat (W : World) (D : List Nat) (k : Nat) (xs ys : List Value) : Prop := ∃ n p c q d, xs[k]? = some (.slice p n c) ∧ ys[k]? = some (.slice q (n + 64) d) ∧ n ≤ 4096 ∧ RdS W (.slice p n c) (List.replicate n (mk (k : Int))) ∧ RdS W (.slice q (n + 64) d) (List.replicate (n + 64) (mk (k : Int))) ∧ (∀ g ∈ blk p ++ blk q, g ∈ D)
theorem Dat.congr {W W' : World} {D D' : List Nat} {k : Nat} {xs ys xs' ys' : List Value} (h : Dat W D k xs ys) (hb : ∀ g ∈ D, W'.heap[g]? = W.heap[g]?) (hD : ∀ g ∈ D, g ∈ D') (hx : xs'[k]? = xs[k]?) (hy : ys'[k]? = ys[k]?) : Dat W' D' k xs' ys' := by
  obtain ⟨n, p, c, q, d, h1, h2, h3, h4, h5, h6⟩ := h
  exact ⟨n, p, c, q, d, hx.trans h1, hy.trans h2, h3, h4.congr (fun g hg => hb g (h6 g (List.mem_append_left _ ((blk_own _ _ _ _).1 hg)))), h5.congr (fun g hg => hb g (h6 g (List.mem_append_right _ ((blk_own _ _ _ _).1 hg)))), fun g hg => hD g (h6 g hg)⟩
structure OL (w0 W : World) (sh : Nat) (v : Bool → Option Addr × Option Addr) (c : Bool → Cont) (D : List Nat) (xs ys : List Value) (p7 : Option Addr) (c7 : Nat) (p8 : Option Addr) (c8 : Nat) : Prop where
  sh_ : Sh w0 W sh v c (snap (blk p7 ++ blk p8 ++ D) W)
  ev : Even c
  r7 : W.ownsRow w0.heap.size 22 1 (.slice p7 xs.length c7) xs.length xs
  r8 : W.ownsRow w0.heap.size 22 1 (.slice p8 ys.length c8) ys.length ys
  len : xs.length = ys.length
  d78 : ∀ g ∈ blk p7, g ∉ blk p8
  d7 : ∀ g ∈ blk p7, g ∉ D
  d8 : ∀ g ∈ blk p8, g ∉ D
  lo : ∀ g ∈ D, w0.heap.size ≤ g ∧ g < W.heap.size
  dat : ∀ k, k < xs.length → Dat W D k xs ys
theorem OL.next {w0 W W' : World} {sh : Nat} {v v' : Bool → Option Addr × Option Addr} {c c' : Bool → Cont} {D : List Nat} {xs ys : List Value} {p7 : Option Addr} {c7 : Nat} {p8 : Option Addr} {c8 : Nat} (h : OL w0 W sh v c D xs ys p7 c7 p8 c8) (k : Sh w0 W' sh v' c' (snap (blk p7 ++ blk p8 ++ D) W)) (hE : Even c') : OL w0 W' sh v' c' D xs ys p7 c7 p8 c8 := by
  have h7 : ∀ g ∈ blk p7, g < W.heap.size := fun g hg => (own_lt h.r7 g ((blk_own _ _ _ _).2 hg)).2
  have h8 : ∀ g ∈ blk p8, g < W.heap.size := fun g hg => (own_lt h.r8 g ((blk_own _ _ _ _).2 hg)).2
  have hb : ∀ g ∈ blk p7 ++ blk p8 ++ D, W'.heap[g]? = W.heap[g]? := fun g hg => by
    have hl : g < W.heap.size := by
      rcases List.mem_append.1 hg with h1 | h1
      · rcases List.mem_append.1 h1 with h2 | h2
        · exact h7 g h2
        · exact h8 g h2
      · exact (h.lo g h1).2
    have := k.at (g := g) (ob := W.heap[g]) ⟨hg, Array.getElem?_eq_getElem hl⟩
    rw [this, Array.getElem?_eq_getElem hl]
  have hlt : ∀ g ∈ D, g < W'.heap.size := fun g hg => by
    have h1 := hb g (List.mem_append_right _ hg)
    rw [Array.getElem?_eq_getElem (h.lo g hg).2] at h1
    exact lt_of_heap h1
  refine ⟨k.drop (fun g ob hx => ⟨hx.1, (hb g hx.1).symm.trans hx.2⟩), hE, own_congr h.r7 (fun g hg => hb g (by simp [(blk_own _ _ _ _).1 hg])), own_congr h.r8 (fun g hg => hb g (by simp [(blk_own _ _ _ _).1 hg])), h.len, h.d78, h.d7, h.d8, fun g hg => ⟨(h.lo g hg).1, hlt g hg⟩, fun i hi => (h.dat i hi).congr (fun g hg => hb g (by simp [hg])) (fun g hg => hg) rfl rfl⟩
theorem OL.idle {w0 W W' : World} {sh : Nat} {v : Bool → Option Addr × Option Addr} {c : Bool → Cont} {D : List Nat} {xs ys : List Value} {p7 : Option Addr} {c7 : Nat} {p8 : Option Addr} {c8 : Nat} (h : OL w0 W sh v c D xs ys p7 c7 p8 c8) (hf : Fr [] W W') : OL w0 W' sh v c D xs ys p7 c7 p8 c8 := h.next (h.sh_.idle hf) h.ev
/-- on the way from Wb: the two lists of lists, and new blocks E that are looked after -/
structure ST (w0 Wb W : World) (o7 o8 : Option Addr) (xs ys : List Value) (p7 : Option Addr) (c7 : Nat) (p8 : Option Addr) (c8 : Nat) (E : List Nat) : Prop where
  fr : Fr (blk o7 ++ blk o8) Wb W
  r7 : W.ownsRow w0.heap.size 22 1 (.slice p7 xs.length c7) xs.length xs
  r8 : W.ownsRow w0.heap.size 22 1 (.slice p8 ys.length c8) ys.length ys
  n7 : ∀ g ∈ blk p7, g ∈ blk o7 ∨ Wb.heap.size ≤ g
  n8 : ∀ g ∈ blk p8, g ∈ blk o8 ∨ Wb.heap.size ≤ g
  d78 : ∀ g ∈ blk p7, g ∉ blk p8
  e7 : ∀ g ∈ blk p7, g ∉ E
  e8 : ∀ g ∈ blk p8, g ∉ E
  eE : ∀ g ∈ E, Wb.heap.size ≤ g ∧ g < W.heap.size
  o7l : ∀ g ∈ blk o7 ++ blk o8, g < Wb.heap.size
  lo : w0.heap.size ≤ Wb.heap.size
section
variable {w0 Wb W W' : World} {o7 o8 : Option Addr} {xs ys : List Value} {p7 p8 : Option Addr} {c7 c8 : Nat} {E : List Nat}
theorem ST.l7 (h : ST w0 Wb W o7 o8 xs ys p7 c7 p8 c8 E) : ∀ g ∈ blk p7, g < W.heap.size := fun g hg => (own_lt h.r7 g ((blk_own _ _ _ _).2 hg)).2
theorem ST.l8 (h : ST w0 Wb W o7 o8 xs ys p7 c7 p8 c8 E) : ∀ g ∈ blk p8, g < W.heap.size := fun g hg => (own_lt h.r8 g ((blk_own _ _ _ _).2 hg)).2
theorem ST.idle (h : ST w0 Wb W o7 o8 xs ys p7 c7 p8 c8 E) (hf : Fr [] W W') : ST w0 Wb W' o7 o8 xs ys p7 c7 p8 c8 E :=
  ⟨h.fr.trans hf (by simp), own_congr h.r7 (fun g hg => hf.block g (own_lt h.r7 g hg).2 (by simp)), own_congr h.r8 (fun g hg => hf.block g (own_lt h.r8 g hg).2 (by simp)), h.n7, h.n8, h.d78, h.e7, h.e8, fun g hg => ⟨(h.eE g hg).1, Nat.lt_of_lt_of_le (h.eE g hg).2 hf.size⟩, h.o7l, h.lo⟩
theorem ST.more (h : ST w0 Wb W o7 o8 xs ys p7 c7 p8 c8 E) (hf : Fr [] W W') (F : List Nat) (hF : ∀ g ∈ F, W.heap.size ≤ g ∧ g < W'.heap.size) : ST w0 Wb W' o7 o8 xs ys p7 c7 p8 c8 (E ++ F) := by
  have k := h.idle hf
  refine ⟨k.fr, k.r7, k.r8, k.n7, k.n8, k.d78, fun g hg hm => ?_, fun g hg hm => ?_, fun g hg => ?_, k.o7l, k.lo⟩
  · rcases List.mem_append.1 hm with h1 | h1
    · exact h.e7 g hg h1
    · have := h.l7 g hg; have := (hF g h1).1; omega
  · rcases List.mem_append.1 hm with h1 | h1
    · exact h.e8 g hg h1
    · have := h.l8 g hg; have := (hF g h1).1; omega
  · rcases List.mem_append.1 hg with h1 | h1
    · exact k.eE g h1
    · exact ⟨Nat.le_trans h.fr.size (hF g h1).1, (hF g h1).2⟩
theorem ST.push7 (h : ST w0 Wb W o7 o8 xs ys p7 c7 p8 c8 E) (x : Value) (hx : x.oneCell' = true) (hb : xs.length + 1 ≤ 8796093022208) :
    ∃ p' c' W', (Builtin.append_ #[63, 63] 63 #[.slice p7 xs.length c7, .slice (some ⟨W.heap.size, 0, none⟩) 1 1]).run Try.prog (W.alloc (.cells #[x] 22)) = .ok (.slice p' (xs.length + 1) c') W' ∧ ST w0 Wb W' o7 o8 (xs ++ [x]) ys p' c' p8 c8 E ∧ (∀ g ∈ E, W'.heap[g]? = W.heap[g]?) := by
  obtain ⟨p', c', W', r1, r2, r3⟩ := push_list W w0.heap.size p7 c7 xs x h.r7 hx hb (Nat.le_trans h.lo h.fr.size)
  have hWW : W.heap.size ≤ W'.heap.size := by rcases r3 with ⟨_, _, f⟩ | ⟨f, _⟩ <;> exact f.size
  have f5 : Fr (blk p7) W W' := by
    rcases r3 with ⟨_, _, f⟩ | ⟨f, _⟩
    · exact f
    · exact f.mono (by simp)
  have n5 : ∀ g ∈ blk p', g ∈ blk p7 ∨ W.heap.size ≤ g := fun g hg => by
    rcases r3 with ⟨e, _, _⟩ | ⟨_, f⟩
    · rw [e] at hg; exact Or.inl hg
    · exact Or.inr (f g hg)
  refine ⟨p', c', W', r1, ⟨h.fr.trans f5 (fun g hg => ?_), r2, own_congr h.r8 (fun g hg => f5.block g (own_lt h.r8 g hg).2 (fun hm => h.d78 g hm ((blk_own _ _ _ _).1 hg))), fun g hg => ?_, h.n8, fun g hg hm => ?_, fun g hg hm => ?_, h.e8, fun g hg => ⟨(h.eE g hg).1, Nat.lt_of_lt_of_le (h.eE g hg).2 hWW⟩, h.o7l, h.lo⟩, fun g hg => f5.block g (h.eE g hg).2 (fun hm => h.e7 g hm hg)⟩
  · rcases h.n7 g hg with h1 | h1
    · exact Or.inl (List.mem_append_left _ h1)
    · exact Or.inr h1
  · rcases n5 g hg with h1 | h1
    · exact h.n7 g h1
    · exact Or.inr (Nat.le_trans h.fr.size h1)
  · rcases n5 g hg with h1 | h1
    · exact h.d78 g h1 hm
    · have := h.l8 g hm; omega
  · rcases n5 g hg with h1 | h1
    · exact h.e7 g h1 hm
    · have := (h.eE g hm).2; omega
theorem ST.push8 (h : ST w0 Wb W o7 o8 xs ys p7 c7 p8 c8 E) (x : Value) (hx : x.oneCell' = true) (hb : ys.length + 1 ≤ 8796093022208) :
    ∃ p' c' W', (Builtin.append_ #[63, 63] 63 #[.slice p8 ys.length c8, .slice (some ⟨W.heap.size, 0, none⟩) 1 1]).run Try.prog (W.alloc (.cells #[x] 22)) = .ok (.slice p' (ys.length + 1) c') W' ∧ ST w0 Wb W' o7 o8 xs (ys ++ [x]) p7 c7 p' c' E ∧ (∀ g ∈ E, W'.heap[g]? = W.heap[g]?) := by
  obtain ⟨p', c', W', r1, r2, r3⟩ := push_list W w0.heap.size p8 c8 ys x h.r8 hx hb (Nat.le_trans h.lo h.fr.size)
  have hWW : W.heap.size ≤ W'.heap.size := by rcases r3 with ⟨_, _, f⟩ | ⟨f, _⟩ <;> exact f.size
  have f5 : Fr (blk p8) W W' := by
    rcases r3 with ⟨_, _, f⟩ | ⟨f, _⟩
    · exact f
    · exact f.mono (by simp)
  have n5 : ∀ g ∈ blk p', g ∈ blk p8 ∨ W.heap.size ≤ g := fun g hg => by
    rcases r3 with ⟨e, _, _⟩ | ⟨_, f⟩
    · rw [e] at hg; exact Or.inl hg
    · exact Or.inr (f g hg)
  refine ⟨p', c', W', r1, ⟨h.fr.trans f5 (fun g hg => ?_), own_congr h.r7 (fun g hg => f5.block g (own_lt h.r7 g hg).2 (fun hm => h.d78 g ((blk_own _ _ _ _).1 hg) hm)), r2, h.n7, fun g hg => ?_, fun g hg hm => ?_, h.e7, fun g hg hm => ?_, fun g hg => ⟨(h.eE g hg).1, Nat.lt_of_lt_of_le (h.eE g hg).2 hWW⟩, h.o7l, h.lo⟩, fun g hg => f5.block g (h.eE g hg).2 (fun hm => h.e8 g hm hg)⟩
  · rcases h.n8 g hg with h1 | h1
    · exact Or.inl (List.mem_append_right _ h1)
    · exact Or.inr h1
  · rcases n5 g hg with h1 | h1
    · exact h.n8 g h1
    · exact Or.inr (Nat.le_trans h.fr.size h1)
  · rcases n5 g hm with h1 | h1
    · exact h.d78 g hg h1
    · have := h.l7 g hg; omega
  · rcases n5 g hg with h1 | h1
    · exact h.e8 g h1 hm
    · have := (h.eE g hm).2; omega
/-- a list of E is written full -/
theorem ST.filled (h : ST w0 Wb W o7 o8 xs ys p7 c7 p8 c8 E) {base : Nat} {p : Option Addr} {n c : Nat} {m : ByteArray} {q : Option Addr} {d j : Nat} (k : Fl W W' base p n c m q d j) (hp : ∀ g ∈ blk p, g ∈ E) :
    ST w0 Wb W' o7 o8 xs ys p7 c7 p8 c8 (E ++ blk q) ∧ (∀ g ∈ E, g ∉ blk p → W'.heap[g]? = W.heap[g]?) := by
  have hq : ∀ g ∈ blk q, g < W'.heap.size := fun g hg => (own_lt k.row g ((blk_own _ _ _ _).2 hg)).2
  refine ⟨⟨h.fr.trans k.fr (fun g hg => Or.inr (h.eE g (hp g hg)).1), own_congr h.r7 (fun g hg => k.fr.block g (own_lt h.r7 g hg).2 (fun hm => h.e7 g ((blk_own _ _ _ _).1 hg) (hp g hm))), own_congr h.r8 (fun g hg => k.fr.block g (own_lt h.r8 g hg).2 (fun hm => h.e8 g ((blk_own _ _ _ _).1 hg) (hp g hm))), h.n7, h.n8, h.d78, fun g hg hm => ?_, fun g hg hm => ?_, fun g hg => ?_, h.o7l, h.lo⟩, fun g hg hn => k.fr.block g (h.eE g hg).2 hn⟩
  · rcases List.mem_append.1 hm with h1 | h1
    · exact h.e7 g hg h1
    · rcases k.new g h1 with h2 | h2
      · exact h.e7 g hg (hp g h2)
      · have := h.l7 g hg; omega
  · rcases List.mem_append.1 hm with h1 | h1
    · exact h.e8 g hg h1
    · rcases k.new g h1 with h2 | h2
      · exact h.e8 g hg (hp g h2)
      · have := h.l8 g hg; omega
  · rcases List.mem_append.1 hg with h1 | h1
    · exact ⟨(h.eE g h1).1, Nat.lt_of_lt_of_le (h.eE g h1).2 k.fr.size⟩
    · refine ⟨?_, hq g h1⟩
      rcases k.new g h1 with h2 | h2
      · exact (h.eE g (hp g h2)).1
      · exact Nat.le_trans h.fr.size h2
end
theorem OL.start {w0 W : World} {sh : Nat} {v : Bool → Option Addr × Option Addr} {c : Bool → Cont} {D : List Nat} {xs ys : List Value} {p7 : Option Addr} {c7 : Nat} {p8 : Option Addr} {c8 : Nat} (h : OL w0 W sh v c D xs ys p7 c7 p8 c8) : ST w0 W W p7 p8 xs ys p7 c7 p8 c8 [] :=
  ⟨Fr.refl _ _, h.r7, h.r8, fun g hg => Or.inl hg, fun g hg => Or.inl hg, h.d78, by simp, by simp, by simp, fun g hg => by
    rcases List.mem_append.1 hg with h1 | h1
    · exact (own_lt h.r7 g ((blk_own _ _ _ _).2 h1)).2
    · exact (own_lt h.r8 g ((blk_own _ _ _ _).2 h1)).2, h.sh_.fr.size⟩
/-- two more of each -/
theorem OL.two {w0 Wb W : World} {sh : Nat} {v : Bool → Option Addr × Option Addr} {c : Bool → Cont} {D : List Nat} {xs ys : List Value} {o7 : Option Addr} {c7 : Nat} {o8 : Option Addr} {c8 : Nat} {p7 p8 : Option Addr} {d7 d8 : Nat} {x1 x2 y1 y2 : Value} {E : List Nat} (h : OL w0 Wb sh v c D xs ys o7 c7 o8 c8) (k : ST w0 Wb W o7 o8 (xs ++ [x1] ++ [x2]) (ys ++ [y1] ++ [y2]) p7 d7 p8 d8 E)
    (h1 : Dat W E xs.length (xs ++ [x1] ++ [x2]) (ys ++ [y1] ++ [y2])) (h2 : Dat W E (xs.length + 1) (xs ++ [x1] ++ [x2]) (ys ++ [y1] ++ [y2])) : OL w0 W sh v c (D ++ E) (xs ++ [x1] ++ [x2]) (ys ++ [y1] ++ [y2]) p7 d7 p8 d8 := by
  have hoD : ∀ g ∈ blk o7 ++ blk o8, g ∉ D := fun g hg => by
    rcases List.mem_append.1 hg with q | q
    · exact h.d7 g q
    · exact h.d8 g q
  have hDb : ∀ g ∈ D, W.heap[g]? = Wb.heap[g]? := fun g hg => k.fr.block g (h.lo g hg).2 (fun hm => hoD g hm hg)
  refine ⟨h.sh_.snapped k.fr (fun g hg hl => ?_) (fun g hg => ?_) (fun g hg => ?_), h.ev, k.r7, k.r8, by simp [h.len], k.d78, fun g hg hm => ?_, fun g hg hm => ?_, fun g hg => ?_, fun i hi => ?_⟩
  · exact ⟨_, List.mem_append_left _ hg, Array.getElem?_eq_getElem hl⟩
  · rcases List.mem_append.1 hg with q | q
    · exact (own_lt h.r7 g ((blk_own _ _ _ _).2 q)).1
    · exact (own_lt h.r8 g ((blk_own _ _ _ _).2 q)).1
  · rcases List.mem_append.1 hg with q | q
    · rcases List.mem_append.1 q with q2 | q2
      · rcases k.n7 g q2 with q3 | q3
        · exact Or.inl ⟨_, by simp [q3], Array.getElem?_eq_getElem (k.o7l g (by simp [q3]))⟩
        · exact Or.inr q3
      · rcases k.n8 g q2 with q3 | q3
        · exact Or.inl ⟨_, by simp [q3], Array.getElem?_eq_getElem (k.o7l g (by simp [q3]))⟩
        · exact Or.inr q3
    · rcases List.mem_append.1 q with q2 | q2
      · exact Or.inl ⟨_, by simp [q2], Array.getElem?_eq_getElem (h.lo g q2).2⟩
      · exact Or.inr (k.eE g q2).1
  · rcases List.mem_append.1 hm with q | q
    · rcases k.n7 g hg with q3 | q3
      · exact h.d7 g q3 q
      · have := (h.lo g q).2; omega
    · exact k.e7 g hg q
  · rcases List.mem_append.1 hm with q | q
    · rcases k.n8 g hg with q3 | q3
      · exact h.d8 g q3 q
      · have := (h.lo g q).2; omega
    · exact k.e8 g hg q
  · rcases List.mem_append.1 hg with q | q
    · exact ⟨(h.lo g q).1, Nat.lt_of_lt_of_le (h.lo g q).2 k.fr.size⟩
    · exact ⟨Nat.le_trans k.lo (k.eE g q).1, (k.eE g q).2⟩
  · rcases Nat.lt_or_ge i xs.length with q | q
    · have hy := h.len
      exact (h.dat i q).congr hDb (fun g hg => List.mem_append_left _ hg) (by rw [List.append_assoc, List.getElem?_append_left q]) (by rw [List.append_assoc, List.getElem?_append_left (by omega)])
    · have hi2 : i = xs.length ∨ i = xs.length + 1 := by simp at hi; omega
      rcases hi2 with rfl | rfl
      · exact h1.congr (fun _ _ => rfl) (fun g hg => List.mem_append_right _ hg) rfl rfl
      · exact h2.congr (fun _ _ => rfl) (fun g hg => List.mem_append_right _ hg) rfl rfl
end Go.Proofs.Ytjeeibokdnepgaa
