import Derived.Test.YtheolmnjedbjmaaGreatDoorSX5
import Derived.Test.YtheolmnjedbjmaaGreatDoorSL3
namespace Go.Proofs.YtheolmnjedbjmaaGreatDoor
open Go.RowKit
set_option linter.unusedVariables false
set_option linter.unusedSimpArgs false
attribute [local go_sem ↓] Go.wp_at_zero Go.wp_at_succ
theorem Pz.fr {W C : World} {B : Nat} {v : Value} {bs : Bs} (h : Pz W B v bs) {b : Nat} (f : Fr [b] W C) (hb : ∀ cur fz, W.heap[b]? ≠ some (.cells cur 5 fz)) (hB : B ≤ b) : Pz C B v bs := by
  rcases h with h | h
  · exact Or.inl (h.fr f hb hB)
  · obtain ⟨g, cap, cur, fz, e, hg, h2, r⟩ := h.at_
    refine Or.inr ⟨⟨g, cap, cur, fz, e, hg, ?_, r⟩, Nat.le_trans h.low f.size, h.tab.on (f.below h.low (by simp; omega))⟩
    rw [f.block g (lt_of_heap h2) (by simp; intro e; subst e; exact hb _ _ h2)]
    exact h2
/-- sizes for the document's line -/
structure Ak2 (a : AK) : Prop where
  name : a.name.size ≤ 1048576
  other : a.other.size ≤ 1048576
  text : a.text.size ≤ 1048576
  names : ∀ s ∈ a.names, s.size ≤ 1048576
  len : a.names.length ≤ 1048576
  num : -9223372036854775808 ≤ a.num ∧ a.num ≤ 9223372036854775807
  fuel : -9223372036854775808 ≤ a.fuel ∧ a.fuel ≤ 9223372036854775807
theorem Ak2.one {a : AK} (h : Ak2 a) : Ak1 a := ⟨by have := h.name; omega, by have := h.other; omega, by have := h.text; omega, fun s hs => by have := h.names s hs; omega, by have := h.len; omega, h.num, h.fuel⟩
theorem word_le (s : ByteArray) (h : s.size ≤ 1048576) : (wordB s.data.toList).length ≤ 3145800 := by
  have := esc_len s.data.toList
  have hz : s.data.toList.length = s.size := by rw [Array.length_toList]; rfl
  unfold wordB
  simp only [List.length_cons]
  omega
theorem starF_len (l : List ByteArray) (h : ∀ s ∈ l, s.size ≤ 1048576) : ∀ L : Bs, (starF L l).length ≤ L.length + 3500000 := by
  have key : ∀ (l : List ByteArray), (∀ s ∈ l, s.size ≤ 1048576) → ∀ L : Bs, (starF L l).length ≤ max L.length 3500000 := by
    intro l
    induction l with
    | nil => intro _ L; exact Nat.le_max_left _ _
    | cons s l ih =>
      intro h L
      unfold starF
      rw [List.foldl_cons]
      refine Nat.le_trans (ih (fun x hx => h x (by simp [hx])) _) ?_
      have hw := word_le s (h s (by simp))
      split
      · simp only [List.length_append, List.length_cons]
        omega
      · omega
  intro L
  have := key l h L
  omega
theorem stepL_len (a : AK) (h : Ak2 a) (x : Bs × AK) (c : UInt8) : (stepL a x c).1.length ≤ x.1.length + 4000000 := by
  have h1 := word_le _ h.name
  have h2 := word_le _ h.other
  have h3 := word_le _ h.text
  have h4 := itoa_le _ h.num
  have h5 := itoa_le _ h.fuel
  have h6 := starF_len _ h.names x.1
  unfold stepL
  repeat' split
  all_goals first | (simp only [List.length_append, List.length_cons]; omega) | omega
theorem foldL_len (a : AK) (h : Ak2 a) : ∀ (l : Bs) (x : Bs × AK), (l.foldl (stepL a) x).1.length ≤ x.1.length + l.length * 4000000 := by
  intro l
  induction l with
  | nil => intro x; simp
  | cons c l ih =>
    intro x
    rw [List.foldl_cons, List.length_cons]
    have h1 := ih (stepL a x c)
    have h2 := stepL_len a h x c
    have e : (l.length + 1) * 4000000 = l.length * 4000000 + 4000000 := by omega
    omega
/-- how the document's line stands -/
structure Lx (W w6 wr : World) (nb : Nat) (a : AK) (p : Option Addr) (c : Nat) (pg : Value) (x : Bs × AK) : Prop where
  page : Pz wr W.heap.size pg x.1
  box : ∃ p' c', wr.heap[nb]? = some (.cells (akC x.2 p' c') 40 (0, 0)) ∧ (x.2.names = [] ∨ p' = p)
  ch : Wf W.heap.size [nb] w6 wr
/-- the world ahead of the letters -/
structure Ly (W w6 : World) (nb : Nat) (a : AK) (p : Option Addr) (c : Nat) : Prop where
  bl : Bl W w6
  act : w6.heap[W.heap.size]? = some (.cells (akC a p c) 40 (0, 0))
  res : w6.heap[W.heap.size + 1]? = some (.cells (akC ⟨0, ⟨#[]⟩, ⟨#[]⟩, [], ⟨#[]⟩, 0, 0⟩ none 0) 40 (0, 0))
  nb : W.heap.size + 1 < nb
theorem Lx.act {W w6 wr : World} {nb : Nat} {a : AK} {p : Option Addr} {c : Nat} {pg : Value} {x : Bs × AK} (h : Lx W w6 wr nb a p c pg x) (h0 : Ly W w6 nb a p c) : wr.heap[W.heap.size]? = some (.cells (akC a p c) 40 (0, 0)) :=
  h.ch.block _ _ h0.act (by have := h0.nb; simp; omega) (Or.inr (n5 (by decide)))
theorem Lx.res {W w6 wr : World} {nb : Nat} {a : AK} {p : Option Addr} {c : Nat} {pg : Value} {x : Bs × AK} (h : Lx W w6 wr nb a p c pg x) (h0 : Ly W w6 nb a p c) : wr.heap[W.heap.size + 1]? = some (.cells (akC ⟨0, ⟨#[]⟩, ⟨#[]⟩, [], ⟨#[]⟩, 0, 0⟩ none 0) 40 (0, 0)) :=
  h.ch.block _ _ h0.res (by have := h0.nb; simp; omega) (Or.inr (n5 (by decide)))
theorem Lx.blW {W w6 wr : World} {nb : Nat} {a : AK} {p : Option Addr} {c : Nat} {pg : Value} {x : Bs × AK} (h : Lx W w6 wr nb a p c pg x) (h0 : Ly W w6 nb a p c) : Bl W wr :=
  Below.trans h0.bl (h.ch.below h0.bl.size (by intro b hb; have := h0.nb; simp at hb; omega))
/-- bytes more on the line, one field more -/
theorem Lx.put {W w6 wr : World} {nb : Nat} {a : AK} {p : Option Addr} {c : Nat} {pg : Value} {x : Bs × AK} (h : Lx W w6 wr nb a p c pg x) (h0 : Ly W w6 nb a p c) (news : Bs) (f : Nat) (val : Value) (n' : AK) (hn' : ∀ p' c', (akC x.2 p' c').setIfInBounds f val = akC n' p' c') (hnn : n'.names = x.2.names) (hf : f < 7) (hv : (akC a p c)[f]? = some val) (hl : x.1.length + news.length ≤ 140737488355328) (w2 : World) (hb : Bl wr w2) :
    ∃ v3 w3, (Builtin.append_ #[54, 9] 54 #[pg, .string (ba news)]).run Tryz.prog w2 = .ok v3 w3 ∧ w3.cell? ⟨W.heap.size, f, none⟩ = some val ∧ (∃ y, w3.cell? ⟨nb, f, none⟩ = some y) ∧ w3.frozen? ⟨nb, f, none⟩ = false ∧ ∃ W4, w3.setCell ⟨nb, f, none⟩ val = W4 ∧ Hid (Lx W w6 W4 nb a p c v3 (x.1 ++ news, n')) := by
  obtain ⟨v3, w3, hr, hp3, hf3⟩ := (h.page.bl hb).str news hl
  obtain ⟨p', c', hbx, hpp⟩ := h.box
  have hbx3 := hf3.hb ((hb.block _ (lt_of_heap hbx)).trans hbx) (n5 (by decide))
  have hac := h.act h0
  have hac3 := hf3.hb ((hb.block _ (lt_of_heap hac)).trans hac) (n5 (by decide))
  have fr := Fr.setCell (S := [nb]) w3 ⟨nb, f, none⟩ val (by simp)
  refine ⟨v3, w3, hr, lit_in hac3 f _ hv, ?_, frozen_in hbx3 f, _, rfl, ⟨?_, ⟨p', c', ?_, ?_⟩, ?_⟩⟩
  · have hs : f < (akC x.2 p' c').size := hf
    exact ⟨_, by rw [cell_in hbx3 f, Array.getElem?_eq_getElem hs]⟩
  · exact hp3.fr fr (fun cur fz e => by rw [hbx3] at e; cases e) (by have := h0.nb; show W.heap.size ≤ nb; omega)
  · have := set_in hbx3 f val
    rw [hn'] at this
    exact this
  · rw [hnn]; exact hpp
  · exact ((h.ch.trans (hb.wf _ _)).trans (hf3.wf _)).trans ((fr.wf W.heap.size).mono (fun b hb => Or.inl hb))
/-- bytes more on the line alone -/
theorem Lx.word {W w6 wr : World} {nb : Nat} {a : AK} {p : Option Addr} {c : Nat} {pg : Value} {x : Bs × AK} (h : Lx W w6 wr nb a p c pg x) (h0 : Ly W w6 nb a p c) (news : Bs) (hl : x.1.length + news.length ≤ 140737488355328) (w2 : World) (hb : Bl wr w2) :
    ∃ v3 w3, (Builtin.append_ #[54, 9] 54 #[pg, .string (ba news)]).run Tryz.prog w2 = .ok v3 w3 ∧ Hid (Lx W w6 w3 nb a p c v3 (x.1 ++ news, x.2)) := by
  obtain ⟨v3, w3, hr, hp3, hf3⟩ := (h.page.bl hb).str news hl
  obtain ⟨p', c', hbx, hpp⟩ := h.box
  have hbx3 := hf3.hb ((hb.block _ (lt_of_heap hbx)).trans hbx) (n5 (by decide))
  exact ⟨v3, w3, hr, hp3, ⟨p', c', hbx3, hpp⟩, (h.ch.trans (hb.wf _ _)).trans (hf3.wf _)⟩
/-- the list of names -/
theorem Lx.list {W w6 wr : World} {nb : Nat} {a : AK} {p : Option Addr} {c : Nat} {pg : Value} {x : Bs × AK} (h : Lx W w6 wr nb a p c pg x) (h0 : Ly W w6 nb a p c) :
    wr.cell? ⟨W.heap.size, 3, none⟩ = some (.slice p a.names.length c) ∧ (∃ y, wr.cell? ⟨nb, 3, none⟩ = some y) ∧ wr.frozen? ⟨nb, 3, none⟩ = false ∧ ∃ W4, wr.setCell ⟨nb, 3, none⟩ (.slice p a.names.length c) = W4 ∧ Hid (Lx W w6 W4 nb a p c pg (x.1, {x.2 with names := a.names})) := by
  obtain ⟨p', c', hbx, hpp⟩ := h.box
  have hac := h.act h0
  have fr := Fr.setCell (S := [nb]) wr ⟨nb, 3, none⟩ (.slice p a.names.length c) (by simp)
  exact ⟨lit_in hac 3 _ rfl, ⟨_, lit_in hbx 3 _ rfl⟩, frozen_in hbx 3, _, rfl, h.page.fr fr (fun cur fz e => by rw [hbx] at e; cases e) (by have := h0.nb; show W.heap.size ≤ nb; omega), ⟨p, c, set_in hbx 3 _, Or.inr rfl⟩, h.ch.trans ((fr.wf W.heap.size).mono (fun b hb => Or.inl hb))⟩
theorem blank (l : Bs) : (⟨#[32]⟩ : ByteArray) ++ ba l = ba (32 :: l) := by
  apply ByteArray.ext
  rw [ByteArray.data_append]
  simp [ba]
end Go.Proofs.YtheolmnjedbjmaaGreatDoor

