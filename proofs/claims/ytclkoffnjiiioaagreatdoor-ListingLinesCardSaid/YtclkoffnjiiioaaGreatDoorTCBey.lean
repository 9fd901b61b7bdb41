import Derived.Test.YtclkoffnjiiioaaGreatDoorTG00CTwin
namespace Go.Proofs.YtclkoffnjiiioaaGreatDoor
open Go.RowKit
set_option linter.unusedVariables false
set_option linter.unusedSimpArgs false
attribute [local go_sem ↓] Go.wp_at_zero Go.wp_at_succ
/-- a level of literals: its cells can be read, and what is in them was there at first -/
structure LvR (w0 w : World) (p : Option Addr) (c : Nat) (ts : List LitT) : Prop where
  at_ : 0 < ts.length → ∃ g off, p = some ⟨g, off, none⟩ ∧ g < w.heap.size ∧ ∀ i t, ts[i]? = some t → LitAt w g (off + i * 4) t
  short : ts.length ≤ 2513169434916
  txt : ∀ t ∈ ts, t.text.size ≤ 140737488355328
  kids : ∀ t ∈ ts, LitsR w0 t.p t.c t.kids
theorem LvR.idle {w0 w w' : World} {p : Option Addr} {c : Nat} {ts : List LitT} (h : LvR w0 w p c ts) (hf : Fr [] w w') : LvR w0 w' p c ts :=
  ⟨fun hp => by obtain ⟨g, off, e, hg, hc⟩ := h.at_ hp; exact ⟨g, off, e, Nat.lt_of_lt_of_le hg hf.size, fun i t ht => (hc i t ht).idle hf⟩, h.short, h.txt, h.kids⟩
theorem litCells_len (l : List LitT) : (litCells l).length = l.length * 4 := by
  induction l with
  | nil => rfl
  | cons q l ih => rw [show litCells (q :: l) = litc q ++ litCells l by simp [litCells], List.length_append, ih]; simp [litc]; omega
theorem lit_one (l : List LitT) : ∀ x ∈ litCells l, x.oneCell' = true := fun x hx => by
  obtain ⟨t, _, ht⟩ := List.mem_flatMap.1 hx
  simp only [litc, List.mem_cons, List.not_mem_nil, or_false] at ht
  rcases ht with rfl | rfl | rfl | rfl <;> rfl
/-- all of a list of literals behind an own row -/
theorem push_lits {w0 w : World} {B : Nat} {p : Option Addr} {n c : Nat} {us : List LitT} (h : w.ownsRow B 49 4 (.slice p n c) n (litCells us)) (hl : us.length = n) {q : Option Addr} {d : Nat} {ks : List LitT} (hk : LitsR w0 q d ks) (hf : Fr [] w0 w) (hn : n + ks.length ≤ 2000000) (hB : B ≤ w.heap.size) :
    ∃ p' c' w', (Builtin.append_ #[22, 22] 22 #[.slice p n c, .slice q ks.length d]).run Tryz.prog w = .ok (.slice p' (n + ks.length) c') w' ∧ w'.ownsRow B 49 4 (.slice p' (n + ks.length) c') (n + ks.length) (litCells (us ++ ks)) ∧ Fr (blk p) w w' := by
  obtain ⟨i54, ii, iz, is, ib⟩ := info_parts info54
  cases hk with
  | mk _ _ _ nil at_ short txt kids =>
  have e : litCells (us ++ ks) = litCells us ++ litCells ks := by simp [litCells]
  cases q with
  | none =>
    have h0 : ks.length = 0 := by
      rcases Nat.eq_zero_or_pos ks.length with h0 | h0
      · exact h0
      · obtain ⟨g, off, e2, _⟩ := at_ h0; cases e2
    have hs : ks = [] := List.length_eq_zero_iff.1 h0
    have hc := nil rfl
    subst hs
    subst hc
    refine ⟨p, c, w, run_append_owned_none (P := Tryz.prog) (w := w) B 22 22 49 i54 4 Tryz.underlying22 ii _ _ _ h, by rw [List.append_nil]; exact h, Fr.refl _ _⟩
  | some ad =>
    have hnews : ∀ j x, (litCells ks)[j]? = some x → w.cell? (ad.add j) = some x := fun j x hx => by
      have hj : j < (litCells ks).length := (List.getElem?_eq_some_iff.1 hx).1
      rw [litCells_len] at hj
      obtain ⟨g, off, e2, hg, hc⟩ := at_ (by omega)
      have hi : j / 4 < ks.length := by omega
      have ht := List.getElem?_eq_getElem hi
      have hl4 := (hc (j / 4) _ ht).idle hf
      have hx2 := litCells_at ks (j / 4) _ (j % 4) ht (Nat.mod_lt _ (by decide))
      rw [show j / 4 * 4 + j % 4 = j by omega, hx] at hx2
      rw [Option.some.inj e2, Addr.add_mid, show off + j = off + j / 4 * 4 + j % 4 by omega]
      have hm : j % 4 < 4 := Nat.mod_lt _ (by decide)
      generalize j % 4 = m at *
      rcases m with _ | _ | _ | _ | m
      · rw [Nat.add_zero, hl4.c0]; exact hx2.symm
      · rw [hl4.c1]; exact hx2.symm
      · rw [hl4.c2]; exact hx2.symm
      · rw [hl4.c3]; exact hx2.symm
      · omega
    obtain ⟨v', w', hr, h2, h3, _, h5⟩ := run_append_own_at (P := Tryz.prog) w B 22 22 49 i54 _ 4 56 Tryz.underlying22 ii iz is ib rfl (by decide) _ _ _ h ad ks.length d (litCells ks) (by rw [litCells_len]) hnews (lit_one ks) (by unfold maxLen; omega) (by omega) hB
    obtain ⟨p', c', rfl⟩ : ∃ p' c', v' = .slice p' (n + ks.length) c' := by
      rcases h2.2 with ⟨rfl, e0⟩ | ⟨g', cap, cur, rfl, _⟩
      · exact ⟨none, 0, by rw [e0]⟩
      · exact ⟨_, _, rfl⟩
    refine ⟨p', c', w', hr, by rw [e]; exact h2, Fr.grown h3 (fun k hk => (blk_own p n c k).1 hk)⟩
end Go.Proofs.YtclkoffnjiiioaaGreatDoor


