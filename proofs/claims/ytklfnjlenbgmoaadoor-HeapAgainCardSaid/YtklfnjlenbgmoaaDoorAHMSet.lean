import Derived.Test.YtklfnjlenbgmoaaDoorAG15HTold
namespace Go.Proofs.YtklfnjlenbgmoaaDoor
open Go.RowKit
set_option linter.unusedVariables false
attribute [local go_sem ↓] Go.wp_at_zero Go.wp_at_succ
def th5 (t : Th) : List Value := [.bool t.there, .int .i64 t.cls, I t.fmt, I t.place, .slice t.p t.slots.length t.c]
theorem thCells_cons (s : Th) (S : List Th) : thCells (s :: S) = th5 s ++ thCells S := by simp [thCells, th5]
theorem th5_len (t : Th) : (th5 t).length = 5 := rfl
theorem thCells_get (S : List Th) : ∀ i, (thCells S)[i]? = (S[i / 5]?).bind fun t => (th5 t)[i % 5]? := by
  induction S with
  | nil => intro i; simp [thCells]
  | cons s S ih =>
    intro i
    rw [thCells_cons]
    by_cases h : i < 5
    · rw [List.getElem?_append_left (by rw [th5_len]; exact h), show i / 5 = 0 from by omega, show i % 5 = i from by omega]; rfl
    · rw [List.getElem?_append_right (by rw [th5_len]; omega), ih, th5_len, show i / 5 = (i - 5) / 5 + 1 from by omega, show (i - 5) % 5 = i % 5 from by omega]
      rfl
theorem thCells_set1 (S : List Th) (k j : Nat) (v : Value) (t' : Th) (hk : k < S.length) (hj : j < 5) (h5 : th5 t' = (th5 (S.getD k noTh)).set j v) : thCells (S.set k t') = (thCells S).set (k * 5 + j) v := by
  apply List.ext_getElem?
  intro i
  rw [thCells_get, List.getElem?_set, List.getElem?_set, thCells_len]
  by_cases h1 : i / 5 = k
  · rw [if_pos h1.symm, if_pos (by omega)]
    simp only [Option.bind_some]
    rw [h5, List.getElem?_set]
    by_cases h2 : j = i % 5
    · rw [if_pos h2, if_pos (by rw [th5_len]; exact hj), if_pos (by omega), if_pos (by omega)]
    · rw [if_neg h2, if_neg (by omega), thCells_get, h1, List.getD_eq_getElem?_getD, List.getElem?_eq_getElem hk]
      rfl
  · rw [if_neg (fun e => h1 e.symm), if_neg (by omega), thCells_get]
theorem getD_set (S : List Th) (k i : Nat) (t : Th) (hk : k < S.length) : (S.set k t).getD i noTh = if i = k then t else S.getD i noTh := by
  rw [List.getD_eq_getElem?_getD, List.getD_eq_getElem?_getD, List.getElem?_set]
  by_cases h : k = i
  · rw [if_pos h, if_pos h.symm, if_pos (by omega)]; rfl
  · rw [if_neg h, if_neg (fun e => h e.symm)]
theorem getD_mem (S : List Th) (k : Nat) (hk : k < S.length) : S.getD k noTh ∈ S := by
  rw [List.getD_eq_getElem?_getD, List.getElem?_eq_getElem hk]; exact List.getElem_mem hk
theorem mem_set {S : List Th} {k : Nat} {t u : Th} (h : u ∈ S.set k t) : u = t ∨ u ∈ S := by
  rcases List.mem_or_eq_of_mem_set h with h | h
  · exact .inr h
  · exact .inl h
/-- the things' block is neither the model's nor one of the slots' -/
theorem MRep.pt_ne {w : World} {m : Nat} {M : MS} {g : Nat} (h : MRep w m M) (hg : M.pt = some ⟨g, 0, none⟩) : g ≠ m ∧ g ∉ mslots M := by
  obtain ⟨c, hc⟩ := own_blk h.row g (by rw [hg]; simp [blk])
  refine ⟨fun e => ?_, fun hm => ?_⟩
  · have ht := h.top
    rw [← e, hc] at ht
    simp at ht
  · obtain ⟨t, ht, hb⟩ := List.mem_flatMap.1 hm
    obtain ⟨c2, hc2⟩ := own_blk (h.slots t ht) g hb
    rw [hc] at hc2
    simp at hc2
/-- one cell of a thing is written, its slots lie where they lay -/
theorem MRep.set1 {w : World} {m : Nat} {M : MS} {g : Nat} (h : MRep w m M) (hg : M.pt = some ⟨g, 0, none⟩) (k j : Nat) (v : Value) (t' : Th) (hk : k < M.things.length) (hj : j < 5)
    (h5 : th5 t' = (th5 (M.things.getD k noTh)).set j v) (hp : t'.p = (M.things.getD k noTh).p) (hc : t'.c = (M.things.getD k noTh).c) (hs : t'.slots = (M.things.getD k noTh).slots) :
    MRep (w.setCell ⟨g, k * 5 + j, none⟩ v) m { M with things := M.things.set k t' } := by
  obtain ⟨n1, n2⟩ := h.pt_ne hg
  have hel : ∀ i, i ≠ g → (w.setCell ⟨g, k * 5 + j, none⟩ v).heap[i]? = w.heap[i]? := fun i hi => set_else hi
  have hrow := h.row
  rw [hg] at hrow
  have hr2 := own_stored hrow (k * 5 + j) v
  rw [← thCells_set1 M.things k j v t' hk hj h5] at hr2
  refine ⟨?_, ?_, ?_, ?_⟩
  · rw [hel m (fun e => n1 e.symm)]
    have := h.top
    simpa [mcells] using this
  · show (w.setCell ⟨g, k * 5 + j, none⟩ v).ownsRow 0 119 5 (.slice M.pt (M.things.set k t').length M.ct) (M.things.set k t').length (thCells (M.things.set k t'))
    rw [List.length_set, hg]
    exact hr2
  · intro t ht
    have hold : ∃ u ∈ M.things, u.p = t.p ∧ u.c = t.c ∧ u.slots = t.slots := by
      rcases mem_set ht with rfl | h2
      · exact ⟨_, getD_mem M.things k hk, hp.symm, hc.symm, hs.symm⟩
      · exact ⟨t, h2, rfl, rfl, rfl⟩
    obtain ⟨u, hu, u1, u2, u3⟩ := hold
    have := h.slots u hu
    rw [u1, u2, u3] at this
    refine own_congr this fun b hb => hel b (fun e => n2 ?_)
    rw [← e]
    exact mslots_mem hu (by rw [u1]; exact (blk_own _ _ _ _).1 hb)
  · intro i i' hi hi' hne b hb
    simp only [List.length_set] at hi hi'
    have e : ∀ x, ((M.things.set k t').getD x noTh).p = (M.things.getD x noTh).p := fun x => by
      rw [getD_set M.things k x t' hk]
      split
      · rename_i hx; rw [hx, hp]
      · rfl
    simp only [e] at hb ⊢
    exact h.apart i i' hi hi' hne b hb
end Go.Proofs.YtklfnjlenbgmoaaDoor
