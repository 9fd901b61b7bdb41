import Derived.Test.YtalcnihagnnkaaaDoorKHInvN
import Derived.Test.YtalcnihagnnkaaaDoorKHAlive
namespace Go.Proofs.YtalcnihagnnkaaaDoor
open Go.RowKit
set_option linter.unusedVariables false
/-- the heap and the model side by side, both made since w0 -/
structure Side (w0 : World) (a m : Nat) (W : World) (l : Lay) (H : HS) (M : MS) : Prop where
  rep : Rep W a l H
  mrep : MRep W m M
  sep : ∀ g ∈ foot a l, g ∉ mfoot m M
  fr : Fr [] w0 W
  geh : ∀ b ∈ foot a l, w0.heap.size ≤ b
  gem : ∀ b ∈ mfoot m M, w0.heap.size ≤ b
theorem Side.heap {w0 W W' : World} {a m : Nat} {l l' : Lay} {H H' : HS} {M : MS} (h : Side w0 a m W l H M) (hr : Rep W' a l' H') (hx : Nx a l l' W W') : Side w0 a m W' l' H' M where
  rep := hr
  mrep := h.mrep.keep hx.1 (fun g hg hb => h.sep g hb hg)
  sep := fun g hg hb => by
    rcases hx.2 g hg with h1 | h1
    · exact h.sep g h1 hb
    · have := h.mrep.lt g hb; omega
  fr := h.fr.trans hx.1 (fun b hb => .inr (h.geh b hb))
  geh := fun b hb => by
    rcases hx.2 b hb with h1 | h1
    · exact h.geh b h1
    · exact Nat.le_trans h.fr.size h1
  gem := h.gem
theorem Side.model {w0 W W' : World} {a m : Nat} {l : Lay} {H : HS} {M M' : MS} (h : Side w0 a m W l H M) (hr : MRep W' m M') (hx : Fr (mfoot m M) W W') (hn : ∀ g ∈ mfoot m M', g ∈ mfoot m M ∨ W.heap.size ≤ g) : Side w0 a m W' l H M' where
  rep := h.rep.keep hx (fun g hg hb => h.sep g hg hb)
  mrep := hr
  sep := fun g hg hb => by
    rcases hn g hb with h1 | h1
    · exact h.sep g hg h1
    · have := h.rep.lt g hg; omega
  fr := h.fr.trans hx (fun b hb => .inr (h.gem b hb))
  geh := h.geh
  gem := fun b hb => by
    rcases hn b hb with h1 | h1
    · exact h.gem b h1
    · exact Nat.le_trans h.fr.size h1
theorem Side.idle {w0 W W' : World} {a m : Nat} {l : Lay} {H : HS} {M : MS} (h : Side w0 a m W l H M) (hx : Fr [] W W') : Side w0 a m W' l H M :=
  ⟨h.rep.keep hx (by simp), h.mrep.keep hx (by simp), h.sep, h.fr.trans hx (by simp), h.geh, h.gem⟩
theorem Side.drewN {w0 W : World} {a m : Nat} {l : Lay} {H : HS} {M : MS} (h : Side w0 a m W l H M) (n : Nat) : Side w0 a m (W.drewN n) l H M := h.idle (Fr.drewN [] _ _)
theorem Side.eqw {w0 W W' : World} {a m : Nat} {l : Lay} {H : HS} {M : MS} (h : Side w0 a m W l H M) (he : Eqw W W') : Side w0 a m W' l H M :=
  h.idle ⟨he.1, he.2.1, he.2.2.1, by rw [he.2.2.2]; exact Nat.le_refl _, fun k _ _ => by rw [he.2.2.2]⟩
end Go.Proofs.YtalcnihagnnkaaaDoor
namespace Go.Proofs.YtalcnihagnnkaaaDoor
open Go.RowKit
set_option linter.unusedVariables false
theorem th_of_mem {S : List Th} {u : Th} (hu : u ∈ S) : ∃ i, i < S.length ∧ S.getD i noTh = u := by
  obtain ⟨i, hi, hiu⟩ := List.getElem_of_mem hu
  exact ⟨i, hi, by rw [List.getD_eq_getElem?_getD, List.getElem?_eq_getElem hi, hiu]; rfl⟩
def swapI (x y i : Nat) : Nat := if i = y then x else if i = x then y else i
theorem swap_at (S : List Th) (x y : Nat) (hx : x < S.length) (hy : y < S.length) (i : Nat) : ((S.set x (S.getD y noTh)).set y (S.getD x noTh)).getD i noTh = S.getD (swapI x y i) noTh := by
  rw [getD_set _ _ _ _ (by rw [List.length_set]; exact hy), getD_set _ _ _ _ hx]
  unfold swapI
  split
  · rfl
  · split
    · rfl
    · rfl
/-- two things are exchanged -/
theorem MRep.swap {w : World} {m : Nat} {M : MS} {g : Nat} (h : MRep w m M) (hg : M.pt = some ⟨g, 0, none⟩) (x y : Nat) (hx : x < M.things.length) (hy : y < M.things.length) :
    MRep (setTh (setTh w g x (M.things.getD y noTh)) g y (M.things.getD x noTh)) m { M with things := (M.things.set x (M.things.getD y noTh)).set y (M.things.getD x noTh) } := by
  obtain ⟨n1, n2⟩ := h.pt_ne hg
  have hel : ∀ i, i ≠ g → (setTh (setTh w g x (M.things.getD y noTh)) g y (M.things.getD x noTh)).heap[i]? = w.heap[i]? := fun i hi => by rw [setTh_else hi, setTh_else hi]
  have hrow := h.row
  rw [hg] at hrow
  have hr2 := setTh_row (t := M.things.getD y noTh) hrow hx
  have hr3 := setTh_row (S := M.things.set x (M.things.getD y noTh)) (t := M.things.getD x noTh) (q := y) (by rw [List.length_set]; exact hr2) (by rw [List.length_set]; exact hy)
  have hsw : ∀ i, i < M.things.length → swapI x y i < M.things.length := fun i hi => by
    unfold swapI
    split
    · exact hx
    · split
      · exact hy
      · exact hi
  refine ⟨?_, ?_, ?_, ?_⟩
  · rw [hel m (fun e => n1 e.symm), h.top]
    simp [mcells]
  · show (setTh _ g y _).ownsRow 0 119 5 (.slice M.pt ((M.things.set x (M.things.getD y noTh)).set y (M.things.getD x noTh)).length M.ct) ((M.things.set x (M.things.getD y noTh)).set y (M.things.getD x noTh)).length _
    rw [List.length_set, hg]
    exact hr3
  · intro t ht
    obtain ⟨i, hi, hit⟩ := th_of_mem ht
    have hi2 : i < M.things.length := by simpa using hi
    have e : ((M.things.set x (M.things.getD y noTh)).set y (M.things.getD x noTh)).getD i noTh = t := hit
    rw [swap_at M.things x y hx hy i] at e
    have hm := getD_mem M.things _ (hsw i hi2)
    rw [e] at hm
    exact own_congr (h.slots t hm) fun b hb => hel b (fun e2 => n2 (e2 ▸ mslots_mem hm ((blk_own _ _ _ _).1 hb)))
  · intro i j hi hj hij b hb
    have hi2 : i < M.things.length := by simpa using hi
    have hj2 : j < M.things.length := by simpa using hj
    have hb2 : b ∈ blk (((M.things.set x (M.things.getD y noTh)).set y (M.things.getD x noTh)).getD i noTh).p := hb
    show b ∉ blk (((M.things.set x (M.things.getD y noTh)).set y (M.things.getD x noTh)).getD j noTh).p
    rw [swap_at M.things x y hx hy] at hb2 ⊢
    refine h.apart _ _ (hsw i hi2) (hsw j hj2) (fun e => ?_) b hb2
    unfold swapI at e
    split at e <;> split at e <;> (try split at e) <;> (try split at e) <;> omega
theorem mfoot_set {m : Nat} {M : MS} (k : Nat) (t : Th) (ht : ∀ b ∈ blk t.p, b ∈ mfoot m M) : ∀ g ∈ mfoot m { M with things := M.things.set k t }, g ∈ mfoot m M := by
  intro g hg
  simp only [mfoot, List.mem_cons, List.mem_append] at hg ⊢
  rcases hg with h1 | h1 | h1
  · exact .inl h1
  · exact .inr (.inl h1)
  · obtain ⟨u, hu, hb⟩ := List.mem_flatMap.1 h1
    rcases mem_set hu with rfl | h2
    · have := ht g hb
      simpa only [mfoot, List.mem_cons, List.mem_append] using this
    · exact .inr (.inr (mslots_mem h2 hb))
theorem blk_mfoot {m : Nat} {M : MS} (k : Nat) (hk : k < M.things.length) : ∀ b ∈ blk (M.things.getD k noTh).p, b ∈ mfoot m M := fun b hb => by
  simp only [mfoot, List.mem_cons, List.mem_append]
  exact .inr (.inr (mslots_mem (getD_mem M.things k hk) hb))
theorem mfoot_swap {m : Nat} {M : MS} (x y : Nat) (hx : x < M.things.length) (hy : y < M.things.length) : ∀ g ∈ mfoot m { M with things := (M.things.set x (M.things.getD y noTh)).set y (M.things.getD x noTh) }, g ∈ mfoot m M := by
  intro g hg
  simp only [mfoot, List.mem_cons, List.mem_append] at hg ⊢
  rcases hg with h1 | h1 | h1
  · exact .inl h1
  · exact .inr (.inl h1)
  · obtain ⟨u, hu, hb⟩ := List.mem_flatMap.1 h1
    right; right
    rcases mem_set hu with rfl | h2
    · exact mslots_mem (getD_mem M.things x hx) hb
    · rcases mem_set h2 with rfl | h3
      · exact mslots_mem (getD_mem M.things y hy) hb
      · exact mslots_mem h3 hb
theorem set_same {α : Type} (L : List α) (i : Nat) (v : α) (h : L[i]? = some v) : L.set i v = L := by
  apply List.ext_getElem?
  intro j
  rw [List.getElem?_set]
  by_cases e : i = j
  · subst e
    obtain ⟨hi, _⟩ := List.getElem?_eq_some_iff.1 h
    rw [if_pos rfl, if_pos hi, h]
  · rw [if_neg e]
/-- one slot of a thing is written -/
theorem MRep.slot {w : World} {m : Nat} {M : MS} {g : Nat} (h : MRep w m M) (k i : Nat) (v : Int) (hk : k < M.things.length) (hg : (M.things.getD k noTh).p = some ⟨g, 0, none⟩) (hi : i < (M.things.getD k noTh).slots.length) :
    MRep (w.setCell ⟨g, i, none⟩ (.int .i64 v)) m { M with things := M.things.set k (withSlot (M.things.getD k noTh) i v) } := by
  have hgm : g ∈ mslots M := mslots_mem (getD_mem M.things k hk) (by rw [hg]; simp [blk])
  obtain ⟨cg, hcg⟩ := own_blk (h.slots _ (getD_mem M.things k hk)) g (by rw [hg]; simp [blk])
  have hne : g ≠ m := fun e => by have := h.top; rw [← e, hcg] at this; simp at this
  have hnp : g ∉ blk M.pt := fun hb => by
    obtain ⟨c2, hc2⟩ := own_blk h.row g hb
    rw [hcg] at hc2
    simp at hc2
  have hel : ∀ i', i' ≠ g → (w.setCell ⟨g, i, none⟩ (.int .i64 v)).heap[i']? = w.heap[i']? := fun i' hi => set_else hi
  have hcells : thCells (M.things.set k (withSlot (M.things.getD k noTh) i v)) = thCells M.things := by
    have := thCells_set1 M.things k 0 (.bool (M.things.getD k noTh).there) (withSlot (M.things.getD k noTh) i v) hk (by omega) (by simp [th5, withSlot])
    rw [this]
    obtain ⟨q0, _⟩ := thCells_at M.things k hk
    exact set_same _ _ _ q0
  refine ⟨?_, ?_, ?_, ?_⟩
  · rw [hel m (fun e => hne e.symm), h.top]
    simp [mcells]
  · show (w.setCell _ _).ownsRow 0 119 5 (.slice M.pt (M.things.set k (withSlot (M.things.getD k noTh) i v)).length M.ct) (M.things.set k (withSlot (M.things.getD k noTh) i v)).length (thCells (M.things.set k (withSlot (M.things.getD k noTh) i v)))
    rw [List.length_set, hcells]
    exact own_congr h.row fun b hb => hel b (fun e => hnp (e ▸ (blk_own _ _ _ _).1 hb))
  · intro t ht
    obtain ⟨j, hj, hjt⟩ := th_of_mem ht
    have hj2 : j < M.things.length := by simpa using hj
    have e : (M.things.set k (withSlot (M.things.getD k noTh) i v)).getD j noTh = t := hjt
    rw [getD_set _ _ _ _ hk] at e
    by_cases ejk : j = k
    · rw [if_pos ejk] at e
      rw [← e]
      have hs := h.slots _ (getD_mem M.things k hk)
      rw [hg] at hs
      have hs2 := own_stored hs i (.int .i64 v)
      show (w.setCell _ _).ownsRow 0 33 1 (.slice (M.things.getD k noTh).p ((M.things.getD k noTh).slots.set i v).length (M.things.getD k noTh).c) ((M.things.getD k noTh).slots.set i v).length (((M.things.getD k noTh).slots.set i v).map (Value.int .i64))
      rw [List.length_set, hg, List.map_set]
      exact hs2
    · rw [if_neg ejk] at e
      have hm := getD_mem M.things j hj2
      have hap := h.apart j k hj2 hk ejk
      rw [e] at hm hap
      exact own_congr (h.slots t hm) fun b hb => hel b (fun e2 => by
        have := hap b ((blk_own _ _ _ _).1 hb)
        rw [hg, e2] at this
        simp [blk] at this)
  · intro i' j hi' hj hij b hb
    have hpp : ∀ q, ((M.things.set k (withSlot (M.things.getD k noTh) i v)).getD q noTh).p = (M.things.getD q noTh).p := fun q => by
      rw [getD_set _ _ _ _ hk]
      split
      · rename_i e; rw [e]; rfl
      · rfl
    have hb2 : b ∈ blk ((M.things.set k (withSlot (M.things.getD k noTh) i v)).getD i' noTh).p := hb
    show b ∉ blk ((M.things.set k (withSlot (M.things.getD k noTh) i v)).getD j noTh).p
    rw [hpp] at hb2 ⊢
    exact h.apart i' j (by simpa using hi') (by simpa using hj) hij b hb2
theorem MRep.setMark {w : World} {m : Nat} {M : MS} (h : MRep w m M) (k : Nat) : MRep (w.setCell ⟨m, 2, none⟩ (.int .i64 (k : Int))) m { M with mark := k } := by
  have hel : ∀ g, g ∈ blk M.pt ∨ g ∈ mslots M → g ≠ m := fun g hg e => by
    have ht := h.top
    rcases hg with hg | hg
    · obtain ⟨c, hc⟩ := own_blk h.row g hg
      rw [← e, hc] at ht
      simp at ht
    · obtain ⟨u, hu, hb⟩ := List.mem_flatMap.1 hg
      obtain ⟨c, hc⟩ := own_blk (h.slots u hu) g hb
      rw [← e, hc] at ht
      simp at ht
  refine ⟨?_, own_congr h.row fun g hg => set_else (hel g (.inl ((blk_own _ _ _ _).1 hg))), fun t ht => own_congr (h.slots t ht) fun g hg => set_else (hel g (.inr (mslots_mem ht ((blk_own _ _ _ _).1 hg)))), h.apart⟩
  rw [set_in h.top]
  simp [mcells, I]
theorem Inv.setMark {H : HS} {M : MS} (h : Inv H M) (n : Nat) (hn : (n : Int) ≤ 1073741824) : Inv { H with mark := n } { M with mark := n } :=
  { safe := ⟨⟨h.safe.small.words, h.safe.small.oops, h.safe.small.mem, h.safe.small.count, hn⟩, h.safe.low, h.safe.bl, h.safe.bits, h.safe.seats, h.safe.order⟩
    words := h.words, oops := h.oops, mark := rfl, len := h.len, seat0 := h.seat0, there := h.there, seat := h.seat
    is := fun k hk hb => (h.is k hk hb).same rfl (by have := (has_yes (h.is k hk hb).has).2.1; show k + 1 < H.seats.length; omega) (h.is k hk hb).room (fun _ _ _ => rfl)
    count := h.count, turn := h.turn, order := h.order, rise := h.rise, gaps := h.gaps, bit := h.bit, low := h.low, model := ⟨h.model.len, h.model.slots, h.model.place⟩, deep := h.deep, most := h.most, room := h.room, fin := h.fin, last := h.last }
end Go.Proofs.YtalcnihagnnkaaaDoor
