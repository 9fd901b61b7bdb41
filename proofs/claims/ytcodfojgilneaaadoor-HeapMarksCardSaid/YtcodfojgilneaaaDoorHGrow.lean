import Derived.Test.YtcodfojgilneaaaDoorHMem
namespace Go.Proofs.YtcodfojgilneaaaDoor
open Go.RowKit
set_option linter.unusedVariables false
/-- one more in the order -/
theorem grow_order {w W w1 : World} {a : Nat} {l : Lay} {H : HS} {g cap oop B : Nat} (h : Rep w a l H) (hW : Fr [] w W) (hB : w.heap.size ≤ B) (hown : w1.ownsRow 0 3 1 (.slice (some ⟨g, 0, none⟩) (H.order.length + 1) cap) (H.order.length + 1) (H.order.map I ++ [.int .i64 (oop : Int)]))
    (hg : W.grownBy w1 (Value.ownBlock (.slice l.po H.order.length l.co))) (hat : Value.ownBlock (.slice l.po H.order.length l.co) = some g ∨ g = B) (w2 : World) (he : Eqw (w1.setCell ⟨a, 6, none⟩ (.slice (some ⟨g, 0, none⟩) (H.order.length + 1) cap)) w2) :
    Rep w2 a { l with po := some ⟨g, 0, none⟩, co := cap } { H with order := H.order ++ [oop] } ∧ Nx a l { l with po := some ⟨g, 0, none⟩, co := cap } w w2 := by
  have hblk : ∀ k, k < w.heap.size → k ∉ blk l.po → w1.heap[k]? = w.heap[k]? := fun k hk hn => by
    rw [hg.block k (Nat.lt_of_lt_of_le hk hW.size) (fun e => hn ((blk_own _ _ _ _).1 e.symm))]
    exact hW.block k hk (by simp)
  have hf : ∀ k, k = a ∨ k ∈ blk l.pm ∨ k ∈ blk l.ps ∨ k ∈ blk l.pb → w1.heap[k]? = w.heap[k]? := fun k hk => by
    have hlt : k < w.heap.size := h.lt k (by simp only [foot, Lay.blocks, List.mem_cons, List.mem_append]; rcases hk with h1 | h1 | h1 | h1 <;> simp [h1])
    refine hblk k hlt (fun hb => ?_)
    have hp := (h.apart k).2.2.1 hb
    rcases hk with h1 | h1 | h1 | h1
    · exact hp.1 h1
    · exact hp.2.1 h1
    · exact hp.2.2.1 h1
    · exact hp.2.2.2 h1
  refine ⟨?_, Nx.eqw ⟨?_, ?_⟩ he⟩
  · have := h.putOrder (po := some ⟨g, 0, none⟩) (co := cap) (os := H.order ++ [oop]) hf (by simpa [I] using hown)
    simp only [List.length_append, List.length_cons, List.length_nil, Nat.zero_add] at this
    exact this.eqw he
  · refine Fr.trans (S := foot a l) (S' := foot a l) (w' := w1) ⟨hg.os.trans hW.os, hg.tape.trans hW.tape, hg.output.trans hW.output, Nat.le_trans hW.size hg.size, fun k hk hn => hblk k hk (fun hb => hn (by simp [foot, Lay.blocks, hb]))⟩ (Fr.setCell _ _ _ (by simp [foot])) (fun b hb => .inl hb)
  · intro b hb
    simp only [foot, Lay.blocks, List.mem_cons, List.mem_append, blk_some] at hb ⊢
    rcases hb with h1 | ((h1 | h1) | h1) | h1
    · exact .inl (.inl h1)
    · exact .inl (.inr (.inl (.inl (.inl h1))))
    · exact .inl (.inr (.inl (.inl (.inr h1))))
    · simp at h1
      subst h1
      rcases hat with h2 | h2
      · exact .inl (.inr (.inl (.inr ((blk_own _ _ _ _).1 h2))))
      · right; omega
    · exact .inl (.inr (.inr h1))
theorem seatCells_snoc (S : List (Nat × Nat × Nat)) (s : Nat × Nat × Nat) : seatCells (S ++ [s]) = seatCells S ++ [I s.1, I s.2.1, I s.2.2] := by simp [seatCells]
theorem seatCells_len (S : List (Nat × Nat × Nat)) : (seatCells S).length = S.length * 3 := by
  induction S with
  | nil => rfl
  | cons s S ih => simp only [seatCells, List.flatMap_cons, List.length_append, List.length_cons, List.length_nil] at ih ⊢; omega
/-- one more seat -/
theorem grow_seats {w W w1 : World} {a : Nat} {l : Lay} {H : HS} {g cap B : Nat} (h : Rep w a l H) (hW : Fr [] w W) (hB : w.heap.size ≤ B) (hown : w1.ownsRow 0 103 3 (.slice (some ⟨g, 0, none⟩) (H.seats.length + 1) cap) (H.seats.length + 1) (seatCells H.seats ++ [.int .i64 0, .int .i64 0, .int .i64 0]))
    (hg : W.grownBy w1 (Value.ownBlock (.slice l.ps H.seats.length l.cs))) (hat : Value.ownBlock (.slice l.ps H.seats.length l.cs) = some g ∨ g = B) (w2 : World) (he : Eqw (w1.setCell ⟨a, 5, none⟩ (.slice (some ⟨g, 0, none⟩) (H.seats.length + 1) cap)) w2) :
    Rep w2 a { l with ps := some ⟨g, 0, none⟩, cs := cap } { H with seats := H.seats ++ [(0, 0, 0)] } ∧ Nx a l { l with ps := some ⟨g, 0, none⟩, cs := cap } w w2 := by
  have hblk : ∀ k, k < w.heap.size → k ∉ blk l.ps → w1.heap[k]? = w.heap[k]? := fun k hk hn => by
    rw [hg.block k (Nat.lt_of_lt_of_le hk hW.size) (fun e => hn ((blk_own _ _ _ _).1 e.symm))]
    exact hW.block k hk (by simp)
  have hf : ∀ k, k = a ∨ k ∈ blk l.pm ∨ k ∈ blk l.po ∨ k ∈ blk l.pb → w1.heap[k]? = w.heap[k]? := fun k hk => by
    have hlt : k < w.heap.size := h.lt k (by simp only [foot, Lay.blocks, List.mem_cons, List.mem_append]; rcases hk with h1 | h1 | h1 | h1 <;> simp [h1])
    refine hblk k hlt (fun hb => ?_)
    have hp := (h.apart k).2.1 hb
    rcases hk with h1 | h1 | h1 | h1
    · exact hp.1 h1
    · exact hp.2.1 h1
    · exact hp.2.2.1 h1
    · exact hp.2.2.2 h1
  refine ⟨?_, Nx.eqw ⟨?_, ?_⟩ he⟩
  · have := h.putSeats (ps := some ⟨g, 0, none⟩) (cs := cap) (ss := H.seats ++ [(0, 0, 0)]) hf (by rw [seatCells_snoc]; simpa [I] using hown)
    simp only [List.length_append, List.length_cons, List.length_nil, Nat.zero_add] at this
    exact this.eqw he
  · refine Fr.trans (S := foot a l) (S' := foot a l) (w' := w1) ⟨hg.os.trans hW.os, hg.tape.trans hW.tape, hg.output.trans hW.output, Nat.le_trans hW.size hg.size, fun k hk hn => hblk k hk (fun hb => hn (by simp [foot, Lay.blocks, hb]))⟩ (Fr.setCell _ _ _ (by simp [foot])) (fun b hb => .inl hb)
  · intro b hb
    simp only [foot, Lay.blocks, List.mem_cons, List.mem_append, blk_some] at hb ⊢
    rcases hb with h1 | ((h1 | h1) | h1) | h1
    · exact .inl (.inl h1)
    · exact .inl (.inr (.inl (.inl (.inl h1))))
    · simp at h1
      subst h1
      rcases hat with h2 | h2
      · exact .inl (.inr (.inl (.inl (.inr ((blk_own _ _ _ _).1 h2)))))
      · right; omega
    · exact .inl (.inr (.inl (.inr h1)))
    · exact .inl (.inr (.inr h1))
theorem seatCells_at (S : List (Nat × Nat × Nat)) : ∀ k, k < S.length → (seatCells S)[k * 3]? = some (I (S.getD k (0, 0, 0)).1) ∧ (seatCells S)[k * 3 + 1]? = some (I (S.getD k (0, 0, 0)).2.1) ∧ (seatCells S)[k * 3 + 2]? = some (I (S.getD k (0, 0, 0)).2.2) := by
  induction S with
  | nil => intro k hk; simp at hk
  | cons s S ih =>
    intro k hk
    cases k with
    | zero => simp [seatCells]
    | succ k =>
      have := ih k (by simpa using hk)
      have e : seatCells (s :: S) = [I s.1, I s.2.1, I s.2.2] ++ seatCells S := by simp [seatCells]
      rw [e, show (k + 1) * 3 = 3 + k * 3 from by omega]
      refine ⟨?_, ?_, ?_⟩
      · rw [List.getElem?_append_right (by simp)]; simpa using this.1
      · rw [List.getElem?_append_right (by simp; omega), show 3 + k * 3 + 1 - [I s.1, I s.2.1, I s.2.2].length = k * 3 + 1 from by simp; omega]; simpa using this.2.1
      · rw [List.getElem?_append_right (by simp; omega), show 3 + k * 3 + 2 - [I s.1, I s.2.1, I s.2.2].length = k * 3 + 2 from by simp; omega]; simpa using this.2.2
theorem seatCells_set (S : List (Nat × Nat × Nat)) (s : Nat × Nat × Nat) : ∀ k, k < S.length → seatCells (S.set k s) = (((seatCells S).set (k * 3) (I s.1)).set (k * 3 + 1) (I s.2.1)).set (k * 3 + 2) (I s.2.2) := by
  induction S with
  | nil => intro k hk; simp at hk
  | cons t S ih =>
    intro k hk
    have e : ∀ x T, seatCells (x :: T) = [I x.1, I x.2.1, I x.2.2] ++ seatCells T := fun x T => by simp [seatCells]
    cases k with
    | zero => rw [List.set_cons_zero, e, e]; rfl
    | succ k =>
      rw [List.set_cons_succ, e, e, ih k (by simpa using hk), show (k + 1) * 3 = 3 + k * 3 from by omega]
      rw [List.set_append_right _ _ (by simp), List.set_append_right _ _ (by simp; omega), List.set_append_right _ _ (by simp; omega)]
      congr 1
      rw [show 3 + k * 3 - [I t.1, I t.2.1, I t.2.2].length = k * 3 from by simp, show 3 + k * 3 + 1 - [I t.1, I t.2.1, I t.2.2].length = k * 3 + 1 from by simp; omega, show 3 + k * 3 + 2 - [I t.1, I t.2.1, I t.2.2].length = k * 3 + 2 from by simp; omega]
/-- the seats' block -/
theorem Rep.seatAt {w : World} {a : Nat} {l : Lay} {H : HS} (h : Rep w a l H) (k : Nat) (hk : k < H.seats.length) :
    ∃ g, l.ps = some ⟨g, 0, none⟩ ∧ (∀ k, k < H.seats.length → w.cell? ⟨g, k * 3, none⟩ = some (I (H.seats.getD k (0, 0, 0)).1) ∧ w.cell? ⟨g, k * 3 + 1, none⟩ = some (I (H.seats.getD k (0, 0, 0)).2.1) ∧ w.cell? ⟨g, k * 3 + 2, none⟩ = some (I (H.seats.getD k (0, 0, 0)).2.2)) ∧ (∀ i, w.frozen? ⟨g, i, none⟩ = false) ∧ g ≠ a ∧ g < w.heap.size := by
  have hs := h.seats
  rcases hs.2 with ⟨h2, h3⟩ | ⟨g', cap, cur, h2, h3, h4, h5, h6, h7, h8⟩
  · omega
  · have hform := hs.form (by omega)
    obtain ⟨g, c, hv, _, hgl⟩ := hform
    injection hv with hv1 hv2 hv3
    have hg : l.ps = some ⟨g, 0, none⟩ := hv1
    have hcell : ∀ j, j < H.seats.length * 3 → w.cell? ⟨g, j, none⟩ = (seatCells H.seats)[j]? := by
      intro j hj
      have hs' := hs
      rw [hg] at hs'
      exact hs'.cellAt j hj
    refine ⟨g, hg, fun k hk => ?_, fun i => ?_, h.top_ne g (by simp [Lay.blocks, blk, hg]), hgl⟩
    · have := seatCells_at H.seats k hk
      exact ⟨(hcell _ (by omega)).trans this.1, (hcell _ (by omega)).trans this.2.1, (hcell _ (by omega)).trans this.2.2⟩
    · have hs' := hs
      rw [hg] at hs'
      exact hs'.frozenAt i
/-- a seat is written -/
theorem Rep.setSeat {w : World} {a : Nat} {l : Lay} {H : HS} {g : Nat} (h : Rep w a l H) (hg : l.ps = some ⟨g, 0, none⟩) (k : Nat) (hk : k < H.seats.length) (s : Nat × Nat × Nat) (w2 : World) (he : Eqw (((w.setCell ⟨g, k * 3, none⟩ (I s.1)).setCell ⟨g, k * 3 + 1, none⟩ (I s.2.1)).setCell ⟨g, k * 3 + 2, none⟩ (I s.2.2)) w2) :
    Rep w2 a l { H with seats := H.seats.set k s } ∧ Nx a l l w w2 := by
  have hgb : g ∈ blk l.ps := by rw [hg]; simp [blk]
  have hap := (h.apart g).2.1 hgb
  have hb := h.seats
  rw [hg] at hb
  have hb1 := own_stored (own_stored (own_stored hb (k * 3) (I s.1)) (k * 3 + 1) (I s.2.1)) (k * 3 + 2) (I s.2.2)
  rw [← seatCells_set H.seats s k hk, ← hg] at hb1
  have hel : ∀ j, j ≠ g → (((w.setCell ⟨g, k * 3, none⟩ (I s.1)).setCell ⟨g, k * 3 + 1, none⟩ (I s.2.1)).setCell ⟨g, k * 3 + 2, none⟩ (I s.2.2)).heap[j]? = w.heap[j]? := fun j hj => by
    rw [set_else hj, set_else hj, set_else hj]
  have h2 : Rep (((w.setCell ⟨g, k * 3, none⟩ (I s.1)).setCell ⟨g, k * 3 + 1, none⟩ (I s.2.1)).setCell ⟨g, k * 3 + 2, none⟩ (I s.2.2)) a l { H with seats := H.seats.set k s } := by
    refine h.turnSeats (by simp) (fun j hj => hel j (fun e => ?_)) (by simpa using hb1)
    subst e
    rcases hj with h1 | h1 | h1 | h1
    · exact hap.1 h1
    · exact hap.2.1 h1
    · exact hap.2.2.1 h1
    · exact hap.2.2.2 h1
  have hgf : g ∈ foot a l := by simp [foot, Lay.blocks, hgb]
  have f1 : Fr (foot a l) w (((w.setCell ⟨g, k * 3, none⟩ (I s.1)).setCell ⟨g, k * 3 + 1, none⟩ (I s.2.1)).setCell ⟨g, k * 3 + 2, none⟩ (I s.2.2)) :=
    ((Fr.setCell _ _ _ hgf).trans (Fr.setCell (S := foot a l) _ _ _ hgf) (fun b hb => .inl hb)).trans (Fr.setCell (S := foot a l) _ _ _ hgf) (fun b hb => .inl hb)
  exact ⟨h2.eqw he, (Nx.frw f1).eqw he⟩
end Go.Proofs.YtcodfojgilneaaaDoor
