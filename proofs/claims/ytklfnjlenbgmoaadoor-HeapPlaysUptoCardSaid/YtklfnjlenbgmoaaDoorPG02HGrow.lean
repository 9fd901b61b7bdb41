import Derived.Test.YtklfnjlenbgmoaaDoorPG01HStretch
set_option linter.unusedVariables false
namespace Go.Proofs.YtklfnjlenbgmoaaDoor
open Go.RowKit
theorem Rep.memBlock {w : World} {a : Nat} {l : Lay} {H : HS} (h : Rep w a l H) (hk : 0 < H.mem.length) :
  ∃ g, l.pm = some ⟨g, 0, none⟩ ∧ (∀ i, i < H.mem.length → w.cell? ⟨g, i, none⟩ = some (.int .i64 (H.mem.getD i 0))) ∧ (∀ i, w.frozen? ⟨g, i, none⟩ = false) ∧ g ≠ a ∧ g < w.heap.size := by
 obtain ⟨g, hg, hc, hf, hga, hgl⟩ := h.memAt 0 (by have := h.ml; omega)
 refine ⟨g, hg, fun i hi => ?_, hf, hga, hgl⟩
 rw [hc i (by have := h.ml; omega), List.map_append, List.getElem?_append_left (by simpa using hi)]
 simp [hi]
theorem Rep.setMem {w : World} {a : Nat} {l : Lay} {H : HS} {g : Nat} (h : Rep w a l H) (hg : l.pm = some ⟨g, 0, none⟩) (i : Nat) (hi : i < H.mem.length) (v : Int) (w2 : World) (he : Eqw (w.setCell ⟨g, i, none⟩ (.int .i64 v)) w2) :
  Rep w2 a l { H with mem := H.mem.set i v } ∧ Nx a l l w w2 := by
 have hgb : g ∈ blk l.pm := by rw [hg]; simp [blk]
 have hap := (h.apart g).1 hgb
 have hb := h.mem
 rw [hg] at hb
 have hb1 := own_stored hb i (.int .i64 v)
 have e : ((H.mem ++ List.replicate (l.cm - H.mem.length) 0).map (Value.int .i64)).set i (.int .i64 v) = (H.mem.set i v ++ List.replicate (l.cm - (H.mem.set i v).length) 0).map (Value.int .i64) := by
  rw [← List.map_set, List.set_append_left _ _ hi, List.length_set]
 rw [e, ← hg] at hb1
 have h2 : Rep (w.setCell ⟨g, i, none⟩ (.int .i64 v)) a l { H with mem := H.mem.set i v } := by
  refine h.turnMem (by simp) (fun k hk => set_else (fun e => ?_)) hb1
  subst e
  rcases hk with h1 | h1 | h1 | h1
  ·exact hap.1 h1
  ·exact hap.2.1 h1
  ·exact hap.2.2.1 h1
  ·exact hap.2.2.2 h1
 have f1 : Fr (foot a l) w (w.setCell ⟨g, i, none⟩ (.int .i64 v)) := Fr.setCell _ _ _ (by simp [foot, Lay.blocks, hgb])
 exact ⟨h2.eqw he, (Nx.frw f1).eqw he⟩
theorem fillC_list (X Y Z : List Value) (v : Value) (k : Nat) (hk : k ≤ Y.length) : fillC (X ++ Y ++ Z).toArray X.length v k = (X ++ List.replicate k v ++ Y.drop k ++ Z).toArray := by
 induction k with
 | zero => simp [fillC]
 | succ k ih =>
  rw [fillC, ih (by omega)]
  apply Array.toList_inj.1
  simp only [List.setIfInBounds_toArray]
  rw [List.append_assoc, List.append_assoc, List.set_append_right _ _ (by omega), List.append_assoc, List.append_assoc]
  congr 1
  rw [show X.length + k - X.length = k from by omega, List.set_append_right _ _ (by simp)]
  rw [List.replicate_succ', List.append_assoc]
  congr 1
  simp only [List.length_replicate, Nat.sub_self]
  rw [List.drop_eq_getElem_cons (by omega : k < Y.length)]
  rfl
theorem Rep.fillMem {w w2 : World} {a : Nat} {l : Lay} {H : HS} {g : Nat} {X Y : List Int} {v : Int} (h : Rep w a l H) (hg : l.pm = some ⟨g, 0, none⟩) (hm : H.mem = X ++ Y) (C : Array Value) (hC : w.heap[g]? = some (.cells C 33 (0, 0)))
  (h2 : w2.heap[g]? = some (.cells (fillC C X.length (.int .i64 v) Y.length) 33 (0, 0))) (hf : Fr [g] w w2) :
  Rep w2 a l { H with mem := X ++ List.replicate Y.length v } ∧ Nx a l l w w2 := by
 have hgb : g ∈ blk l.pm := by rw [hg]; simp [blk]
 have hap := (h.apart g).1 hgb
 have hb := h.mem
 rw [hg] at hb
 have hCl : C.toList = (H.mem ++ List.replicate (l.cm - H.mem.length) 0).map (Value.int .i64) ∧ l.cm ≤ maxLen := by
  rcases hb.2 with ⟨q, _⟩ | ⟨g', cap, cur, q1, q2, q3, q4, q5, q6, q7⟩
  ·cases q
  ·injection q1 with q1a q1b q1c
   injection q1a with q1a
   injection q1a with q1a
   subst q1a
   rw [hC] at q3
   injection q3 with q3
   injection q3 with q3
   subst q3
   rw [List.take_of_length_le (by rw [Array.length_toList, q6, q1c]; exact Nat.le_refl _)] at q7
   exact ⟨q7, by omega⟩
 have hz : ((X ++ List.replicate Y.length v) ++ List.replicate (l.cm - (X ++ List.replicate Y.length v).length) 0).map (Value.int .i64) = X.map (Value.int .i64) ++ List.replicate Y.length (.int .i64 v) ++ (Y.map (Value.int .i64)).drop Y.length ++ (List.replicate (l.cm - H.mem.length) (0 : Int)).map (Value.int .i64) := by
  rw [List.drop_of_length_le (by simp), List.append_nil, hm]
  simp
 have hfl : fillC C X.length (.int .i64 v) Y.length = (((X ++ List.replicate Y.length v) ++ List.replicate (l.cm - (X ++ List.replicate Y.length v).length) 0).map (Value.int .i64)).toArray := by
  have e : C = ((X.map (Value.int .i64)) ++ (Y.map (Value.int .i64)) ++ (List.replicate (l.cm - H.mem.length) (0 : Int)).map (Value.int .i64)).toArray := by
   apply Array.toList_inj.1
   rw [hCl.1, hm]
   simp
  have := fillC_list (X.map (Value.int .i64)) (Y.map (Value.int .i64)) ((List.replicate (l.cm - H.mem.length) (0 : Int)).map (Value.int .i64)) (.int .i64 v) Y.length (by simp)
  rw [List.length_map, ← e] at this
  rw [this, hz]
 have hlen : (((X ++ List.replicate Y.length v) ++ List.replicate (l.cm - (X ++ List.replicate Y.length v).length) 0).map (Value.int .i64)).length = l.cm := by
  have := h.ml
  rw [hm] at this
  simp at this ⊢
  omega
 have ho : w2.ownsRow 0 33 1 (.slice l.pm l.cm l.cm) l.cm (((X ++ List.replicate Y.length v) ++ List.replicate (l.cm - (X ++ List.replicate Y.length v).length) 0).map (Value.int .i64)) := by
  rw [hfl] at h2
  rw [hg]
  refine ⟨by rw [hlen]; omega, .inr ⟨g, l.cm, _, rfl, Nat.zero_le _, h2, Nat.le_refl _, hCl.2, by simpa using hlen, ?_⟩⟩
  rw [List.take_of_length_le (by rw [Nat.mul_one]; exact Nat.le_of_eq hlen)]
 have hf' : ∀ k, k = a ∨ k ∈ blk l.ps ∨ k ∈ blk l.po ∨ k ∈ blk l.pb → w2.heap[k]? = w.heap[k]? := fun k hk => by
  have hlt : k < w.heap.size := h.lt k (by simp only [foot, Lay.blocks, List.mem_cons, List.mem_append]; rcases hk with h1 | h1 | h1 | h1 <;> simp [h1])
  refine hf.block k hlt (fun hm => ?_)
  simp at hm
  subst hm
  rcases hk with h1 | h1 | h1 | h1
  ·exact hap.1 h1
  ·exact hap.2.1 h1
  ·exact hap.2.2.1 h1
  ·exact hap.2.2.2 h1
 exact ⟨h.turnMem (by rw [hm]; simp) hf' ho, Nx.frw (hf.mono (fun b hb => by simp at hb; subst hb; simp [foot, Lay.blocks, hgb]))⟩
theorem grow_order {w W w1 : World} {a : Nat} {l : Lay} {H : HS} {g cap oop B : Nat} (h : Rep w a l H) (hW : Fr [] w W) (hB : w.heap.size ≤ B) (hown : w1.ownsRow 0 3 1 (.slice (some ⟨g, 0, none⟩) (H.order.length + 1) cap) (H.order.length + 1) (H.order.map I ++ [.int .i64 (oop : Int)]))
  (hg : W.grownBy w1 (Value.ownBlock (.slice l.po H.order.length l.co))) (hat : Value.ownBlock (.slice l.po H.order.length l.co) = some g ∨ g = B) (w2 : World) (he : Eqw (w1.setCell ⟨a, 6, none⟩ (.slice (some ⟨g, 0, none⟩) (H.order.length + 1) cap)) w2) :
  Rep w2 a { l with po := some ⟨g, 0, none⟩, co := cap } { H with order := H.order ++ [oop] } ∧ Nx a l { l with po := some ⟨g, 0, none⟩, co := cap } w w2 := by
 have hblk : ∀ k, k < w.heap.size → k ∉ blk l.po → w1.heap[k]? = w.heap[k]? := fun k hk hn => by
  rw [hg.block k (Nat.lt_of_lt_of_le hk hW.size) (fun e => hn ((blk_own _ _ _ _).1 e.symm))]
  exact hW.block k hk (by simp)
 have hf : ∀ k, k = a ∨ k ∈ blk l.pm ∨ k ∈ blk l.ps ∨ k ∈ blk l.pb → w1.heap[k]? = w.heap[k]? := fun k hk => by
  have hlt : k < w.heap.size := h.lt k (by simp only [foot, Lay.blocks, List.mem_cons, List.mem_append]; rcases hk with h1 | h1 | h1 | h1 <;> simp [h1])
  refine hblk k hlt (fun hb => ?_)
  have hp := (h.apart k).2.2.1 hb
  rcases hk with h1 | h1 | h1 | h1
  ·exact hp.1 h1
  ·exact hp.2.1 h1
  ·exact hp.2.2.1 h1
  ·exact hp.2.2.2 h1
 refine ⟨?_, Nx.eqw ⟨?_, ?_⟩ he⟩
 ·have := h.putOrder (po := some ⟨g, 0, none⟩) (co := cap) (os := H.order ++ [oop]) hf (by simpa [I] using hown)
  simp only [List.length_append, List.length_cons, List.length_nil, Nat.zero_add] at this
  exact this.eqw he
 ·refine Fr.trans (S := foot a l) (S' := foot a l) (w' := w1) ⟨hg.os.trans hW.os, hg.tape.trans hW.tape, hg.output.trans hW.output, Nat.le_trans hW.size hg.size, fun k hk hn => hblk k hk (fun hb => hn (by simp [foot, Lay.blocks, hb]))⟩ (Fr.setCell _ _ _ (by simp [foot])) (fun b hb => .inl hb)
 ·intro b hb
  simp only [foot, Lay.blocks, List.mem_cons, List.mem_append, blk_some] at hb ⊢
  rcases hb with h1 | ((h1 | h1) | h1) | h1
  ·exact .inl (.inl h1)
  ·exact .inl (.inr (.inl (.inl (.inl h1))))
  ·exact .inl (.inr (.inl (.inl (.inr h1))))
  ·simp at h1
   subst h1
   rcases hat with h2 | h2
   ·exact .inl (.inr (.inl (.inr ((blk_own _ _ _ _).1 h2))))
   ·right; omega
  ·exact .inl (.inr (.inr h1))
theorem seatCells_snoc (S : List (Nat × Nat × Nat)) (s : Nat × Nat × Nat) : seatCells (S ++ [s]) = seatCells S ++ [I s.1, I s.2.1, I s.2.2] := by simp [seatCells]
theorem grow_seats {w W w1 : World} {a : Nat} {l : Lay} {H : HS} {g cap B : Nat} (h : Rep w a l H) (hW : Fr [] w W) (hB : w.heap.size ≤ B) (hown : w1.ownsRow 0 103 3 (.slice (some ⟨g, 0, none⟩) (H.seats.length + 1) cap) (H.seats.length + 1) (seatCells H.seats ++ [.int .i64 0, .int .i64 0, .int .i64 0]))
  (hg : W.grownBy w1 (Value.ownBlock (.slice l.ps H.seats.length l.cs))) (hat : Value.ownBlock (.slice l.ps H.seats.length l.cs) = some g ∨ g = B) (w2 : World) (he : Eqw (w1.setCell ⟨a, 5, none⟩ (.slice (some ⟨g, 0, none⟩) (H.seats.length + 1) cap)) w2) :
  Rep w2 a { l with ps := some ⟨g, 0, none⟩, cs := cap } { H with seats := H.seats ++ [(0, 0, 0)] } ∧ Nx a l { l with ps := some ⟨g, 0, none⟩, cs := cap } w w2 := by
 have hblk : ∀ k, k < w.heap.size → k ∉ blk l.ps → w1.heap[k]? = w.heap[k]? := fun k hk hn => by
  rw [hg.block k (Nat.lt_of_lt_of_le hk hW.size) (fun e => hn ((blk_own _ _ _ _).1 e.symm))]
  exact hW.block k hk (by simp)
 have hf : ∀ k, k = a ∨ k ∈ blk l.pm ∨ k ∈ blk l.po ∨ k ∈ blk l.pb → w1.heap[k]? = w.heap[k]? := fun k hk => by
  have hlt : k < w.heap.size := h.lt k (by simp only [foot, Lay.blocks, List.mem_cons, List.mem_append]; rcases hk with h1 | h1 | h1 | h1 <;> simp [h1])
  refine hblk k hlt (fun hb => ?_)
  have hp := (h.apart k).2.1 hb
  rcases hk with h1 | h1 | h1 | h1
  ·exact hp.1 h1
  ·exact hp.2.1 h1
  ·exact hp.2.2.1 h1
  ·exact hp.2.2.2 h1
 refine ⟨?_, Nx.eqw ⟨?_, ?_⟩ he⟩
 ·have := h.putSeats (ps := some ⟨g, 0, none⟩) (cs := cap) (ss := H.seats ++ [(0, 0, 0)]) hf (by rw [seatCells_snoc]; simpa [I] using hown)
  simp only [List.length_append, List.length_cons, List.length_nil, Nat.zero_add] at this
  exact this.eqw he
 ·refine Fr.trans (S := foot a l) (S' := foot a l) (w' := w1) ⟨hg.os.trans hW.os, hg.tape.trans hW.tape, hg.output.trans hW.output, Nat.le_trans hW.size hg.size, fun k hk hn => hblk k hk (fun hb => hn (by simp [foot, Lay.blocks, hb]))⟩ (Fr.setCell _ _ _ (by simp [foot])) (fun b hb => .inl hb)
 ·intro b hb
  simp only [foot, Lay.blocks, List.mem_cons, List.mem_append, blk_some] at hb ⊢
  rcases hb with h1 | ((h1 | h1) | h1) | h1
  ·exact .inl (.inl h1)
  ·exact .inl (.inr (.inl (.inl (.inl h1))))
  ·simp at h1
   subst h1
   rcases hat with h2 | h2
   ·exact .inl (.inr (.inl (.inl (.inr ((blk_own _ _ _ _).1 h2)))))
   ·right; omega
  ·exact .inl (.inr (.inl (.inr h1)))
  ·exact .inl (.inr (.inr h1))
theorem seatCells_at (S : List (Nat × Nat × Nat)) : ∀ k, k < S.length → (seatCells S)[k * 3]? = some (I (S.getD k (0, 0, 0)).1) ∧ (seatCells S)[k * 3 + 1]? = some (I (S.getD k (0, 0, 0)).2.1) ∧ (seatCells S)[k * 3 + 2]? = some (I (S.getD k (0, 0, 0)).2.2) := by
 induction S with
 | nil => intro k hk; simp at hk
 | cons s S ih =>
  intro k hk
  cases k with
  | zero => simp [seatCells]
  | succ k =>
   have := ih k (by simpa using hk)
   have e : seatCells (s :: S) = [I s.1, I s.2.1, I s.2.2] ++ seatCells S := by simp [seatCells]
   rw [e, show (k + 1) * 3 = 3 + k * 3 from by omega]
   refine ⟨?_, ?_, ?_⟩
   ·rw [List.getElem?_append_right (by simp)]; simpa using this.1
   ·rw [List.getElem?_append_right (by simp; omega), show 3 + k * 3 + 1 - [I s.1, I s.2.1, I s.2.2].length = k * 3 + 1 from by simp; omega]; simpa using this.2.1
   ·rw [List.getElem?_append_right (by simp; omega), show 3 + k * 3 + 2 - [I s.1, I s.2.1, I s.2.2].length = k * 3 + 2 from by simp; omega]; simpa using this.2.2
theorem seatCells_set (S : List (Nat × Nat × Nat)) (s : Nat × Nat × Nat) : ∀ k, k < S.length → seatCells (S.set k s) = (((seatCells S).set (k * 3) (I s.1)).set (k * 3 + 1) (I s.2.1)).set (k * 3 + 2) (I s.2.2) := by
 induction S with
 | nil => intro k hk; simp at hk
 | cons t S ih =>
  intro k hk
  have e : ∀ x T, seatCells (x :: T) = [I x.1, I x.2.1, I x.2.2] ++ seatCells T := fun x T => by simp [seatCells]
  cases k with
  | zero => rw [List.set_cons_zero, e, e]; rfl
  | succ k =>
   rw [List.set_cons_succ, e, e, ih k (by simpa using hk), show (k + 1) * 3 = 3 + k * 3 from by omega]
   rw [List.set_append_right _ _ (by simp), List.set_append_right _ _ (by simp; omega), List.set_append_right _ _ (by simp; omega)]
   congr 1
   rw [show 3 + k * 3 - [I t.1, I t.2.1, I t.2.2].length = k * 3 from by simp, show 3 + k * 3 + 1 - [I t.1, I t.2.1, I t.2.2].length = k * 3 + 1 from by simp; omega, show 3 + k * 3 + 2 - [I t.1, I t.2.1, I t.2.2].length = k * 3 + 2 from by simp; omega]
theorem Rep.seatAt {w : World} {a : Nat} {l : Lay} {H : HS} (h : Rep w a l H) (k : Nat) (hk : k < H.seats.length) :
  ∃ g, l.ps = some ⟨g, 0, none⟩ ∧ (∀ k, k < H.seats.length → w.cell? ⟨g, k * 3, none⟩ = some (I (H.seats.getD k (0, 0, 0)).1) ∧ w.cell? ⟨g, k * 3 + 1, none⟩ = some (I (H.seats.getD k (0, 0, 0)).2.1) ∧ w.cell? ⟨g, k * 3 + 2, none⟩ = some (I (H.seats.getD k (0, 0, 0)).2.2)) ∧ (∀ i, w.frozen? ⟨g, i, none⟩ = false) ∧ g ≠ a ∧ g < w.heap.size := by
 have hs := h.seats
 rcases hs.2 with ⟨h2, h3⟩ | ⟨g', cap, cur, h2, h3, h4, h5, h6, h7, h8⟩
 ·omega
 ·have hform := hs.form (by omega)
  obtain ⟨g, c, hv, _, hgl⟩ := hform
  injection hv with hv1 hv2 hv3
  have hg : l.ps = some ⟨g, 0, none⟩ := hv1
  have hcell : ∀ j, j < H.seats.length * 3 → w.cell? ⟨g, j, none⟩ = (seatCells H.seats)[j]? := by
   intro j hj
   have hs' := hs
   rw [hg] at hs'
   exact hs'.cellAt j hj
  refine ⟨g, hg, fun k hk => ?_, fun i => ?_, h.top_ne g (by simp [Lay.blocks, blk, hg]), hgl⟩
  ·have := seatCells_at H.seats k hk
   exact ⟨(hcell _ (by omega)).trans this.1, (hcell _ (by omega)).trans this.2.1, (hcell _ (by omega)).trans this.2.2⟩
  ·have hs' := hs
   rw [hg] at hs'
   exact hs'.frozenAt i
theorem Rep.setSeat {w : World} {a : Nat} {l : Lay} {H : HS} {g : Nat} (h : Rep w a l H) (hg : l.ps = some ⟨g, 0, none⟩) (k : Nat) (hk : k < H.seats.length) (s : Nat × Nat × Nat) (w2 : World) (he : Eqw (((w.setCell ⟨g, k * 3, none⟩ (I s.1)).setCell ⟨g, k * 3 + 1, none⟩ (I s.2.1)).setCell ⟨g, k * 3 + 2, none⟩ (I s.2.2)) w2) :
  Rep w2 a l { H with seats := H.seats.set k s } ∧ Nx a l l w w2 := by
 have hgb : g ∈ blk l.ps := by rw [hg]; simp [blk]
 have hap := (h.apart g).2.1 hgb
 have hb := h.seats
 rw [hg] at hb
 have hb1 := own_stored (own_stored (own_stored hb (k * 3) (I s.1)) (k * 3 + 1) (I s.2.1)) (k * 3 + 2) (I s.2.2)
 rw [← seatCells_set H.seats s k hk, ← hg] at hb1
 have hel : ∀ j, j ≠ g → (((w.setCell ⟨g, k * 3, none⟩ (I s.1)).setCell ⟨g, k * 3 + 1, none⟩ (I s.2.1)).setCell ⟨g, k * 3 + 2, none⟩ (I s.2.2)).heap[j]? = w.heap[j]? := fun j hj => by
  rw [set_else hj, set_else hj, set_else hj]
 have h2 : Rep (((w.setCell ⟨g, k * 3, none⟩ (I s.1)).setCell ⟨g, k * 3 + 1, none⟩ (I s.2.1)).setCell ⟨g, k * 3 + 2, none⟩ (I s.2.2)) a l { H with seats := H.seats.set k s } := by
  refine h.turnSeats (by simp) (fun j hj => hel j (fun e => ?_)) (by simpa using hb1)
  subst e
  rcases hj with h1 | h1 | h1 | h1
  ·exact hap.1 h1
  ·exact hap.2.1 h1
  ·exact hap.2.2.1 h1
  ·exact hap.2.2.2 h1
 have hgf : g ∈ foot a l := by simp [foot, Lay.blocks, hgb]
 have f1 : Fr (foot a l) w (((w.setCell ⟨g, k * 3, none⟩ (I s.1)).setCell ⟨g, k * 3 + 1, none⟩ (I s.2.1)).setCell ⟨g, k * 3 + 2, none⟩ (I s.2.2)) :=
  ((Fr.setCell _ _ _ hgf).trans (Fr.setCell (S := foot a l) _ _ _ hgf) (fun b hb => .inl hb)).trans (Fr.setCell (S := foot a l) _ _ _ hgf) (fun b hb => .inl hb)
 exact ⟨h2.eqw he, (Nx.frw f1).eqw he⟩
end Go.Proofs.YtklfnjlenbgmoaaDoor
