import Derived.Test.YtcodfojgilneaaaDoorHFill
import Derived.Laws.CopyOwn
import Derived.Laws.MakeOwn
import Derived.Deep.DeepMust
namespace Go.Proofs.YtcodfojgilneaaaDoor
open Go.RowKit
set_option linter.unusedVariables false
theorem info33 : (Tryd.prog.info? 33).map (fun i => (i.zero, i.size, i.bytes)) = some (some (.int .i64 0), 1, 8) := by kernel_rfl
def zeros (n : Nat) : List Value := List.replicate n (.int .i64 0)
theorem zeros_len (n : Nat) : (zeros n).length = n := by simp [zeros]
theorem make_words (l c : Nat) (h1 : l ≤ c) (h2 : c ≤ 1048576) (L C : Int) (hL : L = l) (hC : C = c) (W : World) :
    (Instr.makeSlice 80 (.int .i64 L) (.int .i64 C)).run Tryd.prog W = .ok (.slice (some ⟨W.heap.size, 0, none⟩) l c) (W.alloc (.cells (zeros c).toArray 33)) := by
  obtain ⟨i0, hi, hz0, hz1, hz2⟩ := info_parts info33
  subst hL hC
  have h := run_make (P := Tryd.prog) W 80 33 i0 (.int .i64 0) Tryd.underlying80 hi hz0 .i64 .i64 l c (by omega) (by omega) (by rw [hz2]; omega) (by omega)
  have e : madeCells (Value.int .i64 0).cells c = (zeros c).toArray := by
    apply Array.toList_inj.1
    show (madeCells #[.int .i64 0] c).toList = _
    rw [toList_madeCells_one]
    rfl
  rw [h, hz1, Nat.mul_one, Int.toNat_natCast, Int.toNat_natCast, e]
/-- where the memory grew -/
theorem grow_mem {w w1 : World} {a : Nat} {l : Lay} {H : HS} {n cap : Nat} (h : Rep w a l H) (hcap : H.mem.length + n ≤ cap) (hcm : cap ≤ 1048576)
    (h1 : w1.heap[w.heap.size]? = some (.cells (splice (zeros cap) 0 (H.mem.map (Value.int .i64))).toArray 33 (0, 0))) (hb : Below w.heap.size w w1) (w2 : World) (he : Eqw (w1.setCell ⟨a, 4, none⟩ (.slice (some ⟨w.heap.size, 0, none⟩) (H.mem.length + n) cap)) w2) :
    Rep w2 a { l with pm := some ⟨w.heap.size, 0, none⟩, cm := cap } { H with mem := H.mem ++ List.replicate n 0 } ∧ Nx a l { l with pm := some ⟨w.heap.size, 0, none⟩, cm := cap } w w2 := by
  have hsp : splice (zeros cap) 0 (H.mem.map (Value.int .i64)) = (H.mem ++ List.replicate n (0 : Int) ++ List.replicate (cap - (H.mem ++ List.replicate n (0 : Int)).length) (0 : Int)).map (Value.int .i64) := by
    simp only [splice, zeros, List.take_zero, List.nil_append, List.length_map, Nat.zero_add, List.drop_replicate, List.map_append, List.map_replicate, List.append_assoc, List.length_append, List.length_replicate]
    congr 1
    rw [List.replicate_append_replicate]
    congr 1
    omega
  have ho : w1.ownsRow 0 33 1 (.slice (some ⟨w.heap.size, 0, none⟩) cap cap) cap ((H.mem ++ List.replicate n (0 : Int) ++ List.replicate (cap - (H.mem ++ List.replicate n (0 : Int)).length) (0 : Int)).map (Value.int .i64)) := by
    rw [hsp] at h1
    have hl : ((H.mem ++ List.replicate n (0 : Int) ++ List.replicate (cap - (H.mem ++ List.replicate n (0 : Int)).length) (0 : Int)).map (Value.int .i64)).length = cap := by simp; omega
    refine ⟨by rw [hl]; omega, .inr ⟨w.heap.size, cap, _, rfl, Nat.zero_le _, h1, Nat.le_refl _, by unfold maxLen; omega, by simpa using hl, ?_⟩⟩
    rw [List.take_of_length_le (by rw [Nat.mul_one]; exact Nat.le_of_eq hl)]
  have hf : ∀ g, g = a ∨ g ∈ blk l.ps ∨ g ∈ blk l.po ∨ g ∈ blk l.pb → w1.heap[g]? = w.heap[g]? := fun k hk => by
    have hlt : k < w.heap.size := h.lt k (by simp only [foot, Lay.blocks, List.mem_cons, List.mem_append]; rcases hk with h1 | h1 | h1 | h1 <;> simp [h1])
    exact hb.block k hlt
  have K := h.putMem (pm := some ⟨w.heap.size, 0, none⟩) (cm := cap) (ms := H.mem ++ List.replicate n 0) (by simpa using hcap) hf ho
  simp only [List.length_append, List.length_replicate] at K
  refine ⟨K.eqw he, Nx.eqw ⟨?_, ?_⟩ he⟩
  · exact Fr.trans (S := foot a l) (S' := foot a l) (w' := w1) ⟨hb.os, hb.tape, hb.output, hb.size, fun k hk _ => hb.block k hk⟩ (Fr.setCell _ _ _ (by simp [foot])) (fun b hb => .inl hb)
  · intro b hb
    simp only [foot, Lay.blocks, List.mem_cons, List.mem_append, blk_some] at hb ⊢
    rcases hb with h1 | ((h1 | h1) | h1) | h1
    · exact .inl (.inl h1)
    · simp at h1; right; omega
    · exact .inl (.inr (.inl (.inl (.inr h1))))
    · exact .inl (.inr (.inl (.inr h1)))
    · exact .inl (.inr (.inr h1))
theorem add_block (ad : Addr) (j : Nat) : (ad.add j).block = ad.block := by unfold Addr.add; split <;> simp_all
theorem src_alloc {w : World} {X : List Value} {pm : Option Addr} {b : Addr} (h : 0 < X.length → ∃ ad, pm = some ad ∧ ad.block < w.heap.size ∧ ∀ (j : Nat) (v : Value), X[j]? = some v → w.cell? (ad.add j) = some v) (o : Obj) :
    0 < X.length → some b = some b ∧ ∃ ad, pm = some ad ∧ ∀ (j : Nat) (v : Value), X[j]? = some v → (w.alloc o).cell? (ad.add j) = some v := fun hp => by
  obtain ⟨ad, q1, q2, q3⟩ := h hp
  exact ⟨rfl, ad, q1, fun j v hv => (World.cell?_alloc_lt w o (ad.add j) (by rw [add_block]; exact q2)).trans (q3 j v hv)⟩
theorem set_set (w : World) (b o : Nat) (v v' : Value) : (w.setCell ⟨b, o, none⟩ v).setCell ⟨b, o, none⟩ v' = w.setCell ⟨b, o, none⟩ v' := by
  simp only [World.setCell]
  congr 1
  apply Array.ext_getElem?
  intro i
  rw [Array.getElem?_modify, Array.getElem?_modify, Array.getElem?_modify]
  by_cases h : b = i
  · subst h
    simp only [if_true]
    cases hq : w.heap[b]? with
    | none => rfl
    | some x => cases x <;> simp
  · simp [h]
theorem Rep.memAt {w : World} {a : Nat} {l : Lay} {H : HS} (h : Rep w a l H) (k : Nat) (hk : k < l.cm) :
    ∃ g, l.pm = some ⟨g, 0, none⟩ ∧ (∀ i, i < l.cm → w.cell? ⟨g, i, none⟩ = ((H.mem ++ List.replicate (l.cm - H.mem.length) 0).map (Value.int .i64))[i]?) ∧ (∀ i, w.frozen? ⟨g, i, none⟩ = false) ∧ g ≠ a ∧ g < w.heap.size := by
  obtain ⟨g, hg, hc, hf, _, cur, hcur, _⟩ := own_at h.mem k hk
  exact ⟨g, hg, hc, hf, h.top_ne g (by simp [Lay.blocks, blk, hg]), lt_of_heap hcur⟩
set_option maxRecDepth 20000 in
set_option maxHeartbeats 1000000 in
theorem stretch_grow (n : Nat) (a : Nat) (l : Lay) (H : HS) (w : World) (h : Rep w a l H) (hs : Small H) (h0 : (1 : Int) ≤ n) (h1 : (H.mem.length : Int) + n ≤ H.words) (hc : (l.cm : Int) < H.mem.length + n) :
    Calls Tryd.prog 101 #[.pointer (some ⟨a, 0, none⟩), .int .i64 n] w fun e w' => e = .returned (.tuple #[]) ∧ ∃ l', Rep w' a l' { H with mem := H.mem ++ List.replicate n 0 } ∧ Nx a l l' w w' := by
  obtain ⟨s1, s2, s3, s4, s5⟩ := hs
  obtain ⟨i0, hi, hz0, hz1, hz2⟩ := info_parts info33
  have c1 := h.c1
  have c4 := h.c4
  have f4 := h.frozen 4
  have hsrc : 0 < (H.mem.map (Value.int .i64)).length → ∃ ad, l.pm = some ad ∧ ad.block < w.heap.size ∧ ∀ j v, (H.mem.map (Value.int .i64))[j]? = some v → w.cell? (ad.add j) = some v := by
    intro hpos
    rw [List.length_map] at hpos
    obtain ⟨g, hg, hcl, _, _, hgl⟩ := h.memAt 0 (by have := h.ml; omega)
    refine ⟨⟨g, 0, none⟩, hg, hgl, fun j v hv => ?_⟩
    have hj : j < H.mem.length := by
      rcases Nat.lt_or_ge j H.mem.length with hj | hj
      · exact hj
      · rw [List.getElem?_eq_none (by simpa using hj)] at hv; cases hv
    rw [show (⟨g, 0, none⟩ : Addr).add j = ⟨g, j, none⟩ from by unfold Addr.add; split <;> simp_all, hcl j (by have := h.ml; omega), List.map_append, List.getElem?_append_left (by simpa using hj)]
    exact hv
  have G := fun w1 cap => @grow_mem w w1 a l H n cap h
  have HG : Hid _ := G
  have HS' : Hid _ := hsrc
  have hal := h.lt a (by simp [foot])
  clear G hsrc h
  obtain ⟨X, hX⟩ : ∃ X, X = H.mem.map (Value.int .i64) := ⟨_, rfl⟩
  have hXl : X.length = H.mem.length := by rw [hX]; simp
  have hX1 : ∀ v ∈ X, v.oneCell' = true := by rw [hX]; exact ints_oneCell _ _
  rw [← hX] at HG HS'
  clear hX
  generalize hm : H.mem.length = m at *
  generalize H.words = x at *
  obtain ⟨cap, k1, k2, k3, k4⟩ : ∃ cap : Nat, m + n ≤ cap ∧ cap ≤ x ∧ cap ≤ 1048576 ∧ (if 2 * ((m : Int) + n) < x then 2 * ((m : Int) + n) else (x : Int)) = cap := by
    by_cases hq : 2 * ((m : Int) + n) < x
    · exact ⟨2 * (m + n), by omega, by omega, by omega, by rw [if_pos hq]; omega⟩
    · exact ⟨x, by omega, by omega, by omega, by rw [if_neg hq]⟩
  have hmk := fun W => make_words m cap (by omega) k3 (m : Int) _ rfl k4 W
  have K4 : Hid _ := k4
  have HXl : Hid _ := hXl
  have HX1 : Hid _ := hX1
  clear k4 hXl hX1 hm
  go_enter Tryd.func101, Tryd.ntmps101
  go_wp2
  go_region
  all_goals
    go_wp2_with (first
      | (refine wpList_copy_splice rfl (.tmp 33) (.tmp 37) 80 80 rfl 33 Tryd.underlying80 (by rw [hi]; simp [hz1]) (some ⟨w.heap.size, 0, none⟩) l.pm m cap m l.cm rfl rfl w.heap.size 0 (zeros cap) 33 (by exact heap_alloc_new w _) X (by rw [HXl.out]; simp) (by exact src_alloc HS'.out _) (by rw [HXl.out, zeros_len]; omega) HX1.out w.heap.size w (by exact ((Below.refl _ _).alloc (Nat.le_refl _) _).drew) (Nat.le_refl _) ?_; intro w1 hg1 hb1; have d4 := hb1.cell (p := ⟨a, 4, none⟩) hal; have e4 := hb1.frozen (p := ⟨a, 4, none⟩) hal; rw [c4] at d4; rw [f4] at e4)
      | go_in)
  all_goals
    go_end0
    refine ⟨rfl, _, (HG.out _ cap k1 k3 hg1.out hb1 _ ?_).1, (HG.out _ cap k1 k3 hg1.out hb1 _ ?_).2⟩
  all_goals exact ⟨rfl, rfl, rfl, by rw [set_set]⟩
theorem more_mem {w : World} {a : Nat} {l : Lay} {H : HS} {n : Nat} (h : Rep w a l H) (hcap : H.mem.length + n ≤ l.cm) (w2 : World) (he : Eqw (w.setCell ⟨a, 4, none⟩ (.slice l.pm (H.mem.length + n) l.cm)) w2) :
    Rep w2 a l { H with mem := H.mem ++ List.replicate n 0 } ∧ Nx a l l w w2 := by
  have e : H.mem ++ List.replicate n (0 : Int) ++ List.replicate (l.cm - (H.mem ++ List.replicate n (0 : Int)).length) (0 : Int) = H.mem ++ List.replicate (l.cm - H.mem.length) 0 := by
    rw [List.append_assoc, List.replicate_append_replicate]
    congr 2
    simp
    omega
  have K := h.putMem (pm := l.pm) (cm := l.cm) (ms := H.mem ++ List.replicate n 0) (by simpa using hcap) (fun _ _ => rfl) (by rw [e]; exact h.mem)
  simp only [List.length_append, List.length_replicate] at K
  exact ⟨K.eqw he, (Nx.frw (Fr.setCell (S := foot a l) _ _ _ (by simp [foot]))).eqw he⟩
set_option maxRecDepth 20000 in
set_option maxHeartbeats 1000000 in
theorem stretch_more (n : Nat) (a : Nat) (l : Lay) (H : HS) (w : World) (h : Rep w a l H) (hs : Small H) (h0 : (1 : Int) ≤ n) (h1 : (H.mem.length : Int) + n ≤ H.words) (hc : (H.mem.length : Int) + n ≤ l.cm) :
    Calls Tryd.prog 101 #[.pointer (some ⟨a, 0, none⟩), .int .i64 n] w fun e w' => e = .returned (.tuple #[]) ∧ ∃ l', Rep w' a l' { H with mem := H.mem ++ List.replicate n 0 } ∧ Nx a l l' w w' := by
  obtain ⟨s1, s2, s3, s4, s5⟩ := hs
  have c1 := h.c1
  have c4 := h.c4
  have f4 := h.frozen 4
  have hal := h.lt a (by simp [foot])
  have HG : Hid _ := more_mem (n := n) h (by omega)
  obtain ⟨g, hg, _, _, _, hgl⟩ := h.memAt 0 (by omega)
  rw [hg] at c4
  clear h
  rw [hg] at HG
  generalize hm : H.mem.length = m at *
  generalize H.words = x at *
  generalize hcm : l.cm = cm at *
  clear hm
  have k1 : (0 : Int) ≤ (m : Int) + n := by omega
  go_enter Tryd.func101, Tryd.ntmps101
  go_wp2
  go_end0
  refine ⟨rfl, l, (HG.out _ ?_).1, (HG.out _ ?_).2⟩
  all_goals exact ⟨rfl, rfl, rfl, rfl⟩
theorem stretch_any (n : Nat) (a : Nat) (l : Lay) (H : HS) (w : World) (h : Rep w a l H) (hs : Small H) (h0 : (1 : Int) ≤ n) (h1 : (H.mem.length : Int) + n ≤ H.words) :
    Calls Tryd.prog 101 #[.pointer (some ⟨a, 0, none⟩), .int .i64 n] w fun e w' => e = .returned (.tuple #[]) ∧ ∃ l', Rep w' a l' { H with mem := H.mem ++ List.replicate n 0 } ∧ Nx a l l' w w' := by
  by_cases hc : (H.mem.length : Int) + n ≤ l.cm
  · exact stretch_more n a l H w h hs h0 h1 hc
  · exact stretch_grow n a l H w h hs h0 h1 (by omega)
end Go.Proofs.YtcodfojgilneaaaDoor
