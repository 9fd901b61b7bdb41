import Derived.Test.YtcodfojgilneaaaDoorHStretch
namespace Go.Proofs.YtcodfojgilneaaaDoor
open Go.RowKit
set_option linter.unusedVariables false
/-- the memory's block, while there is memory -/
theorem Rep.memBlock {w : World} {a : Nat} {l : Lay} {H : HS} (h : Rep w a l H) (hk : 0 < H.mem.length) :
    ∃ g, l.pm = some ⟨g, 0, none⟩ ∧ (∀ i, i < H.mem.length → w.cell? ⟨g, i, none⟩ = some (.int .i64 (H.mem.getD i 0))) ∧ (∀ i, w.frozen? ⟨g, i, none⟩ = false) ∧ g ≠ a ∧ g < w.heap.size := by
  obtain ⟨g, hg, hc, hf, hga, hgl⟩ := h.memAt 0 (by have := h.ml; omega)
  refine ⟨g, hg, fun i hi => ?_, hf, hga, hgl⟩
  rw [hc i (by have := h.ml; omega), List.map_append, List.getElem?_append_left (by simpa using hi)]
  simp [hi]
/-- a word of memory is written -/
theorem Rep.setMem {w : World} {a : Nat} {l : Lay} {H : HS} {g : Nat} (h : Rep w a l H) (hg : l.pm = some ⟨g, 0, none⟩) (i : Nat) (hi : i < H.mem.length) (v : Int) (w2 : World) (he : Eqw (w.setCell ⟨g, i, none⟩ (.int .i64 v)) w2) :
    Rep w2 a l { H with mem := H.mem.set i v } ∧ Nx a l l w w2 := by
  have hgb : g ∈ blk l.pm := by rw [hg]; simp [blk]
  have hap := (h.apart g).1 hgb
  have hb := h.mem
  rw [hg] at hb
  have hb1 := own_stored hb i (.int .i64 v)
  have e : ((H.mem ++ List.replicate (l.cm - H.mem.length) 0).map (Value.int .i64)).set i (.int .i64 v) = (H.mem.set i v ++ List.replicate (l.cm - (H.mem.set i v).length) 0).map (Value.int .i64) := by
    rw [← List.map_set, List.set_append_left _ _ hi, List.length_set]
  rw [e, ← hg] at hb1
  have h2 : Rep (w.setCell ⟨g, i, none⟩ (.int .i64 v)) a l { H with mem := H.mem.set i v } := by
    refine h.turnMem (by simp) (fun k hk => set_else (fun e => ?_)) hb1
    subst e
    rcases hk with h1 | h1 | h1 | h1
    · exact hap.1 h1
    · exact hap.2.1 h1
    · exact hap.2.2.1 h1
    · exact hap.2.2.2 h1
  have f1 : Fr (foot a l) w (w.setCell ⟨g, i, none⟩ (.int .i64 v)) := Fr.setCell _ _ _ (by simp [foot, Lay.blocks, hgb])
  exact ⟨h2.eqw he, (Nx.frw f1).eqw he⟩
theorem fillC_list (X Y Z : List Value) (v : Value) (k : Nat) (hk : k ≤ Y.length) : fillC (X ++ Y ++ Z).toArray X.length v k = (X ++ List.replicate k v ++ Y.drop k ++ Z).toArray := by
  induction k with
  | zero => simp [fillC]
  | succ k ih =>
    rw [fillC, ih (by omega)]
    apply Array.toList_inj.1
    simp only [List.setIfInBounds_toArray]
    rw [List.append_assoc, List.append_assoc, List.set_append_right _ _ (by omega), List.append_assoc, List.append_assoc]
    congr 1
    rw [show X.length + k - X.length = k from by omega, List.set_append_right _ _ (by simp)]
    rw [List.replicate_succ', List.append_assoc]
    congr 1
    simp only [List.length_replicate, Nat.sub_self]
    rw [List.drop_eq_getElem_cons (by omega : k < Y.length)]
    rfl
/-- a stretch of memory is filled -/
theorem Rep.fillMem {w w2 : World} {a : Nat} {l : Lay} {H : HS} {g : Nat} {X Y : List Int} {v : Int} (h : Rep w a l H) (hg : l.pm = some ⟨g, 0, none⟩) (hm : H.mem = X ++ Y) (C : Array Value) (hC : w.heap[g]? = some (.cells C 33 (0, 0)))
    (h2 : w2.heap[g]? = some (.cells (fillC C X.length (.int .i64 v) Y.length) 33 (0, 0))) (hf : Fr [g] w w2) :
    Rep w2 a l { H with mem := X ++ List.replicate Y.length v } ∧ Nx a l l w w2 := by
  have hgb : g ∈ blk l.pm := by rw [hg]; simp [blk]
  have hap := (h.apart g).1 hgb
  have hb := h.mem
  rw [hg] at hb
  have hCl : C.toList = (H.mem ++ List.replicate (l.cm - H.mem.length) 0).map (Value.int .i64) ∧ l.cm ≤ maxLen := by
    rcases hb.2 with ⟨q, _⟩ | ⟨g', cap, cur, q1, q2, q3, q4, q5, q6, q7⟩
    · cases q
    · injection q1 with q1a q1b q1c
      injection q1a with q1a
      injection q1a with q1a
      subst q1a
      rw [hC] at q3
      injection q3 with q3
      injection q3 with q3
      subst q3
      rw [List.take_of_length_le (by rw [Array.length_toList, q6, q1c]; exact Nat.le_refl _)] at q7
      exact ⟨q7, by omega⟩
  have hz : ((X ++ List.replicate Y.length v) ++ List.replicate (l.cm - (X ++ List.replicate Y.length v).length) 0).map (Value.int .i64) = X.map (Value.int .i64) ++ List.replicate Y.length (.int .i64 v) ++ (Y.map (Value.int .i64)).drop Y.length ++ (List.replicate (l.cm - H.mem.length) (0 : Int)).map (Value.int .i64) := by
    rw [List.drop_of_length_le (by simp), List.append_nil, hm]
    simp
  have hfl : fillC C X.length (.int .i64 v) Y.length = (((X ++ List.replicate Y.length v) ++ List.replicate (l.cm - (X ++ List.replicate Y.length v).length) 0).map (Value.int .i64)).toArray := by
    have e : C = ((X.map (Value.int .i64)) ++ (Y.map (Value.int .i64)) ++ (List.replicate (l.cm - H.mem.length) (0 : Int)).map (Value.int .i64)).toArray := by
      apply Array.toList_inj.1
      rw [hCl.1, hm]
      simp
    have := fillC_list (X.map (Value.int .i64)) (Y.map (Value.int .i64)) ((List.replicate (l.cm - H.mem.length) (0 : Int)).map (Value.int .i64)) (.int .i64 v) Y.length (by simp)
    rw [List.length_map, ← e] at this
    rw [this, hz]
  have hlen : (((X ++ List.replicate Y.length v) ++ List.replicate (l.cm - (X ++ List.replicate Y.length v).length) 0).map (Value.int .i64)).length = l.cm := by
    have := h.ml
    rw [hm] at this
    simp at this ⊢
    omega
  have ho : w2.ownsRow 0 33 1 (.slice l.pm l.cm l.cm) l.cm (((X ++ List.replicate Y.length v) ++ List.replicate (l.cm - (X ++ List.replicate Y.length v).length) 0).map (Value.int .i64)) := by
    rw [hfl] at h2
    rw [hg]
    refine ⟨by rw [hlen]; omega, .inr ⟨g, l.cm, _, rfl, Nat.zero_le _, h2, Nat.le_refl _, hCl.2, by simpa using hlen, ?_⟩⟩
    rw [List.take_of_length_le (by rw [Nat.mul_one]; exact Nat.le_of_eq hlen)]
  have hf' : ∀ k, k = a ∨ k ∈ blk l.ps ∨ k ∈ blk l.po ∨ k ∈ blk l.pb → w2.heap[k]? = w.heap[k]? := fun k hk => by
    have hlt : k < w.heap.size := h.lt k (by simp only [foot, Lay.blocks, List.mem_cons, List.mem_append]; rcases hk with h1 | h1 | h1 | h1 <;> simp [h1])
    refine hf.block k hlt (fun hm => ?_)
    simp at hm
    subst hm
    rcases hk with h1 | h1 | h1 | h1
    · exact hap.1 h1
    · exact hap.2.1 h1
    · exact hap.2.2.1 h1
    · exact hap.2.2.2 h1
  exact ⟨h.turnMem (by rw [hm]; simp) hf' ho, Nx.frw (hf.mono (fun b hb => by simp at hb; subst hb; simp [foot, Lay.blocks, hgb]))⟩
end Go.Proofs.YtcodfojgilneaaaDoor
