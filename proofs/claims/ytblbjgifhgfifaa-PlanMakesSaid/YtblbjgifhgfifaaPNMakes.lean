import Derived.Test.YtblbjgifhgfifaaPNHLeft
namespace Go.Proofs.Ytblbjgifhgfifaa
open Go.RowKit
set_option linter.unusedVariables false
set_option linter.unusedSimpArgs false
theorem clAt_take {k : List Cl} {n i : Nat} (h : i < n) : clAt (k.take n) i = clAt k i := by
  unfold clAt; rw [List.getD_eq_getElem?_getD, List.getD_eq_getElem?_getD, List.getElem?_take, if_pos h]
theorem RdC.front {w : World} {p : Option Addr} {c n : Nat} {k : List Cl} (h : RdC w (.slice p k.length c) k) (hn : n ≤ k.length) : RdC w (.slice p n c) (k.take n) := by
  obtain ⟨p', c', e, h1⟩ := h.at_
  injection e with e1 e2 e3
  subst e1
  have hl : (k.take n).length = n := by simp; omega
  refine ⟨⟨p, c, by rw [hl], fun hp => ?_⟩, fun m hm => ?_, by have := h.short; omega⟩
  · rw [hl] at hp
    obtain ⟨g, off, q1, q2, q3⟩ := h1 (by omega)
    exact ⟨g, off, q1, q2, fun m hm => by rw [hl] at hm; rw [clAt_take hm]; exact q3 m (by omega)⟩
  · rw [hl] at hm
    rw [clAt_take hm]
    exact h.own m (by omega)
theorem RdC.lt {w : World} {v : Value} {l : List Cl} (h : RdC w v l) : (0 < l.length → ∀ g, v.ownBlock = some g → g < w.heap.size) ∧ ∀ g, clBlks l g → g < w.heap.size := by
  refine ⟨fun hp g hg => ?_, fun g hg => ?_⟩
  · obtain ⟨p, c, e, h1⟩ := h.at_
    obtain ⟨g', off, e2, h2, _⟩ := h1 hp
    rw [e, e2] at hg
    have : g' = g := by simpa [Value.ownBlock] using hg
    omega
  · obtain ⟨k, hk, hp, hb⟩ := hg
    exact (h.own k hk).lt hp g hb
/-- a reading stays where only newer blocks are written -/
theorem RdC.newer {w w' w0 : World} {v : Value} {l : List Cl} {S : List Nat} (h0 : RdC w0 v l) (h : RdC w v l) (hf : Fr S w w') (hS : ∀ g ∈ S, w0.heap.size ≤ g) : RdC w' v l :=
  h.keep hf (fun hp g hg hm => by have := h0.lt.1 hp g hg; have := hS g hm; omega) (fun g hg hm => by have := h0.lt.2 g hg; have := hS g hm; omega)
theorem RdS.newer {w w' w0 : World} {v : Value} {ss : List ByteArray} {S : List Nat} (h0 : RdS w0 v ss) (h : RdS w v ss) (hf : Fr S w w') (hS : ∀ g ∈ S, w0.heap.size ≤ g) : RdS w' v ss :=
  h.keep hf (fun hp g hg hm => by have := h0.lt hp g hg; have := hS g hm; omega)
theorem hrd_eqv {w : World} {b : Nat} {l : List Cl} {gF cF : Nat} {pO : Option Addr} {cO : Nat} {k : List Cl} {vs : List Value} (h : HRd w b l gF cF pO cO k vs) : EqC l (k.take l.length) := by
  have hl : (k.take l.length).length = l.length := by have := h.kl; simp; omega
  refine ⟨hl, fun i => ?_⟩
  by_cases hi : i < l.length
  · obtain ⟨gO, p, c, _, _, _, _, q⟩ := h.own i hi
    rw [clAt_take hi, q]
    exact ⟨rfl, rfl, rfl, rfl⟩
  · have e1 : clAt (k.take l.length) i = cl0 := by unfold clAt; rw [List.getD_eq_getElem?_getD, List.getElem?_eq_none (by omega)]; rfl
    have e2 : clAt l i = cl0 := by unfold clAt; rw [List.getD_eq_getElem?_getD, List.getElem?_eq_none (by omega)]; rfl
    rw [e1, e2]
    exact ⟨rfl, rfl, rfl, rfl⟩
/-- the first of own names turned round, one by one -/
def overT (own : List ByteArray) (i : Nat) : List ByteArray := own.reverse.take i ++ own.drop i ++ List.replicate 8 sMark
theorem overT_zero (own : List ByteArray) : overT own 0 = marks own 8 := by simp [overT, marks]
theorem overT_len (own : List ByteArray) (i : Nat) (h : i ≤ own.length) : (overT own i).length = own.length + 8 := by simp [overT]; omega
theorem overT_set (own : List ByteArray) (i : Nat) (h : i < own.length) : (overT own i).set i (own.reverse.getD i ⟨#[]⟩) = overT own (i + 1) := by
  unfold overT
  have hl : (own.reverse.take i).length = i := by simp; omega
  rw [List.append_assoc, List.set_append_right _ _ (by omega), hl, Nat.sub_self, List.drop_eq_getElem_cons h, List.cons_append, List.set_cons_zero, ← take_snoc (ss := own.reverse) (by simpa using h), List.append_assoc, List.append_assoc]
  rfl
theorem overT_front (own : List ByteArray) : (overT own own.length).take own.length = own.reverse := by
  unfold overT
  rw [List.drop_length, List.append_nil, show own.reverse.take own.length = own.reverse from by rw [← List.length_reverse, List.take_length], List.take_left' (by simp)]
end Go.Proofs.Ytblbjgifhgfifaa
