import Derived.Test.YtdflpoldlokijaaDoorG17CJmp
namespace Go.Proofs.YtdflpoldlokijaaDoor
open Go.RowKit
set_option linter.unusedVariables false
set_option linter.unusedSimpArgs false
/-- a field of a struct that is a value -/
theorem wpList_field {P : Program} {ops : Array Oper} {rest : List Oper} {o : Oper} {a : Act} {w : World} {Q : Exit → Act → World → Prop} (hg : o.guard = none) (t : TypeId) (x : Operand) (i : Nat) (ho : o.op = .field t x i) (v : Value) (hr : (execOp a.eval o).run P w = .ok (.value v) w)
    (h : wpList P ops Q rest (a.put o.dst v) w) : wpList P ops Q (o :: rest) a w :=
  wpList_plain hg fun K hK => by unfold Oper.wp; rw [hr]; exact hK _ _ h
def Pl.toSet (p : Pl) (t : Nat) : Pl := ⟨p.op, p.body, p.args, p.fin, p.nxt, t⟩
theorem plCells_to (t : Nat) : ∀ (l : List Pl) (i : Nat), i < l.length → plCells (l.set i ((plD l i).toSet t)) = (plCells l).set (i * 6 + 5) (I t)
  | [], i, h => by simp at h
  | q :: l, 0, h => by
    show plc (q.toSet t) ++ plCells l = (plc q ++ plCells l).set 5 (I t)
    rw [List.set_append_left _ _ (by show 5 < (plc q).length; simp [plc])]
    rfl
  | q :: l, i + 1, h => by
    have ih := plCells_to t l i (by simpa using h)
    show plc q ++ plCells (l.set i ((plD l i).toSet t)) = (plc q ++ plCells l).set ((i + 1) * 6 + 5) (I t)
    rw [List.set_append_right _ _ (by show (plc q).length ≤ _; simp [plc]; omega), ih, show (i + 1) * 6 + 5 - (plc q).length = i * 6 + 5 by simp [plc]; omega]
/-- where a jump leads is written -/
theorem RR.to_ {w : World} {B a : Nat} {C : Cx} {wv : Value} {sc : List Nat} {ps : Option Addr} {cs : Nat} {pls : List Pl} {g : Nat} {k : Nat} (h : RR w B a C wv sc ps cs pls (some ⟨g, 0, none⟩) k) (i : Nat) (hi : i < pls.length) (t : Nat) :
    RR (w.setCell ⟨g, i * 6 + 5, none⟩ (I t)) B a C wv sc ps cs (pls.set i ((plD pls i).toSet t)) (some ⟨g, 0, none⟩) k := by
  have h1 := h.pl
  obtain ⟨cur, q2⟩ := row_block h1 (g := g) rfl
  have q1 := (own_lt h1 g rfl).1
  have f : Fr [g] w (w.setCell ⟨g, i * 6 + 5, none⟩ (I t)) := Fr.setCell (S := [g]) w ⟨g, i * 6 + 5, none⟩ _ (by simp)
  have hga : a ≠ g := fun e => ty_ne h.top q2 (by decide) e
  have hgs : ∀ x ∈ blk ps, x ≠ g := fun x hx e => by
    obtain ⟨c2, hc⟩ := row_block h.scs ((blk_own ps sc.length cs x).2 hx)
    exact ty_ne hc q2 (by decide) e
  have hS : ∀ x ∈ [g], B ≤ x := fun x hx => by simp at hx; rw [hx]; exact q1
  refine ⟨?_, h.base, h.words.keep f fun hp x hx hm => by have := h.wlo hp x hx; have := hS x hm; omega, h.wlo, own_congr h.scs fun x hx => f.block x (own_lt h.scs x hx).2 (by simp; exact hgs x ((blk_own _ _ _ _).1 hx)), ?_, h.tb.fr f fun hm => by have := hS 0 hm; have := h.b0; omega, h.b0, h.short, h.lits, by rw [List.length_set]; exact h.plen, h.scn, h.sc1, h.sc32, h.wcap, h.rng⟩
  · rw [List.length_set]
    exact (f.block a (lt_of_heap h.top) (by simp; exact hga)).trans h.top
  · rw [List.length_set, plCells_to t pls i hi]
    exact (h1.stored (i * 6 + 5) (I t)).1
theorem jumpN_zero (C : Cx) (l : List Pl) : jumpN C l 0 = l := by
  apply List.ext_getElem?
  intro x
  unfold jumpN
  rw [List.getElem?_mapIdx]
  simp
theorem jumpN_ge (C : Cx) (l : List Pl) (n x : Nat) (h : n ≤ x) : plD (jumpN C l n) x = plD l x := by
  unfold plD jumpN
  rw [List.getD_eq_getElem?_getD, List.getD_eq_getElem?_getD, List.getElem?_mapIdx]
  by_cases hx : x < l.length
  · rw [List.getElem?_eq_getElem hx]; simp [show ¬ x < n by omega]
  · rw [List.getElem?_eq_none (by omega)]; rfl
theorem jumpN_body (C : Cx) (l : List Pl) (n x : Nat) : (plD (jumpN C l n) x).body = (plD l x).body := by
  unfold plD jumpN
  rw [List.getD_eq_getElem?_getD, List.getD_eq_getElem?_getD, List.getElem?_mapIdx]
  by_cases hx : x < l.length
  · rw [List.getElem?_eq_getElem hx]
    by_cases hn : x < n
    · simp [hn, (goto_same C _ _).2.1]
    · simp [hn]
  · rw [List.getElem?_eq_none (by omega)]; rfl
theorem jumpN_succ (C : Cx) (l : List Pl) (i : Nat) (h : i < l.length) : jumpN C l (i + 1) = (jumpN C l i).set i ((plD l i).goto C i) := by
  apply List.ext_getElem?
  intro x
  by_cases hx : x = i
  · subst hx
    rw [List.getElem?_set_self (by rw [jumpN_len]; exact h)]
    unfold jumpN plD
    rw [List.getElem?_mapIdx, List.getD_eq_getElem?_getD, List.getElem?_eq_getElem h]
    simp
  · rw [List.getElem?_set_ne (Ne.symm hx)]
    unfold jumpN
    rw [List.getElem?_mapIdx, List.getElem?_mapIdx]
    by_cases h2 : x < i
    · simp [h2, show x < i + 1 by omega]
    · simp [h2, show ¬ x < i + 1 by omega]
theorem goto_no {C : Cx} {p : Pl} {i : Nat} (h : ¬ 4 ≤ (shp p.op).kind) : p.goto C i = p := by unfold Pl.goto isJ; simp [h]
theorem goto_yes {C : Cx} {p : Pl} {i t : Nat} (h : 4 ≤ (shp p.op).kind) (ht : toP C p i = some t) : p.goto C i = p.toSet t := by unfold Pl.goto isJ Pl.toSet; simp [h, ht]
theorem land_no {C : Cx} {l : List Pl} {i : Nat} (h : ¬ 4 ≤ (shp (plD l i).op).kind) : landP C l i = true := by unfold landP isJ; simp [h]
theorem land_some {C : Cx} {l : List Pl} {i t : Nat} (h : 4 ≤ (shp (plD l i).op).kind) (ht : toP C (plD l i) i = some t) : landP C l i = decide ((plD l t).body = (plD l i).body) := by unfold landP isJ; simp [h, ht]
theorem land_none {C : Cx} {l : List Pl} {i : Nat} (h : 4 ≤ (shp (plD l i).op).kind) (ht : toP C (plD l i) i = none) : landP C l i = false := by unfold landP isJ; simp [h, ht]
theorem toP_on {C : Cx} {p : Pl} {i : Nat} (h : (shp p.op).kind = 4 ∨ (shp p.op).kind = 5) : (toP C p i = none ∧ onwP C p.fin = -1) ∨ ∃ t, toP C p i = some t ∧ onwP C p.fin = (t : Int) ∧ t < C.ws.length := by
  unfold toP onwP
  rw [if_pos h]
  by_cases hb : bel (C.w (p.fin - 1)) ((C.ws.length : Int) - p.fin) = true
  · rw [if_pos hb, if_pos hb]
    have : 0 ≤ C.w (p.fin - 1) ∧ C.w (p.fin - 1) < (C.ws.length : Int) - p.fin := by simpa [bel] using hb
    exact .inr ⟨_, rfl, by push_cast; omega, by omega⟩
  · rw [if_neg hb, if_neg hb]
    exact .inl ⟨rfl, rfl⟩
theorem toP_bw {C : Cx} {p : Pl} {i : Nat} (h : (shp p.op).kind = 6 ∨ (shp p.op).kind = 7) (hf : p.fin ≤ C.ws.length) (hi : i < p.fin) : (toP C p i = none ∧ bwdP C p.fin i = -1) ∨ ∃ t, toP C p i = some t ∧ bwdP C p.fin i = (t : Int) ∧ t < C.ws.length := by
  unfold toP bwdP
  rw [if_neg (by omega), if_pos h]
  by_cases hb : inR (C.w (p.fin - 1)) ((p.fin : Int) - i + 1) p.fin = true
  · rw [if_pos hb, if_pos hb]
    have : (p.fin : Int) - i + 1 ≤ C.w (p.fin - 1) ∧ C.w (p.fin - 1) ≤ p.fin := by simpa [inR] using hb
    exact .inr ⟨_, rfl, by omega, by omega⟩
  · rw [if_neg hb, if_neg hb]
    exact .inl ⟨rfl, rfl⟩
end Go.Proofs.YtdflpoldlokijaaDoor
