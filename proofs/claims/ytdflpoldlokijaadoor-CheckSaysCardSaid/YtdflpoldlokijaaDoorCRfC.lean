import Derived.Test.YtdflpoldlokijaaDoorCRfA
namespace Go.Proofs.YtdflpoldlokijaaDoor
open Go.RowKit
set_option linter.unusedVariables false
set_option linter.unusedSimpArgs false
/-- the document's list when the jumps are put in -/
structure RJ (l : List Pl) (rs : List Ri) : Prop where
  len : rs.length = (stK l l.length).length
  at_ : ∀ (i x : Nat), (stK l l.length)[i]? = some x → ∃ r : Ri, rs[i]? = some r ∧ r.at_ = x ∧ x + r.sz = (plD l x).fin ∧ r.op = (plD l x).op ∧ r.body + 1 = (plD l x).body ∧ r.nx = (plD l x).nxt ∧ r.to_ = (if 4 ≤ (shp (plD l x).op).kind then ((plD l x).to : Int) else -1) ∧ (r.op = 17 ∨ r.op = 18 → r.b = ((plD l x).args : Int) ∧ (plD l x).args ≤ 8) ∧ (¬(r.op = 17 ∨ r.op = 18) → (plD l x).args = 0) ∧ 1 ≤ r.op ∧ r.op ≤ 28
theorem RJ.rl {l : List Pl} {rs : List Ri} (h : RJ l rs) : RL l l.length rs := ⟨h.len, fun i x hx => by
  obtain ⟨r, h1, h2, -, -, h3, -⟩ := h.at_ i x hx
  exact ⟨r, h1, h2, h3⟩⟩
theorem reach_rel (l : List Pl) (v : RV) (y : Nat) (d : Int) (hl : v.dep.length = l.length) (hy : y < l.length) (hb : (plD l y).body ≠ 0) : reachD (dsOf l v.dep) v.clash (plK l y) d = (dsOf l (reachV v y d).1.dep, (reachV v y d).1.clash, (reachV v y d).2) := by
  have hg := dsOf_get l v.dep y hy hb
  unfold reachD reachV
  rw [List.getD_eq_getElem?_getD, hg]
  simp only [Option.getD_some]
  split
  · simp only [dsOf_set l v.dep y d hl hy hb]
  · split <;> rfl
theorem reachV_len (v : RV) (y : Nat) (d : Int) : (reachV v y d).1.dep.length = v.dep.length := by
  unfold reachV
  split
  · simp
  · split <;> rfl
theorem reachV_most (v : RV) (y : Nat) (d : Int) : (reachV v y d).1.most = v.most := by
  unfold reachV
  split
  · rfl
  · split <;> rfl
theorem mstV_dep (v : RV) (m : Int) : (mstV v m).dep = v.dep ∧ (mstV v m).clash = v.clash := by
  unfold mstV; split <;> exact ⟨rfl, rfl⟩
theorem mstV_most (v : RV) (m : Int) : (mstV v m).most = if v.most < m then m else v.most := by
  unfold mstV; split <;> rfl
end Go.Proofs.YtdflpoldlokijaaDoor
