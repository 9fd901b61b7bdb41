import Derived.OpenShut
import Derived.FnData
namespace Go.Proofs.YtklfnjlenbgmoaaDoor
open Go.ChangeShapes Go.WideShapes
/-- a table of integers, cell by cell -/
theorem int_table {H : Type} {enc : TypeId × Value → H} {P : Program} {w : World} {base : Nat} {spare : Nat → Bool} {held : Bool} {fuel n : Nat} {t e : TypeId} {k : IntKind} {cs : List Value} {vals : List Int} {p : List MemPlace}
    (ht : P.underlying t = some (.array n e)) (he : P.underlying e = some (.int k)) (ce : P.cellsOf e = 1)
    (hd : DataW.trod enc P w base spare held fuel t cs = some (.agg (vals.map fun v => .lit (.int k v)), p)) (i : Nat) (hi : i < vals.length) :
    cs[i]? = some (.int k (vals.getD i 0)) := by
  obtain ⟨xs, m, _, hx, _, hn, hel⟩ := DataW.trod_array ht hd
  simp only [Prod.mk.injEq, DataW.agg.injEq] at hx
  have hlen : xs.length = vals.length := by
    have := congrArg List.length hx.1
    simpa using this.symm
  have h := hel i (by omega)
  rw [ce, Nat.mul_one] at h
  obtain ⟨x, hxi⟩ : ∃ x, xs[i]? = some x := ⟨xs[i]'(by omega), by rw [List.getElem?_eq_getElem (by omega)]⟩
  rw [hxi] at h
  obtain ⟨v, e1, e2, _⟩ := DataW.trod_int he h
  have hv : vals[i]? = some v := by
    have h3 := congrArg (fun l => l[i]?) hx.1
    simp only [List.getElem?_map, hxi, e2] at h3
    cases hvi : vals[i]? with
    | none => rw [hvi] at h3; simp at h3
    | some y => rw [hvi] at h3; simp at h3; rw [h3]
  have h4 : cs[i]? = some (.int k v) := by
    have h5 := congrArg (fun l => l[0]?) e1
    simpa [List.getElem?_take, List.getElem?_drop] using h5
  rw [h4, List.getD_eq_getElem?_getD, hv]
  rfl
end Go.Proofs.YtklfnjlenbgmoaaDoor
