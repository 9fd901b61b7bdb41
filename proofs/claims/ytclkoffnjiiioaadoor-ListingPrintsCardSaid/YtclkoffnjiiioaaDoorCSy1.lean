import Derived.Test.YtclkoffnjiiioaaDoorCTwinW
namespace Go.Proofs.YtclkoffnjiiioaaDoor
open Go.RowKit
set_option linter.unusedVariables false
set_option linter.unusedSimpArgs false
/-- a literal, wherever it lies -/
inductive LitS where
  | mk (kind : Int) (text : ByteArray) (num : Int) (kids : List LitS)
mutual
def stT : LitT → LitS
  | .mk k a n _ _ kids => .mk k a n (stL kids)
def stL : List LitT → List LitS
  | [] => []
  | t :: ts => stT t :: stL ts
end
theorem stL_nil : stL [] = [] := by rw [stL]
theorem stL_cons (t : LitT) (ts : List LitT) : stL (t :: ts) = stT t :: stL ts := by rw [stL]
theorem stT_mk (t : LitT) : stT t = .mk t.kind t.text t.num (stL t.kids) := by
  cases t with
  | mk k a n p c kids => rw [stT]; rfl
theorem stL_len : ∀ ts : List LitT, (stL ts).length = ts.length
  | [] => by rw [stL_nil]; rfl
  | t :: ts => by rw [stL_cons, List.length_cons, List.length_cons, stL_len ts]
theorem stL_map : ∀ ts : List LitT, stL ts = ts.map stT
  | [] => by rw [stL_nil]; rfl
  | t :: ts => by rw [stL_cons, List.map_cons, stL_map ts]
theorem stT_inj {a b : LitT} (h : stT a = stT b) : a.kind = b.kind ∧ a.text = b.text ∧ a.num = b.num ∧ stL a.kids = stL b.kids := by
  rw [stT_mk, stT_mk] at h
  injection h with h1 h2 h3 h4
  exact ⟨h1, h2, h3, h4⟩
/-- a tree of literals in blocks of its own, no block twice, a mark behind each list -/
inductive LitsM (w : World) : (Nat → Prop) → Option Addr → Nat → List LitT → Prop
  | mk (Ok : Nat → Prop) (g c : Nat) (ts : List LitT) (K : Nat → Nat → Prop) (row : w.ownsRow 0 39 4 (.slice (some ⟨g, 0, none⟩) (ts.length + 1) c) (ts.length + 1) (litCells (ts ++ [markL]))) (ok : Ok g) (short : ts.length ≤ 2513169434916) (txt : ∀ t ∈ ts, t.text.size ≤ 140737488355328)
      (sub : ∀ i b, K i b → Ok b ∧ b ≠ g) (dis : ∀ i j b, K i b → K j b → i = j) (kids : ∀ (i : Nat) (t : LitT), ts[i]? = some t → LitsM w (K i) t.p t.c t.kids) : LitsM w Ok (some ⟨g, 0, none⟩) c ts
/-- only blocks of a kind are written -/
structure FrP (Ok : Nat → Prop) (w w' : World) : Prop where
  os : w'.os = w.os
  tape : w'.tape = w.tape
  output : w'.output = w.output
  size : w.heap.size ≤ w'.heap.size
  block : ∀ k, k < w.heap.size → ¬ Ok k → w'.heap[k]? = w.heap[k]?
theorem Fr.frp {S : List Nat} {w w' : World} (h : Fr S w w') {Ok : Nat → Prop} (hS : ∀ g ∈ S, Ok g ∨ w.heap.size ≤ g) : FrP Ok w w' := ⟨h.os, h.tape, h.output, h.size, fun k hk hn => h.block k hk (fun hm => by rcases hS k hm with h1 | h1; exact hn h1; omega)⟩
theorem FrP.trans {Ok : Nat → Prop} {a b c : World} (h : FrP Ok a b) (k : FrP Ok b c) : FrP Ok a c := ⟨k.os.trans h.os, k.tape.trans h.tape, k.output.trans h.output, Nat.le_trans h.size k.size, fun i hi hn => (k.block i (Nat.lt_of_lt_of_le hi h.size) hn).trans (h.block i hi hn)⟩
theorem FrP.refl (Ok : Nat → Prop) (w : World) : FrP Ok w w := ⟨rfl, rfl, rfl, Nat.le_refl _, fun _ _ _ => rfl⟩
theorem FrP.mono {Ok Ok' : Nat → Prop} {w w' : World} (h : FrP Ok w w') (hO : ∀ b, Ok b → Ok' b) : FrP Ok' w w' := ⟨h.os, h.tape, h.output, h.size, fun k hk hn => h.block k hk (fun ho => hn (hO k ho))⟩
theorem LitsM.keep {w w' : World} {Ok Q : Nat → Prop} {p : Option Addr} {c : Nat} {ts : List LitT} (h : LitsM w Ok p c ts) (hf : FrP Q w w') (hQ : ∀ b, Ok b → ¬ Q b) : LitsM w' Ok p c ts := by
  induction h with
  | mk Ok g c ts K row ok short txt sub dis kids ih =>
    refine .mk Ok g c ts K (own_congr row fun b hb => ?_) ok short txt sub dis (fun i t ht => ih i t ht (fun b hb => hQ b (sub i b hb).1))
    have e : g = b := by simpa [Value.ownBlock] using hb
    subst e
    exact hf.block g (own_lt row g hb).2 (hQ g ok)
theorem LitsM.mono {w : World} {Ok Ok' : Nat → Prop} {p : Option Addr} {c : Nat} {ts : List LitT} (h : LitsM w Ok p c ts) (hO : ∀ b, Ok b → Ok' b) : LitsM w Ok' p c ts := by
  cases h with
  | mk _ g _ _ K row ok short txt sub dis kids => exact .mk Ok' g c ts K row (hO g ok) short txt (fun i b hb => ⟨hO b (sub i b hb).1, (sub i b hb).2⟩) dis kids
theorem LitsM.lt {w : World} {Ok : Nat → Prop} {p : Option Addr} {c : Nat} {ts : List LitT} (h : LitsM w Ok p c ts) : ∃ g, p = some ⟨g, 0, none⟩ ∧ ts.length + 1 ≤ c := by
  cases h with
  | mk _ g _ _ K row ok short txt sub dis kids =>
    refine ⟨g, rfl, ?_⟩
    rcases row.2 with ⟨e, e0⟩ | ⟨g', cap, cur, e, q1, q2, q3, q4⟩
    · omega
    · injection e with e1 _ e3; omega
/-- it can be read -/
theorem LitsM.plain {w : World} {Ok : Nat → Prop} {p : Option Addr} {c : Nat} {ts : List LitT} (h : LitsM w Ok p c ts) : LitsR w p c ts := by
  induction h with
  | mk Ok g c ts K row ok short txt sub dis kids ih =>
    have hl : (own_lt row g rfl).2 = (own_lt row g rfl).2 := rfl
    refine .mk _ c ts (fun hh => by cases hh) (fun _ => ⟨g, 0, rfl, (own_lt row g rfl).2, fun i t ht => ?_⟩) short txt (fun t ht => ?_)
    · have hlt : i < ts.length := (List.getElem?_eq_some_iff.1 ht).1
      have hit2 : (ts ++ [markL])[i]? = some t := by rw [List.getElem?_append_left hlt]; exact ht
      have hc : ∀ j, j < 4 → w.cell? ⟨g, i * 4 + j, none⟩ = (litc t)[j]? := fun j hj => by
        rw [row.cellAt (i * 4 + j) (by omega)]
        exact litCells_at _ i t j hit2 hj
      rw [Nat.zero_add]
      exact ⟨hc 0 (by omega), hc 1 (by omega), hc 2 (by omega), hc 3 (by omega)⟩
    · obtain ⟨i, hi, hit⟩ := List.getElem_of_mem ht
      exact ih i t (by rw [List.getElem?_eq_getElem hi, hit])
end Go.Proofs.YtclkoffnjiiioaaDoor


