import Derived.Test.YtclkoffnjiiioaaDoorCLit
import Derived.Test.YtclkoffnjiiioaaDoorCPushS
namespace Go.Proofs.YtclkoffnjiiioaaDoor
open Go.RowKit
set_option linter.unusedVariables false
set_option linter.unusedSimpArgs false
attribute [local go_sem ↓] Go.wp_at_zero Go.wp_at_succ
theorem info54 : (Tryd.prog.info? 39).map (fun i => (i.zero, i.size, i.bytes)) = some (some (.agg #[.int .i64 0, .string ⟨#[]⟩, .int .i64 0, .slice none 0 0]), 4, 56) := by kernel_rfl
/-- literals whose blocks are all of a kind -/
inductive LitsO (w : World) (Ok : Nat → Prop) : Option Addr → Nat → List LitT → Prop
  | mk (p : Option Addr) (c : Nat) (ts : List LitT) (nil : p = none → c = 0) (at_ : 0 < ts.length → ∃ g off, p = some ⟨g, off, none⟩ ∧ g < w.heap.size ∧ Ok g ∧ ∀ i t, ts[i]? = some t → LitAt w g (off + i * 4) t) (short : ts.length ≤ 2513169434916) (txt : ∀ t ∈ ts, t.text.size ≤ 140737488355328)
      (kids : ∀ t ∈ ts, LitsO w Ok t.p t.c t.kids) : LitsO w Ok p c ts
theorem LitsO.keep {w w' : World} {Ok Ok' : Nat → Prop} {S : List Nat} {p : Option Addr} {c : Nat} {ts : List LitT} (h : LitsO w Ok p c ts) (hf : Fr S w w') (hS : ∀ g, Ok g → g < w.heap.size → g ∉ S) (hO : ∀ g, Ok g → g < w.heap.size → Ok' g) : LitsO w' Ok' p c ts := by
  induction h with
  | mk p c ts nil at_ short txt kids ih =>
    refine .mk p c ts nil (fun hp => ?_) short txt ih
    obtain ⟨g, off, e, hg, ho, hc⟩ := at_ hp
    have hn := hS g ho hg
    exact ⟨g, off, e, Nat.lt_of_lt_of_le hg hf.size, hO g ho hg, fun i t ht => by
      have hl := hc i t ht
      exact ⟨(hf.cell (p := ⟨g, off + i * 4, none⟩) hg hn).trans hl.c0, (hf.cell (p := ⟨g, off + i * 4 + 1, none⟩) hg hn).trans hl.c1, (hf.cell (p := ⟨g, off + i * 4 + 2, none⟩) hg hn).trans hl.c2, (hf.cell (p := ⟨g, off + i * 4 + 3, none⟩) hg hn).trans hl.c3⟩⟩
theorem LitsO.plain {w : World} {Ok : Nat → Prop} {p : Option Addr} {c : Nat} {ts : List LitT} (h : LitsO w Ok p c ts) : LitsR w p c ts := by
  induction h with
  | mk p c ts nil at_ short txt kids ih =>
    refine .mk p c ts nil (fun hp => ?_) short txt ih
    obtain ⟨g, off, e, hg, ho, hc⟩ := at_ hp
    exact ⟨g, off, e, hg, hc⟩
def litCells (l : List LitT) : List Value := l.flatMap litc
theorem litCells_at (l : List LitT) : ∀ i t j, l[i]? = some t → j < 4 → (litCells l)[i * 4 + j]? = (litc t)[j]? := by
  induction l with
  | nil => intro i t j h; simp at h
  | cons q l ih =>
    intro i t j hi hj
    have e : litCells (q :: l) = litc q ++ litCells l := by simp [litCells]
    rw [e]
    cases i with
    | zero =>
      have : q = t := by simpa using hi
      subst this
      rw [List.getElem?_append_left (by simp [litc]; omega)]; simp
    | succ i =>
      rw [List.getElem?_append_right (by simp [litc]; omega), show (i + 1) * 4 + j - (litc q).length = i * 4 + j from by simp [litc]; omega]
      exact ih i t j (by simpa using hi) hj
/-- a row of literals of one's own can be read -/
theorem row_lits {w : World} {B : Nat} {Ok : Nat → Prop} {p : Option Addr} {n c : Nat} {us rest : List LitT} (h : w.ownsRow B 39 4 (.slice p n c) n (litCells (us ++ rest))) (hn : (us ++ rest).length = n) (hp : 0 < n) (hOk : ∀ g, g ∈ blk p → Ok g) (hs : us.length ≤ 2513169434916) (ht : ∀ t ∈ us, t.text.size ≤ 140737488355328) (hk : ∀ t ∈ us, LitsO w Ok t.p t.c t.kids) : LitsO w Ok p c us := by
  rcases h.2 with ⟨e, e0⟩ | ⟨g, cap, cur, e, q1, q2, q3, q4⟩
  · omega
  · injection e with e1 _ e3
    subst e1 e3
    refine .mk _ _ us (fun h0 => by cases h0) (fun _ => ⟨g, 0, rfl, lt_of_heap q2, hOk g (by simp [blk]), fun i t hit => ?_⟩) hs ht hk
    have hlt : i < us.length := (List.getElem?_eq_some_iff.1 hit).1
    have hit2 : (us ++ rest)[i]? = some t := by rw [List.getElem?_append_left hlt]; exact hit
    have hc : ∀ j, j < 4 → w.cell? ⟨g, i * 4 + j, none⟩ = (litc t)[j]? := fun j hj => by
      rw [h.cellAt (i * 4 + j) (by simp at hn; omega)]
      exact litCells_at _ i t j hit2 hj
    rw [Nat.zero_add]
    exact ⟨hc 0 (by omega), hc 1 (by omega), hc 2 (by omega), hc 3 (by omega)⟩
end Go.Proofs.YtclkoffnjiiioaaDoor

