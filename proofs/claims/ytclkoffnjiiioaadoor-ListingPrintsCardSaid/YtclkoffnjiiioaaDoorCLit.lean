import Derived.Test.YtclkoffnjiiioaaDoorCBlk0
namespace Go.Proofs.YtclkoffnjiiioaaDoor
open Go.RowKit
set_option linter.unusedVariables false
set_option linter.unusedSimpArgs false
attribute [local go_sem ↓] Go.wp_at_zero Go.wp_at_succ
/-- a literal as it lies in memory -/
inductive LitT where
  | mk (kind : Int) (text : ByteArray) (num : Int) (p : Option Addr) (c : Nat) (kids : List LitT)
def LitT.kind : LitT → Int | .mk k _ _ _ _ _ => k
def LitT.text : LitT → ByteArray | .mk _ t _ _ _ _ => t
def LitT.num : LitT → Int | .mk _ _ n _ _ _ => n
def LitT.p : LitT → Option Addr | .mk _ _ _ p _ _ => p
def LitT.c : LitT → Nat | .mk _ _ _ _ c _ => c
def LitT.kids : LitT → List LitT | .mk _ _ _ _ _ l => l
def LitT.items (t : LitT) : Value := .slice t.p t.kids.length t.c
def litc (t : LitT) : List Value := [.int .i64 t.kind, .string t.text, .int .i64 t.num, t.items]
structure LitAt (w : World) (g off : Nat) (t : LitT) : Prop where
  c0 : w.cell? ⟨g, off, none⟩ = some (.int .i64 t.kind)
  c1 : w.cell? ⟨g, off + 1, none⟩ = some (.string t.text)
  c2 : w.cell? ⟨g, off + 2, none⟩ = some (.int .i64 t.num)
  c3 : w.cell? ⟨g, off + 3, none⟩ = some t.items
theorem LitAt.idle {w w' : World} {g off : Nat} {t : LitT} (h : LitAt w g off t) (hf : Fr [] w w') : LitAt w' g off t := ⟨hf.cl h.c0, hf.cl h.c1, hf.cl h.c2, hf.cl h.c3⟩
/-- literals that can be read, with all that is in them -/
inductive LitsR (w : World) : Option Addr → Nat → List LitT → Prop
  | mk (p : Option Addr) (c : Nat) (ts : List LitT) (nil : p = none → c = 0) (at_ : 0 < ts.length → ∃ g off, p = some ⟨g, off, none⟩ ∧ g < w.heap.size ∧ ∀ i t, ts[i]? = some t → LitAt w g (off + i * 4) t) (short : ts.length ≤ 2513169434916) (txt : ∀ t ∈ ts, t.text.size ≤ 140737488355328)
      (kids : ∀ t ∈ ts, LitsR w t.p t.c t.kids) : LitsR w p c ts
theorem LitsR.idle {w w' : World} {p : Option Addr} {c : Nat} {ts : List LitT} (h : LitsR w p c ts) (hf : Fr [] w w') : LitsR w' p c ts := by
  induction h with
  | mk p c ts nil at_ short txt kids ih =>
    refine .mk p c ts nil (fun hp => ?_) short txt ih
    obtain ⟨g, off, e, hg, hc⟩ := at_ hp
    exact ⟨g, off, e, Nat.lt_of_lt_of_le hg hf.size, fun i t ht => (hc i t ht).idle hf⟩
theorem drop_at {α : Type} {l : List α} {i : Nat} {t : α} (h : l[i]? = some t) : l.drop i = t :: l.drop (i + 1) := by
  obtain ⟨hlt, e⟩ := List.getElem?_eq_some_iff.1 h
  rw [List.drop_eq_getElem_cons hlt, e]
end Go.Proofs.YtclkoffnjiiioaaDoor


