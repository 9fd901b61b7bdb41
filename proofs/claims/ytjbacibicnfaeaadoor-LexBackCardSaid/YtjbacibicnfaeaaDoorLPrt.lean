import Derived.Test.YtjbacibicnfaeaaDoorLWr
import Derived.Test.YtjbacibicnfaeaaDoorLCan
import Derived.Test.YtjbacibicnfaeaaDoorLBld
import Derived.Test.YtjbacibicnfaeaaDoorLLaw
namespace Go.Proofs.YtjbacibicnfaeaaDoor
open Go.RowKit Go.Maps
set_option linter.unusedVariables false
set_option linter.unusedSimpArgs false
/-- a token as Go has it: kind, text, number, place -/
abbrev Z := Int × Bs × Int × Int
def noZ : Z := (0, [], 0, 0)
def tokOf (z : Z) : Tok := ⟨z.1.toNat, z.2.1, z.2.2.1.toNat⟩
/-- a list of them that can be read -/
def RdZ (w : World) (g off : Nat) (zs : List Z) : Prop := g < w.heap.size ∧ ∀ j, j < zs.length →
    w.cell? ⟨g, off + j * 4, none⟩ = some (.int .i64 (zs.getD j noZ).1) ∧ w.cell? ⟨g, off + j * 4 + 1, none⟩ = some (.string (ba (zs.getD j noZ).2.1)) ∧
    w.cell? ⟨g, off + j * 4 + 2, none⟩ = some (.int .i64 (zs.getD j noZ).2.2.1) ∧ w.cell? ⟨g, off + j * 4 + 3, none⟩ = some (.int .i64 (zs.getD j noZ).2.2.2)
theorem RdZ.keep {w w' : World} {g off : Nat} {zs : List Z} (h : RdZ w g off zs) (b : Bl w w') : RdZ w' g off zs := by
  have e : ∀ i, w'.cell? ⟨g, i, none⟩ = w.cell? ⟨g, i, none⟩ := fun i => World.cell?_of_block (w := w) (b.block g h.1)
  exact ⟨Nat.lt_of_lt_of_le h.1 b.size, fun j hj => by rw [e, e, e, e]; exact h.2 j hj⟩
def okAt (zs : List Z) (i : Nat) : Prop := canZ (zs.getD i noZ).1 (zs.getD i noZ).2.1 (zs.getD i noZ).2.2.1 ∧ ((zs.getD i noZ).1 = 18 ↔ i + 1 = zs.length)
theorem tok_can {z : Z} (h : canZ z.1 z.2.1 z.2.2.1) (h18 : z.1 ≠ 18) : canB (tokOf z) ∧ ((tokOf z).kind : Int) = z.1 ∧ ((tokOf z).num : Int) = z.2.2.1 ∧ (tokOf z).text = z.2.1 := by
  obtain ⟨k, x, m, a⟩ := z
  obtain ⟨h0, h⟩ := h
  simp only at h0 h h18
  have hk : 0 ≤ k := by omega
  have hm : 0 ≤ m := by
    by_cases h4 : k = 4
    · omega
    · rw [h0 h4]; omega
  have e1 : ((tokOf (k, x, m, a)).kind : Int) = k := by show ((k.toNat : Nat) : Int) = k; omega
  have e2 : ((tokOf (k, x, m, a)).num : Int) = m := by show ((m.toNat : Nat) : Int) = m; omega
  refine ⟨⟨fun h4 => ?_, ?_⟩, e1, e2, rfl⟩
  · have : k ≠ 4 := fun e => h4 (by omega)
    have := h0 this
    omega
  · have e3 : (tokOf (k, x, m, a)).text = x := rfl
    rw [e3]
    rcases h with ⟨h1 | h1, h2⟩ | ⟨h1, h2⟩ | ⟨h1, h2, h3⟩ | ⟨h1, h2⟩ | h1 | ⟨h1, h2, h3⟩
    · exact Or.inl ⟨Or.inl (by omega), h2⟩
    · exact Or.inl ⟨Or.inr (by omega), h2⟩
    · exact Or.inr (Or.inl ⟨by omega, h2⟩)
    · exact Or.inr (Or.inr (Or.inl ⟨by omega, h2, by omega⟩))
    · exact Or.inr (Or.inr (Or.inr (Or.inl ⟨by omega, h2⟩)))
    · exact Or.inr (Or.inr (Or.inr (Or.inr (Or.inl (by omega)))))
    · exact Or.inr (Or.inr (Or.inr (Or.inr (Or.inr ⟨by omega, by omega, h3⟩))))
theorem pr_snoc : ∀ (ts : List Tok) (t : Tok), ts ≠ [] → pr (ts ++ [t]) = pr ts ++ 32 :: wr t := by
  intro ts
  induction ts with
  | nil => intro t h; exact absurd rfl h
  | cons a r ih =>
    intro t _
    cases r with
    | nil => rfl
    | cons b r =>
      show wr a ++ 32 :: pr ((b :: r) ++ [t]) = (wr a ++ 32 :: pr (b :: r)) ++ 32 :: wr t
      rw [ih t (by simp)]
      simp
theorem own_congrF {w w' : World} {base : Nat} {v : Value} {n : Nat} {xs : List Value} (h : w.ownsRowF base 5 1 v n xs) (b : Bl w w') : w'.ownsRowF base 5 1 v n xs := by
  refine ⟨h.1, ?_⟩
  rcases h.2 with h2 | ⟨g, cap, cur, fz, rfl, h1, h2, h3⟩
  · exact Or.inl h2
  · exact Or.inr ⟨g, cap, cur, fz, rfl, h1, (b.block g (lt_of_heap h2)).trans h2, h3⟩
theorem bld_keep {w w' : World} {B b : Nat} {bs : List Value} (h : Lib.IsBuilderF 63 5 B b bs w) (k : Bl w w') : Lib.IsBuilderF 63 5 B b bs w' := by
  have key : ∀ p, Lib.BuilderAtF 63 5 B b p bs w → Lib.BuilderAtF 63 5 B b p bs w' := fun p ⟨hB, v, hb, ho, hn⟩ => ⟨hB, v, (k.block b (lt_of_heap hb)).trans hb, own_congrF ho k, hn⟩
  rcases h with h | h
  · exact Or.inl (key _ h)
  · exact Or.inr (key _ h)
theorem bld_new (w : World) : Lib.IsBuilderF 63 5 w.heap.size w.heap.size [] (w.alloc (.cells #[.pointer none, .slice none 0 0] 63)) :=
  Lib.IsBuilderF.of (Or.inl ⟨Nat.le_refl _, .slice none 0 0, heap_alloc_new w _, World.ownsRow_nil _ _ _ _, by simp [Value.ownBlock]⟩)
end Go.Proofs.YtjbacibicnfaeaaDoor
