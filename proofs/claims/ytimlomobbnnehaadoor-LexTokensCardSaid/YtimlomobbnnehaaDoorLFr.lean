import Derived.Test.YtimlomobbnnehaaDoorLTokC
import Derived.Test.YtimlomobbnnehaaDoorLSame
import Derived.Deep.DeepAppendWide
import Derived.Laws.AppendOwn
namespace Go.Proofs.YtimlomobbnnehaaDoor
open Go.RowKit Go.Maps Go.WideMaps
set_option linter.unusedVariables false
set_option linter.unusedSimpArgs false
/-- all blocks but those of S are as they were -/
structure Fr (S : List Nat) (w w' : World) : Prop where
  os : w'.os = w.os
  tape : w'.tape = w.tape
  output : w'.output = w.output
  size : w.heap.size ≤ w'.heap.size
  block : ∀ k, k < w.heap.size → k ∉ S → w'.heap[k]? = w.heap[k]?
namespace Fr
theorem refl (S : List Nat) (w : World) : Fr S w w := ⟨rfl, rfl, rfl, Nat.le_refl _, fun _ _ _ => rfl⟩
theorem trans {S S' : List Nat} {w w' w'' : World} (h : Fr S w w') (k : Fr S' w' w'') (hs : ∀ b ∈ S', b ∈ S ∨ w.heap.size ≤ b) : Fr S w w'' :=
  ⟨k.os.trans h.os, k.tape.trans h.tape, k.output.trans h.output, Nat.le_trans h.size k.size, fun i hi hn => by
    rw [k.block i (Nat.lt_of_lt_of_le hi h.size) (fun hm => by rcases hs i hm with h1 | h1; exact hn h1; omega)]
    exact h.block i hi hn⟩
theorem mono {S S' : List Nat} {w w' : World} (h : Fr S w w') (hs : ∀ b ∈ S, b ∈ S' ∨ w.heap.size ≤ b) : Fr S' w w' :=
  ⟨h.os, h.tape, h.output, h.size, fun k hk hn => h.block k hk (fun hm => by rcases hs k hm with h1 | h1; exact hn h1; omega)⟩
theorem drew (S : List Nat) (w : World) : Fr S w w.drew := ⟨rfl, rfl, rfl, Nat.le_refl _, fun _ _ _ => rfl⟩
theorem drewN (S : List Nat) (w : World) (n : Nat) : Fr S w (w.drewN n) := ⟨rfl, rfl, rfl, Nat.le_refl _, fun _ _ _ => rfl⟩
theorem alloc (S : List Nat) (w : World) (o : Obj) : Fr S w (w.alloc o) := ⟨rfl, rfl, rfl, by simp, fun k hk _ => Below.heap_alloc _ _ _ hk⟩
theorem setCell {S : List Nat} (w : World) (a : Addr) (v : Value) (h : a.block ∈ S) : Fr S w (w.setCell a v) :=
  ⟨rfl, rfl, rfl, by simp, fun k hk hn => Below.heap_setCell _ _ _ _ (fun e => hn (by rw [e]; exact h))⟩
theorem grown {S : List Nat} {w w' : World} {row : Option Nat} (h : w.grownBy w' row) (hr : ∀ k, row = some k → k ∈ S) : Fr S w w' :=
  ⟨h.os, h.tape, h.output, h.size, fun k hk hn => h.block k hk (fun e => hn (hr k e.symm))⟩
theorem bl {w w' : World} {S : List Nat} (h : Fr S w w') (hS : ∀ b ∈ S, w.heap.size ≤ b) : Bl w w' :=
  ⟨h.os, h.tape, h.output, h.size, fun k hk => h.block k hk (fun hm => by have := hS k hm; omega)⟩
theorem ofBl {w w' : World} (h : Bl w w') (S : List Nat) : Fr S w w' := ⟨h.os, h.tape, h.output, h.size, fun k hk _ => h.block k hk⟩
end Fr
def blk (o : Option Addr) : List Nat := match o with | some a => [a.block] | none => []
theorem own_congr {w w' : World} {base : Nat} {e : TypeId} {size : Nat} {v : Value} {n : Nat} {xs : List Value} (h : w.ownsRow base e size v n xs)
    (hb : ∀ g, v.ownBlock = some g → w'.heap[g]? = w.heap[g]?) : w'.ownsRow base e size v n xs := by
  refine ⟨h.1, ?_⟩
  rcases h.2 with ⟨rfl, h2⟩ | ⟨g, cap, cur, rfl, h1, h2, h3⟩
  · exact Or.inl ⟨rfl, h2⟩
  · exact Or.inr ⟨g, cap, cur, rfl, h1, (hb g rfl).trans h2, h3⟩
theorem own_lt {w : World} {base : Nat} {e : TypeId} {size : Nat} {v : Value} {n : Nat} {xs : List Value} (h : w.ownsRow base e size v n xs) (g : Nat) (hg : v.ownBlock = some g) : base ≤ g ∧ g < w.heap.size := by
  rcases h.2 with ⟨rfl, h2⟩ | ⟨g', cap, cur, rfl, h1, h2, h3⟩
  · cases hg
  · have : g' = g := by simpa [Value.ownBlock] using hg
    subst this
    exact ⟨h1, (Array.getElem?_eq_some_iff.1 h2).1⟩
theorem blk_own (p : Option Addr) (n c g : Nat) : g ∈ blk p ↔ (Value.slice p n c).ownBlock = some g := by
  cases p with
  | none => simp [blk, Value.ownBlock]
  | some a => simp [blk, Value.ownBlock, eq_comm]
theorem own_slice {w : World} {base : Nat} {e : TypeId} {size : Nat} {v : Value} {n : Nat} {xs : List Value} (h : w.ownsRow base e size v n xs) : ∃ p c, v = .slice p n c := by
  rcases h.2 with ⟨rfl, h2⟩ | ⟨g', cap, cur, rfl, h1, h2, h3⟩
  · exact ⟨none, 0, by rw [h2]⟩
  · exact ⟨_, _, rfl⟩
/-- one more token behind a row: in its own block, or in a new one and the old one stays -/
theorem push4 (w : World) (base : Nat) (p : Option Addr) (c n : Nat) (xs x : List Value) (h4 : x.length = 4) (h : w.ownsRow base 41 4 (.slice p n c) n xs) (hx : ∀ u ∈ x, u.oneCell' = true) (hn : n + 1 ≤ 2199023255552) (hB : base ≤ w.heap.size) :
    ∃ p' c' w', (Builtin.append_ #[22, 22] 22 #[.slice p n c, .slice (some ⟨w.heap.size, 0, none⟩) 1 1]).run Tryd.prog (w.alloc (.cells x.toArray 41)) = .ok (.slice p' (n + 1) c') w' ∧
      w'.ownsRow base 41 4 (.slice p' (n + 1) c') (n + 1) (xs ++ x) ∧ ((p' = p ∧ c' = c ∧ Fr (blk p) w w') ∨ (Fr [] w w' ∧ ∀ g ∈ blk p', w.heap.size ≤ g)) := by
  obtain ⟨i, hi, hz, hsize, hby⟩ := info_parts info30
  have hA : (w.alloc (.cells x.toArray 41)).heap.size = w.heap.size + 1 := by simp
  have hown : (w.alloc (.cells x.toArray 41)).ownsRow base 41 4 (.slice p n c) n xs := own_congr h (fun g hg => Below.heap_alloc _ _ _ (own_lt h g hg).2)
  have hnews : ∀ j u, x[j]? = some u → (w.alloc (.cells x.toArray 41)).cell? ((⟨w.heap.size, 0, none⟩ : Addr).add j) = some u := by
    have := World.news_of_block (heap_alloc_new w (.cells x.toArray 41))
    simpa using this
  have h63 : n + 1 ≤ maxLen := by unfold maxLen; omega
  have hb : ((n + 1) + (n + 1) / 4 + 192) * 40 ≤ 281474976710656 := by omega
  obtain ⟨v', w', hr, h2, h3, _⟩ := run_append_own_wide (P := Tryd.prog) (w.alloc (.cells x.toArray 41)) base 22 22 41 i _ 4 40 Tryd.underlying22 hi hz hsize hby rfl (by decide) _ _ _ hown ⟨w.heap.size, 0, none⟩ 1 1 x (by rw [h4]) hnews hx h63 hb (by omega)
  rcases h.2 with ⟨e1, e2⟩ | ⟨g, c0, cur, e1, q1, q2, q3, q4, q5, q6⟩
  · injection e1 with e1 e3 e4
    subst e1
    subst e4
    subst e2
    have hnil : xs = [] := List.length_eq_zero_iff.1 (by rw [h.1])
    subst hnil
    have hr2 := run_append_nil (P := Tryd.prog) (w.alloc (.cells x.toArray 41)) 22 22 41 i _ Tryd.underlying22 hi hz ⟨w.heap.size, 0, none⟩ 1 1 x (by rw [hsize, h4]) hnews (by decide) (by decide) (by rw [hby]; decide)
    have hr3 := hr
    rw [hr2] at hr3
    injection hr3 with hv hw
    subst hv
    subst hw
    exact ⟨_, _, _, hr, h2, Or.inr ⟨(Fr.alloc [] w _).trans ((Fr.drew [] _).trans (Fr.alloc [] _ _) (by simp)) (by simp), fun g hg => by simp [blk] at hg; omega⟩⟩
  · injection e1 with e1 _ e4
    subst e1
    subst e4
    by_cases hroom : n + 1 ≤ c
    · have hg : (w.alloc (.cells x.toArray 41)).heap[g]? = some (.cells cur 41 (0, 0)) := (Below.heap_alloc _ _ _ (lt_of_heap q2)).trans q2
      have hr2 := run_append_room (P := Tryd.prog) (w.alloc (.cells x.toArray 41)) 22 22 41 i Tryd.underlying22 hi g n c cur hg ⟨w.heap.size, 0, none⟩ 1 1 x (by rw [hsize, h4]) hnews hx hroom (by rw [hsize, q5, h4]; omega)
      have hr3 := hr
      rw [hr2] at hr3
      injection hr3 with hv hw
      subst hv
      refine ⟨_, _, w', hr, h2, Or.inl ⟨rfl, rfl, (Fr.alloc (blk (some ⟨g, 0, none⟩)) w _).trans (Fr.grown (S := [g]) h3 (fun k hk => ?_)) (by simp [blk])⟩⟩
      simp [Value.ownBlock] at hk
      simp [hk]
    · have holds : ∀ j u, xs[j]? = some u → (w.alloc (.cells x.toArray 41)).cell? ((⟨g, 0, none⟩ : Addr).add j) = some u := hown.cells (g := g) rfl
      have hr2 := run_append_grow (P := Tryd.prog) (w.alloc (.cells x.toArray 41)) 22 22 41 i _ Tryd.underlying22 hi hz ⟨g, 0, none⟩ n c xs (by rw [hsize]; exact h.1) holds ⟨w.heap.size, 0, none⟩ 1 1 x (by rw [hsize, h4]) hnews (by omega) (by unfold maxLen at h63; omega) (by rw [hby]; exact growslice_fits_wide (by omega) hb)
      have hr3 := hr
      rw [hr2] at hr3
      injection hr3 with hv hw
      subst hv
      subst hw
      exact ⟨_, _, _, hr, h2, Or.inr ⟨(Fr.alloc [] w _).trans ((Fr.drew [] _).trans (Fr.alloc [] _ _) (by simp)) (by simp), fun g hg => by simp [blk] at hg; omega⟩⟩
end Go.Proofs.YtimlomobbnnehaaDoor
