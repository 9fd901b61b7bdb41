import Derived.Test.YtkmjimdaimbdfaaDoorSVBeg
import Derived.Test.YtkmjimdaimbdfaaDoorSG32HTable
namespace Go.Proofs.YtkmjimdaimbdfaaDoor
open Go.RowKit Go.Maps
set_option linter.unusedVariables false
set_option linter.unusedSimpArgs false
attribute [local go_sem ↓] Go.wp_at_zero Go.wp_at_succ
/-- how the mark, the count and the flag hang together -/
def MkR (k m made : Nat) (hit : Bool) : Prop := (hit = false ∧ ((k = 0 ∧ m = 0) ∨ (made < k ∧ m = k - made))) ∨ (hit = true ∧ 0 < k ∧ m = 0 ∧ k - 1 ≤ made)
theorem MkR.hitIs {k m made : Nat} {hit : Bool} (h : MkR k m made hit) : hit = (decide (0 < k) && decide (m = 0)) := by
  rcases h with ⟨rfl, ⟨h1, h2⟩ | ⟨h1, h2⟩⟩ | ⟨rfl, h1, h2, h3⟩
  · rw [decide_eq_false (show ¬ 0 < k by omega)]; rfl
  · rw [decide_eq_false (show ¬ m = 0 by omega), Bool.and_false]
  · rw [decide_eq_true h1, decide_eq_true h2]; rfl
/-- what stands between Begin and its end; B: the space behind Begin, W0: the world ahead of the allocations -/
structure Bk (W0 w : World) (s a : Nat) (l0 l : Lay) (B X : SpS) (made : Nat) : Prop where
  spc : Spc w s a l X
  fr : Fr (foot a l0) W0 w
  newl : ∀ g ∈ foot a l, g ∈ foot a l0 ∨ W0.heap.size ≤ g
  ext : Ext B.M X.M
  age : X.H.age = B.H.age
  words : X.words = B.words
  oops : X.oops = B.oops
  root : X.root = B.root
  st : X.st = B.st
  sv : X.sv = B.sv
  br : X.br = B.br
  keys : ∃ new, X.ks = B.ks ++ new ∧ new.length = made
section
variable {W0 w : World} {s a : Nat} {l0 l : Lay} {B X : SpS} {made : Nat}
theorem Bk.idle {w' : World} (h : Bk W0 w s a l0 l B X made) (hf : Fr [] w w') : Bk W0 w' s a l0 l B X made :=
  ⟨h.spc.idle hf, h.fr.trans hf (by simp), h.newl, h.ext, h.age, h.words, h.oops, h.root, h.st, h.sv, h.br, h.keys⟩
/-- an allocation in brackets -/
theorem Bk.alloc {k : Nat} {hit : Bool} (h : Bk W0 w s a l0 l B X made) (hmk : MkR k X.mark made hit) (hbr : B.br ≠ none) (nn ff : Nat) (hnn : nn ≤ 8192) (hff : ff ≤ 1) (hT : Tab w) (hT0 : 0 < w.heap.size) (hT2 : ∀ V, Fr [] w V → Tab64 V) (ha : 2 ≤ a) :
    Calls Tryd.prog 18 #[.pointer (some ⟨s, 0, none⟩), .int .i64 8, .int .i64 (nn : Int), .int .i64 (ff : Int)] w fun e w' => ∃ (q E : Int) (l' : Lay) (X' : SpS) (made' : Nat) (hit' : Bool), e = .returned (.tuple #[.int .i64 q, .int .i64 E]) ∧ Bk W0 w' s a l0 l' B X' made' ∧ MkR k X'.mark made' hit' ∧ hit' = (hit || (E == 24)) ∧ made' = (if E = 0 then made + 1 else made) ∧ 0 ≤ E ∧ E ≤ 100 := by
  have herr := aErrK_small X.words X.oops X.mark X.ks 8 nn ff (by decide) hnn hff
  refine (salloc_once h.spc 8 nn ff hT hT0 hT2 ha (.inr (by rw [h.br]; exact hbr))).mono ?_
  rintro e w' ⟨V, hfV, hq⟩
  have hsz := hfV.size
  have hszW := h.fr.size
  rcases hq with ⟨g1, g2, H2, M2, g3, g4, g5, g6⟩ | ⟨g1, q, l', H2, M2, g2, g3, g4, g5, g6, g7, g8⟩
  · rw [herr] at g1 g2
    have hbk : ∀ m', Spc w' s a l { X with mark := m', H := H2, M := M2 } → Bk W0 w' s a l0 l B { X with mark := m', H := H2, M := M2 } made := fun m' hs =>
      ⟨hs, (h.fr.trans hfV (by simp)).trans g6.1 (fun g hg => h.newl g hg), h.newl, h.ext.trans g4, g5.trans h.age, h.words, h.oops, h.root, h.st, h.sv, h.br, h.keys⟩
    by_cases c1 : X.oops = X.ks.length ∨ (X.words : Int) - endK X.ks < lenOf (nn : Int) (ff : Int)
    · rw [if_pos c1] at g2 herr
      have hs3 : Spc w' s a l { X with mark := X.mark, H := H2, M := M2 } := by
        have e1 : (if aErrK X.words X.oops X.mark X.ks 8 (nn : Int) (ff : Int) = 24 then 0 else X.mark) = X.mark := by rw [herr, if_neg (by decide)]
        rw [e1] at g3; exact g3
      refine ⟨0, 23, l, _, made, hit, g2, hbk _ hs3, hmk, by cases hit <;> rfl, rfl, by omega, by omega⟩
    · rw [if_neg c1] at g2 g1 herr
      by_cases c2 : X.mark = 1
      · rw [if_pos c2] at g2 herr
        have hs3 : Spc w' s a l { X with mark := 0, H := H2, M := M2 } := by
          have e1 : (if aErrK X.words X.oops X.mark X.ks 8 (nn : Int) (ff : Int) = 24 then 0 else X.mark) = 0 := by rw [herr, if_pos rfl]
          rw [e1] at g3; exact g3
        refine ⟨0, 24, l, _, made, true, g2, hbk _ hs3, ?_, by cases hit <;> rfl, rfl, by omega, by omega⟩
        right
        rcases hmk with ⟨-, ⟨h1, h2⟩ | ⟨h1, h2⟩⟩ | ⟨-, h1, h2, h3⟩
        · omega
        · exact ⟨rfl, by omega, rfl, by omega⟩
        · omega
      · rw [if_neg c2] at g1
        exact absurd rfl g1
  · rw [herr] at g1
    have c2 : X.mark ≠ 1 := fun c => by
      by_cases c1 : X.oops = X.ks.length ∨ (X.words : Int) - endK X.ks < lenOf (nn : Int) (ff : Int)
      · rw [if_pos c1] at g1; cases g1
      · rw [if_neg c1, if_pos c] at g1; cases g1
    obtain ⟨new, hk1, hk2⟩ := h.keys
    refine ⟨4 * (q : Int), 0, l', { X with mark := X.mark - 1, ks := X.ks ++ [newKey q 8 nn ff], H := H2, M := M2 }, made + 1, hit, g4, ⟨g5, (h.fr.trans hfV (by simp)).trans g8.1 (fun g hg => h.newl g hg), fun g hg => ?_, h.ext.trans g6, g7.trans h.age, h.words, h.oops, h.root, h.st, h.sv, h.br, new ++ [newKey q 8 nn ff], ?_, by simp [hk2]⟩, ?_, by cases hit <;> rfl, rfl, by omega, by omega⟩
    · rcases g8.2 g hg with h1 | h1
      · exact h.newl g h1
      · right; omega
    · show X.ks ++ [newKey q 8 nn ff] = _
      rw [hk1, List.append_assoc]
    · show MkR k (X.mark - 1) (made + 1) hit
      rcases hmk with ⟨e0, ⟨h1, h2⟩ | ⟨h1, h2⟩⟩ | ⟨e0, h1, h2, h3⟩
      · left; exact ⟨e0, .inl ⟨h1, by omega⟩⟩
      · left; exact ⟨e0, .inr ⟨by omega, by omega⟩⟩
      · right; exact ⟨e0, h1, by omega, by omega⟩
end
theorem sps_same : ∀ (A B : SpS), A.words = B.words → A.oops = B.oops → A.root = B.root → A.st = B.st → A.sv = B.sv → ∀ (m : Nat) (k : List Key) (H : HS) (M : MS), ({ A with br := none, mark := m, ks := k, H := H, M := M } : SpS) = { B with br := none, mark := m, ks := k, H := H, M := M } := by
  rintro ⟨_, _, _, _, _, _, _, _, _, _⟩ ⟨_, _, _, _, _, _, _, _, _, _⟩ h1 h2 h3 h4 h5 m k H M
  dsimp only at *
  subst h1 h2 h3 h4 h5
  rfl
/-- how many objects All tells -/
theorem sall_len {w : World} {s a : Nat} {l : Lay} {X : SpS} (h : Spc w s a l X) : Calls Tryd.prog 17 #[.pointer (some ⟨a, 0, none⟩)] w fun e w' => ∃ p c, e = .returned (.slice p X.ks.length c) ∧ Fr [] w w' := by
  refine (All_ok a l X.H w h.rep (by exact h.ka.inv.told.seats)).mono ?_
  rintro e w' ⟨v, rfl, hv, hf⟩
  obtain ⟨pA, cA, rfl⟩ := row_is hv
  have h2 := h.ka.inv.countAll
  have h3 := h.ka.count
  rw [h2, h3]
  exact ⟨pA, cA, rfl, hf⟩
end Go.Proofs.YtkmjimdaimbdfaaDoor
