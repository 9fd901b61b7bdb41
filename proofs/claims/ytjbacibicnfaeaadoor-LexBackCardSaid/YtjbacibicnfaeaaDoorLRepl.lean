import Derived.Test.YtjbacibicnfaeaaDoorLPrint
import Derived.Lib.Replace
import Derived.Lib.CountLaws
namespace Go.Proofs.YtjbacibicnfaeaaDoor
open Go.RowKit Go.Maps
set_option linter.unusedVariables false
set_option linter.unusedSimpArgs false
theorem index_q (b : UInt8) (l : Bs) : Lib.index (b :: l) [39] = if b = 39 then 0 else if Lib.index l [39] == -1 then -1 else Lib.index l [39] + 1 := by
  conv => lhs; unfold Lib.index
  by_cases h : b = 39
  · subst h
    rfl
  · rw [if_neg h, if_neg (by simp [List.isPrefixOf]; exact fun e => h e.symm)]
theorem repl_qt : ∀ s : Bs, Lib.replaceK [39] [39, 39] (Lib.count s [39]) s = qt s := by
  intro s
  induction s with
  | nil => rfl
  | cons b l ih =>
    rw [qt_cons]
    have hx := index_q b l
    by_cases h : b = 39
    · subst h
      rw [if_pos rfl] at hx
      rw [Lib.count_hit (i := 0) (by simp) hx, Nat.add_comm, Lib.replaceK_hit _ _ _ _ 0 hx]
      show [39, 39] ++ Lib.replaceK [39] [39, 39] (Lib.count l [39]) l = _
      rw [ih]
      rfl
    · have h39 : ¬ b.toNat = 39 := fun e => h (UInt8.toNat_inj.1 e)
      rw [if_neg h] at hx
      rw [if_neg h39]
      by_cases hm : Lib.index l [39] = -1
      · rw [if_pos (by rw [hm]; rfl)] at hx
        rw [Lib.count_miss hx]
        rw [Lib.count_miss hm] at ih
        show b :: l = b :: qt l
        rw [← ih]
        rfl
      · rw [if_neg (by simpa using hm)] at hx
        obtain ⟨j, hj⟩ : ∃ j : Nat, Lib.index l [39] = j := ⟨(Lib.index l [39]).toNat, by have := Lib.index_ge l [39]; omega⟩
        have hx2 : Lib.index (b :: l) [39] = ((j + 1 : Nat) : Int) := by rw [hx, hj]; rfl
        rw [Lib.count_hit (by simp) hx2, Nat.add_comm, Lib.replaceK_hit _ _ _ _ (j + 1) hx2]
        rw [Lib.count_hit (by simp) hj, Nat.add_comm, Lib.replaceK_hit _ _ _ _ j hj] at ih
        show b :: (l.take j ++ [39, 39] ++ Lib.replaceK [39] [39, 39] (Lib.count (l.drop (j + 1)) [39]) (l.drop (j + 1))) = b :: qt l
        rw [← ih]
        rfl
theorem replaceAll_qt (s : Bs) : Lib.replaceAll s [39] [39, 39] = qt s := by
  unfold Lib.replaceAll Lib.replace Lib.replaceNum
  rw [if_neg (by decide), if_pos (Or.inl (by decide))]
  exact repl_qt s
theorem qt_len (s : Bs) : (qt s).length ≤ 2 * s.length := by
  induction s with
  | nil => simp [qt]
  | cons c r ih =>
    rw [qt_cons, List.length_append, List.length_cons]
    split <;> simp <;> omega
end Go.Proofs.YtjbacibicnfaeaaDoor
