import Derived.Test.YtclkoffnjiiioaaGreatDoorTCSy2
namespace Go.Proofs.YtclkoffnjiiioaaGreatDoor
open Go.RowKit
set_option linter.unusedVariables false
set_option linter.unusedSimpArgs false
attribute [local go_sem ↓] Go.wp_at_zero Go.wp_at_succ
/-- all texts are short -/
inductive SmT : LitT → Prop
  | mk (t : LitT) (h : t.text.size < 140737488355328) (k : ∀ u ∈ t.kids, SmT u) : SmT t
theorem SmT.size {t : LitT} (h : SmT t) : t.text.size < 140737488355328 := by cases h; assumption
theorem SmT.kids {t : LitT} (h : SmT t) : ∀ u ∈ t.kids, SmT u := by cases h; assumption
theorem lits_set (l : List LitT) : ∀ (i : Nat) (t : LitT) (x : ByteArray) (n : Int) (ks : List LitT), l[i]? = some t → ks.length = t.kids.length → ((litCells l).set (i * 4 + 2) (.int .i64 n)).set (i * 4 + 1) (.string x) = litCells (l.set i (.mk t.kind x n t.p t.c ks)) := by
  induction l with
  | nil => intro i t x n ks h; simp at h
  | cons q l ih =>
    intro i t x n ks h hk
    have e : ∀ (a : LitT) (b : List LitT), litCells (a :: b) = litc a ++ litCells b := fun a b => by simp [litCells]
    cases i with
    | zero =>
      simp at h
      subst h
      rw [List.set_cons_zero, e, e]
      show ([Value.int .i64 q.kind, .string q.text, .int .i64 q.num, q.items] ++ litCells l |>.set 2 _ |>.set 1 _) = [Value.int .i64 q.kind, .string x, .int .i64 n, Value.slice q.p ks.length q.c] ++ litCells l
      rw [hk]
      rfl
    | succ i =>
      rw [List.set_cons_succ, e, e, List.set_append_right _ _ (by simp [litc]; omega), show (i + 1) * 4 + 2 - (litc q).length = i * 4 + 2 by simp [litc]; omega, List.set_append_right _ _ (by simp [litc]; omega), show (i + 1) * 4 + 1 - (litc q).length = i * 4 + 1 by simp [litc]; omega]
      rw [ih i t x n ks (by simpa using h) hk]
end Go.Proofs.YtclkoffnjiiioaaGreatDoor


