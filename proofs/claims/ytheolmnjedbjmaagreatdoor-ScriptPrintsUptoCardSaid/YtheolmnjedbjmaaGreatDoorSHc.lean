import Derived.Test.YtheolmnjedbjmaaGreatDoorGG
namespace Go.Proofs.YtheolmnjedbjmaaGreatDoor
open Go.RowKit
set_option linter.unusedVariables false
set_option linter.unusedSimpArgs false
/-- the first error -/
def errP : List AK → Option Int
  | [] => none
  | a :: l => if (paP a).2 = 0 then errP l else some (paP a).2
theorem errP_step : ∀ (l : List AK) (i : Nat) (hi : i < l.length), errP (l.take i) = none → (paP l[i]).2 = 0 → errP (l.take (i + 1)) = none
  | [], i, hi, _, _ => by simp at hi
  | a :: l, 0, hi, _, h => by
    have h2 : (paP a).2 = 0 := h
    simp only [List.take_succ_cons, List.take_zero, errP]
    rw [if_pos h2]
  | a :: l, i + 1, hi, h, h2 => by
    rw [List.take_succ_cons] at h ⊢
    unfold errP at h ⊢
    split at h
    · rename_i h3
      rw [if_pos h3]
      exact errP_step l i (by simpa using hi) h (by simpa using h2)
    · cases h
theorem errP_stop : ∀ (l : List AK) (i : Nat) (hi : i < l.length), errP (l.take i) = none → (paP l[i]).2 ≠ 0 → errP l = some (paP l[i]).2
  | [], i, hi, _, _ => by simp at hi
  | a :: l, 0, hi, _, h => by
    have h2 : ¬ (paP a).2 = 0 := h
    unfold errP
    rw [if_neg h2]
    rfl
  | a :: l, i + 1, hi, h, h2 => by
    rw [List.take_succ_cons] at h
    unfold errP at h ⊢
    split at h
    · rename_i h3
      rw [if_pos h3]
      have := errP_stop l i (by simpa using hi) h (by simpa using h2)
      rw [this]
      rfl
    · cases h
def lineP (a : AK) : Bs := (paP a).1.data.toList ++ [10]
def textP (l : List AK) : Bs := l.flatMap lineP
theorem textP_step (l : List AK) (i : Nat) (hi : i < l.length) : textP (l.take (i + 1)) = textP (l.take i) ++ lineP l[i] := by
  unfold textP
  rw [List.take_succ_eq_append_getElem hi, List.flatMap_append]
  simp
def roomB (ws os : Int) : Bs := [114, 111, 111, 109, 32] ++ Lib.itoa ws ++ [32] ++ Lib.itoa os ++ [10]
/-- what Print answers -/
def printP (ws os : Int) (l : List AK) : ByteArray × Int := match errP l with
  | some e => (⟨#[]⟩, e)
  | none => if 20000 < l.length + 1 then (⟨#[]⟩, 246) else (ba (roomB ws os ++ textP l), 0)
theorem paP_len (a : AK) : (paP a).1.data.toList.length ≤ 262144 := by
  unfold paP
  split
  · simp
  · split
    · simp
    · split
      · simp
      · rename_i h
        unfold isL at h
        simp at h
        rw [ba_data]
        exact h.2
theorem lineP_len (a : AK) : (lineP a).length ≤ 262145 := by
  have := paP_len a
  unfold lineP
  rw [List.length_append, List.length_singleton]
  omega
theorem textP_len (l : List AK) : (textP l).length ≤ l.length * 262145 := by
  induction l with
  | nil => simp [textP]
  | cons a l ih =>
    have h := lineP_len a
    unfold textP at ih ⊢
    rw [List.flatMap_cons, List.length_append, List.length_cons]
    omega
theorem line_add (s : ByteArray) : s ++ (⟨#[10]⟩ : ByteArray) = ba (s.data.toList ++ [10]) := by
  apply ByteArray.ext
  rw [ByteArray.data_append]
  apply Array.toList_inj.1
  simp [ba]
/-- what is on the page behind i acts -/
def pageP (ws os : Int) (l : List AK) (i : Nat) : Bs := roomB ws os ++ (if l.length + 1 ≤ 20000 then textP (l.take i) else [])
theorem pageP_len (ws os : Int) (hw : -9223372036854775808 ≤ ws ∧ ws ≤ 9223372036854775807) (ho : -9223372036854775808 ≤ os ∧ os ≤ 9223372036854775807) (l : List AK) (i : Nat) : (pageP ws os l i).length ≤ 6000000000 := by
  have h1 := itoa_le ws hw
  have h2 := itoa_le os ho
  unfold pageP roomB
  split
  · have h3 := textP_len (l.take i)
    rw [List.length_take] at h3
    have h4 : min i l.length * 262145 ≤ 20000 * 262145 := Nat.mul_le_mul_right _ (by omega)
    simp only [List.length_append, List.length_cons, List.length_nil]
    omega
  · simp only [List.length_append, List.length_cons, List.length_nil]
    omega
end Go.Proofs.YtheolmnjedbjmaaGreatDoor
