import Derived.Test.YtheolmnjedbjmaaDoorSRw
namespace Go.Proofs.YtheolmnjedbjmaaDoor
open Go.RowKit
set_option linter.unusedVariables false
set_option linter.unusedSimpArgs false
attribute [local go_sem ↓] Go.wp_at_zero Go.wp_at_succ
/-- texts as values -/
def strs (l : List ByteArray) : List Value := l.map Value.string
def mark8 : List ByteArray := List.replicate 8 ⟨#[109, 97, 114, 107]⟩
theorem strs_take (l : List ByteArray) (j : Nat) (hj : j < l.length) : strs (l.take (j + 1)) = strs (l.take j) ++ [.string l[j]] := by
  unfold strs
  rw [List.take_succ_eq_append_getElem hj, List.map_append]
  rfl
theorem mark_take (j : Nat) (hj : j < 8) : mark8.take (j + 1) = mark8.take j ++ [⟨#[109, 97, 114, 107]⟩] := by
  have h : j = 0 ∨ j = 1 ∨ j = 2 ∨ j = 3 ∨ j = 4 ∨ j = 5 ∨ j = 6 ∨ j = 7 := by omega
  rcases h with rfl | rfl | rfl | rfl | rfl | rfl | rfl | rfl
  all_goals rfl
theorem Pt.bl0 {E : TypeId} {w w' : World} (h : Pt w.heap.size E w w') : Bl w w' := h.below
set_option maxRecDepth 100000 in
set_option maxHeartbeats 4000000 in
theorem twin_ok (W : World) (p : Option Addr) (l : List ByteArray) (c : Nat) (hr : Rs W p l) (hl : l.length ≤ 1048576) : Calls Tryd.prog 20 #[.slice p l.length c] W fun e w' => ∃ v', e = .returned v' ∧ w'.ownsRow W.heap.size 9 1 v' (l.length + 8) (strs (l ++ mark8)) ∧ Bl W w' := by
  have HR := mkHid hr
  clear hr
  go_enter Tryd.func20, Tryd.ntmps20
  go_wp2_with fail
  go_loopw [3, 4] (fun o q wr => ∃ j : Nat, j ≤ l.length ∧ q = .int .i64 (j : Int) ∧ Hid (wr.ownsRow W.heap.size 9 1 o j (strs (l.take j)) ∧ Pt W.heap.size 9 W wr)) (fun _ q _ => l.length - (intOf q).toNat)
  case atStart => exact ⟨0, Nat.zero_le _, rfl, ⟨rfl, Or.inl ⟨rfl, rfl⟩⟩, Pt.refl _ _ _⟩
  case round =>
    obtain ⟨j, hj, rfl, hst⟩ := hrel
    have j0 : (0 : Int) ≤ (j : Int) := by omega
    obtain ⟨ho, hf⟩ := hst.out
    by_cases hlt : j < l.length
    · have j1 : (j : Int) < (l.length : Int) := by omega
      obtain ⟨g, off, rfl, c0⟩ := (HR.out.bl hf.bl0) j hlt
      obtain ⟨v2, w2, hr2, ho2, hf2⟩ := push_str ho hf.below.size l[j] (by omega)
      have HR2 := mkHid hr2
      have HX : Hid (w2.ownsRow W.heap.size 9 1 v2 (j + 1) (strs (l.take (j + 1))) ∧ Pt W.heap.size 9 W w2) := ⟨by rw [strs_take l j hlt]; exact ho2, hf.trans hf2⟩
      clear hst ho hf hr2 ho2 hf2
      generalize l[j] = s at *
      go_wp2_with (at_builtin; refine Lib.wpList_append_run _ rfl (.tmp 12) (.tmp 17) 36 36 rfl _ _ rfl rfl _ _ HR2.out ?_)
      go_roundw
      case rel => exact ⟨j + 1, by omega, by go_num, HX.out⟩
      case measure => simp [intOf]; omega
    · have hie : j = l.length := by omega
      subst hie
      have HW : Hid (wr.ownsRow W.heap.size 9 1 u3 (l.length + 0) (strs (l ++ mark8.take 0)) ∧ Pt W.heap.size 9 W wr) := ⟨by
        rw [List.take_of_length_le (Nat.le_refl _)] at ho
        simpa using ho, hf⟩
      clear hst ho hf
      go_wp2_with fail
      go_loopw [3, 5] (fun o q wr => ∃ j : Nat, j ≤ 8 ∧ q = .int .i64 (j : Int) ∧ Hid (wr.ownsRow W.heap.size 9 1 o (l.length + j) (strs (l ++ mark8.take j)) ∧ Pt W.heap.size 9 W wr)) (fun _ q _ => 8 - (intOf q).toNat)
      case atStart => exact ⟨0, Nat.zero_le _, rfl, HW.out⟩
      case round =>
        clear HW
        obtain ⟨j, hj, rfl, hst⟩ := hrel
        have j0 : (0 : Int) ≤ (j : Int) := by omega
        obtain ⟨ho, hf⟩ := hst.out
        by_cases hlt : j < 8
        · have j1 : (j : Int) < 8 := by omega
          obtain ⟨v2, w2, hr2, ho2, hf2⟩ := push_str ho hf.below.size ⟨#[109, 97, 114, 107]⟩ (by omega)
          have HR2 := mkHid hr2
          have HX : Hid (w2.ownsRow W.heap.size 9 1 v2 (l.length + (j + 1)) (strs (l ++ mark8.take (j + 1))) ∧ Pt W.heap.size 9 W w2) := ⟨by
            rw [mark_take j hlt, ← List.append_assoc]
            unfold strs
            rw [List.map_append]
            exact ho2, hf.trans hf2⟩
          clear hst ho hf hr2 ho2 hf2
          go_wp2_with (at_builtin; refine Lib.wpList_append_run _ rfl (.tmp 23) (.tmp 24) 36 36 rfl _ _ rfl rfl _ _ HR2.out ?_)
          go_roundw
          case rel => exact ⟨j + 1, by omega, by go_num, HX.out⟩
          case measure => simp [intOf]; omega
        · have hie : j = 8 := by omega
          subst hie
          have HX : Hid (wr.ownsRow W.heap.size 9 1 u3 (l.length + 8) (strs (l ++ mark8)) ∧ Bl W wr) := ⟨ho, hf.bl0⟩
          clear hst ho hf
          go_wp2_with fail
          go_ret
          exact ⟨u3, rfl, HX.out.1, HX.out.2⟩
end Go.Proofs.YtheolmnjedbjmaaDoor
