import Derived.Test.YtheolmnjedbjmaaGreatDoorSM4
import Derived.Test.YtheolmnjedbjmaaGreatDoorSW1
import Derived.Test.YtheolmnjedbjmaaGreatDoorSPa
namespace Go.Proofs.YtheolmnjedbjmaaGreatDoor
open Go.RowKit
set_option linter.unusedVariables false
set_option linter.unusedSimpArgs false
attribute [local go_sem ↓] Go.wp_at_zero Go.wp_at_succ
theorem itoa_le (x : Int) (hx : -9223372036854775808 ≤ x ∧ x ≤ 9223372036854775807) : (Lib.itoa x).length ≤ 20 := by
  have := numsW_len [x] (fun n hn => by simp at hn; subst hn; exact hx)
  simp [numsW] at this
  omega
theorem Sj.num {W w1 : World} {B wb fb : Nat} {C : Array Value} {st : Bool × Bs} (h : Sj W w1 B wb fb C 40 st) (hBw : B ≤ wb) (hBf : B ≤ fb) (hne : wb ≠ fb) (i : Nat) (x : Int) (hi : C[i]? = some (.int .i64 x)) (hx : -9223372036854775808 ≤ x ∧ x ≤ 9223372036854775807) (hn : st.2.length ≤ 1100000) :
    Calls Tryz.prog 159 #[.pointer (some ⟨wb, 0, none⟩), .pointer (some ⟨fb, i, none⟩)] w1 fun e w' => (∃ u, e = .returned u) ∧ Sj W w' B wb fb (C.setIfInBounds i (.int .i64 0)) 40 (numF st x) := by
  obtain ⟨p, c, hw⟩ := h.box
  refine (wnum_ok w1 B wb fb i _ c p st.1 st.2 C 40 x hx hw rfl hBw hBf hne h.hf (by decide) hi hn).mono ?_
  rintro e w' ⟨he, v', h1, h2, h3⟩
  obtain ⟨p', c', rfl⟩ := h1.page.slice
  exact ⟨he, ⟨p', c', h1⟩, h2, h.ch.trans h3⟩
set_option maxRecDepth 100000 in
set_option maxHeartbeats 2000000 in
theorem runW_ok {W w1 : World} {B wb fb : Nat} {C : Array Value} {st : Bool × Bs} (h : Sj W w1 B wb fb C 40 st) (hBw : B ≤ wb) (hBf : B ≤ fb) (hne : wb ≠ fb) (hn : st.2.length ≤ 1000000) (x0 : Int) (hi0 : C[5]? = some (.int .i64 x0)) (hx0 : -9223372036854775808 ≤ x0 ∧ x0 ≤ 9223372036854775807) (x1 : Int) (hi1 : C[6]? = some (.int .i64 x1)) (hx1 : -9223372036854775808 ≤ x1 ∧ x1 ≤ 9223372036854775807) :
    Calls Tryz.prog 104 #[.pointer (some ⟨wb, 0, none⟩), .pointer (some ⟨fb, 0, none⟩)] w1 fun e w' => (∃ u, e = .returned u) ∧ Sj W w' B wb fb (((C).setIfInBounds 5 (.int .i64 0)).setIfInBounds 6 (.int .i64 0)) 40 (numF (numF (st) x0) x1) := by
  have h0 := mkHid h
  have HT0 : Hid (∀ U, Sj W U B wb fb (C) 40 (st) → Calls Tryz.prog 159 #[.pointer (some ⟨wb, 0, none⟩), .pointer (some ⟨fb, 5, none⟩)] U fun e w' => (∃ u, e = .returned u) ∧ Sj W w' B wb fb ((C).setIfInBounds 5 (.int .i64 0)) 40 (numF (st) x0)) := fun U hU => hU.num hBw hBf hne 5 x0 (hi0) hx0 (by omega)
  have HT1 : Hid (∀ U, Sj W U B wb fb ((C).setIfInBounds 5 (.int .i64 0)) 40 (numF (st) x0) → Calls Tryz.prog 159 #[.pointer (some ⟨wb, 0, none⟩), .pointer (some ⟨fb, 6, none⟩)] U fun e w' => (∃ u, e = .returned u) ∧ Sj W w' B wb fb (((C).setIfInBounds 5 (.int .i64 0)).setIfInBounds 6 (.int .i64 0)) 40 (numF (numF (st) x0) x1)) := fun U hU => hU.num hBw hBf hne 6 x1 (by simp [Array.getElem?_setIfInBounds, hi1]) hx1 (by unfold numF; have := itoa_le x0 hx0; simp only [List.length_append, List.length_cons]; omega)
  clear h hi0 hi1
  go_enter Tryz.func104, Tryz.ntmps104
  go_wp2_with (first | (go_at_call 159; refine (HT0.out _ h0.out).mono ?_; rintro e w3 ⟨⟨u, rfl⟩, h3⟩; have HY0 := mkHid h3; clear h3 HT0) | (go_at_call 159; refine (HT1.out _ HY0.out).mono ?_; rintro e w4 ⟨⟨u, rfl⟩, h3⟩; have HY1 := mkHid h3; clear h3 HT1 HY0))
  try go_wp2_with fail
  refine bodyPost_end (results_none rfl _ _ _) rfl ?_
  exact ⟨⟨_, rfl⟩, HY1.out⟩
set_option maxRecDepth 100000 in
set_option maxHeartbeats 2000000 in
theorem numW_ok {W w1 : World} {B wb fb : Nat} {C : Array Value} {st : Bool × Bs} (h : Sj W w1 B wb fb C 40 st) (hBw : B ≤ wb) (hBf : B ≤ fb) (hne : wb ≠ fb) (hn : st.2.length ≤ 1000000) (x0 : Int) (hi0 : C[5]? = some (.int .i64 x0)) (hx0 : -9223372036854775808 ≤ x0 ∧ x0 ≤ 9223372036854775807) :
    Calls Tryz.prog 110 #[.pointer (some ⟨wb, 0, none⟩), .pointer (some ⟨fb, 0, none⟩)] w1 fun e w' => (∃ u, e = .returned u) ∧ Sj W w' B wb fb ((C).setIfInBounds 5 (.int .i64 0)) 40 (numF (st) x0) := by
  have h0 := mkHid h
  have HT0 : Hid (∀ U, Sj W U B wb fb (C) 40 (st) → Calls Tryz.prog 159 #[.pointer (some ⟨wb, 0, none⟩), .pointer (some ⟨fb, 5, none⟩)] U fun e w' => (∃ u, e = .returned u) ∧ Sj W w' B wb fb ((C).setIfInBounds 5 (.int .i64 0)) 40 (numF (st) x0)) := fun U hU => hU.num hBw hBf hne 5 x0 (hi0) hx0 (by omega)
  clear h hi0
  go_enter Tryz.func110, Tryz.ntmps110
  go_wp2_with (first | (go_at_call 159; refine (HT0.out _ h0.out).mono ?_; rintro e w3 ⟨⟨u, rfl⟩, h3⟩; have HY0 := mkHid h3; clear h3 HT0))
  try go_wp2_with fail
  refine bodyPost_end (results_none rfl _ _ _) rfl ?_
  exact ⟨⟨_, rfl⟩, HY0.out⟩
end Go.Proofs.YtheolmnjedbjmaaGreatDoor

