import Derived.Test.YtalcnihagnnkaaaDoorKHStepE
import Derived.Test.YtalcnihagnnkaaaDoorKHStepK2
import Derived.Test.YtalcnihagnnkaaaDoorKHMAlloc
namespace Go.Proofs.YtalcnihagnnkaaaDoor
open Go.RowKit
set_option linter.unusedVariables false
attribute [local go_sem ↓] Go.wp_at_zero Go.wp_at_succ
set_option maxRecDepth 20000 in
set_option maxHeartbeats 1000000 in
theorem step_alloc (O A B C X : Int) (ls : Value) (w0 : World) (a m : Nat) (W : World) (l : Lay) (H : HS) (M : MS) (hS : Side w0 a m W l H M) (hi : Inv H M) (hT : Tab w0) (hT2 : Tab64 w0) (h2 : 2 ≤ w0.heap.size) :
    Calls Tryd.prog 25 #[.pointer (some ⟨m, 0, none⟩), .pointer (some ⟨a, 0, none⟩), stepV 1 O A B C X ls] W fun e w' => e = .returned (.bool true) ∧ Went w0 a m H w' := by
  have hA1 := hS.box (stepO 1 O A B C X ls)
  have HF := mkHid (malloc_ok 1 O A B C X ls w0 a m _ l H M hA1.side hi hT hT2 h2)
  obtain ⟨W1, hW1⟩ : ∃ W1, W1 = W.alloc (stepO 1 O A B C X ls) := ⟨_, rfl⟩
  rw [← hW1] at HF
  unfold stepV at HF ⊢
  unfold stepO at hW1
  clear hS hi hA1
  go_enter Tryd.func25, Tryd.ntmps25
  go_wp2_with fail
  rw [← hW1]
  refine Calls.mono HF.out ?_
  rintro e w2 ⟨rfl, h6⟩
  have HE := mkHid h6
  clear h6
  go_wp2_with fail
  go_ret
  exact ⟨rfl, HE.out⟩
set_option maxRecDepth 20000 in
set_option maxHeartbeats 1000000 in
theorem step_keep (O A B C X : Int) (zs : List Int) (ao : Option Addr) (c : Nat) (w0 : World) (a m : Nat) (W : World) (l : Lay) (H : HS) (M : MS) (hS : Side w0 a m W l H M) (hi : Inv H M) (hL : LsAt w0 ao c zs) (hage : H.age ≤ 1000000000) :
    Calls Tryd.prog 25 #[.pointer (some ⟨m, 0, none⟩), .pointer (some ⟨a, 0, none⟩), stepV 11 O A B C X (.slice ao zs.length c)] W fun e w' => e = .returned (.bool true) ∧ Went w0 a m H w' := by
  have hA1 := hS.box (stepO 11 O A B C X (.slice ao zs.length c))
  have hF : Calls Tryd.prog 67 #[.pointer (some ⟨m, 0, none⟩), .pointer (some ⟨a, 0, none⟩), .slice ao zs.length c] (W.alloc (stepO 11 O A B C X (.slice ao zs.length c))) fun e w' => e = .returned (.bool true) ∧ Went w0 a m H w' := by
    cases hall : zs.all (mhas M) with
    | false => exact mkeep_no zs ao c w0 a m _ l H M hA1.side hi hL hall
    | true =>
      obtain ⟨ks, hk1, hk2⟩ := all_nat M zs hall
      have := mkeep_in ks ao c w0 a m _ l H M hA1.side hi (by rw [← hk1]; exact hL) hk2 hage
      rw [show zs.length = ks.length from by rw [hk1, List.length_map]] at this ⊢
      exact this
  have HF := mkHid hF
  obtain ⟨W1, hW1⟩ : ∃ W1, W1 = W.alloc (stepO 11 O A B C X (.slice ao zs.length c)) := ⟨_, rfl⟩
  rw [← hW1] at HF
  unfold stepV
  unfold stepO at hW1
  clear hS hi hA1 hF hL
  generalize zs.length = zn at *
  go_enter Tryd.func25, Tryd.ntmps25
  go_wp2_with fail
  rw [← hW1]
  refine Calls.mono HF.out ?_
  rintro e w2 ⟨rfl, h6⟩
  have HE := mkHid h6
  clear h6
  go_wp2_with fail
  go_ret
  exact ⟨rfl, HE.out⟩
/-- a step, whatever it is -/
theorem step_any (K O A B C X : Int) (zs : List Int) (ao : Option Addr) (c : Nat) (w0 : World) (a m : Nat) (W : World) (l : Lay) (H : HS) (M : MS) (hS : Side w0 a m W l H M) (hi : Inv H M) (hL : LsAt w0 ao c zs) (hage : H.age ≤ 1000000000) (hT : Tab w0) (hT2 : Tab64 w0) (h2 : 2 ≤ w0.heap.size) :
    Calls Tryd.prog 25 #[.pointer (some ⟨m, 0, none⟩), .pointer (some ⟨a, 0, none⟩), stepV K O A B C X (.slice ao zs.length c)] W fun e w' => e = .returned (.bool true) ∧ Went w0 a m H w' := by
  by_cases k1 : K = 1
  · subst k1; exact step_alloc O A B C X _ w0 a m W l H M hS hi hT hT2 h2
  by_cases k2 : K = 2
  · subst k2
    cases hA : isM A with
    | false => exact step_mark_no O A B C X _ w0 a m W l H M hS hi hA
    | true =>
      have := of_decide_eq_true hA
      obtain ⟨n, rfl⟩ : ∃ n : Nat, A = (n : Int) := ⟨A.toNat, by omega⟩
      exact step_mark_in O B C X n _ w0 a m W l H M hS hi (by omega)
  by_cases k3 : K = 3
  · subst k3
    cases hA : mhas M A with
    | false => exact step_free_no O A B C X _ w0 a m W l H M hS hi hA
    | true =>
      obtain ⟨k, rfl, hk, hb⟩ := mhas_yes hA
      exact step_free_in O B C X k _ w0 a m W l H M hS hi hk hb (by omega)
  by_cases k5 : K = 5
  · subst k5
    cases hA : mhas M A with
    | false => exact step_cls_no O A B C X _ w0 a m W l H M hS hi hA
    | true =>
      obtain ⟨k, rfl, hk, hb⟩ := mhas_yes hA
      cases hX : isW X with
      | false => exact step_cls_word O B C X k _ w0 a m W l H M hS hi hk hb hX hT h2
      | true => exact step_cls_in O B C X k _ w0 a m W l H M hS hi hk hb hX hT h2
  by_cases k7 : K = 7
  · subst k7
    cases hA : mhas M A with
    | false => exact step_put_no O A B C X _ w0 a m W l H M hS hi hA
    | true =>
      obtain ⟨k, rfl, hk, hb⟩ := mhas_yes hA
      by_cases hB : B < 0 ∨ ((M.things.getD k noTh).slots.length : Int) ≤ B
      · exact step_put_slot O B C X k _ w0 a m W l H M hS hi hk hb hB
      · obtain ⟨i, rfl⟩ : ∃ i : Nat, B = (i : Int) := ⟨B.toNat, by omega⟩
        cases hX : mayB X ((M.things.getD k noTh).fmt : Int) with
        | false => exact step_put_word O C X k i _ w0 a m W l H M hS hi hk hb (by omega) hX hT h2
        | true => exact step_put_in O C X k i _ w0 a m W l H M hS hi hk hb (by omega) hX hT h2
  by_cases k8 : K = 8
  · subst k8
    cases hA : mhas M A with
    | false => exact step_exch_no1 O A B C X _ w0 a m W l H M hS hi hA
    | true =>
      obtain ⟨x, rfl, hx, bx⟩ := mhas_yes hA
      cases hB : mhas M B with
      | false => exact step_exch_no2 O B C X x _ w0 a m W l H M hS hi hx bx hB
      | true =>
        obtain ⟨y, rfl, hy, by_⟩ := mhas_yes hB
        exact step_exch_in O C X x y _ w0 a m W l H M hS hi hx hy bx by_ (by omega)
  by_cases k11 : K = 11
  · subst k11; exact step_keep O A B C X zs ao c w0 a m W l H M hS hi hL hage
  have f : ∀ j : Int, K ≠ j → (K == j) = false := fun j hj => by simpa using hj
  exact step_other K O A B C X _ w0 a m W l H M hS hi (f 1 k1) (f 2 k2) (f 3 k3) (f 5 k5) (f 7 k7) (f 8 k8) (f 11 k11)
end Go.Proofs.YtalcnihagnnkaaaDoor
