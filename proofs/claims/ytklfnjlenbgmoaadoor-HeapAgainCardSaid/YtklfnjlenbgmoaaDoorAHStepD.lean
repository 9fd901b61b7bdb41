import Derived.Test.YtklfnjlenbgmoaaDoorAHStepC
namespace Go.Proofs.YtklfnjlenbgmoaaDoor
open Go.RowKit
set_option linter.unusedVariables false
attribute [local go_sem ↓] Go.wp_at_zero Go.wp_at_succ
set_option maxRecDepth 20000 in
set_option maxHeartbeats 1000000 in
theorem step_exch_no1 (O A B C X : Int) (ls : Value) (D : List Nat) (w0 : World) (a m : Nat) (W : World) (l : Lay) (H : HS) (M : MS) (hS : Side D w0 a m W l H M) (hi : Inv H M) (hA : mhas M A = false) :
    Calls Tryd.prog 25 #[.pointer (some ⟨m, 0, none⟩), .pointer (some ⟨a, 0, none⟩), stepV 8 O A B C X ls] W fun e w' => e = .returned (.bool true) ∧ Went D w0 a m H M w' := by
  have hA1 := hS.box (stepO 8 O A B C X ls)
  have HF := mkHid (Exchange_no1 A B a l H _ hA1.side.rep (by rw [hi.hasM]; exact hA))
  have HA := mkHid hA1
  have HI := mkHid hi
  obtain ⟨W1, hW1⟩ : ∃ W1, W1 = W.alloc (stepO 8 O A B C X ls) := ⟨_, rfl⟩
  rw [← hW1] at HF HA
  unfold stepV
  unfold stepO at hW1
  clear hS hi hA1
  go_enter Tryd.func25, Tryd.ntmps25
  go_wp2_with fail
  rw [← hW1]
  refine Calls.mono HF.out ?_
  rintro e w2 ⟨rfl, hf2⟩
  have hA2 := HA.out.idle hf2
  obtain ⟨q2, q3, -, -⟩ := stepO_cells hA2.box
  have HHas := has_ok A m M w2 hA2.side.mrep HI.out.model.len
  rw [hA] at HHas
  have HH := mkHid HHas
  have HE : Hid (Went D w0 a m H M w2) := ⟨l, H, M, hA2.side, HI.out, by omega, Lk.refl _⟩
  clear hf2 hA2 HHas
  go_wp2_with (first | (go_at_call 65; refine Calls.mono HH.out ?_; rintro e w1 ⟨rfl, rfl⟩) | (go_at_call 11; refine (num_any _ _ (by omega) (by omega)).mono ?_; rintro e w1 ⟨rfl, rfl⟩))
  go_ret
  exact ⟨rfl, HE.out⟩
set_option maxRecDepth 20000 in
set_option maxHeartbeats 1000000 in
theorem step_exch_no2 (O B C X : Int) (k : Nat) (ls : Value) (D : List Nat) (w0 : World) (a m : Nat) (W : World) (l : Lay) (H : HS) (M : MS) (hS : Side D w0 a m W l H M) (hi : Inv H M) (hk : k < M.things.length) (hb : (M.things.getD k noTh).there = true) (hB : mhas M B = false) :
    Calls Tryd.prog 25 #[.pointer (some ⟨m, 0, none⟩), .pointer (some ⟨a, 0, none⟩), stepV 8 O ((k : Int) + 1) B C X ls] W fun e w' => e = .returned (.bool true) ∧ Went D w0 a m H M w' := by
  have hA1 := hS.box (stepO 8 O ((k : Int) + 1) B C X ls)
  have hI := hi.is k hk hb
  have HF := mkHid (Exchange_no2 (k + 1) B a l H _ hA1.side.rep hI.has (by rw [hi.hasM]; exact hB))
  rw [show ((k + 1 : Nat) : Int) = (k : Int) + 1 from by omega] at HF
  have HA := mkHid hA1
  have HI := mkHid hi
  obtain ⟨W1, hW1⟩ : ∃ W1, W1 = W.alloc (stepO 8 O ((k : Int) + 1) B C X ls) := ⟨_, rfl⟩
  rw [← hW1] at HF HA
  unfold stepV
  unfold stepO at hW1
  clear hS hi hA1 hI
  go_enter Tryd.func25, Tryd.ntmps25
  go_wp2_with fail
  rw [← hW1]
  refine Calls.mono HF.out ?_
  rintro e w2 ⟨rfl, hf2⟩
  have hA2 := HA.out.idle hf2
  obtain ⟨q2, q3, -, -⟩ := stepO_cells hA2.box
  have HHas := has_ok ((k : Int) + 1) m M w2 hA2.side.mrep HI.out.model.len
  rw [mhas_of k hk hb] at HHas
  have HH := mkHid HHas
  have HHas2 := has_ok B m M w2 hA2.side.mrep HI.out.model.len
  rw [hB] at HHas2
  have HH2 := mkHid HHas2
  have HE : Hid (Went D w0 a m H M w2) := ⟨l, H, M, hA2.side, HI.out, by omega, Lk.refl _⟩
  clear hf2 hA2 HHas HHas2
  go_wp2_with fail
  refine Calls.mono HH.out ?_
  rintro e w1 ⟨rfl, rfl⟩
  go_wp2_with fail
  refine Calls.mono HH2.out ?_
  rintro e w1 ⟨rfl, rfl⟩
  go_wp2_with (go_at_call 11; refine (num_any _ _ (by omega) (by omega)).mono ?_; rintro e w1 ⟨rfl, rfl⟩)
  go_ret
  exact ⟨rfl, HE.out⟩
end Go.Proofs.YtklfnjlenbgmoaaDoor
