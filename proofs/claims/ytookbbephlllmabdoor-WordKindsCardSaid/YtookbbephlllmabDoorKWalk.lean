import Derived.Test.YtookbbephlllmabDoorKText
import Derived.OpenShut
import Derived.Lib.AppendIntMem
namespace Go.Proofs.YtookbbephlllmabDoor
open Go.ChangeShapes Go.RowKit
set_option linter.unusedVariables false
theorem Int_both (n : Int) : ∃ v e : Int, 0 ≤ e ∧ e ≤ 20 ∧
    (∀ w, Calls Tryd.prog 4 #[.int .i64 n] w fun x w' => x = .returned (.tuple #[.int .i64 v, .int .i64 e]) ∧ w' = w) ∧
    (∀ w, Calls Tryd.prog 5 #[.int .i64 n] w fun x w' => x = .returned (.tuple #[.int .i64 v, .int .i64 e]) ∧ w' = w) := by
  by_cases h : -1073741824 ≤ n ∧ n ≤ 1073741823
  · exact ⟨_, _, by omega, by omega, fun w => Int_in n w h.1 h.2, fun w => rInt_in n w h.1 h.2⟩
  · exact ⟨0, 1, by omega, by omega, fun w => Int_out n w (by omega), fun w => rInt_out n w (by omega)⟩
theorem Symbol_both (n : Int) : ∃ v e : Int, 0 ≤ e ∧ e ≤ 20 ∧
    (∀ w, Calls Tryd.prog 6 #[.int .i64 n] w fun x w' => x = .returned (.tuple #[.int .i64 v, .int .i64 e]) ∧ w' = w) ∧
    (∀ w, Calls Tryd.prog 7 #[.int .i64 n] w fun x w' => x = .returned (.tuple #[.int .i64 v, .int .i64 e]) ∧ w' = w) := by
  by_cases h : 0 ≤ n ∧ n ≤ 4095
  · exact ⟨_, _, by omega, by omega, fun w => Symbol_in n w h.1 h.2, fun w => rSymbol_in n w h.1 h.2⟩
  · exact ⟨0, 1, by omega, by omega, fun w => Symbol_out n w (by omega), fun w => rSymbol_out n w (by omega)⟩
theorem Object_both (n : Int) : ∃ v e : Int, 0 ≤ e ∧ e ≤ 20 ∧
    (∀ w, Calls Tryd.prog 8 #[.int .i64 n] w fun x w' => x = .returned (.tuple #[.int .i64 v, .int .i64 e]) ∧ w' = w) ∧
    (∀ w, Calls Tryd.prog 9 #[.int .i64 n] w fun x w' => x = .returned (.tuple #[.int .i64 v, .int .i64 e]) ∧ w' = w) := by
  by_cases h : 1 ≤ n ∧ n ≤ 65536
  · exact ⟨_, _, by omega, by omega, fun w => Object_in n w h.1 h.2, fun w => rObject_in n w h.1 h.2⟩
  · exact ⟨0, 1, by omega, by omega, fun w => Object_out n w (by omega), fun w => rObject_out n w (by omega)⟩
abbrev Pow (w : World) : Prop := Lib.TabIs Tryd.prog w "internal/strconv.uint64pow10" .u64 Lib.pow10Tab
theorem Text_both (n : Int) : ∃ (l : List UInt8) (e : Int), 0 ≤ e ∧ e ≤ 20 ∧
    (∀ w, Pow w → Calls Tryd.prog 11 #[.int .i64 n] w fun x w' => x = .returned (.tuple #[.string ⟨l.toArray⟩, .int .i64 e]) ∧ ∃ k os, w' = Go.Sort.grow (w.drewN k) os) ∧
    (∀ w, Calls Tryd.prog 12 #[.int .i64 n] w fun x w' => x = .returned (.tuple #[.string ⟨l.toArray⟩, .int .i64 e]) ∧ w' = w) := by
  by_cases h : -1073741824 ≤ n ∧ n ≤ 1073741823
  · exact ⟨_, _, by omega, by omega, fun w hp => Text_in n w hp h.1 h.2, fun w => rText_in n w h.1 h.2⟩
  · exact ⟨[], 1, by omega, by omega, fun w _ => (Text_out n w (by omega)).mono fun x w' hx => ⟨hx.1, 0, #[], by rw [hx.2]; simp [World.drewN]⟩, fun w => rText_out n w (by omega)⟩
theorem Num_both (n : Int) : ∃ v e : Int, 0 ≤ e ∧ e ≤ 20 ∧
    (∀ w, Tab w → Calls Tryd.prog 17 #[.int .i64 n] w fun x w' => x = .returned (.tuple #[.int .i64 v, .int .i64 e]) ∧ w' = w) ∧
    (∀ w, Calls Tryd.prog 18 #[.int .i64 n] w fun x w' => x = .returned (.tuple #[.int .i64 v, .int .i64 e]) ∧ w' = w) := by
  by_cases h : kindOf n = 1
  · exact ⟨_, _, by omega, by omega, fun w hT => Num_yes n w hT h, fun w => rNum_yes n w h⟩
  · exact ⟨0, 10, by omega, by omega, fun w hT => Num_no n w hT h, fun w => rNum_no n w h⟩
theorem Sym_both (n : Int) : ∃ v e : Int, 0 ≤ e ∧ e ≤ 20 ∧
    (∀ w, Tab w → Calls Tryd.prog 19 #[.int .i64 n] w fun x w' => x = .returned (.tuple #[.int .i64 v, .int .i64 e]) ∧ w' = w) ∧
    (∀ w, Calls Tryd.prog 20 #[.int .i64 n] w fun x w' => x = .returned (.tuple #[.int .i64 v, .int .i64 e]) ∧ w' = w) := by
  by_cases h : kindOf n = 2
  · exact ⟨_, _, by omega, by omega, fun w hT => Sym_yes n w hT h, fun w => rSym_yes n w h⟩
  · exact ⟨0, 10, by omega, by omega, fun w hT => Sym_no n w hT h, fun w => rSym_no n w h⟩
theorem Oop_both (n : Int) : ∃ v e : Int, 0 ≤ e ∧ e ≤ 20 ∧
    (∀ w, Tab w → Calls Tryd.prog 21 #[.int .i64 n] w fun x w' => x = .returned (.tuple #[.int .i64 v, .int .i64 e]) ∧ w' = w) ∧
    (∀ w, Calls Tryd.prog 22 #[.int .i64 n] w fun x w' => x = .returned (.tuple #[.int .i64 v, .int .i64 e]) ∧ w' = w) := by
  by_cases h : kindOf n = 3
  · exact ⟨_, _, by omega, by omega, fun w hT => Oop_yes n w hT h, fun w => rOop_yes n w h⟩
  · exact ⟨0, 10, by omega, by omega, fun w hT => Oop_no n w hT h, fun w => rOop_no n w h⟩
theorem block0 {w : World} {i : Nat} {v : Value} (h : w.cell? ⟨0, i, none⟩ = some v) : 0 < w.heap.size := by
  refine Decidable.byContradiction fun hn => ?_
  have : w.heap[0]? = none := Array.getElem?_eq_none (by omega)
  simp [World.cell?, this] at h
theorem Tab_grow {w : World} (h : Tab w) (k : Nat) (os : Array Obj) : Tab (Go.Sort.grow (w.drewN k) os) := by
  have hz := block0 h.1
  have e : ∀ i, (Go.Sort.grow (w.drewN k) os).cell? ⟨0, i, none⟩ = w.cell? ⟨0, i, none⟩ := fun i => by
    rw [Go.Sort.cell?_grow _ _ _ (by simpa using hz)]; rfl
  unfold Tab
  rw [e 0, e 1, e 2, e 3]
  exact h
set_option maxRecDepth 100000 in
set_option maxHeartbeats 4000000 in
theorem kinds_walk (n : Int) (w : World) (hT : Tab w) (hP : Pow w) (w0 : (Lit.int .i64 n).wf = true) :
    Calls Tryd.prog 3 #[.int .i64 n] w fun e w' => e = .returned (.bool true) ∧ Below w.heap.size w w' := by
  obtain ⟨a1, e1, p1, q1, c1, d1⟩ := Int_both n
  obtain ⟨a2, e2, p2, q2, c2, d2⟩ := Symbol_both n
  obtain ⟨a3, e3, p3, q3, c3, d3⟩ := Object_both n
  obtain ⟨l4, e4, p4, q4, c4, d4⟩ := Text_both n
  obtain ⟨a5, e5, p5, q5, c5, d5⟩ := Num_both n
  obtain ⟨a6, e6, p6, q6, c6, d6⟩ := Sym_both n
  obtain ⟨a7, e7, p7, q7, c7, d7⟩ := Oop_both n
  have c8 := kind_any n
  have d8 := rKind_any n
  have c9 := wrap_any n
  have d9 := refWrap_any n
  generalize kindOf n = kk at *
  generalize wr n = ww at *
  have C1 : Hid _ := c1
  have C2 : Hid _ := c2
  have C3 : Hid _ := c3
  have C4 : Hid _ := c4
  have C5 : Hid _ := c5
  have C6 : Hid _ := c6
  have C7 : Hid _ := c7
  have C8 : Hid _ := c8
  have C9 : Hid _ := c9
  have D1 : Hid _ := d1
  have D2 : Hid _ := d2
  have D3 : Hid _ := d3
  have D4 : Hid _ := d4
  have D5 : Hid _ := d5
  have D6 : Hid _ := d6
  have D7 : Hid _ := d7
  have D8 : Hid _ := d8
  have D9 : Hid _ := d9
  have HT : Hid (Tab w) := hT
  have HP : Hid (Pow w) := hP
  clear c1 c2 c3 c4 c5 c6 c7 c8 c9 d1 d2 d3 d4 d5 d6 d7 d8 d9 hT hP w0
  go_enter Tryd.func3, Tryd.ntmps3
  go_wp2_with (first
    | (go_at_call 10; refine (num_any _ _ (by omega) (by omega)).mono ?_; rintro e w' ⟨rfl, rfl⟩)
    | (go_at_call 4; refine (C1.out _).mono ?_; rintro e w' ⟨rfl, rfl⟩)
    | (go_at_call 5; refine (D1.out _).mono ?_; rintro e w' ⟨rfl, rfl⟩)
    | (go_at_call 6; refine (C2.out _).mono ?_; rintro e w' ⟨rfl, rfl⟩)
    | (go_at_call 7; refine (D2.out _).mono ?_; rintro e w' ⟨rfl, rfl⟩)
    | (go_at_call 8; refine (C3.out _).mono ?_; rintro e w' ⟨rfl, rfl⟩)
    | (go_at_call 9; refine (D3.out _).mono ?_; rintro e w' ⟨rfl, rfl⟩))
  refine (C4.out _ HP.out).mono ?_
  rintro e w1 ⟨rfl, k, os, hw1⟩
  have hT1 : Tab w1 := by rw [hw1]; exact Tab_grow HT.out k os
  have hB : Below w'.heap.size w' w1 := by rw [hw1]; exact Go.Lib.below_grow _ _ (Nat.le_refl _) k os
  have HT1 : Hid (Tab w1) := hT1
  have HB : Hid (Below w'.heap.size w' w1) := hB
  clear hw1 hT1 hB HP HT C1 C2 C3 C4 D1 D2 D3
  go_wp2_with (first
    | (go_at_call 10; refine (num_any _ _ (by omega) (by omega)).mono ?_; rintro e w' ⟨rfl, rfl⟩)
    | (go_at_call 12; refine (D4.out _).mono ?_; rintro e w' ⟨rfl, rfl⟩)
    | (go_at_call 13; refine (C9.out _).mono ?_; rintro e w' ⟨rfl, rfl⟩)
    | (go_at_call 14; refine (D9.out _).mono ?_; rintro e w' ⟨rfl, rfl⟩)
    | (go_at_call 15; refine (C8.out _ HT1.out).mono ?_; rintro e w' ⟨rfl, rfl⟩)
    | (go_at_call 16; refine (D8.out _).mono ?_; rintro e w' ⟨rfl, rfl⟩)
    | (go_at_call 17; refine (C5.out _ HT1.out).mono ?_; rintro e w' ⟨rfl, rfl⟩)
    | (go_at_call 18; refine (D5.out _).mono ?_; rintro e w' ⟨rfl, rfl⟩)
    | (go_at_call 19; refine (C6.out _ HT1.out).mono ?_; rintro e w' ⟨rfl, rfl⟩)
    | (go_at_call 20; refine (D6.out _).mono ?_; rintro e w' ⟨rfl, rfl⟩)
    | (go_at_call 21; refine (C7.out _ HT1.out).mono ?_; rintro e w' ⟨rfl, rfl⟩)
    | (go_at_call 22; refine (D7.out _).mono ?_; rintro e w' ⟨rfl, rfl⟩))
  go_ret
  exact ⟨rfl, HB.out⟩
end Go.Proofs.YtookbbephlllmabDoor
