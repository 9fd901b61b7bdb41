import Derived.Test.YtookbbephlllmaaDoorDBase
import Derived.OpenShut
namespace Go.Proofs.YtookbbephlllmaaDoor
open Go.ChangeShapes Go.RowKit
set_option linter.unusedVariables false
theorem Num_of (a : Int) (w : World) (hT : Tab w) (h0 : -1073741824 ≤ a) (h1 : a ≤ 1073741823) :
    Calls Tryd.prog 10 #[.int .i64 (2 * a + 1)] w fun e w' => e = .returned (.tuple #[.int .i64 a, .int .i64 0]) ∧ w' = w := by
  have h := Num_yes (2 * a + 1) w hT ((kind1 _).2 (by omega))
  rw [show (2 * a + 1 - 1) / 2 = a by omega] at h
  exact h
theorem Sym_of (a : Int) (w : World) (hT : Tab w) (h0 : 0 ≤ a) (h1 : a ≤ 4095) :
    Calls Tryd.prog 11 #[.int .i64 (4 * a + 2)] w fun e w' => e = .returned (.tuple #[.int .i64 a, .int .i64 0]) ∧ w' = w := by
  have h := Sym_yes (4 * a + 2) w hT ((kind2 _).2 (by omega))
  rw [show (4 * a + 2 - 2) / 4 = a by omega] at h
  exact h
theorem Oop_of (a : Int) (w : World) (hT : Tab w) (h0 : 1 ≤ a) (h1 : a ≤ 65536) :
    Calls Tryd.prog 12 #[.int .i64 (4 * a)] w fun e w' => e = .returned (.tuple #[.int .i64 a, .int .i64 0]) ∧ w' = w := by
  have h := Oop_yes (4 * a) w hT ((kind3 _).2 (by omega))
  rw [show (4 * a) / 4 = a by omega] at h
  exact h
theorem kind_is (n k : Int) (w : World) (hT : Tab w) (h : kindOf n = k) :
    Calls Tryd.prog 13 #[.int .i64 n] w fun e w' => e = .returned (.int .i64 k) ∧ w' = w := by
  have hK := kind_any n w hT
  rw [h] at hK
  exact hK
set_option maxRecDepth 100000 in
set_option maxHeartbeats 4000000 in
theorem once_walk (a0 a1 a2 a3 : Int) (w : World) (hT : Tab w) (w0 : (Lit.int .i64 a0).wf = true) (w1 : (Lit.int .i64 a1).wf = true) (w2 : (Lit.int .i64 a2).wf = true) (w3 : (Lit.int .i64 a3).wf = true) :
    Calls Tryd.prog 3 #[.int .i64 a0, .int .i64 a1, .int .i64 a2, .int .i64 a3] w fun e w' => e = .returned (.bool true) ∧ w' = w := by
  have ⟨x0, x1⟩ := bounds_i64 w0
  have ⟨y0, y1⟩ := bounds_i64 w1
  have ⟨z0, z1⟩ := bounds_i64 w2
  have ⟨v0, v1⟩ := bounds_i64 w3
  clear w0 w1 w2 w3
  have HT : Hid (Tab w) := hT
  clear hT
  go_enter Tryd.func3, Tryd.ntmps3
  go_wp2_with fail
  refine (ranged_any _ _ x0 x1).mono ?_
  rintro e w' ⟨⟨a, rfl, ha0, ha1⟩, rfl⟩
  go_wp2_with fail
  refine (clipped_any _ _ _ _ y0 y1 (by omega) (by omega) (by omega)).mono ?_
  rintro e w' ⟨⟨b, rfl, hb0, hb1⟩, rfl⟩
  go_wp2_with fail
  refine (clipped_any _ _ _ _ z0 z1 (by omega) (by omega) (by omega)).mono ?_
  rintro e w' ⟨⟨c, rfl, hc0, hc1⟩, rfl⟩
  clear x0 x1 y0 y1 z0 z1
  have k1 : Hid (kindOf (2 * a + 1) = 1) := (kind1 _).2 (by omega)
  have k2 : Hid (kindOf (4 * b + 2) = 2) := (kind2 _).2 (by omega)
  have k3 : Hid (kindOf (4 * c) = 3) := (kind3 _).2 (by omega)
  go_wp2_with fail
  refine (Int_in _ _ ha0 ha1).mono ?_
  rintro e w' ⟨rfl, rfl⟩
  go_wp2_with fail
  refine (Symbol_in _ _ hb0 hb1).mono ?_
  rintro e w' ⟨rfl, rfl⟩
  go_wp2_with fail
  refine (Object_in _ _ hc0 hc1).mono ?_
  rintro e w' ⟨rfl, rfl⟩
  have t1 : (2 * a + 1 == 4 * b + 2) = false := by simp; omega
  have t2 : (2 * a + 1 == 4 * c) = false := by simp; omega
  have t3 : (4 * b + 2 == 4 * c) = false := by simp; omega
  go_wp2_with (go_at_call 9; refine (num_any _ _ (by omega) (by omega)).mono ?_; rintro e w' ⟨rfl, rfl⟩)
  clear t1 t2 t3
  refine (Num_of _ _ HT.out ha0 ha1).mono ?_
  rintro e w' ⟨rfl, rfl⟩
  go_wp2_with fail
  refine (Sym_of _ _ HT.out hb0 hb1).mono ?_
  rintro e w' ⟨rfl, rfl⟩
  go_wp2_with fail
  refine (Oop_of _ _ HT.out hc0 hc1).mono ?_
  rintro e w' ⟨rfl, rfl⟩
  go_wp2_with (go_at_call 9; refine (num_any _ _ (by omega) (by omega)).mono ?_; rintro e w' ⟨rfl, rfl⟩)
  refine (kind_is _ _ _ HT.out k1.out).mono ?_
  rintro e w' ⟨rfl, rfl⟩
  go_wp2_with fail
  refine (kind_is _ _ _ HT.out k2.out).mono ?_
  rintro e w' ⟨rfl, rfl⟩
  go_wp2_with fail
  refine (kind_is _ _ _ HT.out k3.out).mono ?_
  rintro e w' ⟨rfl, rfl⟩
  clear k1 k2 k3
  go_wp2_with fail
  rcases kind_cases a3 with hk | hk | hk | hk
  · have HK : Hid (kindOf a3 = 0) := hk
    have N1 : Hid (kindOf a3 ≠ 1) := (by rw [hk]; decide : kindOf a3 ≠ 1)
    have N2 : Hid (kindOf a3 ≠ 2) := (by rw [hk]; decide : kindOf a3 ≠ 2)
    have N3 : Hid (kindOf a3 ≠ 3) := (by rw [hk]; decide : kindOf a3 ≠ 3)
    clear hk
    refine (Num_no _ _ HT.out N1.out).mono ?_
    rintro e w' ⟨rfl, rfl⟩
    go_wp2_with fail
    refine (Sym_no _ _ HT.out N2.out).mono ?_
    rintro e w' ⟨rfl, rfl⟩
    go_wp2_with fail
    refine (Oop_no _ _ HT.out N3.out).mono ?_
    rintro e w' ⟨rfl, rfl⟩
    go_wp2_with fail
    refine (Int_in _ _ (by omega) (by omega)).mono ?_
    rintro e w' ⟨rfl, rfl⟩
    go_wp2_with fail
    refine (Symbol_in _ _ (by omega) (by omega)).mono ?_
    rintro e w' ⟨rfl, rfl⟩
    go_wp2_with fail
    refine (Object_out _ _ (by omega)).mono ?_
    rintro e w' ⟨rfl, rfl⟩
    go_wp2_with fail
    refine (kind_is _ _ _ HT.out HK.out).mono ?_
    rintro e w' ⟨rfl, rfl⟩
    go_wp2_with (go_at_call 9; refine (num_any _ _ (by omega) (by omega)).mono ?_; rintro e w' ⟨rfl, rfl⟩)
    go_ret
    exact ⟨rfl, rfl⟩
  · have HK : Hid (kindOf a3 = 1) := hk
    have N2 : Hid (kindOf a3 ≠ 2) := (by rw [hk]; decide : kindOf a3 ≠ 2)
    have N3 : Hid (kindOf a3 ≠ 3) := (by rw [hk]; decide : kindOf a3 ≠ 3)
    have hk' := (kind1 a3).1 hk
    clear hk
    refine (Num_yes _ _ HT.out HK.out).mono ?_
    rintro e w' ⟨rfl, rfl⟩
    go_wp2_with fail
    refine (Sym_no _ _ HT.out N2.out).mono ?_
    rintro e w' ⟨rfl, rfl⟩
    go_wp2_with fail
    refine (Oop_no _ _ HT.out N3.out).mono ?_
    rintro e w' ⟨rfl, rfl⟩
    obtain ⟨i, hi⟩ : ∃ i, i = (a3 - 1) / 2 := ⟨_, rfl⟩
    have i0 : -1073741824 ≤ i := by omega
    have i1 : i ≤ 1073741823 := by omega
    have tb : (2 * i + 1 == a3) = true := by simp; omega
    rw [← hi]
    clear hi hk'
    go_wp2_with fail
    refine (Int_in _ _ i0 i1).mono ?_
    rintro e w' ⟨rfl, rfl⟩
    go_wp2_with fail
    refine (Symbol_in _ _ (by omega) (by omega)).mono ?_
    rintro e w' ⟨rfl, rfl⟩
    go_wp2_with fail
    refine (Object_out _ _ (by omega)).mono ?_
    rintro e w' ⟨rfl, rfl⟩
    go_wp2_with fail
    refine (kind_is _ _ _ HT.out HK.out).mono ?_
    rintro e w' ⟨rfl, rfl⟩
    go_wp2_with (go_at_call 9; refine (num_any _ _ (by omega) (by omega)).mono ?_; rintro e w' ⟨rfl, rfl⟩)
    go_ret
    exact ⟨rfl, rfl⟩
  · have HK : Hid (kindOf a3 = 2) := hk
    have N1 : Hid (kindOf a3 ≠ 1) := (by rw [hk]; decide : kindOf a3 ≠ 1)
    have N3 : Hid (kindOf a3 ≠ 3) := (by rw [hk]; decide : kindOf a3 ≠ 3)
    have hk' := (kind2 a3).1 hk
    clear hk
    refine (Num_no _ _ HT.out N1.out).mono ?_
    rintro e w' ⟨rfl, rfl⟩
    go_wp2_with fail
    refine (Sym_yes _ _ HT.out HK.out).mono ?_
    rintro e w' ⟨rfl, rfl⟩
    go_wp2_with fail
    refine (Oop_no _ _ HT.out N3.out).mono ?_
    rintro e w' ⟨rfl, rfl⟩
    obtain ⟨i, hi⟩ : ∃ i, i = (a3 - 2) / 4 := ⟨_, rfl⟩
    have i0 : 0 ≤ i := by omega
    have i1 : i ≤ 4095 := by omega
    have tb : (4 * i + 2 == a3) = true := by simp; omega
    rw [← hi]
    clear hi hk'
    go_wp2_with fail
    refine (Int_in _ _ (by omega) (by omega)).mono ?_
    rintro e w' ⟨rfl, rfl⟩
    go_wp2_with fail
    refine (Symbol_in _ _ i0 i1).mono ?_
    rintro e w' ⟨rfl, rfl⟩
    go_wp2_with fail
    refine (Object_out _ _ (by omega)).mono ?_
    rintro e w' ⟨rfl, rfl⟩
    go_wp2_with fail
    refine (kind_is _ _ _ HT.out HK.out).mono ?_
    rintro e w' ⟨rfl, rfl⟩
    go_wp2_with (go_at_call 9; refine (num_any _ _ (by omega) (by omega)).mono ?_; rintro e w' ⟨rfl, rfl⟩)
    go_ret
    exact ⟨rfl, rfl⟩
  · have HK : Hid (kindOf a3 = 3) := hk
    have N1 : Hid (kindOf a3 ≠ 1) := (by rw [hk]; decide : kindOf a3 ≠ 1)
    have N2 : Hid (kindOf a3 ≠ 2) := (by rw [hk]; decide : kindOf a3 ≠ 2)
    have hk' := (kind3 a3).1 hk
    clear hk
    refine (Num_no _ _ HT.out N1.out).mono ?_
    rintro e w' ⟨rfl, rfl⟩
    go_wp2_with fail
    refine (Sym_no _ _ HT.out N2.out).mono ?_
    rintro e w' ⟨rfl, rfl⟩
    go_wp2_with fail
    refine (Oop_yes _ _ HT.out HK.out).mono ?_
    rintro e w' ⟨rfl, rfl⟩
    obtain ⟨i, hi⟩ : ∃ i, i = a3 / 4 := ⟨_, rfl⟩
    have i0 : 1 ≤ i := by omega
    have i1 : i ≤ 65536 := by omega
    have tb : (4 * i == a3) = true := by simp; omega
    rw [← hi]
    clear hi hk'
    go_wp2_with fail
    refine (Int_in _ _ (by omega) (by omega)).mono ?_
    rintro e w' ⟨rfl, rfl⟩
    go_wp2_with fail
    refine (Symbol_in _ _ (by omega) (by omega)).mono ?_
    rintro e w' ⟨rfl, rfl⟩
    go_wp2_with fail
    refine (Object_in _ _ i0 i1).mono ?_
    rintro e w' ⟨rfl, rfl⟩
    go_wp2_with fail
    refine (kind_is _ _ _ HT.out HK.out).mono ?_
    rintro e w' ⟨rfl, rfl⟩
    go_wp2_with (go_at_call 9; refine (num_any _ _ (by omega) (by omega)).mono ?_; rintro e w' ⟨rfl, rfl⟩)
    go_ret
    exact ⟨rfl, rfl⟩
end Go.Proofs.YtookbbephlllmaaDoor
