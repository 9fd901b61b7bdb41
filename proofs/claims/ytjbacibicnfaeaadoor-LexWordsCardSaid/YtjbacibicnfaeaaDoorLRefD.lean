import Derived.Test.YtjbacibicnfaeaaDoorLRefB
import Derived.Test.YtjbacibicnfaeaaDoorLSel
namespace Go.Proofs.YtjbacibicnfaeaaDoor
open Go.RowKit Go.Maps
set_option linter.unusedVariables false
set_option linter.unusedSimpArgs false
def resL : List Bs := [[115, 101, 108, 102], [115, 117, 112, 101, 114], [110, 105, 108], [116, 114, 117, 101], [102, 97, 108, 115, 101]]
theorem resB_iff (l : Bs) : resB l = true ↔ ∃ j, j < 5 ∧ resL.getD j [] = l := by
  unfold resB
  rw [decide_eq_true_eq]
  constructor
  · rintro (h | h | h | h | h)
    · exact ⟨0, by omega, h.symm⟩
    · exact ⟨1, by omega, h.symm⟩
    · exact ⟨2, by omega, h.symm⟩
    · exact ⟨3, by omega, h.symm⟩
    · exact ⟨4, by omega, h.symm⟩
  · rintro ⟨j, hj, rfl⟩
    have : j = 0 ∨ j = 1 ∨ j = 2 ∨ j = 3 ∨ j = 4 := by omega
    rcases this with rfl | rfl | rfl | rfl | rfl <;> simp [resL]
theorem beq_lst (x : Bs) (s : ByteArray) : ((ba x).toList == s.toList) = decide (x = lst s) := by
  rw [tl_lst, tl_lst, lst_ba, Bool.eq_iff_iff]
  simp
set_option maxHeartbeats 4000000 in
set_option maxRecDepth 1000000 in
theorem rVari_ok (s : ByteArray) (w : World) (hs : s.size ≤ 140737488355328) : Calls Tryd.prog 17 #[.string s] w fun e w' => e = .returned (.int .i64 (vari (lst s))) ∧ Bl w w' := by
  obtain ⟨W, hW⟩ : ∃ W, W = w.alloc (.cells #[.string ⟨#[115, 101, 108, 102]⟩, .string ⟨#[115, 117, 112, 101, 114]⟩, .string ⟨#[110, 105, 108]⟩, .string ⟨#[116, 114, 117, 101]⟩, .string ⟨#[102, 97, 108, 115, 101]⟩] 59) := ⟨_, rfl⟩
  have hB : Hid (Bl w W) := by rw [hW]; exact Bl.alloc _ _
  have hc : Hid (∀ k, k < 5 → W.cell? ⟨w.heap.size, k, none⟩ = some (.string (ba (resL.getD k [])))) := mkHid fun k hk => by
    rw [hW, cell_in (heap_alloc_new w _)]
    have : k = 0 ∨ k = 1 ∨ k = 2 ∨ k = 3 ∨ k = 4 := by omega
    rcases this with rfl | rfl | rfl | rfl | rfl <;> rfl
  have hn := fun w => rName_ok s 0 w (Nat.zero_le _) hs
  rw [List.drop_zero, Nat.zero_add] at hn
  have hn : ∀ w, Calls Tryd.prog 32 #[.string s, .int .i64 0] w fun e w' => e = .returned (.int .i64 (nameLen (lst s))) ∧ w' = w := hn
  have hR := mkHid (resB_iff (lst s))
  go_enter Tryd.func17, Tryd.ntmps17
  go_wp2_with (go_at_call 32; fail)
  rw [← hW]
  clear hW
  go_loopw [4] (fun q wr => ∃ k : Nat, k ≤ 5 ∧ q = .int .i64 k ∧ wr = W ∧ Hid (∀ j, j < k → resL.getD j [] ≠ lst s)) (fun q _ => 5 - (intOf q).toNat)
  case atStart => exact ⟨0, by omega, rfl, rfl, fun j h => by omega⟩
  case round =>
    obtain ⟨k, hk, rfl, rfl, hj⟩ := hrel
    by_cases hlt : k < 5
    · have hki : (k : Int) < 5 := by omega
      have c0 := hc.out k hlt
      have hq := beq_lst (resL.getD k []) s
      by_cases he : resL.getD k [] = lst s
      · rw [decide_eq_true he] at hq
        have HV : Hid (vari (lst s) = 78) := by unfold Hid vari; rw [if_pos (hR.out.2 ⟨k, hlt, he⟩)]
        clear he
        generalize resL.getD k [] = x at *
        go_wp2_with (go_at_call 32; fail)
        go_ret
        exact ⟨by rw [HV.out]; rfl, hB.out⟩
      · rw [decide_eq_false he] at hq
        have HE := mkHid he
        have HJ : Hid (∀ j, j < k + 1 → resL.getD j [] ≠ lst s) := mkHid fun j h => by
          by_cases hjk : j < k
          · exact hj.out j hjk
          · have : j = k := by omega
            subst this; exact HE.out
        clear he HE
        generalize resL.getD k [] = x at *
        go_wp2_with (go_at_call 32; fail)
        go_roundw
        case rel => exact ⟨k + 1, by omega, by simp, by simp, HJ.out⟩
        case measure => simp [intOf]; omega
    · have hke : k = 5 := by omega
      have hr : resB (lst s) = false := by
        rw [Bool.eq_false_iff]
        intro h
        obtain ⟨j, hj1, hj2⟩ := hR.out.1 h
        exact hj.out j (by omega) hj2
      subst hke
      by_cases h0 : s.size = 0
      · have hE : s.toList.isEmpty = true := isEmpty_of h0
        have HV : Hid (vari (lst s) = 1) := by
          unfold Hid vari
          rw [hr]
          have : nameB (lst s) = false := decide_eq_false (fun h => h.1 (lst_nil.2 h0))
          rw [this]
          rfl
        clear hr
        go_wp2_with (go_at_call 32; refine (hn _).mono ?_; rintro e w2 ⟨rfl, h2⟩; have h3 := h2.symm; subst h3)
        go_wp2_with (go_at_call 32; refine (hn _).mono ?_; rintro e w2 ⟨rfl, h2⟩; have h3 := h2.symm; subst h3)
        go_ret
        exact ⟨by rw [HV.out]; rfl, hB.out⟩
      · have hE : s.toList.isEmpty = false := not_empty_of h0
        by_cases hN : nameLen (lst s) = s.size
        · have HV : Hid (vari (lst s) = 0) := by
            unfold Hid vari
            rw [hr]
            have : nameB (lst s) = true := decide_eq_true ⟨fun h => h0 (lst_nil.1 h), by rw [lst_len]; exact hN⟩
            rw [this]
            rfl
          rw [hN] at hn
          clear hr hN
          go_wp2_with (go_at_call 32; refine (hn _).mono ?_; rintro e w2 ⟨rfl, h2⟩; have h3 := h2.symm; subst h3)
          go_wp2_with (go_at_call 32; refine (hn _).mono ?_; rintro e w2 ⟨rfl, h2⟩; have h3 := h2.symm; subst h3)
          go_ret
          exact ⟨by rw [HV.out]; rfl, hB.out⟩
        · have HV : Hid (vari (lst s) = 1) := by
            unfold Hid vari
            rw [hr]
            have : nameB (lst s) = false := decide_eq_false (fun h => hN (by rw [← lst_len]; exact h.2))
            rw [this]
            rfl
          have hNi : (((nameLen (lst s) : Nat) : Int) != (s.size : Int)) = true := by rw [bne_iff_ne]; omega
          clear hr
          generalize nameLen (lst s) = nl at *
          go_wp2_with (go_at_call 32; refine (hn _).mono ?_; rintro e w2 ⟨rfl, h2⟩; have h3 := h2.symm; subst h3)
          go_wp2_with (go_at_call 32; refine (hn _).mono ?_; rintro e w2 ⟨rfl, h2⟩; have h3 := h2.symm; subst h3)
          go_ret
          exact ⟨by rw [HV.out]; rfl, hB.out⟩
end Go.Proofs.YtjbacibicnfaeaaDoor
