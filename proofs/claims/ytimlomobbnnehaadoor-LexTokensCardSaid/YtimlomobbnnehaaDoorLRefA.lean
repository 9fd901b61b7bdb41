import Derived.Test.YtimlomobbnnehaaDoorLLaw
namespace Go.Proofs.YtimlomobbnnehaaDoor
open Go.RowKit Go.Maps
set_option linter.unusedVariables false
set_option linter.unusedSimpArgs false
theorem rSmall_ok (n : Nat) (w : World) : Calls Tryd.prog 57 #[.int .u8 n] w fun e w' => e = .returned (.bool (isS n)) ∧ w' = w := by
  go_enter Tryd.func57, Tryd.ntmps57
  go_wp2
  all_goals (go_ret; exact ⟨congrArg (fun b => Ending.returned (Value.bool b)) (by rw [Bool.eq_iff_iff, isS_iff]; simp <;> omega), rfl⟩)
theorem rDigit_ok (n : Nat) (w : World) : Calls Tryd.prog 41 #[.int .u8 n] w fun e w' => e = .returned (.bool (isD n)) ∧ w' = w := by
  go_enter Tryd.func41, Tryd.ntmps41
  go_wp2
  all_goals (go_ret; exact ⟨congrArg (fun b => Ending.returned (Value.bool b)) (by rw [Bool.eq_iff_iff, isD_iff]; simp <;> omega), rfl⟩)
theorem rLetter_ok (n : Nat) (w : World) : Calls Tryd.prog 38 #[.int .u8 n] w fun e w' => e = .returned (.bool (isL n)) ∧ w' = w := by
  have key : isL n = (isS n || decide (65 ≤ n ∧ n ≤ 90)) := by rw [Bool.eq_iff_iff, isL_iff]; simp [isS]
  rw [key]
  have hs := rSmall_ok n
  cases hS : isS n with
  | true =>
    rw [hS] at hs
    go_enter Tryd.func38, Tryd.ntmps38
    go_wp2_with (go_at_call 57; refine (hs _).mono ?_; rintro e w1 ⟨rfl, rfl⟩)
    go_ret
    exact ⟨rfl, rfl⟩
  | false =>
    rw [hS] at hs
    go_enter Tryd.func38, Tryd.ntmps38
    go_wp2_with (go_at_call 57; refine (hs _).mono ?_; rintro e w1 ⟨rfl, rfl⟩)
    all_goals (go_ret; exact ⟨congrArg (fun b => Ending.returned (Value.bool b)) (by rw [Bool.eq_iff_iff]; simp <;> omega), rfl⟩)
theorem opsT : ∀ n, n < 256 → (isO n = true ↔ ∃ j, j < 14 ∧ ([43, 45, 42, 47, 92, 60, 62, 61, 126, 44, 37, 38, 63, 64] : List Nat).getD j 999 = n) := by
  intro n hn
  rw [isO_iff]
  constructor
  · intro h
    rcases h with h | h | h | h | h | h | h | h | h | h | h | h | h | h <;> subst h
    · exact ⟨0, by omega, rfl⟩
    · exact ⟨1, by omega, rfl⟩
    · exact ⟨2, by omega, rfl⟩
    · exact ⟨3, by omega, rfl⟩
    · exact ⟨4, by omega, rfl⟩
    · exact ⟨5, by omega, rfl⟩
    · exact ⟨6, by omega, rfl⟩
    · exact ⟨7, by omega, rfl⟩
    · exact ⟨8, by omega, rfl⟩
    · exact ⟨9, by omega, rfl⟩
    · exact ⟨10, by omega, rfl⟩
    · exact ⟨11, by omega, rfl⟩
    · exact ⟨12, by omega, rfl⟩
    · exact ⟨13, by omega, rfl⟩
  · rintro ⟨j, hj, rfl⟩
    have : j = 0 ∨ j = 1 ∨ j = 2 ∨ j = 3 ∨ j = 4 ∨ j = 5 ∨ j = 6 ∨ j = 7 ∨ j = 8 ∨ j = 9 ∨ j = 10 ∨ j = 11 ∨ j = 12 ∨ j = 13 := by omega
    rcases this with h | h | h | h | h | h | h | h | h | h | h | h | h | h <;> subst h <;> simp
theorem opsG : ∀ k (hk : k < (⟨#[43, 45, 42, 47, 92, 60, 62, 61, 126, 44, 37, 38, 63, 64]⟩ : ByteArray).size), ((⟨#[43, 45, 42, 47, 92, 60, 62, 61, 126, 44, 37, 38, 63, 64]⟩ : ByteArray)[k]'hk).toNat = ([43, 45, 42, 47, 92, 60, 62, 61, 126, 44, 37, 38, 63, 64] : List Nat).getD k 999 := by
  intro k hk
  have : k < 14 := hk
  have : k = 0 ∨ k = 1 ∨ k = 2 ∨ k = 3 ∨ k = 4 ∨ k = 5 ∨ k = 6 ∨ k = 7 ∨ k = 8 ∨ k = 9 ∨ k = 10 ∨ k = 11 ∨ k = 12 ∨ k = 13 := by omega
  rcases this with h | h | h | h | h | h | h | h | h | h | h | h | h | h <;> subst h <;> rfl
set_option maxHeartbeats 4000000 in
set_option maxRecDepth 1000000 in
theorem rOp_ok (n : Nat) (hn : n < 256) (w : World) : Calls Tryd.prog 45 #[.int .u8 n] w fun e w' => e = .returned (.bool (isO n)) ∧ w' = w := by
  have hO := mkHid (opsT n hn)
  go_enter Tryd.func45, Tryd.ntmps45
  go_wp2
  go_loopw [3] (fun q wr => ∃ k : Nat, k ≤ 14 ∧ q = .int .i64 k ∧ wr = w ∧ Hid (∀ j, j < k → ([43, 45, 42, 47, 92, 60, 62, 61, 126, 44, 37, 38, 63, 64] : List Nat).getD j 999 ≠ n)) (fun q _ => 14 - (intOf q).toNat)
  case atStart => exact ⟨0, by omega, rfl, rfl, fun j h => by omega⟩
  case round =>
    obtain ⟨k, hk, rfl, rfl, hj⟩ := hrel
    by_cases hlt : k < 14
    · have hki : (k : Int) < 14 := by omega
      have hg := opsG k hlt
      by_cases he : ([43, 45, 42, 47, 92, 60, 62, 61, 126, 44, 37, 38, 63, 64] : List Nat).getD k 999 = n
      · have hT : isO n = true := hO.out.2 ⟨k, hlt, he⟩
        have HT := mkHid hT
        have hx : (((⟨#[43, 45, 42, 47, 92, 60, 62, 61, 126, 44, 37, 38, 63, 64]⟩ : ByteArray)[k]'hlt).toNat : Int) = n := by rw [hg, he]
        clear he hT hg
        go_wp2
        go_ret
        exact ⟨by rw [HT.out]; rfl, rfl⟩
      · have hx : ¬ (((⟨#[43, 45, 42, 47, 92, 60, 62, 61, 126, 44, 37, 38, 63, 64]⟩ : ByteArray)[k]'hlt).toNat : Int) = n := by rw [hg]; omega
        have HE := mkHid he
        clear he hg
        go_wp2
        go_roundw
        case rel => exact ⟨k + 1, by omega, by simp, by simp, fun j h => by
          by_cases hjk : j < k
          · exact hj.out j hjk
          · have : j = k := by omega
            subst this; exact HE.out⟩
        case measure => simp [intOf]; omega
    · have hF : isO n = false := by
        rw [Bool.eq_false_iff]
        intro h
        obtain ⟨j, hj1, hj2⟩ := hO.out.1 h
        exact hj.out j (by omega) hj2
      have hke : k = 14 := by omega
      have HF := mkHid hF
      clear hF
      subst hke
      go_wp2
      go_wp2
      go_ret
      exact ⟨by rw [HF.out]; rfl, rfl⟩
end Go.Proofs.YtimlomobbnnehaaDoor

