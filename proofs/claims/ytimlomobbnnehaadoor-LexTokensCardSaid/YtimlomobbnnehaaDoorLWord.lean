import Derived.Test.YtimlomobbnnehaaDoorLBase
import Derived.Test.YtimlomobbnnehaaDoorLShelf
namespace Go.Proofs.YtimlomobbnnehaaDoor
open Go.RowKit
set_option linter.unusedVariables false
set_option linter.unusedSimpArgs false
theorem isEmpty_of {s : ByteArray} (h : s.size = 0) : s.toList.isEmpty = true := by
  have e : s.toList = s.data.toList := ByteArray.toList_eq s
  rw [e, List.isEmpty_iff]
  exact List.length_eq_zero_iff.1 h
theorem not_empty_of {s : ByteArray} (h : ¬ s.size = 0) : s.toList.isEmpty = false := by
  have e : s.toList = s.data.toList := ByteArray.toList_eq s
  rw [e, Bool.eq_false_iff]
  intro h2
  rw [List.isEmpty_iff] at h2
  exact h (List.length_eq_zero_iff.2 h2)
theorem isOb_ok (c : UInt8) (w : World) : Calls Tryd.prog 30 #[.int .u8 c.toNat] w fun e w' => e = .returned (.bool (isO c.toNat)) ∧ w' = w := by
  have key0 : ∀ n, n < 256 → decide ((0 : Int) ≤ Lib.indexByte [43, 45, 42, 47, 92, 60, 62, 61, 126, 44, 37, 38, 63, 64] (UInt8.ofNat n)) = isO n := by decide +kernel
  have key : decide ((0 : Int) ≤ Lib.indexByte [43, 45, 42, 47, 92, 60, 62, 61, 126, 44, 37, 38, 63, 64] c) = isO c.toNat := by
    have := key0 c.toNat c.toNat_lt
    rwa [UInt8.ofNat_toNat] at this
  clear key0
  go_enter Tryd.func30, Tryd.ntmps30
  go_wp2_with (go_at_call 49; refine (Tryd.strings_IndexByte _ _ _).mono ?_; rintro e w' ⟨rfl, rfl⟩)
  go_ret
  exact ⟨congrArg (fun b => Ending.returned (Value.bool b)) rfl, rfl⟩
set_option maxHeartbeats 4000000 in
set_option maxRecDepth 1000000 in
theorem opLength_ok (s : ByteArray) (w : World) (hs : s.size ≤ 140737488355328) : Calls Tryd.prog 54 #[.string s] w fun e w' => e = .returned (.int .i64 (opLen (lst s))) ∧ w' = w := by
  by_cases h0 : s.size = 0
  · have hE : s.toList.isEmpty = true := isEmpty_of h0
    have e : opLen (lst s) = 0 := by
      have : lst s = [] := List.length_eq_zero_iff.1 (by rw [lst_len]; exact h0)
      rw [this]; rfl
    go_enter Tryd.func54, Tryd.ntmps54
    go_wp2_with (go_at_call 30; refine (isOb_ok _ _).mono ?_; rintro e w' ⟨rfl, rfl⟩)
    go_ret
    exact ⟨by rw [e]; rfl, rfl⟩
  · have hE : s.toList.isEmpty = false := not_empty_of h0
    have hp : 0 < s.size := by omega
    have b0 : hd (lst s) = (s[0]'hp).toNat := get_lst s 0 hp
    by_cases cO : isO (s[0]'hp).toNat = true
    · by_cases h1 : s.size = 1
      · have e : opLen (lst s) = 1 := by
          unfold opLen
          rw [b0, if_pos cO, hd_drop_end (by rw [lst_len]; omega), if_neg (by rintro ⟨h, _⟩; exact absurd h (by decide))]
        go_enter Tryd.func54, Tryd.ntmps54
        go_wp2_with (go_at_call 30; refine (isOb_ok _ _).mono ?_; rintro e w' ⟨rfl, rfl⟩)
        go_ret
        exact ⟨by rw [e]; rfl, rfl⟩
      · have hp1 : 1 < s.size := by omega
        have b1 : hd ((lst s).drop 1) = (s[1]'hp1).toNat := get_lst s 1 hp1
        by_cases cP : isO (s[1]'hp1).toNat = true
        · have e1 : Hid ((s[0]'hp).toNat = 45 → opLen (lst s) = 1) := mkHid fun c2 => by
            unfold opLen
            rw [b0, if_pos cO, if_neg (by rintro ⟨_, h, _⟩; exact h c2)]
          have e2 : Hid ((s[1]'hp1).toNat = 45 → opLen (lst s) = 1) := mkHid fun c3 => by
            unfold opLen
            rw [b0, if_pos cO, if_neg (by rintro ⟨_, _, h⟩; exact h (b1.trans c3))]
          have e3 : Hid ((s[0]'hp).toNat ≠ 45 → (s[1]'hp1).toNat ≠ 45 → opLen (lst s) = 2) := mkHid fun c2 c3 => by
            unfold opLen
            rw [b0, if_pos cO, b1, if_pos ⟨cP, c2, c3⟩]
          go_enter Tryd.func54, Tryd.ntmps54
          go_wp2_with (go_at_call 30; refine (isOb_ok _ _).mono ?_; rintro e w' ⟨rfl, rfl⟩)
          all_goals (go_ret; refine ⟨?_, rfl⟩)
          all_goals try simp only [beq_iff_eq, Bool.or_eq_true, Bool.or_eq_false_iff, beq_eq_false_iff_ne, not_or, ne_eq] at *
          all_goals first
            | (rw [e1.out (by omega)]; rfl)
            | (rw [e2.out (by omega)]; rfl)
            | (rw [e3.out (by omega) (by omega)]; rfl)
        · have cP' : isO (s[1]'hp1).toNat = false := by simpa using cP
          have e : opLen (lst s) = 1 := by
            unfold opLen
            rw [b0, if_pos cO, b1, if_neg (by rintro ⟨h, _⟩; exact cP h)]
          clear cP
          go_enter Tryd.func54, Tryd.ntmps54
          go_wp2_with (go_at_call 30; refine (isOb_ok _ _).mono ?_; rintro e w' ⟨rfl, rfl⟩)
          all_goals (go_ret; exact ⟨by rw [e]; rfl, rfl⟩)
    · have cO' : isO (s[0]'hp).toNat = false := by simpa using cO
      have e : opLen (lst s) = 0 := by
        unfold opLen
        rw [b0, if_neg cO]
      clear cO
      go_enter Tryd.func54, Tryd.ntmps54
      go_wp2_with (go_at_call 30; refine (isOb_ok _ _).mono ?_; rintro e w' ⟨rfl, rfl⟩)
      all_goals (go_ret; exact ⟨by rw [e]; rfl, rfl⟩)
end Go.Proofs.YtimlomobbnnehaaDoor

