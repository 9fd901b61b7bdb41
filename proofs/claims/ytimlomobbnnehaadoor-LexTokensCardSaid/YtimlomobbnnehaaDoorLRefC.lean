import Derived.Test.YtimlomobbnnehaaDoorLRefB
namespace Go.Proofs.YtimlomobbnnehaaDoor
open Go.RowKit Go.Maps
set_option linter.unusedVariables false
set_option linter.unusedSimpArgs false
set_option maxHeartbeats 4000000 in
set_option maxRecDepth 1000000 in
theorem rSigns_ok (s : ByteArray) (a : Nat) (w : World) (ha : a ≤ s.size) (hs : s.size ≤ 140737488355328) : Calls Tryd.prog 46 #[.string s, .int .i64 a] w fun e w' => e = .returned (.int .i64 ((a + opLen ((lst s).drop a) : Nat))) ∧ w' = w := by
  by_cases h0 : a < s.size
  · have h0i : (a : Int) < s.size := by omega
    have hdn : decide (s.size ≤ a) = false := decide_eq_false (by omega)
    have hb := get_lst s a h0
    by_cases cO : isO (hd ((lst s).drop a)) = true
    · have cO' : isO (s[a]'h0).toNat = true := by rw [← hb]; exact cO
      by_cases h1 : a + 1 < s.size
      · have h1i : (a : Int) + 1 < s.size := by omega
        have hb1 := get_lst s (a + 1) h1
        by_cases cP : isO (hd ((lst s).drop (a + 1))) = true
        · have cP' : isO (s[a + 1]'h1).toNat = true := by rw [← hb1]; exact cP
          have e1 : Hid ((s[a]'h0).toNat = 45 → opLen ((lst s).drop a) = 1) := mkHid fun c2 => by
            unfold opLen
            rw [if_pos cO, if_neg (by rintro ⟨_, h, _⟩; exact h (hb.trans c2))]
          have e2 : Hid ((s[a + 1]'h1).toNat = 45 → opLen ((lst s).drop a) = 1) := mkHid fun c3 => by
            unfold opLen
            rw [if_pos cO, if_neg (by rintro ⟨_, _, h⟩; rw [List.drop_drop] at h; exact h (hb1.trans c3))]
          have e3 : Hid ((s[a]'h0).toNat ≠ 45 → (s[a + 1]'h1).toNat ≠ 45 → opLen ((lst s).drop a) = 2) := mkHid fun c2 c3 => by
            unfold opLen
            rw [if_pos cO, List.drop_drop, if_pos ⟨cP, by rw [hb]; exact c2, by rw [hb1]; exact c3⟩]
          by_cases c2 : (s[a]'h0).toNat = 45
          · have c2' : ((((s[a]'h0).toNat : Int)) != 45) = false := by rw [bne_eq_false_iff_eq]; omega
            have E := mkHid (e1.out c2)
            clear cO cP hb hb1 c2 e1 e2 e3
            go_enter Tryd.func46, Tryd.ntmps46
            go_wp2_with (go_at_call 45; refine (rOp_ok _ (toNat_lt8 _) _).mono ?_; rintro e w1 ⟨rfl, rfl⟩)
            go_ret
            exact ⟨by rw [E.out]; simp, rfl⟩
          · have c2' : ((((s[a]'h0).toNat : Int)) != 45) = true := by rw [bne_iff_ne]; omega
            by_cases c3 : (s[a + 1]'h1).toNat = 45
            · have c3' : ((((s[a + 1]'h1).toNat : Int)) != 45) = false := by rw [bne_eq_false_iff_eq]; omega
              have E := mkHid (e2.out c3)
              clear cO cP hb hb1 c2 c3 e1 e2 e3
              go_enter Tryd.func46, Tryd.ntmps46
              go_wp2_with (go_at_call 45; refine (rOp_ok _ (toNat_lt8 _) _).mono ?_; rintro e w1 ⟨rfl, rfl⟩)
              go_ret
              exact ⟨by rw [E.out]; simp, rfl⟩
            · have c3' : ((((s[a + 1]'h1).toNat : Int)) != 45) = true := by rw [bne_iff_ne]; omega
              have E := mkHid (e3.out c2 c3)
              clear cO cP hb hb1 c2 c3 e1 e2 e3
              go_enter Tryd.func46, Tryd.ntmps46
              go_wp2_with (go_at_call 45; refine (rOp_ok _ (toNat_lt8 _) _).mono ?_; rintro e w1 ⟨rfl, rfl⟩)
              go_ret
              exact ⟨by rw [E.out]; simp, rfl⟩
        · have cP' : isO (s[a + 1]'h1).toNat = false := by rw [← hb1]; simpa using cP
          have E : Hid (opLen ((lst s).drop a) = 1) := by
            unfold Hid opLen
            rw [if_pos cO, if_neg (by rintro ⟨h, _⟩; rw [List.drop_drop] at h; exact cP h)]
          clear cO cP hb hb1
          go_enter Tryd.func46, Tryd.ntmps46
          go_wp2_with (go_at_call 45; refine (rOp_ok _ (toNat_lt8 _) _).mono ?_; rintro e w1 ⟨rfl, rfl⟩)
          go_ret
          exact ⟨by rw [E.out]; simp, rfl⟩
      · have h1i : ¬ (a : Int) + 1 < s.size := by omega
        have E : Hid (opLen ((lst s).drop a) = 1) := by
          unfold Hid opLen
          rw [if_pos cO, List.drop_drop, hd_drop_end (by rw [lst_len]; omega), if_neg (by rintro ⟨h, _⟩; exact absurd h (by decide))]
        clear cO hb
        go_enter Tryd.func46, Tryd.ntmps46
        go_wp2_with (go_at_call 45; refine (rOp_ok _ (toNat_lt8 _) _).mono ?_; rintro e w1 ⟨rfl, rfl⟩)
        go_ret
        exact ⟨by rw [E.out]; simp, rfl⟩
    · have cO' : isO (s[a]'h0).toNat = false := by rw [← hb]; simpa using cO
      have E : Hid (opLen ((lst s).drop a) = 0) := by unfold Hid opLen; rw [if_neg cO]
      clear cO hb
      go_enter Tryd.func46, Tryd.ntmps46
      go_wp2_with (go_at_call 45; refine (rOp_ok _ (toNat_lt8 _) _).mono ?_; rintro e w1 ⟨rfl, rfl⟩)
      go_ret
      exact ⟨by rw [E.out]; rfl, rfl⟩
  · have hae : a = s.size := by omega
    subst hae
    have E : Hid (opLen ((lst s).drop s.size) = 0) := by rw [List.drop_eq_nil_of_le (by rw [lst_len]; exact Nat.le_refl _)]; rfl
    go_enter Tryd.func46, Tryd.ntmps46
    go_wp2_with fail
    go_ret
    exact ⟨by rw [E.out]; rfl, rfl⟩
end Go.Proofs.YtimlomobbnnehaaDoor

