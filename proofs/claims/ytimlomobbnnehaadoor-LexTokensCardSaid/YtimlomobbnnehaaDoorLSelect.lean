import Derived.Test.YtimlomobbnnehaaDoorLSel
namespace Go.Proofs.YtimlomobbnnehaaDoor
open Go.RowKit
set_option linter.unusedVariables false
set_option linter.unusedSimpArgs false
theorem kwsN_le : ∀ (f : Nat) (l : Bs) (n : Nat), kwsNF f l = some n → n ≤ l.length := by
  intro f
  induction f with
  | zero => intro l n h; unfold kwsNF at h; split at h; (cases h; omega); cases h
  | succ f ih =>
    intro l n h
    unfold kwsNF at h
    split at h
    · cases h; omega
    · split at h
      · cases h
      · rename_i h1 h2
        obtain ⟨m, hm, rfl⟩ := Option.map_eq_some_iff.1 h
        have := ih _ _ hm
        have := kwLen_le l
        simp at *
        omega
theorem kwAns_zero {o : Option Nat} (h : o = none ∨ o = some 0) : kwAns o = (0, 1) := by rcases h with rfl | rfl <;> rfl
theorem kwAns_pos {n : Nat} (h : n ≠ 0) : kwAns (some n) = (n, 0) := by obtain ⟨m, rfl⟩ : ∃ m, n = m + 1 := ⟨n - 1, by omega⟩; rfl
set_option maxHeartbeats 4000000 in
set_option maxRecDepth 1000000 in
theorem keywords_ok (s : ByteArray) (w : World) (hs : s.size ≤ 140737488355328) :
    Calls Tryd.prog 36 #[.string s] w fun e w' => e = .returned (.tuple #[.int .i64 (kwAns (kwsN (lst s))).1, .int .i64 (kwAns (kwsN (lst s))).2]) ∧ Bl w w' := by
  go_enter Tryd.func36, Tryd.ntmps36
  go_wp2
  go_loopw [0, 4] (fun a c wr => ∃ (t : ByteArray) (n : Nat), a = .string t ∧ c = .int .i64 n ∧ t.size + n ≤ s.size ∧ Hid (kwsN (lst s) = (kwsN (lst t)).map (· + n) ∧ Bl w wr)) (fun a _ _ => strN a)
  case atStart => exact ⟨s, 0, rfl, rfl, by omega, by simp, Bl.refl w⟩
  case round =>
    obtain ⟨t, n, rfl, rfl, hz, hH⟩ := hrel
    have hst := kwsN_step (lst t)
    have hts : t.size ≤ 140737488355328 := by omega
    by_cases h0 : t.size = 0
    · have hE : t.toList.isEmpty = true := isEmpty_of h0
      rw [if_pos (lst_nil.2 h0)] at hst
      have hv : kwsN (lst s) = some n := by rw [hH.out.1, hst]; simp
      clear hst
      by_cases n0 : n = 0
      · have hf := kwAns_zero (o := kwsN (lst s)) (Or.inr (by rw [hv, n0]))
        clear hv
        subst n0
        go_wp2
        go_wp2
        go_ret2
        exact ⟨by rw [hf]; rfl, hH.out.2⟩
      · have hf : kwAns (kwsN (lst s)) = (n, 0) := by rw [hv]; exact kwAns_pos n0
        clear hv
        go_wp2
        go_wp2
        go_ret2
        exact ⟨by rw [hf]; rfl, hH.out.2⟩
    · have hE : t.toList.isEmpty = false := not_empty_of h0
      rw [if_neg (fun h => h0 (lst_nil.1 h))] at hst
      have hk := kwLength_ok t wr hts
      have hle := kwLen_le (lst t)
      rw [lst_len] at hle
      by_cases k0 : kwLen (lst t) = 0
      · have hf := kwAns_zero (o := kwsN (lst s)) (Or.inl (by rw [hH.out.1, hst, if_pos (Or.inl k0)]; rfl))
        rw [k0] at hk
        clear hst hle k0
        go_wp2_with (first | (go_at_call 51; refine hk.mono ?_; rintro e w1 ⟨rfl, b1⟩) | (go_at_call 33; refine (isSmall_ok t _).mono ?_; rintro e w2 ⟨rfl, rfl⟩))
        go_ret2
        exact ⟨by rw [hf]; rfl, hH.out.2.trans b1⟩
      · by_cases cS : smallB (lst t) = true
        · rw [if_neg (by rintro (h | h); exact k0 h; unfold smallB at cS; rw [cS] at h; cases h), ← lst_from] at hst
          have hsz := size_from t (kwLen (lst t))
          have hx : Hid (kwsN (lst s) = (kwsN (lst (t.extract (kwLen (lst t)) t.size))).map (· + (n + 1))) := by
            unfold Hid
            rw [hH.out.1, hst, Option.map_map]
            congr 1
            funext x
            simp
            omega
          clear hst
          generalize kwLen (lst t) = d at *
          have hi : (d : Int) ≤ t.size := by omega
          have hi0 : (0 : Int) < d := by omega
          go_wp2_with (first | (go_at_call 51; refine hk.mono ?_; rintro e w1 ⟨rfl, b1⟩) | (go_at_call 33; refine (isSmall_ok t _).mono ?_; rintro e w2 ⟨rfl, rfl⟩))
          go_roundw
          case rel => exact ⟨t.extract d t.size, n + 1, rfl, by simp, by rw [hsz]; omega, hx.out, hH.out.2.trans b1⟩
          case measure => simp only [strN]; rw [hsz]; omega
        · have cS' : smallB (lst t) = false := by simpa using cS
          have hf := kwAns_zero (o := kwsN (lst s)) (Or.inl (by rw [hH.out.1, hst, if_pos (Or.inr (show isS (hd (lst t)) = false from cS'))]; rfl))
          clear hst cS
          generalize kwLen (lst t) = d at *
          go_wp2_with (first | (go_at_call 51; refine hk.mono ?_; rintro e w1 ⟨rfl, b1⟩) | (go_at_call 33; refine (isSmall_ok t _).mono ?_; rintro e w2 ⟨rfl, rfl⟩))
          go_ret2
          exact ⟨by rw [hf]; rfl, hH.out.2.trans b1⟩
set_option maxHeartbeats 4000000 in
theorem sel_ok (s : ByteArray) (w : World) (hs : s.size ≤ 140737488355328) :
    Calls Tryd.prog 15 #[.string s] w fun e w' => e = .returned (.tuple #[.int .i64 (sel (lst s)).1, .int .i64 (sel (lst s)).2]) ∧ Bl w w' := by
  have hn := isName_ok s w hs
  have e : Hid (sel (lst s) = if nameB (lst s) = true ∧ smallB (lst s) = true ∧ resB (lst s) = false then (0, 0) else if opB (lst s) = true then (1, 0) else kwAns (kwsN (lst s))) := mkHid rfl
  have hsm := isSmall_ok s
  have hre := isRes_ok s
  have hop := fun w => isOp_ok s w hs
  have hkw := fun w => keywords_ok s w hs
  generalize sel (lst s) = v at *
  generalize kwAns (kwsN (lst s)) = k at *
  generalize nameB (lst s) = b1 at *
  generalize smallB (lst s) = b2 at *
  generalize resB (lst s) = b3 at *
  generalize opB (lst s) = b4 at *
  obtain ⟨k1, k2⟩ := k
  cases b1 <;> cases b2 <;> cases b3 <;> cases b4
  all_goals go_enter Tryd.func15, Tryd.ntmps15
  all_goals go_wp2_with (first | (go_at_call 32; refine hn.mono ?_; rintro e w1 ⟨rfl, q1⟩) | (go_at_call 33; refine (hsm _).mono ?_; rintro e w2 ⟨rfl, rfl⟩) | (go_at_call 34; refine (hre _).mono ?_; rintro e w2 ⟨rfl, rfl⟩) | (go_at_call 35; refine (hop _).mono ?_; rintro e w2 ⟨rfl, rfl⟩) | (go_at_call 36; refine (hkw _).mono ?_; rintro e w3 ⟨rfl, q2⟩))
  all_goals go_ret2
  all_goals first | exact ⟨by rw [e.out]; rfl, q1⟩ | exact ⟨by rw [e.out]; rfl, q1.trans q2⟩
end Go.Proofs.YtimlomobbnnehaaDoor

