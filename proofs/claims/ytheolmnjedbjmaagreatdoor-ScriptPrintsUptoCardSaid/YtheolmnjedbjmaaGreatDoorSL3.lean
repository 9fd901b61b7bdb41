import Derived.Test.YtheolmnjedbjmaaGreatDoorSEnv
import Derived.Test.YtheolmnjedbjmaaGreatDoorSL2
namespace Go.Proofs.YtheolmnjedbjmaaGreatDoor
open Go.RowKit
set_option linter.unusedVariables false
set_option linter.unusedSimpArgs false
attribute [local go_sem ↓] Go.wp_at_zero Go.wp_at_succ

set_option maxRecDepth 100000 in
set_option maxHeartbeats 8000000 in
theorem written_ok' (s : ByteArray) (hs : s.size ≤ 35184372088832) (W : World) (hp : Pw W) : Calls Tryz.prog 68 #[.string s] W fun e w' => e = .returned (.string (ba (wordB s.data.toList))) ∧ Bl W w' := by
  have HB : Hid (∀ i (hi : i < s.size), esc (s.data.toList.take (i + 1)) = esc (s.data.toList.take i) ++ escB s[i]) := fun i hi => by
    have hi2 : i < s.data.toList.length := by rw [Array.length_toList]; exact hi
    rw [List.take_succ_eq_append_getElem hi2, esc_append, esc_one]
    rfl
  have HT : Hid ((s.data.toList.take s.size) = s.data.toList) := by
    show _ = _
    rw [List.take_of_length_le]
    rw [Array.length_toList]
    exact Nat.le_refl _
  have HLn : Hid (∀ i, i ≤ s.size → (esc (s.data.toList.take i)).length ≤ 3 * s.size) := fun i hi => by
    have := esc_len (s.data.toList.take i)
    rw [List.length_take] at this
    omega
  have H0 : Hid (Pq (W.alloc (.cells #[.int .u8 61] 5 (1, 2))) W.heap.size (.slice (some ⟨W.heap.size, 0, none⟩) 1 1) [61] ∧ Pf W.heap.size W (W.alloc (.cells #[.int .u8 61] 5 (1, 2)))) := ⟨Or.inr (Lt.new hp [61]), (Pf.refl _ W).alloc (Nat.le_refl _) _⟩
  have HL : (convert 54 54 (.slice (some ⟨W.heap.size, 0, none⟩) 1 1)).run Tryz.prog (W.alloc (.cells #[.int .u8 61] 5)) = .ok (.slice (some ⟨W.heap.size, 0, none⟩) 1 1) (W.alloc (.cells #[.int .u8 61] 5 (1, 2))) := conv_lit W [61]
  clear hp
  go_enter Tryz.func68, Tryz.ntmps68
  go_wp2_with fail
  go_loopw [3, 4] (fun pg q wr => ∃ i : Nat, i ≤ s.size ∧ q = .int .i64 (i : Int) ∧ Hid (Pq wr W.heap.size pg ([61] ++ esc (s.data.toList.take i)) ∧ Pf W.heap.size W wr)) (fun _ q _ => s.size - (intOf q).toNat)
  case atStart => exact ⟨0, Nat.zero_le _, rfl, by simpa [esc] using H0.out.1, H0.out.2⟩
  case round =>
    clear H0 HL
    obtain ⟨i, hi, rfl, hst⟩ := hrel
    have i0 : (0 : Int) ≤ (i : Int) := by omega
    obtain ⟨hp, hf⟩ := hst.out
    have hln := HLn.out i hi
    by_cases hlt : i < s.size
    · have i1 : (i : Int) < (s.size : Int) := by omega
      have hbl : [61].length + (esc (s.data.toList.take i)).length ≤ 105553116266497 := by simp only [List.length_singleton]; omega
      have HX : Hid (∀ v' w' new, escB s[i] = new → Pg w' W.heap.size v' ([61] ++ esc (s.data.toList.take i) ++ new) → Pf W.heap.size wr w' → Pq w' W.heap.size v' ([61] ++ esc (s.data.toList.take (i + 1))) ∧ Pf W.heap.size W w') := fun v' w' new e h1 h2 => ⟨by rw [HB.out i hlt, ← List.append_assoc, e]; exact Or.inl h1, hf.trans h2⟩
      obtain ⟨b, hb⟩ : ∃ b, s[i] = b := ⟨_, rfl⟩
      rw [hb] at HX
      have hbi : s[i] = b := hb
      have HP := mkHid (rplain_ok b wr)
      cases hm : plainB b
      · obtain ⟨v2, w2, hr2, hp2, hf2⟩ := (hp.dr 1).push [37, hexD (b.toNat / 16), hexD (b.toNat % 16)] (by simp) (by simp only [List.length_append, List.length_cons, List.length_nil] at hbl ⊢; omega)
        have HY := mkHid (HX.out v2 w2 _ (escB_hx b hm) hp2 (((Pf.refl _ wr).dn hp.low 1).trans hf2))
        have hc : b.toNat < 256 := b.toNat_lt
        have hd : (b.toNat : Int) / 16 = ((b.toNat / 16 : Nat) : Int) := by omega
        have hd2 : (b.toNat : Int) % 16 = ((b.toNat % 16 : Nat) : Int) := by omega
        have hd3 : Int.tdiv (b.toNat : Int) 16 = ((b.toNat / 16 : Nat) : Int) := by rw [Int.tdiv_eq_ediv_of_nonneg (by omega)]; omega
        have hd4 : Int.tmod (b.toNat : Int) 16 = ((b.toNat % 16 : Nat) : Int) := by rw [Int.tmod_eq_emod_of_nonneg (by omega)]; omega
        have u1 := wrap16 (b.toNat / 16) (by omega)
        have u2 := wrap16 (b.toNat % 16) (by omega)
        have h1 := ix16 (b.toNat / 16) (by omega)
        have h2 := ix16 (b.toNat % 16) (by omega)
        generalize b.toNat / 16 = k1 at *
        generalize b.toNat % 16 = k2 at *
        have HR2 : Hid ((Builtin.append_ #[54, 54] 54 #[u3, .slice (some ⟨wr.heap.size, 0, none⟩) 3 3]).run Tryz.prog ((wr.alloc (.cells #[.int .u8 37, .int .u8 ((hexD k1).toNat : Int), .int .u8 ((hexD k2).toNat : Int)] 5)).drew) = .ok v2 w2) := hr2
        rw [hm] at HP
        clear hst hp hf hr2 hp2 hf2 HX hm hb hln hbl
        go_upto_region 7 with (go_at_call 82; refine HP.out.mono ?_; rintro e w3 ⟨rfl, hw3⟩; rw [hw3]; clear hw3)
        refine wp_region_last (L := 13) (S := (fun _ => True)) (by kernel_rfl) (trivial) (fun hHeld => ?_)
        refine wpLast_take (i := 0) (v := ?_) rfl (by kernel_rfl) (by kernel_rfl) (by kernel_rfl) (by decide) (by kernel_rfl) (fun _ _ _ h => h) (Or.inl ⟨by rfl, ?_⟩) (by assumption) ?_
        rotate_left
        · (intro w hSw; (try dsimp only at hSw); (try go_split_ands); first | (go_simp; done) | (go_simp; with_reducible rfl))
        try simp only [Act.put, List.getElem_toArray, List.getElem_cons_zero, List.getElem_cons_succ, List.setIfInBounds_toArray, List.set_cons_zero, List.set_cons_succ]
        refine wpLast_take (i := 1) (v := ?_) rfl (by kernel_rfl) (by kernel_rfl) (by kernel_rfl) (by decide) (by kernel_rfl) (fun _ _ _ h => h) (Or.inl ⟨by rfl, ?_⟩) (by assumption) ?_
        rotate_left
        · (intro w hSw; (try dsimp only at hSw); (try go_split_ands); first | (go_simp; done) | (go_simp; with_reducible rfl))
        try simp only [Act.put, List.getElem_toArray, List.getElem_cons_zero, List.getElem_cons_succ, List.setIfInBounds_toArray, List.set_cons_zero, List.set_cons_succ]
        refine wpLast_take (i := 2) (v := ?_) rfl (by kernel_rfl) (by kernel_rfl) (by kernel_rfl) (by decide) (by kernel_rfl) (fun _ _ _ h => h) (Or.inl ⟨by rfl, ?_⟩) (by assumption) ?_
        rotate_left
        · (intro w hSw; (try dsimp only at hSw); (try go_split_ands); first | (go_simp; done) | (go_simp; with_reducible rfl))
        try simp only [Act.put, List.getElem_toArray, List.getElem_cons_zero, List.getElem_cons_succ, List.setIfInBounds_toArray, List.set_cons_zero, List.set_cons_succ]
        refine wpLast_take (i := 3) (v := ?_) rfl (by kernel_rfl) (by kernel_rfl) (by kernel_rfl) (by decide) (by kernel_rfl) (fun _ _ _ h => h) (Or.inl ⟨by rfl, ?_⟩) (by assumption) ?_
        rotate_left
        · (intro w hSw; (try dsimp only at hSw); (try go_split_ands); first | (go_simp; done) | (go_simp; with_reducible rfl))
        try simp only [Act.put, List.getElem_toArray, List.getElem_cons_zero, List.getElem_cons_succ, List.setIfInBounds_toArray, List.set_cons_zero, List.set_cons_succ]
        refine wpLast_take (i := 4) (v := ?_) rfl (by kernel_rfl) (by kernel_rfl) (by kernel_rfl) (by decide) (by kernel_rfl) (fun _ _ _ h => h) (Or.inl ⟨by rfl, ?_⟩) (by assumption) ?_
        rotate_left
        · (intro w hSw; (try dsimp only at hSw); (try go_split_ands); first | (go_simp; done) | (go_simp; with_reducible rfl))
        try simp only [Act.put, List.getElem_toArray, List.getElem_cons_zero, List.getElem_cons_succ, List.setIfInBounds_toArray, List.set_cons_zero, List.set_cons_succ]
        refine wpLast_take (i := 5) (v := ?_) rfl (by kernel_rfl) (by kernel_rfl) (by kernel_rfl) (by decide) (by kernel_rfl) (fun _ _ _ h => h) (Or.inl ⟨by rfl, ?_⟩) (by assumption) ?_
        rotate_left
        · (intro w hSw; (try dsimp only at hSw); (try go_split_ands); first | (go_simp; done) | (go_simp; with_reducible rfl))
        try simp only [Act.put, List.getElem_toArray, List.getElem_cons_zero, List.getElem_cons_succ, List.setIfInBounds_toArray, List.set_cons_zero, List.set_cons_succ]
        refine wpLast_take (i := 6) (v := ?_) rfl (by kernel_rfl) (by kernel_rfl) (by kernel_rfl) (by decide) (by kernel_rfl) (fun _ _ _ h => h) (Or.inl ⟨by rfl, ?_⟩) (by assumption) ?_
        rotate_left
        · (intro w hSw; (try dsimp only at hSw); (try go_split_ands); first | (go_simp; done) | (go_simp; with_reducible rfl))
        try simp only [Act.put, List.getElem_toArray, List.getElem_cons_zero, List.getElem_cons_succ, List.setIfInBounds_toArray, List.set_cons_zero, List.set_cons_succ]
        refine wpLast_take (i := 7) (v := ?_) rfl (by kernel_rfl) (by kernel_rfl) (by kernel_rfl) (by decide) (by kernel_rfl) (fun _ _ _ h => h) (Or.inl ⟨by rfl, ?_⟩) (by assumption) ?_
        rotate_left
        · (intro w hSw; (try dsimp only at hSw); (try go_split_ands); first | (go_simp; done) | (go_simp; with_reducible rfl))
        try simp only [Act.put, List.getElem_toArray, List.getElem_cons_zero, List.getElem_cons_succ, List.setIfInBounds_toArray, List.set_cons_zero, List.set_cons_succ]
        refine wpLast_take (i := 8) (v := ?_) rfl (by kernel_rfl) (by kernel_rfl) (by kernel_rfl) (by decide) (by kernel_rfl) (fun _ _ _ h => h) (Or.inl ⟨by rfl, ?_⟩) (by assumption) ?_
        rotate_left
        · (intro w hSw; (try dsimp only at hSw); (try go_split_ands); first | (go_simp; done) | (go_simp; with_reducible rfl))
        try simp only [Act.put, List.getElem_toArray, List.getElem_cons_zero, List.getElem_cons_succ, List.setIfInBounds_toArray, List.set_cons_zero, List.set_cons_succ]
        refine wpLast_take (i := 9) (v := ?_) rfl (by kernel_rfl) (by kernel_rfl) (by kernel_rfl) (by decide) (by kernel_rfl) (fun _ _ _ h => h) (Or.inl ⟨by rfl, ?_⟩) (by assumption) ?_
        rotate_left
        · (intro w hSw; (try dsimp only at hSw); (try go_split_ands); first | (go_simp; done) | (go_simp; with_reducible rfl))
        try simp only [Act.put, List.getElem_toArray, List.getElem_cons_zero, List.getElem_cons_succ, List.setIfInBounds_toArray, List.set_cons_zero, List.set_cons_succ]
        refine wpLast_take (i := 10) (v := ?_) rfl (by kernel_rfl) (by kernel_rfl) (by kernel_rfl) (by decide) (by kernel_rfl) (fun _ _ _ h => h) (Or.inl ⟨by rfl, ?_⟩) (by assumption) ?_
        rotate_left
        · (intro w hSw; (try dsimp only at hSw); (try go_split_ands); first | (go_simp; done) | (go_simp; with_reducible rfl))
        try simp only [Act.put, List.getElem_toArray, List.getElem_cons_zero, List.getElem_cons_succ, List.setIfInBounds_toArray, List.set_cons_zero, List.set_cons_succ]
        refine wpLast_one (i := 11) (by kernel_rfl) rfl (by decide) (fun K hK => ?_)
        go_simp
        refine hK.out _ _ (trivial) (fun hHeld => ?_)
        clear hK K
        try simp only [Act.put, List.getElem_toArray, List.getElem_cons_zero, List.getElem_cons_succ, List.setIfInBounds_toArray, List.set_cons_zero, List.set_cons_succ]
        refine wpLast_one (i := 12) (by kernel_rfl) rfl (by decide) (fun K hK => ?_)
        refine step_append_run rfl (.tmp 23) (.tmp 34) 54 54 rfl u3 (.slice (some ⟨wr.heap.size, 0, none⟩) 3 3) (by simp [Act.eval]) (by simp [Act.eval]) _ _ HR2.out ?_
        refine hK.out _ _ (trivial) (fun hHeld => ?_)
        clear hK K
        try simp only [Act.put, List.getElem_toArray, List.getElem_cons_zero, List.getElem_cons_succ, List.setIfInBounds_toArray, List.set_cons_zero, List.set_cons_succ]
        refine wpLast_end (by kernel_rfl) rfl (by kernel_rfl) (fun K hK => ?_)
        go_simp
        refine hK.out _ _ ?_
        clear hK K
        try simp only [Act.put, List.getElem_toArray, List.getElem_cons_zero, List.getElem_cons_succ, List.setIfInBounds_toArray, List.set_cons_zero, List.set_cons_succ]
        go_wp2_with fail
        go_roundw
        case rel => exact ⟨i + 1, by omega, by go_num, HY.out⟩
        case measure => simp [intOf]; omega
      · obtain ⟨v2, w2, hr2, hp2, hf2⟩ := hp.push [b] (by simp) (by simp only [List.length_append, List.length_cons, List.length_nil] at hbl ⊢; omega)
        have HY := mkHid (HX.out v2 w2 _ (escB_pl b hm) hp2 hf2)
        have HR2 := mkHid hr2
        rw [hm] at HP
        clear hst hp hf hr2 hp2 hf2 HX hm hb hln hbl
        go_wp2_with (first
          | (go_at_call 82; refine HP.out.mono ?_; rintro e w3 ⟨rfl, hw3⟩; rw [hw3]; clear hw3)
          | (at_builtin; refine Lib.wpList_append_run _ rfl (.tmp 17) (.tmp 21) 54 54 rfl _ _ rfl rfl _ _ HR2.out ?_))
        go_roundw
        case rel => exact ⟨i + 1, by omega, by go_num, HY.out⟩
        case measure => simp [intOf]; omega
    · have hie : i = s.size := by omega
      subst hie
      rw [HT.out] at hp
      have HC := hp.conv
      have HX : Hid (Bl W wr ∧ (⟨([61] ++ esc s.data.toList).toArray⟩ : ByteArray) = ba (wordB s.data.toList)) := ⟨hf.below, by unfold wordB ba; simp⟩
      rw [HX.out.2] at HC
      clear hst hp hf hln
      go_wp2_with fail
      go_ret
      exact ⟨rfl, HX.out.1⟩
theorem written_ok (s : Bs) (hs : s.length ≤ 35184372088832) (W : World) (hp : Pw W) : Calls Tryz.prog 68 #[.string (ba s)] W fun e w' => e = .returned (.string (ba (wordB s))) ∧ Bl W w' := by
  have := written_ok' (ba s) (by rw [ba_size]; exact hs) W hp
  rwa [ba_data] at this
end Go.Proofs.YtheolmnjedbjmaaGreatDoor

