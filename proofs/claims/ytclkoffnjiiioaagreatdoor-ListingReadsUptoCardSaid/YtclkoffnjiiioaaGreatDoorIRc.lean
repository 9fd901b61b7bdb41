import Derived.Test.YtclkoffnjiiioaaGreatDoorG21IRa
import Derived.Test.YtclkoffnjiiioaaGreatDoorG01IPm
namespace Go.Proofs.YtclkoffnjiiioaaGreatDoor
open Go.RowKit
set_option linter.unusedVariables false
set_option linter.unusedSimpArgs false
attribute [local go_sem ↓] Go.wp_at_zero Go.wp_at_succ
def ba (l : List UInt8) : ByteArray := ⟨l.toArray⟩
theorem ba_app (a b : List UInt8) : ba a ++ ba b = ba (a ++ b) := by
  apply ByteArray.ext
  show (ba a ++ ba b).data = _
  rw [ByteArray.data_append]
  simp [ba]
/-- a page of one byte -/
theorem Pg.new {W : World} (hp : Pw W) (b : UInt8) : Pg (W.alloc (.cells #[.int .u8 (b.toNat : Int)] 5)) W.heap.size (.slice (some ⟨W.heap.size, 0, none⟩) 1 1) [b] := by
  refine ⟨⟨rfl, .inr ⟨W.heap.size, 1, #[.int .u8 (b.toNat : Int)], rfl, Nat.le_refl _, heap_alloc_new W _, ?_⟩⟩, by simp, (hp.tab (Nat.le_refl _)).on ((Fr.alloc [] W _).below (Nat.le_refl _) (by simp))⟩
  exact ⟨by simp, by unfold maxLen; omega, rfl, rfl⟩
theorem wrap16 : ∀ k : Nat, k < 16 → IntKind.u8.wrap (k : Int) = (k : Int) := by decide
set_option maxRecDepth 100000 in
set_option maxHeartbeats 8000000 in
theorem rtext_ok (s : ByteArray) (hs : s.size ≤ 2000000) (W : World) (hp : Pw W) : Calls Tryz.prog 60 #[.string s] W fun e w' => e = .returned (.string (ba (textW s))) ∧ Fr [] W w' := by
  have HB : Hid (∀ i (hi : i < s.size), (s.data.toList.take (i + 1)).flatMap escB = (s.data.toList.take i).flatMap escB ++ escB s[i]) := fun i hi => by
    have hi2 : i < s.data.toList.length := by rw [Array.length_toList]; exact hi
    rw [List.take_succ_eq_append_getElem hi2, List.flatMap_append]
    congr 1
    simp [List.flatMap_cons]
    rfl
  have HT : Hid ((s.data.toList.take s.size) = s.data.toList) := by
    show _ = _
    rw [List.take_of_length_le]
    rw [Array.length_toList]
    exact Nat.le_refl _
  have HLn : Hid (∀ i, i ≤ s.size → ((s.data.toList.take i).flatMap escB).length ≤ 8000000) := fun i hi => by
    have := esc_len (s.data.toList.take i)
    rw [List.length_take] at this
    omega
  have H0 : Hid (Pg (W.alloc (.cells #[.int .u8 39] 5)) W.heap.size (.slice (some ⟨W.heap.size, 0, none⟩) 1 1) [39] ∧ Pf W.heap.size W (W.alloc (.cells #[.int .u8 39] 5))) := ⟨Pg.new hp 39, (Pf.refl _ W).alloc (Nat.le_refl _) _⟩
  clear hp
  go_enter Tryz.func60, Tryz.ntmps60
  go_wp2_with fail
  go_loopw [3, 4] (fun pg q wr => ∃ i : Nat, i ≤ s.size ∧ q = .int .i64 (i : Int) ∧ Hid (Pg wr W.heap.size pg ([39] ++ (s.data.toList.take i).flatMap escB) ∧ Pf W.heap.size W wr)) (fun _ q _ => s.size - (intOf q).toNat)
  case atStart => exact ⟨0, Nat.zero_le _, rfl, by simpa using H0.out.1, H0.out.2⟩
  case round =>
    clear H0
    obtain ⟨i, hi, rfl, hst⟩ := hrel
    have i0 : (0 : Int) ≤ (i : Int) := by omega
    obtain ⟨hp, hf⟩ := hst.out
    have hln := HLn.out i hi
    by_cases hlt : i < s.size
    · have i1 : (i : Int) < (s.size : Int) := by omega
      have hbl : [39].length + ((s.data.toList.take i).flatMap escB).length ≤ 9000000 := by simp only [List.length_singleton]; omega
      have HX : Hid (∀ v' w' new, escB s[i] = new → Pg w' W.heap.size v' ([39] ++ (s.data.toList.take i).flatMap escB ++ new) → Pf W.heap.size wr w' → Pg w' W.heap.size v' ([39] ++ (s.data.toList.take (i + 1)).flatMap escB) ∧ Pf W.heap.size W w') := fun v' w' new e h1 h2 => ⟨by rw [HB.out i hlt, ← List.append_assoc, e]; exact h1, hf.trans h2⟩
      obtain ⟨b, hb⟩ : ∃ b, s[i] = b := ⟨_, rfl⟩
      rw [hb] at HX
      have hbi : s[i] = b := hb
      cases hm : mkB b
      · have hm1 : ((b.toNat : Int) == 39) = false := by have := u8_eq b 39 (by decide); rw [show ((39 : Nat) : Int) = 39 from rfl] at this; rw [this]; unfold mkB at hm; simp at hm; simpa using hm.1
        have hm2 : ((b.toNat : Int) == 92) = false := by have := u8_eq b 92 (by decide); rw [show ((92 : Nat) : Int) = 92 from rfl] at this; rw [this]; unfold mkB at hm; simp at hm; simpa using hm.2
        by_cases hpl : 32 ≤ b.toNat ∧ b.toNat ≤ 126
        · obtain ⟨v2, w2, hr2, hp2, hf2⟩ := hp.push [b] (by simp only [List.length_append, List.length_cons, List.length_nil] at hbl ⊢; omega)
          have HY := mkHid (HX.out v2 w2 [b] (escB_plain b hpl.1 hpl.2 hm) hp2 hf2)
          have HR2 := mkHid hr2
          have q1 : decide ((32 : Int) ≤ (b.toNat : Int)) = true := decide_eq_true (by omega)
          have q2 : decide ((b.toNat : Int) ≤ 126) = true := decide_eq_true (by omega)
          clear hst hp hf hr2 hp2 hf2 HX hm hpl hb hln hbl
          go_wp2_with (at_builtin; refine Lib.wpList_append_run _ rfl (.tmp 32) (.tmp 34) 57 57 rfl _ _ rfl rfl _ _ HR2.out ?_)
          go_roundw
          case rel => exact ⟨i + 1, by omega, by go_num, HY.out⟩
          case measure => simp [intOf]; omega
        · obtain ⟨v2, w2, hr2, hp2, hf2⟩ := (hp.dr 1).push [92, 120, hexD (b.toNat / 16), hexD (b.toNat % 16)] (by simp only [List.length_append, List.length_cons, List.length_nil] at hbl ⊢; omega)
          have HY := mkHid (HX.out v2 w2 _ (escB_hex b hpl hm) hp2 (((Pf.refl _ wr).dn hp.low 1).trans hf2))
          have hc : b.toNat < 256 := b.toNat_lt
          have hd : (b.toNat : Int) / 16 = ((b.toNat / 16 : Nat) : Int) := by omega
          have hd2 : (b.toNat : Int) % 16 = ((b.toNat % 16 : Nat) : Int) := by omega
          have hd3 : Int.tdiv (b.toNat : Int) 16 = ((b.toNat / 16 : Nat) : Int) := by rw [Int.tdiv_eq_ediv_of_nonneg (by omega)]; omega
          have hd4 : Int.tmod (b.toNat : Int) 16 = ((b.toNat % 16 : Nat) : Int) := by rw [Int.tmod_eq_emod_of_nonneg (by omega)]; omega
          have u1 := wrap16 (b.toNat / 16) (by omega)
          have u2 := wrap16 (b.toNat % 16) (by omega)
          have h1 := ix16 (b.toNat / 16) (by omega)
          have h2 := ix16 (b.toNat % 16) (by omega)
          have q3 : (decide ((32 : Int) ≤ (b.toNat : Int)) && decide ((b.toNat : Int) ≤ 126)) = false := by
            simp only [Bool.and_eq_false_iff, decide_eq_false_iff_not]; omega
          generalize b.toNat / 16 = k1 at *
          generalize b.toNat % 16 = k2 at *
          have HR2 : Hid ((Builtin.append_ #[57, 57] 57 #[u3, .slice (some ⟨wr.heap.size, 0, none⟩) 4 4]).run Tryz.prog ((wr.alloc (.cells #[.int .u8 92, .int .u8 120, .int .u8 ((hexD k1).toNat : Int), .int .u8 ((hexD k2).toNat : Int)] 5)).drew) = .ok v2 w2) := hr2
          have hor : ((32 : Int) ≤ (b.toNat : Int)) ∧ decide ((b.toNat : Int) ≤ 126) = false ∨ decide ((32 : Int) ≤ (b.toNat : Int)) = false := by
            by_cases h : (32 : Int) ≤ (b.toNat : Int)
            · exact .inl ⟨h, decide_eq_false (by omega)⟩
            · exact .inr (decide_eq_false h)
          clear hst hp hf hr2 hp2 hf2 HX hm hpl hb hln hbl q3
          rcases hor with ⟨o1, o2⟩ | o1
          all_goals
            go_upto_region 10 with fail
            refine wp_region_last (L := 9) (S := (fun _ => True)) (by kernel_rfl) (trivial) (fun hHeld => ?_)
            refine wpLast_take (i := 0) (v := ?_) rfl (by kernel_rfl) (by kernel_rfl) (by kernel_rfl) (by decide) (by kernel_rfl) (fun _ _ _ h => h) (Or.inl ⟨by rfl, ?_⟩) (by assumption) ?_
            rotate_left
            · (intro w hSw; (try dsimp only at hSw); first | (go_simp; done) | (go_simp; with_reducible rfl))
            try simp only [Act.put, qT, qZ, qS, qB, qY, qX]
            refine wpLast_take (i := 1) (v := ?_) rfl (by kernel_rfl) (by kernel_rfl) (by kernel_rfl) (by decide) (by kernel_rfl) (fun _ _ _ h => h) (Or.inl ⟨by rfl, ?_⟩) (by assumption) ?_
            rotate_left
            · (intro w hSw; (try dsimp only at hSw); first | (go_simp; done) | (go_simp; with_reducible rfl))
            try simp only [Act.put, qT, qZ, qS, qB, qY, qX]
            refine wpLast_take (i := 2) (v := ?_) rfl (by kernel_rfl) (by kernel_rfl) (by kernel_rfl) (by decide) (by kernel_rfl) (fun _ _ _ h => h) (Or.inl ⟨by rfl, ?_⟩) (by assumption) ?_
            rotate_left
            · (intro w hSw; (try dsimp only at hSw); first | (go_simp; done) | (go_simp; with_reducible rfl))
            try simp only [Act.put, qT, qZ, qS, qB, qY, qX]
            refine wpLast_take (i := 3) (v := ?_) rfl (by kernel_rfl) (by kernel_rfl) (by kernel_rfl) (by decide) (by kernel_rfl) (fun _ _ _ h => h) (Or.inl ⟨by rfl, ?_⟩) (by assumption) ?_
            rotate_left
            · (intro w hSw; (try dsimp only at hSw); first | (go_simp; done) | (go_simp; with_reducible rfl))
            try simp only [Act.put, qT, qZ, qS, qB, qY, qX]
            refine wpLast_take (i := 4) (v := ?_) rfl (by kernel_rfl) (by kernel_rfl) (by kernel_rfl) (by decide) (by kernel_rfl) (fun _ _ _ h => h) (Or.inl ⟨by rfl, ?_⟩) (by assumption) ?_
            rotate_left
            · (intro w hSw; (try dsimp only at hSw); first | (go_simp; done) | (go_simp; with_reducible rfl))
            try simp only [Act.put, qT, qZ, qS, qB, qY, qX]
            refine wpLast_take (i := 5) (v := ?_) rfl (by kernel_rfl) (by kernel_rfl) (by kernel_rfl) (by decide) (by kernel_rfl) (fun _ _ _ h => h) (Or.inl ⟨by rfl, ?_⟩) (by assumption) ?_
            rotate_left
            · (intro w hSw; (try dsimp only at hSw); first | (go_simp; done) | (go_simp; with_reducible rfl))
            try simp only [Act.put, qT, qZ, qS, qB, qY, qX]
            refine wpLast_take (i := 6) (v := ?_) rfl (by kernel_rfl) (by kernel_rfl) (by kernel_rfl) (by decide) (by kernel_rfl) (fun _ _ _ h => h) (Or.inl ⟨by rfl, ?_⟩) (by assumption) ?_
            rotate_left
            · (intro w hSw; (try dsimp only at hSw); first | (go_simp; done) | (go_simp; with_reducible rfl))
            try simp only [Act.put, qT, qZ, qS, qB, qY, qX]
            refine wpLast_one (i := 7) (by kernel_rfl) rfl (by decide) (fun K hK => ?_)
            go_simp
            refine hK.out _ _ (trivial) (fun hHeld => ?_)
            clear hK K
            try simp only [Act.put, qT, qZ, qS, qB, qY, qX]
            refine wpLast_one (i := 8) (by kernel_rfl) rfl (by decide) (fun K hK => ?_)
            refine step_append_run rfl (.tmp 36) (.tmp 43) 57 57 rfl u3 (.slice (some ⟨wr.heap.size, 0, none⟩) 4 4) (by simp [Act.eval]) (by simp [Act.eval]) _ _ HR2.out ?_
            refine hK.out _ _ (trivial) (fun hHeld => ?_)
            clear hK K
            try simp only [Act.put, qT, qZ, qS, qB, qY, qX]
            refine wpLast_end (by kernel_rfl) rfl (by kernel_rfl) (fun K hK => ?_)
            go_simp
            refine hK.out _ _ ?_
            clear hK K
            try simp only [Act.put, qT, qZ, qS, qB, qY, qX]
            go_wp2_with fail
            go_roundw
            case rel => exact ⟨i + 1, by omega, by go_num, HY.out⟩
            case measure => simp [intOf]; omega
      · obtain ⟨v2, w2, hr2, hp2, hf2⟩ := hp.push [92, b] (by simp only [List.length_append, List.length_cons, List.length_nil] at hbl ⊢; omega)
        have HY := mkHid (HX.out v2 w2 _ (escB_mark b hm) hp2 hf2)
        have HR2 := mkHid hr2
        have hor : ((b.toNat : Int) == 39) = true ∨ ((b.toNat : Int) == 39) = false ∧ ((b.toNat : Int) == 92) = true := by
          have e1 := u8_eq b 39 (by decide)
          have e2 := u8_eq b 92 (by decide)
          rw [show ((39 : Nat) : Int) = 39 from rfl] at e1
          rw [show ((92 : Nat) : Int) = 92 from rfl] at e2
          rw [e1, e2]
          unfold mkB at hm
          simp at hm ⊢
          rcases hm with h | h
          · exact .inl h
          · by_cases h3 : b = 39
            · exact .inl h3
            · exact .inr ⟨h3, h⟩
        clear hst hp hf hr2 hp2 hf2 HX hm hb hln hbl
        rcases hor with o1 | ⟨o1, o2⟩
        all_goals
          go_wp2_with (at_builtin; refine Lib.wpList_append_run _ rfl (.tmp 22) (.tmp 24) 57 57 rfl _ _ rfl rfl _ _ HR2.out ?_)
          go_roundw
          case rel => exact ⟨i + 1, by omega, by go_num, HY.out⟩
          case measure => simp [intOf]; omega
    · have hie : i = s.size := by omega
      subst hie
      obtain ⟨v2, w2, hr2, hp2, hf2⟩ := hp.push [39] (by simp only [List.length_append, List.length_cons, List.length_nil]; omega)
      rw [HT.out] at hp2
      have HC := hp2.conv
      have HR2 := mkHid hr2
      have HX : Hid (Fr [] W w2 ∧ (⟨([39] ++ s.data.toList.flatMap escB ++ [39]).toArray⟩ : ByteArray) = ba (textW s)) := ⟨below_fr (hf.trans hf2).below, by unfold textW ba; simp⟩
      rw [HX.out.2] at HC
      clear hst hp hf hr2 hp2 hf2 hln
      go_wp2_with (at_builtin; refine Lib.wpList_append_run _ rfl (.tmp 45) (.tmp 46) 57 57 rfl _ _ rfl rfl _ _ HR2.out ?_)
      go_ret
      exact ⟨rfl, HX.out.1⟩
end Go.Proofs.YtclkoffnjiiioaaGreatDoor

