import Derived.Test.YtclkoffnjiiioaaDoorIWr
import Derived.Test.YtclkoffnjiiioaaDoorCLast
namespace Go.Proofs.YtclkoffnjiiioaaDoor
open Go.RowKit
set_option linter.unusedVariables false
set_option linter.unusedSimpArgs false
attribute [local go_sem ↓] Go.wp_at_zero Go.wp_at_succ
theorem escB_plain (c : UInt8) (h1 : 32 ≤ c.toNat) (h2 : c.toNat ≤ 126) (h3 : mkB c = false) : escB c = [c] := by
  unfold mkB at h3
  unfold escB
  rw [if_neg (by simpa using h3), if_pos ⟨h1, h2⟩]
theorem escB_mark (c : UInt8) (h3 : mkB c = true) : escB c = [92, c] := by
  unfold mkB at h3
  unfold escB
  rw [if_pos (by simpa using h3)]
theorem escB_hex (c : UInt8) (h : ¬(32 ≤ c.toNat ∧ c.toNat ≤ 126)) (h3 : mkB c = false) : escB c = [92, 120, hexD (c.toNat / 16), hexD (c.toNat % 16)] := by
  unfold mkB at h3
  unfold escB
  rw [if_neg (by simpa using h3), if_neg (fun hh => h ⟨hh.1, hh.2⟩)]
theorem and15 : ∀ n : Nat, n < 256 → Go.bits .and .u8 (n : Int) 15 = ((n % 16 : Nat) : Int) := by decide +kernel
theorem ix16 (k : Nat) (hk : k < 16) (w : World) : (Instr.index 9 (.string ⟨#[48, 49, 50, 51, 52, 53, 54, 55, 56, 57, 97, 98, 99, 100, 101, 102]⟩) (.int .u8 (k : Int))).run Tryd.prog w = .ok (.int .u8 ((hexD k).toNat : Int)) w := by
  rcases (show k = 0 ∨ k = 1 ∨ k = 2 ∨ k = 3 ∨ k = 4 ∨ k = 5 ∨ k = 6 ∨ k = 7 ∨ k = 8 ∨ k = 9 ∨ k = 10 ∨ k = 11 ∨ k = 12 ∨ k = 13 ∨ k = 14 ∨ k = 15 by omega) with rfl | rfl | rfl | rfl | rfl | rfl | rfl | rfl | rfl | rfl | rfl | rfl | rfl | rfl | rfl | rfl <;> kernel_rfl
set_option maxRecDepth 100000 in
set_option maxHeartbeats 4000000 in
theorem writeByte_ok {W : World} {B : Nat} {v : Value} {bs : List UInt8} (h : Pg W B v bs) (c : UInt8) (hl : bs.length + 21 ≤ 140737488355328) : Calls Tryd.prog 67 #[v, .int .u8 (c.toNat : Int)] W fun e w' => WrP W B bs (escB c) e w' := by
  have HP := mkHid (isPlain_ok c W)
  have HM := mkHid (isMark_ok c W)
  cases hm : mkB c
  · by_cases hp : 32 ≤ c.toNat ∧ c.toNat ≤ 126
    · obtain ⟨v1, w1, hr, hpg, hf⟩ := h.push [c] (by simp; omega)
      have HE := mkHid (escB_plain c hp.1 hp.2 hm)
      rw [HE.out]
      rw [show (decide (32 ≤ c.toNat) && decide (c.toNat ≤ 126) && !mkB c) = true by simp [hp.1, hp.2, hm]] at HP
      have HR := mkHid hr
      have H1 := mkHid (And.intro hpg hf)
      clear h hr hpg hf HM hm hp HE
      go_enter Tryd.func67, Tryd.ntmps67
      go_wp2_with (first
        | (go_at_call 68; refine HP.out.mono ?_; rintro e w2 ⟨rfl, rfl⟩)
        | (at_builtin; refine Lib.wpList_append_run _ rfl (.tmp 8) (.tmp 10) 47 47 rfl _ _ rfl rfl _ _ HR.out ?_))
      go_ret
      exact ⟨v1, rfl, H1.out.1, H1.out.2⟩
    · have HE := mkHid (escB_hex c hp hm)
      rw [HE.out]
      rw [show (decide (32 ≤ c.toNat) && decide (c.toNat ≤ 126) && !mkB c) = false by simp [hm]; omega] at HP
      rw [hm] at HM
      obtain ⟨v1, w1, hr, hpg, hf⟩ := (h.dr 1).push [92, 120, hexD (c.toNat / 16), hexD (c.toNat % 16)] (by simp; omega)
      have H1 := mkHid (And.intro hpg ((((Pf.refl B W).dn h.low 1)).trans hf))
      have hc : c.toNat < 256 := c.toNat_lt
      have ha : Go.bits .and .u8 (c.toNat : Int) 15 = ((c.toNat % 16 : Nat) : Int) := and15 c.toNat hc
      have hd : (c.toNat : Int) / 16 = ((c.toNat / 16 : Nat) : Int) := by omega
      have h1 := ix16 (c.toNat / 16) (by omega)
      have h2 := ix16 (c.toNat % 16) (by omega)
      generalize c.toNat / 16 = k1 at *
      generalize c.toNat % 16 = k2 at *
      have HR : Hid ((Builtin.append_ #[47, 47] 47 #[v, .slice (some ⟨W.heap.size, 0, none⟩) 4 4]).run Tryd.prog ((W.alloc (.cells #[.int .u8 92, .int .u8 120, .int .u8 ((hexD k1).toNat : Int), .int .u8 ((hexD k2).toNat : Int)] 5)).drew) = .ok v1 w1) := hr
      clear hr
      clear h hpg hf hm hp HE
      go_enter Tryd.func67, Tryd.ntmps67
      go_wp2_with (first
        | (go_at_call 68; refine HP.out.mono ?_; rintro e w2 ⟨rfl, hw2⟩; rw [hw2]; clear hw2 w2)
        | (go_at_call 69; refine HM.out.mono ?_; rintro e w2 ⟨rfl, hw2⟩; rw [hw2]; clear hw2 w2))
      refine wp_region_last (L := 9) (S := (fun _ => True)) (by kernel_rfl) (trivial) (fun hHeld => ?_)
      refine wpLast_take (i := 0) (v := ?_) rfl (by kernel_rfl) (by kernel_rfl) (by kernel_rfl) (by decide) (by kernel_rfl) (fun _ _ _ h => h) (Or.inl ⟨by rfl, ?_⟩) (by assumption) ?_
      rotate_left
      · (intro w hSw; (try dsimp only at hSw); first | (go_simp; done) | (go_simp; with_reducible rfl))
      try simp only [Act.put, List.getElem_toArray, List.getElem_cons_zero, List.getElem_cons_succ, List.setIfInBounds_toArray, List.set_cons_zero, List.set_cons_succ]
      refine wpLast_take (i := 1) (v := ?_) rfl (by kernel_rfl) (by kernel_rfl) (by kernel_rfl) (by decide) (by kernel_rfl) (fun _ _ _ h => h) (Or.inl ⟨by rfl, ?_⟩) (by assumption) ?_
      rotate_left
      · (intro w hSw; (try dsimp only at hSw); first | (go_simp; done) | (go_simp; with_reducible rfl))
      try simp only [Act.put, List.getElem_toArray, List.getElem_cons_zero, List.getElem_cons_succ, List.setIfInBounds_toArray, List.set_cons_zero, List.set_cons_succ]
      refine wpLast_take (i := 2) (v := ?_) rfl (by kernel_rfl) (by kernel_rfl) (by kernel_rfl) (by decide) (by kernel_rfl) (fun _ _ _ h => h) (Or.inl ⟨by rfl, ?_⟩) (by assumption) ?_
      rotate_left
      · (intro w hSw; (try dsimp only at hSw); first | (go_simp; done) | (go_simp; with_reducible rfl))
      try simp only [Act.put, List.getElem_toArray, List.getElem_cons_zero, List.getElem_cons_succ, List.setIfInBounds_toArray, List.set_cons_zero, List.set_cons_succ]
      refine wpLast_take (i := 3) (v := ?_) rfl (by kernel_rfl) (by kernel_rfl) (by kernel_rfl) (by decide) (by kernel_rfl) (fun _ _ _ h => h) (Or.inl ⟨by rfl, ?_⟩) (by assumption) ?_
      rotate_left
      · (intro w hSw; (try dsimp only at hSw); first | (go_simp; done) | (go_simp; with_reducible rfl))
      try simp only [Act.put, List.getElem_toArray, List.getElem_cons_zero, List.getElem_cons_succ, List.setIfInBounds_toArray, List.set_cons_zero, List.set_cons_succ]
      refine wpLast_take (i := 4) (v := ?_) rfl (by kernel_rfl) (by kernel_rfl) (by kernel_rfl) (by decide) (by kernel_rfl) (fun _ _ _ h => h) (Or.inl ⟨by rfl, ?_⟩) (by assumption) ?_
      rotate_left
      · (intro w hSw; (try dsimp only at hSw); first | (go_simp; done) | (go_simp; with_reducible rfl))
      try simp only [Act.put, List.getElem_toArray, List.getElem_cons_zero, List.getElem_cons_succ, List.setIfInBounds_toArray, List.set_cons_zero, List.set_cons_succ]
      refine wpLast_take (i := 5) (v := ?_) rfl (by kernel_rfl) (by kernel_rfl) (by kernel_rfl) (by decide) (by kernel_rfl) (fun _ _ _ h => h) (Or.inl ⟨by rfl, ?_⟩) (by assumption) ?_
      rotate_left
      · (intro w hSw; (try dsimp only at hSw); first | (go_simp; done) | (go_simp; with_reducible rfl))
      try simp only [Act.put, List.getElem_toArray, List.getElem_cons_zero, List.getElem_cons_succ, List.setIfInBounds_toArray, List.set_cons_zero, List.set_cons_succ]
      refine wpLast_take (i := 6) (v := ?_) rfl (by kernel_rfl) (by kernel_rfl) (by kernel_rfl) (by decide) (by kernel_rfl) (fun _ _ _ h => h) (Or.inl ⟨by rfl, ?_⟩) (by assumption) ?_
      rotate_left
      · (intro w hSw; (try dsimp only at hSw); first | (go_simp; done) | (go_simp; with_reducible rfl))
      try simp only [Act.put, List.getElem_toArray, List.getElem_cons_zero, List.getElem_cons_succ, List.setIfInBounds_toArray, List.set_cons_zero, List.set_cons_succ]
      refine wpLast_one (i := 7) (by kernel_rfl) rfl (by decide) (fun K hK => ?_)
      go_simp
      refine hK.out _ _ (trivial) (fun hHeld => ?_)
      clear hK K
      try simp only [Act.put, List.getElem_toArray, List.getElem_cons_zero, List.getElem_cons_succ, List.setIfInBounds_toArray, List.set_cons_zero, List.set_cons_succ]
      refine wpLast_one (i := 8) (by kernel_rfl) rfl (by decide) (fun K hK => ?_)
      refine step_append_run rfl (.tmp 19) (.tmp 26) 47 47 rfl v (.slice (some ⟨W.heap.size, 0, none⟩) 4 4) (by simp [Act.eval]) (by simp [Act.eval]) _ _ HR.out ?_
      refine hK.out _ _ (trivial) (fun hHeld => ?_)
      clear hK K
      try simp only [Act.put, List.getElem_toArray, List.getElem_cons_zero, List.getElem_cons_succ, List.setIfInBounds_toArray, List.set_cons_zero, List.set_cons_succ]
      refine wpLast_end (by kernel_rfl) rfl (by kernel_rfl) (fun K hK => ?_)
      go_simp
      refine hK.out _ _ ?_
      clear hK K
      try simp only [Act.put, List.getElem_toArray, List.getElem_cons_zero, List.getElem_cons_succ, List.setIfInBounds_toArray, List.set_cons_zero, List.set_cons_succ]
      go_wp2_with fail
      go_ret
      exact ⟨v1, rfl, H1.out.1, H1.out.2⟩
  · have HE := mkHid (escB_mark c hm)
    rw [HE.out]
    rw [show (decide (32 ≤ c.toNat) && decide (c.toNat ≤ 126) && !mkB c) = false by simp [hm]] at HP
    rw [hm] at HM
    obtain ⟨v1, w1, hr, hpg, hf⟩ := h.push [92, c] (by simp; omega)
    have HR := mkHid hr
    have H1 := mkHid (And.intro hpg hf)
    clear h hr hpg hf hm HE
    go_enter Tryd.func67, Tryd.ntmps67
    go_wp2_with (first
      | (go_at_call 68; refine HP.out.mono ?_; rintro e w2 ⟨rfl, rfl⟩)
      | (go_at_call 69; refine HM.out.mono ?_; rintro e w2 ⟨rfl, rfl⟩)
      | (at_builtin; refine Lib.wpList_append_run _ rfl (.tmp 15) (.tmp 17) 47 47 rfl _ _ rfl rfl _ _ HR.out ?_))
    go_ret
    exact ⟨v1, rfl, H1.out.1, H1.out.2⟩
end Go.Proofs.YtclkoffnjiiioaaDoor
