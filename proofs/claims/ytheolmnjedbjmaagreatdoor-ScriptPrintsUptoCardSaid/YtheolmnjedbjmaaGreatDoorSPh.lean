import Derived.Test.YtheolmnjedbjmaaGreatDoorSPv
namespace Go.Proofs.YtheolmnjedbjmaaGreatDoor
open Go.RowKit
set_option linter.unusedVariables false
set_option linter.unusedSimpArgs false
attribute [local go_sem ↓] Go.wp_at_zero Go.wp_at_succ

theorem Pv.push {W : World} {B : Nat} {v : Value} {bs : Bs} (h : Pv W B v bs) (news : Bs) (h1 : news ≠ []) (hl : bs.length + news.length ≤ 140737488355328) :
    ∃ v' w', (Builtin.append_ #[54, 54] 54 #[v, .slice (some ⟨W.heap.size, 0, none⟩) news.length news.length]).run Tryz.prog (W.alloc (.cells (Lib.byteCells news).toArray 5)) = .ok v' w' ∧ Pv w' B v' (bs ++ news) ∧ Pf B W w' := by
  rcases h with h | h
  · obtain ⟨v', w', r1, r2, r3⟩ := h.push news h1 hl
    exact ⟨v', w', r1, r2.pv, r3⟩
  · obtain ⟨v', w', r1, r2, r3⟩ := h.push news hl
    exact ⟨v', w', r1, r2.pv, r3⟩
theorem Pv.str {W : World} {B : Nat} {v : Value} {bs : Bs} (h : Pz W B v bs) (s : Bs) (hl : bs.length + s.length ≤ 140737488355328) :
    ∃ v' w', (Builtin.append_ #[54, 9] 54 #[v, .string (ba s)]).run Tryz.prog W = .ok v' w' ∧ Pz w' B v' (bs ++ s) ∧ Pf B W w' := h.str s hl
theorem Pv.iter {W : World} {B : Nat} {v : Value} {bs : Bs} (h : Pv W B v bs) {k : Nat} {s : ByteArray} {pos : Nat} (hk : W.heap[k]? = some (.stringIter s pos)) (hB : B ≤ k) (pos' : Nat) : Pv (W.iterAt k s pos') B v bs := by
  have hb := Lib.below_iterAt (Below.refl B W) (k := k) hB s pos'
  have ho : ∀ g o, W.heap[g]? = some o → (∀ (s : ByteArray) (p : Nat), o ≠ Obj.stringIter s p) → (W.iterAt k s pos').heap[g]? = some o := fun g o hg hn => by
    rw [Lib.iterAt_other W k g s pos' (fun e => by
      subst e
      rw [hk] at hg
      exact hn _ _ (Option.some.inj hg).symm)]
    exact hg
  rcases h with (h | h) | h
  · exact (h.iter hk hB pos').pv
  · obtain ⟨g, e, hg, h2⟩ := h.at_
    exact Or.inl (Or.inr ⟨⟨g, e, hg, ho g _ h2 (fun _ _ q => by cases q)⟩, by rw [Lib.iterAt_size]; exact h.low, h.tab.on hb⟩)
  · obtain ⟨g, cap, cur, fz, e, hg, h2, r⟩ := h.at_
    exact Or.inr ⟨⟨g, cap, cur, fz, e, hg, ho g _ h2 (fun _ _ q => by cases q), r⟩, by rw [Lib.iterAt_size]; exact h.low, h.tab.on hb⟩
/-- what a writer leaves on a page of any kind -/
def WrV (W : World) (B : Nat) (bs news : List UInt8) (e : Ending) (w' : World) : Prop := ∃ v', e = .returned v' ∧ Pv w' B v' (bs ++ news) ∧ Pf B W w'
set_option maxRecDepth 100000 in
set_option maxHeartbeats 8000000 in
theorem hidden_v' {W : World} {B : Nat} {v : Value} {bs : Bs} (h : Pv W B v bs) (s : ByteArray) (hl : bs.length + 3 * s.size ≤ 140737488355000) : Calls Tryz.prog 163 #[v, .string s] W fun e w' => WrV W B bs (hidB s.data.toList) e w' := by
  have HB : Hid (∀ i (hi : i < s.size), hidB (s.data.toList.take (i + 1)) = hidB (s.data.toList.take i) ++ [37, hexD (s[i].toNat / 16), hexD (s[i].toNat % 16)]) := fun i hi => by
    have hi2 : i < s.data.toList.length := by rw [Array.length_toList]; exact hi
    rw [List.take_succ_eq_append_getElem hi2, hidB_append]
    simp [hidB]
    exact ⟨rfl, rfl⟩
  have HT : Hid ((s.data.toList.take s.size) = s.data.toList) := by
    show _ = _
    rw [List.take_of_length_le]
    rw [Array.length_toList]
    exact Nat.le_refl _
  have HLn : Hid (∀ i, i ≤ s.size → (hidB (s.data.toList.take i)).length ≤ 3 * s.size) := fun i hi => by
    have := hid_len (s.data.toList.take i)
    rw [List.length_take] at this
    omega
  have H0 := mkHid h
  clear h
  go_enter Tryz.func163, Tryz.ntmps163
  go_wp2_with fail
  go_loopw [0, 8] (fun pg q wr => ∃ i : Nat, i ≤ s.size ∧ q = .int .i64 (i : Int) ∧ Hid (Pv wr B pg (bs ++ hidB (s.data.toList.take i)) ∧ Pf B W wr)) (fun _ q _ => s.size - (intOf q).toNat)
  case atStart => exact ⟨0, Nat.zero_le _, rfl, by simpa [hidB] using H0.out, Pf.refl _ _⟩
  case round =>
    clear H0
    obtain ⟨i, hi, rfl, hst⟩ := hrel
    have i0 : (0 : Int) ≤ (i : Int) := by omega
    obtain ⟨hp, hf⟩ := hst.out
    have hln := HLn.out i hi
    by_cases hlt : i < s.size
    · have i1 : (i : Int) < (s.size : Int) := by omega
      have HX : Hid (∀ v' w', Pv w' B v' (bs ++ hidB (s.data.toList.take i) ++ [37, hexD (s[i].toNat / 16), hexD (s[i].toNat % 16)]) → Pf B wr w' → Pv w' B v' (bs ++ hidB (s.data.toList.take (i + 1))) ∧ Pf B W w') := fun v' w' h1 h2 => ⟨by rw [HB.out i hlt, ← List.append_assoc]; exact h1, hf.trans h2⟩
      obtain ⟨b, hb⟩ : ∃ b, s[i] = b := ⟨_, rfl⟩
      rw [hb] at HX
      have hbi : s[i] = b := hb
      obtain ⟨v2, w2, hr2, hp2, hf2⟩ := (hp.dr 1).push [37, hexD (b.toNat / 16), hexD (b.toNat % 16)] (by simp) (by simp only [List.length_append, List.length_cons, List.length_nil]; omega)
      have HY := mkHid (HX.out v2 w2 hp2 (((Pf.refl _ wr).dn hp.low 1).trans hf2))
      have hc : b.toNat < 256 := b.toNat_lt
      have ha : Go.bits .and .u8 (b.toNat : Int) 15 = ((b.toNat % 16 : Nat) : Int) := and15 b.toNat hc
      have hd : (b.toNat : Int) / 16 = ((b.toNat / 16 : Nat) : Int) := by omega
      have h1 := ix16 (b.toNat / 16) (by omega)
      have h2 := ix16 (b.toNat % 16) (by omega)
      generalize b.toNat / 16 = k1 at *
      generalize b.toNat % 16 = k2 at *
      have HR2 : Hid ((Builtin.append_ #[54, 54] 54 #[u0, .slice (some ⟨wr.heap.size, 0, none⟩) 3 3]).run Tryz.prog ((wr.alloc (.cells #[.int .u8 37, .int .u8 ((hexD k1).toNat : Int), .int .u8 ((hexD k2).toNat : Int)] 5)).drew) = .ok v2 w2) := hr2
      clear hst hp hf hr2 hp2 hf2 HX hb hln
      go_upto_region 4 with fail
      refine wp_region_last (L := 13) (S := (fun _ => True)) (by kernel_rfl) (trivial) (fun hHeld => ?_)
      refine wpLast_take (i := 0) (v := ?_) rfl (by kernel_rfl) (by kernel_rfl) (by kernel_rfl) (by decide) (by kernel_rfl) (fun _ _ _ h => h) (Or.inl ⟨by rfl, ?_⟩) (by assumption) ?_
      rotate_left
      · (intro w hSw; (try dsimp only at hSw); (try go_split_ands); first | (go_simp; done) | (go_simp; with_reducible rfl))
      try simp only [Act.put, List.getElem_toArray, List.getElem_cons_zero, List.getElem_cons_succ, List.setIfInBounds_toArray, List.set_cons_zero, List.set_cons_succ]
      refine wpLast_take (i := 1) (v := ?_) rfl (by kernel_rfl) (by kernel_rfl) (by kernel_rfl) (by decide) (by kernel_rfl) (fun _ _ _ h => h) (Or.inl ⟨by rfl, ?_⟩) (by assumption) ?_
      rotate_left
      · (intro w hSw; (try dsimp only at hSw); (try go_split_ands); first | (go_simp; done) | (go_simp; with_reducible rfl))
      try simp only [Act.put, List.getElem_toArray, List.getElem_cons_zero, List.getElem_cons_succ, List.setIfInBounds_toArray, List.set_cons_zero, List.set_cons_succ]
      refine wpLast_take (i := 2) (v := ?_) rfl (by kernel_rfl) (by kernel_rfl) (by kernel_rfl) (by decide) (by kernel_rfl) (fun _ _ _ h => h) (Or.inl ⟨by rfl, ?_⟩) (by assumption) ?_
      rotate_left
      · (intro w hSw; (try dsimp only at hSw); (try go_split_ands); first | (go_simp; done) | (go_simp; with_reducible rfl))
      try simp only [Act.put, List.getElem_toArray, List.getElem_cons_zero, List.getElem_cons_succ, List.setIfInBounds_toArray, List.set_cons_zero, List.set_cons_succ]
      refine wpLast_take (i := 3) (v := ?_) rfl (by kernel_rfl) (by kernel_rfl) (by kernel_rfl) (by decide) (by kernel_rfl) (fun _ _ _ h => h) (Or.inl ⟨by rfl, ?_⟩) (by assumption) ?_
      rotate_left
      · (intro w hSw; (try dsimp only at hSw); (try go_split_ands); first | (go_simp; done) | (go_simp; with_reducible rfl))
      try simp only [Act.put, List.getElem_toArray, List.getElem_cons_zero, List.getElem_cons_succ, List.setIfInBounds_toArray, List.set_cons_zero, List.set_cons_succ]
      refine wpLast_take (i := 4) (v := ?_) rfl (by kernel_rfl) (by kernel_rfl) (by kernel_rfl) (by decide) (by kernel_rfl) (fun _ _ _ h => h) (Or.inl ⟨by rfl, ?_⟩) (by assumption) ?_
      rotate_left
      · (intro w hSw; (try dsimp only at hSw); (try go_split_ands); first | (go_simp; done) | (go_simp; with_reducible rfl))
      try simp only [Act.put, List.getElem_toArray, List.getElem_cons_zero, List.getElem_cons_succ, List.setIfInBounds_toArray, List.set_cons_zero, List.set_cons_succ]
      refine wpLast_take (i := 5) (v := ?_) rfl (by kernel_rfl) (by kernel_rfl) (by kernel_rfl) (by decide) (by kernel_rfl) (fun _ _ _ h => h) (Or.inl ⟨by rfl, ?_⟩) (by assumption) ?_
      rotate_left
      · (intro w hSw; (try dsimp only at hSw); (try go_split_ands); first | (go_simp; done) | (go_simp; with_reducible rfl))
      try simp only [Act.put, List.getElem_toArray, List.getElem_cons_zero, List.getElem_cons_succ, List.setIfInBounds_toArray, List.set_cons_zero, List.set_cons_succ]
      refine wpLast_take (i := 6) (v := ?_) rfl (by kernel_rfl) (by kernel_rfl) (by kernel_rfl) (by decide) (by kernel_rfl) (fun _ _ _ h => h) (Or.inl ⟨by rfl, ?_⟩) (by assumption) ?_
      rotate_left
      · (intro w hSw; (try dsimp only at hSw); (try go_split_ands); first | (go_simp; done) | (go_simp; with_reducible rfl))
      try simp only [Act.put, List.getElem_toArray, List.getElem_cons_zero, List.getElem_cons_succ, List.setIfInBounds_toArray, List.set_cons_zero, List.set_cons_succ]
      refine wpLast_take (i := 7) (v := ?_) rfl (by kernel_rfl) (by kernel_rfl) (by kernel_rfl) (by decide) (by kernel_rfl) (fun _ _ _ h => h) (Or.inl ⟨by rfl, ?_⟩) (by assumption) ?_
      rotate_left
      · (intro w hSw; (try dsimp only at hSw); (try go_split_ands); first | (go_simp; done) | (go_simp; with_reducible rfl))
      try simp only [Act.put, List.getElem_toArray, List.getElem_cons_zero, List.getElem_cons_succ, List.setIfInBounds_toArray, List.set_cons_zero, List.set_cons_succ]
      refine wpLast_take (i := 8) (v := ?_) rfl (by kernel_rfl) (by kernel_rfl) (by kernel_rfl) (by decide) (by kernel_rfl) (fun _ _ _ h => h) (Or.inl ⟨by rfl, ?_⟩) (by assumption) ?_
      rotate_left
      · (intro w hSw; (try dsimp only at hSw); (try go_split_ands); first | (go_simp; done) | (go_simp; with_reducible rfl))
      try simp only [Act.put, List.getElem_toArray, List.getElem_cons_zero, List.getElem_cons_succ, List.setIfInBounds_toArray, List.set_cons_zero, List.set_cons_succ]
      refine wpLast_take (i := 9) (v := ?_) rfl (by kernel_rfl) (by kernel_rfl) (by kernel_rfl) (by decide) (by kernel_rfl) (fun _ _ _ h => h) (Or.inl ⟨by rfl, ?_⟩) (by assumption) ?_
      rotate_left
      · (intro w hSw; (try dsimp only at hSw); (try go_split_ands); first | (go_simp; done) | (go_simp; with_reducible rfl))
      try simp only [Act.put, List.getElem_toArray, List.getElem_cons_zero, List.getElem_cons_succ, List.setIfInBounds_toArray, List.set_cons_zero, List.set_cons_succ]
      refine wpLast_take (i := 10) (v := ?_) rfl (by kernel_rfl) (by kernel_rfl) (by kernel_rfl) (by decide) (by kernel_rfl) (fun _ _ _ h => h) (Or.inl ⟨by rfl, ?_⟩) (by assumption) ?_
      rotate_left
      · (intro w hSw; (try dsimp only at hSw); (try go_split_ands); first | (go_simp; done) | (go_simp; with_reducible rfl))
      try simp only [Act.put, List.getElem_toArray, List.getElem_cons_zero, List.getElem_cons_succ, List.setIfInBounds_toArray, List.set_cons_zero, List.set_cons_succ]
      refine wpLast_one (i := 11) (by kernel_rfl) rfl (by decide) (fun K hK => ?_)
      go_simp
      refine hK.out _ _ (trivial) (fun hHeld => ?_)
      clear hK K
      try simp only [Act.put, List.getElem_toArray, List.getElem_cons_zero, List.getElem_cons_succ, List.setIfInBounds_toArray, List.set_cons_zero, List.set_cons_succ]
      refine wpLast_one (i := 12) (by kernel_rfl) rfl (by decide) (fun K hK => ?_)
      refine step_append_run rfl (.tmp 11) (.tmp 22) 54 54 rfl u0 (.slice (some ⟨wr.heap.size, 0, none⟩) 3 3) (by simp [Act.eval]) (by simp [Act.eval]) _ _ HR2.out ?_
      refine hK.out _ _ (trivial) (fun hHeld => ?_)
      clear hK K
      try simp only [Act.put, List.getElem_toArray, List.getElem_cons_zero, List.getElem_cons_succ, List.setIfInBounds_toArray, List.set_cons_zero, List.set_cons_succ]
      refine wpLast_end (by kernel_rfl) rfl (by kernel_rfl) (fun K hK => ?_)
      go_simp
      refine hK.out _ _ ?_
      clear hK K
      try simp only [Act.put, List.getElem_toArray, List.getElem_cons_zero, List.getElem_cons_succ, List.setIfInBounds_toArray, List.set_cons_zero, List.set_cons_succ]
      go_wp2_with fail
      go_roundw
      case rel => exact ⟨i + 1, by omega, by go_num, HY.out⟩
      case measure => simp [intOf]; omega
    · have hie : i = s.size := by omega
      subst hie
      rw [HT.out] at hp
      have HX : Hid (WrV W B bs (hidB s.data.toList) (.returned u0) wr) := ⟨u0, rfl, hp, hf⟩
      clear hst hp hf hln
      go_wp2_with fail
      go_ret
      exact HX.out
theorem hidden_v {W : World} {B : Nat} {v : Value} {bs : Bs} (h : Pv W B v bs) (s : Bs) (hl : bs.length + 3 * s.length ≤ 140737488355000) : Calls Tryz.prog 163 #[v, .string (ba s)] W fun e w' => WrV W B bs (hidB s) e w' := by
  have := hidden_v' h (ba s) (by rw [ba_size]; exact hl)
  rwa [ba_data] at this
end Go.Proofs.YtheolmnjedbjmaaGreatDoor

