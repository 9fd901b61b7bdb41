import Derived.Test.YtheolmnjedbjmaaGreatDoorSHc
import Derived.Test.YtheolmnjedbjmaaGreatDoorGC
namespace Go.Proofs.YtheolmnjedbjmaaGreatDoor
open Go.RowKit
set_option linter.unusedVariables false
set_option linter.unusedSimpArgs false
attribute [local go_sem ↓] Go.wp_at_zero Go.wp_at_succ
set_option maxRecDepth 100000 in
set_option maxHeartbeats 16000000 in
theorem rprint_ok (W : World) (hp : Pw W) (ws os : Int) (hw : -9223372036854775808 ≤ ws ∧ ws ≤ 9223372036854775807) (ho : -9223372036854775808 ≤ os ∧ os ≤ 9223372036854775807) (g off cc n : Nat) (p : Option Addr) (acts : List AQ) (hl : acts.length = n) (hn : n ≤ 1048576) (hpA : 0 < n → p = some ⟨g, off, none⟩) (hA : ∀ i (hi : i < acts.length), Aw W g (off + i * 7) acts[i].1 acts[i].2.1 acts[i].2.2) (hS : ∀ x ∈ acts, Ak2 x.1) : Calls Tryz.prog 9 #[.agg #[.int .i64 ws, .int .i64 os, .slice p n cc]] W fun e w' => e = .returned (.tuple #[.string (printP ws os (acts.map (·.1))).1, .int .i64 (printP ws os (acts.map (·.1))).2]) ∧ Bl W w' := by
  obtain ⟨W1, hW1⟩ : ∃ X, W.alloc (.cells (plN ws os p n cc) 24) = X := ⟨_, rfl⟩
  have b1 : Bl W W1 := by rw [← hW1]; exact Bl.alloc _ _
  have qp : W1.heap[W.heap.size]? = some (.cells (plN ws os p n cc) 24 (0, 0)) := by rw [← hW1]; exact heap_alloc_new _ _
  have HS : Hid (∀ U, Bl W1 U → U.cell? ⟨W.heap.size, 0, none⟩ = some (.int .i64 ws) ∧ U.cell? ⟨W.heap.size, 1, none⟩ = some (.int .i64 os)) := fun U hU => by
    have y := (hU.block _ (lt_of_heap qp)).trans qp
    exact ⟨lit_in y 0 _ rfl, lit_in y 1 _ rfl⟩
  have HP : Hid (∀ U, Bl W1 U → Pw U) := fun U hU => hp.bl (b1.trans hU)
  have HPage : Hid (∀ (w2 w3 : World) pv, Bl W1 w2 → Pz w3 w2.heap.size pv (roomB ws os) → Bl w2 w3 → Pz w3 W.heap.size pv (roomB ws os)) := fun w2 w3 pv h2 hz h3 => hz.lower (b1.trans h2).size ((Pw.tab hp (Nat.le_refl _)).on ((b1.trans h2).trans h3))
  have HQ : Hid (∀ U, Bl W1 U → U.heap[W.heap.size]? = some (.cells (plN ws os p n cc) 24 (0, 0)) ∧ Bl W U) := fun U hU => ⟨(hU.block _ (lt_of_heap qp)).trans qp, b1.trans hU⟩
  have HW := mkHid hp
  have HA := mkHid hA
  have HSz := mkHid hS
  have HPA := mkHid hpA
  have HLe := mkHid (pageP_len ws os hw ho (acts.map (·.1)))
  have HN1 : Hid (∀ U, Bl W1 U → Calls Tryz.prog 27 #[.int .i64 ws] U fun e w' => e = .returned (.string (ba (Lib.itoa ws))) ∧ Bl U w') := fun U hU => rnum_ok ws hw.1 hw.2 U (HP.out U hU)
  have HN2 : Hid (∀ U, Bl W1 U → Calls Tryz.prog 27 #[.int .i64 os] U fun e w' => e = .returned (.string (ba (Lib.itoa os))) ∧ Bl U w') := fun U hU => rnum_ok os ho.1 ho.2 U (HP.out U hU)
  have hRm : roomB ws os = [114, 111, 111, 109, 32] ++ Lib.itoa ws ++ [32] ++ Lib.itoa os ++ [10] := rfl
  have l1 := itoa_le ws hw
  have l2 := itoa_le os ho
  have BV0 : Hid (Bl W1 W1.drew) := bl_drew W1
  rw [hRm] at HPage
  have HRm := mkHid hRm
  clear hp hA hS hpA qp b1 hRm
  generalize Lib.itoa ws = a1 at *
  generalize Lib.itoa os = a2 at *
  go_enter Tryz.func9, Tryz.ntmps9
  go_upto_region 1 with fail
  refine wp_region_held_drew (S := fun U => U.cell? ⟨W.heap.size, 0, none⟩ = some (.int .i64 ws) ∧ U.cell? ⟨W.heap.size, 1, none⟩ = some (.int .i64 os)) (by kernel_rfl) (HS.out _ BV0.out) (fun hHeld => ?_)
  refine wpAnyH_take (i := 0) (v := ?_) rfl (by kernel_rfl) (by kernel_rfl) (by kernel_rfl) (fun _ _ _ h => h) (Or.inl ⟨by rfl, ?_⟩) (by assumption) ?_
  rotate_left
  · (intro w hSw; (try dsimp only at hSw); (try go_split_ands); first | (go_simp; done) | (go_simp; with_reducible rfl))
  try simp only [Act.put, List.getElem_toArray, List.getElem_cons_zero, List.getElem_cons_succ, List.setIfInBounds_toArray, List.set_cons_zero, List.set_cons_succ]
  refine wpAnyH_take (i := 1) (v := ?_) rfl (by kernel_rfl) (by kernel_rfl) (by kernel_rfl) (fun _ _ _ h => h) (Or.inl ⟨by rfl, ?_⟩) (by assumption) ?_
  rotate_left
  · (intro w hSw; (try dsimp only at hSw); (try go_split_ands); first | (go_simp; done) | (go_simp; with_reducible rfl))
  try simp only [Act.put, List.getElem_toArray, List.getElem_cons_zero, List.getElem_cons_succ, List.setIfInBounds_toArray, List.set_cons_zero, List.set_cons_succ]
  refine wpAnyH_take (i := 5) (v := ?_) rfl (by kernel_rfl) (by kernel_rfl) (by kernel_rfl) (fun _ _ _ h => h) (Or.inl ⟨by rfl, ?_⟩) (by assumption) ?_
  rotate_left
  · (intro w hSw; (try dsimp only at hSw); (try go_split_ands); first | (go_simp; done) | (go_simp; with_reducible rfl))
  try simp only [Act.put, List.getElem_toArray, List.getElem_cons_zero, List.getElem_cons_succ, List.setIfInBounds_toArray, List.set_cons_zero, List.set_cons_succ]
  refine wpAnyH_take (i := 6) (v := ?_) rfl (by kernel_rfl) (by kernel_rfl) (by kernel_rfl) (fun _ _ _ h => h) (Or.inl ⟨by rfl, ?_⟩) (by assumption) ?_
  rotate_left
  · (intro w hSw; (try dsimp only at hSw); (try go_split_ands); first | (go_simp; done) | (go_simp; with_reducible rfl))
  try simp only [Act.put, List.getElem_toArray, List.getElem_cons_zero, List.getElem_cons_succ, List.setIfInBounds_toArray, List.set_cons_zero, List.set_cons_succ]
  refine oneH (i := 2) (by kernel_rfl) rfl (fun K hK => ?_)
  refine stepE (by rfl) 27 Tryz.f27 Tryz.func27 (by kernel_rfl) (by kernel_rfl) _ _ rfl _ (by first | (simp [Act.eval]; done) | (simp [Act.eval]; rfl)) _ (HN1.out _ BV0.out) ?_
  rintro _ w1 ⟨rfl, bb1⟩
  have BV1 := mkHid (BV0.out.trans bb1)
  clear bb1
  refine hK.out _ _ (HS.out _ BV1.out) (fun hHeld => ?_)
  clear hK K
  try simp only [Act.put, List.getElem_toArray, List.getElem_cons_zero, List.getElem_cons_succ, List.setIfInBounds_toArray, List.set_cons_zero, List.set_cons_succ]
  refine wpAnyH_take (i := 3) (v := .string (ba ([114, 111, 111, 109, 32] ++ a1))) rfl (by kernel_rfl) (by kernel_rfl) (by kernel_rfl) (fun _ _ _ h => h) (Or.inl ⟨by rfl, ?_⟩) (by assumption) ?_
  · (intro w hSw; (try dsimp only at hSw); (try go_split_ands); (refine cat_run (X := _) (Y := _) ?_ ?_ rfl (by simp only [List.length_append, List.length_cons, List.length_nil]; omega) rfl _ <;> first | rfl | (simp [Act.eval]; done) | (simp [Act.eval]; rfl)))
  try simp only [Act.put, List.getElem_toArray, List.getElem_cons_zero, List.getElem_cons_succ, List.setIfInBounds_toArray, List.set_cons_zero, List.set_cons_succ]
  refine wpAnyH_take (i := 4) (v := .string (ba ([114, 111, 111, 109, 32] ++ a1 ++ [32]))) rfl (by kernel_rfl) (by kernel_rfl) (by kernel_rfl) (fun _ _ _ h => h) (Or.inl ⟨by rfl, ?_⟩) (by assumption) ?_
  · (intro w hSw; (try dsimp only at hSw); (try go_split_ands); (refine cat_run (X := _) (Y := _) ?_ ?_ rfl (by simp only [List.length_append, List.length_cons, List.length_nil]; omega) rfl _ <;> first | rfl | (simp [Act.eval]; done) | (simp [Act.eval]; rfl)))
  try simp only [Act.put, List.getElem_toArray, List.getElem_cons_zero, List.getElem_cons_succ, List.setIfInBounds_toArray, List.set_cons_zero, List.set_cons_succ]
  refine oneH (i := 7) (by kernel_rfl) rfl (fun K hK => ?_)
  refine stepE (by rfl) 27 Tryz.f27 Tryz.func27 (by kernel_rfl) (by kernel_rfl) _ _ rfl _ (by first | (simp [Act.eval]; done) | (simp [Act.eval]; rfl)) _ (HN2.out _ BV1.out) ?_
  rintro _ w2 ⟨rfl, bb2⟩
  have BV2 := mkHid (BV1.out.trans bb2)
  clear bb2
  refine hK.out _ _ (HS.out _ BV2.out) (fun hHeld => ?_)
  clear hK K
  try simp only [Act.put, List.getElem_toArray, List.getElem_cons_zero, List.getElem_cons_succ, List.setIfInBounds_toArray, List.set_cons_zero, List.set_cons_succ]
  refine wpAnyH_take (i := 8) (v := .string (ba ([114, 111, 111, 109, 32] ++ a1 ++ [32] ++ a2))) rfl (by kernel_rfl) (by kernel_rfl) (by kernel_rfl) (fun _ _ _ h => h) (Or.inl ⟨by rfl, ?_⟩) (by assumption) ?_
  · (intro w hSw; (try dsimp only at hSw); (try go_split_ands); (refine cat_run (X := _) (Y := _) ?_ ?_ rfl (by simp only [List.length_append, List.length_cons, List.length_nil]; omega) rfl _ <;> first | rfl | (simp [Act.eval]; done) | (simp [Act.eval]; rfl)))
  try simp only [Act.put, List.getElem_toArray, List.getElem_cons_zero, List.getElem_cons_succ, List.setIfInBounds_toArray, List.set_cons_zero, List.set_cons_succ]
  refine wpAnyH_take (i := 9) (v := .string (ba ([114, 111, 111, 109, 32] ++ a1 ++ [32] ++ a2 ++ [10]))) rfl (by kernel_rfl) (by kernel_rfl) (by kernel_rfl) (fun _ _ _ h => h) (Or.inl ⟨by rfl, ?_⟩) (by assumption) ?_
  · (intro w hSw; (try dsimp only at hSw); (try go_split_ands); (refine cat_run (X := _) (Y := _) ?_ ?_ rfl (by simp only [List.length_append, List.length_cons, List.length_nil]; omega) rfl _ <;> first | rfl | (simp [Act.eval]; done) | (simp [Act.eval]; rfl)))
  try simp only [Act.put, List.getElem_toArray, List.getElem_cons_zero, List.getElem_cons_succ, List.setIfInBounds_toArray, List.set_cons_zero, List.set_cons_succ]
  obtain ⟨pv, w3, hcv, hpz, hb3⟩ := conv_new w2 (HP.out _ BV2.out) ([114, 111, 111, 109, 32] ++ a1 ++ [32] ++ a2 ++ [10]) (by simp only [List.length_append, List.length_cons, List.length_nil]; omega)
  refine oneH (i := 10) (by kernel_rfl) rfl (fun K hK => ?_)
  refine stepB2 (by rfl) (v := pv) (w' := w3) (by first | exact conv_step rfl (by simp [Act.eval]) hcv) ?_
  refine hK.out _ _ (HS.out _ (BV2.out.trans hb3)) (fun hHeld => ?_)
  clear hK K
  try simp only [Act.put, List.getElem_toArray, List.getElem_cons_zero, List.getElem_cons_succ, List.setIfInBounds_toArray, List.set_cons_zero, List.set_cons_succ]
  refine wpAnyH_take (i := 11) (v := ?_) rfl (by kernel_rfl) (by kernel_rfl) (by kernel_rfl) (fun _ _ _ h => h) (Or.inl ⟨by rfl, ?_⟩) (by assumption) ?_
  rotate_left
  · (intro w hSw; (try dsimp only at hSw); (try go_split_ands); first | (go_simp; done) | (go_simp; with_reducible rfl))
  try simp only [Act.put, List.getElem_toArray, List.getElem_cons_zero, List.getElem_cons_succ, List.setIfInBounds_toArray, List.set_cons_zero, List.set_cons_succ]
  refine wpAnyH_done (by kernel_rfl) ?_ _
  have BV3 := mkHid (BV2.out.trans hb3)
  have HZ0 := mkHid (HPage.out w2 w3 pv BV2.out hpz hb3)
  rw [← HRm.out] at HZ0
  clear hpz hb3 hcv HN1 HN2 HPage HS l1 l2 BV0 BV2 hHeld HRm
  generalize ba ([114, 111, 111, 109, 32] ++ a1 ++ [32] ++ a2 ++ [10]) = g4
  generalize ba ([114, 111, 111, 109, 32] ++ a1 ++ [32] ++ a2) = g3
  generalize ba ([114, 111, 111, 109, 32] ++ a1 ++ [32]) = g2
  generalize ba ([114, 111, 111, 109, 32] ++ a1) = g1
  go_wp2_with fail
  go_loopw [4, 5] (fun pg x wr => ∃ i : Nat, i ≤ n ∧ x = .int .i64 (i : Int) ∧ Hid (errP ((acts.map (·.1)).take i) = none ∧ Pz wr W.heap.size pg (pageP ws os (acts.map (·.1)) i) ∧ wr.heap[W.heap.size]? = some (.cells (plN ws os p n cc) 24 (0, 0)) ∧ Bl W wr)) (fun _ x _ => n - (intOf x).toNat)
  case atStart => exact ⟨0, Nat.zero_le _, rfl, rfl, by unfold pageP textP; simpa using HZ0.out, HQ.out _ BV3.out⟩
  case round =>
    clear HZ0 BV3 HQ
    obtain ⟨i, hi, rfl, hst⟩ := hrel
    have i0 : (0 : Int) ≤ (i : Int) := by omega
    obtain ⟨wo, rfl⟩ : ∃ V, V = wr := ⟨wr, rfl⟩
    obtain ⟨he, hz, hbx, hbl⟩ := hst.out
    have d2 := lit_in hbx 2 (.slice p n cc) rfl
    have hlm : (acts.map (·.1)).length = n := by simp [hl]
    by_cases hlt : i < n
    · have i1 : (i : Int) < (n : Int) := by omega
      obtain rfl := HPA.out (by omega)
      have hA := HA.out i (by omega)
      have hS := HSz.out acts[i] (List.getElem_mem (by omega))
      obtain ⟨⟨a, q, c⟩, hacts⟩ : ∃ x, acts[i]'(by omega) = x := ⟨_, rfl⟩
      rw [hacts] at hA hS
      simp only at hA hS
      have hget : (acts.map (·.1))[i]'(by omega) = a := by
        rw [List.getElem_map, hacts]
      have h1 := hA.bl hbl
      have c0 := h1.cells 0 (.int .i64 a.kind) rfl
      have c1 := h1.cells 1 (.string a.name) rfl
      have c2 := h1.cells 2 (.string a.other) rfl
      have c3 := h1.cells 3 (.slice q a.names.length c) rfl
      have c4 := h1.cells 4 (.string a.text) rfl
      have c5 := h1.cells 5 (.int .i64 a.num) rfl
      have c6 := h1.cells 6 (.int .i64 a.fuel) rfl
      rw [Nat.add_zero] at c0
      have HC : Hid (Calls Tryz.prog 28 #[.agg #[.int .i64 a.kind, .string a.name, .string a.other, .slice q a.names.length c, .string a.text, .int .i64 a.num, .int .i64 a.fuel]] wo fun e w' => e = .returned (.tuple #[.string (paP a).1, .int .i64 (paP a).2]) ∧ w'.cell? ⟨W.heap.size, 2, none⟩ = some (.slice (some ⟨g, off, none⟩) n cc) ∧ Hid (Bl wo w')) := by
        refine (rprintAct_ok wo (HW.out.bl hbl) a q c h1.names hS).mono ?_
        rintro e w' ⟨rfl, hb⟩
        exact ⟨by rw [pa_eq], lit_in ((hb.block _ (lt_of_heap hbx)).trans hbx) 2 _ rfl, hb⟩
      by_cases h0 : (paP a).2 = 0
      · have HE : Hid (errP ((acts.map (·.1)).take (i + 1)) = none) := errP_step _ i (by omega) he (by rw [hget]; exact h0)
        rw [h0] at HC
        have hll := lineP_len a
        by_cases hf : n + 1 ≤ 20000
        · have hfi : (n : Int) + 1 ≤ 20000 := by omega
          have hpl := HLe.out i
          have hst2 : pageP ws os (acts.map (·.1)) (i + 1) = pageP ws os (acts.map (·.1)) i ++ lineP a := by
            unfold pageP
            rw [hlm, if_pos hf, if_pos hf, textP_step _ i (by omega), hget, List.append_assoc]
          have HX : Hid (∀ w2, Hid (Bl wo w2) → ∃ v3 w3, (Builtin.append_ #[54, 9] 54 #[u4, .string (ba (lineP a))]).run Tryz.prog w2 = .ok v3 w3 ∧ Hid (Pz w3 W.heap.size v3 (pageP ws os (acts.map (·.1)) (i + 1)) ∧ w3.heap[W.heap.size]? = some (.cells (plN ws os (some ⟨g, off, none⟩) n cc) 24 (0, 0)) ∧ Bl W w3)) := fun w2 hb => by
            obtain ⟨v3, w3, hr, hp3, hf3⟩ := (hz.bl hb.out).str (lineP a) (by omega)
            rw [← hst2] at hp3
            exact ⟨v3, w3, hr, hp3, hf3.hb ((hb.out.block _ (lt_of_heap hbx)).trans hbx) (fun c fz e => by cases e), Below.trans (hbl.trans hb.out) hf3.below⟩
          have hadd := line_add (paP a).1
          have hcat : ¬ 9223372036854775807 < (paP a).1.size + 1 := by
            have h := paP_len a
            have h2 : (paP a).1.data.toList.length = (paP a).1.size := by rw [Array.length_toList]; rfl
            omega
          have hlp : ba ((paP a).1.data.toList ++ [10]) = ba (lineP a) := rfl
          rw [hlp] at hadd
          clear hst he hz hbx hbl hA hS h1 hget hacts h0 hll hpl hst2 hlp HA HSz HPA
          generalize lineP a = lp at *
          generalize (paP a).1 = ps at *
          go_wp2_with (first
            | (go_at_call 28; refine HC.out.mono ?_; rintro e w2 ⟨rfl, d2', hb2⟩; obtain ⟨v3, w3, hr3, HR⟩ := HX.out w2 hb2; clear d2 c0 c1 c2 c3 c4 c5 c6)
            | (at_builtin; refine Lib.wpList_append_run _ rfl (.tmp 43) (.tmp 45) 54 9 rfl _ _ rfl rfl _ _ hr3 ?_))
          go_roundw
          case rel => exact ⟨i + 1, by omega, by go_num, HE.out, HR.out⟩
          case measure => simp [intOf]; omega
        · have hfi : ¬ (n : Int) + 1 ≤ 20000 := by omega
          have hst2 : pageP ws os (acts.map (·.1)) (i + 1) = pageP ws os (acts.map (·.1)) i := by
            unfold pageP
            rw [hlm, if_neg hf, if_neg hf]
          have HX : Hid (∀ w2, Hid (Bl wo w2) → Pz w2 W.heap.size u4 (pageP ws os (acts.map (·.1)) (i + 1)) ∧ w2.heap[W.heap.size]? = some (.cells (plN ws os (some ⟨g, off, none⟩) n cc) 24 (0, 0)) ∧ Bl W w2) := fun w2 hb => by
            rw [hst2]
            exact ⟨hz.bl hb.out, (hb.out.block _ (lt_of_heap hbx)).trans hbx, hbl.trans hb.out⟩
          clear hst he hz hbx hbl hA hS h1 hget hacts h0 hll hst2 HA HSz HPA
          generalize (paP a).1 = ps at *
          go_wp2_with (go_at_call 28; refine HC.out.mono ?_; rintro e w2 ⟨rfl, d2', hb2⟩; have HR := mkHid (HX.out w2 hb2); clear d2 c0 c1 c2 c3 c4 c5 c6)
          go_roundw
          case rel => exact ⟨i + 1, by omega, by go_num, HE.out, HR.out⟩
          case measure => simp [intOf]; omega
      · have HE : Hid (printP ws os (acts.map (·.1)) = (⟨#[]⟩, (paP a).2)) := by
          have := errP_stop _ i (by omega) he (by rw [hget]; exact h0)
          rw [hget] at this
          show _ = _
          unfold printP
          rw [this]
        have HBW : Hid (∀ w2, Hid (Bl wo w2) → Bl W w2) := fun w2 hb => hbl.trans hb.out
        clear hst he hz hbx hbl hA hS h1 hget hacts HA HSz HPA
        generalize (paP a).1 = ps at *
        generalize (paP a).2 = pn at *
        go_wp2_with (go_at_call 28; refine HC.out.mono ?_; rintro e w2 ⟨rfl, d2', hb2⟩; clear d2 c0 c1 c2 c3 c4 c5 c6)
        go_ret2
        exact ⟨by rw [HE.out]; rfl, HBW.out _ hb2⟩
    · have hie : i = n := by omega
      subst hie
      have hall : (acts.map (·.1)).take i = acts.map (·.1) := List.take_of_length_le (by omega)
      rw [hall] at he
      have HBW := mkHid hbl
      by_cases hf : 20000 < i + 1
      · have hfi : (20000 : Int) < (i : Int) + 1 := by omega
        have HE : Hid (printP ws os (acts.map (·.1)) = (⟨#[]⟩, 246)) := by
          show _ = _
          unfold printP
          rw [he, hlm]
          simp only
          rw [if_pos hf]
        clear hst he hz hbx hbl HA HSz HPA hall
        go_wp2_with fail
        go_ret2
        exact ⟨by rw [HE.out]; rfl, HBW.out⟩
      · have hfi : ¬ (20000 : Int) < (i : Int) + 1 := by omega
        have hcv := hz.conv
        have hpe : pageP ws os (acts.map (·.1)) i = roomB ws os ++ textP (acts.map (·.1)) := by
          unfold pageP
          rw [hlm, if_pos (by omega), hall]
        rw [hpe] at hcv
        have HE : Hid (printP ws os (acts.map (·.1)) = (⟨(roomB ws os ++ textP (acts.map (·.1))).toArray⟩, 0)) := by
          show _ = _
          unfold printP
          rw [he, hlm]
          simp only
          rw [if_neg hf]
          rfl
        clear hst he hz hbx hbl HA HSz HPA hall hpe
        generalize (roomB ws os ++ textP (acts.map (·.1))).toArray = tx at *
        go_wp2_with fail
        go_ret2
        exact ⟨by rw [HE.out]; rfl, HBW.out⟩
end Go.Proofs.YtheolmnjedbjmaaGreatDoor
