import Derived.Test.YtimlomobbnnehaaGreatDoorG06LTokC
import Derived.Deep.DeepCutAuto
namespace Go.Proofs.YtimlomobbnnehaaGreatDoor
open Go.RowKit Go.Maps
set_option linter.unusedVariables false
set_option linter.unusedSimpArgs false
set_option maxHeartbeats 8000000 in
set_option maxRecDepth 1000000 in
theorem tokens_small (s : ByteArray) (w : World) (hT : Tab w) (hs : s.size ≤ 4096) : Calls Tryz.prog 13 #[.string s] w fun e w' =>
    ∃ v ts c a, e = .returned (.tuple #[v, .agg #[.int .i64 (c : Nat), .int .i64 (a : Nat)]]) ∧ LexR (lst s) ts c a ∧ w'.ownsRow w.heap.size 28 4 v ts.length (tcs ts) ∧ Bl w w' := by
  have hsi : ¬ (4096 : Int) < s.size := by omega
  have hop := openings_ok
  go_enter Tryz.func13, Tryz.ntmps13
  go_wp2_with (first | (go_at_call 22; refine (hop _).mono ?_; rintro e w1 ⟨rfl, rfl⟩) | (refine wpList_store_row rfl 58 _ _ rfl _ openA rfl rfl 58 _ (heap3 _ _ _ _) (by kernel_rfl) rfl (by kernel_rfl) ?_))
  go_loopw [4, 6] (fun v q wr => ∃ (acc : List (Tok × Nat)) (at' : Nat), q = .int .i64 at' ∧ Hid (TL w s acc at' v wr)) (fun _ q _ => s.size - (intOf q).toNat)
  case atStart => exact ⟨[], 0, rfl, TL.start w s _ _ rfl _⟩
  case round =>
    obtain ⟨acc, at', rfl, hH⟩ := hrel
    have hale := hH.out.le
    by_cases hlt : at' < s.size
    · have hli : (at' : Int) < s.size := by omega
      have hb := get_lst s at' hlt
      have tb := hH.out.tab
      have hW : Hid (∀ V, Bl wr V → Tab V) := fun V b => hT.mono (hH.out.bl.trans b)
      have hkd := kindOf_ok (s[at']'hlt).toNat (s[at']'hlt).toNat_lt
      have hsz := size_from s at'
      rw [← hb] at hkd
      obtain ⟨K, F, P, hP⟩ := pick ((lst s).drop at') (by rw [hb]; exact (s[at']'hlt).toNat_lt)
      rw [hP.kind, hb] at hkd
      have t0 : wr.cell? ⟨w.heap.size + 1 + 1, K * 2, none⟩ = some (.func (.func F) #[] #[]) := by rw [cell_in tb, Nat.mul_comm]; exact hP.fn
      have t1 : wr.cell? ⟨w.heap.size + 1 + 1, K * 2 + 1, none⟩ = some (.bool P) := by rw [cell_in tb, Nat.mul_comm]; exact hP.ps
      have hcall : ∀ V, Bl wr V → Calls Tryz.prog F #[.string (s.extract at' s.size)] V fun e w' => e = .returned (openT (cutQ ((lst s).drop at'))) ∧ Bl V w' := fun V hV => hP.call _ V (by omega) (hW.out V hV) (lst_from s at')
      have hent := hP.ent
      have hK9 : (K : Int) < 9 := by have := hP.lt; omega
      have ltT := lt_of_heap tb
      have HP := mkHid hP
      have HL := mkHid hH.out.lx
      have HN : Hid ((cutQ ((lst s).drop at')).2.2.2 = 0 → ∃ ts c a, LexR (lst s) ts c a ∧ ts = [] ∧ c = 70 ∧ a = at') := mkHid fun h0 => by
        have hcn := cutQ_none h0
        have hx := hH.out.lx [] (some at') (.bad at' _ (by intro e; have := congrArg List.length e; simp [lst_len] at this; omega) hcn)
        exact ⟨[], 70, at', Or.inr ⟨by rw [lst_len]; exact hs, _, _, hx, Or.inr ⟨at', rfl, rfl, rfl, rfl⟩⟩, rfl, rfl, rfl⟩
      have HC : Hid (P = true → (cutQ ((lst s).drop at')).2.2.2 ≠ 0 → (at' + (cutQ ((lst s).drop at')).2.2.2 ≤ s.size ∧ ∀ ts e, Lx (at' + (cutQ ((lst s).drop at')).2.2.2) ((lst s).drop (at' + (cutQ ((lst s).drop at')).2.2.2)) ts e → Lx 0 (lst s) (acc ++ ts) e)) := mkHid fun hp h0 => by
        rcases cutQ_some h0 with ⟨n, h1, h2⟩ | ⟨t, n, h1, h2⟩
        · rw [h2]
          have hn := cut_n h1
          rw [List.length_drop, lst_len] at hn
          exact ⟨by simp; omega, fun ts e h => hH.out.lx _ _ (.pass _ _ n _ _ h1 (by rw [List.drop_drop]; exact h))⟩
        · exact absurd ((cut_passed h1).1 (hP.pass.1 hp)) (by simp)
      have HD : Hid (P = false → (cutQ ((lst s).drop at')).2.2.2 ≠ 0 → (at' + (cutQ ((lst s).drop at')).2.2.2 ≤ s.size ∧ ∃ t : Tok, cutQ ((lst s).drop at') = (t.kind, t.text, t.num, (cutQ ((lst s).drop at')).2.2.2) ∧ ∀ ts e, Lx (at' + (cutQ ((lst s).drop at')).2.2.2) ((lst s).drop (at' + (cutQ ((lst s).drop at')).2.2.2)) ts e → Lx 0 (lst s) ((acc ++ [(t, at')]) ++ ts) e)) := mkHid fun hp h0 => by
        rcases cutQ_some h0 with ⟨n, h1, h2⟩ | ⟨t, n, h1, h2⟩
        · exfalso
          have := hP.pass.2 ((cut_passed h1).2 rfl)
          rw [hp] at this
          cases this
        · rw [h2]
          have hn := cut_n h1
          rw [List.length_drop, lst_len] at hn
          refine ⟨by simp; omega, t, rfl, fun ts e h => ?_⟩
          have := hH.out.lx _ _ (.tok _ _ t n _ _ h1 (by rw [List.drop_drop]; exact h))
          rw [List.append_assoc]
          exact this
      obtain ⟨x, hx⟩ : ∃ x, x = cutQ ((lst s).drop at') := ⟨_, rfl⟩
      have hbd := cutQ_bound ((lst s).drop at')
      rw [← hx] at hcall HN HC HD hbd
      obtain ⟨q1, q2, q3, q4⟩ := x
      dsimp only [openT] at hcall HN HC HD
      have HA := mkHid (show q2.length ≤ s.size ∧ q4 ≤ 4097 from by simp [List.length_drop, lst_len] at hbd; omega)
      clear tb hop hP hW HP HL hx hb hbd
      go_wp2_with (go_at_call 23; refine (hkd _).mono ?_; rintro e w1 ⟨rfl, h1⟩; have h2 := h1.symm; subst h2)
      go_cut [8, 9] (fun p q V => ∃ B, p = .pointer (some ⟨B, 0, none⟩) ∧ q = .int .i64 q4 ∧ Hid (V.heap[B]? = some (.cells #[.int .i64 q1, .string (ba q2), .int .i64 q3, .int .i64 0] 28 (0, 0)) ∧ wr.heap.size < B ∧ Bl (wr.alloc (.cells #[.func (.func F) #[] #[], .bool P] 57)) V))
      case first =>
        go_region_with (first
          | (go_at_fn F; refine (hcall _ ((Bl.alloc2 wr _ _).trans (Bl.drew _))).mono ?_; rintro e w3 ⟨rfl, b3⟩; have hr3 := resD2 b3; obtain ⟨r0, r1, r2, r3, y0, y1, y2, y3⟩ := resF hr3)
          | (go_at_fn F; refine (hcall _ ((Bl.alloc wr _).trans (Bl.drew _))).mono ?_; rintro e w3 ⟨rfl, b3⟩))
        all_goals go_wp2_with fail
        all_goals
          go_meet
          case rel =>
            first
              | exact ⟨wr.heap.size + 1, rfl, rfl, set4_heap hr3 _ _ _ _, by omega, set4_bl ((Bl.alloc _ _).trans ((Bl.drew _).trans b3)) (by show (wr.heap.push _).size ≤ _; simp) _ _ _ _⟩
              | exact ⟨w3.heap.size, rfl, rfl, heap_alloc_new _ _, (by have h7 := b3.size; have h8 : (wr.heap.push (.cells #[.func (.func F) #[] #[], .bool P] 57)).size ≤ w3.heap.size := h7; simp at h8; omega), ((Bl.drew _).trans b3).trans (Bl.alloc _ _)⟩
      case rest =>
        obtain ⟨B, rfl, rfl, hq⟩ := hcut
        obtain ⟨V, hV⟩ : ∃ V, V = wc := ⟨_, rfl⟩
        subst hV
        have hop2 : V.heap[wr.heap.size]? = some (.cells #[.func (.func F) #[] #[], .bool P] 57 (0, 0)) := (hq.out.2.2.block _ (by show wr.heap.size < (wr.heap.push _).size; simp)).trans (heap_alloc_new wr _)
        have p1 : V.cell? ⟨wr.heap.size, 1, none⟩ = some (.bool P) := by rw [cell_in hop2]; rfl
        have HO : Hid (∀ W, Bl wr W → TL w s acc at' u4 W) := mkHid fun W b => hH.out.keep b
        have bV : Hid (Bl wr V) := (Bl.alloc _ _).trans hq.out.2.2
        have hTL := HO.out V bV.out
        have e0 : V.cell? ⟨w.heap.size, 0, none⟩ = some (.int .i64 0) := by rw [cell_in hTL.res]; rfl
        have e1 : V.cell? ⟨w.heap.size, 1, none⟩ = some (.int .i64 0) := by rw [cell_in hTL.res]; rfl
        have f0 := frozen_in hTL.res 0
        have f1 := frozen_in hTL.res 1
        have k1 : V.cell? ⟨B, 1, none⟩ = some (.string (ba q2)) := by rw [cell_in hq.out.1]; rfl
        have k3 : V.cell? ⟨B, 3, none⟩ = some (.int .i64 0) := by rw [cell_in hq.out.1]; rfl
        have j1 := frozen_in hq.out.1 1
        have j3 := frozen_in hq.out.1 3
        have HTL := mkHid hTL
        have hwr := mkHid hH.out.bl.size
        clear hTL hop2 hH t0 t1 hcall hent ltT
        by_cases h0 : q4 = 0
        · obtain ⟨ts, c, a, hL, h5, h6, h7⟩ := HN.out h0
          rw [h5, h6, h7] at hL
          clear h5 h6 h7 ts c a
          subst h0
          go_wp2_with fail
          refine ret26 (ts := []) (c := 70) (a := at') ?_ rfl rfl hL ⟨rfl, Or.inl ⟨rfl, rfl⟩⟩ ?_
          · rw [set_in (set_in HTL.out.res 0 _) 1 _]
            rfl
          · exact set_bl (set_bl HTL.out.bl (Nat.le_refl _) 0 _) (Nat.le_refl _) 1 _
        · have h0i : ¬ (q4 : Int) = 0 := by omega
          have hq97 := HA.out.2
          cases P with
          | true =>
            obtain ⟨hle, hlx⟩ := HC.out rfl h0
            have HX := mkHid hlx
            clear hlx
            go_wp2_with fail
            go_roundw
            case rel => exact ⟨acc, at' + q4, by simp, HTL.out.next (Bl.refl _) HX.out hle (by omega)⟩
            case measure => simp [intOf]; omega
          | false =>
            obtain ⟨hle, t, ht, hlx⟩ := HD.out rfl h0
            have HX := mkHid hlx
            have ht1 : q1 = t.kind ∧ q2 = t.text ∧ q3 = t.num := by simp at ht; exact ht
            obtain ⟨rfl, rfl, rfl⟩ := ht1
            have hql := HA.out.1
            have hal := HTL.out.al
            have hcl : (ba t.text).size ≤ 140737488355328 := by rw [← lst_len, lst_ba]; omega
            have hBlt := lt_of_heap hq.out.1
            have hwB : wr.heap.size < B := hq.out.2.1
            obtain ⟨i0, hi, hz0, hz1, hz2⟩ := info_parts info30
            clear hlx ht
            have hH3 : Hid ((V.setCell ⟨B, 3, none⟩ (.int .i64 (at' : Int))).heap[B]? = some (.cells #[.int .i64 t.kind, .string (ba t.text), .int .i64 t.num, .int .i64 at'] 28 (0, 0))) := by
              unfold Hid
              rw [set_in hq.out.1 3 _]
              rfl
            go_wp2_with (first
              | (go_at_call 24; refine (Clone_ok (ba t.text) _ hcl).mono ?_; rintro e w4 ⟨rfl, b4⟩
                 have hB4 := mkHid ((b4.block B (by rw [size_set]; exact hBlt)).trans hH3.out)
                 have z0 : w4.cell? ⟨B, 0, none⟩ = some (.int .i64 t.kind) := by rw [cell_in hB4.out]; rfl
                 have z1 : w4.cell? ⟨B, 1, none⟩ = some (.string (ba t.text)) := by rw [cell_in hB4.out]; rfl
                 have z2 : w4.cell? ⟨B, 2, none⟩ = some (.int .i64 t.num) := by rw [cell_in hB4.out]; rfl
                 have z3 : w4.cell? ⟨B, 3, none⟩ = some (.int .i64 at') := by rw [cell_in hB4.out]; rfl
                 have zf := frozen_in hB4.out 1
                 have b5 := mkHid (set_bl ((set_bl bV.out (Nat.le_of_lt hwB) 3 (.int .i64 (at' : Int))).trans b4) (Nat.le_of_lt hwB) 1 (.string (ba t.text)))
                 have hTL5 := mkHid (HO.out _ b5.out)
                 have hown5 := hTL5.out.own)
              | (at_builtin; refine wpList_append_lies _ rfl (.tmp 47) (.tmp 49) 22 rfl (w.heap.size + 3) 28 i0 (.agg #[.int .i64 0, .string ⟨#[]⟩, .int .i64 0, .int .i64 0]) 4 40 Tryz.underlying22 hi hz0 hz1 hz2 rfl (by decide) _ _ _ rfl (hown5.alloc _) ⟨w4.heap.size, 0, none⟩ 1 1 [.int .i64 t.kind, .string (ba t.text), .int .i64 t.num, .int .i64 at'] rfl rfl ?c1 ?c2 (by omega) ?c3 ?c4 ?c5 (w4.heap.size + 1) (by simp) ?_))
            case c1 =>
              have h9 := heap_alloc_new (w4.setCell ⟨B, 1, none⟩ (.string (ba t.text))) (.cells #[.int .i64 t.kind, .string (ba t.text), .int .i64 t.num, .int .i64 at'] 28)
              rw [size_set] at h9
              exact World.news_of_block h9
            case c2 => intro u hu; simp at hu; rcases hu with rfl | rfl | rfl | rfl <;> rfl
            case c3 => unfold maxLen; omega
            case c4 => omega
            case c5 => have h1 := lt_of_heap hTL5.out.tab; simp at h1 ⊢; omega
            intro g3 cap w5 hown' hgrow hat hlt5
            have HT5 := mkHid (TL.append (x := (t, at')) (a' := at' + q4) (hTL5.out.keep (Bl.alloc _ _)) hgrow hown' HX.out hle (by omega))
            clear hown' hgrow hown5 hat
            go_wp2_with fail
            go_roundw
            case rel => exact ⟨acc ++ [(t, at')], at' + q4, by simp, HT5.out⟩
            case measure => simp [intOf]; omega
    · have hae : at' = s.size := by omega
      subst hae
      have hal := hH.out.al
      have hown0 := hH.out.own
      have hwr := mkHid hH.out.bl.size
      obtain ⟨i0, hi, hz0, hz1, hz2⟩ := info_parts info30
      have HLR : Hid (LexR (lst s) (acc ++ [(stopT, s.size)]) 0 0) := by
        have h1 := hH.out.lx [] none (by rw [List.drop_eq_nil_of_le (by rw [lst_len]; exact Nat.le_refl _)]; exact .stop _)
        rw [List.append_nil] at h1
        exact Or.inr ⟨by rw [lst_len]; exact hs, acc, none, h1, Or.inl ⟨rfl, by rw [lst_len], rfl, rfl⟩⟩
      clear hop
      go_wp2_with (first
        | (at_builtin; refine wpList_append_lies _ rfl (.tmp 54) (.tmp 58) 22 rfl (w.heap.size + 3) 28 i0 (.agg #[.int .i64 0, .string ⟨#[]⟩, .int .i64 0, .int .i64 0]) 4 40 Tryz.underlying22 hi hz0 hz1 hz2 rfl (by decide) _ _ _ rfl (hown0.alloc _) ⟨wr.heap.size, 0, none⟩ 1 1 [.int .i64 18, .string ⟨#[]⟩, .int .i64 0, .int .i64 s.size] rfl rfl ?c1 ?c2 (by omega) ?c3 ?c4 ?c5 (wr.heap.size + 1) (by simp) ?_))
      case c1 => exact World.news_of_block (heap_alloc_new wr _)
      case c2 => intro u hu; simp at hu; rcases hu with rfl | rfl | rfl | rfl <;> rfl
      case c3 => unfold maxLen; omega
      case c4 => omega
      case c5 => have h1 := lt_of_heap hH.out.tab; simp at h1 ⊢; omega
      intro g3 cap w5 hown' hgrow hat hlt5
      have HT5 := mkHid (TE.append (x := (stopT, s.size)) (hH.out.keep (Bl.alloc _ _)) hgrow hown')
      clear hown' hgrow hown0 hat
      have e0 : w5.cell? ⟨w.heap.size, 0, none⟩ = some (.int .i64 0) := by rw [cell_in HT5.out.res]; rfl
      have e1 : w5.cell? ⟨w.heap.size, 1, none⟩ = some (.int .i64 0) := by rw [cell_in HT5.out.res]; rfl
      have f0 := frozen_in HT5.out.res 0
      have f1 := frozen_in HT5.out.res 1
      go_wp2_with fail
      refine ret26 (ts := acc ++ [(stopT, s.size)]) (c := 0) (a := 0) ?_ rfl rfl HLR.out ?_ ?_
      · rw [set_in (set_in HT5.out.res 0 _) 1 _]
        rfl
      · refine ownR_congr HT5.out.own (fun g hg => ?_) (by omega)
        have h1 := own_block HT5.out.own hg
        rw [Below.heap_setCell _ _ _ _ (by show g ≠ w.heap.size; omega), Below.heap_setCell _ _ _ _ (by show g ≠ w.heap.size; omega)]
      · exact set_bl (set_bl HT5.out.bl (Nat.le_refl _) 0 _) (Nat.le_refl _) 1 _
end Go.Proofs.YtimlomobbnnehaaGreatDoor

