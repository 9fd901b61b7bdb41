import Derived.Test.YtjbacibicnfaeaaDoorLPrt
namespace Go.Proofs.YtjbacibicnfaeaaDoor
open Go.RowKit Go.Maps
set_option linter.unusedVariables false
set_option linter.unusedSimpArgs false
/-- what Print writes of a list that it takes -/
def prZ (zs : List Z) : Bs := pr ((zs.take (zs.length - 1)).map tokOf)
def goodZ (zs : List Z) : Prop := ∀ i, i < zs.length → okAt zs i
theorem prZ_step {zs : List Z} {i : Nat} (h : i < zs.length) : pr ((zs.take (i + 1)).map tokOf) = if i = 0 then wr (tokOf (zs.getD i noZ)) else pr ((zs.take i).map tokOf) ++ 32 :: wr (tokOf (zs.getD i noZ)) := by
  have e : zs.take (i + 1) = zs.take i ++ [zs.getD i noZ] := by
    rw [List.take_succ_eq_append_getElem h, List.getD_eq_getElem?_getD, List.getElem?_eq_getElem h]
    rfl
  rw [e, List.map_append]
  by_cases hi : i = 0
  · subst hi
    rw [if_pos rfl]
    rfl
  · rw [if_neg hi]
    refine pr_snoc _ _ ?_
    intro h2
    have h3 : ((zs.take i).map tokOf).length = 0 := by rw [h2]; rfl
    rw [List.length_map, List.length_take] at h3
    omega
theorem bytes_app (a b : Bs) : Lib.byteCells (a ++ 32 :: b) = Lib.byteCells a ++ ([.int .u8 32] ++ Lib.byteCells b) := by simp [Lib.byteCells]
set_option maxHeartbeats 8000000 in
set_option maxRecDepth 1000000 in
theorem print_ok (g off c : Nat) (zs : List Z) (w : World) (hT : Tab w) (hP : Pw w) (hr : RdZ w g off zs) (h0 : 0 < zs.length) (hn : zs.length ≤ 268435456) (hc : zs.length ≤ c) (hcm : c ≤ 9223372036854775807)
    (htx : ∀ i, i < zs.length → (zs.getD i noZ).2.1.length ≤ 268435456) (hpl : goodZ zs → ∀ i, i < zs.length → (pr ((zs.take i).map tokOf)).length ≤ 1099511627776) :
    Calls Tryd.prog 19 #[.slice (some ⟨g, off, none⟩) zs.length c] w fun e w' => ((goodZ zs ∧ e = .returned (.tuple #[.string (ba (prZ zs)), .int .i64 0])) ∨ (¬ goodZ zs ∧ e = .returned (.tuple #[.string ⟨#[]⟩, .int .i64 1]))) ∧ Bl w w' := by
  obtain ⟨n, hn'⟩ : ∃ n, zs.length = n := ⟨_, rfl⟩
  have HR := mkHid hr
  have HX := mkHid htx
  have HL := mkHid hpl
  have HC := mkHid (fun i (hi : i < zs.length) W => canBe_ok (zs.getD i noZ).1 (ba (zs.getD i noZ).2.1) (zs.getD i noZ).2.2.1 (zs.getD i noZ).2.2.2 W (by rw [← lst_len, lst_ba]; have := htx i hi; omega))
  simp only [lst_ba] at HC
  rw [hn'] at h0 hn hc HC HX HL ⊢
  have HN := mkHid hn'
  clear hr htx hpl hn'
  have v0 : IntKind.i64.wrap ((n : Int) - 1) = (n : Int) - 1 := wrap_id _ (by omega) (by omega)
  have v1 : ¬ (n : Int) - 1 < 0 := by omega
  have v2 : (n : Int) - 1 ≤ c := by omega
  have v3 : (0 : Int) ≤ (n : Int) - 1 := by omega
  have v4 : ((n : Int) - 1).toNat = n - 1 := by omega
  have HT := mkHid hT
  have HP := mkHid hP
  clear hT hP
  go_enter Tryd.func19, Tryd.ntmps19
  go_wp2_with fail
  go_loopw [17] (fun q wr => ∃ i : Nat, i ≤ n ∧ q = .int .i64 i ∧ Hid (∀ j, j < i → okAt zs j) ∧ Hid (Bl w wr)) (fun q _ => n - (intOf q).toNat)
  case atStart => exact ⟨0, Nat.zero_le _, rfl, (fun j hj => by omega), Bl.refl _⟩
  case round =>
    obtain ⟨i, hi, rfl, hok, hbl⟩ := hrel
    by_cases hin : i < n
    · have hii : (i : Int) < n := by omega
      have r1 := mkHid (HR.out.keep hbl.out)
      obtain ⟨x0, x1, x2, x3⟩ := r1.out.2 i (by rw [HN.out]; exact hin)
      have hgl := r1.out.1
      have hcb := HC.out i hin
      have hI : Hid (okAt zs i ↔ (canZ (zs.getD i noZ).1 (zs.getD i noZ).2.1 (zs.getD i noZ).2.2.1 ∧ ((zs.getD i noZ).1 = 18 ↔ i + 1 = n))) := mkHid (by unfold okAt; rw [HN.out])
      generalize zs.getD i noZ = z at *
      obtain ⟨k, x, m, a⟩ := z
      dsimp only at *
      have HW : Hid (∀ V, Bl (wr.alloc (.cells #[.int .i64 k, .string (ba x), .int .i64 m, .int .i64 a] 30)) V → Bl w V) := mkHid fun V hV => (hbl.out.trans (Bl.alloc _ _)).trans hV
      by_cases hcz : canZ k x m
      · have dc : decide (canZ k x m) = true := decide_eq_true hcz
        rw [dc] at hcb
        have HB := mkHid hcb
        have hcz' := mkHid hcz
        by_cases h18 : k = 18
        · by_cases hl : i + 1 = n
          · skip
            have b1 : (k == 18) = true := by simpa using h18
            have b2 : ((i : Int) == (n : Int) - 1) = true := by simp; omega
            have hl' := mkHid hl
            have h18' := mkHid h18
            clear hcb dc hcz hl h18
            go_wp2_with (go_at_call 34; refine (HB.out _).mono ?_; rintro e w1 ⟨rfl, b9⟩; have hz := blk_in b9; have c0 : w1.cell? ⟨wr.heap.size, 0, none⟩ = some (.int .i64 k) := by rw [cell_in hz]; rfl)
            go_roundw
            case rel => exact ⟨i + 1, by omega, by simp, (fun j hj => by
              by_cases he : j = i
              · rw [he]; exact hI.out.2 ⟨hcz'.out, ⟨fun _ => hl'.out, fun _ => h18'.out⟩⟩
              · exact hok.out j (by omega)), HW.out _ b9⟩
            case measure => simp [intOf]; omega
          · skip
            have b1 : (k == 18) = true := by simpa using h18
            have b2 : ((i : Int) == (n : Int) - 1) = false := by simp; omega
            have hl' := mkHid hl
            have h18' := mkHid h18
            clear hcb dc hcz hl h18
            go_wp2_with (go_at_call 34; refine (HB.out _).mono ?_; rintro e w1 ⟨rfl, b9⟩; have hz := blk_in b9; have c0 : w1.cell? ⟨wr.heap.size, 0, none⟩ = some (.int .i64 k) := by rw [cell_in hz]; rfl)
            go_ret2
            exact ⟨Or.inr ⟨fun h => hl'.out ((hI.out.1 (h i (by rw [HN.out]; exact hin))).2.1 h18'.out), rfl⟩, HW.out _ b9⟩
        · by_cases hl : i + 1 = n
          · skip
            have b1 : (k == 18) = false := by simpa using h18
            have b2 : ((i : Int) == (n : Int) - 1) = true := by simp; omega
            have hl' := mkHid hl
            have h18' := mkHid h18
            clear hcb dc hcz hl h18
            go_wp2_with (go_at_call 34; refine (HB.out _).mono ?_; rintro e w1 ⟨rfl, b9⟩; have hz := blk_in b9; have c0 : w1.cell? ⟨wr.heap.size, 0, none⟩ = some (.int .i64 k) := by rw [cell_in hz]; rfl)
            go_ret2
            exact ⟨Or.inr ⟨fun h => h18'.out ((hI.out.1 (h i (by rw [HN.out]; exact hin))).2.2 hl'.out), rfl⟩, HW.out _ b9⟩
          · skip
            have b1 : (k == 18) = false := by simpa using h18
            have b2 : ((i : Int) == (n : Int) - 1) = false := by simp; omega
            have hl' := mkHid hl
            have h18' := mkHid h18
            clear hcb dc hcz hl h18
            go_wp2_with (go_at_call 34; refine (HB.out _).mono ?_; rintro e w1 ⟨rfl, b9⟩; have hz := blk_in b9; have c0 : w1.cell? ⟨wr.heap.size, 0, none⟩ = some (.int .i64 k) := by rw [cell_in hz]; rfl)
            go_roundw
            case rel => exact ⟨i + 1, by omega, by simp, (fun j hj => by
              by_cases he : j = i
              · rw [he]; exact hI.out.2 ⟨hcz'.out, ⟨fun h => absurd h h18'.out, fun h => absurd h hl'.out⟩⟩
              · exact hok.out j (by omega)), HW.out _ b9⟩
            case measure => simp [intOf]; omega
      · have dc : decide (canZ k x m) = false := decide_eq_false hcz
        rw [dc] at hcb
        have HB := mkHid hcb
        have hcz' := mkHid hcz
        clear hcb dc hcz
        go_wp2_with (go_at_call 34; refine (HB.out _).mono ?_; rintro e w1 ⟨rfl, b9⟩; have hz := blk_in b9; have c0 : w1.cell? ⟨wr.heap.size, 0, none⟩ = some (.int .i64 k) := by rw [cell_in hz]; rfl)
        go_ret2
        exact ⟨Or.inr ⟨fun h => hcz'.out (hI.out.1 (h i (by rw [HN.out]; exact hin))).1, rfl⟩, HW.out _ b9⟩
    · have hie : ¬ (i : Int) < n := by omega
      have hgood : Hid (goodZ zs) := mkHid fun j hj => hok.out j (by rw [HN.out] at hj; omega)
      obtain ⟨W1, hW1⟩ : ∃ W1, W1 = wr := ⟨_, rfl⟩
      subst hW1
      have HB1 := mkHid hbl.out
      clear HC hok hbl
      go_wp2_with fail
      go_loopw [39] (fun q V => ∃ i : Nat, i ≤ n - 1 ∧ q = .int .i64 i ∧ Hid (Lib.IsBuilderF 63 5 W1.heap.size W1.heap.size (Lib.byteCells (pr ((zs.take i).map tokOf))) V ∧ Bl W1 V)) (fun q _ => n - 1 - (intOf q).toNat)
      case atStart => exact ⟨0, Nat.zero_le _, rfl, bld_new _, Bl.alloc _ _⟩
      case round =>
        obtain ⟨i, hi, rfl, hq'⟩ := hrel
        obtain ⟨wr0, hwr0⟩ : ∃ wr0, wr0 = wr := ⟨_, rfl⟩
        subst hwr0
        have hq := hq'.out
        have hbW : W1.heap.size < wr0.heap.size := by
          obtain ⟨p, hB, v, hb, _⟩ : ∃ p, Lib.BuilderAtF 63 5 W1.heap.size W1.heap.size p (Lib.byteCells (pr ((zs.take i).map tokOf))) wr0 := by
            rcases hq.1 with h | h
            · exact ⟨_, h⟩
            · exact ⟨_, h⟩
          exact lt_of_heap hb
        have r1 := mkHid (HR.out.keep (HB1.out.trans hq.2))
        by_cases hin2 : i < n - 1
        · have hii : (i : Int) < ((n - 1 : Nat) : Int) := by omega
          have hii2 : (i : Int) < (n : Int) - 1 := by omega
          by_cases hi0 : i = 0
          · skip
            obtain ⟨x0, x1, x2, x3⟩ := r1.out.2 i (by rw [HN.out]; omega)
            have hgl := r1.out.1
            obtain ⟨hcz, h18'⟩ := hgood.out i (by rw [HN.out]; omega)
            have h18 : (zs.getD i noZ).1 ≠ 18 := fun h => by have := h18'.1 h; rw [HN.out] at this; omega
            have hst := prZ_step (zs := zs) (i := i) (by rw [HN.out]; omega)
            have hl1 := HL.out hgood.out i (by omega)
            have hl2 := HL.out hgood.out (i + 1) (by omega)
            have htx := HX.out i (by omega)
            obtain ⟨tc1, tc2, tc3, tc4⟩ := tok_can hcz h18
            generalize zs.getD i noZ = z at *
            obtain ⟨k, x, m, a⟩ := z
            obtain ⟨t, ht⟩ : ∃ t, t = tokOf (k, x, m, a) := ⟨_, rfl⟩
            rw [← ht] at tc1 tc2 tc3 tc4 hst
            dsimp only at *
            have HWr : Hid (∀ V, Bl W1 V → Calls Tryd.prog 37 #[.agg #[.int .i64 k, .string (ba x), .int .i64 m, .int .i64 a]] V fun e w' => e = .returned (.string (ba (wr t))) ∧ Bl V w') := mkHid fun V hV => by
              have := written_ok t a V (HT.out.mono (HB1.out.trans hV)) (HP.out.mono (HB1.out.trans hV)) tc1 (by rw [tc4]; exact htx)
              rw [tc2, tc3, tc4] at this
              exact this
            have hws : (ba (wr t)).size = (wr t).length := by rw [← lst_len, lst_ba]
            have hsc : Lib.strCells (ba (wr t)) = Lib.byteCells (wr t) := by unfold Lib.strCells Lib.byteCells; rw [show (ba (wr t)).data.toList = wr t from lst_ba _]
            have hbc : (Lib.byteCells (pr ((zs.take i).map tokOf))).length = (pr ((zs.take i).map tokOf)).length := Lib.byteCells_length _
            rw [if_pos hi0] at hst
            rw [hst] at hl2
            have hi0i : ¬ (0 : Int) < i := by omega
            have hpe : Lib.byteCells (pr ((zs.take i).map tokOf)) = [] := by rw [hi0]; rfl
            have HST := mkHid hst
            have HI0 := mkHid hi0
            clear hcz h18' h18 tc1 tc2 tc3 tc4 ht hst hi0
            go_wp2_with (first
              | (go_at_call 37; refine (HWr.out _ (hq.2.trans (Bl.alloc _ _))).mono ?_; rintro e w2 ⟨rfl, b2⟩)
              | (go_at_call 36; refine (WriteString_k W1.heap.size W1.heap.size _ (ba (wr t)) _ (bld_keep hq.1 ((Bl.alloc _ _).trans b2)) (by rw [hbc, hws]; omega) ((hq.2.trans (Bl.alloc _ _)).trans b2).size).mono ?_; rintro e w3 ⟨rfl, q1, q2, q3⟩))
            go_roundw
            case rel => exact ⟨i + 1, by omega, by simp, (by rw [hpe, List.nil_append, hsc] at q1; rw [HST.out]; exact Or.inr q1), Below.trans ((hq.2.trans (Bl.alloc _ _)).trans b2) q2⟩
            case measure => simp [intOf]; omega
          · skip
            obtain ⟨x0, x1, x2, x3⟩ := r1.out.2 i (by rw [HN.out]; omega)
            have hgl := r1.out.1
            obtain ⟨hcz, h18'⟩ := hgood.out i (by rw [HN.out]; omega)
            have h18 : (zs.getD i noZ).1 ≠ 18 := fun h => by have := h18'.1 h; rw [HN.out] at this; omega
            have hst := prZ_step (zs := zs) (i := i) (by rw [HN.out]; omega)
            have hl1 := HL.out hgood.out i (by omega)
            have hl2 := HL.out hgood.out (i + 1) (by omega)
            have htx := HX.out i (by omega)
            obtain ⟨tc1, tc2, tc3, tc4⟩ := tok_can hcz h18
            generalize zs.getD i noZ = z at *
            obtain ⟨k, x, m, a⟩ := z
            obtain ⟨t, ht⟩ : ∃ t, t = tokOf (k, x, m, a) := ⟨_, rfl⟩
            rw [← ht] at tc1 tc2 tc3 tc4 hst
            dsimp only at *
            have HWr : Hid (∀ V, Bl W1 V → Calls Tryd.prog 37 #[.agg #[.int .i64 k, .string (ba x), .int .i64 m, .int .i64 a]] V fun e w' => e = .returned (.string (ba (wr t))) ∧ Bl V w') := mkHid fun V hV => by
              have := written_ok t a V (HT.out.mono (HB1.out.trans hV)) (HP.out.mono (HB1.out.trans hV)) tc1 (by rw [tc4]; exact htx)
              rw [tc2, tc3, tc4] at this
              exact this
            have hws : (ba (wr t)).size = (wr t).length := by rw [← lst_len, lst_ba]
            have hsc : Lib.strCells (ba (wr t)) = Lib.byteCells (wr t) := by unfold Lib.strCells Lib.byteCells; rw [show (ba (wr t)).data.toList = wr t from lst_ba _]
            have hbc : (Lib.byteCells (pr ((zs.take i).map tokOf))).length = (pr ((zs.take i).map tokOf)).length := Lib.byteCells_length _
            rw [if_neg hi0] at hst
            rw [hst] at hl2
            have hi0i : (0 : Int) < i := by omega
            have hwl : (wr t).length ≤ 1099511627776 := by rw [List.length_append, List.length_cons] at hl2; omega
            have HST := mkHid hst
            clear hcz h18' h18 tc1 tc2 tc3 tc4 ht hst hi0
            go_wp2_with (first
              | (go_at_call 35; refine (WriteByte_k W1.heap.size W1.heap.size _ 32 _ (bld_keep hq.1 (Bl.alloc _ _)) (by rw [hbc]; omega) (hq.2.trans (Bl.alloc _ _)).size).mono ?_; rintro e w1 ⟨rfl, p1, p2, p3⟩
                 have bw1 : Bl W1 w1 := Below.trans (hq.2.trans (Bl.alloc _ _)) p2
                 have hz := p3 wr0.heap.size _ (heap_alloc_new wr0 _) (by have := hbW; intro e; injection e with e; omega) (by intro c fz h; injection h with h1 h2; cases h2)
                 have d0 : w1.cell? ⟨wr0.heap.size, 0, none⟩ = some (.int .i64 k) := by rw [cell_in hz]; rfl
                 have d1 : w1.cell? ⟨wr0.heap.size, 1, none⟩ = some (.string (ba x)) := by rw [cell_in hz]; rfl
                 have d2 : w1.cell? ⟨wr0.heap.size, 2, none⟩ = some (.int .i64 m) := by rw [cell_in hz]; rfl
                 have d3 : w1.cell? ⟨wr0.heap.size, 3, none⟩ = some (.int .i64 a) := by rw [cell_in hz]; rfl)
              | (go_at_call 37; refine (HWr.out _ bw1).mono ?_; rintro e w2 ⟨rfl, b2⟩)
              | (go_at_call 36; refine (WriteString_k W1.heap.size W1.heap.size _ (ba (wr t)) _ (bld_keep (Or.inr p1) b2) (by rw [List.length_append, hbc, hws]; show _ + 1 + _ ≤ _; omega) (bw1.trans b2).size).mono ?_; rintro e w3 ⟨rfl, q1, q2, q3⟩))
            go_roundw
            case rel => exact ⟨i + 1, by omega, by simp, (by rw [hsc, List.append_assoc] at q1; rw [HST.out, bytes_app]; exact Or.inr q1), Below.trans (bw1.trans b2) q2⟩
            case measure => simp [intOf]; omega
        · have hii : ¬ (i : Int) < ((n - 1 : Nat) : Int) := by omega
          have hii2 : ¬ (i : Int) < (n : Int) - 1 := by omega
          have hie2 : Hid (pr ((zs.take i).map tokOf) = prZ zs) := mkHid (by unfold prZ; rw [HN.out, show i = n - 1 by omega])
          have hq1 := mkHid hq.1
          have hq2 := mkHid hq.2
          rw [hie2.out] at hq1
          clear hq hq' hie2
          go_wp2_with (go_at_call 38; refine (String_k W1.heap.size W1.heap.size (prZ zs) _ hq1.out hq2.out.size).mono ?_; rintro e w2 ⟨rfl, p1, p2, p3⟩)
          go_ret2
          exact ⟨Or.inl ⟨hgood.out, rfl⟩, HB1.out.trans (Below.trans hq2.out p2)⟩
end Go.Proofs.YtjbacibicnfaeaaDoor
