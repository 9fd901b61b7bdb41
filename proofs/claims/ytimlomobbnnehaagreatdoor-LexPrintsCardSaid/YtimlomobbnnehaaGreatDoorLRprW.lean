import Derived.Test.YtimlomobbnnehaaGreatDoorG18LRpr
namespace Go.Proofs.YtimlomobbnnehaaGreatDoor
open Go.RowKit Go.Maps
set_option linter.unusedVariables false
set_option linter.unusedSimpArgs false
theorem wt_le : ∀ (zs : List Zt) (i : Nat), wt (zs.take i) ≤ wt zs := by
  intro zs
  induction zs with
  | nil => intro i; simp
  | cons z zs ih =>
    intro i
    cases i with
    | zero => simp [wt]
    | succ i => have := ih i; simp [wt] at this ⊢; omega
theorem wt_at : ∀ (zs : List Zt) (i : Nat), i < zs.length → 24 + (zs.getD i noZ).2.1.length ≤ wt zs := by
  intro zs
  induction zs with
  | nil => intro i h; simp at h
  | cons z zs ih =>
    intro i h
    cases i with
    | zero => simp [wt]
    | succ i =>
      have := ih i (by simpa using h)
      have e : wt (z :: zs) = 24 + z.2.1.length + wt zs := by simp [wt]
      rw [e]
      show 24 + (zs.getD i noZ).2.1.length ≤ _
      omega
theorem wt_len24 : ∀ (zs : List Zt), 24 * zs.length ≤ wt zs := by
  intro zs
  induction zs with
  | nil => simp
  | cons z zs ih =>
    have e : wt (z :: zs) = 24 + z.2.1.length + wt zs := by simp [wt]
    rw [e]
    simp
    omega
def wr_ (z : Zt) : Bs := wr (tokOf z)
/-- what Print answers -/
def PrR (zs : List Zt) (e : Ending) : Prop := (0 < zs.length ∧ goodZ zs ∧ e = .returned (.tuple #[.string (ba (prZ zs)), .int .i64 0])) ∨ (¬ (0 < zs.length ∧ goodZ zs) ∧ e = .returned (.tuple #[.string ⟨#[]⟩, .int .i64 1]))
set_option maxHeartbeats 16000000 in
set_option maxRecDepth 1000000 in
theorem rPrint_ok (p : Option Addr) (c : Nat) (zs : List Zt) (w : World) (hP : Pw w) (hr : RdV w (.slice p zs.length c) zs) (hw : wt zs ≤ 268435456)
    (hi : ∀ i, i < zs.length → -9223372036854775808 ≤ (zs.getD i noZ).2.2.1 ∧ (zs.getD i noZ).2.2.1 ≤ 9223372036854775807) :
    Calls Tryz.prog 10 #[.slice p zs.length c] w fun e w' => PrR zs e ∧ Bl w w' := by
  by_cases h0 : 0 < zs.length
  · have hlen := wt_len24 zs
    have hwle := wt_le zs
    have hwat := wt_at zs
    have HI := mkHid hi
    have HRd : Hid (∀ V, Bl w V → RdV V (.slice p zs.length c) zs) := mkHid fun V b => hr.frame (Fr.ofBl b []) (fun _ _ _ hm => by cases hm)
    obtain ⟨p', c', e, hp⟩ := hr.at_
    injection e with e1 e2 e3
    obtain ⟨b, off, e4, hb, hc⟩ := hp h0
    rw [← e1] at e4
    subst e4
    have HCl : Hid (∀ V, Bl w V → ∀ j, j < zs.length → V.cell? ⟨b, off + j * 4, none⟩ = some (.int .i64 (zs.getD j noZ).1) ∧ V.cell? ⟨b, off + j * 4 + 1, none⟩ = some (.string (ba (zs.getD j noZ).2.1)) ∧
        V.cell? ⟨b, off + j * 4 + 2, none⟩ = some (.int .i64 (zs.getD j noZ).2.2.1) ∧ V.cell? ⟨b, off + j * 4 + 3, none⟩ = some (.int .i64 (zs.getD j noZ).2.2.2)) := mkHid fun V k j hj => by
      have e : ∀ i, V.cell? ⟨b, i, none⟩ = w.cell? ⟨b, i, none⟩ := fun i => World.cell?_of_block (w := w) (k.block b hb)
      rw [e, e, e, e]
      have := hc j hj
      rw [← e1] at hp
      exact this
    have HM := mkHid (fun V (k : Bl w V) j (hj : j < zs.length) => rMay_ok (zs.getD j noZ).1 (zs.getD j noZ).2.1 (zs.getD j noZ).2.2.1 (zs.getD j noZ).2.2.2 V (hP.mono k) (by have := hwat j hj; omega) (hi j hj).1 (hi j hj).2)
    have HS := mkHid (fun V (k : Bl w V) j (hj : j < zs.length) => rShown_ok (zs.getD j noZ).1 (zs.getD j noZ).2.1 (zs.getD j noZ).2.2.1 (zs.getD j noZ).2.2.2 V (hP.mono k) (by have := hwat j hj; omega) (hi j hj).1 (hi j hj).2)
    have HW := mkHid hwle
    have HG := mkHid (fun hl hm => good_of (zs := zs) h0 hl hm)
    have HGl := mkHid (fun g => good_last (zs := zs) h0 g)
    have HGm := mkHid (fun g => good_may (zs := zs) g)
    clear hr hp hc hwat hwle hi hP e1 e2 e3 HRd
    obtain ⟨i0, ii, hz0, hz1, hz2⟩ := info_parts info5
    obtain ⟨n, hn⟩ : ∃ n, zs.length = n + 1 := ⟨zs.length - 1, by omega⟩
    obtain ⟨x0, x1, x2, x3⟩ := HCl.out w (Bl.refl _) n (by omega)
    have hLs : Hid (lastB (zs.getD n noZ) = true ↔ ((zs.getD n noZ).1 = 18 ∧ (zs.getD n noZ).2.1 = [] ∧ (zs.getD n noZ).2.2.1 = 0)) := mkHid (by unfold lastB; rw [decide_eq_true_eq])
    have hGl : Hid (goodZ zs → lastB (zs.getD n noZ) = true) := mkHid fun g => by have := HGl.out g; rw [hn, Nat.add_sub_cancel] at this; exact this
    have hGm : Hid (goodZ zs → ∀ i, i < n → mayA zs i = true) := mkHid fun g i h => HGm.out g i (by omega)
    have hG : Hid (lastB (zs.getD n noZ) = true → (∀ i, i < n → mayA zs i = true) → goodZ zs) := mkHid fun hl hm => HG.out (by rw [hn, Nat.add_sub_cancel]; exact hl) (fun i h => hm i (by omega))
    have hPz : Hid (prZ zs = pr ((zs.take n).map tokOf)) := mkHid (by unfold prZ; rw [hn, Nat.add_sub_cancel])
    have hHl : Hid (∀ i, i ≤ n → (∀ j, j < i → mayA zs j = true) → (pr ((zs.take i).map tokOf)).length ≤ 536870912) := mkHid fun i h hm => by
      have := pr_len' (zs := zs) (i := i) (by omega) hm
      have := HW.out i
      omega
    have hSt : Hid (∀ i, i < n → pr ((zs.take (i + 1)).map tokOf) = if i = 0 then wr (tokOf (zs.getD i noZ)) else pr ((zs.take i).map tokOf) ++ 32 :: wr (tokOf (zs.getD i noZ))) := mkHid fun i h => prZ_step (by omega)
    have HM : Hid (∀ V, Bl w V → ∀ j, j < n → Calls Tryz.prog 20 #[.agg #[.int .i64 (zs.getD j noZ).1, .string (ba (zs.getD j noZ).2.1), .int .i64 (zs.getD j noZ).2.2.1, .int .i64 (zs.getD j noZ).2.2.2]] V fun e w' => e = .returned (.bool (mayA zs j)) ∧ Bl V w') := mkHid fun V k j hj => HM.out V k j (by omega)
    have HS : Hid (∀ V, Bl w V → ∀ j, j < n → Calls Tryz.prog 21 #[.agg #[.int .i64 (zs.getD j noZ).1, .string (ba (zs.getD j noZ).2.1), .int .i64 (zs.getD j noZ).2.2.1, .int .i64 (zs.getD j noZ).2.2.2]] V fun e w' => e = .returned (.string (ba (shw (zs.getD j noZ).1 (zs.getD j noZ).2.1 (zs.getD j noZ).2.2.1))) ∧ Bl V w') := mkHid fun V k j hj => HS.out V k j (by omega)
    have HCl : Hid (∀ V, Bl w V → ∀ j, j < n → V.cell? ⟨b, off + j * 4, none⟩ = some (.int .i64 (zs.getD j noZ).1) ∧ V.cell? ⟨b, off + j * 4 + 1, none⟩ = some (.string (ba (zs.getD j noZ).2.1)) ∧
        V.cell? ⟨b, off + j * 4 + 2, none⟩ = some (.int .i64 (zs.getD j noZ).2.2.1) ∧ V.cell? ⟨b, off + j * 4 + 3, none⟩ = some (.int .i64 (zs.getD j noZ).2.2.2)) := mkHid fun V k j hj => HCl.out V k j (by omega)
    have hn28 : n < 268435456 := by omega
    have hn0 : ¬ (n : Int) < 0 := by omega
    have HYes : Hid (goodZ zs → PrR zs (.returned (.tuple #[.string (ba (pr ((zs.take n).map tokOf))), .int .i64 0]))) := mkHid fun g => Or.inl ⟨h0, g, by rw [hPz.out]⟩
    have HNo : Hid (¬ goodZ zs → PrR zs (.returned (.tuple #[.string ⟨#[]⟩, .int .i64 1]))) := mkHid fun g => Or.inr ⟨fun h => g h.2, rfl⟩
    rw [hn]
    clear HG HGl HGm HI hw hlen hb h0 hn hPz
    generalize hzl : zs.getD n noZ = zl at *
    obtain ⟨k, x, m, a⟩ := zl
    dsimp only at x0 x1 x2 x3 hLs
    by_cases k18 : k = 18
    · by_cases xe : x = []
      · by_cases m0 : m = 0
        · subst k18 xe m0
          have HLt : Hid (lastB ((18, [], 0, a) : Zt) = true) := mkHid (decide_eq_true ⟨rfl, rfl, rfl⟩)
          replace x1 : w.cell? ⟨b, off + n * 4 + 1, none⟩ = some (.string ⟨#[]⟩) := x1
          clear hLs hGl hzl
          go_enter Tryz.func10, Tryz.ntmps10
          go_wp2_with (go_at_call 20; fail)
          go_loopw [5, 6] (fun v q wr => ∃ i : Nat, i ≤ n ∧ q = .int .i64 i ∧ Hid (∀ j, j < i → mayA zs j = true) ∧ Hid (BO w (pr ((zs.take i).map tokOf)) v wr)) (fun _ q _ => n - (intOf q).toNat)
          case atStart => exact ⟨0, Nat.zero_le _, rfl, fun j h => by omega, ⟨World.ownsRow_nil _ _ _ _, Bl.refl _⟩⟩
          case round =>
            obtain ⟨i, hi1, rfl, hmy, hB⟩ := hrel
            clear x0 x1 x2 x3
            by_cases hlt : i < n
            · have hli : (i : Int) < n := by omega
              have hli1 : (i : Int) < (n : Int) + 1 := by omega
              obtain ⟨x0, x1, x2, x3⟩ := HCl.out wr hB.out.bl i hlt
              have HMi := mkHid (HM.out wr hB.out.bl i hlt)
              have HSi := mkHid (fun V (k : Bl w V) => HS.out V k i hlt)
              have HCi := mkHid (fun V (k : Bl w V) => HCl.out V k i hlt)
              have hst := hSt.out i hlt
              have hL := hHl.out i hi1 hmy.out
              have hsz : Hid (mayA zs i = true → shw (zs.getD i noZ).1 (zs.getD i noZ).2.1 (zs.getD i noZ).2.2.1 = wr_ (zs.getD i noZ)) := mkHid fun h => may_shw h _
              have hbd : Hid (mayA zs i = true → (wr_ (zs.getD i noZ)).length ≤ 1073741824) := mkHid fun h => by
                have q2 := hHl.out (i + 1) (by omega) (fun j hj => by
                  by_cases hji : j < i
                  · exact hmy.out j hji
                  · have : j = i := by omega
                    subst this; exact h)
                rw [hst] at q2
                unfold wr_
                split at q2
                · omega
                · rw [List.length_append, List.length_cons] at q2; omega
              clear HM HS HCl hHl hSt
              cases hma : mayA zs i with
              | false =>
                have HNg := mkHid (HNo.out (fun g => by have := hGm.out g i hlt; rw [hma] at this; cases this))
                rw [hma] at HMi
                generalize zs.getD i noZ = zi at *
                obtain ⟨k, x, m, a'⟩ := zi
                dsimp only at x0 x1 x2 x3 HMi
                clear hsz hbd HSi HCi hst
                go_wp2_with (go_at_call 20; refine HMi.out.mono ?_; rintro e w1 ⟨rfl, b1⟩)
                go_ret2
                exact ⟨HNg.out, hB.out.bl.trans b1⟩
              | true =>
                have HE := mkHid (hsz.out hma)
                have HBd := hbd.out hma
                have hmy2 : Hid (∀ j, j < i + 1 → mayA zs j = true) := mkHid fun j hj => by
                  by_cases hji : j < i
                  · exact hmy.out j hji
                  · have : j = i := by omega
                    subst this; exact hma
                rw [hma] at HMi
                have HSt : Hid (pr ((zs.take (i + 1)).map tokOf) = if i = 0 then wr_ (zs.getD i noZ) else pr ((zs.take i).map tokOf) ++ 32 :: wr_ (zs.getD i noZ)) := hst
                clear hsz hbd hst hma
                generalize zs.getD i noZ = zi at *
                obtain ⟨k, x, m, a'⟩ := zi
                dsimp only at x0 x1 x2 x3 HMi HSi HCi HE
                rw [HE.out] at HSi
                generalize wr_ (k, x, m, a') = wz at *
                have hwz := ba_size wz
                have hN1 : Hid (i = 0 → pr ((zs.take (i + 1)).map tokOf) = pr ((zs.take i).map tokOf) ++ wz) := mkHid fun h => by
                  rw [HSt.out, if_pos h, h]
                  rfl
                have hN2 : Hid (i ≠ 0 → pr ((zs.take (i + 1)).map tokOf) = pr ((zs.take i).map tokOf) ++ [32] ++ wz) := mkHid fun h => by
                  rw [HSt.out, if_neg h]
                  simp
                generalize pr ((zs.take i).map tokOf) = B at *
                clear HE HSt
                by_cases hi0 : i = 0
                · have hgi : ¬ (0 : Int) < i := by omega
                  have hB' := mkHid (hN1.out hi0)
                  clear hN1 hN2 hi0
                  go_wp2_with (first
                    | (go_at_call 20; refine HMi.out.mono ?_; rintro e w1 ⟨rfl, b1⟩; have B1 := mkHid b1; clear b1; obtain ⟨y0, y1, y2, y3⟩ := HCi.out w1 (hB.out.bl.trans B1.out))
                    | (go_at_call 21; refine (HSi.out _ (hB.out.bl.trans B1.out)).mono ?_; rintro e w2 ⟨rfl, b2⟩; have HB2 := mkHid (hB.out.keep (B1.out.trans b2)); have hown := HB2.out.own; have hws := HB2.out.bl.size; clear b2)
                    | (at_builtin; refine Lib.wpList_append_own_string w2 rfl (.tmp 54) (.tmp 59) 45 9 rfl w.heap.size 5 i0 Tryz.underlying45 Tryz.underlying9 ii hz0 hz1 hz2 _ _ _ rfl hown (ba wz) rfl (by unfold maxLen; omega) (by omega) hws ?_))
                  intro v' w5 hown' hgrow hnil
                  have HT5 : Hid (BO w (pr ((zs.take (i + 1)).map tokOf)) v' w5) := by unfold Hid; rw [hB'.out]; exact BO.appendS HB2.out hgrow hown'
                  clear hown' hgrow hown hnil
                  go_wp2_with fail
                  go_roundw
                  case rel => exact ⟨i + 1, by omega, by simp, hmy2, HT5⟩
                  case measure => simp [intOf]; omega
                · have hgi : (0 : Int) < i := by omega
                  have hB' := mkHid (hN2.out hi0)
                  clear hN1 hN2 hi0
                  go_wp2_with (first
                    | (go_at_call 20; refine HMi.out.mono ?_; rintro e w1 ⟨rfl, b1⟩; have B1 := mkHid b1; clear b1; have HB1 := mkHid (hB.out.keep B1.out); have hown := HB1.out.own; have hws := HB1.out.bl.size)
                    | (at_builtin; refine wpList_append_lies _ rfl (.tmp 51) (.tmp 52) 45 rfl w.heap.size 5 i0 (.int .u8 0) 1 1 Tryz.underlying45 ii hz0 hz1 hz2 rfl (by decide) _ _ _ rfl (hown.alloc _) ⟨w1.heap.size, 0, none⟩ 1 1 [.int .u8 32] rfl rfl ?c1 ?c2 (by omega) ?c3 ?c4 ?c5 (w1.heap.size + 1) (by simp) ?_))
                  case c1 => exact World.news_of_block (heap_alloc_new w1 _)
                  case c2 => intro u hu; simp at hu; rcases hu with rfl; rfl
                  case c3 => unfold maxLen; omega
                  case c4 => omega
                  case c5 => simp; omega
                  intro g3 cap w4 hown' hgrow hat hlt5
                  have HT4 := mkHid (BO.append (c := 32) HB1.out hgrow hown')
                  obtain ⟨y0, y1, y2, y3⟩ := HCi.out w4 HT4.out.bl
                  clear hown' hgrow hown hat
                  go_wp2_with (first
                    | (go_at_call 21; refine (HSi.out _ HT4.out.bl).mono ?_; rintro e w2 ⟨rfl, b2⟩; have HB2 := mkHid (HT4.out.keep b2); have hown := HB2.out.own; have hws2 := HB2.out.bl.size; rw [List.length_append, List.length_singleton] at hown; clear b2)
                    | (at_builtin; refine Lib.wpList_append_own_string w2 rfl (.tmp 54) (.tmp 59) 45 9 rfl w.heap.size 5 i0 Tryz.underlying45 Tryz.underlying9 ii hz0 hz1 hz2 _ _ _ rfl hown (ba wz) rfl (by unfold maxLen; omega) (by omega) hws2 ?_))
                  intro v' w5 hown' hgrow hnil
                  have HT5 : Hid (BO w (pr ((zs.take (i + 1)).map tokOf)) v' w5) := by unfold Hid; rw [hB'.out]; exact BO.appendS HB2.out hgrow (by rw [List.length_append, List.length_singleton]; exact hown')
                  clear hown' hgrow hown hnil
                  go_wp2_with fail
                  go_roundw
                  case rel => exact ⟨i + 1, by omega, by simp, hmy2, HT5⟩
                  case measure => simp [intOf]; omega
            · have hie : i = n := by omega
              have hli : ¬ (i : Int) < n := by omega
              have HYs := mkHid (HYes.out (hG.out HLt.out (by rw [← hie]; exact hmy.out)))
              have hcv := hB.out.conv
              rw [hie] at hcv
              generalize pr ((zs.take n).map tokOf) = PP at HYs hcv
              clear hie HM HS HCl hHl hSt
              go_wp2_with fail
              go_wp2_with fail
              go_ret2
              exact ⟨HYs.out, hB.out.bl⟩
        · subst k18 xe
          replace x1 : w.cell? ⟨b, off + n * 4 + 1, none⟩ = some (.string ⟨#[]⟩) := x1
          have HNg := mkHid (HNo.out (fun g => m0 ((hLs.out.1 (hGl.out g)).2.2)))
          have q : (m != 0) = true := by rw [bne_iff_ne]; exact m0
          clear m0 hLs hGl hzl hGm hG HYes HM HS HCl hHl hSt
          go_enter Tryz.func10, Tryz.ntmps10
          go_wp2_with (go_at_call 20; fail)
          go_ret2
          exact ⟨HNg.out, Bl.refl _⟩
      · subst k18
        have HNg := mkHid (HNo.out (fun g => xe ((hLs.out.1 (hGl.out g)).2.1)))
        have q : (ba x).toList.isEmpty = false := not_empty_of (fun h => xe (List.length_eq_zero_iff.1 (by rw [← ba_size]; exact h)))
        clear xe hLs hGl hzl hGm hG HYes HM HS HCl hHl hSt
        go_enter Tryz.func10, Tryz.ntmps10
        go_wp2_with (go_at_call 20; fail)
        go_ret2
        exact ⟨HNg.out, Bl.refl _⟩
    · have HNg := mkHid (HNo.out (fun g => k18 ((hLs.out.1 (hGl.out g)).1)))
      have q : (k != 18) = true := by rw [bne_iff_ne]; exact k18
      clear k18 hLs hGl hzl hGm hG HYes HM HS HCl hHl hSt
      go_enter Tryz.func10, Tryz.ntmps10
      go_wp2_with (go_at_call 20; fail)
      go_ret2
      exact ⟨HNg.out, Bl.refl _⟩
  · have hz : zs = [] := List.length_eq_zero_iff.1 (by omega)
    subst hz
    go_enter Tryz.func10, Tryz.ntmps10
    go_wp2_with fail
    go_ret2
    exact ⟨Or.inr ⟨fun h => absurd h.1 (by simp), rfl⟩, Bl.refl _⟩
end Go.Proofs.YtimlomobbnnehaaGreatDoor
