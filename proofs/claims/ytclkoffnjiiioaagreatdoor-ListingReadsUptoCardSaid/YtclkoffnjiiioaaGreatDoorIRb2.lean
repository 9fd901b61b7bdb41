import Derived.Test.YtclkoffnjiiioaaGreatDoorG21IRa
import Derived.Test.YtclkoffnjiiioaaGreatDoorG00CSy5
namespace Go.Proofs.YtclkoffnjiiioaaGreatDoor
open Go.RowKit
set_option linter.unusedVariables false
set_option linter.unusedSimpArgs false
attribute [local go_sem ↓] Go.wp_at_zero Go.wp_at_succ
theorem lit1_le (u : LitT) (m : Nat) (hm : m ≤ 4096) (h : (lit1 false u m).1 = 0) : (lit1 false u m).2 ≤ 4096 := by
  unfold lit1 at h ⊢
  by_cases h1 : okB false u = false
  · rw [if_pos h1] at h; cases h
  · rw [if_neg h1, if_neg (by decide)] at h ⊢
    by_cases h2 : 4096 < m + 1
    · rw [if_pos h2] at h; cases h
    · rw [if_neg h2] at h ⊢
      exact gaT_le u (m + 1) (by omega) h
set_option maxRecDepth 100000 in
set_option maxHeartbeats 8000000 in
theorem literal_stepO (x n : Nat) (t : LitT) (top : Bool) (w0 V : World) (hk : LitsO w0 (fun g => g ≠ x) t.p t.c t.kids) (hf : Fr [x] w0 V) (h : V.heap[x]? = some (.cells (wkc n 0) 70 (0, 0))) (hn : n ≤ 4096) (htx : t.text.size ≤ 140737488355328)
    (hK : ∀ u ∈ t.kids, ∀ (U : World) (m : Nat), Fr [x] w0 U → U.heap[x]? = some (.cells (wkc m 0) 70 (0, 0)) → m ≤ 4096 → Calls Tryz.prog 45 #[.pointer (some ⟨x, 0, none⟩), .agg #[.int .i64 u.kind, .string u.text, .int .i64 u.num, u.items], .bool false] U fun e w' => LtP U x (lit1 false u m) e w') :
    Calls Tryz.prog 45 #[.pointer (some ⟨x, 0, none⟩), .agg #[.int .i64 t.kind, .string t.text, .int .i64 t.num, t.items], .bool top] V fun e w' => LtP V x (lit1 top t n) e w' := by
  have hkl : t.kids.length ≤ 2513169434916 := by
    cases hk with
    | mk _ _ _ nil at_ short txt kids => exact short
  have hat : 0 < t.kids.length → ∃ g off, t.p = some ⟨g, off, none⟩ ∧ g < w0.heap.size ∧ ∀ w', Fr [x] w0 w' → ∀ i u, t.kids[i]? = some u → LitAt w' g (off + i * 4) u := by
    cases hk with
    | mk _ _ _ nil at_ short txt kids =>
      intro h0
      obtain ⟨g, off, e, hg, hne, hc⟩ := at_ h0
      refine ⟨g, off, e, hg, fun w' f i u hu => ?_⟩
      have hn : g ∉ [x] := by simpa using hne
      have hl := hc i u hu
      exact ⟨(f.cell (p := ⟨g, off + i * 4, none⟩) hg hn).trans hl.c0, (f.cell (p := ⟨g, off + i * 4 + 1, none⟩) hg hn).trans hl.c1, (f.cell (p := ⟨g, off + i * 4 + 2, none⟩) hg hn).trans hl.c2, (f.cell (p := ⟨g, off + i * 4 + 3, none⟩) hg hn).trans hl.c3⟩
  have hxl := lt_of_heap h
  obtain ⟨R, hR⟩ : ∃ R, lit1 top t n = R := ⟨_, rfl⟩
  rw [hR]
  obtain ⟨V1, hV1⟩ : ∃ U, V.alloc (.cells #[.int .i64 t.kind, .string t.text, .int .i64 t.num, .slice t.p t.kids.length t.c] 49) = U := ⟨_, rfl⟩
  have hb : V1.heap[V.heap.size]? = some (.cells #[.int .i64 t.kind, .string t.text, .int .i64 t.num, .slice t.p t.kids.length t.c] 49 (0, 0)) := by rw [← hV1]; exact heap_alloc_new V _
  have f1 : Fr [] V V1 := by rw [← hV1]; exact Fr.alloc [] V _
  have hx1 := f1.hb h
  have c1 : V1.cell? ⟨x, 1, none⟩ = some (.int .i64 0) := cell_in hx1 1
  have c0 : V1.cell? ⟨x, 0, none⟩ = some (.int .i64 (n : Int)) := cell_in hx1 0
  have z0 := frozen_in hx1 0
  have k0 : V1.cell? ⟨V.heap.size, 0, none⟩ = some (.int .i64 t.kind) := cell_in hb 0
  have k1' : V1.cell? ⟨V.heap.size, 1, none⟩ = some (.string t.text) := cell_in hb 1
  have k2' : V1.cell? ⟨V.heap.size, 2, none⟩ = some (.int .i64 t.num) := cell_in hb 2
  have k3' : V1.cell? ⟨V.heap.size, 3, none⟩ = some (.slice t.p t.kids.length t.c) := cell_in hb 3
  have nx1 : ¬ x = V.heap.size := by omega
  have nx2 : ¬ V.heap.size = x := by omega
  have HFl : Hid (Calls Tryz.prog 62 #[.pointer (some ⟨x, 0, none⟩), .int .i64 120] V1 fun en w' => en = .returned (.tuple #[]) ∧ LtP V x (120, n) (.returned (.tuple #[])) w') := (rfails_ok x n 120 V1 hx1).mono (by
    rintro e w' ⟨rfl, f, hh⟩
    exact ⟨rfl, rfl, (f1.mono (by simp)).trans f (fun b hb => .inl hb), hh⟩)
  have hx2 : (V1.setCell ⟨x, 0, none⟩ (.int .i64 ((n : Int) + 1))).heap[x]? = some (.cells (wkc (n + 1) 0) 70 (0, 0)) := by rw [set_in hx1 0 _]; rfl
  have f2 : Fr [x] V1 (V1.setCell ⟨x, 0, none⟩ (.int .i64 ((n : Int) + 1))) := Fr.setCell (S := [x]) V1 ⟨x, 0, none⟩ _ (by simp)
  have HFb : Hid (Calls Tryz.prog 62 #[.pointer (some ⟨x, 0, none⟩), .int .i64 73] (V1.setCell ⟨x, 0, none⟩ (.int .i64 ((n : Int) + 1))) fun en w' => en = .returned (.tuple #[]) ∧ Hid (Fr [x] V1 w' ∧ w'.heap[x]? = some (.cells (wkc (n + 1) 73) 70 (0, 0)))) := (rfails_ok x (n + 1) 73 _ hx2).mono (by
    rintro e w' ⟨rfl, f, hh⟩
    exact ⟨rfl, f2.trans f (fun b hb => .inl hb), hh⟩)
  have HS0 : Hid (Fr [x] V1 V1 ∧ V1.heap[x]? = some (.cells (wkc n 0) 70 (0, 0))) := ⟨Fr.refl _ _, hx1⟩
  have HS1 : Hid (Fr [x] V1 (V1.setCell ⟨x, 0, none⟩ (.int .i64 ((n : Int) + 1))) ∧ (V1.setCell ⟨x, 0, none⟩ (.int .i64 ((n : Int) + 1))).heap[x]? = some (.cells (wkc (n + 1) 0) 70 (0, 0))) := ⟨f2, hx2⟩
  have HEnd : Hid (∀ w' Q, Fr [x] V1 w' → w'.heap[x]? = some (.cells (wkc Q.2 Q.1) 70 (0, 0)) → Q = R → LtP V x R (.returned (.tuple #[])) w') := fun w' Q f hh e => ⟨rfl, (f1.mono (by simp)).trans f (fun b hb => .inl hb), by rw [← e]; exact hh⟩
  have HBx : Hid (∀ w', Fr [x] V1 w' → w'.cell? ⟨V.heap.size, 3, none⟩ = some (.slice t.p t.kids.length t.c)) := fun w' f => cell_in ((f.block _ (lt_of_heap hb) (by simp; omega)).trans hb) 3
  have HW0 : Hid (∀ w', Fr [x] V1 w' → Fr [x] w0 w') := fun w' f => (hf.trans f1 (by simp)).trans f (by simp)
  have HRR := mkHid hR
  have HAt := mkHid hat
  have HK := mkHid hK
  have HNo : Hid (∀ (u : LitT) (U : World) (m : Nat) (er : Int), er ≠ 0 → U.heap[x]? = some (.cells (wkc m er) 70 (0, 0)) → Calls Tryz.prog 45 #[.pointer (some ⟨x, 0, none⟩), .agg #[.int .i64 u.kind, .string u.text, .int .i64 u.num, u.items], .bool false] U fun e w' => LtP U x (er, m) e w') := fun u U m er he hh => literal_no x m er he u false U hh
  have hV2 := hV1
  clear h hk hf hK hR hb f1 hx1 hat f2 hx2
  unfold LitT.items at HK HNo ⊢
  have hwn : IntKind.i64.wrap ((n : Int) + 1) = (n : Int) + 1 := iwrap_id (by omega) (by omega)
  have hkk : t.kind = 1 ∨ t.kind = 3 ∨ t.kind = 2 ∨ t.kind = 5 ∨ t.kind = 6 ∨ t.kind = 7 ∨ t.kind = 4 ∨ (t.kind ≠ 1 ∧ t.kind ≠ 3 ∧ t.kind ≠ 2 ∧ t.kind ≠ 5 ∧ t.kind ≠ 6 ∧ t.kind ≠ 7 ∧ t.kind ≠ 4) := by omega
  rcases hkk with hk | hk | hk | hk | hk | hk | hk | ⟨k1, k3, k2, k5, k6, k7, k4⟩
  · rw [hk] at hV1 k0
    rw [hk]
    cases top
    · cases hte : t.text.toList.isEmpty
      · have HRe : Hid ((120, n) = R) := by rw [← HRR.out]; show _ = _; unfold lit1; rw [if_pos (by simp [okB, topB, mayB, hk, hte])]
        clear HRR HK HNo HAt HS0 HS1 HEnd HBx HW0 HFb
        rw [← HRe.out]
        go_enter Tryz.func45, Tryz.ntmps45
        go_wp2_with fail
        try rw [hV1]
        refine HFl.out.mono ?_
        rintro e w2 ⟨rfl, h2⟩
        have H2 := mkHid h2
        clear h2
        go_wp2_with fail
        go_end0
        exact H2.out
      · cases hlq : ((t.kids.length : Int) == 0)
        · have HRe : Hid ((120, n) = R) := by rw [← HRR.out]; show _ = _; unfold lit1; rw [if_pos (by simp [okB, topB, mayB, hk, hte, hlq])]
          clear HRR HK HNo HAt HS0 HS1 HEnd HBx HW0 HFb
          rw [← HRe.out]
          go_enter Tryz.func45, Tryz.ntmps45
          go_wp2_with fail
          try rw [hV1]
          refine HFl.out.mono ?_
          rintro e w2 ⟨rfl, h2⟩
          have H2 := mkHid h2
          clear h2
          go_wp2_with fail
          go_end0
          exact H2.out
        · have hga : ∀ m, gaT t m = gaL t.kids m := fun m => by rw [gaT_at, if_neg (by omega), show t.kids = [] from by simpa using hlq, gaL_nil]
          by_cases hbig : 4096 < n + 1
          · have q4 : decide ((4096 : Int) < (n : Int) + 1) = true := decide_eq_true (by omega)
            have HRe : Hid ((73, n + 1) = R) := by rw [← HRR.out]; show _ = _; unfold lit1; rw [if_neg (show ¬ okB false t = false by simp [okB, topB, mayB, hk, hte, hlq]), if_neg (by decide), if_pos hbig]
            clear HRR hbig hga
            go_enter Tryz.func45, Tryz.ntmps45
            go_wp2_with fail
            try rw [hV1]
            refine HFb.out.mono ?_
            rintro e w2 ⟨rfl, H2⟩
            go_wp2_with fail
            go_loopw [7] (fun q wr => ∃ i : Nat, i ≤ t.kids.length ∧ q = .int .i64 (i : Int) ∧ Hid (Fr [x] V1 wr ∧ ∃ m er, wr.heap[x]? = some (.cells (wkc m er) 70 (0, 0)) ∧ ((er = 0 ∧ m ≤ 4096 ∧ gaL (t.kids.drop i) m = R) ∨ (er ≠ 0 ∧ R = (er, m))))) (fun q _ => t.kids.length - (intOf q).toNat)
            case atStart => exact ⟨0, Nat.zero_le _, rfl, H2.out.1, n + 1, 73, H2.out.2, .inr ⟨by decide, HRe.out.symm⟩⟩
            case round =>
              obtain ⟨i, hi, rfl, hst⟩ := hrel
              have i0 : (0 : Int) ≤ (i : Int) := by omega
              obtain ⟨fr, m, er, hx, hcs⟩ := hst.out
              have b3 := HBx.out wr fr
              by_cases hlt : i < t.kids.length
              · have i1 : (i : Int) < (t.kids.length : Int) := by omega
                obtain ⟨u, hu⟩ : ∃ u, t.kids[i]? = some u := ⟨_, List.getElem?_eq_getElem hlt⟩
                obtain ⟨g, off, hp, hg, hla⟩ := HAt.out (by omega)
                rw [hp] at b3
                obtain ⟨y0, y1, y2, y3'⟩ := hla _ (HW0.out wr fr) i u hu
                have y3 : wr.cell? ⟨g, off + i * 4 + 3, none⟩ = some (.slice u.p u.kids.length u.c) := y3'
                clear y3'
                have HC : Hid (Calls Tryz.prog 45 #[.pointer (some ⟨x, 0, none⟩), .agg #[.int .i64 u.kind, .string u.text, .int .i64 u.num, .slice u.p u.kids.length u.c], .bool false] wr fun e w' => e = .returned (.tuple #[]) ∧ Hid (Fr [x] V1 w' ∧ ∃ m er, w'.heap[x]? = some (.cells (wkc m er) 70 (0, 0)) ∧ ((er = 0 ∧ m ≤ 4096 ∧ gaL (t.kids.drop (i + 1)) m = R) ∨ (er ≠ 0 ∧ R = (er, m))))) := by
                  rcases hcs with ⟨rfl, hm, hr⟩ | ⟨he, hr⟩
                  · refine (HK.out u (List.mem_of_getElem? hu) wr m (HW0.out wr fr) hx hm).mono ?_
                    rintro e w' ⟨rfl, f, hh⟩
                    rw [drop_at hu, gaL_lit] at hr
                    refine ⟨rfl, fr.trans f (fun b hb => .inl hb), _, _, hh, ?_⟩
                    by_cases hz : (lit1 false u m).1 = 0
                    · rw [if_neg (by simpa using hz)] at hr
                      exact .inl ⟨hz, lit1_le u m hm hz, hr⟩
                    · rw [if_pos hz] at hr
                      exact .inr ⟨hz, hr.symm⟩
                  · refine (HNo.out u wr m er he hx).mono ?_
                    rintro e w' ⟨rfl, f, hh⟩
                    exact ⟨rfl, fr.trans f (fun b hb => .inl hb), _, _, hh, .inr ⟨he, hr⟩⟩
                clear hst fr hx hcs hla hp hg
                go_wp2_with fail
                refine HC.out.mono ?_
                rintro e w2 ⟨rfl, H2⟩
                go_wp2_with fail
                go_roundw
                case rel => exact ⟨i + 1, by omega, by go_num, H2.out⟩
                case measure => simp [intOf]; omega
              · have hie : i = t.kids.length := by omega
                subst hie
                have HX : Hid (LtP V x R (.returned (.tuple #[])) wr) := by
                  rcases hcs with ⟨rfl, hm, hr⟩ | ⟨he, hr⟩
                  · rw [List.drop_eq_nil_of_le (Nat.le_refl _), gaL_nil] at hr
                    exact HEnd.out wr (0, m) fr hx hr
                  · exact HEnd.out wr (er, m) fr hx hr.symm
                clear hst fr hx hcs
                go_wp2_with fail
                go_end0
                exact HX.out
          · have q4 : decide ((4096 : Int) < (n : Int) + 1) = false := decide_eq_false (by omega)
            have HRe : Hid (gaL t.kids (n + 1) = R) := by rw [← HRR.out]; show _ = _; unfold lit1; rw [if_neg (show ¬ okB false t = false by simp [okB, topB, mayB, hk, hte, hlq]), if_neg (by decide), if_neg hbig, hga]
            clear HRR hga
            go_enter Tryz.func45, Tryz.ntmps45
            go_wp2_with fail
            try rw [hV1]
            go_loopw [7] (fun q wr => ∃ i : Nat, i ≤ t.kids.length ∧ q = .int .i64 (i : Int) ∧ Hid (Fr [x] V1 wr ∧ ∃ m er, wr.heap[x]? = some (.cells (wkc m er) 70 (0, 0)) ∧ ((er = 0 ∧ m ≤ 4096 ∧ gaL (t.kids.drop i) m = R) ∨ (er ≠ 0 ∧ R = (er, m))))) (fun q _ => t.kids.length - (intOf q).toNat)
            case atStart => exact ⟨0, Nat.zero_le _, rfl, HS1.out.1, n + 1, 0, HS1.out.2, .inl ⟨rfl, by omega, by rw [List.drop_zero]; exact HRe.out⟩⟩
            case round =>
              obtain ⟨i, hi, rfl, hst⟩ := hrel
              have i0 : (0 : Int) ≤ (i : Int) := by omega
              obtain ⟨fr, m, er, hx, hcs⟩ := hst.out
              have b3 := HBx.out wr fr
              by_cases hlt : i < t.kids.length
              · have i1 : (i : Int) < (t.kids.length : Int) := by omega
                obtain ⟨u, hu⟩ : ∃ u, t.kids[i]? = some u := ⟨_, List.getElem?_eq_getElem hlt⟩
                obtain ⟨g, off, hp, hg, hla⟩ := HAt.out (by omega)
                rw [hp] at b3
                obtain ⟨y0, y1, y2, y3'⟩ := hla _ (HW0.out wr fr) i u hu
                have y3 : wr.cell? ⟨g, off + i * 4 + 3, none⟩ = some (.slice u.p u.kids.length u.c) := y3'
                clear y3'
                have HC : Hid (Calls Tryz.prog 45 #[.pointer (some ⟨x, 0, none⟩), .agg #[.int .i64 u.kind, .string u.text, .int .i64 u.num, .slice u.p u.kids.length u.c], .bool false] wr fun e w' => e = .returned (.tuple #[]) ∧ Hid (Fr [x] V1 w' ∧ ∃ m er, w'.heap[x]? = some (.cells (wkc m er) 70 (0, 0)) ∧ ((er = 0 ∧ m ≤ 4096 ∧ gaL (t.kids.drop (i + 1)) m = R) ∨ (er ≠ 0 ∧ R = (er, m))))) := by
                  rcases hcs with ⟨rfl, hm, hr⟩ | ⟨he, hr⟩
                  · refine (HK.out u (List.mem_of_getElem? hu) wr m (HW0.out wr fr) hx hm).mono ?_
                    rintro e w' ⟨rfl, f, hh⟩
                    rw [drop_at hu, gaL_lit] at hr
                    refine ⟨rfl, fr.trans f (fun b hb => .inl hb), _, _, hh, ?_⟩
                    by_cases hz : (lit1 false u m).1 = 0
                    · rw [if_neg (by simpa using hz)] at hr
                      exact .inl ⟨hz, lit1_le u m hm hz, hr⟩
                    · rw [if_pos hz] at hr
                      exact .inr ⟨hz, hr.symm⟩
                  · refine (HNo.out u wr m er he hx).mono ?_
                    rintro e w' ⟨rfl, f, hh⟩
                    exact ⟨rfl, fr.trans f (fun b hb => .inl hb), _, _, hh, .inr ⟨he, hr⟩⟩
                clear hst fr hx hcs hla hp hg
                go_wp2_with fail
                refine HC.out.mono ?_
                rintro e w2 ⟨rfl, H2⟩
                go_wp2_with fail
                go_roundw
                case rel => exact ⟨i + 1, by omega, by go_num, H2.out⟩
                case measure => simp [intOf]; omega
              · have hie : i = t.kids.length := by omega
                subst hie
                have HX : Hid (LtP V x R (.returned (.tuple #[])) wr) := by
                  rcases hcs with ⟨rfl, hm, hr⟩ | ⟨he, hr⟩
                  · rw [List.drop_eq_nil_of_le (Nat.le_refl _), gaL_nil] at hr
                    exact HEnd.out wr (0, m) fr hx hr
                  · exact HEnd.out wr (er, m) fr hx hr.symm
                clear hst fr hx hcs
                go_wp2_with fail
                go_end0
                exact HX.out
    · have HRe : Hid ((120, n) = R) := by rw [← HRR.out]; show _ = _; unfold lit1; rw [if_pos (by simp [okB, topB, mayB, hk])]
      clear HRR HK HNo HAt HS0 HS1 HEnd HBx HW0 HFb
      rw [← HRe.out]
      go_enter Tryz.func45, Tryz.ntmps45
      go_wp2_with fail
      try rw [hV1]
      refine HFl.out.mono ?_
      rintro e w2 ⟨rfl, h2⟩
      have H2 := mkHid h2
      clear h2
      go_wp2_with fail
      go_end0
      exact H2.out
  · rw [hk] at hV1 k0
    rw [hk]
    cases top
    · cases hte : t.text.toList.isEmpty
      · have HRe : Hid ((120, n) = R) := by rw [← HRR.out]; show _ = _; unfold lit1; rw [if_pos (by simp [okB, topB, mayB, hk, hte])]
        clear HRR HK HNo HAt HS0 HS1 HEnd HBx HW0 HFb
        rw [← HRe.out]
        go_enter Tryz.func45, Tryz.ntmps45
        go_wp2_with fail
        try rw [hV1]
        refine HFl.out.mono ?_
        rintro e w2 ⟨rfl, h2⟩
        have H2 := mkHid h2
        clear h2
        go_wp2_with fail
        go_end0
        exact H2.out
      · cases hlq : ((t.kids.length : Int) == 0)
        · have HRe : Hid ((120, n) = R) := by rw [← HRR.out]; show _ = _; unfold lit1; rw [if_pos (by simp [okB, topB, mayB, hk, hte, hlq])]
          clear HRR HK HNo HAt HS0 HS1 HEnd HBx HW0 HFb
          rw [← HRe.out]
          go_enter Tryz.func45, Tryz.ntmps45
          go_wp2_with fail
          try rw [hV1]
          refine HFl.out.mono ?_
          rintro e w2 ⟨rfl, h2⟩
          have H2 := mkHid h2
          clear h2
          go_wp2_with fail
          go_end0
          exact H2.out
        · have hga : ∀ m, gaT t m = gaL t.kids m := fun m => by rw [gaT_at, if_neg (by omega), show t.kids = [] from by simpa using hlq, gaL_nil]
          by_cases hbig : 4096 < n + 1
          · have q4 : decide ((4096 : Int) < (n : Int) + 1) = true := decide_eq_true (by omega)
            have HRe : Hid ((73, n + 1) = R) := by rw [← HRR.out]; show _ = _; unfold lit1; rw [if_neg (show ¬ okB false t = false by simp [okB, topB, mayB, hk, hte, hlq]), if_neg (by decide), if_pos hbig]
            clear HRR hbig hga
            go_enter Tryz.func45, Tryz.ntmps45
            go_wp2_with fail
            try rw [hV1]
            refine HFb.out.mono ?_
            rintro e w2 ⟨rfl, H2⟩
            go_wp2_with fail
            go_loopw [7] (fun q wr => ∃ i : Nat, i ≤ t.kids.length ∧ q = .int .i64 (i : Int) ∧ Hid (Fr [x] V1 wr ∧ ∃ m er, wr.heap[x]? = some (.cells (wkc m er) 70 (0, 0)) ∧ ((er = 0 ∧ m ≤ 4096 ∧ gaL (t.kids.drop i) m = R) ∨ (er ≠ 0 ∧ R = (er, m))))) (fun q _ => t.kids.length - (intOf q).toNat)
            case atStart => exact ⟨0, Nat.zero_le _, rfl, H2.out.1, n + 1, 73, H2.out.2, .inr ⟨by decide, HRe.out.symm⟩⟩
            case round =>
              obtain ⟨i, hi, rfl, hst⟩ := hrel
              have i0 : (0 : Int) ≤ (i : Int) := by omega
              obtain ⟨fr, m, er, hx, hcs⟩ := hst.out
              have b3 := HBx.out wr fr
              by_cases hlt : i < t.kids.length
              · have i1 : (i : Int) < (t.kids.length : Int) := by omega
                obtain ⟨u, hu⟩ : ∃ u, t.kids[i]? = some u := ⟨_, List.getElem?_eq_getElem hlt⟩
                obtain ⟨g, off, hp, hg, hla⟩ := HAt.out (by omega)
                rw [hp] at b3
                obtain ⟨y0, y1, y2, y3'⟩ := hla _ (HW0.out wr fr) i u hu
                have y3 : wr.cell? ⟨g, off + i * 4 + 3, none⟩ = some (.slice u.p u.kids.length u.c) := y3'
                clear y3'
                have HC : Hid (Calls Tryz.prog 45 #[.pointer (some ⟨x, 0, none⟩), .agg #[.int .i64 u.kind, .string u.text, .int .i64 u.num, .slice u.p u.kids.length u.c], .bool false] wr fun e w' => e = .returned (.tuple #[]) ∧ Hid (Fr [x] V1 w' ∧ ∃ m er, w'.heap[x]? = some (.cells (wkc m er) 70 (0, 0)) ∧ ((er = 0 ∧ m ≤ 4096 ∧ gaL (t.kids.drop (i + 1)) m = R) ∨ (er ≠ 0 ∧ R = (er, m))))) := by
                  rcases hcs with ⟨rfl, hm, hr⟩ | ⟨he, hr⟩
                  · refine (HK.out u (List.mem_of_getElem? hu) wr m (HW0.out wr fr) hx hm).mono ?_
                    rintro e w' ⟨rfl, f, hh⟩
                    rw [drop_at hu, gaL_lit] at hr
                    refine ⟨rfl, fr.trans f (fun b hb => .inl hb), _, _, hh, ?_⟩
                    by_cases hz : (lit1 false u m).1 = 0
                    · rw [if_neg (by simpa using hz)] at hr
                      exact .inl ⟨hz, lit1_le u m hm hz, hr⟩
                    · rw [if_pos hz] at hr
                      exact .inr ⟨hz, hr.symm⟩
                  · refine (HNo.out u wr m er he hx).mono ?_
                    rintro e w' ⟨rfl, f, hh⟩
                    exact ⟨rfl, fr.trans f (fun b hb => .inl hb), _, _, hh, .inr ⟨he, hr⟩⟩
                clear hst fr hx hcs hla hp hg
                go_wp2_with fail
                refine HC.out.mono ?_
                rintro e w2 ⟨rfl, H2⟩
                go_wp2_with fail
                go_roundw
                case rel => exact ⟨i + 1, by omega, by go_num, H2.out⟩
                case measure => simp [intOf]; omega
              · have hie : i = t.kids.length := by omega
                subst hie
                have HX : Hid (LtP V x R (.returned (.tuple #[])) wr) := by
                  rcases hcs with ⟨rfl, hm, hr⟩ | ⟨he, hr⟩
                  · rw [List.drop_eq_nil_of_le (Nat.le_refl _), gaL_nil] at hr
                    exact HEnd.out wr (0, m) fr hx hr
                  · exact HEnd.out wr (er, m) fr hx hr.symm
                clear hst fr hx hcs
                go_wp2_with fail
                go_end0
                exact HX.out
          · have q4 : decide ((4096 : Int) < (n : Int) + 1) = false := decide_eq_false (by omega)
            have HRe : Hid (gaL t.kids (n + 1) = R) := by rw [← HRR.out]; show _ = _; unfold lit1; rw [if_neg (show ¬ okB false t = false by simp [okB, topB, mayB, hk, hte, hlq]), if_neg (by decide), if_neg hbig, hga]
            clear HRR hga
            go_enter Tryz.func45, Tryz.ntmps45
            go_wp2_with fail
            try rw [hV1]
            go_loopw [7] (fun q wr => ∃ i : Nat, i ≤ t.kids.length ∧ q = .int .i64 (i : Int) ∧ Hid (Fr [x] V1 wr ∧ ∃ m er, wr.heap[x]? = some (.cells (wkc m er) 70 (0, 0)) ∧ ((er = 0 ∧ m ≤ 4096 ∧ gaL (t.kids.drop i) m = R) ∨ (er ≠ 0 ∧ R = (er, m))))) (fun q _ => t.kids.length - (intOf q).toNat)
            case atStart => exact ⟨0, Nat.zero_le _, rfl, HS1.out.1, n + 1, 0, HS1.out.2, .inl ⟨rfl, by omega, by rw [List.drop_zero]; exact HRe.out⟩⟩
            case round =>
              obtain ⟨i, hi, rfl, hst⟩ := hrel
              have i0 : (0 : Int) ≤ (i : Int) := by omega
              obtain ⟨fr, m, er, hx, hcs⟩ := hst.out
              have b3 := HBx.out wr fr
              by_cases hlt : i < t.kids.length
              · have i1 : (i : Int) < (t.kids.length : Int) := by omega
                obtain ⟨u, hu⟩ : ∃ u, t.kids[i]? = some u := ⟨_, List.getElem?_eq_getElem hlt⟩
                obtain ⟨g, off, hp, hg, hla⟩ := HAt.out (by omega)
                rw [hp] at b3
                obtain ⟨y0, y1, y2, y3'⟩ := hla _ (HW0.out wr fr) i u hu
                have y3 : wr.cell? ⟨g, off + i * 4 + 3, none⟩ = some (.slice u.p u.kids.length u.c) := y3'
                clear y3'
                have HC : Hid (Calls Tryz.prog 45 #[.pointer (some ⟨x, 0, none⟩), .agg #[.int .i64 u.kind, .string u.text, .int .i64 u.num, .slice u.p u.kids.length u.c], .bool false] wr fun e w' => e = .returned (.tuple #[]) ∧ Hid (Fr [x] V1 w' ∧ ∃ m er, w'.heap[x]? = some (.cells (wkc m er) 70 (0, 0)) ∧ ((er = 0 ∧ m ≤ 4096 ∧ gaL (t.kids.drop (i + 1)) m = R) ∨ (er ≠ 0 ∧ R = (er, m))))) := by
                  rcases hcs with ⟨rfl, hm, hr⟩ | ⟨he, hr⟩
                  · refine (HK.out u (List.mem_of_getElem? hu) wr m (HW0.out wr fr) hx hm).mono ?_
                    rintro e w' ⟨rfl, f, hh⟩
                    rw [drop_at hu, gaL_lit] at hr
                    refine ⟨rfl, fr.trans f (fun b hb => .inl hb), _, _, hh, ?_⟩
                    by_cases hz : (lit1 false u m).1 = 0
                    · rw [if_neg (by simpa using hz)] at hr
                      exact .inl ⟨hz, lit1_le u m hm hz, hr⟩
                    · rw [if_pos hz] at hr
                      exact .inr ⟨hz, hr.symm⟩
                  · refine (HNo.out u wr m er he hx).mono ?_
                    rintro e w' ⟨rfl, f, hh⟩
                    exact ⟨rfl, fr.trans f (fun b hb => .inl hb), _, _, hh, .inr ⟨he, hr⟩⟩
                clear hst fr hx hcs hla hp hg
                go_wp2_with fail
                refine HC.out.mono ?_
                rintro e w2 ⟨rfl, H2⟩
                go_wp2_with fail
                go_roundw
                case rel => exact ⟨i + 1, by omega, by go_num, H2.out⟩
                case measure => simp [intOf]; omega
              · have hie : i = t.kids.length := by omega
                subst hie
                have HX : Hid (LtP V x R (.returned (.tuple #[])) wr) := by
                  rcases hcs with ⟨rfl, hm, hr⟩ | ⟨he, hr⟩
                  · rw [List.drop_eq_nil_of_le (Nat.le_refl _), gaL_nil] at hr
                    exact HEnd.out wr (0, m) fr hx hr
                  · exact HEnd.out wr (er, m) fr hx hr.symm
                clear hst fr hx hcs
                go_wp2_with fail
                go_end0
                exact HX.out
    · have HRe : Hid ((120, n) = R) := by rw [← HRR.out]; show _ = _; unfold lit1; rw [if_pos (by simp [okB, topB, mayB, hk])]
      clear HRR HK HNo HAt HS0 HS1 HEnd HBx HW0 HFb
      rw [← HRe.out]
      go_enter Tryz.func45, Tryz.ntmps45
      go_wp2_with fail
      try rw [hV1]
      refine HFl.out.mono ?_
      rintro e w2 ⟨rfl, h2⟩
      have H2 := mkHid h2
      clear h2
      go_wp2_with fail
      go_end0
      exact H2.out
  · rw [hk] at hV1 k0
    rw [hk]
    cases top
    · cases hsq : decide ((t.text.size : Int) ≤ 256)
      · have HRe : Hid ((120, n) = R) := by rw [← HRR.out]; show _ = _; unfold lit1; rw [if_pos (by simp [okB, topB, mayB, hk, hsq])]
        clear HRR HK HNo HAt HS0 HS1 HEnd HBx HW0 HFb
        rw [← HRe.out]
        go_enter Tryz.func45, Tryz.ntmps45
        go_wp2_with fail
        try rw [hV1]
        refine HFl.out.mono ?_
        rintro e w2 ⟨rfl, h2⟩
        have H2 := mkHid h2
        clear h2
        go_wp2_with fail
        go_end0
        exact H2.out
      · cases hnq : (t.num == 0)
        · have HRe : Hid ((120, n) = R) := by rw [← HRR.out]; show _ = _; unfold lit1; rw [if_pos (by simp [okB, topB, mayB, hk, hsq, hnq])]
          clear HRR HK HNo HAt HS0 HS1 HEnd HBx HW0 HFb
          rw [← HRe.out]
          go_enter Tryz.func45, Tryz.ntmps45
          go_wp2_with fail
          try rw [hV1]
          refine HFl.out.mono ?_
          rintro e w2 ⟨rfl, h2⟩
          have H2 := mkHid h2
          clear h2
          go_wp2_with fail
          go_end0
          exact H2.out
        · cases hlq : ((t.kids.length : Int) == 0)
          · have HRe : Hid ((120, n) = R) := by rw [← HRR.out]; show _ = _; unfold lit1; rw [if_pos (by simp [okB, topB, mayB, hk, hsq, hnq, hlq])]
            clear HRR HK HNo HAt HS0 HS1 HEnd HBx HW0 HFb
            rw [← HRe.out]
            go_enter Tryz.func45, Tryz.ntmps45
            go_wp2_with fail
            try rw [hV1]
            refine HFl.out.mono ?_
            rintro e w2 ⟨rfl, h2⟩
            have H2 := mkHid h2
            clear h2
            go_wp2_with fail
            go_end0
            exact H2.out
          · have hga : ∀ m, gaT t m = gaL t.kids m := fun m => by rw [gaT_at, if_neg (by omega), show t.kids = [] from by simpa using hlq, gaL_nil]
            by_cases hbig : 4096 < n + 1
            · have q4 : decide ((4096 : Int) < (n : Int) + 1) = true := decide_eq_true (by omega)
              have HRe : Hid ((73, n + 1) = R) := by rw [← HRR.out]; show _ = _; unfold lit1; rw [if_neg (show ¬ okB false t = false by simp [okB, topB, mayB, hk, hsq, hnq, hlq]), if_neg (by decide), if_pos hbig]
              clear HRR hbig hga
              go_enter Tryz.func45, Tryz.ntmps45
              go_wp2_with fail
              try rw [hV1]
              refine HFb.out.mono ?_
              rintro e w2 ⟨rfl, H2⟩
              go_wp2_with fail
              go_loopw [7] (fun q wr => ∃ i : Nat, i ≤ t.kids.length ∧ q = .int .i64 (i : Int) ∧ Hid (Fr [x] V1 wr ∧ ∃ m er, wr.heap[x]? = some (.cells (wkc m er) 70 (0, 0)) ∧ ((er = 0 ∧ m ≤ 4096 ∧ gaL (t.kids.drop i) m = R) ∨ (er ≠ 0 ∧ R = (er, m))))) (fun q _ => t.kids.length - (intOf q).toNat)
              case atStart => exact ⟨0, Nat.zero_le _, rfl, H2.out.1, n + 1, 73, H2.out.2, .inr ⟨by decide, HRe.out.symm⟩⟩
              case round =>
                obtain ⟨i, hi, rfl, hst⟩ := hrel
                have i0 : (0 : Int) ≤ (i : Int) := by omega
                obtain ⟨fr, m, er, hx, hcs⟩ := hst.out
                have b3 := HBx.out wr fr
                by_cases hlt : i < t.kids.length
                · have i1 : (i : Int) < (t.kids.length : Int) := by omega
                  obtain ⟨u, hu⟩ : ∃ u, t.kids[i]? = some u := ⟨_, List.getElem?_eq_getElem hlt⟩
                  obtain ⟨g, off, hp, hg, hla⟩ := HAt.out (by omega)
                  rw [hp] at b3
                  obtain ⟨y0, y1, y2, y3'⟩ := hla _ (HW0.out wr fr) i u hu
                  have y3 : wr.cell? ⟨g, off + i * 4 + 3, none⟩ = some (.slice u.p u.kids.length u.c) := y3'
                  clear y3'
                  have HC : Hid (Calls Tryz.prog 45 #[.pointer (some ⟨x, 0, none⟩), .agg #[.int .i64 u.kind, .string u.text, .int .i64 u.num, .slice u.p u.kids.length u.c], .bool false] wr fun e w' => e = .returned (.tuple #[]) ∧ Hid (Fr [x] V1 w' ∧ ∃ m er, w'.heap[x]? = some (.cells (wkc m er) 70 (0, 0)) ∧ ((er = 0 ∧ m ≤ 4096 ∧ gaL (t.kids.drop (i + 1)) m = R) ∨ (er ≠ 0 ∧ R = (er, m))))) := by
                    rcases hcs with ⟨rfl, hm, hr⟩ | ⟨he, hr⟩
                    · refine (HK.out u (List.mem_of_getElem? hu) wr m (HW0.out wr fr) hx hm).mono ?_
                      rintro e w' ⟨rfl, f, hh⟩
                      rw [drop_at hu, gaL_lit] at hr
                      refine ⟨rfl, fr.trans f (fun b hb => .inl hb), _, _, hh, ?_⟩
                      by_cases hz : (lit1 false u m).1 = 0
                      · rw [if_neg (by simpa using hz)] at hr
                        exact .inl ⟨hz, lit1_le u m hm hz, hr⟩
                      · rw [if_pos hz] at hr
                        exact .inr ⟨hz, hr.symm⟩
                    · refine (HNo.out u wr m er he hx).mono ?_
                      rintro e w' ⟨rfl, f, hh⟩
                      exact ⟨rfl, fr.trans f (fun b hb => .inl hb), _, _, hh, .inr ⟨he, hr⟩⟩
                  clear hst fr hx hcs hla hp hg
                  go_wp2_with fail
                  refine HC.out.mono ?_
                  rintro e w2 ⟨rfl, H2⟩
                  go_wp2_with fail
                  go_roundw
                  case rel => exact ⟨i + 1, by omega, by go_num, H2.out⟩
                  case measure => simp [intOf]; omega
                · have hie : i = t.kids.length := by omega
                  subst hie
                  have HX : Hid (LtP V x R (.returned (.tuple #[])) wr) := by
                    rcases hcs with ⟨rfl, hm, hr⟩ | ⟨he, hr⟩
                    · rw [List.drop_eq_nil_of_le (Nat.le_refl _), gaL_nil] at hr
                      exact HEnd.out wr (0, m) fr hx hr
                    · exact HEnd.out wr (er, m) fr hx hr.symm
                  clear hst fr hx hcs
                  go_wp2_with fail
                  go_end0
                  exact HX.out
            · have q4 : decide ((4096 : Int) < (n : Int) + 1) = false := decide_eq_false (by omega)
              have HRe : Hid (gaL t.kids (n + 1) = R) := by rw [← HRR.out]; show _ = _; unfold lit1; rw [if_neg (show ¬ okB false t = false by simp [okB, topB, mayB, hk, hsq, hnq, hlq]), if_neg (by decide), if_neg hbig, hga]
              clear HRR hga
              go_enter Tryz.func45, Tryz.ntmps45
              go_wp2_with fail
              try rw [hV1]
              go_loopw [7] (fun q wr => ∃ i : Nat, i ≤ t.kids.length ∧ q = .int .i64 (i : Int) ∧ Hid (Fr [x] V1 wr ∧ ∃ m er, wr.heap[x]? = some (.cells (wkc m er) 70 (0, 0)) ∧ ((er = 0 ∧ m ≤ 4096 ∧ gaL (t.kids.drop i) m = R) ∨ (er ≠ 0 ∧ R = (er, m))))) (fun q _ => t.kids.length - (intOf q).toNat)
              case atStart => exact ⟨0, Nat.zero_le _, rfl, HS1.out.1, n + 1, 0, HS1.out.2, .inl ⟨rfl, by omega, by rw [List.drop_zero]; exact HRe.out⟩⟩
              case round =>
                obtain ⟨i, hi, rfl, hst⟩ := hrel
                have i0 : (0 : Int) ≤ (i : Int) := by omega
                obtain ⟨fr, m, er, hx, hcs⟩ := hst.out
                have b3 := HBx.out wr fr
                by_cases hlt : i < t.kids.length
                · have i1 : (i : Int) < (t.kids.length : Int) := by omega
                  obtain ⟨u, hu⟩ : ∃ u, t.kids[i]? = some u := ⟨_, List.getElem?_eq_getElem hlt⟩
                  obtain ⟨g, off, hp, hg, hla⟩ := HAt.out (by omega)
                  rw [hp] at b3
                  obtain ⟨y0, y1, y2, y3'⟩ := hla _ (HW0.out wr fr) i u hu
                  have y3 : wr.cell? ⟨g, off + i * 4 + 3, none⟩ = some (.slice u.p u.kids.length u.c) := y3'
                  clear y3'
                  have HC : Hid (Calls Tryz.prog 45 #[.pointer (some ⟨x, 0, none⟩), .agg #[.int .i64 u.kind, .string u.text, .int .i64 u.num, .slice u.p u.kids.length u.c], .bool false] wr fun e w' => e = .returned (.tuple #[]) ∧ Hid (Fr [x] V1 w' ∧ ∃ m er, w'.heap[x]? = some (.cells (wkc m er) 70 (0, 0)) ∧ ((er = 0 ∧ m ≤ 4096 ∧ gaL (t.kids.drop (i + 1)) m = R) ∨ (er ≠ 0 ∧ R = (er, m))))) := by
                    rcases hcs with ⟨rfl, hm, hr⟩ | ⟨he, hr⟩
                    · refine (HK.out u (List.mem_of_getElem? hu) wr m (HW0.out wr fr) hx hm).mono ?_
                      rintro e w' ⟨rfl, f, hh⟩
                      rw [drop_at hu, gaL_lit] at hr
                      refine ⟨rfl, fr.trans f (fun b hb => .inl hb), _, _, hh, ?_⟩
                      by_cases hz : (lit1 false u m).1 = 0
                      · rw [if_neg (by simpa using hz)] at hr
                        exact .inl ⟨hz, lit1_le u m hm hz, hr⟩
                      · rw [if_pos hz] at hr
                        exact .inr ⟨hz, hr.symm⟩
                    · refine (HNo.out u wr m er he hx).mono ?_
                      rintro e w' ⟨rfl, f, hh⟩
                      exact ⟨rfl, fr.trans f (fun b hb => .inl hb), _, _, hh, .inr ⟨he, hr⟩⟩
                  clear hst fr hx hcs hla hp hg
                  go_wp2_with fail
                  refine HC.out.mono ?_
                  rintro e w2 ⟨rfl, H2⟩
                  go_wp2_with fail
                  go_roundw
                  case rel => exact ⟨i + 1, by omega, by go_num, H2.out⟩
                  case measure => simp [intOf]; omega
                · have hie : i = t.kids.length := by omega
                  subst hie
                  have HX : Hid (LtP V x R (.returned (.tuple #[])) wr) := by
                    rcases hcs with ⟨rfl, hm, hr⟩ | ⟨he, hr⟩
                    · rw [List.drop_eq_nil_of_le (Nat.le_refl _), gaL_nil] at hr
                      exact HEnd.out wr (0, m) fr hx hr
                    · exact HEnd.out wr (er, m) fr hx hr.symm
                  clear hst fr hx hcs
                  go_wp2_with fail
                  go_end0
                  exact HX.out
    · cases hsq : decide ((t.text.size : Int) ≤ 256)
      · have HRe : Hid ((120, n) = R) := by rw [← HRR.out]; show _ = _; unfold lit1; rw [if_pos (by simp [okB, topB, mayB, hk, hsq])]
        clear HRR HK HNo HAt HS0 HS1 HEnd HBx HW0 HFb
        rw [← HRe.out]
        go_enter Tryz.func45, Tryz.ntmps45
        go_wp2_with fail
        try rw [hV1]
        refine HFl.out.mono ?_
        rintro e w2 ⟨rfl, h2⟩
        have H2 := mkHid h2
        clear h2
        go_wp2_with fail
        go_end0
        exact H2.out
      · cases hnq : (t.num == 0)
        · have HRe : Hid ((120, n) = R) := by rw [← HRR.out]; show _ = _; unfold lit1; rw [if_pos (by simp [okB, topB, mayB, hk, hsq, hnq])]
          clear HRR HK HNo HAt HS0 HS1 HEnd HBx HW0 HFb
          rw [← HRe.out]
          go_enter Tryz.func45, Tryz.ntmps45
          go_wp2_with fail
          try rw [hV1]
          refine HFl.out.mono ?_
          rintro e w2 ⟨rfl, h2⟩
          have H2 := mkHid h2
          clear h2
          go_wp2_with fail
          go_end0
          exact H2.out
        · cases hlq : ((t.kids.length : Int) == 0)
          · have HRe : Hid ((120, n) = R) := by rw [← HRR.out]; show _ = _; unfold lit1; rw [if_pos (by simp [okB, topB, mayB, hk, hsq, hnq, hlq])]
            clear HRR HK HNo HAt HS0 HS1 HEnd HBx HW0 HFb
            rw [← HRe.out]
            go_enter Tryz.func45, Tryz.ntmps45
            go_wp2_with fail
            try rw [hV1]
            refine HFl.out.mono ?_
            rintro e w2 ⟨rfl, h2⟩
            have H2 := mkHid h2
            clear h2
            go_wp2_with fail
            go_end0
            exact H2.out
          · have hga : ∀ m, gaT t m = gaL t.kids m := fun m => by rw [gaT_at, if_neg (by omega), show t.kids = [] from by simpa using hlq, gaL_nil]
            have HRe : Hid (gaL t.kids n = R) := by rw [← HRR.out]; show _ = _; unfold lit1; rw [if_neg (show ¬ okB true t = false by simp [okB, topB, mayB, hk, hsq, hnq, hlq]), if_pos rfl, hga]
            clear HRR hga
            go_enter Tryz.func45, Tryz.ntmps45
            go_wp2_with fail
            try rw [hV1]
            go_loopw [7] (fun q wr => ∃ i : Nat, i ≤ t.kids.length ∧ q = .int .i64 (i : Int) ∧ Hid (Fr [x] V1 wr ∧ ∃ m er, wr.heap[x]? = some (.cells (wkc m er) 70 (0, 0)) ∧ ((er = 0 ∧ m ≤ 4096 ∧ gaL (t.kids.drop i) m = R) ∨ (er ≠ 0 ∧ R = (er, m))))) (fun q _ => t.kids.length - (intOf q).toNat)
            case atStart => exact ⟨0, Nat.zero_le _, rfl, HS0.out.1, n, 0, HS0.out.2, .inl ⟨rfl, hn, by rw [List.drop_zero]; exact HRe.out⟩⟩
            case round =>
              obtain ⟨i, hi, rfl, hst⟩ := hrel
              have i0 : (0 : Int) ≤ (i : Int) := by omega
              obtain ⟨fr, m, er, hx, hcs⟩ := hst.out
              have b3 := HBx.out wr fr
              by_cases hlt : i < t.kids.length
              · have i1 : (i : Int) < (t.kids.length : Int) := by omega
                obtain ⟨u, hu⟩ : ∃ u, t.kids[i]? = some u := ⟨_, List.getElem?_eq_getElem hlt⟩
                obtain ⟨g, off, hp, hg, hla⟩ := HAt.out (by omega)
                rw [hp] at b3
                obtain ⟨y0, y1, y2, y3'⟩ := hla _ (HW0.out wr fr) i u hu
                have y3 : wr.cell? ⟨g, off + i * 4 + 3, none⟩ = some (.slice u.p u.kids.length u.c) := y3'
                clear y3'
                have HC : Hid (Calls Tryz.prog 45 #[.pointer (some ⟨x, 0, none⟩), .agg #[.int .i64 u.kind, .string u.text, .int .i64 u.num, .slice u.p u.kids.length u.c], .bool false] wr fun e w' => e = .returned (.tuple #[]) ∧ Hid (Fr [x] V1 w' ∧ ∃ m er, w'.heap[x]? = some (.cells (wkc m er) 70 (0, 0)) ∧ ((er = 0 ∧ m ≤ 4096 ∧ gaL (t.kids.drop (i + 1)) m = R) ∨ (er ≠ 0 ∧ R = (er, m))))) := by
                  rcases hcs with ⟨rfl, hm, hr⟩ | ⟨he, hr⟩
                  · refine (HK.out u (List.mem_of_getElem? hu) wr m (HW0.out wr fr) hx hm).mono ?_
                    rintro e w' ⟨rfl, f, hh⟩
                    rw [drop_at hu, gaL_lit] at hr
                    refine ⟨rfl, fr.trans f (fun b hb => .inl hb), _, _, hh, ?_⟩
                    by_cases hz : (lit1 false u m).1 = 0
                    · rw [if_neg (by simpa using hz)] at hr
                      exact .inl ⟨hz, lit1_le u m hm hz, hr⟩
                    · rw [if_pos hz] at hr
                      exact .inr ⟨hz, hr.symm⟩
                  · refine (HNo.out u wr m er he hx).mono ?_
                    rintro e w' ⟨rfl, f, hh⟩
                    exact ⟨rfl, fr.trans f (fun b hb => .inl hb), _, _, hh, .inr ⟨he, hr⟩⟩
                clear hst fr hx hcs hla hp hg
                go_wp2_with fail
                refine HC.out.mono ?_
                rintro e w2 ⟨rfl, H2⟩
                go_wp2_with fail
                go_roundw
                case rel => exact ⟨i + 1, by omega, by go_num, H2.out⟩
                case measure => simp [intOf]; omega
              · have hie : i = t.kids.length := by omega
                subst hie
                have HX : Hid (LtP V x R (.returned (.tuple #[])) wr) := by
                  rcases hcs with ⟨rfl, hm, hr⟩ | ⟨he, hr⟩
                  · rw [List.drop_eq_nil_of_le (Nat.le_refl _), gaL_nil] at hr
                    exact HEnd.out wr (0, m) fr hx hr
                  · exact HEnd.out wr (er, m) fr hx hr.symm
                clear hst fr hx hcs
                go_wp2_with fail
                go_end0
                exact HX.out
  · rw [hk] at hV1 k0
    rw [hk]
    cases top
    · cases hte : t.text.toList.isEmpty
      · have HRe : Hid ((120, n) = R) := by rw [← HRR.out]; show _ = _; unfold lit1; rw [if_pos (by simp [okB, topB, mayB, hk, hte])]
        clear HRR HK HNo HAt HS0 HS1 HEnd HBx HW0 HFb
        rw [← HRe.out]
        go_enter Tryz.func45, Tryz.ntmps45
        go_wp2_with fail
        try rw [hV1]
        refine HFl.out.mono ?_
        rintro e w2 ⟨rfl, h2⟩
        have H2 := mkHid h2
        clear h2
        go_wp2_with fail
        go_end0
        exact H2.out
      · cases hnq : (t.num == 0)
        · have HRe : Hid ((120, n) = R) := by rw [← HRR.out]; show _ = _; unfold lit1; rw [if_pos (by simp [okB, topB, mayB, hk, hte, hnq])]
          clear HRR HK HNo HAt HS0 HS1 HEnd HBx HW0 HFb
          rw [← HRe.out]
          go_enter Tryz.func45, Tryz.ntmps45
          go_wp2_with fail
          try rw [hV1]
          refine HFl.out.mono ?_
          rintro e w2 ⟨rfl, h2⟩
          have H2 := mkHid h2
          clear h2
          go_wp2_with fail
          go_end0
          exact H2.out
        · cases hlq : ((t.kids.length : Int) == 0)
          · have HRe : Hid ((120, n) = R) := by rw [← HRR.out]; show _ = _; unfold lit1; rw [if_pos (by simp [okB, topB, mayB, hk, hte, hnq, hlq])]
            clear HRR HK HNo HAt HS0 HS1 HEnd HBx HW0 HFb
            rw [← HRe.out]
            go_enter Tryz.func45, Tryz.ntmps45
            go_wp2_with fail
            try rw [hV1]
            refine HFl.out.mono ?_
            rintro e w2 ⟨rfl, h2⟩
            have H2 := mkHid h2
            clear h2
            go_wp2_with fail
            go_end0
            exact H2.out
          · have hga : ∀ m, gaT t m = gaL t.kids m := fun m => by rw [gaT_at, if_neg (by omega), show t.kids = [] from by simpa using hlq, gaL_nil]
            by_cases hbig : 4096 < n + 1
            · have q4 : decide ((4096 : Int) < (n : Int) + 1) = true := decide_eq_true (by omega)
              have HRe : Hid ((73, n + 1) = R) := by rw [← HRR.out]; show _ = _; unfold lit1; rw [if_neg (show ¬ okB false t = false by simp [okB, topB, mayB, hk, hte, hnq, hlq]), if_neg (by decide), if_pos hbig]
              clear HRR hbig hga
              go_enter Tryz.func45, Tryz.ntmps45
              go_wp2_with fail
              try rw [hV1]
              refine HFb.out.mono ?_
              rintro e w2 ⟨rfl, H2⟩
              go_wp2_with fail
              go_loopw [7] (fun q wr => ∃ i : Nat, i ≤ t.kids.length ∧ q = .int .i64 (i : Int) ∧ Hid (Fr [x] V1 wr ∧ ∃ m er, wr.heap[x]? = some (.cells (wkc m er) 70 (0, 0)) ∧ ((er = 0 ∧ m ≤ 4096 ∧ gaL (t.kids.drop i) m = R) ∨ (er ≠ 0 ∧ R = (er, m))))) (fun q _ => t.kids.length - (intOf q).toNat)
              case atStart => exact ⟨0, Nat.zero_le _, rfl, H2.out.1, n + 1, 73, H2.out.2, .inr ⟨by decide, HRe.out.symm⟩⟩
              case round =>
                obtain ⟨i, hi, rfl, hst⟩ := hrel
                have i0 : (0 : Int) ≤ (i : Int) := by omega
                obtain ⟨fr, m, er, hx, hcs⟩ := hst.out
                have b3 := HBx.out wr fr
                by_cases hlt : i < t.kids.length
                · have i1 : (i : Int) < (t.kids.length : Int) := by omega
                  obtain ⟨u, hu⟩ : ∃ u, t.kids[i]? = some u := ⟨_, List.getElem?_eq_getElem hlt⟩
                  obtain ⟨g, off, hp, hg, hla⟩ := HAt.out (by omega)
                  rw [hp] at b3
                  obtain ⟨y0, y1, y2, y3'⟩ := hla _ (HW0.out wr fr) i u hu
                  have y3 : wr.cell? ⟨g, off + i * 4 + 3, none⟩ = some (.slice u.p u.kids.length u.c) := y3'
                  clear y3'
                  have HC : Hid (Calls Tryz.prog 45 #[.pointer (some ⟨x, 0, none⟩), .agg #[.int .i64 u.kind, .string u.text, .int .i64 u.num, .slice u.p u.kids.length u.c], .bool false] wr fun e w' => e = .returned (.tuple #[]) ∧ Hid (Fr [x] V1 w' ∧ ∃ m er, w'.heap[x]? = some (.cells (wkc m er) 70 (0, 0)) ∧ ((er = 0 ∧ m ≤ 4096 ∧ gaL (t.kids.drop (i + 1)) m = R) ∨ (er ≠ 0 ∧ R = (er, m))))) := by
                    rcases hcs with ⟨rfl, hm, hr⟩ | ⟨he, hr⟩
                    · refine (HK.out u (List.mem_of_getElem? hu) wr m (HW0.out wr fr) hx hm).mono ?_
                      rintro e w' ⟨rfl, f, hh⟩
                      rw [drop_at hu, gaL_lit] at hr
                      refine ⟨rfl, fr.trans f (fun b hb => .inl hb), _, _, hh, ?_⟩
                      by_cases hz : (lit1 false u m).1 = 0
                      · rw [if_neg (by simpa using hz)] at hr
                        exact .inl ⟨hz, lit1_le u m hm hz, hr⟩
                      · rw [if_pos hz] at hr
                        exact .inr ⟨hz, hr.symm⟩
                    · refine (HNo.out u wr m er he hx).mono ?_
                      rintro e w' ⟨rfl, f, hh⟩
                      exact ⟨rfl, fr.trans f (fun b hb => .inl hb), _, _, hh, .inr ⟨he, hr⟩⟩
                  clear hst fr hx hcs hla hp hg
                  go_wp2_with fail
                  refine HC.out.mono ?_
                  rintro e w2 ⟨rfl, H2⟩
                  go_wp2_with fail
                  go_roundw
                  case rel => exact ⟨i + 1, by omega, by go_num, H2.out⟩
                  case measure => simp [intOf]; omega
                · have hie : i = t.kids.length := by omega
                  subst hie
                  have HX : Hid (LtP V x R (.returned (.tuple #[])) wr) := by
                    rcases hcs with ⟨rfl, hm, hr⟩ | ⟨he, hr⟩
                    · rw [List.drop_eq_nil_of_le (Nat.le_refl _), gaL_nil] at hr
                      exact HEnd.out wr (0, m) fr hx hr
                    · exact HEnd.out wr (er, m) fr hx hr.symm
                  clear hst fr hx hcs
                  go_wp2_with fail
                  go_end0
                  exact HX.out
            · have q4 : decide ((4096 : Int) < (n : Int) + 1) = false := decide_eq_false (by omega)
              have HRe : Hid (gaL t.kids (n + 1) = R) := by rw [← HRR.out]; show _ = _; unfold lit1; rw [if_neg (show ¬ okB false t = false by simp [okB, topB, mayB, hk, hte, hnq, hlq]), if_neg (by decide), if_neg hbig, hga]
              clear HRR hga
              go_enter Tryz.func45, Tryz.ntmps45
              go_wp2_with fail
              try rw [hV1]
              go_loopw [7] (fun q wr => ∃ i : Nat, i ≤ t.kids.length ∧ q = .int .i64 (i : Int) ∧ Hid (Fr [x] V1 wr ∧ ∃ m er, wr.heap[x]? = some (.cells (wkc m er) 70 (0, 0)) ∧ ((er = 0 ∧ m ≤ 4096 ∧ gaL (t.kids.drop i) m = R) ∨ (er ≠ 0 ∧ R = (er, m))))) (fun q _ => t.kids.length - (intOf q).toNat)
              case atStart => exact ⟨0, Nat.zero_le _, rfl, HS1.out.1, n + 1, 0, HS1.out.2, .inl ⟨rfl, by omega, by rw [List.drop_zero]; exact HRe.out⟩⟩
              case round =>
                obtain ⟨i, hi, rfl, hst⟩ := hrel
                have i0 : (0 : Int) ≤ (i : Int) := by omega
                obtain ⟨fr, m, er, hx, hcs⟩ := hst.out
                have b3 := HBx.out wr fr
                by_cases hlt : i < t.kids.length
                · have i1 : (i : Int) < (t.kids.length : Int) := by omega
                  obtain ⟨u, hu⟩ : ∃ u, t.kids[i]? = some u := ⟨_, List.getElem?_eq_getElem hlt⟩
                  obtain ⟨g, off, hp, hg, hla⟩ := HAt.out (by omega)
                  rw [hp] at b3
                  obtain ⟨y0, y1, y2, y3'⟩ := hla _ (HW0.out wr fr) i u hu
                  have y3 : wr.cell? ⟨g, off + i * 4 + 3, none⟩ = some (.slice u.p u.kids.length u.c) := y3'
                  clear y3'
                  have HC : Hid (Calls Tryz.prog 45 #[.pointer (some ⟨x, 0, none⟩), .agg #[.int .i64 u.kind, .string u.text, .int .i64 u.num, .slice u.p u.kids.length u.c], .bool false] wr fun e w' => e = .returned (.tuple #[]) ∧ Hid (Fr [x] V1 w' ∧ ∃ m er, w'.heap[x]? = some (.cells (wkc m er) 70 (0, 0)) ∧ ((er = 0 ∧ m ≤ 4096 ∧ gaL (t.kids.drop (i + 1)) m = R) ∨ (er ≠ 0 ∧ R = (er, m))))) := by
                    rcases hcs with ⟨rfl, hm, hr⟩ | ⟨he, hr⟩
                    · refine (HK.out u (List.mem_of_getElem? hu) wr m (HW0.out wr fr) hx hm).mono ?_
                      rintro e w' ⟨rfl, f, hh⟩
                      rw [drop_at hu, gaL_lit] at hr
                      refine ⟨rfl, fr.trans f (fun b hb => .inl hb), _, _, hh, ?_⟩
                      by_cases hz : (lit1 false u m).1 = 0
                      · rw [if_neg (by simpa using hz)] at hr
                        exact .inl ⟨hz, lit1_le u m hm hz, hr⟩
                      · rw [if_pos hz] at hr
                        exact .inr ⟨hz, hr.symm⟩
                    · refine (HNo.out u wr m er he hx).mono ?_
                      rintro e w' ⟨rfl, f, hh⟩
                      exact ⟨rfl, fr.trans f (fun b hb => .inl hb), _, _, hh, .inr ⟨he, hr⟩⟩
                  clear hst fr hx hcs hla hp hg
                  go_wp2_with fail
                  refine HC.out.mono ?_
                  rintro e w2 ⟨rfl, H2⟩
                  go_wp2_with fail
                  go_roundw
                  case rel => exact ⟨i + 1, by omega, by go_num, H2.out⟩
                  case measure => simp [intOf]; omega
                · have hie : i = t.kids.length := by omega
                  subst hie
                  have HX : Hid (LtP V x R (.returned (.tuple #[])) wr) := by
                    rcases hcs with ⟨rfl, hm, hr⟩ | ⟨he, hr⟩
                    · rw [List.drop_eq_nil_of_le (Nat.le_refl _), gaL_nil] at hr
                      exact HEnd.out wr (0, m) fr hx hr
                    · exact HEnd.out wr (er, m) fr hx hr.symm
                  clear hst fr hx hcs
                  go_wp2_with fail
                  go_end0
                  exact HX.out
    · have HRe : Hid ((120, n) = R) := by rw [← HRR.out]; show _ = _; unfold lit1; rw [if_pos (by simp [okB, topB, mayB, hk])]
      clear HRR HK HNo HAt HS0 HS1 HEnd HBx HW0 HFb
      rw [← HRe.out]
      go_enter Tryz.func45, Tryz.ntmps45
      go_wp2_with fail
      try rw [hV1]
      refine HFl.out.mono ?_
      rintro e w2 ⟨rfl, h2⟩
      have H2 := mkHid h2
      clear h2
      go_wp2_with fail
      go_end0
      exact H2.out
  · rw [hk] at hV1 k0
    rw [hk]
    cases top
    · cases hte : t.text.toList.isEmpty
      · have HRe : Hid ((120, n) = R) := by rw [← HRR.out]; show _ = _; unfold lit1; rw [if_pos (by simp [okB, topB, mayB, hk, hte])]
        clear HRR HK HNo HAt HS0 HS1 HEnd HBx HW0 HFb
        rw [← HRe.out]
        go_enter Tryz.func45, Tryz.ntmps45
        go_wp2_with fail
        try rw [hV1]
        refine HFl.out.mono ?_
        rintro e w2 ⟨rfl, h2⟩
        have H2 := mkHid h2
        clear h2
        go_wp2_with fail
        go_end0
        exact H2.out
      · cases hnq : (t.num == 0)
        · have HRe : Hid ((120, n) = R) := by rw [← HRR.out]; show _ = _; unfold lit1; rw [if_pos (by simp [okB, topB, mayB, hk, hte, hnq])]
          clear HRR HK HNo HAt HS0 HS1 HEnd HBx HW0 HFb
          rw [← HRe.out]
          go_enter Tryz.func45, Tryz.ntmps45
          go_wp2_with fail
          try rw [hV1]
          refine HFl.out.mono ?_
          rintro e w2 ⟨rfl, h2⟩
          have H2 := mkHid h2
          clear h2
          go_wp2_with fail
          go_end0
          exact H2.out
        · cases hlq : ((t.kids.length : Int) == 0)
          · have HRe : Hid ((120, n) = R) := by rw [← HRR.out]; show _ = _; unfold lit1; rw [if_pos (by simp [okB, topB, mayB, hk, hte, hnq, hlq])]
            clear HRR HK HNo HAt HS0 HS1 HEnd HBx HW0 HFb
            rw [← HRe.out]
            go_enter Tryz.func45, Tryz.ntmps45
            go_wp2_with fail
            try rw [hV1]
            refine HFl.out.mono ?_
            rintro e w2 ⟨rfl, h2⟩
            have H2 := mkHid h2
            clear h2
            go_wp2_with fail
            go_end0
            exact H2.out
          · have hga : ∀ m, gaT t m = gaL t.kids m := fun m => by rw [gaT_at, if_neg (by omega), show t.kids = [] from by simpa using hlq, gaL_nil]
            by_cases hbig : 4096 < n + 1
            · have q4 : decide ((4096 : Int) < (n : Int) + 1) = true := decide_eq_true (by omega)
              have HRe : Hid ((73, n + 1) = R) := by rw [← HRR.out]; show _ = _; unfold lit1; rw [if_neg (show ¬ okB false t = false by simp [okB, topB, mayB, hk, hte, hnq, hlq]), if_neg (by decide), if_pos hbig]
              clear HRR hbig hga
              go_enter Tryz.func45, Tryz.ntmps45
              go_wp2_with fail
              try rw [hV1]
              refine HFb.out.mono ?_
              rintro e w2 ⟨rfl, H2⟩
              go_wp2_with fail
              go_loopw [7] (fun q wr => ∃ i : Nat, i ≤ t.kids.length ∧ q = .int .i64 (i : Int) ∧ Hid (Fr [x] V1 wr ∧ ∃ m er, wr.heap[x]? = some (.cells (wkc m er) 70 (0, 0)) ∧ ((er = 0 ∧ m ≤ 4096 ∧ gaL (t.kids.drop i) m = R) ∨ (er ≠ 0 ∧ R = (er, m))))) (fun q _ => t.kids.length - (intOf q).toNat)
              case atStart => exact ⟨0, Nat.zero_le _, rfl, H2.out.1, n + 1, 73, H2.out.2, .inr ⟨by decide, HRe.out.symm⟩⟩
              case round =>
                obtain ⟨i, hi, rfl, hst⟩ := hrel
                have i0 : (0 : Int) ≤ (i : Int) := by omega
                obtain ⟨fr, m, er, hx, hcs⟩ := hst.out
                have b3 := HBx.out wr fr
                by_cases hlt : i < t.kids.length
                · have i1 : (i : Int) < (t.kids.length : Int) := by omega
                  obtain ⟨u, hu⟩ : ∃ u, t.kids[i]? = some u := ⟨_, List.getElem?_eq_getElem hlt⟩
                  obtain ⟨g, off, hp, hg, hla⟩ := HAt.out (by omega)
                  rw [hp] at b3
                  obtain ⟨y0, y1, y2, y3'⟩ := hla _ (HW0.out wr fr) i u hu
                  have y3 : wr.cell? ⟨g, off + i * 4 + 3, none⟩ = some (.slice u.p u.kids.length u.c) := y3'
                  clear y3'
                  have HC : Hid (Calls Tryz.prog 45 #[.pointer (some ⟨x, 0, none⟩), .agg #[.int .i64 u.kind, .string u.text, .int .i64 u.num, .slice u.p u.kids.length u.c], .bool false] wr fun e w' => e = .returned (.tuple #[]) ∧ Hid (Fr [x] V1 w' ∧ ∃ m er, w'.heap[x]? = some (.cells (wkc m er) 70 (0, 0)) ∧ ((er = 0 ∧ m ≤ 4096 ∧ gaL (t.kids.drop (i + 1)) m = R) ∨ (er ≠ 0 ∧ R = (er, m))))) := by
                    rcases hcs with ⟨rfl, hm, hr⟩ | ⟨he, hr⟩
                    · refine (HK.out u (List.mem_of_getElem? hu) wr m (HW0.out wr fr) hx hm).mono ?_
                      rintro e w' ⟨rfl, f, hh⟩
                      rw [drop_at hu, gaL_lit] at hr
                      refine ⟨rfl, fr.trans f (fun b hb => .inl hb), _, _, hh, ?_⟩
                      by_cases hz : (lit1 false u m).1 = 0
                      · rw [if_neg (by simpa using hz)] at hr
                        exact .inl ⟨hz, lit1_le u m hm hz, hr⟩
                      · rw [if_pos hz] at hr
                        exact .inr ⟨hz, hr.symm⟩
                    · refine (HNo.out u wr m er he hx).mono ?_
                      rintro e w' ⟨rfl, f, hh⟩
                      exact ⟨rfl, fr.trans f (fun b hb => .inl hb), _, _, hh, .inr ⟨he, hr⟩⟩
                  clear hst fr hx hcs hla hp hg
                  go_wp2_with fail
                  refine HC.out.mono ?_
                  rintro e w2 ⟨rfl, H2⟩
                  go_wp2_with fail
                  go_roundw
                  case rel => exact ⟨i + 1, by omega, by go_num, H2.out⟩
                  case measure => simp [intOf]; omega
                · have hie : i = t.kids.length := by omega
                  subst hie
                  have HX : Hid (LtP V x R (.returned (.tuple #[])) wr) := by
                    rcases hcs with ⟨rfl, hm, hr⟩ | ⟨he, hr⟩
                    · rw [List.drop_eq_nil_of_le (Nat.le_refl _), gaL_nil] at hr
                      exact HEnd.out wr (0, m) fr hx hr
                    · exact HEnd.out wr (er, m) fr hx hr.symm
                  clear hst fr hx hcs
                  go_wp2_with fail
                  go_end0
                  exact HX.out
            · have q4 : decide ((4096 : Int) < (n : Int) + 1) = false := decide_eq_false (by omega)
              have HRe : Hid (gaL t.kids (n + 1) = R) := by rw [← HRR.out]; show _ = _; unfold lit1; rw [if_neg (show ¬ okB false t = false by simp [okB, topB, mayB, hk, hte, hnq, hlq]), if_neg (by decide), if_neg hbig, hga]
              clear HRR hga
              go_enter Tryz.func45, Tryz.ntmps45
              go_wp2_with fail
              try rw [hV1]
              go_loopw [7] (fun q wr => ∃ i : Nat, i ≤ t.kids.length ∧ q = .int .i64 (i : Int) ∧ Hid (Fr [x] V1 wr ∧ ∃ m er, wr.heap[x]? = some (.cells (wkc m er) 70 (0, 0)) ∧ ((er = 0 ∧ m ≤ 4096 ∧ gaL (t.kids.drop i) m = R) ∨ (er ≠ 0 ∧ R = (er, m))))) (fun q _ => t.kids.length - (intOf q).toNat)
              case atStart => exact ⟨0, Nat.zero_le _, rfl, HS1.out.1, n + 1, 0, HS1.out.2, .inl ⟨rfl, by omega, by rw [List.drop_zero]; exact HRe.out⟩⟩
              case round =>
                obtain ⟨i, hi, rfl, hst⟩ := hrel
                have i0 : (0 : Int) ≤ (i : Int) := by omega
                obtain ⟨fr, m, er, hx, hcs⟩ := hst.out
                have b3 := HBx.out wr fr
                by_cases hlt : i < t.kids.length
                · have i1 : (i : Int) < (t.kids.length : Int) := by omega
                  obtain ⟨u, hu⟩ : ∃ u, t.kids[i]? = some u := ⟨_, List.getElem?_eq_getElem hlt⟩
                  obtain ⟨g, off, hp, hg, hla⟩ := HAt.out (by omega)
                  rw [hp] at b3
                  obtain ⟨y0, y1, y2, y3'⟩ := hla _ (HW0.out wr fr) i u hu
                  have y3 : wr.cell? ⟨g, off + i * 4 + 3, none⟩ = some (.slice u.p u.kids.length u.c) := y3'
                  clear y3'
                  have HC : Hid (Calls Tryz.prog 45 #[.pointer (some ⟨x, 0, none⟩), .agg #[.int .i64 u.kind, .string u.text, .int .i64 u.num, .slice u.p u.kids.length u.c], .bool false] wr fun e w' => e = .returned (.tuple #[]) ∧ Hid (Fr [x] V1 w' ∧ ∃ m er, w'.heap[x]? = some (.cells (wkc m er) 70 (0, 0)) ∧ ((er = 0 ∧ m ≤ 4096 ∧ gaL (t.kids.drop (i + 1)) m = R) ∨ (er ≠ 0 ∧ R = (er, m))))) := by
                    rcases hcs with ⟨rfl, hm, hr⟩ | ⟨he, hr⟩
                    · refine (HK.out u (List.mem_of_getElem? hu) wr m (HW0.out wr fr) hx hm).mono ?_
                      rintro e w' ⟨rfl, f, hh⟩
                      rw [drop_at hu, gaL_lit] at hr
                      refine ⟨rfl, fr.trans f (fun b hb => .inl hb), _, _, hh, ?_⟩
                      by_cases hz : (lit1 false u m).1 = 0
                      · rw [if_neg (by simpa using hz)] at hr
                        exact .inl ⟨hz, lit1_le u m hm hz, hr⟩
                      · rw [if_pos hz] at hr
                        exact .inr ⟨hz, hr.symm⟩
                    · refine (HNo.out u wr m er he hx).mono ?_
                      rintro e w' ⟨rfl, f, hh⟩
                      exact ⟨rfl, fr.trans f (fun b hb => .inl hb), _, _, hh, .inr ⟨he, hr⟩⟩
                  clear hst fr hx hcs hla hp hg
                  go_wp2_with fail
                  refine HC.out.mono ?_
                  rintro e w2 ⟨rfl, H2⟩
                  go_wp2_with fail
                  go_roundw
                  case rel => exact ⟨i + 1, by omega, by go_num, H2.out⟩
                  case measure => simp [intOf]; omega
                · have hie : i = t.kids.length := by omega
                  subst hie
                  have HX : Hid (LtP V x R (.returned (.tuple #[])) wr) := by
                    rcases hcs with ⟨rfl, hm, hr⟩ | ⟨he, hr⟩
                    · rw [List.drop_eq_nil_of_le (Nat.le_refl _), gaL_nil] at hr
                      exact HEnd.out wr (0, m) fr hx hr
                    · exact HEnd.out wr (er, m) fr hx hr.symm
                  clear hst fr hx hcs
                  go_wp2_with fail
                  go_end0
                  exact HX.out
    · have HRe : Hid ((120, n) = R) := by rw [← HRR.out]; show _ = _; unfold lit1; rw [if_pos (by simp [okB, topB, mayB, hk])]
      clear HRR HK HNo HAt HS0 HS1 HEnd HBx HW0 HFb
      rw [← HRe.out]
      go_enter Tryz.func45, Tryz.ntmps45
      go_wp2_with fail
      try rw [hV1]
      refine HFl.out.mono ?_
      rintro e w2 ⟨rfl, h2⟩
      have H2 := mkHid h2
      clear h2
      go_wp2_with fail
      go_end0
      exact H2.out
  · rw [hk] at hV1 k0
    rw [hk]
    cases top
    · cases hte : t.text.toList.isEmpty
      · have HRe : Hid ((120, n) = R) := by rw [← HRR.out]; show _ = _; unfold lit1; rw [if_pos (by simp [okB, topB, mayB, hk, hte])]
        clear HRR HK HNo HAt HS0 HS1 HEnd HBx HW0 HFb
        rw [← HRe.out]
        go_enter Tryz.func45, Tryz.ntmps45
        go_wp2_with fail
        try rw [hV1]
        refine HFl.out.mono ?_
        rintro e w2 ⟨rfl, h2⟩
        have H2 := mkHid h2
        clear h2
        go_wp2_with fail
        go_end0
        exact H2.out
      · cases hnq : (t.num == 0)
        · have HRe : Hid ((120, n) = R) := by rw [← HRR.out]; show _ = _; unfold lit1; rw [if_pos (by simp [okB, topB, mayB, hk, hte, hnq])]
          clear HRR HK HNo HAt HS0 HS1 HEnd HBx HW0 HFb
          rw [← HRe.out]
          go_enter Tryz.func45, Tryz.ntmps45
          go_wp2_with fail
          try rw [hV1]
          refine HFl.out.mono ?_
          rintro e w2 ⟨rfl, h2⟩
          have H2 := mkHid h2
          clear h2
          go_wp2_with fail
          go_end0
          exact H2.out
        · cases hlq : ((t.kids.length : Int) == 0)
          · have HRe : Hid ((120, n) = R) := by rw [← HRR.out]; show _ = _; unfold lit1; rw [if_pos (by simp [okB, topB, mayB, hk, hte, hnq, hlq])]
            clear HRR HK HNo HAt HS0 HS1 HEnd HBx HW0 HFb
            rw [← HRe.out]
            go_enter Tryz.func45, Tryz.ntmps45
            go_wp2_with fail
            try rw [hV1]
            refine HFl.out.mono ?_
            rintro e w2 ⟨rfl, h2⟩
            have H2 := mkHid h2
            clear h2
            go_wp2_with fail
            go_end0
            exact H2.out
          · have hga : ∀ m, gaT t m = gaL t.kids m := fun m => by rw [gaT_at, if_neg (by omega), show t.kids = [] from by simpa using hlq, gaL_nil]
            by_cases hbig : 4096 < n + 1
            · have q4 : decide ((4096 : Int) < (n : Int) + 1) = true := decide_eq_true (by omega)
              have HRe : Hid ((73, n + 1) = R) := by rw [← HRR.out]; show _ = _; unfold lit1; rw [if_neg (show ¬ okB false t = false by simp [okB, topB, mayB, hk, hte, hnq, hlq]), if_neg (by decide), if_pos hbig]
              clear HRR hbig hga
              go_enter Tryz.func45, Tryz.ntmps45
              go_wp2_with fail
              try rw [hV1]
              refine HFb.out.mono ?_
              rintro e w2 ⟨rfl, H2⟩
              go_wp2_with fail
              go_loopw [7] (fun q wr => ∃ i : Nat, i ≤ t.kids.length ∧ q = .int .i64 (i : Int) ∧ Hid (Fr [x] V1 wr ∧ ∃ m er, wr.heap[x]? = some (.cells (wkc m er) 70 (0, 0)) ∧ ((er = 0 ∧ m ≤ 4096 ∧ gaL (t.kids.drop i) m = R) ∨ (er ≠ 0 ∧ R = (er, m))))) (fun q _ => t.kids.length - (intOf q).toNat)
              case atStart => exact ⟨0, Nat.zero_le _, rfl, H2.out.1, n + 1, 73, H2.out.2, .inr ⟨by decide, HRe.out.symm⟩⟩
              case round =>
                obtain ⟨i, hi, rfl, hst⟩ := hrel
                have i0 : (0 : Int) ≤ (i : Int) := by omega
                obtain ⟨fr, m, er, hx, hcs⟩ := hst.out
                have b3 := HBx.out wr fr
                by_cases hlt : i < t.kids.length
                · have i1 : (i : Int) < (t.kids.length : Int) := by omega
                  obtain ⟨u, hu⟩ : ∃ u, t.kids[i]? = some u := ⟨_, List.getElem?_eq_getElem hlt⟩
                  obtain ⟨g, off, hp, hg, hla⟩ := HAt.out (by omega)
                  rw [hp] at b3
                  obtain ⟨y0, y1, y2, y3'⟩ := hla _ (HW0.out wr fr) i u hu
                  have y3 : wr.cell? ⟨g, off + i * 4 + 3, none⟩ = some (.slice u.p u.kids.length u.c) := y3'
                  clear y3'
                  have HC : Hid (Calls Tryz.prog 45 #[.pointer (some ⟨x, 0, none⟩), .agg #[.int .i64 u.kind, .string u.text, .int .i64 u.num, .slice u.p u.kids.length u.c], .bool false] wr fun e w' => e = .returned (.tuple #[]) ∧ Hid (Fr [x] V1 w' ∧ ∃ m er, w'.heap[x]? = some (.cells (wkc m er) 70 (0, 0)) ∧ ((er = 0 ∧ m ≤ 4096 ∧ gaL (t.kids.drop (i + 1)) m = R) ∨ (er ≠ 0 ∧ R = (er, m))))) := by
                    rcases hcs with ⟨rfl, hm, hr⟩ | ⟨he, hr⟩
                    · refine (HK.out u (List.mem_of_getElem? hu) wr m (HW0.out wr fr) hx hm).mono ?_
                      rintro e w' ⟨rfl, f, hh⟩
                      rw [drop_at hu, gaL_lit] at hr
                      refine ⟨rfl, fr.trans f (fun b hb => .inl hb), _, _, hh, ?_⟩
                      by_cases hz : (lit1 false u m).1 = 0
                      · rw [if_neg (by simpa using hz)] at hr
                        exact .inl ⟨hz, lit1_le u m hm hz, hr⟩
                      · rw [if_pos hz] at hr
                        exact .inr ⟨hz, hr.symm⟩
                    · refine (HNo.out u wr m er he hx).mono ?_
                      rintro e w' ⟨rfl, f, hh⟩
                      exact ⟨rfl, fr.trans f (fun b hb => .inl hb), _, _, hh, .inr ⟨he, hr⟩⟩
                  clear hst fr hx hcs hla hp hg
                  go_wp2_with fail
                  refine HC.out.mono ?_
                  rintro e w2 ⟨rfl, H2⟩
                  go_wp2_with fail
                  go_roundw
                  case rel => exact ⟨i + 1, by omega, by go_num, H2.out⟩
                  case measure => simp [intOf]; omega
                · have hie : i = t.kids.length := by omega
                  subst hie
                  have HX : Hid (LtP V x R (.returned (.tuple #[])) wr) := by
                    rcases hcs with ⟨rfl, hm, hr⟩ | ⟨he, hr⟩
                    · rw [List.drop_eq_nil_of_le (Nat.le_refl _), gaL_nil] at hr
                      exact HEnd.out wr (0, m) fr hx hr
                    · exact HEnd.out wr (er, m) fr hx hr.symm
                  clear hst fr hx hcs
                  go_wp2_with fail
                  go_end0
                  exact HX.out
            · have q4 : decide ((4096 : Int) < (n : Int) + 1) = false := decide_eq_false (by omega)
              have HRe : Hid (gaL t.kids (n + 1) = R) := by rw [← HRR.out]; show _ = _; unfold lit1; rw [if_neg (show ¬ okB false t = false by simp [okB, topB, mayB, hk, hte, hnq, hlq]), if_neg (by decide), if_neg hbig, hga]
              clear HRR hga
              go_enter Tryz.func45, Tryz.ntmps45
              go_wp2_with fail
              try rw [hV1]
              go_loopw [7] (fun q wr => ∃ i : Nat, i ≤ t.kids.length ∧ q = .int .i64 (i : Int) ∧ Hid (Fr [x] V1 wr ∧ ∃ m er, wr.heap[x]? = some (.cells (wkc m er) 70 (0, 0)) ∧ ((er = 0 ∧ m ≤ 4096 ∧ gaL (t.kids.drop i) m = R) ∨ (er ≠ 0 ∧ R = (er, m))))) (fun q _ => t.kids.length - (intOf q).toNat)
              case atStart => exact ⟨0, Nat.zero_le _, rfl, HS1.out.1, n + 1, 0, HS1.out.2, .inl ⟨rfl, by omega, by rw [List.drop_zero]; exact HRe.out⟩⟩
              case round =>
                obtain ⟨i, hi, rfl, hst⟩ := hrel
                have i0 : (0 : Int) ≤ (i : Int) := by omega
                obtain ⟨fr, m, er, hx, hcs⟩ := hst.out
                have b3 := HBx.out wr fr
                by_cases hlt : i < t.kids.length
                · have i1 : (i : Int) < (t.kids.length : Int) := by omega
                  obtain ⟨u, hu⟩ : ∃ u, t.kids[i]? = some u := ⟨_, List.getElem?_eq_getElem hlt⟩
                  obtain ⟨g, off, hp, hg, hla⟩ := HAt.out (by omega)
                  rw [hp] at b3
                  obtain ⟨y0, y1, y2, y3'⟩ := hla _ (HW0.out wr fr) i u hu
                  have y3 : wr.cell? ⟨g, off + i * 4 + 3, none⟩ = some (.slice u.p u.kids.length u.c) := y3'
                  clear y3'
                  have HC : Hid (Calls Tryz.prog 45 #[.pointer (some ⟨x, 0, none⟩), .agg #[.int .i64 u.kind, .string u.text, .int .i64 u.num, .slice u.p u.kids.length u.c], .bool false] wr fun e w' => e = .returned (.tuple #[]) ∧ Hid (Fr [x] V1 w' ∧ ∃ m er, w'.heap[x]? = some (.cells (wkc m er) 70 (0, 0)) ∧ ((er = 0 ∧ m ≤ 4096 ∧ gaL (t.kids.drop (i + 1)) m = R) ∨ (er ≠ 0 ∧ R = (er, m))))) := by
                    rcases hcs with ⟨rfl, hm, hr⟩ | ⟨he, hr⟩
                    · refine (HK.out u (List.mem_of_getElem? hu) wr m (HW0.out wr fr) hx hm).mono ?_
                      rintro e w' ⟨rfl, f, hh⟩
                      rw [drop_at hu, gaL_lit] at hr
                      refine ⟨rfl, fr.trans f (fun b hb => .inl hb), _, _, hh, ?_⟩
                      by_cases hz : (lit1 false u m).1 = 0
                      · rw [if_neg (by simpa using hz)] at hr
                        exact .inl ⟨hz, lit1_le u m hm hz, hr⟩
                      · rw [if_pos hz] at hr
                        exact .inr ⟨hz, hr.symm⟩
                    · refine (HNo.out u wr m er he hx).mono ?_
                      rintro e w' ⟨rfl, f, hh⟩
                      exact ⟨rfl, fr.trans f (fun b hb => .inl hb), _, _, hh, .inr ⟨he, hr⟩⟩
                  clear hst fr hx hcs hla hp hg
                  go_wp2_with fail
                  refine HC.out.mono ?_
                  rintro e w2 ⟨rfl, H2⟩
                  go_wp2_with fail
                  go_roundw
                  case rel => exact ⟨i + 1, by omega, by go_num, H2.out⟩
                  case measure => simp [intOf]; omega
                · have hie : i = t.kids.length := by omega
                  subst hie
                  have HX : Hid (LtP V x R (.returned (.tuple #[])) wr) := by
                    rcases hcs with ⟨rfl, hm, hr⟩ | ⟨he, hr⟩
                    · rw [List.drop_eq_nil_of_le (Nat.le_refl _), gaL_nil] at hr
                      exact HEnd.out wr (0, m) fr hx hr
                    · exact HEnd.out wr (er, m) fr hx hr.symm
                  clear hst fr hx hcs
                  go_wp2_with fail
                  go_end0
                  exact HX.out
    · have HRe : Hid ((120, n) = R) := by rw [← HRR.out]; show _ = _; unfold lit1; rw [if_pos (by simp [okB, topB, mayB, hk])]
      clear HRR HK HNo HAt HS0 HS1 HEnd HBx HW0 HFb
      rw [← HRe.out]
      go_enter Tryz.func45, Tryz.ntmps45
      go_wp2_with fail
      try rw [hV1]
      refine HFl.out.mono ?_
      rintro e w2 ⟨rfl, h2⟩
      have H2 := mkHid h2
      clear h2
      go_wp2_with fail
      go_end0
      exact H2.out
  · rw [hk] at hV1 k0
    rw [hk]
    cases top
    · cases hte : t.text.toList.isEmpty
      · have HRe : Hid ((120, n) = R) := by rw [← HRR.out]; show _ = _; unfold lit1; rw [if_pos (by simp [okB, topB, mayB, hk, hte])]
        clear HRR HK HNo HAt HS0 HS1 HEnd HBx HW0 HFb
        rw [← HRe.out]
        go_enter Tryz.func45, Tryz.ntmps45
        go_wp2_with fail
        try rw [hV1]
        refine HFl.out.mono ?_
        rintro e w2 ⟨rfl, h2⟩
        have H2 := mkHid h2
        clear h2
        go_wp2_with fail
        go_end0
        exact H2.out
      · cases hnq : (t.num == 0)
        · have HRe : Hid ((120, n) = R) := by rw [← HRR.out]; show _ = _; unfold lit1; rw [if_pos (by simp [okB, topB, mayB, hk, hte, hnq])]
          clear HRR HK HNo HAt HS0 HS1 HEnd HBx HW0 HFb
          rw [← HRe.out]
          go_enter Tryz.func45, Tryz.ntmps45
          go_wp2_with fail
          try rw [hV1]
          refine HFl.out.mono ?_
          rintro e w2 ⟨rfl, h2⟩
          have H2 := mkHid h2
          clear h2
          go_wp2_with fail
          go_end0
          exact H2.out
        · cases haq : decide ((t.kids.length : Int) ≤ 32)
          · have HRe : Hid ((120, n) = R) := by rw [← HRR.out]; show _ = _; unfold lit1; rw [if_pos (by simp [okB, topB, mayB, hk, hte, hnq, haq])]
            clear HRR HK HNo HAt HS0 HS1 HEnd HBx HW0 HFb
            rw [← HRe.out]
            go_enter Tryz.func45, Tryz.ntmps45
            go_wp2_with fail
            try rw [hV1]
            refine HFl.out.mono ?_
            rintro e w2 ⟨rfl, h2⟩
            have H2 := mkHid h2
            clear h2
            go_wp2_with fail
            go_end0
            exact H2.out
          · have hga : ∀ m, gaT t m = gaL t.kids m := fun m => by rw [gaT_at, if_pos hk]
            by_cases hbig : 4096 < n + 1
            · have q4 : decide ((4096 : Int) < (n : Int) + 1) = true := decide_eq_true (by omega)
              have HRe : Hid ((73, n + 1) = R) := by rw [← HRR.out]; show _ = _; unfold lit1; rw [if_neg (show ¬ okB false t = false by simp [okB, topB, mayB, hk, hte, hnq, haq]), if_neg (by decide), if_pos hbig]
              clear HRR hbig hga
              go_enter Tryz.func45, Tryz.ntmps45
              go_wp2_with fail
              try rw [hV1]
              refine HFb.out.mono ?_
              rintro e w2 ⟨rfl, H2⟩
              go_wp2_with fail
              go_loopw [7] (fun q wr => ∃ i : Nat, i ≤ t.kids.length ∧ q = .int .i64 (i : Int) ∧ Hid (Fr [x] V1 wr ∧ ∃ m er, wr.heap[x]? = some (.cells (wkc m er) 70 (0, 0)) ∧ ((er = 0 ∧ m ≤ 4096 ∧ gaL (t.kids.drop i) m = R) ∨ (er ≠ 0 ∧ R = (er, m))))) (fun q _ => t.kids.length - (intOf q).toNat)
              case atStart => exact ⟨0, Nat.zero_le _, rfl, H2.out.1, n + 1, 73, H2.out.2, .inr ⟨by decide, HRe.out.symm⟩⟩
              case round =>
                obtain ⟨i, hi, rfl, hst⟩ := hrel
                have i0 : (0 : Int) ≤ (i : Int) := by omega
                obtain ⟨fr, m, er, hx, hcs⟩ := hst.out
                have b3 := HBx.out wr fr
                by_cases hlt : i < t.kids.length
                · have i1 : (i : Int) < (t.kids.length : Int) := by omega
                  obtain ⟨u, hu⟩ : ∃ u, t.kids[i]? = some u := ⟨_, List.getElem?_eq_getElem hlt⟩
                  obtain ⟨g, off, hp, hg, hla⟩ := HAt.out (by omega)
                  rw [hp] at b3
                  obtain ⟨y0, y1, y2, y3'⟩ := hla _ (HW0.out wr fr) i u hu
                  have y3 : wr.cell? ⟨g, off + i * 4 + 3, none⟩ = some (.slice u.p u.kids.length u.c) := y3'
                  clear y3'
                  have HC : Hid (Calls Tryz.prog 45 #[.pointer (some ⟨x, 0, none⟩), .agg #[.int .i64 u.kind, .string u.text, .int .i64 u.num, .slice u.p u.kids.length u.c], .bool false] wr fun e w' => e = .returned (.tuple #[]) ∧ Hid (Fr [x] V1 w' ∧ ∃ m er, w'.heap[x]? = some (.cells (wkc m er) 70 (0, 0)) ∧ ((er = 0 ∧ m ≤ 4096 ∧ gaL (t.kids.drop (i + 1)) m = R) ∨ (er ≠ 0 ∧ R = (er, m))))) := by
                    rcases hcs with ⟨rfl, hm, hr⟩ | ⟨he, hr⟩
                    · refine (HK.out u (List.mem_of_getElem? hu) wr m (HW0.out wr fr) hx hm).mono ?_
                      rintro e w' ⟨rfl, f, hh⟩
                      rw [drop_at hu, gaL_lit] at hr
                      refine ⟨rfl, fr.trans f (fun b hb => .inl hb), _, _, hh, ?_⟩
                      by_cases hz : (lit1 false u m).1 = 0
                      · rw [if_neg (by simpa using hz)] at hr
                        exact .inl ⟨hz, lit1_le u m hm hz, hr⟩
                      · rw [if_pos hz] at hr
                        exact .inr ⟨hz, hr.symm⟩
                    · refine (HNo.out u wr m er he hx).mono ?_
                      rintro e w' ⟨rfl, f, hh⟩
                      exact ⟨rfl, fr.trans f (fun b hb => .inl hb), _, _, hh, .inr ⟨he, hr⟩⟩
                  clear hst fr hx hcs hla hp hg
                  go_wp2_with fail
                  refine HC.out.mono ?_
                  rintro e w2 ⟨rfl, H2⟩
                  go_wp2_with fail
                  go_roundw
                  case rel => exact ⟨i + 1, by omega, by go_num, H2.out⟩
                  case measure => simp [intOf]; omega
                · have hie : i = t.kids.length := by omega
                  subst hie
                  have HX : Hid (LtP V x R (.returned (.tuple #[])) wr) := by
                    rcases hcs with ⟨rfl, hm, hr⟩ | ⟨he, hr⟩
                    · rw [List.drop_eq_nil_of_le (Nat.le_refl _), gaL_nil] at hr
                      exact HEnd.out wr (0, m) fr hx hr
                    · exact HEnd.out wr (er, m) fr hx hr.symm
                  clear hst fr hx hcs
                  go_wp2_with fail
                  go_end0
                  exact HX.out
            · have q4 : decide ((4096 : Int) < (n : Int) + 1) = false := decide_eq_false (by omega)
              have HRe : Hid (gaL t.kids (n + 1) = R) := by rw [← HRR.out]; show _ = _; unfold lit1; rw [if_neg (show ¬ okB false t = false by simp [okB, topB, mayB, hk, hte, hnq, haq]), if_neg (by decide), if_neg hbig, hga]
              clear HRR hga
              go_enter Tryz.func45, Tryz.ntmps45
              go_wp2_with fail
              try rw [hV1]
              go_loopw [7] (fun q wr => ∃ i : Nat, i ≤ t.kids.length ∧ q = .int .i64 (i : Int) ∧ Hid (Fr [x] V1 wr ∧ ∃ m er, wr.heap[x]? = some (.cells (wkc m er) 70 (0, 0)) ∧ ((er = 0 ∧ m ≤ 4096 ∧ gaL (t.kids.drop i) m = R) ∨ (er ≠ 0 ∧ R = (er, m))))) (fun q _ => t.kids.length - (intOf q).toNat)
              case atStart => exact ⟨0, Nat.zero_le _, rfl, HS1.out.1, n + 1, 0, HS1.out.2, .inl ⟨rfl, by omega, by rw [List.drop_zero]; exact HRe.out⟩⟩
              case round =>
                obtain ⟨i, hi, rfl, hst⟩ := hrel
                have i0 : (0 : Int) ≤ (i : Int) := by omega
                obtain ⟨fr, m, er, hx, hcs⟩ := hst.out
                have b3 := HBx.out wr fr
                by_cases hlt : i < t.kids.length
                · have i1 : (i : Int) < (t.kids.length : Int) := by omega
                  obtain ⟨u, hu⟩ : ∃ u, t.kids[i]? = some u := ⟨_, List.getElem?_eq_getElem hlt⟩
                  obtain ⟨g, off, hp, hg, hla⟩ := HAt.out (by omega)
                  rw [hp] at b3
                  obtain ⟨y0, y1, y2, y3'⟩ := hla _ (HW0.out wr fr) i u hu
                  have y3 : wr.cell? ⟨g, off + i * 4 + 3, none⟩ = some (.slice u.p u.kids.length u.c) := y3'
                  clear y3'
                  have HC : Hid (Calls Tryz.prog 45 #[.pointer (some ⟨x, 0, none⟩), .agg #[.int .i64 u.kind, .string u.text, .int .i64 u.num, .slice u.p u.kids.length u.c], .bool false] wr fun e w' => e = .returned (.tuple #[]) ∧ Hid (Fr [x] V1 w' ∧ ∃ m er, w'.heap[x]? = some (.cells (wkc m er) 70 (0, 0)) ∧ ((er = 0 ∧ m ≤ 4096 ∧ gaL (t.kids.drop (i + 1)) m = R) ∨ (er ≠ 0 ∧ R = (er, m))))) := by
                    rcases hcs with ⟨rfl, hm, hr⟩ | ⟨he, hr⟩
                    · refine (HK.out u (List.mem_of_getElem? hu) wr m (HW0.out wr fr) hx hm).mono ?_
                      rintro e w' ⟨rfl, f, hh⟩
                      rw [drop_at hu, gaL_lit] at hr
                      refine ⟨rfl, fr.trans f (fun b hb => .inl hb), _, _, hh, ?_⟩
                      by_cases hz : (lit1 false u m).1 = 0
                      · rw [if_neg (by simpa using hz)] at hr
                        exact .inl ⟨hz, lit1_le u m hm hz, hr⟩
                      · rw [if_pos hz] at hr
                        exact .inr ⟨hz, hr.symm⟩
                    · refine (HNo.out u wr m er he hx).mono ?_
                      rintro e w' ⟨rfl, f, hh⟩
                      exact ⟨rfl, fr.trans f (fun b hb => .inl hb), _, _, hh, .inr ⟨he, hr⟩⟩
                  clear hst fr hx hcs hla hp hg
                  go_wp2_with fail
                  refine HC.out.mono ?_
                  rintro e w2 ⟨rfl, H2⟩
                  go_wp2_with fail
                  go_roundw
                  case rel => exact ⟨i + 1, by omega, by go_num, H2.out⟩
                  case measure => simp [intOf]; omega
                · have hie : i = t.kids.length := by omega
                  subst hie
                  have HX : Hid (LtP V x R (.returned (.tuple #[])) wr) := by
                    rcases hcs with ⟨rfl, hm, hr⟩ | ⟨he, hr⟩
                    · rw [List.drop_eq_nil_of_le (Nat.le_refl _), gaL_nil] at hr
                      exact HEnd.out wr (0, m) fr hx hr
                    · exact HEnd.out wr (er, m) fr hx hr.symm
                  clear hst fr hx hcs
                  go_wp2_with fail
                  go_end0
                  exact HX.out
    · cases hte : t.text.toList.isEmpty
      · have HRe : Hid ((120, n) = R) := by rw [← HRR.out]; show _ = _; unfold lit1; rw [if_pos (by simp [okB, topB, mayB, hk, hte])]
        clear HRR HK HNo HAt HS0 HS1 HEnd HBx HW0 HFb
        rw [← HRe.out]
        go_enter Tryz.func45, Tryz.ntmps45
        go_wp2_with fail
        try rw [hV1]
        refine HFl.out.mono ?_
        rintro e w2 ⟨rfl, h2⟩
        have H2 := mkHid h2
        clear h2
        go_wp2_with fail
        go_end0
        exact H2.out
      · cases hnq : (t.num == 0)
        · have HRe : Hid ((120, n) = R) := by rw [← HRR.out]; show _ = _; unfold lit1; rw [if_pos (by simp [okB, topB, mayB, hk, hte, hnq])]
          clear HRR HK HNo HAt HS0 HS1 HEnd HBx HW0 HFb
          rw [← HRe.out]
          go_enter Tryz.func45, Tryz.ntmps45
          go_wp2_with fail
          try rw [hV1]
          refine HFl.out.mono ?_
          rintro e w2 ⟨rfl, h2⟩
          have H2 := mkHid h2
          clear h2
          go_wp2_with fail
          go_end0
          exact H2.out
        · cases haq : decide ((t.kids.length : Int) ≤ 32)
          · have HRe : Hid ((120, n) = R) := by rw [← HRR.out]; show _ = _; unfold lit1; rw [if_pos (by simp [okB, topB, mayB, hk, hte, hnq, haq])]
            clear HRR HK HNo HAt HS0 HS1 HEnd HBx HW0 HFb
            rw [← HRe.out]
            go_enter Tryz.func45, Tryz.ntmps45
            go_wp2_with fail
            try rw [hV1]
            refine HFl.out.mono ?_
            rintro e w2 ⟨rfl, h2⟩
            have H2 := mkHid h2
            clear h2
            go_wp2_with fail
            go_end0
            exact H2.out
          · have hga : ∀ m, gaT t m = gaL t.kids m := fun m => by rw [gaT_at, if_pos hk]
            have HRe : Hid (gaL t.kids n = R) := by rw [← HRR.out]; show _ = _; unfold lit1; rw [if_neg (show ¬ okB true t = false by simp [okB, topB, mayB, hk, hte, hnq, haq]), if_pos rfl, hga]
            clear HRR hga
            go_enter Tryz.func45, Tryz.ntmps45
            go_wp2_with fail
            try rw [hV1]
            go_loopw [7] (fun q wr => ∃ i : Nat, i ≤ t.kids.length ∧ q = .int .i64 (i : Int) ∧ Hid (Fr [x] V1 wr ∧ ∃ m er, wr.heap[x]? = some (.cells (wkc m er) 70 (0, 0)) ∧ ((er = 0 ∧ m ≤ 4096 ∧ gaL (t.kids.drop i) m = R) ∨ (er ≠ 0 ∧ R = (er, m))))) (fun q _ => t.kids.length - (intOf q).toNat)
            case atStart => exact ⟨0, Nat.zero_le _, rfl, HS0.out.1, n, 0, HS0.out.2, .inl ⟨rfl, hn, by rw [List.drop_zero]; exact HRe.out⟩⟩
            case round =>
              obtain ⟨i, hi, rfl, hst⟩ := hrel
              have i0 : (0 : Int) ≤ (i : Int) := by omega
              obtain ⟨fr, m, er, hx, hcs⟩ := hst.out
              have b3 := HBx.out wr fr
              by_cases hlt : i < t.kids.length
              · have i1 : (i : Int) < (t.kids.length : Int) := by omega
                obtain ⟨u, hu⟩ : ∃ u, t.kids[i]? = some u := ⟨_, List.getElem?_eq_getElem hlt⟩
                obtain ⟨g, off, hp, hg, hla⟩ := HAt.out (by omega)
                rw [hp] at b3
                obtain ⟨y0, y1, y2, y3'⟩ := hla _ (HW0.out wr fr) i u hu
                have y3 : wr.cell? ⟨g, off + i * 4 + 3, none⟩ = some (.slice u.p u.kids.length u.c) := y3'
                clear y3'
                have HC : Hid (Calls Tryz.prog 45 #[.pointer (some ⟨x, 0, none⟩), .agg #[.int .i64 u.kind, .string u.text, .int .i64 u.num, .slice u.p u.kids.length u.c], .bool false] wr fun e w' => e = .returned (.tuple #[]) ∧ Hid (Fr [x] V1 w' ∧ ∃ m er, w'.heap[x]? = some (.cells (wkc m er) 70 (0, 0)) ∧ ((er = 0 ∧ m ≤ 4096 ∧ gaL (t.kids.drop (i + 1)) m = R) ∨ (er ≠ 0 ∧ R = (er, m))))) := by
                  rcases hcs with ⟨rfl, hm, hr⟩ | ⟨he, hr⟩
                  · refine (HK.out u (List.mem_of_getElem? hu) wr m (HW0.out wr fr) hx hm).mono ?_
                    rintro e w' ⟨rfl, f, hh⟩
                    rw [drop_at hu, gaL_lit] at hr
                    refine ⟨rfl, fr.trans f (fun b hb => .inl hb), _, _, hh, ?_⟩
                    by_cases hz : (lit1 false u m).1 = 0
                    · rw [if_neg (by simpa using hz)] at hr
                      exact .inl ⟨hz, lit1_le u m hm hz, hr⟩
                    · rw [if_pos hz] at hr
                      exact .inr ⟨hz, hr.symm⟩
                  · refine (HNo.out u wr m er he hx).mono ?_
                    rintro e w' ⟨rfl, f, hh⟩
                    exact ⟨rfl, fr.trans f (fun b hb => .inl hb), _, _, hh, .inr ⟨he, hr⟩⟩
                clear hst fr hx hcs hla hp hg
                go_wp2_with fail
                refine HC.out.mono ?_
                rintro e w2 ⟨rfl, H2⟩
                go_wp2_with fail
                go_roundw
                case rel => exact ⟨i + 1, by omega, by go_num, H2.out⟩
                case measure => simp [intOf]; omega
              · have hie : i = t.kids.length := by omega
                subst hie
                have HX : Hid (LtP V x R (.returned (.tuple #[])) wr) := by
                  rcases hcs with ⟨rfl, hm, hr⟩ | ⟨he, hr⟩
                  · rw [List.drop_eq_nil_of_le (Nat.le_refl _), gaL_nil] at hr
                    exact HEnd.out wr (0, m) fr hx hr
                  · exact HEnd.out wr (er, m) fr hx hr.symm
                clear hst fr hx hcs
                go_wp2_with fail
                go_end0
                exact HX.out
  · have q1 : (t.kind == 1) = false := beq_eq_false_iff_ne.2 k1
    have q3 : (t.kind == 3) = false := beq_eq_false_iff_ne.2 k3
    have q2 : (t.kind == 2) = false := beq_eq_false_iff_ne.2 k2
    have q5 : (t.kind == 5) = false := beq_eq_false_iff_ne.2 k5
    have q6 : (t.kind == 6) = false := beq_eq_false_iff_ne.2 k6
    have q7 : (t.kind == 7) = false := beq_eq_false_iff_ne.2 k7
    have q4 : (t.kind == 4) = false := beq_eq_false_iff_ne.2 k4
    have HRe : Hid ((120, n) = R) := by rw [← HRR.out]; show _ = _; unfold lit1; rw [if_pos (by simp [okB, topB, mayB, k1, k2, k3, k4, k5, k6, k7])]
    clear HRR HK HNo HAt HS0 HS1 HEnd HBx HW0 HFb
    rw [← HRe.out]
    go_enter Tryz.func45, Tryz.ntmps45
    go_wp2_with fail
    try rw [hV1]
    refine HFl.out.mono ?_
    rintro e w2 ⟨rfl, h2⟩
    have H2 := mkHid h2
    clear h2
    go_wp2_with fail
    go_end0
    exact H2.out
theorem literal_allO (x : Nat) (w0 : World) (p : Option Addr) (c : Nat) (ts : List LitT) (h : LitsO w0 (fun g => g ≠ x) p c ts) : ∀ t ∈ ts, ∀ (top : Bool) (V : World) (n : Nat), Fr [x] w0 V → V.heap[x]? = some (.cells (wkc n 0) 70 (0, 0)) → n ≤ 4096 → Calls Tryz.prog 45 #[.pointer (some ⟨x, 0, none⟩), .agg #[.int .i64 t.kind, .string t.text, .int .i64 t.num, t.items], .bool top] V fun e w' => LtP V x (lit1 top t n) e w' := by
  induction h with
  | mk p c ts nil at_ short txt kids ih =>
    intro t ht top V n hf hh hn
    exact literal_stepO x n t top w0 V (kids t ht) hf hh hn (txt t ht) (fun u hu U m hU hm hm4 => ih t ht u hu false U m hU hm hm4)
/-- a literal is looked at -/
theorem literal_one (x n : Nat) (t : LitT) (top : Bool) (w0 V : World) (hk : LitsO w0 (fun g => g ≠ x) t.p t.c t.kids) (hf : Fr [x] w0 V) (h : V.heap[x]? = some (.cells (wkc n 0) 70 (0, 0))) (hn : n ≤ 4096) (htx : t.text.size ≤ 140737488355328) : Calls Tryz.prog 45 #[.pointer (some ⟨x, 0, none⟩), .agg #[.int .i64 t.kind, .string t.text, .int .i64 t.num, t.items], .bool top] V fun e w' => LtP V x (lit1 top t n) e w' :=
  literal_stepO x n t top w0 V hk hf h hn htx (fun u hu U m hU hm hm4 => literal_allO x w0 t.p t.c t.kids hk u hu false U m hU hm hm4)
end Go.Proofs.YtclkoffnjiiioaaGreatDoor

