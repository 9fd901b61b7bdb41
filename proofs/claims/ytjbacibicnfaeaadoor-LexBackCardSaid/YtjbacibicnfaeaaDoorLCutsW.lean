import Derived.Test.YtjbacibicnfaeaaDoorLCuts
namespace Go.Proofs.YtjbacibicnfaeaaDoor
open Go.RowKit Go.Maps
set_option linter.unusedVariables false
set_option linter.unusedSimpArgs false
theorem wt_take_le (zs : List Z) (i : Nat) : wt (zs.take i) ≤ wt zs := by
  unfold wt
  conv => rhs; rw [← List.take_append_drop i zs]
  rw [List.map_append, List.sum_append]
  exact Nat.le_add_right _ _
theorem wt_text {zs : List Z} {i : Nat} (h : i < zs.length) : (zs.getD i noZ).2.1.length ≤ wt zs := by
  have := wt_step h
  have h2 := wt_take_le zs (i + 1)
  omega
theorem wt_len (zs : List Z) : zs.length ≤ wt zs := by
  induction zs with
  | nil => exact Nat.zero_le _
  | cons z r ih =>
    unfold wt at ih ⊢
    simp
    omega
theorem prZ_len {zs : List Z} (g : goodZ zs) (h0 : 0 < zs.length) (hw : wt zs ≤ 268435456) : (prZ zs).length ≤ 536870912 := by
  have h1 := pr_len g (zs.length - 1) (by omega)
  have h2 := wt_take_le zs (zs.length - 1)
  unfold prZ
  omega
set_option maxHeartbeats 8000000 in
set_option maxRecDepth 1000000 in
theorem cutsTo_ok (g off c : Nat) (zs : List Z) (w : World) (hT : Tab w) (hP : Pw w) (hr : RdZ w g off zs) (h0 : 0 < zs.length) (hgood : goodZ zs) (hw : wt zs ≤ 268435456) :
    Calls Tryd.prog 20 #[.string (ba (prZ zs)), .slice (some ⟨g, off, none⟩) zs.length c] w fun e w' => e = .returned (.bool true) ∧ Bl w w' := by
  have hlen := prZ_len hgood h0 hw
  have hsz : (ba (prZ zs)).size = (prZ zs).length := by rw [← lst_len, lst_ba]
  by_cases hbig : 4096 < (prZ zs).length
  · have hlr : LexR (lst (ba (prZ zs))) [] 73 4096 := Or.inl ⟨by rw [lst_ba]; exact hbig, rfl, rfl, rfl⟩
    have HA := mkHid (tokens_v hlr (by omega) w hT)
    obtain ⟨s, hs⟩ : ∃ s, s = ba (prZ zs) := ⟨_, rfl⟩
    rw [← hs] at HA hsz ⊢
    have hbi : (4096 : Int) < s.size := by omega
    clear hs hr hgood hlr
    go_enter Tryd.func20, Tryd.ntmps20
    go_wp2_with (go_at_call 10; refine HA.out.mono ?_; rintro e w2 ⟨pa, ka, rfl, ra, qa, na, ma, b2⟩)
    go_ret
    exact ⟨rfl, b2.trans (Bl.alloc _ _)⟩
  · obtain ⟨us, hx, hul, hag⟩ := good_lex hgood h0
    have hlr := LexR.mk (l := lst (ba (prZ zs))) (us := us) (by rw [lst_ba]; omega) (by rw [lst_ba]; exact hx)
    obtain ⟨ts, hts⟩ : ∃ ts, ts = us ++ [(stopT, (lst (ba (prZ zs))).length)] := ⟨_, rfl⟩
    have hag := hag (lst (ba (prZ zs))).length
    rw [← hts] at hlr hag
    have etl : ts.length = zs.length := by rw [hts]; simp; omega
    have eml : (ts.map zOf).length = zs.length := by rw [List.length_map]; exact etl
    have HA := mkHid (tokens_w hlr (by omega) (by omega) w hT)
    rw [etl] at HA
    have hgm := hag.good hgood
    have hpm := hag.pr
    have HP1 : Hid (∀ g2 cap V, RdT V (.slice (some ⟨g2, 0, none⟩) zs.length cap) ts → Bl w V → zs.length ≤ cap → cap ≤ maxLen → Calls Tryd.prog 19 #[.slice (some ⟨g2, 0, none⟩) zs.length cap] V fun e w' => e = .returned (.tuple #[.string (ba (prZ zs)), .int .i64 0]) ∧ Bl V w') := mkHid fun g2 cap V hv hb h3 h4 => by
      have hwl := wt_len zs
      have := print_ok g2 0 cap (ts.map zOf) V (hT.mono hb) (hP.mono hb) (hv.z (by omega)) (by omega) (by omega) (by omega) h4
        (fun i hi => by
          have h5 := (hag.2 i (by omega)).2.1
          rw [h5]
          have := wt_text (zs := zs) (i := i) (by omega)
          omega)
        (fun _ i hi => by
          rw [hag.take i]
          have h5 := pr_len hgood i (by omega)
          have h6 := wt_take_le zs i
          omega)
      rw [eml] at this
      refine this.mono ?_
      rintro e w' ⟨h | h, hb⟩
      · rw [hpm] at h
        exact ⟨h.2, hb⟩
      · exact absurd hgm h.1
    have HS : Hid (∀ g2 cap V, RdT V (.slice (some ⟨g2, 0, none⟩) zs.length cap) ts → Bl w V → Calls Tryd.prog 11 #[.slice (some ⟨g2, 0, none⟩) zs.length cap, .slice (some ⟨g, off, none⟩) zs.length c, .bool false] V fun e w' => e = .returned (.bool true) ∧ Bl V w') := mkHid fun g2 cap V hv hb => by
      have hwl := wt_len zs
      have := same_z g2 0 cap g off c (ts.map zOf) zs V (hv.z (by omega)) (hr.keep hb) ⟨by omega, fun j hj => by
        obtain ⟨e1, e2, e3⟩ := hag.2 j (by omega)
        exact ⟨e1.symm, e2.symm, e3.symm⟩⟩ (by omega)
      rw [eml] at this
      exact this
    obtain ⟨s, hs⟩ : ∃ s, s = ba (prZ zs) := ⟨_, rfl⟩
    obtain ⟨n, hn⟩ : ∃ n, n = zs.length := ⟨_, rfl⟩
    rw [← hs] at HA HP1 hsz ⊢
    rw [← hn] at HA HP1 HS ⊢
    have hbi : ¬ (4096 : Int) < s.size := by omega
    have hss : (s.toList == s.toList) = true := by simp
    clear hs hr hgood hlr hag hpm hgm hx hts hn etl eml
    go_enter Tryd.func20, Tryd.ntmps20
    go_wp2_with (first
      | (go_at_call 10; refine HA.out.mono ?_; rintro e w2 ⟨g2, ka, rfl, ra, qa, na, ma, b2⟩)
      | (go_at_call 19; refine (HP1.out g2 ka _ (ra.keep (Bl.alloc _ _)) (b2.trans (Bl.alloc _ _)) na ma).mono ?_; rintro e w3 ⟨rfl, b3⟩
         have hz := blk_in b3
         have c0 : w3.cell? ⟨w2.heap.size, 0, none⟩ = some (.int .i64 0) := by rw [cell_in hz]; rfl)
      | (go_at_call 11; refine (HS.out g2 ka _ ((ra.keep (Bl.alloc _ _)).keep b3) ((b2.trans (Bl.alloc _ _)).trans b3)).mono ?_; rintro e w4 ⟨rfl, b4⟩)
      | (go_at_call 13; go_in))
    go_ret
    exact ⟨rfl, ((b2.trans (Bl.alloc _ _)).trans b3).trans b4⟩
end Go.Proofs.YtjbacibicnfaeaaDoor
