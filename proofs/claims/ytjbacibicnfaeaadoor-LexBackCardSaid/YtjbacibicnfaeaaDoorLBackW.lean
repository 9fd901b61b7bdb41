import Derived.Test.YtjbacibicnfaeaaDoorLBack
namespace Go.Proofs.YtjbacibicnfaeaaDoor
open Go.RowKit Go.Maps
set_option linter.unusedVariables false
set_option linter.unusedSimpArgs false
/-- a list of tokens as it is handed in -/
def Arg (w : World) (v : Value) (zs : List Z) : Prop := (zs = [] ∧ ∃ p c, v = .slice p 0 c) ∨ (0 < zs.length ∧ ∃ g off c, v = .slice (some ⟨g, off, none⟩) zs.length c ∧ RdZ w g off zs ∧ zs.length ≤ c ∧ c ≤ maxLen)
set_option maxHeartbeats 8000000 in
set_option maxRecDepth 1000000 in
theorem back_any (s : ByteArray) (v : Value) (zs : List Z) (w : World) (hT : Tab w) (hP : Pw w) (hA : Arg w v zs) (h1 : s.size ≤ 140737488355328) (hn : zs.length ≤ 140737488355328) (hs : ∀ i, i < zs.length → (zs.getD i noZ).2.1.length ≤ 140737488355328) :
    Calls Tryd.prog 8 #[.string s, v] w fun e w' => e = .returned (.bool true) ∧ Bl w w' := by
  have HB : Hid (Calls Tryd.prog 18 #[v] w fun e w' => (e = .returned (.bool true) ∨ (e = .returned (.bool false) ∧ wt zs ≤ 268435456)) ∧ Bl w w') := mkHid (by
    rcases hA with ⟨rfl, p, c, rfl⟩ | ⟨h0, g, off, c, rfl, hr, hc, hm⟩
    · refine (beyond_nil p c w).mono ?_
      rintro e w' ⟨rfl, rfl⟩
      exact ⟨Or.inr ⟨rfl, Nat.zero_le _⟩, Bl.refl _⟩
    · exact beyond_ok g off c zs w hr hn hs)
  have HPr : Hid (∀ V, Bl w V → wt zs ≤ 268435456 → Calls Tryd.prog 19 #[v] V fun e w' => (((0 < zs.length ∧ goodZ zs) ∧ e = .returned (.tuple #[.string (ba (prZ zs)), .int .i64 0])) ∨ (¬ (0 < zs.length ∧ goodZ zs) ∧ e = .returned (.tuple #[.string ⟨#[]⟩, .int .i64 1]))) ∧ Bl V w') := mkHid fun V hV hw => by
    rcases hA with ⟨rfl, p, c, rfl⟩ | ⟨h0, g, off, c, rfl, hr, hc, hm⟩
    · refine (print_nil p c V).mono ?_
      rintro e w' ⟨rfl, rfl⟩
      exact ⟨Or.inr ⟨fun h => absurd h.1 (by simp), rfl⟩, Bl.refl _⟩
    · have hwl := wt_len zs
      refine (print_ok g off c zs V (hT.mono hV) (hP.mono hV) (hr.keep hV) h0 (by omega) hc hm (fun i hi => by have := wt_text hi; omega) (fun gd i hi => by
        have h5 := pr_len gd i hi
        have h6 := wt_take_le zs i
        omega)).mono ?_
      rintro e w' ⟨h | h, hb⟩
      · exact ⟨Or.inl ⟨⟨h0, h.1⟩, h.2⟩, hb⟩
      · exact ⟨Or.inr ⟨fun h9 => h.1 h9.2, h.2⟩, hb⟩
  have HCt : Hid (∀ V, Bl w V → wt zs ≤ 268435456 → (0 < zs.length ∧ goodZ zs) → Calls Tryd.prog 20 #[.string (ba (prZ zs)), v] V fun e w' => e = .returned (.bool true) ∧ Bl V w') := mkHid fun V hV hw hg => by
    rcases hA with ⟨rfl, p, c, rfl⟩ | ⟨h0, g, off, c, rfl, hr, hc, hm⟩
    · exact absurd hg.1 (by simp)
    · exact cutsTo_ok g off c zs V (hT.mono hV) (hP.mono hV) (hr.keep hV) h0 hg.2 hw
  obtain ⟨ta, ca, aa, hla, hza⟩ := LexR.total (lst s)
  have HK := mkHid (fun W hW => known_ok W hW)
  have HTab : Hid (∀ V, Bl w V → Tab V) := mkHid fun V h => hT.mono h
  have HA1 := mkHid (fun W hW => tokens_v hla h1 W hW)
  have hse : ((⟨#[]⟩ : ByteArray).toList.isEmpty) = true := isEmpty_of rfl
  by_cases ca0 : ca = 0
  · subst ca0
    obtain ⟨rfl, hl4, us, hua, rfl⟩ := hla.good
    obtain ⟨hgd, hwd⟩ := src_good hua hl4 (lst s).length
    have ela : (us ++ [(stopT, (lst s).length)]).length = us.length + 1 := by simp
    obtain ⟨ts, hts⟩ : ∃ ts, ts = us ++ [(stopT, (lst s).length)] := ⟨_, rfl⟩
    rw [← hts] at hgd hwd ela HA1
    rw [ela] at HA1
    have eml : (ts.map zOf).length = us.length + 1 := by rw [List.length_map]; exact ela
    obtain ⟨n, hn'⟩ : ∃ n, n = us.length + 1 := ⟨_, rfl⟩
    rw [← hn'] at HA1 ela eml
    have hn0 : 0 < n := by omega
    have HP1 : Hid (∀ g2 cap V, RdT V (.slice (some ⟨g2, 0, none⟩) n cap) ts → Bl w V → n ≤ cap → cap ≤ maxLen → Calls Tryd.prog 19 #[.slice (some ⟨g2, 0, none⟩) n cap] V fun e w' => e = .returned (.tuple #[.string (ba (prZ (ts.map zOf))), .int .i64 0]) ∧ Bl V w') := mkHid fun g2 cap V hv hb h3 h4 => by
      have hwl := wt_len (ts.map zOf)
      have := print_ok g2 0 cap (ts.map zOf) V (hT.mono hb) (hP.mono hb) (hv.z (by omega)) (by omega) (by omega) (by omega) h4
        (fun i hi => by have := wt_text hi; omega)
        (fun gd i hi => by
          have h5 := pr_len gd i hi
          have h6 := wt_take_le (ts.map zOf) i
          omega)
      rw [eml] at this
      refine this.mono ?_
      rintro e w' ⟨h | h, hb⟩
      · exact ⟨h.2, hb⟩
      · exact absurd hgd h.1
    have HC1 : Hid (∀ g2 cap V, RdT V (.slice (some ⟨g2, 0, none⟩) n cap) ts → Bl w V → Calls Tryd.prog 20 #[.string (ba (prZ (ts.map zOf))), .slice (some ⟨g2, 0, none⟩) n cap] V fun e w' => e = .returned (.bool true) ∧ Bl V w') := mkHid fun g2 cap V hv hb => by
      have := cutsTo_ok g2 0 cap (ts.map zOf) V (hT.mono hb) (hP.mono hb) (hv.z (by omega)) (by omega) hgd hwd
      rw [eml] at this
      exact this
    generalize ba (prZ (ts.map zOf)) = s1 at *
    generalize ba (prZ zs) = s2 at *
    generalize (0 < zs.length ∧ goodZ zs) = G at *
    clear hla hza hua hts hgd hwd hA hs hT hP hn'
    go_enter Tryd.func8, Tryd.ntmps8
    go_wp2_with fail
    go_at_call 18
    refine HB.out.mono ?_
    rintro e w0 ⟨rfl | ⟨rfl, hw⟩, b0⟩
    · go_wp2_with fail
      go_ret
      exact ⟨rfl, b0⟩
    · go_wp2_with (first
        | (go_at_call 9; refine (HK.out _ (HTab.out _ b0)).mono ?_; rintro e w1 ⟨rfl, b1⟩)
        | (go_at_call 10; refine (HA1.out _ (HTab.out _ (b0.trans b1))).mono ?_; rintro e w2 ⟨pa, ka, rfl, ra, qa, na, ma, b2⟩
           obtain ⟨g2, rfl⟩ := qa hn0
           have B2 := mkHid (((b0.trans b1).trans b2).trans (Bl.alloc w2 (.cells #[.int .i64 0, .int .i64 0] 26)))
           have R2 := mkHid (ra.keep (Bl.alloc w2 (.cells #[.int .i64 0, .int .i64 0] 26))))
        | (go_at_call 20; refine (HC1.out g2 ka _ (R2.out.keep b3) (B2.out.trans b3)).mono ?_; rintro e w4 ⟨rfl, b4⟩; have B4 := mkHid ((B2.out.trans b3).trans b4))
        | (go_at_call 19; (fail_if_success (have hh := B4)); refine (HP1.out g2 ka _ R2.out B2.out na ma).mono ?_; rintro e w3 ⟨rfl, b3⟩)
        | (go_at_call 13; go_in))
      go_at_call 19
      refine (HPr.out _ B4.out hw).mono ?_
      rintro e w5 ⟨⟨hg, rfl⟩ | ⟨hg, rfl⟩, b5⟩
      · go_wp2_with (first
          | (go_at_call 20; refine (HCt.out _ (B4.out.trans b5) hw hg).mono ?_; rintro e w6 ⟨rfl, b6⟩)
          | (go_at_call 13; go_in))
        go_ret
        exact ⟨rfl, (B4.out.trans b5).trans b6⟩
      · go_wp2_with (go_at_call 13; go_in)
        go_ret
        exact ⟨rfl, B4.out.trans b5⟩
  · obtain ⟨rfl, hca⟩ : ta = [] ∧ ca ≠ 0 := by rcases hza with h | h; exact absurd h ca0; exact h
    have cai : ¬ (ca : Int) = 0 := by omega
    have cab : ((ca : Int) == 0) = false := by simp; omega
    generalize ba (prZ zs) = s2 at *
    generalize (0 < zs.length ∧ goodZ zs) = G at *
    clear hla hza hA hs hT hP
    go_enter Tryd.func8, Tryd.ntmps8
    go_wp2_with fail
    go_at_call 18
    refine HB.out.mono ?_
    rintro e w0 ⟨rfl | ⟨rfl, hw⟩, b0⟩
    · go_wp2_with fail
      go_ret
      exact ⟨rfl, b0⟩
    · go_wp2_with (first
        | (go_at_call 9; refine (HK.out _ (HTab.out _ b0)).mono ?_; rintro e w1 ⟨rfl, b1⟩)
        | (go_at_call 10; refine (HA1.out _ (HTab.out _ (b0.trans b1))).mono ?_; rintro e w2 ⟨pa, ka, rfl, ra, qa, na, ma, b2⟩
           have B4 := mkHid (((b0.trans b1).trans b2).trans (Bl.alloc w2 (.cells #[.int .i64 ca, .int .i64 aa] 26)))))
      go_at_call 19
      refine (HPr.out _ B4.out hw).mono ?_
      rintro e w5 ⟨⟨hg, rfl⟩ | ⟨hg, rfl⟩, b5⟩
      · go_wp2_with (first
          | (go_at_call 20; refine (HCt.out _ (B4.out.trans b5) hw hg).mono ?_; rintro e w6 ⟨rfl, b6⟩)
          | (go_at_call 13; go_in))
        go_ret
        exact ⟨rfl, (B4.out.trans b5).trans b6⟩
      · go_wp2_with (go_at_call 13; go_in)
        go_ret
        exact ⟨rfl, B4.out.trans b5⟩
end Go.Proofs.YtjbacibicnfaeaaDoor
