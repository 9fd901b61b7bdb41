import Derived.Test.YtblbjgifhgfifaaPG28QOrg
namespace Go.Proofs.Ytblbjgifhgfifaa
open Go.RowKit Go.Maps Go.WideMaps
set_option linter.unusedVariables false
set_option linter.unusedSimpArgs false
theorem among_ahead {own : List ByteArray} {i : Nat} (hi : i < own.length) : inB (own.take i) (own.getD i ⟨#[]⟩) = decide (amongZ own (own.getD i ⟨#[]⟩) < (i : Int)) := by
  have hx : own[i]? = some (own.getD i ⟨#[]⟩) := by rw [List.getD_eq_getElem?_getD, List.getElem?_eq_getElem hi]; rfl
  by_cases h : own.getD i ⟨#[]⟩ ∈ own.take i
  · rw [inB_iff.2 h]
    symm
    refine decide_eq_true ?_
    obtain ⟨k, hk⟩ : ∃ k, pos (own.take i) (own.getD i ⟨#[]⟩) = some k := by
      cases hp : pos (own.take i) (own.getD i ⟨#[]⟩) with
      | none => exact absurd h (pos_none.1 hp)
      | some k => exact ⟨k, rfl⟩
    have hp : pos own (own.getD i ⟨#[]⟩) = some k := by
      have := pos_left (m := own.drop i) hk
      rwa [List.take_append_drop] at this
    have := (pos_some hk).1
    unfold amongZ
    rw [hp]
    simp at this ⊢
    omega
  · rw [Bool.eq_false_iff.2 (fun e => h (inB_iff.1 e)), amongZ_some hx h]
    symm
    exact decide_eq_false (by omega)
theorem drop_cons {own : List ByteArray} {i : Nat} (hi : i < own.length) : own.drop i = own.getD i ⟨#[]⟩ :: own.drop (i + 1) := by
  rw [List.drop_eq_getElem_cons hi, List.getD_eq_getElem?_getD, List.getElem?_eq_getElem hi]; rfl
/-- texts that a map may have as keys -/
def Txt (l : List Cl) : Prop := ∀ k, (clAt l k).name.size ≤ maxLen ∧ (clAt l k).sup.size ≤ maxLen ∧ (clAt l k).own.length ≤ 4194304 ∧ ∀ s ∈ (clAt l k).own, s.size ≤ maxLen
theorem Txt.fields {l : List Cl} (h : Txt l) (t : Option Nat) (own : List ByteArray) (ho : ∀ s ∈ own, s.size ≤ maxLen) (c : Nat) : ∀ s ∈ fields l t own c, s.size ≤ maxLen := by
  intro s hs
  unfold Ytblbjgifhgfifaa.fields at hs
  rw [List.mem_flatten] at hs
  obtain ⟨x, hx, hs⟩ := hs
  obtain ⟨d, _, rfl⟩ := List.mem_map.1 hx
  unfold ownOf at hs
  split at hs
  · exact ho s hs
  · exact (h d).2.2.2 s hs
theorem Txt.fieldsO {l : List Cl} (h : Txt l) (k : Option Nat) : ∀ s ∈ fieldsO l none [] k, s.size ≤ maxLen := by
  intro s hs
  cases k with
  | none => simp [Ytblbjgifhgfifaa.fieldsO] at hs
  | some d => exact h.fields none [] (by simp) d s hs
set_option maxRecDepth 20000 in
set_option maxHeartbeats 4000000 in
theorem mayOwn_ok (l : List Cl) (top : Nat) (own : List ByteArray) (v ov : Value) (b : Nat) (w : World) (h : Rsh w v l top own ov b) (ht : top < l.length) (hn : l.length ≤ 1048576) (hs : Small l) (hT : Txt l) (hz : ∀ s ∈ own, s.size ≤ maxLen) :
    Calls Try.prog 39 #[.pointer (some ⟨b, 0, none⟩)] w fun e w' => e = .returned (.int .i64 (listedZ (inherited l top) [] own)) ∧ Fr [] w w' := by
  have HRS := mkHid h
  obtain ⟨gc, oc, cc, ga, bf, m, b4, m4, q5, d5, b6, b3, b1, gs, c6, c3, c1, cs, po, no, co, rfl, rfl, hb, hL, hN, hF, hG, hB, hcp⟩ := h.ex
  obtain ⟨gf, off, rfl, z1, z2⟩ := fam_cell hF (fam_pos ht)
  rw [famAt_zero ht, Nat.add_zero] at z2
  have hfl := fam_len l top l.length
  have hfp : 0 < (famZ l top l.length).length := by rw [famZ_len]; exact fam_pos ht
  obtain ⟨nf, hnf⟩ : ∃ n, (famZ l top l.length).length = n := ⟨_, rfl⟩
  rw [hnf] at hfp hfl hb
  have f0 : (0 : Int) < (nf : Int) := by omega
  have t0 : (0 : Int) ≤ (top : Int) := by omega
  have t1 : (top : Int) < (l.length : Int) := by omega
  have HI : Hid (∀ s ∈ inherited l top, s.size ≤ maxLen) := mkHid (fun s hs => hT.fieldsO (upN l top) s hs)
  have HIl : Hid ((inherited l top).length ≤ 8796093022208) := mkHid (by
    unfold inherited
    cases hu : upN l top with
    | none => simp [fieldsO]
    | some d => exact hs d (upN_len hu))
  have HC61 : Hid (∀ V, Hid (Fr [] w V) → Calls Try.prog 61 #[.int .i64 (zO (upN l top)), .pointer (some ⟨b6, 0, none⟩), .pointer (some ⟨b3, 0, none⟩), .pointer (some ⟨b1, 0, none⟩)] V fun e w' => ∃ p d n, e = .returned (.slice p n d) ∧ Hid (RdS w' (.slice p n d) (inherited l top)) ∧ Hid (Fr [] w w')) := mkHid (fun V hV => by
    refine Calls.mono (gatherO_ok l b6 b3 b1 gs (upN l top) V (fun d hd => upN_len hd) (hG.idle hV.out) hs) ?_
    rintro e w' ⟨p, d, rfl, hm⟩
    exact ⟨p, d, _, rfl, mkHid (hm.rd HIl.out), mkHid (hV.out.trans hm.fr (by simp))⟩)
  have HC51 : Hid (∀ V p n d, Hid (Fr [] w V) → Hid (RdS V (.slice p n d) (inherited l top)) → Calls Try.prog 51 #[.slice p n d, .func (.func 52) #[] #[]] V fun e w' => ∃ b2 m2, e = .returned (.func (.func 60) #[] #[.pointer (some ⟨b2, 0, none⟩)]) ∧ Hid (Fnd w' b2 m2 (inherited l top)) ∧ Hid (Fr [] w w')) := mkHid (fun V p n d hV hR => by
    refine Calls.mono (finderS_ok _ _ V hR.out HI.out) ?_
    rintro e w' ⟨b2, m2, rfl, q1, q2, _⟩
    exact ⟨b2, m2, rfl, mkHid q1, mkHid (hV.out.trans q2 (by simp))⟩)
  have HCC : Hid (∀ V, Hid (Fr [] w V) → V.cell? ⟨b, 1, none⟩ = some (.slice (some ⟨ga, 0, none⟩) l.length l.length) ∧ V.cell? ⟨b, 5, none⟩ = some (.slice (some ⟨gf, off, none⟩) nf d5) ∧ V.cell? ⟨b, 6, none⟩ = some (.func (.func 61) #[] #[.pointer (some ⟨b6, 0, none⟩), .pointer (some ⟨b3, 0, none⟩), .pointer (some ⟨b1, 0, none⟩)]) ∧ V.cell? ⟨gf, off, none⟩ = some (.int .i64 (top : Int)) ∧ V.cell? ⟨ga, top, none⟩ = some (.int .i64 (zO (upN l top)))) := mkHid (fun V hV => by
    have hb' := (hV.out.block _ (lt_of_heap hb) (by simp)).trans hb
    exact ⟨by rw [cell_in hb']; rfl, by rw [cell_in hb']; rfl, by rw [cell_in hb']; rfl, (hV.out.cell (p := ⟨gf, off, none⟩) z1 (by simp)).trans z2, (hL.above.keep hV.out (by simp)).cell ht⟩)
  have HK3 : Hid (∀ V, Hid (Fr [] w V) → V.cell? ⟨b, 3, none⟩ = some (.slice po no co) ∧ V.cell? ⟨b, 4, none⟩ = some (.func (.func 60) #[] #[.pointer (some ⟨b4, 0, none⟩)])) := mkHid (fun V hV => by
    have hb' := (hV.out.block _ (lt_of_heap hb) (by simp)).trans hb
    exact ⟨by rw [cell_in hb']; rfl, by rw [cell_in hb']; rfl⟩)
  have HO := mkHid h.rds
  have hos := h.rds.short
  have HN := mkHid hN
  have HZ := mkHid hz
  have hR : Hid (Fr [] w w) := mkHid (Fr.refl _ _)
  clear hcp h hb hL hN hF hG hB z1 z2 hs hT hz HI HIl HRS hnf hfl
  generalize inherited l top = inh at *
  generalize zO (upN l top) = zu at *
  go_enter Try.func39, Try.ntmps39
  go_wp2_with fail
  go_region_held3 (fun V => V.cell? ⟨b, 1, none⟩ = some (.slice (some ⟨ga, 0, none⟩) l.length l.length) ∧ V.cell? ⟨b, 5, none⟩ = some (.slice (some ⟨gf, off, none⟩) nf d5) ∧ V.cell? ⟨b, 6, none⟩ = some (.func (.func 61) #[] #[.pointer (some ⟨b6, 0, none⟩), .pointer (some ⟨b3, 0, none⟩), .pointer (some ⟨b1, 0, none⟩)]) ∧ V.cell? ⟨gf, off, none⟩ = some (.int .i64 (top : Int)) ∧ V.cell? ⟨ga, top, none⟩ = some (.int .i64 zu))
    (first | exact HCC.out _ hg4 | exact HCC.out _ hg3 | exact HCC.out _ (hidD hR) | exact HCC.out _ hR)
    (first
      | (go_at_call 61; refine (HC61.out _ (hidD hR)).mono ?_; rintro e w3 ⟨p3, d3, n3, rfl, hq3, hg3⟩)
      | (go_at_call 51; refine (HC51.out _ _ _ _ hg3 hq3).mono ?_; rintro e w4 ⟨b2, m2, rfl, hq4, hg4⟩))
  obtain ⟨r3, r4⟩ := HK3.out _ hg4
  have HN4 := mkHid (HN.out.idle hg4.out)
  have HO4 := mkHid (HO.out.idle hg4.out)
  obtain ⟨po', co', eo, ho1⟩ := HO4.out.at_
  injection eo with eo1 eo2 eo3
  subst eo1
  subst eo2
  have HO1 := mkHid ho1
  clear HC61 HC51 HCC ho1 HN HO HK3 eo3
  go_wp2_with fail
  go_loopw [30] (fun q wr => ∃ i : Nat, i ≤ own.length ∧ q = .int .i64 i ∧ Hid (listedZ inh [] own = listedZ inh (own.take i) (own.drop i)) ∧ wr = w4) (fun q _ => own.length - (intOf q).toNat)
  case atStart => exact ⟨0, Nat.zero_le _, rfl, mkHid rfl, rfl⟩
  case round =>
    obtain ⟨i, hi, rfl, hst, rfl⟩ := hrel
    have i0 : (0 : Int) ≤ (i : Int) := by omega
    by_cases hlt : i < own.length
    · have i1 : (i : Int) < (own.length : Int) := by omega
      obtain ⟨go, oo, rfl, x1, x2⟩ := HO1.out (by omega)
      have k1 := x2 i hlt
      have hsz := HZ.out (own.getD i ⟨#[]⟩) (by rw [List.getD_eq_getElem?_getD, List.getElem?_eq_getElem hlt]; exact List.getElem_mem hlt)
      have hs0 := hst.out
      rw [drop_cons hlt] at hs0
      have hs1 : listedZ inh (own.take i) (own.getD i ⟨#[]⟩ :: own.drop (i + 1)) = if fieldB (own.getD i ⟨#[]⟩) = false then 133 else if inB (own.take i) (own.getD i ⟨#[]⟩) then 134 else if inB inh (own.getD i ⟨#[]⟩) then 135 else listedZ inh (own.take i ++ [own.getD i ⟨#[]⟩]) (own.drop (i + 1)) := rfl
      rw [hs1, among_ahead hlt, ← amongZ_in, take_snoc hlt] at hs0
      have HS := mkHid hs0
      have HPf := mkHid (pField_ok (own.getD i ⟨#[]⟩) wr)
      clear hst hs0 hs1 x1 x2 HO1
      generalize own.getD i ⟨#[]⟩ = s at *
      cases hfb : fieldB s with
      | false =>
        rw [hfb] at HPf HS
        have HE : Hid (listedZ inh [] own = 133) := mkHid (by rw [HS.out]; rfl)
        clear HS hfb
        go_wp2_with (first
          | (go_at_call 7; refine HPf.out.mono ?_; rintro e w9 ⟨rfl, rfl⟩)
          | (go_at_call 60; refine (find60 _ _ _ _ _ (by first | exact HN4.out | exact hq4.out) hsz).mono ?_; rintro e w9 ⟨rfl, rfl⟩))
        go_ret
        exact ⟨by rw [HE.out]; rfl, hg4.out⟩
      | true =>
        rw [hfb] at HPf HS
        clear hfb
        by_cases ha : amongZ own s < (i : Int)
        · have HE : Hid (listedZ inh [] own = 134) := mkHid (by rw [HS.out, decide_eq_true ha]; rfl)
          clear HS
          go_wp2_with (first
          | (go_at_call 7; refine HPf.out.mono ?_; rintro e w9 ⟨rfl, rfl⟩)
          | (go_at_call 60; refine (find60 _ _ _ _ _ (by first | exact HN4.out | exact hq4.out) hsz).mono ?_; rintro e w9 ⟨rfl, rfl⟩))
          go_ret
          exact ⟨by rw [HE.out]; rfl, hg4.out⟩
        · by_cases hb : 0 ≤ amongZ inh s
          · have HE : Hid (listedZ inh [] own = 135) := mkHid (by rw [HS.out, decide_eq_false ha, decide_eq_true hb]; rfl)
            clear HS
            go_wp2_with (first
          | (go_at_call 7; refine HPf.out.mono ?_; rintro e w9 ⟨rfl, rfl⟩)
          | (go_at_call 60; refine (find60 _ _ _ _ _ (by first | exact HN4.out | exact hq4.out) hsz).mono ?_; rintro e w9 ⟨rfl, rfl⟩))
            go_ret
            exact ⟨by rw [HE.out]; rfl, hg4.out⟩
          · have HE : Hid (listedZ inh [] own = listedZ inh (own.take (i + 1)) (own.drop (i + 1))) := mkHid (by rw [HS.out, decide_eq_false ha, decide_eq_false hb]; rfl)
            clear HS
            go_wp2_with (first
          | (go_at_call 7; refine HPf.out.mono ?_; rintro e w9 ⟨rfl, rfl⟩)
          | (go_at_call 60; refine (find60 _ _ _ _ _ (by first | exact HN4.out | exact hq4.out) hsz).mono ?_; rintro e w9 ⟨rfl, rfl⟩))
            go_roundw
            case rel => exact ⟨i + 1, by omega, by go_num, HE, by simp⟩
            case measure => simp [intOf]; omega
    · have hie : i = own.length := by omega
      subst hie
      have HE : Hid (listedZ inh [] own = 0) := mkHid (by rw [hst.out, List.drop_length]; rfl)
      clear hst HO1
      go_wp2_with fail
      go_ret
      exact ⟨by rw [HE.out]; rfl, hg4.out⟩
end Go.Proofs.Ytblbjgifhgfifaa
