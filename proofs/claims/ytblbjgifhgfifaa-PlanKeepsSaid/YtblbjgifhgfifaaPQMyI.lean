import Derived.Test.YtblbjgifhgfifaaPQMyO
import Derived.WalkMore
namespace Go.Proofs.Ytblbjgifhgfifaa
open Go.RowKit Go.Maps Go.WideMaps
set_option linter.unusedVariables false
set_option linter.unusedSimpArgs false
/-- what the search comes to: none of the first so many has a name, and whether one holds too much -/
structure MI (l : List Cl) (top : Nat) (own : List ByteArray) (i : Nat) (e : Int) : Prop where
  no : ∀ j, 1 ≤ j → j < i → (clAt l (famAt l top j)).own.any (fun x => inB own x) = false
  e_ : e = if ((affected l top l.length).take i).any (fun c => decide (32 < (fields l (some top) own c).length)) then 137 else 0
theorem MI.one {l : List Cl} {top : Nat} {own : List ByteArray} (ht : top < l.length) : MI l top own 1 (if 32 < (fields l (some top) own top).length then 137 else 0) := by
  refine ⟨fun j h1 h2 => by omega, ?_⟩
  rw [fam_cons l top ht]
  simp
theorem MI.next {l : List Cl} {top : Nat} {own : List ByteArray} {i : Nat} {e : Int} (h : MI l top own i e) (hi : i < (affected l top l.length).length) (hno : (clAt l (famAt l top i)).own.any (fun x => inB own x) = false) :
    MI l top own (i + 1) (if e = 0 then (if 32 < (fields l (some top) own (famAt l top i)).length then 137 else 0) else e) := by
  refine ⟨fun j h1 h2 => ?_, ?_⟩
  · by_cases x : j = i
    · rw [x]; exact hno
    · exact h.no j h1 (by omega)
  · rw [any_take l top _ i hi, h.e_]
    cases ((affected l top l.length).take i).any (fun c => decide (32 < (fields l (some top) own c).length)) with
    | true => simp
    | false => simp
theorem tail_any (l : List Cl) (top : Nat) (p : Nat → Bool) : (affected l top l.length).tail.any p = true ↔ ∃ j, 1 ≤ j ∧ j < (affected l top l.length).length ∧ p (famAt l top j) = true := by
  unfold famAt
  generalize affected l top l.length = A
  rw [List.any_eq_true]
  constructor
  · rintro ⟨x, hx, hp⟩
    obtain ⟨k, hk, e⟩ := List.getElem_of_mem hx
    rw [List.length_tail] at hk
    refine ⟨k + 1, by omega, by omega, ?_⟩
    rw [List.getElem_tail] at e
    rw [List.getD_eq_getElem?_getD, List.getElem?_eq_getElem (by omega)]
    simp only [Option.getD_some]
    rw [e]; exact hp
  · rintro ⟨j, h1, h2, hp⟩
    rw [List.getD_eq_getElem?_getD, List.getElem?_eq_getElem h2] at hp
    obtain ⟨k, rfl⟩ : ∃ k, j = k + 1 := ⟨j - 1, by omega⟩
    refine ⟨A[k + 1], ?_, hp⟩
    rw [← List.getElem_tail (h := by rw [List.length_tail]; omega)]
    exact List.getElem_mem _
theorem MI.done {l : List Cl} {top : Nat} {own : List ByteArray} {e : Int} (h : MI l top own (affected l top l.length).length e) (ht : top < l.length) : belowZ l top own = e := by
  unfold belowZ
  rw [below1_fam l top own ht, below2_fam]
  have h1 : (affected l top l.length).tail.any (fun c => (clAt l c).own.any (fun x => inB own x)) = false := by
    rw [Bool.eq_false_iff]
    intro hx
    obtain ⟨j, j1, j2, j3⟩ := (tail_any l top _).1 hx
    rw [h.no j j1 j2] at j3
    cases j3
  rw [h1, h.e_, List.take_length]
  rfl
theorem MI.found {l : List Cl} {top : Nat} {own : List ByteArray} {i : Nat} (ht : top < l.length) (h1 : 1 ≤ i) (hi : i < (affected l top l.length).length) (hno : (clAt l (famAt l top i)).own.any (fun x => inB own x) = true) : belowZ l top own = 136 := by
  unfold belowZ
  rw [below1_fam l top own ht, (tail_any l top _).2 ⟨i, h1, hi, hno⟩]
  rfl
set_option maxRecDepth 20000 in
set_option maxHeartbeats 4000000 in
theorem mayInherit_ok (l : List Cl) (top : Nat) (own : List ByteArray) (v ov : Value) (b : Nat) (w : World) (h : Rsh w v l top own ov b) (ht : top < l.length) (hn : l.length ≤ 1048576) (hs : Small2 l top own) (hT : Txt l) :
    Calls Try.prog 40 #[.pointer (some ⟨b, 0, none⟩)] w fun e w' => e = .returned (.int .i64 (belowZ l top own)) ∧ Fr [] w w' := by
  have HRS := mkHid h
  have HMH : Hid (∀ V c, Hid (Fr [] w V) → c < l.length → Calls Try.prog 55 #[.pointer (some ⟨b, 0, none⟩), .int .i64 c] V fun e w' => e = .returned (.int .i64 (if 32 < (fields l (some top) own c).length then 137 else 0)) ∧ Hid (Fr [] w w')) := mkHid (fun V c hV hc => by
    refine Calls.mono (mayHold_ok l top own v ov b c V (h.idle hV.out) ht hc hs) ?_
    rintro e w' ⟨rfl, f⟩
    exact ⟨rfl, mkHid (hV.out.trans f (by simp))⟩)
  obtain ⟨gc, oc, cc, ga, bf, m, b4, m4, q5, d5, b6, b3, b1, gs, c6, c3, c1, cs, po, no, co, rfl, rfl, hb, hL, hN, hF, hG, hB, hcp⟩ := h.ex
  obtain ⟨gf, off, rfl, z1, z2⟩ := fam_cell hF (fam_pos ht)
  rw [famAt_zero ht, Nat.add_zero] at z2
  obtain ⟨hcapF, hcapM⟩ := hcp
  have HFc : Hid (∀ V, Hid (Fr [] w V) → ∀ i, i < (affected l top l.length).length → V.cell? ⟨gf, off + i, none⟩ = some (.int .i64 (famAt l top i : Int))) := mkHid (fun V hV i hi => by
    obtain ⟨g', o', e, y1, y2⟩ := fam_cell hF hi
    injection e with e
    injection e with e1 e2
    subst e1
    subst e2
    exact (hV.out.cell (p := ⟨gf, off + i, none⟩) y1 (by simp)).trans y2)
  have hfl := fam_len l top l.length
  have hfp : 0 < (affected l top l.length).length := fam_pos ht
  rw [famZ_len] at hfl hb hcapF
  have HB : Hid (∀ V, Hid (Fr [] w V) → V.cell? ⟨b, 0, none⟩ = some (.slice (some ⟨gc, oc, none⟩) l.length cc) ∧ V.cell? ⟨b, 5, none⟩ = some (.slice (some ⟨gf, off, none⟩) (affected l top l.length).length d5) ∧ V.cell? ⟨b, 4, none⟩ = some (.func (.func 60) #[] #[.pointer (some ⟨b4, 0, none⟩)])) := mkHid (fun V hV => by
    have hb' := (hV.out.block _ (lt_of_heap hb) (by simp)).trans hb
    exact ⟨by rw [cell_in hb']; rfl, by rw [cell_in hb']; rfl, by rw [cell_in hb']; rfl⟩)
  have HX : Hid (∀ V, Hid (Fr [] w V) → ∀ k, k < l.length → ∃ pv cv, V.cell? ⟨gc, oc + k * 4 + 2, none⟩ = some (.slice pv (clAt l k).own.length cv) ∧ (0 < (clAt l k).own.length → ∃ g o, pv = some ⟨g, o, none⟩ ∧ g < V.heap.size ∧ ∀ j, j < (clAt l k).own.length → V.cell? ⟨g, o + j, none⟩ = some (.string ((clAt l k).own.getD j ⟨#[]⟩)))) := mkHid (fun V hV k hk => by
    have hC := h.rdc.idle hV.out
    obtain ⟨p', c', e, hcl⟩ := hC.at_
    obtain ⟨g', o', e2, x1, x2⟩ := hcl (by omega)
    injection e with e _ _
    rw [← e] at e2
    injection e2 with e2
    injection e2 with e3 e4
    subst e3
    subst e4
    obtain ⟨pv, cv, ev, hv⟩ := (hC.own k hk).at_
    exact ⟨pv, cv, by rw [(x2 k hk).2.2.1, ev], hv⟩)
  have HFd : Hid (∀ V s, Hid (Fr [] w V) → s.size ≤ maxLen → Calls Try.prog 60 #[.string s, .pointer (some ⟨b4, 0, none⟩)] V fun e w' => e = .returned (.int .i64 (amongZ own s)) ∧ w' = V) := mkHid (fun V s hV hs => find60 s b4 m4 own V (hN.idle hV.out) hs)
  have HM1 : Hid (MI l top own 1 (if 32 < (fields l (some top) own top).length then 137 else 0)) := mkHid (MI.one ht)
  have HMn : Hid (∀ i e, MI l top own i e → i < (affected l top l.length).length → (clAt l (famAt l top i)).own.any (fun x => inB own x) = false → MI l top own (i + 1) (if e = 0 then (if 32 < (fields l (some top) own (famAt l top i)).length then 137 else 0) else e)) := mkHid (fun i e h1 h2 h3 => h1.next h2 h3)
  have HMd : Hid (∀ e, MI l top own (affected l top l.length).length e → belowZ l top own = e) := mkHid (fun e h1 => h1.done ht)
  have HMf : Hid (∀ i, 1 ≤ i → i < (affected l top l.length).length → (clAt l (famAt l top i)).own.any (fun x => inB own x) = true → belowZ l top own = 136) := mkHid (fun i h1 h2 h3 => MI.found ht h1 h2 h3)
  have HLt : Hid (∀ i, i < (affected l top l.length).length → famAt l top i < l.length) := mkHid (fun i hi => famAt_lt hi)
  have HTx := mkHid hT
  have hR : Hid (Fr [] w w) := mkHid (Fr.refl _ _)
  obtain ⟨k0, k5, k4⟩ := HB.out w hR
  have kf := z2
  have HMHt := mkHid (HMH.out w top hR ht)
  have HFr0 : Hid (∀ V, Hid (Fr [] w V) → V.cell? ⟨b, 5, none⟩ = some (.slice (some ⟨gf, off, none⟩) (affected l top l.length).length d5)) := mkHid (fun V hV => (HB.out V hV).2.1)
  clear h HRS hb hL hN hF hG hB z1 z2 hs hT
  generalize hNN : (affected l top l.length).length = N at *
  clear hNN
  have n1 : (1 : Int) ≤ (N : Int) := by omega
  have n2 : (0 : Int) < (N : Int) := by omega
  have n3 : (1 : Int) ≤ (d5 : Int) := by omega
  generalize belowZ l top own = RES at *
  generalize hE0 : (if 32 < (fields l (some top) own top).length then (137 : Int) else 0) = e0 at *
  clear hE0
  by_cases hd : d5 = 1
  · have hN1 : N = 1 := by omega
    subst hN1
    subst hd
    have hE := HMd.out _ HM1.out
    subst hE
    clear HFc HX HFd HMn HMd HMf HLt HMH HB
    go_enter Try.func40, Try.ntmps40
    go_wp2_with fail
    go_step3
    go_wp2_with (first | (go_at_call 55; refine HMHt.out.mono ?_; rintro e w3 ⟨rfl, hg3⟩; have k6 := HFr0.out _ hg3))
    go_step3
    go_wp2_with fail
    go_loopw [3, 22] (fun u q wr => u = .int .i64 RES ∧ q = .int .i64 0 ∧ wr = w3) (fun _ _ _ => 0)
    case atStart => exact ⟨rfl, rfl, rfl⟩
    case round =>
      obtain ⟨rfl, rfl, rfl⟩ := hrel
      go_wp2_with fail
      try rw [Exit.noGoto_ret]
      go_ret
      exact ⟨rfl, hg3.out⟩
  · have hd2 : 2 ≤ d5 := by omega
    go_enter Try.func40, Try.ntmps40
    go_wp2_with fail
    go_step3
    go_wp2_with (first | (go_at_call 55; refine HMHt.out.mono ?_; rintro e w3 ⟨rfl, hg3⟩; have k6 := HFr0.out _ hg3))
    go_step3
    go_wp2_with fail
    obtain ⟨M, hM⟩ : ∃ M, N - 1 = M := ⟨_, rfl⟩
    obtain ⟨d6, hd6⟩ : ∃ M, d5 - 1 = M := ⟨_, rfl⟩
    rw [hM, hd6]
    have hNM : Hid (N = M + 1) := mkHid (by omega)
    have hMb : M ≤ 1048576 := by omega
    clear hM hd6
    clear hcapF hfl hfp k0 k5 k4 kf n1 n2 n3 HMHt k6 HFr0 hR
    go_loopw [3, 22] (fun u q wr => ∃ (i : Nat) (e : Int), i ≤ M ∧ u = .int .i64 e ∧ q = .int .i64 i ∧ Hid (MI l top own (i + 1) e) ∧ Hid (Fr [] w wr)) (fun _ q _ => M - (intOf q).toNat)
    case atStart => exact ⟨0, e0, Nat.zero_le _, rfl, rfl, HM1, hg3⟩
    case round =>
      obtain ⟨i, e, hi, rfl, rfl, hmi, hfr⟩ := hrel
      have i0 : (0 : Int) ≤ (i : Int) := by omega
      by_cases hlt : i < M
      · have i1 : (i : Int) < (M : Int) := by omega
        have kc := HFc.out _ hfr (i + 1) (by have := hNM.out; omega)
        rw [show off + (i + 1) = off + 1 + i by omega] at kc
        have hp := HLt.out (i + 1) (by have := hNM.out; omega)
        have p0 : (0 : Int) ≤ (famAt l top (i + 1) : Int) := by omega
        have p1 : (famAt l top (i + 1) : Int) < (l.length : Int) := by omega
        obtain ⟨k0, _, k4⟩ := HB.out _ hfr
        obtain ⟨pv, cv, kv, hv⟩ := HX.out _ hfr _ hp
        have HV := mkHid hv
        have HTx2 := mkHid (HTx.out (famAt l top (i + 1)))
        have hol := HTx2.out.2.2.1
        have HMn2 := mkHid (HMn.out (i + 1) e hmi.out (by have := hNM.out; omega))
        have HMf2 := mkHid (HMf.out (i + 1) (by omega) (by have := hNM.out; omega))
        have HMHp := mkHid (HMH.out _ (famAt l top (i + 1)) hfr hp)
        have HFd2 : Hid (∀ s, s.size ≤ maxLen → Calls Try.prog 60 #[.string s, .pointer (some ⟨b4, 0, none⟩)] wr fun e w' => e = .returned (.int .i64 (amongZ own s)) ∧ w' = wr) := mkHid (fun s hs => HFd.out _ s hfr hs)
        clear HFc HX HFd HMn HMd HMf HLt HMH HB HTx hmi HM1 hv hp
        generalize hO : (clAt l (famAt l top (i + 1))).own = O at *
        generalize (if 32 < (fields l (some top) own (famAt l top (i + 1))).length then (137 : Int) else 0) = e2 at *
        generalize famAt l top (i + 1) = pl at *
        clear hO
        obtain ⟨w1, rfl⟩ : ∃ x, x = wr := ⟨_, rfl⟩
        go_wp2_with fail
        go_loopw [3, 36] (fun u q wr => ∃ j : Nat, j ≤ O.length ∧ u = .int .i64 e ∧ q = .int .i64 j ∧ Hid (∀ t, t < j → inB own (O.getD t ⟨#[]⟩) = false) ∧ wr = w1) (fun _ q _ => O.length - (intOf q).toNat)
        case atStart => exact ⟨0, Nat.zero_le _, rfl, rfl, mkHid (fun t h => absurd h (Nat.not_lt_zero _)), rfl⟩
        case round =>
          obtain ⟨j, hj, rfl, rfl, hst, rfl⟩ := hrel
          have j0 : (0 : Int) ≤ (j : Int) := by omega
          by_cases hjl : j < O.length
          · have j1 : (j : Int) < (O.length : Int) := by omega
            obtain ⟨gO, oO, rfl, z1, z2⟩ := HV.out (by omega)
            have kx := z2 j hjl
            have hmem : O.getD j ⟨#[]⟩ ∈ O := by rw [List.getD_eq_getElem?_getD, List.getElem?_eq_getElem hjl]; exact List.getElem_mem hjl
            have hsz := HTx2.out.2.2.2 _ hmem
            have HNx : Hid (inB own (O.getD j ⟨#[]⟩) = false → ∀ t, t < j + 1 → inB own (O.getD t ⟨#[]⟩) = false) := mkHid (fun h t ht => by
              by_cases x : t = j
              · rw [x]; exact h
              · exact hst.out t (by omega))
            have HFo : Hid (inB own (O.getD j ⟨#[]⟩) = true → RES = 136) := mkHid (fun h => HMf2.out (by rw [List.any_eq_true]; exact ⟨_, hmem, h⟩))
            have hin := amongZ_in own (O.getD j ⟨#[]⟩)
            have HCx := mkHid (HFd2.out (O.getD j ⟨#[]⟩) hsz)
            clear z1 z2 hmem hst
            generalize O.getD j ⟨#[]⟩ = s at *
            by_cases ha : 0 ≤ amongZ own s
            · have HE := mkHid (HFo.out (by rw [← hin]; exact decide_eq_true ha))
              clear hin HNx HFo HMn2 HMf2 HMHp HFd2 HV HTx2
              go_wp2_with (first | (go_at_call 60; refine HCx.out.mono ?_; rintro e w9 ⟨rfl, rfl⟩))
              try rw [Exit.noGoto_ret]
              go_ret
              exact ⟨by rw [HE.out]; rfl, hfr.out⟩
            · have HN2 := mkHid (HNx.out (by rw [← hin]; exact decide_eq_false ha))
              clear hin HNx HFo HMn2 HMf2 HMHp HFd2
              go_wp2_with (first | (go_at_call 60; refine HCx.out.mono ?_; rintro e w9 ⟨rfl, rfl⟩))
              go_roundw
              case rel => exact ⟨j + 1, by omega, rfl, by go_num, HN2, by simp⟩
              case measure => simp [intOf]; omega
          · have hje : j = O.length := by omega
            subst hje
            have hno : O.any (fun x => inB own x) = false := by
              rw [List.any_eq_false]
              intro x hx
              obtain ⟨t, ht, e⟩ := List.getElem_of_mem hx
              have := hst.out t ht
              rw [List.getD_eq_getElem?_getD, List.getElem?_eq_getElem ht] at this
              rw [← e]
              simp only [Option.getD_some] at this
              rw [this]
              exact Bool.false_ne_true
            have HM2 := mkHid (HMn2.out hno)
            clear hst hno HV HTx2 HMn2 HMf2 HFd2
            by_cases he : e = 0
            · subst he
              rw [if_pos rfl] at HM2
              go_wp2_with (first | (go_at_call 55; refine HMHp.out.mono ?_; rintro e w9 ⟨rfl, hg9⟩))
              go_roundw
              case rel => exact ⟨i + 1, e2, by omega, rfl, by go_num, HM2, hg9⟩
              case measure => simp [intOf]; omega
            · rw [if_neg he] at HM2
              have hbe : (e == 0) = false := by simpa using he
              go_wp2_with fail
              go_roundw
              case rel => exact ⟨i + 1, e, by omega, rfl, by go_num, HM2, hfr⟩
              case measure => simp [intOf]; omega
      · have hie : i = M := by omega
        subst hie
        have HE := mkHid (HMd.out e (by rw [hNM.out]; exact hmi.out))
        clear HFc HX HFd HMn HMd HMf HLt HMH HB HTx hmi HM1
        go_wp2_with fail
        try rw [Exit.noGoto_ret]
        go_ret
        exact ⟨by rw [HE.out]; rfl, hfr.out⟩
end Go.Proofs.Ytblbjgifhgfifaa
