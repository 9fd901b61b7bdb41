import Derived.Test.YtclkoffnjiiioaaGreatDoorG21IRa
import Derived.Test.YtclkoffnjiiioaaGreatDoorG03JRd3
import Derived.Test.YtclkoffnjiiioaaGreatDoorG09JRdD
namespace Go.Proofs.YtclkoffnjiiioaaGreatDoor
open Go.RowKit
set_option linter.unusedVariables false
set_option linter.unusedSimpArgs false
attribute [local go_sem ↓] Go.wp_at_zero Go.wp_at_succ
set_option maxRecDepth 100000 in
set_option maxHeartbeats 8000000 in
theorem qJR2s (W : World) (r : Nat) (S : Bs) (a d : Nat) (bad : Bool) (h : QB W r S a d bad) (hP : Pw W) (hs : S[a]? = some 45) : Calls Tryz.prog 40 #[pt r] W fun e w' => NuR W r S a d bad e w' := by
  have hsz := h.small.1
  have hle := h.le
  have hss : (bA S).size = S.length := bA_size S
  have HB : Hid (∀ V, Fr [] W V → QB V r S a d bad) := fun V f => h.fr f (by simp)
  have c0 : W.cell? ⟨r, 0, none⟩ = some (.string (bA S)) := h.cl 0
  have c1 : W.cell? ⟨r, 1, none⟩ = some (.int .i64 (a : Int)) := h.cl 1
  clear h
  obtain ⟨z, hz⟩ : ∃ z, z = a + sgn S a := ⟨_, rfl⟩
  obtain ⟨n1, hn1⟩ : ∃ n, n = ((S.drop z).takeWhile dgB).length := ⟨_, rfl⟩
  have hpl := piece_len S a
  rw [← hz, ← hn1] at hpl
  have htw := tw_get (p := dgB) (S.drop z)
  rw [← hn1] at htw
  have hzl : z ≤ S.length := by
    rw [hz]
    unfold sgn
    by_cases hq : S[a]? = some 45
    · have := (List.getElem?_eq_some_iff.1 hq).1
      rw [if_pos hq]
      omega
    · rw [if_neg hq]
      omega
  have hnl : z + n1 ≤ S.length := by
    have := (List.takeWhile_prefix (l := S.drop z) dgB).length_le
    rw [← hn1, List.length_drop] at this
    omega
  have HD1 : Hid (∀ j, j < n1 → ∃ b, S[z + j]? = some b ∧ dgB b = true) := fun j hj => by
    obtain ⟨b, h1, h2⟩ := htw.1 j hj
    rw [List.getElem?_drop] at h1
    exact ⟨b, h1, h2⟩
  have HD2 : Hid (z + n1 = S.length ∨ ∃ b, S[z + n1]? = some b ∧ dgB b = false) := by
    rcases htw.2 with h1 | ⟨b, h1, h2⟩
    · left; rw [h1, List.length_drop]; omega
    · right; rw [List.getElem?_drop] at h1; exact ⟨b, h1, h2⟩
  obtain ⟨P, hPq⟩ : ∃ P, P = pieceQ (S.drop a) := ⟨_, rfl⟩
  obtain ⟨pl, hpl2⟩ : ∃ pl, pl = P.length := ⟨_, rfl⟩
  rw [← hPq, ← hpl2] at hpl
  have hpe : a + pl ≤ S.length := by omega
  have hzp : z + n1 = a + pl := by omega
  have HZp := mkHid hzp
  have HPj : Hid (∀ j, j < pl → ∃ b, S[a + j]? = some b ∧ P.take (j + 1) = P.take j ++ [b] ∧ (b ≠ 45 → 48 ≤ b.toNat ∧ b.toNat ≤ 57)) := fun j hj => by
    have hpj : j < P.length := by omega
    have e1 := piece_pre (S.drop a)
    rw [← hPq] at e1
    refine ⟨P[j], ?_, by rw [List.take_add_one, List.getElem?_eq_getElem hpj]; rfl, piece_dg (S.drop a) _ (by rw [← hPq]; exact List.getElem_mem hpj)⟩
    rw [← List.getElem?_drop, e1, List.getElem?_append_left hpj, List.getElem?_eq_getElem hpj]
  have HPq := mkHid hPq
  have HPl := mkHid hpl2
  clear htw hn1 hPq hpl2
  obtain ⟨hi, hb⟩ := byte_at S a 45 hs
  have a0 : (0 : Int) ≤ (a : Int) := by omega
  have a1 : (a : Int) < (S.length : Int) := by omega
  have hd : decide ((a : Int) < (S.length : Int)) = true := decide_eq_true a1
  have hz1 : z = a + 1 := by rw [hz]; unfold sgn; rw [if_pos hs]
  have HSg : Hid (S[a]? = some 45 ∧ 1 ≤ pl) := ⟨hs, by rw [hpl]; unfold sgn; rw [if_pos hs]; omega⟩
  have HZ1 := mkHid hz1
  clear hs hz hz1 hpl hzp
  go_enter Tryz.func40, Tryz.ntmps40
  go_wp2_with fail
  go_loopw [3] (fun q wr => W = wr ∧ ∃ j : Nat, j ≤ n1 ∧ q = .int .i64 ((z + j : Nat) : Int)) (fun q _ => S.length - (intOf q).toNat)
  case atStart => exact ⟨rfl, 0, by omega, by rw [HZ1.out]; simp⟩
  case round =>
    obtain ⟨rfl, j, hj, rfl⟩ := hrel
    have j0 : (0 : Int) ≤ ((z + j : Nat) : Int) := by omega
    have hwj : IntKind.i64.wrap (((z + j : Nat) : Int) + 1) = ((z + j : Nat) : Int) + 1 := iwrap_id (by omega) (by omega)
    by_cases hlt : j < n1
    · obtain ⟨b, hb, hdg⟩ := HD1.out j hlt
      obtain ⟨hi2, hb2⟩ := byte_at S (z + j) b hb
      have j1 : ((z + j : Nat) : Int) < (S.length : Int) := by omega
      have hd1 : decide (((z + j : Nat) : Int) < (S.length : Int)) = true := decide_eq_true j1
      unfold dgB at hdg
      rw [Bool.and_eq_true] at hdg
      have g1 := of_decide_eq_true hdg.1
      have g2 := of_decide_eq_true hdg.2
      have hd2 : decide ((b.toNat : Int) ≥ 48) = true := decide_eq_true (by omega)
      have hd3 : decide ((b.toNat : Int) ≤ 57) = true := decide_eq_true (by omega)
      clear hb hdg
      generalize hzj : z + j = zj at *
      go_wp2_with fail
      go_roundw
      case rel => exact ⟨trivial, j + 1, by omega, by congr 1; omega⟩
      case measure => simp [intOf]; omega
    · have hjn : j = n1 := by omega
      subst hjn
      have HOut := HD2.out
      have hen : z + j = a + pl := HZp.out
      rw [hen] at HOut j0 hwj ⊢
      clear hlt hj HD1 HD2 hen hnl hzl HZp HZ1
      obtain ⟨en, hen⟩ : ∃ en, en = a + pl := ⟨_, rfl⟩
      rw [← hen] at HOut j0 hwj ⊢
      have hel : en ≤ S.length := by rw [hen]; exact hpe
      have hor : (decide ((en : Int) < (S.length : Int)) = false ∧ ¬ (en : Int) < (S.length : Int)) ∨ ∃ b, ∃ hi : en < (bA S).size, (bA S)[en] = b ∧ decide ((en : Int) < (S.length : Int)) = true ∧ (en : Int) < (S.length : Int) ∧ (decide ((b.toNat : Int) ≥ 48) = false ∨ (decide ((b.toNat : Int) ≥ 48) = true ∧ decide ((b.toNat : Int) ≤ 57) = false)) := by
        rcases HOut with h1 | ⟨b, h1, h2⟩
        · left; exact ⟨decide_eq_false (by omega), by omega⟩
        · right
          obtain ⟨hi2, hb2⟩ := byte_at S en b h1
          have hl2 : (en : Int) < (S.length : Int) := by omega
          refine ⟨b, hi2, hb2, decide_eq_true hl2, hl2, ?_⟩
          by_cases q : 48 ≤ b.toNat
          · right
            refine ⟨decide_eq_true (by omega), decide_eq_false ?_⟩
            unfold dgB at h2
            rw [decide_eq_true q, Bool.true_and] at h2
            have := of_decide_eq_false h2
            omega
          · left; exact decide_eq_false (by omega)
      have HEn := mkHid hen
      clear HOut hen
      rcases hor with ⟨hd1, hd0⟩ | ⟨b, hi2, hb2, hd1, hl2, hd2 | ⟨hd2, hd3⟩⟩
      all_goals
        go_wp2_with fail
        go_loopw [4, 5] (fun nv q wr => W = wr ∧ ∃ j : Nat, j ≤ pl ∧ q = .int .i64 ((a + j : Nat) : Int) ∧ nv = .int .i64 (accQ (P.take j) 0)) (fun _ q _ => S.length - (intOf q).toNat)
        case atStart => exact ⟨rfl, 0, by omega, by simp, by simp [accQ]⟩
        case round =>
          obtain ⟨rfl, j, hj, rfl, rfl⟩ := hrel
          have hE2 := HEn.out
          have k0 : (0 : Int) ≤ ((a + j : Nat) : Int) := by omega
          have hwk : IntKind.i64.wrap (((a + j : Nat) : Int) + 1) = ((a + j : Nat) : Int) + 1 := iwrap_id (by omega) (by omega)
          by_cases hlt : j < pl
          · obtain ⟨b3, hb3, htk, hdg⟩ := HPj.out j hlt
            obtain ⟨hi3, hb4⟩ := byte_at S (a + j) b3 hb3
            have k1 : ((a + j : Nat) : Int) < (S.length : Int) := by omega
            have k5 : ((a + j : Nat) : Int) < (en : Int) := by omega
            have hd5 : decide (((a + j : Nat) : Int) < (en : Int)) = true := decide_eq_true (by omega)
            have HRel : Hid (accQ (P.take (j + 1)) 0 = if b3 = 45 then accQ (P.take j) 0 else IntKind.i64.wrap (IntKind.i64.wrap (10 * accQ (P.take j) 0) - ((b3.toNat - 48 : Nat) : Int))) := by
              rw [htk, acc_app]
              rfl
            by_cases h45 : b3 = 45
            · have hm : ((b3.toNat : Int) != 45) = false := by rw [h45]; rfl
              rw [if_pos h45] at HRel
              clear hb3 htk hdg h45 hE2
              generalize hzj : a + j = zj at *
              go_wp2_with fail
              go_roundw
              case rel => exact ⟨trivial, j + 1, by omega, by congr 1; omega, by rw [HRel.out]⟩
              case measure => simp [intOf]; omega
            · have hm : ((b3.toNat : Int) != 45) = true := by
                have : ¬ (b3.toNat : Int) = 45 := fun e => h45 (by have : b3.toNat = 45 := by omega
                                                                   exact UInt8.toNat_inj.1 this)
                simpa using this
              rw [if_neg h45] at HRel
              obtain ⟨g1, g2⟩ := hdg h45
              have hu8 : IntKind.u8.wrap ((b3.toNat : Int) - 48) = ((b3.toNat - 48 : Nat) : Int) := by
                rw [show (b3.toNat : Int) - 48 = ((b3.toNat - 48 : Nat) : Int) by omega]
                exact u8wrap _ (by omega)
              have hi64 : IntKind.i64.wrap ((b3.toNat - 48 : Nat) : Int) = ((b3.toNat - 48 : Nat) : Int) := iwrap_id (by omega) (by omega)
              generalize accQ (P.take j) 0 = N at *
              clear hb3 htk hdg h45 hE2 g1 g2
              generalize hzj : a + j = zj at *
              go_wp2_with fail
              go_roundw
              case rel => exact ⟨trivial, j + 1, by omega, by congr 1; omega, by rw [HRel.out, w64, w64]⟩
              case measure => simp [intOf]; omega
          · have hjp : j = pl := by omega
            subst hjp
            have hPl := HPl.out
            have hacc : accQ (P.take j) 0 = accQ P 0 := by rw [List.take_of_length_le (by omega)]
            rw [hacc]
            obtain ⟨N, hN⟩ : ∃ N, N = accQ P 0 := ⟨_, rfl⟩
            obtain ⟨v, hv⟩ : ∃ v, v = valQ P := ⟨_, rfl⟩
            have hrv : r64 v := by rw [hv]; exact val_r64 P
            rw [← hN]
            have hh : P.head? = some 45 := by
              obtain ⟨b5, hb5, htk, -⟩ := HPj.out 0 (by have := HSg.out.2; omega)
              have e45 : b5 = 45 := by have h5 := HSg.out.1; rw [Nat.add_zero] at hb5; rw [hb5] at h5; exact Option.some.inj h5
              cases hP5 : P with
              | nil => rw [hP5] at htk; simp at htk
              | cons c t => rw [hP5] at htk; simp at htk; rw [htk, e45]; rfl
            have hvN : v = N := by
              rw [hv, hN]
              unfold valQ
              rw [if_neg (fun q => q.2 hh)]
            have q1 : (a : Int) < (en : Int) := by have := HSg.out.2; omega
            have q2 : decide ((a : Int) < (en : Int)) = true := decide_eq_true q1
            have q5 : (((45 : UInt8).toNat : Int) != 45) = false := rfl
            have HIt : Hid (∀ V, Fr [] W V → Calls Tryz.prog 46 #[.int .i64 v] V fun e w' => e = .returned (.string (bA (Lib.itoa v))) ∧ Fr [] V w') := fun V fV => itoa_ok v hrv V (hP.idle fV)
            have hae : (a : Int) ≤ (en : Int) := by omega
            have hel2 : (en : Int) ≤ (S.length : Int) := by omega
            have hx : (bA S).extract a en = bA P := by
              rw [ext_is S a en (by omega) hel, hE2, Nat.add_sub_cancel_left]
              have e1 := piece_pre (S.drop a)
              rw [← HPq.out] at e1
              rw [e1, hPl, List.take_left]
            have HX := mkHid hx
            clear hx
            have HFin : Hid (∀ V, Fr [] W V → V.cell? ⟨r, 0, none⟩ = some (.string (bA S)) ∧ V.cell? ⟨r, 1, none⟩ = some (.int .i64 (a : Int)) ∧ V.frozen? ⟨r, 1, none⟩ = false ∧ V.cell? ⟨r, 3, none⟩ = some (.bool bad) ∧ V.frozen? ⟨r, 3, none⟩ = false ∧ (Lib.itoa v = P → NuR W r S a d bad (.returned (.int .i64 v)) (V.setCell ⟨r, 1, none⟩ (.int .i64 (en : Int)))) ∧ (Lib.itoa v ≠ P → NuR W r S a d bad (.returned (.int .i64 0)) (V.setCell ⟨r, 3, none⟩ (.bool true)))) := fun V fV => by
              have hq := HB.out V fV
              refine ⟨hq.cl 0, hq.cl 1, hq.fz 1, hq.cl 3, hq.fz 3, fun hi => ?_, fun hi => ?_⟩
              · refine ⟨(fV.mono (S' := [r]) (by simp)).trans (fr_set V r 1 _) (by simp), ?_⟩
                have hn : numQ (S.drop a) = some (v, (S.drop a).drop P.length) := by
                  unfold numQ
                  rw [← HPq.out, ← hv, if_pos hi]
                rw [hn]
                refine ⟨rfl, ?_⟩
                rw [← HPq.out, ← hPl, ← hE2]
                exact hq.setAt en hel
              · refine ⟨(fV.mono (S' := [r]) (by simp)).trans (fr_set V r 3 _) (by simp), ?_⟩
                have hn : numQ (S.drop a) = none := by
                  unfold numQ
                  rw [← HPq.out, ← hv, if_neg hi]
                rw [hn]
                exact ⟨rfl, hq.setBad true⟩
            have hd5 : decide (((a + j : Nat) : Int) < (en : Int)) = false := decide_eq_false (by omega)
            have hd6 : ¬ ((a + j : Nat) : Int) < (en : Int) := by omega
            clear hv hrv hN hacc hE2 hPl hlt HPj HPq HPl HB hP
            generalize a + j = zj at *
            subst hvN
            all_goals
                go_wp2_with fail
                go_quiet (fail)
                rename_i nq
                go_wp2_with fail
                have HS0 : Hid ((W.drewN nq).drew.cell? ⟨r, 0, none⟩ = some (.string (bA S)) ∧ (W.drewN nq).drew.cell? ⟨r, 1, none⟩ = some (.int .i64 (a : Int)) ∧ Hid (Fr [] W (W.drewN nq).drew)) := ⟨(HFin.out _ (((Fr.refl [] W).dn nq).tr0 (Fr.drew [] _))).1, (HFin.out _ (((Fr.refl [] W).dn nq).tr0 (Fr.drew [] _))).2.1, ((Fr.refl [] W).dn nq).tr0 (Fr.drew [] _)⟩
                refine wp_region_h (S := fun V => V.cell? ⟨r, 0, none⟩ = some (.string (bA S)) ∧ V.cell? ⟨r, 1, none⟩ = some (.int .i64 (a : Int)) ∧ Hid (Fr [] W V)) (by kernel_rfl) HS0.out (fun hHeld => ?_)
                refine wpAnyH_take (i := 0) (v := ?_) rfl (by kernel_rfl) (by kernel_rfl) (by kernel_rfl) (fun _ _ _ h => h) (Or.inl ⟨by rfl, ?_⟩) (by assumption) ?_
                rotate_left
                · (intro w hSw; (try dsimp only at hSw); first | (go_simp; done) | (go_simp; with_reducible rfl))
                try simp only [Act.put, qT, qZ, qS, qB, qY, qX]
                refine wpAnyH_take (i := 2) (v := ?_) rfl (by kernel_rfl) (by kernel_rfl) (by kernel_rfl) (fun _ _ _ h => h) (Or.inl ⟨by rfl, ?_⟩) (by assumption) ?_
                rotate_left
                · (intro w hSw; (try dsimp only at hSw); first | (go_simp; done) | (go_simp; with_reducible rfl))
                try simp only [Act.put, qT, qZ, qS, qB, qY, qX]
                refine wpAnyH_take (i := 3) (v := ?_) rfl (by kernel_rfl) (by kernel_rfl) (by kernel_rfl) (fun _ _ _ h => h) (Or.inl ⟨by rfl, ?_⟩) (by assumption) ?_
                rotate_left
                · (intro w hSw; (try dsimp only at hSw); first | (go_simp; done) | (go_simp; with_reducible rfl))
                try simp only [Act.put, qT, qZ, qS, qB, qY, qX]
                refine wpAnyH_take (i := 4) (v := ?_) rfl (by kernel_rfl) (by kernel_rfl) (by kernel_rfl) (fun _ _ _ h => h) (Or.inl ⟨by rfl, ?_⟩) (by assumption) ?_
                rotate_left
                · (intro w hSw; (try dsimp only at hSw); first | (go_simp; done) | (go_simp; with_reducible rfl))
                try simp only [Act.put, qT, qZ, qS, qB, qY, qX]
                refine wpAnyH_take (i := 5) (v := ?_) rfl (by kernel_rfl) (by kernel_rfl) (by kernel_rfl) (fun _ _ _ h => h) (Or.inl ⟨by rfl, ?_⟩) (by assumption) ?_
                rotate_left
                · (intro w hSw; (try dsimp only at hSw); first | (go_simp; done) | (go_simp; with_reducible rfl))
                try simp only [Act.put, qT, qZ, qS, qB, qY, qX]
                refine wpAnyH_take (i := 6) (v := ?_) rfl (by kernel_rfl) (by kernel_rfl) (by kernel_rfl) (fun _ _ _ h => h) (Or.inl ⟨by rfl, ?_⟩) (by assumption) ?_
                rotate_left
                · (intro w hSw; (try dsimp only at hSw); first | (go_simp; done) | (go_simp; with_reducible rfl))
                try simp only [Act.put, qT, qZ, qS, qB, qY, qX]
                refine wpAnyH_take (i := 7) (v := ?_) rfl (by kernel_rfl) (by kernel_rfl) (by kernel_rfl) (fun _ _ _ h => h) (Or.inl ⟨by rfl, ?_⟩) (by assumption) ?_
                rotate_left
                · (intro w hSw; (try dsimp only at hSw); first | (go_simp; done) | (go_simp; with_reducible rfl))
                try simp only [Act.put, qT, qZ, qS, qB, qY, qX]
                refine wpAnyH_take (i := 8) (v := ?_) rfl (by kernel_rfl) (by kernel_rfl) (by kernel_rfl) (fun _ _ _ h => h) (Or.inl ⟨by rfl, ?_⟩) (by assumption) ?_
                rotate_left
                · (intro w hSw; (try dsimp only at hSw); first | (go_simp; done) | (go_simp; with_reducible rfl))
                try simp only [Act.put, qT, qZ, qS, qB, qY, qX]
                refine wpAnyH_take (i := 9) (v := ?_) rfl (by kernel_rfl) (by kernel_rfl) (by kernel_rfl) (fun _ _ _ h => h) (Or.inl ⟨by rfl, ?_⟩) (by assumption) ?_
                rotate_left
                · (intro w hSw; (try dsimp only at hSw); first | (go_simp; done) | (go_simp; with_reducible rfl))
                try simp only [Act.put, qT, qZ, qS, qB, qY, qX]
                refine wpAnyH_take (i := 10) (v := ?_) rfl (by kernel_rfl) (by kernel_rfl) (by kernel_rfl) (fun _ _ _ h => h) (Or.inl ⟨by rfl, ?_⟩) (by assumption) ?_
                rotate_left
                · (intro w hSw; (try dsimp only at hSw); first | (go_simp; done) | (go_simp; with_reducible rfl))
                try simp only [Act.put, qT, qZ, qS, qB, qY, qX]
                refine wpAnyH_take (i := 11) (v := ?_) rfl (by kernel_rfl) (by kernel_rfl) (by kernel_rfl) (fun _ _ _ h => h) (Or.inl ⟨by rfl, ?_⟩) (by assumption) ?_
                rotate_left
                · (intro w hSw; (try dsimp only at hSw); first | (go_simp; done) | (go_simp; with_reducible rfl))
                try simp only [Act.put, qT, qZ, qS, qB, qY, qX]
                refine wpH_one (i := 1) (by kernel_rfl) rfl (fun K hK => ?_)
                go_simp
                refine (HIt.out _ ((Fr.refl [] W).dn _)).mono ?_
                rintro e w1 ⟨rfl, f1'⟩
                have f1 : Fr [] W w1 := ((Fr.refl [] W).dn _).tr0 f1'
                obtain ⟨y0, y1, z1, y3, z3, hF1, hF2⟩ := HFin.out w1 f1
                have HF1 := mkHid hF1
                have HF2 := mkHid hF2
                have HF := mkHid f1
                clear f1 f1' hF1 hF2 c0 c1 HFin HIt HS0 hHeld
                try go_wp2_with fail
                refine hK.out _ _ ⟨y0, y1, HF⟩ (fun hHeld => ?_)
                clear hK K
                try simp only [Act.put, qT, qZ, qS, qB, qY, qX]
                by_cases hit : Lib.itoa v = P
                all_goals
                  have HHi := mkHid hit
                  first
                    | (have hbb : ((bA (Lib.itoa v)).toList == ((bA S).extract a en).toList) = true := by rw [HX.out, ba_eqb]; exact decide_eq_true hit)
                    | (have hbb : ((bA (Lib.itoa v)).toList == ((bA S).extract a en).toList) = false := by rw [HX.out, ba_eqb]; exact decide_eq_false hit)
                  clear hit
                  refine wpAnyH_take (i := 12) (v := ?_) rfl (by kernel_rfl) (by kernel_rfl) (by kernel_rfl) (fun _ _ _ h => h) (Or.inl ⟨by rfl, ?_⟩) (by assumption) ?_
                  rotate_left
                  · (intro w hSw; (try dsimp only at hSw); first | (go_simp; done) | (go_simp; with_reducible rfl))
                  try simp only [Act.put, qT, qZ, qS, qB, qY, qX]
                  refine wpAnyH_done (by kernel_rfl) ?_ _
                  go_wp2_with fail
                  go_ret
                  first
                    | exact HF1.out HHi.out
                    | exact HF2.out HHi.out
end Go.Proofs.YtclkoffnjiiioaaGreatDoor
