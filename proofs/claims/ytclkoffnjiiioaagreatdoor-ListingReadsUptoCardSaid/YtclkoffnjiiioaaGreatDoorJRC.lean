import Derived.Test.YtclkoffnjiiioaaGreatDoorG33JRA
namespace Go.Proofs.YtclkoffnjiiioaaGreatDoor
open Go.RowKit
set_option linter.unusedVariables false
set_option linter.unusedSimpArgs false
attribute [local go_sem ↓] Go.wp_at_zero Go.wp_at_succ
set_option maxRecDepth 100000 in
set_option maxHeartbeats 32000000 in
theorem line21_ok (W : World) (hE : Ev W) (h9 : 9 ≤ W.heap.size) (B : Nat) (hB9 : 9 ≤ B) (hB : B ≤ W.heap.size) (K : Co) (lp : Option Addr) (lc : Nat) (pw : Option Addr) (cw : Nat) (x : Nat) (l : Bs) (hl : l.length ≤ 1100000) (hrow : W.ownsRow B 3 1 (.slice pw K.ws.length cw) K.ws.length (K.ws.map (Value.int .i64))) (hws : K.ws.length ≤ 4096) (ht0 : tokP [116, 101, 120, 116, 32] l = none) (ht1 : tokP [97, 114, 114, 97, 121, 32] l = none) : Calls Tryz.prog 25 #[.agg (K.v lp lc pw cw), .pointer (some ⟨x, 0, none⟩), .int .i64 1, .string (bA l)] W fun e w' => L2R W B K lp lc pw l e w' := by
  obtain ⟨hlb, hfr⟩ := lb_begin W (K.v lp lc pw cw) l hl
  obtain ⟨W3, hW3⟩ : ∃ V, (((W.alloc (.cells (K.v lp lc pw cw) 25)).alloc (.cells #[.int .i64 0, .int .i64 0, .int .i64 0, .slice none 0 0, .slice none 0 0] 25)).alloc (.cells #[.string (bA l), .int .i64 0, .int .i64 0, .bool false] 91)) = V := ⟨_, rfl⟩
  rw [hW3] at hlb hfr
  have hkv : K.v lp lc pw cw = #[.int .i64 K.args, .int .i64 K.temps, .int .i64 K.stack, .slice lp K.ts.length lc, .slice pw K.ws.length cw] := rfl
  rw [hkv] at hW3 hlb ⊢
  obtain ⟨gc, hgc⟩ : ∃ g, g = W.heap.size := ⟨_, rfl⟩
  obtain ⟨g8, hg8⟩ : ∃ g, g = W.heap.size + 1 := ⟨_, rfl⟩
  obtain ⟨r, hr⟩ : ∃ g, g = W.heap.size + 2 := ⟨_, rfl⟩
  rw [← hr, ← hg8, ← hgc] at hlb
  have n1 : gc ≠ r := by omega
  have n2 : g8 ≠ r := by omega
  have n3 : g8 ≠ gc := by omega
  have hr9 : 9 ≤ r := by omega
  have HG : Hid (gc = W.heap.size ∧ g8 = W.heap.size + 1 ∧ r = W.heap.size + 2) := ⟨hgc, hg8, hr⟩
  have HW3 := mkHid hW3
  have hbk : ∀ g ∈ blk pw, B ≤ g ∧ g < W.heap.size := fun g hg => own_lt hrow g ((blk_own _ _ _ _).2 hg)
  have HrW : Hid (W.heap.size ≤ r ∧ W.heap.size ≤ gc ∧ W.heap.size ≤ g8) := ⟨by omega, by omega, by omega⟩
  have HPw : Hid (∀ V, Fr (blk pw) W V → Pw V) := fun V fV => (hE.fr fV (fun g hg => by have := (hbk g hg).1; omega)).pw
  have hss : (bA l).size = l.length := bA_size l
  have HHas : Hid (∀ (V : World) (p : Bs), p.length ≤ 100 → Fr [] W3 V → hasQ l 0 false p = false → Calls Tryz.prog 42 #[pt r, .string (bA p)] V fun e w' => e = .returned (.bool false) ∧ Fr [] V w') := fun V p hp fV hv => by
    rw [← hv]
    exact has_ok V r l 0 0 false (hlb.q.fr fV (by simp)) p hp
  have HT0 : Hid (hasQ l 0 false [116, 101, 120, 116, 32] = false) := has_no (by rw [List.drop_zero]; exact ht0)
  have HT1 : Hid (hasQ l 0 false [97, 114, 114, 97, 121, 32] = false) := has_no (by rw [List.drop_zero]; exact ht1)
  obtain ⟨m, hm⟩ : ∃ m, m = K.ws.length := ⟨_, rfl⟩
  have HI : Hid (∀ V, Fr [] W V → Calls Tryz.prog 46 #[.int .i64 (m : Int)] V fun e w' => e = .returned (.string (bA (Lib.itoa (m : Int)))) ∧ Fr [] V w') := fun V fV => itoa_ok (m : Int) ⟨by omega, by omega⟩ V (HPw.out V (fV.mono (by simp)))
  have la := itoa_len (m : Int) (by omega) (by omega)
  obtain ⟨S1, e1⟩ : ∃ S, bA (Lib.itoa (m : Int)) ++ (⟨#[32]⟩ : ByteArray) = S := ⟨_, rfl⟩
  have g1 : S1 = bA (Lib.itoa (m : Int) ++ [32]) := by rw [← e1]; exact ba_app _ [32]
  have za : (bA (Lib.itoa (m : Int))).size = (Lib.itoa (m : Int)).length := bA_size _
  have zb : ¬ 9223372036854775807 < (Lib.itoa (m : Int)).length + 1 := by omega
  have HEat1 : Hid (∀ V, QB V r l 0 0 false → Calls Tryz.prog 39 #[pt r, .string S1] V fun e w' => e = .returned (.tuple #[]) ∧ Fr [r] V w' ∧ ∃ k' bad', QB w' r l k' 0 bad' ∧ stQ l k' bad' = tokP (Lib.itoa (m : Int) ++ [32]) l) := fun V hV => by
    rw [g1]
    refine (eat_st hV _ (by simp; omega)).mono ?_
    rintro e w' ⟨q1, q2, k', bad', q3, q4⟩
    refine ⟨q1, q2, k', bad', q3, ?_⟩
    rw [q4, st_good, List.drop_zero]
    rfl
  have HM := mkHid hm
  have hm4 : m ≤ 4096 := by omega
  have HRow := mkHid hrow
  have HBk := mkHid hbk
  have H3 := mkHid hlb
  have F3 := mkHid hfr
  have HB := mkHid hB
  rw [← hm]
  rw [← hm] at HW3 H3
  clear hlb hfr hkv hgc hg8 hr hW3 hE h9 hrow hbk hB hws g1 la hm hB9
  go_enter Tryz.func25, Tryz.ntmps25
  go_wp2_with fail
  rw [HW3.out, ← HG.out.2.2, ← HG.out.2.1, ← HG.out.1]
  refine (HHas.out W3 [116, 101, 120, 116, 32] (by decide) (Fr.refl [] W3) HT0.out).mono ?_
  rintro e a0 ⟨rfl, fa⟩
  have FA0 : Hid (Fr [] W3 a0) := ((Fr.refl [] W3)).tr0 fa
  clear fa
  go_wp2_with fail
  refine (HHas.out a0 [97, 114, 114, 97, 121, 32] (by decide) FA0.out HT1.out).mono ?_
  rintro e a1 ⟨rfl, fa⟩
  have FA1 : Hid (Fr [] W3 a1) := (FA0.out).tr0 fa
  clear fa
  have hl0 := H3.out.mv n1 n2 ((FA1.out).mono (S' := [r]) (by simp)) (H3.out.q.fr FA1.out (by simp))
  have d4 : a1.cell? ⟨gc, 4, none⟩ = some (.slice pw m cw) := cell_in hl0.c 4
  have HL0 := mkHid hl0
  have FW0 := mkHid (F3.out.tr0 FA1.out)
  clear hl0 H3
  go_wp2_with fail
  refine (HI.out a1 FW0.out).mono ?_
  rintro e b0 ⟨rfl, fb⟩
  have HL1 := mkHid (HL0.out.mv n1 n2 (fb.mono (S' := [r]) (by simp)) (HL0.out.q.fr fb (by simp)))
  have FW1 := mkHid (FW0.out.tr0 fb)
  clear fb HL0 HI d4
  go_wp2_with fail
  refine (HEat1.out b0 HL1.out.q).mono ?_
  rintro e b1 ⟨rfl, fb, k1, bad, hq1, hst1⟩
  have HL2 := mkHid (HL1.out.mv n1 n2 fb hq1)
  have FW2 : Hid (Fr [] W b1) := FW1.out.trans fb (fun b hb => .inr (by simp at hb; rw [hb]; exact HrW.out.1))
  have HST := mkHid hst1
  have i1 : b1.cell? ⟨r, 1, none⟩ = some (.int .i64 (k1 : Int)) := hq1.cl 1
  have hk1 := hq1.le
  clear fb hq1 hst1 HL1 FW1 HEat1 za zb e1
  go_wp2_with fail
  clear i1
  have htl := tw_le l k1 hk1
  obtain ⟨k2, hk2⟩ : ∃ k2, k2 = twQ l k1 := ⟨_, rfl⟩
  rw [← hk2] at htl
  have HK2 := mkHid hk2
  clear hk2
  go_loopw [] (fun wr => ∃ k : Nat, k1 ≤ k ∧ k ≤ k2 ∧ Hid (LB wr gc g8 r #[.int .i64 K.args, .int .i64 K.temps, .int .i64 K.stack, .slice lp K.ts.length lc, .slice pw m cw] l k 0 bad ∧ Fr [] W wr)) (fun wr => mesQ r l.length wr)
  case atStart => exact ⟨k1, Nat.le_refl _, htl.1, HL2.out, FW2.out⟩
  case round =>
    clear HL2 FW2
    obtain ⟨k, hka, hkb, hst⟩ := hrel
    obtain ⟨hlb, hfr⟩ := hst.out
    clear hst
    have hm0 := mesQ_is hlb.q
    have HCl : Hid (wr.drew.cell? ⟨r, 0, none⟩ = some (.string (bA l)) ∧ wr.drew.cell? ⟨r, 1, none⟩ = some (.int .i64 (k : Int))) := ⟨hlb.q.cl 0, hlb.q.cl 1⟩
    have k0 : (0 : Int) ≤ (k : Int) := by omega
    skip
    by_cases hlt : k < k2
    · obtain ⟨b, hb, hne⟩ := tw_at l k1 (k - k1) (by have := HK2.out; unfold twQ at this; omega)
      rw [show k1 + (k - k1) = k by omega] at hb
      obtain ⟨hi, hbb⟩ := byte_at l k b hb
      have q1 : (k : Int) < (l.length : Int) := by omega
      have q2 : decide ((k : Int) < (l.length : Int)) = true := decide_eq_true q1
      obtain ⟨kn, hkn⟩ : ∃ kn, kn = k + 1 := ⟨_, rfl⟩
      have hwk : IntKind.i64.wrap ((k : Int) + 1) = (kn : Int) := by rw [iwrap_id (by omega) (by omega)]; omega
      have hs : LB (wr.drew.setCell ⟨r, 1, none⟩ (.int .i64 (kn : Int))) gc g8 r _ l kn 0 bad := (hlb.mv n1 n2 ((Fr.drew [] wr).mono (S' := [r]) (by simp)) (hlb.q.fr (Fr.drew [] wr) (by simp))).mv n1 n2 (fr_set _ r 1 _) ((hlb.q.fr (Fr.drew [] wr) (by simp)).setAt kn (by omega))
      have fs : Fr [] W (wr.drew.setCell ⟨r, 1, none⟩ (.int .i64 (kn : Int))) := (hfr.tr0 (Fr.drew [] wr)).st HrW.out.1 1 _
      have HS := mkHid (And.intro hs fs)
      have hm1 := mesQ_is hs.q
      have HM1 : Hid (mesQ r l.length (wr.drew.setCell ⟨r, 1, none⟩ (.int .i64 (kn : Int))) < mesQ r l.length wr) := by
        show _ < _
        rw [hm0, hm1]
        omega
      have HKn : Hid (k1 ≤ kn ∧ kn ≤ k2) := ⟨by omega, by omega⟩
      have hz1 := hlb.q.fz 1
      have hc1 : wr.cell? ⟨r, 1, none⟩ = some (.int .i64 (k : Int)) := hlb.q.cl 1
      clear hs fs hm0 hm1 hlb hfr hb hkn hlt hka hkb
      go_wp2_with fail
      refine wp_region_h (S := fun V => V.cell? ⟨r, 0, none⟩ = some (.string (bA l)) ∧ V.cell? ⟨r, 1, none⟩ = some (.int .i64 (k : Int))) (by kernel_rfl) HCl.out (fun hHeld => ?_)
      refine wpAnyH_take (i := 0) (v := ?_) rfl (by kernel_rfl) (by kernel_rfl) (by kernel_rfl) (fun _ _ _ h => h) (Or.inl ⟨by rfl, ?_⟩) (by assumption) ?_
      rotate_left
      · (intro w hSw; (try dsimp only at hSw); first | (go_simp; done) | (go_simp; with_reducible rfl))
      try simp only [Act.put, qT, qZ, qS, qB, qY, qX]
      refine wpAnyH_take (i := 1) (v := ?_) rfl (by kernel_rfl) (by kernel_rfl) (by kernel_rfl) (fun _ _ _ h => h) (Or.inl ⟨by rfl, ?_⟩) (by assumption) ?_
      rotate_left
      · (intro w hSw; (try dsimp only at hSw); first | (go_simp; done) | (go_simp; with_reducible rfl))
      try simp only [Act.put, qT, qZ, qS, qB, qY, qX]
      refine wpAnyH_take (i := 2) (v := ?_) rfl (by kernel_rfl) (by kernel_rfl) (by kernel_rfl) (fun _ _ _ h => h) (Or.inl ⟨by rfl, ?_⟩) (by assumption) ?_
      rotate_left
      · (intro w hSw; (try dsimp only at hSw); first | (go_simp; done) | (go_simp; with_reducible rfl))
      try simp only [Act.put, qT, qZ, qS, qB, qY, qX]
      refine wpAnyH_take (i := 3) (v := ?_) rfl (by kernel_rfl) (by kernel_rfl) (by kernel_rfl) (fun _ _ _ h => h) (Or.inl ⟨by rfl, ?_⟩) (by assumption) ?_
      rotate_left
      · (intro w hSw; (try dsimp only at hSw); first | (go_simp; done) | (go_simp; with_reducible rfl))
      try simp only [Act.put, qT, qZ, qS, qB, qY, qX]
      refine wpAnyH_take (i := 4) (v := ?_) rfl (by kernel_rfl) (by kernel_rfl) (by kernel_rfl) (fun _ _ _ h => h) (Or.inl ⟨by rfl, ?_⟩) (by assumption) ?_
      rotate_left
      · (intro w hSw; (try dsimp only at hSw); first | (go_simp; done) | (go_simp; with_reducible rfl))
      try simp only [Act.put, qT, qZ, qS, qB, qY, qX]
      refine wpAnyH_take (i := 5) (v := ?_) rfl (by kernel_rfl) (by kernel_rfl) (by kernel_rfl) (fun _ _ _ h => h) (Or.inl ⟨by rfl, ?_⟩) (by assumption) ?_
      rotate_left
      · (intro w hSw; (try dsimp only at hSw); first | (go_simp; done) | (go_simp; with_reducible rfl))
      try simp only [Act.put, qT, qZ, qS, qB, qY, qX]
      refine wpAnyH_take (i := 6) (v := ?_) rfl (by kernel_rfl) (by kernel_rfl) (by kernel_rfl) (fun _ _ _ h => h) (Or.inl ⟨by rfl, ?_⟩) (by assumption) ?_
      rotate_left
      · (intro w hSw; (try dsimp only at hSw); first | (go_simp; done) | (go_simp; with_reducible rfl))
      try simp only [Act.put, qT, qZ, qS, qB, qY, qX]
      refine wpAnyH_take (i := 7) (v := ?_) rfl (by kernel_rfl) (by kernel_rfl) (by kernel_rfl) (fun _ _ _ h => h) (Or.inl ⟨by rfl, ?_⟩) (by assumption) ?_
      rotate_left
      · (intro w hSw; (try dsimp only at hSw); first | (go_simp; done) | (go_simp; with_reducible rfl))
      try simp only [Act.put, qT, qZ, qS, qB, qY, qX]
      refine wpAnyH_take (i := 8) (v := ?_) rfl (by kernel_rfl) (by kernel_rfl) (by kernel_rfl) (fun _ _ _ h => h) (Or.inl ⟨by rfl, ?_⟩) (by assumption) ?_
      rotate_left
      · (intro w hSw; (try dsimp only at hSw); first | (go_simp; done) | (go_simp; with_reducible rfl))
      try simp only [Act.put, qT, qZ, qS, qB, qY, qX]
      refine wpAnyH_take (i := 9) (v := .bool true) rfl (by kernel_rfl) (by kernel_rfl) (by kernel_rfl) (fun _ _ _ h => h) (Or.inl ⟨by rfl, ?_⟩) (by assumption) ?_
      · (intro w hSw; (try dsimp only at hSw); first | (go_simp; done) | (go_simp; with_reducible rfl))
      try simp only [Act.put, qT, qZ, qS, qB, qY, qX]
      refine wpAnyH_take (i := 10) (v := .bool true) rfl (by kernel_rfl) (by kernel_rfl) (by kernel_rfl) (fun _ _ _ h => h) (Or.inl ⟨by rfl, ?_⟩) (by assumption) ?_
      · (intro w hSw; (try dsimp only at hSw); first | (go_simp; done) | (go_simp; with_reducible rfl))
      try simp only [Act.put, qT, qZ, qS, qB, qY, qX]
      refine wpAnyH_take (i := 11) (v := ?_) rfl (by kernel_rfl) (by kernel_rfl) (by kernel_rfl) (fun _ _ _ h => h) (Or.inl ⟨by rfl, ?_⟩) (by assumption) ?_
      rotate_left
      · (intro w hSw; (try dsimp only at hSw); first | (go_simp; done) | (go_simp; with_reducible rfl))
      try simp only [Act.put, qT, qZ, qS, qB, qY, qX]
      refine wpAnyH_take (i := 12) (v := ?_) rfl (by kernel_rfl) (by kernel_rfl) (by kernel_rfl) (fun _ _ _ h => h) (Or.inl ⟨by rfl, ?_⟩) (by assumption) ?_
      rotate_left
      · (intro w hSw; (try dsimp only at hSw); first | (go_simp; done) | (go_simp; with_reducible rfl))
      try simp only [Act.put, qT, qZ, qS, qB, qY, qX]
      refine wpAnyH_take (i := 13) (v := ?_) rfl (by kernel_rfl) (by kernel_rfl) (by kernel_rfl) (fun _ _ _ h => h) (Or.inl ⟨by rfl, ?_⟩) (by assumption) ?_
      rotate_left
      · (intro w hSw; (try dsimp only at hSw); first | (go_simp; done) | (go_simp; with_reducible rfl))
      try simp only [Act.put, qT, qZ, qS, qB, qY, qX]
      refine wpAnyH_take (i := 14) (v := ?_) rfl (by kernel_rfl) (by kernel_rfl) (by kernel_rfl) (fun _ _ _ h => h) (Or.inl ⟨by rfl, ?_⟩) (by assumption) ?_
      rotate_left
      · (intro w hSw; (try dsimp only at hSw); first | (go_simp; done) | (go_simp; with_reducible rfl))
      try simp only [Act.put, qT, qZ, qS, qB, qY, qX]
      refine wpAnyH_take (i := 15) (v := ?_) rfl (by kernel_rfl) (by kernel_rfl) (by kernel_rfl) (fun _ _ _ h => h) (Or.inl ⟨by rfl, ?_⟩) (by assumption) ?_
      rotate_left
      · (intro w hSw; (try dsimp only at hSw); first | (go_simp; done) | (go_simp; with_reducible rfl))
      try simp only [Act.put, qT, qZ, qS, qB, qY, qX]
      refine wpAnyH_take (i := 16) (v := ?_) rfl (by kernel_rfl) (by kernel_rfl) (by kernel_rfl) (fun _ _ _ h => h) (Or.inl ⟨by rfl, ?_⟩) (by assumption) ?_
      rotate_left
      · (intro w hSw; (try dsimp only at hSw); first | (go_simp; done) | (go_simp; with_reducible rfl))
      try simp only [Act.put, qT, qZ, qS, qB, qY, qX]
      refine wpAnyH_take (i := 17) (v := ?_) rfl (by kernel_rfl) (by kernel_rfl) (by kernel_rfl) (fun _ _ _ h => h) (Or.inl ⟨by rfl, ?_⟩) (by assumption) ?_
      rotate_left
      · (intro w hSw; (try dsimp only at hSw); first | (go_simp; done) | (go_simp; with_reducible rfl))
      try simp only [Act.put, qT, qZ, qS, qB, qY, qX]
      refine wpAnyH_take (i := 18) (v := ?_) rfl (by kernel_rfl) (by kernel_rfl) (by kernel_rfl) (fun _ _ _ h => h) (Or.inl ⟨by rfl, ?_⟩) (by assumption) ?_
      rotate_left
      · (intro w hSw; (try dsimp only at hSw); first | (go_simp; done) | (go_simp; with_reducible rfl))
      try simp only [Act.put, qT, qZ, qS, qB, qY, qX]
      refine wpAnyH_take (i := 19) (v := ?_) rfl (by kernel_rfl) (by kernel_rfl) (by kernel_rfl) (fun _ _ _ h => h) (Or.inl ⟨by rfl, ?_⟩) (by assumption) ?_
      rotate_left
      · (intro w hSw; (try dsimp only at hSw); first | (go_simp; done) | (go_simp; with_reducible rfl))
      try simp only [Act.put, qT, qZ, qS, qB, qY, qX]
      refine wpAnyH_take (i := 20) (v := ?_) rfl (by kernel_rfl) (by kernel_rfl) (by kernel_rfl) (fun _ _ _ h => h) (Or.inl ⟨by rfl, ?_⟩) (by assumption) ?_
      rotate_left
      · (intro w hSw; (try dsimp only at hSw); first | (go_simp; done) | (go_simp; with_reducible rfl))
      try simp only [Act.put, qT, qZ, qS, qB, qY, qX]
      refine wpAnyH_take (i := 21) (v := ?_) rfl (by kernel_rfl) (by kernel_rfl) (by kernel_rfl) (fun _ _ _ h => h) (Or.inl ⟨by rfl, ?_⟩) (by assumption) ?_
      rotate_left
      · (intro w hSw; (try dsimp only at hSw); first | (go_simp; done) | (go_simp; with_reducible rfl))
      try simp only [Act.put, qT, qZ, qS, qB, qY, qX]
      refine wpAnyH_done (by kernel_rfl) ?_ _
      clear hHeld HCl
      go_wp2_with fail
      go_roundw
      case rel => exact ⟨kn, HKn.out.1, HKn.out.2, HS.out⟩
      case measure => exact HM1.out
    · have hke : k = k2 := by omega
      subst hke
      have hor : (decide ((k : Int) < (l.length : Int)) = false ∧ ¬ (k : Int) < (l.length : Int) ∧ ¬ k < l.length) ∨ ∃ b, ∃ hi : k < (bA l).size, (bA l)[k] = b ∧ decide ((k : Int) < (l.length : Int)) = true ∧ (k : Int) < (l.length : Int) ∧ ((b.toNat : Int) != 32) = false := by
        have hk2 := HK2.out
        rcases tw_end l k1 hk1 with h | ⟨b, h1, h2⟩
        · left; rw [← hk2] at h; exact ⟨decide_eq_false (by omega), by omega, by omega⟩
        · right
          rw [← hk2] at h1
          obtain ⟨hi, hb⟩ := byte_at l k b h1
          have hl2 : (k : Int) < (l.length : Int) := by have := (List.getElem?_eq_some_iff.1 h1).1; omega
          exact ⟨b, hi, hb, decide_eq_true hl2, hl2, h2⟩
      have hl2 := hlb.mv n1 n2 ((Fr.drew [] wr).mono (S' := [r]) (by simp)) (hlb.q.fr (Fr.drew [] wr) (by simp))
      have f2 := hfr.tr0 (Fr.drew [] wr)
      obtain ⟨V2, hV2⟩ : ∃ V, wr.drew = V := ⟨_, rfl⟩
      have HV2 := mkHid hV2
      rw [hV2] at hl2 f2
      have HL3 := mkHid hl2
      have FW3 := mkHid f2
      clear hl2 f2 hV2 hm0 hlt hkb hlb hfr
      rcases hor with ⟨q2, q3, q4⟩ | ⟨b, hi, hbb, q2, q3, q4⟩
      case' inl =>
        go_wp2_with fail
        refine wp_region_h (S := fun V => V.cell? ⟨r, 0, none⟩ = some (.string (bA l)) ∧ V.cell? ⟨r, 1, none⟩ = some (.int .i64 (k : Int))) (by kernel_rfl) HCl.out (fun hHeld => ?_)
        refine wpAnyH_take (i := 0) (v := ?_) rfl (by kernel_rfl) (by kernel_rfl) (by kernel_rfl) (fun _ _ _ h => h) (Or.inl ⟨by rfl, ?_⟩) (by assumption) ?_
        rotate_left
        · (intro w hSw; (try dsimp only at hSw); first | (go_simp; done) | (go_simp; with_reducible rfl))
        try simp only [Act.put, qT, qZ, qS, qB, qY, qX]
        refine wpAnyH_take (i := 1) (v := ?_) rfl (by kernel_rfl) (by kernel_rfl) (by kernel_rfl) (fun _ _ _ h => h) (Or.inl ⟨by rfl, ?_⟩) (by assumption) ?_
        rotate_left
        · (intro w hSw; (try dsimp only at hSw); first | (go_simp; done) | (go_simp; with_reducible rfl))
        try simp only [Act.put, qT, qZ, qS, qB, qY, qX]
        refine wpAnyH_take (i := 2) (v := ?_) rfl (by kernel_rfl) (by kernel_rfl) (by kernel_rfl) (fun _ _ _ h => h) (Or.inl ⟨by rfl, ?_⟩) (by assumption) ?_
        rotate_left
        · (intro w hSw; (try dsimp only at hSw); first | (go_simp; done) | (go_simp; with_reducible rfl))
        try simp only [Act.put, qT, qZ, qS, qB, qY, qX]
        refine wpAnyH_take (i := 3) (v := ?_) rfl (by kernel_rfl) (by kernel_rfl) (by kernel_rfl) (fun _ _ _ h => h) (Or.inl ⟨by rfl, ?_⟩) (by assumption) ?_
        rotate_left
        · (intro w hSw; (try dsimp only at hSw); first | (go_simp; done) | (go_simp; with_reducible rfl))
        try simp only [Act.put, qT, qZ, qS, qB, qY, qX]
        refine wpAnyH_take (i := 4) (v := ?_) rfl (by kernel_rfl) (by kernel_rfl) (by kernel_rfl) (fun _ _ _ h => h) (Or.inl ⟨by rfl, ?_⟩) (by assumption) ?_
        rotate_left
        · (intro w hSw; (try dsimp only at hSw); first | (go_simp; done) | (go_simp; with_reducible rfl))
        try simp only [Act.put, qT, qZ, qS, qB, qY, qX]
        refine wpAnyH_take (i := 5) (v := ?_) rfl (by kernel_rfl) (by kernel_rfl) (by kernel_rfl) (fun _ _ _ h => h) (Or.inl ⟨by rfl, ?_⟩) (by assumption) ?_
        rotate_left
        · (intro w hSw; (try dsimp only at hSw); first | (go_simp; done) | (go_simp; with_reducible rfl))
        try simp only [Act.put, qT, qZ, qS, qB, qY, qX]
        refine wpAnyH_take (i := 6) (v := ?_) rfl (by kernel_rfl) (by kernel_rfl) (by kernel_rfl) (fun _ _ _ h => h) (Or.inl ⟨by rfl, ?_⟩) (by assumption) ?_
        rotate_left
        · (intro w hSw; (try dsimp only at hSw); first | (go_simp; done) | (go_simp; with_reducible rfl))
        try simp only [Act.put, qT, qZ, qS, qB, qY, qX]
        refine wpAnyH_take (i := 7) (v := ?_) rfl (by kernel_rfl) (by kernel_rfl) (by kernel_rfl) (fun _ _ _ h => h) (Or.inl ⟨by rfl, ?_⟩) (by assumption) ?_
        rotate_left
        · (intro w hSw; (try dsimp only at hSw); first | (go_simp; done) | (go_simp; with_reducible rfl))
        try simp only [Act.put, qT, qZ, qS, qB, qY, qX]
        refine wpAnyH_take (i := 8) (v := ?_) rfl (by kernel_rfl) (by kernel_rfl) (by kernel_rfl) (fun _ _ _ h => h) (Or.inl ⟨by rfl, ?_⟩) (by assumption) ?_
        rotate_left
        · (intro w hSw; (try dsimp only at hSw); first | (go_simp; done) | (go_simp; with_reducible rfl))
        try simp only [Act.put, qT, qZ, qS, qB, qY, qX]
        refine wpAnyH_take (i := 9) (v := .bool false) rfl (by kernel_rfl) (by kernel_rfl) (by kernel_rfl) (fun _ _ _ h => h) (Or.inl ⟨by rfl, ?_⟩) (by assumption) ?_
        · (intro w hSw; (try dsimp only at hSw); first | (go_simp; done) | (go_simp; with_reducible rfl))
        try simp only [Act.put, qT, qZ, qS, qB, qY, qX]
        refine wpAnyH_take (i := 10) (v := .bool false) rfl (by kernel_rfl) (by kernel_rfl) (by kernel_rfl) (fun _ _ _ h => h) (Or.inl ⟨by rfl, ?_⟩) (by assumption) ?_
        · (intro w hSw; (try dsimp only at hSw); first | (go_simp; done) | (go_simp; with_reducible rfl))
        try simp only [Act.put, qT, qZ, qS, qB, qY, qX]
        refine wpAnyH_take (i := 11) (v := undef) rfl (by kernel_rfl) (by kernel_rfl) (by kernel_rfl) (fun _ _ _ h => h) (Or.inr ⟨by rfl, rfl⟩) (by assumption) ?_
        try simp only [Act.put, qT, qZ, qS, qB, qY, qX]
        refine wpAnyH_take (i := 12) (v := undef) rfl (by kernel_rfl) (by kernel_rfl) (by kernel_rfl) (fun _ _ _ h => h) (Or.inr ⟨by rfl, rfl⟩) (by assumption) ?_
        try simp only [Act.put, qT, qZ, qS, qB, qY, qX]
        refine wpAnyH_take (i := 13) (v := undef) rfl (by kernel_rfl) (by kernel_rfl) (by kernel_rfl) (fun _ _ _ h => h) (Or.inr ⟨by rfl, rfl⟩) (by assumption) ?_
        try simp only [Act.put, qT, qZ, qS, qB, qY, qX]
        refine wpAnyH_take (i := 14) (v := undef) rfl (by kernel_rfl) (by kernel_rfl) (by kernel_rfl) (fun _ _ _ h => h) (Or.inr ⟨by rfl, rfl⟩) (by assumption) ?_
        try simp only [Act.put, qT, qZ, qS, qB, qY, qX]
        refine wpAnyH_take (i := 15) (v := undef) rfl (by kernel_rfl) (by kernel_rfl) (by kernel_rfl) (fun _ _ _ h => h) (Or.inr ⟨by rfl, rfl⟩) (by assumption) ?_
        try simp only [Act.put, qT, qZ, qS, qB, qY, qX]
        refine wpAnyH_take (i := 16) (v := undef) rfl (by kernel_rfl) (by kernel_rfl) (by kernel_rfl) (fun _ _ _ h => h) (Or.inr ⟨by rfl, rfl⟩) (by assumption) ?_
        try simp only [Act.put, qT, qZ, qS, qB, qY, qX]
        refine wpAnyH_take (i := 17) (v := undef) rfl (by kernel_rfl) (by kernel_rfl) (by kernel_rfl) (fun _ _ _ h => h) (Or.inr ⟨by rfl, rfl⟩) (by assumption) ?_
        try simp only [Act.put, qT, qZ, qS, qB, qY, qX]
        refine wpAnyH_take (i := 18) (v := undef) rfl (by kernel_rfl) (by kernel_rfl) (by kernel_rfl) (fun _ _ _ h => h) (Or.inr ⟨by rfl, rfl⟩) (by assumption) ?_
        try simp only [Act.put, qT, qZ, qS, qB, qY, qX]
        refine wpAnyH_take (i := 19) (v := undef) rfl (by kernel_rfl) (by kernel_rfl) (by kernel_rfl) (fun _ _ _ h => h) (Or.inr ⟨by rfl, rfl⟩) (by assumption) ?_
        try simp only [Act.put, qT, qZ, qS, qB, qY, qX]
        refine wpAnyH_take (i := 20) (v := undef) rfl (by kernel_rfl) (by kernel_rfl) (by kernel_rfl) (fun _ _ _ h => h) (Or.inr ⟨by rfl, rfl⟩) (by assumption) ?_
        try simp only [Act.put, qT, qZ, qS, qB, qY, qX]
        refine wpAnyH_take (i := 21) (v := .bool false) rfl (by kernel_rfl) (by kernel_rfl) (by kernel_rfl) (fun _ _ _ h => h) (Or.inl ⟨by rfl, ?_⟩) (by assumption) ?_
        · (intro w hSw; (try dsimp only at hSw); first | (go_simp; done) | (go_simp; with_reducible rfl))
        try simp only [Act.put, qT, qZ, qS, qB, qY, qX]
        refine wpAnyH_done (by kernel_rfl) ?_ _
        clear hHeld HCl q2 q3 q4
      case' inr =>
        go_wp2_with fail
        refine wp_region_h (S := fun V => V.cell? ⟨r, 0, none⟩ = some (.string (bA l)) ∧ V.cell? ⟨r, 1, none⟩ = some (.int .i64 (k : Int))) (by kernel_rfl) HCl.out (fun hHeld => ?_)
        refine wpAnyH_take (i := 0) (v := ?_) rfl (by kernel_rfl) (by kernel_rfl) (by kernel_rfl) (fun _ _ _ h => h) (Or.inl ⟨by rfl, ?_⟩) (by assumption) ?_
        rotate_left
        · (intro w hSw; (try dsimp only at hSw); first | (go_simp; done) | (go_simp; with_reducible rfl))
        try simp only [Act.put, qT, qZ, qS, qB, qY, qX]
        refine wpAnyH_take (i := 1) (v := ?_) rfl (by kernel_rfl) (by kernel_rfl) (by kernel_rfl) (fun _ _ _ h => h) (Or.inl ⟨by rfl, ?_⟩) (by assumption) ?_
        rotate_left
        · (intro w hSw; (try dsimp only at hSw); first | (go_simp; done) | (go_simp; with_reducible rfl))
        try simp only [Act.put, qT, qZ, qS, qB, qY, qX]
        refine wpAnyH_take (i := 2) (v := ?_) rfl (by kernel_rfl) (by kernel_rfl) (by kernel_rfl) (fun _ _ _ h => h) (Or.inl ⟨by rfl, ?_⟩) (by assumption) ?_
        rotate_left
        · (intro w hSw; (try dsimp only at hSw); first | (go_simp; done) | (go_simp; with_reducible rfl))
        try simp only [Act.put, qT, qZ, qS, qB, qY, qX]
        refine wpAnyH_take (i := 3) (v := ?_) rfl (by kernel_rfl) (by kernel_rfl) (by kernel_rfl) (fun _ _ _ h => h) (Or.inl ⟨by rfl, ?_⟩) (by assumption) ?_
        rotate_left
        · (intro w hSw; (try dsimp only at hSw); first | (go_simp; done) | (go_simp; with_reducible rfl))
        try simp only [Act.put, qT, qZ, qS, qB, qY, qX]
        refine wpAnyH_take (i := 4) (v := ?_) rfl (by kernel_rfl) (by kernel_rfl) (by kernel_rfl) (fun _ _ _ h => h) (Or.inl ⟨by rfl, ?_⟩) (by assumption) ?_
        rotate_left
        · (intro w hSw; (try dsimp only at hSw); first | (go_simp; done) | (go_simp; with_reducible rfl))
        try simp only [Act.put, qT, qZ, qS, qB, qY, qX]
        refine wpAnyH_take (i := 5) (v := ?_) rfl (by kernel_rfl) (by kernel_rfl) (by kernel_rfl) (fun _ _ _ h => h) (Or.inl ⟨by rfl, ?_⟩) (by assumption) ?_
        rotate_left
        · (intro w hSw; (try dsimp only at hSw); first | (go_simp; done) | (go_simp; with_reducible rfl))
        try simp only [Act.put, qT, qZ, qS, qB, qY, qX]
        refine wpAnyH_take (i := 6) (v := ?_) rfl (by kernel_rfl) (by kernel_rfl) (by kernel_rfl) (fun _ _ _ h => h) (Or.inl ⟨by rfl, ?_⟩) (by assumption) ?_
        rotate_left
        · (intro w hSw; (try dsimp only at hSw); first | (go_simp; done) | (go_simp; with_reducible rfl))
        try simp only [Act.put, qT, qZ, qS, qB, qY, qX]
        refine wpAnyH_take (i := 7) (v := ?_) rfl (by kernel_rfl) (by kernel_rfl) (by kernel_rfl) (fun _ _ _ h => h) (Or.inl ⟨by rfl, ?_⟩) (by assumption) ?_
        rotate_left
        · (intro w hSw; (try dsimp only at hSw); first | (go_simp; done) | (go_simp; with_reducible rfl))
        try simp only [Act.put, qT, qZ, qS, qB, qY, qX]
        refine wpAnyH_take (i := 8) (v := ?_) rfl (by kernel_rfl) (by kernel_rfl) (by kernel_rfl) (fun _ _ _ h => h) (Or.inl ⟨by rfl, ?_⟩) (by assumption) ?_
        rotate_left
        · (intro w hSw; (try dsimp only at hSw); first | (go_simp; done) | (go_simp; with_reducible rfl))
        try simp only [Act.put, qT, qZ, qS, qB, qY, qX]
        refine wpAnyH_take (i := 9) (v := .bool true) rfl (by kernel_rfl) (by kernel_rfl) (by kernel_rfl) (fun _ _ _ h => h) (Or.inl ⟨by rfl, ?_⟩) (by assumption) ?_
        · (intro w hSw; (try dsimp only at hSw); first | (go_simp; done) | (go_simp; with_reducible rfl))
        try simp only [Act.put, qT, qZ, qS, qB, qY, qX]
        refine wpAnyH_take (i := 10) (v := .bool true) rfl (by kernel_rfl) (by kernel_rfl) (by kernel_rfl) (fun _ _ _ h => h) (Or.inl ⟨by rfl, ?_⟩) (by assumption) ?_
        · (intro w hSw; (try dsimp only at hSw); first | (go_simp; done) | (go_simp; with_reducible rfl))
        try simp only [Act.put, qT, qZ, qS, qB, qY, qX]
        refine wpAnyH_take (i := 11) (v := ?_) rfl (by kernel_rfl) (by kernel_rfl) (by kernel_rfl) (fun _ _ _ h => h) (Or.inl ⟨by rfl, ?_⟩) (by assumption) ?_
        rotate_left
        · (intro w hSw; (try dsimp only at hSw); first | (go_simp; done) | (go_simp; with_reducible rfl))
        try simp only [Act.put, qT, qZ, qS, qB, qY, qX]
        refine wpAnyH_take (i := 12) (v := ?_) rfl (by kernel_rfl) (by kernel_rfl) (by kernel_rfl) (fun _ _ _ h => h) (Or.inl ⟨by rfl, ?_⟩) (by assumption) ?_
        rotate_left
        · (intro w hSw; (try dsimp only at hSw); first | (go_simp; done) | (go_simp; with_reducible rfl))
        try simp only [Act.put, qT, qZ, qS, qB, qY, qX]
        refine wpAnyH_take (i := 13) (v := ?_) rfl (by kernel_rfl) (by kernel_rfl) (by kernel_rfl) (fun _ _ _ h => h) (Or.inl ⟨by rfl, ?_⟩) (by assumption) ?_
        rotate_left
        · (intro w hSw; (try dsimp only at hSw); first | (go_simp; done) | (go_simp; with_reducible rfl))
        try simp only [Act.put, qT, qZ, qS, qB, qY, qX]
        refine wpAnyH_take (i := 14) (v := ?_) rfl (by kernel_rfl) (by kernel_rfl) (by kernel_rfl) (fun _ _ _ h => h) (Or.inl ⟨by rfl, ?_⟩) (by assumption) ?_
        rotate_left
        · (intro w hSw; (try dsimp only at hSw); first | (go_simp; done) | (go_simp; with_reducible rfl))
        try simp only [Act.put, qT, qZ, qS, qB, qY, qX]
        refine wpAnyH_take (i := 15) (v := ?_) rfl (by kernel_rfl) (by kernel_rfl) (by kernel_rfl) (fun _ _ _ h => h) (Or.inl ⟨by rfl, ?_⟩) (by assumption) ?_
        rotate_left
        · (intro w hSw; (try dsimp only at hSw); first | (go_simp; done) | (go_simp; with_reducible rfl))
        try simp only [Act.put, qT, qZ, qS, qB, qY, qX]
        refine wpAnyH_take (i := 16) (v := ?_) rfl (by kernel_rfl) (by kernel_rfl) (by kernel_rfl) (fun _ _ _ h => h) (Or.inl ⟨by rfl, ?_⟩) (by assumption) ?_
        rotate_left
        · (intro w hSw; (try dsimp only at hSw); first | (go_simp; done) | (go_simp; with_reducible rfl))
        try simp only [Act.put, qT, qZ, qS, qB, qY, qX]
        refine wpAnyH_take (i := 17) (v := ?_) rfl (by kernel_rfl) (by kernel_rfl) (by kernel_rfl) (fun _ _ _ h => h) (Or.inl ⟨by rfl, ?_⟩) (by assumption) ?_
        rotate_left
        · (intro w hSw; (try dsimp only at hSw); first | (go_simp; done) | (go_simp; with_reducible rfl))
        try simp only [Act.put, qT, qZ, qS, qB, qY, qX]
        refine wpAnyH_take (i := 18) (v := ?_) rfl (by kernel_rfl) (by kernel_rfl) (by kernel_rfl) (fun _ _ _ h => h) (Or.inl ⟨by rfl, ?_⟩) (by assumption) ?_
        rotate_left
        · (intro w hSw; (try dsimp only at hSw); first | (go_simp; done) | (go_simp; with_reducible rfl))
        try simp only [Act.put, qT, qZ, qS, qB, qY, qX]
        refine wpAnyH_take (i := 19) (v := ?_) rfl (by kernel_rfl) (by kernel_rfl) (by kernel_rfl) (fun _ _ _ h => h) (Or.inl ⟨by rfl, ?_⟩) (by assumption) ?_
        rotate_left
        · (intro w hSw; (try dsimp only at hSw); first | (go_simp; done) | (go_simp; with_reducible rfl))
        try simp only [Act.put, qT, qZ, qS, qB, qY, qX]
        refine wpAnyH_take (i := 20) (v := .bool false) rfl (by kernel_rfl) (by kernel_rfl) (by kernel_rfl) (fun _ _ _ h => h) (Or.inl ⟨by rfl, ?_⟩) (by assumption) ?_
        · (intro w hSw; (try dsimp only at hSw); first | (go_simp; done) | (go_simp; with_reducible rfl))
        try simp only [Act.put, qT, qZ, qS, qB, qY, qX]
        refine wpAnyH_take (i := 21) (v := .bool false) rfl (by kernel_rfl) (by kernel_rfl) (by kernel_rfl) (fun _ _ _ h => h) (Or.inl ⟨by rfl, ?_⟩) (by assumption) ?_
        · (intro w hSw; (try dsimp only at hSw); first | (go_simp; done) | (go_simp; with_reducible rfl))
        try simp only [Act.put, qT, qZ, qS, qB, qY, qX]
        refine wpAnyH_done (by kernel_rfl) ?_ _
        clear hHeld HCl q2 q3 q4 hbb
      all_goals
        rw [HV2.out]
        clear HV2
        go_wp2_with fail
        obtain ⟨nm, hnm⟩ : ∃ nm, nm = (l.drop k1).takeWhile (· != 32) := ⟨_, rfl⟩
        have HNm := mkHid hnm
        clear hnm
        have HXn : Hid ((bA l).extract k1 k = bA nm) := by
          show _ = _
          rw [ext_is l k1 k htl.1 (by omega), HNm.out, ← tq_take l k1, ← HK2.out]
        go_loopw [15, 16] (fun o q wr => ∃ i : Nat, 1 ≤ i ∧ i ≤ 29 ∧ q = .int .i64 (i : Int) ∧ o = .int .i64 ((opTo nm bad i : Nat) : Int) ∧ Hid (LB wr gc g8 r #[.int .i64 K.args, .int .i64 K.temps, .int .i64 K.stack, .slice lp K.ts.length lc, .slice pw m cw] l k 0 bad ∧ Fr [] W wr)) (fun _ q _ => 29 - (intOf q).toNat)
        case atStart =>
          refine ⟨1, by omega, by omega, rfl, ?_, HL3.out, FW3.out⟩
          unfold opTo
          cases bad with
          | true => rfl
          | false =>
            have : ¬ (opN nm < 1 ∧ opN nm ≠ 0) := by omega
            simp only [Bool.false_eq_true, if_false]
            by_cases h : opN nm < 1
            · rw [if_pos h, show opN nm = 0 by omega]; rfl
            · rw [if_neg h]; rfl
        case round =>
          clear HL3 FW3
          obtain ⟨i, hi1, hi2, rfl, rfl, hst⟩ := hrel
          obtain ⟨hlb, hfr⟩ := hst.out
          clear hst
          by_cases hlt : i < 29
          · have j1 : (i : Int) ≤ 28 := by omega
            have j2 : decide ((i : Int) ≤ 28) = true := decide_eq_true j1
            obtain ⟨i2, hi3⟩ : ∃ q, q = i + 1 := ⟨_, rfl⟩
            have hwi : IntKind.i64.wrap ((i : Int) + 1) = (i2 : Int) := by rw [iwrap_id (by omega) (by omega)]; omega
            have HI2 : Hid (i2 = i + 1 ∧ 1 ≤ i ∧ i ≤ 28) := ⟨hi3, hi1, by omega⟩
            have HC : Hid (∀ V, Fr [] wr V → V.cell? ⟨r, 3, none⟩ = some (.bool bad) ∧ V.cell? ⟨r, 0, none⟩ = some (.string (bA l)) ∧ V.cell? ⟨r, 1, none⟩ = some (.int .i64 (k : Int))) := fun V fV => ⟨(hlb.q.fr fV (by simp)).cl 3, (hlb.q.fr fV (by simp)).cl 0, (hlb.q.fr fV (by simp)).cl 1⟩
            have HSt : Hid (∀ V, Fr [] wr V → LB V gc g8 r #[.int .i64 K.args, .int .i64 K.temps, .int .i64 K.stack, .slice lp K.ts.length lc, .slice pw m cw] l k 0 bad ∧ Fr [] W V) := fun V fV => ⟨hlb.mv n1 n2 (fV.mono (S' := [r]) (by simp)) (hlb.q.fr fV (by simp)), hfr.tr0 fV⟩
            have HNa : Hid (∀ V, Calls Tryz.prog 47 #[.int .i64 (i : Int)] V fun e w' => e = .returned (.string (nmB i)) ∧ Fr [] V w') := fun V => rname_ok i hi1 (by omega) V
            have HS0 : Hid (wr.drew.cell? ⟨r, 3, none⟩ = some (.bool bad) ∧ wr.drew.cell? ⟨r, 0, none⟩ = some (.string (bA l)) ∧ wr.drew.cell? ⟨r, 1, none⟩ = some (.int .i64 (k : Int)) ∧ Hid (Fr [] wr wr.drew)) := ⟨(HC.out _ (Fr.drew [] wr)).1, (HC.out _ (Fr.drew [] wr)).2.1, (HC.out _ (Fr.drew [] wr)).2.2, Fr.drew [] wr⟩
            have ki0 : (0 : Int) ≤ (k1 : Int) := by omega
            have ki1 : (k1 : Int) ≤ (k : Int) := by omega
            have ki2 : (k : Int) ≤ (l.length : Int) := by omega
            obtain ⟨ov, hov⟩ : ∃ ov, ov = opTo nm bad i := ⟨_, rfl⟩
            rw [← hov]
            have HOv := mkHid hov
            clear hlb hfr hov hi3 hlt hi1 hi2
            cases bad with
            | true =>
              go_wp2_with fail
              refine wp_region_h (S := fun V => V.cell? ⟨r, 3, none⟩ = some (.bool true) ∧ V.cell? ⟨r, 0, none⟩ = some (.string (bA l)) ∧ V.cell? ⟨r, 1, none⟩ = some (.int .i64 (k : Int)) ∧ Hid (Fr [] wr V)) (by kernel_rfl) HS0.out (fun hHeld => ?_)
              refine wpAnyH_take (i := 0) (v := ?_) rfl (by kernel_rfl) (by kernel_rfl) (by kernel_rfl) (fun _ _ _ h => h) (Or.inl ⟨by rfl, ?_⟩) (by assumption) ?_
              rotate_left
              · (intro w hSw; (try dsimp only at hSw); first | (go_simp; done) | (go_simp; with_reducible rfl))
              try simp only [Act.put, qT, qZ, qS, qB, qY, qX]
              refine wpAnyH_take (i := 1) (v := ?_) rfl (by kernel_rfl) (by kernel_rfl) (by kernel_rfl) (fun _ _ _ h => h) (Or.inl ⟨by rfl, ?_⟩) (by assumption) ?_
              rotate_left
              · (intro w hSw; (try dsimp only at hSw); first | (go_simp; done) | (go_simp; with_reducible rfl))
              try simp only [Act.put, qT, qZ, qS, qB, qY, qX]
              refine wpAnyH_take (i := 2) (v := ?_) rfl (by kernel_rfl) (by kernel_rfl) (by kernel_rfl) (fun _ _ _ h => h) (Or.inl ⟨by rfl, ?_⟩) (by assumption) ?_
              rotate_left
              · (intro w hSw; (try dsimp only at hSw); first | (go_simp; done) | (go_simp; with_reducible rfl))
              try simp only [Act.put, qT, qZ, qS, qB, qY, qX]
              refine wpAnyH_take (i := 3) (v := ?_) rfl (by kernel_rfl) (by kernel_rfl) (by kernel_rfl) (fun _ _ _ h => h) (Or.inl ⟨by rfl, ?_⟩) (by assumption) ?_
              rotate_left
              · (intro w hSw; (try dsimp only at hSw); first | (go_simp; done) | (go_simp; with_reducible rfl))
              try simp only [Act.put, qT, qZ, qS, qB, qY, qX]
              refine wpAnyH_take (i := 4) (v := .bool false) rfl (by kernel_rfl) (by kernel_rfl) (by kernel_rfl) (fun _ _ _ h => h) (Or.inl ⟨by rfl, ?_⟩) (by assumption) ?_
              · (intro w hSw; (try dsimp only at hSw); first | (go_simp; done) | (go_simp; with_reducible rfl))
              try simp only [Act.put, qT, qZ, qS, qB, qY, qX]
              refine wpAnyH_take (i := 5) (v := .bool false) rfl (by kernel_rfl) (by kernel_rfl) (by kernel_rfl) (fun _ _ _ h => h) (Or.inl ⟨by rfl, ?_⟩) (by assumption) ?_
              · (intro w hSw; (try dsimp only at hSw); first | (go_simp; done) | (go_simp; with_reducible rfl))
              try simp only [Act.put, qT, qZ, qS, qB, qY, qX]
              refine wpAnyH_take (i := 6) (v := undef) rfl (by kernel_rfl) (by kernel_rfl) (by kernel_rfl) (fun _ _ _ h => h) (Or.inr ⟨by rfl, rfl⟩) (by assumption) ?_
              try simp only [Act.put, qT, qZ, qS, qB, qY, qX]
              refine wpAnyH_take (i := 8) (v := undef) rfl (by kernel_rfl) (by kernel_rfl) (by kernel_rfl) (fun _ _ _ h => h) (Or.inr ⟨by rfl, rfl⟩) (by assumption) ?_
              try simp only [Act.put, qT, qZ, qS, qB, qY, qX]
              refine wpAnyH_take (i := 9) (v := undef) rfl (by kernel_rfl) (by kernel_rfl) (by kernel_rfl) (fun _ _ _ h => h) (Or.inr ⟨by rfl, rfl⟩) (by assumption) ?_
              try simp only [Act.put, qT, qZ, qS, qB, qY, qX]
              refine wpAnyH_take (i := 10) (v := undef) rfl (by kernel_rfl) (by kernel_rfl) (by kernel_rfl) (fun _ _ _ h => h) (Or.inr ⟨by rfl, rfl⟩) (by assumption) ?_
              try simp only [Act.put, qT, qZ, qS, qB, qY, qX]
              refine wpAnyH_take (i := 11) (v := undef) rfl (by kernel_rfl) (by kernel_rfl) (by kernel_rfl) (fun _ _ _ h => h) (Or.inr ⟨by rfl, rfl⟩) (by assumption) ?_
              try simp only [Act.put, qT, qZ, qS, qB, qY, qX]
              refine wpAnyH_take (i := 12) (v := undef) rfl (by kernel_rfl) (by kernel_rfl) (by kernel_rfl) (fun _ _ _ h => h) (Or.inr ⟨by rfl, rfl⟩) (by assumption) ?_
              try simp only [Act.put, qT, qZ, qS, qB, qY, qX]
              refine wpAnyH_take (i := 13) (v := undef) rfl (by kernel_rfl) (by kernel_rfl) (by kernel_rfl) (fun _ _ _ h => h) (Or.inr ⟨by rfl, rfl⟩) (by assumption) ?_
              try simp only [Act.put, qT, qZ, qS, qB, qY, qX]
              refine wpAnyH_take (i := 14) (v := undef) rfl (by kernel_rfl) (by kernel_rfl) (by kernel_rfl) (fun _ _ _ h => h) (Or.inr ⟨by rfl, rfl⟩) (by assumption) ?_
              try simp only [Act.put, qT, qZ, qS, qB, qY, qX]
              refine wpAnyH_take (i := 15) (v := undef) rfl (by kernel_rfl) (by kernel_rfl) (by kernel_rfl) (fun _ _ _ h => h) (Or.inr ⟨by rfl, rfl⟩) (by assumption) ?_
              try simp only [Act.put, qT, qZ, qS, qB, qY, qX]
              refine wpAnyH_take (i := 16) (v := undef) rfl (by kernel_rfl) (by kernel_rfl) (by kernel_rfl) (fun _ _ _ h => h) (Or.inr ⟨by rfl, rfl⟩) (by assumption) ?_
              try simp only [Act.put, qT, qZ, qS, qB, qY, qX]
              refine wpAnyH_take (i := 17) (v := undef) rfl (by kernel_rfl) (by kernel_rfl) (by kernel_rfl) (fun _ _ _ h => h) (Or.inr ⟨by rfl, rfl⟩) (by assumption) ?_
              try simp only [Act.put, qT, qZ, qS, qB, qY, qX]
              refine wpH_one (i := 7) (by kernel_rfl) rfl (fun K0 hK => ?_)
              rw [if_neg (by intro h; exact Bool.false_ne_true h)]
              refine hK.out _ _ HS0.out (fun hHeld => ?_)
              clear hK K0
              try simp only [Act.put, qT, qZ, qS, qB, qY, qX]
              refine wpAnyH_take (i := 18) (v := undef) rfl (by kernel_rfl) (by kernel_rfl) (by kernel_rfl) (fun _ _ _ h => h) (Or.inr ⟨by rfl, rfl⟩) (by assumption) ?_
              try simp only [Act.put, qT, qZ, qS, qB, qY, qX]
              refine wpAnyH_take (i := 19) (v := .bool false) rfl (by kernel_rfl) (by kernel_rfl) (by kernel_rfl) (fun _ _ _ h => h) (Or.inl ⟨by rfl, ?_⟩) (by assumption) ?_
              · (intro w hSw; (try dsimp only at hSw); first | (go_simp; done) | (go_simp; with_reducible rfl))
              try simp only [Act.put, qT, qZ, qS, qB, qY, qX]
              refine wpAnyH_done (by kernel_rfl) ?_ _
              clear hHeld
              go_wp2_with fail
              go_roundw
              case rel => exact ⟨i2, by have := HI2.out; omega, by have := HI2.out; omega, rfl, by rw [HOv.out]; rfl, HSt.out _ (Fr.drew [] wr)⟩
              case measure => have := HI2.out; simp [intOf]; omega
            | false =>
              have heq : ((nmB i).toList == ((bA l).extract k1 k).toList) = decide (opN nm = i) := by
                have hx := HXn.out
                rw [hx, bA_tl]
                have hiff := op_hit (b := nm) HI2.out.2.1 HI2.out.2.2
                by_cases h : opN nm = i
                · rw [decide_eq_true h, Lib.toList_data, hiff.2 h]; simp
                · rw [decide_eq_false h, Lib.toList_data]; have : ¬ (nmB i).data.toList = nm := fun e => h (hiff.1 e)
                  simpa using this
              by_cases hop : opN nm = i
              · rw [decide_eq_true hop] at heq
                have HNew : Hid (Value.int .i64 (i : Int) = .int .i64 ((opTo nm false i2 : Nat) : Int)) := by
                  show _ = _
                  unfold opTo
                  simp only [Bool.false_eq_true, if_false]
                  rw [if_pos (by have := HI2.out; omega), hop]
                clear hop
                go_wp2_with fail
                refine wp_region_h (S := fun V => V.cell? ⟨r, 3, none⟩ = some (.bool false) ∧ V.cell? ⟨r, 0, none⟩ = some (.string (bA l)) ∧ V.cell? ⟨r, 1, none⟩ = some (.int .i64 (k : Int)) ∧ Hid (Fr [] wr V)) (by kernel_rfl) HS0.out (fun hHeld => ?_)
                refine wpAnyH_take (i := 0) (v := ?_) rfl (by kernel_rfl) (by kernel_rfl) (by kernel_rfl) (fun _ _ _ h => h) (Or.inl ⟨by rfl, ?_⟩) (by assumption) ?_
                rotate_left
                · (intro w hSw; (try dsimp only at hSw); first | (go_simp; done) | (go_simp; with_reducible rfl))
                try simp only [Act.put, qT, qZ, qS, qB, qY, qX]
                refine wpAnyH_take (i := 1) (v := ?_) rfl (by kernel_rfl) (by kernel_rfl) (by kernel_rfl) (fun _ _ _ h => h) (Or.inl ⟨by rfl, ?_⟩) (by assumption) ?_
                rotate_left
                · (intro w hSw; (try dsimp only at hSw); first | (go_simp; done) | (go_simp; with_reducible rfl))
                try simp only [Act.put, qT, qZ, qS, qB, qY, qX]
                refine wpAnyH_take (i := 2) (v := ?_) rfl (by kernel_rfl) (by kernel_rfl) (by kernel_rfl) (fun _ _ _ h => h) (Or.inl ⟨by rfl, ?_⟩) (by assumption) ?_
                rotate_left
                · (intro w hSw; (try dsimp only at hSw); first | (go_simp; done) | (go_simp; with_reducible rfl))
                try simp only [Act.put, qT, qZ, qS, qB, qY, qX]
                refine wpAnyH_take (i := 3) (v := ?_) rfl (by kernel_rfl) (by kernel_rfl) (by kernel_rfl) (fun _ _ _ h => h) (Or.inl ⟨by rfl, ?_⟩) (by assumption) ?_
                rotate_left
                · (intro w hSw; (try dsimp only at hSw); first | (go_simp; done) | (go_simp; with_reducible rfl))
                try simp only [Act.put, qT, qZ, qS, qB, qY, qX]
                refine wpAnyH_take (i := 4) (v := .bool true) rfl (by kernel_rfl) (by kernel_rfl) (by kernel_rfl) (fun _ _ _ h => h) (Or.inl ⟨by rfl, ?_⟩) (by assumption) ?_
                · (intro w hSw; (try dsimp only at hSw); first | (go_simp; done) | (go_simp; with_reducible rfl))
                try simp only [Act.put, qT, qZ, qS, qB, qY, qX]
                refine wpAnyH_take (i := 5) (v := .bool true) rfl (by kernel_rfl) (by kernel_rfl) (by kernel_rfl) (fun _ _ _ h => h) (Or.inl ⟨by rfl, ?_⟩) (by assumption) ?_
                · (intro w hSw; (try dsimp only at hSw); first | (go_simp; done) | (go_simp; with_reducible rfl))
                try simp only [Act.put, qT, qZ, qS, qB, qY, qX]
                refine wpAnyH_take (i := 6) (v := ?_) rfl (by kernel_rfl) (by kernel_rfl) (by kernel_rfl) (fun _ _ _ h => h) (Or.inl ⟨by rfl, ?_⟩) (by assumption) ?_
                rotate_left
                · (intro w hSw; (try dsimp only at hSw); first | (go_simp; done) | (go_simp; with_reducible rfl))
                try simp only [Act.put, qT, qZ, qS, qB, qY, qX]
                refine wpAnyH_take (i := 8) (v := ?_) rfl (by kernel_rfl) (by kernel_rfl) (by kernel_rfl) (fun _ _ _ h => h) (Or.inl ⟨by rfl, ?_⟩) (by assumption) ?_
                rotate_left
                · (intro w hSw; (try dsimp only at hSw); first | (go_simp; done) | (go_simp; with_reducible rfl))
                try simp only [Act.put, qT, qZ, qS, qB, qY, qX]
                refine wpAnyH_take (i := 9) (v := ?_) rfl (by kernel_rfl) (by kernel_rfl) (by kernel_rfl) (fun _ _ _ h => h) (Or.inl ⟨by rfl, ?_⟩) (by assumption) ?_
                rotate_left
                · (intro w hSw; (try dsimp only at hSw); first | (go_simp; done) | (go_simp; with_reducible rfl))
                try simp only [Act.put, qT, qZ, qS, qB, qY, qX]
                refine wpAnyH_take (i := 10) (v := ?_) rfl (by kernel_rfl) (by kernel_rfl) (by kernel_rfl) (fun _ _ _ h => h) (Or.inl ⟨by rfl, ?_⟩) (by assumption) ?_
                rotate_left
                · (intro w hSw; (try dsimp only at hSw); first | (go_simp; done) | (go_simp; with_reducible rfl))
                try simp only [Act.put, qT, qZ, qS, qB, qY, qX]
                refine wpAnyH_take (i := 11) (v := ?_) rfl (by kernel_rfl) (by kernel_rfl) (by kernel_rfl) (fun _ _ _ h => h) (Or.inl ⟨by rfl, ?_⟩) (by assumption) ?_
                rotate_left
                · (intro w hSw; (try dsimp only at hSw); first | (go_simp; done) | (go_simp; with_reducible rfl))
                try simp only [Act.put, qT, qZ, qS, qB, qY, qX]
                refine wpAnyH_take (i := 12) (v := ?_) rfl (by kernel_rfl) (by kernel_rfl) (by kernel_rfl) (fun _ _ _ h => h) (Or.inl ⟨by rfl, ?_⟩) (by assumption) ?_
                rotate_left
                · (intro w hSw; (try dsimp only at hSw); first | (go_simp; done) | (go_simp; with_reducible rfl))
                try simp only [Act.put, qT, qZ, qS, qB, qY, qX]
                refine wpAnyH_take (i := 13) (v := ?_) rfl (by kernel_rfl) (by kernel_rfl) (by kernel_rfl) (fun _ _ _ h => h) (Or.inl ⟨by rfl, ?_⟩) (by assumption) ?_
                rotate_left
                · (intro w hSw; (try dsimp only at hSw); first | (go_simp; done) | (go_simp; with_reducible rfl))
                try simp only [Act.put, qT, qZ, qS, qB, qY, qX]
                refine wpAnyH_take (i := 14) (v := ?_) rfl (by kernel_rfl) (by kernel_rfl) (by kernel_rfl) (fun _ _ _ h => h) (Or.inl ⟨by rfl, ?_⟩) (by assumption) ?_
                rotate_left
                · (intro w hSw; (try dsimp only at hSw); first | (go_simp; done) | (go_simp; with_reducible rfl))
                try simp only [Act.put, qT, qZ, qS, qB, qY, qX]
                refine wpAnyH_take (i := 15) (v := ?_) rfl (by kernel_rfl) (by kernel_rfl) (by kernel_rfl) (fun _ _ _ h => h) (Or.inl ⟨by rfl, ?_⟩) (by assumption) ?_
                rotate_left
                · (intro w hSw; (try dsimp only at hSw); first | (go_simp; done) | (go_simp; with_reducible rfl))
                try simp only [Act.put, qT, qZ, qS, qB, qY, qX]
                refine wpAnyH_take (i := 16) (v := ?_) rfl (by kernel_rfl) (by kernel_rfl) (by kernel_rfl) (fun _ _ _ h => h) (Or.inl ⟨by rfl, ?_⟩) (by assumption) ?_
                rotate_left
                · (intro w hSw; (try dsimp only at hSw); first | (go_simp; done) | (go_simp; with_reducible rfl))
                try simp only [Act.put, qT, qZ, qS, qB, qY, qX]
                refine wpAnyH_take (i := 17) (v := ?_) rfl (by kernel_rfl) (by kernel_rfl) (by kernel_rfl) (fun _ _ _ h => h) (Or.inl ⟨by rfl, ?_⟩) (by assumption) ?_
                rotate_left
                · (intro w hSw; (try dsimp only at hSw); first | (go_simp; done) | (go_simp; with_reducible rfl))
                try simp only [Act.put, qT, qZ, qS, qB, qY, qX]
                refine wpH_one (i := 7) (by kernel_rfl) rfl (fun K0 hK => ?_)
                go_simp
                refine (HNa.out _).mono ?_
                rintro e w1 ⟨rfl, f1'⟩
                have HF1 : Hid (Fr [] wr w1) := HS0.out.2.2.2.out.tr0 f1'
                obtain ⟨y3, y0, y1⟩ := HC.out w1 HF1.out
                clear f1' HS0 hHeld
                try go_wp2_with fail
                refine hK.out _ _ ⟨y3, y0, y1, HF1⟩ (fun hHeld => ?_)
                clear hK K0
                try simp only [Act.put, qT, qZ, qS, qB, qY, qX]
                refine wpAnyH_take (i := 18) (v := .bool true) rfl (by kernel_rfl) (by kernel_rfl) (by kernel_rfl) (fun _ _ _ h => h) (Or.inl ⟨by rfl, ?_⟩) (by assumption) ?_
                · (intro w hSw; (try dsimp only at hSw); first | (go_simp; done) | (go_simp; with_reducible rfl))
                try simp only [Act.put, qT, qZ, qS, qB, qY, qX]
                refine wpAnyH_take (i := 19) (v := .bool true) rfl (by kernel_rfl) (by kernel_rfl) (by kernel_rfl) (fun _ _ _ h => h) (Or.inl ⟨by rfl, ?_⟩) (by assumption) ?_
                · (intro w hSw; (try dsimp only at hSw); first | (go_simp; done) | (go_simp; with_reducible rfl))
                try simp only [Act.put, qT, qZ, qS, qB, qY, qX]
                refine wpAnyH_done (by kernel_rfl) ?_ _
                clear hHeld
                go_wp2_with fail
                go_roundw
                case rel => exact ⟨i2, by have := HI2.out; omega, by have := HI2.out; omega, rfl, HNew.out, HSt.out _ HF1.out⟩
                case measure => have := HI2.out; simp [intOf]; omega
              · rw [decide_eq_false hop] at heq
                have HNew : Hid (Value.int .i64 (ov : Int) = .int .i64 ((opTo nm false i2 : Nat) : Int)) := by
                  show _ = _
                  rw [HOv.out]
                  unfold opTo
                  simp only [Bool.false_eq_true, if_false]
                  have := HI2.out
                  by_cases h : opN nm < i
                  · rw [if_pos h, if_pos (by omega)]
                  · rw [if_neg h, if_neg (by omega)]
                clear hop
                go_wp2_with fail
                refine wp_region_h (S := fun V => V.cell? ⟨r, 3, none⟩ = some (.bool false) ∧ V.cell? ⟨r, 0, none⟩ = some (.string (bA l)) ∧ V.cell? ⟨r, 1, none⟩ = some (.int .i64 (k : Int)) ∧ Hid (Fr [] wr V)) (by kernel_rfl) HS0.out (fun hHeld => ?_)
                refine wpAnyH_take (i := 0) (v := ?_) rfl (by kernel_rfl) (by kernel_rfl) (by kernel_rfl) (fun _ _ _ h => h) (Or.inl ⟨by rfl, ?_⟩) (by assumption) ?_
                rotate_left
                · (intro w hSw; (try dsimp only at hSw); first | (go_simp; done) | (go_simp; with_reducible rfl))
                try simp only [Act.put, qT, qZ, qS, qB, qY, qX]
                refine wpAnyH_take (i := 1) (v := ?_) rfl (by kernel_rfl) (by kernel_rfl) (by kernel_rfl) (fun _ _ _ h => h) (Or.inl ⟨by rfl, ?_⟩) (by assumption) ?_
                rotate_left
                · (intro w hSw; (try dsimp only at hSw); first | (go_simp; done) | (go_simp; with_reducible rfl))
                try simp only [Act.put, qT, qZ, qS, qB, qY, qX]
                refine wpAnyH_take (i := 2) (v := ?_) rfl (by kernel_rfl) (by kernel_rfl) (by kernel_rfl) (fun _ _ _ h => h) (Or.inl ⟨by rfl, ?_⟩) (by assumption) ?_
                rotate_left
                · (intro w hSw; (try dsimp only at hSw); first | (go_simp; done) | (go_simp; with_reducible rfl))
                try simp only [Act.put, qT, qZ, qS, qB, qY, qX]
                refine wpAnyH_take (i := 3) (v := ?_) rfl (by kernel_rfl) (by kernel_rfl) (by kernel_rfl) (fun _ _ _ h => h) (Or.inl ⟨by rfl, ?_⟩) (by assumption) ?_
                rotate_left
                · (intro w hSw; (try dsimp only at hSw); first | (go_simp; done) | (go_simp; with_reducible rfl))
                try simp only [Act.put, qT, qZ, qS, qB, qY, qX]
                refine wpAnyH_take (i := 4) (v := .bool true) rfl (by kernel_rfl) (by kernel_rfl) (by kernel_rfl) (fun _ _ _ h => h) (Or.inl ⟨by rfl, ?_⟩) (by assumption) ?_
                · (intro w hSw; (try dsimp only at hSw); first | (go_simp; done) | (go_simp; with_reducible rfl))
                try simp only [Act.put, qT, qZ, qS, qB, qY, qX]
                refine wpAnyH_take (i := 5) (v := .bool true) rfl (by kernel_rfl) (by kernel_rfl) (by kernel_rfl) (fun _ _ _ h => h) (Or.inl ⟨by rfl, ?_⟩) (by assumption) ?_
                · (intro w hSw; (try dsimp only at hSw); first | (go_simp; done) | (go_simp; with_reducible rfl))
                try simp only [Act.put, qT, qZ, qS, qB, qY, qX]
                refine wpAnyH_take (i := 6) (v := ?_) rfl (by kernel_rfl) (by kernel_rfl) (by kernel_rfl) (fun _ _ _ h => h) (Or.inl ⟨by rfl, ?_⟩) (by assumption) ?_
                rotate_left
                · (intro w hSw; (try dsimp only at hSw); first | (go_simp; done) | (go_simp; with_reducible rfl))
                try simp only [Act.put, qT, qZ, qS, qB, qY, qX]
                refine wpAnyH_take (i := 8) (v := ?_) rfl (by kernel_rfl) (by kernel_rfl) (by kernel_rfl) (fun _ _ _ h => h) (Or.inl ⟨by rfl, ?_⟩) (by assumption) ?_
                rotate_left
                · (intro w hSw; (try dsimp only at hSw); first | (go_simp; done) | (go_simp; with_reducible rfl))
                try simp only [Act.put, qT, qZ, qS, qB, qY, qX]
                refine wpAnyH_take (i := 9) (v := ?_) rfl (by kernel_rfl) (by kernel_rfl) (by kernel_rfl) (fun _ _ _ h => h) (Or.inl ⟨by rfl, ?_⟩) (by assumption) ?_
                rotate_left
                · (intro w hSw; (try dsimp only at hSw); first | (go_simp; done) | (go_simp; with_reducible rfl))
                try simp only [Act.put, qT, qZ, qS, qB, qY, qX]
                refine wpAnyH_take (i := 10) (v := ?_) rfl (by kernel_rfl) (by kernel_rfl) (by kernel_rfl) (fun _ _ _ h => h) (Or.inl ⟨by rfl, ?_⟩) (by assumption) ?_
                rotate_left
                · (intro w hSw; (try dsimp only at hSw); first | (go_simp; done) | (go_simp; with_reducible rfl))
                try simp only [Act.put, qT, qZ, qS, qB, qY, qX]
                refine wpAnyH_take (i := 11) (v := ?_) rfl (by kernel_rfl) (by kernel_rfl) (by kernel_rfl) (fun _ _ _ h => h) (Or.inl ⟨by rfl, ?_⟩) (by assumption) ?_
                rotate_left
                · (intro w hSw; (try dsimp only at hSw); first | (go_simp; done) | (go_simp; with_reducible rfl))
                try simp only [Act.put, qT, qZ, qS, qB, qY, qX]
                refine wpAnyH_take (i := 12) (v := ?_) rfl (by kernel_rfl) (by kernel_rfl) (by kernel_rfl) (fun _ _ _ h => h) (Or.inl ⟨by rfl, ?_⟩) (by assumption) ?_
                rotate_left
                · (intro w hSw; (try dsimp only at hSw); first | (go_simp; done) | (go_simp; with_reducible rfl))
                try simp only [Act.put, qT, qZ, qS, qB, qY, qX]
                refine wpAnyH_take (i := 13) (v := ?_) rfl (by kernel_rfl) (by kernel_rfl) (by kernel_rfl) (fun _ _ _ h => h) (Or.inl ⟨by rfl, ?_⟩) (by assumption) ?_
                rotate_left
                · (intro w hSw; (try dsimp only at hSw); first | (go_simp; done) | (go_simp; with_reducible rfl))
                try simp only [Act.put, qT, qZ, qS, qB, qY, qX]
                refine wpAnyH_take (i := 14) (v := ?_) rfl (by kernel_rfl) (by kernel_rfl) (by kernel_rfl) (fun _ _ _ h => h) (Or.inl ⟨by rfl, ?_⟩) (by assumption) ?_
                rotate_left
                · (intro w hSw; (try dsimp only at hSw); first | (go_simp; done) | (go_simp; with_reducible rfl))
                try simp only [Act.put, qT, qZ, qS, qB, qY, qX]
                refine wpAnyH_take (i := 15) (v := ?_) rfl (by kernel_rfl) (by kernel_rfl) (by kernel_rfl) (fun _ _ _ h => h) (Or.inl ⟨by rfl, ?_⟩) (by assumption) ?_
                rotate_left
                · (intro w hSw; (try dsimp only at hSw); first | (go_simp; done) | (go_simp; with_reducible rfl))
                try simp only [Act.put, qT, qZ, qS, qB, qY, qX]
                refine wpAnyH_take (i := 16) (v := ?_) rfl (by kernel_rfl) (by kernel_rfl) (by kernel_rfl) (fun _ _ _ h => h) (Or.inl ⟨by rfl, ?_⟩) (by assumption) ?_
                rotate_left
                · (intro w hSw; (try dsimp only at hSw); first | (go_simp; done) | (go_simp; with_reducible rfl))
                try simp only [Act.put, qT, qZ, qS, qB, qY, qX]
                refine wpAnyH_take (i := 17) (v := ?_) rfl (by kernel_rfl) (by kernel_rfl) (by kernel_rfl) (fun _ _ _ h => h) (Or.inl ⟨by rfl, ?_⟩) (by assumption) ?_
                rotate_left
                · (intro w hSw; (try dsimp only at hSw); first | (go_simp; done) | (go_simp; with_reducible rfl))
                try simp only [Act.put, qT, qZ, qS, qB, qY, qX]
                refine wpH_one (i := 7) (by kernel_rfl) rfl (fun K0 hK => ?_)
                go_simp
                refine (HNa.out _).mono ?_
                rintro e w1 ⟨rfl, f1'⟩
                have HF1 : Hid (Fr [] wr w1) := HS0.out.2.2.2.out.tr0 f1'
                obtain ⟨y3, y0, y1⟩ := HC.out w1 HF1.out
                clear f1' HS0 hHeld
                try go_wp2_with fail
                refine hK.out _ _ ⟨y3, y0, y1, HF1⟩ (fun hHeld => ?_)
                clear hK K0
                try simp only [Act.put, qT, qZ, qS, qB, qY, qX]
                refine wpAnyH_take (i := 18) (v := .bool false) rfl (by kernel_rfl) (by kernel_rfl) (by kernel_rfl) (fun _ _ _ h => h) (Or.inl ⟨by rfl, ?_⟩) (by assumption) ?_
                · (intro w hSw; (try dsimp only at hSw); first | (go_simp; done) | (go_simp; with_reducible rfl))
                try simp only [Act.put, qT, qZ, qS, qB, qY, qX]
                refine wpAnyH_take (i := 19) (v := .bool false) rfl (by kernel_rfl) (by kernel_rfl) (by kernel_rfl) (fun _ _ _ h => h) (Or.inl ⟨by rfl, ?_⟩) (by assumption) ?_
                · (intro w hSw; (try dsimp only at hSw); first | (go_simp; done) | (go_simp; with_reducible rfl))
                try simp only [Act.put, qT, qZ, qS, qB, qY, qX]
                refine wpAnyH_done (by kernel_rfl) ?_ _
                clear hHeld
                go_wp2_with fail
                go_roundw
                case rel => exact ⟨i2, by have := HI2.out; omega, by have := HI2.out; omega, rfl, HNew.out, HSt.out _ HF1.out⟩
                case measure => have := HI2.out; simp [intOf]; omega
          · have hi29 : i = 29 := by omega
            subst hi29
            have HL4 := mkHid hlb
            have FW4 := mkHid hfr
            clear hlb hfr hlt hi1 hi2
            obtain ⟨op, hop⟩ : ∃ op, op = opTo nm bad 29 := ⟨_, rfl⟩
            rw [← hop]
            have hop28 : op ≤ 28 := by rw [hop]; unfold opTo; split; omega; split; exact opN_28 nm; omega
            have HOp := mkHid hop
            clear hop
            have hml := HM.out
            have HNo : Hid (∀ V, LB V gc g8 r #[.int .i64 K.args, .int .i64 K.temps, .int .i64 K.stack, .slice lp K.ts.length lc, .slice pw m cw] l k 0 bad → Fr [] W V → insD l K.ws.length = none → L2R W B K lp lc pw l (.returned (.tuple #[.agg #[.int .i64 K.args, .int .i64 K.temps, .int .i64 K.stack, .slice lp K.ts.length lc, .slice pw m cw], .int .i64 2, .bool false])) (st5 V g8 (.int .i64 K.args) (.int .i64 K.temps) (.int .i64 K.stack) (.slice lp K.ts.length lc) (.slice pw m cw)) ∧ (st5 V g8 (.int .i64 K.args) (.int .i64 K.temps) (.int .i64 K.stack) (.slice lp K.ts.length lc) (.slice pw m cw)).heap[g8]? = some (.cells #[.int .i64 K.args, .int .i64 K.temps, .int .i64 K.stack, .slice lp K.ts.length lc, .slice pw m cw] 25 (0, 0))) := fun V hV fV hno => by
              obtain ⟨b5, f5⟩ := st5_ok (.int .i64 K.args) (.int .i64 K.temps) (.int .i64 K.stack) (.slice lp K.ts.length lc) (.slice pw m cw) hV.z
              refine ⟨⟨[], false, pw, cw, ?_, ((fV.mono (S' := blk pw) (by simp)).trans f5 (fun b hb => .inr (by simp at hb; rw [hb]; exact HrW.out.2.2))), (fun e => by cases e), by rw [hno]; rfl⟩, b5⟩
              unfold Co.v
              simp only [List.append_nil]
              rw [hml]
            clear hml
            by_cases hop0 : op = 0
            · have hno : insD l K.ws.length = none := by
                rw [← HM.out]
                have hst := HST.out
                cases bad with
                | true => exact ins_no hst.symm
                | false =>
                  rw [st_good] at hst
                  refine ins_op hst.symm (.inl ?_)
                  rw [← HNm.out]
                  have h := HOp.out
                  unfold opTo at h
                  simp only [Bool.false_eq_true, if_false] at h
                  have := opN_28 nm
                  rw [if_pos (by omega)] at h
                  omega
              have HFin := mkHid (HNo.out wr HL4.out FW4.out hno)
              subst hop0
              have d0 : wr.cell? ⟨gc, 0, none⟩ = some (.int .i64 K.args) := cell_in HL4.out.c 0
              have d1 : wr.cell? ⟨gc, 1, none⟩ = some (.int .i64 K.temps) := cell_in HL4.out.c 1
              have d2 : wr.cell? ⟨gc, 2, none⟩ = some (.int .i64 K.stack) := cell_in HL4.out.c 2
              have d3 : wr.cell? ⟨gc, 3, none⟩ = some (.slice lp K.ts.length lc) := cell_in HL4.out.c 3
              have d4 : wr.cell? ⟨gc, 4, none⟩ = some (.slice pw m cw) := cell_in HL4.out.c 4
              have e0 : wr.cell? ⟨g8, 0, none⟩ = some (.int .i64 0) := cell_in HL4.out.z 0
              have e1 : wr.cell? ⟨g8, 1, none⟩ = some (.int .i64 0) := cell_in HL4.out.z 1
              have e2 : wr.cell? ⟨g8, 2, none⟩ = some (.int .i64 0) := cell_in HL4.out.z 2
              have e3 : wr.cell? ⟨g8, 3, none⟩ = some (.slice none 0 0) := cell_in HL4.out.z 3
              have e4 : wr.cell? ⟨g8, 4, none⟩ = some (.slice none 0 0) := cell_in HL4.out.z 4
              have y0 := frozen_in HL4.out.z 0
              have y1 := frozen_in HL4.out.z 1
              have y2 := frozen_in HL4.out.z 2
              have y3 := frozen_in HL4.out.z 3
              have y4 := frozen_in HL4.out.z 4
              clear hno HNo
              go_wp2_with fail
              exact ret25 Tryz.results25 HFin.out.2 rfl rfl rfl HFin.out.1
            · have hop1 : 1 ≤ op := by omega
              have hbad : bad = false := by
                have h := HOp.out
                unfold opTo at h
                cases bad with
                | true => rw [if_pos rfl] at h; omega
                | false => rfl
              subst hbad
              have hopn : opN nm = op := by
                have h := HOp.out
                unfold opTo at h
                simp only [Bool.false_eq_true, if_false] at h
                have := opN_28 nm
                rw [if_pos (by omega)] at h
                exact h.symm
              have HSz : Hid (∀ V, Calls Tryz.prog 48 #[.int .i64 (op : Int)] V fun e w' => e = .returned (.int .i64 ((1 + opd op : Nat) : Int)) ∧ Fr [] V w') := fun V => rsize_ok op hop1 hop28 V
              have hod := opd_le op
              obtain ⟨od, hodd⟩ : ∃ od, od = opd op := ⟨_, rfl⟩
              rw [← hodd] at HSz hod
              have hno0 : ¬ (op : Int) = 0 := by omega
              have ho0 : ((op : Int) == 0) = false := by simpa using hno0
              obtain ⟨sz, hsz⟩ : ∃ sz, sz = 1 + od := ⟨_, rfl⟩
              rw [← hsz] at HSz
              obtain ⟨ms, hms⟩ : ∃ ms, ms = m + sz := ⟨_, rfl⟩
              have hwm : IntKind.i64.wrap ((m : Int) + (sz : Int)) = (ms : Int) := by rw [iwrap_id (by omega) (by omega)]; omega
              have hst : tokP (Lib.itoa (m : Int) ++ [32]) l = some (l.drop k1) := HST.out.symm
              have HIns : Hid (insD l K.ws.length = if 4096 < ms then none else finN op (numsQ od (l.drop k))) := by
                show _ = _
                rw [← HM.out]
                have hn := HNm.out
                by_cases h4 : 4096 < ms
                · rw [if_pos h4]
                  refine ins_op hst (.inr ?_)
                  rw [← hn, hopn]
                  omega
                · rw [if_neg h4, ins_yes hst (by rw [← hn, hopn]; omega), ← hn, hopn, HK2.out, tq_drop, hodd]
              have HOd : Hid (od ≤ 3 ∧ sz = 1 + od ∧ ms = m + sz) := ⟨hod, hsz, hms⟩
              have HO1 : Hid (1 ≤ op ∧ op ≤ 28) := ⟨hop1, hop28⟩
              clear hop0 hopn hodd hsz hms hst HST HOp HNm HK2 HXn hop1 hop28 hod htl hk1 hka
              go_wp2_with fail
              refine (HSz.out wr).mono ?_
              rintro e w5 ⟨rfl, f5⟩
              have HL5 := mkHid (HL4.out.mv n1 n2 (f5.mono (S' := [r]) (by simp)) (HL4.out.q.fr f5 (by simp)))
              have FW5 := mkHid (FW4.out.tr0 f5)
              clear f5 HL4 FW4
              by_cases h4 : 4096 < ms
              · have o1 : decide ((ms : Int) > 4096) = true := decide_eq_true (by omega)
                have o2 : (4096 : Int) < (ms : Int) := by omega
                have HFin := mkHid (HNo.out w5 HL5.out FW5.out (by rw [HIns.out, if_pos h4]))
                clear HNo h4
                have d0 : w5.cell? ⟨gc, 0, none⟩ = some (.int .i64 K.args) := cell_in HL5.out.c 0
                have d1 : w5.cell? ⟨gc, 1, none⟩ = some (.int .i64 K.temps) := cell_in HL5.out.c 1
                have d2 : w5.cell? ⟨gc, 2, none⟩ = some (.int .i64 K.stack) := cell_in HL5.out.c 2
                have d3 : w5.cell? ⟨gc, 3, none⟩ = some (.slice lp K.ts.length lc) := cell_in HL5.out.c 3
                have d4 : w5.cell? ⟨gc, 4, none⟩ = some (.slice pw m cw) := cell_in HL5.out.c 4
                have e0 : w5.cell? ⟨g8, 0, none⟩ = some (.int .i64 0) := cell_in HL5.out.z 0
                have e1 : w5.cell? ⟨g8, 1, none⟩ = some (.int .i64 0) := cell_in HL5.out.z 1
                have e2 : w5.cell? ⟨g8, 2, none⟩ = some (.int .i64 0) := cell_in HL5.out.z 2
                have e3 : w5.cell? ⟨g8, 3, none⟩ = some (.slice none 0 0) := cell_in HL5.out.z 3
                have e4 : w5.cell? ⟨g8, 4, none⟩ = some (.slice none 0 0) := cell_in HL5.out.z 4
                have y0 := frozen_in HL5.out.z 0
                have y1 := frozen_in HL5.out.z 1
                have y2 := frozen_in HL5.out.z 2
                have y3 := frozen_in HL5.out.z 3
                have y4 := frozen_in HL5.out.z 4
                go_wp2_with fail
                exact ret25 Tryz.results25 HFin.out.2 rfl rfl rfl HFin.out.1
              · have o1 : decide ((ms : Int) > 4096) = false := decide_eq_false (by omega)
                have o2 : ¬ (4096 : Int) < (ms : Int) := by omega
                have o3 : ms ≤ 4096 := by omega
                have hins := HIns.out
                rw [if_neg h4] at hins
                have HIn2 := mkHid hins
                clear hins HIns HNo
                have hrw5 : w5.ownsRow B 3 1 (.slice pw K.ws.length cw) K.ws.length (K.ws.map (Value.int .i64)) := own_congr HRow.out fun g hg => FW5.out.block g (own_lt HRow.out g hg).2 (by simp)
                have hl5 : LB w5 gc g8 r #[.int .i64 K.args, .int .i64 K.temps, .int .i64 K.stack, .slice lp K.ts.length lc, .slice pw K.ws.length cw] l k 0 false := by rw [← HM.out]; exact HL5.out
                obtain ⟨p6, c6, w6, hr6, hc6, hl7, hw7, f7, hp7⟩ := word_push (op : Int) HB.out HrW.out hl5 hrw5 (FW5.out.mono (by simp)) (fun g hg => .inl hg) (fun g hg => (HBk.out g hg).2) (by have := HM.out; omega) n1 n3
                have d4 : w5.cell? ⟨gc, 4, none⟩ = some (.slice pw m cw) := cell_in HL5.out.c 4
                rw [← HM.out] at hr6 hc6
                have e4 : w6.cell? ⟨gc, 4, none⟩ = some (.slice pw m cw) := cell_in hc6 4
                have y4 := frozen_in hc6 4
                have HR6 := mkHid hr6
                obtain ⟨m1, hm1⟩ : ∃ q, q = m + 1 := ⟨_, rfl⟩
                obtain ⟨V7, hV7⟩ : ∃ V, w6.setCell ⟨gc, 4, none⟩ (.slice p6 (m + 1) c6) = V := ⟨_, rfl⟩
                have hml := HM.out
                skip
                have HSt : Hid (LB V7 gc g8 r #[.int .i64 K.args, .int .i64 K.temps, .int .i64 K.stack, .slice lp K.ts.length lc, .slice p6 (K.ws ++ [(op : Int)]).length c6] l k 0 false ∧ V7.ownsRow B 3 1 (.slice p6 (K.ws ++ [(op : Int)]).length c6) (K.ws ++ [(op : Int)]).length ((K.ws ++ [(op : Int)]).map (Value.int .i64)) ∧ Fr (blk pw) W V7 ∧ ∀ g ∈ blk p6, g ∈ blk pw ∨ (gc < g ∧ g8 < g ∧ r < g)) := by
                  rw [← hV7, hml]
                  exact ⟨hl7, hw7, f7, hp7⟩
                have HV7 := mkHid hV7
                clear hr6 hc6 hl7 hw7 f7 hp7 hl5 hrw5 hV7 hml hm1 h4
                go_wp2_with (at_builtin; refine Lib.wpList_append_run _ rfl (.tmp 166) (.tmp 168) 23 23 rfl _ _ rfl rfl _ _ HR6.out ?_)
                rw [HV7.out]
                clear HV7 HR6 e4 y4 d4 HL5 FW5 o1 o2
                go_loopw [17] (fun q wr => ∃ (j : Nat) (ns : List Int) (p : Option Addr) (c k' : Nat) (bad' : Bool), j ≤ od ∧ ns.length = j ∧ q = .int .i64 ((j + 1 : Nat) : Int) ∧ Hid (LB wr gc g8 r #[.int .i64 K.args, .int .i64 K.temps, .int .i64 K.stack, .slice lp K.ts.length lc, .slice p (K.ws ++ (op : Int) :: ns).length c] l k' 0 bad' ∧ wr.ownsRow B 3 1 (.slice p (K.ws ++ (op : Int) :: ns).length c) (K.ws ++ (op : Int) :: ns).length ((K.ws ++ (op : Int) :: ns).map (Value.int .i64)) ∧ Fr (blk pw) W wr ∧ (∀ g ∈ blk p, g ∈ blk pw ∨ (gc < g ∧ g8 < g ∧ r < g)) ∧ NmS (numsQ od (l.drop k)) (od - j) ns (stQ l k' bad'))) (fun q _ => 10 - (intOf q).toNat)
                case atStart => exact ⟨0, [], p6, c6, k, false, by omega, rfl, rfl, HSt.out.1, HSt.out.2.1, HSt.out.2.2.1, HSt.out.2.2.2, by unfold NmS; rw [st_good, Option.bind_some, upN_nil]; rfl⟩
                case round =>
                  clear HSt
                  obtain ⟨j, ns, p, c, k3, bad3, hj, hnl, rfl, hst⟩ := hrel
                  obtain ⟨hlb, hrw, hfr, hpp, hnm⟩ := hst.out
                  clear hst
                  have hodd := HOd.out
                  obtain ⟨j1, hj1⟩ : ∃ q, q = j + 1 := ⟨_, rfl⟩
                  rw [← hj1]
                  have HS1 : Hid (∀ V, Fr [] wr V → LB V gc g8 r #[.int .i64 K.args, .int .i64 K.temps, .int .i64 K.stack, .slice lp K.ts.length lc, .slice p (K.ws ++ (op : Int) :: ns).length c] l k3 0 bad3 ∧ V.ownsRow B 3 1 (.slice p (K.ws ++ (op : Int) :: ns).length c) (K.ws ++ (op : Int) :: ns).length ((K.ws ++ (op : Int) :: ns).map (Value.int .i64)) ∧ Fr (blk pw) W V) := fun V fV => ⟨hlb.mv n1 n2 (fV.mono (S' := [r]) (by simp)) (hlb.q.fr fV (by simp)), own_congr hrw (fun g hg => fV.block g (own_lt hrw g hg).2 (by simp)), hfr.trans fV (by simp)⟩
                  have HPp := mkHid hpp
                  have HNm := mkHid hnm
                  have HJ : Hid (j ≤ od ∧ ns.length = j ∧ j1 = j + 1) := ⟨hj, hnl, hj1⟩
                  have hnl2 : (K.ws ++ (op : Int) :: ns).length = m + 1 + j := by rw [List.length_append, List.length_cons, hnl, ← HM.out]; omega
                  have HNl := mkHid hnl2
                  by_cases hlt : j < od
                  · have t1 : (j1 : Int) < (sz : Int) := by omega
                    have t2 : decide ((j1 : Int) < (sz : Int)) = true := decide_eq_true t1
                    have t3 : j1 < sz := by omega
                    obtain ⟨j2, hj2⟩ : ∃ q, q = j1 + 1 := ⟨_, rfl⟩
                    have hwj : IntKind.i64.wrap ((j1 : Int) + 1) = (j2 : Int) := by rw [iwrap_id (by omega) (by omega)]; omega
                    have HJ2 := mkHid hj2
                    have HLt := mkHid hlt
                    clear hlb hrw hfr hpp hnm hj hnl hj1 hnl2 hodd hj2 hlt
                    go_wp2_with fail
                    refine (HSz.out wr).mono ?_
                    rintro e q1 ⟨rfl, f1⟩
                    obtain ⟨hlb1, hrw1, hfr1⟩ := HS1.out q1 f1
                    have HEat := mkHid (eat_st hlb1.q [32] (by decide))
                    have HA1 := mkHid (And.intro hlb1 (And.intro hrw1 hfr1))
                    clear hlb1 hrw1 hfr1 f1 HS1
                    go_wp2_with fail
                    refine HEat.out.mono ?_
                    rintro e q2 ⟨rfl, f2, k4, bad4, hq4, hs4⟩
                    have hl2 := HA1.out.1.mv n1 n2 f2 hq4
                    have hrn : ∀ g ∈ blk p, g ∉ [r] := fun g hg hm => by
                      have e : g = r := by simpa using hm
                      rcases HPp.out g hg with q | q
                      · have := (HBk.out g q).2; have := HrW.out; omega
                      · omega
                    have HRn := mkHid hrn
                    have hr2 := own_congr HA1.out.2.1 (fun g hg => f2.block g (own_lt HA1.out.2.1 g hg).2 (HRn.out g ((blk_own _ _ _ _).1 hg)))
                    have fr2 : Fr (blk pw) W q2 := HA1.out.2.2.trans f2 (fun g hg => .inr (by simp at hg; rw [hg]; exact HrW.out.1))
                    have HNum := mkHid (num_st hq4 (HPw.out q2 fr2))
                    have HA2 := mkHid (And.intro hl2 (And.intro hr2 fr2))
                    have HS4 := mkHid hs4
                    clear hl2 hr2 fr2 f2 hq4 hs4 HA1 HEat hrn
                    go_wp2_with fail
                    refine HNum.out.mono ?_
                    rintro e q3 ⟨f3, v, k5, bad5, rfl, hq5, hs5⟩
                    have hl3 := HA2.out.1.mv n1 n2 f3 hq5
                    have hr3 := own_congr HA2.out.2.1 (fun g hg => f3.block g (own_lt HA2.out.2.1 g hg).2 (HRn.out g ((blk_own _ _ _ _).1 hg)))
                    have fr3 : Fr (blk pw) W q3 := HA2.out.2.2.trans f3 (fun g hg => .inr (by simp at hg; rw [hg]; exact HrW.out.1))
                    obtain ⟨p6, c6, w6, hr6, hc6, hl7, hw7, f7, hp7⟩ := word_push v HB.out HrW.out hl3 hr3 fr3 HPp.out (fun g hg => (HBk.out g hg).2) (by have := HNl.out; have := HJ.out; have := HOd.out; omega) n1 n3
                    have hap : (K.ws ++ (op : Int) :: ns) ++ [v] = K.ws ++ (op : Int) :: (ns ++ [v]) := by simp
                    rw [hap] at hl7 hw7
                    obtain ⟨nl, hnl⟩ : ∃ q, q = (K.ws ++ (op : Int) :: ns).length := ⟨_, rfl⟩
                    have d4 : q3.cell? ⟨gc, 4, none⟩ = some (.slice p nl c) := by rw [hnl]; exact cell_in hl3.c 4
                    have e4 : w6.cell? ⟨gc, 4, none⟩ = some (.slice p nl c) := by rw [hnl]; exact cell_in hc6 4
                    have y4 := frozen_in hc6 4
                    rw [← hnl] at hr6 hl7 hw7 f7
                    obtain ⟨V7, hV7⟩ : ∃ V, w6.setCell ⟨gc, 4, none⟩ (.slice p6 (nl + 1) c6) = V := ⟨_, rfl⟩
                    rw [hV7] at hl7 hw7 f7
                    have HSn := mkHid (And.intro hl7 (And.intro hw7 (And.intro f7 (And.intro hp7 (NmS.step (j := od - j - 1) (by have h := HNm.out; rw [show od - j = od - j - 1 + 1 by have := HLt.out; omega] at h; exact h) HS4.out hs5)))))
                    have HR6 := mkHid hr6
                    have HV7 := mkHid hV7
                    clear hr6 hc6 hl7 hw7 f7 hp7 hl3 hr3 fr3 f3 hq5 hs5 hV7 hap hnl HA2 HNum HS4 HNm HPp HRn
                    go_wp2_with (at_builtin; refine Lib.wpList_append_run _ rfl (.tmp 182) (.tmp 184) 23 23 rfl _ _ rfl rfl _ _ HR6.out ?_)
                    go_roundw
                    case rel => exact ⟨j1, ns ++ [v], p6, c6, k5, bad5, by have := HJ.out; have := HLt.out; omega, by rw [List.length_append, HJ.out.2.1]; exact HJ.out.2.2.symm, by rw [HJ2.out], by rw [HV7.out]; have h := HSn.out; rw [show od - j - 1 = od - j1 by have := HJ.out; omega] at h; exact h⟩
                    case measure => have := HJ2.out; have := HJ.out; have := HOd.out; simp [intOf]; omega
                  · have t1 : ¬ (j1 : Int) < (sz : Int) := by omega
                    have t2 : decide ((j1 : Int) < (sz : Int)) = false := decide_eq_false t1
                    have t3 : ¬ j1 < sz := by omega
                    have hjo : od - j = 0 := by omega
                    have hnm0 := hnm
                    rw [hjo] at hnm0
                    have HNf := mkHid (NmS.fin (o := op) hnm0)
                    clear hlb hrw hfr hpp hnm hj hnl hj1 hnl2 hodd hlt hjo hnm0 HNm
                    go_wp2_with fail
                    refine (HSz.out wr).mono ?_
                    rintro e VV ⟨rfl, f1⟩
                    obtain ⟨hlb1, hrw1, hfr1⟩ := HS1.out VV f1
                    obtain ⟨nn, hnn⟩ : ∃ q, q = (K.ws ++ (op : Int) :: ns).length := ⟨_, rfl⟩
                    rw [← hnn] at hlb1
                    have HL := mkHid hlb1
                    have HRw := mkHid hrw1
                    have HFr := mkHid hfr1
                    have HNn := mkHid hnn
                    have HEnd : Hid (∀ V, Fr [] VV V → Calls Tryz.prog 41 #[pt r] V fun e w' => e = .returned (.bool (decide (stQ l k3 bad3 = some []))) ∧ Fr [] V w') := fun V fV => ends_st (HL.out.q.fr fV (by simp))
                    clear hlb1 hrw1 hfr1 f1 HS1 hnn
                    go_wp2_with fail
                    have HCs : Hid (∀ V, Fr [] VV V → V.cell? ⟨gc, 0, none⟩ = some (.int .i64 K.args) ∧ V.cell? ⟨gc, 1, none⟩ = some (.int .i64 K.temps) ∧ V.cell? ⟨gc, 2, none⟩ = some (.int .i64 K.stack) ∧ V.cell? ⟨gc, 3, none⟩ = some (.slice lp K.ts.length lc) ∧ V.cell? ⟨gc, 4, none⟩ = some (.slice p nn c)) := fun V fV => ⟨cell_in (fV.hb HL.out.c) 0, cell_in (fV.hb HL.out.c) 1, cell_in (fV.hb HL.out.c) 2, cell_in (fV.hb HL.out.c) 3, cell_in (fV.hb HL.out.c) 4⟩
                    have HS0 := mkHid (HCs.out VV.drew (Fr.drew [] VV))
                    refine wp_region_h (S := fun V => V.cell? ⟨gc, 0, none⟩ = some (.int .i64 K.args) ∧ V.cell? ⟨gc, 1, none⟩ = some (.int .i64 K.temps) ∧ V.cell? ⟨gc, 2, none⟩ = some (.int .i64 K.stack) ∧ V.cell? ⟨gc, 3, none⟩ = some (.slice lp K.ts.length lc) ∧ V.cell? ⟨gc, 4, none⟩ = some (.slice p nn c)) (by kernel_rfl) HS0.out (fun hHeld => ?_)
                    refine wpAnyH_take (i := 0) (v := ?_) rfl (by kernel_rfl) (by kernel_rfl) (by kernel_rfl) (fun _ _ _ h => h) (Or.inl ⟨by rfl, ?_⟩) (by assumption) ?_
                    rotate_left
                    · (intro w hSw; (try dsimp only at hSw); first | (go_simp; done) | (go_simp; with_reducible rfl))
                    try simp only [Act.put, qT, qZ, qS, qB, qY, qX]
                    refine wpAnyH_take (i := 1) (v := ?_) rfl (by kernel_rfl) (by kernel_rfl) (by kernel_rfl) (fun _ _ _ h => h) (Or.inl ⟨by rfl, ?_⟩) (by assumption) ?_
                    rotate_left
                    · (intro w hSw; (try dsimp only at hSw); first | (go_simp; done) | (go_simp; with_reducible rfl))
                    try simp only [Act.put, qT, qZ, qS, qB, qY, qX]
                    refine wpH_one (i := 2) (by kernel_rfl) rfl (fun K0 hK => ?_)
                    go_simp
                    refine (HEnd.out VV.drew (Fr.drew [] VV)).mono ?_
                    rintro e w4 ⟨rfl, f4'⟩
                    have f4 : Fr [] VV w4 := (Fr.drew [] VV).tr0 f4'
                    have hc4 := HCs.out w4 f4
                    have hz4 := f4.hb HL.out.z
                    have e0 : w4.cell? ⟨g8, 0, none⟩ = some (.int .i64 0) := cell_in hz4 0
                    have e1 : w4.cell? ⟨g8, 1, none⟩ = some (.int .i64 0) := cell_in hz4 1
                    have e2 : w4.cell? ⟨g8, 2, none⟩ = some (.int .i64 0) := cell_in hz4 2
                    have e3 : w4.cell? ⟨g8, 3, none⟩ = some (.slice none 0 0) := cell_in hz4 3
                    have e4 : w4.cell? ⟨g8, 4, none⟩ = some (.slice none 0 0) := cell_in hz4 4
                    have y0 := frozen_in hz4 0
                    have y1 := frozen_in hz4 1
                    have y2 := frozen_in hz4 2
                    have y3 := frozen_in hz4 3
                    have y4 := frozen_in hz4 4
                    obtain ⟨b5, f5⟩ := st5_ok (.int .i64 K.args) (.int .i64 K.temps) (.int .i64 K.stack) (.slice lp K.ts.length lc) (.slice p nn c) hz4
                    have HC5 : Hid ((st5 w4 g8 (.int .i64 K.args) (.int .i64 K.temps) (.int .i64 K.stack) (.slice lp K.ts.length lc) (.slice p nn c)).cell? ⟨gc, 0, none⟩ = some (.int .i64 K.args) ∧ (st5 w4 g8 (.int .i64 K.args) (.int .i64 K.temps) (.int .i64 K.stack) (.slice lp K.ts.length lc) (.slice p nn c)).cell? ⟨gc, 1, none⟩ = some (.int .i64 K.temps) ∧ (st5 w4 g8 (.int .i64 K.args) (.int .i64 K.temps) (.int .i64 K.stack) (.slice lp K.ts.length lc) (.slice p nn c)).cell? ⟨gc, 2, none⟩ = some (.int .i64 K.stack) ∧ (st5 w4 g8 (.int .i64 K.args) (.int .i64 K.temps) (.int .i64 K.stack) (.slice lp K.ts.length lc) (.slice p nn c)).cell? ⟨gc, 3, none⟩ = some (.slice lp K.ts.length lc) ∧ (st5 w4 g8 (.int .i64 K.args) (.int .i64 K.temps) (.int .i64 K.stack) (.slice lp K.ts.length lc) (.slice p nn c)).cell? ⟨gc, 4, none⟩ = some (.slice p nn c)) := by
                      have hb := (f5.block gc (lt_of_heap (f4.hb HL.out.c)) (by simpa using fun e => n3 e.symm)).trans (f4.hb HL.out.c)
                      exact ⟨cell_in hb 0, cell_in hb 1, cell_in hb 2, cell_in hb 3, cell_in hb 4⟩
                    have HB5 := mkHid b5
                    have HF5 : Hid (Fr [g8] VV (st5 w4 g8 (.int .i64 K.args) (.int .i64 K.temps) (.int .i64 K.stack) (.slice lp K.ts.length lc) (.slice p nn c))) := (f4.mono (S' := [g8]) (by simp)).trans f5 (by simp)
                    clear f4 f4' hz4 b5 f5 HS0 hHeld
                    try go_wp2_with fail
                    refine hK.out _ _ hc4 (fun hHeld => ?_)
                    clear hK K0 hc4
                    try simp only [Act.put, qT, qZ, qS, qB, qY, qX]
                    refine wpH_one (i := 3) (by kernel_rfl) rfl (fun K0 hK => ?_)
                    go_simp
                    refine hK.out _ _ HC5.out (fun hHeld => ?_)
                    clear hK K0
                    try simp only [Act.put, qT, qZ, qS, qB, qY, qX]
                    refine wpAnyH_take (i := 4) (v := ?_) rfl (by kernel_rfl) (by kernel_rfl) (by kernel_rfl) (fun _ _ _ h => h) (Or.inl ⟨by rfl, ?_⟩) (by assumption) ?_
                    rotate_left
                    · (intro w hSw; (try dsimp only at hSw); first | (go_simp; done) | (go_simp; with_reducible rfl))
                    try simp only [Act.put, qT, qZ, qS, qB, qY, qX]
                    refine wpAnyH_take (i := 5) (v := ?_) rfl (by kernel_rfl) (by kernel_rfl) (by kernel_rfl) (fun _ _ _ h => h) (Or.inl ⟨by rfl, ?_⟩) (by assumption) ?_
                    rotate_left
                    · (intro w hSw; (try dsimp only at hSw); first | (go_simp; done) | (go_simp; with_reducible rfl))
                    try simp only [Act.put, qT, qZ, qS, qB, qY, qX]
                    refine wpAnyH_done (by kernel_rfl) ?_ _
                    clear hHeld
                    go_wp2_with fail
                    refine ret25 Tryz.results25 HB5.out rfl rfl rfl ?_
                    have hg8p : ∀ g ∈ blk p, g ∉ [g8] := fun g hg hm => by
                      have e : g = g8 := by simpa using hm
                      rcases HPp.out g hg with q | q
                      · have := (HBk.out g q).2; have := HrW.out; omega
                      · omega
                    refine ⟨(op : Int) :: ns, decide (stQ l k3 bad3 = some []), p, c, ?_, HFr.out.trans HF5.out (fun b hb => .inr (by simp at hb; rw [hb]; exact HrW.out.2.2)), fun _ => own_congr HRw.out (fun g hg => HF5.out.block g (own_lt HRw.out g hg).2 (hg8p g ((blk_own _ _ _ _).1 hg))), ?_⟩
                    · unfold Co.v
                      rw [HNn.out]
                      try rfl
                    · rw [HIn2.out, HNf.out]
                      simp
end Go.Proofs.YtclkoffnjiiioaaGreatDoor
