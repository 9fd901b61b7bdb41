import Derived.Test.YtclkoffnjiiioaaDoorIRc
namespace Go.Proofs.YtclkoffnjiiioaaDoor
open Go.RowKit
set_option linter.unusedVariables false
set_option linter.unusedSimpArgs false
attribute [local go_sem ↓] Go.wp_at_zero Go.wp_at_succ
theorem FineT.num {t : LitT} (h : FineT t) : r64 t.num := by cases h; assumption
set_option maxRecDepth 100000 in
set_option maxHeartbeats 8000000 in
theorem relement_step (t : LitT) (w0 V : World) (hk : LitsR w0 t.p t.c t.kids) (hf : Fr [] w0 V) (hpw : Pw w0) (hF : FineT t) (hl : (wrT t).length ≤ 1000000000)
    (hK : t.kind = 4 → ∀ u ∈ t.kids, ∀ (U : World), Fr [] w0 U → Calls Tryd.prog 32 #[.agg #[.int .i64 u.kind, .string u.text, .int .i64 u.num, u.items]] U fun e w' => e = .returned (.string (ba (wrT u))) ∧ Fr [] U w') :
    Calls Tryd.prog 32 #[.agg #[.int .i64 t.kind, .string t.text, .int .i64 t.num, t.items]] V fun e w' => e = .returned (.string (ba (wrT t))) ∧ Fr [] V w' := by
  obtain ⟨_, h0, h1, h2, h3, hkk⟩ := hF
  obtain ⟨V1, hV1⟩ : ∃ U, V.alloc (.cells #[.int .i64 t.kind, .string t.text, .int .i64 t.num, .slice t.p t.kids.length t.c] 39) = U := ⟨_, rfl⟩
  have hb : V1.heap[V.heap.size]? = some (.cells #[.int .i64 t.kind, .string t.text, .int .i64 t.num, .slice t.p t.kids.length t.c] 39 (0, 0)) := by rw [← hV1]; exact heap_alloc_new V _
  have f1 : Fr [] V V1 := by rw [← hV1]; exact Fr.alloc [] V _
  have k0 : V1.cell? ⟨V.heap.size, 0, none⟩ = some (.int .i64 t.kind) := cell_in hb 0
  have k1 : V1.cell? ⟨V.heap.size, 1, none⟩ = some (.string t.text) := cell_in hb 1
  have k2 : V1.cell? ⟨V.heap.size, 2, none⟩ = some (.int .i64 t.num) := cell_in hb 2
  have k3 : V1.cell? ⟨V.heap.size, 3, none⟩ = some (.slice t.p t.kids.length t.c) := cell_in hb 3
  have HF1 := mkHid f1
  have HPw : Hid (Pw V1) := (hpw.idle hf).idle f1
  unfold LitT.items at hK ⊢
  rcases (show t.kind = 1 ∨ t.kind = 2 ∨ t.kind = 3 ∨ t.kind = 5 ∨ t.kind = 6 ∨ t.kind = 7 ∨ t.kind = 4 by omega) with hk1 | hk1 | hk1 | hk1 | hk1 | hk1 | hk1
  · have HW : Hid (wrT t = Lib.itoa t.num) := by show wrT t = _; rw [wrT_at, if_pos hk1]
    have HI := mkHid (itoaR_ok t.num h1 V1 HPw.out)
    rw [HW.out]
    rw [hk1] at k0 hV1 ⊢
    clear hK hkk h2 h3 hb f1 hl hk
    go_enter Tryd.func32, Tryd.ntmps32
    go_wp2_with (go_at_call 30; refine HI.out.mono ?_; rintro e w1 ⟨rfl, hf1⟩; have H1 := mkHid hf1; clear hf1)
    go_ret
    exact ⟨rfl, HF1.out.tr0 H1.out⟩
  · have HW : Hid (wrT t = textW t.text) := by show wrT t = _; rw [wrT_at, if_neg (by omega), if_pos hk1]
    have HI := mkHid (rtext_ok t.text (by have := h2 hk1; omega) V1 HPw.out)
    rw [HW.out]
    rw [hk1] at k0 hV1 ⊢
    clear hK hkk h2 h3 hb f1 hl hk
    go_enter Tryd.func32, Tryd.ntmps32
    go_wp2_with (go_at_call 31; refine HI.out.mono ?_; rintro e w1 ⟨rfl, hf1⟩; have H1 := mkHid hf1; clear hf1)
    go_ret
    exact ⟨rfl, HF1.out.tr0 H1.out⟩
  · have HW : Hid (wrT t = 35 :: Lib.itoa t.num) := by show wrT t = _; rw [wrT_at, if_neg (by omega), if_neg (by omega), if_pos hk1]
    have HI := mkHid (itoaR_ok t.num h1 V1 HPw.out)
    have HA : Hid ((⟨#[35]⟩ : ByteArray) ++ ba (Lib.itoa t.num) = ba (35 :: Lib.itoa t.num)) := ba_app [35] (Lib.itoa t.num)
    have hsz := ba_size (Lib.itoa t.num)
    have hil := itoa_len t.num h1.1 h1.2
    rw [HW.out]
    rw [hk1] at k0 hV1 ⊢
    clear hK hkk h2 h3 hb f1 hl hk
    go_enter Tryd.func32, Tryd.ntmps32
    go_wp2_with (go_at_call 30; refine HI.out.mono ?_; rintro e w1 ⟨rfl, hf1⟩; have H1 := mkHid hf1; clear hf1)
    go_ret
    exact ⟨by rw [← HA.out]; rfl, HF1.out.tr0 H1.out⟩
  · have HW : Hid (wrT t = [110, 105, 108]) := by show wrT t = _; rw [wrT_at, if_neg (by omega), if_neg (by omega), if_neg (by omega), if_pos hk1]
    rw [HW.out]
    rw [hk1] at k0 hV1 ⊢
    clear hK hkk h2 h3 hb f1 hl hk
    go_enter Tryd.func32, Tryd.ntmps32
    go_wp2_with fail
    go_ret
    exact ⟨rfl, HF1.out⟩
  · have HW : Hid (wrT t = [116, 114, 117, 101]) := by show wrT t = _; rw [wrT_at, if_neg (by omega), if_neg (by omega), if_neg (by omega), if_neg (by omega), if_pos hk1]
    rw [HW.out]
    rw [hk1] at k0 hV1 ⊢
    clear hK hkk h2 h3 hb f1 hl hk
    go_enter Tryd.func32, Tryd.ntmps32
    go_wp2_with fail
    go_ret
    exact ⟨rfl, HF1.out⟩
  · have HW : Hid (wrT t = [102, 97, 108, 115, 101]) := by show wrT t = _; rw [wrT_at, if_neg (by omega), if_neg (by omega), if_neg (by omega), if_neg (by omega), if_neg (by omega), if_pos hk1]
    rw [HW.out]
    rw [hk1] at k0 hV1 ⊢
    clear hK hkk h2 h3 hb f1 hl hk
    go_enter Tryd.func32, Tryd.ntmps32
    go_wp2_with fail
    go_ret
    exact ⟨rfl, HF1.out⟩
  · have hW : wrT t = 40 :: (wrL t.kids true ++ [41]) := by rw [wrT_at, if_neg (by omega), if_neg (by omega), if_neg (by omega), if_neg (by omega), if_neg (by omega), if_neg (by omega)]
    have hkl : t.kids.length ≤ 32 := h3 hk1
    have hat : 0 < t.kids.length → ∃ g off, t.p = some ⟨g, off, none⟩ ∧ g < w0.heap.size ∧ ∀ i u, t.kids[i]? = some u → LitAt w0 g (off + i * 4) u := by
      cases hk with
      | mk _ _ _ nil at_ short txt kids => exact at_
    have HAt := mkHid hat
    have HK := mkHid (hK hk1)
    have HBx : Hid (∀ w', Fr [] V1 w' → w'.cell? ⟨V.heap.size, 3, none⟩ = some (.slice t.p t.kids.length t.c)) := fun w' f => cell_in (f.hb hb) 3
    have HW0 : Hid (∀ w', Fr [] V1 w' → Fr [] w0 w') := fun w' f => (hf.tr0 f1).tr0 f
    have HW := mkHid hW
    have hl2 : (wrL t.kids true).length ≤ 1000000000 := by rw [hW] at hl; simp at hl; omega
    rw [HW.out]
    rw [hk1] at k0 hV1 ⊢
    clear hK hkk h2 h3 hb f1 hl hk hat hW
    go_enter Tryd.func32, Tryd.ntmps32
    go_wp2_with fail
    go_loopw [3, 4] (fun sv q wr => ∃ i : Nat, i ≤ t.kids.length ∧ q = .int .i64 (i : Int) ∧ ∃ done, sv = .string (ba (40 :: done)) ∧ done.length ≤ 1000000000 ∧ Hid (Fr [] V1 wr ∧ done ++ wrL (t.kids.drop i) (decide (i = 0)) = wrL t.kids true)) (fun _ q _ => t.kids.length - (intOf q).toNat)
    case atStart => exact ⟨0, Nat.zero_le _, rfl, [], rfl, by simp, Fr.refl _ _, by simp⟩
    case round =>
      obtain ⟨i, hi, rfl, done, rfl, hdl, hst⟩ := hrel
      have i0 : (0 : Int) ≤ (i : Int) := by omega
      obtain ⟨fr, hd⟩ := hst.out
      have b3 := HBx.out wr fr
      have hs1 := ba_size (40 :: done)
      simp only [List.length_cons] at hs1
      by_cases hlt : i < t.kids.length
      · have i1 : (i : Int) < (t.kids.length : Int) := by omega
        obtain ⟨u, hu⟩ : ∃ u, t.kids[i]? = some u := ⟨_, List.getElem?_eq_getElem hlt⟩
        obtain ⟨g, off, hp, hg, hla⟩ := HAt.out (by omega)
        rw [hp] at b3
        obtain ⟨y0, y1, y2, y3'⟩ := (hla i u hu).idle (HW0.out wr fr)
        have y3 : wr.cell? ⟨g, off + i * 4 + 3, none⟩ = some (.slice u.p u.kids.length u.c) := y3'
        have HC := mkHid (HK.out u (List.mem_of_getElem? hu) wr (HW0.out wr fr))
        rw [drop_at hu, wrL_cons] at hd
        have hsum := congrArg List.length hd
        simp only [List.length_append] at hsum
        have hs2 := ba_size (wrT u)
        by_cases hz : i = 0
        · subst hz
          rw [if_pos (by decide)] at hd hsum
          simp only [List.nil_append] at hd
          have HA : Hid (ba (40 :: done) ++ ba (wrT u) = ba (40 :: (done ++ wrT u))) := ba_app (40 :: done) (wrT u)
          have HX : Hid (∀ w', Fr [] wr w' → Fr [] V1 w' ∧ (done ++ wrT u) ++ wrL (t.kids.drop (0 + 1)) (decide (0 + 1 = 0)) = wrL t.kids true) := fun w' f => ⟨fr.tr0 f, by rw [List.append_assoc]; exact hd⟩
          have hwu : ¬ 9223372036854775807 < done.length + 1 + (wrT u).length := by simp at hsum; omega
          have hdl2 : (done ++ wrT u).length ≤ 1000000000 := by rw [List.length_append]; simp at hsum; omega
          clear hst fr hd hla hp hg y3' hsum
          simp only [Nat.zero_mul, Nat.add_zero] at y0 y1 y2 y3
          go_wp2_with fail
          refine HC.out.mono ?_
          rintro e w2 ⟨rfl, f2⟩
          have HY := mkHid (HX.out w2 f2)
          clear f2
          go_wp2_with fail
          go_roundw
          case rel => exact ⟨0 + 1, by omega, by go_num, done ++ wrT u, by rw [← HA.out], hdl2, HY.out⟩
          case measure => simp [intOf]; omega
        · have hz2 : (0 : Int) < (i : Int) := by omega
          rw [decide_eq_false hz, if_neg (by decide)] at hd hsum
          have HA0 : Hid (ba (40 :: done) ++ (⟨#[32]⟩ : ByteArray) = ba (40 :: (done ++ [32]))) := ba_app (40 :: done) [32]
          have HA : Hid (ba (40 :: done) ++ (⟨#[32]⟩ : ByteArray) ++ ba (wrT u) = ba (40 :: (done ++ [32] ++ wrT u))) := by rw [HA0.out]; exact ba_app (40 :: (done ++ [32])) (wrT u)
          have hs3 : (ba (40 :: done) ++ (⟨#[32]⟩ : ByteArray)).size = done.length + 1 + 1 := by rw [HA0.out, ba_size]; simp
          have HX : Hid (∀ w', Fr [] wr w' → Fr [] V1 w' ∧ (done ++ [32] ++ wrT u) ++ wrL (t.kids.drop (i + 1)) (decide (i + 1 = 0)) = wrL t.kids true) := fun w' f => ⟨fr.tr0 f, by rw [← hd, show decide (i + 1 = 0) = false by simp]; simp⟩
          have hwu : ¬ 9223372036854775807 < done.length + 1 + 1 + (wrT u).length := by simp only [List.length_append, List.length_singleton] at hsum; omega
          have hdl2 : (done ++ [32] ++ wrT u).length ≤ 1000000000 := by simp only [List.length_append, List.length_singleton] at hsum ⊢; omega
          clear hst fr hd hla hp hg y3' hsum
          go_wp2_with fail
          refine HC.out.mono ?_
          rintro e w2 ⟨rfl, f2⟩
          have HY := mkHid (HX.out w2 f2)
          clear f2
          go_wp2_with fail
          go_roundw
          case rel => exact ⟨i + 1, by omega, by go_num, done ++ [32] ++ wrT u, by rw [← HA.out], hdl2, HY.out⟩
          case measure => simp [intOf]; omega
      · have hie : i = t.kids.length := by omega
        subst hie
        rw [List.drop_eq_nil_of_le (Nat.le_refl _), wrL_nil, List.append_nil] at hd
        have HA : Hid (ba (40 :: done) ++ (⟨#[41]⟩ : ByteArray) = ba (40 :: (wrL t.kids true ++ [41]))) := by rw [← hd]; exact ba_app (40 :: done) [41]
        have HX := mkHid (HF1.out.tr0 fr)
        clear hst fr hd
        go_wp2_with fail
        go_ret
        exact ⟨by rw [← HA.out]; rfl, HX.out⟩
end Go.Proofs.YtclkoffnjiiioaaDoor
