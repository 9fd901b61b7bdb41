import Derived.Test.YtblbjgifhgfifaaPG07NLawA
namespace Go.Proofs.Ytblbjgifhgfifaa
open Go.RowKit
set_option linter.unusedVariables false
set_option linter.unusedSimpArgs false
theorem RdS.inj {w : World} {v : Value} {ss ts : List ByteArray} (h : RdS w v ss) (k : RdS w v ts) : ss = ts := by
  obtain ⟨p, c, e, h1⟩ := h.at_
  obtain ⟨p', c', e', k1⟩ := k.at_
  rw [e] at e'
  injection e' with e1 e2 e3
  apply List.ext_getElem e2
  intro i hi hj
  obtain ⟨g, off, q1, _, q2⟩ := h1 (by omega)
  obtain ⟨g', off', r1, _, r2⟩ := k1 (by omega)
  rw [← e1, q1] at r1
  injection r1 with r1
  injection r1 with r1 r3
  have a := q2 i hi
  have b := r2 i hj
  rw [← r1, ← r3, a] at b
  injection b with b
  injection b with b
  rw [List.getD_eq_getElem?_getD, List.getD_eq_getElem?_getD, List.getElem?_eq_getElem hi, List.getElem?_eq_getElem hj] at b
  exact b
open Classical in
/-- do two lists of texts say the same? -/
noncomputable def sameV (w : World) (u v : Value) : Bool := decide (∃ ss, RdS w u ss ∧ RdS w v ss)
theorem sameV_eq {w : World} {u v : Value} {ss ts : List ByteArray} (h : RdS w u ss) (k : RdS w v ts) : sameV w u v = decide (ss = ts) := by
  unfold sameV
  by_cases e : ss = ts
  · subst e; rw [decide_eq_true rfl]; exact @decide_eq_true _ (Classical.propDecidable _) ⟨ss, h, k⟩
  · rw [decide_eq_false e]; exact @decide_eq_false _ (Classical.propDecidable _) (fun ⟨q, q1, q2⟩ => e ((h.inj q1).trans (k.inj q2).symm))
def cg0 : Cg := ⟨⟨0, [], [], []⟩, .slice none 0 0, .slice none 0 0, .slice none 0 0⟩
def cgAt (xs : List Cg) (i : Nat) : Cg := xs.getD i cg0
theorem cgAt_eq {xs : List Cg} {i : Nat} (h : i < xs.length) : xs[i]? = some (cgAt xs i) := by
  unfold cgAt; rw [List.getD_eq_getElem?_getD, List.getElem?_eq_getElem h]; rfl
theorem cg_diff {xs ys : List Cg} {i : Nat} (hx : i < xs.length) (hy : i < ys.length) (h : (cgAt xs i).c ≠ (cgAt ys i).c) : xs.map Cg.c ≠ ys.map Cg.c := fun e => by
  have := congrArg (fun l => l[i]?) e
  simp only [List.getElem?_map, cgAt_eq hx, cgAt_eq hy] at this
  exact h (Option.some.inj this)
theorem cg_same {xs ys : List Cg} (hl : xs.length = ys.length) (h : ∀ i, i < xs.length → (cgAt xs i).c = (cgAt ys i).c) : xs.map Cg.c = ys.map Cg.c := by
  apply List.ext_getElem?
  intro i
  rw [List.getElem?_map, List.getElem?_map]
  by_cases hi : i < xs.length
  · rw [cgAt_eq hi, cgAt_eq (by omega)]
    show some _ = some _
    rw [h i hi]
  · rw [List.getElem?_eq_none (by omega), List.getElem?_eq_none (by omega)]
theorem ints_eq {a b : List Int} (hl : a.length = b.length) (h : ∀ i, i < a.length → a.getD i 0 = b.getD i 0) : a = b := by
  apply List.ext_getElem hl
  intro i h1 h2
  have := h i h1
  rw [List.getD_eq_getElem?_getD, List.getD_eq_getElem?_getD, List.getElem?_eq_getElem h1, List.getElem?_eq_getElem h2] at this
  exact this
set_option maxRecDepth 20000 in
set_option maxHeartbeats 4000000 in
theorem lSameC_ok (xs ys : List Cg) (v u : Value) (w : World) (hs : RdH w v xs) (ht : RdH w u ys) :
    Calls Try.prog 14 #[v, u] w fun e w' => e = .returned (.bool (decide (xs.map Cg.c = ys.map Cg.c))) ∧ Fr [] w w' := by
  have HX : Hid (∀ W, Fr [] w W → RdH W v xs) := mkHid (fun W hW => hs.idle hW)
  have HY : Hid (∀ W, Fr [] w W → RdH W u ys) := mkHid (fun W hW => ht.idle hW)
  obtain ⟨p, c, rfl, h1⟩ := hs.at_
  obtain ⟨q, d, rfl, h2⟩ := ht.at_
  have s1 := hs.short
  have s2 := ht.short
  by_cases hl : xs.length = ys.length
  rotate_left
  · have hb0 : ((xs.length : Int) != (ys.length : Int)) = true := by rw [bne_iff_ne]; omega
    have hr : decide (xs.map Cg.c = ys.map Cg.c) = false := decide_eq_false (fun e => hl (by have := congrArg List.length e; simpa using this))
    rw [hr]
    clear hs ht h1 h2 hl hr HX HY
    go_enter Try.func14, Try.ntmps14
    go_wp2_with fail
    go_ret
    exact ⟨rfl, Fr.refl _ _⟩
  have hb0 : ((xs.length : Int) != (ys.length : Int)) = false := by rw [bne_eq_false_iff_eq]; omega
  have H1 := mkHid h1
  have H2 := mkHid h2
  have HL := mkHid hl
  clear hs ht h1 h2 hl
  go_enter Try.func14, Try.ntmps14
  go_wp2_with fail
  go_loopw [5] (fun q wr => ∃ i : Nat, i ≤ xs.length ∧ q = .int .i64 i ∧ Hid (∀ m, m < i → (cgAt xs m).c = (cgAt ys m).c) ∧ Hid (Fr [] w wr)) (fun q _ => xs.length - (intOf q).toNat)
  case atStart => exact ⟨0, Nat.zero_le _, rfl, mkHid (fun m hm => by omega), mkHid (Fr.refl _ _)⟩
  case round =>
    obtain ⟨i, hi, rfl, hst, hfr⟩ := hrel
    have i1 : (0 : Int) ≤ (i : Int) := by omega
    by_cases hlt : i < xs.length
    · have hly : i < ys.length := by have := HL.out; omega
      have i2 : (i : Int) < (xs.length : Int) := by omega
      have i3 : (i : Int) < (ys.length : Int) := by omega
      obtain ⟨g, off, rfl, x1, x2⟩ := H1.out (by omega)
      obtain ⟨g', off', rfl, y1, y2⟩ := H2.out (by omega)
      obtain ⟨a0, a1, a2, a3⟩ := x2 i _ (cgAt_eq hlt)
      obtain ⟨b0, b1, b2, b3⟩ := y2 i _ (cgAt_eq hly)
      have ca0 := (hfr.out.cell (p := ⟨g, off + i * 4, none⟩) x1 (by simp)).trans a0
      have ca1 := (hfr.out.cell (p := ⟨g, off + i * 4 + 1, none⟩) x1 (by simp)).trans a1
      have ca2 := (hfr.out.cell (p := ⟨g, off + i * 4 + 2, none⟩) x1 (by simp)).trans a2
      have ca3 := (hfr.out.cell (p := ⟨g, off + i * 4 + 3, none⟩) x1 (by simp)).trans a3
      have cb0 := (hfr.out.cell (p := ⟨g', off' + i * 4, none⟩) y1 (by simp)).trans b0
      have cb1 := (hfr.out.cell (p := ⟨g', off' + i * 4 + 1, none⟩) y1 (by simp)).trans b1
      have cb2 := (hfr.out.cell (p := ⟨g', off' + i * 4 + 2, none⟩) y1 (by simp)).trans b2
      have cb3 := (hfr.out.cell (p := ⟨g', off' + i * 4 + 3, none⟩) y1 (by simp)).trans b3
      have hmx := List.mem_of_getElem? (cgAt_eq hlt)
      have hmy := List.mem_of_getElem? (cgAt_eq hly)
      have rxo := (HX.out wr hfr.out).old _ hmx
      have rxn := (HX.out wr hfr.out).new _ hmx
      have rxf := (HX.out wr hfr.out).frm _ hmx
      have ryo := (HY.out wr hfr.out).old _ hmy
      have ryn := (HY.out wr hfr.out).new _ hmy
      have ryf := (HY.out wr hfr.out).frm _ hmy
      have HSm : Hid (∀ N U V, (∃ ss, RdS wr U ss) → (∃ ts, RdS wr V ts) → Calls Try.prog 21 #[U, V] (wr.drewN N) fun e w' => e = .returned (.bool (sameV wr U V)) ∧ ∃ m, w' = (wr.drewN N).drewN m) := mkHid (fun N U V ⟨ss, hU⟩ ⟨ts, hV⟩ => by
        rw [sameV_eq hU hV]
        exact lSame_ok ss ts U V _ (hU.idle (Fr.drewN _ _ _)) (hV.idle (Fr.drewN _ _ _)))
      have Ro : Hid (∃ ss, RdS wr (cgAt xs i).vo ss) := mkHid ⟨_, rxo⟩
      have Rn : Hid (∃ ss, RdS wr (cgAt xs i).vn ss) := mkHid ⟨_, rxn⟩
      have So : Hid (∃ ss, RdS wr (cgAt ys i).vo ss) := mkHid ⟨_, ryo⟩
      have Sn : Hid (∃ ss, RdS wr (cgAt ys i).vn ss) := mkHid ⟨_, ryn⟩
      have eo := sameV_eq rxo ryo
      have en := sameV_eq rxn ryn
      have HDf : Hid ((cgAt xs i).c ≠ (cgAt ys i).c → decide (xs.map Cg.c = ys.map Cg.c) = false) := mkHid (fun h => decide_eq_false (cg_diff hlt hly h))
      have HNx : Hid ((cgAt xs i).c = (cgAt ys i).c → ∀ m, m < i + 1 → (cgAt xs m).c = (cgAt ys m).c) := mkHid (fun h m hm => by
        by_cases e : m = i
        · rw [e]; exact h
        · exact hst.out m (by omega))
      obtain ⟨pf, cf, ef, rf⟩ := rxf.at_
      obtain ⟨pg, cg, eg, rg⟩ := ryf.at_
      have sf := rxf.short
      have HRf := mkHid rf
      have HRg := mkHid rg
      rw [ef] at ca3
      rw [eg] at cb3
      clear x1 x2 y1 y2 a0 a1 a2 a3 b0 b1 b2 b3 rxo rxn rxf ryo ryn ryf hmx hmy HX HY hst ef eg rf rg H1 H2
      generalize cgAt xs i = X at *
      generalize cgAt ys i = Y at *
      obtain ⟨⟨xc, xo, xn, xf⟩, vo, vn, vf⟩ := X
      obtain ⟨⟨yc, yo, yn, yf⟩, uo, un, uf⟩ := Y
      dsimp only at *
      by_cases e1 : xc = yc
      rotate_left
      · have HB := mkHid (HDf.out (fun e => e1 (by injection e)))
        have bc : (xc != yc) = true := by rw [bne_iff_ne]; exact e1
        clear HDf HNx e1
        go_wp2_with fail
        go_quiet ((go_at_call 21; exact Calls.quiet_of (HSm.out _ _ _ (by first | exact Ro.out | exact Rn.out) (by first | exact So.out | exact Sn.out))))
        go_wp2_with fail
        go_ret
        exact ⟨by rw [HB.out]; rfl, hfr.out.trans (Fr.drewN [] _ _) (by simp)⟩
      have bc : (xc != yc) = false := by rw [bne_eq_false_iff_eq]; exact e1
      by_cases e2 : xo = yo
      rotate_left
      · have HB := mkHid (HDf.out (fun e => e2 (by injection e)))
        rw [decide_eq_false e2] at eo
        clear HDf HNx e1 e2
        go_wp2_with fail
        go_quiet ((go_at_call 21; exact Calls.quiet_of (HSm.out _ _ _ (by first | exact Ro.out | exact Rn.out) (by first | exact So.out | exact Sn.out))))
        go_wp2_with fail
        go_ret
        exact ⟨by rw [HB.out]; rfl, hfr.out.trans (Fr.drewN [] _ _) (by simp)⟩
      rw [decide_eq_true e2] at eo
      by_cases e3 : xn = yn
      rotate_left
      · have HB := mkHid (HDf.out (fun e => e3 (by injection e)))
        rw [decide_eq_false e3] at en
        clear HDf HNx e1 e2 e3
        go_wp2_with fail
        go_quiet ((go_at_call 21; exact Calls.quiet_of (HSm.out _ _ _ (by first | exact Ro.out | exact Rn.out) (by first | exact So.out | exact Sn.out))))
        go_wp2_with fail
        go_ret
        exact ⟨by rw [HB.out]; rfl, hfr.out.trans (Fr.drewN [] _ _) (by simp)⟩
      rw [decide_eq_true e3] at en
      by_cases e4 : xf.length = yf.length
      rotate_left
      · have HB := mkHid (HDf.out (fun e => e4 (by injection e with _ _ _ e; rw [e])))
        have bl : ((xf.length : Int) != (yf.length : Int)) = true := by rw [bne_iff_ne]; omega
        clear HDf HNx e1 e2 e3 e4
        go_wp2_with fail
        go_quiet ((go_at_call 21; exact Calls.quiet_of (HSm.out _ _ _ (by first | exact Ro.out | exact Rn.out) (by first | exact So.out | exact Sn.out))))
        go_wp2_with fail
        go_ret
        exact ⟨by rw [HB.out]; rfl, hfr.out.trans (Fr.drewN [] _ _) (by simp)⟩
      have bl : ((xf.length : Int) != (yf.length : Int)) = false := by rw [bne_eq_false_iff_eq]; omega
      have HF : Hid (xf = yf → ∀ m, m < i + 1 → (cgAt xs m).c = (cgAt ys m).c) := mkHid (fun e => HNx.out (by rw [e1, e2, e3, e]))
      have HG : Hid (xf ≠ yf → decide (xs.map Cg.c = ys.map Cg.c) = false) := mkHid (fun e => HDf.out (fun k => e (by injection k)))
      have HL4 := mkHid e4
      clear HDf HNx e1 e2 e3 e4
      go_wp2_with fail
      go_quiet ((go_at_call 21; exact Calls.quiet_of (HSm.out _ _ _ (by first | exact Ro.out | exact Rn.out) (by first | exact So.out | exact Sn.out))))
      clear HSm Ro Rn So Sn eo en ca0 ca1 ca2 cb0 cb1 cb2 bc bl
      obtain ⟨w3, rfl⟩ : ∃ x, x = wr := ⟨_, rfl⟩
      obtain ⟨wo, hwo⟩ : ∃ x, x = w3.drewN nq := ⟨_, rfl⟩
      have HFo : Hid (Fr [] w3 wo) := mkHid (by rw [hwo]; exact Fr.drewN [] _ _)
      have HA3 := mkHid ca3
      have HB3 := mkHid cb3
      have hgl := World.block_lt_of_cell? w3 _ ca3
      have hgl' := World.block_lt_of_cell? w3 _ cb3
      rw [← hwo]
      clear hwo ca3 cb3
      go_wp2_with fail
      go_loopw [6] (fun q wq => ∃ j : Nat, j ≤ xf.length ∧ q = .int .i64 j ∧ Hid (∀ m, m < j → xf.getD m 0 = yf.getD m 0) ∧ Hid (Fr [] w3 wq)) (fun q _ => xf.length - (intOf q).toNat)
      case atStart => exact ⟨0, Nat.zero_le _, rfl, mkHid (fun m hm => by omega), HFo⟩
      case round =>
        obtain ⟨j, hj, rfl, hst, hf3⟩ := hrel
        have j1 : (0 : Int) ≤ (j : Int) := by omega
        have ca3 := (hf3.out.cell (p := ⟨g, off + i * 4 + 3, none⟩) hgl (by simp)).trans HA3.out
        have cb3 := (hf3.out.cell (p := ⟨g', off' + i * 4 + 3, none⟩) hgl' (by simp)).trans HB3.out
        by_cases hjl : j < xf.length
        · have j2 : (j : Int) < (xf.length : Int) := by omega
          have j3 : (j : Int) < (yf.length : Int) := by have := HL4.out; omega
          obtain ⟨gf, of, rfl, z1, z2⟩ := HRf.out (by omega)
          obtain ⟨gh, oh, rfl, z3, z4⟩ := HRg.out (by omega)
          have kx := (hf3.out.cell (p := ⟨gf, of + j, none⟩) z1 (by simp)).trans (z2 j hjl)
          have ky := (hf3.out.cell (p := ⟨gh, oh + j, none⟩) z3 (by simp)).trans (z4 j (by omega))
          have HJx : Hid (xf.getD j 0 = yf.getD j 0 → ∀ m, m < j + 1 → xf.getD m 0 = yf.getD m 0) := mkHid (fun hh m hm => by
            by_cases e : m = j
            · rw [e]; exact hh
            · exact hst.out m (by omega))
          have HJb : Hid (xf.getD j 0 ≠ yf.getD j 0 → decide (xs.map Cg.c = ys.map Cg.c) = false) := mkHid (fun hh => HG.out (fun e => hh (by rw [e])))
          clear z1 z2 z3 z4 hst HF HG HRf HRg
          generalize xf.getD j 0 = a at *
          generalize yf.getD j 0 = b at *
          by_cases e : a = b
          · have HJ2 := mkHid (HJx.out e)
            have bb : (a != b) = false := by rw [bne_eq_false_iff_eq]; exact e
            clear HJx HJb e
            go_wp2_with fail
            go_quiet (fail)
            go_wp2_with fail
            go_roundw
            case rel => exact ⟨j + 1, by omega, by go_num, HJ2, mkHid (hf3.out.trans (Fr.drewN [] _ _) (by simp))⟩
            case measure => simp [intOf]; omega
          · have HB := mkHid (HJb.out e)
            have bb : (a != b) = true := by rw [bne_iff_ne]; exact e
            clear HJx HJb e
            go_wp2_with fail
            go_quiet (fail)
            go_wp2_with fail
            go_ret
            exact ⟨by rw [HB.out]; rfl, (hfr.out.trans hf3.out (by simp)).trans (Fr.drewN [] _ _) (by simp)⟩
        · have hje : j = xf.length := by omega
          subst hje
          have HN2 := mkHid (HF.out (ints_eq HL4.out hst.out))
          clear HF HG HRf HRg hst
          go_wp2_with fail
          go_roundw
          case rel => exact ⟨i + 1, by omega, by go_num, HN2, mkHid (hfr.out.trans hf3.out (by simp))⟩
          case measure => simp [intOf]; omega
    · have hie : i = xs.length := by omega
      subst hie
      have HE : Hid (decide (xs.map Cg.c = ys.map Cg.c) = true) := mkHid (decide_eq_true (cg_same HL.out hst.out))
      clear H1 H2 HX HY hst
      go_wp2_with fail
      go_ret
      exact ⟨by rw [HE.out]; rfl, hfr.out⟩
end Go.Proofs.Ytblbjgifhgfifaa
