import Derived.Test.YtklfnjlenbgmoaaDoorPKGrw
import Derived.Test.YtklfnjlenbgmoaaDoorPG46KFullO
import Derived.Deep.RegionHeld3
set_option linter.unusedSimpArgs false
set_option linter.unusedVariables false
namespace Go.Proofs.YtklfnjlenbgmoaaDoor
open Go.RowKit Go.Maps
attribute [local go_sem ↓] Go.wp_at_zero Go.wp_at_succ
theorem zC_get (k : Kd) (hz : ∀ m, (k.z m).length = k.s) (m : Int) (r : Nat) (hr : r < k.s) : ∀ (n i : Nat), i < n → (zC k n m)[i * k.s + r]? = (k.z m)[r]?
 | 0, i, hi => by omega
 | n + 1, 0, hi => by
  have e : zC k (n + 1) m = k.z m ++ zC k n m := by unfold zC; rw [List.replicate_succ, List.flatten_cons]
  rw [e, Nat.zero_mul, Nat.zero_add, List.getElem?_append_left (by rw [hz]; exact hr)]
 | n + 1, i + 1, hi => by
  have e : zC k (n + 1) m = k.z m ++ zC k n m := by unfold zC; rw [List.replicate_succ, List.flatten_cons]
  have h1 : (i + 1) * k.s + r = k.s + (i * k.s + r) := by rw [Nat.succ_mul]; omega
  rw [e, h1, List.getElem?_append_right (by rw [hz]; omega), hz, Nat.add_sub_cancel_left]
  exact zC_get k hz m r hr n i (by omega)
theorem FlK.rd1 {k : Kd} {w : World} {x : Le} {m : Int} (hs : k.s = 1) (hz : ∀ m, k.z m = [.int .i64 m]) (h : FlK k w x m) : Rd w x.v (List.replicate x.n m) := by
 obtain ⟨p, n, c⟩ := x
 have hsh := h.short
 refine ⟨⟨p, c, by simp [Le.v], fun h0 => ?_⟩, fun c' hc' => ?_, by simp at hsh ⊢; omega⟩
 ·rcases h.at_ with ⟨h1, h2, h3⟩ | ⟨g, h1, h2, h3⟩
  ·rw [List.length_replicate] at h0; simp at h2; simp at h0; omega
  ·refine ⟨g, 0, h1, h2, fun i hi => ?_⟩
   rw [List.length_replicate] at hi
   rw [Nat.zero_add, h3 i (by rw [hs]; simpa using hi)]
   have := zC_get k (by intro m; rw [hz, hs]; rfl) m 0 (by omega) n i hi
   rw [hs, Nat.mul_one, Nat.add_zero, hz] at this
   rw [this]
   simp [List.getD_eq_getElem?_getD, hi]
 ·rcases h.at_ with ⟨h1, h2, h3⟩ | ⟨g, h1, h2, h3⟩
  ·injection hc' with e1 e2 e3
   have h4 : c = 0 := h3
   omega
  ·injection hc' with e1 e2 e3
   simp at h1
   rw [h1] at e1
   cases e1
theorem FlK.rdI {w : World} {x : Le} {m : Int} (h : FlK kInts w x m) : Rd w x.v (List.replicate x.n m) := h.rd1 rfl fun _ => rfl
theorem FlK.rdW {w : World} {x : Le} {m : Int} (h : FlK kWords w x m) : Rd w x.v (List.replicate x.n m) := h.rd1 rfl fun _ => rfl
theorem FlK.satO {w : World} {x : Le} {m : Int} (h : FlK kObjs w x m) : SAt w x.v (List.replicate x.n (mkO m)) := by
 obtain ⟨p, n, c⟩ := x
 have hsh := h.short
 refine ⟨⟨p, c, by simp [Le.v], fun h0 => ?_⟩, fun o ho => ?_, by simp at hsh ⊢; omega⟩
 ·rcases h.at_ with ⟨h1, h2, h3⟩ | ⟨g, h1, h2, h3⟩
  ·rw [List.length_replicate] at h0; simp at h2; simp at h0; omega
  ·refine ⟨g, 0, h1, fun i hi => ?_⟩
   rw [List.length_replicate] at hi
   have hi' : i < n := hi
   have q : ∀ r, r < 4 → w.cell? ⟨g, 0 + i * 4 + r, none⟩ = (kObjs.z m)[r]? := fun r hr => by
    rw [Nat.zero_add, h3 (i * 4 + r) (by show i * 4 + r < n * 4; omega)]
    exact zC_get kObjs (fun _ => rfl) m r hr n i hi'
   exact ⟨mkO m, by simp [hi'], by simpa [kObjs, mkO] using q 0 (by omega), by simpa [kObjs, mkO] using q 1 (by omega), by simpa [kObjs, mkO] using q 2 (by omega), by simpa [kObjs, mkO] using q 3 (by omega)⟩
 ·have e : o = mkO m := (List.mem_replicate.1 ho).2
  subst e
  exact ⟨⟨none, 0, rfl, fun h0 => by simp [mkO] at h0⟩, fun c hc => by injection hc with _ _ e3; exact e3.symm, by simp [mkO]⟩
set_option maxRecDepth 20000 in
set_option maxHeartbeats 4000000 in
theorem bright_ok (b : Nat) (H : Hdr) (S1 S2 S3 : Sc) (w : World) (h : Bok w b H S1 S2 S3) (k1 : S1.olds.length + S1.news.length ≤ 8796093022000) (k2 : S2.olds.length + S2.news.length ≤ 8796093022000) (k3 : S3.olds.length + S3.news.length ≤ 8796093022000) :
  Calls Tryd.prog 41 #[.pointer (some ⟨b, 6, none⟩)] w fun e w' => e = .returned (.bool true) ∧ ∃ A1 A2 A3, A1.news = [] ∧ A2.news = [] ∧ A3.news = [] ∧ Gd w w' b H S1 S2 S3 A1 A2 A3 := by
 have HG := mkHid (bgrow_ok b H S1 S2 S3 w h k1 k2 k3)
 clear h
 go_enter Tryd.func41, Tryd.ntmps41
 go_wp2_with fail
 refine Calls.mono HG.out ?_
 rintro e w1 ⟨rfl, A1, A2, A3, e1, e2, e3, hgd⟩
 have HG1 := mkHid hgd
 have HE := mkHid (And.intro e1 (And.intro e2 e3))
 have HBk := mkHid hgd.bok
 have HN1 : Hid (A1.vI.n = A1.olds.length ∧ A1.vM.n = A1.olds.length ∧ A1.vK.n = A1.olds.length ∧ A1.olds.length = A1.olds.length) := ⟨by rw [hgd.bok.ok1.nI, e1]; rfl, hgd.bok.ok1.nM, by rw [hgd.bok.ok1.nK, e1]; rfl, rfl⟩
 have hn1 : A1.olds.length ≤ 8796093022000 := by have := hgd.l1; rw [e1] at this; simp at this; omega
 have HN2 : Hid (A2.vI.n = A2.olds.length ∧ A2.vM.n = A2.olds.length ∧ A2.vK.n = A2.olds.length ∧ A2.olds.length = A2.olds.length) := ⟨by rw [hgd.bok.ok2.nI, e2]; rfl, hgd.bok.ok2.nM, by rw [hgd.bok.ok2.nK, e2]; rfl, rfl⟩
 have hn2 : A2.olds.length ≤ 8796093022000 := by have := hgd.l2; rw [e2] at this; simp at this; omega
 have HN3 : Hid (A3.vI.n = A3.olds.length ∧ A3.vM.n = A3.olds.length ∧ A3.vK.n = A3.olds.length ∧ A3.olds.length = A3.olds.length) := ⟨by rw [hgd.bok.ok3.nI, e3]; rfl, hgd.bok.ok3.nM, by rw [hgd.bok.ok3.nK, e3]; rfl, rfl⟩
 have hn3 : A3.olds.length ≤ 8796093022000 := by have := hgd.l3; rw [e3] at this; simp at this; omega
 obtain ⟨N1, eN1⟩ : ∃ N, N = A1.olds.length := ⟨_, rfl⟩
 rw [← eN1] at hn1
 replace HN1 : Hid (A1.vI.n = N1 ∧ A1.vM.n = N1 ∧ A1.vK.n = N1 ∧ A1.olds.length = N1) := by rw [eN1]; exact HN1.out
 clear eN1
 obtain ⟨N2, eN2⟩ : ∃ N, N = A2.olds.length := ⟨_, rfl⟩
 rw [← eN2] at hn2
 replace HN2 : Hid (A2.vI.n = N2 ∧ A2.vM.n = N2 ∧ A2.vK.n = N2 ∧ A2.olds.length = N2) := by rw [eN2]; exact HN2.out
 clear eN2
 obtain ⟨N3, eN3⟩ : ∃ N, N = A3.olds.length := ⟨_, rfl⟩
 rw [← eN3] at hn3
 replace HN3 : Hid (A3.vI.n = N3 ∧ A3.vM.n = N3 ∧ A3.vK.n = N3 ∧ A3.olds.length = N3) := by rw [eN3]; exact HN3.out
 clear eN3
 have hQ1 : Hid (Fr [] w1 w1) := Fr.refl _ _
 clear hgd HG k1 k2 k3 e1 e2 e3
 go_wp2_with fail
 go_loopw [3] (fun q wr => ∃ i : Nat, i ≤ N1 ∧ q = .int .i64 i ∧ Hid (Fr [] w1 wr)) (fun q _ => N1 - (intOf q).toNat)
 case atStart => exact ⟨0, Nat.zero_le _, rfl, hQ1⟩
 case round =>
  obtain ⟨i, hin, rfl, hq⟩ := hrel
  have i1 : (0 : Int) ≤ (i : Int) := by omega
  have hbw : Bok wr b H A1 A2 A3 := HBk.out.keep hq.out (by simp) (by simp)
  have tt := hbw.top
  have x0 : wr.cell? ⟨b, 6, none⟩ = some (.slice A1.vI.p N1 A1.vI.c) := by rw [cell_in tt, ← HN1.out.1]; rfl
  have x1 : wr.cell? ⟨b, 7, none⟩ = some (.slice A1.vM.p N1 A1.vM.c) := by rw [cell_in tt, ← HN1.out.2.1]; rfl
  have x2 : wr.cell? ⟨b, 8, none⟩ = some (.slice A1.vK.p N1 A1.vK.c) := by rw [cell_in tt, ← HN1.out.2.2.1]; rfl
  by_cases hi : i < N1
  ·have i2 : (i : Int) < (N1 : Int) := by omega
   obtain ⟨x, y, m, f1, f2, ⟨gI, eI, lI, cI0⟩, ⟨gM, eM, lM, cM0⟩, gK, eK, lK, cK0⟩ := hbw.ok1.ith (i := i) (by rw [HN1.out.2.2.2]; exact hi)
   rw [eI] at x0
   rw [eM] at x1
   rw [eK] at x2
   have HF1 : Hid (∀ V, Hid (Fr [] wr V) → Calls Tryd.prog 94 #[x.v, .int .i64 m] V fun e w' => e = .returned (.bool true) ∧ w' = V) := fun V hV => fullInts_ok x.n m x.v V (f1.rdI.idle hV.out)
   have HF2 : Hid (∀ V, Hid (Fr [] wr V) → Calls Tryd.prog 94 #[y.v, .int .i64 m] V fun e w' => e = .returned (.bool true) ∧ w' = V) := fun V hV => fullInts_ok y.n m y.v V (f2.rdI.idle hV.out)
   obtain ⟨xp, xn, xc⟩ := x
   obtain ⟨yp, yn, yc⟩ := y
   simp only [Le.v] at cI0 cM0 HF1 HF2
   have HCel : Hid (∀ V, Hid (Fr [] wr V) → V.cell? ⟨b, 6, none⟩ = some (.slice (some ⟨gI, 0, none⟩) N1 A1.vI.c) ∧ V.cell? ⟨b, 7, none⟩ = some (.slice (some ⟨gM, 0, none⟩) N1 A1.vM.c) ∧ V.cell? ⟨b, 8, none⟩ = some (.slice (some ⟨gK, 0, none⟩) N1 A1.vK.c) ∧ V.cell? ⟨gI, i, none⟩ = some (.slice xp xn xc) ∧ V.cell? ⟨gM, i, none⟩ = some (.slice yp yn yc) ∧ V.cell? ⟨gK, i, none⟩ = some (.int .i64 m)) := fun V hV => by
    refine ⟨?_, ?_, ?_, ?_, ?_, ?_⟩
    ·rw [hV.out.cell (p := ⟨b, 6, none⟩) (lt_of_heap tt) (by simp)]; exact x0
    ·rw [hV.out.cell (p := ⟨b, 7, none⟩) (lt_of_heap tt) (by simp)]; exact x1
    ·rw [hV.out.cell (p := ⟨b, 8, none⟩) (lt_of_heap tt) (by simp)]; exact x2
    ·rw [hV.out.cell (p := ⟨gI, i, none⟩) lI (by simp)]; exact cI0
    ·rw [hV.out.cell (p := ⟨gM, i, none⟩) lM (by simp)]; exact cM0
    ·rw [hV.out.cell (p := ⟨gK, i, none⟩) lK (by simp)]; exact cK0
   have HFF : Hid (∀ V v, (v = .slice xp xn xc ∨ v = .slice yp yn yc) → Hid (Fr [] wr V) → Calls Tryd.prog 94 #[v, .int .i64 m] V fun e w' => e = .returned (.bool true) ∧ w' = V) := fun V v hv hV => by
    rcases hv with rfl | rfl
    ·exact HF1.out V hV
    ·exact HF2.out V hV
   have hR : Hid (Fr [] wr wr) := Fr.refl _ _
   clear hbw f1 f2 tt HF1 HF2 lI lM lK eI eM eK
   generalize A1.vI.c = cI at *
   generalize A1.vM.c = cM at *
   generalize A1.vK.c = cK at *
   go_wp2_with fail
   go_region_held3 (fun V => V.cell? ⟨b, 6, none⟩ = some (.slice (some ⟨gI, 0, none⟩) N1 cI) ∧ V.cell? ⟨b, 7, none⟩ = some (.slice (some ⟨gM, 0, none⟩) N1 cM) ∧ V.cell? ⟨b, 8, none⟩ = some (.slice (some ⟨gK, 0, none⟩) N1 cK) ∧ V.cell? ⟨gI, i, none⟩ = some (.slice xp xn xc) ∧ V.cell? ⟨gM, i, none⟩ = some (.slice yp yn yc) ∧ V.cell? ⟨gK, i, none⟩ = some (.int .i64 m))
    (first
     | exact HCel.out _ (hid_drew hR)
     | exact HCel.out _ hR
     | exact HCel.out _ (by assumption))
    (first
     | (go_at_call 94; refine (HFF.out _ _ (by first | exact .inl rfl | exact .inr rfl) (hid_drew hR)).mono ?_; rintro e w' ⟨rfl, hw'⟩; subst hw'))
   all_goals go_wp2_with fail
   all_goals
    go_roundw
    case rel => exact ⟨i + 1, by omega, by go_num, hid_drew hq⟩
    case measure => simp [intOf]; omega
  ·have hie : i = N1 := by omega
   have i2 : ¬ (i : Int) < (N1 : Int) := by omega
   clear hbw tt
   have hQ2 := hq
   generalize A1.vI.p = pI at *
   generalize A1.vM.p = pM at *
   generalize A1.vK.p = pK at *
   generalize A1.vI.c = cI at *
   generalize A1.vM.c = cM at *
   generalize A1.vK.c = cK at *
   clear hq
   generalize wr = wo1 at *
   go_wp2_with fail
   go_loopw [4] (fun q wr => ∃ i : Nat, i ≤ N2 ∧ q = .int .i64 i ∧ Hid (Fr [] w1 wr)) (fun q _ => N2 - (intOf q).toNat)
   case atStart => exact ⟨0, Nat.zero_le _, rfl, hQ2⟩
   case round =>
    obtain ⟨i, hin, rfl, hq⟩ := hrel
    have i1 : (0 : Int) ≤ (i : Int) := by omega
    have hbw : Bok wr b H A1 A2 A3 := HBk.out.keep hq.out (by simp) (by simp)
    have tt := hbw.top
    have x0 : wr.cell? ⟨b, 9, none⟩ = some (.slice A2.vI.p N2 A2.vI.c) := by rw [cell_in tt, ← HN2.out.1]; rfl
    have x1 : wr.cell? ⟨b, 10, none⟩ = some (.slice A2.vM.p N2 A2.vM.c) := by rw [cell_in tt, ← HN2.out.2.1]; rfl
    have x2 : wr.cell? ⟨b, 11, none⟩ = some (.slice A2.vK.p N2 A2.vK.c) := by rw [cell_in tt, ← HN2.out.2.2.1]; rfl
    by_cases hi : i < N2
    ·have i2 : (i : Int) < (N2 : Int) := by omega
     obtain ⟨x, y, m, f1, f2, ⟨gI, eI, lI, cI0⟩, ⟨gM, eM, lM, cM0⟩, gK, eK, lK, cK0⟩ := hbw.ok2.ith (i := i) (by rw [HN2.out.2.2.2]; exact hi)
     rw [eI] at x0
     rw [eM] at x1
     rw [eK] at x2
     have HF1 : Hid (∀ V, Hid (Fr [] wr V) → Calls Tryd.prog 95 #[x.v, .int .i64 m] V fun e w' => e = .returned (.bool true) ∧ w' = V) := fun V hV => fullWords_ok x.n m x.v V (f1.rdW.idle hV.out)
     have HF2 : Hid (∀ V, Hid (Fr [] wr V) → Calls Tryd.prog 95 #[y.v, .int .i64 m] V fun e w' => e = .returned (.bool true) ∧ w' = V) := fun V hV => fullWords_ok y.n m y.v V (f2.rdW.idle hV.out)
     obtain ⟨xp, xn, xc⟩ := x
     obtain ⟨yp, yn, yc⟩ := y
     simp only [Le.v] at cI0 cM0 HF1 HF2
     have HCel : Hid (∀ V, Hid (Fr [] wr V) → V.cell? ⟨b, 9, none⟩ = some (.slice (some ⟨gI, 0, none⟩) N2 A2.vI.c) ∧ V.cell? ⟨b, 10, none⟩ = some (.slice (some ⟨gM, 0, none⟩) N2 A2.vM.c) ∧ V.cell? ⟨b, 11, none⟩ = some (.slice (some ⟨gK, 0, none⟩) N2 A2.vK.c) ∧ V.cell? ⟨gI, i, none⟩ = some (.slice xp xn xc) ∧ V.cell? ⟨gM, i, none⟩ = some (.slice yp yn yc) ∧ V.cell? ⟨gK, i, none⟩ = some (.int .i64 m)) := fun V hV => by
      refine ⟨?_, ?_, ?_, ?_, ?_, ?_⟩
      ·rw [hV.out.cell (p := ⟨b, 9, none⟩) (lt_of_heap tt) (by simp)]; exact x0
      ·rw [hV.out.cell (p := ⟨b, 10, none⟩) (lt_of_heap tt) (by simp)]; exact x1
      ·rw [hV.out.cell (p := ⟨b, 11, none⟩) (lt_of_heap tt) (by simp)]; exact x2
      ·rw [hV.out.cell (p := ⟨gI, i, none⟩) lI (by simp)]; exact cI0
      ·rw [hV.out.cell (p := ⟨gM, i, none⟩) lM (by simp)]; exact cM0
      ·rw [hV.out.cell (p := ⟨gK, i, none⟩) lK (by simp)]; exact cK0
     have HFF : Hid (∀ V v, (v = .slice xp xn xc ∨ v = .slice yp yn yc) → Hid (Fr [] wr V) → Calls Tryd.prog 95 #[v, .int .i64 m] V fun e w' => e = .returned (.bool true) ∧ w' = V) := fun V v hv hV => by
      rcases hv with rfl | rfl
      ·exact HF1.out V hV
      ·exact HF2.out V hV
     have hR : Hid (Fr [] wr wr) := Fr.refl _ _
     clear hbw f1 f2 tt HF1 HF2 lI lM lK eI eM eK
     generalize A2.vI.c = cI at *
     generalize A2.vM.c = cM at *
     generalize A2.vK.c = cK at *
     go_wp2_with fail
     go_region_held3 (fun V => V.cell? ⟨b, 9, none⟩ = some (.slice (some ⟨gI, 0, none⟩) N2 cI) ∧ V.cell? ⟨b, 10, none⟩ = some (.slice (some ⟨gM, 0, none⟩) N2 cM) ∧ V.cell? ⟨b, 11, none⟩ = some (.slice (some ⟨gK, 0, none⟩) N2 cK) ∧ V.cell? ⟨gI, i, none⟩ = some (.slice xp xn xc) ∧ V.cell? ⟨gM, i, none⟩ = some (.slice yp yn yc) ∧ V.cell? ⟨gK, i, none⟩ = some (.int .i64 m))
      (first
       | exact HCel.out _ (hid_drew hR)
       | exact HCel.out _ hR
       | exact HCel.out _ (by assumption))
      (first
       | (go_at_call 95; refine (HFF.out _ _ (by first | exact .inl rfl | exact .inr rfl) (hid_drew hR)).mono ?_; rintro e w' ⟨rfl, hw'⟩; subst hw'))
     all_goals go_wp2_with fail
     all_goals
      go_roundw
      case rel => exact ⟨i + 1, by omega, by go_num, hid_drew hq⟩
      case measure => simp [intOf]; omega
    ·have hie : i = N2 := by omega
     have i2 : ¬ (i : Int) < (N2 : Int) := by omega
     clear hbw tt
     have hQ3 := hq
     generalize A2.vI.p = pI at *
     generalize A2.vM.p = pM at *
     generalize A2.vK.p = pK at *
     generalize A2.vI.c = cI at *
     generalize A2.vM.c = cM at *
     generalize A2.vK.c = cK at *
     clear hq
     generalize wr = wo2 at *
     go_wp2_with fail
     go_loopw [5] (fun q wr => ∃ i : Nat, i ≤ N3 ∧ q = .int .i64 i ∧ Hid (Fr [] w1 wr)) (fun q _ => N3 - (intOf q).toNat)
     case atStart => exact ⟨0, Nat.zero_le _, rfl, hQ3⟩
     case round =>
      obtain ⟨i, hin, rfl, hq⟩ := hrel
      have i1 : (0 : Int) ≤ (i : Int) := by omega
      have hbw : Bok wr b H A1 A2 A3 := HBk.out.keep hq.out (by simp) (by simp)
      have tt := hbw.top
      have x0 : wr.cell? ⟨b, 12, none⟩ = some (.slice A3.vI.p N3 A3.vI.c) := by rw [cell_in tt, ← HN3.out.1]; rfl
      have x1 : wr.cell? ⟨b, 13, none⟩ = some (.slice A3.vM.p N3 A3.vM.c) := by rw [cell_in tt, ← HN3.out.2.1]; rfl
      have x2 : wr.cell? ⟨b, 14, none⟩ = some (.slice A3.vK.p N3 A3.vK.c) := by rw [cell_in tt, ← HN3.out.2.2.1]; rfl
      by_cases hi : i < N3
      ·have i2 : (i : Int) < (N3 : Int) := by omega
       obtain ⟨x, y, m, f1, f2, ⟨gI, eI, lI, cI0⟩, ⟨gM, eM, lM, cM0⟩, gK, eK, lK, cK0⟩ := hbw.ok3.ith (i := i) (by rw [HN3.out.2.2.2]; exact hi)
       rw [eI] at x0
       rw [eM] at x1
       rw [eK] at x2
       have HF1 : Hid (∀ V, Hid (Fr [] wr V) → Calls Tryd.prog 96 #[x.v, .int .i64 m] V fun e w' => e = .returned (.bool true) ∧ w' = V) := fun V hV => fullObjs_ok x.n m x.v V (f1.satO.idle hV.out)
       have HF2 : Hid (∀ V, Hid (Fr [] wr V) → Calls Tryd.prog 96 #[y.v, .int .i64 m] V fun e w' => e = .returned (.bool true) ∧ w' = V) := fun V hV => fullObjs_ok y.n m y.v V (f2.satO.idle hV.out)
       obtain ⟨xp, xn, xc⟩ := x
       obtain ⟨yp, yn, yc⟩ := y
       simp only [Le.v] at cI0 cM0 HF1 HF2
       have HCel : Hid (∀ V, Hid (Fr [] wr V) → V.cell? ⟨b, 12, none⟩ = some (.slice (some ⟨gI, 0, none⟩) N3 A3.vI.c) ∧ V.cell? ⟨b, 13, none⟩ = some (.slice (some ⟨gM, 0, none⟩) N3 A3.vM.c) ∧ V.cell? ⟨b, 14, none⟩ = some (.slice (some ⟨gK, 0, none⟩) N3 A3.vK.c) ∧ V.cell? ⟨gI, i, none⟩ = some (.slice xp xn xc) ∧ V.cell? ⟨gM, i, none⟩ = some (.slice yp yn yc) ∧ V.cell? ⟨gK, i, none⟩ = some (.int .i64 m)) := fun V hV => by
        refine ⟨?_, ?_, ?_, ?_, ?_, ?_⟩
        ·rw [hV.out.cell (p := ⟨b, 12, none⟩) (lt_of_heap tt) (by simp)]; exact x0
        ·rw [hV.out.cell (p := ⟨b, 13, none⟩) (lt_of_heap tt) (by simp)]; exact x1
        ·rw [hV.out.cell (p := ⟨b, 14, none⟩) (lt_of_heap tt) (by simp)]; exact x2
        ·rw [hV.out.cell (p := ⟨gI, i, none⟩) lI (by simp)]; exact cI0
        ·rw [hV.out.cell (p := ⟨gM, i, none⟩) lM (by simp)]; exact cM0
        ·rw [hV.out.cell (p := ⟨gK, i, none⟩) lK (by simp)]; exact cK0
       have HFF : Hid (∀ V v, (v = .slice xp xn xc ∨ v = .slice yp yn yc) → Hid (Fr [] wr V) → Calls Tryd.prog 96 #[v, .int .i64 m] V fun e w' => e = .returned (.bool true) ∧ w' = V) := fun V v hv hV => by
        rcases hv with rfl | rfl
        ·exact HF1.out V hV
        ·exact HF2.out V hV
       have hR : Hid (Fr [] wr wr) := Fr.refl _ _
       clear hbw f1 f2 tt HF1 HF2 lI lM lK eI eM eK
       generalize A3.vI.c = cI at *
       generalize A3.vM.c = cM at *
       generalize A3.vK.c = cK at *
       go_wp2_with fail
       go_region_held3 (fun V => V.cell? ⟨b, 12, none⟩ = some (.slice (some ⟨gI, 0, none⟩) N3 cI) ∧ V.cell? ⟨b, 13, none⟩ = some (.slice (some ⟨gM, 0, none⟩) N3 cM) ∧ V.cell? ⟨b, 14, none⟩ = some (.slice (some ⟨gK, 0, none⟩) N3 cK) ∧ V.cell? ⟨gI, i, none⟩ = some (.slice xp xn xc) ∧ V.cell? ⟨gM, i, none⟩ = some (.slice yp yn yc) ∧ V.cell? ⟨gK, i, none⟩ = some (.int .i64 m))
        (first
         | exact HCel.out _ (hid_drew hR)
         | exact HCel.out _ hR
         | exact HCel.out _ (by assumption))
        (first
         | (go_at_call 96; refine (HFF.out _ _ (by first | exact .inl rfl | exact .inr rfl) (hid_drew hR)).mono ?_; rintro e w' ⟨rfl, hw'⟩; subst hw'))
       all_goals go_wp2_with fail
       all_goals
        go_roundw
        case rel => exact ⟨i + 1, by omega, by go_num, hid_drew hq⟩
        case measure => simp [intOf]; omega
      ·have hie : i = N3 := by omega
       have i2 : ¬ (i : Int) < (N3 : Int) := by omega
       clear hbw tt
       have hQ4 := hq
       generalize A3.vI.p = pI at *
       generalize A3.vM.p = pM at *
       generalize A3.vK.p = pK at *
       generalize A3.vI.c = cI at *
       generalize A3.vM.c = cM at *
       generalize A3.vK.c = cK at *
       clear hq
       have HZ : Hid (∃ A1 A2 A3, A1.news = [] ∧ A2.news = [] ∧ A3.news = [] ∧ Gd w wr b H S1 S2 S3 A1 A2 A3) := ⟨A1, A2, A3, HE.out.1, HE.out.2.1, HE.out.2.2, HG1.out.idle hQ4.out⟩
       clear hQ4
       go_wp2_with fail
       go_ret
       obtain ⟨z1, z2, z3, z4, z5, z6, z7⟩ := HZ.out
       exact ⟨rfl, z1, z4, z2, z5, z3, z6, z7⟩
end Go.Proofs.YtklfnjlenbgmoaaDoor
