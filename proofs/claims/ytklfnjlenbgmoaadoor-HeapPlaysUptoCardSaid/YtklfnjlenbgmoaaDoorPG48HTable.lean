import Derived.Test.YtklfnjlenbgmoaaDoorPG46KFullO
import Derived.Test.YtklfnjlenbgmoaaDoorPKRt
import Derived.Deep.RegionHeld3
import Derived.OpenShut
import Derived.FnData
set_option linter.unusedSimpArgs false
set_option linter.unusedVariables false
namespace Go.Proofs.YtklfnjlenbgmoaaDoor
open Go.RowKit Go.Maps
attribute [local go_sem ↓] Go.wp_at_zero Go.wp_at_succ
set_option maxRecDepth 20000 in
set_option maxHeartbeats 8000000 in
theorem plays_any (words oops other : Int) (so : Option Addr) (b off sz c : Nat) (w : World) (hso : 0 < sz → so = some ⟨b, off, none⟩) (hT : Tbs w) (hb : 0 < sz → b < w.heap.size) (hsz : sz ≤ 1048576) (hst : ∀ i, i < sz → StepB w b off i 1048576) :
  Calls Tryd.prog 8 #[.int .i64 words, .int .i64 oops, .int .i64 other, .slice so sz c] w fun e w' => e = .returned (.bool true) ∧ Fr [] w w' := by
 have HT := mkHid hT
 have HST := mkHid hst
 have HSB := mkHid hb
 have HSO := mkHid hso
 obtain ⟨j24, hj24⟩ := Option.isSome_iff_exists.1 info95
 obtain ⟨j42, hj42⟩ := Option.isSome_iff_exists.1 info137p
 have HE24 : Hid (∀ V p, (binOp .eql 24 (.pointer p) (.pointer none)).run Tryd.prog V = .ok (.bool p.isNone) V) := fun V p => eql_nil V p Tryd.underlying24 hj24
 have HE42 : Hid (∀ V p, (binOp .eql 42 (.pointer p) (.pointer none)).run Tryd.prog V = .ok (.bool p.isNone) V) := fun V p => eql_nil V p Tryd.underlying42 hj42
 clear hT hst hb hso hj24 hj42
 go_enter Tryd.func8, Tryd.ntmps8
 go_wp2_with fail
 obtain ⟨p1, e1, y1, h1⟩ := newP words oops w
 refine h1.mono ?_
 rintro e w1 ⟨rfl, N1⟩
 clear h1
 go_wp2_with fail
 obtain ⟨p2, e2, y2, h2⟩ := newP other oops w1
 refine h2.mono ?_
 rintro e w2 ⟨rfl, N2⟩
 clear h2
 go_wp2_with fail
 obtain ⟨r1, e3, y3, h3⟩ := newR words oops w2
 refine h3.mono ?_
 rintro e w3 ⟨rfl, N3⟩
 clear h3
 go_wp2_with fail
 obtain ⟨r2, e4, y4, h4⟩ := newR other oops w3
 refine h4.mono ?_
 rintro e w4 ⟨rfl, N4⟩
 clear h4
 have hs2 : 2 ≤ w.heap.size := by have := HT.out.s; omega
 obtain ⟨z1, z2, dA, vA, uA, oA, gA⟩ := new_pair N1.out N2.out.1 N3.out hs2
 obtain ⟨z3, z4, dB, vB, uB, oB, gB⟩ := new_pair N2.out N3.out.1 N4.out (by have := N1.out.1.size; omega)
 subst z1
 subst z3
 have q24a := HE24.out w4 p1
 have q24b := HE24.out w4 p2
 have q42a := HE42.out w4 r1
 have q42b := HE42.out w4 r2
 have q24c := HE24.out w4.drew p1
 have q24d := HE24.out w4.drew p2
 have q42c := HE42.out w4.drew r1
 have q42d := HE42.out w4.drew r2
 rw [z2] at q24a q24c
 rw [z4] at q24b q24d
 have HFr : Hid (∀ V, Fr [] w4 V → V.heap[w4.heap.size]? = some (.cells #[.pointer p1, .pointer p2, .pointer r1, .pointer r2, .slice none 0 0, .slice none 0 0, .slice none 0 0, .slice none 0 0, .slice none 0 0, .slice none 0 0, .slice none 0 0, .slice none 0 0, .slice none 0 0, .slice none 0 0, .slice none 0 0] 85 (0, 0)) → ∃ x : Wl, Hid (x.b = w4.heap.size) ∧ Hid (WOk V 0 0 x) ∧ Hid (∀ g, Liv x g → w.heap.size ≤ g)) := fun V hV ht => by
  rw [← vA, ← vB, ← uA, ← uB] at ht
  obtain ⟨q1, q2⟩ := WOk.fresh HT.out N1.out.1 N2.out.1 N3.out.1 N4.out.1 oA oB gA gB hV ht
  exact ⟨_, mkHid rfl, q1, q2⟩
 have HF4 : Hid (Fr [] w w4) := ((N1.out.1.trans N2.out.1 (by simp)).trans N3.out.1 (by simp)).trans N4.out.1 (by simp)
 clear N1 N2 N3 N4 z2 z4 vA uA oA gA vB uB oB gB HE24 HE42 HT
 generalize r1.isNone = t1 at *
 generalize r2.isNone = t2 at *
 go_wp2_with (go_at_call 11; refine (num_any _ _ (by omega) (by omega)).mono ?_; rintro e w' ⟨rfl, hw'⟩; rw [hw']; clear hw' w')
 obtain ⟨x0, hxb0, hx0, hxl0⟩ := HFr.out (w4.alloc (.cells #[.pointer p1, .pointer p2, .pointer r1, .pointer r2, .slice none 0 0, .slice none 0 0, .slice none 0 0, .slice none 0 0, .slice none 0 0, .slice none 0 0, .slice none 0 0, .slice none 0 0, .slice none 0 0, .slice none 0 0, .slice none 0 0] 85)) (Fr.alloc [] _ _) (heap_alloc_new w4 _)
 have HF5 := hid_al HF4 (.cells #[.pointer p1, .pointer p2, .pointer r1, .pointer r2, .slice none 0 0, .slice none 0 0, .slice none 0 0, .slice none 0 0, .slice none 0 0, .slice none 0 0, .slice none 0 0, .slice none 0 0, .slice none 0 0, .slice none 0 0, .slice none 0 0] 85)
 clear HFr HF4 q24a q24b q42a q42b q24c q24d q42c q42d
 generalize w4.alloc (.cells #[.pointer p1, .pointer p2, .pointer r1, .pointer r2, .slice none 0 0, .slice none 0 0, .slice none 0 0, .slice none 0 0, .slice none 0 0, .slice none 0 0, .slice none 0 0, .slice none 0 0, .slice none 0 0, .slice none 0 0, .slice none 0 0] 85) = V0 at *
 generalize w4.heap.size = b0 at *
 go_loopw [18] (fun q wr => ∃ (k : Nat) (x : Wl) (t : Nat), k ≤ sz ∧ q = .int .i64 k ∧ Hid (t ≤ 1) ∧ Hid (x.b = b0) ∧ Hid (WOk wr (2 * k) t x) ∧ Hid (Fr [] w wr) ∧ Hid (∀ g, Liv x g → w.heap.size ≤ g)) (fun q _ => sz - (intOf q).toNat)
 case atStart => exact ⟨0, x0, 0, Nat.zero_le _, rfl, mkHid (by omega), hxb0, hx0, HF5, hxl0⟩
 case round =>
  obtain ⟨k, x, t, hk, rfl, ht, hxb, hW, hF, hl⟩ := hrel
  have k1 : (0 : Int) ≤ (k : Int) := by omega
  clear hxb0 hx0 HF5 hxl0
  by_cases hlt : k < sz
  ·have k2 : (k : Int) < (sz : Int) := by omega
   obtain ⟨K, O, A, B, C, X, ao, lc, zs, m0, m1, m2, m3, m4, m5, m6, hls, hzl⟩ := HST.out k hlt
   have bl : b < w.heap.size := HSB.out (by omega)
   have hso := HSO.out (by omega)
   subst hso
   have c0 := (hF.out.cell (p := ⟨b, off + k * 7, none⟩) bl (by simp)).trans m0
   have c1 := (hF.out.cell (p := ⟨b, off + k * 7 + 1, none⟩) bl (by simp)).trans m1
   have c2 := (hF.out.cell (p := ⟨b, off + k * 7 + 2, none⟩) bl (by simp)).trans m2
   have c3 := (hF.out.cell (p := ⟨b, off + k * 7 + 3, none⟩) bl (by simp)).trans m3
   have c4 := (hF.out.cell (p := ⟨b, off + k * 7 + 4, none⟩) bl (by simp)).trans m4
   have c5 := (hF.out.cell (p := ⟨b, off + k * 7 + 5, none⟩) bl (by simp)).trans m5
   have c6 := (hF.out.cell (p := ⟨b, off + k * 7 + 6, none⟩) bl (by simp)).trans m6
   have hstp := law_step K O A B C X zs ao lc (2 * k) t x wr hW.out ht.out (by omega) hzl ((hls.rd hzl).idle hF.out) (fun h0 g hg hm => by have := hl.out g hm; have := (hls.rd hzl).lt h0 g hg; omega)
   rw [hxb.out] at hstp
   unfold stepV at hstp
   have HStp := mkHid hstp
   clear hstp m0 m1 m2 m3 m4 m5 m6 hls hzl
   go_wp2_with fail
   refine HStp.out.mono ?_
   rintro e w1' ⟨rfl, x1, t1', ht1, hb1, hW1, hG1⟩
   obtain ⟨f1, l1⟩ := hG1.base hF.out hl.out
   have hse := seen_ok (2 * k + 2) t1' x1 w1' hW1 ht1
   rw [hb1, hxb.out] at hse
   have HSe := mkHid hse
   have HW1 := mkHid hW1
   have HF1 := mkHid f1
   have HL1 := mkHid l1
   have HB1 : Hid (x1.b = b0) := mkHid (hb1.trans hxb.out)
   have HT1 := mkHid ht1
   clear hse hW1 hG1 f1 l1 hb1 ht1 HStp hW hF hl hxb ht
   go_wp2_with fail
   refine HSe.out.mono ?_
   rintro e w2' ⟨rfl, f2⟩
   have hW2 := HW1.out.idle f2
   have k3 := hW2.c1
   have k4 := hW2.c2
   have k5 := hW2.c3
   have hri := bright_ok x1.b (x1.hd t1') x1.S1 x1.S2 x1.S3 w2' hW2.bok (by omega) (by omega) (by omega)
   rw [HB1.out] at hri
   have HRi := mkHid hri
   have HW2 := mkHid hW2
   have HF2 := mkHid (HF1.out.trans f2 (by simp))
   clear hri hW2 f2 HSe HW1 HF1 k3 k4 k5
   go_wp2_with fail
   refine HRi.out.mono ?_
   rintro e w3' ⟨rfl, A1, A2, A3, -, -, -, hGd⟩
   have hGd' : Gd w2' w3' x1.b (x1.hd t1') x1.S1 x1.S2 x1.S3 A1 A2 A3 := by rw [HB1.out]; exact hGd
   have hW3 := HW2.out.grown hGd'
   have hG3 : Go1 w2' w3' x1 { x1 with S1 := A1, S2 := A2, S3 := A3 } := go_book hGd'.fr (fun g hm => by
    rcases List.mem_cons.1 hm with q | q
    ·exact .inl q
    ·exact .inr (.inl q)) hGd'.all
   obtain ⟨f3, l3⟩ := hG3.base HF2.out HL1.out
   have HZ : Hid (∃ (x : Wl) (t : Nat), Hid (t ≤ 1) ∧ Hid (x.b = b0) ∧ Hid (WOk w3' (2 * (k + 1)) t x) ∧ Hid (Fr [] w w3') ∧ Hid (∀ g, Liv x g → w.heap.size ≤ g)) := ⟨{ x1 with S1 := A1, S2 := A2, S3 := A3 }, t1', HT1, HB1, hW3, f3, l3⟩
   clear hGd hGd' hW3 hG3 f3 l3 HRi HW2 HF2
   go_wp2_with fail
   go_roundw
   case rel =>
    obtain ⟨x', t', q1, q2, q3, q4, q5⟩ := HZ.out
    exact ⟨k + 1, x', t', by omega, by go_num, q1, q2, q3, q4, q5⟩
   case measure => simp [intOf]; omega
  ·have hke : k = sz := by omega
   have k2 : ¬ (k : Int) < (sz : Int) := by omega
   obtain ⟨sx, sy, sw, ks, M0, S0⟩ := st_any (hW.out.prAt 0)
   have h42 : Calls Tryd.prog 42 #[.pointer (some ⟨b0, 0, none⟩), .int .i64 0] wr fun e w'' => ∃ ov ls, e = .returned (.agg #[.int .i64 (sx : Int), .int .i64 (sy : Int), .int .i64 (sw : Int), ov]) ∧ SRep w'' wr.heap.size ov ls ∧ ls.map osKey = ks ∧ Fr [] wr w'' ∧ ApO ls := by
    have := a2_ok (2 * k) t x 0 wr hW.out ht.out (by omega) S0
    rw [hxb.out] at this
    exact this
   have H42 := mkHid h42
   have HS0 := mkHid S0
   clear h42 S0
   go_wp2_with fail
   refine H42.out.mono ?_
   rintro e w1 ⟨ov1, l1, rfl, r1_, e1_, f1, ap1⟩
   obtain ⟨⟨pp1, pn1, pc1⟩, hv1, -, -⟩ := le_of r1_.row
   replace hv1 : Value.slice pp1 pn1 pc1 = ov1 := hv1
   subst hv1
   have hW1 := hW.out.idle f1
   obtain ⟨ux, uy, uw, kt, M1, S1⟩ := st_any (hW1.prAt 1)
   have h43 : Calls Tryd.prog 42 #[.pointer (some ⟨b0, 0, none⟩), .int .i64 1] w1 fun e w'' => ∃ ov ls, e = .returned (.agg #[.int .i64 (ux : Int), .int .i64 (uy : Int), .int .i64 (uw : Int), ov]) ∧ SRep w'' w1.heap.size ov ls ∧ ls.map osKey = kt ∧ Fr [] w1 w'' ∧ ApO ls := by
    have := a2_ok (2 * k) t x 1 w1 hW1 ht.out (by omega) S1
    rw [hxb.out] at this
    exact this
   have H43 := mkHid h43
   have HS1 := mkHid S1
   have R1 := mkHid r1_
   have E1 := mkHid (And.intro e1_ ap1)
   have q1 : Hid (Fr [] wr w1) := f1
   clear h43 S1 r1_ e1_ ap1 f1 hW1 H42
   go_wp2_with fail
   refine H43.out.mono ?_
   rintro e w2 ⟨ov2, l2, rfl, r2_, e2_, f2, ap2⟩
   obtain ⟨⟨pp2, pn2, pc2⟩, hv2, -, -⟩ := le_of r2_.row
   replace hv2 : Value.slice pp2 pn2 pc2 = ov2 := hv2
   subst hv2
   have R2 := mkHid r2_
   have E2 := mkHid (And.intro e2_ ap2)
   have q2 : Hid (Fr [] w1 w2) := f2
   have lo1 : Hid (wr.heap.size ≤ w1.heap.size ∧ w1.heap.size ≤ w2.heap.size) := mkHid ⟨q1.out.size, q2.out.size⟩
   have g2 : Hid (Fr [] w2 ((w2.alloc (.cells #[.int .i64 (sx : Int), .int .i64 (sy : Int), .int .i64 (sw : Int), .slice pp1 pn1 pc1] 38)).alloc (.cells #[.int .i64 (ux : Int), .int .i64 (uy : Int), .int .i64 (uw : Int), .slice pp2 pn2 pc2] 38))) := mkHid ((Fr.alloc [] _ _).trans (Fr.alloc [] _ _) (by simp))
   have HB1 : Hid (∀ V, Hid (Fr [] ((w2.alloc (.cells #[.int .i64 (sx : Int), .int .i64 (sy : Int), .int .i64 (sw : Int), .slice pp1 pn1 pc1] 38)).alloc (.cells #[.int .i64 (ux : Int), .int .i64 (uy : Int), .int .i64 (uw : Int), .slice pp2 pn2 pc2] 38)) V) → V.heap[w2.heap.size]? = some (.cells #[.int .i64 (sx : Int), .int .i64 (sy : Int), .int .i64 (sw : Int), .slice pp1 pn1 pc1] 38 (0, 0)) ∧ V.heap[w2.heap.size + 1]? = some (.cells #[.int .i64 (ux : Int), .int .i64 (uy : Int), .int .i64 (uw : Int), .slice pp2 pn2 pc2] 38 (0, 0))) := fun V hV => by
    have z1 : ((w2.alloc (.cells #[.int .i64 (sx : Int), .int .i64 (sy : Int), .int .i64 (sw : Int), .slice pp1 pn1 pc1] 38)).alloc (.cells #[.int .i64 (ux : Int), .int .i64 (uy : Int), .int .i64 (uw : Int), .slice pp2 pn2 pc2] 38)).heap[w2.heap.size]? = some (.cells #[.int .i64 (sx : Int), .int .i64 (sy : Int), .int .i64 (sw : Int), .slice pp1 pn1 pc1] 38 (0, 0)) := (Below.heap_alloc _ _ _ (by simp)).trans (heap_alloc_new w2 _)
    have z2 : ((w2.alloc (.cells #[.int .i64 (sx : Int), .int .i64 (sy : Int), .int .i64 (sw : Int), .slice pp1 pn1 pc1] 38)).alloc (.cells #[.int .i64 (ux : Int), .int .i64 (uy : Int), .int .i64 (uw : Int), .slice pp2 pn2 pc2] 38)).heap[w2.heap.size + 1]? = some (.cells #[.int .i64 (ux : Int), .int .i64 (uy : Int), .int .i64 (uw : Int), .slice pp2 pn2 pc2] 38 (0, 0)) := by
     have := heap_alloc_new (w2.alloc (.cells #[.int .i64 (sx : Int), .int .i64 (sy : Int), .int .i64 (sw : Int), .slice pp1 pn1 pc1] 38)) (.cells #[.int .i64 (ux : Int), .int .i64 (uy : Int), .int .i64 (uw : Int), .slice pp2 pn2 pc2] 38)
     simpa using this
    exact ⟨(hV.out.block _ (lt_of_heap z1) (by simp)).trans z1, (hV.out.block _ (lt_of_heap z2) (by simp)).trans z2⟩
   clear r2_ e2_ ap2 f2 H43
   go_wp2_with fail
   generalize (w2.alloc (.cells #[.int .i64 (sx : Int), .int .i64 (sy : Int), .int .i64 (sw : Int), .slice pp1 pn1 pc1] 38)).alloc (.cells #[.int .i64 (ux : Int), .int .i64 (uy : Int), .int .i64 (uw : Int), .slice pp2 pn2 pc2] 38) = V2 at *
   obtain ⟨b1, hb1⟩ : ∃ b1, b1 = w2.heap.size := ⟨_, rfl⟩
   obtain ⟨b2, hb2⟩ : ∃ b2, b2 = w2.heap.size + 1 := ⟨_, rfl⟩
   rw [← hb2, ← hb1] at HB1
   rw [← hb2, ← hb1]
   have HBB := mkHid (And.intro hb1 hb2)
   clear hb1 hb2
   have g0 : Hid (Fr [] wr V2) := mkHid ((q1.out.trans q2.out (by simp)).trans g2.out (by simp))
   have g1 : Hid (Fr [] w1 V2) := mkHid (q2.out.trans g2.out (by simp))
   have HCl : Hid (∀ V, Hid (Fr [] V2 V) → (V.cell? ⟨b1, 0, none⟩ = some (.int .i64 (sx : Int)) ∧ V.cell? ⟨b1, 1, none⟩ = some (.int .i64 (sy : Int)) ∧ V.cell? ⟨b1, 2, none⟩ = some (.int .i64 (sw : Int)) ∧ V.cell? ⟨b1, 3, none⟩ = some (.slice pp1 pn1 pc1)) ∧ (V.cell? ⟨b2, 0, none⟩ = some (.int .i64 (ux : Int)) ∧ V.cell? ⟨b2, 1, none⟩ = some (.int .i64 (uy : Int)) ∧ V.cell? ⟨b2, 2, none⟩ = some (.int .i64 (uw : Int)) ∧ V.cell? ⟨b2, 3, none⟩ = some (.slice pp2 pn2 pc2)) ∧ V.cell? ⟨b0, 2, none⟩ = some (vR (x.at t 0)) ∧ V.cell? ⟨b0, 3, none⟩ = some (vR (x.at t 1))) := fun V hV => by
    obtain ⟨z1, z2⟩ := HB1.out V hV
    have hWV := hW.out.idle (g0.out.trans hV.out (by simp))
    have y0 := (cells_of hWV ht.out 0 (by omega)).2
    have y1 := (cells_of hWV ht.out 1 (by omega)).2
    rw [hxb.out] at y0 y1
    exact ⟨⟨by rw [cell_in z1]; rfl, by rw [cell_in z1]; rfl, by rw [cell_in z1]; rfl, by rw [cell_in z1]; rfl⟩, ⟨by rw [cell_in z2]; rfl, by rw [cell_in z2]; rfl, by rw [cell_in z2]; rfl, by rw [cell_in z2]; rfl⟩, y0, y1⟩
   have H24a : Hid (∀ V, Hid (Fr [] V2 V) → Calls Tryd.prog 24 #[vR (x.at t 0)] V fun e w'' => ∃ ov ls, e = .returned (.agg #[.int .i64 (sx : Int), .int .i64 (sy : Int), .int .i64 (sw : Int), ov]) ∧ Hid (SRep w'' V.heap.size ov ls ∧ ls.map osKey = ks) ∧ Hid (Fr [] V2 w'')) := fun V hV => (HS0.out.docu V (hid_tr g0 hV.out)).mono fun e w'' ⟨ov, ls, h1, h2, h3, h4⟩ => ⟨ov, ls, h1, ⟨h2, h3⟩, hid_tr hV h4⟩
   have H24b : Hid (∀ V, Hid (Fr [] V2 V) → Calls Tryd.prog 24 #[vR (x.at t 1)] V fun e w'' => ∃ ov ls, e = .returned (.agg #[.int .i64 (ux : Int), .int .i64 (uy : Int), .int .i64 (uw : Int), ov]) ∧ Hid (SRep w'' V.heap.size ov ls ∧ ls.map osKey = kt) ∧ Hid (Fr [] V2 w'')) := fun V hV => (HS1.out.docu V (hid_tr g1 hV.out)).mono fun e w'' ⟨ov, ls, h1, h2, h3, h4⟩ => ⟨ov, ls, h1, ⟨h2, h3⟩, hid_tr hV h4⟩
   have HM1 : Hid (∀ V ob lb B, Hid (SRep V B ob lb ∧ lb.map osKey = ks) → Hid (Fr [] V2 V) → Calls Tryd.prog 22 #[.agg #[.int .i64 (sx : Int), .int .i64 (sy : Int), .int .i64 (sw : Int), .slice pp1 pn1 pc1], .agg #[.int .i64 (sx : Int), .int .i64 (sy : Int), .int .i64 (sw : Int), ob]] V fun e w' => e = .returned (.bool true) ∧ Hid (Fr [] V2 w')) := fun V ob lb B h1 hV => by
    have z := R1.out.idle (g1.out.trans hV.out (by simp))
    exact (sameState_ok sx sy sw _ ob l1 lb _ B V z h1.out.1 (E1.out.1.trans h1.out.2.symm) (HS0.out.bnd z E1.out.1).1 (HS0.out.bnd z E1.out.1).2).mono fun e w' ⟨h2, h3⟩ => ⟨h2, hid_tr hV h3⟩
   have HM2 : Hid (∀ V ob lb B, Hid (SRep V B ob lb ∧ lb.map osKey = kt) → Hid (Fr [] V2 V) → Calls Tryd.prog 22 #[.agg #[.int .i64 (ux : Int), .int .i64 (uy : Int), .int .i64 (uw : Int), .slice pp2 pn2 pc2], .agg #[.int .i64 (ux : Int), .int .i64 (uy : Int), .int .i64 (uw : Int), ob]] V fun e w' => e = .returned (.bool true) ∧ Hid (Fr [] V2 w')) := fun V ob lb B h1 hV => by
    have z := R2.out.idle (g2.out.trans hV.out (by simp))
    exact (sameState_ok ux uy uw _ ob l2 lb _ B V z h1.out.1 (E2.out.1.trans h1.out.2.symm) (HS1.out.bnd z E2.out.1).1 (HS1.out.bnd z E2.out.1).2).mono fun e w' ⟨h2, h3⟩ => ⟨h2, hid_tr hV h3⟩
   have HZZ : Hid (∀ V, Hid (Fr [] V2 V) → Calls Tryd.prog 43 #[.pointer (some ⟨b0, 6, none⟩), .agg #[.int .i64 (sx : Int), .int .i64 (sy : Int), .int .i64 (sw : Int), .slice pp1 pn1 pc1]] V fun e V3 => ∃ v, e = .returned v ∧ (v = .tuple #[] ∧ Hid (V3.heap[b2]? = some (.cells #[.int .i64 (ux : Int), .int .i64 (uy : Int), .int .i64 (uw : Int), .slice pp2 pn2 pc2] 38 (0, 0)) ∧ ∀ V1', Fr [] V3 V1' → Calls Tryd.prog 43 #[.pointer (some ⟨b0, 6, none⟩), .agg #[.int .i64 (ux : Int), .int .i64 (uy : Int), .int .i64 (uw : Int), .slice pp2 pn2 pc2]] V1' fun e V4 => e = .returned (.tuple #[]) ∧ StepTo wr (2 * k) x V4))) := fun V hV => by
    have z1 := R1.out.idle (g1.out.trans hV.out (by simp))
    have z2 := R2.out.idle (g2.out.trans hV.out (by simp))
    obtain ⟨n1, s1⟩ := HS0.out.bnd z1 E1.out.1
    obtain ⟨n2, s2⟩ := HS1.out.bnd z2 E2.out.1
    have hle := lo1.out.1
    have hm := hW.out.state2 ht.out (by omega) (g0.out.trans hV.out (by simp)) z1 ⟨own_base z2.row hle, fun o ho => own_base (z2.slots o ho) hle⟩ E1.out.2 E2.out.2 (fun g h1 h2 => by have := (R1.out.ge g h1).2; have := (R2.out.ge g h2).1; omega) n1 n2 (fun o ho => by have := s1 o ho; omega) (fun o ho => by have := s2 o ho; omega) (sx : Int) (sy : Int) (sw : Int) (ux : Int) (uy : Int) (uw : Int)
    rw [hxb.out] at hm
    refine hm.mono ?_
    rintro e V3 ⟨h1, h0, h2⟩
    have zb := (HB1.out V hV).2
    have lb := lo1.out
    have eb := HBB.out
    exact ⟨_, h1, rfl, (h0 b2 (by omega) (fun hm => by have := (R1.out.ge b2 hm).2; omega) (lt_of_heap zb)).trans zb, h2⟩
   have HFin : Hid (∀ V, StepTo wr (2 * k) x V → Calls Tryd.prog 41 #[.pointer (some ⟨b0, 6, none⟩)] V fun e V' => e = .returned (.bool true) ∧ Fr [] w V') := fun V ⟨x', t', q1, q2, q3, q4⟩ => by
    have k3 := q3.c1
    have k4 := q3.c2
    have k5 := q3.c3
    have hri := bright_ok x'.b (x'.hd t') x'.S1 x'.S2 x'.S3 V q3.bok (by omega) (by omega) (by omega)
    rw [q2, hxb.out] at hri
    refine hri.mono ?_
    rintro e V' ⟨h1, A1, A2, A3, -, -, -, hGd⟩
    obtain ⟨f3, l3⟩ := q4.base hF.out hl.out
    refine ⟨h1, f3.trans hGd.fr fun g hg => .inr ?_⟩
    rcases List.mem_cons.1 hg with z | z
    ·rw [z, ← hxb.out, ← q2]; exact l3 _ liv0
    ·exact l3 g (liv1 z)
   have k0 : Hid (Fr [] V2 V2.drew) := Fr.drew [] V2
   clear HS0 HS1 R1 R2 E1 E2 HB1 hW hF hl lo1 HBB g0 g1 g2 q1 q2
   generalize vR (x.at t 0) = va at *
   generalize vR (x.at t 1) = vb at *
   go_region_held3 (fun V => (V.cell? ⟨b1, 0, none⟩ = some (.int .i64 (sx : Int)) ∧ V.cell? ⟨b1, 1, none⟩ = some (.int .i64 (sy : Int)) ∧ V.cell? ⟨b1, 2, none⟩ = some (.int .i64 (sw : Int)) ∧ V.cell? ⟨b1, 3, none⟩ = some (.slice pp1 pn1 pc1)) ∧ (V.cell? ⟨b2, 0, none⟩ = some (.int .i64 (ux : Int)) ∧ V.cell? ⟨b2, 1, none⟩ = some (.int .i64 (uy : Int)) ∧ V.cell? ⟨b2, 2, none⟩ = some (.int .i64 (uw : Int)) ∧ V.cell? ⟨b2, 3, none⟩ = some (.slice pp2 pn2 pc2)) ∧ V.cell? ⟨b0, 2, none⟩ = some va ∧ V.cell? ⟨b0, 3, none⟩ = some vb)
    (first
     | exact HCl.out _ k6
     | exact HCl.out _ k5
     | exact HCl.out _ k4
     | exact HCl.out _ k3
     | exact HCl.out _ k0)
    (first
     | (go_at_call 24; refine (H24b.out _ k4).mono ?_; rintro e w5 ⟨ov5, l5, rfl, r5, k5⟩)
     | (go_at_call 22; refine (HM2.out _ _ _ _ r5 k5).mono ?_; rintro e w6 ⟨rfl, k6⟩)
     | (go_at_call 24; refine (H24a.out _ k0).mono ?_; rintro e w3 ⟨ov3, l3, rfl, r3, k3⟩)
     | (go_at_call 22; refine (HM1.out _ _ _ _ r3 k3).mono ?_; rintro e w4 ⟨rfl, k4⟩))
   all_goals go_wp2_with fail
   have k7 : Hid (Fr [] V2 w6.drew) := hid_drew k6
   obtain ⟨⟨x0, x1, x2, x3⟩, -, -, -⟩ := HCl.out w6.drew k7
   have HC7 := mkHid (HZZ.out w6.drew k7)
   clear HM1 HM2 HZZ H24a H24b HCl
   go_region_law (refine step_call rfl 43 Tryd.f43 Tryd.func43 (by kernel_rfl) (by kernel_rfl) _ _ rfl _ (by simp [Act.eval, Act.put]) _ HC7.out ?_; rintro _ w7 ⟨rfl, h7⟩)
   all_goals go_wp2_with fail
   all_goals
    have y0 : w7.drew.cell? ⟨b2, 0, none⟩ = some (.int .i64 (ux : Int)) := by rw [cell_in (w := w7.drew) h7.out.1]; rfl
    have y1 : w7.drew.cell? ⟨b2, 1, none⟩ = some (.int .i64 (uy : Int)) := by rw [cell_in (w := w7.drew) h7.out.1]; rfl
    have y2 : w7.drew.cell? ⟨b2, 2, none⟩ = some (.int .i64 (uw : Int)) := by rw [cell_in (w := w7.drew) h7.out.1]; rfl
    have y3 : w7.drew.cell? ⟨b2, 3, none⟩ = some (.slice pp2 pn2 pc2) := by rw [cell_in (w := w7.drew) h7.out.1]; rfl
    have HC8 : Hid (Calls Tryd.prog 43 #[.pointer (some ⟨b0, 6, none⟩), .agg #[.int .i64 (ux : Int), .int .i64 (uy : Int), .int .i64 (uw : Int), .slice pp2 pn2 pc2]] w7.drew fun e V3 => ∃ v, e = .returned v ∧ (v = .tuple #[] ∧ Hid (StepTo wr (2 * k) x V3))) := (h7.out.2 w7.drew (Fr.drew [] w7)).mono fun e V3 ⟨h1, h2⟩ => ⟨_, h1, rfl, h2⟩
    clear h7 HC7
    go_region_law (refine step_call rfl 43 Tryd.f43 Tryd.func43 (by kernel_rfl) (by kernel_rfl) _ _ rfl _ (by simp [Act.eval, Act.put]) _ HC8.out ?_; rintro _ w8 ⟨rfl, h8⟩)
    all_goals go_wp2_with fail
    all_goals
     refine (HFin.out w8 h8.out).mono ?_
     rintro e w9 ⟨rfl, f9⟩
     have HZ := mkHid f9
     clear f9
     go_wp2_with fail
     go_ret
     exact ⟨rfl, HZ.out⟩
end Go.Proofs.YtklfnjlenbgmoaaDoor
namespace Go.Proofs.YtklfnjlenbgmoaaDoor
open Go.ChangeShapes Go.WideShapes
theorem int_table {H : Type} {enc : TypeId × Value → H} {P : Program} {w : World} {base : Nat} {spare : Nat → Bool} {held : Bool} {fuel n : Nat} {t e : TypeId} {k : IntKind} {cs : List Value} {vals : List Int} {p : List MemPlace}
  (ht : P.underlying t = some (.array n e)) (he : P.underlying e = some (.int k)) (ce : P.cellsOf e = 1)
  (hd : DataW.trod enc P w base spare held fuel t cs = some (.agg (vals.map fun v => .lit (.int k v)), p)) (i : Nat) (hi : i < vals.length) :
  cs[i]? = some (.int k (vals.getD i 0)) := by
 obtain ⟨xs, m, _, hx, _, hn, hel⟩ := DataW.trod_array ht hd
 simp only [Prod.mk.injEq, DataW.agg.injEq] at hx
 have hlen : xs.length = vals.length := by
  have := congrArg List.length hx.1
  simpa using this.symm
 have h := hel i (by omega)
 rw [ce, Nat.mul_one] at h
 obtain ⟨x, hxi⟩ : ∃ x, xs[i]? = some x := ⟨xs[i]'(by omega), by rw [List.getElem?_eq_getElem (by omega)]⟩
 rw [hxi] at h
 obtain ⟨v, e1, e2, _⟩ := DataW.trod_int he h
 have hv : vals[i]? = some v := by
  have h3 := congrArg (fun l => l[i]?) hx.1
  simp only [List.getElem?_map, hxi, e2] at h3
  cases hvi : vals[i]? with
  | none => rw [hvi] at h3; simp at h3
  | some y => rw [hvi] at h3; simp at h3; rw [h3]
 have h4 : cs[i]? = some (.int k v) := by
  have h5 := congrArg (fun l => l[0]?) e1
  simpa [List.getElem?_take, List.getElem?_drop] using h5
 rw [h4, List.getD_eq_getElem?_getD, hv]
 rfl
end Go.Proofs.YtklfnjlenbgmoaaDoor
