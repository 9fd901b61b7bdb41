import Derived.Test.YtflgicdbbogllaaGreatDoorPYKps
import Derived.Test.YtflgicdbbogllaaGreatDoorPYBl5
import Derived.Test.YtflgicdbbogllaaGreatDoorPYSt2
import Derived.Test.YtflgicdbbogllaaGreatDoorRows
import Derived.OpenShut
import Derived.LaidMore
import Derived.SizedLaws
import Derived.Deep.Slices
import Derived.ChangeSlices
import Derived.FnData
set_option maxHeartbeats 8000000
set_option maxRecDepth 20000
set_option linter.unusedSimpArgs false
set_option linter.unusedVariables false
namespace Go.Proofs.YtflgicdbbogllaaGreatDoor
open Go.RowKit Go.Maps _root_.Go.Proofs.Tryz
open Value (int)
open IntKind (i64)
attribute [local go_sem ↓] wp_at_zero wp_at_succ
theorem kPf (O A B X : Int) (n t : Nat) (x : Wl) (w : World) (h : WOk w n t x) (ht : t ≤ 1) (hn : n ≤ 10000000) (ss : List Int) (pl : Option Addr) (cl : Nat) (hrd : Rd w (.slice pl ss.length cl) ss) (hol : 0 < ss.length → ∀ g, (Value.slice pl ss.length cl).ownBlock = some g → ¬ Liv x g) (hll : ss.length ≤ 1048576) :
  Calls prog 7 #[.pointer (some ⟨x.b, 0, none⟩), stpV 6 O A B X (.slice pl ss.length cl)] w fun e w' => e = .returned (.bool true) ∧ kAP w n x w' := by
 obtain ⟨r, s, a, e1, e2, e3, ha, e4, e5⟩ := kFa O;obtain ⟨y, hyb, hy, hgo⟩ := kGT h ht a ha;obtain ⟨HF0, HY, HBl, HLt, c0, c1, a1, a2, -⟩ := kED 6 (.slice pl ss.length cl) O A B X hy ha;have HSt : Hid (∀ w', kAP w n y w' → kAP w n x w') := fun w' ⟨x', t', q1, q2, q3, q4⟩ => ⟨x', t', q1, q2.trans hyb, q3, hgo.trans q4⟩
 rw [← hyb];have HRd : Hid (Rd (w.alloc (.cells #[int i64 6, int i64 O, int i64 A, int i64 B, int i64 X, .slice pl ss.length cl] 43)) (.slice pl ss.length cl) ss) := hrd.fK HF0.out
 have HOl : Hid (0 < ss.length → ∀ g, (Value.slice pl ss.length cl).ownBlock = some g → g ∉ sdF y.dA) := fun h0 g hg hm => by
  rcases hgo.liv g (liv4 hm) with q | q
  ·exact hol h0 g hg q
  ·have := hrd.lt h0 g hg; omega
 obtain ⟨ra, sa, aa, f1, f2, f3, fa, f4, f5⟩ := kFa A;clear h hy hgo hyb hrd hol f2 f3 fa f5;unfold stpV;go_enter func7, ntmps7
 go_wp2_with fail
 generalize w.alloc (.cells #[int i64 6, int i64 O, int i64 A, int i64 B, int i64 X, .slice pl ss.length cl] 43) = W0 at *;obtain ⟨s0, hs0⟩ := jex (w.heap.size);rw [← hs0] at HBl HLt;rw [← hs0];clear hs0;have HK := kAA (kNP W0 n y.dA ss pl cl (ra != 0) HY.out.okA HY.out.tb HRd.out HOl.out hll);have HZ : Hid (∀ V, (∃ D', kBm W0 V (n + 8) y.dA D') → kAP w n x V) := fun V ⟨D', hp⟩ => HSt.out V ⟨{ y with dA := D' }, a, ha, rfl, HY.out.pair (by omega) hp, (Go1.fK y HF0.out).trans (kBV hp)⟩
 clear HY HBl HLt HF0 HSt c0 c1;generalize vO y.dA = vo at *;generalize vR y.dA = vr at *;refine HK.out.mono ?_;rintro e w1 ⟨rfl, hp⟩;have HP := kAA hp;clear hp HK
 go_wp2_with fail
 go_ret
 exact ⟨rfl, HZ.out _ HP.out⟩
theorem kPc (O A B X : Int) (ls : Value) (n t : Nat) (x : Wl) (w : World) (h : WOk w n t x) (ht : t ≤ 1) (hn : n ≤ 10000000) :
  Calls prog 7 #[.pointer (some ⟨x.b, 0, none⟩), stpV 2 O A B X ls] w fun e w' => e = .returned (.bool true) ∧ kAP w n x w' := by
 obtain ⟨r, s, a, y, e1, e2, e3, ha, e4, e5, hyb, HSt, HF0, HY, HBl, HLt, c0, c1, a1, a2⟩ := kCo 2 ls O A B X h ht;rw [← hyb];clear h hyb;unfold stpV;go_enter func7, ntmps7
 go_wp2_with fail
 generalize w.alloc (.cells #[int i64 2, int i64 O, int i64 A, int i64 B, int i64 X, ls] 43) = W0 at *;obtain ⟨s0, hs0⟩ := jex (w.heap.size);rw [← hs0] at HBl HLt;rw [← hs0];clear hs0;have HB0 : Hid (s0 < W0.heap.size) := kAB (HBl.out W0 [] (Fr.refl _ _) (by simp));obtain ⟨z1, z2, Q, hz, hBo⟩ := kIZ W0 n y.dA 8 A 0 HY.out.okA HY.out.tb (by omega);have HBo := kAA hBo
 have HCl : Hid (∀ V k, Hid (Q k V) → V.cell? ⟨s0, 2, none⟩ = some (int i64 A) ∧ V.cell? ⟨s0, 3, none⟩ = some (int i64 B)) := fun V k hq => by
  have hb := HBl.out V _ (HBo.out.frm hq.out) fun g hg => HLt.out g (liv4 hg)
  exact ⟨by rw [kAC hb]; rfl, by rw [kAC hb]; rfl⟩
 have HP : Hid (∀ V, Hid (Q 0 V) → Calls prog 13 #[vO y.dA, int i64 8, int i64 A, int i64 0] V fun e w'' => e = .returned (.tuple #[int i64 z1, int i64 z2]) ∧ Hid (Q 1 w'')) := fun V hq => HBo.out.prog hq.out
 have HR : Hid (∀ V, Hid (Q 1 V) → Calls prog 14 #[vR y.dA, int i64 8, int i64 A, int i64 0] V fun e w'' => e = .returned (.tuple #[int i64 z1, int i64 z2]) ∧ Hid (Q 2 w'')) := fun V hq => HBo.out.docu hq.out
 have q0 : Hid (Q 0 W0) := HBo.out.start;obtain ⟨vo, hvo⟩ := jex (vO y.dA);obtain ⟨vr, hvr⟩ := jex (vR y.dA);rw [← hvo] at HP ⊢;rw [← hvr] at HR ⊢;have HVo := kAA hvo;have HVr := kAA hvr;clear hBo c0 c1 hvo hvr;refine (HP.out _ q0).mono ?_;rintro e w1 ⟨rfl, q1⟩;obtain ⟨y2, y3⟩ := HCl.out _ _ q1
 go_wp2_with (first | (go_at_call 14; refine (HR.out _ q1).mono ?_; rintro e w2 ⟨rfl, q2⟩) | (go_at_call 6; refine (kAm _ _ (by omega) (by omega)).mono ?_; rintro e w' ⟨rfl, hw'⟩; rw [hw']; clear hw' w'))
 obtain ⟨D', hp⟩ := HBo.out.done q2.out;have hb2 := HBl.out w2 _ (HBo.out.frm q2.out) fun g hg => HLt.out g (liv4 hg)
 have HY2 := kAA (HY.out.pair (n' := n + 4) (by omega) hp);have hg1 : Go1 w w2 y { y with dA := D' } := (Go1.fK y HF0.out).trans (kBV hp)
 have hlt2 : ∀ g ∈ sdF D', g ≠ s0 := fun g hg e => by
  rcases hp.foot g hg with q | q
  ·have := HLt.out g (liv4 q); omega
  ·have := HB0.out; omega
 by_cases hz2 : z2 = 0
 ·subst hz2;obtain ⟨z, Q2, hz', hB2⟩ := kFQ w2 (n + 4) D' B z1 HY2.out.okA HY2.out.tb;rw [hp.pO, hp.pR, ← HVo.out, ← HVr.out] at hB2;have HB2 := kAA hB2
  have HC2 : Hid (∀ V k, Hid (Q2 k V) → V.cell? ⟨s0, 3, none⟩ = some (int i64 B)) := fun V k hq => by
   have := (HB2.out.frm hq.out).block s0 (kAB hb2) (fun hm => hlt2 s0 hm rfl);rw [kAC (this.trans hb2)]; rfl
  have HP2 : Hid (∀ V, Hid (Q2 0 V) → Calls prog 15 #[vo, int i64 B, int i64 z1] V fun e w'' => e = .returned (int i64 z) ∧ Hid (Q2 1 w'')) := fun V hq => HB2.out.prog hq.out
  have HR2 : Hid (∀ V, Hid (Q2 1 V) → Calls prog 16 #[vr, int i64 B, int i64 z1] V fun e w'' => e = .returned (int i64 z) ∧ Hid (Q2 2 w'')) := fun V hq => HB2.out.docu hq.out
  have HZ : Hid (∀ V, Hid (Q2 2 V) → kAP w n x V) := fun V hq => by
   obtain ⟨D2, hp2⟩ := HB2.out.done hq.out;exact HSt.out V ⟨{ y with dA := D2 }, a, ha, rfl, HY2.out.pair (n' := n + 4 + 4) (by omega) hp2, hg1.trans (kBV (x := { y with dA := D' }) hp2)⟩
  have q3 : Hid (Q2 0 w2.drew) := HB2.out.fK HB2.out.start (Fr.drew [] w2);clear hB2 HB2 HY2 HY HBl HLt HF0 HSt hp hb2 hg1 hlt2 HBo HCl HP HR q0 q1 q2 y2 y3
  go_region_held3 (fun V => V.cell? ⟨s0, 3, none⟩ = some (int i64 B))
   (first | exact HC2.out _ _ q5 | exact HC2.out _ _ q4 | exact HC2.out _ _ q3)
   (first | (go_at_call 15; refine (HP2.out _ q3).mono ?_; rintro e w4 ⟨rfl, q4⟩) | (go_at_call 6; refine (kAm _ _ (by omega) (by omega)).mono ?_; rintro e w' ⟨rfl, hw'⟩; rw [hw']; clear hw' w') | (go_at_call 16; refine (HR2.out _ q4).mono ?_; rintro e w5 ⟨rfl, q5⟩))
  all_goals go_wp2_with fail
  all_goals
   go_ret
   exact ⟨rfl, HZ.out _ q5⟩
 ·have hb : (z2 != 0) = true := by simpa using hz2
  have HZ : Hid (∀ m, kAP w n x (w2.drewN m)) := fun m => HSt.out _ ⟨{ y with dA := D' }, a, ha, rfl, (HY2.out.fK (Fr.drewN [] _ _)).more (by omega), hg1.trans (Go1.fK _ (Fr.drewN [] _ _))⟩
  clear HY2 HY HBl HLt HF0 HSt hp hb2 hg1 hlt2 HBo HCl HP HR q0 q1 q2 y2 y3 hz2
  go_quiet (fail)
  all_goals go_wp2_with fail
  all_goals
   go_ret
   exact ⟨rfl, HZ.out _⟩
theorem bl_any (K O A B X : Int) (pl : Option Addr) (ln cl : Nat) (n a : Nat) (y : Wl) (w : World) (h : WOk w n a y) (ha : a ≤ 1) (hn : n ≤ 10000000) :
  Calls prog 32 #[.pointer (some ⟨y.b, 0, none⟩), stpV K O A B X (.slice pl ln cl), int i64 a] w fun e w' => e = .returned (.bool true) ∧ kAP w n y w' := by
 by_cases k12 : K = 12
 ·subst k12; exact kPa O A B X _ n a y w h ha hn
 by_cases k13 : K = 13
 ·subst k13; exact bl_put O A B X _ n a y w h ha hn
 by_cases k14 : K = 14
 ·subst k14; exact kQN O A B X _ n a y w h ha hn
 by_cases k15 : K = 15
 ·subst k15; exact kPA O A B X _ n a y w h ha hn
 by_cases k16 : K = 16
 ·subst k16; exact kOw O A B X _ n a y w h ha hn
 by_cases k17 : K = 17
 ·subst k17; exact kPt O A B X _ n a y w h ha hn
 by_cases k18 : K = 18
 ·subst k18; exact bl_nil O A B X pl ln cl n a y w h ha hn
 exact kQR K O A B X _ n a y w h ha hn k12 k13 k14 k15 k16 k17 k18
theorem kMx (K O A B X : Int) (pl : Option Addr) (ln cl : Nat) (n t : Nat) (x : Wl) (w : World) (h : WOk w n t x) (ht : t ≤ 1) (hn : n ≤ 10000000) (k1 : K ≠ 1) (k2 : K ≠ 2) (k3 : K ≠ 3) (k4 : K ≠ 4) (k5 : K ≠ 5) (k6 : K ≠ 6) (k7 : K ≠ 7) (k8 : K ≠ 8) (k9 : K ≠ 9) (k10 : K ≠ 10) (k11 : K ≠ 11) :
  Calls prog 7 #[.pointer (some ⟨x.b, 0, none⟩), stpV K O A B X (.slice pl ln cl)] w fun e w' => e = .returned (.bool true) ∧ kAP w n x w' := by
 obtain ⟨r, s, a, e1, e2, e3, ha, e4, e5⟩ := kFa O;obtain ⟨y, hyb, hy, hgo⟩ := kGT h ht a ha;have HSt : Hid (∀ w', kAP w n y w' → kAP w n x w') := fun w' ⟨x', t', q1, q2, q3, q4⟩ => ⟨x', t', q1, q2.trans hyb, q3, hgo.trans q4⟩
 rw [← hyb];obtain ⟨W0, hW0⟩ := jxe (w.alloc (.cells #[int i64 K, int i64 O, int i64 A, int i64 B, int i64 X, .slice pl ln cl] 43));obtain ⟨s0, hs0⟩ := jxe (w.heap.size);have F0 : Fr [] w W0 := by rw [← hW0]; exact Fr.alloc [] _ _
 have hbs : W0.heap[s0]? = some (.cells #[int i64 K, int i64 O, int i64 A, int i64 B, int i64 X, .slice pl ln cl] 43 (0, 0)) := by rw [← hW0, ← hs0]; exact heap_alloc_new w _
 have HY : WOk W0 n a y := hy.fK F0;have HB := kAA (bl_any K O A B X pl ln cl n a y W0 HY ha hn);obtain ⟨c0, c1⟩ := kDZ HY ha a ha;obtain ⟨vo, hvo⟩ := jxe (vO (y.at a a));obtain ⟨vr, hvr⟩ := jxe (vR (y.at a a));rw [hvo] at c0;rw [hvr] at c1;have d0 : W0.cell? ⟨s0, 0, none⟩ = some (int i64 K) := by rw [kAC hbs]; rfl
 have d1 : W0.cell? ⟨s0, 1, none⟩ = some (int i64 O) := by rw [kAC hbs]; rfl
 have d2 : W0.cell? ⟨s0, 2, none⟩ = some (int i64 A) := by rw [kAC hbs]; rfl
 have d3 : W0.cell? ⟨s0, 3, none⟩ = some (int i64 B) := by rw [kAC hbs]; rfl
 have d4 : W0.cell? ⟨s0, 4, none⟩ = some (int i64 X) := by rw [kAC hbs]; rfl
 have d5 : W0.cell? ⟨s0, 5, none⟩ = some (.slice pl ln cl) := by rw [kAC hbs]; rfl
 have a1 := ng a;have a2 : (a : Int) < 2 := by omega
 have HZ : Hid (∀ V, kAP W0 n y V → kAP w n x V) := fun V ⟨x', t', q1, q2, q3, q4⟩ => HSt.out V ⟨x', t', q1, q2, q3, (Go1.fK y F0).trans q4⟩
 clear h hy hgo hyb F0 hbs HY HSt hvo hvr;unfold stpV at HB ⊢;have g1 : (K == 1) = false := by simpa using k1
 have g2 : (K == 2) = false := by simpa using k2
 have g3 : (K == 3) = false := by simpa using k3
 have g4 : (K == 4) = false := by simpa using k4
 have g5 : (K == 5) = false := by simpa using k5
 have g6 : (K == 6) = false := by simpa using k6
 have g7 : (K == 7) = false := by simpa using k7
 have g8 : (K == 8) = false := by simpa using k8
 have g9 : (K == 9) = false := by simpa using k9
 have g10 : (K == 10) = false := by simpa using k10
 have g11 : (K == 11) = false := by simpa using k11
 clear k1 k2 k3 k4 k5 k6 k7 k8 k9 k10 k11;go_enter func7, ntmps7
 go_wp2_with fail
 refine HB.out.mono ?_;rintro e w' ⟨rfl, h2⟩;have HE := kAA (HZ.out _ h2);clear h2
 go_wp2_with fail
 go_ret
 exact ⟨rfl, HE.out⟩
theorem kOG (K O A B X : Int) (ss : List Int) (pl : Option Addr) (cl : Nat) (n t : Nat) (x : Wl) (w : World) (h : WOk w n t x) (ht : t ≤ 1) (hn : n ≤ 10000000) (hrd : Rd w (.slice pl ss.length cl) ss) (hol : 0 < ss.length → ∀ g, (Value.slice pl ss.length cl).ownBlock = some g → ¬ Liv x g) (hll : ss.length ≤ 1048576) :
  Calls prog 7 #[.pointer (some ⟨x.b, 0, none⟩), stpV K O A B X (.slice pl ss.length cl)] w fun e w' => e = .returned (.bool true) ∧ kAP w n x w' := by
 by_cases k1 : K = 1
 ·subst k1; exact kMO O A B X _ n t x w h ht hn
 by_cases k2 : K = 2
 ·subst k2; exact kPc O A B X _ n t x w h ht hn
 by_cases k3 : K = 3
 ·subst k3; exact kNj O A B X _ n t x w h ht hn
 by_cases k4 : K = 4
 ·subst k4; exact kQI O A B X _ n t x w h ht hn
 by_cases k5 : K = 5
 ·subst k5; exact kJY O A B X _ n t x w h ht hn
 by_cases k6 : K = 6
 ·subst k6; exact kPf O A B X n t x w h ht hn ss pl cl hrd hol hll
 by_cases k7 : K = 7
 ·subst k7; exact kPh O A B X _ n t x w h ht hn
 by_cases k8 : K = 8
 ·subst k8; exact kJI O A B X _ n t x w h ht hn
 by_cases k9 : K = 9
 ·subst k9; exact kNd O A B X _ n t x w h ht hn
 by_cases k10 : K = 10
 ·subst k10; exact kNs O A B X _ n t x w h ht hn
 by_cases k11 : K = 11
 ·subst k11; exact kLo O A B X _ n t x w h ht hn
 exact kMx K O A B X pl _ cl n t x w h ht hn k1 k2 k3 k4 k5 k6 k7 k8 k9 k10 k11
theorem kLl (fH fM other : Int) (so : Option Addr) (b off sz c : Nat) (w : World) (hso : 0 < sz → so = some ⟨b, off, none⟩) (hT : Tbs w) (hb : 0 < sz → b < w.heap.size) (hsz : sz ≤ 1048576) (hst : ∀ i, i < sz → kJj w b off i 1048576) :
  Calls prog 3 #[int i64 fH, int i64 fM, int i64 other, .slice so sz c] w fun e w' => e = .returned (.bool true) ∧ Fr [] w w' := by
 have HT := kAA hT;have HST := kAA hst;have HSB := kAA hb;have HSO := kAA hso;obtain ⟨j24, hj24⟩ := jAv.1 kOn;obtain ⟨j42, hj42⟩ := jAv.1 kPH;have HE24 : Hid (∀ V p, (binOp .eql 23 (.pointer p) (.pointer none)).run prog V = .ok (.bool p.isNone) V) := fun V p => kLs V p underlying23 hj24
 have HE42 : Hid (∀ V p, (binOp .eql 27 (.pointer p) (.pointer none)).run prog V = .ok (.bool p.isNone) V) := fun V p => kLs V p underlying27 hj42
 clear hT hst hb hso hj24 hj42;go_enter func3, ntmps3
 go_wp2_with fail
 refine (kIX fH fM w).mono ?_;rintro e w1 h1;obtain ⟨p1, e1, rfl⟩ := kOU h1;have N1 := kAA h1;clear h1
 go_wp2_with fail
 refine (kIX other fM w1).mono ?_;rintro e w2 h2;obtain ⟨p2, e2, rfl⟩ := kOU h2;have N2 := kAA h2;clear h2
 go_wp2_with fail
 refine (kIn fH fM w2).mono ?_;rintro e w3 h3;obtain ⟨r1, e3, rfl⟩ := kOX h3;have N3 := kAA h3;clear h3
 go_wp2_with fail
 refine (kIn other fM w3).mono ?_;rintro e w4 h4;obtain ⟨r2, e4, rfl⟩ := kOX h4;have N4 := kAA h4;clear h4;have hs2 : 2 ≤ w.heap.size := by have := HT.out.s; omega
 obtain ⟨p, r, cc, dA, y1, i1, i2, z2, vA, uA, oA, gA⟩ := kIi N1.out N2.out.1 N3.out hs2;obtain ⟨p', r', cc', dB, y2, i3, i4, z4, vB, uB, oB, gB⟩ := kIi N2.out N3.out.1 N4.out (by have := N1.out.1.size; omega)
 have tup : ∀ {p q : Option Addr} {c k : Int}, Ending.returned (.tuple #[.pointer p, int i64 c]) = Ending.returned (.tuple #[.pointer q, int i64 k]) → q = p ∧ k = c := fun h => by
  injection h with h
  injection h with h
  simp at h
  exact ⟨h.1.symm, h.2.symm⟩
 obtain ⟨u1, u2⟩ := tup i1;obtain ⟨u3, u4⟩ := tup i2;obtain ⟨u5, u6⟩ := tup i3;obtain ⟨u7, u8⟩ := tup i4;clear i1 i2 i3 i4 tup;subst u1;subst u3;subst u5;subst u7;rw [u2] at u4 y1;rw [u6] at u8 y2;subst u4;subst u8;clear u2 u6;have q24a := HE24.out w4 p;have q24b := HE24.out w4 p';have q42a := HE42.out w4 r;have q42b := HE42.out w4 r';rw [z2] at q24a;rw [z4] at q24b;obtain ⟨b0, hb0⟩ := jxe (w4.heap.size);obtain ⟨X0, hX0⟩ := jxe (w4.alloc (.cells #[.pointer none, .pointer none, .pointer none, .pointer none, .slice none 0 0, .slice none 0 0, .slice none 0 0] 39));have hbx : X0.heap[b0]? = some (.cells #[.pointer none, .pointer none, .pointer none, .pointer none, .slice none 0 0, .slice none 0 0, .slice none 0 0] 39 (0, 0)) := by rw [← hX0, ← hb0]; exact heap_alloc_new _ _
 have fX0 : Fr [] w4 X0 := by rw [← hX0]; exact Fr.alloc [] _ _
 obtain ⟨V0, hV0⟩ := jxe ((((X0.setCell ⟨b0, 0, none⟩ (.pointer p)).setCell ⟨b0, 1, none⟩ (.pointer p')).setCell ⟨b0, 2, none⟩ (.pointer r)).setCell ⟨b0, 3, none⟩ (.pointer r'))
 have hbv : V0.heap[b0]? = some (.cells #[.pointer p, .pointer p', .pointer r, .pointer r', .slice none 0 0, .slice none 0 0, .slice none 0 0] 39 (0, 0)) := by
  rw [← hV0, kAI (kAI (kAI (kAI hbx 0 _) 1 _) 2 _) 3 _];rfl
 have fV0 : Fr [] w4 V0 := by
  have hh : Fr [b0] X0 V0 := by
   rw [← hV0];exact (((Fr.setCell (S := [b0]) X0 ⟨b0, 0, none⟩ (.pointer p) (by simp)).trans (Fr.setCell (S := [b0]) _ ⟨b0, 1, none⟩ (.pointer p') (by simp)) (fun b hb => .inl hb)).trans (Fr.setCell (S := [b0]) _ ⟨b0, 2, none⟩ (.pointer r) (by simp)) (fun b hb => .inl hb)).trans (Fr.setCell (S := [b0]) _ ⟨b0, 3, none⟩ (.pointer r') (by simp)) (fun b hb => .inl hb)
  exact fX0.trans hh fun b hb => .inr (by have := jAp.1 hb; omega)
 have HF5 : Hid (Fr [] w V0) := (((N1.out.1.trans N2.out.1 (by simp)).trans N3.out.1 (by simp)).trans N4.out.1 (by simp)).trans fV0 (by simp)
 have hx : ∃ x : Wl, Hid (x.b = b0) ∧ Hid (WOk V0 0 0 x) ∧ Hid (∀ g, Liv x g → w.heap.size ≤ g) := by
  rw [← vA, ← vB, ← uA, ← uB, ← hb0] at hbv;obtain ⟨q1, q2⟩ := WOk.fresh HT.out N1.out.1 N2.out.1 N3.out.1 N4.out.1 oA oB gA gB fV0 hbv;exact ⟨_, kAA hb0, q1, q2⟩
 obtain ⟨x0, hxb0, hx0, hxl0⟩ := hx;have s0 : X0.cell? ⟨b0, 0, none⟩ = some (.pointer none) := by rw [kAC hbx]; rfl
 have s1 : X0.cell? ⟨b0, 1, none⟩ = some (.pointer none) := by rw [kAC hbx]; rfl
 have s2 : X0.cell? ⟨b0, 2, none⟩ = some (.pointer none) := by rw [kAC hbx]; rfl
 have s3 : X0.cell? ⟨b0, 3, none⟩ = some (.pointer none) := by rw [kAC hbx]; rfl
 have z0' := kAD hbx 0;have z1' := kAD hbx 1;have z2' := kAD hbx 2;have z3' := kAD hbx 3;have hbl := kAB hbx;clear N1 N2 N3 N4 z2 z4 vA uA oA gA vB uB oB gB HE24 HE42 HT hbx hbv fX0 fV0;generalize r.isNone = t1 at *;generalize r'.isNone = t2 at *
 go_wp2_with (go_at_call 6; refine (kAm _ _ (by omega) (by omega)).mono ?_; rintro e w' ⟨rfl, hw'⟩; rw [hw']; clear hw' w')
 clear q24a q24b q42a q42b s0 s1 s2 s3 z0' z1' z2' z3' hbl hX0 hV0 hb0
 go_loopw [18] (fun q wr => ∃ (k : Nat) (x : Wl) (t : Nat), k ≤ sz ∧ q = int i64 k ∧ Hid (t ≤ 1) ∧ Hid (x.b = b0) ∧ Hid (WOk wr (8 * k) t x) ∧ Hid (Fr [] w wr) ∧ Hid (∀ g, Liv x g → w.heap.size ≤ g)) (fun q _ => sz - (intOf q).toNat)
 case atStart => exact ⟨0, x0, 0, jAH _, rfl, kAA (by omega), hxb0, hx0, HF5, hxl0⟩
 case round =>
  obtain ⟨k, x, t, hk, rfl, ht, hxb, hW, hF, hl⟩ := hrel;have k1 := ng k;clear hxb0 hx0 HF5 hxl0
  by_cases hlt : k < sz
  ·have k2 : (k : Int) < sz := by omega
   obtain ⟨K, O, A, B, X, ao, lc, zs, m0, m1, m2, m3, m4, m5, hls, hzl⟩ := HST.out k hlt;have bl : b < w.heap.size := HSB.out (by omega);have hso := HSO.out (by omega);subst hso;have c0 := (hF.out.cell (p := ⟨b, off + k * 6, none⟩) bl (by simp)).trans m0;have c1 := (hF.out.cell (p := ⟨b, off + k * 6 + 1, none⟩) bl (by simp)).trans m1;have c2 := (hF.out.cell (p := ⟨b, off + k * 6 + 2, none⟩) bl (by simp)).trans m2;have c3 := (hF.out.cell (p := ⟨b, off + k * 6 + 3, none⟩) bl (by simp)).trans m3;have c4 := (hF.out.cell (p := ⟨b, off + k * 6 + 4, none⟩) bl (by simp)).trans m4;have c5 := (hF.out.cell (p := ⟨b, off + k * 6 + 5, none⟩) bl (by simp)).trans m5;have hstp := kOG K O A B X zs ao lc (8 * k) t x wr hW.out ht.out (by omega) ((hls.rd hzl).fK hF.out) (fun h0 g hg hm => by have := hl.out g hm; have := (hls.rd hzl).lt h0 g hg; omega) hzl;rw [hxb.out] at hstp;unfold stpV at hstp;have HStp := kAA hstp;clear hstp m0 m1 m2 m3 m4 m5 hls hzl
   go_wp2_with fail
   refine HStp.out.mono ?_;rintro e w1' ⟨rfl, x1, t1', ht1, hb1, hW1, hG1⟩;obtain ⟨f1, l1⟩ := hG1.base hF.out hl.out;have hse := kKP (8 * k + 8) t1' x1 w1' hW1 ht1;rw [hb1, hxb.out] at hse;have HSe := kAA hse;have HW1 := kAA hW1;have HF1 := kAA f1;have HL1 := kAA l1;have HB1 : Hid (x1.b = b0) := kAA (hb1.trans hxb.out);have HT1 := kAA ht1;clear hse hW1 hG1 f1 l1 hb1 ht1 HStp hW hF hl hxb ht
   go_wp2_with fail
   refine HSe.out.mono ?_;rintro e w2' ⟨rfl, f2⟩;have hW2 := HW1.out.fK f2;have k3 := hW2.c1;have hri := kLg x1.b (x1.hd t1') x1.S w2' hW2.bok (by omega);rw [HB1.out] at hri;have HRi := kAA hri;have HW2 := kAA hW2;have HF2 := kAA (HF1.out.trans f2 (by simp));clear hri hW2 f2 HSe HW1 HF1 k3
   go_wp2_with fail
   refine HRi.out.mono ?_;rintro e w3' ⟨rfl, A1, -, hGd⟩;have hGd' : Gd w2' w3' x1.b (x1.hd t1') x1.S A1 := by rw [HB1.out]; exact hGd
   have hW3 := HW2.out.grown hGd'
   have hG3 : Go1 w2' w3' x1 { x1 with S := A1 } := kJx hGd'.fr (fun g hm => by
    rcases jAF.1 hm with q | q
    ·exact .inl q
    ·exact .inr (.inl q)) hGd'.all
   obtain ⟨f3, l3⟩ := hG3.base HF2.out HL1.out;have HZ : Hid (∃ (x : Wl) (t : Nat), Hid (t ≤ 1) ∧ Hid (x.b = b0) ∧ Hid (WOk w3' (8 * (k + 1)) t x) ∧ Hid (Fr [] w w3') ∧ Hid (∀ g, Liv x g → w.heap.size ≤ g)) := ⟨{ x1 with S := A1 }, t1', HT1, HB1, hW3, f3, l3⟩;clear hGd hGd' hW3 hG3 f3 l3 HRi HW2 HF2
   go_wp2_with fail
   go_roundw
   case rel =>
    obtain ⟨x', t', q1, q2, q3, q4, q5⟩ := HZ.out;exact ⟨k + 1, x', t', by omega, by go_num, q1, q2, q3, q4, q5⟩
   case measure => simp [intOf]; omega
  ·have k2 : ¬ (k : Int) < sz := by omega
   have hse := kKP (8 * k) t x wr hW.out ht.out;rw [hxb.out] at hse;have HSe := kAA hse;have HF1 := kAA hF.out;clear hse hW hl hxb ht hF
   go_wp2_with fail
   refine HSe.out.mono ?_;rintro e w2' ⟨rfl, f2⟩;have HZ := kAA (HF1.out.trans f2 (by simp));clear f2 HF1 HSe
   go_wp2_with fail
   go_ret
   exact ⟨rfl, HZ.out⟩
end Go.Proofs.YtflgicdbbogllaaGreatDoor
namespace Go.Proofs.YtflgicdbbogllaaGreatDoor
open Go.ChangeShapes Go.WideShapes Go.RowKit
variable {fuel : Nat}
theorem weightsAll_mem {H : Type} {P : Program} {e : TypeId} {d : DataW H} : ∀ {ds : List (DataW H)}, d ∈ ds → ∀ n ∈ d.weights P e, n ∈ DataW.weightsAll P e ds := by
 intro ds
 induction ds with
 | nil => intro h; simp at h
 | cons x ds ih =>
  intro h n hn;unfold DataW.weightsAll;rcases jAF.1 h with rfl | h
  ·exact jBE _ hn
  ·exact List.mem_append_right _ (ih h n hn)
theorem c43 : Tryz.prog.cellsOf 43 = 6 := by kernel_rfl
theorem c3 : Tryz.prog.cellsOf 3 = 1 := by kernel_rfl
theorem c41 : Tryz.prog.cellsOf 41 = 1 := by kernel_rfl
theorem c35 : Tryz.prog.cellsOf 35 = 1 := by kernel_rfl
theorem b41 : Tryz.prog.bytesOf 41 = 8 := by kernel_rfl
theorem bulk_pos {H : Type} : ∀ d : DataW H, 1 ≤ Rows.uptoBulk d
 | .lit l => by cases l <;> simp [Rows.uptoBulk]
 | .nil => by simp [Rows.uptoBulk]
 | .ptr d => by simp [Rows.uptoBulk]
 | .slice a b => by simp [Rows.uptoBulk]
 | .agg a => by simp [Rows.uptoBulk]
 | .iface _ d => by simp [Rows.uptoBulk]
 | .map a => by simp [Rows.uptoBulk]
 | .held _ => by simp [Rows.uptoBulk]
theorem bulk_len {H : Type} : ∀ l : List (DataW H), l.length ≤ Rows.uptoBulkAll l
 | [] => by simp [Rows.uptoBulkAll]
 | d :: l => by
  have := bulk_len l;have := bulk_pos d
  simp [Rows.uptoBulkAll]
  omega
theorem bulk_mem {H : Type} {d : DataW H} : ∀ {l : List (DataW H)}, d ∈ l → Rows.uptoBulk d ≤ Rows.uptoBulkAll l
 | [], h => by cases h
 | e :: l, h => by
  simp only [Rows.uptoBulkAll];rcases jAF.1 h with rfl | h
  ·omega
  ·have := bulk_mem h; omega
theorem bulk_lits {H : Type} (k : IntKind) : ∀ l : List Int, Rows.uptoBulkAll (lits (H := H) k l) = l.length
 | [] => by simp [lits, Rows.uptoBulkAll]
 | a :: l => by
  have := bulk_lits (H := H) k l;have e : lits (H := H) k (a :: l) = .lit (.int k a) :: lits k l := rfl;rw [e, Rows.uptoBulkAll, this]
  simp [Rows.uptoBulk]
  omega
section
variable {H : Type} {enc : TypeId × Value → H} {w : World} {spare : Nat → Bool} {held : Bool}
theorem open_lsB {u : Value} {y : DataW H × List MemPlace} (h : DataW.trod enc Tryz.prog w 0 spare held fuel 35 [u] = some y) (hz : ∀ n ∈ y.1.weights Tryz.prog 35, n ≤ reachBytes) :
  ∃ (ao : Option Addr) (c : Nat) (zs : List Int), u = .slice ao zs.length c ∧ LsAt w ao c zs ∧ zs.length ≤ Rows.uptoBulk y.1 := by
 rcases open_ints Tryz.underlying35 Tryz.underlying41 c41 h with ⟨hcs, _⟩ | ⟨a, len, cap, zs, hcs, _, hl, hm, hzl, hx, hc, _⟩
 ·simp at hcs
  exact ⟨none, 0, [], hcs, ⟨fun _ => ⟨rfl, rfl⟩, fun h => absurd rfl h, by simp⟩, jAH _⟩
 ·simp at hcs
  have hlz : len ≤ zs.length := by rw [hzl]; split <;> omega
  have htl : (zs.take len).length = len := by simp; omega
  refine ⟨some a, cap, zs.take len, by rw [htl]; exact hcs, ⟨fun h => (by cases h), fun hne => ?_, ?_⟩, by rw [hx, Rows.uptoBulk, bulk_lits]; omega⟩
  ·have hpos : 0 < len := by
    rcases Nat.eq_zero_or_pos len with h0 | h0
    ·rw [h0] at hne; simp at hne
    ·exact h0
   obtain ⟨b, off, spot⟩ := a;have hspot : spot = none := by simpa [Addr.add] using World.cell?_spot (hc 0 (by omega))
   subst hspot
   have hcell : ∀ j, j < len → w.cell? ⟨b, off + j, none⟩ = some (.int .i64 (zs.getD j 0)) := fun j hj => by
    have := hc j (by omega)
    rwa [Addr.add_mid] at this
   refine ⟨b, off, rfl, jAf w ⟨b, off + 0, none⟩ (hcell 0 hpos), fun j hj => ?_⟩;rw [htl] at hj;rw [hcell j hj, jAA, jAA, jAx, jp hj]
  ·rw [htl];have hw := hz (((lits (H := H) .i64 (zs.take len)).length + (lits (H := H) .i64 (zs.drop len)).length) * Tryz.prog.bytesOf 41) (by rw [hx]; simp [DataW.weights, Tryz.underlying35]);have e1 : (lits (H := H) .i64 (zs.take len)).length = len := by simp [lits]; omega
   rw [e1, b41] at hw;have : reachBytes < 2 ^ 47 := reachBytes_lt;omega
theorem open_stepsB {cs : List Value} {x : DataW H × List MemPlace} (h : DataW.trod enc Tryz.prog w 0 spare held fuel 22 cs = some x) (hz : ∀ n ∈ x.1.weights Tryz.prog 22, n ≤ reachBytes) :
  ∃ (ao : Option Addr) (sz c b off : Nat), cs = [.slice ao sz c] ∧ (0 < sz → ao = some ⟨b, off, none⟩ ∧ b < w.heap.size) ∧ sz ≤ Rows.uptoBulk x.1 ∧ ∀ i, i < sz → kJj w b off i (Rows.uptoBulk x.1) := by
 rcases Go.Deep.open_slice Tryz.underlying22 h with ⟨rfl, rfl⟩ | ⟨a, len, cap, m, n, D, Pl, rfl, _, hl, hm, hmm, rfl, hx⟩
 ·exact ⟨none, 0, 0, 0, 0, rfl, fun h => by omega, jAH _, fun i hi => by omega⟩
 ·by_cases h0 : len = 0
  ·subst h0;exact ⟨some a, 0, cap, 0, 0, rfl, fun h => by omega, jAH _, fun i hi => by omega⟩
  ·have hlm : len ≤ m := by rw [hmm]; split <;> omega
   rw [c43] at hx;obtain ⟨b, off, spot⟩ := a
   have hspot : spot = none := by
    obtain ⟨cs', h1, h2⟩ := hx 0 (by omega);obtain ⟨_, hlen, hcell⟩ := World.cells?_some h1;have := hcell 0 (by omega);rw [Go.Deep.add_add] at this
    match cs', hlen with
    | u :: _, _ => simpa [Addr.add] using World.cell?_spot this
   subst hspot
   have hstep : ∀ i, i < len → kJj w b off i (Rows.uptoBulkAll ((List.range len).map D)) := fun i hi => by
    obtain ⟨cs', h1, h2⟩ := hx i (by omega);obtain ⟨_, hlen, hcell⟩ := World.cells?_some h1;obtain ⟨xs, k, hk, hxy, _, hxl, hf⟩ := DataW.trod_struct Tryz.underlying43 h2
    match xs, hxl, cs', hlen with
    | [y0, y1, y2, y3, y4, y5], _, [t0, t1, t2, t3, t4, t5], _ =>
     have g0 := hf 0 _ rfl;have g1 := hf 1 _ rfl;have g2 := hf 2 _ rfl;have g3 := hf 3 _ rfl;have g4 := hf 4 _ rfl;have g5 := hf 5 _ rfl
     simp [c3, c41, c35] at g0 g1 g2 g3 g4 g5
     obtain ⟨K, e0, -, -⟩ := DataW.trod_int Tryz.underlying3 g0;obtain ⟨O, e1, -, -⟩ := DataW.trod_int Tryz.underlying3 g1;obtain ⟨A, e2, -, -⟩ := DataW.trod_int Tryz.underlying3 g2;obtain ⟨B, e3, -, -⟩ := DataW.trod_int Tryz.underlying3 g3;obtain ⟨X, e4, -, -⟩ := DataW.trod_int Tryz.underlying41 g4
     simp at e0 e1 e2 e3 e4
     obtain ⟨lo, lc, zs, e5, hls, hbz⟩ := open_lsB g5 (fun n hn => by
      refine hz n ?_;have hd : D i = .agg [y0.1, y1.1, y2.1, y3.1, y4.1, y5.1] := by simpa using congrArg Prod.fst hxy
      have h3 : n ∈ (D i).weights Tryz.prog 43 := by
       rw [hd];simp only [DataW.weights, Tryz.underlying43];exact DataW.weights_mem_each (j := 5) (t := 35) (d := y5.1) rfl rfl n hn
      simp only [DataW.weights, Tryz.underlying22];refine jAr _ (jBE _ (weightsAll_mem (d := D i) ?_ n h3));exact jAZ.2 ⟨i, List.mem_range.2 hi, rfl⟩)
     have m0 := hcell 0 (by omega);have m1 := hcell 1 (by omega);have m2 := hcell 2 (by omega);have m3 := hcell 3 (by omega);have m4 := hcell 4 (by omega);have m5 := hcell 5 (by omega);rw [Addr.add_mid, Addr.add_mid] at m0 m1 m2 m3 m4 m5
     simp at m0 m1 m2 m3 m4 m5
     subst e0 e1 e2 e3 e4 e5;have hbd : Rows.uptoBulk (D i) ≤ Rows.uptoBulkAll ((List.range len).map D) := bulk_mem (jAZ.2 ⟨i, List.mem_range.2 hi, rfl⟩);have hd : D i = .agg [y0.1, y1.1, y2.1, y3.1, y4.1, y5.1] := by simpa using congrArg Prod.fst hxy
     have hy5 : Rows.uptoBulk y5.1 ≤ Rows.uptoBulk (D i) := by
      rw [hd];simp only [Rows.uptoBulk, Rows.uptoBulkAll];omega
     exact ⟨K, O, A, B, X, lo, lc, zs, m0, m1, m2, m3, m4, m5, hls, by omega⟩
   obtain ⟨K, _, _, _, _, _, _, _, m0, _⟩ := hstep 0 (by omega);exact ⟨some ⟨b, off, none⟩, len, cap, b, off, rfl, fun _ => ⟨rfl, jAf w _ m0⟩, by have := bulk_len ((List.range len).map D); simp at this; simp only [Rows.uptoBulk]; omega, fun i hi => (hstep i hi).mono (by simp only [Rows.uptoBulk]; omega)⟩
end
end Go.Proofs.YtflgicdbbogllaaGreatDoor
namespace Go.Proofs.YtflgicdbbogllaaGreatDoor
open Go.ChangeShapes Go.WideShapes
theorem int_table {H : Type} {enc : TypeId × Value → H} {P : Program} {w : World} {base : Nat} {spare : Nat → Bool} {held : Bool} {fuel n : Nat} {t e : TypeId} {k : IntKind} {cs : List Value} {vals : List Int} {p : List MemPlace}
  (ht : P.underlying t = some (.array n e)) (he : P.underlying e = some (.int k)) (ce : P.cellsOf e = 1)
  (hd : DataW.trod enc P w base spare held fuel t cs = some (.agg (vals.map fun v => .lit (.int k v)), p)) (i : Nat) (hi : i < vals.length) :
  cs[i]? = some (.int k (vals.getD i 0)) := by
 obtain ⟨xs, m, _, hx, _, hn, hel⟩ := DataW.trod_array ht hd;simp only [Prod.mk.injEq, DataW.agg.injEq] at hx
 have hlen : xs.length = vals.length := by
  have := congrArg List.length hx.1
  simpa using this.symm
 have h := hel i (by omega);rw [ce, jBk] at h;obtain ⟨x, hxi⟩ : ∃ x, xs[i]? = some x := ⟨xs[i]'(by omega), by rw [jAB (by omega)]⟩
 rw [hxi] at h;obtain ⟨v, e1, e2, _⟩ := DataW.trod_int he h
 have hv : vals[i]? = some v := by
  have h3 := congrArg (fun l => l[i]?) hx.1;simp only [jAQ, hxi, e2] at h3
  cases hvi : vals[i]? with
  | none => rw [hvi] at h3; simp at h3
  | some y => rw [hvi] at h3; simp at h3; rw [h3]
 have h4 : cs[i]? = some (.int k v) := by
  have h5 := congrArg (fun l => l[0]?) e1
  simpa [jAx, jBp] using h5
 rw [h4, jAA, hv];rfl
end Go.Proofs.YtflgicdbbogllaaGreatDoor
