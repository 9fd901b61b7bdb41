import Derived.Test.YtflgicdbbogllaaGreatDoorPYLd2
import Derived.Test.YtflgicdbbogllaaGreatDoorPG31YBl4
set_option maxHeartbeats 8000000
set_option maxRecDepth 20000
set_option linter.unusedSimpArgs false
set_option linter.unusedVariables false
namespace Go.Proofs.YtflgicdbbogllaaGreatDoor
open Go.RowKit Go.Maps Tryz
open Value (int)
open IntKind (i64)
attribute [local go_sem ↓] wp_at_zero wp_at_succ
variable {S : List Nat} {V V' W0 X4 w6 : World} {p : Option Addr}
theorem tup2 {q : Option Addr} {c k : Int} (h : Ending.returned (.tuple #[.pointer p, int i64 c]) = Ending.returned (.tuple #[.pointer q, int i64 k])) : p = q ∧ c = k := by
 injection h with h
 injection h with h
 simp at h
 exact h
theorem kNE {w : World} {n a : Nat} {y : Wl} {D : Option Sd} {r : Option Addr} (h : WOk w n a y) (ha : a ≤ 1) (hp : vO D = .pointer p) (hr : vR D = .pointer r) :
  ((w.setCell ⟨y.b, a, none⟩ (.pointer p)).setCell ⟨y.b, 2 + a, none⟩ (.pointer r)).heap[y.b]? = some (.cells #[(Wl.hd a { y with dA := D }).o0, (Wl.hd a { y with dA := D }).o1, (Wl.hd a { y with dA := D }).r0, (Wl.hd a { y with dA := D }).r1, y.S.vI.v, y.S.vM.v, y.S.vK.v] 39 (0, 0)) := by
 have tt := h.bok.top;have e : a = 0 ∨ a = 1 := by omega
 rcases e with rfl | rfl
 ·rw [kAI (kAI tt 0 _) 2 _];unfold Wl.hd;simp only [if_true, hp, hr];rfl
 ·rw [kAI (kAI tt 1 _) 3 _];unfold Wl.hd;simp only [Nat.one_ne_zero, if_false, hp, hr];rfl
structure Tri (S : List Nat) (W0 X4 w6 V : World) : Prop where
 a : Fr [] W0 V
 b : Fr S X4 V
 c : Fr S w6 V
theorem kDG (h : Hid (Tri S W0 X4 w6 V)) (f : Fr [] V V') : Hid (Tri S W0 X4 w6 V') :=
 ⟨h.out.a.trans f (by simp), h.out.b.trans f (by simp), h.out.c.trans f (by simp)⟩
theorem kIT (hS : ∀ b ∈ S, W0.heap.size ≤ b) (h : Hid (Tri S W0 X4 w6 V)) (f : Fr S V V') : Hid (Tri S W0 X4 w6 V') :=
 ⟨h.out.a.trans f fun b hb => .inr (hS b hb), h.out.b.trans f fun b hb => .inl hb, h.out.c.trans f fun b hb => .inl hb⟩
theorem kPt (O A B X : Int) (ls : Value) (n a : Nat) (y : Wl) (w : World) (h : WOk w n a y) (ha : a ≤ 1) (hn : n ≤ 10000000) :
  Calls prog 32 #[.pointer (some ⟨y.b, 0, none⟩), stpV 17 O A B X ls, int i64 a] w fun e w' => e = .returned (.bool true) ∧ kAP w n y w' := by
 obtain ⟨W0, hW0⟩ := jxe (w.alloc (.cells #[int i64 17, int i64 O, int i64 A, int i64 B, int i64 X, ls] 43));obtain ⟨s0, hs0⟩ := jxe (w.heap.size);have F0 : Fr [] w W0 := by rw [← hW0]; exact Fr.alloc [] _ _
 have HF0 := kAA F0;have HY : Hid (WOk W0 n a y) := h.fK F0;have hsz : W0.heap.size = s0 + 1 := by rw [← hW0, ← hs0]; simp
 have hbs : W0.heap[s0]? = some (.cells #[int i64 17, int i64 O, int i64 A, int i64 B, int i64 X, ls] 43 (0, 0)) := by rw [← hW0, ← hs0]; exact heap_alloc_new w _
 have HBl : Hid (∀ V Y, Fr Y W0 V → (∀ g ∈ Y, W0.heap.size ≤ g) → V.heap[s0]? = some (.cells #[int i64 17, int i64 O, int i64 A, int i64 B, int i64 X, ls] 43 (0, 0))) := fun V Y hV hX => (hV.block s0 (by omega) (fun hm => by have := hX _ hm; omega)).trans hbs
 have hc00 : W0.cell? ⟨s0, 0, none⟩ = some (int i64 17) := by rw [kAC hbs]; rfl
 obtain ⟨c0, c1⟩ := kDZ HY.out ha a ha;have eA : y.at a a = y.dA := jp rfl;rw [eA] at c0 c1;have a1 := ng a;have a2 : (a : Int) < 2 := by omega
 have HId : Hid (∀ V, Fr [] W0 V → kAP w n y V) := fun V hV => ⟨y, a, ha, rfl, (HY.out.fK hV).more (by omega), Go1.fK y (F0.trans hV (by simp))⟩
 have HA1 := kAA ha;clear h F0 hbs eA hsz;unfold stpV
 cases hD : y.dA with
 | none =>
  have HIn : Hid (kAP w n y W0) := HId.out _ (Fr.refl _ _);rw [hD] at c0 c1;dsimp only [vO, vR] at c0 c1;clear HId HY HBl HF0 hD;go_enter func32, ntmps32
  go_wp2_with fail
  go_ret
  exact ⟨rfl, HIn.out⟩
 | some d =>
  have hd : SdOk W0 n d := by have := HY.out.okA; rw [hD] at this; exact this
  have hdoc : Doc d.X.M d.Y.R := by have := hd.rq.doc; rw [hd.lk.m] at this; exact this
  have HInv := kAA hd.sp.inv;have HGd := kAA hd.lk.good;have HTb := kAA HY.out.tb
  have H43 : Hid (∀ (S : List Nat) V, Hid (Fr [] W0 V) → (∀ b ∈ S, b < V.heap.size) → Calls prog 43 #[.pointer (some ⟨d.r, 0, none⟩)] V (StB S d.X.M (kBO d.X.H d.X.M) V)) := fun S V hV hS =>
   kQQ S d.r d.Y.R d.X.M V hS (hd.rq.keep hV.out (by simp)).rep hd.sp.inv hdoc
  have HCl : Hid (∀ V, Hid (Fr [] W0 V) → V.cell? ⟨d.q, 0, none⟩ = some (.pointer (some ⟨d.r, 0, none⟩)) ∧ V.cell? ⟨s0, 2, none⟩ = some (int i64 A)) := fun V hV => by
   have hb := HBl.out V [] hV.out (by simp);exact ⟨(hd.rq.keep hV.out (by simp)).cells.1, by rw [kAC hb]; rfl⟩
  rw [hD] at c0 c1;dsimp only [vO, vR] at c0 c1;obtain ⟨z0, z1⟩ := HCl.out W0 (Fr.refl _ _);have HD := kAA hD;have hyb := HY.out.lt (liv0 (x := y));clear hd hdoc hD HBl;generalize hM : d.X.M = M at *;generalize hH : d.X.H = H at *;generalize d.s = ds at *;generalize d.q = dq at *;generalize d.r = dr at *;clear hM hH HId;go_enter func32, ntmps32
  go_wp2_with fail
  refine (H43.out [] W0 (Fr.refl _ _) (by simp)).mono ?_;rintro e w1 ⟨ov, la, rfl, sA, kA, f1⟩;have HS1 := kAA (sA w1 (Fr.refl _ _));have HK1 := kAA kA;have HF1 := kAA f1;clear sA kA f1
  go_wp2_with fail
  refine (hand75 _ _ _ ov la w1 HS1.out).mono ?_;rintro e w2 ⟨G, C, gs, rfl, HH⟩;obtain ⟨X0, hX0⟩ := jxe (w2.alloc (.cells #[int i64 0, int i64 0, int i64 0, .slice none 0 0] 82));obtain ⟨n2, hn2⟩ := jxe (w2.heap.size);have hb0 : X0.heap[n2]? = some (.cells #[int i64 0, int i64 0, int i64 0, .slice none 0 0] 82 (0, 0)) := by rw [← hX0, ← hn2]; exact heap_alloc_new _ _
  have fX0 : Fr [] w2 X0 := by rw [← hX0]; exact Fr.alloc [] _ _
  have s0' : X0.cell? ⟨n2, 0, none⟩ = some (int i64 0) := by rw [kAC hb0]; rfl
  have s1' : X0.cell? ⟨n2, 1, none⟩ = some (int i64 0) := by rw [kAC hb0]; rfl
  have s2' : X0.cell? ⟨n2, 2, none⟩ = some (int i64 0) := by rw [kAC hb0]; rfl
  have s3' : X0.cell? ⟨n2, 3, none⟩ = some (.slice none 0 0) := by rw [kAC hb0]; rfl
  have z0' := kAD hb0 0;have z1' := kAD hb0 1;have z2' := kAD hb0 2;have z3' := kAD hb0 3;have hnX := kAB hb0;obtain ⟨X4, hX4⟩ := jxe ((((X0.setCell ⟨n2, 0, none⟩ (int i64 M.fH)).setCell ⟨n2, 1, none⟩ (int i64 M.fM)).setCell ⟨n2, 2, none⟩ (int i64 M.mark)).setCell ⟨n2, 3, none⟩ (.slice (some ⟨G, 0, none⟩) la.length C))
  have hb4 : X4.heap[n2]? = some (.cells #[int i64 M.fH, int i64 M.fM, int i64 M.mark, .slice (some ⟨G, 0, none⟩) la.length C] 82 (0, 0)) := by
   rw [← hX4, kAI (kAI (kAI (kAI hb0 0 _) 1 _) 2 _) 3 _];rfl
  have fX4 : Fr [] w2 X4 := by
   have hh : Fr [n2] X0 X4 := by
    rw [← hX4];exact (((Fr.setCell (S := [n2]) X0 ⟨n2, 0, none⟩ (int i64 M.fH) (by simp)).trans (Fr.setCell (S := [n2]) _ ⟨n2, 1, none⟩ (int i64 M.fM) (by simp)) (fun b hb => .inl hb)).trans (Fr.setCell (S := [n2]) _ ⟨n2, 2, none⟩ (int i64 M.mark) (by simp)) (fun b hb => .inl hb)).trans (Fr.setCell (S := [n2]) _ ⟨n2, 3, none⟩ (.slice (some ⟨G, 0, none⟩) la.length C) (by simp)) (fun b hb => .inl hb)
   exact fX0.trans hh fun b hb => .inr (by have := jAp.1 hb; omega)
  have HB4 := kAA hb4;obtain ⟨Sg, hSg⟩ := jex (G :: gs.map HG.g);have HLf : Hid (∀ V, Fr [] X4 V → Lf V G gs 0 0) := fun V hV => HH.out.2.1.fK (fX4.trans hV (by simp))
  have HgK : Hid (gs.map kDS = kBO H M) := HH.out.1.trans HK1.out;have HF4 : Hid (Fr [] W0 X4) := (HF1.out.trans HH.out.2.2.1 (by simp)).trans fX4 (by simp)
  have HSb : Hid (∀ b ∈ Sg, W0.heap.size ≤ b ∧ b < X4.heap.size ∧ b ≠ n2) := fun b hb => by
   rw [hSg] at hb;have u1 := HH.out.2.2.2 b hb;have u2 := HF1.out.size;have u3 := fX4.size;omega
  have hgl : gs.length = la.length := by have := congrArg List.length HH.out.1; simpa using this
  have hll : la.length ≤ 2932031007317 := HS1.out.short
  have HSh : Hid (∀ x ∈ gs, x.fB.length ≤ 17592186043904) := fun x hx => by
   have h1 : kDS x ∈ la.map kAU := by rw [← HH.out.1]; exact jAq hx
   obtain ⟨o, ho, he⟩ := jAZ.1 h1;have h2 := (HS1.out.fB o ho).short;simp only [kDS, kAU, Prod.mk.injEq] at he;rw [he.2.2.2] at h2;exact h2
  have hy4 : s0 < X4.heap.size ∧ n2 < X4.heap.size := ⟨by
   have := jAf X4 _ (HCl.out X4 HF4).2;exact this, kAB hb4⟩
  obtain ⟨t0, t1⟩ := HCl.out X4 HF4;have x0 : X4.cell? ⟨n2, 0, none⟩ = some (int i64 M.fH) := by rw [kAC hb4]; rfl
  have x1 : X4.cell? ⟨n2, 1, none⟩ = some (int i64 M.fM) := by rw [kAC hb4]; rfl
  have x2 : X4.cell? ⟨n2, 2, none⟩ = some (int i64 M.mark) := by rw [kAC hb4]; rfl
  have x3 : X4.cell? ⟨n2, 3, none⟩ = some (.slice (some ⟨G, 0, none⟩) la.length C) := by rw [kAC hb4]; rfl
  have H76 : Hid (Calls prog 76 #[.agg #[int i64 M.fH, int i64 M.fM, int i64 M.mark, .slice (some ⟨G, 0, none⟩) la.length C], int i64 A] X4 (SLd A (mhas M A) (fun M' => M' = kCh M) X4)) := by
   have h1 := (HLf.out X4 (Fr.refl _ _)).sat (C := C) (by omega) HSh.out;rw [hgl] at h1;exact kOJ A _ _ X4 HInv.out HGd.out h1 (by rw [jAa]; exact HgK.out) (HTb.out.keep HF4.out (by simp))
  have H77 : Hid (∀ V ov la, SAt V ov la → la.map kAU = kBO H M → Calls prog 77 #[.agg #[int i64 M.fH, int i64 M.fM, int i64 M.mark, ov], int i64 A] V (DLd A (mhas M A) (PD M V.heap.size) V)) := fun V ov la h1 h2 => kOQ A ov la V HInv.out HGd.out h1 h2
  have HCn : Hid (∀ V, Fr Sg X4 V → V.cell? ⟨n2, 0, none⟩ = some (int i64 M.fH) ∧ V.cell? ⟨n2, 1, none⟩ = some (int i64 M.fM) ∧ V.cell? ⟨n2, 2, none⟩ = some (int i64 M.mark) ∧ V.cell? ⟨n2, 3, none⟩ = some (.slice (some ⟨G, 0, none⟩) la.length C)) := fun V hV => by
   have hb := (hV.block n2 (kAB HB4.out) (fun hm => (HSb.out n2 hm).2.2 rfl)).trans HB4.out;exact ⟨by rw [kAC hb]; rfl, by rw [kAC hb]; rfl, by rw [kAC hb]; rfl, by rw [kAC hb]; rfl⟩
  have HLn : Hid (∀ l : List OI, l.map kAU = kBO H M → l.length = la.length) := fun l hl => by
   have h1 := congrArg List.length (hl.trans HK1.out.symm)
   simpa using h1
  have HNm : Hid (2 ≤ X4.heap.size) := by have h1 := HTb.out.s; have h2 := HF4.out.size; show 2 ≤ X4.heap.size; omega
  clear hb4 hb0 fX0 HH fX4
  go_wp2_with fail
  refine H76.out.mono ?_;rintro e w4 h4;obtain ⟨p1, k1, rfl⟩ := kOZ h4;have HL1 := kAA h4;have q4 : Hid (Fr [] W0 w4) := HF4.out.trans h4.1 (by simp);have HX4 : Hid (Fr [] X4 w4) := h4.1;obtain ⟨t0, t1⟩ := HCl.out w4 q4;clear h4 H76 hX0 hX4 s0' s1' s2' s3' z0' z1' z2' z3' hnX x0 x1 x2 x3 z0 z1
  go_wp2_with fail
  go_region_held3 (fun V => V.cell? ⟨dq, 0, none⟩ = some (.pointer (some ⟨dr, 0, none⟩)) ∧ V.cell? ⟨s0, 2, none⟩ = some (int i64 A))
   (first | exact HCl.out _ q6 | exact HCl.out _ q5 | exact HCl.out _ (kAF q4) | exact HCl.out _ q4)
   (first | (go_at_call 43; refine (H43.out [] _ (kAF q4) (by simp)).mono ?_; rintro e w5 ⟨ov5, la5, rfl, s5, k5, f5⟩; have q5 := kBT (kAF q4) f5) | (go_at_call 77; refine (H77.out _ _ _ (s5 _ (Fr.refl _ _)) k5).mono ?_; rintro e w6 h6; obtain ⟨p2, k2, rfl⟩ := kOP h6; have q6 := kBT q5 h6.1))
  have hs5 := f5.size;obtain ⟨p, r, c, D, hc, e1, e2, hvp, hvr, okD, loD⟩ := kLd (N := X4.heap.size) HInv.out HGd.out HL1.out h6 (wf := w6) (((Fr.drew [] w4).trans f5 (by simp)).trans h6.1 (by simp)) (Fr.refl _ _) (jAD _) (by have := HX4.out.size; have e : w4.drew.heap.size = w4.heap.size := rfl; omega) HNm.out (.inl (by have e : w4.drew.heap.size = w4.heap.size := rfl; omega));obtain ⟨rfl, rfl⟩ := tup2 e1;obtain ⟨rfl, ek⟩ := tup2 e2;subst ek;have T6 : Hid (Tri Sg W0 X4 w6 w6) := ⟨q6.out, ((HX4.out.trans (Fr.drew [] w4) (by simp)).trans (f5.trans h6.1 (by simp)) (by simp)).mono (by simp), Fr.refl _ _⟩;have HDp := kAA (And.intro hvp (And.intro hvr (And.intro okD loD)));have HLf6 : Hid (∀ V, Fr [] w6 V → Lf V G gs 0 0) := fun V hV => HLf.out V (((HX4.out.trans (Fr.drew [] w4) (by simp)).trans (f5.trans h6.1 (by simp)) (by simp)).trans hV (by simp))
  obtain ⟨t0, t1⟩ := HCl.out w6 q6;have hSs : ∀ {V}, Hid (Tri Sg W0 X4 w6 V) → ∀ b ∈ Sg, b < V.heap.size := fun hT b hb => by have h1 := HSb.out b hb; have h2 := hT.out.b.size; omega
  have hSl : ∀ b ∈ Sg, W0.heap.size ≤ b := fun b hb => (HSb.out b hb).1
  clear h6 f5 s5 k5 HL1 q4 q5 hs5 e1 e2 hvp hvr okD loD H77 HLf HX4
  go_wp2_with fail
  refine (H43.out Sg w6 q6 (hSs T6)).mono ?_;rintro e w7 ⟨ov7, la7, rfl, s7, k7, f7⟩;have T7 := kDG T6 f7
  have H78 : Hid (Calls prog 78 #[.slice (some ⟨G, 0, none⟩) (la.length + 1) C, .agg #[int i64 M.fH, int i64 M.fM, int i64 M.mark, ov7]] w7 fun e w' => e = .returned (.bool true) ∧ Lf w' G gs gs.length 0 ∧ Fr (G :: gs.map HG.g) w7 w') := by
   have h1 := left78 (M.fH : Int) (M.fM : Int) (M.mark : Int) ov7 la7 gs G C w7 (by rw [← hSg]; exact s7) (HgK.out.trans k7.symm) (HLf6.out w7 f7);rw [HLn.out la7 k7] at h1;exact h1
  clear s7 k7 f7 T6 q6 HLf6
  go_wp2_with fail
  refine H78.out.mono ?_;rintro e w8 ⟨rfl, l8, f8⟩;rw [← hSg] at f8;have T8 := kIT hSl T7 f8;have HL8 := kAA l8;obtain ⟨t0, t1⟩ := HCl.out w8 T8.out.a;clear l8 f8 H78 T7
  go_wp2_with fail
  refine (H43.out Sg w8 T8.out.a (hSs T8)).mono ?_;rintro e w9 ⟨ov9, la9, rfl, s9, k9, f9⟩;have T9 := kDG T8 f9
  have H79 : Hid (Calls prog 79 #[.slice (some ⟨G, 0, none⟩) (la.length + 1) C, .agg #[int i64 M.fH, int i64 M.fM, int i64 M.mark, ov9]] w9 fun e w' => e = .returned (.tuple #[]) ∧ On w' G gs gs.length gs.length 0 ∧ Fr (G :: gs.map HG.g) w9 w') := by
   have h1 := kNk (M.fH : Int) (M.fM : Int) (M.mark : Int) ov9 la9 gs G C w9 (by rw [← hSg]; exact s9) (HgK.out.trans k9.symm) ((HL8.out.on).fK f9);rw [HLn.out la9 k9] at h1;exact h1
  clear s9 k9 f9 T8 HL8
  go_wp2_with fail
  refine H79.out.mono ?_;rintro e w10 ⟨rfl, o10, f10⟩;rw [← hSg] at f10;have T10 := kIT hSl T9 f10;have h10 := o10.sat (C := C) (by omega) HSh.out;rw [hgl] at h10
  have kk : (gs.map fun x => (⟨x.oop, x.cls, x.fmt, kMI x, .slice (some ⟨x.g, 0, none⟩) x.fB.length x.cap⟩ : OI)).map kAU = (kBO H M).map five := by
   rw [← HgK.out, jAa, jAa];rfl
  obtain ⟨H5, M5, i5, g5, ks5, m1, m2, m3⟩ := kJg HInv.out HGd.out _ _ w10 h10 kk (HTb.out.keep T10.out.a (by simp))
  have H77 : Hid (Calls prog 77 #[.agg #[int i64 M.fH, int i64 M.fM, int i64 M.mark, .slice (some ⟨G, 0, none⟩) la.length C], int i64 A] w10 (DLd A (mhas M5 A) (PD M5 w10.heap.size) w10)) := by
   have h1 := kOQ A _ _ w10 i5 g5 h10 ks5;rw [m1, m2, m3] at h1;exact h1
  have H76 : Hid (∀ V, Fr [] w10 V → Calls prog 76 #[.agg #[int i64 M.fH, int i64 M.fM, int i64 M.mark, .slice (some ⟨G, 0, none⟩) la.length C], int i64 A] V (SLd A (mhas M5 A) (fun M' => M' = kCh M5) V)) := fun V hV => by
   have h1 := kOJ A _ _ V i5 g5 (h10.fK hV) ks5 (HTb.out.keep (T10.out.a.trans hV (by simp)) (by simp));rw [m1, m2, m3] at h1;exact h1
  have HI5 := kAA i5;have HG5 := kAA g5;obtain ⟨t0, t1⟩ := HCl.out w10 T10.out.a;obtain ⟨x0, x1, x2, x3⟩ := HCn.out w10 T10.out.b;clear o10 f10 T9 h10 kk i5 g5 ks5 m1 m2 m3 H79 HSh
  go_wp2_with fail
  refine H77.out.mono ?_;rintro e w11 h11;obtain ⟨p3, k3, rfl⟩ := kOP h11;have HD11 := kAA h11;have T11 := kDG T10 h11.1;obtain ⟨t0, t1⟩ := HCl.out w11 T11.out.a;obtain ⟨x0, x1, x2, x3⟩ := HCn.out w11 T11.out.b;have H76' := kAA (H76.out w11 h11.1);clear h11 H77 H76
  go_wp2_with fail
  refine H76'.out.mono ?_;rintro e w12 h12;obtain ⟨p4, k4, rfl⟩ := kOZ h12;have T12 := kDG T11 h12.1;obtain ⟨p, r, c', D5, hc5, e1, e2, hvp, hvr, ok5, lo5⟩ := kLd (N := X4.heap.size) HI5.out HG5.out h12 HD11.out (wf := w12) (Fr.refl _ _) h12.1 T11.out.b.size T10.out.b.size HNm.out (.inr (jAD _));obtain ⟨rfl, rfl⟩ := tup2 e1;obtain ⟨rfl, ek⟩ := tup2 e2;subst ek;clear h12 HD11 T10 T11 H76' e1 e2 HI5 HG5 lo5 HCn hSs hSl H43 HInv HGd;rcases D5 with _ | d5
  case' none =>
   have e3 : p4 = none := by have h := hvp; simp only [vO, Value.pointer.injEq] at h; exact h.symm
   have e4 : p3 = none := by have h := hvr; simp only [vR, Value.pointer.injEq] at h; exact h.symm
   subst e3;subst e4;clear ok5 hvp hvr
   go_wp2_with fail
   go_quiet ((go_at_call 6; exact Calls.quiet_of ((kAm _ _ (by omega) (by omega)).mono fun e w' hh => ⟨hh.1, 0, hh.2⟩)))
   have Tz : Hid (Tri Sg W0 X4 w6 (w12.drewN nq)) := kDG T12 (Fr.drewN [] _ _);clear T12;generalize w12.drewN nq = wz at *
  case' some =>
   have e3 : p4 = some ⟨d5.s, 0, none⟩ := by have h := hvp; simp only [vO, Value.pointer.injEq] at h; exact h.symm
   have e4 : p3 = some ⟨d5.q, 0, none⟩ := by have h := hvr; simp only [vR, Value.pointer.injEq] at h; exact h.symm
   have h5 : SdOk w12 0 d5 := ok5;obtain ⟨h41, h42, h43, hc⟩ := kML h5;have H41 := kAA h41;have H42 := kAA h42;have H43 := kAA h43;have HC := kAA hc;have HSS : Hid (∀ V oa ob la lb, SAt V oa la → SAt V ob lb → la.map kAU = kBO d5.X.H d5.X.M → lb.map kAU = kBO d5.X.H d5.X.M → Calls prog 40 #[.agg #[int i64 d5.X.M.fH, int i64 d5.X.M.fM, int i64 d5.X.M.mark, oa], .agg #[int i64 d5.X.M.fH, int i64 d5.X.M.fM, int i64 d5.X.M.mark, ob]] V fun e w' => e = .returned (.bool true) ∧ Fr [] V w') := fun V oa ob la lb h1 h2 h3 h4 => kEN _ _ _ oa ob la lb V h1 h2 (h3.trans h4.symm)
   unfold StA at H42 H43;subst e3;subst e4;clear ok5 hvp hvr h41 h42 h43 hc h5;generalize (d5.X.M.fH : Int) = mw at *;generalize (d5.X.M.fM : Int) = mo at *;generalize (d5.X.M.mark : Int) = mm at *;generalize d5.s = es at *;generalize d5.a = ea at *;generalize d5.q = eq at *;generalize d5.r = er at *;generalize kBO d5.X.H d5.X.M = k5 at *;have q12 : Hid (Fr [] w12 w12) := Fr.refl _ _
   go_wp2_with fail
   go_region_held3 (fun V => V.cell? ⟨eq, 0, none⟩ = some (.pointer (some ⟨er, 0, none⟩)))
    (first | exact HC.out _ (by assumption) | exact HC.out _ (kAF (by assumption)))
    (first | (go_at_call 6; refine (kAm _ _ (by omega) (by omega)).mono ?_; rintro e w' ⟨rfl, hw'⟩; subst hw') | (go_at_call 41; refine (H41.out _ (kAF q12)).mono ?_; rintro e w13 ⟨rfl, q13⟩) | (go_at_call 42; refine (H42.out _ q13).mono ?_; rintro e w14 ⟨ov14, la14, rfl, s14, k14, f14⟩; have q14 := kBT q13 f14) | (go_at_call 43; refine (H43.out _ q14).mono ?_; rintro e w15 ⟨ov15, la15, rfl, s15, k15, f15⟩; have q15 := kBT q14 f15) | (go_at_call 40; refine (HSS.out _ _ _ _ _ (s14.fK f15) s15 k14 k15).mono ?_; rintro e wz ⟨rfl, f16⟩; have q16 := kBT q15 f16))
   have Tz := kDG T12 q16.out;clear T12 q12 q13 q14 q15 q16 s14 s15 k14 k15 f14 f15 f16 H41 H42 H43 HC HSS
  all_goals
   have wk : WOk wz n a y := HY.out.fK Tz.out.a;obtain ⟨b0, b1⟩ := kDZ wk HA1.out a HA1.out;have tt := wk.bok.top;have g0 : wz.frozen? ⟨y.b, a, none⟩ = false := kAD tt a;have g1 : wz.frozen? ⟨y.b, 2 + a, none⟩ = false := kAD tt (2 + a)
   have HZ : Hid (kAP w n y ((wz.setCell ⟨y.b, a, none⟩ (.pointer p1)).setCell ⟨y.b, 2 + a, none⟩ (.pointer p2))) := by
    obtain ⟨hvp, hvr, okD, loD⟩ := HDp.out;have okz : SpOk wz 0 D := okD.keep Tz.out.c fun g hg hm => by have h1 := loD g hg; have h2 := (HSb.out g hm).2.1; omega
    have ht := kNE (D := D) wk HA1.out hvp hvr;have fF : Fr [y.b] wz ((wz.setCell ⟨y.b, a, none⟩ (.pointer p1)).setCell ⟨y.b, 2 + a, none⟩ (.pointer p2)) := (Fr.setCell (S := [y.b]) wz ⟨y.b, a, none⟩ (.pointer p1) (by simp)).trans (Fr.setCell (S := [y.b]) _ ⟨y.b, 2 + a, none⟩ (.pointer p2) (by simp)) fun b hb => .inl hb
    have hnew : ∀ g ∈ sdF D, W0.heap.size ≤ g := fun g hg => by have h1 := loD g hg; have h2 := HF4.out.size; omega
    exact ⟨{ y with dA := D }, a, HA1.out, rfl, HY.out.load (n' := n + 8) (by omega) (D := D) Tz.out.a (okz.more (by omega)) hnew fF ht, (Go1.fK y HF0.out).trans (kPQ hnew ((Tz.out.a.mono (by simp)).trans fF fun b hb => .inl hb))⟩
   generalize vO (y.at a a) = u0 at *;generalize vR (y.at a a) = u1 at *;clear wk tt HY HF0 HF4 HSb Tz HCl;rcases D with _ | d1
   ·have e5 : p1 = none := by have h := HDp.out.1; simp only [vO, Value.pointer.injEq] at h; exact h.symm
    have e6 : p2 = none := by have h := HDp.out.2.1; simp only [vR, Value.pointer.injEq] at h; exact h.symm
    subst e5;subst e6;clear HDp
    go_wp2_with (go_at_call 6; refine (kAm _ _ (by omega) (by omega)).mono ?_; rintro e w' ⟨rfl, hw'⟩; subst hw')
    go_ret
    exact ⟨rfl, HZ.out⟩
   ·have e5 : p1 = some ⟨d1.s, 0, none⟩ := by have h := HDp.out.1; simp only [vO, Value.pointer.injEq] at h; exact h.symm
    have e6 : p2 = some ⟨d1.q, 0, none⟩ := by have h := HDp.out.2.1; simp only [vR, Value.pointer.injEq] at h; exact h.symm
    subst e5;subst e6;clear HDp
    go_wp2_with (go_at_call 6; refine (kAm _ _ (by omega) (by omega)).mono ?_; rintro e w' ⟨rfl, hw'⟩; subst hw')
    go_ret
    exact ⟨rfl, HZ.out⟩
end Go.Proofs.YtflgicdbbogllaaGreatDoor
