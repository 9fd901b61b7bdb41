import Derived.Test.YtflgicdbbogllaaGreatDoorPG30YSeen
set_option maxHeartbeats 4000000
set_option maxRecDepth 20000
set_option linter.unusedSimpArgs false
set_option linter.unusedVariables false
namespace Go.Proofs.YtflgicdbbogllaaGreatDoor
open Go.RowKit Go.Maps Tryz
open Value (int)
open IntKind (i64)
attribute [local go_sem ↓] wp_at_zero wp_at_succ
def stpV (K O A B X : Int) (ls : Value) : Value := .agg #[int i64 K, int i64 O, int i64 A, int i64 B, int i64 X, ls]
theorem kED (K : Int) (ls : Value) (O A B X : Int) {n a : Nat} {y : Wl} {w : World} (h : WOk w n a y) (ha : a ≤ 1) : Hid (Fr [] w (w.alloc (.cells #[int i64 K, int i64 O, int i64 A, int i64 B, int i64 X, ls] 43))) ∧ Hid (WOk (w.alloc (.cells #[int i64 K, int i64 O, int i64 A, int i64 B, int i64 X, ls] 43)) n a y) ∧ Hid (∀ V Y, Fr Y (w.alloc (.cells #[int i64 K, int i64 O, int i64 A, int i64 B, int i64 X, ls] 43)) V → (∀ g ∈ Y, g < w.heap.size) → V.heap[w.heap.size]? = some (.cells #[int i64 K, int i64 O, int i64 A, int i64 B, int i64 X, ls] 43 (0, 0))) ∧ Hid (∀ g, Liv y g → g < w.heap.size) ∧ (w.alloc (.cells #[int i64 K, int i64 O, int i64 A, int i64 B, int i64 X, ls] 43)).cell? ⟨y.b, a, none⟩ = some (vO y.dA) ∧ (w.alloc (.cells #[int i64 K, int i64 O, int i64 A, int i64 B, int i64 X, ls] 43)).cell? ⟨y.b, 2 + a, none⟩ = some (vR y.dA) ∧ 0 ≤ (a : Int) ∧ (a : Int) < 2 ∧ Hid (∀ V, Fr [] (w.alloc (.cells #[int i64 K, int i64 O, int i64 A, int i64 B, int i64 X, ls] 43)) V → kAP w n y V) := by
 have F0 : Fr [] w (w.alloc (.cells #[int i64 K, int i64 O, int i64 A, int i64 B, int i64 X, ls] 43)) := Fr.alloc [] _ _;have HY := h.fK F0;obtain ⟨c0, c1⟩ := kDZ HY ha a ha;have eA : y.at a a = y.dA := jp rfl;rw [eA] at c0 c1;exact ⟨F0, HY, fun V Y hV hX => (hV.block w.heap.size (by simp) (fun hm => by have := hX _ hm; omega)).trans (heap_alloc_new w _), fun g hg => h.lt hg, c0, c1, by omega, by omega, fun V hV => ⟨y, a, ha, rfl, (HY.fK hV).more (by omega), Go1.fK y (F0.trans hV (by simp))⟩⟩
theorem kCo (K : Int) (ls : Value) (O A B X : Int) {n t : Nat} {x : Wl} {w : World} (h : WOk w n t x) (ht : t ≤ 1) : ∃ (r s : Int) (a : Nat) (y : Wl), O.tmod 2 = r ∧ IntKind.i64.wrap (r + 2) = s ∧ s.tmod 2 = (a : Int) ∧ a ≤ 1 ∧ IntKind.i64.wrap r = r ∧ IntKind.i64.wrap (a : Int) = (a : Int) ∧ y.b = x.b ∧ Hid (∀ w', kAP w n y w' → kAP w n x w') ∧ Hid (Fr [] w (w.alloc (.cells #[int i64 K, int i64 O, int i64 A, int i64 B, int i64 X, ls] 43))) ∧ Hid (WOk (w.alloc (.cells #[int i64 K, int i64 O, int i64 A, int i64 B, int i64 X, ls] 43)) n a y) ∧ Hid (∀ V Y, Fr Y (w.alloc (.cells #[int i64 K, int i64 O, int i64 A, int i64 B, int i64 X, ls] 43)) V → (∀ g ∈ Y, g < w.heap.size) → V.heap[w.heap.size]? = some (.cells #[int i64 K, int i64 O, int i64 A, int i64 B, int i64 X, ls] 43 (0, 0))) ∧ Hid (∀ g, Liv y g → g < w.heap.size) ∧ (w.alloc (.cells #[int i64 K, int i64 O, int i64 A, int i64 B, int i64 X, ls] 43)).cell? ⟨y.b, a, none⟩ = some (vO y.dA) ∧ (w.alloc (.cells #[int i64 K, int i64 O, int i64 A, int i64 B, int i64 X, ls] 43)).cell? ⟨y.b, 2 + a, none⟩ = some (vR y.dA) ∧ 0 ≤ (a : Int) ∧ (a : Int) < 2 := by
 obtain ⟨r, s, a, e1, e2, e3, ha, e4, e5⟩ := kFa O;obtain ⟨y, hyb, hy, hgo⟩ := kGT h ht a ha;obtain ⟨p1, p2, p3, p4, p5, p6, p7, p8, -⟩ := kED K ls O A B X hy ha;exact ⟨r, s, a, y, e1, e2, e3, ha, e4, e5, hyb, fun w' ⟨x', t', q1, q2, q3, q4⟩ => ⟨x', t', q1, q2.trans hyb, q3, hgo.trans q4⟩, p1, p2, p3, p4, p5, p6, p7, p8⟩
theorem kNj (O A B X : Int) (ls : Value) (n t : Nat) (x : Wl) (w : World) (h : WOk w n t x) (ht : t ≤ 1) (hn : n ≤ 10000000) :
  Calls prog 7 #[.pointer (some ⟨x.b, 0, none⟩), stpV 3 O A B X ls] w fun e w' => e = .returned (.bool true) ∧ kAP w n x w' := by
 obtain ⟨r, s, a, y, e1, e2, e3, ha, e4, e5, hyb, HSt, HF0, HY, HBl, HLt, c0, c1, a1, a2⟩ := kCo 3 ls O A B X h ht;rw [← hyb];clear h hyb;unfold stpV;go_enter func7, ntmps7
 go_wp2_with fail
 generalize w.alloc (.cells #[int i64 3, int i64 O, int i64 A, int i64 B, int i64 X, ls] 43) = W0 at *;obtain ⟨s0, hs0⟩ := jex (w.heap.size);rw [← hs0] at HBl HLt;rw [← hs0];clear hs0;obtain ⟨z, Q, hz, hBo⟩ := kMY W0 n y.dA A HY.out.okA HY.out.tb;have HBo := kAA hBo
 have HCl : Hid (∀ V k, Hid (Q k V) → V.cell? ⟨s0, 2, none⟩ = some (int i64 A)) := fun V k hq => by
  have hb := HBl.out V _ (HBo.out.frm hq.out) fun g hg => HLt.out g (liv4 hg)
  exact by rw [kAC hb]; rfl
 have HP : Hid (∀ V, Hid (Q 0 V) → Calls prog 17 #[vO y.dA, int i64 A] V fun e w'' => e = .returned (int i64 z) ∧ Hid (Q 1 w'')) := fun V hq => HBo.out.prog hq.out
 have HR : Hid (∀ V, Hid (Q 1 V) → Calls prog 18 #[vR y.dA, int i64 A] V fun e w'' => e = .returned (int i64 z) ∧ Hid (Q 2 w'')) := fun V hq => HBo.out.docu hq.out
 have HZ : Hid (∀ V, Hid (Q 2 V) → kAP w n x V) := fun V hq => by
  obtain ⟨D', hp⟩ := HBo.out.done hq.out;exact HSt.out V ⟨{ y with dA := D' }, a, ha, rfl, (HY.out.pair (n' := n + 4) (by omega) hp).more (by omega), (Go1.fK y HF0.out).trans (kBV hp)⟩
 have q0 : Hid (Q 0 W0.drew) := HBo.out.fK HBo.out.start (Fr.drew [] W0);clear hBo HBo HY HBl HLt HF0 HSt;generalize vO y.dA = vo at *;generalize vR y.dA = vr at *
 go_region_held3 (fun V => V.cell? ⟨s0, 2, none⟩ = some (int i64 A))
  (first | exact HCl.out _ _ q2 | exact HCl.out _ _ q1 | exact HCl.out _ _ q0)
  (first | (go_at_call 17; refine (HP.out _ q0).mono ?_; rintro e w1 ⟨rfl, q1⟩) | (go_at_call 6; refine (kAm _ _ (by omega) (by omega)).mono ?_; rintro e w' ⟨rfl, hw'⟩; subst hw') | (go_at_call 18; refine (HR.out _ q1).mono ?_; rintro e w2 ⟨rfl, q2⟩))
 all_goals go_wp2_with fail
 all_goals
  go_ret
  exact ⟨rfl, HZ.out _ q2⟩
theorem kJY (O A B X : Int) (ls : Value) (n t : Nat) (x : Wl) (w : World) (h : WOk w n t x) (ht : t ≤ 1) (hn : n ≤ 10000000) :
  Calls prog 7 #[.pointer (some ⟨x.b, 0, none⟩), stpV 5 O A B X ls] w fun e w' => e = .returned (.bool true) ∧ kAP w n x w' := by
 obtain ⟨r, s, a, y, e1, e2, e3, ha, e4, e5, hyb, HSt, HF0, HY, HBl, HLt, c0, c1, a1, a2⟩ := kCo 5 ls O A B X h ht;rw [← hyb];clear h hyb;unfold stpV;go_enter func7, ntmps7
 go_wp2_with fail
 generalize w.alloc (.cells #[int i64 5, int i64 O, int i64 A, int i64 B, int i64 X, ls] 43) = W0 at *;obtain ⟨s0, hs0⟩ := jex (w.heap.size);rw [← hs0] at HBl HLt;rw [← hs0];clear hs0;obtain ⟨z, Q, hz, hBo⟩ := kFQ W0 n y.dA A X HY.out.okA HY.out.tb;have HBo := kAA hBo
 have HCl : Hid (∀ V k, Hid (Q k V) → V.cell? ⟨s0, 2, none⟩ = some (int i64 A) ∧ V.cell? ⟨s0, 4, none⟩ = some (int i64 X)) := fun V k hq => by
  have hb := HBl.out V _ (HBo.out.frm hq.out) fun g hg => HLt.out g (liv4 hg)
  exact ⟨by rw [kAC hb]; rfl, by rw [kAC hb]; rfl⟩
 have HP : Hid (∀ V, Hid (Q 0 V) → Calls prog 15 #[vO y.dA, int i64 A, int i64 X] V fun e w'' => e = .returned (int i64 z) ∧ Hid (Q 1 w'')) := fun V hq => HBo.out.prog hq.out
 have HR : Hid (∀ V, Hid (Q 1 V) → Calls prog 16 #[vR y.dA, int i64 A, int i64 X] V fun e w'' => e = .returned (int i64 z) ∧ Hid (Q 2 w'')) := fun V hq => HBo.out.docu hq.out
 have HZ : Hid (∀ V, Hid (Q 2 V) → kAP w n x V) := fun V hq => by
  obtain ⟨D', hp⟩ := HBo.out.done hq.out;exact HSt.out V ⟨{ y with dA := D' }, a, ha, rfl, (HY.out.pair (n' := n + 4) (by omega) hp).more (by omega), (Go1.fK y HF0.out).trans (kBV hp)⟩
 have q0 : Hid (Q 0 W0.drew) := HBo.out.fK HBo.out.start (Fr.drew [] W0);clear hBo HBo HY HBl HLt HF0 HSt;generalize vO y.dA = vo at *;generalize vR y.dA = vr at *
 go_region_held3 (fun V => V.cell? ⟨s0, 2, none⟩ = some (int i64 A) ∧ V.cell? ⟨s0, 4, none⟩ = some (int i64 X))
  (first | exact HCl.out _ _ q2 | exact HCl.out _ _ q1 | exact HCl.out _ _ q0)
  (first | (go_at_call 15; refine (HP.out _ q0).mono ?_; rintro e w1 ⟨rfl, q1⟩) | (go_at_call 6; refine (kAm _ _ (by omega) (by omega)).mono ?_; rintro e w' ⟨rfl, hw'⟩; subst hw') | (go_at_call 16; refine (HR.out _ q1).mono ?_; rintro e w2 ⟨rfl, q2⟩))
 all_goals go_wp2_with fail
 all_goals
  go_ret
  exact ⟨rfl, HZ.out _ q2⟩
theorem kPh (O A B X : Int) (ls : Value) (n t : Nat) (x : Wl) (w : World) (h : WOk w n t x) (ht : t ≤ 1) (hn : n ≤ 10000000) :
  Calls prog 7 #[.pointer (some ⟨x.b, 0, none⟩), stpV 7 O A B X ls] w fun e w' => e = .returned (.bool true) ∧ kAP w n x w' := by
 obtain ⟨r, s, a, y, e1, e2, e3, ha, e4, e5, hyb, HSt, HF0, HY, HBl, HLt, c0, c1, a1, a2⟩ := kCo 7 ls O A B X h ht;rw [← hyb];clear h hyb;unfold stpV;go_enter func7, ntmps7
 go_wp2_with fail
 generalize w.alloc (.cells #[int i64 7, int i64 O, int i64 A, int i64 B, int i64 X, ls] 43) = W0 at *;obtain ⟨s0, hs0⟩ := jex (w.heap.size);rw [← hs0] at HBl HLt;rw [← hs0];clear hs0;obtain ⟨z, Q, hz, hBo⟩ := kPM W0 n y.dA A HY.out.okA HY.out.tb;have HBo := kAA hBo
 have HCl : Hid (∀ V k, Hid (Q k V) → V.cell? ⟨s0, 2, none⟩ = some (int i64 A)) := fun V k hq => by
  have hb := HBl.out V _ (HBo.out.frm hq.out) fun g hg => HLt.out g (liv4 hg)
  exact by rw [kAC hb]; rfl
 have HP : Hid (∀ V, Hid (Q 0 V) → Calls prog 22 #[vO y.dA, int i64 A] V fun e w'' => e = .returned (int i64 z) ∧ Hid (Q 1 w'')) := fun V hq => HBo.out.prog hq.out
 have HR : Hid (∀ V, Hid (Q 1 V) → Calls prog 23 #[vR y.dA, int i64 A] V fun e w'' => e = .returned (int i64 z) ∧ Hid (Q 2 w'')) := fun V hq => HBo.out.docu hq.out
 have HZ : Hid (∀ V, Hid (Q 2 V) → kAP w n x V) := fun V hq => by
  obtain ⟨D', hp⟩ := HBo.out.done hq.out;exact HSt.out V ⟨{ y with dA := D' }, a, ha, rfl, (HY.out.pair (n' := n + 4) (by omega) hp).more (by omega), (Go1.fK y HF0.out).trans (kBV hp)⟩
 have q0 : Hid (Q 0 W0.drew) := HBo.out.fK HBo.out.start (Fr.drew [] W0);clear hBo HBo HY HBl HLt HF0 HSt;generalize vO y.dA = vo at *;generalize vR y.dA = vr at *
 go_region_held3 (fun V => V.cell? ⟨s0, 2, none⟩ = some (int i64 A))
  (first | exact HCl.out _ _ q2 | exact HCl.out _ _ q1 | exact HCl.out _ _ q0)
  (first | (go_at_call 22; refine (HP.out _ q0).mono ?_; rintro e w1 ⟨rfl, q1⟩) | (go_at_call 6; refine (kAm _ _ (by omega) (by omega)).mono ?_; rintro e w' ⟨rfl, hw'⟩; subst hw') | (go_at_call 23; refine (HR.out _ q1).mono ?_; rintro e w2 ⟨rfl, q2⟩))
 all_goals go_wp2_with fail
 all_goals
  go_ret
  exact ⟨rfl, HZ.out _ q2⟩
theorem kPa (O A B X : Int) (ls : Value) (n a : Nat) (y : Wl) (w : World) (h : WOk w n a y) (ha : a ≤ 1) (hn : n ≤ 10000000) :
  Calls prog 32 #[.pointer (some ⟨y.b, 0, none⟩), stpV 12 O A B X ls, int i64 a] w fun e w' => e = .returned (.bool true) ∧ kAP w n y w' := by
 obtain ⟨HF0, HY, HBl, HLt, c0, c1, a1, a2, HId⟩ := kED 12 ls O A B X h ha;clear h;unfold stpV;go_enter func32, ntmps32
 go_wp2_with fail
 generalize w.alloc (.cells #[int i64 12, int i64 O, int i64 A, int i64 B, int i64 X, ls] 43) = W0 at *;obtain ⟨s0, hs0⟩ := jex (w.heap.size);rw [← hs0] at HBl HLt;rw [← hs0];clear hs0
 cases hD : y.dA with
 | none =>
  have HIn : Hid (∀ m, kAP w n y (W0.drewN m)) := fun m => HId.out _ (Fr.drewN [] _ _)
  rw [hD] at c0 c1;dsimp only [vO, vR] at c0 c1 ⊢;clear HId HY HBl HLt HF0 hD
  go_quiet (fail)
  all_goals go_wp2_with fail
  all_goals
   go_ret
   exact ⟨rfl, HIn.out _⟩
 | some d =>
  have hd : SdOk W0 n d := by have := HY.out.okA; rw [hD] at this; exact this
  obtain ⟨z, Q, hz, hBo, hcl, hq0⟩ := kMS W0 n d A hd HY.out.tb;have HBo := kAA hBo
  have HCl : Hid (∀ V k, Hid (Q k V) → V.cell? ⟨d.q, 0, none⟩ = some (.pointer (some ⟨d.r, 0, none⟩)) ∧ V.cell? ⟨s0, 2, none⟩ = some (int i64 A)) := fun V k hq => by
   have hb := HBl.out V _ (HBo.out.frm hq.out) fun g hg => HLt.out g (liv4 (by rw [hD]; exact hg))
   exact ⟨hcl k V hq.out, by rw [kAC hb]; rfl⟩
  have HHe : Hid (∀ V, Hid (Q 0 V) → Calls prog 41 #[.pointer (some ⟨d.s, 0, none⟩)] V fun e w'' => e = .returned (.pointer (some ⟨d.a, 0, none⟩)) ∧ Hid (Q 0 w'')) := fun V hq => (kDk (hd.sp.fK (hq0 V hq.out))).mono fun e w'' ⟨h1, h2⟩ => ⟨h1, HBo.out.fK hq.out h2⟩
  have HP : Hid (∀ V, Hid (Q 0 V) → Calls prog 67 #[.pointer (some ⟨d.a, 0, none⟩), int i64 A] V fun e w'' => e = .returned (int i64 z) ∧ Hid (Q 1 w'')) := fun V hq => HBo.out.prog hq.out
  have HR : Hid (∀ V, Hid (Q 1 V) → Calls prog 69 #[.pointer (some ⟨d.r, 0, none⟩), int i64 A] V fun e w'' => e = .returned (int i64 z) ∧ Hid (Q 2 w'')) := fun V hq => HBo.out.docu hq.out
  have HZ : Hid (∀ V, Hid (Q 2 V) → kAP w n y V) := fun V hq => by
   obtain ⟨D', hp⟩ := HBo.out.done hq.out;rw [← hD] at hp;exact ⟨{ y with dA := D' }, a, ha, rfl, (HY.out.pair (n' := n + 4) (by omega) hp).more (by omega), (Go1.fK y HF0.out).trans (kBV hp)⟩
  have q0 : Hid (Q 0 W0.drew) := HBo.out.fK HBo.out.start (Fr.drew [] W0);rw [hD] at c0 c1;dsimp only [vO, vR] at c0 c1 ⊢;clear hBo HBo HY HBl HLt HF0 hd hcl hq0 hD HId;generalize d.s = ds at *;generalize d.a = da at *;generalize d.q = dq at *;generalize d.r = dr at *
  go_region_held3 (fun V => V.cell? ⟨dq, 0, none⟩ = some (.pointer (some ⟨dr, 0, none⟩)) ∧ V.cell? ⟨s0, 2, none⟩ = some (int i64 A))
   (first | exact HCl.out _ _ q2 | exact HCl.out _ _ q1 | exact HCl.out _ _ qh | exact HCl.out _ _ q0)
   (first | (go_at_call 41; refine (HHe.out _ q0).mono ?_; rintro e wh ⟨rfl, qh⟩) | (go_at_call 67; refine (HP.out _ qh).mono ?_; rintro e w1 ⟨rfl, q1⟩) | (go_at_call 6; refine (kAm _ _ (by omega) (by omega)).mono ?_; rintro e w' ⟨rfl, hw'⟩; subst hw') | (go_at_call 69; refine (HR.out _ q1).mono ?_; rintro e w2 ⟨rfl, q2⟩))
  all_goals go_wp2_with fail
  all_goals
   go_ret
   exact ⟨rfl, HZ.out _ q2⟩
theorem kQN (O A B X : Int) (ls : Value) (n a : Nat) (y : Wl) (w : World) (h : WOk w n a y) (ha : a ≤ 1) (hn : n ≤ 10000000) :
  Calls prog 32 #[.pointer (some ⟨y.b, 0, none⟩), stpV 14 O A B X ls, int i64 a] w fun e w' => e = .returned (.bool true) ∧ kAP w n y w' := by
 obtain ⟨HF0, HY, HBl, HLt, c0, c1, a1, a2, HId⟩ := kED 14 ls O A B X h ha;clear h;unfold stpV;go_enter func32, ntmps32
 go_wp2_with fail
 generalize w.alloc (.cells #[int i64 14, int i64 O, int i64 A, int i64 B, int i64 X, ls] 43) = W0 at *;obtain ⟨s0, hs0⟩ := jex (w.heap.size);rw [← hs0] at HBl HLt;rw [← hs0];clear hs0
 cases hD : y.dA with
 | none =>
  have HIn : Hid (∀ m, kAP w n y (W0.drewN m)) := fun m => HId.out _ (Fr.drewN [] _ _)
  rw [hD] at c0 c1;dsimp only [vO, vR] at c0 c1 ⊢;clear HId HY HBl HLt HF0 hD
  go_quiet (fail)
  all_goals go_wp2_with fail
  all_goals
   go_ret
   exact ⟨rfl, HIn.out _⟩
 | some d =>
  have hd : SdOk W0 n d := by have := HY.out.okA; rw [hD] at this; exact this
  obtain ⟨z, Q, hz, hBo, hcl, hq0⟩ := kNT W0 n d A hd HY.out.tb (by omega);have HBo := kAA hBo
  have HCl : Hid (∀ V k, Hid (Q k V) → V.cell? ⟨d.q, 0, none⟩ = some (.pointer (some ⟨d.r, 0, none⟩)) ∧ V.cell? ⟨s0, 2, none⟩ = some (int i64 A)) := fun V k hq => by
   have hb := HBl.out V _ (HBo.out.frm hq.out) fun g hg => HLt.out g (liv4 (by rw [hD]; exact hg))
   exact ⟨hcl k V hq.out, by rw [kAC hb]; rfl⟩
  have HHe : Hid (∀ V, Hid (Q 0 V) → Calls prog 41 #[.pointer (some ⟨d.s, 0, none⟩)] V fun e w'' => e = .returned (.pointer (some ⟨d.a, 0, none⟩)) ∧ Hid (Q 0 w'')) := fun V hq => (kDk (hd.sp.fK (hq0 V hq.out))).mono fun e w'' ⟨h1, h2⟩ => ⟨h1, HBo.out.fK hq.out h2⟩
  have HP : Hid (∀ V, Hid (Q 0 V) → Calls prog 70 #[.pointer (some ⟨d.a, 0, none⟩), int i64 A] V fun e w'' => e = .returned (int i64 z) ∧ Hid (Q 1 w'')) := fun V hq => HBo.out.prog hq.out
  have HR : Hid (∀ V, Hid (Q 1 V) → Calls prog 71 #[.pointer (some ⟨d.r, 0, none⟩), int i64 A] V fun e w'' => e = .returned (int i64 z) ∧ Hid (Q 2 w'')) := fun V hq => HBo.out.docu hq.out
  have HZ : Hid (∀ V, Hid (Q 2 V) → kAP w n y V) := fun V hq => by
   obtain ⟨D', hp⟩ := HBo.out.done hq.out;rw [← hD] at hp;exact ⟨{ y with dA := D' }, a, ha, rfl, (HY.out.pair (n' := n + 4) (by omega) hp).more (by omega), (Go1.fK y HF0.out).trans (kBV hp)⟩
  have q0 : Hid (Q 0 W0.drew) := HBo.out.fK HBo.out.start (Fr.drew [] W0);rw [hD] at c0 c1;dsimp only [vO, vR] at c0 c1 ⊢;clear hBo HBo HY HBl HLt HF0 hd hcl hq0 hD HId;generalize d.s = ds at *;generalize d.a = da at *;generalize d.q = dq at *;generalize d.r = dr at *
  go_region_held3 (fun V => V.cell? ⟨dq, 0, none⟩ = some (.pointer (some ⟨dr, 0, none⟩)) ∧ V.cell? ⟨s0, 2, none⟩ = some (int i64 A))
   (first | exact HCl.out _ _ q2 | exact HCl.out _ _ q1 | exact HCl.out _ _ qh | exact HCl.out _ _ q0)
   (first | (go_at_call 41; refine (HHe.out _ q0).mono ?_; rintro e wh ⟨rfl, qh⟩) | (go_at_call 70; refine (HP.out _ qh).mono ?_; rintro e w1 ⟨rfl, q1⟩) | (go_at_call 6; refine (kAm _ _ (by omega) (by omega)).mono ?_; rintro e w' ⟨rfl, hw'⟩; subst hw') | (go_at_call 71; refine (HR.out _ q1).mono ?_; rintro e w2 ⟨rfl, q2⟩))
  all_goals go_wp2_with fail
  all_goals
   go_ret
   exact ⟨rfl, HZ.out _ q2⟩
theorem bl_put (O A B X : Int) (ls : Value) (n a : Nat) (y : Wl) (w : World) (h : WOk w n a y) (ha : a ≤ 1) (hn : n ≤ 10000000) :
  Calls prog 32 #[.pointer (some ⟨y.b, 0, none⟩), stpV 13 O A B X ls, int i64 a] w fun e w' => e = .returned (.bool true) ∧ kAP w n y w' := by
 obtain ⟨HF0, HY, HBl, HLt, c0, c1, a1, a2, HId⟩ := kED 13 ls O A B X h ha;clear h;unfold stpV;go_enter func32, ntmps32
 go_wp2_with fail
 generalize w.alloc (.cells #[int i64 13, int i64 O, int i64 A, int i64 B, int i64 X, ls] 43) = W0 at *;obtain ⟨s0, hs0⟩ := jex (w.heap.size);rw [← hs0] at HBl HLt;rw [← hs0];clear hs0
 cases hD : y.dA with
 | none =>
  have HIn : Hid (∀ m, kAP w n y (W0.drewN m)) := fun m => HId.out _ (Fr.drewN [] _ _)
  rw [hD] at c0 c1;dsimp only [vO, vR] at c0 c1 ⊢;clear HId HY HBl HLt HF0 hD
  go_quiet (fail)
  all_goals go_wp2_with fail
  all_goals
   go_ret
   exact ⟨rfl, HIn.out _⟩
 | some d =>
  have hd : SdOk W0 n d := by have := HY.out.okA; rw [hD] at this; exact this
  obtain ⟨z, Q, hz, hBo, hcl, hq0⟩ := kPZ W0 n d A B X hd HY.out.tb;have HBo := kAA hBo
  have HCl : Hid (∀ V k, Hid (Q k V) → V.cell? ⟨d.q, 0, none⟩ = some (.pointer (some ⟨d.r, 0, none⟩)) ∧ V.cell? ⟨s0, 2, none⟩ = some (int i64 A) ∧ V.cell? ⟨s0, 3, none⟩ = some (int i64 B) ∧ V.cell? ⟨s0, 4, none⟩ = some (int i64 X)) := fun V k hq => by
   have hb := HBl.out V _ (HBo.out.frm hq.out) fun g hg => HLt.out g (liv4 (by rw [hD]; exact hg))
   exact ⟨hcl k V hq.out, by rw [kAC hb]; rfl, by rw [kAC hb]; rfl, by rw [kAC hb]; rfl⟩
  have HHe : Hid (∀ V, Hid (Q 0 V) → Calls prog 41 #[.pointer (some ⟨d.s, 0, none⟩)] V fun e w'' => e = .returned (.pointer (some ⟨d.a, 0, none⟩)) ∧ Hid (Q 0 w'')) := fun V hq => (kDk (hd.sp.fK (hq0 V hq.out))).mono fun e w'' ⟨h1, h2⟩ => ⟨h1, HBo.out.fK hq.out h2⟩
  have HP : Hid (∀ V, Hid (Q 0 V) → Calls prog 51 #[.pointer (some ⟨d.a, 0, none⟩), int i64 A, int i64 B, int i64 X] V fun e w'' => e = .returned (int i64 z) ∧ Hid (Q 1 w'')) := fun V hq => HBo.out.prog hq.out
  have HR : Hid (∀ V, Hid (Q 1 V) → Calls prog 52 #[.pointer (some ⟨d.r, 0, none⟩), int i64 A, int i64 B, int i64 X] V fun e w'' => e = .returned (int i64 z) ∧ Hid (Q 2 w'')) := fun V hq => HBo.out.docu hq.out
  have HZ : Hid (∀ V, Hid (Q 2 V) → kAP w n y V) := fun V hq => by
   obtain ⟨D', hp⟩ := HBo.out.done hq.out;rw [← hD] at hp;exact ⟨{ y with dA := D' }, a, ha, rfl, (HY.out.pair (n' := n + 4) (by omega) hp).more (by omega), (Go1.fK y HF0.out).trans (kBV hp)⟩
  have q0 : Hid (Q 0 W0.drew) := HBo.out.fK HBo.out.start (Fr.drew [] W0);rw [hD] at c0 c1;dsimp only [vO, vR] at c0 c1 ⊢;clear hBo HBo HY HBl HLt HF0 hd hcl hq0 hD HId;generalize d.s = ds at *;generalize d.a = da at *;generalize d.q = dq at *;generalize d.r = dr at *
  go_region_held3 (fun V => V.cell? ⟨dq, 0, none⟩ = some (.pointer (some ⟨dr, 0, none⟩)) ∧ V.cell? ⟨s0, 2, none⟩ = some (int i64 A) ∧ V.cell? ⟨s0, 3, none⟩ = some (int i64 B) ∧ V.cell? ⟨s0, 4, none⟩ = some (int i64 X))
   (first | exact HCl.out _ _ q2 | exact HCl.out _ _ q1 | exact HCl.out _ _ qh | exact HCl.out _ _ q0)
   (first | (go_at_call 41; refine (HHe.out _ q0).mono ?_; rintro e wh ⟨rfl, qh⟩) | (go_at_call 51; refine (HP.out _ qh).mono ?_; rintro e w1 ⟨rfl, q1⟩) | (go_at_call 6; refine (kAm _ _ (by omega) (by omega)).mono ?_; rintro e w' ⟨rfl, hw'⟩; subst hw') | (go_at_call 52; refine (HR.out _ q1).mono ?_; rintro e w2 ⟨rfl, q2⟩))
  all_goals go_wp2_with fail
  all_goals
   go_ret
   exact ⟨rfl, HZ.out _ q2⟩
theorem kPA (O A B X : Int) (ls : Value) (n a : Nat) (y : Wl) (w : World) (h : WOk w n a y) (ha : a ≤ 1) (hn : n ≤ 10000000) :
  Calls prog 32 #[.pointer (some ⟨y.b, 0, none⟩), stpV 15 O A B X ls, int i64 a] w fun e w' => e = .returned (.bool true) ∧ kAP w n y w' := by
 obtain ⟨HF0, HY, HBl, HLt, c0, c1, a1, a2, HId⟩ := kED 15 ls O A B X h ha;clear h;unfold stpV;go_enter func32, ntmps32
 go_wp2_with fail
 generalize w.alloc (.cells #[int i64 15, int i64 O, int i64 A, int i64 B, int i64 X, ls] 43) = W0 at *;obtain ⟨s0, hs0⟩ := jex (w.heap.size);rw [← hs0] at HBl HLt;rw [← hs0];clear hs0
 cases hD : y.dA with
 | none =>
  have HIn : Hid (∀ m, kAP w n y (W0.drewN m)) := fun m => HId.out _ (Fr.drewN [] _ _)
  rw [hD] at c0 c1;dsimp only [vO, vR] at c0 c1 ⊢;clear HId HY HBl HLt HF0 hD
  go_quiet (fail)
  all_goals go_wp2_with fail
  all_goals
   go_ret
   exact ⟨rfl, HIn.out _⟩
 | some d =>
  have hd : SdOk W0 n d := by have := HY.out.okA; rw [hD] at this; exact this
  obtain ⟨z, Q, hz, hBo, hcl, hq0⟩ := kNS W0 n d A B hd HY.out.tb (by omega);have HBo := kAA hBo
  have HCl : Hid (∀ V k, Hid (Q k V) → V.cell? ⟨d.q, 0, none⟩ = some (.pointer (some ⟨d.r, 0, none⟩)) ∧ V.cell? ⟨s0, 2, none⟩ = some (int i64 A) ∧ V.cell? ⟨s0, 3, none⟩ = some (int i64 B)) := fun V k hq => by
   have hb := HBl.out V _ (HBo.out.frm hq.out) fun g hg => HLt.out g (liv4 (by rw [hD]; exact hg))
   exact ⟨hcl k V hq.out, by rw [kAC hb]; rfl, by rw [kAC hb]; rfl⟩
  have HHe : Hid (∀ V, Hid (Q 0 V) → Calls prog 41 #[.pointer (some ⟨d.s, 0, none⟩)] V fun e w'' => e = .returned (.pointer (some ⟨d.a, 0, none⟩)) ∧ Hid (Q 0 w'')) := fun V hq => (kDk (hd.sp.fK (hq0 V hq.out))).mono fun e w'' ⟨h1, h2⟩ => ⟨h1, HBo.out.fK hq.out h2⟩
  have HP : Hid (∀ V, Hid (Q 0 V) → Calls prog 72 #[.pointer (some ⟨d.a, 0, none⟩), int i64 A, int i64 B] V fun e w'' => e = .returned (int i64 z) ∧ Hid (Q 1 w'')) := fun V hq => HBo.out.prog hq.out
  have HR : Hid (∀ V, Hid (Q 1 V) → Calls prog 73 #[.pointer (some ⟨d.r, 0, none⟩), int i64 A, int i64 B] V fun e w'' => e = .returned (int i64 z) ∧ Hid (Q 2 w'')) := fun V hq => HBo.out.docu hq.out
  have HZ : Hid (∀ V, Hid (Q 2 V) → kAP w n y V) := fun V hq => by
   obtain ⟨D', hp⟩ := HBo.out.done hq.out;rw [← hD] at hp;exact ⟨{ y with dA := D' }, a, ha, rfl, (HY.out.pair (n' := n + 4) (by omega) hp).more (by omega), (Go1.fK y HF0.out).trans (kBV hp)⟩
  have q0 : Hid (Q 0 W0.drew) := HBo.out.fK HBo.out.start (Fr.drew [] W0);rw [hD] at c0 c1;dsimp only [vO, vR] at c0 c1 ⊢;clear hBo HBo HY HBl HLt HF0 hd hcl hq0 hD HId;generalize d.s = ds at *;generalize d.a = da at *;generalize d.q = dq at *;generalize d.r = dr at *
  go_region_held3 (fun V => V.cell? ⟨dq, 0, none⟩ = some (.pointer (some ⟨dr, 0, none⟩)) ∧ V.cell? ⟨s0, 2, none⟩ = some (int i64 A) ∧ V.cell? ⟨s0, 3, none⟩ = some (int i64 B))
   (first | exact HCl.out _ _ q2 | exact HCl.out _ _ q1 | exact HCl.out _ _ qh | exact HCl.out _ _ q0)
   (first | (go_at_call 41; refine (HHe.out _ q0).mono ?_; rintro e wh ⟨rfl, qh⟩) | (go_at_call 72; refine (HP.out _ qh).mono ?_; rintro e w1 ⟨rfl, q1⟩) | (go_at_call 6; refine (kAm _ _ (by omega) (by omega)).mono ?_; rintro e w' ⟨rfl, hw'⟩; subst hw') | (go_at_call 73; refine (HR.out _ q1).mono ?_; rintro e w2 ⟨rfl, q2⟩))
  all_goals go_wp2_with fail
  all_goals
   go_ret
   exact ⟨rfl, HZ.out _ q2⟩
theorem kQR (K O A B X : Int) (ls : Value) (n a : Nat) (y : Wl) (w : World) (h : WOk w n a y) (ha : a ≤ 1) (hn : n ≤ 10000000) (k12 : K ≠ 12) (k13 : K ≠ 13) (k14 : K ≠ 14) (k15 : K ≠ 15) (k16 : K ≠ 16) (k17 : K ≠ 17) (k18 : K ≠ 18) :
  Calls prog 32 #[.pointer (some ⟨y.b, 0, none⟩), stpV K O A B X ls, int i64 a] w fun e w' => e = .returned (.bool true) ∧ kAP w n y w' := by
 obtain ⟨HF0, HY, HBl, HLt, c0, c1, a1, a2, HId⟩ := kED K ls O A B X h ha;clear h;unfold stpV;have e12 : (K == 12) = false := by simpa using k12
 have e13 : (K == 13) = false := by simpa using k13
 have e14 : (K == 14) = false := by simpa using k14
 have e15 : (K == 15) = false := by simpa using k15
 have e16 : (K == 16) = false := by simpa using k16
 have e17 : (K == 17) = false := by simpa using k17
 have e18 : (K == 18) = false := by simpa using k18
 clear k12 k13 k14 k15 k16 k17 k18;go_enter func32, ntmps32
 go_wp2_with fail
 go_ret
 exact ⟨rfl, HId.out _ (Fr.refl _ _)⟩
theorem kOw (O A B X : Int) (ls : Value) (n a : Nat) (y : Wl) (w : World) (h : WOk w n a y) (ha : a ≤ 1) (hn : n ≤ 10000000) :
  Calls prog 32 #[.pointer (some ⟨y.b, 0, none⟩), stpV 16 O A B X ls, int i64 a] w fun e w' => e = .returned (.bool true) ∧ kAP w n y w' := by
 obtain ⟨HF0, HY, HBl, HLt, c0, c1, a1, a2, HId⟩ := kED 16 ls O A B X h ha
 clear h
 unfold stpV
 go_enter func32, ntmps32
 go_wp2_with fail
 generalize hW0 : w.alloc (.cells #[int i64 16, int i64 O, int i64 A, int i64 B, int i64 X, ls] 43) = W0 at *
 obtain ⟨xs, hxs, h38, h39⟩ := kKy W0 n y.dA HY.out.okA
 have HSm : Hid (∀ V p1 c1 p2 c2 B1 B2, V.ownsRow B1 41 1 (.slice p1 xs.length c1) xs.length (xs.map (int i64)) → V.ownsRow B2 41 1 (.slice p2 xs.length c2) xs.length (xs.map (int i64)) → Calls prog 37 #[.slice p1 xs.length c1, .slice p2 xs.length c2] V fun e w' => e = .returned (.bool true) ∧ Fr [] V w') := fun V p1 c1 p2 c2 B1 B2 h1 h2 =>
  (kBw xs _ _ V (kCC h1 (by omega)) (kCC h2 (by omega))).mono fun e w' ⟨k1, m, k2⟩ => ⟨k1, by rw [k2]; exact Fr.drewN [] _ _⟩
 have H38 := kAA h38
 have H39 := kAA h39
 have Ekeep : ∀ {V V' : World} {B : Nat} {p : Option Addr} {c : Nat}, V.ownsRow B 41 1 (.slice p xs.length c) xs.length (xs.map (int i64)) → Fr [] V V' → V'.ownsRow B 41 1 (.slice p xs.length c) xs.length (xs.map (int i64)) := fun h hf => kAE h fun g hg => hf.block g (h.lt g hg).2 (by simp)
 have hA := ha
 have q0 : Hid (Fr [] W0 W0) := Fr.refl _ _
 have HBk : Hid (∀ V p1 c1 p2 c2 B2, Fr [] W0 V → V.ownsRow W0.heap.size 41 1 (.slice p1 xs.length c1) xs.length (xs.map (int i64)) → V.ownsRow B2 41 1 (.slice p2 xs.length c2) xs.length (xs.map (int i64)) → W0.heap.size ≤ B2 → (∀ g ∈ blk p1, g < B2) → Calls prog 74 #[.pointer (some ⟨y.b, 4, none⟩), .slice p1 xs.length c1] V fun e w1 => e = .returned (.tuple #[]) ∧ Hid (Calls prog 74 #[.pointer (some ⟨y.b, 4, none⟩), .slice p2 xs.length c2] w1 fun e w2 => e = .returned (.tuple #[]) ∧ Hid (kAP w n y w2))) := fun V p1 c1 p2 c2 B2 hV o1 o2 hB hlt => by
  have hz := hV.size
  have wk := HY.out.fK hV
  have own1 : ∀ g ∈ blk p1, W0.heap.size ≤ g ∧ g < V.heap.size := fun g hg => by
   cases p1 with
   | none => cases hg
   | some ad => have e : g = ad.block := (by simpa [blk] using hg); rw [e]; exact o1.lt ad.block rfl
  have own2 : ∀ g ∈ blk p2, B2 ≤ g ∧ g < V.heap.size := fun g hg => by
   cases p2 with
   | none => cases hg
   | some ad => have e : g = ad.block := (by simpa [blk] using hg); rw [e]; exact o2.lt ad.block rfl
  have nl : ∀ g, W0.heap.size ≤ g → ¬ Liv y g := fun g hg hm => by have := HY.out.lt hm; omega
  have cnt := wk.c1
  refine (kIN y.b (y.hd a) y.S ⟨p1, xs.length, c1⟩ xs V wk.bok rfl (kAV o1 (jAH _)) (by show xs.length ≤ _; omega) (by omega) (fun g hg hm => nl g (own1 g hg).1 (liv1 hm)) (fun hm => nl y.b (own1 y.b hm).1 liv0)).mono ?_
  rintro e w1 ⟨rfl, S1, s1, s2, b1, f1, al1⟩
  refine ⟨rfl, ?_⟩
  have z1 := f1.size
  have n12 : ∀ g ∈ blk p2, g ∉ blk p1 ++ y.b :: y.S.hot := fun g hg hm => by
   have g2 := own2 g hg
   rcases jAC.1 hm with q | q
   ·have := hlt g q; omega
   ·rcases jAF.1 q with q | q
    ·exact nl g (by omega) (q ▸ liv0)
    ·exact nl g (by omega) (liv1 (kBR q))
  have o2' : w1.ownsRow B2 41 1 (.slice p2 xs.length c2) xs.length (xs.map (int i64)) := kAE o2 fun g hg => f1.block g (o2.lt g hg).2 (n12 g (by
   cases p2 with
   | none => cases hg
   | some ad => have e : ad.block = g := (by simpa [Value.ownBlock] using hg); simp [blk, e]))
  have cnt1 : S1.olds.length + S1.news.length = y.S.olds.length + y.S.news.length + 1 := by rw [s1, s2]; omega
  refine (kIN y.b (y.hd a) S1 ⟨p2, xs.length, c2⟩ xs w1 b1 rfl (kAV o2' (jAH _)) (by show xs.length ≤ _; omega) (by omega) (fun g hg hm => ?_) (fun hm => nl y.b (by have := own2 y.b hm; omega) liv0)).mono ?_
  ·have g2 := own2 g hg
   rcases al1 g hm with q | q | q
   ·exact nl g (by omega) (liv1 q)
   ·have := hlt g q; omega
   ·omega
  rintro e w2 ⟨rfl, S2, t1, t2, b2, f2, al2⟩
  refine ⟨rfl, ?_⟩
  have z2 := f2.size
  have fr02 : Fr ((blk p1 ++ y.b :: y.S.hot) ++ (blk p2 ++ y.b :: S1.hot)) W0 w2 := ((hV.mono (by simp)).trans f1 fun g hg => .inl (jAC.2 (.inl hg))).trans f2 fun g hg => .inl (jAC.2 (.inr hg))
  have hX : ∀ g ∈ (blk p1 ++ y.b :: y.S.hot) ++ (blk p2 ++ y.b :: S1.hot), g = y.b ∨ g ∈ y.S.all ∨ W0.heap.size ≤ g := fun g hg => by
   rcases jAC.1 hg with hg | hg
   ·rcases jAC.1 hg with q | q
    ·exact .inr (.inr (own1 g q).1)
    ·rcases jAF.1 q with q | q
     ·exact .inl q
     ·exact .inr (.inl (kBR q))
   ·rcases jAC.1 hg with q | q
    ·exact .inr (.inr (by have := own2 g q; omega))
    ·rcases jAF.1 q with q | q
     ·exact .inl q
     ·rcases al1 g (kBR q) with u | u | u
      ·exact .inr (.inl u)
      ·exact .inr (.inr (own1 g u).1)
      ·exact .inr (.inr (by omega))
  have ha : ∀ g ∈ S2.all, g ∈ y.S.all ∨ W0.heap.size ≤ g := fun g hg => by
   rcases al2 g hg with q | q | q
   ·rcases al1 g q with u | u | u
    ·exact .inl u
    ·exact .inr (own1 g u).1
    ·exact .inr (by omega)
   ·exact .inr (by have := own2 g q; omega)
   ·exact .inr (by omega)
  have cnt2 : S2.olds.length + S2.news.length = S1.olds.length + S1.news.length + 1 := by rw [t1, t2]; omega
  exact ⟨{ y with S := S2 }, a, hA, rfl, HY.out.book (n' := n + 8) (by omega) b2 fr02 hX ha (by omega), (Go1.fK y HF0.out).trans (kJx fr02 hX ha)⟩
 clear h38 h39 HY HBl HLt HF0 HId hW0
 generalize vO y.dA = vo at *
 generalize vR y.dA = vr at *
 refine (H38.out _ q0).mono ?_
 rintro e w1 ⟨p1, k1, rfl, o1, f1⟩
 have q1 := kBT q0 f1
 go_wp2_with fail
 refine (H38.out _ q1).mono ?_
 rintro e w2 ⟨p2, k2, rfl, o2, f2⟩
 have q2 := kBT q1 f2
 go_wp2_with fail
 refine (H39.out _ q2).mono ?_
 rintro e w3 ⟨p3, k3, rfl, o3, f3⟩
 have q3 := kBT q2 f3
 go_wp2_with fail
 refine (HSm.out _ _ _ _ _ _ _ (Ekeep (Ekeep o1 f2) f3) o3).mono ?_
 rintro e w4 ⟨rfl, f4⟩
 have q4 := kBT q3 f4
 go_wp2_with fail
 refine (H39.out _ q4).mono ?_
 rintro e w5 ⟨p5, k5, rfl, o5, f5⟩
 have q5 := kBT q4 f5
 go_wp2_with fail
 refine (HSm.out _ _ _ _ _ _ _ (Ekeep (Ekeep (Ekeep o2 f3) f4) f5) o5).mono ?_
 rintro e w6 ⟨rfl, f6⟩
 have q6 := kBT q5 f6
 have HB := kAA (HBk.out w6 p1 k1 p2 k2 w1.heap.size q6.out (Ekeep (Ekeep (Ekeep (Ekeep (Ekeep o1 f2) f3) f4) f5) f6) (Ekeep (Ekeep (Ekeep (Ekeep o2 f3) f4) f5) f6) f1.size (fun g hg => by
  cases p1 with
  | none => cases hg
  | some ad => have e : g = ad.block := (by simpa [blk] using hg); rw [e]; exact (o1.lt ad.block rfl).2))
 clear o1 o2 o3 o5 f1 f2 f3 f4 f5 f6 HBk HSm H38 H39 q0 q1 q2 q3 q4 q5 q6
 go_wp2_with fail
 refine HB.out.mono ?_
 rintro e w7 ⟨rfl, h7⟩
 go_wp2_with fail
 refine h7.out.mono ?_
 rintro e w8 ⟨rfl, h8⟩
 clear h7 HB
 go_wp2_with fail
 go_ret
 exact ⟨rfl, h8.out⟩
theorem kFH (K O A B X : Int) (pl : Option Addr) (ln cl : Nat) (v : Value) (w : World) (h : NoS w v) : Calls prog 80 #[v, stpV K O A B X (.slice pl ln cl)] w fun e w' => e = .returned (.bool true) ∧ Fr [] w w' := by
 obtain ⟨W, hW⟩ := jxe (w.alloc (.cells #[int i64 K, int i64 O, int i64 A, int i64 B, int i64 X, .slice pl ln cl] 43));have hf : Fr [] w W := by rw [← hW]; exact Fr.alloc [] _ _
 have hb : W.heap[w.heap.size]? = some (.cells #[int i64 K, int i64 O, int i64 A, int i64 B, int i64 X, .slice pl ln cl] 43 (0, 0)) := by rw [← hW]; exact heap_alloc_new w _
 have HN := kAA (h.fK hf);have HF := kAA hf;obtain ⟨s0, hs0⟩ := jxe (w.heap.size);rw [hs0] at hb;have c2 : W.cell? ⟨s0, 2, none⟩ = some (int i64 A) := by rw [kAC hb]; rfl
 have c3 : W.cell? ⟨s0, 3, none⟩ = some (int i64 B) := by rw [kAC hb]; rfl
 have c4 : W.cell? ⟨s0, 4, none⟩ = some (int i64 X) := by rw [kAC hb]; rfl
 have c5 : W.cell? ⟨s0, 5, none⟩ = some (.slice pl ln cl) := by rw [kAC hb]; rfl
 have HW := kAA hW;have Hs := kAA hs0;clear h hf hW hb hs0;unfold stpV;go_enter func80, ntmps80
 go_wp2_with fail
 rw [HW.out, Hs.out];refine Calls.mono (kIG v X A B W HN.out) ?_; rintro e w' ⟨rfl, hw'⟩; rw [hw']; clear hw' w'
 go_wp2_with (first | (go_at_call 13; refine Calls.mono (kIG v X A B W HN.out) ?_; rintro e w' ⟨rfl, hw'⟩; rw [hw']; clear hw' w') | (go_at_call 17; refine Calls.mono (kLu v A W HN.out) ?_; rintro e w' ⟨rfl, hw'⟩; rw [hw']; clear hw' w') | (go_at_call 19; refine Calls.mono (kOW v A W HN.out) ?_; rintro e w' ⟨rfl, hw'⟩; rw [hw']; clear hw' w') | (go_at_call 15; refine Calls.mono (kGz v A X W HN.out) ?_; rintro e w' ⟨rfl, hw'⟩; rw [hw']; clear hw' w') | (go_at_call 57; refine Calls.mono (kKf v pl ln cl W HN.out) ?_; rintro e w' ⟨rfl, hw'⟩; rw [hw']; clear hw' w') | (go_at_call 22; refine Calls.mono (kOK v A W HN.out) ?_; rintro e w' ⟨rfl, hw'⟩; rw [hw']; clear hw' w') | (go_at_call 24; refine Calls.mono (kEg v W HN.out) ?_; rintro e w' ⟨rfl, hw'⟩; rw [hw']; clear hw' w') | (go_at_call 26; refine Calls.mono (kMH v W HN.out) ?_; rintro e w' ⟨rfl, hw'⟩; rw [hw']; clear hw' w') | (go_at_call 28; refine Calls.mono (kLm v W HN.out) ?_; rintro e w' ⟨rfl, hw'⟩; rw [hw']; clear hw' w') | (go_at_call 30; refine Calls.mono (kIc v W HN.out) ?_; rintro e w' ⟨rfl, hw'⟩; rw [hw']; clear hw' w') | (go_at_call 33; refine Calls.mono (kON v W HN.out) ?_; rintro e w' ⟨rfl, hw'⟩; rw [hw']; clear hw' w') | (go_at_call 35; refine Calls.mono (kHB v W HN.out) ?_; rintro e w' ⟨rfl, hw'⟩; rw [hw']; clear hw' w') | (go_at_call 38; refine Calls.mono (kOV v W HN.out) ?_; rintro e w' ⟨rfl, hw'⟩; rw [hw']; clear hw' w') | (go_at_call 41; refine Calls.mono (nsHeap v W HN.out) ?_; rintro e w' ⟨rfl, hw'⟩; rw [hw']; clear hw' w') | (go_at_call 6; refine (kAm _ _ (by omega) (by omega)).mono ?_; rintro e w' ⟨rfl, hw'⟩; rw [hw']; clear hw' w'))
 go_ret
 exact ⟨rfl, HF.out⟩
theorem kMd (w V : World) (g : Nat) (hb : V.heap[g]? = some (.cells #[.pointer none, .pointer none, int i64 0, int i64 0, int i64 0, .slice none 0 0, .pointer none] 96 (0, 0))) : NoS V (.pointer (some ⟨g, 0, none⟩)) := fun U hU => by
 have hb2 := (hU.block g (kAB hb) (by simp)).trans hb;have c0 : U.cell? ⟨g, 0, none⟩ = some (.pointer none) := by rw [kAC hb2]; rfl
 obtain ⟨j, hj⟩ := jAv.1 kOe;have hq := kGO U ⟨g, 0, none⟩ underlying23 hj;clear hb hb2 hj;go_enter func45, ntmps45
 go_wp2
 go_ret
 exact ⟨rfl, rfl⟩
theorem bl_nil (O A B X : Int) (pl : Option Addr) (ln cl : Nat) (n a : Nat) (y : Wl) (w : World) (h : WOk w n a y) (ha : a ≤ 1) (hn : n ≤ 10000000) :
  Calls prog 32 #[.pointer (some ⟨y.b, 0, none⟩), stpV 18 O A B X (.slice pl ln cl), int i64 a] w fun e w' => e = .returned (.bool true) ∧ kAP w n y w' := by
 obtain ⟨HF0, HY, HBl, HLt, c0, c1, a1, a2, HId⟩ := kED 18 (.slice pl ln cl) O A B X h ha;clear h;unfold stpV;obtain ⟨W0, hW0⟩ := jxe (w.alloc (.cells #[int i64 18, int i64 O, int i64 A, int i64 B, int i64 X, .slice pl ln cl] 43));rw [hW0] at HY HId HF0 c0 c1;have hb0 : W0.heap[w.heap.size]? = some (.cells #[int i64 18, int i64 O, int i64 A, int i64 B, int i64 X, .slice pl ln cl] 43 (0, 0)) := by rw [← hW0]; exact heap_alloc_new w _
 have HN1 := kAA (kFH 18 O A B X pl ln cl (.pointer none) W0 (kBf W0));unfold stpV at HN1;have HB0 : Hid (∀ V, Fr [] W0 V → V.heap[w.heap.size]? = some (.cells #[int i64 18, int i64 O, int i64 A, int i64 B, int i64 X, .slice pl ln cl] 43 (0, 0))) := fun V hV => (hV.block _ (kAB hb0) (by simp)).trans hb0
 obtain ⟨s0, hs0⟩ := jxe (w.heap.size);have HW := kAA hW0;have Hs := kAA hs0;rw [hs0] at HB0 hb0
 have HCs : Hid (∀ V : World, V.heap[s0]? = some (.cells #[int i64 18, int i64 O, int i64 A, int i64 B, int i64 X, .slice pl ln cl] 43 (0, 0)) → V.cell? ⟨s0, 0, none⟩ = some (int i64 18) ∧ V.cell? ⟨s0, 1, none⟩ = some (int i64 O) ∧ V.cell? ⟨s0, 2, none⟩ = some (int i64 A) ∧ V.cell? ⟨s0, 3, none⟩ = some (int i64 B) ∧ V.cell? ⟨s0, 4, none⟩ = some (int i64 X) ∧ V.cell? ⟨s0, 5, none⟩ = some (.slice pl ln cl)) := fun V hb => by
  refine ⟨?_, ?_, ?_, ?_, ?_, ?_⟩ <;> (rw [kAC hb]; rfl)
 obtain ⟨d0, d1, d2, d3, d4, d5⟩ := HCs.out W0 hb0;clear HBl HLt HY HF0 hW0 hs0 hb0;generalize vO y.dA = vo at *;generalize vR y.dA = vr at *;rw [← HW.out] at c0 c1;go_enter func32, ntmps32
 go_wp2_with fail
 rw [HW.out, Hs.out];refine HN1.out.mono ?_;rintro e w1 ⟨rfl, f1⟩;have hb1 := HB0.out w1 f1;obtain ⟨d0, d1, d2, d3, d4, d5⟩ := HCs.out w1 hb1;obtain ⟨W2, hW2⟩ := jxe (w1.alloc (.cells #[.pointer none, .pointer none, int i64 0, int i64 0, int i64 0, .slice none 0 0, .pointer none] 96));have f2 : Fr [] w1 W2 := by rw [← hW2]; exact Fr.alloc [] _ _
 have hz : W2.heap[w1.heap.size]? = some (.cells #[.pointer none, .pointer none, int i64 0, int i64 0, int i64 0, .slice none 0 0, .pointer none] 96 (0, 0)) := by rw [← hW2]; exact heap_alloc_new w1 _
 have HN2 := kAA (kFH 18 O A B X pl ln cl (.pointer (some ⟨w1.heap.size, 0, none⟩)) W2 (kMd w W2 _ hz));unfold stpV at HN2;have HW2 := kAA hW2;have HF2 := kAA (f1.trans f2 (by simp));have HBW := kAA (HB0.out W2 HF2.out);obtain ⟨d0, d1, d2, d3, d4, d5⟩ := HCs.out W2 HBW.out;clear HN1 f1 f2 hz hb1 HW2
 go_wp2_with fail
 refine HN2.out.mono ?_;rintro e w3 ⟨rfl, f3⟩;have HZ := kAA (HId.out w3 (HF2.out.trans f3 (by simp)));clear HN2 f3 HId
 go_wp2_with fail
 go_ret
 exact ⟨rfl, HZ.out⟩
end Go.Proofs.YtflgicdbbogllaaGreatDoor
