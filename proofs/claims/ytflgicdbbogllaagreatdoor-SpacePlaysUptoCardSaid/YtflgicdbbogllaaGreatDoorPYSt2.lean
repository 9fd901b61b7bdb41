import Derived.Test.YtflgicdbbogllaaGreatDoorPG31YBl4
set_option maxHeartbeats 4000000
set_option maxRecDepth 20000
set_option linter.unusedSimpArgs false
set_option linter.unusedVariables false
namespace Go.Proofs.YtflgicdbbogllaaGreatDoor
open Go.RowKit Go.Maps Tryz
open Value (int)
open IntKind (i64)
attribute [local go_sem ↓] wp_at_zero wp_at_succ
theorem kMO (O A B X : Int) (ls : Value) (n t : Nat) (x : Wl) (w : World) (h : WOk w n t x) (ht : t ≤ 1) (hn : n ≤ 10000000) :
  Calls prog 7 #[.pointer (some ⟨x.b, 0, none⟩), stpV 1 O A B X ls] w fun e w' => e = .returned (.bool true) ∧ kAP w n x w' := by
 obtain ⟨r, s, a, y, e1, e2, e3, ha, e4, e5, hyb, HSt, HF0, HY, HBl, HLt, c0, c1, a1, a2⟩ := kCo 1 ls O A B X h ht;rw [← hyb];clear h hyb;unfold stpV;go_enter func7, ntmps7
 go_wp2_with fail
 generalize w.alloc (.cells #[int i64 1, int i64 O, int i64 A, int i64 B, int i64 X, ls] 43) = W0 at *;obtain ⟨s0, hs0⟩ := jex (w.heap.size);rw [← hs0] at HBl HLt;rw [← hs0];clear hs0;obtain ⟨z1, z2, Q, hz, hBo⟩ := kIZ W0 n y.dA X A B HY.out.okA HY.out.tb (by omega);have HBo := kAA hBo
 have HCl : Hid (∀ V k, Hid (Q k V) → V.cell? ⟨s0, 2, none⟩ = some (int i64 A) ∧ V.cell? ⟨s0, 3, none⟩ = some (int i64 B) ∧ V.cell? ⟨s0, 4, none⟩ = some (int i64 X)) := fun V k hq => by
  have hb := HBl.out V _ (HBo.out.frm hq.out) fun g hg => HLt.out g (liv4 hg)
  exact ⟨by rw [kAC hb]; rfl, by rw [kAC hb]; rfl, by rw [kAC hb]; rfl⟩
 have HP : Hid (∀ V, Hid (Q 0 V) → Calls prog 13 #[vO y.dA, int i64 X, int i64 A, int i64 B] V fun e w'' => e = .returned (.tuple #[int i64 z1, int i64 z2]) ∧ Hid (Q 1 w'')) := fun V hq => HBo.out.prog hq.out
 have HR : Hid (∀ V, Hid (Q 1 V) → Calls prog 14 #[vR y.dA, int i64 X, int i64 A, int i64 B] V fun e w'' => e = .returned (.tuple #[int i64 z1, int i64 z2]) ∧ Hid (Q 2 w'')) := fun V hq => HBo.out.docu hq.out
 have HZ : Hid (∀ V, Hid (Q 2 V) → kAP w n x V) := fun V hq => by
  obtain ⟨D', hp⟩ := HBo.out.done hq.out;exact HSt.out V ⟨{ y with dA := D' }, a, ha, rfl, (HY.out.pair (n' := n + 4) (by omega) hp).more (by omega), (Go1.fK y HF0.out).trans (kBV hp)⟩
 have q0 : Hid (Q 0 W0) := HBo.out.start;clear hBo HBo HY HBl HLt HF0 HSt c0 c1;generalize vO y.dA = vo at *;generalize vR y.dA = vr at *;refine (HP.out _ q0).mono ?_;rintro e w1 ⟨rfl, q1⟩;obtain ⟨y2, y3, y4⟩ := HCl.out _ _ q1
 go_wp2_with (first | (go_at_call 6; refine (kAm _ _ (by omega) (by omega)).mono ?_; rintro e w' ⟨rfl, hw'⟩; subst hw') | (go_at_call 14; refine (HR.out _ q1).mono ?_; rintro e w2 ⟨rfl, q2⟩))
 go_ret
 exact ⟨rfl, HZ.out _ q2⟩
theorem kQI (O A B X : Int) (ls : Value) (n t : Nat) (x : Wl) (w : World) (h : WOk w n t x) (ht : t ≤ 1) (hn : n ≤ 10000000) :
  Calls prog 7 #[.pointer (some ⟨x.b, 0, none⟩), stpV 4 O A B X ls] w fun e w' => e = .returned (.bool true) ∧ kAP w n x w' := by
 obtain ⟨r, s, a, y, e1, e2, e3, ha, e4, e5, hyb, HSt, HF0, HY, HBl, HLt, c0, c1, a1, a2⟩ := kCo 4 ls O A B X h ht;rw [← hyb];clear h hyb;unfold stpV;go_enter func7, ntmps7
 go_wp2_with fail
 generalize w.alloc (.cells #[int i64 4, int i64 O, int i64 A, int i64 B, int i64 X, ls] 43) = W0 at *;obtain ⟨s0, hs0⟩ := jex (w.heap.size);rw [← hs0] at HBl HLt;rw [← hs0];clear hs0;obtain ⟨z1, z2, Q, hz, hBo⟩ := kPk W0 n y.dA A HY.out.okA HY.out.tb;have HBo := kAA hBo
 have HCl : Hid (∀ V k, Hid (Q k V) → V.cell? ⟨s0, 2, none⟩ = some (int i64 A)) := fun V k hq => by
  have hb := HBl.out V _ (HBo.out.frm hq.out) fun g hg => HLt.out g (liv4 hg)
  exact by rw [kAC hb]; rfl
 have HP : Hid (∀ V, Hid (Q 0 V) → Calls prog 19 #[vO y.dA, int i64 A] V fun e w'' => e = .returned (.tuple #[int i64 z1, int i64 z2]) ∧ Hid (Q 1 w'')) := fun V hq => HBo.out.prog hq.out
 have HR : Hid (∀ V, Hid (Q 1 V) → Calls prog 20 #[vR y.dA, int i64 A] V fun e w'' => e = .returned (.tuple #[int i64 z1, int i64 z2]) ∧ Hid (Q 2 w'')) := fun V hq => HBo.out.docu hq.out
 have HZ : Hid (∀ V, Hid (Q 2 V) → kAP w n x V) := fun V hq => by
  obtain ⟨D', hp⟩ := HBo.out.done hq.out;exact HSt.out V ⟨{ y with dA := D' }, a, ha, rfl, (HY.out.pair (n' := n + 4) (by omega) hp).more (by omega), (Go1.fK y HF0.out).trans (kBV hp)⟩
 have q0 : Hid (Q 0 W0) := HBo.out.start;clear hBo HBo HY HBl HLt HF0 HSt c0 c1;generalize vO y.dA = vo at *;generalize vR y.dA = vr at *;refine (HP.out _ q0).mono ?_;rintro e w1 ⟨rfl, q1⟩;have y2 := HCl.out _ _ q1
 go_wp2_with (first | (go_at_call 6; refine (kAm _ _ (by omega) (by omega)).mono ?_; rintro e w' ⟨rfl, hw'⟩; subst hw') | (go_at_call 20; refine (HR.out _ q1).mono ?_; rintro e w2 ⟨rfl, q2⟩))
 go_ret
 exact ⟨rfl, HZ.out _ q2⟩
theorem kJI (O A B X : Int) (ls : Value) (n t : Nat) (x : Wl) (w : World) (h : WOk w n t x) (ht : t ≤ 1) (hn : n ≤ 10000000) :
  Calls prog 7 #[.pointer (some ⟨x.b, 0, none⟩), stpV 8 O A B X ls] w fun e w' => e = .returned (.bool true) ∧ kAP w n x w' := by
 obtain ⟨r, s, a, y, e1, e2, e3, ha, e4, e5, hyb, HSt, HF0, HY, HBl, HLt, c0, c1, a1, a2⟩ := kCo 8 ls O A B X h ht;rw [← hyb];clear h hyb;unfold stpV;go_enter func7, ntmps7
 go_wp2_with fail
 generalize w.alloc (.cells #[int i64 8, int i64 O, int i64 A, int i64 B, int i64 X, ls] 43) = W0 at *;obtain ⟨s0, hs0⟩ := jex (w.heap.size);rw [← hs0] at HBl HLt;rw [← hs0];clear hs0;obtain ⟨z1, z2, z3, Q, hz, hBo⟩ := kJG W0 n y.dA HY.out.okA HY.out.tb (by omega);have HBo := kAA hBo;have HP : Hid (∀ V, Hid (Q 0 V) → Calls prog 24 #[vO y.dA] V fun e w'' => e = .returned (.tuple #[int i64 z1, int i64 z2, int i64 z3]) ∧ Hid (Q 1 w'')) := fun V hq => HBo.out.prog hq.out
 have HR : Hid (∀ V, Hid (Q 1 V) → Calls prog 25 #[vR y.dA] V fun e w'' => e = .returned (.tuple #[int i64 z1, int i64 z2, int i64 z3]) ∧ Hid (Q 2 w'')) := fun V hq => HBo.out.docu hq.out
 have HZ : Hid (∀ V, Hid (Q 2 V) → kAP w n x V) := fun V hq => by
  obtain ⟨D', hp⟩ := HBo.out.done hq.out;exact HSt.out V ⟨{ y with dA := D' }, a, ha, rfl, (HY.out.pair (n' := n + 4) (by omega) hp).more (by omega), (Go1.fK y HF0.out).trans (kBV hp)⟩
 have q0 : Hid (Q 0 W0) := HBo.out.start;clear hBo HBo HY HBl HLt HF0 HSt c0 c1;generalize vO y.dA = vo at *;generalize vR y.dA = vr at *;refine (HP.out _ q0).mono ?_;rintro e w1 ⟨rfl, q1⟩
 skip
 go_wp2_with (first | (go_at_call 6; refine (kAm _ _ (by omega) (by omega)).mono ?_; rintro e w' ⟨rfl, hw'⟩; subst hw') | (go_at_call 25; refine (HR.out _ q1).mono ?_; rintro e w2 ⟨rfl, q2⟩))
 go_ret
 exact ⟨rfl, HZ.out _ q2⟩
theorem kNd (O A B X : Int) (ls : Value) (n t : Nat) (x : Wl) (w : World) (h : WOk w n t x) (ht : t ≤ 1) (hn : n ≤ 10000000) :
  Calls prog 7 #[.pointer (some ⟨x.b, 0, none⟩), stpV 9 O A B X ls] w fun e w' => e = .returned (.bool true) ∧ kAP w n x w' := by
 obtain ⟨r, s, a, y, e1, e2, e3, ha, e4, e5, hyb, HSt, HF0, HY, HBl, HLt, c0, c1, a1, a2⟩ := kCo 9 ls O A B X h ht;rw [← hyb];clear h hyb;unfold stpV;go_enter func7, ntmps7
 go_wp2_with fail
 generalize w.alloc (.cells #[int i64 9, int i64 O, int i64 A, int i64 B, int i64 X, ls] 43) = W0 at *;obtain ⟨s0, hs0⟩ := jex (w.heap.size);rw [← hs0] at HBl HLt;rw [← hs0];clear hs0;obtain ⟨z, Q, hz, hBo⟩ := kND W0 n y.dA HY.out.okA HY.out.tb (by omega);have HBo := kAA hBo;have HP : Hid (∀ V, Hid (Q 0 V) → Calls prog 26 #[vO y.dA] V fun e w'' => e = .returned (int i64 z) ∧ Hid (Q 1 w'')) := fun V hq => HBo.out.prog hq.out
 have HR : Hid (∀ V, Hid (Q 1 V) → Calls prog 27 #[vR y.dA] V fun e w'' => e = .returned (int i64 z) ∧ Hid (Q 2 w'')) := fun V hq => HBo.out.docu hq.out
 have HZ : Hid (∀ V, Hid (Q 2 V) → kAP w n x V) := fun V hq => by
  obtain ⟨D', hp⟩ := HBo.out.done hq.out;exact HSt.out V ⟨{ y with dA := D' }, a, ha, rfl, (HY.out.pair (n' := n + 4) (by omega) hp).more (by omega), (Go1.fK y HF0.out).trans (kBV hp)⟩
 have q0 : Hid (Q 0 W0) := HBo.out.start;clear hBo HBo HY HBl HLt HF0 HSt c0 c1;generalize vO y.dA = vo at *;generalize vR y.dA = vr at *;refine (HP.out _ q0).mono ?_;rintro e w1 ⟨rfl, q1⟩
 skip
 go_wp2_with (first | (go_at_call 6; refine (kAm _ _ (by omega) (by omega)).mono ?_; rintro e w' ⟨rfl, hw'⟩; subst hw') | (go_at_call 27; refine (HR.out _ q1).mono ?_; rintro e w2 ⟨rfl, q2⟩))
 go_ret
 exact ⟨rfl, HZ.out _ q2⟩
theorem kNs (O A B X : Int) (ls : Value) (n t : Nat) (x : Wl) (w : World) (h : WOk w n t x) (ht : t ≤ 1) (hn : n ≤ 10000000) :
  Calls prog 7 #[.pointer (some ⟨x.b, 0, none⟩), stpV 10 O A B X ls] w fun e w' => e = .returned (.bool true) ∧ kAP w n x w' := by
 obtain ⟨r, s, a, y, e1, e2, e3, ha, e4, e5, hyb, HSt, HF0, HY, HBl, HLt, c0, c1, a1, a2⟩ := kCo 10 ls O A B X h ht;rw [← hyb];clear h hyb;unfold stpV;go_enter func7, ntmps7
 go_wp2_with fail
 generalize w.alloc (.cells #[int i64 10, int i64 O, int i64 A, int i64 B, int i64 X, ls] 43) = W0 at *;obtain ⟨s0, hs0⟩ := jex (w.heap.size);rw [← hs0] at HBl HLt;rw [← hs0];clear hs0;obtain ⟨z, Q, hz, hBo⟩ := kMV W0 n y.dA HY.out.okA HY.out.tb (by omega);have HBo := kAA hBo;have HP : Hid (∀ V, Hid (Q 0 V) → Calls prog 28 #[vO y.dA] V fun e w'' => e = .returned (int i64 z) ∧ Hid (Q 1 w'')) := fun V hq => HBo.out.prog hq.out
 have HR : Hid (∀ V, Hid (Q 1 V) → Calls prog 29 #[vR y.dA] V fun e w'' => e = .returned (int i64 z) ∧ Hid (Q 2 w'')) := fun V hq => HBo.out.docu hq.out
 have HZ : Hid (∀ V, Hid (Q 2 V) → kAP w n x V) := fun V hq => by
  obtain ⟨D', hp⟩ := HBo.out.done hq.out;exact HSt.out V ⟨{ y with dA := D' }, a, ha, rfl, (HY.out.pair (n' := n + 4) (by omega) hp).more (by omega), (Go1.fK y HF0.out).trans (kBV hp)⟩
 have q0 : Hid (Q 0 W0) := HBo.out.start;clear hBo HBo HY HBl HLt HF0 HSt c0 c1;generalize vO y.dA = vo at *;generalize vR y.dA = vr at *;refine (HP.out _ q0).mono ?_;rintro e w1 ⟨rfl, q1⟩
 skip
 go_wp2_with (first | (go_at_call 6; refine (kAm _ _ (by omega) (by omega)).mono ?_; rintro e w' ⟨rfl, hw'⟩; subst hw') | (go_at_call 29; refine (HR.out _ q1).mono ?_; rintro e w2 ⟨rfl, q2⟩))
 go_ret
 exact ⟨rfl, HZ.out _ q2⟩
theorem kLo (O A B X : Int) (ls : Value) (n t : Nat) (x : Wl) (w : World) (h : WOk w n t x) (ht : t ≤ 1) (hn : n ≤ 10000000) :
  Calls prog 7 #[.pointer (some ⟨x.b, 0, none⟩), stpV 11 O A B X ls] w fun e w' => e = .returned (.bool true) ∧ kAP w n x w' := by
 obtain ⟨r, s, a, y, e1, e2, e3, ha, e4, e5, hyb, HSt, HF0, HY, HBl, HLt, c0, c1, a1, a2⟩ := kCo 11 ls O A B X h ht;rw [← hyb];clear h hyb;unfold stpV;go_enter func7, ntmps7
 go_wp2_with fail
 generalize w.alloc (.cells #[int i64 11, int i64 O, int i64 A, int i64 B, int i64 X, ls] 43) = W0 at *;obtain ⟨s0, hs0⟩ := jex (w.heap.size);rw [← hs0] at HBl HLt;rw [← hs0];clear hs0;obtain ⟨z, Q, hz, hBo⟩ := kKw W0 n y.dA HY.out.okA HY.out.tb;have HBo := kAA hBo;have HP : Hid (∀ V, Hid (Q 0 V) → Calls prog 30 #[vO y.dA] V fun e w'' => e = .returned (int i64 z) ∧ Hid (Q 1 w'')) := fun V hq => HBo.out.prog hq.out
 have HR : Hid (∀ V, Hid (Q 1 V) → Calls prog 31 #[vR y.dA] V fun e w'' => e = .returned (int i64 z) ∧ Hid (Q 2 w'')) := fun V hq => HBo.out.docu hq.out
 have HZ : Hid (∀ V, Hid (Q 2 V) → kAP w n x V) := fun V hq => by
  obtain ⟨D', hp⟩ := HBo.out.done hq.out;exact HSt.out V ⟨{ y with dA := D' }, a, ha, rfl, (HY.out.pair (n' := n + 4) (by omega) hp).more (by omega), (Go1.fK y HF0.out).trans (kBV hp)⟩
 have q0 : Hid (Q 0 W0) := HBo.out.start;clear hBo HBo HY HBl HLt HF0 HSt c0 c1;generalize vO y.dA = vo at *;generalize vR y.dA = vr at *;refine (HP.out _ q0).mono ?_;rintro e w1 ⟨rfl, q1⟩
 skip
 go_wp2_with (first | (go_at_call 6; refine (kAm _ _ (by omega) (by omega)).mono ?_; rintro e w' ⟨rfl, hw'⟩; subst hw') | (go_at_call 31; refine (HR.out _ q1).mono ?_; rintro e w2 ⟨rfl, q2⟩))
 go_ret
 exact ⟨rfl, HZ.out _ q2⟩
end Go.Proofs.YtflgicdbbogllaaGreatDoor
