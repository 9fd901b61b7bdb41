import Derived.Test.YtflgicdbbogllaaGreatDoorPG15HPlQ
import Derived.Test.YtflgicdbbogllaaGreatDoorPG17HRefO
set_option maxHeartbeats 4000000
set_option maxRecDepth 20000
set_option linter.unusedSimpArgs false
set_option linter.unusedVariables false
namespace Go.Proofs.YtflgicdbbogllaaGreatDoor
open Go.RowKit Tryz
open Value (int)
open IntKind (i64)
attribute [local go_sem ↓] wp_at_zero wp_at_succ
variable {B g q r : Nat} {H : HS} {M : MS} {R : RS} {V W w w' : World} {lv : Value} {o : RO}
def kBF (r : Nat) (R : RS) : List Nat := r :: (R.ov.ownBlock.toList ++ R.fE.flatMap (fun o => o.v.ownBlock.toList))
theorem kCV (h : R.ov.ownBlock = some g) : g ∈ kBF r R := by unfold kBF; rw [h]; simp
theorem kDE (ho : o ∈ R.fE) (h : o.v.ownBlock = some g) : g ∈ kBF r R := by
 unfold kBF;refine jAr _ (List.mem_append_right _ (jAd.2 ⟨o, ho, ?_⟩));rw [h]; simp
theorem RRep.keepF {S : List Nat} (h : RRep w 0 r R) (hf : Fr S w w') (hd : ∀ g ∈ kBF r R, g ∉ S) : RRep w' 0 r R :=
 ⟨h.lo, (hf.block r (kAB h.top) (hd r (by simp [kBF]))).trans h.top, kAE h.row fun g hg => hf.block g (h.row.lt g hg).2 (hd g (kCV hg)), fun o ho => kAE (h.fB o ho) fun g hg => hf.block g ((h.fB o ho).lt g hg).2 (hd g (kDE ho hg))⟩
theorem RRep.ltF (h : RRep w 0 r R) : ∀ g ∈ kBF r R, g < w.heap.size := by
 intro g hg;unfold kBF at hg;rcases jAF.1 hg with h1 | h1
 ·rw [h1]; exact kAB h.top
 ·rcases jAC.1 h1 with h2 | h2
  ·exact (h.row.lt g (by simpa using h2)).2
  ·obtain ⟨o, o1, o2⟩ := jAd.1 h2;exact ((h.fB o o1).lt g (by simpa using o2)).2
def OldR (b : Bool) (R R' : RS) : Prop := ((b = false ∧ R'.fO = R.fO ∧ ∃ t, R'.fE.map RO.fL = R.fE.map RO.fL ++ t ∧ ∀ b ∈ t, R.fL ≤ b) ∨ (b = true ∧ R'.fO = R.fO + 1)) ∧ R.fL ≤ R'.fL ∧ R'.fL ≤ R.fL + 1
theorem OldR.same {R' : RS} (h1 : R'.fO = R.fO) (h2 : R'.fE.map RO.fL = R.fE.map RO.fL) (h3 : R'.fL = R.fL) : OldR false R R' := ⟨.inl ⟨rfl, h1, [], by rw [h2]; simp, by simp⟩, by omega, by omega⟩
def RN (b : Bool) (r : Nat) (R : RS) (M' : MS) (w w' : World) : Prop := ∃ R', RRep w' 0 r R' ∧ Doc M' R' ∧ Fr (kBF r R) w w' ∧ (∀ g ∈ kBF r R', g ∈ kBF r R ∨ w.heap.size ≤ g) ∧ OldR b R R'
theorem RN.same (h : RRep w 0 r R) (hd : Doc M R) (hf : Fr [] w w') : RN false r R M w w' := ⟨R, h.fK hf, hd, hf.mono (by simp), fun g hg => .inl hg, OldR.same rfl rfl rfl⟩
structure RBd (M : MS) (R : RS) : Prop where
 ok : ROk R
 fH : (R.fH : Int) ≤ 1048576
 fM : (R.fM : Int) ≤ 65536
 fin : (rEnd R.fE : Int) ≤ 1048576
 len : R.fE.length ≤ 65538
 fA : M.fA.length ≤ 65538
 mark : (R.mark : Int) ≤ 1073741824
 full : (R.fM ≤ R.fE.length ↔ M.fM = kAG M.fA M.fA.length)
theorem Doc.bd (h : Inv H M) (hd : Doc M R) : RBd M R := by
 have h1 := hd.len;have h2 := hd.fin;have h3 := h.safe.small;have h4 := h.fH;have h5 := h.fM;have h6 := h.count;have h7 := h.fin;have h8 := h.model.len;have h9 := hd.fH;have h10 := hd.fM;have h11 := hd.mark;have h12 := h.mark;have hc := h3.count;have hm := h3.mem;have hw := h3.fH;have ho := h3.fM;have hk := h3.mark;refine ⟨⟨by omega, fun o o1 => ?_⟩, by omega, by omega, by omega, by omega, by omega, by omega, by omega⟩;obtain ⟨e1, e2, e3⟩ := hd.each o o1;obtain ⟨-, p2, p3, -, p5⟩ := kAg e1;have hi := kAs e3;have hs := h.model.fB _ hi;have hp := h.model.fJ _ hi;rw [p3, p5];exact ⟨by omega, by omega⟩
theorem kLp (A : Int) (r : Nat) (R : RS) (M : MS) (w : World) (h : RRep w 0 r R) (hd : Doc M R) : Calls prog 69 #[.pointer (some ⟨r, 0, none⟩), int i64 A] w fun e w' => e = .returned (int i64 (if isM A = true then 0 else 1)) ∧ RN false r R (kDO M A) w w' := by
 unfold kDO
 cases hA : isM A with
 | false =>
  rw [jn (by simp), jn (by simp)];refine Calls.mono (kLF A 0 r R w h hA) ?_;rintro e w' ⟨rfl, rfl⟩;exact ⟨rfl, RN.same h hd (Fr.refl _ _)⟩
 | true =>
  rw [jp rfl, jp rfl];have := of_decide_eq_true hA;obtain ⟨n, rfl⟩ : ∃ n : Nat, A = (n : Int) := ⟨A.toNat, by omega⟩
  refine Calls.mono (kKj n 0 r R w h (by omega)) ?_;rintro e w' ⟨rfl, hr, hf⟩;exact ⟨rfl, _, hr, hd.setMark n, hf.mono (fun b hb => .inl (by simp at hb; rw [hb]; simp [kBF])), fun g hg => .inl hg, OldR.same rfl rfl rfl⟩
theorem kCv {os : List RO} {ov : Value} {N : Nat} (R' : RS) (h1 : R'.fE = os) (h2 : R'.ov = ov) (hsub : ∀ o ∈ os, ∀ g, o.v.ownBlock = some g → ∃ x ∈ R.fE, x.v.ownBlock = some g) (hov : ∀ g, ov.ownBlock = some g → g ∈ kBF r R ∨ N ≤ g) : ∀ g ∈ kBF r R', g ∈ kBF r R ∨ N ≤ g := by
 intro g hg;unfold kBF at hg;rw [h1, h2] at hg;rcases jAF.1 hg with h3 | h3
 ·left; rw [h3]; simp [kBF]
 ·rcases jAC.1 h3 with h4 | h4
  ·exact hov g (by simpa using h4)
  ·obtain ⟨o, o1, o2⟩ := jAd.1 h4;obtain ⟨x, x1, x2⟩ := hsub o o1 g (by simpa using o2);exact .inl (kDE x1 x2)
theorem fr_r (hf : Fr [r] w w') : Fr (kBF r R) w w' := hf.mono (fun b hb => .inl (by simp at hb; rw [hb]; simp [kBF]))
theorem rFreeM (A : Int) (r : Nat) (R : RS) (M : MS) (w : World) (h : RRep w 0 r R) (hd : Doc M R) (hb : RBd M R) (ht : R.fO ≤ 1000000000) : Calls prog 71 #[.pointer (some ⟨r, 0, none⟩), int i64 A] w fun e w' => e = .returned (int i64 (if mhas M A = true then 0 else 20)) ∧ RN (mhas M A) r R (kEm M A) w w' := by
 have hl := hb.len;unfold kEm
 cases hA : mhas M A with
 | false =>
  rw [jn (by simp), jn (by simp)];refine Calls.mono (kMs A 0 r R w h (by omega) ((hd.no A).2 hA)) ?_;rintro e w' ⟨rfl, rfl⟩;exact ⟨rfl, RN.same h hd (Fr.refl _ _)⟩
 | true =>
  rw [jp rfl, jp rfl];refine Calls.mono (kNW A 0 r R w h (by omega) (hd.yes hA) ht) ?_;rintro e w' ⟨rfl, k, v, hk, hr, hf, hv⟩;obtain ⟨q, rfl, hq, hbq⟩ := kAx hA;rw [sub1];refine ⟨rfl, _, hr, hd.freed hk v (R.fO + 1), fr_r hf, kCv (kMi R k v) rfl rfl (fun o ho g hg => ⟨o, ?_, hg⟩) (fun g hg => .inr (hv g hg)), .inr ⟨rfl, rfl⟩, jAD _, Nat.le_succ _⟩;rcases jAC.1 ho with h1 | h1
  ·exact jBj h1
  ·exact List.mem_of_mem_drop h1
theorem kHe (A : Int) (r : Nat) (R : RS) (M : MS) (w : World) (h : RRep w 0 r R) (hd : Doc M R) (hb : RBd M R) : Calls prog 54 #[.pointer (some ⟨r, 0, none⟩), int i64 A] w fun e w' => e = .returned (.tuple #[int i64 (if mhas M A = true then (M.fA.getD (A.toNat - 1) noTh).cls else 0), int i64 (if mhas M A = true then 0 else 20)]) ∧ Fr [] w w' := by
 have hl := hb.len;refine Calls.mono (kDy A 0 r R w h (by omega)) ?_;rintro e w' ⟨⟨k, hk, rfl⟩ | ⟨hn, rfl⟩, hf⟩
 ·obtain ⟨h1, h2, h3⟩ := hd.is hk
  have hA : mhas M A = true := by
   cases hx : mhas M A with
   | true => rfl
   | false => exact absurd hk.2 ((hd.no A).2 hx k hk.1)
  rw [jp hA, jp hA, (kAg h3).2.2.2.1];exact ⟨rfl, hf⟩
 ·have hA := (hd.no A).1 hn;rw [jn (by rw [hA]; simp), jn (by rw [hA]; simp)];exact ⟨rfl, hf⟩
theorem rSizeM (A : Int) (r : Nat) (R : RS) (M : MS) (w : World) (h : RRep w 0 r R) (hd : Doc M R) (hb : RBd M R) : Calls prog 85 #[.pointer (some ⟨r, 0, none⟩), int i64 A] w fun e w' => e = .returned (.tuple #[int i64 (if mhas M A = true then ((M.fA.getD (A.toNat - 1) noTh).fB.length : Int) else 0), int i64 (if mhas M A = true then ((M.fA.getD (A.toNat - 1) noTh).fmt : Int) else 0), int i64 (if mhas M A = true then 0 else 20)]) ∧ Fr [] w w' := by
 have hl := hb.len
 cases hA : mhas M A with
 | false =>
  rw [jn (by simp), jn (by simp), jn (by simp)];refine Calls.mono (kNG A 0 r R w h (by omega) ((hd.no A).2 hA)) ?_;rintro e w' ⟨rfl, rfl⟩;exact ⟨rfl, Fr.refl _ _⟩
 | true =>
  rw [jp rfl, jp rfl, jp rfl];refine Calls.mono (kGf A 0 r R w h (by omega) (hd.yes hA)) ?_;rintro e w' ⟨⟨k, hk, rfl⟩, hf⟩;obtain ⟨h1, h2, h3⟩ := hd.is hk;obtain ⟨-, p2, -, -, p5⟩ := kAg h3;rw [p2, p5];exact ⟨rfl, hf⟩
theorem rAtM (A B : Int) (r : Nat) (R : RS) (M : MS) (w : World) (h : RRep w 0 r R) (hd : Doc M R) (hb : RBd M R) : Calls prog 56 #[.pointer (some ⟨r, 0, none⟩), int i64 A, int i64 B] w fun e w' => e = .returned (.tuple #[int i64 (atA M A B).1, int i64 (atA M A B).2]) ∧ Fr [] w w' := by
 have hl := hb.len;unfold atA
 cases hA : mhas M A with
 | false =>
  rw [jn (by simp)];refine Calls.mono (rAt_no A B 0 r R w h (by omega) ((hd.no A).2 hA)) ?_;rintro e w' ⟨rfl, rfl⟩;exact ⟨rfl, Fr.refl _ _⟩
 | true =>
  rw [jp rfl]
  by_cases hB : 0 ≤ B ∧ B < ((M.fA.getD (A.toNat - 1) noTh).fB.length : Int)
  ·rw [jp hB];obtain ⟨i, rfl⟩ : ∃ i : Nat, B = (i : Int) := ⟨B.toNat, by omega⟩
   refine Calls.mono (kLv A 0 r R i w h (by omega) (fun k hk => ?_) (hd.yes hA)) ?_
   ·rw [(kAg (hd.is hk).2.2).2.2.2.2]; omega
   ·rintro e w' ⟨⟨k, hk, rfl⟩, hf⟩;rw [(kAg (hd.is hk).2.2).2.2.2.2];exact ⟨rfl, hf⟩
  ·rw [jn hB];refine Calls.mono (kNg A B 0 r R w h (by omega) (hd.yes hA) (fun k hk => ?_)) ?_
   ·rw [(kAg (hd.is hk).2.2).2.2.2.2]; omega
   ·rintro e w' ⟨rfl, rfl⟩;exact ⟨rfl, Fr.refl _ _⟩
theorem rPutM (A B X : Int) (r : Nat) (R : RS) (M : MS) (w : World) (h : RRep w 0 r R) (hd : Doc M R) (hb : RBd M R) : Calls prog 52 #[.pointer (some ⟨r, 0, none⟩), int i64 A, int i64 B, int i64 X] w fun e w' => e = .returned (int i64 (putA M A B X)) ∧ RN false r R (putN M A B X) w w' := by
 have hl := hb.len;unfold putA putN
 cases hA : mhas M A with
 | false =>
  rw [jn (by simp), jn (by simp)];refine Calls.mono (kOj A B X 0 r R w h (by omega) ((hd.no A).2 hA)) ?_;rintro e w' ⟨rfl, rfl⟩;exact ⟨rfl, RN.same h hd (Fr.refl _ _)⟩
 | true =>
  rw [jp rfl]
  by_cases hB : 0 ≤ B ∧ B < ((M.fA.getD (A.toNat - 1) noTh).fB.length : Int)
  ·rw [jp hB];obtain ⟨i, rfl⟩ : ∃ i : Nat, B = (i : Int) := ⟨B.toNat, by omega⟩
   cases hX : mayB X ((M.fA.getD (A.toNat - 1) noTh).fmt : Int) with
   | false =>
    rw [jn (by simp), jn (by simp)];refine Calls.mono (kLQ A i X 0 r R w h (by omega) (hd.yes hA) (fun k hk => ?_)) ?_
    ·obtain ⟨-, p2, -, -, p5⟩ := kAg (hd.is hk).2.2;rw [p2, p5];exact ⟨by omega, hX⟩
    ·rintro e w' ⟨rfl, rfl⟩;exact ⟨rfl, RN.same h hd (Fr.refl _ _)⟩
   | true =>
    rw [jp rfl, jp ⟨rfl, by omega, by omega, rfl⟩];refine Calls.mono (kQG A i X 0 r R w h hd.lone (by omega) (hd.yes hA) (fun k hk => ?_)) ?_
    ·obtain ⟨-, p2, -, -, p5⟩ := kAg (hd.is hk).2.2;rw [p2, p5];exact ⟨by omega, hX⟩
    ·rintro e w' ⟨rfl, m, g, hm, hg, hr, hf⟩;obtain ⟨q, rfl, hq, hbq⟩ := kAx hA;rw [sub1, jAj];obtain ⟨-, -, h3⟩ := hd.is hm;rw [show ((q : Int) + 1).toNat = q + 1 from by omega] at h3;obtain ⟨-, -, -, p4, p5⟩ := kAg h3;rw [jAJ] at p4 p5;have hd2 := hd.upd hm (R.fE.getD m noRO).cls ((R.fE.getD m noRO).fB.set i X) (by rw [p5, jAL]);rw [p4, p5] at hd2 hr;refine ⟨rfl, _, hr, hd2, hf.mono (fun b hb2 => .inl (by simp at hb2; rw [hb2]; exact kDE (kEc hm.1) hg)), ?_, OldR.same rfl (Alk.upd R m _ _ (by rw [p5, jAL])).borns rfl⟩;refine kCv (R.upd m (M.fA.getD q noTh).cls ((M.fA.getD q noTh).fB.set i X)) rfl rfl (fun o ho g2 hg2 => ?_) (fun g2 hg2 => .inl (kCV hg2));rcases List.mem_or_eq_of_mem_set ho with h1 | h1
     ·exact ⟨o, h1, hg2⟩
     ·exact ⟨R.fE.getD m noRO, kEc hm.1, by rw [h1] at hg2; exact hg2⟩
  ·rw [jn hB, jn (by omega)];refine Calls.mono (kKa A B X 0 r R w h (by omega) (hd.yes hA) (fun k hk => ?_)) ?_
   ·rw [(kAg (hd.is hk).2.2).2.2.2.2]; omega
   ·rintro e w' ⟨rfl, rfl⟩;exact ⟨rfl, RN.same h hd (Fr.refl _ _)⟩
theorem kId (r : Nat) (R : RS) (M : MS) (w : World) (h : RRep w 0 r R) (hd : Doc M R) : Calls prog 64 #[.pointer (some ⟨r, 0, none⟩)] w fun e w' => e = .returned (int i64 M.mark) ∧ w' = w := by
 have hr := kJO 0 r R w h;rw [hd.mark] at hr;exact hr
theorem kPE (ss : List Int) (z : Int) (va : Value) (w : World) (ha : Rd w va ss) :
  Calls prog 138 #[va, int i64 z] w fun e w' => e = .returned (.bool (decide (z ∈ ss))) ∧ w' = w := by
 obtain ⟨pa, ca, rfl, hpa⟩ := ha.at_;have hl := ha.short;clear ha;have HA := kAA hpa;clear hpa;go_enter func138, ntmps138
 go_wp2_with fail
 go_loopw [5] (fun q wr => ∃ k : Nat, k ≤ ss.length ∧ q = int i64 k ∧ wr = w ∧ Hid (z ∉ ss.take k)) (fun q _ => ss.length - (intOf q).toNat)
 case atStart => exact ⟨0, jAH _, rfl, rfl, kAA (by simp)⟩
 case round =>
  obtain ⟨k, hkn, rfl, rfl, HZ⟩ := hrel
  by_cases hlt : k < ss.length
  ·obtain ⟨ga, oa, rfl, -, hca⟩ := HA.out (by omega);have x1 := hca k hlt;have k1 := ng k;have k2 : (k : Int) < ss.length := by omega
   have HT : Hid (ss.take (k + 1) = ss.take k ++ [ss.getD k 0]) := by
    show ss.take (k + 1) = ss.take k ++ [ss.getD k 0];rw [jAO hlt, jAA, jAB hlt]; rfl
   have HM : Hid (ss.getD k 0 ∈ ss) := by
    show ss.getD k 0 ∈ ss;rw [jAA, jAB hlt]; exact jAT _
   generalize ss.getD k 0 = y at *;clear hca HA
   by_cases he : y = z
   ·subst he;have HD : Hid (decide (y ∈ ss) = true) := decide_eq_true HM.out;clear HM HT HZ
    go_wp2_with fail
    go_ret
    exact ⟨by rw [HD.out]; rfl, rfl⟩
   ·have hb : (y == z) = false := by simpa using he
    have HN : Hid (z ∉ ss.take (k + 1)) := by
     show z ∉ ss.take (k + 1);rw [HT.out, jAC];rintro (h1 | h1)
     ·exact HZ.out h1
     ·simp at h1; exact he h1.symm
    clear HT HM HZ he
    go_wp2_with fail
    go_roundw
    case rel => exact ⟨k + 1, by omega, by go_num, trivial, HN⟩
    case measure => simp [intOf]; omega
  ·have hke : k = ss.length := by omega
   subst hke;have HD : Hid (decide (z ∈ ss) = false) := decide_eq_false (by have := HZ.out; rwa [jAV] at this)
   go_wp2_with fail
   go_ret
   exact ⟨by rw [HD.out]; rfl, rfl⟩
structure HG where
 oop : Int
 cls : Int
 fmt : Int
 fB : List Int
 g : Nat
 cap : Nat
def hg4 (x : HG) : List Value := [int i64 x.oop, int i64 x.cls, int i64 x.fmt, .slice (some ⟨x.g, 0, none⟩) x.fB.length x.cap]
def kBJ (l : List HG) : List Value := l.flatMap hg4
def kDS (x : HG) : Int × Int × Int × List Int := (x.oop, x.cls, x.fmt, x.fB)
theorem kFE (l : List HG) (o : HG) : kBJ (l ++ [o]) = kBJ l ++ hg4 o := by simp [kBJ]
theorem kHQ (l : List HG) : (kBJ l).length = l.length * 4 := by
 induction l with
 | nil => rfl
 | cons x l ih =>
  show (hg4 x ++ kBJ l).length = _;rw [jAG, ih]
  simp [hg4]; omega
def kDj (x : HG) : List Value := (x.fB ++ [-77, -78]).map (int i64)
structure Hd (w W : World) (lv : Value) (gs : List HG) : Prop where
 fr : Fr [] w W
 row : W.ownsRow (w.heap.size + 2) 139 4 lv gs.length (kBJ gs)
 fB : ∀ x ∈ gs, W.ownsRow (w.heap.size + 2) 41 1 (.slice (some ⟨x.g, 0, none⟩) (x.fB.length + 2) x.cap) (x.fB.length + 2) (kDj x)
 apart : (gs.map HG.g).Nodup
theorem Hd.fK {gs : List HG} (h : Hd w W lv gs) (hf : Fr [] W V) : Hd w V lv gs :=
 ⟨h.fr.trans hf (by simp), kAE h.row fun g hg => hf.block g (h.row.lt g hg).2 (by simp), fun x hx => kAE (h.fB x hx) fun g hg => hf.block g ((h.fB x hx).lt g hg).2 (by simp), h.apart⟩
theorem kFX {b1 b2 : Nat} {t1 t2 : TypeId} {s1 s2 : Nat} {v1 v2 : Value} {n1 n2 : Nat} {x1 x2 : List Value} (h1 : w.ownsRow b1 t1 s1 v1 n1 x1) (h2 : w.ownsRow b2 t2 s2 v2 n2 x2) (ht : t1 ≠ t2) (e1 : v1.ownBlock = some g) (e2 : v2.ownBlock = some g) : False := by
 rcases h1.2 with ⟨q1, _⟩ | ⟨g1, cap1, cur1, q1, q2, q3, _⟩
 ·rw [q1] at e1; simp [Value.ownBlock] at e1
 ·rcases h2.2 with ⟨r1, _⟩ | ⟨g2, cap2, cur2, r1, r2, r3, _⟩
  ·rw [r1] at e2; simp [Value.ownBlock] at e2
  ·rw [q1] at e1;rw [r1] at e2;have a1 : g1 = g := by simpa [Value.ownBlock] using e1
   have a2 : g2 = g := by simpa [Value.ownBlock] using e2
   subst a1;subst a2;rw [q3] at r3
   simp at r3
   exact ht r3.2
theorem Hd.next {W2 : World} {lv' : Value} {gs : List HG} {x : HG} (h : Hd w W lv gs) (hV : Fr [] W V) (ho : V.ownsRow W.heap.size 41 1 (.slice (some ⟨x.g, 0, none⟩) (x.fB.length + 2) x.cap) (x.fB.length + 2) (kDj x)) (hW : w.heap.size + 2 ≤ W.heap.size) 
  (hg : V.grownBy W2 lv.ownBlock) (hown : W2.ownsRow (w.heap.size + 2) 139 4 lv' (gs.length + 1) (kBJ gs ++ hg4 x)) : Hd w W2 lv' (gs ++ [x]) := by
 have h1 := h.fK hV;have hb : ∀ b, lv.ownBlock = some b → w.heap.size + 2 ≤ b := fun b hb => (h.row.lt b hb).1
 have hsl : ∀ y : HG, V.ownsRow (w.heap.size + 2) 41 1 (.slice (some ⟨y.g, 0, none⟩) (y.fB.length + 2) y.cap) (y.fB.length + 2) (kDj y) → W2.ownsRow (w.heap.size + 2) 41 1 (.slice (some ⟨y.g, 0, none⟩) (y.fB.length + 2) y.cap) (y.fB.length + 2) (kDj y) := fun y hy =>
  kAE hy fun g hgg => hg.block g (hy.lt g hgg).2 (fun e => kFX hy h1.row (by decide) hgg e.symm)
 have ho' := kAV ho (show w.heap.size + 2 ≤ W.heap.size from hW);refine ⟨?_, by rw [jAG, kFE]; exact hown, fun y hy => ?_, ?_⟩
 ·exact (h1.fr).trans (Fr.grown (S := (lv.ownBlock).toList) hg (fun k hk => by rw [hk]; simp)) (fun b hb' => by
   right
   have : lv.ownBlock = some b := by
    cases hl : lv.ownBlock with
    | none => rw [hl] at hb'; simp at hb'
    | some z => rw [hl] at hb'; simp at hb'; rw [hb']
   have := hb b this;omega)
 ·rcases jAC.1 hy with h2 | h2
  ·exact hsl y (h1.fB y h2)
  ·have e : y = x := by simpa using h2
   rw [e];exact hsl x ho'
 ·rw [jAP, List.nodup_append];refine ⟨h.apart, by simp, fun a ha b hb2 => ?_⟩;have e : b = x.g := by simpa using hb2
  obtain ⟨y, hy, rfl⟩ := jAZ.1 ha;have h3 := ((h.fB y hy).lt y.g rfl).2;have h4 := (ho.lt x.g rfl).1;omega
theorem kBj {P : Program} {ops : Array Oper} {o : Oper} {a : Act} {w : World} {K : Act → World → Prop} {Q : Exit → Act → World → Prop} {E : Prop} 
  (hg : o.guard = none) (s x : Operand) (t tn : TypeId) (ho : o.op = .call { callee := .builtin .append, args := #[s, x], argTypes := #[t, tn] }) (vs vx : Value) (hs : a.eval s = vs) (hx : a.eval x = vx)
  (v' : Value) (w' : World) (hr : (Builtin.append_ #[t, tn] o.type #[vs, vx]).run P w = .ok v' w') (h : K (a.put o.dst v') w') : if Region.wanted o (yielded ops a.tmps) = true then Oper.wp P o a w K Q else E := by
 have hw : Region.wanted o (yielded ops a.tmps) = true := by simp [Region.wanted, hg]
 rw [jp hw];exact Lib.wp_append_run w s x t tn ho vs vx hs hx v' w' hr h
theorem RRep.next {V5 w6 w7 V : World} {v7 : Value} (h : RRep V5 B r R) (hf6 : Fr [] V5 w6) (ho6 : w6.ownsRow V5.heap.size 41 1 o.v o.fB.length (o.fB.map (int i64))) (hB : B ≤ V5.heap.size) (hrB : ∀ b, R.ov.ownBlock = some b → b ≠ r) 
  (hg : (w6.alloc (.cells (ro6 o).toArray 143)).grownBy w7 R.ov.ownBlock) (hown : w7.ownsRow B 143 6 v7 (R.fE.length + 1) (kAH R.fE ++ ro6 o))
  (hv7 : ∀ b, v7.ownBlock = some b → b ≠ r) (he : Eqw ((w7.setCell ⟨r, 5, none⟩ v7).setCell ⟨r, 3, none⟩ (I (R.fL + 1))) V) : RRep V B r { R with fE := R.fE ++ [o], fL := R.fL + 1, ov := v7 } := by
 have hr5 := kAB h.top;have h6 := hf6.size;have hlo := h.lo;have hV : ∀ i, i ≠ r → V.heap[i]? = w7.heap[i]? := fun i hi => by rw [he.2.2.2, kAK hi, kAK hi]
 have h7 : ∀ i, i < w6.heap.size → some i ≠ R.ov.ownBlock → w7.heap[i]? = w6.heap[i]? := fun i hi hn => by
  rw [hg.block i (by simp; omega) hn];exact jAN _ _ _ hi
 have htop7 : w7.heap[r]? = some (.cells (kDh R) 99 (0, 0)) := by
  rw [h7 r (by omega) (fun e => hrB r e.symm rfl), hf6.block r hr5 (by simp)];exact h.top
 have hsl : ∀ x : RO, w6.ownsRow B 41 1 x.v x.fB.length (x.fB.map (int i64)) → V.ownsRow B 41 1 x.v x.fB.length (x.fB.map (int i64)) := fun x hx => by
  have hrow6 : w6.ownsRow B 143 6 R.ov R.fE.length (kAH R.fE) := kAE h.row fun g hg => hf6.block g (h.row.lt g hg).2 (by simp)
  refine kAE hx fun g hgg => ?_
  have hl := hx.lt g hgg
  have hgr : g ≠ r := fun e => by
   subst e;have h2 := h.top;rcases hx.2 with ⟨q1, _⟩ | ⟨g1, cap1, cur1, q1, q2, q3, _⟩
   ·rw [q1] at hgg; simp [Value.ownBlock] at hgg
   ·rw [q1] at hgg;have a1 : g1 = g := by simpa [Value.ownBlock] using hgg
    subst a1;rw [hf6.block g1 hr5 (by simp), h2] at q3
    simp at q3
  rw [hV g hgr];exact h7 g hl.2 (fun e => kFX hx hrow6 (by decide) hgg e.symm)
 refine ⟨h.lo, ?_, ?_, fun x hx => ?_⟩
 ·rw [he.2.2.2, kAI (kAI htop7 5 _) 3 _];rfl
 ·show V.ownsRow B 143 6 v7 (R.fE ++ [o]).length (kAH (R.fE ++ [o]));rw [jAG, kBs];exact kAE hown fun g hgg => hV g (hv7 g hgg)
 ·rcases jAC.1 hx with h1 | h1
  ·exact hsl x (kAE (h.fB x h1) fun g hg => hf6.block g ((h.fB x h1).lt g hg).2 (by simp))
  ·have e : x = o := by simpa using h1
   rw [e];exact hsl o (kAV ho6 hB)
theorem RRep.ovNe (h : RRep w B r R) : ∀ b, R.ov.ownBlock = some b → b ≠ r := fun b hb e => by
 subst e;have h2 := h.top;rcases h.row.2 with ⟨q1, _⟩ | ⟨g1, cap1, cur1, q1, q2, q3, _⟩
 ·rw [q1] at hb; simp [Value.ownBlock] at hb
 ·rw [q1] at hb;have a1 : g1 = b := by simpa [Value.ownBlock] using hb
  subst a1;rw [h2] at q3
  simp at q3
def zs (l : List Nat) : List Int := l.map fun x : Nat => (x : Int)
theorem kHf {l : List Nat} : ((q : Int)) ∈ zs l ↔ q ∈ l := by
 unfold zs;rw [jAZ];constructor
 ·rintro ⟨x, h1, h2⟩;rw [show q = x from by omega];exact h1
 ·intro h;exact ⟨q, h, rfl⟩
theorem infoRO : (prog.info? 143).map (fun i => (i.zero, i.size, i.bytes)) = some (some (.agg #[int i64 0, int i64 0, int i64 0, int i64 0, int i64 0, .slice none 0 0]), 6, 64) := by kernel_rfl
def kNH (R : RS) (js : List Nat) (v : Value) : RS := { R with fE := (kst js R.fE).1, ov := v, fO := R.fO + 1 }
theorem RRep.kept {V' : World} {js : List Nat} {v : Value} (h : RRep w B r R) (hf : Fr [] w V) (hown : V.ownsRow w.heap.size 143 6 v (kst js R.fE).1.length (kAH (kst js R.fE).1)) (he : Eqw ((V.setCell ⟨r, 5, none⟩ v).setCell ⟨r, 4, none⟩ (I (R.fO + 1))) V') : RRep V' B r (kNH R js v) ∧ Fr [r] w V' := by
 have hr := kAB h.top;have hlo := h.lo;have hV : ∀ i, i ≠ r → V'.heap[i]? = V.heap[i]? := fun i hi => by rw [he.2.2.2, kAK hi, kAK hi]
 have htop : V.heap[r]? = some (.cells (kDh R) 99 (0, 0)) := (hf.block r hr (by simp)).trans h.top;refine ⟨⟨h.lo, ?_, ?_, fun o ho => ?_⟩, ?_⟩
 ·rw [he.2.2.2, kAI (kAI htop 5 _) 4 _];rfl
 ·have h2 : V'.ownsRow w.heap.size 143 6 v (kst js R.fE).1.length (kAH (kst js R.fE).1) := kAE hown fun g hg => hV g (fun e => by have := (hown.lt g hg).1; omega)
  exact kAV h2 (by omega)
 ·obtain ⟨x, x1, x2, x3, x4, x5, x6, x7, x8⟩ := kIg js R.fE o ho;rw [x5, x6];have hs := h.fB x x1;refine kAE hs fun g hg => ?_
  rw [hV g (fun e => ?_)]
  ·exact hf.block g (hs.lt g hg).2 (by simp)
  ·subst e;have h2 := h.top;rcases hs.2 with ⟨q1, _⟩ | ⟨g1, cap1, cur1, q1, q2, q3, _⟩
   ·rw [q1] at hg; simp [Value.ownBlock] at hg
   ·rw [q1] at hg;have a1 : g1 = g := by simpa [Value.ownBlock] using hg
    subst a1;rw [h2] at q3
    simp at q3
 ·have h1 : Fr [r] w (V.setCell ⟨r, 5, none⟩ v) := (hf.mono (by simp)).trans (Fr.setCell V ⟨r, 5, none⟩ v (S := [r]) (by simp)) (by simp);have h2 := h1.trans (Fr.setCell (V.setCell ⟨r, 5, none⟩ v) ⟨r, 4, none⟩ (I (R.fO + 1)) (S := [r]) (by simp)) (by simp);exact h2.trans (he.fr [r]) (by simp)
theorem kHx (js : List Nat) (l : List RO) (k : Nat) : (kst js (l.take k)).1.length ≤ l.length := by
 have := kLH js (l.take k)
 simp at this
 omega
theorem kKg : ∀ ks : List Key, 0 ≤ endK ks
 | [] => by simp [endK]
 | k :: t => by
  have h1 := kKg t;simp only [endK];have : 0 ≤ kBd (k.2.2.2.length : Int) k.2.2.1 := by unfold kBd; split <;> omega
  omega
theorem kGc (js : List Nat) (l : List RO) (k : Nat) : ((kst js (l.take k)).2 : Int) ≤ endK (l.map kBU) := by
 have h1 := kOL js (l.take k);have h2 : l.map kBU = (l.take k).map kBU ++ (l.drop k).map kBU := by rw [← jAP, jAt]
 rw [h2, kCj];have := kKg ((l.drop k).map kBU);omega
theorem kMp (js : List Nat) (p : Option Addr) (c : Nat) (B r : Nat) (R : RS) (w : World) (h : RRep w B r R) (ho : ROk R) (hj : Rd w (.slice p js.length c) (zs js)) (hin : ∀ j ∈ js, ¬ RNo R (j : Int)) (ht : R.fO ≤ 1000000000) (he : endK (R.fE.map kBU) ≤ 1048576) (hre : (rEnd R.fE : Int) ≤ 1048576) (hjl : js.length ≤ 1048576) :
  Calls prog 101 #[.pointer (some ⟨r, 0, none⟩), .slice p js.length c] w fun e w' => ∃ v, e = .returned (.tuple #[int i64 ((R.fE.length : Int) - (kst js R.fE).1.length), int i64 ((rEnd R.fE : Int) - (kst js R.fE).2), int i64 0]) ∧ RRep w' B r (kNH R js v) ∧ Fr [r] w w' ∧ ∀ g, v.ownBlock = some g → w.heap.size ≤ g := by
 obtain ⟨i114, ii114, iz114, is114, ib114⟩ := info_parts infoRO;have hrl := kAB h.top;obtain ⟨po, co, hov⟩ := h.ovIs;have hl := ho.len;have HR := kAA h;have HO := kAA ho;have HJ := kAA hj;have HIn := kAA hin
 have HC : Hid (∀ V, Fr [] w V → V.cell? ⟨r, 5, none⟩ = some (.slice po R.fE.length co) ∧ V.cell? ⟨r, 4, none⟩ = some (int i64 R.fO) ∧ V.frozen? ⟨r, 5, none⟩ = false ∧ V.frozen? ⟨r, 4, none⟩ = false) := fun V hV => by
  have h1 := HR.out.fK hV;exact ⟨by rw [h1.c, ← hov]; rfl, by rw [h1.c]; rfl, kAD h1.top 5, kAD h1.top 4⟩
 clear h ho hj hin;go_enter func101, ntmps101
 go_wp2_with fail
 have hzl : (zs js).length = js.length := by simp [zs]
 go_loopw [7] (fun q wr => ∃ k : Nat, k ≤ js.length ∧ q = int i64 k ∧ Hid (wr = w)) (fun q _ => js.length - (intOf q).toNat)
 case atStart => exact ⟨0, jAH _, rfl, kAA rfl⟩
 case round =>
  obtain ⟨k, hkn, rfl, hw0⟩ := hrel;rw [hw0.out];clear hw0
  by_cases hlt : k < js.length
  ·obtain ⟨p', c', ep, hat⟩ := HJ.out.at_;rw [hzl] at ep hat
   injection ep with ep1 _ ep2
   subst ep1 ep2;obtain ⟨g, off, rfl, hg, hc⟩ := hat (by omega);have x1 := hc k hlt
   have e1 : (zs js).getD k 0 = ((js.getD k 0 : Nat) : Int) := by
    unfold zs;rw [jAA, jAA, jAQ, jAB hlt]; rfl
   rw [e1] at x1;have hm : js.getD k 0 ∈ js := by rw [jAA, jAB hlt]; exact jAT hlt
   have HN := kAA (HIn.out _ hm);have HF := kAA (kBN ((js.getD k 0 : Nat) : Int) B r R w HR.out (by omega));generalize js.getD k 0 = z at *;have k1 := ng k;have k2 : (k : Int) < js.length := by omega
   clear hat hc e1 hm
   go_wp2_with fail
   refine HF.out.mono ?_;rintro e w2 ⟨zz, rfl, hz, hw⟩;rw [hw];clear hw w2 HF;rcases hz with ⟨j, hj, rfl, hjo, -⟩ | ⟨rfl, hno⟩
   ·have j1 := ng j;clear hjo
    go_wp2_with fail
    go_roundw
    case rel => exact ⟨k + 1, by omega, by go_num, by first | exact kAA rfl | exact kAA trivial⟩
    case measure => simp [intOf]; omega
   ·exact absurd hno HN.out
  ·have hke : k = js.length := by omega
   subst hke;obtain ⟨c5, c4, z5, z4⟩ := HC.out w (Fr.refl _ _);have HE := kAA (kCM B r R w HR.out HO.out);obtain ⟨E, hEE⟩ := jex (rEnd R.fE);have HEE := kAA hEE;rw [← hEE] at HE hre;clear hEE
   go_wp2_with fail
   refine HE.out.mono ?_;rintro e w3 ⟨rfl, hf3⟩;have HF3 := kAA hf3;clear hf3 c5 c4 z5 z4 HE
   go_wp2_with fail
   have hkl0 := kHx js R.fE;have hke0 := kGc js R.fE;have HKL := kAA hkl0;have HKE := kAA hke0;clear hkl0 hke0
   go_loopw [10, 11, 12] (fun av v q wr => ∃ k : Nat, k ≤ R.fE.length ∧ q = int i64 k ∧ av = int i64 ((kst js (R.fE.take k)).2 : Nat) ∧ wr.ownsRow w.heap.size 143 6 v (kst js (R.fE.take k)).1.length (kAH (kst js (R.fE.take k)).1) ∧ Hid (Fr [] w wr)) (fun _ _ q _ => R.fE.length - (intOf q).toNat)
   case atStart => exact ⟨0, jAH _, rfl, rfl, jAS _ _ _ _, HF3⟩
   case round =>
    obtain ⟨k, hkn, rfl, rfl, hown, hfr⟩ := hrel;obtain ⟨c5, c4, z5, z4⟩ := HC.out _ hfr.out;have k1 := ng k
    by_cases hlt : k < R.fE.length
    ·have k2 : (k : Int) < R.fE.length := by omega
     have hRr := HR.out.fK hfr.out;obtain ⟨g, c', hv1, hc⟩ := hRr.at_ (by omega);rw [hov] at hv1
     injection hv1 with e1 e2 e3
     subst e1;subst e3;clear e2;obtain ⟨q0, q1, q2, q3, q4, q5⟩ := hc k hlt;obtain ⟨p5, c5', hv5⟩ := hRr.vIs k hlt;rw [hv5] at q5;obtain ⟨o1, o2⟩ := HO.out.getD k hlt;have hsn := kCb js (R.fE.take k) (R.fE.getD k noRO);rw [← kNN R.fE noRO k hlt] at hsn;have hle := HKL.out k;have hen := HKE.out k;simp only [I] at q0 q1 q2 q3;generalize hoo : R.fE.getD k noRO = o at *;clear hoo;obtain ⟨oo, of_, opl, obn, oc, os, oov⟩ := o;dsimp only at *;subst hv5;have HSn := kAA hsn
     have HIn2 : Hid (∀ V, Fr [] w V → Calls prog 138 #[.slice p js.length c, int i64 oo] V fun e w' => e = .returned (.bool (decide (oo ∈ js))) ∧ w' = V) := fun V hV => by
      have := kPE (zs js) (oo : Int) (.slice p js.length c) V (HJ.out.fK hV);rw [show decide ((oo : Int) ∈ zs js) = decide (oo ∈ js) by rw [jBZ, decide_eq_true_eq, decide_eq_true_eq, kHf]] at this;exact this
     generalize hKS : kst js (R.fE.take k) = KS at *;clear hKS;obtain ⟨kl, ke⟩ := KS;dsimp only at *;have hV5s : Hid (Fr [] _ (World.alloc _ (.cells #[int i64 oo, int i64 of_, int i64 opl, int i64 obn, int i64 oc, .slice p5 os.length c5'] 143))) := Fr.alloc [] wr _;have hbX5 : (wr.alloc (.cells #[int i64 oo, int i64 of_, int i64 opl, int i64 obn, int i64 oc, .slice p5 os.length c5'] 143)).heap[wr.heap.size]? = some (.cells #[int i64 oo, int i64 of_, int i64 opl, int i64 obn, int i64 oc, .slice p5 os.length c5'] 143 (0, 0)) := heap_alloc_new _ _;clear hc hRr hsn
     go_wp2_with fail
     generalize wr.alloc (.cells #[int i64 oo, int i64 of_, int i64 opl, int i64 obn, int i64 oc, .slice p5 os.length c5'] 143) = V5 at *;generalize hX : wr.heap.size = X at *;refine Calls.mono (HIn2.out V5 (hfr.out.trans hV5s.out (by simp))) ?_;rintro e w' ⟨rfl, hw'⟩;rw [hw'];clear hw' w' q0 q1 q2 q3 q4 q5 c5 c4 z5 z4;have hXl : X ≤ wr.heap.size := by omega
     have hXg : wr.heap.size ≤ X := by omega
     clear hX
     by_cases hy : oo ∈ js
     ·have HSn2 := HSn.out;rw [jp hy] at HSn2;rw [decide_eq_true hy];have HS3 := kAA HSn2;have z6 : V5.frozen? ⟨X, 2, none⟩ = false := kAD hbX5 2;have HB6 : Hid ((V5.setCell ⟨X, 2, none⟩ (int i64 ke)).heap[X]? = some (.cells #[int i64 oo, int i64 of_, int i64 ke, int i64 obn, int i64 oc, .slice p5 os.length c5'] 143 (0, 0))) := kAI hbX5 2 _;have HF6 : Hid (Fr [] wr (V5.setCell ⟨X, 2, none⟩ (int i64 ke))) := hV5s.out.trans (Fr.setCell V5 ⟨X, 2, none⟩ _ (S := [X]) (by simp)) (by simp; omega);have y2 : V5.cell? ⟨X, 2, none⟩ = some (int i64 opl) := by rw [kAC hbX5]; rfl
      clear HSn2 HSn hy HIn2
      go_upto_region 18 with (fail)
      generalize V5.setCell ⟨X, 2, none⟩ (int i64 ke) = V6 at *;have x0 : V6.cell? ⟨X, 0, none⟩ = some (int i64 oo) := by rw [kAC HB6.out]; rfl
      have x1 : V6.cell? ⟨X, 1, none⟩ = some (int i64 of_) := by rw [kAC HB6.out]; rfl
      have x2 : V6.cell? ⟨X, 2, none⟩ = some (int i64 ke) := by rw [kAC HB6.out]; rfl
      have x3 : V6.cell? ⟨X, 3, none⟩ = some (int i64 obn) := by rw [kAC HB6.out]; rfl
      have x4 : V6.cell? ⟨X, 4, none⟩ = some (int i64 oc) := by rw [kAC HB6.out]; rfl
      have x5 : V6.cell? ⟨X, 5, none⟩ = some (.slice p5 os.length c5') := by rw [kAC HB6.out]; rfl
      have hown6 : V6.ownsRow w.heap.size 143 6 _ kl.length (kAH kl) := kAE hown fun g hg => HF6.out.block g (hown.lt g hg).2 (by simp)
      have hll := kFA os.length of_;have HL := kAA fun V => kBr os.length of_ V (by omega)
      clear y2 z6 hV5s hbX5 hown;have hX2 : X ≤ V6.heap.size := by have := HF6.out.size; omega
      have hwX : w.heap.size ≤ X := by have := hfr.out.size; omega
      have hown2 := hown6.alloc (.cells #[int i64 oo, int i64 of_, int i64 ke, int i64 obn, int i64 oc, .slice p5 os.length c5'] 143);have HF7 : Hid (Fr [] w (V6.alloc (.cells #[int i64 oo, int i64 of_, int i64 ke, int i64 obn, int i64 oc, .slice p5 os.length c5'] 143))) := (hfr.out.trans HF6.out (by simp)).trans (Fr.alloc [] _ _) (by simp);clear hown6
      go_wp2_with (first | (at_builtin; refine wpList_append_own _ rfl (.tmp 66) (.tmp 68) 97 rfl w.heap.size 143 i114 (.agg #[int i64 0, int i64 0, int i64 0, int i64 0, int i64 0, .slice none 0 0]) 6 64 underlying97 ii114 iz114 is114 ib114 rfl (by decide) _ _ _ rfl hown2 ⟨V6.heap.size, 0, none⟩ 1 1 [int i64 oo, int i64 of_, int i64 ke, int i64 obn, int i64 oc, .slice p5 os.length c5'] rfl rfl ?d1 ?d2 ?d3 ?d4 ?d5 ?_) | (go_at_call 86; refine Calls.mono (HL.out _) ?_; rintro e w' ⟨rfl, hw'⟩; rw [hw']; clear hw' w') | go_in)
      case d1 =>
       have := World.news_of_block (heap_alloc_new V6 (.cells #[int i64 oo, int i64 of_, int i64 ke, int i64 obn, int i64 oc, .slice p5 os.length c5'] 143))
       simpa using this
      case d2 => first | rfl | (intro u hu; simp at hu; rcases hu with rfl | rfl | rfl | rfl | rfl | rfl <;> rfl)
      case d3 => unfold maxLen; omega
      case d4 => omega
      case d5 => first | omega | (simp; omega)
      intro v' w1 hown' hgrow _
      have hrow : w1.ownsRow w.heap.size 143 6 v' (kst js (R.fE.take (k + 1))).1.length (kAH (kst js (R.fE.take (k + 1))).1) := by
       rw [HS3.out, jAG, kBs];exact hown'
      have hz2 : (kst js (R.fE.take (k + 1))).2 = ke + lenN os.length of_ := by rw [HS3.out]
      have HG : Hid (Fr [] w w1) := by
       refine ⟨hgrow.os.trans HF7.out.os, hgrow.tape.trans HF7.out.tape, hgrow.output.trans HF7.out.output, jAU HF7.out.size hgrow.size, fun i hi hn => ?_⟩;rw [hgrow.block i (jAb hi HF7.out.size) (fun e => ?_)]
       ·exact HF7.out.block i hi hn
       ·have := (hown2.lt i e.symm).1;omega
      have HO3 := kAA hrow;have HZ2 := kAA hz2;clear hrow hz2 hown' hgrow hown2 HF7
      go_wp2
      go_roundw
      case rel => exact ⟨k + 1, by omega, by go_num, by rw [HZ2.out]; push_cast; first | rfl | (congr 1), HO3.out, HG⟩
      case measure => simp [intOf]; omega
     ·have HSn2 := HSn.out;rw [jn hy] at HSn2;rw [decide_eq_false hy];have HS3 := kAA HSn2;have HO3 := kAA (kAE hown fun g hg => hV5s.out.block g (hown.lt g hg).2 (by simp));have HG : Hid (Fr [] w V5) := hfr.out.trans hV5s.out (by simp);clear HSn2 HSn hy HIn2 hown hV5s hbX5
      go_wp2_with fail
      go_roundw
      case rel => exact ⟨k + 1, by omega, by go_num, by rw [HS3.out], by rw [HS3.out]; exact HO3.out, HG⟩
      case measure => simp [intOf]; omega
    ·have hke : k = R.fE.length := by omega
     subst hke;rw [jAV] at hown ⊢;have hle := kLH js R.fE;have hen := kOL js R.fE;obtain ⟨pv, cv, rfl⟩ := kAv hown;have HK : Hid (∀ V', Eqw ((wr.setCell ⟨r, 5, none⟩ (.slice pv (kst js R.fE).1.length cv)).setCell ⟨r, 4, none⟩ (I (R.fO + 1))) V' → RRep V' B r (kNH R js (.slice pv (kst js R.fE).1.length cv)) ∧ Fr [r] w V') := fun V' hV => HR.out.kept hfr.out hown hV
     have s5 : (wr.setCell ⟨r, 5, none⟩ (.slice pv (kst js R.fE).1.length cv)).cell? ⟨r, 4, none⟩ = some (int i64 R.fO) := by
      rw [kAC (kAI (HR.out.fK hfr.out).top 5 _)]; rfl
     have s6 : (wr.setCell ⟨r, 5, none⟩ (.slice pv (kst js R.fE).1.length cv)).frozen? ⟨r, 4, none⟩ = false := kAD (kAI (HR.out.fK hfr.out).top 5 _) 4;have HFs : Hid (∀ n g, (Value.slice pv n cv).ownBlock = some g → w.heap.size ≤ g) := fun n g hg => (hown.lt g (by cases pv with | none => simp [Value.ownBlock] at hg | some a => exact hg)).1
     obtain ⟨KS, hKS⟩ := jex (kst js R.fE);have HKS := kAA hKS;rw [← hKS] at hle hen HK s5 s6 ⊢;clear hKS hown;obtain ⟨kl, ke⟩ := KS;dsimp only at *
     go_upto_region 21 with (fail)
     generalize hV7 : wr.setCell ⟨r, 5, none⟩ (.slice pv kl.length cv) = V7 at *;clear hV7 c5 c4 z5 z4
     go_wp2_with fail
     refine bodyPost_ret (results_tmp3 rfl _ _ _) rfl ?_;obtain ⟨h1, h2⟩ := HK.out _ ⟨rfl, rfl, rfl, rfl⟩;refine ⟨_, ?_, h1, h2, HFs.out _⟩;rw [← HKS.out, ← HEE.out];rfl
theorem rExchM (A B : Int) (r : Nat) (R : RS) (M : MS) (w : World) (h : RRep w 0 r R) (hd : Doc M R) (hb : RBd M R) (ht : R.fO ≤ 1000000000) : Calls prog 73 #[.pointer (some ⟨r, 0, none⟩), int i64 A, int i64 B] w fun e w' => e = .returned (int i64 (if mhas M A = true ∧ mhas M B = true then 0 else 20)) ∧ RN (mhas M A && mhas M B) r R (kEo M A B) w w' := by
 have hl := hb.len;unfold kEo
 by_cases hAB : mhas M A = true ∧ mhas M B = true
 ·rw [jp hAB, jp hAB];obtain ⟨hA, hB⟩ := hAB;have hA0 := hA;have hB0 := hB;have hnA := hd.yes hA;have hnB := hd.yes hB;obtain ⟨x, rfl, hx, bx⟩ := kAx hA;obtain ⟨y, rfl, hy, by_⟩ := kAx hB;have ex : ((x + 1 : Nat) : Int) = (x : Int) + 1 := by omega
  have ey : ((y + 1 : Nat) : Int) = (y : Int) + 1 := by omega
  have hf := kMc (x + 1) (y + 1) 0 r R w h (by omega) ht (by rw [ex]; exact hnA) (by rw [ey]; exact hnB);rw [ex, ey] at hf;rw [sub1, sub1];refine hf.mono ?_;rintro e w' ⟨rfl, i, j, g, hi, hj, hg, hr, hfr⟩
  have hborn : (kCU R i j (x + 1) (y + 1)).fE.map RO.fL = R.fE.map RO.fL ∧ ∀ o ∈ (kCU R i j (x + 1) (y + 1)).fE, ∀ g, o.v.ownBlock = some g → ∃ z ∈ R.fE, z.v.ownBlock = some g := by
   have hset : ∀ (l : List RO) (k n : Nat), k < l.length → (l.set k ((l.getD k noRO).named n)).map (fun o => (o.fL, o.v)) = l.map (fun o => (o.fL, o.v)) := fun l k n hk => by
    refine jBe (fun m => ?_);rw [jAQ, jAQ, jAh]
    by_cases e : k = m
    ·subst e;rw [jp rfl, jp hk, jAB hk, kBx hk];rfl
    ·rw [jn e]
   have e1 := hset R.fE i (y + 1) hi.1;have e2 := hset (R.fE.set i ((R.fE.getD i noRO).named (y + 1))) j (x + 1) (by rw [jAL]; exact hj.1);have e3 : (kCU R i j (x + 1) (y + 1)).fE.map (fun o => (o.fL, o.v)) = R.fE.map (fun o => (o.fL, o.v)) := e2.trans e1;refine ⟨?_, fun o ho g2 hg2 => ?_⟩
   ·have := congrArg (List.map (fun t : Nat × Value => t.1)) e3;rw [jAa, jAa] at this;exact this
   ·have hm : (o.fL, o.v) ∈ (kCU R i j (x + 1) (y + 1)).fE.map (fun o => (o.fL, o.v)) := jAq ho;rw [e3] at hm;obtain ⟨z, z1, z2⟩ := jAZ.1 hm;have : z.v = o.v := congrArg Prod.snd z2;exact ⟨z, z1, by rw [this]; exact hg2⟩
  refine ⟨rfl, _, hr, hd.exch hi hj, hfr.mono (fun b hb2 => .inl ?_), kCv (kCU R i j (x + 1) (y + 1)) rfl rfl hborn.2 (fun g2 hg2 => .inl (kCV hg2)), .inr ⟨by rw [hA0, hB0]; rfl, rfl⟩, jAD _, Nat.le_succ _⟩
  simp at hb2
  rcases hb2 with h1 | h1
  ·rw [h1]; exact kCV hg
  ·rw [h1]; simp [kBF]
 ·rw [jn hAB, jn hAB]
  have hn : RNo R A ∨ RNo R B := by
   cases hA : mhas M A with
   | false => exact .inl ((hd.no A).2 hA)
   | true =>
    cases hB : mhas M B with
    | false => exact .inr ((hd.no B).2 hB)
    | true => exact absurd ⟨hA, hB⟩ hAB
  have hfl : (mhas M A && mhas M B) = false := by
   rw [Bool.eq_false_iff]
   intro hc;exact hAB (by simpa using hc)
  rw [hfl];refine Calls.mono (kNZ A B 0 r R w h (by omega) hn) ?_;rintro e w' ⟨rfl, rfl⟩;exact ⟨rfl, RN.same h hd (Fr.refl _ _)⟩
theorem kEZ : q ∈ allM M ↔ 1 ≤ q ∧ (M.fA.getD (q - 1) noTh).fI = true := by
 unfold allM;rw [jBV, List.mem_range];simp only [jBA, decide_eq_true_eq];constructor
 ·exact fun h => h.2
 ·intro h;have := kAs h.2;exact ⟨by omega, h⟩
theorem rBackM (n pb : Nat) (X : List Th) (r : Nat) (R : RS) (M : MS) (w : World) (h : RRep w 0 r R) (hi : Inv H M) (hd : Doc M R) (hb : RBd M R) (ht : R.fO ≤ 1000000000) (hcut : ∀ k, k < R.fE.length → ((R.fE.getD k noRO).fL < pb ↔ k < cutO H n)) (hpb : pb ≤ 1000000000000000) (hbn : R.fL ≤ 1000000000000000) (hX1 : ∀ i, i + 1 ∈ (kAa H).take (cutO H n) → X.getD i noTh = M.fA.getD i noTh) (hX2 : ∀ i, (X.getD i noTh).fI = true → i + 1 ∈ (kAa H).take (cutO H n)) :
  Calls prog 68 #[.pointer (some ⟨r, 0, none⟩), .agg #[.pointer (some ⟨r, 0, none⟩), int i64 pb, int i64 R.fO]] w fun e w' => e = .returned (int i64 0) ∧ RN true r R { M with fA := X } w w' := by
 have hcl : cutO H n ≤ R.fE.length := by
  obtain ⟨-, ho⟩ := hd.oopsL hi.toInvV.srt;have h1 : R.fE.length = (kAa H).length := by have := congrArg List.length ho; simpa using this
  rw [h1];unfold cutO kAa;have e : H.fC.filter (fun o => o != 0) = (H.fC.take n).filter (fun o => o != 0) ++ (H.fC.drop n).filter (fun o => o != 0) := by rw [← jAs, jAt]
  rw [e, jAG];omega
 refine Calls.mono (kKA pb (cutO H n) 0 r R w h hb.ok ht hcl hcut hpb (fun o ho => by have := hd.old o.fL (jAq ho); omega)) ?_;rintro e w' ⟨v, rfl, hr, hf, hv⟩;exact ⟨rfl, _, hr, Doc.backN hi hd n X hX1 hX2 v (R.fO + 1), fr_r hf, kCv (rCut R (cutO H n) v) rfl rfl (fun o ho g hg => ⟨o, jBj ho, hg⟩) (fun g hg => .inr (hv g hg)), .inr ⟨rfl, rfl⟩, jAD _, Nat.le_succ _⟩
theorem kNz (ss : List Int) (p : Option Addr) (c j0 : Nat) (B r : Nat) (R : RS) (w : World) (h : RRep w B r R) (hl : R.fE.length ≤ 1048576) (hj : Rd w (.slice p ss.length c) ss) (hj0 : j0 < ss.length) (hpre : ∀ j, j < j0 → ¬ RNo R (ss.getD j 0)) (hbad : RNo R (ss.getD j0 0)) :
  Calls prog 101 #[.pointer (some ⟨r, 0, none⟩), .slice p ss.length c] w fun e w' => e = .returned (.tuple #[int i64 0, int i64 0, int i64 20]) ∧ w' = w := by
 obtain ⟨p', c', e1, hrow⟩ := hj.at_
 injection e1 with e1 _ e2
 subst e1;obtain ⟨g, off, hp, hgl, hcell⟩ := hrow (by omega);subst hp;have hsh := hj.short;have HC := kAA hcell
 have HF : Hid (∀ k, k ≤ j0 → ∃ z : Int, (z < 0 ↔ k = j0) ∧ (0 ≤ z ↔ k < j0) ∧ Calls prog 106 #[.pointer (some ⟨r, 0, none⟩), int i64 (ss.getD k 0)] w fun e w' => e = .returned (int i64 z) ∧ w' = w) := by
  intro k hk
  by_cases e : k = j0
  ·subst e;exact ⟨-1, by omega, by omega, kDF _ B r R w h hl hbad⟩
  ·obtain ⟨i, -, hf⟩ := kCX _ B r R w h hl (hpre k (by omega));exact ⟨i, by omega, by omega, hf⟩
 clear h hj hrow hcell hpre hbad e2;go_enter func101, ntmps101
 go_wp2_with fail
 go_loopw [7] (fun q wr => ∃ k : Nat, k ≤ j0 ∧ q = int i64 k ∧ wr = w) (fun q _ => ss.length - (intOf q).toNat)
 case atStart => exact ⟨0, jAH _, rfl, rfl⟩
 case round =>
  obtain ⟨k, hk, rfl, rfl⟩ := hrel;have k1 := ng k;have k2 : (k : Int) < ss.length := by omega
  have x1 := HC.out k (by omega);obtain ⟨z, hz1, hz2, hf⟩ := HF.out k hk;have HF2 := kAA hf;clear hf;generalize ss.getD k 0 = zv at *
  by_cases e : k = j0
  ·have z0 := hz1.2 e;clear hz1 hz2;subst e
   go_wp2_with fail
   refine HF2.out.mono ?_;rintro e w2 ⟨rfl, hw⟩;rw [hw];clear hw w2
   go_wp2_with fail
   refine bodyPost_ret (results_tmp3 rfl _ _ _) rfl ?_;exact ⟨rfl, rfl⟩
  ·have z0 := hz2.2 (by omega)
   go_wp2_with fail
   refine HF2.out.mono ?_;rintro e w2 ⟨rfl, hw⟩;rw [hw];clear hw w2
   go_wp2_with fail
   go_roundw
   case rel => exact ⟨k + 1, by omega, by go_num, trivial⟩
   case measure => simp [intOf]; omega
def kDi (M : MS) (zs : List Int) : Int × Int × Int := if zs.all (mhas M) = true then ((kAG M.fA M.fA.length : Int) - (kAG (kCq M zs).fA (kCq M zs).fA.length : Int), (kAp M.fA M.fA.length : Int) - (kAp (kCq M zs).fA (kCq M zs).fA.length : Int), 0) else (0, 0, 20)
theorem rKeepM (ss : List Int) (p : Option Addr) (c r : Nat) (R : RS) (M : MS) (w : World) (h : RRep w 0 r R) (hi : Inv H M) (hd : Doc M R) (hb : RBd M R) (ht : R.fO ≤ 1000000000) (hj : Rd w (.slice p ss.length c) ss) (hjl : ss.length ≤ 1048576) :
  Calls prog 101 #[.pointer (some ⟨r, 0, none⟩), .slice p ss.length c] w fun e w' => e = .returned (.tuple #[int i64 (kDi M ss).1, int i64 (kDi M ss).2.1, int i64 (kDi M ss).2.2]) ∧ RN (ss.all (mhas M)) r R (kCq M ss) w w' := by
 have hl := hb.len
 cases hall : ss.all (mhas M) with
 | false =>
  have e1 : kDi M ss = (0, 0, 20) := jn (by rw [hall]; simp);have e2 : kCq M ss = M := jn (by rw [hall]; simp);rw [e1, e2];obtain ⟨j0, h1, h2, h3⟩ := kEa _ ss hall;refine Calls.mono (kNz ss p c j0 0 r R w h (by omega) hj h1 (fun j hj2 => hd.yes (h2 j hj2)) ((hd.no _).2 h3)) ?_;rintro e w' ⟨rfl, rfl⟩;exact ⟨rfl, RN.same h hd (Fr.refl _ _)⟩
 | true =>
  obtain ⟨js, hk1, hk2⟩ := kKM M ss hall;have e2 : kCq M ss = { M with fA := kDf M.fA js } := by unfold kCq; rw [jp hall, hk1, kCn]
  have hz : ss = zs js := hk1;have hdk := fun v tn => hd.kept js v tn
  have hes : endK (R.fE.map kBU) ≤ 1048576 := by
   rw [hd.keys hi.toInvV.srt, kFp];have h1 := kIR M.fA (kAa H) H.mem.length hi.toInvV.lives (fun x hx => by obtain ⟨i, -, -, -, -, -, h6⟩ := hi.toInvV.liveIn x hx; exact h6);have h2 := hi.safe.small.mem;have h3 := hi.safe.small.fH;omega
  have hf := kMp js p c 0 r R w h hb.ok (by rw [← hz]; rw [show js.length = ss.length from by rw [hk1, jAR]]; exact hj) (fun j hj2 => hd.yes (hk2 j hj2)) ht hes hb.fin (by rw [show js.length = ss.length from by rw [hk1, jAR]]; exact hjl);rw [show js.length = ss.length from by rw [hk1, jAR]] at hf;refine hf.mono ?_;rintro e w' ⟨v, rfl, hr, hfr, hv⟩;have hd2 := hdk v (R.fO + 1);have l1 := hd2.len;have l2 := hd2.fin;have l3 : rEnd (kst js R.fE).1 = (kst js R.fE).2 := kPi js R.fE
  have e1 : kDi M ss = ((R.fE.length : Int) - (kst js R.fE).1.length, (rEnd R.fE : Int) - (kst js R.fE).2, 0) := by
   unfold kDi;rw [jp hall, e2, ← hd.len, ← hd.fin, ← l3];show (_, _, _) = _;rw [← l1, ← l2]
  rw [e1, e2];refine ⟨rfl, _, hr, hd2, fr_r hfr, kCv (kNH R js v) rfl rfl (fun o ho g hg => ?_) (fun g hg => .inr (hv g hg)), .inr ⟨rfl, rfl⟩, jAD _, Nat.le_succ _⟩;obtain ⟨x, x1, -, -, -, -, x5, -⟩ := kIg js R.fE o ho;exact ⟨x, x1, by rw [← x5]; exact hg⟩
end Go.Proofs.YtflgicdbbogllaaGreatDoor
