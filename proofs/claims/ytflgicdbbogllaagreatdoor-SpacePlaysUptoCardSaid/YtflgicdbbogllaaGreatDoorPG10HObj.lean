import Derived.Test.YtflgicdbbogllaaGreatDoorPG09HInvK
import Derived.Laws.AppendOwnNone
import Derived.Lib.AppendZeros
set_option maxHeartbeats 1000000
set_option maxRecDepth 20000
set_option linter.unusedSimpArgs false
set_option linter.unusedVariables false
namespace Go.Proofs.YtflgicdbbogllaaGreatDoor
open Go.RowKit Tryz
open Value (int)
open IntKind (i64)
attribute [local go_sem ↓] wp_at_zero wp_at_succ
variable {A B X cls fmt oop : Int} {L k p size : Nat} {M N : MS} {W w : World} {ss : List Int} {t : Th} {v : Value}
def A1 : HS := ⟨40, 3, 0, [8, 6, 4, 4, 4], [(0, 0, 0), (0, 5, 0)], [1], [1], 0, 1, 0⟩
def A2 : HS := ⟨40, 3, 0, [8, 6, 4, 4, 4, 12, 11, 0, 0], [(0, 0, 0), (0, 5, 0), (5, 4, 1)], [1, 2], [3], 0, 2, 0⟩
def A4 : HS := { A2 with mem := [8, 6, 4, 4, 77, 12, 11, 0, 200] }
def A5 : HS := { A4 with fD := [(0, 0, 0), (5, 4, 1), (0, 5, 0)], fC := [2, 1], age := 1 }
def A5v : HS := ⟨40, 3, 0, [0, 0, 0, 0, 0, 12, 11, 0, 200], [(0, 0, 0), (5, 4, 1), (0, 0, 0)], [0, 1], [1], 0, 1, 1⟩
theorem v1 : kAj A5 [1] 1 = A5v := by rfl
theorem v2 : kAj A5 [1] 2 = A5v := by rfl
def bare (t : Th) : Th := { t with p := none, c := 0 }
structure Lk (M N : MS) : Prop where
 fH : M.fH = N.fH
 fM : M.fM = N.fM
 mark : M.mark = N.mark
 fA : M.fA.map bare = N.fA.map bare
theorem Lk.refl (M : MS) : Lk M M := ⟨rfl, rfl, rfl, rfl⟩
theorem kKM (M : MS) : ∀ zs : List Int, zs.all (mhas M) = true → ∃ ks : List Nat, zs = ks.map (fun n : Nat => (n : Int)) ∧ ∀ j ∈ ks, mhas M (j : Int) = true := by
 intro zs
 induction zs with
 | nil => intro _; exact ⟨[], rfl, by simp⟩
 | cons z zs ih =>
  intro h;rw [List.all_cons, jBA] at h;obtain ⟨ks, h1, h2⟩ := ih h.2;obtain ⟨k, k1, k2, k3⟩ := kAx h.1;refine ⟨(k + 1) :: ks, ?_, ?_⟩
  ·rw [h1, k1]; simp
  ·intro j hj;rcases jAF.1 hj with rfl | hj
   ·have := h.1; rw [k1] at this; simpa using this
   ·exact h2 j hj
structure LsAt (w0 : World) (ao : Option Addr) (c : Nat) (zs : List Int) : Prop where
 nil : ao = none → zs = [] ∧ c = 0
 row : zs ≠ [] → ∃ b off, ao = some ⟨b, off, none⟩ ∧ b < w0.heap.size ∧ ∀ j, j < zs.length → w0.cell? ⟨b, off + j, none⟩ = some (int i64 (zs.getD j 0))
 short : zs.length ≤ 17592186044416
theorem kNC (x y : Nat) (a : Nat) (l : Lay) (H : HS) (M : MS) (w : World) (h : Rep w a l H) (hi : Inv H M) (hx : x < M.fA.length) (hy : y < M.fA.length) (bx : (M.fA.getD x noTh).fI = true) (by_ : (M.fA.getD y noTh).fI = true) (hage : (H.age : Int) ≤ 1000000000) :
  Calls prog 72 #[.pointer (some ⟨a, 0, none⟩), int i64 ((x : Int) + 1), int i64 ((y : Int) + 1)] w fun e w' => e = .returned (int i64 0) ∧ Rep w' a l (kDp H (x + 1) (y + 1)) ∧ Nx a l l w w' := by
 obtain ⟨a1, a2, a3⟩ := kAk (hi.is x hx bx).has;obtain ⟨b1, b2, b3⟩ := kAk (hi.is y hy by_).has;obtain ⟨t1, t2⟩ := hi.fO x hx bx;obtain ⟨u1, u2⟩ := hi.fO y hy by_;have ho := hi.safe.fC;rw [show (x : Int) + 1 = ((x + 1 : Nat) : Int) from by omega, show (y : Int) + 1 = ((y + 1 : Nat) : Int) from by omega]
 by_cases e : x = y
 ·subst e;exact kFW (x + 1) a l H w h a1 a2 a3 t1 hi.safe.fD (by omega) hage
 ·exact kHw (x + 1) (y + 1) a l H w h a1 a2 a3 b1 b2 b3 (by omega) t1 u1 (fun e2 => by rw [e2, u2] at t2; omega) hi.safe.fD (by omega) hage
theorem kDU : ∀ (n : Nat) (S : List Th) (A : Nat), kDw (kBc S A n) S := by
 intro n
 induction n with
 | zero => intro S A; exact kDw.refl S
 | succ n ih =>
  intro S A
  cases hp : kBi S A S.length with
  | none => rw [kDB S A n hp]; exact kDw.refl S
  | some k =>
   rw [kCy S A n k hp];have h1 := ih (S.set k (kCr (S.getD k noTh) A)) (A + lenN (S.getD k noTh).fB.length (S.getD k noTh).fmt);have h2 := (kDw.refl S).fJ k A (kEh S A S.length k hp).1;refine ⟨h1.len.trans h2.len, fun i => ?_⟩;obtain ⟨a1, a2, a3, a4, a5, a6⟩ := h1.at_ i;obtain ⟨b1, b2, b3, b4, b5, b6⟩ := h2.at_ i;exact ⟨a1.trans b1, a2.trans b2, a3.trans b3, a4.trans b4, a5.trans b5, a6.trans b6⟩
def kAe (M : MS) (X A B : Int) : MS :=
 if isW X = false ∨ A < 0 ∨ B < 0 ∨ 1 < B then M
 else if 8192 < A then M
 else if M.fM = kAG M.fA M.fA.length ∨ M.fH < kAp M.fA M.fA.length + lenN A.toNat B.toNat then M
 else if M.mark = 1 then { M with mark := 0 }
 else { M with mark := M.mark - 1, fA := kAY M.fA (kAf M.fA - 1) ⟨true, X, B.toNat, kAp M.fA M.fA.length, List.replicate A.toNat (newX B.toNat), none, 0⟩ }
theorem kFM (h : isW X = false ∨ A < 0 ∨ B < 0 ∨ 1 < B) : kAe M X A B = M := jp h
theorem kFN (h : ¬ (isW X = false ∨ A < 0 ∨ B < 0 ∨ 1 < B)) (h2 : 8192 < A) : kAe M X A B = M := by
 unfold kAe; rw [jn h, jp h2]
theorem kEk (h : ¬ (isW X = false ∨ A < 0 ∨ B < 0 ∨ 1 < B)) (h2 : ¬ 8192 < A) (h3 : M.fM = kAG M.fA M.fA.length ∨ M.fH < kAp M.fA M.fA.length + lenN A.toNat B.toNat) : kAe M X A B = M := by
 unfold kAe; rw [jn h, jn h2, jp h3]
theorem kEd (h : ¬ (isW X = false ∨ A < 0 ∨ B < 0 ∨ 1 < B)) (h2 : ¬ 8192 < A) (h3 : ¬ (M.fM = kAG M.fA M.fA.length ∨ M.fH < kAp M.fA M.fA.length + lenN A.toNat B.toNat)) (h4 : M.mark = 1) : kAe M X A B = { M with mark := 0 } := by
 unfold kAe; rw [jn h, jn h2, jn h3, jp h4]
theorem kEs (h : ¬ (isW X = false ∨ A < 0 ∨ B < 0 ∨ 1 < B)) (h2 : ¬ 8192 < A) (h3 : ¬ (M.fM = kAG M.fA M.fA.length ∨ M.fH < kAp M.fA M.fA.length + lenN A.toNat B.toNat)) (h4 : M.mark ≠ 1) : kAe M X A B = { M with mark := M.mark - 1, fA := kAY M.fA (kAf M.fA - 1) ⟨true, X, B.toNat, kAp M.fA M.fA.length, List.replicate A.toNat (newX B.toNat), none, 0⟩ } := by
 unfold kAe; rw [jn h, jn h2, jn h3, jn h4]
def kCq (M : MS) (zs : List Int) : MS := if zs.all (mhas M) = true then { M with fA := kDf M.fA (zs.map Int.toNat) } else M
def kEo (M : MS) (A B : Int) : MS := if mhas M A = true ∧ mhas M B = true then { M with fA := (M.fA.set (A.toNat - 1) (M.fA.getD (B.toNat - 1) noTh)).set (B.toNat - 1) (M.fA.getD (A.toNat - 1) noTh) } else M
def putN (M : MS) (A B X : Int) : MS := if mhas M A = true ∧ 0 ≤ B ∧ B < ((M.fA.getD (A.toNat - 1) noTh).fB.length : Int) ∧ mayB X ((M.fA.getD (A.toNat - 1) noTh).fmt : Int) = true then { M with fA := M.fA.set (A.toNat - 1) (kCD (M.fA.getD (A.toNat - 1) noTh) B.toNat X) } else M
def clsN (M : MS) (A X : Int) : MS := if mhas M A = true ∧ isW X = true then { M with fA := M.fA.set (A.toNat - 1) (kPn (M.fA.getD (A.toNat - 1) noTh) X) } else M
def kEm (M : MS) (A : Int) : MS := if mhas M A = true then { M with fA := M.fA.set (A.toNat - 1) (gone (M.fA.getD (A.toNat - 1) noTh)) } else M
def kDO (M : MS) (A : Int) : MS := if isM A = true then { M with mark := A.toNat } else M
def kGS (M : MS) (K A B X : Int) (zs : List Int) : MS :=
 if K = 1 then kAe M X A B
 else if K = 2 then kDO M A
 else if K = 3 then kEm M A
 else if K = 5 then clsN M A X
 else if K = 7 then putN M A B X
 else if K = 8 then kEo M A B
 else if K = 11 then kCq M zs
 else M
theorem sub1 (k : Nat) : ((k : Int) + 1).toNat - 1 = k := by omega
theorem kCn (ks : List Nat) : (ks.map (fun n : Nat => (n : Int))).map Int.toNat = ks := by
 rw [jAa]
 conv => rhs; rw [← List.map_id ks]
 exact jBJ fun x _ => rfl
theorem kGJ (S : List Th) (k : Nat) : (S.map bare).getD k noTh = bare (S.getD k noTh) := by
 rw [jAA, jAA, jAQ]
 cases S[k]? <;> rfl
theorem Lk.at (h : Lk M N) (k : Nat) : bare (M.fA.getD k noTh) = bare (N.fA.getD k noTh) := by
 rw [← kGJ, ← kGJ, h.fA]
theorem Lk.len (h : Lk M N) : M.fA.length = N.fA.length := by
 have := congrArg List.length h.fA
 rwa [jAR, jAR] at this
theorem Lk.fields (h : Lk M N) (k : Nat) : (M.fA.getD k noTh).fI = (N.fA.getD k noTh).fI ∧ (M.fA.getD k noTh).cls = (N.fA.getD k noTh).cls ∧ (M.fA.getD k noTh).fmt = (N.fA.getD k noTh).fmt ∧ (M.fA.getD k noTh).fJ = (N.fA.getD k noTh).fJ ∧ (M.fA.getD k noTh).fB = (N.fA.getD k noTh).fB := by
 have := h.at k;generalize M.fA.getD k noTh = t at *;generalize N.fA.getD k noTh = u at *
 cases t; cases u
 simp only [bare, Th.mk.injEq] at this;obtain ⟨h1, h2, h3, h4, h5, -⟩ := this;exact ⟨h1, h2, h3, h4, h5⟩
def Fine (t : Th) : Prop := t.fI = true → isW t.cls = true ∧ t.fmt ≤ 1 ∧ ∀ x ∈ t.fB, mayB x (t.fmt : Int) = true
def Good (M : MS) : Prop := ∀ i, Fine (M.fA.getD i noTh)
theorem kLE : Fine noTh := fun h => by simp [noTh] at h
theorem kDA (h : Good M) (k : Nat) (t : Th) (ht : Fine t) : Good { M with fA := M.fA.set k t } := by
 intro i;show Fine ((M.fA.set k t).getD i noTh)
 by_cases hk : k < M.fA.length
 ·rw [kAX _ _ _ _ hk]
  split
  ·exact ht
  ·exact h i
 ·rw [List.set_eq_of_length_le (by omega)];exact h i
theorem kNq (X : Int) (f E n : Nat) (p : Option Addr) (c : Nat) (hX : isW X = true) (hf : f ≤ 1) : Fine ⟨true, X, f, E, List.replicate n (newX f), p, c⟩ := by
 intro _;refine ⟨hX, hf, fun x hx => ?_⟩;have hx' := List.eq_of_mem_replicate hx;rw [hx'];rcases (show f = 0 ∨ f = 1 from by omega) with rfl | rfl
 ·show mayB (newX 0) ((0 : Nat) : Int) = true
  decide
 ·show mayB (newX 1) ((1 : Nat) : Int) = true
  decide
theorem kNO (h : Good M) (k : Nat) (t : Th) (ht : Fine t) (mk : Nat) : Good { M with mark := mk, fA := kAY M.fA k t } := by
 intro i;show Fine ((kAY M.fA k t).getD i noTh);unfold kAY
 split
 ·exact kDA h k t ht i
 ·rw [jAA]
  by_cases e : i < M.fA.length
  ·rw [jAK e, ← jAA]; exact h i
  ·rw [jAI (by omega)]
   cases hj : i - M.fA.length with
   | zero => exact ht
   | succ j => exact kLE
theorem kHS (h : Fine t) (A : Nat) : Fine (kCr t A) := h
theorem kGQ : ∀ (n : Nat) (S : List Th) (A : Nat), (∀ i, Fine (S.getD i noTh)) → ∀ i, Fine ((kBc S A n).getD i noTh) := by
 intro n
 induction n with
 | zero => intro S A h; exact h
 | succ n ih =>
  intro S A h
  cases hp : kBi S A S.length with
  | none => rw [kDB S A n hp]; exact h
  | some k =>
   rw [kCy S A n k hp];refine ih _ _ (fun i => ?_);have := (kEh S A _ _ hp).1;rw [kAX _ _ _ _ this]
   split
   ·exact kHS (h k) A
   ·exact h i
theorem kLa {S : List Th} (h : ∀ i, Fine (S.getD i noTh)) (ks : List Nat) : ∀ i, Fine ((kDf S ks).getD i noTh) := by
 unfold kDf;refine kGQ _ _ _ (fun i => ?_);rw [kEv S ks S.length (jAD _) i]
 split
 ·intro hb;refine h i ?_;have : ((S.getD i noTh).fI && decide (i + 1 ∈ ks)) = true := hb
  simp at this
  exact this.1
 ·exact h i
theorem Good.next (h : Good M) (K A B X : Int) (zs : List Int) : Good (kGS M K A B X zs) := by
 unfold kGS
 split
 ·unfold kAe
  split
  ·exact h
  ·rename_i hg
   split
   ·exact h
   ·split
    ·exact h
    ·split
     ·exact h
     ·refine kNO h _ _ (kNq X B.toNat _ _ none 0 ?_ (by omega)) _
      cases hx : isW X with
      | true => rfl
      | false => exact absurd (.inl hx) hg
 ·split
  ·unfold kDO; split <;> exact h
  ·split
   ·unfold kEm
    split
    ·exact kDA h _ _ (fun hb => by simp [gone] at hb)
    ·exact h
   ·split
    ·unfold clsN
     split
     ·rename_i hc
      exact kDA h _ _ (fun hb => by
       obtain ⟨a1, a2, a3⟩ := h (A.toNat - 1) hb;exact ⟨hc.2, a2, a3⟩)
     ·exact h
    ·split
     ·unfold putN
      split
      ·rename_i hc
       refine kDA h _ _ (fun hb => ?_);obtain ⟨a1, a2, a3⟩ := h (A.toNat - 1) hb;refine ⟨a1, a2, fun x hx => ?_⟩;have hx2 : x ∈ (M.fA.getD (A.toNat - 1) noTh).fB.set B.toNat X := hx;rcases List.mem_or_eq_of_mem_set hx2 with h3 | h3
       ·exact a3 x h3
       ·rw [h3]; exact hc.2.2.2
      ·exact h
     ·split
      ·unfold kEo
       split
       ·exact kDA (M := { M with fA := M.fA.set (A.toNat - 1) (M.fA.getD (B.toNat - 1) noTh) }) (kDA h _ _ (h _)) _ _ (h _)
       ·exact h
      ·split
       ·unfold kCq
        split
        ·exact kLa h _
        ·exact h
       ·exact h
theorem kOC (a : Nat) (l : Lay) (H : HS) (w : World) (h : Rep w a l H) :
    Calls prog 61 #[.pointer (some ⟨a, 0, none⟩)] w fun e w' => e = .returned (.agg #[.pointer (some ⟨a, 0, none⟩), int i64 H.age, int i64 H.fC.length]) ∧ Fr [] w w' := by
  have hal := h.lt a (by simp [foot]);have c0 := (jAE w (.cells #[.pointer none, int i64 0, int i64 0] 112) ⟨a, 0, none⟩ hal).trans h.c0;have c10 := h.c10;have c6 := h.c6;have HM := kAA (kAh a _ c0);clear h c0;go_enter func61, ntmps61
  go_wp2_with (go_at_call 88; refine HM.out.mono ?_; rintro e w' ⟨rfl, hw'⟩; rw [hw']; clear hw' w')
  go_region
  all_goals go_wp2_with fail
  refine bodyPost_ret (v := .agg #[.pointer (some ⟨a, 0, none⟩), int i64 H.age, int i64 H.fC.length]) (by simp [results, results61, go_sem]) rfl ⟨rfl, (Fr.alloc [] _ _).trans (Fr.drew [] _) (by simp)⟩
def kAd (H : HS) (T : Nat) : Nat → HS
  | 0 => H
  | j + 1 => vacH (kAd H T j) (H.fC.getD (T + j) 0)
theorem kFO (H : HS) (T : Nat) : ∀ j, (kAd H T j).age = H.age := by
  intro j
  induction j with
  | zero => rfl
  | succ j ih => exact ih
structure kOS (H : HS) (T : Nat) : Prop where
  t : T ≤ H.fC.length
  vac : ∀ j, T + j < H.fC.length → kKh (kAd H T j) (H.fC.getD (T + j) 0) ∧ (kAd H T j).fC.getD (T + j) 0 = H.fC.getD (T + j) 0 ∧ (kAd H T j).fC.length = H.fC.length
  r1 : (H.fC.length : Int) ≤ 1048576
  a1 : (H.age : Int) ≤ 1000000000
theorem kBa {tp te : TypeId} {j : TypeInfo} (V : World) (a : Addr) (hp : prog.underlying tp = some (.pointer te)) (hte : prog.info? te = some j) :
    (binOp .neq tp (.pointer (some a)) (.pointer (some a))).run prog V = .ok (.bool false) V := by
  have h : ∀ d : Nat, (Op.equalIn (d + 1) tp (.pointer (some a)) (.pointer (some a))).run prog V = .ok true V := fun d => by
    simp [Op.equalIn, run_underlying hp, sizeOf, typeInfo, hte, run_sameAddr_same]
  simp only [binOp]
  simp [Op.equal, Op.maxDepth, h 9999]
theorem kPO (ag tn : Int) (a : Nat) (l : Lay) (H : HS) (w : World) (h : Rep w a l H) (hne : (ag != (H.age : Int)) = true) :
    Calls prog 66 #[.pointer (some ⟨a, 0, none⟩), .agg #[.pointer (some ⟨a, 0, none⟩), int i64 ag, int i64 tn]] w fun e w' => e = .returned (int i64 25) ∧ Fr [] w w' := by
  have hal := h.lt a (by simp [foot]);have c0 := (jAE w (.cells #[.pointer (some ⟨a, 0, none⟩), int i64 ag, int i64 tn] 112) ⟨a, 0, none⟩ hal).trans h.c0;have c10 := (jAE w (.cells #[.pointer (some ⟨a, 0, none⟩), int i64 ag, int i64 tn] 112) ⟨a, 10, none⟩ hal).trans h.c10;have HM := kAA (kAh a _ c0);have HE : Hid (∀ n, Fr [] w ((w.alloc (.cells #[.pointer (some ⟨a, 0, none⟩), int i64 ag, int i64 tn] 112)).drewN n)) := fun n => (Fr.alloc [] _ _).trans (Fr.drewN [] _ _) (by simp)
  obtain ⟨j, hj⟩ := jAv.1 kLB;have hq := fun V => kBa V ⟨a, 0, none⟩ underlying46 hj
  clear h c0 hj;go_enter func66, ntmps66
  go_wp2_with (go_at_call 88; refine HM.out.mono ?_; rintro e w' ⟨rfl, hw'⟩; rw [hw']; clear hw' w')
  go_region
  all_goals go_wp2_with fail
  all_goals
    go_ret
    exact ⟨rfl, HE.out _⟩
theorem kPg (T t e0 : Nat) (a : Nat) (l : Lay) (H : HS) (w : World) (h : Rep w a l H) (hk : kOS H T) (hd : kEw (kAd H T (H.fC.length - T)) t e0) :
    Calls prog 66 #[.pointer (some ⟨a, 0, none⟩), .agg #[.pointer (some ⟨a, 0, none⟩), int i64 H.age, int i64 T]] w fun e w' => e = .returned (int i64 0) ∧ Rep w' a l { kCW (kAd H T (H.fC.length - T)) t e0 with age := H.age + 1 } ∧ Nx a l l w w' := by
  have hal := h.lt a (by simp [foot]);obtain ⟨o, ho⟩ := jex (Obj.cells #[.pointer (some ⟨a, 0, none⟩), int i64 H.age, int i64 T] 112);have c0 := (jAE w o ⟨a, 0, none⟩ hal).trans h.c0;have c10 := (jAE w o ⟨a, 10, none⟩ hal).trans h.c10;have c6 := (jAE w o ⟨a, 6, none⟩ hal).trans h.c6;have HM := kAA (kAh a _ c0);have hr1 := h.alloc o;have HR1 := kAA hr1;have HX1 : Hid (Nx a l l w (w.alloc o)) := Nx.frw (Fr.alloc _ _ _);obtain ⟨j, hj⟩ := jAv.1 kLB;have hq := fun V => kBa V ⟨a, 0, none⟩ underlying46 hj
  have ht := hk.t;have hrl := hk.r1;have hage := hk.a1;have HK := kAA hk;have HD := kAA hd;have u1 := ng T;have u2 : (T : Int) ≤ H.fC.length := by omega
  have hcap : H.fC.length ≤ l.co := by
    rcases h.fC.2 with ⟨q, q0⟩ | ⟨g, cap, cur, q1, q2, q3, q4, q5, q6, q7⟩
    · injection q with _ _ q3; omega
    · injection q1 with _ _ q1c; omega
  have hpo : (l.po = none → H.fC.length = 0 ∧ l.co = 0) ∧ (∀ ad, l.po = some ad → ∃ g, ad = ⟨g, 0, none⟩) := by
    rcases h.fC.2 with ⟨q, q0⟩ | ⟨g, cap, cur, q1, q2, q3, q4, q5, q6, q7⟩
    · injection q with q1 _ q3; exact ⟨fun _ => ⟨by omega, by omega⟩, fun ad hd => (by rw [q1] at hd; cases hd)⟩
    · injection q1 with q1 _ q1c; exact ⟨fun hd => (by rw [q1] at hd; cases hd), fun ad hd => (by rw [q1] at hd; injection hd with hd; exact ⟨g, hd.symm⟩)⟩
  clear h c0 hj hk hd hr1;have b0 : (w.alloc o).cell? ⟨w.heap.size, 0, none⟩ = some (.pointer (some ⟨a, 0, none⟩)) := by rw [ho, kAC (heap_alloc_new w _)]; rfl
  have b1 : (w.alloc o).cell? ⟨w.heap.size, 1, none⟩ = some (int i64 H.age) := by rw [ho, kAC (heap_alloc_new w _)]; rfl
  have b2 : (w.alloc o).cell? ⟨w.heap.size, 2, none⟩ = some (int i64 T) := by rw [ho, kAC (heap_alloc_new w _)]; rfl
  have u3 : (T : Int) ≤ l.co := by omega
  have HPO := kAA hpo;clear hpo;obtain ⟨W1, hW1⟩ := jex (w.alloc o);rw [← hW1] at HM HR1 HX1 c10 c6 b0 b1 b2;rw [ho] at hW1;clear ho;rcases hpoE : l.po with _ | ad
  · have hpo0 := hpoE;clear hpo0;go_enter func66, ntmps66
    go_wp2_with fail
    rw [← hW1];clear hW1;refine HM.out.mono ?_;rintro e w' ⟨rfl, hw'⟩;rw [hw'];clear hw' w' HM
    go_wp2_with fail
    go_cut [22] (fun q V => q = .bool false ∧ Hid (Eqw W1 V))
    case first =>
      go_region
      all_goals go_wp2_with fail
      all_goals
        go_meet
        case rel => exact ⟨rfl, kAS _⟩
    case rest =>
    obtain ⟨rfl, hc2⟩ := hcut;have hR2 := HR1.out.eqw hc2.out;have HF : Hid (∀ n, Rep (wc.drewN n) a l H ∧ Nx a l l w (wc.drewN n)) := fun n => ⟨hR2.drewN n, (HX1.out.eqw hc2.out).eqw ⟨rfl, rfl, rfl, rfl⟩⟩
    have c6' := hR2.c6;rw [hpoE] at c6';have b2' : wc.cell? ⟨w.heap.size, 2, none⟩ = some (int i64 T) := (jBa (w := W1) (by rw [hc2.out.2.2.2])).trans b2;have HPE := kAA hpoE;clear b0 b1 b2 c6 c10 HR1 HX1 hR2 hpoE
    go_wp2_with fail
    go_quiet (fail)
    all_goals go_wp2_with fail
    all_goals
      have HF1 := kAA (HF.out nq);clear HF c6' b2';generalize wc.drewN nq = W2 at *
      go_loopw [31] (fun q wr => ∃ j : Nat, j ≤ H.fC.length - T ∧ q = int i64 j ∧ Hid (Rep wr a l (kAd H T j) ∧ Nx a l l w wr)) (fun q _ => (H.fC.length - T) - (intOf q).toNat)
      case atStart => exact ⟨0, jAH _, rfl, HF1.out⟩
      case round =>
        obtain ⟨j, hjn, rfl, hq2⟩ := hrel;obtain ⟨hr, hx⟩ := hq2.out;clear hq2
        by_cases hlt : j < H.fC.length - T
        · exfalso; have := (HPO.out.1 HPE.out).1; omega
        · have hje : j = H.fC.length - T := by omega
          subst hje;have HDr := kAA (kEC t e0 a l _ wr hr HD.out);have HX := kAA hx;have hagl : (kAd H T (H.fC.length - T)).age = H.age := kFO H T _;clear hr hx
          go_wp2_with fail
          refine HDr.out.mono ?_;rintro e w3 ⟨rfl, hr3, hx3⟩;have c10 := hr3.c10;have f10 := hr3.frozen 10;have e1 : (kCW (kAd H T (H.fC.length - T)) t e0).age = H.age := hagl;rw [e1] at c10
          have HE : Hid (Rep (w3.setCell ⟨a, 10, none⟩ (int i64 ((H.age : Int) + 1))) a l { kCW (kAd H T (H.fC.length - T)) t e0 with age := H.age + 1 } ∧ Nx a l l w (w3.setCell ⟨a, 10, none⟩ (int i64 ((H.age : Int) + 1)))) :=
            ⟨hr3.set (H' := { kCW (kAd H T (H.fC.length - T)) t e0 with age := H.age + 1 }) 10 _ rfl rfl rfl rfl rfl, (HX.out.trans hx3).trans (Nx.fr (Fr.setCell (S := [a]) _ _ _ (by simp)))⟩
          clear hr3 hx3 e1 hagl
          go_wp2_with fail
          go_ret
          exact ⟨rfl, HE.out⟩
  · obtain ⟨g0, hg0⟩ := HPO.out.2 ad hpoE;subst hg0;go_enter func66, ntmps66
    go_wp2_with fail
    rw [← hW1];clear hW1;refine HM.out.mono ?_;rintro e w' ⟨rfl, hw'⟩;rw [hw'];clear hw' w' HM
    go_wp2_with fail
    go_cut [22] (fun q V => q = .bool false ∧ Hid (Eqw W1 V))
    case first =>
      go_region
      all_goals go_wp2_with fail
      all_goals
        go_meet
        case rel => exact ⟨rfl, kAS _⟩
    case rest =>
    obtain ⟨rfl, hc2⟩ := hcut;have hR2 := HR1.out.eqw hc2.out;have HF : Hid (∀ n, Rep (wc.drewN n) a l H ∧ Nx a l l w (wc.drewN n)) := fun n => ⟨hR2.drewN n, (HX1.out.eqw hc2.out).eqw ⟨rfl, rfl, rfl, rfl⟩⟩
    have c6' := hR2.c6;rw [hpoE] at c6';have b2' : wc.cell? ⟨w.heap.size, 2, none⟩ = some (int i64 T) := (jBa (w := W1) (by rw [hc2.out.2.2.2])).trans b2;have HPE := kAA hpoE;clear b0 b1 b2 c6 c10 HR1 HX1 hR2 hpoE
    go_wp2_with fail
    go_quiet (fail)
    all_goals go_wp2_with fail
    all_goals
      have HF1 := kAA (HF.out nq);clear HF c6' b2';generalize wc.drewN nq = W2 at *
      go_loopw [31] (fun q wr => ∃ j : Nat, j ≤ H.fC.length - T ∧ q = int i64 j ∧ Hid (Rep wr a l (kAd H T j) ∧ Nx a l l w wr)) (fun q _ => (H.fC.length - T) - (intOf q).toNat)
      case atStart => exact ⟨0, jAH _, rfl, HF1.out⟩
      case round =>
        obtain ⟨j, hjn, rfl, hq2⟩ := hrel;obtain ⟨hr, hx⟩ := hq2.out;clear hq2
        by_cases hlt : j < H.fC.length - T
        · first
          | (exfalso; omega)
          | (obtain ⟨v1, v2, v3⟩ := HK.out.vac j (by omega)
             obtain ⟨go, hgo, hco, hfo, hgoa, hgol⟩ := hr.orderAt (T + j) (by omega);have o1 := hco (T + j) (by omega);rw [v2] at o1;have HV := kAA (kEn (H.fC.getD (T + j) 0) a l _ wr hr v1);have k1 := ng j;have k2 : (j : Int) < ((H.fC.length - T : Nat) : Int) := by omega
             have HN : Hid (kAd H T (j + 1) = vacH (kAd H T j) (H.fC.getD (T + j) 0)) := rfl;have HX := kAA hx;have hgg : go = g0 := by rw [HPE.out] at hgo; injection hgo with hgo; injection hgo with hgo _ _; exact hgo.symm
             subst hgg;generalize H.fC.getD (T + j) 0 = oo at *;clear hr hx hco hfo v1 v2 v3 hgo HPO
             go_wp2_with fail
             refine HV.out.mono ?_;rintro e w3 ⟨rfl, hr3, hx3⟩;have HF3 := kAA (And.intro hr3 (HX.out.trans hx3));clear hr3 hx3
             go_wp2_with fail
             go_roundw
             case rel => exact ⟨j + 1, by omega, by go_num, by rw [HN.out]; exact HF3.out⟩
             case measure => simp [intOf]; omega)
        · have hje : j = H.fC.length - T := by omega
          subst hje;have HDr := kAA (kEC t e0 a l _ wr hr HD.out);have HX := kAA hx;have hagl : (kAd H T (H.fC.length - T)).age = H.age := kFO H T _;clear hr hx
          go_wp2_with fail
          refine HDr.out.mono ?_;rintro e w3 ⟨rfl, hr3, hx3⟩;have c10 := hr3.c10;have f10 := hr3.frozen 10;have e1 : (kCW (kAd H T (H.fC.length - T)) t e0).age = H.age := hagl;rw [e1] at c10
          have HE : Hid (Rep (w3.setCell ⟨a, 10, none⟩ (int i64 ((H.age : Int) + 1))) a l { kCW (kAd H T (H.fC.length - T)) t e0 with age := H.age + 1 } ∧ Nx a l l w (w3.setCell ⟨a, 10, none⟩ (int i64 ((H.age : Int) + 1)))) :=
            ⟨hr3.set (H' := { kCW (kAd H T (H.fC.length - T)) t e0 with age := H.age + 1 }) 10 _ rfl rfl rfl rfl rfl, (HX.out.trans hx3).trans (Nx.fr (Fr.setCell (S := [a]) _ _ _ (by simp)))⟩
          clear hr3 hx3 e1 hagl
          go_wp2_with fail
          go_ret
          exact ⟨rfl, HE.out⟩
theorem kFT : (prog.info? 139).map (fun i => (i.zero, i.size, i.bytes)) = some (some (.agg #[int i64 0, int i64 0, int i64 0, .slice none 0 0]), 4, 48) := by kernel_rfl
theorem kIQ {e : TypeId} {g c : Nat} {C : Array Value} (hg : W.heap[g]? = some (.cells C e (0, 0))) (hge : w.heap.size ≤ g) (hC : C.size = c * size) (hc : c ≤ maxLen) : W.ownsRow w.heap.size e size (.slice (some ⟨g, 0, none⟩) 0 c) 0 [] :=
 ⟨by simp, .inr ⟨g, c, C, rfl, hge, hg, jAH _, hc, hC, by simp⟩⟩
theorem kOk (n : Nat) (hn : (n : Int) ≤ 1048576) (w : World) :
  Calls prog 130 #[.slice none 0 0, int i64 n] w fun e w' => ∃ v, e = .returned v ∧ w'.ownsRow w.heap.size 41 1 v 0 [] ∧ Fr [] w w' := by
 obtain ⟨j0, ji, jz0, jz1, jz2⟩ := info_parts kCx
 by_cases h0 : n = 0
 ·subst h0;go_enter func130, ntmps130
  go_wp2
  go_ret
  exact ⟨_, rfl, jAS _ _ _ _, Fr.refl _ _⟩
 ·have hp : (0 : Int) < (n : Int) := by omega
  have hrun := fun ty => Lib.run_append_nil_zeros (P := prog) w 35 3 ty 41 j0 (int i64 0) .i64 .i64 underlying35 underlying3 ji jz0 n (by omega) (by omega) (by omega) (by rw [jz2]; omega)
  have HRun := kAA hrun;have g1 := grownCap_ge w n 0 41;have g2 := grownCap_le_maxLen w n 0 41 (by unfold maxLen; omega)
  have HE : Hid ((w.drew.alloc (.cells (Builtin.zeroCells (int i64 0).cells n ++ Builtin.zeroCells (int i64 0).cells (grownCap w n 0 41 - n)) 41)).ownsRow w.heap.size 41 1 (.slice (some ⟨w.heap.size, 0, none⟩) 0 (grownCap w n 0 41)) 0 [] ∧ Fr [] w (w.drew.alloc (.cells (Builtin.zeroCells (int i64 0).cells n ++ Builtin.zeroCells (int i64 0).cells (grownCap w n 0 41 - n)) 41))) :=
   ⟨kIQ (heap_alloc_new w.drew _) (jAD _) (by
    rw [Array.size_append, size_zeroCells, size_zeroCells, show ((int i64 0).cells).size = 1 from rfl, ← Nat.add_mul]
    congr 1
    omega) g2, (Fr.drew [] w).trans (Fr.alloc [] _ _) (by simp)⟩
  clear hrun g1 g2;generalize grownCap w n 0 41 = gc at *;go_enter func130, ntmps130
  go_wp2_with (at_builtin; refine Lib.wpList_append_run _ rfl (.tmp 20) (.tmp 21) 35 3 rfl _ _ rfl rfl _ _ (HRun.out _) ?_)
  go_ret
  exact ⟨_, rfl, HE.out.1, HE.out.2⟩
theorem grow61 (n : Nat) (hn : (n : Int) ≤ 1048576) (w : World) :
  Calls prog 89 #[.slice none 0 0, int i64 n] w fun e w' => ∃ v, e = .returned v ∧ w'.ownsRow w.heap.size 139 4 v 0 [] ∧ Fr [] w w' := by
 obtain ⟨j0, ji, jz0, jz1, jz2⟩ := info_parts kFT
 by_cases h0 : n = 0
 ·subst h0;go_enter func89, ntmps89
  go_wp2
  go_ret
  exact ⟨_, rfl, jAS _ _ _ _, Fr.refl _ _⟩
 ·have hp : (0 : Int) < (n : Int) := by omega
  have hrun := fun ty => Lib.run_append_nil_zeros (P := prog) w 80 3 ty 139 j0 (Value.agg #[int i64 0, int i64 0, int i64 0, .slice none 0 0]) .i64 .i64 underlying80 underlying3 ji jz0 n (by omega) (by omega) (by omega) (by rw [jz2]; omega)
  have HRun := kAA hrun;have g1 := grownCap_ge w n 0 139;have g2 := grownCap_le_maxLen w n 0 139 (by unfold maxLen; omega)
  have HE : Hid ((w.drew.alloc (.cells (Builtin.zeroCells (Value.agg #[int i64 0, int i64 0, int i64 0, .slice none 0 0]).cells n ++ Builtin.zeroCells (Value.agg #[int i64 0, int i64 0, int i64 0, .slice none 0 0]).cells (grownCap w n 0 139 - n)) 139)).ownsRow w.heap.size 139 4 (.slice (some ⟨w.heap.size, 0, none⟩) 0 (grownCap w n 0 139)) 0 [] ∧ Fr [] w (w.drew.alloc (.cells (Builtin.zeroCells (Value.agg #[int i64 0, int i64 0, int i64 0, .slice none 0 0]).cells n ++ Builtin.zeroCells (Value.agg #[int i64 0, int i64 0, int i64 0, .slice none 0 0]).cells (grownCap w n 0 139 - n)) 139))) :=
   ⟨kIQ (heap_alloc_new w.drew _) (jAD _) (by
    rw [Array.size_append, size_zeroCells, size_zeroCells, show ((Value.agg #[int i64 0, int i64 0, int i64 0, .slice none 0 0]).cells).size = 4 from rfl, ← Nat.add_mul]
    congr 1
    omega) g2, (Fr.drew [] w).trans (Fr.alloc [] _ _) (by simp)⟩
  clear hrun g1 g2;generalize grownCap w n 0 139 = gc at *;go_enter func89, ntmps89
  go_wp2_with (at_builtin; refine Lib.wpList_append_run _ rfl (.tmp 20) (.tmp 21) 80 3 rfl _ _ rfl rfl _ _ (HRun.out _) ?_)
  go_ret
  exact ⟨_, rfl, HE.out.1, HE.out.2⟩
theorem kCp {ops : Array Oper} {o : Oper} {a : Act} {w : World} {K : Act → World → Prop} {Q : Exit → Act → World → Prop} {E : Prop} (hgd : o.guard = none) (f : FuncId) (fn : Func) (hfn : prog.funcs[f]? = some fn) (hnm : (fn.name == "runtime.NumGoroutine") = false) (hbd : fn.body.isSome = true) (xs : Array Operand) (ts : Array TypeId) 
  (ho : o.op = .call { callee := .value (.func f), args := xs, argTypes := ts }) (vs : Array Value) (hvs : xs.map a.eval = vs) (R : Value → World → Prop) (hc : Calls prog f vs w fun e w' => ∃ v, e = .returned v ∧ R v w')
  (h : ∀ v w', R v w' → K (a.put o.dst v) w') : if Region.wanted o (yielded ops a.tmps) = true then Oper.wp prog o a w K Q else E := by
 have hw : Region.wanted o (yielded ops a.tmps) = true := by simp [Region.wanted, hgd]
 rw [jp hw];unfold Oper.wp
 have e1 : (execOp a.eval o).run prog w = .ok (.enter f vs) w := by
  have h1 : ¬ fn.name = "runtime.NumGoroutine" := by simpa using hnm
  have h2 : ¬ fn.body = none := by intro e; rw [e] at hbd; simp at hbd
  simp [execOp, ho, resolve, invoke, Act.eval, hvs, Deferred.ofValue, callFunc, hfn, h1, h2]
 rw [e1];show Calls prog f vs w _;exact hc.mono (fun e w' ⟨v, he, hr⟩ => by subst he; exact h v w' hr)
theorem Is.slot {H : HS} {oop : Nat} (hi : Is H oop t) (i : Nat) (hin : i < t.fB.length) (a : Nat) (l : Lay) (hb : (H.mem.length : Int) ≤ 1048576) (w : World) (h : Rep w a l H) :
  Calls prog 108 #[.pointer (some ⟨a, 0, none⟩), sv (H.fD.getD oop (0, 0, 0)), int i64 t.fmt, int i64 i] w fun e w' => e = .returned (int i64 (t.fB.getD i 0)) ∧ Fr [] w w' := by
 have hr := hi.room;have hl := hi.len;have h2' := kAR t.fB.length t.fmt;rcases (show t.fmt = 0 ∨ t.fmt = 1 from by have := hi.fmt; omega) with hf | hf
 ·have := kCK t.fB.length i t.fmt hf hin;rw [hf, ← hi.word hf i hin];exact kOO _ i a l H w h (by omega) hb
 ·obtain ⟨old, o1, o2, o3⟩ := hi.byte hf i hin;have := kCI t.fB.length i hin;rw [← hf] at this;rw [hf, o3];exact kIS _ i old a l H w h (by omega) hb o1 (by omega)
theorem kAV {b0 b1 : Nat} {e : TypeId} {n : Nat} {xs : List Value} (h : w.ownsRow b1 e size v n xs) (hb : b0 ≤ b1) : w.ownsRow b0 e size v n xs := by
 refine ⟨h.1, ?_⟩;rcases h.2 with h2 | ⟨g, cap, cur, h2, h3, h4⟩
 ·exact .inl h2
 ·exact .inr ⟨g, cap, cur, h2, jAU hb h3, h4⟩
structure Obj1 (w W : World) (B : Nat) (oop cls fmt : Int) (p L t : Nat) (ss : List Int) (k : Nat) : Prop where
 fr : Fr [] w W
 lo : w.heap.size + 2 ≤ B
 res : W.heap[w.heap.size]? = some (.cells #[int i64 0, int i64 0, int i64 0, .slice none 0 0] 139 (0, 0))
 seat : W.heap[w.heap.size + 1]? = some (.cells #[int i64 p, int i64 L, int i64 t] 148 (0, 0))
 at_ : ∃ v, W.heap[B]? = some (.cells #[int i64 oop, int i64 cls, int i64 fmt, v] 139 (0, 0)) ∧ W.ownsRow (B + 1) 41 1 v k ((ss.take k).map (int i64))
theorem Obj1.fK {W' : World} {B : Nat} {t : Nat} (h : Obj1 w W B oop cls fmt p L t ss k) (hf : Fr [] W W') : Obj1 w W' B oop cls fmt p L t ss k := by
 obtain ⟨v, h1, h2⟩ := h.at_
 exact ⟨h.fr.trans hf (by simp), h.lo, (hf.block _ (kAB h.res) (by simp)).trans h.res, (hf.block _ (kAB h.seat) (by simp)).trans h.seat, v, (hf.block _ (kAB h1) (by simp)).trans h1, kAE h2 fun g hg => by
  obtain ⟨c, p, q⟩ : ∃ c, True ∧ W.heap[g]? = some c := ⟨_, trivial, Array.getElem?_eq_getElem (h2.lt g hg).2⟩
  exact hf.block g (h2.lt g hg).2 (by simp)⟩
theorem Obj1.next {V W2 : World} {B : Nat} {t : Nat} {g2 cap : Nat} {x : Int} (h : Obj1 w W B oop cls fmt p L t ss k) (hv : W.heap[B]? = some (.cells #[int i64 oop, int i64 cls, int i64 fmt, v] 139 (0, 0))) (ho : W.ownsRow (B + 1) 41 1 v k ((ss.take k).map (int i64))) 
  (hk : k < ss.length) (hx : ss.getD k 0 = x) (hg : (W.alloc (.cells #[int i64 x] 41)).grownBy W2 v.ownBlock) (hown : W2.ownsRow (B + 1) 41 1 (.slice (some ⟨g2, 0, none⟩) (k + 1) cap) (k + 1) ((ss.take k).map (int i64) ++ [int i64 x]))
  (he : Eqw (W2.setCell ⟨B, 3, none⟩ (.slice (some ⟨g2, 0, none⟩) (k + 1) cap)) V) : Obj1 w V B oop cls fmt p L t ss (k + 1) := by
 have hBl := kAB hv;have hne : ∀ b, v.ownBlock = some b → B + 1 ≤ b := fun b hb => (ho.lt b hb).1
 have hsame : ∀ i, i < W.heap.size → i ≤ B → W2.heap[i]? = W.heap[i]? := fun i hi hle => by
  rw [hg.block i (by simp; omega) (fun e => by have := hne _ e.symm; omega)];exact jAN _ _ _ hi
 have hV : ∀ i, i ≠ B → V.heap[i]? = W2.heap[i]? := fun i hi => by rw [he.2.2.2, kAK hi]
 have hlo := h.lo;have hg2 : B + 1 ≤ g2 := (hown.lt g2 rfl).1;refine ⟨?_, h.lo, ?_, ?_, .slice (some ⟨g2, 0, none⟩) (k + 1) cap, ?_, ?_⟩
 ·have F1 : Fr [] w W2 := by
   refine ⟨hg.os.trans h.fr.os, hg.tape.trans h.fr.tape, hg.output.trans h.fr.output, jAU h.fr.size (jAU (by simp) hg.size), fun i hi hn => ?_⟩;have := h.fr.size;rw [hsame i (by omega) (by omega)];exact h.fr.block i hi (by simp)
  have F2 : Fr [] w (W2.setCell ⟨B, 3, none⟩ (.slice (some ⟨g2, 0, none⟩) (k + 1) cap)) := F1.trans (Fr.setCell (S := [B]) _ _ _ (by simp)) (fun b hb => by simp at hb; subst hb; right; omega);exact F2.trans (he.fr []) (by simp)
 ·rw [hV _ (by omega), hsame _ (kAB h.res) (by omega)]; exact h.res
 ·rw [hV _ (by omega), hsame _ (kAB h.seat) (by omega)]; exact h.seat
 ·have h4 := hsame B hBl (jAD _);rw [hv] at h4;rw [he.2.2.2, kAI h4];rfl
 ·have e1 : (ss.take (k + 1)).map (int i64) = (ss.take k).map (int i64) ++ [int i64 x] := by
   rw [jAO hk, jAP, ← hx, jAA, jAB hk];rfl
  rw [e1]
  exact kAE hown fun g hg3 => hV g (by
   have : g = g2 := by simpa [Value.ownBlock] using hg3.symm
   omega)
theorem kKN (oop : Nat) (t : Th) (a : Nat) (l : Lay) (H : HS) (w : World) (h : Rep w a l H) (hi : Is H oop t) (hb : (H.mem.length : Int) ≤ 1048576) :
  Calls prog 90 #[.pointer (some ⟨a, 0, none⟩), int i64 oop] w fun e w' => ∃ v, e = .returned (.agg #[int i64 oop, int i64 t.cls, int i64 t.fmt, v]) ∧ w'.ownsRow w.heap.size 41 1 v t.fB.length (t.fB.map (int i64)) ∧ Fr [] w w' := by
 obtain ⟨h1, h2, h3⟩ := kAk hi.has;have hr := hi.room;have hl := hi.len;have hfm := hi.fmt;have h2' := kAR t.fB.length t.fmt;have hal := h.lt a (by simp [foot]);obtain ⟨gs, hgs, hcs, hfs, hgsa, hgsl⟩ := h.seatAt oop (by omega);obtain ⟨p0, p1, p2⟩ := hcs oop (by omega);obtain ⟨gm, hgm, hcg, hfg, hga, hgl⟩ := h.memBlock (by omega);have qm := hcg (H.fD.getD oop (0, 0, 0)).1 (by omega);rw [hi.cls] at qm;have c4 := h.c4;have c5 := h.c5;rw [hgs] at c5;rw [hgm] at c4
 have HSh : Hid (∀ V, Fr [] w V → Calls prog 103 #[.pointer (some ⟨a, 0, none⟩), sv (H.fD.getD oop (0, 0, 0))] V fun e w' => e = .returned (.tuple #[int i64 t.fB.length, int i64 t.fmt]) ∧ Fr [] V w') := by
  intro V hV;have := kCg (H.fD.getD oop (0, 0, 0)) (2 * t.fB.length + t.fmt) a l H V (h.keep hV (by simp)) (by omega) hi.shape hb;rw [show (2 * t.fB.length + t.fmt) / 2 = t.fB.length from by omega, show (2 * t.fB.length + t.fmt) % 2 = t.fmt from by omega] at this;exact this
 have HSl : Hid (∀ V, Fr [] w V → ∀ i, i < t.fB.length → Calls prog 108 #[.pointer (some ⟨a, 0, none⟩), sv (H.fD.getD oop (0, 0, 0)), int i64 t.fmt, int i64 i] V fun e w' => e = .returned (int i64 (t.fB.getD i 0)) ∧ Fr [] V w') := fun V hV i hin => hi.slot i hin a l hb V (h.keep hV (by simp))
 have hs1 := hi.room;clear h hi hcs hfs hcg;generalize H.fD.getD oop (0, 0, 0) = s at *;obtain ⟨p, L, tn⟩ := s;dsimp only [sv, I] at *;have k1 := ng oop;have k2 : (oop : Int) < H.fD.length := by omega
 have k3 := ng p;have k4 : (p : Int) < H.mem.length := by omega
 obtain ⟨j0, ji, jz0, jz1, jz2⟩ := info_parts kCx;go_enter func90, ntmps90
 go_wp2_with fail
 have F2 : Fr [] w ((w.alloc (.cells #[int i64 0, int i64 0, int i64 0, .slice none 0 0] 139)).alloc (.cells #[int i64 p, int i64 L, int i64 tn] 148)) := (Fr.alloc [] _ _).trans (Fr.alloc [] _ _) (by simp)
 have HB : Hid (((w.alloc (.cells #[int i64 0, int i64 0, int i64 0, .slice none 0 0] 139)).alloc (.cells #[int i64 p, int i64 L, int i64 tn] 148)).heap[w.heap.size]? = some (.cells #[int i64 0, int i64 0, int i64 0, .slice none 0 0] 139 (0, 0)) ∧
   ((w.alloc (.cells #[int i64 0, int i64 0, int i64 0, .slice none 0 0] 139)).alloc (.cells #[int i64 p, int i64 L, int i64 tn] 148)).heap[w.heap.size + 1]? = some (.cells #[int i64 p, int i64 L, int i64 tn] 148 (0, 0)) ∧
   ((w.alloc (.cells #[int i64 0, int i64 0, int i64 0, .slice none 0 0] 139)).alloc (.cells #[int i64 p, int i64 L, int i64 tn] 148)).heap.size = w.heap.size + 2) := by
  refine ⟨?_, ?_, by simp⟩
  ·rw [jAN _ _ _ (by simp)]; exact heap_alloc_new _ _
  ·have := heap_alloc_new (w.alloc (.cells #[int i64 0, int i64 0, int i64 0, .slice none 0 0] 139)) (.cells #[int i64 p, int i64 L, int i64 tn] 148)
   simpa using this
 have HSh2 := kAA (HSh.out _ F2);have HF2 := kAA F2;clear F2 HSh;generalize ((w.alloc (.cells #[int i64 0, int i64 0, int i64 0, .slice none 0 0] 139)).alloc (.cells #[int i64 p, int i64 L, int i64 tn] 148)) = W2 at *;refine HSh2.out.mono ?_;rintro e w3 ⟨rfl, hf3⟩;obtain ⟨hb1, hb2, hb3⟩ := HB.out;have F3 := HF2.out.trans hf3 (by simp);have r1 := (hf3.block _ (kAB hb1) (by simp)).trans hb1;have r2 := (hf3.block _ (kAB hb2) (by simp)).trans hb2;have hz3 := hf3.size;have d4 := (F3.cell (p := ⟨a, 4, none⟩) hal (by simp)).trans c4;have dm := (F3.cell (p := ⟨gm, p, none⟩) hgl (by simp)).trans qm;have b0 : w3.cell? ⟨w.heap.size + 1, 0, none⟩ = some (int i64 p) := by rw [kAC r2]; rfl
 have hz4 : w.heap.size + 2 ≤ w3.heap.size := by omega
 have hz5 : w.heap.size + 1 < w3.heap.size := by omega
 have hz6 : a < w3.heap.size := by omega
 have hz7 : gm < w3.heap.size := by omega
 have HO : Hid (∀ V, Eqw (w3.alloc (.cells #[int i64 oop, int i64 t.cls, int i64 t.fmt, .slice none 0 0] 139)) V → Obj1 w V w3.heap.size oop t.cls t.fmt p L tn t.fB 0) := by
  intro V hV;have hk : ∀ i, i < w3.heap.size → V.heap[i]? = w3.heap[i]? := fun i hi => by rw [hV.2.2.2]; exact jAN _ _ _ hi
  exact ⟨(F3.trans (Fr.alloc [] _ _) (by simp)).trans (hV.fr []) (by simp), hz4, (hk _ (by omega)).trans r1, (hk _ (by omega)).trans r2, .slice none 0 0, by rw [hV.2.2.2]; exact heap_alloc_new _ _, jAS _ _ _ _⟩
 clear hb1 hb2 hb3 F3 r1 r2 hf3 HB HF2 HSh2 p0 p1 p2 qm c4 c5
 go_wp2_with fail
 go_region
 all_goals go_wp2_with fail
 have HO1 := kAA (HO.out _ (kAS _));have HG := kAA (kOk t.fB.length (by omega) ((w3.alloc (.cells #[int i64 oop, int i64 t.cls, int i64 t.fmt, .slice none 0 0] 139)).drew));have hVs : ((w3.alloc (.cells #[int i64 oop, int i64 t.cls, int i64 t.fmt, .slice none 0 0] 139)).drew).heap.size = w3.heap.size + 1 := by simp
 clear HO d4 dm b0 hz5 hz6 hz7 k1 k2 k3 k4 hgsl hgl hga hgsa hgs hgm;generalize (w3.alloc (.cells #[int i64 oop, int i64 t.cls, int i64 t.fmt, .slice none 0 0] 139)).drew = V0 at *;refine HG.out.mono ?_;rintro e w4 ⟨v4, rfl, ho4, hf4⟩
 obtain ⟨p4, c4, rfl⟩ : ∃ p c, v4 = .slice p 0 c := by
  rcases ho4.2 with ⟨h2, h3⟩ | ⟨g, cap, cur, h2, _⟩
  ·exact ⟨none, 0, h2⟩
  ·exact ⟨_, cap, h2⟩
 have hO4 := HO1.out.fK hf4;obtain ⟨v0, hv0, -⟩ := hO4.at_;have e3 : w4.cell? ⟨w3.heap.size, 3, none⟩ = some v0 := by rw [kAC hv0]; rfl
 have f3 := kAD hv0 3;rw [hVs] at ho4
 have HO4 : Hid (Obj1 w (w4.setCell ⟨w3.heap.size, 3, none⟩ (.slice p4 0 c4)) w3.heap.size oop t.cls t.fmt p L tn t.fB 0) := by
  have hne : ∀ i, i ≠ w3.heap.size → (w4.setCell ⟨w3.heap.size, 3, none⟩ (.slice p4 0 c4)).heap[i]? = w4.heap[i]? := fun i hi => kAK hi
  refine ⟨hO4.fr.trans (Fr.setCell (S := [w3.heap.size]) _ _ _ (by simp)) (fun b hb => by simp at hb; subst hb; right; omega), hO4.lo, (hne _ (by omega)).trans hO4.res, (hne _ (by omega)).trans hO4.seat, .slice p4 0 c4, ?_, ?_⟩
  ·rw [kAI hv0]; rfl
  ·exact kAE ho4 fun g hg => hne g (by have := (ho4.lt g hg).1; omega)
 clear hO4 hv0 ho4 hf4 HG HO1
 go_wp2_with fail
 generalize w4.setCell ⟨w3.heap.size, 3, none⟩ (.slice p4 0 c4) = W4 at *
 go_loopw [40] (fun q wr => ∃ k : Nat, k ≤ t.fB.length ∧ q = int i64 k ∧ Hid (Obj1 w wr w3.heap.size oop t.cls t.fmt p L tn t.fB k)) (fun q _ => t.fB.length - (intOf q).toNat)
 case atStart => exact ⟨0, jAH _, rfl, HO4.out⟩
 case round =>
  obtain ⟨k, hkn, rfl, hq⟩ := hrel;obtain ⟨v, hv, ho⟩ := hq.out.at_
  by_cases hlt : k < t.fB.length
  ·have k2 : (k : Int) < t.fB.length := by omega
   have d3 : wr.cell? ⟨w3.heap.size, 3, none⟩ = some v := by rw [kAC hv]; rfl
   have g0 : wr.cell? ⟨w.heap.size + 1, 0, none⟩ = some (int i64 p) := by rw [kAC hq.out.seat]; rfl
   have g1 : wr.cell? ⟨w.heap.size + 1, 1, none⟩ = some (int i64 L) := by rw [kAC hq.out.seat]; rfl
   have g2 : wr.cell? ⟨w.heap.size + 1, 2, none⟩ = some (int i64 tn) := by rw [kAC hq.out.seat]; rfl
   obtain ⟨x, hx⟩ := jxe (t.fB.getD k 0)
   have HSk : Hid (Calls prog 108 #[.pointer (some ⟨a, 0, none⟩), .agg #[int i64 p, int i64 L, int i64 tn], int i64 t.fmt, int i64 k] wr.drew fun e w' => ∃ v, e = .returned v ∧ (v = int i64 x ∧ Hid (Fr [] wr w'))) := by
    have := HSl.out wr.drew (hq.out.fr.trans (Fr.drew [] wr) (by simp)) k hlt;rw [hx] at this;refine this.mono ?_;rintro e w' ⟨rfl, hf⟩;exact ⟨_, rfl, rfl, (Fr.drew [] wr).trans hf (by simp)⟩
   have HBf : Hid (∀ V, Hid (Fr [] wr V) → w3.heap.size < V.heap.size ∧ V.cell? ⟨w3.heap.size, 3, none⟩ = some v ∧ (V.alloc (.cells #[int i64 x] 41)).ownsRow (w3.heap.size + 1) 41 1 v k ((t.fB.take k).map (int i64)) ∧ (∀ j u, ([int i64 x] : List Value)[j]? = some u → (V.alloc (.cells #[int i64 x] 41)).cell? ((⟨V.heap.size, 0, none⟩ : Addr).add j) = some u)) := by
    intro V hV;refine ⟨jAb (kAB hv) hV.out.size, (hV.out.cell (p := ⟨w3.heap.size, 3, none⟩) (kAB hv) (by simp)).trans d3, (kAE ho fun g hg => hV.out.block g (ho.lt g hg).2 (by simp)).alloc _, World.news_of_block (heap_alloc_new V (.cells #[int i64 x] 41))⟩
   have HN : Hid (∀ V g2 cap W2 V2, Hid (Fr [] wr V) → (V.alloc (.cells #[int i64 x] 41)).grownBy W2 v.ownBlock → W2.ownsRow (w3.heap.size + 1) 41 1 (.slice (some ⟨g2, 0, none⟩) (k + 1) cap) (k + 1) ((t.fB.take k).map (int i64) ++ [int i64 x]) → Eqw (W2.setCell ⟨w3.heap.size, 3, none⟩ (.slice (some ⟨g2, 0, none⟩) (k + 1) cap)) V2 → Obj1 w V2 w3.heap.size oop t.cls t.fmt p L tn t.fB (k + 1)) := by
    intro V g2 cap W2 V2 hV hg hown he;exact (hq.out.fK hV.out).next ((hV.out.block _ (kAB hv) (by simp)).trans hv) (kAE ho fun g hg => hV.out.block g (ho.lt g hg).2 (by simp)) hlt hx hg hown he
   have HFz : Hid (∀ V W2, Hid (Fr [] wr V) → (V.alloc (.cells #[int i64 x] 41)).grownBy W2 v.ownBlock → W2.frozen? ⟨w3.heap.size, 3, none⟩ = false ∧ W2.cell? ⟨w3.heap.size, 3, none⟩ = some v) := by
    intro V W2 hV hg
    have h1 : W2.heap[w3.heap.size]? = some (.cells #[int i64 oop, int i64 t.cls, int i64 t.fmt, v] 139 (0, 0)) := by
     rw [hg.block _ (by simp; have := kAB hv; have := hV.out.size; omega) (fun e => by have := (ho.lt _ e.symm).1; omega), jAN _ _ _ (jAb (kAB hv) hV.out.size)];exact (hV.out.block _ (kAB hv) (by simp)).trans hv
    exact ⟨kAD h1 3, by rw [kAC h1]; rfl⟩
   have hB := kAB hv;clear hq hv ho HSl hx
   go_wp2_with fail
   go_region_law
    (first | (refine step_append_lies _ rfl (.tmp 44) (.tmp 50) 35 rfl (w3.heap.size + 1) 41 j0 (int i64 0) 1 8 underlying35 ji jz0 jz1 jz2 rfl (by decide) v k ((t.fB.take k).map (int i64)) (by simp [Act.eval]) z3 ⟨w5.heap.size, 0, none⟩ 1 1 [int i64 x] (by simp [Act.eval]) rfl z4 (by simp [Value.oneCell']) (by decide) (by unfold maxLen; omega) (by omega) (by simp; omega) _ rfl ?_; intro g6 c6 w6 hown6 hgrow6 hat6 hlt6; obtain ⟨y1, y2⟩ := HFz.out w5 w6 hf5 hgrow6) | (refine kCp rfl 108 Tryz.f108 func108 (by kernel_rfl) (by kernel_rfl) _ _ rfl _ (by simp [Act.eval]) _ HSk.out ?_; rintro _ w5 ⟨rfl, hf5⟩; obtain ⟨z1, z2, z3, z4⟩ := HBf.out w5 hf5))
   all_goals go_wp2_with fail
   all_goals
    go_roundw
    case rel => exact ⟨k + 1, by omega, by go_num, HN.out w5 g6 c6 w6 _ hf5 hgrow6 hown6 ⟨rfl, rfl, rfl, rfl⟩⟩
    case measure => simp [intOf]; omega
  ·have hke : k = t.fB.length := by omega
   subst hke;rw [jAV] at ho;have hB := kAB hv;have d0 : wr.cell? ⟨w3.heap.size, 0, none⟩ = some (int i64 oop) := by rw [kAC hv]; rfl
   have d1 : wr.cell? ⟨w3.heap.size, 1, none⟩ = some (int i64 t.cls) := by rw [kAC hv]; rfl
   have d2 : wr.cell? ⟨w3.heap.size, 2, none⟩ = some (int i64 t.fmt) := by rw [kAC hv]; rfl
   have d3 : wr.cell? ⟨w3.heap.size, 3, none⟩ = some v := by rw [kAC hv]; rfl
   have hr := hq.out.res;have r0 : wr.cell? ⟨w.heap.size, 0, none⟩ = some (int i64 0) := by rw [kAC hr]; rfl
   have r1 : wr.cell? ⟨w.heap.size, 1, none⟩ = some (int i64 0) := by rw [kAC hr]; rfl
   have r2 : wr.cell? ⟨w.heap.size, 2, none⟩ = some (int i64 0) := by rw [kAC hr]; rfl
   have r3 : wr.cell? ⟨w.heap.size, 3, none⟩ = some (.slice none 0 0) := by rw [kAC hr]; rfl
   have y0 := kAD hr 0;have y1 := kAD hr 1;have y2 := kAD hr 2;have y3 := kAD hr 3;have hlo := hq.out.lo
   obtain ⟨pv, cv, rfl⟩ : ∃ p c, v = .slice p t.fB.length c := by
    rcases ho.2 with ⟨h2, h3⟩ | ⟨g, cap, cur, h2, _⟩
    ·exact ⟨none, 0, by rw [h2, h3]⟩
    ·exact ⟨_, cap, h2⟩
   have HE : Hid (∀ V, Fr [w.heap.size] wr V → V.ownsRow w.heap.size 41 1 (.slice pv t.fB.length cv) t.fB.length (t.fB.map (int i64)) ∧ Fr [] w V) := by
    intro V hV;refine ⟨kAV (kAE ho fun g hg => hV.block g (ho.lt g hg).2 (by have := (ho.lt g hg).1; simp; omega)) (by omega), hq.out.fr.trans hV (fun b hb => by simp at hb; subst hb; right; exact jAD _)⟩
   have hne : w.heap.size ≠ w3.heap.size := by omega
   have HRes := kAA hr;clear hq hv ho HSl hr
   go_wp2_with fail
   obtain ⟨V, hV⟩ := jex ((((wr.setCell ⟨w.heap.size, 0, none⟩ (int i64 oop)).setCell ⟨w.heap.size, 1, none⟩ (int i64 t.cls)).setCell ⟨w.heap.size, 2, none⟩ (int i64 t.fmt)).setCell ⟨w.heap.size, 3, none⟩ (.slice pv t.fB.length cv))
   have hVb : V.heap[w.heap.size]? = some (.cells #[int i64 oop, int i64 t.cls, int i64 t.fmt, .slice pv t.fB.length cv] 139 (0, 0)) := by
    rw [hV, kAI (kAI (kAI (kAI HRes.out 0 _) 1 _) 2 _) 3 _];rfl
   have F : Fr [w.heap.size] wr V := by
    rw [hV];exact (((Fr.setCell (S := [w.heap.size]) wr ⟨w.heap.size, 0, none⟩ (int i64 oop) (by simp)).trans (Fr.setCell (S := [w.heap.size]) _ ⟨w.heap.size, 1, none⟩ (int i64 t.cls) (by simp)) (fun b hb => .inl hb)).trans (Fr.setCell (S := [w.heap.size]) _ ⟨w.heap.size, 2, none⟩ (int i64 t.fmt) (by simp)) (fun b hb => .inl hb)).trans (Fr.setCell (S := [w.heap.size]) _ ⟨w.heap.size, 3, none⟩ (.slice pv t.fB.length cv) (by simp)) (fun b hb => .inl hb)
   rw [← hV];clear hV;have x0 : V.cell? ⟨w.heap.size, 0, none⟩ = some (int i64 oop) := by rw [kAC hVb]; rfl
   have x1 : V.cell? ⟨w.heap.size, 1, none⟩ = some (int i64 t.cls) := by rw [kAC hVb]; rfl
   have x2 : V.cell? ⟨w.heap.size, 2, none⟩ = some (int i64 t.fmt) := by rw [kAC hVb]; rfl
   have x3 : V.cell? ⟨w.heap.size, 3, none⟩ = some (.slice pv t.fB.length cv) := by rw [kAC hVb]; rfl
   refine bodyPost_ret (v := .agg #[int i64 oop, int i64 t.cls, int i64 t.fmt, .slice pv t.fB.length cv]) (by simp [results, results90, go_sem, x0, x1, x2, x3]) rfl ?_;obtain ⟨h5, h6⟩ := HE.out V F;exact ⟨_, rfl, h5, h6⟩
end Go.Proofs.YtflgicdbbogllaaGreatDoor
