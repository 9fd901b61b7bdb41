import Derived.Test.YtflgicdbbogllaaGreatDoorPG12HRefB
set_option maxHeartbeats 2000000
set_option maxRecDepth 20000
set_option linter.unusedSimpArgs false
set_option linter.unusedVariables false
namespace Go.Proofs.YtflgicdbbogllaaGreatDoor
open Go.RowKit Tryz
open Value (int)
open IntKind (i64)
attribute [local go_sem ↓] wp_at_zero wp_at_succ
variable {B fH fM g k mark r x : Nat} {H : HS} {L : List Nat} {M : MS} {S T : List Th} {ks : List Key} {q : Int} {w : World}
def allK (fH fM : Nat) (ks : List Key) : Prop := ∀ (i : Nat) (o : Key), ks[i]? = some o → kCB fH fM (ks.take i) o = true
theorem kLt {k : Key} (h : allK fH fM ks) (hk : kCB fH fM ks k = true) : allK fH fM (ks ++ [k]) := by
 intro i o ho;have hi := (jAc.1 ho).1;rw [jAG, jBQ] at hi
 by_cases e : i < ks.length
 ·rw [jAK e] at ho;rw [jBC (by omega)];exact h i o ho
 ·have e2 : i = ks.length := by omega
  subst e2;rw [jAI (jAD _), Nat.sub_self] at ho;have : k = o := by simpa using ho
  subst this;rw [jBC (jAD _), jAV];exact hk
structure ROf (fH fM mark : Nat) (ks : List Key) (R : RS) : Prop where
 eWords : R.fH = fH
 eOops : R.fM = fM
 eMark : R.mark = mark
 fL : R.fL = ks.length
 fO : R.fO = 0
 keys : R.fE.map kBU = ks
 fin : (rEnd R.fE : Int) = endK ks
 fits : endK ks ≤ (fH : Int)
 twice : 2 * (ks.length : Int) ≤ endK ks
 fB : ∀ o ∈ R.fE, o.fJ ≤ fH ∧ o.fB.length ≤ 8192
 good : allK fH fM ks
 old : ∀ o ∈ R.fE, o.fL < R.fL
 lone : R.fE.Pairwise fun x o => ∀ g, o.v.ownBlock = some g → x.v.ownBlock ≠ some g
 pls : ∀ a x b, R.fE = a ++ x :: b → x.fJ = rEnd a
 rise : (R.fE.map RO.fL).Pairwise (fun x y => x < y)
theorem ROf.len {R : RS} (h : ROf fH fM mark ks R) : R.fE.length = ks.length := by rw [← h.keys, jAR]
theorem ROf.ok {R : RS} (h : ROf fH fM mark ks R) (hw : fH ≤ 1048576) : ROk R :=
 ⟨by have := h.len; have := h.fits; have := h.twice; omega, fun o ho => ⟨by have := (h.fB o ho).1; omega, (h.fB o ho).2⟩⟩
theorem kGL (l : List RO) (o : RO) : rEnd (l ++ [o]) = o.fJ + lenN o.fB.length o.fmt := by
 unfold rEnd;rw [jAG, jBQ, jn (by omega), jAJ];have : (l ++ [o]).getD l.length noRO = o := by rw [jAA, jAI (jAD _)]; simp
 rw [this]
theorem kDr {k : Key} (h : kCB fH fM ks k = true) : 1 ≤ k.1 ∧ k.1 ≤ (fM : Int) ∧ (ks.any fun x => x.1 == k.1) = false ∧ isW k.2.1 = true ∧ isF k.2.2.1 = true ∧ (k.2.2.2.length : Int) ≤ 8192 ∧ (∀ j, j < k.2.2.2.length → mayB (k.2.2.2.getD j 0) k.2.2.1 = true) ∧ endK ks + kBd (k.2.2.2.length : Int) k.2.2.1 ≤ (fH : Int) := by
 unfold kCB at h;simp only [jBA, Bool.not_eq_true', decide_eq_true_eq] at h;obtain ⟨⟨⟨⟨⟨⟨⟨h1, h2⟩, h3⟩, h4⟩, h5⟩, h6⟩, h7⟩, h8⟩ := h;refine ⟨h1, h2, h3, h4, h5, h6, fun j hj => ?_, h8⟩;rw [jBR] at h7;have e : k.2.2.2.getD j 0 = k.2.2.2[j] := by rw [jAA, jAB hj]; rfl
 rw [e];exact h7 _ (jAT hj)
theorem ROf.nil (fH fM mark : Nat) (ov : Value) : ROf fH fM mark [] ⟨fH, fM, mark, 0, 0, [], ov⟩ :=
 ⟨rfl, rfl, rfl, rfl, rfl, rfl, rfl, by simp [endK], by simp [endK], by simp, fun i o ho => (by simp at ho), by simp, List.Pairwise.nil, fun a x b e => by simp at e, List.Pairwise.nil⟩
theorem ROf.snoc {R : RS} (h : ROf fH fM mark ks R) (o : RO) (ov : Value) (ht : kCB fH fM ks (kBU o) = true) (hp : o.fJ = rEnd R.fE) (hb : o.fL = R.fL) (hn : ∀ x ∈ R.fE, ∀ g, o.v.ownBlock = some g → x.v.ownBlock ≠ some g) : ROf fH fM mark (ks ++ [kBU o]) { R with fE := R.fE ++ [o], fL := R.fL + 1, ov := ov } := by
 obtain ⟨t1, t2, t3, t4, t5, t6, t7, t8⟩ := kDr ht;have hl : kBd (o.fB.length : Int) (o.fmt : Int) = (lenN o.fB.length o.fmt : Nat) := kAt _ _;have h2 := kAR o.fB.length o.fmt;have e : endK (ks ++ [kBU o]) = endK ks + (lenN o.fB.length o.fmt : Nat) := by rw [kCj]; simp only [endK, kBU]; omega
 have hf := h.fin;simp only [kBU] at t8 t6;refine ⟨h.eWords, h.eOops, h.eMark, by show R.fL + 1 = _; rw [h.fL, jAG]; rfl, h.fO, by show (R.fE ++ [o]).map kBU = _; rw [jAP, h.keys]; rfl, ?_, ?_, ?_, fun x hx => ?_, kLt h.good ht, fun x hx => ?_, jAi.2 ⟨h.lone, jBU _ _, fun x hx y hy => by rw [jAp.1 hy]; exact hn x hx⟩, fun a x b e => ?_, ?_⟩
 ·show (rEnd (R.fE ++ [o]) : Int) = _;rw [kGL, e, hp];omega
 ·rw [e]; omega
 ·rw [e, jAG, jBQ];have := h.twice;omega
 ·rcases jAC.1 hx with h1 | h1
  ·exact h.fB x h1
  ·have : x = o := by simpa using h1
   rw [this];exact ⟨by omega, by omega⟩
 ·show x.fL < R.fL + 1;rcases jAC.1 hx with h1 | h1
  ·have := h.old x h1;omega
  ·have : x = o := by simpa using h1
   rw [this, hb];omega
 ·have e2 : R.fE ++ [o] = a ++ x :: b := e;rcases List.eq_nil_or_concat b with hb2 | ⟨b', u, hb2⟩
  ·subst hb2;have h3 := List.append_inj' e2 rfl;have h4 : o = x := by simpa using h3.2
   rw [← h4, ← h3.1];exact hp
  ·rw [hb2, List.concat_eq_append] at e2;have e3 : R.fE ++ [o] = (a ++ x :: b') ++ [u] := by rw [e2]; simp
   exact h.pls a x b' (List.append_inj' e3 rfl).1
 ·show ((R.fE ++ [o]).map RO.fL).Pairwise (fun x y => x < y);rw [jAP];refine jAi.2 ⟨h.rise, jBU _ _, fun x hx y hy => ?_⟩;have e : y = o.fL := by simpa using hy
  obtain ⟨z, z1, z2⟩ := jAZ.1 hx;have := h.old z z1;rw [e, hb];omega
theorem kEa (f : Int → Bool) : ∀ ss : List Int, (ss.all f) = false → ∃ j, j < ss.length ∧ (∀ i, i < j → f (ss.getD i 0) = true) ∧ f (ss.getD j 0) = false
 | [], h => by simp at h
 | x :: t, h => by
  by_cases hx : f x = true
  ·have ht : t.all f = false := by simpa [hx] using h
   obtain ⟨j, hj, hg, hb⟩ := kEa f t ht;refine ⟨j + 1, by simpa using hj, fun i hi => ?_, by simpa using hb⟩;rcases i with _ | i
   ·simpa using hx
   ·simpa using hg i (by omega)
  ·exact ⟨0, by simp, fun i hi => absurd hi (by omega), by simpa using hx⟩
theorem kLG {k : Key} (h : kCB fH fM ks k = false) :
  k.1 < 1 ∨ (1 ≤ k.1 ∧ (fM : Int) < k.1) ∨ (1 ≤ k.1 ∧ k.1 ≤ (fM : Int) ∧ (ks.any fun x => x.1 == k.1) = true) ∨
  (1 ≤ k.1 ∧ k.1 ≤ (fM : Int) ∧ (ks.any fun x => x.1 == k.1) = false ∧ (isW k.2.1 = false ∨ (isW k.2.1 = true ∧ (k.2.2.1 < 0 ∨ (0 ≤ k.2.2.1 ∧ 1 < k.2.2.1) ∨ (0 ≤ k.2.2.1 ∧ k.2.2.1 ≤ 1 ∧ (8192 < (k.2.2.2.length : Int) ∨ ((k.2.2.2.length : Int) ≤ 8192 ∧
   ((∃ j, j < k.2.2.2.length ∧ (∀ i, i < j → mayB (k.2.2.2.getD i 0) k.2.2.1 = true) ∧ mayB (k.2.2.2.getD j 0) k.2.2.1 = false) ∨ ((∀ j, j < k.2.2.2.length → mayB (k.2.2.2.getD j 0) k.2.2.1 = true) ∧ (fH : Int) < endK ks + kBd (k.2.2.2.length : Int) k.2.2.1))))))))) := by
 by_cases h1 : 1 ≤ k.1
 rotate_left
 ·left; omega
 right
 by_cases h2 : k.1 ≤ (fM : Int)
 rotate_left
 ·left; omega
 right
 by_cases h3 : (ks.any fun x => x.1 == k.1) = true
 ·left; exact ⟨h1, h2, h3⟩
 right
 have h3 : (ks.any fun x => x.1 == k.1) = false := Bool.eq_false_iff.2 h3;refine ⟨h1, h2, h3, ?_⟩
 by_cases h4 : isW k.2.1 = true
 rotate_left
 ·left; simpa using h4
 right
 refine ⟨h4, ?_⟩
 by_cases h5 : 0 ≤ k.2.2.1
 rotate_left
 ·left; omega
 right
 by_cases h6 : k.2.2.1 ≤ 1
 rotate_left
 ·left; omega
 right
 refine ⟨h5, h6, ?_⟩
 by_cases h7 : (k.2.2.2.length : Int) ≤ 8192
 rotate_left
 ·left; omega
 right
 refine ⟨h7, ?_⟩
 by_cases h8 : (k.2.2.2.all fun x => mayB x k.2.2.1) = true
 ·right
  have hj : ∀ j, j < k.2.2.2.length → mayB (k.2.2.2.getD j 0) k.2.2.1 = true := fun j hj => by
   rw [jBR] at h8;have e : k.2.2.2.getD j 0 = k.2.2.2[j] := by rw [jAA, jAB hj]; rfl
   rw [e];exact h8 _ (jAT hj)
  refine ⟨hj, ?_⟩
  by_cases h9 : endK ks + kBd (k.2.2.2.length : Int) k.2.2.1 ≤ (fH : Int)
  ·exfalso
   have : kCB fH fM ks k = true := by
    unfold kCB;have h5' : isF k.2.2.1 = true := by unfold isF; simp; omega
    rw [decide_eq_true h1, decide_eq_true h2, h3, h4, h5', decide_eq_true h7, h8, decide_eq_true h9];rfl
   rw [h] at this
   simp at this
  ·omega
 ·left
  have h8 : (k.2.2.2.all fun x => mayB x k.2.2.1) = false := by simpa using h8
  exact kEa _ _ h8
def plO (S : List Th) (o : Nat) : Nat := (S.getD (o - 1) noTh).fJ
def lnO (S : List Th) (o : Nat) : Nat := lenN (S.getD (o - 1) noTh).fB.length (S.getD (o - 1) noTh).fmt
def kAa (H : HS) : List Nat := H.fC.filter (fun o => o != 0)
theorem InvV.live (h : InvV H M) (x : Nat) : x ∈ kAa H ↔ 1 ≤ x ∧ (M.fA.getD (x - 1) noTh).fI = true := by
 unfold kAa;rw [jBV];constructor
 ·rintro ⟨h1, h2⟩;have hx : x ≠ 0 := by simpa using h2
  obtain ⟨j, hj, e⟩ := jBh.1 h1;have e2 : H.fC.getD j 0 = x := by rw [jAA, jAB hj]; exact e
  have := h.fC j hj (by rw [e2]; exact hx);rw [e2] at this;exact ⟨by omega, this.2.1⟩
 ·rintro ⟨h1, h2⟩;obtain ⟨t1, t2⟩ := h.fO (x - 1) (kAs h2) h2;refine ⟨?_, by simp; omega⟩;rw [show x - 1 + 1 = x from by omega] at t1 t2;rw [jAA, jAB t1] at t2;have t3 : H.fC[(H.fD.getD x (0, 0, 0)).2.2] = x := t2;rw [← t3];exact jAT t1
theorem InvV.liveIn (h : InvV H M) (x : Nat) (hx : x ∈ kAa H) : ∃ i, x = i + 1 ∧ i < M.fA.length ∧ (M.fA.getD i noTh).fI = true ∧ (H.fD.getD x (0, 0, 0)).1 = plO M.fA x ∧ (H.fD.getD x (0, 0, 0)).2.1 = lnO M.fA x ∧ plO M.fA x + lnO M.fA x ≤ H.mem.length := by
 obtain ⟨h1, h2⟩ := (h.live x).1 hx;have hi := kAs h2;obtain ⟨s1, s2⟩ := h.seat (x - 1) hi h2;have hr := (h.is (x - 1) hi h2).room;rw [show x - 1 + 1 = x from by omega] at s1 s2 hr;refine ⟨x - 1, by omega, hi, h2, s1, s2, ?_⟩;unfold plO lnO;rw [s1] at hr;exact hr
theorem InvV.lives (h : InvV H M) : (kAa H).Pairwise (fun x y => plO M.fA x + lnO M.fA x ≤ plO M.fA y) := by
 have h1 : H.fC.Pairwise (fun x y => x ≠ 0 → y ≠ 0 → (H.fD.getD x (0, 0, 0)).1 + (H.fD.getD x (0, 0, 0)).2.1 ≤ (H.fD.getD y (0, 0, 0)).1) := by
  rw [jAm]
  intro i j hi hj hij n1 n2;have e1 : H.fC.getD i 0 = H.fC[i] := by rw [jAA, jAB hi]; rfl
  have e2 : H.fC.getD j 0 = H.fC[j] := by rw [jAA, jAB hj]; rfl
  have := h.rise i j hij hj (by rw [e1]; exact n1) (by rw [e2]; exact n2);rw [e1, e2] at this;exact this
 have h2 : (kAa H).Pairwise _ := h1.filter (fun o => o != 0);refine h2.imp_of_mem (fun {x y} hx hy hr => ?_);obtain ⟨i, e1, -, -, p1, p2, -⟩ := h.liveIn x hx;obtain ⟨j, e2, -, -, q1, q2, -⟩ := h.liveIn y hy;have := hr (by omega) (by omega);rw [p1, p2, q1] at this;exact this
theorem kCt (S : List Th) (o : Nat) : 2 ≤ lnO S o := kAR _ _
theorem kNx (f : Nat → Nat) : ∀ a b : List Nat, a.Pairwise (fun x y => f x < f y) → b.Pairwise (fun x y => f x < f y) → (∀ x, x ∈ a ↔ x ∈ b) → a = b := by
 intro a
 induction a with
 | nil =>
  intro b _ _ h
  cases b with
  | nil => rfl
  | cons y t => exact absurd ((h y).2 (by simp)) (by simp)
 | cons x s ih =>
  intro b ha hb h
  cases b with
  | nil => exact absurd ((h x).1 (by simp)) (by simp)
  | cons y t =>
   obtain ⟨a1, a2⟩ := jBI.1 ha;obtain ⟨b1, b2⟩ := jBI.1 hb
   have e : x = y := by
    rcases jAF.1 ((h x).1 (by simp)) with h1 | h1
    ·exact h1
    ·rcases jAF.1 ((h y).2 (by simp)) with h2 | h2
     ·exact h2.symm
     ·have := b1 x h1; have := a1 y h2; omega
   subst e;rw [ih t a2 b2 (fun z => ?_)];constructor
   ·intro hz;rcases jAF.1 ((h z).1 (jAr _ hz)) with h1 | h1
    ·have := a1 z hz; rw [h1] at this; omega
    ·exact h1
   ·intro hz;rcases jAF.1 ((h z).2 (jAr _ hz)) with h1 | h1
    ·have := b1 z hz; rw [h1] at this; omega
    ·exact h1
def keyO (S : List Th) (o : Nat) : Nat × Int × Nat × List Int := (o, (S.getD (o - 1) noTh).cls, (S.getD (o - 1) noTh).fmt, (S.getD (o - 1) noTh).fB)
theorem kBq (H : HS) (S : List Th) : kAr H S H.fC.length = (kAa H).map (keyO S) := by
 unfold kAr kAa;rw [jAV];rfl
def kCA (k : Nat × Int × Nat × List Int) : Key := ((k.1 : Int), k.2.1, (k.2.2.1 : Int), k.2.2.2)
def sumO (S : List Th) : List Nat → Nat
 | [] => 0
 | o :: t => lnO S o + sumO S t
theorem kBP (S : List Th) (a b : List Nat) : sumO S (a ++ b) = sumO S a + sumO S b := by
 induction a with
 | nil => simp [sumO]
 | cons x t ih => simp [sumO, ih]; omega
theorem kFp (S : List Th) : ∀ l : List Nat, endK ((l.map (keyO S)).map kCA) = (sumO S l : Nat) := by
 intro l
 induction l with
 | nil => rfl
 | cons o t ih =>
  show kBd _ _ + endK ((t.map (keyO S)).map kCA) = ((lnO S o + sumO S t : Nat) : Int);rw [ih];show kBd ((S.getD (o - 1) noTh).fB.length : Int) ((S.getD (o - 1) noTh).fmt : Int) + _ = _;rw [kAt];unfold lnO;omega
theorem kIR (S : List Th) : ∀ (l : List Nat) (B : Nat), l.Pairwise (fun x y => plO S x + lnO S x ≤ plO S y) → (∀ x ∈ l, plO S x + lnO S x ≤ B) → sumO S l ≤ B := by
 intro l
 induction l with
 | nil => intro B _ _; exact jAH _
 | cons x t ih =>
  intro B hp hB;obtain ⟨a1, a2⟩ := jBI.1 hp
  have key : ∀ (t : List Nat) (x : Nat), (∀ y ∈ t, plO S x + lnO S x ≤ plO S y) → t.Pairwise (fun x y => plO S x + lnO S x ≤ plO S y) → (∀ y ∈ t, plO S y + lnO S y ≤ B) → plO S x + lnO S x ≤ B → plO S x + lnO S x + sumO S t ≤ B := by
   intro t
   induction t with
   | nil => intro x _ _ _ h; exact h
   | cons y t ih2 =>
    intro x h1 h2 h3 h4;obtain ⟨b1, b2⟩ := jBI.1 h2;have := ih2 y b1 b2 (fun z hz => h3 z (jAr _ hz)) (h3 y (by simp));have := h1 y (by simp);show plO S x + lnO S x + (lnO S y + sumO S t) ≤ B;omega
  have := key t x a1 a2 (fun y hy => hB y (jAr _ hy)) (hB x (by simp));show lnO S x + sumO S t ≤ B;omega
theorem kNi (S : List Th) (B : Nat) : ∀ (t : List Nat) (x : Nat), (x :: t).Pairwise (fun x y => plO S x + lnO S x ≤ plO S y) → (∀ y ∈ x :: t, plO S y + lnO S y ≤ B) → plO S x + sumO S (x :: t) ≤ B := by
 intro t
 induction t with
 | nil => intro x _ h; have := h x (by simp); show plO S x + (lnO S x + 0) ≤ B; omega
 | cons y t ih =>
  intro x hp hB;obtain ⟨b1, b2⟩ := jBI.1 hp;have := ih y b2 (fun z hz => hB z (jAr _ hz));have := b1 y (by simp);show plO S x + (lnO S x + sumO S (y :: t)) ≤ B;omega
theorem kKV (S : List Th) (l : List Nat) (hp : l.Pairwise (fun x y => plO S x + lnO S x ≤ plO S y)) (hB : ∀ x ∈ l, plO S x + lnO S x ≤ sumO S l) : ∀ a x b, l = a ++ x :: b → plO S x = sumO S a := by
 intro a x b e;subst e;obtain ⟨p1, p2, p3⟩ := jAi.1 hp;have h1 := kIR S a (plO S x) p1 (fun y hy => p3 y hy x (by simp));have h2 := kNi S (sumO S (a ++ x :: b)) b x p2 (fun y hy => hB y (List.mem_append_right _ hy));rw [kBP] at h2;omega
theorem kPJ (S : List Th) (l : List Nat) (E : Nat) (hp : l.Pairwise (fun x y => plO S x + lnO S x ≤ plO S y)) (hE : ∀ x ∈ l, plO S x + lnO S x ≤ E) (hc : ∀ p, p < E → ∃ x ∈ l, plO S x ≤ p ∧ p < plO S x + lnO S x) : ∀ a x b, l = a ++ x :: b → plO S x = sumO S a := by
 have main : ∀ (n : Nat) (a : List Nat) (x : Nat) (b : List Nat), a.length = n → l = a ++ x :: b → plO S x = sumO S a ∧ ∀ y ∈ a, plO S y + lnO S y ≤ sumO S a := by
  intro n
  induction n with
  | zero =>
   intro a x b hn e;have : a = [] := List.eq_nil_of_length_eq_zero hn;subst this;refine ⟨?_, by simp⟩;subst e;rw [jBo] at hp hE hc;obtain ⟨b1, b2⟩ := jBI.1 hp;show plO S x = 0
   by_cases h0 : plO S x = 0
   ·exact h0
   ·have hx := hE x (by simp);have := kCt S x;obtain ⟨z, hz, z1, z2⟩ := hc 0 (by omega);rcases jAF.1 hz with h | h
    ·rw [h] at z1; omega
    ·have := b1 z h; omega
  | succ n ih =>
   intro a x b hn e;have hne : a ≠ [] := fun h => by rw [h] at hn; simp at hn
   obtain ⟨a', u, hu⟩ : ∃ a' u, a = a' ++ [u] := ⟨a.dropLast, a.getLast hne, (List.dropLast_concat_getLast hne).symm⟩
   subst hu;have hn' : a'.length = n := by simpa using hn
   have e' : l = a' ++ u :: (x :: b) := by rw [e]; simp
   obtain ⟨i1, i2⟩ := ih a' u (x :: b) hn' e';have hs : sumO S (a' ++ [u]) = sumO S a' + lnO S u := by rw [kBP]; simp [sumO]
   have hmem : ∀ y ∈ a' ++ [u], plO S y + lnO S y ≤ sumO S (a' ++ [u]) := by
    intro y hy;rw [hs];rcases jAC.1 hy with h | h
    ·have := i2 y h; omega
    ·have : y = u := by simpa using h
     rw [this]; omega
   refine ⟨?_, hmem⟩;rw [e] at hp;obtain ⟨p1, p2, p3⟩ := jAi.1 hp;obtain ⟨q1, q2⟩ := jBI.1 p2;have hux := p3 u (by simp) x (by simp);have hge : sumO S (a' ++ [u]) ≤ plO S x := by rw [hs]; omega
   have hx := hE x (by rw [e]; simp);have h2x := kCt S x;obtain ⟨z, hz, z1, z2⟩ := hc (sumO S (a' ++ [u])) (by omega);rw [e] at hz;rcases jAC.1 hz with h | h
   ·have := hmem z h; omega
   ·rcases jAF.1 h with h3 | h3
    ·rw [h3] at z1; omega
    ·have := q1 z h3; omega
 exact fun a x b e => (main _ a x b rfl e).1
def kOb (x y z : Int) : Prop := x < 0 ∨ 1048576 < x ∨ y < 0 ∨ 65536 < y ∨ z < 0 ∨ 1073741824 < z
theorem rLoad_bad (x y z : Int) (ov : Value) (w : World) (hb : kOb x y z) : Calls prog 118 #[.agg #[int i64 x, int i64 y, int i64 z, ov]] w fun e w' => e = .returned (.tuple #[.pointer none, int i64 1]) ∧ Fr [] w w' := by
 by_cases a0 : x < 0
 ·go_enter func118, ntmps118
  go_wp2_with fail
  go_ret2
  exact ⟨rfl, Fr.alloc [] _ _⟩
 have a0 : 0 ≤ x := by omega
 by_cases a1 : 1048576 < x
 ·go_enter func118, ntmps118
  go_wp2_with fail
  go_ret2
  exact ⟨rfl, Fr.alloc [] _ _⟩
 have a1 : x ≤ 1048576 := by omega
 by_cases a2 : y < 0
 ·go_enter func118, ntmps118
  go_wp2_with fail
  go_ret2
  exact ⟨rfl, Fr.alloc [] _ _⟩
 have a2 : 0 ≤ y := by omega
 by_cases a3 : 65536 < y
 ·go_enter func118, ntmps118
  go_wp2_with fail
  go_ret2
  exact ⟨rfl, Fr.alloc [] _ _⟩
 have a3 : y ≤ 65536 := by omega
 by_cases a4 : z < 0
 ·go_enter func118, ntmps118
  go_wp2_with fail
  go_ret2
  exact ⟨rfl, Fr.alloc [] _ _⟩
 have a4 : 0 ≤ z := by omega
 have a5 : 1073741824 < z := by unfold kOb at hb; omega
 go_enter func118, ntmps118
 go_wp2_with fail
 go_ret2
 exact ⟨rfl, Fr.alloc [] _ _⟩
theorem kPR (x y : Int) (w : World) (hb : x < 0 ∨ 1048576 < x ∨ y < 0 ∨ 65536 < y) : Calls prog 10 #[int i64 x, int i64 y] w fun e w' => e = .returned (.tuple #[.pointer none, int i64 1]) ∧ w' = w := by
 by_cases a0 : x < 0
 ·go_enter func10, ntmps10
  go_wp2_with fail
  go_ret2
  exact ⟨rfl, rfl⟩
 have a0 : 0 ≤ x := by omega
 by_cases a1 : 1048576 < x
 ·go_enter func10, ntmps10
  go_wp2_with fail
  go_ret2
  exact ⟨rfl, rfl⟩
 have a1 : x ≤ 1048576 := by omega
 by_cases a2 : y < 0
 ·go_enter func10, ntmps10
  go_wp2_with fail
  go_ret2
  exact ⟨rfl, rfl⟩
 have a2 : 0 ≤ y := by omega
 have a3 : 65536 < y := by omega
 go_enter func10, ntmps10
 go_wp2_with fail
 go_ret2
 exact ⟨rfl, rfl⟩
def RIs (R : RS) (oop : Int) (k : Nat) : Prop := k < R.fE.length ∧ ((R.fE.getD k noRO).oop : Int) = oop
def RNo (R : RS) (oop : Int) : Prop := ∀ j, j < R.fE.length → ((R.fE.getD j noRO).oop : Int) ≠ oop
theorem kDy (oop : Int) (B r : Nat) (R : RS) (w : World) (h : RRep w B r R) (hl : R.fE.length ≤ 1048576) :
  Calls prog 54 #[.pointer (some ⟨r, 0, none⟩), int i64 oop] w fun e w' =>
   ((∃ k, RIs R oop k ∧ e = .returned (.tuple #[int i64 (R.fE.getD k noRO).cls, int i64 0])) ∨ (RNo R oop ∧ e = .returned (.tuple #[int i64 0, int i64 20]))) ∧ Fr [] w w' := by
 obtain ⟨p, c, hov⟩ := h.ovIs;have c5 : w.cell? ⟨r, 5, none⟩ = some (.slice p R.fE.length c) := by rw [h.c, ← hov]; rfl
 have HF := kAA (kBN oop B r R w h hl);have HR := kAA h;clear h;go_enter func54, ntmps54
 go_wp2_with fail
 refine HF.out.mono ?_;rintro e w2 ⟨z, rfl, hz, hw⟩;rw [hw];clear hw w2;rcases hz with ⟨k, hk, rfl, ho, -⟩ | ⟨rfl, hno⟩
 ·obtain ⟨g, c', hv, hc⟩ := HR.out.at_ (by omega);rw [hov] at hv
  injection hv with e1 e2 e3
  subst e1;obtain ⟨-, -, -, -, q4, -⟩ := hc k hk;have k1 := ng k;have k2 : (k : Int) < R.fE.length := by omega
  have HIs : Hid (RIs R oop k) := ⟨hk, ho⟩;obtain ⟨cz, hcz⟩ := jex ((R.fE.getD k noRO).cls);rw [← hcz] at q4;have HCz := kAA hcz;clear hcz hc ho e2 e3 HF
  go_wp2_with fail
  go_ret2
  exact ⟨.inl ⟨k, HIs.out, by rw [HCz.out]; rfl⟩, Fr.refl _ _⟩
 ·have HNo := kAA hno;clear hno
  go_wp2_with fail
  go_ret2
  exact ⟨.inr ⟨HNo.out, rfl⟩, Fr.refl _ _⟩
theorem kGf (oop : Int) (B r : Nat) (R : RS) (w : World) (h : RRep w B r R) (hl : R.fE.length ≤ 1048576) (hy : ¬ RNo R oop) :
  Calls prog 85 #[.pointer (some ⟨r, 0, none⟩), int i64 oop] w fun e w' =>
   (∃ k, RIs R oop k ∧ e = .returned (.tuple #[int i64 (R.fE.getD k noRO).fB.length, int i64 (R.fE.getD k noRO).fmt, int i64 0])) ∧ Fr [] w w' := by
 obtain ⟨p, c, hov⟩ := h.ovIs;have c5 : w.cell? ⟨r, 5, none⟩ = some (.slice p R.fE.length c) := by rw [h.c, ← hov]; rfl
 have HF := kAA (kBN oop B r R w h hl);have HR := kAA h;have HY := kAA hy;clear h hy;go_enter func85, ntmps85
 go_wp2_with fail
 refine HF.out.mono ?_;rintro e w2 ⟨z, rfl, hz, hw⟩;rw [hw];clear hw w2;rcases hz with ⟨k, hk, rfl, ho, -⟩ | ⟨rfl, hno⟩
 ·obtain ⟨g, c', hv, hc⟩ := HR.out.at_ (by omega);rw [hov] at hv
  injection hv with e1 e2 e3
  subst e1;obtain ⟨-, q1, -, -, -, q5⟩ := hc k hk;obtain ⟨p5, c5', hv5⟩ := HR.out.vIs k hk;rw [hv5] at q5;have k1 := ng k;have k2 : (k : Int) < R.fE.length := by omega
  have HIs : Hid (RIs R oop k) := ⟨hk, ho⟩;obtain ⟨cz, hcz⟩ := jex ((R.fE.getD k noRO).fB.length);obtain ⟨fz, hfz⟩ := jex ((R.fE.getD k noRO).fmt);rw [← hcz] at q5;rw [← hfz] at q1;simp only [I] at q1;have HCz := kAA (And.intro hcz hfz);clear hcz hfz hc ho e2 e3 HF hv5
  go_wp2_with fail
  all_goals try (go_quiet (fail); go_wp2_with fail)
  all_goals
   refine bodyPost_ret (results_tmp3 rfl _ _ _) rfl ?_;exact ⟨⟨k, HIs.out, by rw [← HCz.out.1, ← HCz.out.2]; rfl⟩, by first | exact Fr.refl _ _ | exact Fr.drew [] _ | exact Fr.drewN [] _ _⟩
 ·exact absurd hno HY.out
theorem kLv (oop : Int) (B r : Nat) (R : RS) (i : Nat) (w : World) (h : RRep w B r R) (hl : R.fE.length ≤ 1048576) (hy : ∀ k, RIs R oop k → i < (R.fE.getD k noRO).fB.length) (hn : ¬ RNo R oop) :
  Calls prog 56 #[.pointer (some ⟨r, 0, none⟩), int i64 oop, int i64 i] w fun e w' =>
   (∃ k, RIs R oop k ∧ e = .returned (.tuple #[int i64 ((R.fE.getD k noRO).fB.getD i 0), int i64 0])) ∧ Fr [] w w' := by
 obtain ⟨p, c, hov⟩ := h.ovIs;have c5 : w.cell? ⟨r, 5, none⟩ = some (.slice p R.fE.length c) := by rw [h.c, ← hov]; rfl
 have HF := kAA (kBN oop B r R w h hl);have HR := kAA h;have HY := kAA hy;have HN := kAA hn;clear h hy hn;go_enter func56, ntmps56
 go_wp2_with fail
 refine HF.out.mono ?_;rintro e w2 ⟨z, rfl, hz, hw⟩;rw [hw];clear hw w2;rcases hz with ⟨k, hk, rfl, ho, -⟩ | ⟨rfl, hno⟩
 ·obtain ⟨g, c', hv, hc⟩ := HR.out.at_ (by omega);rw [hov] at hv
  injection hv with e1 e2 e3
  subst e1;obtain ⟨-, q1, -, -, -, q5⟩ := hc k hk;have hi := HY.out k ⟨hk, ho⟩;have hm : R.fE.getD k noRO ∈ R.fE := by rw [jAA, jAB hk]; exact jAT hk
  obtain ⟨p5, c5', hv5, hs5⟩ := kCZ (HR.out.fB _ hm);obtain ⟨g5, rfl, hc5⟩ := hs5 (by omega);have q6 := hc5 i hi;rw [hv5] at q5;have k1 := ng k;have k2 : (k : Int) < R.fE.length := by omega
  have HIs : Hid (RIs R oop k) := ⟨hk, ho⟩;obtain ⟨cz, hcz⟩ := jex ((R.fE.getD k noRO).fB.length);obtain ⟨fz, hfz⟩ := jex ((R.fE.getD k noRO).fB.getD i 0);rw [← hcz] at q5 hi;rw [← hfz] at q6;have i1 := ng i;have i2 : (i : Int) < cz := by omega
  have HFz := kAA hfz;clear hcz hfz hc hc5 ho e2 e3 HF hv5 HY
  go_wp2_with fail
  all_goals try (go_quiet (fail); go_wp2_with fail)
  all_goals
   go_ret2
   exact ⟨⟨k, HIs.out, by rw [← HFz.out]; rfl⟩, by first | exact Fr.refl _ _ | exact Fr.drew [] _ | exact Fr.drewN [] _ _⟩
 ·exact absurd hno HN.out
def RO.named (o : RO) (n : Nat) : RO := { o with oop := n }
theorem kDg (n : Nat) : ∀ (l : List RO) (k : Nat), k < l.length → kAH (l.set k ((l.getD k noRO).named n)) = (kAH l).set (k * 6) (I n)
 | [], k, h => by simp at h
 | o :: t, 0, _ => rfl
 | o :: t, k + 1, h => by
  have ih := kDg n t k (by simpa using h);have e : (o :: t).set (k + 1) (((o :: t).getD (k + 1) noRO).named n) = o :: t.set k ((t.getD k noRO).named n) := by simp
  rw [e];show ro6 o ++ kAH (t.set k ((t.getD k noRO).named n)) = (ro6 o ++ kAH t).set ((k + 1) * 6) (I n);rw [ih, jAy _ _ (by simp [ro6]; omega)]
  congr 2
  simp [ro6]; omega
theorem kAw {e : TypeId} {s n : Nat} {v : Value} {xs : List Value} (h : w.ownsRow B e s v n xs) (hg : v.ownBlock = some g) : ∃ cur, w.heap[g]? = some (.cells cur e (0, 0)) := by
 rcases h.2 with ⟨h2, h3⟩ | ⟨g', cap, cur, h2, h3, h4⟩
 ·rw [h2] at hg; simp [Value.ownBlock] at hg
 ·rw [h2] at hg;have e : g' = g := by simpa [Value.ownBlock] using hg
  subst e;exact ⟨cur, h4.1⟩
theorem kPy {l : List RO} {o x : RO} (h : x ∈ l.set k o) : x ∈ l ∨ x = o := List.mem_or_eq_of_mem_set h
theorem RRep.setOop {R : RS} (h : RRep w B r R) {c : Nat} (hv : R.ov = .slice (some ⟨g, 0, none⟩) R.fE.length c) (k n : Nat) (hk : k < R.fE.length) :
  RRep (w.setCell ⟨g, k * 6, none⟩ (I n)) B r { R with fE := R.fE.set k ((R.fE.getD k noRO).named n) } := by
 have hb : R.ov.ownBlock = some g := by rw [hv]; rfl
 obtain ⟨cur, hcur⟩ := kAw h.row hb;have hgr : g ≠ r := fun e => by rw [e, h.top] at hcur; injection hcur with hc; injection hc with _ ht _; exact absurd ht (by decide)
 have hko : R.fE.getD k noRO ∈ R.fE := by rw [jAA, jAB hk]; exact jAT hk
 refine ⟨h.lo, ?_, ?_, fun o ho => ?_⟩
 ·rw [jAw _ _ _ _ (fun e => hgr e.symm)];exact h.top
 ·show (w.setCell ⟨g, k * 6, none⟩ (I n)).ownsRow B 143 6 R.ov (R.fE.set k _).length (kAH (R.fE.set k _));rw [kDg n _ k hk, jAL];have h2 := h.row;rw [hv] at h2 ⊢;exact (h2.stored (k * 6) (I n)).1
 ·have key : ∀ x ∈ R.fE, (w.setCell ⟨g, k * 6, none⟩ (I n)).ownsRow B 41 1 x.v x.fB.length (x.fB.map (int i64)) := fun x hx => by
   refine kAE (h.fB x hx) fun b hb2 => jAw _ _ _ _ (fun e => ?_)
   obtain ⟨cur2, hc2⟩ := kAw (h.fB x hx) hb2;rw [e, hcur] at hc2
   injection hc2 with hc; injection hc with _ ht _; exact absurd ht (by decide)
  rcases kPy ho with h1 | h1
  ·exact key o h1
  ·rw [h1]; exact key (R.fE.getD k noRO) hko
theorem RRep.setTurn {R : RS} (h : RRep w B r R) (n : Nat) : RRep (w.setCell ⟨r, 4, none⟩ (I n)) B r { R with fO := n } := by
 have ne : ∀ {e : TypeId} {s m : Nat} {v : Value} {xs : List Value}, w.ownsRow B e s v m xs → e ≠ 99 → ∀ g, v.ownBlock = some g → g ≠ r := fun h2 hne g hg e => by
  obtain ⟨cur, hcur⟩ := kAw h2 hg;rw [e, h.top] at hcur
  injection hcur with hc; injection hc with _ ht _
  exact hne ht.symm
 exact ⟨h.lo, kAI h.top 4 _, kAE h.row fun g hg => jAw _ _ _ _ (ne h.row (by decide) g hg), fun o ho => kAE (h.fB o ho) fun g hg => jAw _ _ _ _ (ne (h.fB o ho) (by decide) g hg)⟩
def kCU (R : RS) (i j x y : Nat) : RS := { R with fE := (R.fE.set i ((R.fE.getD i noRO).named y)).set j (((R.fE.set i ((R.fE.getD i noRO).named y)).getD j noRO).named x), fO := R.fO + 1 }
theorem kMc (x y : Nat) (B r : Nat) (R : RS) (w : World) (h : RRep w B r R) (hl : R.fE.length ≤ 1048576) (ht : R.fO ≤ 1000000000) (hx : ¬ RNo R x) (hy : ¬ RNo R y) :
  Calls prog 73 #[.pointer (some ⟨r, 0, none⟩), int i64 x, int i64 y] w fun e w' =>
   e = .returned (int i64 0) ∧ ∃ i j g, RIs R x i ∧ RIs R y j ∧ R.ov.ownBlock = some g ∧ RRep w' B r (kCU R i j x y) ∧ Fr [g, r] w w' := by
 obtain ⟨p, c, hov⟩ := h.ovIs;have HF := kAA (kBN x B r R w h hl);have HF2 := kAA (kBN y B r R w h hl);have c5 : w.cell? ⟨r, 5, none⟩ = some (.slice p R.fE.length c) := by rw [h.c, ← hov]; rfl
 have HR := kAA h;have HX := kAA hx;have HY := kAA hy;clear h hx hy;go_enter func73, ntmps73
 go_wp2_with fail
 refine HF.out.mono ?_;rintro e w2 ⟨z, rfl, hz, hw⟩;rw [hw];clear hw w2 HF;rcases hz with ⟨i, hi, rfl, hoi, -⟩ | ⟨-, hno⟩
 rotate_left
 ·exact absurd hno HX.out
 go_wp2_with fail
 refine HF2.out.mono ?_;rintro e w2 ⟨z, rfl, hz, hw⟩;rw [hw];clear hw w2 HF2;rcases hz with ⟨j, hj, rfl, hoj, -⟩ | ⟨-, hno⟩
 rotate_left
 ·exact absurd hno HY.out
 obtain ⟨g, c', hv, hc⟩ := HR.out.at_ (by omega);have hv0 := hv;rw [hov] at hv
 injection hv with e1 e2 e3
 subst e1;obtain ⟨q0, -⟩ := hc i hi;have hb : R.ov.ownBlock = some g := by rw [hv0]; rfl
 obtain ⟨cur, hcur⟩ := kAw HR.out.row hb;have z0 := kAD hcur (i * 6);have i1 := ng i;have i2 : (i : Int) < R.fE.length := by omega
 have j1 := ng j;have j2 : (j : Int) < R.fE.length := by omega
 obtain ⟨W1, hW1⟩ := jxe (w.setCell ⟨g, i * 6, none⟩ (int i64 y));obtain ⟨R1, hR1⟩ : ∃ R1 : RS, R1 = { R with fE := R.fE.set i ((R.fE.getD i noRO).named y) } := ⟨_, rfl⟩
 have h1 : RRep W1 B r R1 := by rw [← hW1, hR1]; exact HR.out.setOop hv0 i y hi
 have l1 : R1.fE.length = R.fE.length := by rw [hR1]; simp
 have o1 : R1.ov = R.ov := by rw [hR1]
 have v1 : R1.ov = .slice (some ⟨g, 0, none⟩) R1.fE.length c' := by rw [o1, hv0, l1]
 have d5 : W1.cell? ⟨r, 5, none⟩ = some (.slice (some ⟨g, 0, none⟩) R.fE.length c) := by rw [h1.c, ← hov, ← o1]; rfl
 obtain ⟨g1, c1, hv1, hc1⟩ := h1.at_ (by omega);have hg1 : g1 = g := by rw [v1] at hv1; injection hv1 with a1; injection a1 with a1; injection a1 with a1; exact a1.symm
 subst hg1;obtain ⟨q1, -⟩ := hc1 j (by omega);obtain ⟨cur1, hcur1⟩ := kAw h1.row (by rw [o1]; exact hb);have z1 := kAD hcur1 (j * 6);obtain ⟨W2, hW2⟩ := jxe (W1.setCell ⟨g1, j * 6, none⟩ (int i64 x));obtain ⟨R2, hR2⟩ : ∃ R2 : RS, R2 = { R1 with fE := R1.fE.set j ((R1.fE.getD j noRO).named x) } := ⟨_, rfl⟩
 have h2 : RRep W2 B r R2 := by rw [← hW2, hR2]; exact h1.setOop v1 j x (by omega)
 have t2 : R2.fO = R.fO := by rw [hR2, hR1]
 have d4 : W2.cell? ⟨r, 4, none⟩ = some (int i64 R.fO) := by rw [h2.c, ← t2]; rfl
 have z2 := kAD h2.top 4;have hR3 : Hid ({ R2 with fO := R.fO + 1 } = kCU R i j x y) := by show _ = _; rw [hR2, hR1]; rfl
 have HF : Hid (Fr [g1, r] w W2) := by
  rw [← hW2, ← hW1];exact (Fr.setCell (S := [g1, r]) w ⟨g1, i * 6, none⟩ _ (by simp)).trans (Fr.setCell (S := [g1, r]) _ ⟨g1, j * 6, none⟩ _ (by simp)) (fun b hb => .inl hb)
 have HI1 : Hid (RIs R x i) := ⟨hi, hoi⟩;have HI2 : Hid (RIs R y j) := ⟨hj, hoj⟩;have H2 := kAA h2;have HB := kAA hb;have w4 : IntKind.i64.wrap ((R.fO : Int) + 1) = (R.fO : Int) + 1 := by rw [kBp]; unfold wrap64; omega
 obtain ⟨q, hq⟩ := jex ((R.fE.getD i noRO).oop);obtain ⟨u, hu⟩ := jex ((R1.fE.getD j noRO).oop);rw [← hq] at q0;rw [← hu] at q1;simp only [I] at q0 q1;clear h1 h2 hR1 hR2 hv1 hc1 hc v1 o1 l1 t2 hov hv0 hb e2 e3 hoi hoj hcur hcur1 hq hu
 go_wp2_with fail
 go_ret
 refine ⟨rfl, i, j, g1, HI1.out, HI2.out, HB.out, ?_, ?_⟩
 ·rw [← hR3.out];exact H2.out.setTurn (R.fO + 1)
 ·exact HF.out.trans (Fr.setCell (S := [g1, r]) _ ⟨r, 4, none⟩ _ (by simp)) (fun b hb => .inl hb)
def RO.turnd (o : RO) (c : Int) (ss : List Int) : RO := { o with cls := c, fB := ss }
def RS.upd (R : RS) (m : Nat) (c : Int) (ss : List Int) : RS := { R with fE := R.fE.set m ((R.fE.getD m noRO).turnd c ss) }
def RO.shape (o : RO) : Nat × Nat × Nat × Nat × Nat × Value := (o.oop, o.fmt, o.fJ, o.fL, o.fB.length, o.v)
structure Alk (R R' : RS) : Prop where
 fH : R'.fH = R.fH
 fM : R'.fM = R.fM
 mark : R'.mark = R.mark
 fL : R'.fL = R.fL
 fO : R'.fO = R.fO
 ov : R'.ov = R.ov
 fE : R'.fE.map RO.shape = R.fE.map RO.shape
theorem Alk.upd (R : RS) (m : Nat) (c : Int) (ss : List Int) (hl : ss.length = (R.fE.getD m noRO).fB.length) : Alk R (R.upd m c ss) := by
 refine ⟨rfl, rfl, rfl, rfl, rfl, rfl, ?_⟩;show (R.fE.set m _).map RO.shape = _;refine jBe fun i => ?_
 rw [jAQ, jAQ, jAh]
 by_cases e : m = i
 ·subst e;rw [jp rfl]
  by_cases hm : m < R.fE.length
  ·rw [jp hm, jAB hm];have e2 : R.fE.getD m noRO = R.fE[m] := by rw [jAA, jAB hm]; rfl
   rw [e2] at hl ⊢
   simp [RO.shape, RO.turnd, hl]
  ·rw [jn hm, jAM (by omega)]
 ·rw [jn e]
def Lone (R : RS) : Prop := R.fE.Pairwise fun x o => ∀ g, o.v.ownBlock = some g → x.v.ownBlock ≠ some g
theorem Alk.lone {R R' : RS} (h : Alk R R') (hn : Lone R) : Lone R' := by
 have h1 : (R.fE.map RO.shape).Pairwise fun x o => ∀ g, o.2.2.2.2.2.ownBlock = some g → x.2.2.2.2.2.ownBlock ≠ some g := jBb.2 hn
 rw [← h.fE] at h1;exact jBb.1 h1
theorem Lone.ne {R : RS} (h : Lone R) {i j : Nat} (hi : i < R.fE.length) (hj : j < R.fE.length) (hne : i ≠ j) (hg : (R.fE.getD i noRO).v.ownBlock = some g) : (R.fE.getD j noRO).v.ownBlock ≠ some g := by
 have gi : R.fE.getD i noRO = R.fE[i] := by rw [jAA, jAB hi]; rfl
 have gj : R.fE.getD j noRO = R.fE[j] := by rw [jAA, jAB hj]; rfl
 rw [gi] at hg;rw [gj];rcases Nat.lt_or_gt_of_ne hne with hlt | hlt
 ·exact fun e => jAm.1 h i j hi hj hlt g e hg
 ·exact jAm.1 h j i hj hi hlt g hg
def kst (js : List Nat) (l : List RO) : List RO × Nat := l.foldl (fun s o => if o.oop ∈ js then (s.1 ++ [{ o with fJ := s.2 }], s.2 + lenN o.fB.length o.fmt) else s) ([], 0)
theorem kCb (js : List Nat) (l : List RO) (o : RO) : kst js (l ++ [o]) = if o.oop ∈ js then ((kst js l).1 ++ [{ o with fJ := (kst js l).2 }], (kst js l).2 + lenN o.fB.length o.fmt) else kst js l := by
 unfold kst;rw [List.foldl_append];rfl
theorem kCL {α : Type} {P : List α → Prop} (h0 : P []) (h1 : ∀ l x, P l → P (l ++ [x])) : ∀ l, P l := fun l => by
 have : ∀ n (l : List α), l.length = n → P l := fun n => by
  induction n with
  | zero => intro l hl; rw [jBT.1 hl]; exact h0
  | succ n ih =>
   intro l hl;have hne : l ≠ [] := fun e => by rw [e] at hl; simp at hl
   rw [← List.dropLast_concat_getLast hne];exact h1 _ _ (ih _ (by simp [hl]))
 exact this _ l rfl
theorem kNo (js : List Nat) (l : List RO) : (kst js l).1.map kBU = (l.map kBU).filter fun k => decide (k.1.toNat ∈ js) := by
 induction l using kCL with
 | h0 => rfl
 | h1 l o ih =>
  rw [kCb, jAP, jAs]
  by_cases h : o.oop ∈ js
  ·rw [jp h, jAP, ih]
   congr 1
   have e : List.filter (fun k : Key => decide (k.1.toNat ∈ js)) [kBU o] = [kBU o] := by
    rw [List.filter_cons, show decide ((kBU o).1.toNat ∈ js) = true from decide_eq_true h]; rfl
   rw [List.map_singleton, List.map_singleton, e];rfl
  ·rw [jn h, ih]
   have e : List.filter (fun k : Key => decide (k.1.toNat ∈ js)) [kBU o] = [] := by
    rw [List.filter_cons, show decide ((kBU o).1.toNat ∈ js) = false from decide_eq_false h]; rfl
   rw [List.map_singleton, e, jAz]
theorem kPi (js : List Nat) (l : List RO) : rEnd (kst js l).1 = (kst js l).2 := by
 induction l using kCL with
 | h0 => rfl
 | h1 l o ih =>
  rw [kCb]
  by_cases h : o.oop ∈ js
  ·rw [jp h, kGL]
  ·rw [jn h, ih]
theorem kIg (js : List Nat) (l : List RO) : ∀ o ∈ (kst js l).1, ∃ x ∈ l, o.oop = x.oop ∧ o.fmt = x.fmt ∧ o.cls = x.cls ∧ o.fB = x.fB ∧ o.v = x.v ∧ x.oop ∈ js ∧ o.fJ ≤ (kst js l).2 := by
 induction l using kCL with
 | h0 => intro o ho; simp [kst] at ho
 | h1 l o ih =>
  rw [kCb]
  by_cases h : o.oop ∈ js
  ·rw [jp h]
   intro x hx;rcases jAC.1 hx with h1 | h1
   ·obtain ⟨y, y1, y2, y3, y4, y5, y6, y7, y8⟩ := ih x h1;exact ⟨y, jBE _ y1, y2, y3, y4, y5, y6, y7, by show x.fJ ≤ _ + _; omega⟩
   ·have e : x = { o with fJ := (kst js l).2 } := by simpa using h1
    subst e;exact ⟨o, by simp, rfl, rfl, rfl, rfl, rfl, h, by show (kst js l).2 ≤ _ + _; omega⟩
  ·rw [jn h]
   intro x hx;obtain ⟨y, y1, y2⟩ := ih x hx;exact ⟨y, jBE _ y1, y2⟩
theorem kLH (js : List Nat) (l : List RO) : (kst js l).1.length ≤ l.length := by
 have := congrArg List.length (kNo js l);rw [jAR] at this;rw [this];refine jAU (jBH _ _) (by simp)
theorem kOL (js : List Nat) (l : List RO) : ((kst js l).2 : Int) ≤ endK (l.map kBU) := by
 induction l using kCL with
 | h0 => simp [kst, endK]
 | h1 l o ih =>
  have hl := kAt o.fB.length o.fmt;rw [jAP, kCj, kCb]
  by_cases h : o.oop ∈ js
  ·rw [jp h];simp only [List.map_cons, List.map_nil, endK, kBU] at hl ⊢;omega
  ·rw [jn h];simp only [List.map_cons, List.map_nil, endK, kBU] at hl ⊢;omega
def rv (o : RO) : Nat × Nat × Nat × Int × List Int := (o.oop, o.fmt, o.fJ, o.cls, o.fB)
def tv (S : List Th) (x : Nat) : Nat × Nat × Nat × Int × List Int := (x, (S.getD (x - 1) noTh).fmt, (S.getD (x - 1) noTh).fJ, (S.getD (x - 1) noTh).cls, (S.getD (x - 1) noTh).fB)
structure Srt (S : List Th) (L : List Nat) : Prop where
 up : L.Pairwise (fun x y => plO S x + lnO S x ≤ plO S y)
 mem : ∀ x, x ∈ L ↔ 1 ≤ x ∧ (S.getD (x - 1) noTh).fI = true
theorem InvV.srt (h : InvV H M) : Srt M.fA (kAa H) := ⟨h.lives, h.live⟩
theorem Srt.one {L' : List Nat} (h : Srt S L) (h' : Srt S L') : L = L' := by
 refine kNx (plO S) _ _ (h.up.imp (fun {x y} hr => ?_)) (h'.up.imp (fun {x y} hr => ?_)) (fun x => by rw [h.mem, h'.mem])
 ·have := kCt S x; omega
 ·have := kCt S x; omega
theorem Srt.nodup (h : Srt S L) : L.Nodup := h.up.imp (fun {x y} hr e => by have := kCt S x; subst e; omega)
structure Doc (M : MS) (R : RS) : Prop where
 fH : R.fH = M.fH
 fM : R.fM = M.fM
 mark : R.mark = M.mark
 ex : ∃ L, Srt M.fA L ∧ R.fE.map rv = L.map (tv M.fA)
 rise : (R.fE.map RO.fL).Pairwise (· < ·)
 old : ∀ b ∈ R.fE.map RO.fL, b < R.fL
 lone : Lone R
theorem Doc.oopsL {R : RS} (h : Doc M R) (hs : Srt M.fA L) : R.fE.map rv = L.map (tv M.fA) ∧ R.fE.map (fun o => o.oop) = L := by
 obtain ⟨L', hs', he⟩ := h.ex;have e := hs'.one hs;subst e;refine ⟨he, ?_⟩;have := congrArg (List.map (fun t : Nat × Nat × Nat × Int × List Int => t.1)) he;rw [jAa, jAa] at this
 have e2 : L'.map ((fun t : Nat × Nat × Nat × Int × List Int => t.1) ∘ tv M.fA) = L' := by
  conv => rhs; rw [← List.map_id L']
  exact jBJ fun x _ => rfl
 rw [e2] at this;exact this
theorem kBx {l : List RO} (hk : k < l.length) : l.getD k noRO = l[k] := by rw [jAA, jAB hk]; rfl
theorem Doc.no {R : RS} (h : Doc M R) (q : Int) : RNo R q ↔ mhas M q = false := by
 obtain ⟨L, hs, -⟩ := h.ex;obtain ⟨-, ho⟩ := h.oopsL hs;constructor
 ·intro hn
  cases hb : mhas M q with
  | false => rfl
  | true =>
   obtain ⟨k, e, hk, hb2⟩ := kAx hb;have hx : k + 1 ∈ L := (hs.mem _).2 ⟨by omega, hb2⟩;rw [← ho] at hx;obtain ⟨o, o1, o2⟩ := jAZ.1 hx;obtain ⟨j, hj, ej⟩ := jBh.1 o1;exact absurd (by rw [kBx hj, ej]; omega) (hn j hj)
 ·intro hb j hj e;rw [kBx hj] at e;have hx : (R.fE[j]).oop ∈ L := by rw [← ho]; exact jAq (jAT hj)
  obtain ⟨h1, h2⟩ := (hs.mem _).1 hx;have := kDu (M := M) ((R.fE[j]).oop - 1) (kAs h2) h2;rw [show ((R.fE[j].oop - 1 : Nat) : Int) + 1 = q from by omega, hb] at this
  cases this
theorem Doc.yes {R : RS} (h : Doc M R) (hb : mhas M q = true) : ¬ RNo R q := fun hn => by
 rw [(h.no q).1 hn] at hb
 cases hb
theorem Doc.is {R : RS} (h : Doc M R) (hk : RIs R q k) : 1 ≤ q ∧ (M.fA.getD (q.toNat - 1) noTh).fI = true ∧ rv (R.fE.getD k noRO) = tv M.fA q.toNat := by
 obtain ⟨L, hs, -⟩ := h.ex;obtain ⟨he, ho⟩ := h.oopsL hs;obtain ⟨h1, h2⟩ := hk;rw [kBx h1] at h2 ⊢;have hl : R.fE.length = L.length := by have := congrArg List.length ho; simpa using this
 have e1 : (R.fE[k]).oop = L[k]'(by omega) := by
  have := congrArg (fun l => l[k]?) ho;simp only [jAQ, jAB h1, jAB (show k < L.length by omega), Option.map_some, Option.some.injEq] at this;exact this
 have e2 : rv (R.fE[k]) = tv M.fA (L[k]'(by omega)) := by
  have := congrArg (fun l => l[k]?) he;simp only [jAQ, jAB h1, jAB (show k < L.length by omega), Option.map_some, Option.some.injEq] at this;exact this
 have hq : q.toNat = L[k]'(by omega) := by omega
 have hx := (hs.mem (L[k]'(by omega))).1 (jAT _);rw [← hq] at e2 hx;exact ⟨by omega, hx.2, e2⟩
theorem kAg {o : RO} (h : rv o = tv S x) : o.oop = x ∧ o.fmt = (S.getD (x - 1) noTh).fmt ∧ o.fJ = (S.getD (x - 1) noTh).fJ ∧ o.cls = (S.getD (x - 1) noTh).cls ∧ o.fB = (S.getD (x - 1) noTh).fB := by
 unfold rv tv at h;simp only [Prod.mk.injEq] at h;exact h
theorem Srt.len (h : Srt S L) : L.length = kAG S S.length := by
 have key : ∀ n, n ≤ S.length → (((List.range n).filter (fun i => (S.getD i noTh).fI)).length = kAG S n) := by
  intro n
  induction n with
  | zero => intro _; rfl
  | succ n ih =>
   intro hn;rw [List.range_succ, jAs, jAG, ih (by omega), kAN _ _ (by omega), List.filter_cons, List.filter_nil]
   cases hb : (S.getD n noTh).fI <;> rfl
 rw [← key _ (jAD _), show ((List.range S.length).filter (fun i => (S.getD i noTh).fI)).length = (((List.range S.length).filter (fun i => (S.getD i noTh).fI)).map (fun i => i + 1)).length from (jAR _).symm];refine List.Perm.length_eq ((List.perm_ext_iff_of_nodup h.nodup ?_).2 (fun x => ?_))
 ·have hnd : ((List.range S.length).filter (fun i => (S.getD i noTh).fI)).Nodup := List.Nodup.sublist (List.filter_sublist) List.nodup_range;exact (jBb).2 (hnd.imp (fun {a b} hab e => hab (by omega)))
 ·rw [h.mem, jAZ];constructor
  ·rintro ⟨h1, h2⟩;exact ⟨x - 1, jBV.2 ⟨List.mem_range.2 (kAs h2), h2⟩, by omega⟩
  ·rintro ⟨i, i1, i2⟩;obtain ⟨-, i3⟩ := jBV.1 i1;subst i2;exact ⟨by omega, by rw [jAJ]; exact i3⟩
theorem Doc.len {R : RS} (h : Doc M R) : R.fE.length = kAG M.fA M.fA.length := by
 obtain ⟨L, hs, he⟩ := h.ex;rw [← hs.len];have := congrArg List.length he
 simpa using this
theorem Srt.last (h : Srt S (L ++ [x])) : kAp S S.length = plO S x + lnO S x := by
 refine kCY S _ S.length (fun j hj hb => ?_) (.inr ?_)
 ·have hm : j + 1 ∈ L ++ [x] := (h.mem _).2 ⟨by omega, hb⟩;rcases jAC.1 hm with h1 | h1
  ·have := (jAi.1 h.up).2.2 (j + 1) h1 x (by simp);show plO S (j + 1) + lnO S (j + 1) ≤ _;omega
  ·have e : j + 1 = x := by simpa using h1
   subst e;exact jAD _
 ·obtain ⟨h1, h2⟩ := (h.mem x).1 (by simp);exact ⟨x - 1, kAs h2, h2, rfl⟩
theorem Srt.empty (h : Srt S []) : kAp S S.length = 0 :=
 kCY S 0 S.length (fun j hj hb => absurd ((h.mem (j + 1)).2 ⟨by omega, hb⟩) (by simp)) (.inl rfl)
theorem kFK (l : List RO) (o : RO) : rEnd (l ++ [o]) = o.fJ + lenN o.fB.length o.fmt := by
 unfold rEnd;rw [jn (by simp), jAG]
 simp
theorem kGD {α : Type} (l : List α) : l = [] ∨ ∃ a x, l = a ++ [x] := by
 rcases List.eq_nil_or_concat l with h | ⟨a, x, h⟩
 ·exact .inl h
 ·exact .inr ⟨a, x, by rw [h, List.concat_eq_append]⟩
theorem Doc.fin {R : RS} (h : Doc M R) : rEnd R.fE = kAp M.fA M.fA.length := by
 obtain ⟨L, hs, he⟩ := h.ex;rcases kGD L with e | ⟨a, x, e⟩
 ·subst e;have : R.fE = [] := by simpa using he
  rw [this, hs.empty];rfl
 ·subst e;rcases kGD R.fE with e2 | ⟨b, o, e2⟩
  ·rw [e2] at he; simp at he
  ·rw [e2, jAP, jAP] at he;have := List.append_inj' he rfl;have h2 : rv o = tv M.fA x := by simpa using this.2
   obtain ⟨-, p2, p3, -, p5⟩ := kAg h2;rw [e2, kFK, hs.last, p2, p3, p5];rfl
theorem Doc.keys {R : RS} (h : Doc M R) (hs : Srt M.fA L) : R.fE.map kBU = (L.map (keyO M.fA)).map kCA := by
 obtain ⟨he, -⟩ := h.oopsL hs;have := congrArg (List.map (fun t : Nat × Nat × Nat × Int × List Int => (((t.1 : Int), t.2.2.2.1, (t.2.1 : Int), t.2.2.2.2) : Key))) he;rw [jAa, jAa] at this;rw [jAa];exact this
structure Plc (S T : List Th) : Prop where
 at_ : ∀ i, (T.getD i noTh).fI = (S.getD i noTh).fI ∧ (T.getD i noTh).fJ = (S.getD i noTh).fJ ∧ (T.getD i noTh).fmt = (S.getD i noTh).fmt ∧ (T.getD i noTh).fB.length = (S.getD i noTh).fB.length
theorem Plc.pl (h : Plc S T) (x : Nat) : plO T x = plO S x ∧ lnO T x = lnO S x := by
 obtain ⟨-, h2, h3, h4⟩ := h.at_ (x - 1);unfold plO lnO;rw [h2, h3, h4];exact ⟨rfl, rfl⟩
theorem Srt.plc (h : Srt S L) (hp : Plc S T) : Srt T L :=
 ⟨h.up.imp (fun {x y} hr => by rw [(hp.pl x).1, (hp.pl x).2, (hp.pl y).1]; exact hr), fun x => by rw [(hp.at_ (x - 1)).1]; exact h.mem x⟩
theorem kOz (hk : k < S.length) (t : Th) (h1 : t.fI = (S.getD k noTh).fI) (h2 : t.fJ = (S.getD k noTh).fJ) (h3 : t.fmt = (S.getD k noTh).fmt) (h4 : t.fB.length = (S.getD k noTh).fB.length) : Plc S (S.set k t) := by
 refine ⟨fun i => ?_⟩;rw [kAX _ _ _ _ hk]
 split
 ·rename_i e; subst e; exact ⟨h1, h2, h3, h4⟩
 ·exact ⟨rfl, rfl, rfl, rfl⟩
theorem Alk.borns {R R' : RS} (h : Alk R R') : R'.fE.map RO.fL = R.fE.map RO.fL := by
 have := congrArg (List.map (fun t : Nat × Nat × Nat × Nat × Nat × Value => t.2.2.2.1)) h.fE;rw [jAa, jAa] at this;exact this
theorem Doc.upd {R : RS} (h : Doc M R) {q m : Nat} (hk : RIs R ((q : Int) + 1) m) (c : Int) (ss : List Int) (hl : ss.length = (M.fA.getD q noTh).fB.length) : Doc { M with fA := M.fA.set q { (M.fA.getD q noTh) with cls := c, fB := ss } } (R.upd m c ss) := by
 obtain ⟨-, hb, hr⟩ := h.is hk;rw [show ((q : Int) + 1).toNat = q + 1 from by omega] at hr hb;rw [jAJ] at hb;have hq := kAs hb;obtain ⟨p1, p2, p3, p4, p5⟩ := kAg hr;rw [jAJ] at p2 p3 p4 p5;obtain ⟨L, hs, -⟩ := h.ex;obtain ⟨he, ho⟩ := h.oopsL hs;have hpl : Plc M.fA (M.fA.set q { (M.fA.getD q noTh) with cls := c, fB := ss }) := kOz hq _ rfl rfl rfl hl;have hlen : R.fE.length = L.length := by have := congrArg List.length ho; simpa using this
 have hm := hk.1;refine ⟨h.fH, h.fM, h.mark, ⟨L, hs.plc hpl, ?_⟩, ?_, ?_, (Alk.upd R m c ss (by rw [hl, p5])).lone h.lone⟩
 ·show (R.fE.set m _).map rv = L.map (tv (M.fA.set q _));refine List.ext_getElem (by simp [hlen]) (fun i h1 h2 => ?_);simp only [jAR, jAL] at h1 h2;rw [jBL, jBL, List.getElem_set]
  have e2 : rv (R.fE[i]) = tv M.fA (L[i]) := by
   have := congrArg (fun l => l[i]?) he;simp only [jAQ, jAB h1, jAB h2, Option.map_some, Option.some.injEq] at this;exact this
  have hLi := (hs.mem (L[i])).1 (jAT _)
  by_cases e : m = i
  ·subst e;rw [jp rfl];rw [kBx hm] at p1 p2 p3 p4 p5 ⊢;have e3 : L[m] = q + 1 := by have := (kAg e2).1; omega
   unfold tv;rw [e3, jAJ, kAX _ _ _ _ hq, jp rfl];show ((R.fE[m]).oop, (R.fE[m]).fmt, (R.fE[m]).fJ, c, ss) = _;rw [p1, p2, p3]
  ·rw [jn e, e2]
   have e3 : L[i] ≠ q + 1 := fun e4 => by
    have e5 : (R.fE.map (fun o => o.oop))[i]'(by simpa using h1) = (R.fE.map (fun o => o.oop))[m]'(by simpa using hm) := by
     rw [jBL, jBL, (kAg e2).1, e4];rw [kBx hm] at p1;exact p1.symm
    have hnd : (R.fE.map (fun o => o.oop)).Nodup := by rw [ho]; exact hs.nodup
    rcases Nat.lt_or_gt_of_ne e with hlt | hlt
    ·exact jAm.1 hnd m i (by simpa using hm) (by simpa using h1) hlt e5.symm
    ·exact jAm.1 hnd i m (by simpa using h1) (by simpa using hm) hlt e5
   unfold tv;rw [kAX _ _ _ _ hq, jn (by omega)]
 ·have hbo : (R.upd m c ss).fE.map RO.fL = R.fE.map RO.fL := (Alk.upd R m c ss (by rw [hl, p5])).borns;rw [hbo];exact h.rise
 ·have hbo : (R.upd m c ss).fE.map RO.fL = R.fE.map RO.fL := (Alk.upd R m c ss (by rw [hl, p5])).borns;rw [hbo];exact h.old
theorem Doc.setMark {R : RS} (h : Doc M R) (n : Nat) : Doc { M with mark := n } { R with mark := n } := ⟨h.fH, h.fM, rfl, h.ex, h.rise, h.old, h.lone⟩
end Go.Proofs.YtflgicdbbogllaaGreatDoor
