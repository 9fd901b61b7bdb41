import Derived.Test.YtflgicdbbogllaaGreatDoorPG13HDoc1
set_option maxHeartbeats 1000000
set_option maxRecDepth 20000
set_option linter.unusedSimpArgs false
set_option linter.unusedVariables false
namespace Go.Proofs.YtflgicdbbogllaaGreatDoor
open Go.RowKit Tryz
open Value (int)
open IntKind (i64)
attribute [local go_sem ↓] wp_at_zero wp_at_succ
variable {H : HS} {L : List Nat} {M : MS} {R : RS} {S : List Th}
theorem Doc.each (h : Doc M R) : ∀ o ∈ R.fE, rv o = tv M.fA o.oop ∧ 1 ≤ o.oop ∧ (M.fA.getD (o.oop - 1) noTh).fI = true := by
 intro o ho;obtain ⟨k, hk, e⟩ := jBh.1 ho;have hr : RIs R (o.oop : Int) k := ⟨hk, by rw [kBx hk, e]⟩;obtain ⟨h1, h2, h3⟩ := h.is hr;rw [kBx hk, e, jAj] at h3;rw [jAj] at h2;exact ⟨h3, by omega, h2⟩
theorem Doc.sub (h : Doc M R) (os : List RO) (hsub : os.Sublist R.fE) (T : List Th) (hT1 : ∀ o ∈ os, T.getD (o.oop - 1) noTh = M.fA.getD (o.oop - 1) noTh) (hT2 : ∀ i, (T.getD i noTh).fI = true → ∃ o ∈ os, o.oop = i + 1) (ov : Value) (tn : Nat) : Doc { M with fA := T } { R with fE := os, ov := ov, fO := tn } := by
 obtain ⟨L, hs, -⟩ := h.ex;obtain ⟨he, ho⟩ := h.oopsL hs;have hsubL : (os.map (fun o => o.oop)).Sublist L := by rw [← ho]; exact hsub.map _
 have hpl : ∀ x ∈ os.map (fun o => o.oop), plO T x = plO M.fA x ∧ lnO T x = lnO M.fA x := fun x hx => by
  obtain ⟨o, o1, o2⟩ := jAZ.1 hx;have := hT1 o o1;unfold plO lnO;rw [← o2, this];exact ⟨rfl, rfl⟩
 refine ⟨h.fH, h.fM, h.mark, ⟨os.map (fun o => o.oop), ⟨?_, fun x => ?_⟩, ?_⟩, h.rise.sublist (hsub.map _), fun b hb => h.old b ((hsub.map _).subset hb), h.lone.sublist hsub⟩
 ·refine (hs.up.sublist hsubL).imp_of_mem (fun {x y} hx hy hr => ?_);rw [(hpl x hx).1, (hpl x hx).2, (hpl y hy).1];exact hr
 ·constructor
  ·intro hx;obtain ⟨o, o1, o2⟩ := jAZ.1 hx;obtain ⟨-, e2, e3⟩ := h.each o (hsub.subset o1);rw [← o2];exact ⟨e2, by show (T.getD _ noTh).fI = true; rw [hT1 o o1]; exact e3⟩
  ·rintro ⟨h1, h2⟩;obtain ⟨o, o1, o2⟩ := hT2 (x - 1) h2;rw [show x - 1 + 1 = x from by omega] at o2;rw [← o2];exact jAq o1
 ·show os.map rv = (os.map (fun o => o.oop)).map (tv T);rw [jAa];refine jBJ fun o o1 => ?_
  rw [(h.each o (hsub.subset o1)).1];show tv M.fA o.oop = tv T o.oop;unfold tv;rw [hT1 o o1]
theorem Doc.freed (h : Doc M R) {q k : Nat} (hk : RIs R ((q : Int) + 1) k) (ov : Value) (tn : Nat) : Doc { M with fA := M.fA.set q (gone (M.fA.getD q noTh)) } { R with fE := R.fE.take k ++ R.fE.drop (k + 1), ov := ov, fO := tn } := by
 obtain ⟨-, hb, hr⟩ := h.is hk;rw [show ((q : Int) + 1).toNat = q + 1 from by omega] at hr hb;rw [jAJ] at hb;have hq := kAs hb;have hkl := hk.1;obtain ⟨L, hs, -⟩ := h.ex;obtain ⟨he, ho⟩ := h.oopsL hs;have hnd : (R.fE.map (fun o => o.oop)).Nodup := by rw [ho]; exact hs.nodup
 have hsplit : R.fE = R.fE.take k ++ R.fE[k] :: R.fE.drop (k + 1) := by rw [← jBD hkl, jAt]
 have hk2 : (R.fE[k]).oop = q + 1 := by have := (kAg hr).1; rw [kBx hkl] at this; exact this
 have hsub : (R.fE.take k ++ R.fE.drop (k + 1)).Sublist R.fE := by
  conv => rhs; rw [hsplit]
  exact List.Sublist.append (List.Sublist.refl _) (List.sublist_cons_self _ _)
 have hne : ∀ o ∈ R.fE.take k ++ R.fE.drop (k + 1), o.oop ≠ q + 1 := by
  intro o ho2 e;rw [hsplit, jAP, List.map_cons] at hnd;have hp := jAi.1 hnd;rcases jAC.1 ho2 with h1 | h1
  ·exact hp.2.2 o.oop (jAq h1) (R.fE[k]).oop (by simp) (by rw [e, hk2])
  ·exact (jBI.1 hp.2.1).1 o.oop (jAq h1) (by rw [e, hk2])
 refine h.sub _ hsub _ (fun o ho2 => ?_) (fun i hi => ?_) ov tn
 ·have := hne o ho2;have := (h.each o (hsub.subset ho2)).2.1;rw [kAX _ _ _ _ hq, jn (by omega)]
 ·rw [kAX _ _ _ _ hq] at hi
  split at hi
  ·simp [gone] at hi
  ·rename_i hne2
   have hx : i + 1 ∈ L := (hs.mem _).2 ⟨by omega, by rw [jAJ]; exact hi⟩;rw [← ho] at hx;obtain ⟨o, o1, o2⟩ := jAZ.1 hx;refine ⟨o, ?_, o2⟩;rw [hsplit] at o1;rcases jAC.1 o1 with h1 | h1
   ·exact jBE _ h1
   ·rcases jAF.1 h1 with h3 | h3
    ·rw [h3, hk2] at o2; omega
    ·exact List.mem_append_right _ h3
theorem Doc.taken (h : Doc M R) (hs : Srt M.fA L) (c : Nat) (T : List Th) (hT1 : ∀ i, i + 1 ∈ L.take c → T.getD i noTh = M.fA.getD i noTh) (hT2 : ∀ i, (T.getD i noTh).fI = true → i + 1 ∈ L.take c) (ov : Value) (tn : Nat) : Doc { M with fA := T } { R with fE := R.fE.take c, ov := ov, fO := tn } := by
 obtain ⟨he, ho⟩ := h.oopsL hs;have e : (R.fE.take c).map (fun o => o.oop) = L.take c := by rw [jBS, ho]
 refine h.sub _ (List.take_sublist _ _) T (fun o ho2 => ?_) (fun i hi => ?_) ov tn
 ·have h1 := (h.each o ((List.take_sublist _ _).subset ho2)).2.1;refine hT1 _ ?_;rw [show o.oop - 1 + 1 = o.oop from by omega, ← e];exact jAq ho2
 ·have := hT2 i hi;rw [← e] at this;obtain ⟨o, o1, o2⟩ := jAZ.1 this;exact ⟨o, o1, o2⟩
theorem Srt.ends (h : Srt S L) : ∀ x ∈ L, plO S x + lnO S x ≤ kAp S S.length := by
 rcases kGD L with e | ⟨a, y, e⟩
 ·subst e; simp
 ·subst e;rw [h.last]
  intro x hx;rcases jAC.1 hx with h1 | h1
  ·have := (jAi.1 h.up).2.2 x h1 y (by simp);omega
  ·have : x = y := by simpa using h1
   rw [this];exact jAD _
theorem kJX (S : List Th) (k : Nat) (t : Th) (hk : k ≤ S.length) (i : Nat) : (kAY S k t).getD i noTh = if i = k then t else S.getD i noTh := by
 by_cases hi : i < (kAY S k t).length
 ·exact kIe S k t hk i hi
 ·have h1 := (kEr S k t hk).1;rw [jn (by omega), jAA, jAM (by omega), jAA, jAM];unfold kAY at hi
  split at hi
  ·rw [jAL] at hi; omega
  ·rw [jAG] at hi; omega
theorem Doc.made (h : Doc M R) (X : Int) (n f mk : Nat) (p : Option Addr) (c : Nat) (o : RO) (ov : Value) (ho : rv o = (kAf M.fA, f, kAp M.fA M.fA.length, X, List.replicate n (newX f))) (hb : o.fL = R.fL) (hfr : ∀ x ∈ R.fE, ∀ g, o.v.ownBlock = some g → x.v.ownBlock ≠ some g) :
  Doc { M with mark := mk, fA := kAY M.fA (kAf M.fA - 1) ⟨true, X, f, kAp M.fA M.fA.length, List.replicate n (newX f), p, c⟩ } { R with mark := mk, fL := R.fL + 1, fE := R.fE ++ [o], ov := ov } := by
 obtain ⟨L, hs, -⟩ := h.ex;obtain ⟨he, hoo⟩ := h.oopsL hs;have hle := kDH M.fA;obtain ⟨f1, -⟩ := kDK M.fA;have hp1 : 1 ≤ kAf M.fA := by unfold kAf; omega
 have hg := kJX M.fA (kAf M.fA - 1) ⟨true, X, f, kAp M.fA M.fA.length, List.replicate n (newX f), p, c⟩ (by omega);generalize kAY M.fA (kAf M.fA - 1) ⟨true, X, f, kAp M.fA M.fA.length, List.replicate n (newX f), p, c⟩ = S' at *
 have hnl : ∀ x ∈ L, x - 1 ≠ kAf M.fA - 1 := fun x hx e => by
  have := ((hs.mem x).1 hx).2;rw [e, f1] at this
  cases this
 have hpl : ∀ x ∈ L, S'.getD (x - 1) noTh = M.fA.getD (x - 1) noTh := fun x hx => by rw [hg, jn (hnl x hx)]
 refine ⟨h.fH, h.fM, rfl, ⟨L ++ [kAf M.fA], ⟨?_, fun x => ?_⟩, ?_⟩, ?_, fun b hb2 => ?_, ?_⟩
 ·refine jAi.2 ⟨hs.up.imp_of_mem (fun {x y} hx hy hr => ?_), jBU _ _, fun x hx y hy => ?_⟩
  ·show plO S' x + lnO S' x ≤ plO S' y;unfold plO lnO at *;rw [hpl x hx, hpl y hy];exact hr
  ·have e : y = kAf M.fA := by simpa using hy
   have := hs.ends x hx;show plO S' x + lnO S' x ≤ plO S' y;unfold plO lnO at *;rw [hpl x hx, e, hg, jp rfl];exact this
 ·show x ∈ L ++ [kAf M.fA] ↔ 1 ≤ x ∧ (S'.getD (x - 1) noTh).fI = true;rw [jAC, hg];constructor
  ·rintro (h1 | h1)
   ·rw [jn (hnl x h1)]; exact (hs.mem x).1 h1
   ·have e : x = kAf M.fA := by simpa using h1
    rw [e, jp rfl];exact ⟨hp1, rfl⟩
  ·rintro ⟨h1, h2⟩
   by_cases e : x - 1 = kAf M.fA - 1
   ·right; simp; omega
   ·rw [jn e] at h2;exact .inl ((hs.mem x).2 ⟨h1, h2⟩)
 ·show (R.fE ++ [o]).map rv = (L ++ [kAf M.fA]).map (tv S');rw [jAP, jAP, he]
  congr 1
  ·refine jBJ fun x hx => ?_
   unfold tv;rw [hpl x hx]
  ·simp only [List.map_cons, List.map_nil];rw [ho];unfold tv;rw [hg, jp rfl]
 ·show ((R.fE ++ [o]).map RO.fL).Pairwise _;rw [jAP];refine jAi.2 ⟨h.rise, jBU _ _, fun x hx y hy => ?_⟩;have e : y = o.fL := by simpa using hy
  rw [e, hb];exact h.old x hx
 ·have hb3 : b ∈ (R.fE ++ [o]).map RO.fL := hb2;rw [jAP] at hb3;show b < R.fL + 1;rcases jAC.1 hb3 with h1 | h1
  ·have := h.old b h1; omega
  ·have e : b = o.fL := by simpa using h1
   omega
 ·show (R.fE ++ [o]).Pairwise _;exact jAi.2 ⟨h.lone, jBU _ _, fun x hx y hy => by rw [jAp.1 hy]; exact hfr x hx⟩
def swO (x y o : Nat) : Nat := if o = x + 1 then y + 1 else if o = y + 1 then x + 1 else o
theorem swO_at (S : List Th) (x y : Nat) (hx : x < S.length) (hy : y < S.length) (o : Nat) (ho : 1 ≤ o) : ((S.set x (S.getD y noTh)).set y (S.getD x noTh)).getD (swO x y o - 1) noTh = S.getD (o - 1) noTh := by
 rw [kAX _ _ _ _ (by rw [jAL]; exact hy), kAX _ _ _ _ hx];unfold swO
 by_cases e1 : o = x + 1
 ·rw [jp e1, jAJ, jp rfl, e1, jAJ]
 ·rw [jn e1]
  by_cases e2 : o = y + 1
  ·rw [jp e2, jAJ]
   by_cases e3 : x = y
   ·omega
   ·rw [jn e3, jp rfl, e2, jAJ]
  ·rw [jn e2, jn (by omega), jn (by omega)]
theorem kLz (x y o : Nat) : swO x y (swO x y o) = o := by
 unfold swO
 (repeat' split); all_goals omega
theorem kHX (x y o : Nat) (ho : 1 ≤ o) : 1 ≤ swO x y o := by
 unfold swO
 split
 ·omega
 ·split <;> omega
theorem Doc.exch (h : Doc M R) {x y i j : Nat} (hi : RIs R ((x : Int) + 1) i) (hj : RIs R ((y : Int) + 1) j) : Doc { M with fA := (M.fA.set x (M.fA.getD y noTh)).set y (M.fA.getD x noTh) } (kCU R i j (x + 1) (y + 1)) := by
 obtain ⟨-, hbx, hrx⟩ := h.is hi;obtain ⟨-, hby, hry⟩ := h.is hj;rw [show ((x : Int) + 1).toNat = x + 1 from by omega] at hrx hbx;rw [show ((y : Int) + 1).toNat = y + 1 from by omega] at hry hby
 rw [jAJ] at hbx hby
 have hx := kAs hbx;have hy := kAs hby
 obtain ⟨L, hs, -⟩ := h.ex;obtain ⟨he, ho⟩ := h.oopsL hs;have hil := hi.1;have hjl := hj.1;have hlen : R.fE.length = L.length := by have := congrArg List.length ho; simpa using this
 have hnd : (R.fE.map (fun o => o.oop)).Nodup := by rw [ho]; exact hs.nodup
 have hin : ∀ (a b : Nat) (ha : a < R.fE.length) (hb : b < R.fE.length), (R.fE[a]).oop = (R.fE[b]).oop → a = b := fun a b ha hb e => by
  rcases jBf a b with h1 | h1 | h1
  ·exact absurd (by rw [jBL, jBL]; exact e) (jAm.1 hnd a b (by simpa using ha) (by simpa using hb) h1)
  ·exact h1
  ·exact absurd (by rw [jBL, jBL]; exact e.symm) (jAm.1 hnd b a (by simpa using hb) (by simpa using ha) h1)
 have hix : (R.fE[i]).oop = x + 1 := by have := (kAg hrx).1; rw [kBx hil] at this; exact this
 have hjy : (R.fE[j]).oop = y + 1 := by have := (kAg hry).1; rw [kBx hjl] at this; exact this
 have hat := swO_at M.fA x y hx hy;generalize hS' : (M.fA.set x (M.fA.getD y noTh)).set y (M.fA.getD x noTh) = S' at *
 have e4 : (R.fE.set i ((R.fE.getD i noRO).named (y + 1))).getD j noRO = if i = j then (R.fE.getD i noRO).named (y + 1) else R.fE[j] := by
  rw [jAA, jAh]
  by_cases e : i = j
  ·rw [jp e, jp e, jp hil]; rfl
  ·rw [jn e, jn e, jAB hjl]; rfl
 have hmap : (kCU R i j (x + 1) (y + 1)).fE = R.fE.map (fun o => o.named (swO x y o.oop)) := by
  refine jBe (fun k => ?_);show ((R.fE.set i ((R.fE.getD i noRO).named (y + 1))).set j (((R.fE.set i ((R.fE.getD i noRO).named (y + 1))).getD j noRO).named (x + 1)))[k]? = _;rw [e4, jAh, jAh, jAL, kBx hil, jAQ]
  by_cases hk : k < R.fE.length
  ·rw [jAB hk, Option.map_some];unfold swO
   by_cases ej : j = k
   ·subst ej;rw [jp rfl, jp hk, hjy]
    by_cases ei : i = j
    ·subst ei;rw [jp rfl, jp (by omega)];show some ({ ({ R.fE[i] with oop := y + 1 } : RO) with oop := x + 1 } : RO) = some { R.fE[i] with oop := y + 1 };rw [show x + 1 = y + 1 from by omega]
    ·rw [jn ei]
     by_cases e : y + 1 = x + 1
     ·exact absurd (hin i j hil hjl (by omega)) ei
     ·rw [jn e, jp rfl]
   ·rw [jn ej]
    by_cases ei : i = k
    ·subst ei;rw [jp rfl, jp hk, hix, jp rfl]
    ·rw [jn ei, jn (fun e => ei (hin i k hil hk (by omega))), jn (fun e => ej (hin j k hjl hk (by omega)))];rfl
  ·rw [jAM (by omega), jn (by omega), jn (by omega)];rfl
 refine ⟨h.fH, h.fM, h.mark, ⟨L.map (swO x y), ⟨?_, fun z => ?_⟩, ?_⟩, ?_, ?_, ?_⟩
 ·refine jBb.2 (hs.up.imp_of_mem (fun {a b} ha hb hr => ?_));have h1 := ((hs.mem a).1 ha).1;have h2 := ((hs.mem b).1 hb).1;show plO S' (swO x y a) + lnO S' (swO x y a) ≤ plO S' (swO x y b);unfold plO lnO at *;rw [hat a h1, hat b h2];exact hr
 ·show z ∈ L.map (swO x y) ↔ 1 ≤ z ∧ (S'.getD (z - 1) noTh).fI = true;rw [jAZ];constructor
  ·rintro ⟨o, o1, o2⟩;obtain ⟨m1, m2⟩ := (hs.mem o).1 o1;rw [← o2, hat o m1];exact ⟨kHX x y o m1, m2⟩
  ·rintro ⟨z1, z2⟩;refine ⟨swO x y z, (hs.mem _).2 ⟨kHX x y z z1, ?_⟩, kLz x y z⟩;rw [← hat _ (kHX x y z z1), kLz];exact z2
 ·show (kCU R i j (x + 1) (y + 1)).fE.map rv = (L.map (swO x y)).map (tv S');rw [hmap, jAa, jAa, ← ho, jAa];refine jBJ fun o o1 => ?_
  obtain ⟨e1, e2, e3⟩ := h.each o o1;obtain ⟨p1, p2, p3, p4, p5⟩ := kAg e1;show ((swO x y o.oop, o.fmt, o.fJ, o.cls, o.fB) : Nat × Nat × Nat × Int × List Int) = tv S' (swO x y o.oop);unfold tv;rw [hat _ e2, p2, p3, p4, p5]
 ·have e : (kCU R i j (x + 1) (y + 1)).fE.map RO.fL = R.fE.map RO.fL := by rw [hmap, jAa]; rfl
  rw [e];exact h.rise
 ·have e : (kCU R i j (x + 1) (y + 1)).fE.map RO.fL = R.fE.map RO.fL := by rw [hmap, jAa]; rfl
  rw [e];exact h.old
 ·show (kCU R i j (x + 1) (y + 1)).fE.Pairwise _;rw [hmap];exact jBb.2 (h.lone.imp (fun {a b} hr => hr))
def kvF (S : List Th) : Nat → List Nat → List (Nat × Nat × Nat × Int × List Int)
 | _, [] => []
 | A, x :: t => (x, (S.getD (x - 1) noTh).fmt, A, (S.getD (x - 1) noTh).cls, (S.getD (x - 1) noTh).fB) :: kvF S (A + lnO S x) t
theorem kIk (S : List Th) : ∀ (l : List Nat) (A x : Nat), kvF S A (l ++ [x]) = kvF S A l ++ [(x, (S.getD (x - 1) noTh).fmt, A + sumO S l, (S.getD (x - 1) noTh).cls, (S.getD (x - 1) noTh).fB)] := by
 intro l
 induction l with
 | nil => intro A x; simp [kvF, sumO]
 | cons y t ih =>
  intro A x;show _ :: kvF S (A + lnO S y) (t ++ [x]) = _ :: (kvF S (A + lnO S y) t ++ _);rw [ih];show _ = (y, _, A, _, _) :: (kvF S (A + lnO S y) t ++ [(x, _, A + (lnO S y + sumO S t), _, _)]);rw [jBF]
theorem kst_kv (S : List Th) (js : List Nat) : ∀ (l : List RO), (∀ o ∈ l, rv o = tv S o.oop) → (kst js l).1.map rv = kvF S 0 ((l.map (fun o => o.oop)).filter (fun x => decide (x ∈ js))) ∧ (kst js l).2 = sumO S ((l.map (fun o => o.oop)).filter (fun x => decide (x ∈ js))) := by
 refine kCL (P := fun l => (∀ o ∈ l, rv o = tv S o.oop) → (kst js l).1.map rv = kvF S 0 ((l.map (fun o => o.oop)).filter (fun x => decide (x ∈ js))) ∧ (kst js l).2 = sumO S ((l.map (fun o => o.oop)).filter (fun x => decide (x ∈ js)))) (fun _ => ⟨rfl, rfl⟩) ?_
 intro l o ih hall;obtain ⟨i1, i2⟩ := ih (fun x hx => hall x (jBE _ hx));have ho := hall o (by simp);obtain ⟨p1, p2, p3, p4, p5⟩ := kAg ho;rw [kCb, jAP, jAs]
 by_cases e : o.oop ∈ js
 ·rw [jp e];have e2 : (List.map (fun o : RO => o.oop) [o]).filter (fun x => decide (x ∈ js)) = [o.oop] := by simp [e]
  rw [e2, kIk, kBP, jAP, i1];refine ⟨?_, ?_⟩
  ·congr 1
   show [((o.oop, o.fmt, (kst js l).2, o.cls, o.fB) : Nat × Nat × Nat × Int × List Int)] = _;rw [p2, p4, p5, i2, jAl]
  ·rw [i2];show _ + lenN o.fB.length o.fmt = _ + (lnO S o.oop + 0);rw [p5, p2];rfl
 ·rw [jn e];have e2 : (List.map (fun o : RO => o.oop) [o]).filter (fun x => decide (x ∈ js)) = [] := by simp [e]
  rw [e2, jAz];exact ⟨i1, i2⟩
theorem kPN (S : List Th) (L : List Nat) (hs : Srt S L) : ∀ (a b : List Nat), L = a ++ b → ∃ T, (∀ r, kBc S 0 (a.length + r) = kBc T (sumO S a) r) ∧ T.length = S.length ∧ (∀ i, i + 1 ∉ a → T.getD i noTh = S.getD i noTh) ∧ (∀ a1 x a2, a = a1 ++ x :: a2 → T.getD (x - 1) noTh = kCr (S.getD (x - 1) noTh) (sumO S a1)) := by
 intro a;refine kCL (P := fun a => ∀ b, L = a ++ b → ∃ T, (∀ r, kBc S 0 (a.length + r) = kBc T (sumO S a) r) ∧ T.length = S.length ∧ (∀ i, i + 1 ∉ a → T.getD i noTh = S.getD i noTh) ∧ (∀ a1 x a2, a = a1 ++ x :: a2 → T.getD (x - 1) noTh = kCr (S.getD (x - 1) noTh) (sumO S a1))) ?_ ?_ a
 ·intro b _;exact ⟨S, fun r => by simp [sumO], rfl, fun _ _ => rfl, fun a1 x a2 e => by simp at e⟩
 ·intro a x ih b e;obtain ⟨T, t1, t2, t3, t4⟩ := ih (x :: b) (by rw [e]; simp);have hup := hs.up;rw [e] at hup;have hnd := hs.nodup;rw [e] at hnd;have hxL : x ∈ L := by rw [e]; simp
  obtain ⟨hx1, hx2⟩ := (hs.mem x).1 hxL;have hxa : x ∉ a := fun hh => (jAi.1 (jAi.1 hnd).1).2.2 x hh x (by simp) rfl
  have hTx : T.getD (x - 1) noTh = S.getD (x - 1) noTh := t3 (x - 1) (by rw [show x - 1 + 1 = x from by omega]; exact hxa);have hpa := (jAi.1 hup).1;obtain ⟨q1, q2, q3⟩ := jAi.1 hpa;have hsum : sumO S a ≤ plO S x := kIR S a (plO S x) q1 (fun y hy => q3 y hy x (by simp))
  have hpick : kBi T (sumO S a) T.length = some (x - 1) := by
   refine kHG T (sumO S a) (x - 1) (by rw [hTx]; exact hx2) (by rw [hTx]; exact hsum) (fun i hi hb hA => ?_) T.length (by have := kAs hx2; omega)
   by_cases hia : i + 1 ∈ a
   ·exfalso;obtain ⟨a1, a2, ea⟩ := List.append_of_mem hia;have h5 := t4 a1 (i + 1) a2 ea;rw [jAJ] at h5;rw [h5] at hA;have hA2 : sumO S a ≤ sumO S a1 := hA;rw [ea, kBP] at hA2;have h6 : sumO S ((i + 1) :: a2) = lnO S (i + 1) + sumO S a2 := rfl;have := kCt S (i + 1);omega
   ·have h5 := t3 i hia;rw [h5] at hb ⊢;rw [hTx];have hm : i + 1 ∈ L := (hs.mem _).2 ⟨by omega, by rw [jAJ]; exact hb⟩;rw [e] at hm
    have hmb : i + 1 ∈ b := by
     rcases jAC.1 hm with h6 | h6
     ·rcases jAC.1 h6 with h7 | h7
      ·exact absurd h7 hia
      ·have : i + 1 = x := by simpa using h7
       omega
     ·exact h6
    have h8 := (jAi.1 hup).2.2 x (by simp) (i + 1) hmb;have := kCt S x;have h9 : plO S (i + 1) = (S.getD i noTh).fJ := by unfold plO; rw [jAJ]
    have h10 : plO S x = (S.getD (x - 1) noTh).fJ := rfl;omega
  have hxT : x - 1 < T.length := by have := kAs hx2; omega
  refine ⟨T.set (x - 1) (kCr (T.getD (x - 1) noTh) (sumO S a)), fun r => ?_, by rw [jAL]; exact t2, fun i hi => ?_, fun a1 z a2 ea => ?_⟩
  ·rw [jAG, jBF, t1, show [x].length + r = r + 1 from by simp; omega, kCy T (sumO S a) r (x - 1) hpick, kBP]
   congr 1
   rw [hTx];show _ = sumO S a + (lnO S x + 0);rfl
  ·have h1 : i + 1 ∉ a := fun hh => hi (jBE _ hh)
   have h2 : i + 1 ≠ x := fun hh => hi (by rw [hh]; simp)
   rw [kAX _ _ _ _ hxT, jn (by omega)];exact t3 i h1
  ·rw [kAX _ _ _ _ hxT];rcases kGD a2 with e2 | ⟨a3, u, e2⟩
   ·subst e2;have := List.append_inj' ea rfl;have hzx : z = x := by simpa using this.2.symm
    rw [hzx, jp rfl, hTx, this.1]
   ·subst e2;have e3 : a ++ [x] = (a1 ++ z :: a3) ++ [u] := by rw [ea]; simp
    have := List.append_inj' e3 rfl;have hza : z ∈ a := by rw [this.1]; simp
    have hz1 : 1 ≤ z := ((hs.mem z).1 (by rw [e]; simp [hza])).1;rw [jn (fun hh => hxa (by rw [show x = z from by omega]; exact hza))];exact t4 a1 z a3 this.1
theorem kII (S : List Th) (L : List Nat) (hs : Srt S L) : Srt (kBc S 0 (kAG S S.length)) L ∧ L.map (tv (kBc S 0 (kAG S S.length))) = kvF S 0 L := by
 obtain ⟨T, t1, t2, t3, t4⟩ := kPN S L hs L [] (by simp);have h0 := t1 0;rw [jBm, hs.len] at h0;have hT : kBc S 0 (kAG S S.length) = T := h0;rw [hT]
 have hpl : ∀ a x b, L = a ++ x :: b → plO T x = sumO S a ∧ lnO T x = lnO S x := fun a x b e => by
  have h5 := t4 a x b e;unfold plO lnO;rw [h5];exact ⟨rfl, rfl⟩
 refine ⟨⟨?_, fun x => ?_⟩, ?_⟩
 ·rw [jAm]
  intro i j hi hj hij;have ei : L = L.take i ++ L[i] :: L.drop (i + 1) := by rw [← jBD hi, jAt]
  have ej : L = L.take j ++ L[j] :: L.drop (j + 1) := by rw [← jBD hj, jAt]
  obtain ⟨a1, a2⟩ := hpl _ _ _ ei;obtain ⟨b1, b2⟩ := hpl _ _ _ ej;rw [a1, a2, b1]
  have e3 : L.take j = L.take i ++ L[i] :: (L.take j).drop (i + 1) := by
   have h1 : (L.take j).take i = L.take i := by rw [List.take_take, jBK (by omega)]
   have h2 : i < (L.take j).length := by rw [jAk]; omega
   have h3 : (L.take j)[i]'h2 = L[i] := List.getElem_take;rw [← h1, ← h3, ← jBD h2, jAt]
  rw [e3, kBP];show _ ≤ sumO S (L.take i) + (lnO S L[i] + _);omega
 ·by_cases hx : x ∈ L
  ·obtain ⟨a, b, e⟩ := List.append_of_mem hx;have := t4 a x b e;rw [this];exact hs.mem x
  ·constructor
   ·intro h; exact absurd h hx
   ·rintro ⟨h1, h2⟩;rw [t3 (x - 1) (by rw [show x - 1 + 1 = x from by omega]; exact hx)] at h2;exact (hs.mem x).2 ⟨h1, h2⟩
 ·have main : ∀ (b a : List Nat), L = a ++ b → b.map (tv T) = kvF S (sumO S a) b := by
   intro b
   induction b with
   | nil => intro a _; rfl
   | cons x t ih =>
    intro a e;have h5 := t4 a x t e;rw [List.map_cons, ih (a ++ [x]) (by rw [e]; simp), kBP];show tv T x :: kvF S (sumO S a + (lnO S x + 0)) t = _ :: kvF S (sumO S a + lnO S x) t;rw [jBm]
    congr 1
    unfold tv;rw [h5];rfl
  exact main L [] (by simp)
theorem kMt (S : List Th) (L : List Nat) (hs : Srt S L) (js : List Nat) : Srt (kBl S js S.length) (L.filter (fun x => decide (x ∈ js))) ∧ ∀ x, lnO (kBl S js S.length) x = lnO S x ∧ ∀ i, ((kBl S js S.length).getD i noTh).fmt = (S.getD i noTh).fmt ∧ ((kBl S js S.length).getD i noTh).cls = (S.getD i noTh).cls ∧ ((kBl S js S.length).getD i noTh).fB = (S.getD i noTh).fB := by
 have hat := kEv S js S.length (jAD _)
 have hf : ∀ i, ((kBl S js S.length).getD i noTh).fmt = (S.getD i noTh).fmt ∧ ((kBl S js S.length).getD i noTh).cls = (S.getD i noTh).cls ∧ ((kBl S js S.length).getD i noTh).fB = (S.getD i noTh).fB ∧ ((kBl S js S.length).getD i noTh).fJ = (S.getD i noTh).fJ := fun i => by
  rw [hat]
  split <;> exact ⟨rfl, rfl, rfl, rfl⟩
 have hpl : ∀ x, plO (kBl S js S.length) x = plO S x ∧ lnO (kBl S js S.length) x = lnO S x := fun x => by
  obtain ⟨f1, f2, f3, f4⟩ := hf (x - 1);unfold plO lnO;rw [f1, f3, f4];exact ⟨rfl, rfl⟩
 refine ⟨⟨(hs.up.filter _).imp (fun {x y} hr => by rw [(hpl x).1, (hpl x).2, (hpl y).1]; exact hr), fun x => ?_⟩, fun x => ⟨(hpl x).2, fun i => ⟨(hf i).1, (hf i).2.1, (hf i).2.2.1⟩⟩⟩;rw [jBV, hs.mem, hat];constructor
 ·rintro ⟨⟨h1, h2⟩, h3⟩;have h4 : x ∈ js := by simpa using h3
  refine ⟨h1, ?_⟩;rw [jp (kAs h2)];show ((S.getD (x - 1) noTh).fI && decide (x - 1 + 1 ∈ js)) = true;rw [h2, show x - 1 + 1 = x from by omega]
  simpa using h4
 ·rintro ⟨h1, h2⟩
  split at h2
  ·have h3 : ((S.getD (x - 1) noTh).fI && decide (x - 1 + 1 ∈ js)) = true := h2;rw [show x - 1 + 1 = x from by omega] at h3;simp only [jBA] at h3;exact ⟨⟨h1, h3.1⟩, h3.2⟩
  ·rename_i hc
   exact absurd (kAs h2) hc
theorem kLe {T : List Th} (h : ∀ x, lnO T x = lnO S x ∧ ∀ i, (T.getD i noTh).fmt = (S.getD i noTh).fmt ∧ (T.getD i noTh).cls = (S.getD i noTh).cls ∧ (T.getD i noTh).fB = (S.getD i noTh).fB) : ∀ (l : List Nat) (A : Nat), kvF T A l = kvF S A l := by
 intro l
 induction l with
 | nil => intro A; rfl
 | cons x t ih =>
  intro A;obtain ⟨h1, h2⟩ := h x;obtain ⟨f1, f2, f3⟩ := h2 (x - 1);show (x, _, A, _, _) :: kvF T (A + lnO T x) t = (x, _, A, _, _) :: kvF S (A + lnO S x) t;rw [h1, ih, f1, f2, f3]
theorem Doc.kept (h : Doc M R) (js : List Nat) (ov : Value) (tn : Nat) : Doc { M with fA := kDf M.fA js } { R with fE := (kst js R.fE).1, ov := ov, fO := tn } := by
 obtain ⟨L, hs, -⟩ := h.ex;obtain ⟨he, ho⟩ := h.oopsL hs;obtain ⟨k1, k2⟩ := kst_kv M.fA js R.fE (fun o o1 => (h.each o o1).1);obtain ⟨s1, s2⟩ := kMt M.fA L hs js;obtain ⟨g1, g2⟩ := kII _ _ s1;rw [ho] at k1;rw [kEA] at g1 g2
 have hk : ∀ l : List RO, ∃ f : List RO, f.Sublist l ∧ (kst js l).1.map (fun o => (o.fL, o.v)) = f.map (fun o => (o.fL, o.v)) := by
  refine kCL (P := fun l => ∃ f : List RO, f.Sublist l ∧ (kst js l).1.map (fun o => (o.fL, o.v)) = f.map (fun o => (o.fL, o.v))) ⟨[], List.Sublist.refl _, rfl⟩ ?_;rintro l o ⟨f, f1, f2⟩;rw [kCb]
  by_cases e : o.oop ∈ js
  ·rw [jp e];exact ⟨f ++ [o], List.Sublist.append f1 (List.Sublist.refl _), by rw [jAP, jAP, f2]; rfl⟩
  ·rw [jn e];exact ⟨f, f1.trans (List.sublist_append_left _ _), f2⟩
 obtain ⟨f, f1, f2⟩ := hk R.fE
 have hborn : (kst js R.fE).1.map RO.fL = f.map RO.fL := by
  have := congrArg (List.map (fun t : Nat × Value => t.1)) f2;rw [jAa, jAa] at this;exact this
 have hv : (kst js R.fE).1.map RO.v = f.map RO.v := by
  have := congrArg (List.map (fun t : Nat × Value => t.2)) f2;rw [jAa, jAa] at this;exact this
 refine ⟨h.fH, h.fM, h.mark, ⟨_, g1, ?_⟩, ?_, ?_, ?_⟩
 ·show (kst js R.fE).1.map rv = _;rw [k1];refine Eq.trans ?_ g2.symm;exact (kLe s2 _ 0).symm
 ·show ((kst js R.fE).1.map RO.fL).Pairwise _;rw [hborn];exact h.rise.sublist (f1.map _)
 ·show ∀ b ∈ (kst js R.fE).1.map RO.fL, b < R.fL
  rw [hborn];exact fun b hb => h.old b ((f1.map _).subset hb)
 ·have h1 : (f.map RO.v).Pairwise (fun x o => ∀ g, o.ownBlock = some g → x.ownBlock ≠ some g) := jBb.2 (h.lone.sublist f1);rw [← hv] at h1;exact jBb.1 h1
theorem Inv.backsN (h : Inv H M) (n : Nat) (young : ∀ j, n ≤ j → j < H.fC.length → H.fC.getD j 0 ≠ 0) : ∀ j, n + j ≤ H.fC.length → ∃ X : List Th, InvV (kAd H n j) { M with fA := X } ∧ X.length = M.fA.length ∧
  (∀ k, X.getD k noTh = if (M.fA.getD k noTh).fI = true ∧ n ≤ (H.fD.getD (k + 1) (0, 0, 0)).2.2 ∧ (H.fD.getD (k + 1) (0, 0, 0)).2.2 < n + j then gone (M.fA.getD k noTh) else M.fA.getD k noTh) ∧
  (kAd H n j).fC.length = H.fC.length ∧ (∀ r, r < n ∨ n + j ≤ r → (kAd H n j).fC.getD r 0 = H.fC.getD r 0) ∧
  (∀ r, n ≤ r → r < n + j → (kAd H n j).fC.getD r 0 = 0) ∧
  (kAd H n j).fH = H.fH ∧ (kAd H n j).fM = H.fM ∧ (kAd H n j).mark = H.mark := by
 intro j
 induction j with
 | zero => intro _; exact ⟨M.fA, h.toInvV, rfl, fun k => by rw [jn (by omega)], rfl, fun _ _ => rfl, fun r h1 h2 => by omega, rfl, rfl, rfl⟩
 | succ j ih =>
  intro hj;obtain ⟨X, h1, h2, h3, h4, h5, h6, h7, h8, h9⟩ := ih (by omega);have hne := young (n + j) (by omega) (by omega);have ho := h5 (n + j) (.inr (jAD _));obtain ⟨u1, u2, u3⟩ := h.fC (n + j) (by omega) hne;obtain ⟨o1, o2, o3⟩ := h1.fC (n + j) (by omega) (by rw [ho]; exact hne);rw [ho] at o1 o2 o3;obtain ⟨i0, hi0⟩ : ∃ i0, H.fC.getD (n + j) 0 = i0 + 1 := ⟨H.fC.getD (n + j) 0 - 1, by omega⟩
  rw [hi0] at u1 u2 u3 o1 o2 o3;rw [jAJ] at u2 o2;have hlt : i0 < X.length := o1;have hvac := h1.vac i0 hlt o2;have hg := fun i => kAX X i0 i (gone (X.getD i0 noTh)) hlt
  have e : kAd H n (j + 1) = vacH (kAd H n j) (i0 + 1) := by
   show vacH (kAd H n j) (H.fC.getD (n + j) 0) = _;rw [hi0]
  rw [e]
  have hord : ∀ r, (vacH (kAd H n j) (i0 + 1)).fC.getD r 0 = if r = n + j then 0 else (kAd H n j).fC.getD r 0 := fun r => by
   show ((kAd H n j).fC.set ((kAd H n j).fD.getD (i0 + 1) (0, 0, 0)).2.2 0).getD r 0 = _;rw [o3, kFd _ _ _ _ (by omega)]
  refine ⟨X.set i0 (gone (X.getD i0 noTh)), hvac, by rw [jAL]; exact h2, fun k => ?_, ?_, fun r hr => ?_, fun r r1 r2 => ?_, h7, h8, h9⟩
  ·have hXi : X.getD i0 noTh = M.fA.getD i0 noTh := by rw [h3 i0, jn (fun hh => by omega)]
   have hat : ∀ k, (M.fA.getD k noTh).fI = true → (H.fD.getD (k + 1) (0, 0, 0)).2.2 = n + j → k = i0 := fun k hb e => by
    have := (h.fO k (kAs hb) hb).2;rw [e, hi0] at this;omega
   rw [hg]
   by_cases e2 : k = i0
   ·rw [jp e2, hXi, e2, jp ⟨u2, by omega, by omega⟩]
   ·rw [jn e2, h3 k]
    have hiff : ((M.fA.getD k noTh).fI = true ∧ n ≤ (H.fD.getD (k + 1) (0, 0, 0)).2.2 ∧ (H.fD.getD (k + 1) (0, 0, 0)).2.2 < n + j) ↔ ((M.fA.getD k noTh).fI = true ∧ n ≤ (H.fD.getD (k + 1) (0, 0, 0)).2.2 ∧ (H.fD.getD (k + 1) (0, 0, 0)).2.2 < n + (j + 1)) := by
     refine ⟨fun q => ⟨q.1, q.2.1, by omega⟩, fun q => ⟨q.1, q.2.1, ?_⟩⟩
     by_cases e3 : (H.fD.getD (k + 1) (0, 0, 0)).2.2 = n + j
     ·exact absurd (hat k q.1 e3) e2
     ·have := q.2.2; omega
    simp only [hiff]
  ·show ((kAd H n j).fC.set _ 0).length = _; rw [jAL]; exact h4
  ·rw [hord, jn (by omega)]; exact h5 r (by omega)
  ·rw [hord]
   by_cases e3 : r = n + j
   ·rw [jp e3]
   ·rw [jn e3]; exact h6 r r1 (by omega)
theorem Inv.backOkN (h : Inv H M) (n : Nat) (hn : n ≤ H.fC.length) (young : ∀ j, n ≤ j → j < H.fC.length → H.fC.getD j 0 ≠ 0) (hage : (H.age : Int) ≤ 1000000000) : kOS H n where
 t := hn
 vac := fun j hj => by
  obtain ⟨X, h1, h2, h3, h4, h5, h6, h7, h8, h9⟩ := h.backsN n young j (by omega);have hne := young (n + j) (by omega) hj;have ho := h5 (n + j) (.inr (jAD _));obtain ⟨o1, o2, o3⟩ := h1.fC (n + j) (by omega) (by rw [ho]; exact hne);rw [ho] at o1 o2 o3;obtain ⟨i0, hi0⟩ : ∃ i0, H.fC.getD (n + j) 0 = i0 + 1 := ⟨H.fC.getD (n + j) 0 - 1, by omega⟩
  rw [hi0] at o1 o2 ho ⊢;rw [jAJ] at o2;exact ⟨h1.vacOk i0 o1 o2, ho, h4⟩
 r1 := by have := h.safe.fC; omega
 a1 := hage
def cutO (H : HS) (n : Nat) : Nat := ((H.fC.take n).filter (fun o => o != 0)).length
theorem kNl (H : HS) (n : Nat) : (kAa H).take (cutO H n) = (H.fC.take n).filter (fun o => o != 0) := by
 unfold kAa cutO;have e : H.fC.filter (fun o => o != 0) = (H.fC.take n).filter (fun o => o != 0) ++ (H.fC.drop n).filter (fun o => o != 0) := by rw [← jAs, jAt]
 rw [e, List.take_left'];rfl
theorem InvV.cut_mem (h : InvV H M) (n i : Nat) : i + 1 ∈ (kAa H).take (cutO H n) ↔ (M.fA.getD i noTh).fI = true ∧ (H.fD.getD (i + 1) (0, 0, 0)).2.2 < n := by
 rw [kNl, jBV];constructor
 ·rintro ⟨h1, h2⟩;obtain ⟨j, hj, e⟩ := jBh.1 h1;rw [jAk] at hj;rw [List.getElem_take] at e;have e2 : H.fC.getD j 0 = i + 1 := by rw [jAA, jAB (by omega)]; exact e
  have := h.fC j (by omega) (by rw [e2]; omega);rw [e2, jAJ] at this;exact ⟨this.2.1, by omega⟩
 ·rintro ⟨h1, h2⟩;obtain ⟨t1, t2⟩ := h.fO i (kAs h1) h1;refine ⟨?_, by simp⟩;rw [jAA, jAB t1] at t2;have t3 : H.fC[(H.fD.getD (i + 1) (0, 0, 0)).2.2] = i + 1 := t2;rw [← t3];refine jBh.2 ⟨(H.fD.getD (i + 1) (0, 0, 0)).2.2, by rw [jAk]; omega, ?_⟩;rw [List.getElem_take]
theorem Inv.backN (h : Inv H M) (n : Nat) (hn : n ≤ H.fC.length) (young : ∀ j, n ≤ j → j < H.fC.length → H.fC.getD j 0 ≠ 0) : ∃ t e0 X, kEw (kAd H n (H.fC.length - n)) t e0 ∧ Inv { kCW (kAd H n (H.fC.length - n)) t e0 with age := H.age + 1 } { M with fA := X } ∧ (∀ i, i + 1 ∈ (kAa H).take (cutO H n) → X.getD i noTh = M.fA.getD i noTh) ∧ (∀ i, (X.getD i noTh).fI = true → i + 1 ∈ (kAa H).take (cutO H n)) := by
 obtain ⟨X, h1, h2, h3, h4, h5, h6, h7, h8, h9⟩ := h.backsN n young (H.fC.length - n) (by omega);obtain ⟨t, e0, hd, hinv⟩ := h1.draw;refine ⟨t, e0, X, hd, hinv.aged _, fun i hi => ?_, fun i hi => ?_⟩
 ·obtain ⟨m1, m2⟩ := (h.toInvV.cut_mem n i).1 hi;rw [h3 i, jn (by omega)]
 ·rw [h.toInvV.cut_mem n i];rw [h3 i] at hi
  split at hi
  ·simp [gone] at hi
  ·rename_i hc
   refine ⟨hi, ?_⟩;have hu := (h.fO i (kAs hi) hi).1
   by_cases e : n ≤ (H.fD.getD (i + 1) (0, 0, 0)).2.2
   ·exact absurd ⟨hi, e, by omega⟩ hc
   ·omega
theorem Doc.backN (h : Inv H M) (hd : Doc M R) (n : Nat) (X : List Th) (hX1 : ∀ i, i + 1 ∈ (kAa H).take (cutO H n) → X.getD i noTh = M.fA.getD i noTh) (hX2 : ∀ i, (X.getD i noTh).fI = true → i + 1 ∈ (kAa H).take (cutO H n)) (ov : Value) (tn : Nat) : Doc { M with fA := X } { R with fE := R.fE.take (cutO H n), ov := ov, fO := tn } :=
 hd.taken h.toInvV.srt (cutO H n) X hX1 hX2 ov tn
def Old (b : Bool) (H H' : HS) : Prop := (b = false ∧ H'.age = H.age ∧ ∃ t, H'.fC = H.fC ++ t ∧ ∀ x ∈ t, x ≠ 0) ∨ (b = true ∧ H'.age = H.age + 1)
theorem Old.refl (H : HS) : Old false H H := .inl ⟨rfl, rfl, [], by simp, by simp⟩
theorem Old.same {H' : HS} (h1 : H'.age = H.age) (h2 : H'.fC = H.fC) : Old false H H' := .inl ⟨rfl, h1, [], by rw [h2]; simp, by simp⟩
def PN (b : Bool) (a : Nat) (l : Lay) (H : HS) (M' : MS) (w w' : World) : Prop := ∃ l' H', Rep w' a l' H' ∧ Inv H' M' ∧ Nx a l l' w w' ∧ Old b H H'
theorem PN.same {a : Nat} {l : Lay} {w w' : World} (h : Rep w a l H) (hi : Inv H M) (hf : Fr [] w w') : PN false a l H M w w' := ⟨l, H, h.keep hf (by simp), hi, Nx.frw (hf.mono (by simp)), Old.refl H⟩
def kAO (M : MS) (X A B : Int) : Int × Int :=
 if isW X = false ∨ A < 0 ∨ B < 0 ∨ 1 < B then (0, 1)
 else if 8192 < A then (0, 22)
 else if M.fM = kAG M.fA M.fA.length ∨ M.fH < kAp M.fA M.fA.length + lenN A.toNat B.toNat then (0, 23)
 else if M.mark = 1 then (0, 24)
 else ((kAf M.fA : Int), 0)
theorem pAlloc (X A B : Int) (a : Nat) (l : Lay) (H : HS) (M : MS) (w : World) (h : Rep w a l H) (hi : Inv H M) (hT : Tab w) (hT2 : kCQ w) (ha : 2 ≤ a) :
  Calls prog 47 #[.pointer (some ⟨a, 0, none⟩), int i64 X, int i64 A, int i64 B] w fun e w' => e = .returned (.tuple #[int i64 (kAO M X A B).1, int i64 (kAO M X A B).2]) ∧ PN false a l H (kAe M X A B) w w' := by
 have hsm := hi.safe.small;have hfin := hi.fin;have hcnt := hi.count;have hww := hi.fH;have hoo := hi.fM;unfold kAO
 by_cases hbad : isW X = false ∨ A < 0 ∨ B < 0 ∨ 1 < B
 ·rw [jp hbad, kFM hbad]
  refine Calls.mono (kJv X A B a l H w h hT (by
   rcases hbad with h | h | h | h
   ·exact .inl h
   ·exact .inr (.inr h)
   ·right; left; unfold isF; simp; omega
   ·right; left; unfold isF; simp; omega)) ?_
  rintro e w' ⟨rfl, rfl⟩;exact ⟨rfl, PN.same h hi (Fr.refl _ _)⟩
 ·rw [jn hbad]
  have hW : isW X = true := by
   cases hx : isW X with
   | true => rfl
   | false => exact absurd (.inl hx) hbad
  obtain ⟨n, rfl⟩ : ∃ n : Nat, A = (n : Int) := ⟨A.toNat, by omega⟩
  obtain ⟨f, rfl⟩ : ∃ f : Nat, B = (f : Int) := ⟨B.toNat, by omega⟩
  by_cases hbig : 8192 < (n : Int)
  ·rw [jp hbig, kFN hbad hbig];refine Calls.mono (kJF X n f a l H w h hT hW (by unfold isF; simp; omega) hbig) ?_;rintro e w' ⟨rfl, rfl⟩;exact ⟨rfl, PN.same h hi (Fr.refl _ _)⟩
  ·rw [jn hbig]
   by_cases hfull : M.fM = kAG M.fA M.fA.length ∨ M.fH < kAp M.fA M.fA.length + lenN (n : Int).toNat (f : Int).toNat
   ·rw [jp hfull, kEk hbad hbig hfull];rw [jAj, jAj] at hfull;refine Calls.mono (kJi X n f a l H w h hsm hT hW (by omega) (by omega) (by omega)) ?_;rintro e w' ⟨rfl, k, rfl⟩;exact ⟨rfl, PN.same h hi (Fr.drewN _ _ _)⟩
   ·rw [jn hfull];have hfull2 := hfull;rw [jAj, jAj] at hfull2;have hr1 : H.count < H.fM := by have := hsm.count; omega
    have hr2 : H.mem.length + lenN n f ≤ H.fH := by omega
    have hmk := hi.mark
    by_cases hm : M.mark = 1
    ·rw [jp hm, kEd hbad hbig hfull hm];refine Calls.mono (kGY X n f a l H w h hsm hT hW (by omega) (by omega) hr1 hr2 (by omega)) ?_;rintro e w' ⟨rfl, hr, hx⟩;exact ⟨rfl, l, _, hr, hi.setMark 0 (by omega), hx, Old.same rfl rfl⟩
    ·rw [jn hm, kEs hbad hbig hfull hm];refine Calls.mono (kNb X n f a l H w h hi.safe hT hT2 ha hW (by omega) (by omega) hr1 hr2 (by omega)) ?_;rintro e w' ⟨k, hk1, hk2, rfl, l', hr', hx'⟩;have hlow := hi.lowest k hk1 hk2;rw [hlow] at hr' ⊢;have hp : 1 ≤ kAf M.fA := by unfold kAf; omega
     exact ⟨rfl, l', _, hr', hi.lay k hk1 X n f none M.pt 0 M.ct (by omega) (by omega) hr1 hr2, hx', .inl ⟨rfl, rfl, [kAf M.fA], rfl, by simp; omega⟩⟩
theorem pMark (A : Int) (a : Nat) (l : Lay) (H : HS) (M : MS) (w : World) (h : Rep w a l H) (hi : Inv H M) :
  Calls prog 67 #[.pointer (some ⟨a, 0, none⟩), int i64 A] w fun e w' => e = .returned (int i64 (if isM A = true then 0 else 1)) ∧ PN false a l H (kDO M A) w w' := by
 unfold kDO
 cases hA : isM A with
 | false =>
  rw [jn (by simp), jn (by simp)];refine Calls.mono (kQF A a l H w h hA) ?_;rintro e w' ⟨rfl, rfl⟩;exact ⟨rfl, PN.same h hi (Fr.refl _ _)⟩
 | true =>
  rw [jp rfl, jp rfl];have := of_decide_eq_true hA;obtain ⟨n, rfl⟩ : ∃ n : Nat, A = (n : Int) := ⟨A.toNat, by omega⟩
  refine Calls.mono (kPW n a l H w h (by omega)) ?_;rintro e w' ⟨rfl, hr, hf, -⟩;exact ⟨rfl, l, _, hr, hi.setMark n (by omega), Nx.fr hf, Old.same rfl rfl⟩
theorem pFree (A : Int) (a : Nat) (l : Lay) (H : HS) (M : MS) (w : World) (h : Rep w a l H) (hi : Inv H M) (hage : (H.age : Int) ≤ 1000000000) :
  Calls prog 70 #[.pointer (some ⟨a, 0, none⟩), int i64 A] w fun e w' => e = .returned (int i64 (if mhas M A = true then 0 else 20)) ∧ PN (mhas M A) a l H (kEm M A) w w' := by
 unfold kEm
 cases hA : mhas M A with
 | false =>
  rw [jn (by simp), jn (by simp)];refine Calls.mono (kPj A a l H w h (by rw [hi.hasM]; exact hA)) ?_;rintro e w' ⟨rfl, hf⟩;exact ⟨rfl, PN.same h hi hf⟩
 | true =>
  rw [jp rfl, jp rfl];obtain ⟨k, rfl, hk, hb⟩ := kAx hA;rw [sub1];have hv := hi.toInvV.vac k hk hb;obtain ⟨t, e0, hd, hinv⟩ := hv.draw;have hf := kPb (k + 1) t e0 a l H w h (by rw [show ((k + 1 : Nat) : Int) = (k : Int) + 1 from by omega, hi.hasM]; exact hA) (hi.toInvV.vacOk k hk hb) hd hage;rw [show ((k + 1 : Nat) : Int) = (k : Int) + 1 from by omega] at hf;refine hf.mono ?_;rintro e w' ⟨rfl, hr, hx⟩;exact ⟨rfl, l, _, hr, hinv.aged (H.age + 1), hx, .inr ⟨rfl, rfl⟩⟩
structure LdW (w W1 : World) (A : Nat) (H0 : HS) (M0 : MS) (la : List OI) (k : Nat) (wr : World) (l : Lay) (H : HS) (M : MS) : Prop where
 rep : Rep wr A l H
 fr : Fr [] W1 wr
 new : ∀ b ∈ foot A l, W1.heap.size ≤ b
 lds : Lds H0 M0 ((la.take k).map kAU) H M
theorem kNI (fH fM mark : Nat) (ov : Value) (la : List OI) (w : World) (ha : SAt w ov la) (hT : Tab w) (hT0 : 0 < w.heap.size) (h1 : (fH : Int) ≤ 1048576) (h2 : (fM : Int) ≤ 65536) (hm : (mark : Int) ≤ 1073741824) :
  Calls prog 117 #[.agg #[int i64 fH, int i64 fM, int i64 mark, ov]] w fun e w' =>
   (∃ l H M, e = .returned (.tuple #[.pointer (some ⟨w.heap.size + 1, 0, none⟩), int i64 0]) ∧ LdW w w (w.heap.size + 1) { kBZ fH fM with mark := mark } { kBD fH fM with mark := mark } la la.length w' l H M) ∨
   (∃ k o H M, e = .returned (.tuple #[.pointer none, int i64 27]) ∧ Fr [] w w' ∧ la[k]? = some o ∧ Lds { kBZ fH fM with mark := mark } { kBD fH fM with mark := mark } ((la.take k).map kAU) H M ∧ kAn H o.oop o.cls o.fmt o.fB = false) := by
 have HA := kAA ha;obtain ⟨p, c, rfl, -⟩ := ha.at_;have hl := ha.short;obtain ⟨W1, hW1⟩ := jex (w.alloc (.cells #[int i64 fH, int i64 fM, int i64 mark, .slice p la.length c] 82));have F1 : Hid (Fr [] w W1) := by rw [hW1]; exact Fr.alloc [] _ _
 have hS1 : W1.heap.size = w.heap.size + 1 := by rw [hW1]; simp
 have HB1 : Hid (W1.heap[w.heap.size]? = some (.cells #[int i64 fH, int i64 fM, int i64 mark, .slice p la.length c] 82 (0, 0))) := by rw [Hid, hW1]; exact heap_alloc_new _ _
 have hN := kOa fH fM W1 (by omega) h2;rw [hS1] at hN;have HN := kAA hN;have HI0 : Hid (Inv { kBZ fH fM with mark := mark } { kBD fH fM with mark := mark }) := (kEz fH fM h1 h2).setMark mark hm;have HTb : Hid (∀ V, Hid (Fr [] w V) → Tab V) := fun V hV => hT.fr hV.out hT0
 have HS1 := kAA hS1;have hmk := fun V => kDt (mark : Int) V
 rw [show isM (mark : Int) = true from by simp [isM]; omega] at hmk;have HMk := kAA hmk;clear ha hT hN hS1 hmk;go_enter func117, ntmps117
 go_wp2_with fail
 rw [← hW1];clear hW1;refine HN.out.mono ?_;rintro e w2 ⟨rfl, hr2, hf2, hs2⟩;have f3 := hr2.frozen 3;have c3 := hr2.c3;have hb2 := (hf2.block _ (kAB HB1.out) (by simp)).trans HB1.out;have e2 : w2.cell? ⟨w.heap.size, 2, none⟩ = some (int i64 mark) := by rw [kAC hb2]; rfl
 have e3 : w2.cell? ⟨w.heap.size, 3, none⟩ = some (.slice p la.length c) := by rw [kAC hb2]; rfl
 have HR2 : Hid (∀ V, Eqw (w2.setCell ⟨w.heap.size + 1, 3, none⟩ (int i64 mark)) V → Rep V (w.heap.size + 1) kCm { kBZ fH fM with mark := mark } ∧ Fr [] W1 V) := fun V he => by
  refine ⟨(hr2.set (H' := { kBZ fH fM with mark := mark }) 3 _ rfl rfl rfl rfl rfl).eqw he, ?_⟩;have := HS1.out;exact (hf2.trans (Fr.setCell (S := [w.heap.size + 1]) w2 ⟨w.heap.size + 1, 3, none⟩ _ (by simp)) (by simp; omega)).trans (he.fr []) (by simp)
 clear HN
 go_wp2_with (go_at_call 114; refine Calls.mono (HMk.out _) ?_; rintro e w' ⟨rfl, hw'⟩; rw [hw']; clear hw' w')
 generalize w2.setCell ⟨w.heap.size + 1, 3, none⟩ (int i64 mark) = W3 at *
 go_loopw [32] (fun qq wr => ∃ k : Nat, k ≤ la.length ∧ qq = int i64 k ∧ Hid (∃ l H M, LdW w W1 (w.heap.size + 1) { kBZ fH fM with mark := mark } { kBD fH fM with mark := mark } la k wr l H M)) (fun qq _ => la.length - (intOf qq).toNat)
 case atStart =>
  obtain ⟨r3, f3'⟩ := HR2.out W3 ⟨rfl, rfl, rfl, rfl⟩;refine ⟨0, jAH _, rfl, kCm, _, { kBD fH fM with mark := mark }, ⟨r3, f3', fun b hb => ?_, ?_⟩⟩
  ·have hs := HS1.out;have hb' : b = w.heap.size + 1 := by simpa [foot, show kCm.blocks = [] from rfl] using hb
   omega
  ·exact Lds.nil
 case round =>
  obtain ⟨k, hkn, rfl, hqq⟩ := hrel;obtain ⟨l, H, M, hw⟩ := hqq.out
  by_cases hlt : k < la.length
  ·have Fk := F1.out.trans hw.fr (by simp);have hAk := HA.out.fK Fk;obtain ⟨p', c', ee, hpa⟩ := hAk.at_
   injection ee with ee eeb eec
   subst ee;subst eec;clear eeb;obtain ⟨g, off, rfl, hca⟩ := hpa (by omega);obtain ⟨o, h0, x0, x1, x2, x3⟩ := hca k hlt;have x4 := hAk.fB o (jAn h0);obtain ⟨oo, oc, of_, os, ov⟩ := o;dsimp only at *;have k1 := ng k;have k2 : (k : Int) < la.length := by omega
   obtain ⟨p1, c1, rfl⟩ : ∃ p c, ov = .slice p os.length c := by
    obtain ⟨p, c, h, _⟩ := x4.at_;exact ⟨p, c, h⟩
   have hI := hw.lds.inv HI0.out;obtain ⟨W4, hW4⟩ := jex (wr.alloc (.cells #[int i64 oo, int i64 oc, int i64 of_, .slice p1 os.length c1] 139));have F4 : Fr [] wr W4 := by rw [hW4]; exact Fr.alloc [] _ _
   have x5 := x4.fK F4;have hB4 : W4.heap[wr.heap.size]? = some (.cells #[int i64 oo, int i64 oc, int i64 of_, .slice p1 os.length c1] 139 (0, 0)) := by rw [hW4]; exact heap_alloc_new _ _
   have HB4 := kAA hB4;have HF4 := kAA F4;have HTk := kAA (kLj oo oc of_ os (.slice p1 os.length c1) (w.heap.size + 1) l H W4 (hw.rep.keep F4 (by simp)) hI.safe.small (HTb.out W4 (Fk.trans F4 (by simp))) (by have := Fk.size; have := F4.size; omega) x5);have HX5 := kAA x5;have HW := kAA hw;have HI := kAA hI;have HFk := kAA Fk;have H0 := kAA h0;clear hqq hw hAk hpa hca x4 x5 Fk hI F4 hB4 h0
   by_cases ht : kAn H oo oc of_ os = true
   ·obtain ⟨q, hq⟩ : ∃ q : Nat, oo = (q : Int) + 1 := ⟨(oo - 1).toNat, by have := (kDI ht).2.1; omega⟩
    obtain ⟨fm, hfm⟩ : ∃ fm : Nat, of_ = (fm : Int) := ⟨of_.toNat, by have h5 := (kDI ht).2.2.2.2.1; simp [isF] at h5; omega⟩
    have HLd : Hid (∀ V, Fr [] W4 V → Calls prog 144 #[.pointer (some ⟨w.heap.size + 1, 0, none⟩), .agg #[int i64 oo, int i64 oc, int i64 of_, .slice p1 os.length c1]] V fun e w' => e = .returned (.tuple #[]) ∧ Hid (∃ l' H' M', LdW w W1 (w.heap.size + 1) { kBZ fH fM with mark := mark } { kBD fH fM with mark := mark } la (k + 1) w' l' H' M')) := by
     intro V hV;have hFV := HF4.out.trans hV (by simp);rw [hq, hfm] at ht ⊢;have hmem := jAn H0.out;have hsl := HA.out.fB _ hmem
     refine Calls.mono (kJe q oc fm os (.slice p1 os.length c1) (w.heap.size + 1) l H M V (HW.out.rep.keep hFV (by simp)) HI.out ht (HX5.out.fK hV) (fun hp g hg hb => by
      have q1 := hsl.lt hp g hg;have q2 := HW.out.new g hb;have q3 := HS1.out;omega)) ?_
     rintro e w' ⟨rfl, l', H', M', hr', hx', hl'⟩;have hFV2 : Fr [] W1 V := HW.out.fr.trans hFV (by simp);refine ⟨rfl, l', H', M', hr', hFV2.trans hx'.1 (fun b hb => .inr (HW.out.new b hb)), fun b hb => ?_, ?_⟩
     ·rcases hx'.2 b hb with h | h
      ·exact HW.out.new b h
      ·have := hFV2.size;omega
     ·have e : (la.take (k + 1)).map kAU = (la.take k).map kAU ++ [((q : Int) + 1, oc, (fm : Int), os)] := by
       have h0 := H0.out;rw [jAB hlt] at h0;have h0' := Option.some.inj h0;rw [jAO hlt, jAP, h0', hq, hfm];rfl
      rw [e];exact Lds.snoc q oc fm os HW.out.lds ht hl'
    clear hq hfm;rw [ht] at HTk;have HT := kAA ht;clear ht;generalize os.length = sn at *
    go_wp2_with fail
    rw [← hW4];clear hW4;refine HTk.out.mono ?_;rintro e w5 ⟨rfl, hf5⟩;have b5 := (hf5.block _ (kAB HB4.out) (by simp)).trans HB4.out;have y0 : w5.cell? ⟨wr.heap.size, 0, none⟩ = some (int i64 oo) := by rw [kAC b5]; rfl
    have y1 : w5.cell? ⟨wr.heap.size, 1, none⟩ = some (int i64 oc) := by rw [kAC b5]; rfl
    have y2 : w5.cell? ⟨wr.heap.size, 2, none⟩ = some (int i64 of_) := by rw [kAC b5]; rfl
    have y3 : w5.cell? ⟨wr.heap.size, 3, none⟩ = some (.slice p1 sn c1) := by rw [kAC b5]; rfl
    have HL5 := kAA (HLd.out w5 hf5);clear b5 x0 x1 x2 x3 HTk HLd HT HX5 HW HI HFk H0 HB4 hf5
    go_wp2_with (go_at_call 144; refine HL5.out.mono ?_; rintro e w6 ⟨rfl, h6⟩)
    go_roundw
    case rel => exact ⟨k + 1, by omega, by go_num, h6⟩
    case measure => simp [intOf]; omega
   ·have ht : kAn H oo oc of_ os = false := by simpa using ht
    rw [ht] at HTk;have HT := kAA ht;clear ht;generalize os.length = sn at *
    go_wp2_with fail
    rw [← hW4];clear hW4;refine HTk.out.mono ?_;rintro e w5 ⟨rfl, hf5⟩;have F5 : Hid (Fr [] w w5) := (HFk.out.trans HF4.out (by simp)).trans hf5 (by simp);clear hf5 HTk x0 x1 x2 x3
    go_wp2_with fail
    go_ret2
    exact .inr ⟨k, _, H, M, rfl, F5.out, H0.out, HW.out.lds, HT.out⟩
  ·have hke : k = la.length := by omega
   subst hke;clear hqq;have HW := kAA hw;clear hw
   go_wp2_with fail
   go_ret2
   exact .inl ⟨rfl, l, H, M, ⟨HW.out.rep, F1.out.trans HW.out.fr (by simp), fun b hb => by have := HW.out.new b hb; have := HS1.out; omega, HW.out.lds⟩⟩
end Go.Proofs.YtflgicdbbogllaaGreatDoor
