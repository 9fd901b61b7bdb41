import Derived.Test.YtflgicdbbogllaaGreatDoorPG27YNil
import Derived.Deep.DeepAppendWide
set_option maxHeartbeats 2000000
set_option maxRecDepth 20000
set_option linter.unusedSimpArgs false
set_option linter.unusedVariables false
namespace Go.Proofs.YtflgicdbbogllaaGreatDoor
open Go.RowKit
open Value (int)
open IntKind (i64)
attribute [local go_sem ↓] wp_at_zero wp_at_succ
variable {S : List Nat} {X : SpS} {Y : RqS} {n n' : Nat} {w w' : World}
structure Sd where
 s : Nat
 a : Nat
 l : Lay
 X : SpS
 q : Nat
 r : Nat
 Y : RqS
def Sd.f (x : Sd) : List Nat := spF x.s x.a x.l x.X ++ rqF x.q x.r x.Y
structure Lnk (n : Nat) (X : SpS) (Y : RqS) : Prop where
 m : Y.M = X.M
 good : Good X.M
 fN : Y.fN = X.fN
 rb : X.fN = 0 ∨ (1 ≤ X.fN ∧ X.fN ≤ 65536)
 st : Y.st = X.st
 len : X.st.length ≤ 65536
 age : X.H.age ≤ n
 fO : Y.R.fO ≤ n
 fL : Y.R.fL ≤ 65538 + n
 br : (X.br = none ∧ Y.br = none) ∨ ∃ b c, X.br = some b ∧ Y.br = some c ∧ PtOk X.H Y.R b.ag b.n c.pb c.tn ∧ b.mr = c.mr ∧ MkOk b.mr
structure SdOk (w : World) (n : Nat) (x : Sd) : Prop where
 sp : Spc w x.s x.a x.l x.X
 rq : Rqs w x.q x.r x.Y
 lk : Lnk n x.X x.Y
 ap : ∀ g ∈ spF x.s x.a x.l x.X, g ∉ rqF x.q x.r x.Y
 lo : ∀ g ∈ x.f, 2 ≤ g
def sdF : Option Sd → List Nat
 | none => []
 | some x => x.f
def vO : Option Sd → Value
 | none => .pointer none
 | some x => .pointer (some ⟨x.s, 0, none⟩)
def vR : Option Sd → Value
 | none => .pointer none
 | some x => .pointer (some ⟨x.q, 0, none⟩)
def SpOk (w : World) (n : Nat) : Option Sd → Prop
 | none => True
 | some x => SdOk w n x
theorem Lnk.more (h : Lnk n X Y) (hn : n ≤ n') : Lnk n' X Y :=
 ⟨h.m, h.good, h.fN, h.rb, h.st, h.len, by have := h.age; omega, by have := h.fO; omega, by have := h.fL; omega, h.br⟩
theorem SdOk.lt {x : Sd} (h : SdOk w n x) : ∀ g ∈ x.f, g < w.heap.size := fun g hg => by
 rcases jAC.1 hg with hg | hg
 ·exact h.sp.lt g hg
 ·exact h.rq.lt g hg
theorem SdOk.keep {x : Sd} (h : SdOk w n x) (hf : Fr S w w') (hd : ∀ g ∈ x.f, g ∉ S) : SdOk w' n x :=
 ⟨h.sp.keep hf fun g hg => hd g (jAC.2 (.inl hg)), h.rq.keep hf fun g hg => hd g (jAC.2 (.inr hg)), h.lk, h.ap, h.lo⟩
theorem SpOk.lt {D : Option Sd} (h : SpOk w n D) : ∀ g ∈ sdF D, g < w.heap.size := by
 cases D with
 | none => intro g hg; cases hg
 | some d => exact SdOk.lt h
theorem SpOk.lo {D : Option Sd} (h : SpOk w n D) : ∀ g ∈ sdF D, 2 ≤ g := by
 cases D with
 | none => intro g hg; cases hg
 | some d => exact SdOk.lo h
theorem SpOk.keep {D : Option Sd} (h : SpOk w n D) (hf : Fr S w w') (hd : ∀ g ∈ sdF D, g ∉ S) : SpOk w' n D := by
 cases D with
 | none => trivial
 | some d => exact SdOk.keep h hf hd
theorem SpOk.fK {D : Option Sd} (h : SpOk w n D) (hf : Fr [] w w') : SpOk w' n D := h.keep hf (by simp)
theorem SpOk.more {D : Option Sd} (h : SpOk w n D) (hn : n ≤ n') : SpOk w n' D := by
 cases D with
 | none => trivial
 | some d => exact ⟨h.sp, h.rq, h.lk.more hn, h.ap, h.lo⟩
structure kBm (w w' : World) (n' : Nat) (D D' : Option Sd) : Prop where
 ok : SpOk w' n' D'
 fr : Fr (sdF D) w w'
 foot : ∀ g ∈ sdF D', g ∈ sdF D ∨ w.heap.size ≤ g
 pO : vO D' = vO D
 pR : vR D' = vR D
theorem kBm.fK {D : Option Sd} (h : SpOk w n D) (hn : n ≤ n') (hf : Fr [] w w') : kBm w w' n' D D :=
 ⟨(h.fK hf).more hn, hf.mono (by simp), fun g hg => .inl hg, rfl, rfl⟩
theorem kBm.trans {w'' : World} {D D' D'' : Option Sd} (h : kBm w w' n D D') (k : kBm w' w'' n' D' D'') : kBm w w'' n' D D'' :=
 ⟨k.ok, h.fr.trans k.fr h.foot, fun g hg => by
  rcases k.foot g hg with q | q
  ·exact h.foot g q
  ·right; have := h.fr.size; omega, k.pO.trans h.pO, k.pR.trans h.pR⟩
theorem Lnk.next {X' : SpS} {Y' : RqS} {kd : Nat} {b : Bool} {M' : MS} {r' : Int} {st' : List Int} (h : Lnk n X Y) (hi : Inv X.H X.M) (hd : Doc Y.M Y.R) (hi' : Inv X'.H X'.M) (hd' : Doc Y'.M Y'.R) (hM : X'.M = M') (hr : X'.fN = r') (hs : X'.st = st') (kM : Y'.M = M') (kr : Y'.fN = r') (ks : Y'.st = st') (hp : PBr kd b X X') (hq : RBr kd b Y Y') (hg : Good M') (hrb : r' = 0 ∨ (1 ≤ r' ∧ r' ≤ 65536)) (hl : st'.length ≤ 65536) : Lnk (n + 4) X' Y' := by
 have a1 := h.age;have a2 := h.fO;have a3 := h.fL
 have key : X'.H.age ≤ X.H.age + 2 ∧ Y'.R.fO ≤ Y.R.fO + 2 ∧ Y'.R.fL ≤ Y.R.fL + 3 ∧ ((X'.br = none ∧ Y'.br = none) ∨ ∃ b c, X'.br = some b ∧ Y'.br = some c ∧ PtOk X'.H Y'.R b.ag b.n c.pb c.tn ∧ b.mr = c.mr ∧ MkOk b.mr) := by
  match kd, hp, hq with
  | 0, hp, hq =>
   obtain ⟨p1, p2⟩ := hp;obtain ⟨q1, q2⟩ := hq;have b1 := p2.bound;have b2 := q2.bound;refine ⟨by omega, by omega, by omega, ?_⟩;rcases h.br with ⟨e1, e2⟩ | ⟨u, c, e1, e2, e3, e4, e5⟩
   ·exact .inl ⟨p1.trans e1, q1.trans e2⟩
   ·exact .inr ⟨u, c, p1.trans e1, q1.trans e2, e3.step hi (by rw [← h.m]; exact hd) p2 q2, e4, e5⟩
  | 1, hp, hq =>
   obtain ⟨-, p2, p3⟩ := hp;obtain ⟨-, q2, q3, q4⟩ := hq;exact ⟨p3, q3, q4, .inl ⟨p2, q2⟩⟩
  | 2, hp, hq =>
   obtain ⟨-, ⟨g, p2⟩, p3⟩ := hp;obtain ⟨-, q2, q3, q4⟩ := hq;refine ⟨p3, q3, q4, .inr ⟨_, _, p2, q2, PtOk.new hi' (by rw [hM, ← kM]; exact hd'), by rw [hM, kM], ?_⟩⟩;have m1 := hi'.safe.small.mark;have m2 := hi'.mark
   right
   show decide _ = true;exact decide_eq_true ⟨by show (0 : Int) ≤ ((X'.M.mark : Nat) : Int); omega, by show ((X'.M.mark : Nat) : Int) ≤ _; omega⟩
  | (k + 3), hp, hq =>
   obtain ⟨p2, p3⟩ := hp;obtain ⟨q2, q3, q4⟩ := hq;exact ⟨p3, q3, q4, .inl ⟨p2, q2⟩⟩
 obtain ⟨k1, k2, k3, k4⟩ := key;exact ⟨kM.trans hM.symm, by rw [hM]; exact hg, kr.trans hr.symm, by rw [hr]; exact hrb, ks.trans hs.symm, by rw [hs]; exact hl, by omega, by omega, by omega, k4⟩
structure Seq2 (w : World) (n' : Nat) (D : Option Sd) (fp fr : FuncId) (aP aR : Array Value) (eP eR : Value) (Q : Nat → World → Prop) : Prop where
 start : Q 0 w
 fK : ∀ {k w' w''}, Q k w' → Fr [] w' w'' → Q k w''
 prog : ∀ {w'}, Q 0 w' → Calls Tryz.prog fp aP w' fun e w'' => e = .returned eP ∧ Q 1 w''
 docu : ∀ {w'}, Q 1 w' → Calls Tryz.prog fr aR w' fun e w'' => e = .returned eR ∧ Q 2 w''
 frm : ∀ {k w'}, Q k w' → Fr (sdF D) w w'
 done : ∀ {w'}, Q 2 w' → ∃ D', kBm w w' n' D D'
def Q3 (x : Sd) (kd : Nat) (b : Bool) (M' : MS) (r' : Int) (st' : List Int) (w : World) (k : Nat) (w' : World) : Prop :=
 match k with
 | 0 => Fr [] w w'
 | 1 => ∃ V, Fr [] w V ∧ PO x.s x.a x.l x.X kd b M' r' st' V w'
 | _ => ∃ V V1 V2, Fr [] w V ∧ PO x.s x.a x.l x.X kd b M' r' st' V V1 ∧ Fr [] V1 V2 ∧ RO' x.q x.r x.Y kd b M' r' st' V2 w'
theorem Seq2.some {x : Sd} {fp fr : FuncId} {aP aR : Array Value} {eP eR : Value} (h : SdOk w n x) (hT : Tbs w) (kd : Nat) (b : Bool) (M' : MS) (r' : Int) (st' : List Int) (hg : Good M') (hrb : r' = 0 ∨ (1 ≤ r' ∧ r' ≤ 65536)) (hl : st'.length ≤ 65536) 
  (hp : ∀ w', Spc w' x.s x.a x.l x.X → Tbs w' → Fr [] w w' → Calls Tryz.prog fp aP w' fun e w'' => e = .returned eP ∧ PO x.s x.a x.l x.X kd b M' r' st' w' w'')
  (hr : ∀ w', Rqs w' x.q x.r x.Y → Fr (spF x.s x.a x.l x.X) w w' → Calls Tryz.prog fr aR w' fun e w'' => e = .returned eR ∧ RO' x.q x.r x.Y kd b M' r' st' w' w'') :
  Seq2 w (n + 4) (some x) fp fr aP aR eP eR (Q3 x kd b M' r' st' w) := by
 have inP : ∀ g ∈ spF x.s x.a x.l x.X, g ∈ x.f := fun g hg => jAC.2 (.inl hg)
 have inR : ∀ g ∈ rqF x.q x.r x.Y, g ∈ x.f := fun g hg => jAC.2 (.inr hg)
 refine ⟨Fr.refl _ _, ?_, ?_, ?_, ?_, ?_⟩
 ·intro k w' w'' hq hf
  match k, hq with
  | 0, hq => exact Fr.trans hq hf (by simp)
  | 1, hq =>
   obtain ⟨V, h1, l', X', h2, h3⟩ := hq;exact ⟨V, h1, l', X', ⟨h2.ok.fK hf, h2.fr.trans hf (by simp), h2.foot⟩, h3⟩
  | (k + 2), hq =>
   obtain ⟨V, V1, V2, h1, h2, h3, Y', h4, h5⟩ := hq;exact ⟨V, V1, V2, h1, h2, h3, Y', ⟨h4.ok.fK hf, h4.fr.trans hf (by simp), h4.foot⟩, h5⟩
 ·intro w' hq;have hq : Fr [] w w' := hq;exact (hp w' (h.sp.fK hq) (hT.keep hq (by simp)) hq).mono fun e w'' ⟨h1, h2⟩ => ⟨h1, w', hq, h2⟩
 ·rintro w' ⟨V, h1, l', X', h2, h3⟩;have hV := h.rq.fK h1;have hw : Rqs w' x.q x.r x.Y := hV.keep h2.fr fun g hg hm => h.ap g hm hg
  exact (hr w' hw ((h1.mono (by simp)).trans h2.fr fun g hg => .inl hg)).mono fun e w'' ⟨k1, k2⟩ => ⟨k1, V, w', w', h1, ⟨l', X', h2, h3⟩, Fr.refl _ _, k2⟩
 ·intro k w' hq
  match k, hq with
  | 0, hq => exact Fr.mono hq (by simp)
  | 1, hq =>
   obtain ⟨V, h1, l', X', h2, h3⟩ := hq;exact (h1.mono (by simp)).trans h2.fr fun g hg => .inl (inP g hg)
  | (k + 2), hq =>
   obtain ⟨V, V1, V2, h1, ⟨l', X', h2, h3⟩, h4, Y', h5, h6⟩ := hq;exact (((h1.mono (by simp)).trans h2.fr fun g hg => .inl (inP g hg)).trans h4 (by simp)).trans h5.fr fun g hg => .inl (inR g hg)
 ·rintro w' ⟨V, V1, V2, h1, ⟨l', X', h2, m1, m2, m3, m4⟩, h4, Y', h5, k1, k2, k3, k4⟩;have z1 := h1.size;have z2 := h2.fr.size;have z3 := h4.size;have F : Fr (sdF (Option.some x)) w w' := (((h1.mono (by simp)).trans h2.fr fun g hg => .inl (inP g hg)).trans h4 (by simp)).trans h5.fr fun g hg => .inl (inR g hg)
  have apX : ∀ g ∈ spF x.s x.a l' X', g ∉ rqF x.q x.r x.Y := fun g hg hm => by
   rcases h2.foot g hg with q | q
   ·exact h.ap g q hm
   ·have := (h.rq.fK h1).lt g hm; omega
  have sp' : Spc w' x.s x.a l' X' := (h2.ok.fK h4).keep h5.fr apX
  have ff : ∀ g ∈ spF x.s x.a l' X' ++ rqF x.q x.r Y', g ∈ x.f ∨ w.heap.size ≤ g := fun g hg => by
   rcases jAC.1 hg with hg | hg
   ·rcases h2.foot g hg with q | q
    ·exact .inl (inP g q)
    ·right; omega
   ·rcases h5.foot g hg with q | q
    ·exact .inl (inR g q)
    ·right; omega
  refine ⟨Option.some ⟨x.s, x.a, l', X', x.q, x.r, Y'⟩, ⟨sp', h5.ok, h.lk.next h.sp.inv h.rq.doc sp'.inv h5.ok.doc m1 m2 m3 k1 k2 k3 m4 k4 hg hrb hl, fun g hg hm => ?_, fun g hg => ?_⟩, F, ff, rfl, rfl⟩
  ·rcases h5.foot g hm with q | q
   ·exact apX g hg q
   ·have := (h2.ok.fK h4).lt g hg; omega
  ·rcases ff g hg with q | q
   ·exact h.lo g q
   ·have := hT.s; omega
def Q4 (x : Sd) (kd : Nat) (b : Bool) (M' : MS) (r' : Int) (st' : List Int) (w : World) (k : Nat) (w' : World) : Prop :=
 match k with
 | 0 => Fr [] w w'
 | 1 => ∃ V, Fr [] w V ∧ RO' x.q x.r x.Y kd b M' r' st' V w'
 | _ => ∃ V V1 V2, Fr [] w V ∧ RO' x.q x.r x.Y kd b M' r' st' V V1 ∧ Fr [] V1 V2 ∧ PO x.s x.a x.l x.X kd b M' r' st' V2 w'
theorem Seq2.rev {x : Sd} {fp fr : FuncId} {aP aR : Array Value} {eP eR : Value} (h : SdOk w n x) (hT : Tbs w) (kd : Nat) (b : Bool) (M' : MS) (r' : Int) (st' : List Int) (hg : Good M') (hrb : r' = 0 ∨ (1 ≤ r' ∧ r' ≤ 65536)) (hl : st'.length ≤ 65536) 
  (hp : ∀ w', Spc w' x.s x.a x.l x.X → Tbs w' → Fr (rqF x.q x.r x.Y) w w' → Calls Tryz.prog fp aP w' fun e w'' => e = .returned eP ∧ PO x.s x.a x.l x.X kd b M' r' st' w' w'')
  (hr : ∀ w', Rqs w' x.q x.r x.Y → Fr [] w w' → Calls Tryz.prog fr aR w' fun e w'' => e = .returned eR ∧ RO' x.q x.r x.Y kd b M' r' st' w' w'') :
  Seq2 w (n + 4) (Option.some x) fr fp aR aP eR eP (Q4 x kd b M' r' st' w) := by
 have inP : ∀ g ∈ spF x.s x.a x.l x.X, g ∈ x.f := fun g hg => jAC.2 (.inl hg)
 have inR : ∀ g ∈ rqF x.q x.r x.Y, g ∈ x.f := fun g hg => jAC.2 (.inr hg)
 refine ⟨Fr.refl _ _, ?_, ?_, ?_, ?_, ?_⟩
 ·intro k w' w'' hq hf
  match k, hq with
  | 0, hq => exact Fr.trans hq hf (by simp)
  | 1, hq =>
   obtain ⟨V, h1, Y', h4, h5⟩ := hq;exact ⟨V, h1, Y', ⟨h4.ok.fK hf, h4.fr.trans hf (by simp), h4.foot⟩, h5⟩
  | (k + 2), hq =>
   obtain ⟨V, V1, V2, h1, h2, h3, l', X', h4, h5⟩ := hq;exact ⟨V, V1, V2, h1, h2, h3, l', X', ⟨h4.ok.fK hf, h4.fr.trans hf (by simp), h4.foot⟩, h5⟩
 ·intro w' hq;have hq : Fr [] w w' := hq;exact (hr w' (h.rq.fK hq) hq).mono fun e w'' ⟨h1, h2⟩ => ⟨h1, w', hq, h2⟩
 ·rintro w' ⟨V, h1, Y', h2, h3⟩;have hV := h.sp.fK h1;have hw : Spc w' x.s x.a x.l x.X := hV.keep h2.fr fun g hg hm => h.ap g hg hm
  have F : Fr (rqF x.q x.r x.Y) w w' := (h1.mono (by simp)).trans h2.fr fun g hg => .inl hg
  exact (hp w' hw (hT.keep F fun g hg => h.lo g (inR g hg)) F).mono fun e w'' ⟨k1, k2⟩ => ⟨k1, V, w', w', h1, ⟨Y', h2, h3⟩, Fr.refl _ _, k2⟩
 ·intro k w' hq
  match k, hq with
  | 0, hq => exact Fr.mono hq (by simp)
  | 1, hq =>
   obtain ⟨V, h1, Y', h2, h3⟩ := hq;exact (h1.mono (by simp)).trans h2.fr fun g hg => .inl (inR g hg)
  | (k + 2), hq =>
   obtain ⟨V, V1, V2, h1, ⟨Y', h2, h3⟩, h4, l', X', h5, h6⟩ := hq;exact (((h1.mono (by simp)).trans h2.fr fun g hg => .inl (inR g hg)).trans h4 (by simp)).trans h5.fr fun g hg => .inl (inP g hg)
 ·rintro w' ⟨V, V1, V2, h1, ⟨Y', h2, k1, k2, k3, k4⟩, h4, l', X', h5, m1, m2, m3, m4⟩;have z1 := h1.size;have z2 := h2.fr.size;have z3 := h4.size;have F : Fr (sdF (Option.some x)) w w' := (((h1.mono (by simp)).trans h2.fr fun g hg => .inl (inR g hg)).trans h4 (by simp)).trans h5.fr fun g hg => .inl (inP g hg)
  have apX : ∀ g ∈ rqF x.q x.r Y', g ∉ spF x.s x.a x.l x.X := fun g hg hm => by
   rcases h2.foot g hg with q | q
   ·exact h.ap g hm q
   ·have := (h.sp.fK h1).lt g hm; omega
  have rq' : Rqs w' x.q x.r Y' := (h2.ok.fK h4).keep h5.fr apX
  have ff : ∀ g ∈ spF x.s x.a l' X' ++ rqF x.q x.r Y', g ∈ x.f ∨ w.heap.size ≤ g := fun g hg => by
   rcases jAC.1 hg with hg | hg
   ·rcases h5.foot g hg with q | q
    ·exact .inl (inP g q)
    ·right; omega
   ·rcases h2.foot g hg with q | q
    ·exact .inl (inR g q)
    ·right; omega
  refine ⟨Option.some ⟨x.s, x.a, l', X', x.q, x.r, Y'⟩, ⟨h5.ok, rq', h.lk.next h.sp.inv h.rq.doc h5.ok.inv rq'.doc m1 m2 m3 k1 k2 k3 m4 k4 hg hrb hl, fun g hg hm => ?_, fun g hg => ?_⟩, F, ff, rfl, rfl⟩
  ·rcases h5.foot g hg with q | q
   ·exact apX g hm q
   ·have := (h2.ok.fK h4).lt g hm; omega
  ·rcases ff g hg with q | q
   ·exact h.lo g q
   ·have := hT.s; omega
theorem Seq2.none {w : World} {n : Nat} {fp fr : FuncId} {aP aR : Array Value} {eP eR : Value} 
  (hp : ∀ w', Calls Tryz.prog fp aP w' fun e w'' => e = .returned eP ∧ w'' = w') (hr : ∀ w', Calls Tryz.prog fr aR w' fun e w'' => e = .returned eR ∧ w'' = w') :
  Seq2 w n none fp fr aP aR eP eR (fun _ w' => Fr [] w w') := by
 refine ⟨Fr.refl _ _, fun h hf => h.trans hf (by simp), ?_, ?_, fun h => h, fun h => ⟨Option.none, kBm.fK (n := n) (D := Option.none) trivial (jAD _) h⟩⟩
 ·intro w' h;exact (hp w').mono fun e w'' ⟨h1, h2⟩ => ⟨h1, by rw [h2]; exact h⟩
 ·intro w' h;exact (hr w').mono fun e w'' ⟨h1, h2⟩ => ⟨h1, by rw [h2]; exact h⟩
end Go.Proofs.YtflgicdbbogllaaGreatDoor
namespace Go.Proofs.YtflgicdbbogllaaGreatDoor
open Go.RowKit Tryz
open Value (int)
open IntKind (i64)
attribute [local go_sem ↓] wp_at_zero wp_at_succ
variable {M : MS}
theorem Lnk.brN {n : Nat} {X : SpS} {Y : RqS} (h : Lnk n X Y) : X.br = none ↔ Y.br = none := by
 rcases h.br with ⟨e1, e2⟩ | ⟨b, c, e1, e2, -⟩
 ·rw [e1, e2]; simp
 ·rw [e1, e2]; simp
theorem Good.col (h : Good M) (rt : List Int) : Good (colN M rt) := by
 unfold colN;have := h.next 11 0 0 0 (zs (livM M rt))
 simpa [kGS] using this
theorem Good.alc (h : Good M) (X A B : Int) : Good (kAe M X A B) := by have := h.next 1 A B X []; simpa [kGS] using this
theorem Good.put (h : Good M) (A B X : Int) : Good (putN M A B X) := by have := h.next 7 A B X []; simpa [kGS] using this
theorem Good.mark (h : Good M) (A : Int) : Good (kDO M A) := by have := h.next 2 A 0 0 []; simpa [kGS] using this
theorem Good.free (h : Good M) (A : Int) : Good (kEm M A) := by have := h.next 3 A 0 0 []; simpa [kGS] using this
theorem Good.exch (h : Good M) (A B : Int) : Good (kEo M A B) := by have := h.next 8 A B 0 []; simpa [kGS] using this
theorem kKS {H : HS} (hi : Inv H M) {q : Int} (h : mhas M q = true) : 1 ≤ q ∧ q ≤ 65536 := by
 obtain ⟨k, e, hk, -⟩ := kAx h;have h1 := hi.most;have h2 := hi.safe.small.fM;have h3 := hi.fM;omega
theorem kMK (M : MS) (A B X : Int) : 0 ≤ putA M A B X ∧ putA M A B X ≤ 1000 := by
 unfold putA
 (repeat' split); all_goals omega
theorem kKb {st ss : List Int} (h : st.length ≤ 65536) : (kpS st ss).length ≤ 65536 := by
 unfold kpS kpE
 by_cases h1 : badW ss = true
 ·rw [jp h1, jn (by decide)]; exact h
 ·rw [jn h1]
  by_cases h2 : 65536 < st.length + ss.length
  ·rw [jp h2, jn (by decide)]; exact h
  ·rw [jn h2, jp rfl, jAG]; omega
theorem kHD (M : MS) (X A B : Int) : 0 ≤ (kAO M X A B).2 ∧ (kAO M X A B).2 ≤ 1000 := by
 unfold kAO
 repeat' split
 all_goals simp
section
variable (w : World) (n : Nat) (D : Option Sd)
theorem kIZ (X A B : Int) (h : SpOk w n D) (hT : Tbs w) (hn : n ≤ 50000000) : ∃ x y Q, (0 ≤ y ∧ y ≤ 1000) ∧ Seq2 w (n + 4) D 13 14 #[vO D, int i64 X, int i64 A, int i64 B] #[vR D, int i64 X, int i64 A, int i64 B] (.tuple #[int i64 x, int i64 y]) (.tuple #[int i64 x, int i64 y]) Q := by
 cases D with
 | none => exact ⟨_, _, _, ⟨by omega, by omega⟩, Seq2.none (fun w' => kIG _ X A B w' (kBf w')) (fun w' => kPz X A B w')⟩
 | some d =>
  have h : SdOk w n d := h;have hl := h.lk;have a1 := hl.age;have a2 := hl.fO;have a3 := hl.fL;have hlo : ∀ g ∈ spF d.s d.a d.l d.X, 2 ≤ g := fun g hg => h.lo g (jAC.2 (.inl hg))
  have ha : 2 ≤ d.a := hlo d.a (kAT.2 (.inr (.inr (.inr (by simp [foot])))))
  by_cases hc : (kAO d.X.M X A B).2 = 23 ∧ d.X.br = none
  ·obtain ⟨c1, c2⟩ := hc;refine ⟨_, _, _, kHD (colN d.X.M (rtsP d.X.fN d.X.st)) X A B, Seq2.some h hT 1 false (kAe (colN d.X.M (rtsP d.X.fN d.X.st)) X A B) d.X.fN d.X.st ((hl.good.col _).alc X A B) hl.rb hl.len (fun w' hs ht _ => kHv hs X A B hl.len hl.rb (by omega) ht hlo c1 c2) (fun w' hs _ => ?_)⟩;have := kHo (H := d.X.H) hs (by rw [hl.m]; exact h.sp.inv) X A B (by omega) (by omega) (by omega) (by rw [hl.st]; exact hl.len) (by rw [hl.fN]; exact hl.rb) (by rw [hl.m]; exact c1) (hl.brN.1 c2);rw [hl.m, hl.fN, hl.st, ← (kEW _ _ _).1] at this;exact this
  ·have c1 : (kAO d.X.M X A B).2 ≠ 23 ∨ d.X.br ≠ none := by
    by_cases e : (kAO d.X.M X A B).2 = 23
    ·exact .inr fun e2 => hc ⟨e, e2⟩
    ·exact .inl e
   refine ⟨_, _, _, kHD d.X.M X A B, Seq2.some h hT 0 false (kAe d.X.M X A B) d.X.fN d.X.st (hl.good.alc X A B) hl.rb hl.len (fun w' hs ht _ => kHg hs X A B ht.t (by have := ht.s; omega) (fun V hV => (ht.keep hV (by simp)).u) ha c1) (fun w' hs _ => ?_)⟩
   have := kHl (H := d.X.H) hs (by rw [hl.m]; exact h.sp.inv) X A B (by omega) (by
    rcases c1 with e | e
    ·exact .inl (by rw [hl.m]; exact e)
    ·exact .inr fun e2 => e (hl.brN.2 e2))
   rw [hl.m, hl.fN, hl.st] at this;exact this
theorem kFQ (A X : Int) (h : SpOk w n D) (hT : Tbs w) : ∃ x Q, (0 ≤ x ∧ x ≤ 1000) ∧ Seq2 w (n + 4) D 15 16 #[vO D, int i64 A, int i64 X] #[vR D, int i64 A, int i64 X] (int i64 x) (int i64 x) Q := by
 cases D with
 | none => exact ⟨_, _, ⟨by omega, by omega⟩, Seq2.none (fun w' => kGz _ A X w' (kBf w')) (fun w' => kKQ A X w')⟩
 | some d =>
  have h : SdOk w n d := h;have hl := h.lk;refine ⟨_, _, kMK d.X.M d.X.fN A X, Seq2.some h hT 0 false (putN d.X.M d.X.fN A X) d.X.fN d.X.st (hl.good.put _ _ _) hl.rb hl.len (fun w' hs ht _ => kID hs A X ht.t (by have := ht.s; omega)) (fun w' hs _ => ?_)⟩;have := kHb (H := d.X.H) hs (by rw [hl.m]; exact h.sp.inv) A X;rw [hl.m, hl.fN, hl.st] at this;exact this
theorem kMY (A : Int) (h : SpOk w n D) (hT : Tbs w) : ∃ x Q, (0 ≤ x ∧ x ≤ 1000) ∧ Seq2 w (n + 4) D 17 18 #[vO D, int i64 A] #[vR D, int i64 A] (int i64 x) (int i64 x) Q := by
 cases D with
 | none => exact ⟨_, _, ⟨by omega, by omega⟩, Seq2.none (fun w' => kLu _ A w' (kBf w')) (fun w' => kPr A w')⟩
 | some d =>
  have h : SdOk w n d := h;have hl := h.lk
  refine ⟨_, _, by split <;> omega, Seq2.some h hT 0 false d.X.M (if mhas d.X.M A = true then A else d.X.fN) d.X.st hl.good (by
   split
   ·rename_i e; exact .inr (kKS h.sp.inv e)
   ·exact hl.rb) hl.len (fun w' hs ht _ => kKK hs A) (fun w' hs _ => ?_)⟩
  have := kKX (H := d.X.H) hs (by rw [hl.m]; exact h.sp.inv) A;rw [hl.m, hl.fN, hl.st] at this;exact this
theorem kPk (A : Int) (h : SpOk w n D) (hT : Tbs w) : ∃ x y Q, (0 ≤ y ∧ y ≤ 1000) ∧ Seq2 w (n + 4) D 19 20 #[vO D, int i64 A] #[vR D, int i64 A] (.tuple #[int i64 x, int i64 y]) (.tuple #[int i64 x, int i64 y]) Q := by
 cases D with
 | none => exact ⟨_, _, _, ⟨by omega, by omega⟩, Seq2.none (fun w' => kOW _ A w' (kBf w')) (fun w' => ndRoot A w')⟩
 | some d =>
  have h : SdOk w n d := h;have hl := h.lk;refine ⟨_, _, _, by unfold atA; repeat' split <;> simp, Seq2.some h hT 0 false d.X.M d.X.fN d.X.st hl.good hl.rb hl.len (fun w' hs ht _ => (kMZ hs A).mono fun e w'' ⟨h1, h2⟩ => ⟨h1, PO.fK hs h2⟩) (fun w' hs _ => ?_)⟩;have := (kNc (H := d.X.H) hs (by rw [hl.m]; exact h.sp.inv) A).mono fun e w'' ⟨h1, h2⟩ => (And.intro h1 (RO'.fK hs h2))
  rw [hl.m, hl.fN, hl.st] at this;exact this
theorem kPM (A : Int) (h : SpOk w n D) (hT : Tbs w) : ∃ x Q, (0 ≤ x ∧ x ≤ 1000) ∧ Seq2 w (n + 4) D 22 23 #[vO D, int i64 A] #[vR D, int i64 A] (int i64 x) (int i64 x) Q := by
 cases D with
 | none => exact ⟨_, _, ⟨by omega, by omega⟩, Seq2.none (fun w' => kOK _ A w' (kBf w')) (fun w' => ndDrop A w')⟩
 | some d =>
  have h : SdOk w n d := h;have hl := h.lk
  refine ⟨_, _, by unfold dpE; split <;> omega, Seq2.some h hT 0 false d.X.M d.X.fN (dpS d.X.st A) hl.good hl.rb (by
   have := hl.len;unfold dpS
   split
   ·rw [jAk]; omega
   ·exact this) (fun w' hs ht _ => kLK hs A hl.len) (fun w' hs _ => ?_)⟩
  have := kKc hs A (by rw [hl.st]; exact hl.len);rw [hl.m, hl.fN, hl.st] at this;exact this
theorem kJG (h : SpOk w n D) (hT : Tbs w) (hn : n ≤ 50000000) : ∃ x y z Q, (0 ≤ z ∧ z ≤ 1000) ∧ Seq2 w (n + 4) D 24 25 #[vO D] #[vR D] (.tuple #[int i64 x, int i64 y, int i64 z]) (.tuple #[int i64 x, int i64 y, int i64 z]) Q := by
 cases D with
 | none => exact ⟨_, _, _, _, ⟨by omega, by omega⟩, Seq2.none (fun w' => kEg _ w' (kBf w')) (fun w' => kLY w')⟩
 | some d =>
  have h : SdOk w n d := h;have hl := h.lk;have a1 := hl.age;have a2 := hl.fO
  by_cases hb : d.X.br = none
  ·refine ⟨_, _, _, _, ⟨by omega, by omega⟩, Seq2.some h hT 0 true (colN d.X.M (rtsP d.X.fN d.X.st)) d.X.fN d.X.st (hl.good.col _) hl.rb hl.len (fun w' hs ht _ => kDR hs hb (by have := hl.len; omega) hl.rb (by omega) ht.t (by have := ht.s; omega)) (fun w' hs _ => ?_)⟩;have := kIA (H := d.X.H) hs (by rw [hl.m]; exact h.sp.inv) (hl.brN.1 hb) (by rw [hl.st]; exact hl.len) (by rw [hl.fN]; exact hl.rb) (by omega);rw [hl.m, hl.fN, hl.st, ← (kEW _ _ _).1, ← (kEW _ _ _).2] at this;exact this
  ·refine ⟨_, _, _, _, ⟨by omega, by omega⟩, Seq2.some h hT 0 false d.X.M d.X.fN d.X.st hl.good hl.rb hl.len (fun w' hs ht _ => (kEp hs hb).mono fun e w'' ⟨h1, h2⟩ => ⟨h1, PO.fK hs h2⟩) (fun w' hs _ => ?_)⟩;have := (kHU hs (fun e => hb (hl.brN.2 e))).mono fun e w'' ⟨h1, h2⟩ => (And.intro h1 (RO'.fK hs h2))
   rw [hl.m, hl.fN, hl.st] at this;exact this
theorem kND (h : SpOk w n D) (hT : Tbs w) (hn : n ≤ 50000000) : ∃ x Q, (0 ≤ x ∧ x ≤ 1000) ∧ Seq2 w (n + 4) D 26 27 #[vO D] #[vR D] (int i64 x) (int i64 x) Q := by
 cases D with
 | none => exact ⟨_, _, ⟨by omega, by omega⟩, Seq2.none (fun w' => kMH _ w' (kBf w')) (fun w' => kPv w')⟩
 | some d =>
  have h : SdOk w n d := h;have hl := h.lk;have a1 := hl.age;have a2 := hl.fO
  by_cases hb : d.X.br = none
  ·refine ⟨_, _, ⟨by omega, by omega⟩, Seq2.some h hT 2 false (colN d.X.M (rtsP d.X.fN d.X.st)) d.X.fN d.X.st (hl.good.col _) hl.rb hl.len (fun w' hs ht _ => kLL hs hb hl.len hl.rb (by omega) ht.t (by have := ht.s; omega)) (fun w' hs _ => ?_)⟩;have := kKU (H := d.X.H) hs (by rw [hl.m]; exact h.sp.inv) (hl.brN.1 hb) (by rw [hl.st]; exact hl.len) (by rw [hl.fN]; exact hl.rb) (by omega);rw [hl.m, hl.fN, hl.st, ← (kEW _ _ _).1] at this;exact this
  ·refine ⟨_, _, ⟨by omega, by omega⟩, Seq2.some h hT 0 false d.X.M d.X.fN d.X.st hl.good hl.rb hl.len (fun w' hs ht _ => (kLT hs hb).mono fun e w'' ⟨h1, h2⟩ => ⟨h1, PO.fK hs h2⟩) (fun w' hs _ => ?_)⟩;have := (kLf hs (fun e => hb (hl.brN.2 e))).mono fun e w'' ⟨h1, h2⟩ => (And.intro h1 (RO'.fK hs h2))
   rw [hl.m, hl.fN, hl.st] at this;exact this
theorem kKw (h : SpOk w n D) (hT : Tbs w) : ∃ x Q, (0 ≤ x ∧ x ≤ 1000) ∧ Seq2 w (n + 4) D 30 31 #[vO D] #[vR D] (int i64 x) (int i64 x) Q := by
 cases D with
 | none => exact ⟨_, _, ⟨by omega, by omega⟩, Seq2.none (fun w' => kIc _ w' (kBf w')) (fun w' => kNV w')⟩
 | some d =>
  have h : SdOk w n d := h;have hl := h.lk;refine ⟨_, _, by split <;> omega, Seq2.some h hT 3 false d.X.M d.X.fN d.X.st hl.good hl.rb hl.len (fun w' hs ht _ => kHV hs) (fun w' hs _ => ?_)⟩;have := kJP hs;rw [hl.m, hl.fN, hl.st] at this
  have e : (if d.Y.br = none then (25 : Int) else 0) = (if d.X.br = none then 25 else 0) := by
   by_cases e : d.X.br = none
   ·rw [jp e, jp (hl.brN.1 e)]
   ·rw [jn e, jn (fun e2 => e (hl.brN.2 e2))]
  rw [e] at this;exact this
theorem kOD (h : Good M) (k : Nat) : Good (abN M k) := by
 unfold abN
 split
 ·exact h
 ·exact h
theorem kMV (h : SpOk w n D) (hT : Tbs w) (hn : n ≤ 50000000) : ∃ x Q, (0 ≤ x ∧ x ≤ 1000) ∧ Seq2 w (n + 4) D 28 29 #[vO D] #[vR D] (int i64 x) (int i64 x) Q := by
 cases D with
 | none => exact ⟨_, _, ⟨by omega, by omega⟩, Seq2.none (fun w' => kLm _ w' (kBf w')) (fun w' => kPF w')⟩
 | some d =>
  have h : SdOk w n d := h;have hl := h.lk;have a1 := hl.age;have a2 := hl.fO;have a3 := hl.fL;rcases hl.br with ⟨e1, e2⟩ | ⟨b, c, e1, e2, hk, e4, e5⟩
  ·refine ⟨_, _, ⟨by omega, by omega⟩, Seq2.some h hT 0 false d.X.M d.X.fN d.X.st hl.good hl.rb hl.len (fun w' hs ht _ => (kLc hs e1).mono fun e w'' ⟨h1, h2⟩ => ⟨h1, PO.fK hs h2⟩) (fun w' hs _ => ?_)⟩;have := (kKl hs e2).mono fun e w'' ⟨h1, h2⟩ => (And.intro h1 (RO'.fK hs h2))
   rw [hl.m, hl.fN, hl.st] at this;exact this
  ·by_cases ha : b.ag = d.X.H.age
   ·obtain ⟨c1, c2, c3⟩ := hk.cut ha;have ht : c.tn = d.Y.R.fO := hk.alike.1 ha;have hb := hk.fL;obtain ⟨Z, x1, x2, x3⟩ := pBackX b.n d.a d.l d.X.H d.X.M h.sp.inv c1 c2 (by omega);have hg := kOD (kMC hl.good x1 x2) b.mr;refine ⟨0, _, ⟨by omega, by omega⟩, Seq2.some h hT 3 false (abN { d.X.M with fA := Z } b.mr) d.X.fN d.X.st hg hl.rb hl.len (fun w' hs ht _ => ?_) (fun w' hs _ => ?_)⟩
    ·have := kGp hs b e1 0 true { d.X.M with fA := Z } (.inl ⟨rfl, rfl, rfl⟩) e5 (fun V hV => by rw [ha]; exact x3 V hV);rw [jp rfl] at this;exact this
    ·have hd0 : Doc d.X.M d.Y.R := by rw [← hl.m]; exact hs.doc
     have := kGV hs c e2 0 true { d.X.M with fA := Z } (.inl rfl) (by rw [← e4]; exact e5) (fun V hV => by
      rw [ht];exact rBackM b.n c.pb Z d.r d.Y.R d.X.M V hV h.sp.inv hd0 (hd0.bd h.sp.inv) (by omega) c3 (by omega) (by omega) x1 x2)
     rw [jp rfl, ← e4, hl.fN, hl.st] at this;exact this
   ·have ht : c.tn ≠ d.Y.R.fO := fun e => ha (hk.alike.2 e)
    refine ⟨25, _, ⟨by omega, by omega⟩, Seq2.some h hT 3 false d.X.M d.X.fN d.X.st hl.good hl.rb hl.len (fun w' hs ht' _ => ?_) (fun w' hs _ => ?_)⟩
    ·have := kGp hs b e1 25 false d.X.M (.inr ⟨rfl, rfl⟩) e5 (fun V hV => (kPO (b.ag : Int) (b.n : Int) d.a d.l d.X.H V hV (by simp; omega)).mono fun e w'' ⟨h1, h2⟩ => ⟨h1, PN.same hV h.sp.inv h2⟩);rw [jn (by decide)] at this;exact this
    ·have := kGV hs c e2 25 false d.X.M (.inr rfl) (by rw [← e4]; exact e5) (fun V hV => (kNU (c.pb : Int) (c.tn : Int) 0 d.r d.Y.R V hV (by simp; omega)).mono fun e w'' ⟨h1, h2⟩ => ⟨h1, RN.same hV (by rw [← hl.m]; exact hs.doc) h2⟩);rw [jn (by decide), hl.fN, hl.st] at this;exact this
theorem kPo (ss : List Int) (pa : Option Addr) (ca : Nat) (pb : Option Addr) (cb : Nat) (h : SpOk w n D) (hT : Tbs w) 
  (ra : ∀ w', Fr [] w w' → Rd w' (.slice pa ss.length ca) ss) (rb : ∀ w', Fr (sdF D) w w' → Rd w' (.slice pb ss.length cb) ss) : ∃ x Q, (0 ≤ x ∧ x ≤ 1000) ∧ Seq2 w (n + 4) D 57 58 #[vO D, .slice pa ss.length ca] #[vR D, .slice pb ss.length cb] (int i64 x) (int i64 x) Q := by
 cases D with
 | none => exact ⟨_, _, ⟨by omega, by omega⟩, Seq2.none (fun w' => kKf _ pa ss.length ca w' (kBf w')) (fun w' => kOH pb ss.length cb w')⟩
 | some d =>
  have h : SdOk w n d := h;have hl := h.lk;refine ⟨_, _, by unfold kpE; repeat' split <;> omega, Seq2.some h hT 0 false d.X.M d.X.fN (kpS d.X.st ss) hl.good hl.rb (kKb hl.len) (fun w' hs ht hf => kGn hs ss _ (ra w' hf) ht.t (by have := ht.s; omega) hl.len) (fun w' hs hf => ?_)⟩;have := kGa hs ss (.slice pb ss.length cb) (rb w' (hf.mono fun g hg => .inl (jAC.2 (.inl hg)))) (by rw [hl.st]; exact hl.len);rw [hl.m, hl.fN, hl.st] at this;exact this
theorem kNf (ss : List Int) (pa : Option Addr) (ca : Nat) (pb : Option Addr) (cb : Nat) (h : SpOk w n D) (hT : Tbs w) 
  (ra : ∀ w', Fr (sdF D) w w' → Rd w' (.slice pa ss.length ca) ss) (rb : ∀ w', Fr [] w w' → Rd w' (.slice pb ss.length cb) ss) : ∃ x Q, (0 ≤ x ∧ x ≤ 1000) ∧ Seq2 w (n + 4) D 58 57 #[vR D, .slice pb ss.length cb] #[vO D, .slice pa ss.length ca] (int i64 x) (int i64 x) Q := by
 cases D with
 | none => exact ⟨_, _, ⟨by omega, by omega⟩, Seq2.none (fun w' => kOH pb ss.length cb w') (fun w' => kKf _ pa ss.length ca w' (kBf w'))⟩
 | some d =>
  have h : SdOk w n d := h;have hl := h.lk;refine ⟨_, _, by unfold kpE; repeat' split <;> omega, Seq2.rev h hT 0 false d.X.M d.X.fN (kpS d.X.st ss) hl.good hl.rb (kKb hl.len) (fun w' hs ht hf => kGn hs ss _ (ra w' (hf.mono fun g hg => .inl (jAC.2 (.inr hg)))) ht.t (by have := ht.s; omega) hl.len) (fun w' hs hf => ?_)⟩;have := kGa hs ss (.slice pb ss.length cb) (rb w' hf) (by rw [hl.st]; exact hl.len);rw [hl.m, hl.fN, hl.st] at this;exact this
end
theorem Q3.cell {w V : World} {n : Nat} {x : Sd} {kd : Nat} {b : Bool} {M' : MS} {r' : Int} {st' : List Int} {k : Nat} (h : SdOk w n x) (hq : Q3 x kd b M' r' st' w k V) : V.cell? ⟨x.q, 0, none⟩ = some (.pointer (some ⟨x.r, 0, none⟩)) := by
 match k, hq with
 | 0, hq => exact (h.rq.fK hq).cells.1
 | 1, hq =>
  obtain ⟨V1, h1, l', X', h2, -⟩ := hq;exact ((h.rq.fK h1).keep h2.fr fun g hg hm => h.ap g hm hg).cells.1
 | (k + 2), hq =>
  obtain ⟨V1, V2, V3, h1, h2, h3, Y', h4, h5⟩ := hq;exact h4.ok.cells.1
section
variable (w : World) (n : Nat) (d : Sd)
theorem kMS (A : Int) (h : SdOk w n d) (hT : Tbs w) : ∃ x Q, (0 ≤ x ∧ x ≤ 1000) ∧ Seq2 w (n + 4) (some d) 67 69 #[.pointer (some ⟨d.a, 0, none⟩), int i64 A] #[.pointer (some ⟨d.r, 0, none⟩), int i64 A] (int i64 x) (int i64 x) Q ∧ (∀ k V, Q k V → V.cell? ⟨d.q, 0, none⟩ = some (.pointer (some ⟨d.r, 0, none⟩))) ∧ ∀ V, Q 0 V → Fr [] w V := by
 have hl := h.lk;refine ⟨_, _, by repeat' split <;> omega, Seq2.some h hT 0 false (kDO d.X.M A) d.X.fN d.X.st (hl.good.mark A) hl.rb hl.len (fun w' hs ht _ => (pMark A d.a d.l d.X.H d.X.M w' hs.rep hs.inv).mono fun e w'' ⟨h1, h2⟩ => ⟨h1, PO.of hs h2 (kIU _ _)⟩) (fun w' hs _ => ?_), fun k V hq => Q3.cell h hq, fun V hq => hq⟩;have := (kLp A d.r d.Y.R d.Y.M w' hs.rep hs.doc).mono fun e w'' ⟨h1, h2⟩ => (And.intro h1 (RO'.of hs h2))
 rw [hl.m, hl.fN, hl.st] at this;exact this
theorem kPZ (A B X : Int) (h : SdOk w n d) (hT : Tbs w) : ∃ x Q, (0 ≤ x ∧ x ≤ 1000) ∧ Seq2 w (n + 4) (some d) 51 52 #[.pointer (some ⟨d.a, 0, none⟩), int i64 A, int i64 B, int i64 X] #[.pointer (some ⟨d.r, 0, none⟩), int i64 A, int i64 B, int i64 X] (int i64 x) (int i64 x) Q ∧ (∀ k V, Q k V → V.cell? ⟨d.q, 0, none⟩ = some (.pointer (some ⟨d.r, 0, none⟩))) ∧ ∀ V, Q 0 V → Fr [] w V := by
 have hl := h.lk;refine ⟨_, _, kMK d.X.M A B X, Seq2.some h hT 0 false (putN d.X.M A B X) d.X.fN d.X.st (hl.good.put A B X) hl.rb hl.len (fun w' hs ht _ => (pPut A B X d.a d.l d.X.H d.X.M w' hs.rep hs.inv ht.t).mono fun e w'' ⟨h1, h2⟩ => ⟨h1, PO.of hs h2 (kKO _ _ _ _)⟩) (fun w' hs _ => ?_), fun k V hq => Q3.cell h hq, fun V hq => hq⟩;have := (rPutM A B X d.r d.Y.R d.Y.M w' hs.rep hs.doc (hs.doc.bd (H := d.X.H) (by rw [hl.m]; exact h.sp.inv))).mono fun e w'' ⟨h1, h2⟩ => (And.intro h1 (RO'.of hs h2))
 rw [hl.m, hl.fN, hl.st] at this;exact this
theorem kNT (A : Int) (h : SdOk w n d) (hT : Tbs w) (hn : n ≤ 50000000) : ∃ x Q, (0 ≤ x ∧ x ≤ 1000) ∧ Seq2 w (n + 4) (some d) 70 71 #[.pointer (some ⟨d.a, 0, none⟩), int i64 A] #[.pointer (some ⟨d.r, 0, none⟩), int i64 A] (int i64 x) (int i64 x) Q ∧ (∀ k V, Q k V → V.cell? ⟨d.q, 0, none⟩ = some (.pointer (some ⟨d.r, 0, none⟩))) ∧ ∀ V, Q 0 V → Fr [] w V := by
 have hl := h.lk;have a1 := hl.age;have a2 := hl.fO;refine ⟨_, _, by repeat' split <;> omega, Seq2.some h hT 0 (mhas d.X.M A) (kEm d.X.M A) d.X.fN d.X.st (hl.good.free A) hl.rb hl.len (fun w' hs ht _ => (pFree A d.a d.l d.X.H d.X.M w' hs.rep hs.inv (by omega)).mono fun e w'' ⟨h1, h2⟩ => ⟨h1, PO.of hs h2 (kNn _ _)⟩) (fun w' hs _ => ?_), fun k V hq => Q3.cell h hq, fun V hq => hq⟩;have := (rFreeM A d.r d.Y.R d.Y.M w' hs.rep hs.doc (hs.doc.bd (H := d.X.H) (by rw [hl.m]; exact h.sp.inv)) (by omega)).mono fun e w'' ⟨h1, h2⟩ => (And.intro h1 (RO'.of hs h2))
 rw [hl.m, hl.fN, hl.st] at this;exact this
theorem kNS (A B : Int) (h : SdOk w n d) (hT : Tbs w) (hn : n ≤ 50000000) : ∃ x Q, (0 ≤ x ∧ x ≤ 1000) ∧ Seq2 w (n + 4) (some d) 72 73 #[.pointer (some ⟨d.a, 0, none⟩), int i64 A, int i64 B] #[.pointer (some ⟨d.r, 0, none⟩), int i64 A, int i64 B] (int i64 x) (int i64 x) Q ∧ (∀ k V, Q k V → V.cell? ⟨d.q, 0, none⟩ = some (.pointer (some ⟨d.r, 0, none⟩))) ∧ ∀ V, Q 0 V → Fr [] w V := by
 have hl := h.lk;have a1 := hl.age;have a2 := hl.fO;refine ⟨_, _, by repeat' split <;> omega, Seq2.some h hT 0 (mhas d.X.M A && mhas d.X.M B) (kEo d.X.M A B) d.X.fN d.X.st (hl.good.exch A B) hl.rb hl.len (fun w' hs ht _ => (pExch A B d.a d.l d.X.H d.X.M w' hs.rep hs.inv (by omega)).mono fun e w'' ⟨h1, h2⟩ => ⟨h1, PO.of hs h2 (kMh _ _ _)⟩) (fun w' hs _ => ?_), fun k V hq => Q3.cell h hq, fun V hq => hq⟩;have := (rExchM A B d.r d.Y.R d.Y.M w' hs.rep hs.doc (hs.doc.bd (H := d.X.H) (by rw [hl.m]; exact h.sp.inv)) (by omega)).mono fun e w'' ⟨h1, h2⟩ => (And.intro h1 (RO'.of hs h2))
 rw [hl.m, hl.fN, hl.st] at this;exact this
end
end Go.Proofs.YtflgicdbbogllaaGreatDoor
namespace Go.Proofs.YtflgicdbbogllaaGreatDoor
open Go.RowKit Go.Maps Tryz
open Value (int)
open IntKind (i64)
attribute [local go_sem ↓] wp_at_zero wp_at_succ
theorem kLD {w : World} {a : Nat} {l : Lay} {H : HS} {M : MS} (hR : Rep w a l H) (hk : Inv H M) :
  Calls prog 11 #[.pointer (some ⟨a, 0, none⟩), int i64 M.fH, int i64 M.fM] w fun e w' => e = .returned (.pointer (some ⟨w.heap.size, 0, none⟩)) ∧ Spc w' w.heap.size a l ⟨H, M, 0, [], .slice none 0 0, none⟩ ∧ Fr [] w w' := by
 have HZ : Hid (∀ V, V = w.alloc (.cells #[.pointer (some ⟨w.heap.size, 0, none⟩), .pointer (some ⟨a, 0, none⟩), int i64 M.fH, int i64 M.fM, int i64 0, .slice none 0 0, .pointer none] 96) → Spc V w.heap.size a l ⟨H, M, 0, [], .slice none 0 0, none⟩ ∧ Fr [] w V) := fun V hV => by
  subst hV;have F3 : Fr [] w (w.alloc (.cells #[.pointer (some ⟨w.heap.size, 0, none⟩), .pointer (some ⟨a, 0, none⟩), int i64 M.fH, int i64 M.fM, int i64 0, .slice none 0 0, .pointer none] 96)) := Fr.alloc [] _ _;refine ⟨⟨heap_alloc_new _ _, hR.keep F3 (by simp), hk, jAS _ _ _ _, fun hm => ?_, fun g hg => by simp [Value.ownBlock] at hg, fun b hb => by cases hb⟩, F3⟩;have := hR.lt _ hm;omega
 clear hR hk;go_enter func11, ntmps11
 go_wp2_with fail
 go_ret
 exact ⟨rfl, HZ.out _ rfl⟩
def SLd (A : Int) (hA : Bool) (P : MS → Prop) (w : World) (e : Ending) (w' : World) : Prop := Fr [] w w' ∧
 (((A = 0 ∨ hA = true) ∧ ∃ s a l G M', e = .returned (.tuple #[.pointer (some ⟨s, 0, none⟩), int i64 0]) ∧ P M' ∧ Spc w' s a l ⟨G, M', A, [], .slice none 0 0, none⟩ ∧ G.age = 0 ∧ ∀ g ∈ spF s a l ⟨G, M', A, [], .slice none 0 0, none⟩, w.heap.size ≤ g) ∨
 (¬ (A = 0 ∨ hA = true) ∧ e = .returned (.tuple #[.pointer none, int i64 20])))
theorem kQL (fH fM mark : Nat) (p : Option Addr) (k c : Nat) (A : Int) (hA : Bool) (P : MS → Prop) (w : World) (hP : ∀ M', P M' → M'.fH = fH ∧ M'.fM = fM ∧ mhas M' A = hA)
  (hL : ∀ V, Fr [] w V → Calls prog 117 #[.agg #[int i64 fH, int i64 fM, int i64 mark, .slice p k c]] V fun e w' => ∃ a l G M', e = .returned (.tuple #[.pointer (some ⟨a, 0, none⟩), int i64 0]) ∧ Rep w' a l G ∧ Inv G M' ∧ P M' ∧ Fr [] V w' ∧ (∀ b ∈ foot a l, V.heap.size ≤ b) ∧ G.age = 0) :
  Calls prog 76 #[.agg #[int i64 fH, int i64 fM, int i64 mark, .slice p k c], int i64 A] w (SLd A hA P w) := by
 obtain ⟨V, hV⟩ := jxe ((w.alloc (.cells #[int i64 fH, int i64 fM, int i64 mark, .slice p k c] 82)));have hfV : Fr [] w V := by rw [← hV]; exact (Fr.alloc [] _ _)
 have hbV : V.heap[w.heap.size]? = some (.cells #[int i64 fH, int i64 fM, int i64 mark, .slice p k c] 82 (0, 0)) := by
  rw [← hV]; exact heap_alloc_new _ _
 have hVs := hfV.size;have HL := kAA (hL V hfV);obtain ⟨bo, hbo⟩ := jxe (w.heap.size);rw [hbo] at hbV hVs;obtain ⟨Qp, hQp⟩ := jex (SLd A hA P w);rw [← hQp];have HQ := kAA hQp;have HVe := kAA hV;have HBe := kAA hbo;have HBV := kAA hbV;have HFV := kAA hfV;have HP := kAA hP;clear hL hP hV hbV hfV hbo hQp;go_enter func76, ntmps76
 go_wp2_with fail
 rw [HVe.out, HBe.out]
 obtain ⟨v0, v1, v2, v3⟩ : V.cell? ⟨bo, 0, none⟩ = some (int i64 fH) ∧ V.cell? ⟨bo, 1, none⟩ = some (int i64 fM) ∧ V.cell? ⟨bo, 2, none⟩ = some (int i64 mark) ∧ V.cell? ⟨bo, 3, none⟩ = some (.slice p k c) := by
  refine ⟨?_, ?_, ?_, ?_⟩ <;> (rw [kAC HBV.out]; rfl)
 clear HVe
 go_wp2_with fail
 refine HL.out.mono ?_;rintro e w2 ⟨a, l, G, M', rfl, hrep, hinv, hp, hf2, hnew, hag⟩;have hb2 := (hf2.block bo (kAB HBV.out) (by simp)).trans HBV.out;have y0 : w2.cell? ⟨bo, 0, none⟩ = some (int i64 fH) := by rw [kAC hb2]; rfl
 have y1 : w2.cell? ⟨bo, 1, none⟩ = some (int i64 fM) := by rw [kAC hb2]; rfl
 obtain ⟨m1, m2, m3⟩ := HP.out M' hp;have HO := kAA (kLD hrep hinv);rw [m1, m2] at HO;have HF2 := kAA (HFV.out.trans hf2 (by simp));have HNw : Hid (∀ b ∈ foot a l, w.heap.size ≤ b) := fun b hb => by have h5 := hnew b hb; have h6 := HBe.out; omega
 have HAg := kAA (And.intro hag (And.intro hp m3));clear hrep hinv hp hag hf2 hnew hb2 HL m1 m2 m3
 go_wp2_with fail
 refine HO.out.mono ?_;rintro e w3 ⟨rfl, hsp3, hf3⟩;have hw2s := HF2.out.size;obtain ⟨u, hu⟩ := jxe (w2.heap.size);rw [hu] at hsp3 ⊢;have HU : Hid (w.heap.size ≤ u) := by show w.heap.size ≤ u; omega
 have HS3 := kAA hsp3;have HF3 := kAA (HF2.out.trans hf3 (by simp))
 have HFt : Hid (∀ (G : HS) (M : MS) (A : Int), ∀ g ∈ spF u a l ⟨G, M, A, [], .slice none 0 0, none⟩, w.heap.size ≤ g) := fun G M A g hg => by
  rcases kAT.1 hg with e | e | ⟨b, e, -⟩ | e
  ·rw [e]; exact HU.out
  ·simp [Value.ownBlock] at e
  ·cases e
  ·exact HNw.out g e
 clear hsp3 hf3 HO hu
 by_cases h0 : A = 0
 ·subst h0
  go_wp2_with fail
  rw [HQ.out];exact ⟨HF3.out, .inl ⟨.inl rfl, u, a, l, G, M', rfl, HAg.out.2.1, HS3.out, HAg.out.1, HFt.out _ _ _⟩⟩
 ·have hb0 : (A == 0) = false := by simpa using h0
  have HC := kAA (kIY HS3.out A);rw [show (⟨G, M', 0, [], .slice none 0 0, none⟩ : SpS).M = M' from rfl, HAg.out.2.2] at HC;have H0 := kAA h0;clear h0
  go_wp2_with fail
  refine HC.out.mono ?_
  cases hA with
  | false =>
   rintro e w4 ⟨rfl, ⟨h5, -⟩ | ⟨-, h5⟩⟩
   ·cases h5
   have HZ := kAA (HF3.out.trans h5 (by simp));clear h5 HC;simp only [Bool.false_eq_true, if_false]
   go_wp2_with fail
   rw [HQ.out];exact ⟨HZ.out, .inr ⟨(fun h => by rcases h with h | h; exact H0.out h; cases h), rfl⟩⟩
  | true =>
   rintro e w4 ⟨rfl, ⟨-, h5⟩ | ⟨h5, -⟩⟩
   rotate_left
   ·cases h5
   have HZ := kAA (HF3.out.trans h5.fr fun g hg => .inr (HFt.out _ _ _ g hg));have HY := kAA h5.ok;clear h5 HC;simp only [if_true]
   go_wp2_with fail
   rw [HQ.out];exact ⟨HZ.out, .inl ⟨.inr rfl, u, a, l, G, M', rfl, HAg.out.2.1, HY.out, HAg.out.1, HFt.out _ _ _⟩⟩
def DLd (A : Int) (hA : Bool) (P : World → Nat → Prop) (w : World) (e : Ending) (w' : World) : Prop := Fr [] w w' ∧
 (((A = 0 ∨ hA = true) ∧ ∃ q r, e = .returned (.tuple #[.pointer (some ⟨q, 0, none⟩), int i64 0]) ∧ P w' r ∧ w'.heap[q]? = some (.cells #[.pointer (some ⟨r, 0, none⟩), int i64 A, .slice none 0 0, .bool false, .pointer none, int i64 0, int i64 0, int i64 0] 56 (0, 0)) ∧ w.heap.size ≤ q ∧ ∃ V, q = V.heap.size ∧ P V r ∧ Fr [] V w') ∨
 (¬ (A = 0 ∨ hA = true) ∧ e = .returned (.tuple #[.pointer none, int i64 20])))
theorem kPB (fH fM mark : Nat) (p : Option Addr) (k c : Nat) (A : Int) (hA : Bool) (P : World → Nat → Prop) (w : World) (hP : ∀ V V' r, P V r → Fr [] V V' → P V' r)
  (hC : ∀ V r, P V r → Calls prog 54 #[.pointer (some ⟨r, 0, none⟩), int i64 A] V fun e w' => ∃ x, e = .returned (.tuple #[int i64 x, int i64 (if hA = true then 0 else 20)]) ∧ Fr [] V w')
  (hL : ∀ V, Fr [] w V → Calls prog 118 #[.agg #[int i64 fH, int i64 fM, int i64 mark, .slice p k c]] V fun e w' => ∃ r, e = .returned (.tuple #[.pointer (some ⟨r, 0, none⟩), int i64 0]) ∧ P w' r ∧ Fr [] V w') :
  Calls prog 77 #[.agg #[int i64 fH, int i64 fM, int i64 mark, .slice p k c], int i64 A] w (DLd A hA P w) := by
 obtain ⟨V, hV⟩ := jxe ((w.alloc (.cells #[int i64 fH, int i64 fM, int i64 mark, .slice p k c] 82)));have hfV : Fr [] w V := by rw [← hV]; exact (Fr.alloc [] _ _)
 have hbV : V.heap[w.heap.size]? = some (.cells #[int i64 fH, int i64 fM, int i64 mark, .slice p k c] 82 (0, 0)) := by
  rw [← hV]; exact heap_alloc_new _ _
 have HL := kAA (hL V hfV);obtain ⟨bo, hbo⟩ := jxe (w.heap.size);rw [hbo] at hbV;obtain ⟨Qp, hQp⟩ := jex (DLd A hA P w);rw [← hQp];have HQ := kAA hQp;have HVe := kAA hV;have HBe := kAA hbo;have HBV := kAA hbV;have HFV := kAA hfV;have HP := kAA hP;have HCl := kAA hC;clear hL hP hV hbV hfV hbo hQp hC
 have HEnd : Hid (∀ (U : World) (r : Nat), Fr [] w U → P U r → (A = 0 ∨ hA = true) → ∀ W, W = U.alloc (.cells #[.pointer (some ⟨r, 0, none⟩), int i64 A, .slice none 0 0, .bool false, .pointer none, int i64 0, int i64 0, int i64 0] 56) → DLd A hA P w (.returned (.tuple #[.pointer (some ⟨U.heap.size, 0, none⟩), int i64 0])) W) := fun U r hU hp ho W hW => by
  have fW : Fr [] U W := by rw [hW]; exact Fr.alloc [] _ _
  refine ⟨hU.trans fW (by simp), .inl ⟨ho, U.heap.size, r, rfl, HP.out U W r hp fW, by rw [hW]; exact heap_alloc_new _ _, hU.size, U, rfl, hp, fW⟩⟩
 go_enter func77, ntmps77
 go_wp2_with fail
 rw [HVe.out, HBe.out]
 obtain ⟨v0, v1, v2, v3⟩ : V.cell? ⟨bo, 0, none⟩ = some (int i64 fH) ∧ V.cell? ⟨bo, 1, none⟩ = some (int i64 fM) ∧ V.cell? ⟨bo, 2, none⟩ = some (int i64 mark) ∧ V.cell? ⟨bo, 3, none⟩ = some (.slice p k c) := by
  refine ⟨?_, ?_, ?_, ?_⟩ <;> (rw [kAC HBV.out]; rfl)
 clear HVe
 go_wp2_with fail
 refine HL.out.mono ?_;rintro e w2 ⟨r, rfl, hp, hf2⟩;have HF2 := kAA (HFV.out.trans hf2 (by simp));have HPr := kAA hp;clear hp hf2 HL
 by_cases h0 : A = 0
 ·subst h0;have HZ := kAA (HEnd.out w2 r HF2.out HPr.out (.inl rfl) _ rfl)
  go_wp2_with fail
  rw [HQ.out];exact HZ.out
 ·have hb0 : (A != 0) = true := by simpa using h0
  have HC := kAA (HCl.out w2 r HPr.out);have H0 := kAA h0;clear h0
  cases hA with
  | false =>
   simp only [Bool.false_eq_true, if_false] at HC
   go_wp2_with fail
   refine HC.out.mono ?_;rintro e w4 ⟨x, rfl, h5⟩;have HZ := kAA (HF2.out.trans h5 (by simp));clear h5 HC
   go_wp2_with fail
   rw [HQ.out];exact ⟨HZ.out, .inr ⟨(fun h => by rcases h with h | h; exact H0.out h; cases h), rfl⟩⟩
  | true =>
   simp only [if_true] at HC
   go_wp2_with fail
   refine HC.out.mono ?_;rintro e w4 ⟨x, rfl, h5⟩;have HZ := kAA (HEnd.out w4 r (HF2.out.trans h5 (by simp)) (HP.out _ _ _ HPr.out h5) (by first | exact .inr rfl | exact .inr trivial | simp) _ rfl);clear h5 HC
   go_wp2_with fail
   rw [HQ.out];exact HZ.out
def kFD (x y : Int) : Prop := 0 ≤ x ∧ x ≤ 1048576 ∧ 0 ≤ y ∧ y ≤ 65536
def sp0 (x y : Nat) : SpS := ⟨kBZ x y, kBD x y, 0, [], .slice none 0 0, none⟩
def rq0 (x y : Nat) : RqS := ⟨⟨x, y, 0, 0, 0, [], .slice none 0 0⟩, kBD x y, 0, [], .slice none 0 0, none, .pointer none, int i64 0, int i64 0, int i64 0⟩
def SNw (x y : Int) (w : World) (e : Ending) (w' : World) : Prop := Fr [] w w' ∧ ((¬ kFD x y ∧ e = .returned (.tuple #[.pointer none, int i64 1])) ∨ (kFD x y ∧ ∃ s a, e = .returned (.tuple #[.pointer (some ⟨s, 0, none⟩), int i64 0]) ∧ Spc w' s a kCm (sp0 x.toNat y.toNat) ∧ ∀ g ∈ spF s a kCm (sp0 x.toNat y.toNat), w.heap.size ≤ g))
def DNw (x y : Int) (w : World) (e : Ending) (w' : World) : Prop := Fr [] w w' ∧ ((¬ kFD x y ∧ e = .returned (.tuple #[.pointer none, int i64 1])) ∨ (kFD x y ∧ ∃ q r, e = .returned (.tuple #[.pointer (some ⟨q, 0, none⟩), int i64 0]) ∧ Rqs w' q r (rq0 x.toNat y.toNat) ∧ ∀ g ∈ rqF q r (rq0 x.toNat y.toNat), w.heap.size ≤ g))
theorem kKr (xn yn : Nat) : Doc (kBD xn yn) ⟨xn, yn, 0, 0, 0, [], .slice none 0 0⟩ :=
 ⟨rfl, rfl, rfl, ⟨[], ⟨List.Pairwise.nil, fun x => by simp [kBD, noTh]⟩, rfl⟩, List.Pairwise.nil, fun b hb => (by cases hb), List.Pairwise.nil⟩
theorem kIu (x y : Nat) : Good (kBD x y) := fun i => by
 have e : (kBD x y).fA.getD i noTh = noTh := by simp [kBD]
 rw [e];exact kLE
theorem kIX (x y : Int) (w : World) : Calls prog 4 #[int i64 x, int i64 y] w (SNw x y w) := by
 obtain ⟨Qp, hQp⟩ := jex (SNw x y w);rw [← hQp];have HQ := kAA hQp;clear hQp
 by_cases h : kFD x y
 ·obtain ⟨h1, h2, h3, h4⟩ := h;obtain ⟨xn, rfl⟩ : ∃ n : Nat, x = n := ⟨x.toNat, by omega⟩
  obtain ⟨yn, rfl⟩ : ∃ n : Nat, y = n := ⟨y.toNat, by omega⟩
  have HN := kAA (kOa xn yn w h2 h4);have HI := kAA (kEz xn yn h2 h4);have HG : Hid (kFD (xn : Int) (yn : Int)) := ⟨h1, h2, h3, h4⟩;go_enter func4, ntmps4
  go_wp2_with fail
  refine HN.out.mono ?_;rintro e w1 ⟨rfl, hrep, hf, hsz⟩;have HO := kAA (kLD hrep HI.out);have e1 : ((kBD xn yn).fH : Int) = xn := rfl;have e2 : ((kBD xn yn).fM : Int) = yn := rfl;rw [e1, e2] at HO;have HF := kAA hf;have HSz := kAA hsz;clear hrep hf HN hsz e1 e2
  go_wp2_with fail
  refine HO.out.mono ?_;rintro e w2 ⟨rfl, hsp, hf2⟩
  have HZ : Hid (SNw xn yn w (.returned (.tuple #[.pointer (some ⟨w1.heap.size, 0, none⟩), int i64 0])) w2) := by
   refine ⟨HF.out.trans hf2 (by simp), .inr ⟨HG.out, w1.heap.size, w.heap.size, rfl, hsp, fun g hg => ?_⟩⟩;have hs := HSz.out;rcases kAT.1 hg with e | e | ⟨b, e, -⟩ | e
   ·omega
   ·simp [sp0, Value.ownBlock] at e
   ·simp [sp0] at e
   ·have e2 : g = w.heap.size := by simpa [foot, kCm, Lay.blocks, blk] using e
    omega
  clear hsp hf2 HO
  go_wp2_with fail
  rw [HQ.out];exact HZ.out
 ·have HN := kAA (kPR x y w (by unfold kFD at h; omega));have HG := kAA h;clear h;go_enter func4, ntmps4
  go_wp2_with fail
  refine HN.out.mono ?_;rintro e w1 ⟨rfl, hw⟩;rw [hw];clear hw HN
  go_wp2_with fail
  rw [HQ.out];exact ⟨Fr.refl _ _, .inl ⟨HG.out, rfl⟩⟩
theorem kIn (x y : Int) (w : World) : Calls prog 5 #[int i64 x, int i64 y] w (DNw x y w) := by
 obtain ⟨Qp, hQp⟩ := jex (DNw x y w);rw [← hQp];have HQ := kAA hQp;clear hQp
 by_cases h : kFD x y
 ·obtain ⟨h1, h2, h3, h4⟩ := h;obtain ⟨xn, rfl⟩ : ∃ n : Nat, x = n := ⟨x.toNat, by omega⟩
  obtain ⟨yn, rfl⟩ : ∃ n : Nat, y = n := ⟨y.toNat, by omega⟩
  have HN := kAA (kPd xn yn w h2 h4);have HG : Hid (kFD (xn : Int) (yn : Int)) := ⟨h1, h2, h3, h4⟩;go_enter func5, ntmps5
  go_wp2_with fail
  refine HN.out.mono ?_;rintro e w1 ⟨rfl, hrep, hf⟩
  have HZ : Hid (∀ W, W = w1.alloc (.cells #[.pointer (some ⟨w.heap.size, 0, none⟩), int i64 0, .slice none 0 0, .bool false, .pointer none, int i64 0, int i64 0, int i64 0] 56) → DNw xn yn w (.returned (.tuple #[.pointer (some ⟨w1.heap.size, 0, none⟩), int i64 0])) W) := fun W hW => by
   have fW : Fr [] w1 W := by rw [hW]; exact Fr.alloc [] _ _
   have hr0 := kAB hrep.top;have hrf : kBF w.heap.size (rq0 xn yn).R = [w.heap.size] := rfl;refine ⟨hf.trans fW (by simp), .inr ⟨HG.out, w1.heap.size, w.heap.size, rfl, ⟨by rw [hW]; exact heap_alloc_new _ _, hrep.keepF fW (by simp), kKr xn yn, jAS _ _ _ _, fun hm => ?_, fun g hg => by simp [rq0, Value.ownBlock] at hg, fun b hb => by cases hb⟩, fun g hg => ?_⟩⟩
   ·have : w1.heap.size ∈ [w.heap.size] := hm
    simp at this
    omega
   ·have hs := hf.size;rcases kBC.1 hg with e | e | e
    ·omega
    ·simp [rq0, Value.ownBlock] at e
    ·have : g ∈ [w.heap.size] := e
     simp at this
     omega
  have HZ2 := kAA (HZ.out _ rfl);clear hrep hf HN HZ
  go_wp2_with fail
  rw [HQ.out];exact HZ2.out
 ·have HN := kAA (kNM x y w (by unfold kFD at h; omega));have HG := kAA h;clear h;go_enter func5, ntmps5
  go_wp2_with fail
  refine HN.out.mono ?_;rintro e w1 ⟨rfl, hw⟩;rw [hw];clear hw HN
  go_wp2_with fail
  rw [HQ.out];exact ⟨Fr.refl _ _, .inl ⟨HG.out, rfl⟩⟩
theorem kIi {x y : Int} {e1 e2 : Ending} {w0 w1 w2 w3 : World} (h1 : SNw x y w0 e1 w1) (h12 : Fr [] w1 w2) (h3 : DNw x y w2 e2 w3) (hs : 2 ≤ w0.heap.size) :
  ∃ (p r : Option Addr) (c : Int) (D : Option Sd), (0 ≤ c ∧ c ≤ 1000) ∧ e1 = .returned (.tuple #[.pointer p, int i64 c]) ∧ e2 = .returned (.tuple #[.pointer r, int i64 c]) ∧ p.isNone = r.isNone ∧ vO D = .pointer p ∧ vR D = .pointer r ∧ SpOk w3 0 D ∧ ∀ g ∈ sdF D, (w0.heap.size ≤ g ∧ g < w1.heap.size) ∨ (w2.heap.size ≤ g ∧ g < w3.heap.size) := by
 obtain ⟨f1, a1⟩ := h1;obtain ⟨f3, a3⟩ := h3;have s1 := f1.size;have s2 := h12.size;rcases a1 with ⟨n1, rfl⟩ | ⟨g1, s, a, rfl, sp, lo1⟩
 ·rcases a3 with ⟨-, rfl⟩ | ⟨g2, -⟩
  ·exact ⟨none, none, 1, none, by omega, rfl, rfl, rfl, rfl, rfl, trivial, fun g hg => by cases hg⟩
  ·exact absurd g2 n1
 ·rcases a3 with ⟨n2, -⟩ | ⟨-, q, r, rfl, rq, lo2⟩
  ·exact absurd g1 n2
  ·have sp3 : Spc w3 s a kCm (sp0 x.toNat y.toNat) := (sp.fK h12).fK f3
   have hr : ∀ g ∈ spF s a kCm (sp0 x.toNat y.toNat) ++ rqF q r (rq0 x.toNat y.toNat), (w0.heap.size ≤ g ∧ g < w1.heap.size) ∨ (w2.heap.size ≤ g ∧ g < w3.heap.size) := fun g hg => by
    rcases jAC.1 hg with hg | hg
    ·exact .inl ⟨lo1 g hg, sp.lt g hg⟩
    ·exact .inr ⟨lo2 g hg, rq.lt g hg⟩
   refine ⟨some ⟨s, 0, none⟩, some ⟨q, 0, none⟩, 0, some ⟨s, a, kCm, sp0 x.toNat y.toNat, q, r, rq0 x.toNat y.toNat⟩, by omega, rfl, rfl, rfl, rfl, rfl, ⟨sp3, rq, ⟨rfl, kIu _ _, rfl, .inl rfl, rfl, by simp [sp0], jAD 0, jAD 0, jAH _, .inl ⟨rfl, rfl⟩⟩, fun g hg hm => ?_, fun g hg => ?_⟩, hr⟩
   ·have := sp.lt g hg;have := lo2 g hm;omega
   ·rcases hr g hg with q | q <;> omega
end Go.Proofs.YtflgicdbbogllaaGreatDoor
namespace Go.Proofs.YtflgicdbbogllaaGreatDoor
open Go.RowKit Go.Maps Go.WideMaps Tryz
open Value (int)
open IntKind (i64)
attribute [local go_sem ↓] wp_at_zero wp_at_succ
theorem push2 {t e : TypeId} {i : TypeInfo} {z : Value} {bytes : Nat} (ht : prog.underlying t = some (.slice e)) (hi : prog.info? e = some i) (hz : i.zero = some z) (hsize : i.size = 1) (hby : i.bytes = bytes) (hzs : z.cells.size = 1)
  (w : World) (base : Nat) (p : Option Addr) (c : Nat) (xs : List Value) (x : Value) (h : w.ownsRow base e 1 (.slice p xs.length c) xs.length xs) (hx : x.oneCell' = true) (h63 : xs.length + 1 ≤ maxLen) (hb : ((xs.length + 1) + (xs.length + 1) / 4 + 192) * bytes ≤ 281474976710656) (hB : base ≤ w.heap.size) :
  ∃ p' c' w', (Builtin.append_ #[t, t] t #[.slice p xs.length c, .slice (some ⟨w.heap.size, 0, none⟩) 1 1]).run prog (w.alloc (.cells #[x] e)) = .ok (.slice p' (xs.length + 1) c') w' ∧
   w'.ownsRow base e 1 (.slice p' (xs.length + 1) c') (xs.length + 1) (xs ++ [x]) ∧ ((p' = p ∧ c' = c ∧ Fr (blk p) w w') ∨ (Fr [] w w' ∧ ∀ g ∈ blk p', w.heap.size ≤ g)) := by
 have hA : (w.alloc (.cells #[x] e)).heap.size = w.heap.size + 1 := by simp
 have hown : (w.alloc (.cells #[x] e)).ownsRow base e 1 (.slice p xs.length c) xs.length xs := kAE h (fun g hg => jAN _ _ _ (h.lt g hg).2);have hnews := cell_one_new w x e;have h1 : ∀ u ∈ [x], u.oneCell' = true := fun u hu => by simp at hu; subst hu; exact hx
 obtain ⟨v', w', hr, h2, h3, _⟩ := run_append_own_wide (P := prog) (w.alloc (.cells #[x] e)) base t t e i z 1 bytes ht hi hz hsize hby hzs (by decide) _ _ _ hown ⟨w.heap.size, 0, none⟩ 1 1 [x] rfl hnews h1 h63 hb (by omega);rcases h.2 with ⟨e1, e2⟩ | ⟨g, c0, cur, e1, q1, q2, q3, q4, q5, q6⟩
 ·injection e1 with e1 e3 e4
  subst e1;subst e4;have hnil : xs = [] := jBT.1 e2;subst hnil;have hr2 := run_append_nil (P := prog) (w.alloc (.cells #[x] e)) t t e i z ht hi hz ⟨w.heap.size, 0, none⟩ 1 1 [x] (by rw [hsize]; rfl) hnews (by decide) (by decide) (by rw [hby]; simp at hb; omega);have hr3 := hr;rw [show (Value.slice none ([] : List Value).length 0) = .slice none 0 0 from rfl, hr2] at hr3
  injection hr3 with hv hw
  subst hv;subst hw;exact ⟨_, _, _, hr, h2, Or.inr ⟨(Fr.alloc [] w _).trans ((Fr.drew [] _).trans (Fr.alloc [] _ _) (by simp)) (by simp), fun g hg => by simp [blk] at hg; omega⟩⟩
 ·injection e1 with e1 _ e4
  subst e1;subst e4
  by_cases hroom : xs.length + 1 ≤ c
  ·have hg : (w.alloc (.cells #[x] e)).heap[g]? = some (.cells cur e (0, 0)) := (jAN _ _ _ (kAB q2)).trans q2;have hr2 := run_append_room (P := prog) (w.alloc (.cells #[x] e)) t t e i ht hi g xs.length c cur hg ⟨w.heap.size, 0, none⟩ 1 1 [x] (by rw [hsize]; rfl) hnews h1 hroom (by rw [hsize, q5]; simp; omega);have hr3 := hr;rw [hr2] at hr3
   injection hr3 with hv hw
   subst hv;refine ⟨_, _, w', hr, h2, Or.inl ⟨rfl, rfl, (Fr.alloc (blk (some ⟨g, 0, none⟩)) w _).trans (Fr.grown (S := [g]) h3 (fun k hk => ?_)) (by simp [blk])⟩⟩
   simp [Value.ownBlock] at hk
   simp [hk]
  ·have holds : ∀ j u, xs[j]? = some u → (w.alloc (.cells #[x] e)).cell? ((⟨g, 0, none⟩ : Addr).add j) = some u := hown.cells (g := g) rfl
   have hr2 := run_append_grow (P := prog) (w.alloc (.cells #[x] e)) t t e i z ht hi hz ⟨g, 0, none⟩ xs.length c xs (by rw [hsize]; simp) holds ⟨w.heap.size, 0, none⟩ 1 1 [x] (by rw [hsize]; rfl) hnews (by omega) (by unfold maxLen at h63; omega) (by rw [hby]; exact growslice_fits_wide (by omega) hb);have hr3 := hr;rw [hr2] at hr3
   injection hr3 with hv hw
   subst hv;subst hw;exact ⟨_, _, _, hr, h2, Or.inr ⟨(Fr.alloc [] w _).trans ((Fr.drew [] _).trans (Fr.alloc [] _ _) (by simp)) (by simp), fun g hg => by simp [blk] at hg; omega⟩⟩
end Go.Proofs.YtflgicdbbogllaaGreatDoor
