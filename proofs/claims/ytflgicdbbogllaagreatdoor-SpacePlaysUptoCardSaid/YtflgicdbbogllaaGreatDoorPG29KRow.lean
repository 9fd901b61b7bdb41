import Derived.Test.YtflgicdbbogllaaGreatDoorPG28KPush
set_option linter.unusedSimpArgs false
set_option linter.unusedVariables false
namespace Go.Proofs.YtflgicdbbogllaaGreatDoor
open Go.RowKit Tryz
open Value (int)
open IntKind (i64)
attribute [local go_sem ↓] wp_at_zero wp_at_succ
variable {B g n s : Nat} {X : List Nat} {m : Int} {w w' : World} {xs : List Value}
structure Le where
 p : Option Addr
 n : Nat
 c : Nat
def Le.v (x : Le) : Value := .slice x.p x.n x.c
def noLe : Le := ⟨none, 0, 0⟩
theorem kKZ {e : TypeId} {x : Le} (h : w.ownsRow B e s x.v n xs) (hg : g ∈ blk x.p) : B ≤ g ∧ ∃ cur, w.heap[g]? = some (.cells cur e (0, 0)) := by
 obtain ⟨p, k, c⟩ := x
 cases p with
 | none => simp [blk] at hg
 | some a =>
  have e1 : g = a.block := by simpa [blk] using hg
  have e2 : (Le.v ⟨some a, k, c⟩).ownBlock = some g := by
   rcases h.2 with ⟨h2, h3⟩ | ⟨g', cap, cur, h2, h3⟩
   ·cases h2
   ·have h2' : Value.slice (some a) k c = .slice (some ⟨g', 0, none⟩) _ cap := h2
    injection h2' with h2 _ _
    injection h2 with h2
    subst h2;show some g' = some g;rw [e1]
  exact ⟨(h.lt g e2).1, kAw h e2⟩
theorem kHj {x : Le} (h : x.v.ownBlock = some g) : g ∈ blk x.p := by
 obtain ⟨p, k, c⟩ := x
 cases p with
 | none => simp [Le.v, Value.ownBlock] at h
 | some a =>
  obtain ⟨b, off, sp⟩ := a
  simp [Le.v, Value.ownBlock] at h
  simp [blk]
  first | exact h.symm | exact h.2.symm | (rcases h with ⟨h1, h2⟩; exact h2.symm) | simp_all
theorem kBe {e : TypeId} {x : Le} {S : List Nat} (h : w.ownsRow B e s x.v n xs) (hf : Fr S w w') (hd : ∀ g ∈ blk x.p, g ∉ S) : w'.ownsRow B e s x.v n xs :=
 kAE h fun g hg => hf.block g (h.lt g hg).2 (hd g (kHj hg))
section
variable {w w' : World} {B b : Nat} {Is Ms : List Le} {Ks : List Int} {vI vM vK : Le}
end
def Mv (x y : Le) (w w' : World) : Prop := (y.p = x.p ∧ Fr (blk x.p) w w') ∨ (Fr [] w w' ∧ ∀ g ∈ blk y.p, w.heap.size ≤ g)
theorem Mv.fr {x y : Le} (h : Mv x y w w') : Fr (blk x.p) w w' := by
 rcases h with ⟨-, h⟩ | ⟨h, -⟩
 ·exact h
 ·exact h.mono (by simp)
theorem Mv.mem {x y : Le} (h : Mv x y w w') (hg : g ∈ blk y.p) : g ∈ blk x.p ∨ w.heap.size ≤ g := by
 rcases h with ⟨e, -⟩ | ⟨-, h⟩
 ·left; rw [← e]; exact hg
 ·right; exact h g hg
section
variable {w : World} {B b : Nat} {Is Ms : List Le} {Ks : List Int} {vI vM vK : Le}
end
structure Kd where
 e : TypeId
 t : TypeId
 m : TypeId
 s : Nat
 z : Int → List Value
def kNw : Kd := ⟨3, 88, 3, 1, fun m => [int i64 m]⟩
def kBu : Kd := ⟨41, 35, 41, 1, fun m => [int i64 m]⟩
def zC (k : Kd) (n : Nat) (m : Int) : List Value := (List.replicate n (k.z m)).flatten
structure OwK (k : Kd) (w : World) (x : Le) (m : Int) : Prop where
 row : w.ownsRow 0 k.e k.s x.v x.n (zC k x.n m)
 short : x.n ≤ 1100000
structure FlK (k : Kd) (w : World) (x : Le) (m : Int) : Prop where
 at_ : (x.p = none ∧ x.n = 0 ∧ x.c = 0) ∨ ∃ g, x.p = some ⟨g, 0, none⟩ ∧ g < w.heap.size ∧ ∀ i, i < x.n * k.s → w.cell? ⟨g, i, none⟩ = (zC k x.n m)[i]?
 short : x.n ≤ 1200000
structure Sc where
 olds : List (Le × Le × Int)
 news : List (Le × Int)
 vI : Le
 vM : Le
 vK : Le
def Sc.Is (S : Sc) : List Le := S.olds.map (·.1) ++ S.news.map (·.1)
def Sc.Ms (S : Sc) : List Le := S.olds.map (·.2.1)
def Sc.Ks (S : Sc) : List Int := S.olds.map (·.2.2) ++ S.news.map (·.2)
def Sc.rows (S : Sc) : List Nat := blk S.vI.p ++ (blk S.vM.p ++ blk S.vK.p)
def Sc.fresh (S : Sc) : List Nat := S.news.flatMap fun o => blk o.1.p
def Sc.done (S : Sc) : List Nat := S.olds.flatMap fun o => blk o.1.p ++ blk o.2.1.p
def Sc.hot (S : Sc) : List Nat := S.rows ++ S.fresh
def Sc.all (S : Sc) : List Nat := S.hot ++ S.done
structure Sc.Ok (k : Kd) (w : World) (S : Sc) : Prop where
 nI : S.vI.n = S.olds.length + S.news.length
 nM : S.vM.n = S.olds.length
 nK : S.vK.n = S.olds.length + S.news.length
 rI : w.ownsRow 0 k.t 1 S.vI.v S.vI.n (S.Is.map Le.v)
 rM : w.ownsRow 0 k.t 1 S.vM.v S.vM.n (S.Ms.map Le.v)
 rK : w.ownsRow 0 k.m 1 S.vK.v S.vK.n (S.Ks.map (int i64))
 old : ∀ o ∈ S.olds, FlK k w o.1 o.2.2 ∧ FlK k w o.2.1 o.2.2
 new : ∀ o ∈ S.news, OwK k w o.1 o.2
 dIM : ∀ g ∈ blk S.vI.p, g ∉ blk S.vM.p
 dIK : ∀ g ∈ blk S.vI.p, g ∉ blk S.vK.p
 dMK : ∀ g ∈ blk S.vM.p, g ∉ blk S.vK.p
 dIN : ∀ g ∈ blk S.vI.p, g ∉ S.fresh
 dMN : ∀ g ∈ blk S.vM.p, g ∉ S.fresh
 dKN : ∀ g ∈ blk S.vK.p, g ∉ S.fresh
 dN : S.news.Pairwise fun a b => ∀ g ∈ blk a.1.p, g ∉ blk b.1.p
 apart : ∀ g ∈ S.done, g ∉ S.hot
theorem OwK.lt {k : Kd} {x : Le} (h : OwK k w x m) (hg : g ∈ blk x.p) : g < w.heap.size := by
 obtain ⟨-, cur, hc⟩ := kKZ h.row hg;exact kAB hc
theorem FlK.lt {k : Kd} {x : Le} (h : FlK k w x m) (hg : g ∈ blk x.p) : g < w.heap.size := by
 rcases h.at_ with ⟨h1, -, -⟩ | ⟨g', h1, h2, -⟩
 ·rw [h1] at hg; simp [blk] at hg
 ·rw [h1] at hg;have : g = g' := by simpa [blk] using hg
  omega
theorem OwK.keep {k : Kd} {x : Le} (h : OwK k w x m) (hf : Fr X w w') (hd : ∀ g ∈ blk x.p, g ∉ X) : OwK k w' x m := ⟨kBe h.row hf hd, h.short⟩
theorem FlK.keep {k : Kd} {x : Le} (h : FlK k w x m) (hf : Fr X w w') (hd : ∀ g ∈ blk x.p, g ∉ X) : FlK k w' x m := by
 refine ⟨?_, h.short⟩;rcases h.at_ with h1 | ⟨g, h1, h2, h3⟩
 ·exact .inl h1
 ·have hg : g ∈ blk x.p := by rw [h1]; simp [blk]
  refine .inr ⟨g, h1, by have := hf.size; omega, fun i hi => ?_⟩;exact (hf.cell (p := ⟨g, i, none⟩) h2 (hd g hg)).trans (h3 i hi)
theorem zC_len (k : Kd) (hz : ∀ m, (k.z m).length = k.s) (n : Nat) (m : Int) : (zC k n m).length = n * k.s := by
 unfold zC
 induction n with
 | zero => simp
 | succ n ih => rw [jBc, List.flatten_cons, jAG, ih, hz, Nat.succ_mul]; omega
theorem kKR (k : Kd) (n : Nat) (m : Int) : zC k n m ++ k.z m = zC k (n + 1) m := by
 unfold zC;rw [jBY, List.flatten_append]
 simp
theorem OwK.fl {k : Kd} {x : Le} (h : OwK k w x m) : FlK k w x m := by
 refine ⟨?_, by have := h.short; omega⟩;obtain ⟨p, n, c⟩ := x;have hr : w.ownsRow 0 k.e k.s (.slice p n c) n (zC k n m) := h.row;rcases hr.2 with ⟨h2, h3⟩ | ⟨g, cap, cur, h2, h3⟩
 ·injection h2 with e1 e2 e3
  exact .inl ⟨e1, e2, e3⟩
 ·injection h2 with e1 e2 e3
  subst e1;refine .inr ⟨g, rfl, kAB h3.2.1, fun i hi => ?_⟩;exact hr.cellAt i (by have := hr.1; omega)
theorem kEU {S : Sc} {o : Le × Int} (ho : o ∈ S.news) (hg : g ∈ blk o.1.p) : g ∈ S.hot := jAC.2 (.inr (jAd.2 ⟨o, ho, hg⟩))
theorem kFw {S : Sc} {o : Le × Le × Int} (ho : o ∈ S.olds) (hg : g ∈ blk o.1.p) : g ∈ S.done := jAd.2 ⟨o, ho, jAC.2 (.inl hg)⟩
theorem kFs {S : Sc} {o : Le × Le × Int} (ho : o ∈ S.olds) (hg : g ∈ blk o.2.1.p) : g ∈ S.done := jAd.2 ⟨o, ho, jAC.2 (.inr hg)⟩
theorem blkI {S : Sc} (hg : g ∈ blk S.vI.p) : g ∈ S.hot := jAC.2 (.inl (jAC.2 (.inl hg)))
theorem blkM {S : Sc} (hg : g ∈ blk S.vM.p) : g ∈ S.hot := jAC.2 (.inl (jAC.2 (.inr (jAC.2 (.inl hg)))))
theorem blkK {S : Sc} (hg : g ∈ blk S.vK.p) : g ∈ S.hot := jAC.2 (.inl (jAC.2 (.inr (jAC.2 (.inr hg)))))
theorem kBR {S : Sc} (hg : g ∈ S.hot) : g ∈ S.all := jAC.2 (.inl hg)
theorem kCa {S : Sc} (hg : g ∈ S.done) : g ∈ S.all := jAC.2 (.inr hg)
theorem Sc.mem_hot {S : Sc} (h : g ∈ S.hot) : g ∈ blk S.vI.p ∨ g ∈ blk S.vM.p ∨ g ∈ blk S.vK.p ∨ ∃ o ∈ S.news, g ∈ blk o.1.p := by
 rcases jAC.1 h with h | h
 ·rcases jAC.1 h with h | h
  ·exact .inl h
  ·rcases jAC.1 h with h | h
   ·exact .inr (.inl h)
   ·exact .inr (.inr (.inl h))
 ·exact .inr (.inr (.inr (jAd.1 h)))
theorem Sc.mem_done {S : Sc} (h : g ∈ S.done) : ∃ o ∈ S.olds, g ∈ blk o.1.p ∨ g ∈ blk o.2.1.p := by
 obtain ⟨o, ho, hg⟩ := jAd.1 h;exact ⟨o, ho, jAC.1 hg⟩
section
variable {k : Kd} {w w' : World} {S : Sc}
theorem Sc.Ok.lt (h : S.Ok k w) (hg : g ∈ S.all) : g < w.heap.size := by
 have row : ∀ {e : TypeId} {v : Le} {n : Nat} {xs : List Value}, w.ownsRow 0 e 1 v.v n xs → g ∈ blk v.p → g < w.heap.size := fun hr hm => by
  obtain ⟨-, cur, hc⟩ := kKZ hr hm;exact kAB hc
 rcases jAC.1 hg with hg | hg
 ·rcases Sc.mem_hot hg with h1 | h1 | h1 | ⟨o, ho, h1⟩
  ·exact row h.rI h1
  ·exact row h.rM h1
  ·exact row h.rK h1
  ·exact (h.new o ho).lt h1
 ·obtain ⟨o, ho, h1 | h1⟩ := Sc.mem_done hg
  ·exact (h.old o ho).1.lt h1
  ·exact (h.old o ho).2.lt h1
theorem Sc.Ok.keep (h : S.Ok k w) (hf : Fr X w w') (hd : ∀ g ∈ S.all, g ∉ X) : S.Ok k w' :=
 ⟨h.nI, h.nM, h.nK, kBe h.rI hf fun g hg => hd g (kBR (blkI hg)), kBe h.rM hf fun g hg => hd g (kBR (blkM hg)), kBe h.rK hf fun g hg => hd g (kBR (blkK hg)),
  fun o ho => ⟨(h.old o ho).1.keep hf fun g hg => hd g (kCa (kFw ho hg)), (h.old o ho).2.keep hf fun g hg => hd g (kCa (kFs ho hg))⟩,
  fun o ho => (h.new o ho).keep hf fun g hg => hd g (kBR (kEU ho hg)), h.dIM, h.dIK, h.dMK, h.dIN, h.dMN, h.dKN, h.dN, h.apart⟩
end
def noSc : Sc := ⟨[], [], noLe, noLe, noLe⟩
theorem kQK (k : Kd) (w : World) : noSc.Ok k w :=
 ⟨rfl, rfl, rfl, jAS .., jAS .., jAS .., fun o ho => (by cases ho), fun o ho => (by cases ho), fun g hg => (by cases hg), fun g hg => (by cases hg), fun g hg => (by cases hg), fun g hg => (by cases hg), fun g hg => (by cases hg), fun g hg => (by cases hg), List.Pairwise.nil, fun g hg => (by cases hg)⟩
theorem kNv : noSc.all = [] := rfl
def Sc.add (S : Sc) (x : Le) (m : Int) (vI' vK' : Le) : Sc := ⟨S.olds, S.news ++ [(x, m)], vI', S.vM, vK'⟩
theorem Sc.add_Is (S : Sc) (x : Le) (m : Int) (vI' vK' : Le) : (S.add x m vI' vK').Is = S.Is ++ [x] := by unfold Sc.Is Sc.add; simp
theorem Sc.add_Ks (S : Sc) (x : Le) (m : Int) (vI' vK' : Le) : (S.add x m vI' vK').Ks = S.Ks ++ [m] := by unfold Sc.Ks Sc.add; simp
theorem Sc.add_fresh {S : Sc} {x : Le} {vI' vK' : Le} (h : g ∈ (S.add x m vI' vK').fresh) : g ∈ S.fresh ∨ g ∈ blk x.p := by
 obtain ⟨o, ho, hg⟩ := jAd.1 h;rcases jAC.1 ho with ho | ho
 ·exact .inl (jAd.2 ⟨o, ho, hg⟩)
 ·have e : o = (x, m) := by simpa using ho
  rw [e] at hg;exact .inr hg
section
variable {k : Kd} {w : World} {S : Sc}
theorem Sc.Ok.add (h : S.Ok k w) (x : Le) (m : Int) (hx : OwK k w x m) (ax : ∀ g ∈ blk x.p, g ∉ S.all) (b : Nat) (hb : b ∉ S.all) (hbx : b ∉ blk x.p) (hbl : b < w.heap.size) 
  {w1 w2 w3 w4 : World} {vI' vK' : Le}
  (o1 : w1.ownsRow 0 k.t 1 vI'.v vI'.n ((S.Is ++ [x]).map Le.v)) (n1 : vI'.n = S.olds.length + S.news.length + 1) (m1 : Mv S.vI vI' w w1) (f2 : Fr [b] w1 w2)
  (o3 : w3.ownsRow 0 k.m 1 vK'.v vK'.n ((S.Ks ++ [m]).map (int i64))) (n3 : vK'.n = S.olds.length + S.news.length + 1) (m3 : Mv S.vK vK' w2 w3) (f4 : Fr [b] w3 w4) :
  (S.add x m vI' vK').Ok k w4 ∧ Fr (b :: S.hot) w w4 ∧ ∀ g ∈ (S.add x m vI' vK').all, g ∈ S.all ∨ g ∈ blk x.p ∨ w.heap.size ≤ g := by
 have f1 := m1.fr;have f3 := m3.fr;have s1 := f1.size;have s2 := f2.size;have s3 := f3.size;have inI : ∀ g ∈ blk S.vI.p, g ∈ S.all := fun g hg => kBR (blkI hg)
 have inM : ∀ g ∈ blk S.vM.p, g ∈ S.all := fun g hg => kBR (blkM hg)
 have inK : ∀ g ∈ blk S.vK.p, g ∈ S.all := fun g hg => kBR (blkK hg)
 have inN : ∀ g ∈ S.fresh, g ∈ S.all := fun g hg => kBR (jAC.2 (.inr hg))
 have nb : ∀ g ∈ S.all, g ∉ [b] := fun g hg hm => by
  have e : g = b := by simpa using hm
  exact hb (e ▸ hg)
 have nbx : ∀ g ∈ blk x.p, g ∉ [b] := fun g hg hm => by
  have e : g = b := by simpa using hm
  exact hbx (e ▸ hg)
 have F : Fr (b :: S.hot) w w4 := by
  refine Fr.trans (Fr.trans (Fr.trans (f1.mono fun g hg => .inl ?_) f2 fun g hg => .inl ?_) f3 fun g hg => .inl ?_) f4 fun g hg => .inl ?_
  ·exact jAF.2 (.inr (blkI hg))
  ·exact jAF.2 (.inl (by simpa using hg))
  ·exact jAF.2 (.inr (blkK hg))
  ·exact jAF.2 (.inl (by simpa using hg))
 have newI : ∀ g ∈ blk vI'.p, g ∈ blk S.vI.p ∨ w.heap.size ≤ g := fun g hg => m1.mem hg
 have newK : ∀ g ∈ blk vK'.p, g ∈ blk S.vK.p ∨ w.heap.size ≤ g := fun g hg => by
  rcases m3.mem hg with h1 | h1
  ·exact .inl h1
  ·exact .inr (by omega)
 have xlt : ∀ g ∈ blk x.p, g < w.heap.size := fun g hg => hx.lt hg
 have G : Fr (b :: (blk S.vI.p ++ blk S.vK.p)) w w4 := by
  refine Fr.trans (Fr.trans (Fr.trans (f1.mono fun g hg => .inl ?_) f2 fun g hg => .inl ?_) f3 fun g hg => .inl ?_) f4 fun g hg => .inl ?_
  ·exact jAF.2 (.inr (jAC.2 (.inl hg)))
  ·exact jAF.2 (.inl (by simpa using hg))
  ·exact jAF.2 (.inr (jAC.2 (.inr hg)))
  ·exact jAF.2 (.inl (by simpa using hg))
 have out : ∀ g, g ≠ b → g ∉ blk S.vI.p → g ∉ blk S.vK.p → g ∉ b :: (blk S.vI.p ++ blk S.vK.p) := fun g h1 h2 h3 hm => by
  rcases jAF.1 hm with hm | hm
  ·exact h1 hm
  ·rcases jAC.1 hm with hm | hm
   ·exact h2 hm
   ·exact h3 hm
 have neb : ∀ g ∈ S.all, g ≠ b := fun g hg e => hb (e ▸ hg)
 have outD : ∀ g ∈ S.done, g ∉ b :: (blk S.vI.p ++ blk S.vK.p) := fun g hg => out g (neb g (kCa hg)) (fun hm => h.apart g hg (blkI hm)) (fun hm => h.apart g hg (blkK hm))
 have outN : ∀ g ∈ S.fresh, g ∉ b :: (blk S.vI.p ++ blk S.vK.p) := fun g hg => out g (neb g (inN g hg)) (fun hm => h.dIN g hm hg) (fun hm => h.dKN g hm hg)
 have outX : ∀ g ∈ blk x.p, g ∉ b :: (blk S.vI.p ++ blk S.vK.p) := fun g hg => out g (fun e => hbx (e ▸ hg)) (fun hm => ax g hg (inI g hm)) (fun hm => ax g hg (inK g hm))
 have frl : ∀ o ∈ S.news, ∀ g ∈ blk o.1.p, g ∈ S.fresh := fun o ho g hg => jAd.2 ⟨o, ho, hg⟩
 refine ⟨⟨?_, h.nM, ?_, ?_, ?_, ?_, ?_, ?_, ?_, ?_, ?_, ?_, ?_, ?_, ?_, ?_⟩, F, ?_⟩
 ·show vI'.n = _; rw [n1]; simp [Sc.add]; omega
 ·show vK'.n = _; rw [n3]; simp [Sc.add]; omega
 ·rw [Sc.add_Is];show w4.ownsRow 0 k.t 1 vI'.v vI'.n _
  have q2 := kBe (x := vI') o1 f2 fun g hg hm => by
   have e : g = b := by simpa using hm
   rcases newI g hg with h1 | h1
   ·exact neb g (inI g h1) e
   ·omega
  have q3 := kBe (x := vI') q2 f3 fun g hg hm => by
   rcases newI g hg with h1 | h1
   ·exact h.dIK g h1 hm
   ·have := h.lt (inK g hm); omega
  exact kBe (x := vI') q3 f4 fun g hg hm => by
   have e : g = b := by simpa using hm
   rcases newI g hg with h1 | h1
   ·exact neb g (inI g h1) e
   ·omega
 ·exact kBe h.rM G fun g hg => out g (neb g (inM g hg)) (fun hm => h.dIM g hm hg) (h.dMK g hg)
 ·rw [Sc.add_Ks];show w4.ownsRow 0 k.m 1 vK'.v vK'.n _
  exact kBe (x := vK') o3 f4 fun g hg hm => by
   have e : g = b := by simpa using hm
   rcases newK g hg with h1 | h1
   ·exact neb g (inK g h1) e
   ·omega
 ·exact fun o ho => ⟨(h.old o ho).1.keep G fun g hg => outD g (kFw ho hg), (h.old o ho).2.keep G fun g hg => outD g (kFs ho hg)⟩
 ·intro o ho;rcases jAC.1 ho with ho | ho
  ·exact (h.new o ho).keep G fun g hg => outN g (frl o ho g hg)
  ·have e : o = (x, m) := by simpa using ho
   rw [e];exact hx.keep G outX
 ·intro g hg hm;rcases newI g hg with h1 | h1
  ·exact h.dIM g h1 hm
  ·have := h.lt (inM g hm); omega
 ·intro g hg hm;rcases newI g hg with h1 | h1
  ·rcases newK g hm with h2 | h2
   ·exact h.dIK g h1 h2
   ·have := h.lt (inI g h1); omega
  ·rcases m3.mem hm with h2 | h2
   ·have := h.lt (inK g h2); omega
   ·obtain ⟨-, cur, hc⟩ := kKZ (x := vI') o1 hg;have := kAB hc;omega
 ·intro g hg hm;rcases newK g hm with h2 | h2
  ·exact h.dMK g hg h2
  ·have := h.lt (inM g hg); omega
 ·intro g hg hm;rcases Sc.add_fresh hm with h2 | h2
  ·rcases newI g hg with h1 | h1
   ·exact h.dIN g h1 h2
   ·have := h.lt (inN g h2); omega
  ·rcases newI g hg with h1 | h1
   ·exact ax g h2 (inI g h1)
   ·have := xlt g h2; omega
 ·intro g hg hm;rcases Sc.add_fresh hm with h2 | h2
  ·exact h.dMN g hg h2
  ·exact ax g h2 (inM g hg)
 ·intro g hg hm;rcases Sc.add_fresh hm with h2 | h2
  ·rcases newK g hg with h1 | h1
   ·exact h.dKN g h1 h2
   ·have := h.lt (inN g h2); omega
  ·rcases newK g hg with h1 | h1
   ·exact ax g h2 (inK g h1)
   ·have := xlt g h2; omega
 ·show (S.news ++ [(x, m)]).Pairwise _;rw [jAi];refine ⟨h.dN, jBU .., fun o ho y hy g hg hm => ?_⟩;have e : y = (x, m) := by simpa using hy
  rw [e] at hm;exact ax g hm (inN g (frl o ho g hg))
 ·intro g hg hm;have hg : g ∈ S.done := hg;have gl := h.lt (kCa hg);rcases Sc.mem_hot hm with h1 | h1 | h1 | ⟨o, ho, h1⟩
  ·rcases newI g h1 with h2 | h2
   ·exact h.apart g hg (blkI h2)
   ·omega
  ·exact h.apart g hg (blkM h1)
  ·rcases newK g h1 with h2 | h2
   ·exact h.apart g hg (blkK h2)
   ·omega
  ·rcases jAC.1 ho with ho | ho
   ·exact h.apart g hg (kEU ho h1)
   ·have e : o = (x, m) := by simpa using ho
    rw [e] at h1;exact ax g h1 (kCa hg)
 ·intro g hg;rcases jAC.1 hg with hg | hg
  ·rcases Sc.mem_hot hg with h1 | h1 | h1 | ⟨o, ho, h1⟩
   ·rcases newI g h1 with h2 | h2
    ·exact .inl (inI g h2)
    ·exact .inr (.inr h2)
   ·exact .inl (inM g h1)
   ·rcases newK g h1 with h2 | h2
    ·exact .inl (inK g h2)
    ·exact .inr (.inr h2)
   ·rcases jAC.1 ho with ho | ho
    ·exact .inl (kBR (kEU ho h1))
    ·have e : o = (x, m) := by simpa using ho
     rw [e] at h1;exact .inr (.inl h1)
  ·exact .inl (kCa (S := S) hg)
end
def Sc.grown (S : Sc) (x : Le) (m : Int) (rest : List (Le × Int)) (y vM' : Le) : Sc := ⟨S.olds ++ [(x, y, m)], rest, S.vI, vM', S.vK⟩
section
variable {k : Kd} {w : World} {S : Sc}
theorem Sc.Ok.grown (h : S.Ok k w) {x : Le} {rest : List (Le × Int)} (hn : S.news = (x, m) :: rest) (b : Nat) (hb : b ∉ S.all) (hbl : b < w.heap.size) 
  {w1 w2 w3 : World} {y vM' : Le} (f1 : Fr (blk x.p) w w1) (oy : FlK k w1 y m) (fx : FlK k w1 x m) (ny : ∀ g ∈ blk y.p, g ∈ blk x.p ∨ w.heap.size ≤ g)
  (o2 : w2.ownsRow 0 k.t 1 vM'.v vM'.n ((S.Ms ++ [y]).map Le.v)) (n2 : vM'.n = S.olds.length + 1) (m2 : Mv S.vM vM' w1 w2) (f3 : Fr [b] w2 w3) :
  (S.grown x m rest y vM').Ok k w3 ∧ Fr (b :: S.hot) w w3 ∧ ∀ g ∈ (S.grown x m rest y vM').all, g ∈ S.all ∨ w.heap.size ≤ g := by
 have f2 := m2.fr;have s1 := f1.size;have s2 := f2.size;have hx : (x, m) ∈ S.news := by rw [hn]; exact List.mem_cons_self
 have hr : ∀ o ∈ rest, o ∈ S.news := fun o ho => by rw [hn]; exact jAr _ ho
 have xN : ∀ g ∈ blk x.p, g ∈ S.fresh := fun g hg => jAd.2 ⟨(x, m), hx, hg⟩
 have inI : ∀ g ∈ blk S.vI.p, g ∈ S.all := fun g hg => kBR (blkI hg)
 have inM : ∀ g ∈ blk S.vM.p, g ∈ S.all := fun g hg => kBR (blkM hg)
 have inK : ∀ g ∈ blk S.vK.p, g ∈ S.all := fun g hg => kBR (blkK hg)
 have inN : ∀ g ∈ S.fresh, g ∈ S.all := fun g hg => kBR (jAC.2 (.inr hg))
 have neb : ∀ g ∈ S.all, g ≠ b := fun g hg e => hb (e ▸ hg)
 have dN := h.dN;rw [hn, jBI] at dN
 have F : Fr (b :: S.hot) w w3 := by
  refine Fr.trans (Fr.trans (f1.mono fun g hg => .inl ?_) f2 fun g hg => .inl ?_) f3 fun g hg => .inl ?_
  ·exact jAF.2 (.inr (jAC.2 (.inr (xN g hg))))
  ·exact jAF.2 (.inr (blkM hg))
  ·exact jAF.2 (.inl (by simpa using hg))
 have G : Fr (b :: (blk x.p ++ blk S.vM.p)) w w3 := by
  refine Fr.trans (Fr.trans (f1.mono fun g hg => .inl ?_) f2 fun g hg => .inl ?_) f3 fun g hg => .inl ?_
  ·exact jAF.2 (.inr (jAC.2 (.inl hg)))
  ·exact jAF.2 (.inr (jAC.2 (.inr hg)))
  ·exact jAF.2 (.inl (by simpa using hg))
 have G1 : Fr (b :: blk S.vM.p) w1 w3 := by
  refine Fr.trans (f2.mono fun g hg => .inl ?_) f3 fun g hg => .inl ?_
  ·exact jAF.2 (.inr hg)
  ·exact jAF.2 (.inl (by simpa using hg))
 have out : ∀ g, g ≠ b → g ∉ blk x.p → g ∉ blk S.vM.p → g ∉ b :: (blk x.p ++ blk S.vM.p) := fun g h1 h2 h3 hm => by
  rcases jAF.1 hm with hm | hm
  ·exact h1 hm
  ·rcases jAC.1 hm with hm | hm
   ·exact h2 hm
   ·exact h3 hm
 have outX : ∀ g ∈ blk x.p, g ∉ b :: blk S.vM.p := fun g hg hm => by
  rcases jAF.1 hm with hm | hm
  ·exact neb g (inN g (xN g hg)) hm
  ·exact h.dMN g hm (xN g hg)
 have outY : ∀ g ∈ blk y.p, g ∉ b :: blk S.vM.p := fun g hg hm => by
  rcases ny g hg with h1 | h1
  ·exact outX g h1 hm
  ·rcases jAF.1 hm with hm | hm
   ·omega
   ·have := h.lt (inM g hm); omega
 have newM : ∀ g ∈ blk vM'.p, g ∈ blk S.vM.p ∨ w1.heap.size ≤ g := fun g hg => m2.mem hg
 have frR : ∀ g, g ∈ (S.grown x m rest y vM').fresh → g ∈ S.fresh ∧ g ∉ blk x.p := fun g hg => by
  obtain ⟨o, ho, hg⟩ := jAd.1 hg;exact ⟨jAd.2 ⟨o, hr o ho, hg⟩, fun hm => dN.1 o ho g hm hg⟩
 have doR : ∀ g, g ∈ (S.grown x m rest y vM').done → g ∈ S.done ∨ g ∈ blk x.p ∨ g ∈ blk y.p := fun g hg => by
  obtain ⟨o, ho, hg⟩ := jAd.1 hg;rcases jAC.1 ho with ho | ho
  ·exact .inl (jAd.2 ⟨o, ho, hg⟩)
  ·have e : o = (x, y, m) := by simpa using ho
   rw [e] at hg;exact .inr (jAC.1 hg)
 have eI : (S.grown x m rest y vM').Is = S.Is := by unfold Sc.Is; rw [hn]; simp [Sc.grown]
 have eK : (S.grown x m rest y vM').Ks = S.Ks := by unfold Sc.Ks; rw [hn]; simp [Sc.grown]
 have eM : (S.grown x m rest y vM').Ms = S.Ms ++ [y] := by unfold Sc.Ms; simp [Sc.grown]
 have hl : (S.grown x m rest y vM').olds.length + (S.grown x m rest y vM').news.length = S.olds.length + S.news.length := by rw [hn]; simp [Sc.grown]; omega
 refine ⟨⟨?_, ?_, ?_, ?_, ?_, ?_, ?_, ?_, ?_, ?_, ?_, ?_, ?_, ?_, ?_, ?_⟩, F, ?_⟩
 ·rw [hl]; exact h.nI
 ·show vM'.n = _; rw [n2]; simp [Sc.grown]
 ·rw [hl]; exact h.nK
 ·rw [eI];exact kBe h.rI G fun g hg => out g (neb g (inI g hg)) (fun hm => h.dIN g hg (xN g hm)) (h.dIM g hg)
 ·rw [eM];show w3.ownsRow 0 k.t 1 vM'.v vM'.n _
  exact kBe (x := vM') o2 f3 fun g hg hm => by
   have e : g = b := by simpa using hm
   rcases newM g hg with h1 | h1
   ·exact neb g (inM g h1) e
   ·omega
 ·rw [eK];exact kBe h.rK G fun g hg => out g (neb g (inK g hg)) (fun hm => h.dKN g hg (xN g hm)) (fun hm => h.dMK g hm hg)
 ·intro o ho;rcases jAC.1 ho with ho | ho
  ·have q : ∀ g ∈ S.done, g ∉ b :: (blk x.p ++ blk S.vM.p) := fun g hg => out g (neb g (kCa hg)) (fun hm => h.apart g hg (jAC.2 (.inr (xN g hm)))) (fun hm => h.apart g hg (blkM hm))
   exact ⟨(h.old o ho).1.keep G fun g hg => q g (kFw ho hg), (h.old o ho).2.keep G fun g hg => q g (kFs ho hg)⟩
  ·have e : o = (x, y, m) := by simpa using ho
   rw [e];exact ⟨fx.keep G1 outX, oy.keep G1 outY⟩
 ·intro o ho;have ho : o ∈ rest := ho
  exact (h.new o (hr o ho)).keep G fun g hg => by
   have q : g ∈ S.fresh := jAd.2 ⟨o, hr o ho, hg⟩;exact out g (neb g (inN g q)) (fun hm => dN.1 o ho g hm hg) (fun hm => h.dMN g hm q)
 ·intro g hg hm;rcases newM g hm with h1 | h1
  ·exact h.dIM g hg h1
  ·have := h.lt (inI g hg); omega
 ·exact h.dIK
 ·intro g hg hm;rcases newM g hg with h1 | h1
  ·exact h.dMK g h1 hm
  ·have := h.lt (inK g hm); omega
 ·exact fun g hg hm => h.dIN g hg (frR g hm).1
 ·intro g hg hm;rcases newM g hg with h1 | h1
  ·exact h.dMN g h1 (frR g hm).1
  ·have := h.lt (inN g (frR g hm).1); omega
 ·exact fun g hg hm => h.dKN g hg (frR g hm).1
 ·exact dN.2
 ·intro g hg hm
  have hot : g ∈ blk S.vI.p ∨ g ∈ blk vM'.p ∨ g ∈ blk S.vK.p ∨ g ∈ (S.grown x m rest y vM').fresh := by
   rcases Sc.mem_hot hm with h1 | h1 | h1 | ⟨o, ho, h1⟩
   ·exact .inl h1
   ·exact .inr (.inl h1)
   ·exact .inr (.inr (.inl h1))
   ·exact .inr (.inr (.inr (jAd.2 ⟨o, ho, h1⟩)))
  have xx : g ∈ blk x.p → False := fun q => by
   rcases hot with h1 | h1 | h1 | h1
   ·exact h.dIN g h1 (xN g q)
   ·rcases newM g h1 with h2 | h2
    ·exact h.dMN g h2 (xN g q)
    ·have := h.lt (inN g (xN g q)); omega
   ·exact h.dKN g h1 (xN g q)
   ·exact (frR g h1).2 q
  rcases doR g hg with q | q | q
  ·have gl := h.lt (kCa q);rcases hot with h1 | h1 | h1 | h1
   ·exact h.apart g q (blkI h1)
   ·rcases newM g h1 with h2 | h2
    ·exact h.apart g q (blkM h2)
    ·omega
   ·exact h.apart g q (blkK h1)
   ·exact h.apart g q (jAC.2 (.inr (frR g h1).1))
  ·exact xx q
  ·rcases ny g q with q1 | q1
   ·exact xx q1
   ·have yl := oy.lt q;rcases hot with h1 | h1 | h1 | h1
    ·have := h.lt (inI g h1); omega
    ·rcases newM g h1 with h2 | h2
     ·have := h.lt (inM g h2); omega
     ·omega
    ·have := h.lt (inK g h1); omega
    ·have := h.lt (inN g (frR g h1).1); omega
 ·intro g hg;rcases jAC.1 hg with hg | hg
  ·rcases Sc.mem_hot hg with h1 | h1 | h1 | ⟨o, ho, h1⟩
   ·exact .inl (inI g h1)
   ·rcases newM g h1 with h2 | h2
    ·exact .inl (inM g h2)
    ·exact .inr (by omega)
   ·exact .inl (inK g h1)
   ·exact .inl (kBR (kEU (hr o ho) h1))
  ·rcases doR g hg with q | q | q
   ·exact .inl (kCa q)
   ·exact .inl (inN g (xN g q))
   ·rcases ny g q with q1 | q1
    ·exact .inl (inN g (xN g q1))
    ·exact .inr q1
end
end Go.Proofs.YtflgicdbbogllaaGreatDoor
namespace Go.Proofs.YtflgicdbbogllaaGreatDoor
open Go.RowKit Go.Maps Go.WideMaps Tryz
open Value (int)
open IntKind (i64)
attribute [local go_sem ↓] wp_at_zero wp_at_succ
variable {V w wo : World} {c j : Nat} {m : Int} {p : Option Addr}
theorem kOp : (prog.info? 35).map (fun i => (i.zero, i.size, i.bytes)) = some (some (.slice none 0 0), 1, 24) := by kernel_rfl
theorem kKt (w : World) (base : Nat) (p : Option Addr) (c : Nat) (ts : List Int) (s : Int) (h : w.ownsRow base 41 1 (.slice p ts.length c) ts.length (ts.map (int i64))) (hb : ts.length + 1 ≤ 8796093022208) (hB : base ≤ w.heap.size) :
  ∃ p' c' w', (Builtin.append_ #[35, 35] 35 #[.slice p ts.length c, .slice (some ⟨w.heap.size, 0, none⟩) 1 1]).run prog (w.alloc (.cells #[int i64 s] 41)) = .ok (.slice p' (ts.length + 1) c') w' ∧
   w'.ownsRow base 41 1 (.slice p' (ts ++ [s]).length c') (ts ++ [s]).length ((ts ++ [s]).map (int i64)) ∧ ((p' = p ∧ c' = c ∧ Fr (blk p) w w') ∨ (Fr [] w w' ∧ ∀ g ∈ blk p', w.heap.size ≤ g)) := by
 obtain ⟨i3, ii, iz, is, ib⟩ := info_parts kCx;have := push2 underlying35 ii iz is ib rfl w base p c (ts.map (int i64)) (int i64 s) (by rw [jAR]; exact h) rfl (by rw [jAR]; unfold maxLen; omega) (by rw [jAR]; omega) hB;rw [jAR] at this;obtain ⟨p', c', w', r1, r2, r3⟩ := this;exact ⟨p', c', w', r1, by rw [jAG, jAP]; exact r2, r3⟩
theorem kEi (w : World) (base : Nat) (p : Option Addr) (c : Nat) (xs : List Value) (x : Value) (h : w.ownsRow base 35 1 (.slice p xs.length c) xs.length xs) (hx : x.oneCell' = true) (hb : xs.length + 1 ≤ 8796093022208) (hB : base ≤ w.heap.size) :
  ∃ p' c' w', (Builtin.append_ #[34, 34] 34 #[.slice p xs.length c, .slice (some ⟨w.heap.size, 0, none⟩) 1 1]).run prog (w.alloc (.cells #[x] 35)) = .ok (.slice p' (xs.length + 1) c') w' ∧
   w'.ownsRow base 35 1 (.slice p' (xs ++ [x]).length c') (xs ++ [x]).length (xs ++ [x]) ∧ ((p' = p ∧ c' = c ∧ Fr (blk p) w w') ∨ (Fr [] w w' ∧ ∀ g ∈ blk p', w.heap.size ≤ g)) := by
 obtain ⟨i36, ii, iz, is, ib⟩ := info_parts kOp;obtain ⟨p', c', w', r1, r2, r3⟩ := push2 underlying34 ii iz is ib rfl w base p c xs x h hx (by unfold maxLen; omega) (by omega) hB;exact ⟨p', c', w', r1, by rw [jAG]; exact r2, r3⟩
theorem pushW {t e : TypeId} {i : TypeInfo} {z : Value} {s bytes : Nat} (ht : prog.underlying t = some (.slice e)) (hi : prog.info? e = some i) (hz : i.zero = some z) (hsize : i.size = s) (hby : i.bytes = bytes) (hzs : z.cells.size = s) (hs0 : 0 < s) 
  (w : World) (base n : Nat) (p : Option Addr) (c : Nat) (xs us : List Value) (h : w.ownsRow base e s (.slice p n c) n xs) (hu : us.length = s) (h1 : ∀ u ∈ us, u.oneCell' = true) (h63 : n + 1 ≤ maxLen) (hb : ((n + 1) + (n + 1) / 4 + 192) * bytes ≤ 281474976710656) (hB : base ≤ w.heap.size) :
  ∃ p' c' w', (Builtin.append_ #[t, t] t #[.slice p n c, .slice (some ⟨w.heap.size, 0, none⟩) 1 1]).run prog (w.alloc (.cells us.toArray e)) = .ok (.slice p' (n + 1) c') w' ∧
   w'.ownsRow base e s (.slice p' (n + 1) c') (n + 1) (xs ++ us) ∧ ((p' = p ∧ c' = c ∧ Fr (blk p) w w') ∨ (Fr [] w w' ∧ ∀ g ∈ blk p', w.heap.size ≤ g)) := by
 have hA : (w.alloc (.cells us.toArray e)).heap.size = w.heap.size + 1 := by simp
 have hown : (w.alloc (.cells us.toArray e)).ownsRow base e s (.slice p n c) n xs := kAE h (fun g hg => jAN _ _ _ (h.lt g hg).2);have hnews : ∀ j u, us[j]? = some u → (w.alloc (.cells us.toArray e)).cell? ((⟨w.heap.size, 0, none⟩ : Addr).add j) = some u := World.news_of_block (heap_alloc_new w _)
 have hul : us.length = 1 * s := by rw [hu, Nat.one_mul]
 have hxl : xs.length = n * s := h.1;obtain ⟨v', w', hr, h2, h3, _⟩ := run_append_own_wide (P := prog) (w.alloc (.cells us.toArray e)) base t t e i z s bytes ht hi hz hsize hby hzs hs0 _ _ _ hown ⟨w.heap.size, 0, none⟩ 1 1 us hul hnews h1 h63 hb (by omega);rcases h.2 with ⟨e1, e2⟩ | ⟨g, c0, cur, e1, q1, q2, q3, q4, q5, q6⟩
 ·injection e1 with e1 e3 e4
  subst e1;subst e4;subst e3;have hr2 := run_append_nil (P := prog) (w.alloc (.cells us.toArray e)) t t e i z ht hi hz ⟨w.heap.size, 0, none⟩ 1 1 us (by rw [hsize]; exact hul) hnews (by decide) (by decide) (by rw [hby]; omega);have hr3 := hr;rw [hr2] at hr3
  injection hr3 with hv hw
  subst hv;subst hw;exact ⟨_, _, _, hr, h2, Or.inr ⟨(Fr.alloc [] w _).trans ((Fr.drew [] _).trans (Fr.alloc [] _ _) (by simp)) (by simp), fun g hg => by simp [blk] at hg; omega⟩⟩
 ·injection e1 with e1 _ e4
  subst e1;subst e4
  by_cases hroom : n + 1 ≤ c
  ·have hg : (w.alloc (.cells us.toArray e)).heap[g]? = some (.cells cur e (0, 0)) := (jAN _ _ _ (kAB q2)).trans q2;have hmul : n * s + s ≤ c * s := by have := Nat.mul_le_mul_right s hroom; rw [Nat.add_mul, Nat.one_mul] at this; exact this
   have hr2 := run_append_room (P := prog) (w.alloc (.cells us.toArray e)) t t e i ht hi g n c cur hg ⟨w.heap.size, 0, none⟩ 1 1 us (by rw [hsize]; exact hul) hnews h1 hroom (by rw [hsize, q5, hu]; first | exact hmul | omega);have hr3 := hr;rw [hr2] at hr3
   injection hr3 with hv hw
   subst hv;refine ⟨_, _, w', hr, h2, Or.inl ⟨rfl, rfl, (Fr.alloc (blk (some ⟨g, 0, none⟩)) w _).trans (Fr.grown (S := [g]) h3 (fun k hk => ?_)) (by simp [blk])⟩⟩
   simp [Value.ownBlock] at hk
   simp [hk]
  ·have holds : ∀ j u, xs[j]? = some u → (w.alloc (.cells us.toArray e)).cell? ((⟨g, 0, none⟩ : Addr).add j) = some u := hown.cells (g := g) rfl
   have hr2 := run_append_grow (P := prog) (w.alloc (.cells us.toArray e)) t t e i z ht hi hz ⟨g, 0, none⟩ n c xs (by rw [hsize]; exact hxl) holds ⟨w.heap.size, 0, none⟩ 1 1 us (by rw [hsize]; exact hul) hnews (by omega) (by unfold maxLen at h63; omega) (by rw [hby]; exact growslice_fits_wide (by omega) hb);have hr3 := hr;rw [hr2] at hr3
   injection hr3 with hv hw
   subst hv;subst hw;exact ⟨_, _, _, hr, h2, Or.inr ⟨(Fr.alloc [] w _).trans ((Fr.drew [] _).trans (Fr.alloc [] _ _) (by simp)) (by simp), fun g hg => by simp [blk] at hg; omega⟩⟩
def PushK (k : Kd) : Prop := ∀ (w : World) (n : Nat) (p : Option Addr) (c : Nat) (m : Int), w.ownsRow 0 k.e k.s (.slice p n c) n (zC k n m) → n ≤ 1200000 →
  ∃ p' c' w', (Builtin.append_ #[k.t, k.t] k.t #[.slice p n c, .slice (some ⟨w.heap.size, 0, none⟩) 1 1]).run prog (w.alloc (.cells (k.z m).toArray k.e)) = .ok (.slice p' (n + 1) c') w' ∧
   w'.ownsRow 0 k.e k.s (.slice p' (n + 1) c') (n + 1) (zC k (n + 1) m) ∧ ((p' = p ∧ c' = c ∧ Fr (blk p) w w') ∨ (Fr [] w w' ∧ ∀ g ∈ blk p', w.heap.size ≤ g))
theorem push_kInts : PushK kNw := fun w n p c m h hn => by
 obtain ⟨i3, ii, iz, is, ib⟩ := info_parts kGs;obtain ⟨p', c', w', r1, r2, r3⟩ := pushW underlying88 ii iz is ib rfl (by decide) w 0 n p c (zC kNw n m) (kNw.z m) h rfl (by intro u hu; simp [kNw] at hu; subst hu; rfl) (by unfold maxLen; omega) (by omega) (jAH _);rw [kKR] at r2;exact ⟨p', c', w', r1, r2, r3⟩
theorem kHn : PushK kBu := fun w n p c m h hn => by
 obtain ⟨i3, ii, iz, is, ib⟩ := info_parts kCx;obtain ⟨p', c', w', r1, r2, r3⟩ := pushW underlying35 ii iz is ib rfl (by decide) w 0 n p c (zC kBu n m) (kBu.z m) h rfl (by intro u hu; simp [kBu] at hu; subst hu; rfl) (by unfold maxLen; omega) (by omega) (jAH _);rw [kKR] at r2;exact ⟨p', c', w', r1, r2, r3⟩
structure Gw (k : Kd) (wo V : World) (x : Le) (m : Int) (j : Nat) (p : Option Addr) (c : Nat) : Prop where
 own : V.ownsRow 0 k.e k.s (.slice p (x.n + j) c) (x.n + j) (zC k (x.n + j) m)
 fl : FlK k V x m
 at_ : (p = x.p ∧ c = x.c) ∨ ∀ g ∈ blk p, wo.heap.size ≤ g
 fr : Fr (blk x.p) wo V
 lt : ∀ g ∈ blk x.p, g < wo.heap.size
theorem Gw.start {k : Kd} {x : Le} (h : OwK k w x m) : Gw k w w x m 0 x.p x.c := ⟨h.row, h.fl, .inl ⟨rfl, rfl⟩, Fr.refl _ _, fun g hg => h.lt hg⟩
theorem zC_add (k : Kd) (a b : Nat) (m : Int) : zC k (a + b) m = zC k a m ++ zC k b m := by unfold zC; rw [← jBN, List.flatten_append]
theorem kJy {k : Kd} {n : Nat} (h : w.ownsRow 0 k.e k.s (.slice p n c) n (zC k n m)) (hs : n ≤ 1200000) : FlK k w ⟨p, n, c⟩ m := by
 refine ⟨?_, hs⟩;rcases h.2 with ⟨h2, h3⟩ | ⟨g, cap, cur, h2, h3⟩
 ·injection h2 with e1 e2 e3
  exact .inl ⟨e1, e2, e3⟩
 ·injection h2 with e1 e2 e3
  subst e1;refine .inr ⟨g, rfl, kAB h3.2.1, fun i hi => ?_⟩;exact h.cellAt i (by have := h.1; omega)
theorem Gw.next {k : Kd} {V' : World} {x : Le} {p' : Option Addr} {c' : Nat} (hz : ∀ m, (k.z m).length = k.s) (h : Gw k wo V x m j p c) (ho : V'.ownsRow 0 k.e k.s (.slice p' (x.n + j + 1) c') (x.n + j + 1) (zC k (x.n + j + 1) m)) 
  (hm : (p' = p ∧ c' = c ∧ Fr (blk p) V V') ∨ (Fr [] V V' ∧ ∀ g ∈ blk p', V.heap.size ≤ g)) : Gw k wo V' x m (j + 1) p' c' := by
 have hsv := h.fr.size;refine ⟨ho, ⟨?_, h.fl.short⟩, ?_, ?_, h.lt⟩
 ·rcases h.fl.at_ with h1 | ⟨g, h1, h2, h3⟩
  ·exact .inl h1
  ·have hgx : g ∈ blk x.p := by rw [h1]; simp [blk]
   refine .inr ⟨g, h1, ?_, ?_⟩
   ·rcases hm with ⟨-, -, e3⟩ | ⟨e3, -⟩
    ·have := e3.size; omega
    ·have := e3.size; omega
   ·intro i hi;rcases hm with ⟨e1, e2, e3⟩ | ⟨e3, -⟩
    ·rcases h.at_ with ⟨a1, a2⟩ | a1
     ·have o2 := ho;rw [e1, a1, h1] at o2;have hl := o2.1;rw [show x.n + j + 1 = x.n + (j + 1) from rfl, zC_add] at o2 hl;have hzl := zC_len k hz x.n m;rw [o2.cellAt i (by rw [Nat.add_mul]; omega), jAK (by omega)]
     ·rw [e3.cell (p := ⟨g, i, none⟩) h2 (fun hm => by have := a1 g hm; have := h.lt g hgx; simp at *; omega)];exact h3 i hi
    ·rw [e3.cell (p := ⟨g, i, none⟩) h2 (by simp)];exact h3 i hi
 ·rcases hm with ⟨e1, e2, -⟩ | ⟨-, e2⟩
  ·rcases h.at_ with ⟨a1, a2⟩ | a1
   ·exact .inl ⟨e1.trans a1, e2.trans a2⟩
   ·refine .inr ?_;rw [e1]; exact a1
  ·exact .inr fun g hg => by have := e2 g hg; omega
 ·rcases hm with ⟨-, -, e3⟩ | ⟨e3, -⟩
  ·refine h.fr.trans e3 fun g hg => ?_
   rcases h.at_ with ⟨a1, -⟩ | a1
   ·exact .inl (a1 ▸ hg)
   ·exact .inr (a1 g hg)
  ·exact h.fr.trans e3 (by simp)
theorem Gw.ny {k : Kd} {x : Le} (h : Gw k wo V x m j p c) : ∀ g ∈ blk p, g ∈ blk x.p ∨ wo.heap.size ≤ g := fun g hg => by
 rcases h.at_ with ⟨a1, -⟩ | a1
 ·exact .inl (a1 ▸ hg)
 ·exact .inr (a1 g hg)
end Go.Proofs.YtflgicdbbogllaaGreatDoor
namespace Go.Proofs.YtflgicdbbogllaaGreatDoor
open Go.RowKit Tryz
open Value (int)
open IntKind (i64)
attribute [local go_sem ↓] wp_at_zero wp_at_succ
variable {b c g i n : Nat} {ls : List Int} {m : Int} {w : World}
structure Hdr where
 o0 : Value
 o1 : Value
 r0 : Value
 r1 : Value
structure Bok (w : World) (b : Nat) (H : Hdr) (S : Sc) : Prop where
 top : w.heap[b]? = some (.cells #[H.o0, H.o1, H.r0, H.r1, S.vI.v, S.vM.v, S.vK.v] 39 (0, 0))
 ok : S.Ok kBu w
 b1 : b ∉ S.all
section
variable {w w' : World} {b : Nat} {H : Hdr} {S : Sc}
theorem Bok.keep {X : List Nat} (h : Bok w b H S) (hf : Fr X w w') (hb : b ∉ X) (hd : ∀ g ∈ S.all, g ∉ X) : Bok w' b H S :=
 ⟨(hf.block b (kAB h.top) hb).trans h.top, h.ok.keep hf hd, h.b1⟩
theorem Bok.push (h : Bok w b H S) (x : Le) (m : Int) (hx : OwK kBu w x m) (ax : ∀ g ∈ blk x.p, g ∉ S.all) (hbx : b ∉ blk x.p) (hk : S.olds.length + S.news.length ≤ 8796093022000) :
  ∃ p1 c1 w1 p4 c4 w4, (Builtin.append_ #[34, 34] 34 #[S.vI.v, .slice (some ⟨w.heap.size, 0, none⟩) 1 1]).run prog (w.alloc (.cells #[x.v] 35)) = .ok (.slice p1 (S.vI.n + 1) c1) w1 ∧
   w1.cell? ⟨b, 4, none⟩ = some S.vI.v ∧ w1.frozen? ⟨b, 4, none⟩ = false ∧ (w1.setCell ⟨b, 4, none⟩ (.slice p1 (S.vI.n + 1) c1)).cell? ⟨b, 6, none⟩ = some S.vK.v ∧
   (Builtin.append_ #[35, 35] 35 #[S.vK.v, .slice (some ⟨(w1.setCell ⟨b, 4, none⟩ (.slice p1 (S.vI.n + 1) c1)).heap.size, 0, none⟩) 1 1]).run prog ((w1.setCell ⟨b, 4, none⟩ (.slice p1 (S.vI.n + 1) c1)).alloc (.cells #[int i64 m] 41)) = .ok (.slice p4 (S.vI.n + 1) c4) w4 ∧
   w4.cell? ⟨b, 6, none⟩ = some S.vK.v ∧ w4.frozen? ⟨b, 6, none⟩ = false ∧
   Bok (w4.setCell ⟨b, 6, none⟩ (.slice p4 (S.vI.n + 1) c4)) b H (S.add x m ⟨p1, S.vI.n + 1, c1⟩ ⟨p4, S.vI.n + 1, c4⟩) ∧ Fr (b :: S.hot) w (w4.setCell ⟨b, 6, none⟩ (.slice p4 (S.vI.n + 1) c4)) ∧ ∀ g ∈ (S.add x m ⟨p1, S.vI.n + 1, c1⟩ ⟨p4, S.vI.n + 1, c4⟩).all, g ∈ S.all ∨ g ∈ blk x.p ∨ w.heap.size ≤ g := by
 have ok := h.ok;have hbl := kAB h.top;have nI := ok.nI;have nK := ok.nK;have lI : (S.Is.map Le.v).length = S.vI.n := by rw [nI]; simp [Sc.Is]
 have lK : S.Ks.length = S.vI.n := by rw [nI]; simp [Sc.Ks]
 have eK : S.vK.n = S.vI.n := by omega
 have lKK : S.Ks.length = S.vK.n := by omega
 have bI : b ∉ blk S.vI.p := fun hm => h.b1 (kBR (blkI hm))
 have bK : b ∉ blk S.vK.p := fun hm => h.b1 (kBR (blkK hm))
 have rI : w.ownsRow 0 35 1 (.slice S.vI.p (S.Is.map Le.v).length S.vI.c) (S.Is.map Le.v).length (S.Is.map Le.v) := by rw [lI]; exact ok.rI
 obtain ⟨p1, c1, w1, r1, o1, mv1⟩ := kEi w 0 S.vI.p S.vI.c (S.Is.map Le.v) x.v rI rfl (by rw [lI]; omega) (jAH _);rw [lI] at r1
 have mv1' : Mv S.vI ⟨p1, S.vI.n + 1, c1⟩ w w1 := by
  rcases mv1 with ⟨e1, -, e3⟩ | ⟨e1, e2⟩
  ·exact .inl ⟨e1, e3⟩
  ·exact .inr ⟨e1, e2⟩
 have o1' : w1.ownsRow 0 kBu.t 1 (Le.v ⟨p1, S.vI.n + 1, c1⟩) (S.vI.n + 1) ((S.Is ++ [x]).map Le.v) := by
  have := o1;rw [jAG, lI] at this;rw [jAP];exact this
 have t1 : w1.heap[b]? = some (.cells #[H.o0, H.o1, H.r0, H.r1, S.vI.v, S.vM.v, S.vK.v] 39 (0, 0)) := (mv1'.fr.block b hbl bI).trans h.top;have s1 := mv1'.fr.size;have F2 : Fr [b] w1 (w1.setCell ⟨b, 4, none⟩ (.slice p1 (S.vI.n + 1) c1)) := Fr.setCell (S := [b]) w1 ⟨b, 4, none⟩ _ (by simp);have t3 : (w1.setCell ⟨b, 4, none⟩ (.slice p1 (S.vI.n + 1) c1)).heap[b]? = some (.cells #[H.o0, H.o1, H.r0, H.r1, (.slice p1 (S.vI.n + 1) c1), S.vM.v, S.vK.v] 39 (0, 0)) := by rw [kAI t1 4 _]; rfl
 have s2 := F2.size;have oK0 : w1.ownsRow 0 41 1 S.vK.v S.vK.n (S.Ks.map (int i64)) := kBe ok.rK mv1'.fr fun g hg hm => ok.dIK g hm hg
 have oK1 : (w1.setCell ⟨b, 4, none⟩ (.slice p1 (S.vI.n + 1) c1)).ownsRow 0 41 1 S.vK.v S.vK.n (S.Ks.map (int i64)) := kBe oK0 F2 fun g hg hm => by
  have e : g = b := by simpa using hm
  exact bK (e ▸ hg)
 have eV : S.vK.v = .slice S.vK.p S.Ks.length S.vK.c := by rw [lK, ← eK]; rfl
 have rK : (w1.setCell ⟨b, 4, none⟩ (.slice p1 (S.vI.n + 1) c1)).ownsRow 0 41 1 (.slice S.vK.p S.Ks.length S.vK.c) S.Ks.length (S.Ks.map (int i64)) := by rw [← eV, lKK]; exact oK1
 obtain ⟨p4, c4, w4, r4, o4, mv4⟩ := kKt (w1.setCell ⟨b, 4, none⟩ (.slice p1 (S.vI.n + 1) c1)) 0 S.vK.p S.vK.c S.Ks m rK (by rw [lK]; omega) (jAH _);rw [← eV, lK] at r4
 have mv4' : Mv S.vK ⟨p4, S.vI.n + 1, c4⟩ (w1.setCell ⟨b, 4, none⟩ (.slice p1 (S.vI.n + 1) c1)) w4 := by
  rcases mv4 with ⟨e1, -, e3⟩ | ⟨e1, e2⟩
  ·exact .inl ⟨e1, e3⟩
  ·exact .inr ⟨e1, e2⟩
 have o4' : w4.ownsRow 0 kBu.m 1 (Le.v ⟨p4, S.vI.n + 1, c4⟩) (S.vI.n + 1) ((S.Ks ++ [m]).map (int i64)) := by
  have := o4;rw [jAG, lK] at this;exact this
 have t4 : w4.heap[b]? = some (.cells #[H.o0, H.o1, H.r0, H.r1, (.slice p1 (S.vI.n + 1) c1), S.vM.v, S.vK.v] 39 (0, 0)) := (mv4'.fr.block b (by omega) bK).trans t3;have t5 : (w4.setCell ⟨b, 6, none⟩ (.slice p4 (S.vI.n + 1) c4)).heap[b]? = some (.cells #[H.o0, H.o1, H.r0, H.r1, (.slice p1 (S.vI.n + 1) c1), S.vM.v, (.slice p4 (S.vI.n + 1) c4)] 39 (0, 0)) := by rw [kAI t4 6 _]; rfl
 have F4 : Fr [b] w4 (w4.setCell ⟨b, 6, none⟩ (.slice p4 (S.vI.n + 1) c4)) := Fr.setCell (S := [b]) w4 ⟨b, 6, none⟩ _ (by simp);obtain ⟨q1, q2, q3⟩ := ok.add x m hx (fun g hg hm => ax g hg (hm)) b h.b1 hbx hbl (vI' := ⟨p1, S.vI.n + 1, c1⟩) (vK' := ⟨p4, S.vI.n + 1, c4⟩) o1' (by rw [← nI]) mv1' F2 o4' (by rw [← nI]) mv4' F4
 have bN : b ∉ (S.add x m ⟨p1, S.vI.n + 1, c1⟩ ⟨p4, S.vI.n + 1, c4⟩).all := fun hm => by
  rcases q3 b hm with h1 | h1 | h1
  ·exact h.b1 h1
  ·exact hbx h1
  ·omega
 exact ⟨p1, c1, w1, p4, c4, w4, r1, by rw [kAC t1]; rfl, kAD t1 4, by rw [kAC t3]; rfl, r4, by rw [kAC t4]; rfl, kAD t4 6, ⟨t5, q1, bN⟩, q2, q3⟩
theorem rowc {e : TypeId} {v : Le} {xs : List Value} (h : w.ownsRow 0 e 1 v.v v.n xs) (hi : i < xs.length) : ∃ g, v.p = some ⟨g, 0, none⟩ ∧ g < w.heap.size ∧ w.cell? ⟨g, i, none⟩ = xs[i]? := by
 have hl := h.1;rcases h.2 with ⟨h2, h3⟩ | ⟨g, cap, cur, h2, h3⟩
 ·omega
 ·have e : v.p = some ⟨g, 0, none⟩ := by
   obtain ⟨p, k, c⟩ := v;have h2' : Value.slice p k c = _ := h2
   injection h2' with h2'
  refine ⟨g, e, kAB h3.2.1, ?_⟩;rw [h2] at h;exact h.cellAt i (by omega)
theorem Sc.Ok.first {k : Kd} {S : Sc} (h : S.Ok k w) {x : Le} {rest : List (Le × Int)} (hn : S.news = (x, m) :: rest) :
  (∃ g, S.vI.p = some ⟨g, 0, none⟩ ∧ g < w.heap.size ∧ w.cell? ⟨g, S.olds.length, none⟩ = some x.v) ∧ ∃ g, S.vK.p = some ⟨g, 0, none⟩ ∧ g < w.heap.size ∧ w.cell? ⟨g, S.olds.length, none⟩ = some (int i64 m) := by
 refine ⟨?_, ?_⟩
 ·obtain ⟨g, h1, h2, h3⟩ := rowc h.rI (i := S.olds.length) (by simp [Sc.Is, hn]);refine ⟨g, h1, h2, h3.trans ?_⟩
  simp [Sc.Is, hn]
 ·obtain ⟨g, h1, h2, h3⟩ := rowc h.rK (i := S.olds.length) (by simp [Sc.Ks, hn]);refine ⟨g, h1, h2, h3.trans ?_⟩
  simp [Sc.Ks, hn]
theorem Sc.Ok.ith {k : Kd} {S : Sc} (h : S.Ok k w) (hi : i < S.olds.length) : ∃ x y m, FlK k w x m ∧ FlK k w y m ∧
  (∃ g, S.vI.p = some ⟨g, 0, none⟩ ∧ g < w.heap.size ∧ w.cell? ⟨g, i, none⟩ = some x.v) ∧ (∃ g, S.vM.p = some ⟨g, 0, none⟩ ∧ g < w.heap.size ∧ w.cell? ⟨g, i, none⟩ = some y.v) ∧ ∃ g, S.vK.p = some ⟨g, 0, none⟩ ∧ g < w.heap.size ∧ w.cell? ⟨g, i, none⟩ = some (int i64 m) := by
 have hm := jAT hi;obtain ⟨f1, f2⟩ := h.old _ hm;refine ⟨_, _, _, f1, f2, ?_, ?_, ?_⟩
 ·obtain ⟨g, h1, h2, h3⟩ := rowc h.rI (i := i) (by simp [Sc.Is]; omega);refine ⟨g, h1, h2, h3.trans ?_⟩
  simp [Sc.Is, jAK, hi]
 ·obtain ⟨g, h1, h2, h3⟩ := rowc h.rM (i := i) (by simp [Sc.Ms]; omega);refine ⟨g, h1, h2, h3.trans ?_⟩
  simp [Sc.Ms, hi]
 ·obtain ⟨g, h1, h2, h3⟩ := rowc h.rK (i := i) (by simp [Sc.Ks]; omega);refine ⟨g, h1, h2, h3.trans ?_⟩
  simp [Sc.Ks, jAK, hi]
theorem Bok.grow (h : Bok w b H S) {x : Le} {rest : List (Le × Int)} (hn : S.news = (x, m) :: rest) (hk : S.olds.length + S.news.length ≤ 8796093022000) {V : World} {p : Option Addr} (hg : Gw kBu w V x m 70 p c) :
  V.cell? ⟨b, 5, none⟩ = some S.vM.v ∧ ∃ p1 c1 w1, (Builtin.append_ #[34, 34] 34 #[S.vM.v, .slice (some ⟨V.heap.size, 0, none⟩) 1 1]).run prog (V.alloc (.cells #[.slice p (x.n + 70) c] 35)) = .ok (.slice p1 (S.vM.n + 1) c1) w1 ∧
   w1.cell? ⟨b, 5, none⟩ = some S.vM.v ∧ w1.frozen? ⟨b, 5, none⟩ = false ∧ Bok (w1.setCell ⟨b, 5, none⟩ (.slice p1 (S.vM.n + 1) c1)) b H (S.grown x m rest ⟨p, x.n + 70, c⟩ ⟨p1, S.vM.n + 1, c1⟩) ∧ Fr (b :: S.hot) w (w1.setCell ⟨b, 5, none⟩ (.slice p1 (S.vM.n + 1) c1)) ∧ ∀ g ∈ (S.grown x m rest ⟨p, x.n + 70, c⟩ ⟨p1, S.vM.n + 1, c1⟩).all, g ∈ S.all ∨ w.heap.size ≤ g := by
 have ok := h.ok;have hbl := kAB h.top;have nM := ok.nM;have hx : (x, m) ∈ S.news := by rw [hn]; exact List.mem_cons_self
 have xN : ∀ g ∈ blk x.p, g ∈ S.fresh := fun g hg => jAd.2 ⟨(x, m), hx, hg⟩
 have bx : b ∉ blk x.p := fun hm => h.b1 (kBR (jAC.2 (.inr (xN b hm))))
 have bM : b ∉ blk S.vM.p := fun hm => h.b1 (kBR (blkM hm))
 have t0 : V.heap[b]? = some (.cells #[H.o0, H.o1, H.r0, H.r1, S.vI.v, S.vM.v, S.vK.v] 39 (0, 0)) := (hg.fr.block b hbl bx).trans h.top;have sV := hg.fr.size;have lM : (S.Ms.map Le.v).length = S.vM.n := by rw [nM]; simp [Sc.Ms]
 have oM0 : V.ownsRow 0 35 1 S.vM.v S.vM.n (S.Ms.map Le.v) := kBe ok.rM hg.fr fun g hg hm => ok.dMN g hg (xN g hm)
 have rM : V.ownsRow 0 35 1 (.slice S.vM.p (S.Ms.map Le.v).length S.vM.c) (S.Ms.map Le.v).length (S.Ms.map Le.v) := by rw [lM]; exact oM0
 obtain ⟨p1, c1, w1, r1, o1, mv1⟩ := kEi V 0 S.vM.p S.vM.c (S.Ms.map Le.v) (.slice p (x.n + 70) c) rM rfl (by rw [lM]; omega) (jAH _);rw [lM] at r1
 have mv1' : Mv S.vM ⟨p1, S.vM.n + 1, c1⟩ V w1 := by
  rcases mv1 with ⟨e1, -, e3⟩ | ⟨e1, e2⟩
  ·exact .inl ⟨e1, e3⟩
  ·exact .inr ⟨e1, e2⟩
 have o1' : w1.ownsRow 0 kBu.t 1 (Le.v ⟨p1, S.vM.n + 1, c1⟩) (S.vM.n + 1) ((S.Ms ++ [(⟨p, x.n + 70, c⟩ : Le)]).map Le.v) := by
  have := o1;rw [jAG, lM] at this;rw [jAP];exact this
 have t1 : w1.heap[b]? = some (.cells #[H.o0, H.o1, H.r0, H.r1, S.vI.v, S.vM.v, S.vK.v] 39 (0, 0)) := (mv1'.fr.block b (by omega) bM).trans t0;have F2 : Fr [b] w1 (w1.setCell ⟨b, 5, none⟩ (.slice p1 (S.vM.n + 1) c1)) := Fr.setCell (S := [b]) w1 ⟨b, 5, none⟩ _ (by simp);have t3 : (w1.setCell ⟨b, 5, none⟩ (.slice p1 (S.vM.n + 1) c1)).heap[b]? = some (.cells #[H.o0, H.o1, H.r0, H.r1, S.vI.v, (.slice p1 (S.vM.n + 1) c1), S.vK.v] 39 (0, 0)) := by rw [kAI t1 5 _]; rfl
 have hsh := (ok.new _ hx).short;obtain ⟨q1, q2, q3⟩ := ok.grown hn b h.b1 hbl (y := ⟨p, x.n + 70, c⟩) (vM' := ⟨p1, S.vM.n + 1, c1⟩) hg.fr (kJy hg.own (by have : x.n ≤ 1100000 := hsh; omega)) hg.fl hg.ny o1' (by rw [← nM]) mv1' F2
 have bN : b ∉ (S.grown x m rest ⟨p, x.n + 70, c⟩ ⟨p1, S.vM.n + 1, c1⟩).all := fun hm => by
  rcases q3 b hm with h1 | h1
  ·exact h.b1 h1
  ·omega
 exact ⟨by rw [kAC t0]; rfl, p1, c1, w1, r1, by rw [kAC t1]; rfl, kAD t1 5, ⟨t3, q1, bN⟩, q2, q3⟩
end
theorem kOT (k : Kd) (hz : ∀ m, (k.z m).length = k.s) (m : Int) (r : Nat) (hr : r < k.s) : ∀ (n i : Nat), i < n → (zC k n m)[i * k.s + r]? = (k.z m)[r]?
 | 0, i, hi => by omega
 | n + 1, 0, hi => by
  have e : zC k (n + 1) m = k.z m ++ zC k n m := by unfold zC; rw [jBc, List.flatten_cons]
  rw [e, Nat.zero_mul, jAl, jAK (by rw [hz]; exact hr)]
 | n + 1, i + 1, hi => by
  have e : zC k (n + 1) m = k.z m ++ zC k n m := by unfold zC; rw [jBc, List.flatten_cons]
  have h1 : (i + 1) * k.s + r = k.s + (i * k.s + r) := by rw [Nat.succ_mul]; omega
  rw [e, h1, jAI (by rw [hz]; omega), hz, Nat.add_sub_cancel_left];exact kOT k hz m r hr n i (by omega)
theorem FlK.rd1 {k : Kd} {x : Le} (hs : k.s = 1) (hz : ∀ m, k.z m = [int i64 m]) (h : FlK k w x m) : Rd w x.v (List.replicate x.n m) := by
 obtain ⟨p, n, c⟩ := x;have hsh := h.short;refine ⟨⟨p, c, by simp [Le.v], fun h0 => ?_⟩, fun c' hc' => ?_, by simp at hsh ⊢; omega⟩
 ·rcases h.at_ with ⟨h1, h2, h3⟩ | ⟨g, h1, h2, h3⟩
  ·rw [jAY] at h0; simp at h2; simp at h0; omega
  ·refine ⟨g, 0, h1, h2, fun i hi => ?_⟩;rw [jAY] at hi;rw [jAl, h3 i (by rw [hs]; simpa using hi)];have := kOT k (by intro m; rw [hz, hs]; rfl) m 0 (by omega) n i hi;rw [hs, jBk, jBm, hz] at this;rw [this]
   simp [jAA, hi]
 ·rcases h.at_ with ⟨h1, h2, h3⟩ | ⟨g, h1, h2, h3⟩
  ·injection hc' with e1 e2 e3
   have h4 : c = 0 := h3;omega
  ·injection hc' with e1 e2 e3
   simp at h1
   rw [h1] at e1
   cases e1
theorem FlK.rdW {x : Le} (h : FlK kBu w x m) : Rd w x.v (List.replicate x.n m) := h.rd1 rfl fun _ => rfl
theorem kFi {t : TypeId} (h : w.ownsRow b t 1 (.slice (some ⟨g, 0, none⟩) n c) n (ls.map (int i64))) (k : Nat) (hk : k < ls.length) : w.cell? ⟨g, k, none⟩ = some (int i64 (ls.getD k 0)) := by
 have hl := h.1;rw [jAR] at hl;rw [h.cellAt k (by omega), jAQ, jAA, jAB hk];rfl
theorem kMJ {t : TypeId} {ms : List Int} (h : w.ownsRow b t 1 (.slice (some ⟨g, 0, none⟩) n c) n ((ls ++ ms).map (int i64))) (hl : ls.length ≤ 17592186043904) : Rd w (.slice (some ⟨g, 0, none⟩) ls.length c) ls := by
 refine ⟨⟨_, _, rfl, fun hp => ⟨g, 0, rfl, jAf w ⟨g, 0, none⟩ (kFi h 0 (by simp; omega)), fun i hi => ?_⟩⟩, fun c' hc => (by injection hc with e; cases e), hl⟩;rw [jAl, kFi h i (by simp; omega), jAA, jAK hi, ← jAA]
end Go.Proofs.YtflgicdbbogllaaGreatDoor
