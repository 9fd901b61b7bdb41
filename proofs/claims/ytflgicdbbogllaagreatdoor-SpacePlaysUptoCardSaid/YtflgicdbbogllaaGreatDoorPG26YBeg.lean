import Derived.Test.YtflgicdbbogllaaGreatDoorPG25YRts
set_option maxHeartbeats 4000000
set_option maxRecDepth 20000
set_option linter.unusedSimpArgs false
set_option linter.unusedVariables false
namespace Go.Proofs.YtflgicdbbogllaaGreatDoor
open Go.RowKit Go.Maps Tryz
open Value (int)
open IntKind (i64)
attribute [local go_sem ↓] wp_at_zero wp_at_succ
variable {H : HS} {M M' : MS} {S : List Nat} {b : Bool} {q r : Nat} {st' : List Int} {w w' w1 : World}
structure RqB where
 pb : Nat
 tn : Nat
 mr : Nat
structure RqS where
 R : RS
 M : MS
 fN : Int
 st : List Int
 qv : Value
 br : Option RqB
 c1 : Value
 c2 : Value
 c3 : Value
 c4 : Value
def rqC (r : Nat) (Y : RqS) : Obj := .cells #[.pointer (some ⟨r, 0, none⟩), int i64 Y.fN, Y.qv, .bool Y.br.isSome, Y.c1, Y.c2, Y.c3, Y.c4] 56 (0, 0)
structure Rqs (w : World) (q r : Nat) (Y : RqS) : Prop where
 top : w.heap[q]? = some (rqC r Y)
 rep : RRep w 0 r Y.R
 doc : Doc Y.M Y.R
 stk : w.ownsRow 0 41 1 Y.qv Y.st.length (Y.st.map (int i64))
 sepS : q ∉ kBF r Y.R
 sepV : ∀ g, Y.qv.ownBlock = some g → g ∉ kBF r Y.R ∧ g ≠ q
 bk : ∀ b, Y.br = some b → Y.c1 = .pointer (some ⟨r, 0, none⟩) ∧ Y.c2 = int i64 b.pb ∧ Y.c3 = int i64 b.tn ∧ Y.c4 = int i64 b.mr
def rqF (q r : Nat) (Y : RqS) : List Nat := q :: (Y.qv.ownBlock.toList ++ kBF r Y.R)
theorem kBC {Y : RqS} {g : Nat} : g ∈ rqF q r Y ↔ g = q ∨ Y.qv.ownBlock = some g ∨ g ∈ kBF r Y.R := by
 unfold rqF;rw [jAF, jAC, Option.mem_toList]
theorem Rqs.lt {Y : RqS} (h : Rqs w q r Y) : ∀ g ∈ rqF q r Y, g < w.heap.size := fun g hg => by
 rcases kBC.1 hg with rfl | e | e
 ·exact kAB h.top
 ·exact (h.stk.lt g e).2
 ·exact h.rep.ltF g e
theorem Rqs.keep {Y : RqS} (h : Rqs w q r Y) (hf : Fr S w w') (hd : ∀ g ∈ rqF q r Y, g ∉ S) : Rqs w' q r Y :=
 ⟨(hf.block q (kAB h.top) (hd q (kBC.2 (.inl rfl)))).trans h.top, h.rep.keepF hf (fun g hg => hd g (kBC.2 (.inr (.inr hg)))), h.doc, kAE h.stk fun g hg => hf.block g (h.stk.lt g hg).2 (hd g (kBC.2 (.inr (.inl hg)))), h.sepS, h.sepV, h.bk⟩
theorem Rqs.fK {Y : RqS} (h : Rqs w q r Y) (hf : Fr [] w w') : Rqs w' q r Y := h.keep hf (by simp)
structure RQ (q r : Nat) (Y : RqS) (w : World) (Y' : RqS) (w' : World) : Prop where
 ok : Rqs w' q r Y'
 fr : Fr (rqF q r Y) w w'
 foot : ∀ g ∈ rqF q r Y', g ∈ rqF q r Y ∨ w.heap.size ≤ g
theorem RQ.fK {Y : RqS} (h : Rqs w q r Y) (hf : Fr [] w w') : RQ q r Y w Y w' := ⟨h.fK hf, hf.mono (by simp), fun g hg => .inl hg⟩
theorem RQ.trans {Y Y' Y'' : RqS} {w'' : World} (h : RQ q r Y w Y' w') (k : RQ q r Y' w' Y'' w'') : RQ q r Y w Y'' w'' :=
 ⟨k.ok, h.fr.trans k.fr h.foot, fun g hg => by
  rcases k.foot g hg with p | p
  ·exact h.foot g p
  ·right; have := h.fr.size; omega⟩
theorem RQ.first {Y Y' : RqS} (hf : Fr [] w w1) (k : RQ q r Y w1 Y' w') : RQ q r Y w Y' w' :=
 ⟨k.ok, (hf.mono (by simp)).trans k.fr (fun g hg => .inl hg), fun g hg => by
  rcases k.foot g hg with p | p
  ·exact .inl p
  ·right; have := hf.size; omega⟩
theorem RQ.heap {Y : RqS} {R' : RS} (h : Rqs w q r Y) (h1 : RRep w' 0 r R') (h2 : Doc M' R') (h3 : Fr (kBF r Y.R) w w') (h4 : ∀ g ∈ kBF r R', g ∈ kBF r Y.R ∨ w.heap.size ≤ g) : RQ q r Y w { Y with R := R', M := M' } w' := by
 have out : ∀ {g}, g < w.heap.size → g ∉ kBF r Y.R → g ∉ kBF r R' := fun {g} k1 k2 hm => by
  rcases h4 g hm with p | p
  ·exact k2 p
  ·omega
 refine ⟨⟨(h3.block q (kAB h.top) h.sepS).trans h.top, h1, h2, kAE h.stk fun g hg => h3.block g (h.stk.lt g hg).2 (h.sepV g hg).1, out (kAB h.top) h.sepS, fun g hg => ⟨out (h.stk.lt g hg).2 (h.sepV g hg).1, (h.sepV g hg).2⟩, h.bk⟩, h3.mono fun g hg => .inl (kBC.2 (.inr (.inr hg))), fun g hg => ?_⟩;rcases kBC.1 hg with e | e | e
 ·exact .inl (kBC.2 (.inl e))
 ·exact .inl (kBC.2 (.inr (.inl e)))
 ·rcases h4 g e with p | p
  ·exact .inl (kBC.2 (.inr (.inr p)))
  ·exact .inr p
theorem RQ.own {Y Y' : RqS} (h : Rqs w q r Y) (hf : Fr [q] w w') (ht : w'.heap[q]? = some (rqC r Y')) (hR : Y'.R = Y.R) (hM : Y'.M = Y.M) (hv : Y'.qv = Y.qv) (hs : Y'.st = Y.st) 
  (hb : ∀ b, Y'.br = some b → Y'.c1 = .pointer (some ⟨r, 0, none⟩) ∧ Y'.c2 = int i64 b.pb ∧ Y'.c3 = int i64 b.tn ∧ Y'.c4 = int i64 b.mr) : RQ q r Y w Y' w' := by
 refine ⟨⟨ht, ?_, by rw [hM, hR]; exact h.doc, ?_, by rw [hR]; exact h.sepS, by rw [hR, hv]; exact h.sepV, hb⟩, hf.mono fun g hg => .inl (kBC.2 (.inl (by simpa using hg))), fun g hg => ?_⟩
 ·rw [hR]
  exact h.rep.keepF hf fun g hg hm => by
   have e : g = q := by simpa using hm
   rw [e] at hg; exact h.sepS hg
 ·rw [hv, hs];exact kAE h.stk fun g hg => hf.block g (h.stk.lt g hg).2 (by simpa using (h.sepV g hg).2)
 ·left
  have := kBC.1 hg;rw [hR, hv] at this;exact kBC.2 this
theorem RQ.stk {Y : RqS} {v' : Value} (h : Rqs w q r Y) (ho : w1.ownsRow 0 41 1 v' st'.length (st'.map (int i64))) (hf : Fr S w w1) (hS : ∀ b ∈ S, Y.qv.ownBlock = some b) (hn : ∀ g, v'.ownBlock = some g → Y.qv.ownBlock = some g ∨ w.heap.size ≤ g) (hw : w' = w1.setCell ⟨q, 2, none⟩ v') : RQ q r Y w { Y with qv := v', st := st' } w' := by
 have hsn : q ∉ S := fun hm => (h.sepV q (hS q hm)).2 rfl
 have ht := (hf.block q (kAB h.top) hsn).trans h.top;have f2 : Fr [q] w1 w' := by rw [hw]; exact Fr.setCell (S := [q]) w1 ⟨q, 2, none⟩ _ (by simp)
 have F : Fr (q :: S) w w' := (hf.mono (fun b hb => .inl (by simp [hb]))).trans f2 (fun b hb => .inl (by have e : b = q := (by simpa using hb); rw [e]; simp))
 have hd : ∀ g ∈ kBF r Y.R, g ∉ q :: S := fun g hg hm => by
  rcases jAF.1 hm with e | hm
  ·rw [e] at hg; exact h.sepS hg
  ·exact (h.sepV g (hS g hm)).1 hg
 have hv' : ∀ g, v'.ownBlock = some g → g ∉ kBF r Y.R ∧ g ≠ q := fun g hg => by
  rcases hn g hg with h1 | h1
  ·exact h.sepV g h1
  ·refine ⟨fun hm => ?_, fun e => ?_⟩
   ·have := h.rep.ltF g hm; omega
   ·have := kAB h.top; omega
 refine ⟨⟨?_, h.rep.keepF F hd, h.doc, ?_, h.sepS, hv', h.bk⟩, F.mono fun g hg => ?_, fun g hg => ?_⟩
 ·rw [hw];have := kAI (show w1.heap[q]? = some (.cells #[.pointer (some ⟨r, 0, none⟩), int i64 Y.fN, Y.qv, .bool Y.br.isSome, Y.c1, Y.c2, Y.c3, Y.c4] 56 (0, 0)) from ht) 2 v';rw [this]; rfl
 ·refine kAE ho fun g hg => f2.block g (ho.lt g hg).2 ?_
  have := (hv' g hg).2
  simpa using this
 ·rcases jAF.1 hg with e | e
  ·exact .inl (kBC.2 (.inl e))
  ·exact .inl (kBC.2 (.inr (.inl (hS g e))))
 ·rcases kBC.1 hg with e | e | e
  ·exact .inl (kBC.2 (.inl e))
  ·rcases hn g e with p | p
   ·exact .inl (kBC.2 (.inr (.inl p)))
   ·exact .inr p
  ·exact .inl (kBC.2 (.inr (.inr e)))
def RBr (kd : Nat) (b : Bool) (Y Y' : RqS) : Prop :=
 match kd with
 | 0 => Y'.br = Y.br ∧ OldR b Y.R Y'.R
 | 1 => Y.br = none ∧ Y'.br = none ∧ Y'.R.fO ≤ Y.R.fO + 2 ∧ Y'.R.fL ≤ Y.R.fL + 3
 | 2 => Y.br = none ∧ Y'.br = some ⟨Y'.R.fL, Y'.R.fO, Y'.M.mark⟩ ∧ Y'.R.fO ≤ Y.R.fO + 2 ∧ Y'.R.fL ≤ Y.R.fL + 3
 | _ => Y'.br = none ∧ Y'.R.fO ≤ Y.R.fO + 2 ∧ Y'.R.fL ≤ Y.R.fL + 3
def RO' (q r : Nat) (Y : RqS) (kd : Nat) (b : Bool) (M' : MS) (r' : Int) (st' : List Int) (w w' : World) : Prop :=
 ∃ Y', RQ q r Y w Y' w' ∧ Y'.M = M' ∧ Y'.fN = r' ∧ Y'.st = st' ∧ RBr kd b Y Y'
theorem RO'.fK {Y : RqS} (h : Rqs w q r Y) (hf : Fr [] w w') : RO' q r Y 0 false Y.M Y.fN Y.st w w' :=
 ⟨Y, RQ.fK h hf, rfl, rfl, rfl, rfl, OldR.same rfl rfl rfl⟩
theorem RO'.first {Y : RqS} {kd : Nat} {r' : Int} (hf : Fr [] w w1) (h : RO' q r Y kd b M' r' st' w1 w') : RO' q r Y kd b M' r' st' w w' := by
 obtain ⟨Y', h1, h2⟩ := h;exact ⟨Y', h1.first hf, h2⟩
theorem RO'.of {Y : RqS} (h : Rqs w q r Y) (hp : RN b r Y.R M' w w') : RO' q r Y 0 b M' Y.fN Y.st w w' := by
 obtain ⟨R', h1, h2, h3, h4, h5⟩ := hp;exact ⟨_, RQ.heap h h1 h2 h3 h4, rfl, rfl, rfl, rfl, h5⟩
theorem Rqs.cells {Y : RqS} (h : Rqs w q r Y) : w.cell? ⟨q, 0, none⟩ = some (.pointer (some ⟨r, 0, none⟩)) ∧ w.cell? ⟨q, 1, none⟩ = some (int i64 Y.fN) ∧ w.cell? ⟨q, 2, none⟩ = some Y.qv ∧ w.cell? ⟨q, 3, none⟩ = some (.bool Y.br.isSome) ∧ w.cell? ⟨q, 4, none⟩ = some Y.c1 ∧ w.cell? ⟨q, 5, none⟩ = some Y.c2 ∧ w.cell? ⟨q, 6, none⟩ = some Y.c3 ∧ w.cell? ⟨q, 7, none⟩ = some Y.c4 :=
 ⟨by rw [kAC h.top]; rfl, by rw [kAC h.top]; rfl, by rw [kAC h.top]; rfl, by rw [kAC h.top]; rfl, by rw [kAC h.top]; rfl, by rw [kAC h.top]; rfl, by rw [kAC h.top]; rfl, by rw [kAC h.top]; rfl⟩
section
variable {w : World} {q r : Nat} {Y : RqS} {H : HS}
theorem kKX (h : Rqs w q r Y) (hi : Inv H Y.M) (o : Int) : Calls prog 18 #[.pointer (some ⟨q, 0, none⟩), int i64 o] w fun e w' =>
  e = .returned (int i64 (if mhas Y.M o = true then 0 else 20)) ∧ RO' q r Y 0 false Y.M (if mhas Y.M o = true then o else Y.fN) Y.st w w' := by
 obtain ⟨E, rt, e1, e2, hE⟩ : ∃ E rt : Int, (if mhas Y.M o = true then (0 : Int) else 20) = E ∧ (if mhas Y.M o = true then o else Y.fN) = rt ∧ ((E = 0 ∧ rt = o) ∨ (E = 20 ∧ rt = Y.fN)) := by
  cases mhas Y.M o with
  | true => exact ⟨_, _, rfl, rfl, .inl ⟨rfl, rfl⟩⟩
  | false => exact ⟨_, _, rfl, rfl, .inr ⟨rfl, rfl⟩⟩
 obtain ⟨c0, -⟩ := h.cells
 have HC : Hid (Calls prog 54 #[.pointer (some ⟨r, 0, none⟩), int i64 o] w fun e w' => ∃ c, e = .returned (.tuple #[int i64 c, int i64 E]) ∧ Fr [] w w') := by
  show Calls _ _ _ _ _;rw [← e1];exact (kHe o r Y.R Y.M w h.rep h.doc (h.doc.bd hi)).mono fun e w' ⟨h1, h2⟩ => ⟨_, h1, h2⟩
 have HS := kAA h;rw [e1, e2];clear h hi e1 e2;go_enter func18, ntmps18
 go_wp2_with fail
 refine HC.out.mono ?_;rintro e w2 ⟨c, rfl, hf2⟩;have hs2 := HS.out.fK hf2;obtain ⟨-, c1, -⟩ := hs2.cells;have fz := kAD hs2.top 1;have HF := kAA hf2
 have HZ : Hid (RQ q r Y w { Y with fN := o } (w2.setCell ⟨q, 1, none⟩ (int i64 o))) := by
  have f2 : Fr [q] w2 (w2.setCell ⟨q, 1, none⟩ (int i64 o)) := Fr.setCell (S := [q]) w2 ⟨q, 1, none⟩ _ (by simp);refine (RQ.own (Y' := { Y with fN := o }) hs2 f2 ?_ rfl rfl rfl rfl HS.out.bk).first hf2
  rw [kAI (show w2.heap[q]? = some (.cells #[.pointer (some ⟨r, 0, none⟩), int i64 Y.fN, Y.qv, .bool Y.br.isSome, Y.c1, Y.c2, Y.c3, Y.c4] 56 (0, 0)) from hs2.top) 1 _];rfl
 clear hf2 hs2 HC;rcases hE with ⟨rfl, rfl⟩ | ⟨rfl, rfl⟩
 ·go_wp2_with fail
  go_ret
  exact ⟨rfl, _, HZ.out, rfl, rfl, rfl, rfl, OldR.same rfl rfl rfl⟩
 ·go_wp2_with fail
  go_ret
  exact ⟨rfl, RO'.fK HS.out HF.out⟩
theorem kHy (h : Rqs w q r Y) (hi : Inv H Y.M) : Calls prog 36 #[.pointer (some ⟨q, 0, none⟩)] w fun e w' => e = .returned (int i64 (if mhas Y.M Y.fN = true then Y.fN else 0)) ∧ Fr [] w w' := by
 have HC : Hid (∀ V, Hid (Fr [] w V) → Calls prog 54 #[.pointer (some ⟨r, 0, none⟩), int i64 Y.fN] V fun e w' => ∃ c, e = .returned (.tuple #[int i64 c, int i64 (if mhas Y.M Y.fN = true then 0 else 20)]) ∧ Fr [] V w') := fun V hV => (kHe Y.fN r Y.R Y.M V (h.fK hV.out).rep h.doc (h.doc.bd hi)).mono fun e w' ⟨h1, h2⟩ => ⟨_, h1, h2⟩
 have HCl : Hid (∀ V, Hid (Fr [] w V) → V.cell? ⟨q, 0, none⟩ = some (.pointer (some ⟨r, 0, none⟩)) ∧ V.cell? ⟨q, 1, none⟩ = some (int i64 Y.fN)) := fun V hV => by
  obtain ⟨d0, d1, -⟩ := (h.fK hV.out).cells;exact ⟨d0, d1⟩
 have hR : Hid (Fr [] w w) := Fr.refl _ _;clear h hi
 cases hh : mhas Y.M Y.fN
 case' false => simp only [hh, Bool.false_eq_true, if_false] at HC ⊢
 case' true => simp only [hh, if_true] at HC ⊢
 all_goals
  go_enter func36, ntmps36
  go_wp2_with fail
  go_region_held3 (fun V => V.cell? ⟨q, 0, none⟩ = some (.pointer (some ⟨r, 0, none⟩)) ∧ V.cell? ⟨q, 1, none⟩ = some (int i64 Y.fN))
   (first | exact HCl.out _ (kAF hR) | exact HCl.out _ hR | exact HCl.out _ (by assumption))
   (first | (go_at_call 54; refine (HC.out _ (kAF hR)).mono ?_; rintro e w2 ⟨c, rfl, hf2⟩; have hf3 : Hid (Fr [] w w2) := (kAF hR).out.trans hf2 (by simp)))
  all_goals go_wp2_with fail
  all_goals
   obtain ⟨d0, d1⟩ := HCl.out _ hf3
   go_wp2_with fail
   go_ret
   exact ⟨rfl, hf3.out⟩
theorem kNc (h : Rqs w q r Y) (hi : Inv H Y.M) (i : Int) : Calls prog 20 #[.pointer (some ⟨q, 0, none⟩), int i64 i] w fun e w' => e = .returned (.tuple #[int i64 (atA Y.M Y.fN i).1, int i64 (atA Y.M Y.fN i).2]) ∧ Fr [] w w' := by
 have HC : Hid (∀ V, Hid (Fr [] w V) → Calls prog 56 #[.pointer (some ⟨r, 0, none⟩), int i64 Y.fN, int i64 i] V fun e w' => e = .returned (.tuple #[int i64 (atA Y.M Y.fN i).1, int i64 (atA Y.M Y.fN i).2]) ∧ Fr [] V w') := fun V hV => rAtM Y.fN i r Y.R Y.M V (h.fK hV.out).rep h.doc (h.doc.bd hi)
 have HCl : Hid (∀ V, Hid (Fr [] w V) → V.cell? ⟨q, 0, none⟩ = some (.pointer (some ⟨r, 0, none⟩)) ∧ V.cell? ⟨q, 1, none⟩ = some (int i64 Y.fN)) := fun V hV => by
  obtain ⟨d0, d1, -⟩ := (h.fK hV.out).cells;exact ⟨d0, d1⟩
 have hR : Hid (Fr [] w w) := Fr.refl _ _;clear h hi;generalize (atA Y.M Y.fN i).1 = x at *;generalize (atA Y.M Y.fN i).2 = y at *;go_enter func20, ntmps20
 go_wp2_with fail
 go_region_held3 (fun V => V.cell? ⟨q, 0, none⟩ = some (.pointer (some ⟨r, 0, none⟩)) ∧ V.cell? ⟨q, 1, none⟩ = some (int i64 Y.fN))
  (first | exact HCl.out _ (kAF hR) | exact HCl.out _ hR | exact HCl.out _ (by assumption))
  (first | (go_at_call 56; refine (HC.out _ (kAF hR)).mono ?_; rintro e w2 ⟨rfl, hf2⟩; have hf3 : Hid (Fr [] w w2) := (kAF hR).out.trans hf2 (by simp)))
 all_goals go_wp2_with fail
 all_goals
  go_ret2
  exact ⟨rfl, hf3.out⟩
theorem kHb (h : Rqs w q r Y) (hi : Inv H Y.M) (i v : Int) :
  Calls prog 16 #[.pointer (some ⟨q, 0, none⟩), int i64 i, int i64 v] w fun e w' => e = .returned (int i64 (putA Y.M Y.fN i v)) ∧ RO' q r Y 0 false (putN Y.M Y.fN i v) Y.fN Y.st w w' := by
 have HCl : Hid (∀ V, Hid (Fr [] w V) → V.cell? ⟨q, 0, none⟩ = some (.pointer (some ⟨r, 0, none⟩)) ∧ V.cell? ⟨q, 1, none⟩ = some (int i64 Y.fN)) := fun V hV => by
  obtain ⟨d0, d1, -⟩ := (h.fK hV.out).cells;exact ⟨d0, d1⟩
 have HCs : Hid (∀ V, Hid (RO' q r Y 0 false (putN Y.M Y.fN i v) Y.fN Y.st w V) → V.cell? ⟨q, 0, none⟩ = some (.pointer (some ⟨r, 0, none⟩)) ∧ V.cell? ⟨q, 1, none⟩ = some (int i64 Y.fN)) := fun V hV => by
  obtain ⟨Y', h1, -, h3, -⟩ := hV.out;obtain ⟨d0, d1, -⟩ := h1.ok.cells;rw [h3] at d1;exact ⟨d0, d1⟩
 have HP : Hid (∀ V, Hid (Fr [] w V) → Calls prog 52 #[.pointer (some ⟨r, 0, none⟩), int i64 Y.fN, int i64 i, int i64 v] V fun e w' => e = .returned (int i64 (putA Y.M Y.fN i v)) ∧ Hid (RO' q r Y 0 false (putN Y.M Y.fN i v) Y.fN Y.st w w')) := fun V hV => by
  have hsV := h.fK hV.out;refine (rPutM Y.fN i v r Y.R Y.M V hsV.rep hsV.doc (hsV.doc.bd hi)).mono ?_;rintro e w' ⟨rfl, h1⟩;exact ⟨rfl, (RO'.of hsV h1).first hV.out⟩
 have hR : Hid (Fr [] w w) := Fr.refl _ _;clear h hi;generalize putA Y.M Y.fN i v = E at *;go_enter func16, ntmps16
 go_wp2_with fail
 go_region_held3 (fun V => V.cell? ⟨q, 0, none⟩ = some (.pointer (some ⟨r, 0, none⟩)) ∧ V.cell? ⟨q, 1, none⟩ = some (int i64 Y.fN))
  (first | exact HCl.out _ (kAF hR) | exact HCl.out _ hR | exact HCs.out _ hg2)
  (first | (go_at_call 52; refine (HP.out _ (kAF hR)).mono ?_; rintro e w2 ⟨rfl, hg2⟩))
 all_goals go_wp2_with fail
 all_goals
  go_ret
  exact ⟨rfl, hg2.out⟩
theorem kJP (h : Rqs w q r Y) : Calls prog 31 #[.pointer (some ⟨q, 0, none⟩)] w fun e w' =>
  e = .returned (int i64 (if Y.br = none then 25 else 0)) ∧ RO' q r Y 3 false Y.M Y.fN Y.st w w' := by
 obtain ⟨-, -, -, c3, -⟩ := h.cells;have fz := kAD h.top 3;have HS := kAA h
 have HZ : Hid (Y.br ≠ none → RQ q r Y w { Y with br := none } (w.setCell ⟨q, 3, none⟩ (.bool false))) := fun hb => by
  have f2 : Fr [q] w (w.setCell ⟨q, 3, none⟩ (.bool false)) := Fr.setCell (S := [q]) w ⟨q, 3, none⟩ _ (by simp);refine RQ.own (Y' := { Y with br := none }) h f2 ?_ rfl rfl rfl rfl (fun b hb => by cases hb);rw [kAI (show w.heap[q]? = some (.cells #[.pointer (some ⟨r, 0, none⟩), int i64 Y.fN, Y.qv, .bool Y.br.isSome, Y.c1, Y.c2, Y.c3, Y.c4] 56 (0, 0)) from h.top) 3 _];rfl
 clear h
 cases hb : Y.br with
 | none =>
  rw [hb] at c3;dsimp only [Option.isSome] at c3;go_enter func31, ntmps31
  go_wp2_with fail
  go_ret
  exact ⟨rfl, Y, RQ.fK HS.out (Fr.refl _ _), rfl, rfl, rfl, hb, by omega, by omega⟩
 | some b =>
  rw [hb] at c3;dsimp only [Option.isSome] at c3;have HZ2 := kAA (HZ.out (by rw [hb]; simp));clear HZ;go_enter func31, ntmps31
  go_wp2_with fail
  go_ret
  exact ⟨rfl, _, HZ2.out, rfl, rfl, rfl, rfl, Nat.le_add_right _ _, Nat.le_add_right _ _⟩
end
def lnM (M : MS) (q : Nat) : Int := ((lenN (M.fA.getD (q - 1) noTh).fB.length (M.fA.getD (q - 1) noTh).fmt : Nat) : Int)
def sumQ (f : Nat → Int) : List Nat → Int
 | [] => 0
 | q :: t => f q + sumQ f t
theorem kGN (f : Nat → Int) (l : List Nat) (q : Nat) : sumQ f (l ++ [q]) = sumQ f l + f q := by
 induction l with
 | nil => simp [sumQ]
 | cons x l ih => simp only [List.cons_append, sumQ, ih]; omega
theorem kDz (f : Nat → Int) (hf : ∀ q, 0 ≤ f q ∧ f q ≤ 8194) : ∀ l : List Nat, 0 ≤ sumQ f l ∧ sumQ f l ≤ 8194 * (l.length : Int)
 | [] => by simp [sumQ]
 | q :: t => by
  have h1 := kDz f hf t;have h2 := hf q;simp only [sumQ, jBG]
  push_cast
  omega
theorem kFv (hi : Inv H M) (k : Nat) : (M.fA.getD k noTh).fB.length ≤ 8192 := by
 by_cases hk : k < M.fA.length
 ·have := hi.model.fB k hk; omega
 ·rw [jAA, jAM (by omega)]
  simp [noTh]
theorem kOR (hi : Inv H M) (q : Nat) : 0 ≤ lnM M q ∧ lnM M q ≤ 8194 := by
 unfold lnM;have h1 := kFv hi (q - 1);have h2 := kFA (M.fA.getD (q - 1) noTh).fB.length (M.fA.getD (q - 1) noTh).fmt;omega
noncomputable def roomA (M : MS) (rt : List Int) : Int × Int := ((M.fH : Int) - sumQ (lnM M) (livM M rt), (M.fM : Int) - ((livM M rt).length : Int))
theorem kGk (l : List Nat) (k : Nat) (hk : k < l.length) : l.take (k + 1) = l.take k ++ [l.getD k 0] := by
 rw [jAO hk, jAA, jAB hk]; rfl
theorem kEB (l : List Nat) (k : Nat) (hk : k < l.length) : l.getD k 0 ∈ l := by
 rw [jAA, jAB hk]; exact jAT hk
theorem kMM (l : List Nat) (k : Nat) (hk : k < l.length) : (zs l).getD k 0 = (l.getD k 0 : Int) := by
 unfold zs;rw [jAA, jAQ, jAA, jAB hk]; rfl
theorem kOc {w3 : World} {pl : Option Addr} {cl : Nat} {L : List Nat} (hl : L.length ≤ 100000) (h : w3.ownsRow w.heap.size 3 1 (.slice pl L.length cl) L.length (L.map I)) : Rd w3 (.slice pl L.length cl) (zs L) := by
 have h' : w3.ownsRow w.heap.size 3 1 (.slice pl L.length cl) (zs L).length ((zs L).map (int i64)) := by rw [kLP, kCk]; exact h
 exact kCC h' (by rw [kCk]; omega)
theorem kOv (n f : Nat) (w : World) (hn : (n : Int) ≤ 1048576) :
  Calls prog 83 #[int i64 n, int i64 f] w fun e w' => e = .returned (int i64 ((lenN n f : Nat) : Int)) ∧ w' = w := by
 by_cases hf : f = 1
 ·subst hf;have hi : Hid (((lenN n 1 : Nat) : Int) = 2 + ((n : Int) + 3) / 4) := by show ((lenN n 1 : Nat) : Int) = _; unfold lenN; rw [jp rfl]; push_cast; rfl
  go_enter func83, ntmps83
  go_wp2
  go_ret
  exact ⟨kBK (by have := hi.out; omega), rfl⟩
 ·have hi : Hid (((lenN n f : Nat) : Int) = 2 + (n : Int)) := by show ((lenN n f : Nat) : Int) = _; unfold lenN; rw [jn hf]; push_cast; first | rfl | skip
  have hb : ((f : Int) == 1) = false := by simpa using (by omega : ¬ (f : Int) = 1)
  clear hf;go_enter func83, ntmps83
  go_wp2
  go_ret
  exact ⟨kBK (by have := hi.out; omega), rfl⟩
section
variable {w : World} {s a : Nat} {l : Lay} {X : SpS}
theorem kNr (h : Spc w s a l X) (hl : X.st.length ≤ 65536) (hr : X.fN = 0 ∨ (1 ≤ X.fN ∧ X.fN ≤ 65536)) (hT : Tab w) (hT0 : 0 < w.heap.size) :
  Calls prog 33 #[.pointer (some ⟨s, 0, none⟩)] w fun e w' => e = .returned (.tuple #[int i64 (roomA X.M (rtsP X.fN X.st)).1, int i64 (roomA X.M (rtsP X.fN X.st)).2]) ∧ Fr [] w w' := by
 have HM := kAA (kAz h);have HS := kAA h;have HT : Hid (∀ V, Fr [] w V → Tab V) := fun V hV => hT.fr hV hT0
 have hwo : (X.M.fH : Int) ≤ 1048576 ∧ (X.M.fM : Int) ≤ 65536 := by
  have h1 := h.inv.safe.small.fH;have h2 := h.inv.safe.small.fM;have h3 := h.inv.fH;have h4 := h.inv.fM;omega
 have hbd : ∀ q, 0 ≤ lnM X.M q ∧ lnM X.M q ≤ 8194 := kOR h.inv
 have HBd := kAA hbd;have hsl := kFv h.inv;have HSl := kAA hsl;have hll : (livM X.M (rtsP X.fN X.st)).length ≤ 65540 := by have := kEb X.M (rtsP X.fN X.st); have := h.inv.things_le; omega
 obtain ⟨L, hL⟩ := jex (livM X.M (rtsP X.fN X.st));unfold roomA;rw [← hL] at hll ⊢;clear h hT hT0 hbd hsl;go_enter func33, ntmps33
 go_wp2_with fail
 refine HM.out.mono ?_;rintro e w1 ⟨rfl, hf⟩;have hs1 := HS.out.fK hf;have HF := kAA hf;have HS1 := kAA hs1;have HRo := kAA (kKi hs1 (by omega) hr)
 have HRn : Hid (∀ V p c, Hid (Fr [] w1 V) → Hid (Rd V (.slice p (rtsP X.fN X.st).length c) (rtsP X.fN X.st)) → Calls prog 81 #[.pointer (some ⟨a, 0, none⟩), .slice p (rtsP X.fN X.st).length c] V fun e w' => ∃ pl cl, e = .returned (.tuple #[.slice pl (livM X.M (rtsP X.fN X.st)).length cl, int i64 0]) ∧ Hid (Rd w' (.slice pl (livM X.M (rtsP X.fN X.st)).length cl) (zs (livM X.M (rtsP X.fN X.st)))) ∧ Hid (Fr [] w1 w')) := fun V p c hV hrd => by
  have hsV := hs1.fK hV.out;refine (kMB a l p c (rtsP X.fN X.st) V hsV.rep hsV.inv (HT.out V (HF.out.trans hV.out (by simp))) hrd.out).mono ?_;rintro e w3 ⟨pl, cl, rfl, q2, q3⟩;exact ⟨pl, cl, rfl, kOc (by rw [← hL]; omega) q2, hV.out.trans q3 (by simp)⟩
 have HCl : Hid (∀ V, Hid (Fr [] w1 V) → V.cell? ⟨s, 1, none⟩ = some (.pointer (some ⟨a, 0, none⟩)) ∧ V.cell? ⟨s, 2, none⟩ = some (int i64 X.M.fH) ∧ V.cell? ⟨s, 3, none⟩ = some (int i64 X.M.fM)) := fun V hV => by
  obtain ⟨-, d1, d2, d3, -⟩ := (hs1.fK hV.out).cells;exact ⟨d1, d2, d3⟩
 have HIn : Hid (∀ q ∈ livM X.M (rtsP X.fN X.st), mhas X.M (q : Int) = true) := fun q hq => kES hq
 have hR : Hid (Fr [] w1 w1) := Fr.refl _ _;rw [← hL] at HRn HIn;clear hf HM hs1 hL;generalize (rtsP X.fN X.st).length = rn at *
 go_wp2_with fail
 go_region_held3 (fun V => V.cell? ⟨s, 1, none⟩ = some (.pointer (some ⟨a, 0, none⟩)) ∧ V.cell? ⟨s, 2, none⟩ = some (int i64 X.M.fH) ∧ V.cell? ⟨s, 3, none⟩ = some (int i64 X.M.fM))
  (first | exact HCl.out _ (kAF hR) | exact HCl.out _ hR | exact HCl.out _ hg3 | exact HCl.out _ hg2)
  (first | (go_at_call 60; refine (HRo.out _ (kAF hR)).mono ?_; rintro e w2 ⟨p2, c2, rfl, hrd2, hg2⟩) | (go_at_call 81; refine (HRn.out _ _ _ hg2 hrd2).mono ?_; rintro e w3 ⟨pl, cl, rfl, hrd3, hg3⟩))
 all_goals
  obtain ⟨d1, d2, d3⟩ := HCl.out _ hg3;clear hrd2 hg2
  go_wp2_with fail
  go_loopw [6, 31] (fun n q wr => ∃ k : Nat, k ≤ L.length ∧ q = int i64 k ∧ n = int i64 ((X.M.fH : Int) - sumQ (lnM X.M) (L.take k)) ∧ Hid (Fr [] w3 wr)) (fun _ q _ => L.length - (intOf q).toNat)
  case atStart => exact ⟨0, jAH _, rfl, by simp [sumQ], Fr.refl _ _⟩
  case round =>
   obtain ⟨k, hk, rfl, rfl, hW⟩ := hrel;have hgw : Hid (Fr [] w1 wr) := hg3.out.trans hW.out (by simp);obtain ⟨d1, d2, d3⟩ := HCl.out _ hgw;have hbd := kDz _ HBd.out (L.take k);have htk : (L.take k).length ≤ L.length := by simp; omega
   by_cases hlt : k < L.length
   ·obtain ⟨pl', cl', e3, hpl⟩ := (hrd3.out.fK hW.out).at_;rw [kCk] at e3 hpl
    cases e3
    obtain ⟨gl, ol, rfl, -, hcl⟩ := hpl (by omega);have x0 := hcl k hlt;rw [kMM L k hlt] at x0;have HSz := kAA (pSize (L.getD k 0 : Int) a l X.H X.M wr (HS1.out.fK hgw.out).rep HS1.out.inv);rw [jp (HIn.out _ (kEB L k hlt)), jp (HIn.out _ (kEB L k hlt)), jp (HIn.out _ (kEB L k hlt)), show ((L.getD k 0 : Nat) : Int).toNat = L.getD k 0 from by omega] at HSz
    have HSm : Hid (sumQ (lnM X.M) (L.take (k + 1)) = sumQ (lnM X.M) (L.take k) + ((lenN (X.M.fA.getD (L.getD k 0 - 1) noTh).fB.length (X.M.fA.getD (L.getD k 0 - 1) noTh).fmt : Nat) : Int)) := by
     show sumQ (lnM X.M) (L.take (k + 1)) = _;rw [kGk L k hlt, kGN];rfl
    have hsl := HSl.out (L.getD k 0 - 1);generalize (X.M.fA.getD (L.getD k 0 - 1) noTh).fmt = f at *;generalize (X.M.fA.getD (L.getD k 0 - 1) noTh).fB.length = yn at *;have HLe := kAA (fun W => kOv yn f W (by omega));have hln2 : lenN yn f ≤ 8194 := by unfold lenN; split <;> omega
    clear hcl hpl;generalize lenN yn f = ln at *;generalize L.getD k 0 = q at *;generalize sumQ (lnM X.M) (L.take k) = sm at *;have k1 := ng k;have k2 : (k : Int) < L.length := by omega
    go_wp2_with fail
    refine HSz.out.mono ?_;rintro e w5 ⟨rfl, hf5⟩;have HW5 : Hid (Fr [] w3 w5) := hW.out.trans hf5 (by simp);clear hf5 HSz
    go_wp2_with (go_at_call 83; refine Calls.mono (HLe.out _) ?_; rintro e w' ⟨rfl, hw'⟩; rw [hw']; clear hw' w')
    go_roundw
    case rel => exact ⟨k + 1, by omega, by go_num, by rw [HSm.out]; congr 1; omega, HW5⟩
    case measure => simp [intOf]; omega
   ·have hke : k = L.length := by omega
    subst hke;rw [jAV] at hbd;rw [jAV];have HZ : Hid (∀ m, Fr [] w (wr.drewN m)) := fun m => (HF.out.trans hgw.out (by simp)).trans (Fr.drewN [] _ _) (by simp)
    obtain ⟨ek, hek⟩ := jxe (sumQ (lnM X.M) L);have HEk := kAA hek;rw [hek] at hbd ⊢;clear hek;have k5 : (L.length : Int) ≤ L.length := by omega
    clear hlt hW htk hrd3
    go_wp2_with fail
    go_quiet (fail)
    go_wp2_with fail
    go_ret2
    exact ⟨by rw [HEk.out]; rfl, HZ.out _⟩
end
section
variable {w : World} {q r : Nat} {Y : RqS} {H : HS}
theorem Rqs.rd (h : Rqs w q r Y) (hl : Y.st.length ≤ 1000000) : Rd w Y.qv Y.st := kCC h.stk (by omega)
theorem kMo (h : Rqs w q r Y) (hl : Y.st.length ≤ 1000000) : Calls prog 39 #[.pointer (some ⟨q, 0, none⟩)] w fun e w' => ∃ v', e = .returned v' ∧ w'.ownsRow w.heap.size 41 1 v' Y.st.length (Y.st.map (int i64)) ∧ Fr [] w w' := by
 obtain ⟨-, -, c2, -⟩ := h.cells;obtain ⟨p, c, hv⟩ := kAv h.stk;obtain ⟨v2, w2, r1, r2, r3⟩ := kCi Y.st Y.qv w (h.rd hl);obtain ⟨p2, cc2, e2⟩ := kAv r2;rw [hv] at c2 r1;rw [e2] at r1 r2;have HR := kAA r1;have HO := kAA r2;have HF := kAA r3;clear h hv r1 r2 r3 e2;go_enter func39, ntmps39
 go_wp2_with (at_builtin; refine Lib.wpList_append_run _ rfl (.const (.slice none 0 0)) (.tmp 8) 35 35 rfl _ _ rfl rfl _ _ HR.out ?_)
 go_ret
 exact ⟨_, rfl, HO.out, HF.out⟩
theorem kPl (V : World) (z : Int) : (V.alloc (.cells #[int i64 z] 41)).ownsRow V.heap.size 41 1 (.slice (some ⟨V.heap.size, 0, none⟩) 1 1) [z].length ([z].map (int i64)) :=
 ⟨by simp, .inr ⟨V.heap.size, 1, _, rfl, jAD _, heap_alloc_new V _, jAD _, by decide, rfl, rfl⟩⟩
theorem kLx (h : Rqs w q r Y) (hl : Y.st.length ≤ 65536) (hr : Y.fN = 0 ∨ (1 ≤ Y.fN ∧ Y.fN ≤ 65536)) : Calls prog 50 #[.pointer (some ⟨q, 0, none⟩)] w fun e w' => ∃ v', e = .returned v' ∧ w'.ownsRow w.heap.size 41 1 v' (rtsR Y.fN Y.st).length ((rtsR Y.fN Y.st).map (int i64)) ∧ Fr [] w w' := by
 obtain ⟨-, c1, c2, -⟩ := h.cells;obtain ⟨p, c, hv⟩ := kAv h.stk;have h01 : 0 ≤ Y.fN := by omega
 have h02 : Y.fN ≤ 65536 := by omega
 have hqs := kAB h.top;have F2 : Fr [] w (w.alloc (.cells #[int i64 (4 * Y.fN)] 41)).drew := (Fr.alloc [] _ _).trans (Fr.drew [] _) (by simp);obtain ⟨v2, w2, r2, o2, g2, -⟩ := kCG [4 * Y.fN] Y.st (.slice (some ⟨w.heap.size, 0, none⟩) 1 1) Y.qv (w.alloc (.cells #[int i64 (4 * Y.fN)] 41)).drew w.heap.size (kPl w (4 * Y.fN)) ((h.rd (by omega)).fK F2) (by simp; omega) (by simp)
 have HF2 : Hid (Fr [] w w2) := by
  refine ⟨g2.os.trans F2.os, g2.tape.trans F2.tape, g2.output.trans F2.output, jAU F2.size g2.size, fun i hi hn => ?_⟩;rw [g2.block i (jAb hi F2.size) (fun e => ?_)]
  ·exact F2.block i hi hn
  ·have : w.heap.size = i := by simpa [Value.ownBlock] using e.symm
   omega
 obtain ⟨p2, cc2, rfl⟩ := kAv o2;have e3 : [4 * Y.fN] ++ Y.st = rtsR Y.fN Y.st := rfl;rw [e3] at o2 r2;have HO := kAA o2;rw [hv] at c2 r2;have c2a : (w.alloc (.cells #[int i64 (4 * Y.fN)] 41)).drew.cell? ⟨q, 2, none⟩ = some (.slice p Y.st.length c) := (F2.cell (p := ⟨q, 2, none⟩) hqs (by simp)).trans c2;have hwr : IntKind.i64.wrap (4 * Y.fN) = 4 * Y.fN := by rw [kBp]; unfold wrap64; omega
 have HR := kAA r2;clear h hv r2 o2 g2 F2 hr e3;generalize (rtsR Y.fN Y.st).length = rn at *;generalize Y.fN = z at *;go_enter func50, ntmps50
 go_wp2_with fail
 go_region_law (refine kBj rfl (.tmp 8) (.tmp 12) 35 35 rfl _ _ rfl rfl _ _ HR.out ?_)
 all_goals go_wp2_with fail
 all_goals
  go_ret
  exact ⟨_, rfl, HO.out, HF2.out⟩
theorem kEY (h : Rqs w q r Y) (hl : Y.st.length ≤ 65536) (hr : Y.fN = 0 ∨ (1 ≤ Y.fN ∧ Y.fN ≤ 65536)) : ∀ V, Hid (Fr [] w V) → Calls prog 50 #[.pointer (some ⟨q, 0, none⟩)] V fun e w' => ∃ p c, e = .returned (.slice p (rtsR Y.fN Y.st).length c) ∧ Hid (Rd w' (.slice p (rtsR Y.fN Y.st).length c) (rtsR Y.fN Y.st)) ∧ Hid (Fr [] w w') := fun V hV => by
 refine (kLx (h.fK hV.out) hl hr).mono ?_;rintro e w2 ⟨v2, rfl, ho2, hf2⟩;obtain ⟨p2, c2, rfl⟩ := kAv ho2;refine ⟨p2, c2, rfl, kCC ho2 ?_, hV.out.trans hf2 (by simp)⟩;unfold rtsR;rw [jBG];omega
theorem kHU (h : Rqs w q r Y) (hb : Y.br ≠ none) : Calls prog 25 #[.pointer (some ⟨q, 0, none⟩)] w fun e w' => e = .returned (.tuple #[int i64 0, int i64 0, int i64 25]) ∧ Fr [] w w' := by
 obtain ⟨-, -, -, c3, -⟩ := h.cells;obtain ⟨b, hb2⟩ := jBX.1 hb;rw [hb2] at c3;dsimp only [Option.isSome] at c3;clear h;go_enter func25, ntmps25
 go_wp2_with fail
 refine bodyPost_ret (results_tmp3 rfl _ _ _) rfl ?_;exact ⟨rfl, Fr.refl _ _⟩
theorem kMD (h : Rqs w q r Y) (hi : Inv H Y.M) (ht : Y.R.fO ≤ 1000000000) : ∀ V p c, Hid (Fr [] w V) → Hid (Rd V (.slice p (rtsR Y.fN Y.st).length c) (rtsR Y.fN Y.st)) → Calls prog 49 #[.pointer (some ⟨r, 0, none⟩), .slice p (rtsR Y.fN Y.st).length c] V fun e w' => e = .returned (.tuple #[int i64 (colA Y.M (rtsR Y.fN Y.st)).1, int i64 (colA Y.M (rtsR Y.fN Y.st)).2.1, int i64 0]) ∧ Hid (RO' q r Y 0 true (colN Y.M (rtsR Y.fN Y.st)) Y.fN Y.st w w') := fun V p c hV hrd => by
 have hsV := h.fK hV.out;refine (rRun r p c (rtsR Y.fN Y.st) V hsV.rep hi hsV.doc hrd.out ht).mono ?_;rintro e w3 ⟨rfl, q1⟩;exact ⟨rfl, (RO'.of hsV q1).first hV.out⟩
theorem kIA (h : Rqs w q r Y) (hi : Inv H Y.M) (hb : Y.br = none) (hl : Y.st.length ≤ 65536) (hr : Y.fN = 0 ∨ (1 ≤ Y.fN ∧ Y.fN ≤ 65536)) (ht : Y.R.fO ≤ 1000000000) :
  Calls prog 25 #[.pointer (some ⟨q, 0, none⟩)] w fun e w' => e = .returned (.tuple #[int i64 (colA Y.M (rtsR Y.fN Y.st)).1, int i64 (colA Y.M (rtsR Y.fN Y.st)).2.1, int i64 0]) ∧ RO' q r Y 0 true (colN Y.M (rtsR Y.fN Y.st)) Y.fN Y.st w w' := by
 have HRo := kAA (kEY h hl hr);have HRn := kAA (kMD h hi ht);obtain ⟨c0, -, -, c3, -⟩ := h.cells;rw [hb] at c3;dsimp only [Option.isSome] at c3;have HCl : Hid (∀ V, Hid (Fr [] w V) → V.cell? ⟨q, 0, none⟩ = some (.pointer (some ⟨r, 0, none⟩))) := fun V hV => (h.fK hV.out).cells.1
 have HCs : Hid (∀ V, Hid (RO' q r Y 0 true (colN Y.M (rtsR Y.fN Y.st)) Y.fN Y.st w V) → V.cell? ⟨q, 0, none⟩ = some (.pointer (some ⟨r, 0, none⟩))) := fun V hV => by
  obtain ⟨Y', h1, -⟩ := hV.out;exact h1.ok.cells.1
 have hR : Hid (Fr [] w w) := Fr.refl _ _;clear h hi;generalize (colA Y.M (rtsR Y.fN Y.st)).1 = x at *;generalize (colA Y.M (rtsR Y.fN Y.st)).2.1 = y at *;generalize (rtsR Y.fN Y.st).length = rn at *;go_enter func25, ntmps25
 go_wp2_with fail
 go_region_held3 (fun V => V.cell? ⟨q, 0, none⟩ = some (.pointer (some ⟨r, 0, none⟩)))
  (first | exact HCl.out _ (kAF hR) | exact HCl.out _ hR | exact HCs.out _ hp3 | exact HCl.out _ hg2)
  (first | (go_at_call 50; refine (HRo.out _ (kAF hR)).mono ?_; rintro e w2 ⟨p2, c2, rfl, hrd2, hg2⟩) | (go_at_call 49; refine (HRn.out _ _ _ hg2 hrd2).mono ?_; rintro e w3 ⟨rfl, hp3⟩))
 all_goals go_wp2_with fail
 all_goals
  refine bodyPost_ret (results_tmp3 rfl _ _ _) rfl ?_;exact ⟨rfl, hp3.out⟩
theorem kPG (n f : Nat) (w : World) (hn : (n : Int) ≤ 1048576) :
  Calls prog 86 #[int i64 n, int i64 f] w fun e w' => e = .returned (int i64 ((lenN n f : Nat) : Int)) ∧ w' = w := by
 by_cases hf : f = 1
 ·subst hf;have hi : Hid (((lenN n 1 : Nat) : Int) = 2 + ((n : Int) + 3) / 4) := by show ((lenN n 1 : Nat) : Int) = _; unfold lenN; rw [jp rfl]; push_cast; rfl
  go_enter func86, ntmps86
  go_wp2
  go_ret
  exact ⟨kBK (by have := hi.out; omega), rfl⟩
 ·have hi : Hid (((lenN n f : Nat) : Int) = 2 + (n : Int)) := by show ((lenN n f : Nat) : Int) = _; unfold lenN; rw [jn hf]; push_cast; first | rfl | skip
  have hb : ((f : Int) == 1) = false := by simpa using (by omega : ¬ (f : Int) = 1)
  clear hf;go_enter func86, ntmps86
  go_wp2
  go_ret
  exact ⟨kBK (by have := hi.out; omega), rfl⟩
theorem kMP (h : Rqs w q r Y) (hi : Inv H Y.M) (hl : Y.st.length ≤ 65536) (hr : Y.fN = 0 ∨ (1 ≤ Y.fN ∧ Y.fN ≤ 65536)) :
  Calls prog 34 #[.pointer (some ⟨q, 0, none⟩)] w fun e w' => e = .returned (.tuple #[int i64 (roomA Y.M (rtsR Y.fN Y.st)).1, int i64 (roomA Y.M (rtsR Y.fN Y.st)).2]) ∧ Fr [] w w' := by
 have HS := kAA h
 have hwo : (Y.M.fH : Int) ≤ 1048576 ∧ (Y.M.fM : Int) ≤ 65536 := by
  have h1 := hi.safe.small.fH;have h2 := hi.safe.small.fM;have h3 := hi.fH;have h4 := hi.fM;omega
 have HBd := kAA (kOR hi);have HSl := kAA (kFv hi);have HBr := kAA (h.doc.bd hi);have hll : (livM Y.M (rtsR Y.fN Y.st)).length ≤ 65540 := by have := kEb Y.M (rtsR Y.fN Y.st); have := hi.things_le; omega
 have HRo := kAA (kEY h hl hr)
 have HRn : Hid (∀ V p c, Hid (Fr [] w V) → Hid (Rd V (.slice p (rtsR Y.fN Y.st).length c) (rtsR Y.fN Y.st)) → Calls prog 84 #[.pointer (some ⟨r, 0, none⟩), .slice p (rtsR Y.fN Y.st).length c] V fun e w' => ∃ pl cl, e = .returned (.tuple #[.slice pl (livM Y.M (rtsR Y.fN Y.st)).length cl, int i64 0]) ∧ Hid (Rd w' (.slice pl (livM Y.M (rtsR Y.fN Y.st)).length cl) (zs (livM Y.M (rtsR Y.fN Y.st)))) ∧ Hid (Fr [] w w')) := fun V p c hV hrd => by
  have hsV := h.fK hV.out;refine (kIM r p c (rtsR Y.fN Y.st) V hsV.rep hi hsV.doc hrd.out).mono ?_;rintro e w3 ⟨pl, cl, rfl, q2, q3⟩;exact ⟨pl, cl, rfl, kOc (by omega) q2, hV.out.trans q3 (by simp)⟩
 have HCl : Hid (∀ V, Hid (Fr [] w V) → V.cell? ⟨q, 0, none⟩ = some (.pointer (some ⟨r, 0, none⟩)) ∧ V.cell? ⟨r, 0, none⟩ = some (int i64 Y.M.fH) ∧ V.cell? ⟨r, 1, none⟩ = some (int i64 Y.M.fM)) := fun V hV => by
  have hsV := h.fK hV.out;have ht := hsV.rep.top;have ew := hsV.doc.fH;have eo := hsV.doc.fM;refine ⟨hsV.cells.1, ?_, ?_⟩
  ·rw [kAC ht, ← ew]; rfl
  ·rw [kAC ht, ← eo]; rfl
 have HIn : Hid (∀ o ∈ livM Y.M (rtsR Y.fN Y.st), mhas Y.M (o : Int) = true) := fun o ho => kES ho
 have hR : Hid (Fr [] w w) := Fr.refl _ _;obtain ⟨L, hL⟩ := jex (livM Y.M (rtsR Y.fN Y.st));unfold roomA;rw [← hL] at HRn HIn hll ⊢;clear h hi hL;generalize (rtsR Y.fN Y.st).length = rn at *;go_enter func34, ntmps34
 go_wp2_with fail
 go_region_held3 (fun V => V.cell? ⟨q, 0, none⟩ = some (.pointer (some ⟨r, 0, none⟩)))
  (first | exact (HCl.out _ (kAF hR)).1 | exact (HCl.out _ hR).1 | exact (HCl.out _ hg3).1 | exact (HCl.out _ hg2).1)
  (first | (go_at_call 50; refine (HRo.out _ (kAF hR)).mono ?_; rintro e w2 ⟨p2, c2, rfl, hrd2, hg2⟩) | (go_at_call 84; refine (HRn.out _ _ _ hg2 hrd2).mono ?_; rintro e w3 ⟨pl, cl, rfl, hrd3, hg3⟩))
 all_goals
  obtain ⟨d1, d2, d3⟩ := HCl.out _ hg3;clear hrd2 hg2
  go_wp2_with fail
  go_loopw [6, 7] (fun n o wr => ∃ k : Nat, k ≤ L.length ∧ o = int i64 k ∧ n = int i64 ((Y.M.fH : Int) - sumQ (lnM Y.M) (L.take k)) ∧ Hid (Fr [] w3 wr)) (fun _ o _ => L.length - (intOf o).toNat)
  case atStart => exact ⟨0, jAH _, rfl, by simp [sumQ], Fr.refl _ _⟩
  case round =>
   obtain ⟨k, hk, rfl, rfl, hW⟩ := hrel;have hgw : Hid (Fr [] w wr) := hg3.out.trans hW.out (by simp);obtain ⟨d1, d2, d3⟩ := HCl.out _ hgw;have hbd := kDz _ HBd.out (L.take k);have htk : (L.take k).length ≤ L.length := by simp; omega
   by_cases hlt : k < L.length
   ·obtain ⟨pl', cl', e3, hpl⟩ := hrd3.out.at_;rw [kCk] at e3 hpl
    cases e3
    obtain ⟨gl, ol, rfl, hgl, hcl⟩ := hpl (by omega);have x0 := hcl k hlt;rw [kMM L k hlt] at x0;have HX : Hid (∀ V, Hid (Fr [] w3 V) → V.cell? ⟨q, 0, none⟩ = some (.pointer (some ⟨r, 0, none⟩)) ∧ V.cell? ⟨gl, ol + k, none⟩ = some (int i64 ((L.getD k 0 : Nat) : Int))) := fun V hV => ⟨(HCl.out _ (hg3.out.trans hV.out (by simp))).1, (hV.out.cell (p := ⟨gl, ol + k, none⟩) hgl (by simp)).trans x0⟩
    have HSz : Hid (∀ V, Hid (Fr [] w3 V) → Calls prog 85 #[.pointer (some ⟨r, 0, none⟩), int i64 ((L.getD k 0 : Nat) : Int)] V fun e w' => e = .returned (.tuple #[int i64 ((Y.M.fA.getD (L.getD k 0 - 1) noTh).fB.length : Int), int i64 ((Y.M.fA.getD (L.getD k 0 - 1) noTh).fmt : Int), int i64 0]) ∧ Hid (Fr [] w3 w')) := fun V hV => by
     have hsz := rSizeM ((L.getD k 0 : Nat) : Int) r Y.R Y.M V ((HS.out.fK hg3.out).fK hV.out).rep HS.out.doc HBr.out;rw [jp (HIn.out _ (kEB L k hlt)), jp (HIn.out _ (kEB L k hlt)), jp (HIn.out _ (kEB L k hlt)), show ((L.getD k 0 : Nat) : Int).toNat = L.getD k 0 from by omega] at hsz;exact hsz.mono fun e w' ⟨h1, h2⟩ => ⟨h1, hV.out.trans h2 (by simp)⟩
    have HSm : Hid (sumQ (lnM Y.M) (L.take (k + 1)) = sumQ (lnM Y.M) (L.take k) + ((lenN (Y.M.fA.getD (L.getD k 0 - 1) noTh).fB.length (Y.M.fA.getD (L.getD k 0 - 1) noTh).fmt : Nat) : Int)) := by
     show sumQ (lnM Y.M) (L.take (k + 1)) = _;rw [kGk L k hlt, kGN];rfl
    have hsl := HSl.out (L.getD k 0 - 1);generalize (Y.M.fA.getD (L.getD k 0 - 1) noTh).fmt = f at *;generalize (Y.M.fA.getD (L.getD k 0 - 1) noTh).fB.length = yn at *;have HLe := kAA (fun W => kPG yn f W (by omega));have hln2 : lenN yn f ≤ 8194 := by unfold lenN; split <;> omega
    clear hcl hpl x0;generalize lenN yn f = ln at *;generalize L.getD k 0 = oq at *;generalize sumQ (lnM Y.M) (L.take k) = sm at *;have k1 := ng k;have k2 : (k : Int) < L.length := by omega
    go_wp2_with fail
    go_region_held3 (fun V => V.cell? ⟨q, 0, none⟩ = some (.pointer (some ⟨r, 0, none⟩)) ∧ V.cell? ⟨gl, ol + k, none⟩ = some (int i64 oq))
     (first | exact HX.out _ (kAF hW) | exact HX.out _ hW | exact HX.out _ hg5)
     (first | (go_at_call 85; refine (HSz.out _ (kAF hW)).mono ?_; rintro e w5 ⟨rfl, hg5⟩))
    all_goals
     go_wp2_with (go_at_call 86; refine Calls.mono (HLe.out _) ?_; rintro e w' ⟨rfl, hw'⟩; rw [hw']; clear hw' w')
     go_roundw
     case rel => exact ⟨k + 1, by omega, by go_num, by rw [HSm.out]; congr 1; omega, hg5⟩
     case measure => simp [intOf]; omega
   ·have hke : k = L.length := by omega
    subst hke;rw [jAV] at hbd;rw [jAV];have HZ : Hid (∀ m, Fr [] w (wr.drewN m)) := fun m => hgw.out.trans (Fr.drewN [] _ _) (by simp)
    obtain ⟨ek, hek⟩ := jxe (sumQ (lnM Y.M) L);have HEk := kAA hek;rw [hek] at hbd ⊢;clear hek;have k5 : (L.length : Int) ≤ L.length := by omega
    clear hlt hW htk hrd3
    go_wp2_with fail
    go_quiet (fail)
    go_wp2_with fail
    go_ret2
    exact ⟨by rw [HEk.out]; rfl, HZ.out _⟩
end
section
variable {w : World} {s a : Nat} {l : Lay} {X : SpS}
theorem kLT (h : Spc w s a l X) (hb : X.br ≠ none) : Calls prog 26 #[.pointer (some ⟨s, 0, none⟩)] w fun e w' => e = .returned (int i64 25) ∧ Fr [] w w' := by
 have HC := kAA (kEp h hb);clear h;go_enter func26, ntmps26
 go_wp2_with fail
 refine HC.out.mono ?_;rintro e w1 ⟨rfl, hf⟩;have HF := kAA hf;clear hf HC hb
 go_wp2_with fail
 go_ret
 exact ⟨rfl, HF.out⟩
theorem Spc.open {V W2 : World} {bx : Bx} (h : Spc V s a l X) (hbr : X.br = none) (hg : bx.g = V.heap.size) 
  (hW2 : Fr [] ((V.setCell ⟨s, 6, none⟩ (.pointer (some bx.p))).alloc (.cells #[.pointer (some ⟨a, 0, none⟩), int i64 bx.ag, int i64 bx.n, int i64 bx.mr] 115)) W2) : PS s a l X V l { X with br := some bx } W2 := by
 have f1 : Fr [s] V (V.setCell ⟨s, 6, none⟩ (.pointer (some bx.p))) := Fr.setCell (S := [s]) _ ⟨s, 6, none⟩ _ (by simp);have hsz : (V.setCell ⟨s, 6, none⟩ (.pointer (some bx.p))).heap.size = V.heap.size := by simp
 have ht1 := kAI h.top 6 (.pointer (some bx.p));have f2 := (Fr.alloc [] (V.setCell ⟨s, 6, none⟩ (.pointer (some bx.p))) (.cells #[.pointer (some ⟨a, 0, none⟩), int i64 bx.ag, int i64 bx.n, int i64 bx.mr] 115)).trans hW2 (by simp);have F : Fr [s] V W2 := f1.trans f2 (by simp);have ht2 := (f2.block s (kAB ht1) (by simp)).trans ht1
 have hb : W2.heap[bx.g]? = some (brC a bx) := by
  have h5 := heap_alloc_new (V.setCell ⟨s, 6, none⟩ (.pointer (some bx.p))) (.cells #[.pointer (some ⟨a, 0, none⟩), int i64 bx.ag, int i64 bx.n, int i64 bx.mr] 115);rw [hsz] at h5;rw [hg];exact (hW2.block _ (kAB h5) (by simp)).trans h5
 have hf : ∀ g ∈ foot a l, g ∉ [s] := fun g hg hm => by
  have e : g = s := by simpa using hm
  rw [e] at hg; exact h.sepS hg
 refine ⟨⟨?_, h.rep.keep F hf, h.inv, kAE h.stk fun g hg => F.block g (h.stk.lt g hg).2 (by simpa using (h.sepV g hg).2), h.sepS, h.sepV, fun b e => ?_⟩, F.mono fun g hg => .inl (kAT.2 (.inl (by simpa using hg))), fun g hg => ?_⟩
 ·rw [ht2]; rfl
 ·have e2 : bx = b := by injection e
  subst e2;refine ⟨hb, fun hm => ?_, fun e => ?_, fun e => ?_⟩
  ·have := h.rep.lt _ hm; omega
  ·have := kAB h.top; omega
  ·have := (h.stk.lt _ e).2; omega
 ·rcases kAT.1 hg with e | e | ⟨b, e, e2⟩ | e
  ·exact .inl (kAT.2 (.inl e))
  ·exact .inl (kAT.2 (.inr (.inl e)))
  ·have e3 : bx = b := by injection e
   subst e3
   right; omega
  ·exact .inl (kAT.2 (.inr (.inr (.inr e))))
theorem kLL (h : Spc w s a l X) (hb : X.br = none) (hl : X.st.length ≤ 65536) (hr : X.fN = 0 ∨ (1 ≤ X.fN ∧ X.fN ≤ 65536)) (hage : X.H.age ≤ 1000000000) (hT : Tab w) (hT0 : 0 < w.heap.size) :
  Calls prog 26 #[.pointer (some ⟨s, 0, none⟩)] w fun e w' => e = .returned (int i64 0) ∧ PO s a l X 2 false (colN X.M (rtsP X.fN X.st)) X.fN X.st w w' := by
 have HC := kAA (kDR h hb (by omega) hr hage hT hT0);clear h hT hT0;generalize (colA X.M (rtsP X.fN X.st)).1 = x at *;generalize (colA X.M (rtsP X.fN X.st)).2.1 = y at *;go_enter func26, ntmps26
 go_wp2_with fail
 refine HC.out.mono ?_;rintro e w1 ⟨rfl, l1, X1, p1, m1, r1, t1, b1, o1⟩;have hs := p1.ok;have hbr : X1.br = none := by rw [b1]; exact hb
 have HPt : Hid (∀ V, Hid (Fr [] w1 V) → Calls prog 61 #[.pointer (some ⟨a, 0, none⟩)] V fun e w' => e = .returned (.agg #[.pointer (some ⟨a, 0, none⟩), int i64 X1.H.age, int i64 X1.H.fC.length]) ∧ Hid (Fr [] w1 w')) := fun V hV =>
  (kOC a l1 X1.H V (hs.fK hV.out).rep).mono fun e w' ⟨h1, h2⟩ => ⟨h1, hV.out.trans h2 (by simp)⟩
 have HMk : Hid (∀ V, Hid (Fr [] w1 V) → Calls prog 62 #[.pointer (some ⟨a, 0, none⟩)] V fun e w' => e = .returned (int i64 X1.M.mark) ∧ w' = V) := fun V hV => by
  have := kFL a l1 X1.H V (hs.fK hV.out).rep;rw [hs.inv.mark] at this;exact this
 have HCl : Hid (∀ V, Hid (Fr [] w1 V) → V.cell? ⟨s, 1, none⟩ = some (.pointer (some ⟨a, 0, none⟩)) ∧ V.cell? ⟨s, 6, none⟩ = some (.pointer none) ∧ V.frozen? ⟨s, 6, none⟩ = false ∧ s < V.heap.size) := fun V hV => by
  have hsV := hs.fK hV.out;obtain ⟨-, d1, -, -, -, -, d6⟩ := hsV.cells;rw [hbr] at d6;exact ⟨d1, d6, kAD hsV.top 6, kAB hsV.top⟩
 have HCx : Hid (∀ V o v, Hid (Fr [] w1 V) → ((V.setCell ⟨s, 6, none⟩ v).alloc o).cell? ⟨s, 1, none⟩ = some (.pointer (some ⟨a, 0, none⟩))) := fun V o v hV => by
  have hsV := hs.fK hV.out;have h3 := kAI hsV.top 6 v;have h2 := (Fr.alloc [] (V.setCell ⟨s, 6, none⟩ v) o).block s (kAB h3) (by simp);rw [kAC (h2.trans h3)]; rfl
 have HCy : Hid (∀ V o, Hid (Fr [] w1 V) → (V.alloc o).cell? ⟨s, 1, none⟩ = some (.pointer (some ⟨a, 0, none⟩))) := fun V o hV => (HCl.out _ (hV.out.trans (Fr.alloc [] V o) (by simp))).1
 have HZ : Hid (∀ V, Hid (Fr [] w1 V) → ∀ W, W = (V.setCell ⟨s, 6, none⟩ (.pointer (some ⟨V.heap.size, 0, none⟩))).alloc (.cells #[.pointer (some ⟨a, 0, none⟩), int i64 X1.H.age, int i64 X1.H.fC.length, int i64 X1.M.mark] 115) → PO s a l X 2 false (colN X.M (rtsP X.fN X.st)) X.fN X.st w W) := fun V hV W hW => by
  have hsV := hs.fK hV.out;have hp := hsV.open (bx := ⟨V.heap.size, X1.H.age, X1.H.fC.length, X1.M.mark⟩) (W2 := W) hbr rfl (by rw [hW]; exact Fr.refl _ _);have h2 := o1.bound;exact ⟨l1, _, p1.trans (hp.first hV.out), m1, r1, t1, hb, ⟨V.heap.size, rfl⟩, by show X1.H.age ≤ _; omega⟩
 have hR : Hid (Fr [] w1 w1) := Fr.refl _ _;clear hs HC m1 r1 t1 b1 o1 p1 hbr;generalize X1.H.age = ag at *;generalize X1.H.fC.length = ol at *;generalize X1.M.mark = mk at *
 go_wp2_with fail
 go_region_held3 (fun V => V.cell? ⟨s, 1, none⟩ = some (.pointer (some ⟨a, 0, none⟩)))
  (first | exact (HCl.out _ (kAF hR)).1 | exact (HCl.out _ hR).1 | exact (HCl.out _ hg5).1 | exact HCy.out _ _ hg5 | exact HCx.out _ _ _ hg5)
  (first | (go_at_call 61; refine (HPt.out _ (kAF hR)).mono ?_; rintro e w5 ⟨rfl, hg5⟩; obtain ⟨z1, z6, zf, zs⟩ := HCl.out _ hg5) | (go_at_call 62; refine (HMk.out _ hg5).mono ?_; rintro e w' ⟨rfl, hw'⟩; rw [hw']; clear hw' w'))
 all_goals
  have HY := kAA (HZ.out w5 hg5 _ rfl)
  go_wp2_with fail
  go_ret
  exact ⟨rfl, HY.out⟩
theorem kLc (h : Spc w s a l X) (hb : X.br = none) : Calls prog 28 #[.pointer (some ⟨s, 0, none⟩)] w fun e w' => e = .returned (int i64 25) ∧ Fr [] w w' := by
 have HC := kAA (kEf h);clear h;go_enter func28, ntmps28
 go_wp2_with fail
 refine HC.out.mono ?_;rintro e w1 (⟨-, rfl, hf⟩ | ⟨b, h1, -⟩)
 rotate_left
 ·rw [hb] at h1; cases h1
 have HF := kAA hf;clear hf HC hb
 go_wp2_with fail
 go_ret
 exact ⟨rfl, HF.out⟩
def abN (M : MS) (k : Nat) : MS := if k = 0 ∨ M.mark = 0 then M else { M with mark := k }
def MkOk (k : Nat) : Prop := k = 0 ∨ isM (k : Int) = true
theorem kGp (h : Spc w s a l X) (bx : Bx) (hbr : X.br = some bx) (E : Int) (bb : Bool) (M1 : MS) (hE : (E = 0 ∧ M1.fH = X.M.fH ∧ M1.fM = X.M.fM) ∨ (E = 25 ∧ M1 = X.M)) (hk : MkOk bx.mr) 
  (hback : ∀ V, Rep V a l X.H → Calls prog 66 #[.pointer (some ⟨a, 0, none⟩), .agg #[.pointer (some ⟨a, 0, none⟩), int i64 bx.ag, int i64 bx.n]] V fun e w' => e = .returned (int i64 E) ∧ PN bb a l X.H M1 V w') :
  Calls prog 28 #[.pointer (some ⟨s, 0, none⟩)] w fun e w' => e = .returned (int i64 E) ∧ PO s a l X 3 false (if E = 0 then abN M1 bx.mr else M1) X.fN X.st w w' := by
 have HC := kAA (kEf h);have hb0 := h.bk bx hbr;have hb1 := hb0.1;have hbs : bx.g ≠ s := hb0.2.2.1;have hbf : bx.g ∉ foot a l := hb0.2.1
 have hwo : M1.fH = X.M.fH ∧ M1.fM = X.M.fM := by
  rcases hE with ⟨-, h1⟩ | ⟨-, h1⟩
  ·exact h1
  ·rw [h1]; exact ⟨rfl, rfl⟩
 have hE2 : E = 0 ∨ E = 25 := by
  rcases hE with ⟨h1, -⟩ | ⟨h1, -⟩
  ·exact .inl h1
  ·exact .inr h1
 have HBk0 := kAA hback;have hsb : s ∉ foot a l := h.sepS;clear h hback hb0 hE;go_enter func28, ntmps28
 go_wp2_with fail
 refine HC.out.mono ?_;rintro e w1 (⟨h1, -⟩ | ⟨b, h1, rfl, hsp1, hf1⟩)
 ·rw [hbr] at h1; cases h1
 have eb : b = bx := by rw [hbr] at h1; injection h1 with e1; exact e1.symm
 subst eb;have hblk : w1.heap[b.g]? = some (brC a b) := (hf1.block b.g (kAB hb1) (by simpa using hbs)).trans hb1;have hp1 : PS s a l X w l { X with br := none } w1 := PS.own hsp1 hf1 rfl (.inr rfl);have HP1 := kAA hp1;have HS1 := kAA hsp1;have HB1 := kAA hblk
 have HCl : Hid (∀ S V, Fr S w1 V → s ∉ S → b.g ∉ S → V.cell? ⟨s, 1, none⟩ = some (.pointer (some ⟨a, 0, none⟩)) ∧ V.cell? ⟨b.g, 0, none⟩ = some (.pointer (some ⟨a, 0, none⟩)) ∧ V.cell? ⟨b.g, 1, none⟩ = some (int i64 b.ag) ∧ V.cell? ⟨b.g, 2, none⟩ = some (int i64 b.n) ∧ V.cell? ⟨b.g, 3, none⟩ = some (int i64 b.mr)) := fun S V hV h3 h4 => by
  have e1 := (hV.block s (kAB HS1.out.top) h3).trans HS1.out.top;have e2 := (hV.block b.g (kAB HB1.out) h4).trans HB1.out;refine ⟨by rw [kAC e1]; rfl, ?_, ?_, ?_, ?_⟩ <;> (rw [kAC e2]; rfl)
 have HBk : Hid (∀ V, Hid (Fr [] w1 V) → Calls prog 66 #[.pointer (some ⟨a, 0, none⟩), .agg #[.pointer (some ⟨a, 0, none⟩), int i64 b.ag, int i64 b.n]] V fun e w' => e = .returned (int i64 E) ∧ ∃ l' H', Hid (PS s a l X w l' { X with br := none, H := H', M := M1 } w') ∧ Hid (H'.age ≤ X.H.age + 1) ∧ Hid (Fr (foot a l) w1 w') ∧ Hid (∀ g ∈ foot a l', g ∈ foot a l ∨ w1.heap.size ≤ g)) := fun V hV => by
  have hsV := HS1.out.fK hV.out;refine (HBk0.out V hsV.rep).mono ?_;rintro e w' ⟨rfl, l', H', g1, g2, g3, g4⟩
  exact ⟨rfl, l', H', HP1.out.trans ((PS.heap hsV g1 g2 hwo g3).first hV.out), g4.bound, (hV.out.mono (by simp)).trans g3.1 (fun g hg => .inl hg), fun g hg => by
   rcases g3.2 g hg with q | q
   ·exact .inl q
   ·right; have := hV.out.size; omega⟩
 have hR : Hid (Fr [] w1 w1) := Fr.refl _ _;have eg : b.p = ⟨b.g, 0, none⟩ := rfl;rw [eg];clear hsp1 hf1 hblk h1 HC hp1 hb1 hbr HBk0 eg
 go_wp2_with fail
 go_region_held3 (fun V => V.cell? ⟨s, 1, none⟩ = some (.pointer (some ⟨a, 0, none⟩)) ∧ V.cell? ⟨b.g, 0, none⟩ = some (.pointer (some ⟨a, 0, none⟩)) ∧ V.cell? ⟨b.g, 1, none⟩ = some (int i64 b.ag) ∧ V.cell? ⟨b.g, 2, none⟩ = some (int i64 b.n) ∧ V.cell? ⟨b.g, 3, none⟩ = some (int i64 b.mr))
  (first | exact HCl.out [] _ (kAF hR).out (by simp) (by simp) | exact HCl.out [] _ hR.out (by simp) (by simp) | exact HCl.out _ _ hg2.out hsb hbf)
  (first | (go_at_call 66; refine (HBk.out _ (kAF hR)).mono ?_; rintro e w2 ⟨rfl, l', H', hs2, hag, hg2, hnx⟩))
 all_goals
  obtain ⟨z1, -, -, -, z3⟩ := HCl.out _ _ hg2.out hsb hbf;rcases hE2 with rfl | rfl
  rotate_left
  ·go_wp2_with fail
   go_ret
   exact ⟨rfl, l', _, hs2.out, rfl, rfl, rfl, rfl, by have := hag.out; show H'.age ≤ _; omega⟩
  have HM2 : Hid (Calls prog 62 #[.pointer (some ⟨a, 0, none⟩)] w2 fun e w' => e = .returned (int i64 M1.mark) ∧ w' = w2) := by
   have h5 := kFL a l' H' w2 hs2.out.ok.rep;rw [hs2.out.ok.inv.mark] at h5;exact h5
  clear HBk
  by_cases hk0 : b.mr = 0
  ·have HZ : Hid (PO s a l X 3 false (abN M1 b.mr) X.fN X.st w w2) := ⟨l', _, hs2.out, by unfold abN; rw [jp (.inl hk0)], rfl, rfl, rfl, by have := hag.out; show H'.age ≤ _; omega⟩;have hkz : ((b.mr : Int) == 0) = true := by simpa using (by omega : (b.mr : Int) = 0)
   clear hk0
   go_wp2_with fail
   go_ret
   exact ⟨rfl, HZ.out⟩
  ·have hkz : ((b.mr : Int) == 0) = false := by simpa using (by omega : ¬ (b.mr : Int) = 0)
   by_cases hm0 : M1.mark = 0
   ·have HZ : Hid (PO s a l X 3 false (abN M1 b.mr) X.fN X.st w w2) := ⟨l', _, hs2.out, by unfold abN; rw [jp (.inr hm0)], rfl, rfl, rfl, by have := hag.out; show H'.age ≤ _; omega⟩;have hmz : ((M1.mark : Int) == 0) = true := by simpa using (by omega : (M1.mark : Int) = 0)
    clear hk0 hm0
    go_wp2_with (go_at_call 62; refine HM2.out.mono ?_; rintro e w' ⟨rfl, hw'⟩; rw [hw']; clear hw' w')
    go_ret
    exact ⟨rfl, HZ.out⟩
   ·have hmz : ((M1.mark : Int) == 0) = false := by simpa using (by omega : ¬ (M1.mark : Int) = 0)
    have hkM : isM (b.mr : Int) = true := by
     rcases hk with h | h
     ·exact absurd h hk0
     ·exact h
    have HMa : Hid (∀ V, Hid (Fr [] w2 V) → Calls prog 67 #[.pointer (some ⟨a, 0, none⟩), int i64 b.mr] V fun e w' => e = .returned (int i64 0) ∧ Hid (PO s a l X 3 false (abN M1 b.mr) X.fN X.st w w') ∧ Hid (Fr (foot a l') w2 w')) := fun V hV => by
     have hsV := hs2.out.ok.fK hV.out;have hm := pMark (b.mr : Int) a l' H' M1 V hsV.rep hsV.inv;rw [jp hkM] at hm;refine hm.mono ?_;rintro e w' ⟨rfl, l3, H3, g1, g2, g3, g4⟩
     have e2 : kDO M1 (b.mr : Int) = abN M1 b.mr := by
      unfold kDO abN;rw [jp hkM, jn (fun h => by rcases h with h | h; exact hk0 h; exact hm0 h), show ((b.mr : Nat) : Int).toNat = b.mr from by omega]
     have hb4 := g4.bound;have hag2 := hag.out;exact ⟨rfl, ⟨l3, _, hs2.out.trans ((PS.heap hsV g1 g2 (kIU _ _) g3).first hV.out), e2, rfl, rfl, rfl, by show H3.age ≤ _; omega⟩, (hV.out.mono (by simp)).trans g3.1 (fun g hg => .inl hg)⟩
    have HCm : Hid (∀ S V, Fr S w2 V → (∀ g ∈ S, g ∈ foot a l') → V.cell? ⟨s, 1, none⟩ = some (.pointer (some ⟨a, 0, none⟩)) ∧ V.cell? ⟨b.g, 3, none⟩ = some (int i64 b.mr)) := fun S V hV hS => by
     have hsv : s ∉ S := fun hm => hs2.out.ok.sepS (hS s hm)
     have hlt1 := hg2.out.size;have hbl := kAB HB1.out
     have hbS : b.g ∉ S := fun hm => by
      rcases hnx.out _ (hS _ hm) with q | q
      ·exact hbf q
      ·omega
     have e1 := (hV.block s (kAB hs2.out.ok.top) hsv).trans hs2.out.ok.top;have e2 := (hV.block b.g (by omega) hbS).trans ((hg2.out.block b.g hbl hbf).trans HB1.out);exact ⟨by rw [kAC e1]; rfl, by rw [kAC e2]; rfl⟩
    have hR2 : Hid (Fr [] w2 w2) := Fr.refl _ _;clear hk0 hm0
    go_wp2_with (first | (go_at_call 62; refine HM2.out.mono ?_; rintro e w' ⟨rfl, hw'⟩; rw [hw']; clear hw' w') | fail)
    go_region_held3 (fun V => V.cell? ⟨s, 1, none⟩ = some (.pointer (some ⟨a, 0, none⟩)) ∧ V.cell? ⟨b.g, 3, none⟩ = some (int i64 b.mr))
     (first | exact HCm.out [] _ (kAF hR2).out (by simp) | exact HCm.out [] _ hR2.out (by simp) | exact HCm.out _ _ hg4.out (fun g hg => hg))
     (first | (go_at_call 67; refine (HMa.out _ (kAF hR2)).mono ?_; rintro e w4 ⟨rfl, hs4, hg4⟩))
    all_goals go_wp2_with fail
    all_goals
     go_ret
     exact ⟨rfl, hs4.out⟩
end
end Go.Proofs.YtflgicdbbogllaaGreatDoor
