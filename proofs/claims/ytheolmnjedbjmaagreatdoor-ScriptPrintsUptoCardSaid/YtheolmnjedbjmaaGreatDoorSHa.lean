import Derived.Test.YtheolmnjedbjmaaGreatDoorSTk
namespace Go.Proofs.YtheolmnjedbjmaaGreatDoor
open Go.RowKit
set_option linter.unusedVariables false
set_option linter.unusedSimpArgs false
/-- the list of names that is laid in for an act -/
def nmC (a : AK) (t : Nat × Nat) : Value := .slice (some ⟨t.1, 0, none⟩) (a.names.length + 8) t.2
def acC (a : AK) (t : Nat × Nat) : List Value := (akC a (some ⟨t.1, 0, none⟩) t.2).toList
def namesN (acts : List AQ) (ts : List (Nat × Nat)) : List Value := List.zipWith (fun x t => nmC x.1 t) acts ts
def actsN (acts : List AQ) (ts : List (Nat × Nat)) : List Value := (List.zipWith (fun x t => acC x.1 t) acts ts).flatten
def marksN (m : Nat) : List Value := (List.replicate m (akC mark77 none 0).toList).flatten
theorem marksN_succ (m : Nat) : marksN (m + 1) = marksN m ++ (akC mark77 none 0).toList := by
  unfold marksN
  rw [List.replicate_succ', List.flatten_append]
  simp
theorem zip_snoc {α β γ : Type} (f : α → β → γ) : ∀ (l : List α) (ts : List β) (t : β) (h : ts.length < l.length), List.zipWith f l (ts ++ [t]) = List.zipWith f l ts ++ [f (l[ts.length]'h) t]
  | [], ts, t, h => by simp at h
  | x :: l, [], t, h => by simp
  | x :: l, s :: ts, t, h => by
    have := zip_snoc f l ts t (by simpa using h)
    simpa using this
theorem namesN_snoc (acts : List AQ) (ts : List (Nat × Nat)) (t : Nat × Nat) (h : ts.length < acts.length) : namesN acts (ts ++ [t]) = namesN acts ts ++ [nmC (acts[ts.length]'h).1 t] := zip_snoc _ acts ts t h
theorem actsN_snoc (acts : List AQ) (ts : List (Nat × Nat)) (t : Nat × Nat) (h : ts.length < acts.length) : actsN acts (ts ++ [t]) = actsN acts ts ++ acC (acts[ts.length]'h).1 t := by
  unfold actsN
  rw [zip_snoc _ acts ts t h, List.flatten_append]
  simp
/-- what is handed in, while it is made: any acts -/
structure Hn (W w : World) (pb : Nat) (P : Array Value) (hb : Nat) (ws os : Int) (acts : List AQ) (ts : List (Nat × Nat)) (pa vF vN : Value) (m : Nat) : Prop where
  pbx : w.heap[pb]? = some (.cells P 24 (0, 0))
  box : w.heap[hb]? = some (.cells #[.int .i64 ws, .int .i64 os, pa, vF, vN] 32 (0, 0))
  tw : ∀ (k : Nat) (hk : k < ts.length) (hk2 : k < acts.length), w.ownsRow W.heap.size 9 1 (.slice (some ⟨ts[k].1, 0, none⟩) (acts[k].1.names.length + 8) ts[k].2) (acts[k].1.names.length + 8) (strs (acts[k].1.names ++ mark8))
  nm : w.ownsRow W.heap.size 38 1 vN ts.length (namesN acts ts)
  fl : w.ownsRow W.heap.size 40 7 vF (ts.length + m) (actsN acts ts ++ marksN m)
  bl : Bl W w
  hbW : W.heap.size ≤ hb
/-- a list of one's own keeps its block where other blocks alone are changed -/
theorem Fr.ow {S : List Nat} {B E sz n : Nat} {w w' : World} {v : Value} {xs : List Value} (f : Fr S w w') (ho : w.ownsRow B E sz v n xs) (hS : ∀ g, v.ownBlock = some g → g ∉ S) : w'.ownsRow B E sz v n xs := own_congr ho fun g hg => f.block g (own_lt ho g hg).2 (hS g hg)
theorem push_actN {W : World} {B : Nat} {v : Value} {n : Nat} {xs : List Value} (ho : W.ownsRow B 40 7 v n xs) (hB : B ≤ W.heap.size) (a : AK) (p : Option Addr) (c : Nat) (hm : n ≤ 2000000) :
    ∃ v' w', (Builtin.append_ #[22, 22] 22 #[v, .slice (some ⟨W.heap.size, 0, none⟩) 1 1]).run Tryz.prog (W.alloc (.cells (akC a p c) 40)) = .ok v' w' ∧ w'.ownsRow B 40 7 v' (n + 1) (xs ++ (akC a p c).toList) ∧ Pt B 40 W w' ∧ Fr v.ownBlock.toList W w' := by
  obtain ⟨i5, ii, iz, is, ib⟩ := info_parts info38x
  exact push_own Tryz.underlying22 ii iz is ib rfl (by decide) ho hB (akC a p c).toList rfl (akC_one a p c) (by omega) (by omega)
theorem push_lstN {W : World} {B : Nat} {v : Value} {n : Nat} {xs : List Value} (ho : W.ownsRow B 38 1 v n xs) (hB : B ≤ W.heap.size) (p : Option Addr) (m c : Nat) (hm : n ≤ 2000000) :
    ∃ v' w', (Builtin.append_ #[30, 30] 30 #[v, .slice (some ⟨W.heap.size, 0, none⟩) 1 1]).run Tryz.prog (W.alloc (.cells #[.slice p m c] 38)) = .ok v' w' ∧ w'.ownsRow B 38 1 v' (n + 1) (xs ++ [.slice p m c]) ∧ Pt B 38 W w' ∧ Fr v.ownBlock.toList W w' := by
  obtain ⟨i5, ii, iz, is, ib⟩ := info_parts info36x
  exact push_own Tryz.underlying30 ii iz is ib rfl (by decide) ho hB [.slice p m c] rfl (by intro u hu; simp at hu; subst hu; rfl) (by omega) (by omega)
/-- one mark more -/
theorem Hn.push {W w : World} {pb : Nat} {P : Array Value} {hb : Nat} {ws os : Int} {acts : List AQ} {ts : List (Nat × Nat)} {pa vF vN : Value} {m : Nat} (h : Hn W w pb P hb ws os acts ts pa vF vN m) (hm : ts.length + m ≤ 2000000) :
    ∃ v' w', (Builtin.append_ #[22, 22] 22 #[vF, .slice (some ⟨w.heap.size, 0, none⟩) 1 1]).run Tryz.prog (w.alloc (.cells (akC mark77 none 0) 40)) = .ok v' w' ∧ w'.cell? ⟨hb, 3, none⟩ = some vF ∧ w'.frozen? ⟨hb, 3, none⟩ = false ∧ ∃ p n c, v' = .slice p n c ∧ ∃ W4, w'.setCell ⟨hb, 3, none⟩ v' = W4 ∧ Hid (Hn W W4 pb P hb ws os acts ts pa v' vN (m + 1)) := by
  obtain ⟨v', w', hr, ho, hp, -⟩ := push_actN h.fl h.bl.size mark77 none 0 hm
  have hbx := hp.hb h.box (fun c fz e => by cases e)
  obtain ⟨p, c, rfl⟩ := own_slice ho
  refine ⟨_, w', hr, lit_in hbx 3 _ rfl, frozen_in hbx 3, p, _, c, rfl, _, rfl, set_box hbx (hp.hb h.pbx (fun c fz e => by cases e)) (by decide), by simpa using set_in hbx 3 _, fun k hk hk2 => ow_set (hp.ow (by decide) (h.tw k hk hk2)) hbx (by decide), ow_set (hp.ow (by decide) h.nm) hbx (by decide), ?_, bl_setCell (Below.trans h.bl hp.below) _ _ _ h.hbW, h.hbW⟩
  rw [marksN_succ, ← List.append_assoc]
  exact ow_set ho hbx (by decide)
end Go.Proofs.YtheolmnjedbjmaaGreatDoor
