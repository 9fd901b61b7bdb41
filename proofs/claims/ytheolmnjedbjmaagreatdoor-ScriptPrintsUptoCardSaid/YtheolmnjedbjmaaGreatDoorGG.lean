import Derived.Test.YtheolmnjedbjmaaGreatDoorSY3
import Derived.Test.YtheolmnjedbjmaaGreatDoorGE
namespace Go.Proofs.YtheolmnjedbjmaaGreatDoor
open Go.RowKit
abbrev AQ := AK × Option Addr × Nat
abbrev plN (ws os : Int) (p : Option Addr) (n cc : Nat) : Array Value := #[.int .i64 ws, .int .i64 os, .slice p n cc]
abbrev hdN (ws os : Int) (p : Option Addr) (n cc : Nat) : Array Value := #[.int .i64 ws, .int .i64 os, .slice p n cc, .slice none 0 0, .slice none 0 0]
/-- an act as it lies in a list -/
structure Aw (W : World) (g off : Nat) (a : AK) (q : Option Addr) (c : Nat) : Prop where
  cells : ∀ (f : Nat) (v : Value), (akC a q c)[f]? = some v → W.cell? ⟨g, off + f, none⟩ = some v
  names : Rs W q a.names
  lt : g < W.heap.size
theorem Aw.bl {W W' : World} {g off : Nat} {a : AK} {q : Option Addr} {c : Nat} (h : Aw W g off a q c) (k : Bl W W') : Aw W' g off a q c :=
  ⟨fun f v hv => by rw [World.cell?_of_block (w := W) (k.block g h.lt)]; exact h.cells f v hv, h.names.bl k, Nat.lt_of_lt_of_le h.lt k.size⟩
end Go.Proofs.YtheolmnjedbjmaaGreatDoor
namespace Go.Proofs.YtheolmnjedbjmaaGreatDoor
open Go.RowKit
set_option linter.unusedVariables false
set_option linter.unusedSimpArgs false
attribute [local go_sem ↓] Go.wp_at_zero Go.wp_at_succ
theorem elem36 : Tryz.prog.underlying 38 = some (.slice (Tryz.prog.elem 38)) := by kernel_rfl
theorem elem29 : Tryz.prog.underlying 22 = some (.slice (Tryz.prog.elem 22)) := by kernel_rfl
theorem slice_h36 (tb L c n : Nat) (hn : n ≤ c) (W : World) : (Instr.slice 38 (.slice (some ⟨tb, 0, none⟩) L c) none (some (.int .i64 (n : Int))) none).run Tryz.prog W = .ok (.slice (some ⟨tb, 0, none⟩) n c) W := by
  have hs : ∀ W, (sizeOf (Tryz.prog.elem 38)).run Tryz.prog W = .ok 1 W := fun W => by kernel_rfl
  rw [run_slice_h (t := 38) (ht := elem36) (kh := .i64) (h := (n : Int)) (h0 := by omega) (h2 := by omega)]
  rw [hs]
  simp [Result.andThen, sliced, Addr.add]
theorem slice_h29 (gb L c : Nat) (hn : 1 ≤ c) (W : World) : (Instr.slice 22 (.slice (some ⟨gb, 0, none⟩) L c) none (some (.int .i64 1)) none).run Tryz.prog W = .ok (.slice (some ⟨gb, 0, none⟩) 1 c) W := by
  have hs : ∀ W, (sizeOf (Tryz.prog.elem 22)).run Tryz.prog W = .ok 7 W := fun W => by kernel_rfl
  rw [run_slice_h (t := 22) (ht := elem29) (kh := .i64) (h := 1) (h0 := by omega) (h2 := by omega)]
  rw [hs]
  simp [Result.andThen, sliced, Addr.add]
theorem slice_lh29 (g off L C i : Nat) (hi : i < L) (hL : L ≤ C) (W : World) : (Instr.slice 22 (.slice (some ⟨g, off, none⟩) L C) (some (.int .i64 (i : Int))) (some (.int .i64 ((i : Int) + 1))) none).run Tryz.prog W = .ok (.slice (some ⟨g, off + i * 7, none⟩) 1 (C - i)) W := by
  have hs : ∀ W, (sizeOf (Tryz.prog.elem 22)).run Tryz.prog W = .ok 7 W := fun W => by kernel_rfl
  rw [run_slice_lh (t := 22) (ht := elem29) (kl := .i64) (kh := .i64) (l := (i : Int)) (h := (i : Int) + 1) (h0 := by omega) (h1 := by omega) (h2 := by omega)]
  rw [hs]
  have h1 : ¬ C = i := by omega
  simp only [Result.andThen, sliced, Int.toNat_natCast]
  have h2 : ((i : Int) + 1).toNat = i + 1 := by omega
  rw [h2, if_neg (fun e => h1 e)]
  simp [Addr.add]
theorem info38x : (Tryz.prog.info? 40).map (fun i => (i.zero, i.size, i.bytes)) = some (some (.agg #[.int .i64 0, .string ⟨#[]⟩, .string ⟨#[]⟩, .slice none 0 0, .string ⟨#[]⟩, .int .i64 0, .int .i64 0]), 7, 96) := by kernel_rfl
theorem info36x : (Tryz.prog.info? 38).map (fun i => (i.zero, i.size, i.bytes)) = some (some (.slice none 0 0), 1, 24) := by kernel_rfl
theorem akC_one (a : AK) (p : Option Addr) (c : Nat) : ∀ u ∈ (akC a p c).toList, u.oneCell' = true := by
  intro u hu
  simp [akC] at hu
  rcases hu with rfl | rfl | rfl | rfl | rfl | rfl | rfl <;> rfl
theorem push_act {W : World} {B : Nat} {v : Value} {n : Nat} {xs : List Value} (ho : W.ownsRow B 40 7 v n xs) (hB : B ≤ W.heap.size) (a : AK) (p : Option Addr) (c : Nat) (hm : n ≤ 1000) :
    ∃ v' w', (Builtin.append_ #[22, 22] 22 #[v, .slice (some ⟨W.heap.size, 0, none⟩) 1 1]).run Tryz.prog (W.alloc (.cells (akC a p c) 40)) = .ok v' w' ∧ w'.ownsRow B 40 7 v' (n + 1) (xs ++ (akC a p c).toList) ∧ Pt B 40 W w' ∧ Fr v.ownBlock.toList W w' := by
  obtain ⟨i5, ii, iz, is, ib⟩ := info_parts info38x
  exact push_own Tryz.underlying22 ii iz is ib rfl (by decide) ho hB (akC a p c).toList rfl (akC_one a p c) (by omega) (by omega)
theorem push_lst {W : World} {B : Nat} {v : Value} {n : Nat} {xs : List Value} (ho : W.ownsRow B 38 1 v n xs) (hB : B ≤ W.heap.size) (p : Option Addr) (m c : Nat) (hm : n ≤ 1000) :
    ∃ v' w', (Builtin.append_ #[30, 30] 30 #[v, .slice (some ⟨W.heap.size, 0, none⟩) 1 1]).run Tryz.prog (W.alloc (.cells #[.slice p m c] 38)) = .ok v' w' ∧ w'.ownsRow B 38 1 v' (n + 1) (xs ++ [.slice p m c]) ∧ Pt B 38 W w' ∧ Fr v.ownBlock.toList W w' := by
  obtain ⟨i5, ii, iz, is, ib⟩ := info_parts info36x
  exact push_own Tryz.underlying30 ii iz is ib rfl (by decide) ho hB [.slice p m c] rfl (by intro u hu; simp at hu; subst hu; rfl) (by omega) (by omega)
/-- a list of one's own stays where a box of another type is written -/
theorem ow_set {w : World} {B E sz n hb i : Nat} {v y : Value} {xs : List Value} {C : Array Value} {T : TypeId} {fz : Nat × Nat} (ho : w.ownsRow B E sz v n xs) (hx : w.heap[hb]? = some (.cells C T fz)) (hE : E ≠ T) : (w.setCell ⟨hb, i, none⟩ y).ownsRow B E sz v n xs := own_congr ho fun g hg => by
  obtain ⟨cur, hc⟩ := row_block ho hg
  refine (Fr.setCell (S := [hb]) w ⟨hb, i, none⟩ y (by simp)).block g (lt_of_heap hc) ?_
  simp
  intro e
  subst e
  rw [hx] at hc
  cases hc
  exact hE rfl
def mark77 : AK := ⟨77, ⟨#[]⟩, ⟨#[]⟩, [], ⟨#[]⟩, 0, 0⟩
/-- the acts that are handed in, and their marks -/
def fullC (a : AK) (tb cT m : Nat) : List Value := (akC a (some ⟨tb, 0, none⟩) cT).toList ++ (List.replicate m (akC mark77 none 0).toList).flatten
theorem fullC_succ (a : AK) (tb cT m : Nat) : fullC a tb cT (m + 1) = fullC a tb cT m ++ (akC mark77 none 0).toList := by
  unfold fullC
  rw [List.replicate_succ', List.flatten_append]
  simp
/-- what is handed in, while it is made -/
structure Hs (W w : World) (pb : Nat) (P : Array Value) (hb tb : Nat) (a : AK) (cT : Nat) (pa vF vN : Value) (m : Nat) : Prop where
  pbx : w.heap[pb]? = some (.cells P 24 (0, 0))
  box : w.heap[hb]? = some (.cells #[.int .i64 0, .int .i64 0, pa, vF, vN] 32 (0, 0))
  tw : w.ownsRow W.heap.size 9 1 (.slice (some ⟨tb, 0, none⟩) (a.names.length + 8) cT) (a.names.length + 8) (strs (a.names ++ mark8))
  nm : w.ownsRow W.heap.size 38 1 vN 1 [.slice (some ⟨tb, 0, none⟩) (a.names.length + 8) cT]
  fl : w.ownsRow W.heap.size 40 7 vF (m + 1) (fullC a tb cT m)
  bl : Bl W w
  hbW : W.heap.size ≤ hb
theorem bl_setCell {W w : World} (h : Bl W w) (g i : Nat) (v : Value) (hg : W.heap.size ≤ g) : Bl W (w.setCell ⟨g, i, none⟩ v) :=
  Below.trans h ((Fr.setCell (S := [g]) w ⟨g, i, none⟩ v (by simp)).below h.size (by intro b hb; simp at hb; omega))
/-- a box stays where one of another type is written -/
theorem set_box {w : World} {hb pb i : Nat} {y : Value} {C D : Array Value} {T U : TypeId} {fz : Nat × Nat} (hx : w.heap[hb]? = some (.cells C T fz)) (hp : w.heap[pb]? = some (.cells D U (0, 0))) (hU : U ≠ T) : (w.setCell ⟨hb, i, none⟩ y).heap[pb]? = some (.cells D U (0, 0)) := by
  rw [(Fr.setCell (S := [hb]) w ⟨hb, i, none⟩ y (by simp)).block pb (lt_of_heap hp) (by
    simp
    intro e
    subst e
    rw [hx] at hp
    cases hp
    exact hU rfl)]
  exact hp
/-- one mark more -/
theorem Hs.push {W w : World} {pb : Nat} {P : Array Value} {hb tb : Nat} {a : AK} {cT : Nat} {pa vF vN : Value} {m : Nat} (h : Hs W w pb P hb tb a cT pa vF vN m) (hm : m ≤ 900) :
    ∃ v' w', (Builtin.append_ #[22, 22] 22 #[vF, .slice (some ⟨w.heap.size, 0, none⟩) 1 1]).run Tryz.prog (w.alloc (.cells (akC mark77 none 0) 40)) = .ok v' w' ∧ w'.cell? ⟨hb, 3, none⟩ = some vF ∧ w'.frozen? ⟨hb, 3, none⟩ = false ∧ ∃ p n c, v' = .slice p n c ∧ ∃ W4, w'.setCell ⟨hb, 3, none⟩ v' = W4 ∧ Hid (Hs W W4 pb P hb tb a cT pa v' vN (m + 1)) := by
  obtain ⟨v', w', hr, ho, hp, -⟩ := push_act h.fl h.bl.size mark77 none 0 (by omega)
  have hbx := hp.hb h.box (fun c fz e => by cases e)
  obtain ⟨p, c, rfl⟩ := own_slice ho
  refine ⟨_, w', hr, lit_in hbx 3 _ rfl, frozen_in hbx 3, p, _, c, rfl, _, rfl, set_box hbx (hp.hb h.pbx (fun c fz e => by cases e)) (by decide), by simpa using set_in hbx 3 _, ow_set (hp.ow (by decide) h.tw) hbx (by decide), ow_set (hp.ow (by decide) h.nm) hbx (by decide), ?_, bl_setCell (Below.trans h.bl hp.below) _ _ _ h.hbW, h.hbW⟩
  rw [fullC_succ]
  exact ow_set ho hbx (by decide)
end Go.Proofs.YtheolmnjedbjmaaGreatDoor

