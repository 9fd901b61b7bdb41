import Derived.Test.YtimlomobbnnehaaGreatDoorG06LTokC
import Derived.Test.YtimlomobbnnehaaGreatDoorG08LRefA
import Derived.Deep.DeepAppendWide
import Derived.Laws.AppendOwn
import Derived.Lib.AppendZeros
import Derived.Test.YtimlomobbnnehaaGreatDoorLMayW
import Derived.Test.YtimlomobbnnehaaGreatDoorG15LBack
import Derived.Lib.AppendStr
namespace Go.Proofs.YtimlomobbnnehaaGreatDoor
open Go.RowKit Go.Maps Go.WideMaps
set_option linter.unusedVariables false
set_option linter.unusedSimpArgs false
/-- all blocks but those of S are as they were -/
structure Fr (S : List Nat) (w w' : World) : Prop where
  os : w'.os = w.os
  tape : w'.tape = w.tape
  output : w'.output = w.output
  size : w.heap.size ≤ w'.heap.size
  block : ∀ k, k < w.heap.size → k ∉ S → w'.heap[k]? = w.heap[k]?
namespace Fr
theorem refl (S : List Nat) (w : World) : Fr S w w := ⟨rfl, rfl, rfl, Nat.le_refl _, fun _ _ _ => rfl⟩
theorem trans {S S' : List Nat} {w w' w'' : World} (h : Fr S w w') (k : Fr S' w' w'') (hs : ∀ b ∈ S', b ∈ S ∨ w.heap.size ≤ b) : Fr S w w'' :=
  ⟨k.os.trans h.os, k.tape.trans h.tape, k.output.trans h.output, Nat.le_trans h.size k.size, fun i hi hn => by
    rw [k.block i (Nat.lt_of_lt_of_le hi h.size) (fun hm => by rcases hs i hm with h1 | h1; exact hn h1; omega)]
    exact h.block i hi hn⟩
theorem mono {S S' : List Nat} {w w' : World} (h : Fr S w w') (hs : ∀ b ∈ S, b ∈ S' ∨ w.heap.size ≤ b) : Fr S' w w' :=
  ⟨h.os, h.tape, h.output, h.size, fun k hk hn => h.block k hk (fun hm => by rcases hs k hm with h1 | h1; exact hn h1; omega)⟩
theorem drew (S : List Nat) (w : World) : Fr S w w.drew := ⟨rfl, rfl, rfl, Nat.le_refl _, fun _ _ _ => rfl⟩
theorem drewN (S : List Nat) (w : World) (n : Nat) : Fr S w (w.drewN n) := ⟨rfl, rfl, rfl, Nat.le_refl _, fun _ _ _ => rfl⟩
theorem alloc (S : List Nat) (w : World) (o : Obj) : Fr S w (w.alloc o) := ⟨rfl, rfl, rfl, by simp, fun k hk _ => Below.heap_alloc _ _ _ hk⟩
theorem setCell {S : List Nat} (w : World) (a : Addr) (v : Value) (h : a.block ∈ S) : Fr S w (w.setCell a v) :=
  ⟨rfl, rfl, rfl, by simp, fun k hk hn => Below.heap_setCell _ _ _ _ (fun e => hn (by rw [e]; exact h))⟩
theorem grown {S : List Nat} {w w' : World} {row : Option Nat} (h : w.grownBy w' row) (hr : ∀ k, row = some k → k ∈ S) : Fr S w w' :=
  ⟨h.os, h.tape, h.output, h.size, fun k hk hn => h.block k hk (fun e => hn (hr k e.symm))⟩
theorem bl {w w' : World} {S : List Nat} (h : Fr S w w') (hS : ∀ b ∈ S, w.heap.size ≤ b) : Bl w w' :=
  ⟨h.os, h.tape, h.output, h.size, fun k hk => h.block k hk (fun hm => by have := hS k hm; omega)⟩
theorem ofBl {w w' : World} (h : Bl w w') (S : List Nat) : Fr S w w' := ⟨h.os, h.tape, h.output, h.size, fun k hk _ => h.block k hk⟩
end Fr
def blk (o : Option Addr) : List Nat := match o with | some a => [a.block] | none => []
theorem own_congr {w w' : World} {base : Nat} {e : TypeId} {size : Nat} {v : Value} {n : Nat} {xs : List Value} (h : w.ownsRow base e size v n xs)
    (hb : ∀ g, v.ownBlock = some g → w'.heap[g]? = w.heap[g]?) : w'.ownsRow base e size v n xs := by
  refine ⟨h.1, ?_⟩
  rcases h.2 with ⟨rfl, h2⟩ | ⟨g, cap, cur, rfl, h1, h2, h3⟩
  · exact Or.inl ⟨rfl, h2⟩
  · exact Or.inr ⟨g, cap, cur, rfl, h1, (hb g rfl).trans h2, h3⟩
theorem own_lt {w : World} {base : Nat} {e : TypeId} {size : Nat} {v : Value} {n : Nat} {xs : List Value} (h : w.ownsRow base e size v n xs) (g : Nat) (hg : v.ownBlock = some g) : base ≤ g ∧ g < w.heap.size := by
  rcases h.2 with ⟨rfl, h2⟩ | ⟨g', cap, cur, rfl, h1, h2, h3⟩
  · cases hg
  · have : g' = g := by simpa [Value.ownBlock] using hg
    subst this
    exact ⟨h1, (Array.getElem?_eq_some_iff.1 h2).1⟩
theorem blk_own (p : Option Addr) (n c g : Nat) : g ∈ blk p ↔ (Value.slice p n c).ownBlock = some g := by
  cases p with
  | none => simp [blk, Value.ownBlock]
  | some a => simp [blk, Value.ownBlock, eq_comm]
theorem own_slice {w : World} {base : Nat} {e : TypeId} {size : Nat} {v : Value} {n : Nat} {xs : List Value} (h : w.ownsRow base e size v n xs) : ∃ p c, v = .slice p n c := by
  rcases h.2 with ⟨rfl, h2⟩ | ⟨g', cap, cur, rfl, h1, h2, h3⟩
  · exact ⟨none, 0, by rw [h2]⟩
  · exact ⟨_, _, rfl⟩
/-- one more token behind a row: in its own block, or in a new one and the old one stays -/
theorem push4 (w : World) (base : Nat) (p : Option Addr) (c n : Nat) (xs x : List Value) (h4 : x.length = 4) (h : w.ownsRow base 28 4 (.slice p n c) n xs) (hx : ∀ u ∈ x, u.oneCell' = true) (hn : n + 1 ≤ 2199023255552) (hB : base ≤ w.heap.size) :
    ∃ p' c' w', (Builtin.append_ #[22, 22] 22 #[.slice p n c, .slice (some ⟨w.heap.size, 0, none⟩) 1 1]).run Tryz.prog (w.alloc (.cells x.toArray 28)) = .ok (.slice p' (n + 1) c') w' ∧
      w'.ownsRow base 28 4 (.slice p' (n + 1) c') (n + 1) (xs ++ x) ∧ ((p' = p ∧ c' = c ∧ Fr (blk p) w w') ∨ (Fr [] w w' ∧ ∀ g ∈ blk p', w.heap.size ≤ g)) := by
  obtain ⟨i, hi, hz, hsize, hby⟩ := info_parts info30
  have hA : (w.alloc (.cells x.toArray 28)).heap.size = w.heap.size + 1 := by simp
  have hown : (w.alloc (.cells x.toArray 28)).ownsRow base 28 4 (.slice p n c) n xs := own_congr h (fun g hg => Below.heap_alloc _ _ _ (own_lt h g hg).2)
  have hnews : ∀ j u, x[j]? = some u → (w.alloc (.cells x.toArray 28)).cell? ((⟨w.heap.size, 0, none⟩ : Addr).add j) = some u := by
    have := World.news_of_block (heap_alloc_new w (.cells x.toArray 28))
    simpa using this
  have h63 : n + 1 ≤ maxLen := by unfold maxLen; omega
  have hb : ((n + 1) + (n + 1) / 4 + 192) * 40 ≤ 281474976710656 := by omega
  obtain ⟨v', w', hr, h2, h3, _⟩ := run_append_own_wide (P := Tryz.prog) (w.alloc (.cells x.toArray 28)) base 22 22 28 i _ 4 40 Tryz.underlying22 hi hz hsize hby rfl (by decide) _ _ _ hown ⟨w.heap.size, 0, none⟩ 1 1 x (by rw [h4]) hnews hx h63 hb (by omega)
  rcases h.2 with ⟨e1, e2⟩ | ⟨g, c0, cur, e1, q1, q2, q3, q4, q5, q6⟩
  · injection e1 with e1 e3 e4
    subst e1
    subst e4
    subst e2
    have hnil : xs = [] := List.length_eq_zero_iff.1 (by rw [h.1])
    subst hnil
    have hr2 := run_append_nil (P := Tryz.prog) (w.alloc (.cells x.toArray 28)) 22 22 28 i _ Tryz.underlying22 hi hz ⟨w.heap.size, 0, none⟩ 1 1 x (by rw [hsize, h4]) hnews (by decide) (by decide) (by rw [hby]; decide)
    have hr3 := hr
    rw [hr2] at hr3
    injection hr3 with hv hw
    subst hv
    subst hw
    exact ⟨_, _, _, hr, h2, Or.inr ⟨(Fr.alloc [] w _).trans ((Fr.drew [] _).trans (Fr.alloc [] _ _) (by simp)) (by simp), fun g hg => by simp [blk] at hg; omega⟩⟩
  · injection e1 with e1 _ e4
    subst e1
    subst e4
    by_cases hroom : n + 1 ≤ c
    · have hg : (w.alloc (.cells x.toArray 28)).heap[g]? = some (.cells cur 28 (0, 0)) := (Below.heap_alloc _ _ _ (lt_of_heap q2)).trans q2
      have hr2 := run_append_room (P := Tryz.prog) (w.alloc (.cells x.toArray 28)) 22 22 28 i Tryz.underlying22 hi g n c cur hg ⟨w.heap.size, 0, none⟩ 1 1 x (by rw [hsize, h4]) hnews hx hroom (by rw [hsize, q5, h4]; omega)
      have hr3 := hr
      rw [hr2] at hr3
      injection hr3 with hv hw
      subst hv
      refine ⟨_, _, w', hr, h2, Or.inl ⟨rfl, rfl, (Fr.alloc (blk (some ⟨g, 0, none⟩)) w _).trans (Fr.grown (S := [g]) h3 (fun k hk => ?_)) (by simp [blk])⟩⟩
      simp [Value.ownBlock] at hk
      simp [hk]
    · have holds : ∀ j u, xs[j]? = some u → (w.alloc (.cells x.toArray 28)).cell? ((⟨g, 0, none⟩ : Addr).add j) = some u := hown.cells (g := g) rfl
      have hr2 := run_append_grow (P := Tryz.prog) (w.alloc (.cells x.toArray 28)) 22 22 28 i _ Tryz.underlying22 hi hz ⟨g, 0, none⟩ n c xs (by rw [hsize]; exact h.1) holds ⟨w.heap.size, 0, none⟩ 1 1 x (by rw [hsize, h4]) hnews (by omega) (by unfold maxLen at h63; omega) (by rw [hby]; exact growslice_fits_wide (by omega) hb)
      have hr3 := hr
      rw [hr2] at hr3
      injection hr3 with hv hw
      subst hv
      subst hw
      exact ⟨_, _, _, hr, h2, Or.inr ⟨(Fr.alloc [] w _).trans ((Fr.drew [] _).trans (Fr.alloc [] _ _) (by simp)) (by simp), fun g hg => by simp [blk] at hg; omega⟩⟩
end Go.Proofs.YtimlomobbnnehaaGreatDoor

namespace Go.Proofs.YtimlomobbnnehaaGreatDoor
open Go.RowKit Go.Maps Go.WideMaps
set_option linter.unusedVariables false
set_option linter.unusedSimpArgs false
/-- a token as Go has it: kind, text, number, place -/
abbrev Zt := Int × Bs × Int × Int
def noY : Zt := (0, [], 0, 0)
def zc (z : Zt) : List Value := [.int .i64 z.1, .string (ba z.2.1), .int .i64 z.2.2.1, .int .i64 z.2.2.2]
def zcs (zs : List Zt) : List Value := zs.flatMap zc
def zT (x : Tok × Nat) : Zt := ((x.1.kind : Int), x.1.text, (x.1.num : Int), (x.2 : Int))
theorem zcs_tcs (ts : List (Tok × Nat)) : tcs ts = zcs (ts.map zT) := by
  induction ts with
  | nil => rfl
  | cons x ts ih => simp [tcs, zcs, zc, tc, zT] at ih ⊢; exact ih
theorem zcs_len (zs : List Zt) : (zcs zs).length = zs.length * 4 := by
  induction zs with
  | nil => rfl
  | cons x zs ih => simp [zcs, zc] at ih ⊢; omega
theorem zcs_app (a b : List Zt) : zcs (a ++ b) = zcs a ++ zcs b := by simp [zcs]
theorem zcs_get : ∀ (zs : List Zt) (j i : Nat), j < zs.length → i < 4 → (zcs zs)[j * 4 + i]? = (zc (zs.getD j noY))[i]? := by
  intro zs
  induction zs with
  | nil => intro j i h; simp at h
  | cons x zs ih =>
    intro j i hj hi
    have e : zcs (x :: zs) = zc x ++ zcs zs := by simp [zcs]
    rw [e]
    have l4 : (zc x).length = 4 := rfl
    cases j with
    | zero => rw [List.getElem?_append_left (by omega)]; simp
    | succ j =>
      rw [List.getElem?_append_right (by omega), l4, show (j + 1) * 4 + i - 4 = j * 4 + i by omega, ih j i (by simpa using hj) hi]
      rfl
/-- a list of them that can be read -/
structure RdV (w : World) (v : Value) (zs : List Zt) : Prop where
  at_ : ∃ p c, v = .slice p zs.length c ∧ (0 < zs.length → ∃ b off, p = some ⟨b, off, none⟩ ∧ b < w.heap.size ∧ ∀ j, j < zs.length →
    w.cell? ⟨b, off + j * 4, none⟩ = some (.int .i64 (zs.getD j noY).1) ∧ w.cell? ⟨b, off + j * 4 + 1, none⟩ = some (.string (ba (zs.getD j noY).2.1)) ∧
    w.cell? ⟨b, off + j * 4 + 2, none⟩ = some (.int .i64 (zs.getD j noY).2.2.1) ∧ w.cell? ⟨b, off + j * 4 + 3, none⟩ = some (.int .i64 (zs.getD j noY).2.2.2))
theorem RdV.frame {w w' : World} {p : Option Addr} {n c : Nat} {zs : List Zt} {S : List Nat} (h : RdV w (.slice p n c) zs) (f : Fr S w w') (hS : 0 < zs.length → ∀ g ∈ blk p, g ∉ S) : RdV w' (.slice p n c) zs := by
  obtain ⟨p', c', e, hp⟩ := h.at_
  injection e with e1 e2 e3
  subst e1 e2 e3
  refine ⟨p, c, rfl, fun h0 => ?_⟩
  obtain ⟨g, off, rfl, hg, hc⟩ := hp h0
  have e : ∀ i, w'.cell? ⟨g, i, none⟩ = w.cell? ⟨g, i, none⟩ := fun i => World.cell?_of_block (w := w) (f.block g hg (hS h0 g (by simp [blk])))
  exact ⟨g, off, rfl, Nat.lt_of_lt_of_le hg f.size, fun j hj => by rw [e, e, e, e]; exact hc j hj⟩
theorem RdV.own {w : World} {base : Nat} {v : Value} {zs : List Zt} (h : w.ownsRow base 28 4 v zs.length (zcs zs)) : RdV w v zs := by
  rcases h.2 with ⟨rfl, h2⟩ | ⟨g, cap, cur, rfl, h1, h2, h3, h4, h5, h6⟩
  · exact ⟨none, 0, by rw [h2], fun h => by omega⟩
  · refine ⟨_, cap, rfl, fun h0 => ⟨g, 0, rfl, lt_of_heap h2, fun j hj => ?_⟩⟩
    have key : ∀ i, i < 4 → w.cell? ⟨g, 0 + j * 4 + i, none⟩ = (zc (zs.getD j noY))[i]? := fun i hi => by
      rw [cell_in h2, ← zcs_get zs j i hj hi, ← h6, List.getElem?_take, if_pos (by omega), Array.getElem?_toList, Nat.zero_add]
    exact ⟨key 0 (by omega), key 1 (by omega), key 2 (by omega), key 3 (by omega)⟩
/-- the front of a row that is owned -/
theorem RdV.front {w : World} {base : Nat} {p : Option Addr} {m c c' : Nat} {zs us : List Zt} (h : w.ownsRow base 28 4 (.slice p m c) m (zcs (zs ++ us))) (hm : m = zs.length + us.length) : RdV w (.slice p zs.length c') zs := by
  have h' : RdV w (.slice p m c) (zs ++ us) := RdV.own (base := base) (by rw [List.length_append, ← hm]; exact h)
  obtain ⟨p', d, e, hp⟩ := h'.at_
  injection e with e1 e2 e3
  subst e1
  refine ⟨p, c', rfl, fun h0 => ?_⟩
  obtain ⟨b, off, rfl, hb, hc⟩ := hp (by simp; omega)
  refine ⟨b, off, rfl, hb, fun j hj => ?_⟩
  have := hc j (by simp; omega)
  have hg : (zs ++ us).getD j noY = zs.getD j noY := by
    rw [List.getD_eq_getElem?_getD, List.getD_eq_getElem?_getD, List.getElem?_append_left hj]
  rw [hg] at this
  exact this
/-- marks -/
def mks (mark : Int) (n : Nat) : List Zt := (List.range n).map fun (j : Nat) => (mark, [], 0, (j : Int))
theorem mks_len (mark : Int) (n : Nat) : (mks mark n).length = n := by simp [mks]
theorem mks_get (mark : Int) {n j : Nat} (h : j < n) : (mks mark n).getD j noY = (mark, [], 0, (j : Int)) := by
  rw [List.getD_eq_getElem?_getD]; simp [mks, h]
theorem own_set4 {w : World} {base g cap : Nat} {zs : List Zt} (h : w.ownsRow base 28 4 (.slice (some ⟨g, 0, none⟩) zs.length cap) zs.length (zcs zs)) (i : Nat) (hi : i < zs.length) (z : Zt) :
    ((((w.setCell ⟨g, i * 4, none⟩ (.int .i64 z.1)).setCell ⟨g, i * 4 + 1, none⟩ (.string (ba z.2.1))).setCell ⟨g, i * 4 + 2, none⟩ (.int .i64 z.2.2.1)).setCell ⟨g, i * 4 + 3, none⟩ (.int .i64 z.2.2.2)).ownsRow base 28 4 (.slice (some ⟨g, 0, none⟩) zs.length cap) zs.length (zcs (zs.set i z)) := by
  rcases h.2 with ⟨h1, _⟩ | ⟨g', cap', cur, e, h1, h2, h3, h4, h5, h6⟩
  · cases h1
  · injection e with e1 e2 e3
    injection e1 with e1
    injection e1 with e1
    subst e1 e3
    refine ⟨by rw [zcs_len, List.length_set], Or.inr ⟨g, cap, _, rfl, h1, set_in (set_in (set_in (set_in h2 _ _) _ _) _ _) _ _, h3, h4, by simpa using h5, ?_⟩⟩
    apply List.ext_getElem?
    intro k
    by_cases hk : k < zs.length * 4
    · rw [List.getElem?_take, if_pos hk, Array.getElem?_toList]
      have hq : k / 4 < zs.length := by omega
      have hz := zcs_get (zs.set i z) (k / 4) (k % 4) (by rw [List.length_set]; exact hq) (by omega)
      rw [show k / 4 * 4 + k % 4 = k by omega] at hz
      rw [hz]
      by_cases hqi : k / 4 = i
      · have hg : (zs.set i z).getD (k / 4) noY = z := by rw [hqi, List.getD_eq_getElem?_getD, List.getElem?_set_self hi]; rfl
        rw [hg]
        have hcs : cur.size = cap * 4 := h5
        have hr : k = i * 4 ∨ k = i * 4 + 1 ∨ k = i * 4 + 2 ∨ k = i * 4 + 3 := by omega
        have hlt : i * 4 + 3 < cur.size := by omega
        rcases hr with rfl | rfl | rfl | rfl
        · simp [Array.getElem?_setIfInBounds, zc, show i * 4 % 4 = 0 by omega, show ¬ i * 4 + 3 = i * 4 by omega]; omega
        · simp [Array.getElem?_setIfInBounds, zc, show (i * 4 + 1) % 4 = 1 by omega]; omega
        · simp [Array.getElem?_setIfInBounds, zc, show (i * 4 + 2) % 4 = 2 by omega]; omega
        · simp [Array.getElem?_setIfInBounds, zc, show (i * 4 + 3) % 4 = 3 by omega]; omega
      · have hg : (zs.set i z).getD (k / 4) noY = zs.getD (k / 4) noY := by rw [List.getD_eq_getElem?_getD, List.getElem?_set_ne (fun e => hqi e.symm), List.getD_eq_getElem?_getD]
        rw [hg, ← zcs_get zs (k / 4) (k % 4) hq (by omega), show k / 4 * 4 + k % 4 = k by omega, ← h6, List.getElem?_take, if_pos hk, Array.getElem?_toList]
        rw [Array.getElem?_setIfInBounds_ne (by omega), Array.getElem?_setIfInBounds_ne (by omega), Array.getElem?_setIfInBounds_ne (by omega), Array.getElem?_setIfInBounds_ne (by omega)]
    · rw [List.getElem?_eq_none (by simp; omega), List.getElem?_eq_none (by rw [zcs_len, List.length_set]; omega)]
end Go.Proofs.YtimlomobbnnehaaGreatDoor

namespace Go.Proofs.YtimlomobbnnehaaGreatDoor
open Go.RowKit Go.Maps Go.WideMaps
set_option linter.unusedVariables false
set_option linter.unusedSimpArgs false
def fillM (zs : List Zt) (mark : Int) (i : Nat) : List Zt := mks mark i ++ zs.drop i
theorem fillM_len (zs : List Zt) (mark : Int) (i : Nat) (hi : i ≤ zs.length) : (fillM zs mark i).length = zs.length := by simp [fillM, mks_len]; omega
theorem fillM_set (zs : List Zt) (mark : Int) (i : Nat) (hi : i < zs.length) : (fillM zs mark i).set i (mark, [], 0, (i : Int)) = fillM zs mark (i + 1) := by
  unfold fillM
  have e : zs.drop i = zs[i] :: zs.drop (i + 1) := List.drop_eq_getElem_cons hi
  have e2 : mks mark (i + 1) = mks mark i ++ [(mark, [], 0, (i : Int))] := by simp [mks, List.range_succ]
  rw [List.set_append_right _ _ (by rw [mks_len]; exact Nat.le_refl _), e, mks_len, Nat.sub_self, List.set_cons_zero, e2, List.append_assoc]
  rfl
theorem fillM_end (zs : List Zt) (mark : Int) : fillM zs mark zs.length = mks mark zs.length := by unfold fillM; rw [List.drop_length, List.append_nil]
end Go.Proofs.YtimlomobbnnehaaGreatDoor

namespace Go.Proofs.YtimlomobbnnehaaGreatDoor
open Go.RowKit Go.Maps Go.WideMaps
set_option linter.unusedVariables false
set_option linter.unusedSimpArgs false
/-- a list while it is made longer -/
structure Fz (w0 w : World) (base : Nat) (p : Option Addr) (c : Nat) (zs us : List Zt) (p' : Option Addr) (c' : Nat) : Prop where
  row : w.ownsRow base 28 4 (.slice p' (zs.length + us.length) c') (zs.length + us.length) (zcs (zs ++ us))
  rd : RdV w (.slice p zs.length c) zs
  at_ : (p' = p ∧ c' = c) ∨ ∀ g ∈ blk p, g ∉ blk p'
  fr : Fr (blk p) w0 w
  new : ∀ g ∈ blk p', g ∈ blk p ∨ w0.heap.size ≤ g
  le : base ≤ w0.heap.size
theorem fz_push {w0 w : World} {base : Nat} {p : Option Addr} {c : Nat} {zs us : List Zt} {p' : Option Addr} {c' : Nat} (h : Fz w0 w base p c zs us p' c') (z : Zt) (hb : zs.length + us.length + 1 ≤ 2199023255552) (hp0 : ∀ g ∈ blk p, g < w0.heap.size) :
    ∃ p5 c5 w5, (Builtin.append_ #[22, 22] 22 #[.slice p' (zs.length + us.length) c', .slice (some ⟨w.heap.size, 0, none⟩) 1 1]).run Tryz.prog (w.alloc (.cells (zc z).toArray 28)) = .ok (.slice p5 (zs.length + us.length + 1) c5) w5 ∧ Fz w0 w5 base p c zs (us ++ [z]) p5 c5 := by
  obtain ⟨p5, c5, w5, r1, r2, r3⟩ := push4 w base p' c' _ _ (zc z) rfl h.row (by intro u hu; simp [zc] at hu; rcases hu with rfl | rfl | rfl | rfl <;> rfl) hb (Nat.le_trans h.le h.fr.size)
  have hsn : zcs (zs ++ us) ++ zc z = zcs (zs ++ (us ++ [z])) := by simp [zcs]
  rw [hsn] at r2
  have r2' : w5.ownsRow base 28 4 (.slice p5 (zs.length + (us ++ [z]).length) c5) (zs.length + (us ++ [z]).length) (zcs (zs ++ (us ++ [z]))) := by
    rw [List.length_append, ← Nat.add_assoc]; exact r2
  refine ⟨p5, c5, w5, r1, r2', ?_, ?_, ?_, ?_, h.le⟩
  · rcases r3 with ⟨rfl, rfl, f5⟩ | ⟨f5, g5⟩
    · rcases h.at_ with ⟨rfl, rfl⟩ | hne
      · exact RdV.front r2' rfl
      · exact h.rd.frame f5 (fun _ g hg => hne g hg)
    · exact h.rd.frame f5 (fun _ g _ hm => by cases hm)
  · rcases r3 with ⟨rfl, rfl, f5⟩ | ⟨f5, g5⟩
    · exact h.at_
    · refine Or.inr (fun g hg hm => ?_)
      have := g5 g hm
      have := hp0 g hg
      have := h.fr.size
      omega
  · rcases r3 with ⟨rfl, rfl, f5⟩ | ⟨f5, g5⟩
    · exact h.fr.trans f5 (fun g hg => h.new g hg)
    · exact h.fr.trans f5 (by simp)
  · intro g hg
    rcases r3 with ⟨rfl, rfl, f5⟩ | ⟨f5, g5⟩
    · exact h.new g hg
    · exact Or.inr (Nat.le_trans h.fr.size (g5 g hg))
set_option maxHeartbeats 8000000 in
set_option maxRecDepth 1000000 in
theorem longer_ok (p : Option Addr) (c : Nat) (zs : List Zt) (mark : Int) (base : Nat) (w : World) (h : w.ownsRow base 28 4 (.slice p zs.length c) zs.length (zcs zs)) (hl : zs.length ≤ 1099511627776) (hB : base ≤ w.heap.size) :
    Calls Tryz.prog 5 #[.slice p zs.length c, .int .i64 mark] w fun e w' => ∃ p' c', e = .returned (.slice p' (zs.length + 64) c') ∧ Fz w w' base p c zs (List.replicate 64 (mark, [], 0, 0)) p' c' := by
  have HP0 : Hid (∀ g ∈ blk p, g < w.heap.size) := fun g hg => (own_lt h g ((blk_own _ _ _ _).1 hg)).2
  have HF0 : Hid (Fz w w base p c zs [] p c) := ⟨by simpa using h, RdV.own h, Or.inl ⟨rfl, rfl⟩, Fr.refl _ _, fun g hg => Or.inl hg, hB⟩
  clear h hB
  go_enter Tryz.func5, Tryz.ntmps5
  go_wp2_with fail
  go_loopw [0, 5] (fun u q wq => ∃ (j : Nat) (p' : Option Addr) (c' : Nat), j ≤ 64 ∧ q = .int .i64 j ∧ u = .slice p' (zs.length + j) c' ∧ Hid (Fz w wq base p c zs (List.replicate j (mark, [], 0, 0)) p' c')) (fun _ q _ => 64 - (intOf q).toNat)
  case atStart => exact ⟨0, p, c, Nat.zero_le _, rfl, rfl, HF0⟩
  case round =>
    obtain ⟨j, p', c', hj, rfl, rfl, hst⟩ := hrel
    have j1 : (0 : Int) ≤ (j : Int) := by omega
    clear HF0
    by_cases hlt : j < 64
    · have j2 : (j : Int) < 64 := by omega
      obtain ⟨p5, c5, w5, r5, h5⟩ := fz_push hst.out (mark, [], 0, 0) (by rw [List.length_replicate]; omega) HP0.out
      rw [List.length_replicate] at r5
      have HS5 : Hid (Fz w w5 base p c zs (List.replicate (j + 1) (mark, [], 0, 0)) p5 c5) := by
        rw [List.replicate_succ']
        exact h5
      have HR5 : Hid ((Builtin.append_ #[22, 22] 22 #[.slice p' (zs.length + j) c', .slice (some ⟨wr.heap.size, 0, none⟩) 1 1]).run Tryz.prog (wr.alloc (.cells #[.int .i64 mark, .string ⟨#[]⟩, .int .i64 0, .int .i64 0] 28)) = .ok (.slice p5 (zs.length + j + 1) c5) w5) := r5
      clear hst h5 r5
      go_wp2_with (first
        | (at_builtin; refine Lib.wpList_append_run _ rfl (.tmp 10) (.tmp 13) 22 22 rfl _ _ rfl rfl _ _ HR5.out ?_))
      go_roundw
      case rel => exact ⟨j + 1, p5, c5, by omega, by go_num, rfl, HS5⟩
      case measure => simp [intOf]; omega
    · have hje : j = 64 := by omega
      subst hje
      clear HP0
      go_wp2_with fail
      go_wp2_with fail
      go_ret
      exact ⟨p', c', rfl, hst.out⟩
end Go.Proofs.YtimlomobbnnehaaGreatDoor

namespace Go.Proofs.YtimlomobbnnehaaGreatDoor
open Go.RowKit Go.Maps
set_option linter.unusedVariables false
set_option linter.unusedSimpArgs false
theorem strCells_ba (t : Bs) : Lib.strCells (ba t) = bcs t := by simp [Lib.strCells, bcs, ba]
theorem ba_size (t : Bs) : (ba t).size = t.length := by rw [← lst_len, lst_ba]
theorem BO.appendS {w X w5 : World} {b t : Bs} {v v' : Value} (h : BO w b v X) (hg : X.grownBy w5 v.ownBlock) (ho : w5.ownsRow w.heap.size 5 1 v' (b.length + (ba t).size) (bcs b ++ Lib.strCells (ba t))) : BO w (b ++ t) v' w5 where
  own := by
    have e : bcs (b ++ t) = bcs b ++ Lib.strCells (ba t) := by rw [strCells_ba]; simp [bcs]
    rw [e, List.length_append, ← ba_size t]
    exact ho
  bl := ⟨hg.os.trans h.bl.os, hg.tape.trans h.bl.tape, hg.output.trans h.bl.output, Nat.le_trans h.bl.size hg.size, fun k hk => by
      rw [hg.block k (Nat.lt_of_lt_of_le hk h.bl.size) (fun e => by have := (own_blockB h.own e.symm).1; omega)]
      exact h.bl.block k hk⟩
theorem BO.keep {w X Y : World} {b : Bs} {v : Value} (h : BO w b v X) (k : Bl X Y) : BO w b v Y where
  own := by
    refine ⟨h.own.1, ?_⟩
    rcases h.own.2 with h2 | ⟨g, cap, cur, h1, h2, h3, h4⟩
    · exact Or.inl h2
    · exact Or.inr ⟨g, cap, cur, h1, h2, (k.block _ (lt_of_heap h3)).trans h3, h4⟩
  bl := h.bl.trans k
def mayA (zs : List Zt) (i : Nat) : Bool := mayB (zs.getD i noZ).1 (zs.getD i noZ).2.1 (zs.getD i noZ).2.2.1
def lastB (z : Zt) : Bool := decide (z.1 = 18 ∧ z.2.1 = [] ∧ z.2.2.1 = 0)
theorem good_of {zs : List Zt} (h0 : 0 < zs.length) (hl : lastB (zs.getD (zs.length - 1) noZ) = true) (hm : ∀ i, i + 1 < zs.length → mayA zs i = true) : goodZ zs := by
  intro i hi
  by_cases he : i + 1 = zs.length
  · have hl := of_decide_eq_true hl
    rw [show zs.length - 1 = i by omega] at hl
    refine ⟨?_, fun _ => he, fun _ => hl.1⟩
    rw [hl.1, hl.2.1, hl.2.2]
    decide
  · have := of_decide_eq_true (hm i (by omega))
    exact ⟨this.1, fun h => absurd h this.2, fun h => absurd h he⟩
theorem good_last {zs : List Zt} (h0 : 0 < zs.length) (g : goodZ zs) : lastB (zs.getD (zs.length - 1) noZ) = true := by
  obtain ⟨h1, h2⟩ := g (zs.length - 1) (by omega)
  have h18 := h2.2 (by omega)
  refine decide_eq_true ⟨h18, ?_, ?_⟩
  · rcases h1.2 with ⟨h | h, _⟩ | ⟨h, _⟩ | ⟨h, _⟩ | ⟨h, _⟩ | h | ⟨_, _, h⟩
    · omega
    · omega
    · omega
    · omega
    · omega
    · omega
    · exact h
  · exact h1.1 (by omega)
theorem good_may {zs : List Zt} (g : goodZ zs) : ∀ i, i + 1 < zs.length → mayA zs i = true := by
  intro i hi
  obtain ⟨h1, h2⟩ := g i (by omega)
  exact decide_eq_true ⟨h1, fun h => by have := h2.1 h; omega⟩
theorem may_shw {k : Int} {x : Bs} {m : Int} (h : mayB k x m = true) (a : Int) : shw k x m = wr (tokOf (k, x, m, a)) := by
  have h := of_decide_eq_true h
  obtain ⟨hb, e1, e2, e3⟩ := tok_can (z := (k, x, m, a)) h.1 h.2
  rw [← shw_wr hb, e1, e2, e3]
theorem pr_len' {zs : List Zt} {i : Nat} (hi : i ≤ zs.length) (hm : ∀ j, j < i → mayA zs j = true) : (pr ((zs.take i).map tokOf)).length ≤ 2 * wt (zs.take i) := by
  have hlen : (zs.take i ++ [((18, [], 0, 0) : Zt)]).length = i + 1 := by simp; omega
  have hg : goodZ (zs.take i ++ [((18, [], 0, 0) : Zt)]) := by
    refine good_of (by omega) ?_ (fun j hj => ?_)
    · rw [hlen, Nat.add_sub_cancel, List.getD_eq_getElem?_getD, List.getElem?_append_right (by simp; omega)]
      rw [show i - (zs.take i).length = 0 by simp; omega]
      rfl
    · rw [hlen] at hj
      have e : (zs.take i ++ [((18, [], 0, 0) : Zt)]).getD j noZ = zs.getD j noZ := by
        rw [List.getD_eq_getElem?_getD, List.getElem?_append_left (by simp; omega), List.getElem?_take, if_pos (by omega), List.getD_eq_getElem?_getD]
      unfold mayA
      rw [e]
      exact hm j (by omega)
  have := pr_len hg i (by omega)
  have e : (zs.take i ++ [((18, [], 0, 0) : Zt)]).take i = zs.take i := by
    rw [List.take_append_of_le_length (by simp; omega), List.take_take, Nat.min_self]
  rw [e] at this
  exact this
end Go.Proofs.YtimlomobbnnehaaGreatDoor
