import Derived.Test.YtimlomobbnnehaaDoorLFr
namespace Go.Proofs.YtimlomobbnnehaaDoor
open Go.RowKit Go.Maps Go.WideMaps
set_option linter.unusedVariables false
set_option linter.unusedSimpArgs false
/-- a token as Go has it: kind, text, number, place -/
abbrev Zt := Int × Bs × Int × Int
def noY : Zt := (0, [], 0, 0)
def zc (z : Zt) : List Value := [.int .i64 z.1, .string (ba z.2.1), .int .i64 z.2.2.1, .int .i64 z.2.2.2]
def zcs (zs : List Zt) : List Value := zs.flatMap zc
def zT (x : Tok × Nat) : Zt := ((x.1.kind : Int), x.1.text, (x.1.num : Int), (x.2 : Int))
theorem zcs_tcs (ts : List (Tok × Nat)) : tcs ts = zcs (ts.map zT) := by
  induction ts with
  | nil => rfl
  | cons x ts ih => simp [tcs, zcs, zc, tc, zT] at ih ⊢; exact ih
theorem zcs_len (zs : List Zt) : (zcs zs).length = zs.length * 4 := by
  induction zs with
  | nil => rfl
  | cons x zs ih => simp [zcs, zc] at ih ⊢; omega
theorem zcs_app (a b : List Zt) : zcs (a ++ b) = zcs a ++ zcs b := by simp [zcs]
theorem zcs_get : ∀ (zs : List Zt) (j i : Nat), j < zs.length → i < 4 → (zcs zs)[j * 4 + i]? = (zc (zs.getD j noY))[i]? := by
  intro zs
  induction zs with
  | nil => intro j i h; simp at h
  | cons x zs ih =>
    intro j i hj hi
    have e : zcs (x :: zs) = zc x ++ zcs zs := by simp [zcs]
    rw [e]
    have l4 : (zc x).length = 4 := rfl
    cases j with
    | zero => rw [List.getElem?_append_left (by omega)]; simp
    | succ j =>
      rw [List.getElem?_append_right (by omega), l4, show (j + 1) * 4 + i - 4 = j * 4 + i by omega, ih j i (by simpa using hj) hi]
      rfl
/-- a list of them that can be read -/
structure RdV (w : World) (v : Value) (zs : List Zt) : Prop where
  at_ : ∃ p c, v = .slice p zs.length c ∧ (0 < zs.length → ∃ b off, p = some ⟨b, off, none⟩ ∧ b < w.heap.size ∧ ∀ j, j < zs.length →
    w.cell? ⟨b, off + j * 4, none⟩ = some (.int .i64 (zs.getD j noY).1) ∧ w.cell? ⟨b, off + j * 4 + 1, none⟩ = some (.string (ba (zs.getD j noY).2.1)) ∧
    w.cell? ⟨b, off + j * 4 + 2, none⟩ = some (.int .i64 (zs.getD j noY).2.2.1) ∧ w.cell? ⟨b, off + j * 4 + 3, none⟩ = some (.int .i64 (zs.getD j noY).2.2.2))
theorem RdV.frame {w w' : World} {p : Option Addr} {n c : Nat} {zs : List Zt} {S : List Nat} (h : RdV w (.slice p n c) zs) (f : Fr S w w') (hS : 0 < zs.length → ∀ g ∈ blk p, g ∉ S) : RdV w' (.slice p n c) zs := by
  obtain ⟨p', c', e, hp⟩ := h.at_
  injection e with e1 e2 e3
  subst e1 e2 e3
  refine ⟨p, c, rfl, fun h0 => ?_⟩
  obtain ⟨g, off, rfl, hg, hc⟩ := hp h0
  have e : ∀ i, w'.cell? ⟨g, i, none⟩ = w.cell? ⟨g, i, none⟩ := fun i => World.cell?_of_block (w := w) (f.block g hg (hS h0 g (by simp [blk])))
  exact ⟨g, off, rfl, Nat.lt_of_lt_of_le hg f.size, fun j hj => by rw [e, e, e, e]; exact hc j hj⟩
theorem RdV.own {w : World} {base : Nat} {v : Value} {zs : List Zt} (h : w.ownsRow base 41 4 v zs.length (zcs zs)) : RdV w v zs := by
  rcases h.2 with ⟨rfl, h2⟩ | ⟨g, cap, cur, rfl, h1, h2, h3, h4, h5, h6⟩
  · exact ⟨none, 0, by rw [h2], fun h => by omega⟩
  · refine ⟨_, cap, rfl, fun h0 => ⟨g, 0, rfl, lt_of_heap h2, fun j hj => ?_⟩⟩
    have key : ∀ i, i < 4 → w.cell? ⟨g, 0 + j * 4 + i, none⟩ = (zc (zs.getD j noY))[i]? := fun i hi => by
      rw [cell_in h2, ← zcs_get zs j i hj hi, ← h6, List.getElem?_take, if_pos (by omega), Array.getElem?_toList, Nat.zero_add]
    exact ⟨key 0 (by omega), key 1 (by omega), key 2 (by omega), key 3 (by omega)⟩
/-- the front of a row that is owned -/
theorem RdV.front {w : World} {base : Nat} {p : Option Addr} {m c c' : Nat} {zs us : List Zt} (h : w.ownsRow base 41 4 (.slice p m c) m (zcs (zs ++ us))) (hm : m = zs.length + us.length) : RdV w (.slice p zs.length c') zs := by
  have h' : RdV w (.slice p m c) (zs ++ us) := RdV.own (base := base) (by rw [List.length_append, ← hm]; exact h)
  obtain ⟨p', d, e, hp⟩ := h'.at_
  injection e with e1 e2 e3
  subst e1
  refine ⟨p, c', rfl, fun h0 => ?_⟩
  obtain ⟨b, off, rfl, hb, hc⟩ := hp (by simp; omega)
  refine ⟨b, off, rfl, hb, fun j hj => ?_⟩
  have := hc j (by simp; omega)
  have hg : (zs ++ us).getD j noY = zs.getD j noY := by
    rw [List.getD_eq_getElem?_getD, List.getD_eq_getElem?_getD, List.getElem?_append_left hj]
  rw [hg] at this
  exact this
/-- marks -/
def mks (mark : Int) (n : Nat) : List Zt := (List.range n).map fun (j : Nat) => (mark, [], 0, (j : Int))
theorem mks_len (mark : Int) (n : Nat) : (mks mark n).length = n := by simp [mks]
theorem mks_get (mark : Int) {n j : Nat} (h : j < n) : (mks mark n).getD j noY = (mark, [], 0, (j : Int)) := by
  rw [List.getD_eq_getElem?_getD]; simp [mks, h]
theorem own_set4 {w : World} {base g cap : Nat} {zs : List Zt} (h : w.ownsRow base 41 4 (.slice (some ⟨g, 0, none⟩) zs.length cap) zs.length (zcs zs)) (i : Nat) (hi : i < zs.length) (z : Zt) :
    ((((w.setCell ⟨g, i * 4, none⟩ (.int .i64 z.1)).setCell ⟨g, i * 4 + 1, none⟩ (.string (ba z.2.1))).setCell ⟨g, i * 4 + 2, none⟩ (.int .i64 z.2.2.1)).setCell ⟨g, i * 4 + 3, none⟩ (.int .i64 z.2.2.2)).ownsRow base 41 4 (.slice (some ⟨g, 0, none⟩) zs.length cap) zs.length (zcs (zs.set i z)) := by
  rcases h.2 with ⟨h1, _⟩ | ⟨g', cap', cur, e, h1, h2, h3, h4, h5, h6⟩
  · cases h1
  · injection e with e1 e2 e3
    injection e1 with e1
    injection e1 with e1
    subst e1 e3
    refine ⟨by rw [zcs_len, List.length_set], Or.inr ⟨g, cap, _, rfl, h1, set_in (set_in (set_in (set_in h2 _ _) _ _) _ _) _ _, h3, h4, by simpa using h5, ?_⟩⟩
    apply List.ext_getElem?
    intro k
    by_cases hk : k < zs.length * 4
    · rw [List.getElem?_take, if_pos hk, Array.getElem?_toList]
      have hq : k / 4 < zs.length := by omega
      have hz := zcs_get (zs.set i z) (k / 4) (k % 4) (by rw [List.length_set]; exact hq) (by omega)
      rw [show k / 4 * 4 + k % 4 = k by omega] at hz
      rw [hz]
      by_cases hqi : k / 4 = i
      · have hg : (zs.set i z).getD (k / 4) noY = z := by rw [hqi, List.getD_eq_getElem?_getD, List.getElem?_set_self hi]; rfl
        rw [hg]
        have hcs : cur.size = cap * 4 := h5
        have hr : k = i * 4 ∨ k = i * 4 + 1 ∨ k = i * 4 + 2 ∨ k = i * 4 + 3 := by omega
        have hlt : i * 4 + 3 < cur.size := by omega
        rcases hr with rfl | rfl | rfl | rfl
        · simp [Array.getElem?_setIfInBounds, zc, show i * 4 % 4 = 0 by omega, show ¬ i * 4 + 3 = i * 4 by omega]; omega
        · simp [Array.getElem?_setIfInBounds, zc, show (i * 4 + 1) % 4 = 1 by omega]; omega
        · simp [Array.getElem?_setIfInBounds, zc, show (i * 4 + 2) % 4 = 2 by omega]; omega
        · simp [Array.getElem?_setIfInBounds, zc, show (i * 4 + 3) % 4 = 3 by omega]; omega
      · have hg : (zs.set i z).getD (k / 4) noY = zs.getD (k / 4) noY := by rw [List.getD_eq_getElem?_getD, List.getElem?_set_ne (fun e => hqi e.symm), List.getD_eq_getElem?_getD]
        rw [hg, ← zcs_get zs (k / 4) (k % 4) hq (by omega), show k / 4 * 4 + k % 4 = k by omega, ← h6, List.getElem?_take, if_pos hk, Array.getElem?_toList]
        rw [Array.getElem?_setIfInBounds_ne (by omega), Array.getElem?_setIfInBounds_ne (by omega), Array.getElem?_setIfInBounds_ne (by omega), Array.getElem?_setIfInBounds_ne (by omega)]
    · rw [List.getElem?_eq_none (by simp; omega), List.getElem?_eq_none (by rw [zcs_len, List.length_set]; omega)]
end Go.Proofs.YtimlomobbnnehaaDoor
