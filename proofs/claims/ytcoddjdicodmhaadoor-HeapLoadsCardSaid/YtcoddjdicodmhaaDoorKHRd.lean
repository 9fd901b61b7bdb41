import Derived.Test.YtcoddjdicodmhaaDoorKHStateW
import Derived.Laws.AppendOwnNone
import Derived.Lib.AppendZeros
namespace Go.Proofs.YtcoddjdicodmhaaDoor
open Go.RowKit
set_option linter.unusedVariables false
/-- a list of numbers that can be read, wherever it lies -/
structure Rd (w : World) (v : Value) (ss : List Int) : Prop where
  at_ : ∃ p c, v = .slice p ss.length c ∧ (0 < ss.length → ∃ g off, p = some ⟨g, off, none⟩ ∧ g < w.heap.size ∧ ∀ i, i < ss.length → w.cell? ⟨g, off + i, none⟩ = some (.int .i64 (ss.getD i 0)))
  nil : ∀ c, v = .slice none ss.length c → c = 0
  short : ss.length ≤ 17592186043904
/-- a list of words, read cell by cell -/
theorem own_slot {w : World} {base : Nat} {t : TypeId} {v : Value} {ss : List Int} (h : w.ownsRow base t 1 v ss.length (ss.map (Value.int .i64))) : ∃ p c, v = .slice p ss.length c ∧ (0 < ss.length → ∃ g, p = some ⟨g, 0, none⟩ ∧ ∀ i, i < ss.length → w.cell? ⟨g, i, none⟩ = some (.int .i64 (ss.getD i 0))) := by
  rcases h.2 with ⟨h2, h3⟩ | ⟨g, cap, cur, h2, h3⟩
  · exact ⟨none, 0, by rw [h2, h3], fun hp => by omega⟩
  · refine ⟨some ⟨g, 0, none⟩, cap, h2, fun hp => ⟨g, rfl, fun i hi => ?_⟩⟩
    rw [h2] at h
    rw [h.cellAt i (by omega), List.getElem?_map, List.getD_eq_getElem?_getD, List.getElem?_eq_getElem hi]
    rfl
theorem own_rd {w : World} {base : Nat} {t : TypeId} {v : Value} {ss : List Int} (h : w.ownsRow base t 1 v ss.length (ss.map (Value.int .i64))) (hs : ss.length ≤ 17592186043904) : Rd w v ss := by
  obtain ⟨p, c, e, h1⟩ := own_slot h
  refine ⟨⟨p, c, e, fun hp => ?_⟩, fun c' hc => ?_, hs⟩
  rotate_left
  · rcases h.2 with ⟨h2, h3⟩ | ⟨g, cap, cur, h2, h3⟩
    · rw [h2] at hc; injection hc with _ _ e3; exact e3.symm
    · rw [h2] at hc; injection hc with e3; cases e3
  obtain ⟨g, e2, h2⟩ := h1 hp
  exact ⟨g, 0, e2, World.block_lt_of_cell? w ⟨g, 0, none⟩ (h2 0 hp), fun i hi => by rw [Nat.zero_add]; exact h2 i hi⟩
theorem Rd.keep {w w' : World} {v : Value} {ss : List Int} {S : List Nat} (h : Rd w v ss) (hf : Fr S w w') (hd : 0 < ss.length → ∀ g, v.ownBlock = some g → g ∉ S) : Rd w' v ss := by
  obtain ⟨p, c, e, h1⟩ := h.at_
  refine ⟨⟨p, c, e, fun hp => ?_⟩, h.nil, h.short⟩
  obtain ⟨g, off, e2, h2, h3⟩ := h1 hp
  have hn := hd hp g (by rw [e, e2]; rfl)
  exact ⟨g, off, e2, by have := hf.size; omega, fun i hi => (hf.cell (p := ⟨g, off + i, none⟩) h2 hn).trans (h3 i hi)⟩
theorem Rd.idle {w w' : World} {v : Value} {ss : List Int} (h : Rd w v ss) (hf : Fr [] w w') : Rd w' v ss := h.keep hf (by simp)
theorem Rd.lt {w : World} {v : Value} {ss : List Int} (h : Rd w v ss) (hp : 0 < ss.length) (g : Nat) (hg : v.ownBlock = some g) : g < w.heap.size := by
  obtain ⟨p, c, e, h1⟩ := h.at_
  obtain ⟨g', off, e2, h2, h3⟩ := h1 hp
  rw [e, e2] at hg
  have : g' = g := by simpa [Value.ownBlock] using hg
  omega
/-- a copy of a list of words: append to nil -/
theorem run_copy (ss : List Int) (u : Value) (w : World) (h : Rd w u ss) : ∃ v' w', (Builtin.append_ #[80, 80] 80 #[.slice none 0 0, u]).run Tryd.prog w = .ok v' w' ∧ w'.ownsRow w.heap.size 33 1 v' ss.length (ss.map (Value.int .i64)) ∧ Fr [] w w' := by
  obtain ⟨p, c, rfl, h1⟩ := h.at_
  obtain ⟨i33, ii, iz, is, ib⟩ := info_parts info33
  have hown : w.ownsRow w.heap.size 33 1 (.slice none 0 0) 0 [] := World.ownsRow_nil _ _ _ _
  cases p with
  | none =>
    have h0 : ss.length = 0 := by
      rcases Nat.eq_zero_or_pos ss.length with h0 | h0
      · exact h0
      · obtain ⟨g, off, e2, _⟩ := h1 h0; cases e2
    have hs : ss = [] := List.length_eq_zero_iff.1 h0
    have hc := h.nil c rfl
    subst hs
    subst hc
    exact ⟨_, _, run_append_owned_none (P := Tryd.prog) (w := w) w.heap.size 80 80 33 i33 1 Tryd.underlying80 ii _ _ _ hown, hown, Fr.refl _ _⟩
  | some ad =>
    have hnews : ∀ j x, (ss.map (Value.int .i64))[j]? = some x → w.cell? (ad.add j) = some x := fun j x hx => by
      rw [List.getElem?_map] at hx
      cases hz : ss[j]? with
      | none => rw [hz] at hx; simp at hx
      | some z =>
        rw [hz] at hx
        simp at hx
        obtain ⟨hj, hjz⟩ := List.getElem?_eq_some_iff.1 hz
        obtain ⟨g, off, e2, h2, h3⟩ := h1 (by omega)
        rw [Option.some.inj e2, Addr.add_mid, h3 j hj, List.getD_eq_getElem?_getD, hz, ← hx]
        rfl
    have hsh := h.short
    obtain ⟨v', w', hr, h2, h3, _, h5⟩ := run_append_own_at (P := Tryd.prog) w w.heap.size 80 80 33 i33 (.int .i64 0) 1 8 Tryd.underlying80 ii iz is ib rfl (by decide) _ _ _ hown ad ss.length c (ss.map (Value.int .i64)) (by simp) hnews (fun x hx => by obtain ⟨z, _, rfl⟩ := List.mem_map.1 hx; rfl) (by unfold maxLen; omega) (by omega) (Nat.le_refl _)
    refine ⟨v', w', hr, ?_, Fr.grown h3 (fun k hk => by cases hk)⟩
    rw [Nat.zero_add] at h2
    exact h2
/-- an object as it was handed in -/
structure OI where
  oop : Int
  cls : Int
  fmt : Int
  slots : List Int
  v : Value
def oiKey (o : OI) : Int × Int × Int × List Int := (o.oop, o.cls, o.fmt, o.slots)
/-- a list of objects that can be read, wherever it lies -/
structure SAt (w : World) (ov : Value) (l : List OI) : Prop where
  at_ : ∃ p c, ov = .slice p l.length c ∧ (0 < l.length → ∃ g off, p = some ⟨g, off, none⟩ ∧ ∀ k, k < l.length → ∃ o, l[k]? = some o ∧ w.cell? ⟨g, off + k * 4, none⟩ = some (.int .i64 o.oop) ∧ w.cell? ⟨g, off + k * 4 + 1, none⟩ = some (.int .i64 o.cls) ∧ w.cell? ⟨g, off + k * 4 + 2, none⟩ = some (.int .i64 o.fmt) ∧ w.cell? ⟨g, off + k * 4 + 3, none⟩ = some o.v)
  slots : ∀ o ∈ l, Rd w o.v o.slots
  short : l.length ≤ 2932031007317
theorem SAt.idle {w w' : World} {ov : Value} {l : List OI} (h : SAt w ov l) (hf : Fr [] w w') : SAt w' ov l := by
  obtain ⟨p, c, e, h1⟩ := h.at_
  refine ⟨⟨p, c, e, fun hp => ?_⟩, fun o ho => (h.slots o ho).idle hf, h.short⟩
  obtain ⟨g, off, e2, h3⟩ := h1 hp
  refine ⟨g, off, e2, fun k hk => ?_⟩
  obtain ⟨o, h4, a0, a1, a2, a3⟩ := h3 k hk
  have hl := World.block_lt_of_cell? w ⟨g, off + k * 4, none⟩ a0
  exact ⟨o, h4, (hf.cell (p := ⟨g, off + k * 4, none⟩) hl (by simp)).trans a0, (hf.cell (p := ⟨g, off + k * 4 + 1, none⟩) hl (by simp)).trans a1, (hf.cell (p := ⟨g, off + k * 4 + 2, none⟩) hl (by simp)).trans a2, (hf.cell (p := ⟨g, off + k * 4 + 3, none⟩) hl (by simp)).trans a3⟩
/-- the cells of an object -/
theorem osCells_at (l : List OS) : ∀ k, k < l.length → ∃ o, l[k]? = some o ∧ (osCells l)[k * 4]? = some (.int .i64 (o.oop : Int)) ∧ (osCells l)[k * 4 + 1]? = some (.int .i64 o.cls) ∧ (osCells l)[k * 4 + 2]? = some (.int .i64 (o.fmt : Int)) ∧ (osCells l)[k * 4 + 3]? = some o.v := by
  induction l with
  | nil => intro k hk; simp at hk
  | cons o l ih =>
    intro k hk
    have e : osCells (o :: l) = os4 o ++ osCells l := by simp [osCells]
    rw [e]
    cases k with
    | zero => exact ⟨o, rfl, rfl, rfl, rfl, rfl⟩
    | succ k =>
      obtain ⟨x, h0, h1, h2, h3, h4⟩ := ih k (by simpa using hk)
      refine ⟨x, by simpa using h0, ?_, ?_, ?_, ?_⟩
      · rw [List.getElem?_append_right (by simp [os4]; omega), show (k + 1) * 4 - (os4 o).length = k * 4 from by simp [os4]; omega]; exact h1
      · rw [List.getElem?_append_right (by simp [os4]; omega), show (k + 1) * 4 + 1 - (os4 o).length = k * 4 + 1 from by simp [os4]; omega]; exact h2
      · rw [List.getElem?_append_right (by simp [os4]; omega), show (k + 1) * 4 + 2 - (os4 o).length = k * 4 + 2 from by simp [os4]; omega]; exact h3
      · rw [List.getElem?_append_right (by simp [os4]; omega), show (k + 1) * 4 + 3 - (os4 o).length = k * 4 + 3 from by simp [os4]; omega]; exact h4
theorem SRep.at {w : World} {base : Nat} {ov : Value} {l : List OS} (h : SRep w base ov l) : ∃ p c, ov = .slice p l.length c ∧ True := by
  rcases h.row.2 with ⟨h2, h3⟩ | ⟨g, cap, cur, h2, h3⟩
  · exact ⟨none, 0, by rw [h2, h3], trivial⟩
  · exact ⟨some ⟨g, 0, none⟩, cap, h2, trivial⟩
def toOI (o : OS) : OI := ⟨o.oop, o.cls, o.fmt, o.slots, o.v⟩
theorem SRep.sat {w : World} {base : Nat} {ov : Value} {l : List OS} (h : SRep w base ov l) (hl : l.length ≤ 2932031007317) (hs : ∀ o ∈ l, o.slots.length ≤ 17592186043904) : SAt w ov (l.map toOI) := by
  have hr := h.row
  refine ⟨?_, fun o ho => ?_, by simpa using hl⟩
  · rcases hr.2 with ⟨h2, h3⟩ | ⟨g, cap, cur, h2, h3⟩
    · exact ⟨none, 0, by rw [h2, List.length_map, h3], fun hp => by rw [List.length_map] at hp; omega⟩
    · refine ⟨some ⟨g, 0, none⟩, cap, by rw [List.length_map]; exact h2, fun hp => ⟨g, 0, rfl, fun k hk => ?_⟩⟩
      rw [List.length_map] at hk
      rw [h2] at hr
      obtain ⟨o, h0, h1, h4, h5, h6⟩ := osCells_at l k hk
      refine ⟨toOI o, by rw [List.getElem?_map, h0]; rfl, ?_, ?_, ?_, ?_⟩
      · rw [Nat.zero_add, hr.cellAt _ (by omega)]; exact h1
      · rw [Nat.zero_add, hr.cellAt _ (by omega)]; exact h4
      · rw [Nat.zero_add, hr.cellAt _ (by omega)]; exact h5
      · rw [Nat.zero_add, hr.cellAt _ (by omega)]; exact h6
  · obtain ⟨x, hx, rfl⟩ := List.mem_map.1 ho
    exact own_rd (h.slots x hx) (hs x hx)
end Go.Proofs.YtcoddjdicodmhaaDoor
