import Derived.Test.YtdflpoldlokijaaDoorCRf1
import Derived.Test.YtdflpoldlokijaaDoorG30CRf0
namespace Go.Proofs.YtdflpoldlokijaaDoor
open Go.RowKit
set_option linter.unusedVariables false
set_option linter.unusedSimpArgs false
attribute [local go_sem ↓] Go.wp_at_zero Go.wp_at_succ
/-- the document's ways, in memory: the depths by the instruction's place in its list -/
structure VW (w : World) (B v : Nat) (ds : List Int) (pd : Option Addr) (cd : Nat) (most : Int) (cl : Bool) : Prop where
  top : w.heap[v]? = some (.cells #[.slice pd ds.length cd, .int .i64 most, .bool cl] 76 (0, 0))
  base : B ≤ v
  row : w.ownsRow B 3 1 (.slice pd ds.length cd) ds.length (ds.map (Value.int .i64))
/-- an instruction is come to with a depth -/
def reachD (ds : List Int) (cl : Bool) (i : Nat) (d : Int) : List Int × Bool × Bool :=
  if ds.getD i 0 = -1 then (ds.set i d, cl, true) else if ds.getD i 0 ≠ d then (ds, true, false) else (ds, cl, false)
section
variable {w : World} {B v : Nat} {ds : List Int} {pd : Option Addr} {cd : Nat} {most : Int} {cl : Bool}
theorem VW.idle {w' : World} (h : VW w B v ds pd cd most cl) (hf : Fr [] w w') : VW w' B v ds pd cd most cl :=
  ⟨hf.hb h.top, h.base, own_congr h.row fun g hg => hf.block g (own_lt h.row g hg).2 (by simp)⟩
theorem VW.dne (h : VW w B v ds pd cd most cl) : ∀ g ∈ blk pd, g ≠ v := fun g hg e => by
  obtain ⟨c, hc⟩ := row_block h.row ((blk_own pd ds.length cd g).2 hg)
  exact ty_ne hc h.top (by decide) e
theorem VW.setTop (h : VW w B v ds pd cd most cl) (i : Nat) (u : Value) (most' : Int) (cl' : Bool) (ht : (#[.slice pd ds.length cd, .int .i64 most, .bool cl] : Array Value).setIfInBounds i u = #[.slice pd ds.length cd, .int .i64 most', .bool cl']) : VW (w.setCell ⟨v, i, none⟩ u) B v ds pd cd most' cl' ∧ Fr [v] w (w.setCell ⟨v, i, none⟩ u) := by
  have f : Fr [v] w (w.setCell ⟨v, i, none⟩ u) := Fr.setCell (S := [v]) w ⟨v, i, none⟩ u (by simp)
  exact ⟨⟨by rw [set_in h.top i u, ht], h.base, own_congr h.row fun g hg => f.block g (own_lt h.row g hg).2 (by simp; exact h.dne g ((blk_own _ _ _ _).1 hg))⟩, f⟩
end
end Go.Proofs.YtdflpoldlokijaaDoor
namespace Go.Proofs.YtdflpoldlokijaaDoor
set_option linter.unusedVariables false
set_option linter.unusedSimpArgs false
/-- the words below n at which instructions begin -/
def stK (l : List Pl) (n : Nat) : List Nat := (List.range n).filter fun i => decide ((plD l i).body ≠ 0)
theorem stK_zero (l : List Pl) : stK l 0 = [] := rfl
theorem stK_yes (l : List Pl) (n : Nat) (h : (plD l n).body ≠ 0) : stK l (n + 1) = stK l n ++ [n] := by
  unfold stK; rw [List.range_succ, List.filter_append]; simp [h]
theorem stK_no (l : List Pl) (n : Nat) (h : (plD l n).body = 0) : stK l (n + 1) = stK l n := by
  unfold stK; rw [List.range_succ, List.filter_append]; simp [h]
theorem stK_gap (l : List Pl) (a : Nat) : ∀ b, a ≤ b → (∀ i, a ≤ i → i < b → (plD l i).body = 0) → stK l b = stK l a := by
  intro b
  induction b with
  | zero => intro h _; rw [show a = 0 by omega]
  | succ b ih =>
    intro h hz
    by_cases hab : a = b + 1
    · rw [hab]
    · rw [stK_no l b (hz b (by omega) (by omega)), ih (by omega) (fun i h1 h2 => hz i h1 (by omega))]
theorem stK_congr (l m : List Pl) (n : Nat) (h : ∀ i, i < n → (plD l i).body = (plD m i).body) : stK l n = stK m n := by
  unfold stK
  refine List.filter_congr fun i hi => ?_
  rw [h i (by simpa using hi)]
theorem mem_stK (l : List Pl) (n x : Nat) : x ∈ stK l n ↔ x < n ∧ (plD l x).body ≠ 0 := by simp [stK]
theorem stK_len_le (l : List Pl) (n : Nat) : (stK l n).length ≤ n := by
  unfold stK; refine Nat.le_trans (List.length_filter_le _ _) ?_; simp
theorem stK_pre (l : List Pl) (a : Nat) : ∀ b, a ≤ b → ∃ t, stK l b = stK l a ++ t := by
  intro b
  induction b with
  | zero => intro h; exact ⟨[], by rw [show a = 0 by omega]; simp⟩
  | succ b ih =>
    intro h
    by_cases hab : a = b + 1
    · exact ⟨[], by rw [hab]; simp⟩
    · obtain ⟨t, ht⟩ := ih (by omega)
      by_cases hb : (plD l b).body = 0
      · exact ⟨t, by rw [stK_no l b hb, ht]⟩
      · exact ⟨t ++ [b], by rw [stK_yes l b hb, ht]; simp⟩
/-- the place of a word in that list -/
def plK (l : List Pl) (x : Nat) : Nat := (stK l x).length
theorem stK_at (l : List Pl) (n x : Nat) (h : x < n) (hb : (plD l x).body ≠ 0) : (stK l n)[plK l x]? = some x := by
  obtain ⟨t, ht⟩ := stK_pre l (x + 1) n (by omega)
  rw [ht, stK_yes l x hb]
  unfold plK
  rw [List.append_assoc, List.getElem?_append_right (Nat.le_refl _), Nat.sub_self]
  rfl
theorem plK_lt (l : List Pl) (n x : Nat) (h : x < n) (hb : (plD l x).body ≠ 0) : plK l x < (stK l n).length := (List.getElem?_eq_some_iff.1 (stK_at l n x h hb)).1
theorem stK_inv (l : List Pl) (n i x : Nat) (h : (stK l n)[i]? = some x) : i = plK l x ∧ x < n ∧ (plD l x).body ≠ 0 := by
  induction n with
  | zero => rw [stK_zero] at h; simp at h
  | succ n ih =>
    by_cases hb : (plD l n).body = 0
    · rw [stK_no l n hb] at h
      obtain ⟨h1, h2, h3⟩ := ih h
      exact ⟨h1, by omega, h3⟩
    · rw [stK_yes l n hb] at h
      by_cases hi : i < (stK l n).length
      · rw [List.getElem?_append_left hi] at h
        obtain ⟨h1, h2, h3⟩ := ih h
        exact ⟨h1, by omega, h3⟩
      · rw [List.getElem?_append_right (by omega)] at h
        obtain ⟨j, hj⟩ : ∃ j, i - (stK l n).length = j := ⟨_, rfl⟩
        rw [hj] at h
        cases j with
        | zero =>
          simp at h
          subst h
          exact ⟨by unfold plK; omega, by omega, hb⟩
        | succ j => simp at h
/-- nothing behind the end of what is read is written -/
theorem readP_hi (C : Cx) : ∀ (f : Nat) (sc : List Nat) (at_ en k : Nat) (R : Rs) (x : Nat), en ≤ x → plD (readP C f sc at_ en k R).2.pls x = plD R.pls x := by
  intro f
  induction f with
  | zero => intro sc at_ en k R x hx; rfl
  | succ f ih =>
    intro sc at_ en k R x hx
    unfold readP
    split
    · rename_i hlt
      split
      · rfl
      · rename_i he
        have he : (instrP C sc at_ en).1 = 0 := by simpa using he
        obtain ⟨hok, -, -⟩ := instrP_ok C sc at_ en he
        have h1 := hok.gt
        have h2 := hok.ne
        split
        · split
          · rw [ih _ _ _ _ _ _ (by omega)]; exact plD_set_ne _ _ _ _ (by omega)
          · rw [ih _ _ _ _ _ _ (by omega), ih _ _ _ _ _ _ (by omega)]; exact plD_set_ne _ _ _ _ (by omega)
        · rw [ih _ _ _ _ _ _ (by omega)]; exact plD_set_ne _ _ _ _ (by omega)
    · rfl
end Go.Proofs.YtdflpoldlokijaaDoor
namespace Go.Proofs.YtdflpoldlokijaaDoor
set_option linter.unusedVariables false
set_option linter.unusedSimpArgs false
/-- how many are not come to -/
def unr (ds : List Int) : Nat := (ds.filter fun d => decide (d = -1)).length
theorem unr_cons (a : Int) (ds : List Int) : unr (a :: ds) = unr ds + if a = -1 then 1 else 0 := by
  unfold unr
  by_cases h : a = -1 <;> simp [h]
theorem unr_set : ∀ (ds : List Int) (j : Nat) (d : Int), ds[j]? = some (-1) → d ≠ -1 → unr (ds.set j d) + 1 = unr ds := by
  intro ds
  induction ds with
  | nil => intro j d h; simp at h
  | cons a ds ih =>
    intro j d h hd
    cases j with
    | zero =>
      simp at h
      subst h
      rw [List.set_cons_zero, unr_cons, unr_cons, if_neg hd, if_pos rfl]
    | succ j =>
      rw [List.set_cons_succ, unr_cons, unr_cons]
      have := ih j d (by simpa using h) hd
      omega
theorem unr_le (ds : List Int) : unr ds ≤ ds.length := List.length_filter_le _ _
/-- the depths by the place in the list -/
def dsOf (l : List Pl) (dep : List Int) : List Int := (stK l l.length).map (depD dep)
theorem dsOf_len (l : List Pl) (dep : List Int) : (dsOf l dep).length = (stK l l.length).length := by simp [dsOf]
theorem dsOf_get (l : List Pl) (dep : List Int) (y : Nat) (h : y < l.length) (hb : (plD l y).body ≠ 0) : (dsOf l dep)[plK l y]? = some (depD dep y) := by
  unfold dsOf; rw [List.getElem?_map, stK_at l _ y h hb]; rfl
theorem dsOf_set (l : List Pl) (dep : List Int) (y : Nat) (d : Int) (hl : dep.length = l.length) (h : y < l.length) (hb : (plD l y).body ≠ 0) : dsOf l (dep.set y d) = (dsOf l dep).set (plK l y) d := by
  refine List.ext_getElem? fun i => ?_
  cases hx : (stK l l.length)[i]? with
  | none =>
    have : (stK l l.length).length ≤ i := List.getElem?_eq_none_iff.1 hx
    rw [List.getElem?_eq_none (by rw [dsOf_len]; exact this), List.getElem?_eq_none (by rw [List.length_set, dsOf_len]; exact this)]
  | some x =>
    obtain ⟨e, x1, x2⟩ := stK_inv l _ i x hx
    unfold dsOf
    rw [List.getElem?_map, hx, List.getElem?_set]
    by_cases hxy : x = y
    · subst hxy
      rw [if_pos e.symm]
      have : plK l x < ((stK l l.length).map (depD dep)).length := by rw [List.length_map]; exact plK_lt l _ x h hb
      rw [if_pos this]
      simp only [Option.map_some]
      rw [depD_set_eq _ _ _ (by omega)]
    · rw [if_neg (fun he => ?_)]
      · rw [List.getElem?_map, hx]
        simp only [Option.map_some]
        rw [depD_set_ne _ _ _ _ (Ne.symm hxy)]
      · have h1 := stK_at l l.length y h hb
        rw [he, hx] at h1
        exact hxy (Option.some.inj h1)
theorem rch_ok {l : List Pl} (hl : PlOk l) (h0 : 0 < l.length) (hb : (plD l 0).body ≠ 0) : ∀ x, Rch l x → x < l.length ∧ (plD l x).body ≠ 0 := by
  intro x hx
  induction hx with
  | zero => exact ⟨h0, hb⟩
  | @on x hx hk he ih =>
    have h1 := hl.op x ih.1 ih.2
    have h2 : ¬ ((plD l x).nxt = l.length ∨ (plD l (plD l x).nxt).body ≠ (plD l x).body) := fun hh => he ⟨hk, hh⟩
    simp only [not_or, Decidable.not_not] at h2
    exact ⟨by have := h2.1; omega, by rw [h2.2]; exact ih.2⟩
  | @blk x hx hk ih => exact hl.blk x ih.1 ih.2 hk
  | @jmp x hx hk ih => exact hl.jmp x ih.1 ih.2 hk
/-- an instruction is come to with a depth -/
def reachV (v : RV) (y : Nat) (d : Int) : RV × Bool :=
  if depD v.dep y = -1 then ({ v with dep := v.dep.set y d }, true) else if depD v.dep y ≠ d then ({ v with clash := true }, false) else (v, false)
def mstV (v : RV) (m : Int) : RV := if v.most < m then { v with most := m } else v
/-- the numbers stay small -/
structure RB (l : List Pl) (v : RV) : Prop where
  dep : ∀ x, depD v.dep x ≤ 2 * (((dsOf l v.dep).length : Int) - unr (dsOf l v.dep))
  most : v.most ≤ 2 * (((dsOf l v.dep).length : Int) - unr (dsOf l v.dep)) + 2
structure RS (l : List Pl) (v : RV) : Prop where
  ri : RI l v
  rb : RB l v
theorem RS.mst {l : List Pl} {v : RV} (h : RS l v) (m : Int) (hm : ∀ D, Con l D → ∀ B, 0 ≤ B → (∀ x, Rch l x → D x ≤ B) → m ≤ B) (hb : m ≤ 2 * (((dsOf l v.dep).length : Int) - unr (dsOf l v.dep)) + 2) :
    RS l (mstV v m) ∧ m ≤ (mstV v m).most ∧ (mstV v m).dep = v.dep ∧ (mstV v m).clash = v.clash := by
  unfold mstV
  split
  · rename_i hlt
    refine ⟨⟨⟨h.ri.len, h.ri.zero, h.ri.rch, h.ri.pos, h.ri.con, ⟨by have := h.ri.mst.1; show (0 : Int) ≤ m; omega, fun x => Int.le_trans (h.ri.mst.2 x) (Int.le_of_lt hlt)⟩, fun D hD B hB hx => hm D hD B hB hx⟩, ⟨h.rb.dep, hb⟩⟩, Int.le_refl _, rfl, rfl⟩
  · rename_i hlt
    exact ⟨h, by omega, rfl, rfl⟩
theorem RS.clash {l : List Pl} {v : RV} (h : RS l v) (hn : ∀ D, ¬ Con l D) : RS l { v with clash := true } :=
  ⟨⟨h.ri.len, h.ri.zero, h.ri.rch, h.ri.pos, fun D hD => absurd hD (hn D), h.ri.mst, fun D hD => absurd hD (hn D)⟩, ⟨h.rb.dep, h.rb.most⟩⟩
/-- what a coming to leaves -/
structure Rea (l : List Pl) (v v' : RV) (m : Bool) : Prop where
  rs : RS l v'
  most : v'.most = v.most
  same : ∀ x, depD v.dep x ≠ -1 → depD v'.dep x = depD v.dep x
  no : m = false → v'.dep = v.dep
  cl : v'.clash = false → v.clash = false
  up : unr (dsOf l v'.dep) + (if m then 1 else 0) ≤ unr (dsOf l v.dep)
theorem RS.reach {l : List Pl} (hl : PlOk l) (h0 : 0 < l.length) (hb0 : (plD l 0).body ≠ 0) {v : RV} (h : RS l v) (y : Nat) (d : Int) (hy : Rch l y) (hd : 0 ≤ d) (hm : d ≤ v.most) (hc : ∀ D, Con l D → D y = d) (h2 : d ≤ 2 * (((dsOf l v.dep).length : Int) - unr (dsOf l v.dep)) + 2) :
    Rea l v (reachV v y d).1 (reachV v y d).2 ∧ ((reachV v y d).2 = false → depD v.dep y ≠ -1 ∧ ((reachV v y d).1.clash = false → depD v.dep y = d)) := by
  obtain ⟨y1, y2⟩ := rch_ok hl h0 hb0 y hy
  have hlen := h.ri.len
  unfold reachV
  by_cases e1 : depD v.dep y = -1
  · rw [if_pos e1]
    have hds : dsOf l (v.dep.set y d) = (dsOf l v.dep).set (plK l y) d := dsOf_set l _ y d hlen y1 y2
    have hu : unr (dsOf l (v.dep.set y d)) + 1 = unr (dsOf l v.dep) := by
      rw [hds]
      exact unr_set _ _ _ (by rw [dsOf_get l _ y y1 y2, e1]) (by omega)
    have hle : (dsOf l (v.dep.set y d)).length = (dsOf l v.dep).length := by rw [hds]; simp
    refine ⟨⟨⟨⟨by simp [hlen], ?_, fun x hx => ?_, fun x hx => ?_, fun D hD => ⟨(h.ri.con D hD).1, fun x hx => ?_⟩, ⟨h.ri.mst.1, fun x => ?_⟩, h.ri.up⟩, ⟨fun x => ?_, ?_⟩⟩, rfl, fun x hx => ?_, fun hh => (by cases hh), id, ?_⟩, fun hh => (by cases hh)⟩
    · by_cases hx : y = 0
      · subst hx; rw [h.ri.zero] at e1; cases e1
      · show depD (v.dep.set y d) 0 = 0
        rw [depD_set_ne _ _ _ _ hx]; exact h.ri.zero
    · by_cases hxy : y = x
      · subst hxy; exact hy
      · rw [show depD (v.dep.set y d) x = depD v.dep x from depD_set_ne _ _ _ _ hxy] at hx; exact h.ri.rch x hx
    · by_cases hxy : y = x
      · subst hxy; show 0 ≤ depD (v.dep.set y d) y; rw [depD_set_eq _ _ _ (by omega)]; exact hd
      · show 0 ≤ depD (v.dep.set y d) x
        rw [show depD (v.dep.set y d) x = depD v.dep x from depD_set_ne _ _ _ _ hxy] at hx ⊢; exact h.ri.pos x hx
    · by_cases hxy : y = x
      · subst hxy; show depD (v.dep.set y d) y = _; rw [depD_set_eq _ _ _ (by omega), hc D hD]
      · show depD (v.dep.set y d) x = _
        rw [show depD (v.dep.set y d) x = depD v.dep x from depD_set_ne _ _ _ _ hxy] at hx ⊢; exact (h.ri.con D hD).2 x hx
    · by_cases hxy : y = x
      · subst hxy; show depD (v.dep.set y d) y ≤ _; rw [depD_set_eq _ _ _ (by omega)]; exact hm
      · show depD (v.dep.set y d) x ≤ _
        rw [depD_set_ne _ _ _ _ hxy]; exact h.ri.mst.2 x
    · show depD (v.dep.set y d) x ≤ 2 * (((dsOf l (v.dep.set y d)).length : Int) - unr (dsOf l (v.dep.set y d)))
      rw [hle]
      by_cases hxy : y = x
      · subst hxy; rw [depD_set_eq _ _ _ (by omega)]; omega
      · rw [depD_set_ne _ _ _ _ hxy]; have := h.rb.dep x; omega
    · show v.most ≤ 2 * (((dsOf l (v.dep.set y d)).length : Int) - unr (dsOf l (v.dep.set y d))) + 2
      rw [hle]
      have := h.rb.most
      omega
    · show depD (v.dep.set y d) x = _
      exact depD_set_ne _ _ _ _ (fun e => hx (by rw [← e]; exact e1))
    · show unr (dsOf l (v.dep.set y d)) + _ ≤ _
      simp only [if_true]
      omega
  · rw [if_neg e1]
    by_cases e2 : depD v.dep y ≠ d
    · rw [if_pos e2]
      refine ⟨⟨h.clash fun D hD => e2 ?_, rfl, fun _ _ => rfl, fun _ => rfl, fun hh => (by cases hh), by simp⟩, fun _ => ⟨e1, fun hh => (by cases hh)⟩⟩
      rw [(h.ri.con D hD).2 y e1, hc D hD]
    · rw [if_neg e2]
      exact ⟨⟨h, rfl, fun _ _ => rfl, fun _ => rfl, id, by simp⟩, fun _ => ⟨e1, fun _ => by simpa using e2⟩⟩
theorem no_on (op : Nat) (h : ¬((shp op).kind = 1 ∨ (shp op).kind = 2 ∨ (shp op).kind = 5 ∨ (shp op).kind = 7)) : (shp op).on = 0 := by
  by_cases h1 : 1 ≤ op ∧ op ≤ 28
  · rcases (show op = 1 ∨ op = 2 ∨ op = 3 ∨ op = 4 ∨ op = 5 ∨ op = 6 ∨ op = 7 ∨ op = 8 ∨ op = 9 ∨ op = 10 ∨ op = 11 ∨ op = 12 ∨ op = 13 ∨ op = 14 ∨ op = 15 ∨ op = 16 ∨ op = 17 ∨ op = 18 ∨ op = 19 ∨ op = 20 ∨ op = 21 ∨ op = 22 ∨ op = 23 ∨ op = 24 ∨ op = 25 ∨ op = 26 ∨ op = 27 ∨ op = 28 by omega) with rfl | rfl | rfl | rfl | rfl | rfl | rfl | rfl | rfl | rfl | rfl | rfl | rfl | rfl | rfl | rfl | rfl | rfl | rfl | rfl | rfl | rfl | rfl | rfl | rfl | rfl | rfl | rfl <;> first | rfl | exact absurd (by decide) h
  · unfold shp
    rw [if_neg (by omega)]
    rfl
/-- the ways on from an instruction that is come to, where it does not end -/
def goesV (l : List Pl) (v : RV) (x : Nat) : RV × Bool :=
  let p := plD l x
  let h := shp p.op
  let r := depD v.dep x - (h.takes + p.args)
  let v1 : RV := if r < 0 then { v with clash := true } else v
  let r1 : Int := if r < 0 then 0 else r
  let v2 := mstV v1 (r1 + h.on)
  let v3 := if 4 ≤ h.kind then mstV v2 (r1 + h.jump) else v2
  let q4 := if h.kind = 1 ∨ h.kind = 2 ∨ h.kind = 5 ∨ h.kind = 7 then reachV v3 p.nxt (r1 + h.on) else (v3, false)
  let q5 := if 4 ≤ h.kind then reachV q4.1 p.to (r1 + h.jump) else (q4.1, false)
  let q6 := if h.kind = 2 then reachV q5.1 p.fin 0 else (q5.1, false)
  (q6.1, q4.2 || q5.2 || q6.2)
structure Gos (l : List Pl) (v v' : RV) (m : Bool) (x : Nat) : Prop where
  rs : RS l v'
  same : ∀ y, depD v.dep y ≠ -1 → depD v'.dep y = depD v.dep y
  no : m = false → v'.dep = v.dep ∧ Led l v.dep x ∧ (v'.clash = false → v.clash = false ∧ Con1 l (depD v.dep) x)
  up : unr (dsOf l v'.dep) + (if m then 1 else 0) ≤ unr (dsOf l v.dep)
theorem Rea.refl {l : List Pl} {v : RV} (h : RS l v) : Rea l v v false := ⟨h, rfl, fun _ _ => rfl, fun _ => rfl, id, by simp⟩
theorem dsOf_leneq (l : List Pl) (a b : List Int) : (dsOf l a).length = (dsOf l b).length := by rw [dsOf_len, dsOf_len]
theorem goes_rs {l : List Pl} (hl : PlOk l) (h0 : 0 < l.length) (hb0 : (plD l 0).body ≠ 0) {v : RV} (h : RS l v) (x : Nat) (hx : depD v.dep x ≠ -1) (he : ¬ endsP l x) : Gos l v (goesV l v x).1 (goesV l v x).2 x := by
  have hr := h.ri.rch x hx
  have hp := h.ri.pos x hx
  have b := sh_le (plD l x).op
  have hbx := h.rb.dep x
  unfold goesV
  simp only
  obtain ⟨r, hrr⟩ : ∃ r, depD v.dep x - (((shp (plD l x).op).takes : Int) + (plD l x).args) = r := ⟨_, rfl⟩
  rw [hrr]
  have hcr : ∀ D, Con l D → leftD l D x = r := fun D hD => by
    unfold leftD; rw [← (h.ri.con D hD).2 x hx, ← hrr]; omega
  generalize hs1 : (if r < 0 then { v with clash := true } else v : RV) = v1
  have w1 : RS l v1 ∧ v1.dep = v.dep ∧ (v1.clash = false → v.clash = false ∧ 0 ≤ r) := by
    rw [← hs1]
    split
    · rename_i hneg
      refine ⟨h.clash fun D hD => ?_, rfl, fun hh => (by cases hh)⟩
      have := (hD.all x hr).rest
      rw [hcr D hD] at this
      omega
    · exact ⟨h, rfl, fun hh => ⟨hh, by omega⟩⟩
  obtain ⟨s1, d1, c1⟩ := w1
  generalize hr1 : (if r < 0 then 0 else r : Int) = r1
  have r1a : 0 ≤ r1 := by rw [← hr1]; split <;> omega
  have r1c : r1 ≤ depD v.dep x := by rw [← hr1]; split <;> omega
  have r1d : 0 ≤ r → r1 = r := fun hh => by rw [← hr1, if_neg (by omega)]
  have r1b : ∀ D, Con l D → r1 = leftD l D x := fun D hD => by
    have := (hD.all x hr).rest
    rw [hcr D hD] at this ⊢
    rw [← hr1, if_neg (by omega)]
  have hdx : ∀ D, Con l D → r1 ≤ D x := fun D hD => by rw [← (h.ri.con D hD).2 x hx]; exact r1c
  clear hs1 hr1
  have hk : ∀ o : Nat, (shp (plD l x).op).kind = o → o ≤ 7 := fun o e => by omega
  -- the greatest
  obtain ⟨s2, m2, d2, c2⟩ := s1.mst (r1 + (shp (plD l x).op).on) (fun D hD B hB hall => by
    by_cases hon : onK (plD l x)
    · have e1 := (hD.all x hr).on hon he
      have e2 := hall _ (.on hr hon he)
      rw [e1, ← r1b D hD] at e2
      exact e2
    · have e0 : (shp (plD l x).op).on = 0 := no_on _ (by have := hon; unfold onK at this; exact this)
      have := hall x hr
      have := hdx D hD
      omega) (by rw [d1]; omega)
  generalize mstV v1 (r1 + (shp (plD l x).op).on) = v2 at *
  generalize hs3 : (if 4 ≤ (shp (plD l x).op).kind then mstV v2 (r1 + (shp (plD l x).op).jump) else v2 : RV) = v3
  have w3 : RS l v3 ∧ r1 + (shp (plD l x).op).on ≤ v3.most ∧ (4 ≤ (shp (plD l x).op).kind → r1 + (shp (plD l x).op).jump ≤ v3.most) ∧ v3.dep = v2.dep ∧ v3.clash = v2.clash := by
    rw [← hs3]
    split
    · rename_i h4
      obtain ⟨t1, t2, t3, t4⟩ := s2.mst (r1 + (shp (plD l x).op).jump) (fun D hD B hB hall => by
        have e1 := (hD.all x hr).jmp h4
        have e2 := hall _ (.jmp hr h4)
        rw [e1, ← r1b D hD] at e2
        exact e2) (by rw [d2, d1]; omega)
      refine ⟨t1, ?_, fun _ => t2, t3, t4⟩
      unfold mstV
      split
      · rename_i hlt; show _ ≤ r1 + ((shp (plD l x).op).jump : Int); omega
      · exact m2
    · rename_i h4
      exact ⟨s2, m2, fun hh => absurd hh h4, rfl, rfl⟩
  obtain ⟨s3, m3, j3, d3, c3⟩ := w3
  clear hs3
  have dv3 : v3.dep = v.dep := by rw [d3, d2, d1]
  have cv3 : v3.clash = false → v.clash = false ∧ 0 ≤ r := fun hh => c1 (by rw [← c2, ← c3]; exact hh)
  clear d3 c3 d2 c2 d1 c1 s1 s2 m2
  have hdl := fun a : List Int => dsOf_leneq l a v.dep
  -- onward
  generalize hq4 : (if (shp (plD l x).op).kind = 1 ∨ (shp (plD l x).op).kind = 2 ∨ (shp (plD l x).op).kind = 5 ∨ (shp (plD l x).op).kind = 7 then reachV v3 (plD l x).nxt (r1 + (shp (plD l x).op).on) else (v3, false) : RV × Bool) = q4
  have w4 : Rea l v3 q4.1 q4.2 ∧ (q4.2 = false → onK (plD l x) → depD v3.dep (plD l x).nxt ≠ -1 ∧ (q4.1.clash = false → depD v3.dep (plD l x).nxt = r1 + (shp (plD l x).op).on)) := by
    rw [← hq4]
    split
    · rename_i hk
      have := s3.reach hl h0 hb0 (plD l x).nxt (r1 + (shp (plD l x).op).on) (.on hr hk he) (by omega) m3 (fun D hD => by rw [(hD.all x hr).on hk he, r1b D hD]) (by rw [dv3]; omega)
      exact ⟨this.1, fun hh _ => this.2 hh⟩
    · rename_i hk
      exact ⟨Rea.refl s3, fun _ hh => absurd hh hk⟩
  obtain ⟨s4, k4⟩ := w4
  clear hq4
  have hup4 := s4.up
  generalize hq5 : (if 4 ≤ (shp (plD l x).op).kind then reachV q4.1 (plD l x).to (r1 + (shp (plD l x).op).jump) else (q4.1, false) : RV × Bool) = q5
  have w5 : Rea l q4.1 q5.1 q5.2 ∧ (q5.2 = false → 4 ≤ (shp (plD l x).op).kind → depD q4.1.dep (plD l x).to ≠ -1 ∧ (q5.1.clash = false → depD q4.1.dep (plD l x).to = r1 + (shp (plD l x).op).jump)) := by
    rw [← hq5]
    split
    · rename_i h4
      have := s4.rs.reach hl h0 hb0 (plD l x).to (r1 + (shp (plD l x).op).jump) (.jmp hr h4) (by omega) (by rw [s4.most]; exact j3 h4) (fun D hD => by rw [(hD.all x hr).jmp h4, r1b D hD]) (by rw [hdl q4.1.dep]; rw [dv3] at hup4; omega)
      exact ⟨this.1, fun hh _ => this.2 hh⟩
    · rename_i hk
      exact ⟨Rea.refl s4.rs, fun _ hh => absurd hh hk⟩
  obtain ⟨s5, k5⟩ := w5
  clear hq5
  generalize hq6 : (if (shp (plD l x).op).kind = 2 then reachV q5.1 (plD l x).fin 0 else (q5.1, false) : RV × Bool) = q6
  have w6 : Rea l q5.1 q6.1 q6.2 ∧ (q6.2 = false → (shp (plD l x).op).kind = 2 → depD q5.1.dep (plD l x).fin ≠ -1 ∧ (q6.1.clash = false → depD q5.1.dep (plD l x).fin = 0)) := by
    rw [← hq6]
    split
    · rename_i h2
      have := s5.rs.reach hl h0 hb0 (plD l x).fin 0 (.blk hr h2) (by omega) (s5.rs.ri.mst.1) (fun D hD => (hD.all x hr).blk h2) (by have := unr_le (dsOf l q5.1.dep); omega)
      exact ⟨this.1, fun hh _ => this.2 hh⟩
    · rename_i hk
      exact ⟨Rea.refl s5.rs, fun _ hh => absurd hh hk⟩
  obtain ⟨s6, k6⟩ := w6
  clear hq6
  have sm : ∀ y, depD v.dep y ≠ -1 → depD q6.1.dep y = depD v.dep y := fun y hy => by
    have e3 : depD v3.dep y = depD v.dep y := by rw [dv3]
    have e4 := s4.same y (by rw [e3]; exact hy)
    have e5 := s5.same y (by rw [e4, e3]; exact hy)
    rw [s6.same y (by rw [e5, e4, e3]; exact hy), e5, e4, e3]
  refine ⟨s6.rs, sm, fun hm => ?_, ?_⟩
  · simp only [Bool.or_eq_false_iff] at hm
    obtain ⟨⟨n4, n5⟩, n6⟩ := hm
    have e4 : q4.1.dep = v.dep := by rw [s4.no n4, dv3]
    have e5 : q5.1.dep = v.dep := by rw [s5.no n5, e4]
    have e6 : q6.1.dep = v.dep := by rw [s6.no n6, e5]
    refine ⟨e6, ⟨fun hk _ => ?_, fun hk => ?_, fun hk => ?_⟩, fun hc => ?_⟩
    · rw [← dv3]; exact (k4 n4 hk).1
    · rw [← e5]; exact (k6 n6 hk).1
    · rw [← e4]; exact (k5 n5 hk).1
    · have hc5 := s6.cl hc
      have hc4 := s5.cl hc5
      have hc3 := s4.cl hc4
      obtain ⟨hcv, hr0⟩ := cv3 hc3
      have hre := r1d hr0
      have hlf : leftD l (depD v.dep) x = r := by unfold leftD; omega
      refine ⟨hcv, ⟨by rw [hlf]; exact hr0, fun hk _ => ?_, fun hk => ?_, fun hk => ?_⟩⟩
      · rw [hlf, ← hre, ← dv3]; exact (k4 n4 hk).2 hc4
      · rw [← e5]; exact (k6 n6 hk).2 hc
      · rw [hlf, ← hre, ← e4]; exact (k5 n5 hk).2 hc5
  · have u4 := s4.up
    have u5 := s5.up
    have u6 := s6.up
    rw [dv3] at u4
    cases h4 : q4.2 <;> cases h5 : q5.2 <;> cases h6 : q6.2 <;> simp only [h4, h5, h6, Bool.or_true, Bool.or_false, Bool.true_or, if_true, if_false, Bool.false_eq_true] at u4 u5 u6 ⊢ <;> omega
end Go.Proofs.YtdflpoldlokijaaDoor
namespace Go.Proofs.YtdflpoldlokijaaDoor
set_option linter.unusedVariables false
set_option linter.unusedSimpArgs false
def startV (n : Nat) : RV := ⟨(List.replicate n (-1)).set 0 0, 0, false⟩
theorem depD_rep2 (n x : Nat) : depD (List.replicate n (-1)) x = -1 := by
  unfold depD
  rw [List.getD_eq_getElem?_getD, List.getElem?_replicate]
  split <;> rfl
theorem startV_dep (n : Nat) (h : 0 < n) (x : Nat) : depD (startV n).dep x = if x = 0 then 0 else -1 := by
  unfold startV
  by_cases hx : x = 0
  · subst hx; rw [if_pos rfl]; exact depD_set_eq _ _ _ (by simpa using h)
  · rw [if_neg hx]
    show depD ((List.replicate n (-1)).set 0 0) x = -1
    rw [depD_set_ne _ _ _ _ (Ne.symm hx), depD_rep2]
theorem dsOf_rep (l : List Pl) : dsOf l (List.replicate l.length (-1)) = List.replicate (stK l l.length).length (-1) := by
  refine List.ext_getElem? fun i => ?_
  unfold dsOf
  rw [List.getElem?_map, List.getElem?_replicate]
  split
  · rename_i hi
    rw [List.getElem?_eq_getElem hi]
    simp only [Option.map_some]
    rw [depD_rep2]
  · rename_i hi
    rw [List.getElem?_eq_none (by omega)]
    rfl
theorem plK_zero (l : List Pl) : plK l 0 = 0 := rfl
theorem dsOf_start (l : List Pl) (h0 : 0 < l.length) (hb : (plD l 0).body ≠ 0) : dsOf l (startV l.length).dep = (List.replicate (stK l l.length).length (-1)).set 0 0 := by
  unfold startV
  show dsOf l ((List.replicate l.length (-1)).set 0 0) = _
  rw [dsOf_set l _ 0 0 (by simp) h0 hb, dsOf_rep, plK_zero]
theorem start_rs (l : List Pl) (h0 : 0 < l.length) (hb : (plD l 0).body ≠ 0) : RS l (startV l.length) := by
  have hd := startV_dep l.length h0
  have hge : ∀ x, depD (startV l.length).dep x ≠ -1 → x = 0 := fun x hx => by
    rw [hd x] at hx
    by_cases e : x = 0
    · exact e
    · rw [if_neg e] at hx; exact absurd rfl hx
  have hz : depD (startV l.length).dep 0 = 0 := by rw [hd]; rfl
  have hall : ∀ x, depD (startV l.length).dep x ≤ 0 := fun x => by rw [hd]; split <;> omega
  have hu := unr_le (dsOf l (startV l.length).dep)
  refine ⟨⟨by simp [startV], hz, fun x hx => by rw [hge x hx]; exact .zero, fun x hx => by rw [hge x hx, hz]; exact Int.le_refl _, fun D hD => ⟨rfl, fun x hx => by rw [hge x hx, hz, hD.zero]⟩, ⟨Int.le_refl _, fun x => hall x⟩, fun D hD B hB _ => hB⟩, ⟨fun x => ?_, ?_⟩⟩
  · have := hall x; omega
  · show (0 : Int) ≤ _; omega
/-- under way through the list, the so manieth time -/
structure Pass (l : List Pl) (v0 v : RV) (i : Nat) (m : Bool) : Prop where
  rs : RS l v
  no : m = false → v.dep = v0.dep ∧ ∀ j x, j < i → (stK l l.length)[j]? = some x → depD v0.dep x ≠ -1 → Led l v0.dep x ∧ ¬ endsP l x ∧ (v.clash = false → Con1 l (depD v0.dep) x)
  up : unr (dsOf l v.dep) + (if m then 1 else 0) ≤ unr (dsOf l v0.dep)
theorem Pass.begin {l : List Pl} {v : RV} (h : RS l v) : Pass l v v 0 false := ⟨h, fun _ => ⟨rfl, fun j x hj => by omega⟩, by simp⟩
theorem Pass.skip {l : List Pl} {v0 v : RV} {i : Nat} {m : Bool} (h : Pass l v0 v i m) (x : Nat) (hx : (stK l l.length)[i]? = some x) (hd : depD v.dep x = -1) : Pass l v0 v (i + 1) m := by
  refine ⟨h.rs, fun hm => ⟨(h.no hm).1, fun j y hj hy hne => ?_⟩, h.up⟩
  by_cases e : j = i
  · subst e
    rw [hx] at hy
    have := Option.some.inj hy
    subst this
    rw [← (h.no hm).1] at hne
    exact absurd hd hne
  · exact (h.no hm).2 j y (by omega) hy hne
theorem Pass.goes {l : List Pl} (hl : PlOk l) (h0 : 0 < l.length) (hb0 : (plD l 0).body ≠ 0) {v0 v : RV} {i : Nat} {m : Bool} (h : Pass l v0 v i m) (x : Nat) (hx : (stK l l.length)[i]? = some x) (hd : depD v.dep x ≠ -1) (he : ¬ endsP l x) : Pass l v0 (goesV l v x).1 (i + 1) (m || (goesV l v x).2) := by
  have g := goes_rs hl h0 hb0 h.rs x hd he
  refine ⟨g.rs, fun hm => ?_, ?_⟩
  · simp only [Bool.or_eq_false_iff] at hm
    obtain ⟨e1, e2⟩ := h.no hm.1
    obtain ⟨g1, g2, g3⟩ := g.no hm.2
    refine ⟨g1.trans e1, fun j y hj hy hne => ?_⟩
    by_cases e : j = i
    · subst e
      rw [hx] at hy
      have := Option.some.inj hy
      subst this
      rw [e1] at g2 g3
      exact ⟨g2, he, fun hc => (g3 hc).2⟩
    · obtain ⟨f1, f2, f3⟩ := e2 j y (by omega) hy hne
      exact ⟨f1, f2, fun hc => f3 (g3 hc).1⟩
  · have u1 := h.up
    have u2 := g.up
    cases m <;> cases hq : (goesV l v x).2 <;> simp only [hq, Bool.or_true, Bool.or_false, Bool.true_or, if_true, if_false, Bool.false_eq_true] at u1 u2 ⊢ <;> omega
theorem Pass.done {l : List Pl} (hl : PlOk l) (h0 : 0 < l.length) (hb0 : (plD l 0).body ≠ 0) {v0 v : RV} (h : Pass l v0 v (stK l l.length).length false) : RDone l v := by
  obtain ⟨e1, e2⟩ := h.no rfl
  have key : ∀ x, depD v.dep x ≠ -1 → Led l v0.dep x ∧ ¬ endsP l x ∧ (v.clash = false → Con1 l (depD v0.dep) x) := fun x hx => by
    obtain ⟨x1, x2⟩ := rch_ok hl h0 hb0 x (h.rs.ri.rch x hx)
    exact e2 (plK l x) x (plK_lt l _ x x1 x2) (stK_at l _ x x1 x2) (by rw [← e1]; exact hx)
  exact ⟨h.rs.ri, fun x hx => ⟨by rw [e1]; exact (key x hx).1, (key x hx).2.1⟩, fun hc x hx => by rw [e1]; exact (key x hx).2.2 hc⟩
end Go.Proofs.YtdflpoldlokijaaDoor
