import Derived.Test.YtclkoffnjiiioaaGreatDoorChecked
import Derived.WalkKit
import Derived.Deep.AppendLies
import Derived.Deep.Draws
import Derived.Deep.DeepAppendWide
import Derived.Maps.AppendAt
import Derived.Laws.AppendOwnNone
import Derived.Lib.AppendZeros
import Derived.Laws.Tables
import Derived.BigQuiet
import Derived.BigRegion
import Derived.Deep.RegionHeld3
import Derived.Deep.DeepCutAuto
import Derived.Deep.DrawnRows
import Derived.Deep.RegionLaw
namespace Go.Proofs.YtclkoffnjiiioaaGreatDoor
open Go.RowKit
set_option linter.unusedVariables false
set_option linter.unusedSimpArgs false
theorem mkHid {p : Prop} (h : p) : Hid p := h
/-- all blocks but those of S are as they were -/
structure Fr (S : List Nat) (w w' : World) : Prop where
  os : w'.os = w.os
  tape : w'.tape = w.tape
  output : w'.output = w.output
  size : w.heap.size ≤ w'.heap.size
  block : ∀ k, k < w.heap.size → k ∉ S → w'.heap[k]? = w.heap[k]?
namespace Fr
theorem refl (S : List Nat) (w : World) : Fr S w w := ⟨rfl, rfl, rfl, Nat.le_refl _, fun _ _ _ => rfl⟩
theorem trans {S S' : List Nat} {w w' w'' : World} (h : Fr S w w') (k : Fr S' w' w'') (hs : ∀ b ∈ S', b ∈ S ∨ w.heap.size ≤ b) : Fr S w w'' :=
  ⟨k.os.trans h.os, k.tape.trans h.tape, k.output.trans h.output, Nat.le_trans h.size k.size, fun i hi hn => by
    rw [k.block i (Nat.lt_of_lt_of_le hi h.size) (fun hm => by rcases hs i hm with h1 | h1; exact hn h1; omega)]
    exact h.block i hi hn⟩
theorem mono {S S' : List Nat} {w w' : World} (h : Fr S w w') (hs : ∀ b ∈ S, b ∈ S' ∨ w.heap.size ≤ b) : Fr S' w w' :=
  ⟨h.os, h.tape, h.output, h.size, fun k hk hn => h.block k hk (fun hm => by rcases hs k hm with h1 | h1; exact hn h1; omega)⟩
theorem drew (S : List Nat) (w : World) : Fr S w w.drew := ⟨rfl, rfl, rfl, Nat.le_refl _, fun _ _ _ => rfl⟩
theorem alloc (S : List Nat) (w : World) (o : Obj) : Fr S w (w.alloc o) := ⟨rfl, rfl, rfl, by simp, fun k hk _ => Below.heap_alloc _ _ _ hk⟩
theorem setCell {S : List Nat} (w : World) (a : Addr) (v : Value) (h : a.block ∈ S) : Fr S w (w.setCell a v) :=
  ⟨rfl, rfl, rfl, by simp, fun k hk hn => Below.heap_setCell _ _ _ _ (fun e => hn (by rw [e]; exact h))⟩
theorem setRow {S : List Nat} (w : World) (g : Nat) (cs : Array Value) (h : g ∈ S) : Fr S w (w.setRow g cs) :=
  ⟨rfl, rfl, rfl, by simp, fun k hk hn => setRow_other w g k _ (fun e => hn (by rw [e]; exact h))⟩
theorem grown {S : List Nat} {w w' : World} {row : Option Nat} (h : w.grownBy w' row) (hr : ∀ k, row = some k → k ∈ S) : Fr S w w' :=
  ⟨h.os, h.tape, h.output, h.size, fun k hk hn => h.block k hk (fun e => hn (hr k e.symm))⟩
theorem below {w w' : World} {S : List Nat} (h : Fr S w w') {B : Nat} (hB : B ≤ w.heap.size) (hS : ∀ b ∈ S, B ≤ b) : Below B w w' :=
  ⟨h.os, h.tape, h.output, h.size, fun k hk => h.block k (by omega) (fun hm => by have := hS k hm; omega)⟩
theorem cell {S : List Nat} {w w' : World} (h : Fr S w w') {p : Addr} (h1 : p.block < w.heap.size) (h2 : p.block ∉ S) : w'.cell? p = w.cell? p :=
  World.cell?_of_block (w := w) (h.block p.block h1 h2)
theorem frozen {S : List Nat} {w w' : World} (h : Fr S w w') {p : Addr} (h1 : p.block < w.heap.size) (h2 : p.block ∉ S) : w'.frozen? p = w.frozen? p :=
  World.frozen?_of_block (w := w) (h.block p.block h1 h2)
end Fr
theorem drewN_heap (w : World) (n : Nat) : (w.drewN n).heap = w.heap := rfl
theorem Fr.drewN (S : List Nat) (w : World) (n : Nat) : Fr S w (w.drewN n) := ⟨rfl, rfl, rfl, Nat.le_refl _, fun _ _ _ => rfl⟩

def blk (o : Option Addr) : List Nat := match o with | some a => [a.block] | none => []
def I (n : Nat) : Value := .int .i64 (n : Int)
theorem own_congr {w w' : World} {base : Nat} {e : TypeId} {size : Nat} {v : Value} {n : Nat} {xs : List Value} (h : w.ownsRow base e size v n xs)
    (hb : ∀ g, v.ownBlock = some g → w'.heap[g]? = w.heap[g]?) : w'.ownsRow base e size v n xs := by
  refine ⟨h.1, ?_⟩
  rcases h.2 with h2 | ⟨g, cap, cur, rfl, h3, h4, h5⟩
  · exact .inl h2
  · exact .inr ⟨g, cap, cur, rfl, h3, (hb g rfl).trans h4, h5⟩
theorem lt_of_heap {w : World} {g : Nat} {o : Obj} (h : w.heap[g]? = some o) : g < w.heap.size := (Array.getElem?_eq_some_iff.1 h).1
theorem cell_in {w : World} {a : Nat} {C : Array Value} {t : TypeId} (h : w.heap[a]? = some (.cells C t (0, 0))) (i : Nat) : w.cell? ⟨a, i, none⟩ = C[i]? := by simp [World.cell?, h]
theorem frozen_in {w : World} {a : Nat} {C : Array Value} {t : TypeId} (h : w.heap[a]? = some (.cells C t (0, 0))) (i : Nat) : w.frozen? ⟨a, i, none⟩ = false := by simp [World.frozen?, h]
theorem set_in {w : World} {a : Nat} {C : Array Value} {t : TypeId} (h : w.heap[a]? = some (.cells C t (0, 0))) (i : Nat) (v : Value) : (w.setCell ⟨a, i, none⟩ v).heap[a]? = some (.cells (C.setIfInBounds i v) t (0, 0)) := by
  simp [World.setCell, Array.getElem?_modify, h]
theorem row_block {w : World} {B : Nat} {e : TypeId} {s n : Nat} {v : Value} {xs : List Value} (h : w.ownsRow B e s v n xs) {g : Nat} (hg : v.ownBlock = some g) : ∃ cur, w.heap[g]? = some (.cells cur e (0, 0)) := by
  rcases h.2 with ⟨rfl, h2⟩ | ⟨g', cap, cur, rfl, h1, h2, h3⟩
  · cases hg
  · have : g' = g := by simpa [Value.ownBlock] using hg
    subst this
    exact ⟨cur, h2⟩
theorem own_lt {w : World} {base : Nat} {e : TypeId} {size : Nat} {v : Value} {n : Nat} {xs : List Value} (h : w.ownsRow base e size v n xs) (g : Nat) (hg : v.ownBlock = some g) : base ≤ g ∧ g < w.heap.size := by
  rcases h.2 with ⟨rfl, h2⟩ | ⟨g', cap, cur, rfl, h1, h2, h3⟩
  · cases hg
  · have : g' = g := by simpa [Value.ownBlock] using hg
    subst this
    exact ⟨h1, (Array.getElem?_eq_some_iff.1 h2).1⟩
theorem ty_ne {w : World} {g h : Nat} {c1 c2 : Array Value} {t1 t2 : TypeId} (h1 : w.heap[g]? = some (.cells c1 t1 (0, 0))) (h2 : w.heap[h]? = some (.cells c2 t2 (0, 0))) (hn : t1 ≠ t2) : g ≠ h := fun e => by
  subst e; rw [h1] at h2; injection h2 with h2; injection h2 with _ h2; exact hn h2
theorem blk_own (ao : Option Addr) (n c : Nat) (g : Nat) : (Value.slice ao n c).ownBlock = some g ↔ g ∈ blk ao := by
  cases ao <;> simp [Value.ownBlock, blk, eq_comm]
theorem info3 : (Tryz.prog.info? 3).map (fun i => (i.zero, i.size, i.bytes)) = some (some (.int .i64 0), 1, 8) := by kernel_rfl
theorem own_get {w : World} {b g n c : Nat} {t : TypeId} {ls : List Int} (h : w.ownsRow b t 1 (.slice (some ⟨g, 0, none⟩) n c) n (ls.map (Value.int .i64))) (k : Nat) (hk : k < ls.length) : w.cell? ⟨g, k, none⟩ = some (.int .i64 (ls.getD k 0)) := by
  rw [h.cellAt k (by have := h.1; simp at this; omega), List.getElem?_map, List.getD_eq_getElem?_getD, List.getElem?_eq_getElem hk]
  rfl
/-- one more behind a row: in its own block, or in a new one and the old one stays -/
theorem push2 {t e : TypeId} {i : TypeInfo} {z : Value} {bytes : Nat} (ht : Tryz.prog.underlying t = some (.slice e)) (hi : Tryz.prog.info? e = some i) (hz : i.zero = some z) (hsize : i.size = 1) (hby : i.bytes = bytes) (hzs : z.cells.size = 1)
    (w : World) (base : Nat) (p : Option Addr) (c : Nat) (xs : List Value) (x : Value) (h : w.ownsRow base e 1 (.slice p xs.length c) xs.length xs) (hx : x.oneCell' = true) (h63 : xs.length + 1 ≤ maxLen) (hb : ((xs.length + 1) + (xs.length + 1) / 4 + 192) * bytes ≤ 281474976710656) (hB : base ≤ w.heap.size) :
    ∃ p' c' w', (Builtin.append_ #[t, t] t #[.slice p xs.length c, .slice (some ⟨w.heap.size, 0, none⟩) 1 1]).run Tryz.prog (w.alloc (.cells #[x] e)) = .ok (.slice p' (xs.length + 1) c') w' ∧
      w'.ownsRow base e 1 (.slice p' (xs.length + 1) c') (xs.length + 1) (xs ++ [x]) ∧ ((p' = p ∧ c' = c ∧ Fr (blk p) w w') ∨ (Fr [] w w' ∧ ∀ g ∈ blk p', w.heap.size ≤ g)) := by
  have hA : (w.alloc (.cells #[x] e)).heap.size = w.heap.size + 1 := by simp
  have hown : (w.alloc (.cells #[x] e)).ownsRow base e 1 (.slice p xs.length c) xs.length xs := own_congr h (fun g hg => Below.heap_alloc _ _ _ (h.lt g hg).2)
  have hnews := cell_one_new w x e
  have h1 : ∀ u ∈ [x], u.oneCell' = true := fun u hu => by simp at hu; subst hu; exact hx
  obtain ⟨v', w', hr, h2, h3, _⟩ := run_append_own_wide (P := Tryz.prog) (w.alloc (.cells #[x] e)) base t t e i z 1 bytes ht hi hz hsize hby hzs (by decide) _ _ _ hown ⟨w.heap.size, 0, none⟩ 1 1 [x] rfl hnews h1 h63 hb (by omega)
  rcases h.2 with ⟨e1, e2⟩ | ⟨g, c0, cur, e1, q1, q2, q3, q4, q5, q6⟩
  · injection e1 with e1 e3 e4
    subst e1
    subst e4
    have hnil : xs = [] := List.length_eq_zero_iff.1 e2
    subst hnil
    have hr2 := run_append_nil (P := Tryz.prog) (w.alloc (.cells #[x] e)) t t e i z ht hi hz ⟨w.heap.size, 0, none⟩ 1 1 [x] (by rw [hsize]; rfl) hnews (by decide) (by decide) (by rw [hby]; simp at hb; omega)
    have hr3 := hr
    rw [show (Value.slice none ([] : List Value).length 0) = .slice none 0 0 from rfl, hr2] at hr3
    injection hr3 with hv hw
    subst hv
    subst hw
    exact ⟨_, _, _, hr, h2, Or.inr ⟨(Fr.alloc [] w _).trans ((Fr.drew [] _).trans (Fr.alloc [] _ _) (by simp)) (by simp), fun g hg => by simp [blk] at hg; omega⟩⟩
  · injection e1 with e1 _ e4
    subst e1
    subst e4
    by_cases hroom : xs.length + 1 ≤ c
    · have hg : (w.alloc (.cells #[x] e)).heap[g]? = some (.cells cur e (0, 0)) := (Below.heap_alloc _ _ _ (lt_of_heap q2)).trans q2
      have hr2 := run_append_room (P := Tryz.prog) (w.alloc (.cells #[x] e)) t t e i ht hi g xs.length c cur hg ⟨w.heap.size, 0, none⟩ 1 1 [x] (by rw [hsize]; rfl) hnews h1 hroom (by rw [hsize, q5]; simp; omega)
      have hr3 := hr
      rw [hr2] at hr3
      injection hr3 with hv hw
      subst hv
      refine ⟨_, _, w', hr, h2, Or.inl ⟨rfl, rfl, (Fr.alloc (blk (some ⟨g, 0, none⟩)) w _).trans (Fr.grown (S := [g]) h3 (fun k hk => ?_)) (by simp [blk])⟩⟩
      simp [Value.ownBlock] at hk
      simp [hk]
    · have holds : ∀ j u, xs[j]? = some u → (w.alloc (.cells #[x] e)).cell? ((⟨g, 0, none⟩ : Addr).add j) = some u := hown.cells (g := g) rfl
      have hr2 := run_append_grow (P := Tryz.prog) (w.alloc (.cells #[x] e)) t t e i z ht hi hz ⟨g, 0, none⟩ xs.length c xs (by rw [hsize]; simp) holds ⟨w.heap.size, 0, none⟩ 1 1 [x] (by rw [hsize]; rfl) hnews (by omega) (by unfold maxLen at h63; omega) (by rw [hby]; exact growslice_fits_wide (by omega) hb)
      have hr3 := hr
      rw [hr2] at hr3
      injection hr3 with hv hw
      subst hv
      subst hw
      exact ⟨_, _, _, hr, h2, Or.inr ⟨(Fr.alloc [] w _).trans ((Fr.drew [] _).trans (Fr.alloc [] _ _) (by simp)) (by simp), fun g hg => by simp [blk] at hg; omega⟩⟩


/-- a number more behind a row of numbers -/
theorem push_int (w : World) (base : Nat) (p : Option Addr) (c : Nat) (ts : List Int) (s : Int) (h : w.ownsRow base 3 1 (.slice p ts.length c) ts.length (ts.map (Value.int .i64))) (hb : ts.length + 1 ≤ 17592186044000) (hB : base ≤ w.heap.size) :
    ∃ p' c' w', (Builtin.append_ #[23, 23] 23 #[.slice p ts.length c, .slice (some ⟨w.heap.size, 0, none⟩) 1 1]).run Tryz.prog (w.alloc (.cells #[.int .i64 s] 3)) = .ok (.slice p' (ts.length + 1) c') w' ∧
      w'.ownsRow base 3 1 (.slice p' (ts ++ [s]).length c') (ts ++ [s]).length ((ts ++ [s]).map (Value.int .i64)) ∧ ((p' = p ∧ c' = c ∧ Fr (blk p) w w') ∨ (Fr [] w w' ∧ ∀ g ∈ blk p', w.heap.size ≤ g)) := by
  obtain ⟨i3, ii, iz, is, ib⟩ := info_parts info3
  have := push2 Tryz.underlying23 ii iz is ib rfl w base p c (ts.map (Value.int .i64)) (.int .i64 s) (by rw [List.length_map]; exact h) rfl (by rw [List.length_map]; unfold maxLen; omega) (by rw [List.length_map]; omega) hB
  rw [List.length_map] at this
  obtain ⟨p', c', w', r1, r2, r3⟩ := this
  exact ⟨p', c', w', r1, by rw [List.length_append, List.map_append]; exact r2, r3⟩
/-- a list of numbers that can be read, wherever it lies -/
structure Rd (w : World) (v : Value) (ss : List Int) : Prop where
  at_ : ∃ p c, v = .slice p ss.length c ∧ (0 < ss.length → ∃ g off, p = some ⟨g, off, none⟩ ∧ g < w.heap.size ∧ ∀ i, i < ss.length → w.cell? ⟨g, off + i, none⟩ = some (.int .i64 (ss.getD i 0)))
  nil : ∀ c, v = .slice none ss.length c → c = 0
  short : ss.length ≤ 17592186043904
/-- a list of words, read cell by cell -/
theorem own_slot {w : World} {base : Nat} {t : TypeId} {v : Value} {ss : List Int} (h : w.ownsRow base t 1 v ss.length (ss.map (Value.int .i64))) : ∃ p c, v = .slice p ss.length c ∧ (0 < ss.length → ∃ g, p = some ⟨g, 0, none⟩ ∧ ∀ i, i < ss.length → w.cell? ⟨g, i, none⟩ = some (.int .i64 (ss.getD i 0))) := by
  rcases h.2 with ⟨h2, h3⟩ | ⟨g, cap, cur, h2, h3⟩
  · exact ⟨none, 0, by rw [h2, h3], fun hp => by omega⟩
  · refine ⟨some ⟨g, 0, none⟩, cap, h2, fun hp => ⟨g, rfl, fun i hi => ?_⟩⟩
    rw [h2] at h
    rw [h.cellAt i (by omega), List.getElem?_map, List.getD_eq_getElem?_getD, List.getElem?_eq_getElem hi]
    rfl
theorem own_rd {w : World} {base : Nat} {t : TypeId} {v : Value} {ss : List Int} (h : w.ownsRow base t 1 v ss.length (ss.map (Value.int .i64))) (hs : ss.length ≤ 17592186043904) : Rd w v ss := by
  obtain ⟨p, c, e, h1⟩ := own_slot h
  refine ⟨⟨p, c, e, fun hp => ?_⟩, fun c' hc => ?_, hs⟩
  rotate_left
  · rcases h.2 with ⟨h2, h3⟩ | ⟨g, cap, cur, h2, h3⟩
    · rw [h2] at hc; injection hc with _ _ e3; exact e3.symm
    · rw [h2] at hc; injection hc with e3; cases e3
  obtain ⟨g, e2, h2⟩ := h1 hp
  exact ⟨g, 0, e2, World.block_lt_of_cell? w ⟨g, 0, none⟩ (h2 0 hp), fun i hi => by rw [Nat.zero_add]; exact h2 i hi⟩
theorem Rd.keep {w w' : World} {v : Value} {ss : List Int} {S : List Nat} (h : Rd w v ss) (hf : Fr S w w') (hd : 0 < ss.length → ∀ g, v.ownBlock = some g → g ∉ S) : Rd w' v ss := by
  obtain ⟨p, c, e, h1⟩ := h.at_
  refine ⟨⟨p, c, e, fun hp => ?_⟩, h.nil, h.short⟩
  obtain ⟨g, off, e2, h2, h3⟩ := h1 hp
  have hn := hd hp g (by rw [e, e2]; rfl)
  exact ⟨g, off, e2, by have := hf.size; omega, fun i hi => (hf.cell (p := ⟨g, off + i, none⟩) h2 hn).trans (h3 i hi)⟩
theorem Rd.idle {w w' : World} {v : Value} {ss : List Int} (h : Rd w v ss) (hf : Fr [] w w') : Rd w' v ss := h.keep hf (by simp)
theorem Rd.lt {w : World} {v : Value} {ss : List Int} (h : Rd w v ss) (hp : 0 < ss.length) (g : Nat) (hg : v.ownBlock = some g) : g < w.heap.size := by
  obtain ⟨p, c, e, h1⟩ := h.at_
  obtain ⟨g', off, e2, h2, h3⟩ := h1 hp
  rw [e, e2] at hg
  have : g' = g := by simpa [Value.ownBlock] using hg
  omega
/-- a copy of a list of words: append to nil -/
theorem run_copy (ss : List Int) (u : Value) (w : World) (h : Rd w u ss) : ∃ v' w', (Builtin.append_ #[23, 23] 23 #[.slice none 0 0, u]).run Tryz.prog w = .ok v' w' ∧ w'.ownsRow w.heap.size 3 1 v' ss.length (ss.map (Value.int .i64)) ∧ Fr [] w w' := by
  obtain ⟨p, c, rfl, h1⟩ := h.at_
  obtain ⟨i33, ii, iz, is, ib⟩ := info_parts info3
  have hown : w.ownsRow w.heap.size 3 1 (.slice none 0 0) 0 [] := World.ownsRow_nil _ _ _ _
  cases p with
  | none =>
    have h0 : ss.length = 0 := by
      rcases Nat.eq_zero_or_pos ss.length with h0 | h0
      · exact h0
      · obtain ⟨g, off, e2, _⟩ := h1 h0; cases e2
    have hs : ss = [] := List.length_eq_zero_iff.1 h0
    have hc := h.nil c rfl
    subst hs
    subst hc
    exact ⟨_, _, run_append_owned_none (P := Tryz.prog) (w := w) w.heap.size 23 23 3 i33 1 Tryz.underlying23 ii _ _ _ hown, hown, Fr.refl _ _⟩
  | some ad =>
    have hnews : ∀ j x, (ss.map (Value.int .i64))[j]? = some x → w.cell? (ad.add j) = some x := fun j x hx => by
      rw [List.getElem?_map] at hx
      cases hz : ss[j]? with
      | none => rw [hz] at hx; simp at hx
      | some z =>
        rw [hz] at hx
        simp at hx
        obtain ⟨hj, hjz⟩ := List.getElem?_eq_some_iff.1 hz
        obtain ⟨g, off, e2, h2, h3⟩ := h1 (by omega)
        rw [Option.some.inj e2, Addr.add_mid, h3 j hj, List.getD_eq_getElem?_getD, hz, ← hx]
        rfl
    have hsh := h.short
    obtain ⟨v', w', hr, h2, h3, _, h5⟩ := run_append_own_at (P := Tryz.prog) w w.heap.size 23 23 3 i33 (.int .i64 0) 1 8 Tryz.underlying23 ii iz is ib rfl (by decide) _ _ _ hown ad ss.length c (ss.map (Value.int .i64)) (by simp) hnews (fun x hx => by obtain ⟨z, _, rfl⟩ := List.mem_map.1 hx; rfl) (by unfold maxLen; omega) (by omega) (Nat.le_refl _)
    refine ⟨v', w', hr, ?_, Fr.grown h3 (fun k hk => by cases hk)⟩
    rw [Nat.zero_add] at h2
    exact h2

theorem Fr.al {w V : World} (h : Fr [] w V) (o : Obj) : Fr [] w (V.alloc o) := h.trans (Fr.alloc [] V o) (by simp)
theorem Fr.st {w V : World} (h : Fr [] w V) {g : Nat} (hg : w.heap.size ≤ g) (i : Nat) (v : Value) : Fr [] w (V.setCell ⟨g, i, none⟩ v) := h.trans (Fr.setCell (S := [g]) V ⟨g, i, none⟩ v (by simp)) (fun b hb => .inr (by simp at hb; omega))
theorem Fr.sr {w V : World} (h : Fr [] w V) {g : Nat} (hg : w.heap.size ≤ g) (cs : Array Value) : Fr [] w (V.setRow g cs) := h.trans (Fr.setRow (S := [g]) V g cs (by simp)) (fun b hb => .inr (by simp at hb; omega))
theorem Fr.dn {w V : World} (h : Fr [] w V) (n : Nat) : Fr [] w (V.drewN n) := h.trans (Fr.drewN [] V n) (by simp)
theorem Fr.tr0 {w V U : World} (h : Fr [] w V) (k : Fr [] V U) : Fr [] w U := h.trans k (by simp)
theorem Fr.hb {w V : World} (h : Fr [] w V) {g : Nat} {o : Obj} (hg : w.heap[g]? = some o) : V.heap[g]? = some o := (h.block g (lt_of_heap hg) (by simp)).trans hg
theorem Fr.cl {w V : World} (h : Fr [] w V) {p : Addr} {v : Value} (hg : w.cell? p = some v) : V.cell? p = some v := (h.cell (World.block_lt_of_cell? w p hg) (by simp)).trans hg
theorem set_other {w : World} {g k : Nat} {o : Obj} (h : w.heap[k]? = some o) (hn : k ≠ g) (i : Nat) (v : Value) : (w.setCell ⟨g, i, none⟩ v).heap[k]? = some o := (Below.heap_setCell _ _ _ _ hn).trans h
theorem al_old {w : World} {k : Nat} {o : Obj} (h : w.heap[k]? = some o) (o2 : Obj) : (w.alloc o2).heap[k]? = some o := (Below.heap_alloc _ _ _ (lt_of_heap h)).trans h
theorem iwrap_id {n : Int} (h1 : -9223372036854775808 ≤ n) (h2 : n ≤ 9223372036854775807) : IntKind.i64.wrap n = n := by
  simp [IntKind.wrap, IntKind.signed, IntKind.bits]
  split <;> omega
end Go.Proofs.YtclkoffnjiiioaaGreatDoor


namespace Go.Proofs.YtclkoffnjiiioaaGreatDoor
open Go.RowKit
set_option linter.unusedVariables false
set_option linter.unusedSimpArgs false
/-- all blocks below B are as they were -/
structure Kw (B : Nat) (w w' : World) : Prop where
  os : w'.os = w.os
  tape : w'.tape = w.tape
  output : w'.output = w.output
  size : w.heap.size ≤ w'.heap.size
  block : ∀ k, k < B → w'.heap[k]? = w.heap[k]?
theorem Kw.refl (B : Nat) (w : World) : Kw B w w := ⟨rfl, rfl, rfl, Nat.le_refl _, fun _ _ => rfl⟩
theorem Kw.trans {B : Nat} {a b c : World} (h : Kw B a b) (k : Kw B b c) : Kw B a c := ⟨k.os.trans h.os, k.tape.trans h.tape, k.output.trans h.output, Nat.le_trans h.size k.size, fun i hi => (k.block i hi).trans (h.block i hi)⟩
theorem Fr.kw {w w' : World} {S : List Nat} (h : Fr S w w') {B : Nat} (hB : B ≤ w.heap.size) (hS : ∀ b ∈ S, B ≤ b) : Kw B w w' := ⟨h.os, h.tape, h.output, h.size, fun k hk => h.block k (by omega) (fun hm => by have := hS k hm; omega)⟩
theorem Kw.fr {w0 w w' : World} {B : Nat} (h : Kw B w w') (h0 : Fr [] w0 w) (hB : w0.heap.size ≤ B) : Fr [] w0 w' := ⟨h.os.trans h0.os, h.tape.trans h0.tape, h.output.trans h0.output, Nat.le_trans h0.size h.size, fun k hk hn => (h.block k (by omega)).trans (h0.block k hk hn)⟩
theorem Kw.fr' {w w' : World} {B : Nat} (h : Kw B w w') (hB : w.heap.size ≤ B) : Fr [] w w' := h.fr (Fr.refl [] w) hB
theorem own_less {w : World} {B : Nat} {e : TypeId} {p : Option Addr} {n c : Nat} {xs : List Value} {x : Value} (h : w.ownsRow B e 1 (.slice p (n + 1) c) (n + 1) (xs ++ [x])) (hn : xs.length = n) : w.ownsRow B e 1 (.slice p n c) n xs := by
  refine ⟨by omega, ?_⟩
  rcases h.2 with ⟨h2, h3⟩ | ⟨g, cap, cur, e1, q1, q2, q3, q4, q5, q6⟩
  · omega
  · injection e1 with e1 _ e3
    subst e1 e3
    refine .inr ⟨g, c, cur, rfl, q1, q2, by omega, q4, q5, ?_⟩
    have := congrArg (List.take n) q6
    rw [List.take_take, show min n ((n + 1) * 1) = n * 1 by omega, List.take_left' hn] at this
    exact this
theorem step_append_run {P : Program} {ops : Array Oper} {o : Oper} {a : Act} {w : World} {K : Act → World → Prop} {Q : Exit → Act → World → Prop} {E : Prop}
    (hg : o.guard = none) (s x : Operand) (t tn : TypeId) (ho : o.op = .call { callee := .builtin .append, args := #[s, x], argTypes := #[t, tn] }) (vs vx : Value) (hs : a.eval s = vs) (hx : a.eval x = vx)
    (v' : Value) (w' : World) (hr : (Builtin.append_ #[t, tn] o.type #[vs, vx]).run P w = .ok v' w') (h : K (a.put o.dst v') w') : if Region.wanted o (yielded ops a.tmps) = true then Oper.wp P o a w K Q else E := by
  have hw : Region.wanted o (yielded ops a.tmps) = true := by simp [Region.wanted, hg]
  rw [if_pos hw]
  exact Lib.wp_append_run w s x t tn ho vs vx hs hx v' w' hr h
end Go.Proofs.YtclkoffnjiiioaaGreatDoor



namespace Go.Proofs.YtclkoffnjiiioaaGreatDoor
open Go.RowKit
set_option linter.unusedVariables false
set_option linter.unusedSimpArgs false
attribute [local go_sem ↓] Go.wp_at_zero Go.wp_at_succ
/-- a literal as it lies in memory -/
inductive LitT where
  | mk (kind : Int) (text : ByteArray) (num : Int) (p : Option Addr) (c : Nat) (kids : List LitT)
def LitT.kind : LitT → Int | .mk k _ _ _ _ _ => k
def LitT.text : LitT → ByteArray | .mk _ t _ _ _ _ => t
def LitT.num : LitT → Int | .mk _ _ n _ _ _ => n
def LitT.p : LitT → Option Addr | .mk _ _ _ p _ _ => p
def LitT.c : LitT → Nat | .mk _ _ _ _ c _ => c
def LitT.kids : LitT → List LitT | .mk _ _ _ _ _ l => l
def LitT.items (t : LitT) : Value := .slice t.p t.kids.length t.c
def litc (t : LitT) : List Value := [.int .i64 t.kind, .string t.text, .int .i64 t.num, t.items]
structure LitAt (w : World) (g off : Nat) (t : LitT) : Prop where
  c0 : w.cell? ⟨g, off, none⟩ = some (.int .i64 t.kind)
  c1 : w.cell? ⟨g, off + 1, none⟩ = some (.string t.text)
  c2 : w.cell? ⟨g, off + 2, none⟩ = some (.int .i64 t.num)
  c3 : w.cell? ⟨g, off + 3, none⟩ = some t.items
theorem LitAt.idle {w w' : World} {g off : Nat} {t : LitT} (h : LitAt w g off t) (hf : Fr [] w w') : LitAt w' g off t := ⟨hf.cl h.c0, hf.cl h.c1, hf.cl h.c2, hf.cl h.c3⟩
/-- literals that can be read, with all that is in them -/
inductive LitsR (w : World) : Option Addr → Nat → List LitT → Prop
  | mk (p : Option Addr) (c : Nat) (ts : List LitT) (nil : p = none → c = 0) (at_ : 0 < ts.length → ∃ g off, p = some ⟨g, off, none⟩ ∧ g < w.heap.size ∧ ∀ i t, ts[i]? = some t → LitAt w g (off + i * 4) t) (short : ts.length ≤ 2513169434916) (txt : ∀ t ∈ ts, t.text.size ≤ 140737488355328)
      (kids : ∀ t ∈ ts, LitsR w t.p t.c t.kids) : LitsR w p c ts
theorem LitsR.idle {w w' : World} {p : Option Addr} {c : Nat} {ts : List LitT} (h : LitsR w p c ts) (hf : Fr [] w w') : LitsR w' p c ts := by
  induction h with
  | mk p c ts nil at_ short txt kids ih =>
    refine .mk p c ts nil (fun hp => ?_) short txt ih
    obtain ⟨g, off, e, hg, hc⟩ := at_ hp
    exact ⟨g, off, e, Nat.lt_of_lt_of_le hg hf.size, fun i t ht => (hc i t ht).idle hf⟩
theorem drop_at {α : Type} {l : List α} {i : Nat} {t : α} (h : l[i]? = some t) : l.drop i = t :: l.drop (i + 1) := by
  obtain ⟨hlt, e⟩ := List.getElem?_eq_some_iff.1 h
  rw [List.drop_eq_getElem_cons hlt, e]
end Go.Proofs.YtclkoffnjiiioaaGreatDoor



namespace Go.Proofs.YtclkoffnjiiioaaGreatDoor
open Go.RowKit
set_option linter.unusedVariables false
set_option linter.unusedSimpArgs false
/-- one more struct behind a row: in its own block, or in a new one and the old one stays -/
theorem pushS {t e : TypeId} {sz by_ : Nat} {z0 : Value} (hu : Tryz.prog.underlying t = some (.slice e)) (hinf : (Tryz.prog.info? e).map (fun i => (i.zero, i.size, i.bytes)) = some (some z0, sz, by_)) (hzc : z0.cells.size = sz) (hsz0 : 0 < sz) (w : World) (base : Nat) (p : Option Addr) (c n : Nat) (xs x : List Value) (h4 : x.length = sz) (h : w.ownsRow base e sz (.slice p n c) n xs) (hx : ∀ u ∈ x, u.oneCell' = true) (hn : n + 1 ≤ maxLen) (hb : ((n + 1) + (n + 1) / 4 + 192) * by_ ≤ 281474976710656) (hB : base ≤ w.heap.size) :
    ∃ p' c' w', (Builtin.append_ #[t, t] t #[.slice p n c, .slice (some ⟨w.heap.size, 0, none⟩) 1 1]).run Tryz.prog (w.alloc (.cells x.toArray e)) = .ok (.slice p' (n + 1) c') w' ∧
      w'.ownsRow base e sz (.slice p' (n + 1) c') (n + 1) (xs ++ x) ∧ ((p' = p ∧ c' = c ∧ Fr (blk p) w w') ∨ (Fr [] w w' ∧ ∀ g ∈ blk p', w.heap.size ≤ g)) := by
  obtain ⟨i, hi, hz, hsize, hby⟩ := info_parts hinf
  have hA : (w.alloc (.cells x.toArray e)).heap.size = w.heap.size + 1 := by simp
  have hown : (w.alloc (.cells x.toArray e)).ownsRow base e sz (.slice p n c) n xs := own_congr h (fun g hg => Below.heap_alloc _ _ _ (own_lt h g hg).2)
  have hnews : ∀ j u, x[j]? = some u → (w.alloc (.cells x.toArray e)).cell? ((⟨w.heap.size, 0, none⟩ : Addr).add j) = some u := by
    have := World.news_of_block (heap_alloc_new w (.cells x.toArray e))
    simpa using this
  have h63 := hn
  obtain ⟨v', w', hr, h2, h3, _⟩ := run_append_own_wide (P := Tryz.prog) (w.alloc (.cells x.toArray e)) base t t e i _ sz by_ hu hi hz hsize hby hzc hsz0 _ _ _ hown ⟨w.heap.size, 0, none⟩ 1 1 x (by rw [h4, Nat.one_mul]) hnews hx h63 hb (by omega)
  rcases h.2 with ⟨e1, e2⟩ | ⟨g, c0, cur, e1, q1, q2, q3, q4, q5, q6⟩
  · injection e1 with e1 e3 e4
    subst e1
    subst e4
    subst e2
    have hnil : xs = [] := List.length_eq_zero_iff.1 (by rw [h.1, Nat.zero_mul])
    subst hnil
    have hr2 := run_append_nil (P := Tryz.prog) (w.alloc (.cells x.toArray e)) t t e i _ hu hi hz ⟨w.heap.size, 0, none⟩ 1 1 x (by rw [hsize, h4, Nat.one_mul]) hnews (by decide) (by decide) (by rw [hby]; simp at hb; omega)
    have hr3 := hr
    rw [hr2] at hr3
    injection hr3 with hv hw
    subst hv
    subst hw
    exact ⟨_, _, _, hr, h2, Or.inr ⟨(Fr.alloc [] w _).trans ((Fr.drew [] _).trans (Fr.alloc [] _ _) (by simp)) (by simp), fun g hg => by simp [blk] at hg; omega⟩⟩
  · injection e1 with e1 _ e4
    subst e1
    subst e4
    by_cases hroom : n + 1 ≤ c
    · have hg : (w.alloc (.cells x.toArray e)).heap[g]? = some (.cells cur e (0, 0)) := (Below.heap_alloc _ _ _ (lt_of_heap q2)).trans q2
      have hr2 := run_append_room (P := Tryz.prog) (w.alloc (.cells x.toArray e)) t t e i hu hi g n c cur hg ⟨w.heap.size, 0, none⟩ 1 1 x (by rw [hsize, h4, Nat.one_mul]) hnews hx hroom (by rw [hsize, q5, h4, ← Nat.add_one_mul]; exact Nat.mul_le_mul_right _ hroom)
      have hr3 := hr
      rw [hr2] at hr3
      injection hr3 with hv hw
      subst hv
      refine ⟨_, _, w', hr, h2, Or.inl ⟨rfl, rfl, (Fr.alloc (blk (some ⟨g, 0, none⟩)) w _).trans (Fr.grown (S := [g]) h3 (fun k hk => ?_)) (by simp [blk])⟩⟩
      simp [Value.ownBlock] at hk
      simp [hk]
    · have holds : ∀ j u, xs[j]? = some u → (w.alloc (.cells x.toArray e)).cell? ((⟨g, 0, none⟩ : Addr).add j) = some u := hown.cells (g := g) rfl
      have hr2 := run_append_grow (P := Tryz.prog) (w.alloc (.cells x.toArray e)) t t e i _ hu hi hz ⟨g, 0, none⟩ n c xs (by rw [hsize]; exact h.1) holds ⟨w.heap.size, 0, none⟩ 1 1 x (by rw [hsize, h4, Nat.one_mul]) hnews (by omega) (by unfold maxLen at h63; omega) (by rw [hby]; exact growslice_fits_wide (by omega) hb)
      have hr3 := hr
      rw [hr2] at hr3
      injection hr3 with hv hw
      subst hv
      subst hw
      exact ⟨_, _, _, hr, h2, Or.inr ⟨(Fr.alloc [] w _).trans ((Fr.drew [] _).trans (Fr.alloc [] _ _) (by simp)) (by simp), fun g hg => by simp [blk] at hg; omega⟩⟩
end Go.Proofs.YtclkoffnjiiioaaGreatDoor


namespace Go.Proofs.YtclkoffnjiiioaaGreatDoor
open Go.RowKit
set_option linter.unusedVariables false
set_option linter.unusedSimpArgs false
attribute [local go_sem ↓] Go.wp_at_zero Go.wp_at_succ
theorem info54 : (Tryz.prog.info? 49).map (fun i => (i.zero, i.size, i.bytes)) = some (some (.agg #[.int .i64 0, .string ⟨#[]⟩, .int .i64 0, .slice none 0 0]), 4, 56) := by kernel_rfl
/-- literals whose blocks are all of a kind -/
inductive LitsO (w : World) (Ok : Nat → Prop) : Option Addr → Nat → List LitT → Prop
  | mk (p : Option Addr) (c : Nat) (ts : List LitT) (nil : p = none → c = 0) (at_ : 0 < ts.length → ∃ g off, p = some ⟨g, off, none⟩ ∧ g < w.heap.size ∧ Ok g ∧ ∀ i t, ts[i]? = some t → LitAt w g (off + i * 4) t) (short : ts.length ≤ 2513169434916) (txt : ∀ t ∈ ts, t.text.size ≤ 140737488355328)
      (kids : ∀ t ∈ ts, LitsO w Ok t.p t.c t.kids) : LitsO w Ok p c ts
theorem LitsO.keep {w w' : World} {Ok Ok' : Nat → Prop} {S : List Nat} {p : Option Addr} {c : Nat} {ts : List LitT} (h : LitsO w Ok p c ts) (hf : Fr S w w') (hS : ∀ g, Ok g → g < w.heap.size → g ∉ S) (hO : ∀ g, Ok g → g < w.heap.size → Ok' g) : LitsO w' Ok' p c ts := by
  induction h with
  | mk p c ts nil at_ short txt kids ih =>
    refine .mk p c ts nil (fun hp => ?_) short txt ih
    obtain ⟨g, off, e, hg, ho, hc⟩ := at_ hp
    have hn := hS g ho hg
    exact ⟨g, off, e, Nat.lt_of_lt_of_le hg hf.size, hO g ho hg, fun i t ht => by
      have hl := hc i t ht
      exact ⟨(hf.cell (p := ⟨g, off + i * 4, none⟩) hg hn).trans hl.c0, (hf.cell (p := ⟨g, off + i * 4 + 1, none⟩) hg hn).trans hl.c1, (hf.cell (p := ⟨g, off + i * 4 + 2, none⟩) hg hn).trans hl.c2, (hf.cell (p := ⟨g, off + i * 4 + 3, none⟩) hg hn).trans hl.c3⟩⟩
theorem LitsO.plain {w : World} {Ok : Nat → Prop} {p : Option Addr} {c : Nat} {ts : List LitT} (h : LitsO w Ok p c ts) : LitsR w p c ts := by
  induction h with
  | mk p c ts nil at_ short txt kids ih =>
    refine .mk p c ts nil (fun hp => ?_) short txt ih
    obtain ⟨g, off, e, hg, ho, hc⟩ := at_ hp
    exact ⟨g, off, e, hg, hc⟩
def litCells (l : List LitT) : List Value := l.flatMap litc
theorem litCells_at (l : List LitT) : ∀ i t j, l[i]? = some t → j < 4 → (litCells l)[i * 4 + j]? = (litc t)[j]? := by
  induction l with
  | nil => intro i t j h; simp at h
  | cons q l ih =>
    intro i t j hi hj
    have e : litCells (q :: l) = litc q ++ litCells l := by simp [litCells]
    rw [e]
    cases i with
    | zero =>
      have : q = t := by simpa using hi
      subst this
      rw [List.getElem?_append_left (by simp [litc]; omega)]; simp
    | succ i =>
      rw [List.getElem?_append_right (by simp [litc]; omega), show (i + 1) * 4 + j - (litc q).length = i * 4 + j from by simp [litc]; omega]
      exact ih i t j (by simpa using hi) hj
/-- a row of literals of one's own can be read -/
theorem row_lits {w : World} {B : Nat} {Ok : Nat → Prop} {p : Option Addr} {n c : Nat} {us rest : List LitT} (h : w.ownsRow B 49 4 (.slice p n c) n (litCells (us ++ rest))) (hn : (us ++ rest).length = n) (hp : 0 < n) (hOk : ∀ g, g ∈ blk p → Ok g) (hs : us.length ≤ 2513169434916) (ht : ∀ t ∈ us, t.text.size ≤ 140737488355328) (hk : ∀ t ∈ us, LitsO w Ok t.p t.c t.kids) : LitsO w Ok p c us := by
  rcases h.2 with ⟨e, e0⟩ | ⟨g, cap, cur, e, q1, q2, q3, q4⟩
  · omega
  · injection e with e1 _ e3
    subst e1 e3
    refine .mk _ _ us (fun h0 => by cases h0) (fun _ => ⟨g, 0, rfl, lt_of_heap q2, hOk g (by simp [blk]), fun i t hit => ?_⟩) hs ht hk
    have hlt : i < us.length := (List.getElem?_eq_some_iff.1 hit).1
    have hit2 : (us ++ rest)[i]? = some t := by rw [List.getElem?_append_left hlt]; exact hit
    have hc : ∀ j, j < 4 → w.cell? ⟨g, i * 4 + j, none⟩ = (litc t)[j]? := fun j hj => by
      rw [h.cellAt (i * 4 + j) (by simp at hn; omega)]
      exact litCells_at _ i t j hit2 hj
    rw [Nat.zero_add]
    exact ⟨hc 0 (by omega), hc 1 (by omega), hc 2 (by omega), hc 3 (by omega)⟩
end Go.Proofs.YtclkoffnjiiioaaGreatDoor


