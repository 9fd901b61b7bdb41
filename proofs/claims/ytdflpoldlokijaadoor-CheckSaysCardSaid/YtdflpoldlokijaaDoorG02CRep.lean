import Derived.Test.YtdflpoldlokijaaDoorChecked
import Derived.WalkKit
import Derived.Deep.AppendLies
import Derived.Deep.Draws
import Derived.Deep.DeepAppendWide
import Derived.Maps.AppendAt
import Derived.Laws.AppendOwnNone
import Derived.Lib.AppendZeros
import Derived.Laws.Tables
import Derived.BigQuiet
import Derived.BigRegion
import Derived.Deep.RegionHeld3
import Derived.Deep.DeepCutAuto
import Derived.Deep.DrawnRows
import Derived.Test.YtdflpoldlokijaaDoorG01CAll
namespace Go.Proofs.YtdflpoldlokijaaDoor
open Go.RowKit
set_option linter.unusedVariables false
set_option linter.unusedSimpArgs false
theorem mkHid {p : Prop} (h : p) : Hid p := h
/-- all blocks but those of S are as they were -/
structure Fr (S : List Nat) (w w' : World) : Prop where
  os : w'.os = w.os
  tape : w'.tape = w.tape
  output : w'.output = w.output
  size : w.heap.size ≤ w'.heap.size
  block : ∀ k, k < w.heap.size → k ∉ S → w'.heap[k]? = w.heap[k]?
namespace Fr
theorem refl (S : List Nat) (w : World) : Fr S w w := ⟨rfl, rfl, rfl, Nat.le_refl _, fun _ _ _ => rfl⟩
theorem trans {S S' : List Nat} {w w' w'' : World} (h : Fr S w w') (k : Fr S' w' w'') (hs : ∀ b ∈ S', b ∈ S ∨ w.heap.size ≤ b) : Fr S w w'' :=
  ⟨k.os.trans h.os, k.tape.trans h.tape, k.output.trans h.output, Nat.le_trans h.size k.size, fun i hi hn => by
    rw [k.block i (Nat.lt_of_lt_of_le hi h.size) (fun hm => by rcases hs i hm with h1 | h1; exact hn h1; omega)]
    exact h.block i hi hn⟩
theorem mono {S S' : List Nat} {w w' : World} (h : Fr S w w') (hs : ∀ b ∈ S, b ∈ S' ∨ w.heap.size ≤ b) : Fr S' w w' :=
  ⟨h.os, h.tape, h.output, h.size, fun k hk hn => h.block k hk (fun hm => by rcases hs k hm with h1 | h1; exact hn h1; omega)⟩
theorem drew (S : List Nat) (w : World) : Fr S w w.drew := ⟨rfl, rfl, rfl, Nat.le_refl _, fun _ _ _ => rfl⟩
theorem alloc (S : List Nat) (w : World) (o : Obj) : Fr S w (w.alloc o) := ⟨rfl, rfl, rfl, by simp, fun k hk _ => Below.heap_alloc _ _ _ hk⟩
theorem setCell {S : List Nat} (w : World) (a : Addr) (v : Value) (h : a.block ∈ S) : Fr S w (w.setCell a v) :=
  ⟨rfl, rfl, rfl, by simp, fun k hk hn => Below.heap_setCell _ _ _ _ (fun e => hn (by rw [e]; exact h))⟩
theorem setRow {S : List Nat} (w : World) (g : Nat) (cs : Array Value) (h : g ∈ S) : Fr S w (w.setRow g cs) :=
  ⟨rfl, rfl, rfl, by simp, fun k hk hn => setRow_other w g k _ (fun e => hn (by rw [e]; exact h))⟩
theorem grown {S : List Nat} {w w' : World} {row : Option Nat} (h : w.grownBy w' row) (hr : ∀ k, row = some k → k ∈ S) : Fr S w w' :=
  ⟨h.os, h.tape, h.output, h.size, fun k hk hn => h.block k hk (fun e => hn (hr k e.symm))⟩
theorem below {w w' : World} {S : List Nat} (h : Fr S w w') {B : Nat} (hB : B ≤ w.heap.size) (hS : ∀ b ∈ S, B ≤ b) : Below B w w' :=
  ⟨h.os, h.tape, h.output, h.size, fun k hk => h.block k (by omega) (fun hm => by have := hS k hm; omega)⟩
theorem cell {S : List Nat} {w w' : World} (h : Fr S w w') {p : Addr} (h1 : p.block < w.heap.size) (h2 : p.block ∉ S) : w'.cell? p = w.cell? p :=
  World.cell?_of_block (w := w) (h.block p.block h1 h2)
theorem frozen {S : List Nat} {w w' : World} (h : Fr S w w') {p : Addr} (h1 : p.block < w.heap.size) (h2 : p.block ∉ S) : w'.frozen? p = w.frozen? p :=
  World.frozen?_of_block (w := w) (h.block p.block h1 h2)
end Fr
theorem drewN_heap (w : World) (n : Nat) : (w.drewN n).heap = w.heap := rfl
theorem Fr.drewN (S : List Nat) (w : World) (n : Nat) : Fr S w (w.drewN n) := ⟨rfl, rfl, rfl, Nat.le_refl _, fun _ _ _ => rfl⟩

def blk (o : Option Addr) : List Nat := match o with | some a => [a.block] | none => []
def I (n : Nat) : Value := .int .i64 (n : Int)
theorem own_congr {w w' : World} {base : Nat} {e : TypeId} {size : Nat} {v : Value} {n : Nat} {xs : List Value} (h : w.ownsRow base e size v n xs)
    (hb : ∀ g, v.ownBlock = some g → w'.heap[g]? = w.heap[g]?) : w'.ownsRow base e size v n xs := by
  refine ⟨h.1, ?_⟩
  rcases h.2 with h2 | ⟨g, cap, cur, rfl, h3, h4, h5⟩
  · exact .inl h2
  · exact .inr ⟨g, cap, cur, rfl, h3, (hb g rfl).trans h4, h5⟩
theorem lt_of_heap {w : World} {g : Nat} {o : Obj} (h : w.heap[g]? = some o) : g < w.heap.size := (Array.getElem?_eq_some_iff.1 h).1
theorem cell_in {w : World} {a : Nat} {C : Array Value} {t : TypeId} (h : w.heap[a]? = some (.cells C t (0, 0))) (i : Nat) : w.cell? ⟨a, i, none⟩ = C[i]? := by simp [World.cell?, h]
theorem frozen_in {w : World} {a : Nat} {C : Array Value} {t : TypeId} (h : w.heap[a]? = some (.cells C t (0, 0))) (i : Nat) : w.frozen? ⟨a, i, none⟩ = false := by simp [World.frozen?, h]
theorem set_in {w : World} {a : Nat} {C : Array Value} {t : TypeId} (h : w.heap[a]? = some (.cells C t (0, 0))) (i : Nat) (v : Value) : (w.setCell ⟨a, i, none⟩ v).heap[a]? = some (.cells (C.setIfInBounds i v) t (0, 0)) := by
  simp [World.setCell, Array.getElem?_modify, h]
theorem row_block {w : World} {B : Nat} {e : TypeId} {s n : Nat} {v : Value} {xs : List Value} (h : w.ownsRow B e s v n xs) {g : Nat} (hg : v.ownBlock = some g) : ∃ cur, w.heap[g]? = some (.cells cur e (0, 0)) := by
  rcases h.2 with ⟨rfl, h2⟩ | ⟨g', cap, cur, rfl, h1, h2, h3⟩
  · cases hg
  · have : g' = g := by simpa [Value.ownBlock] using hg
    subst this
    exact ⟨cur, h2⟩
theorem own_lt {w : World} {base : Nat} {e : TypeId} {size : Nat} {v : Value} {n : Nat} {xs : List Value} (h : w.ownsRow base e size v n xs) (g : Nat) (hg : v.ownBlock = some g) : base ≤ g ∧ g < w.heap.size := by
  rcases h.2 with ⟨rfl, h2⟩ | ⟨g', cap, cur, rfl, h1, h2, h3⟩
  · cases hg
  · have : g' = g := by simpa [Value.ownBlock] using hg
    subst this
    exact ⟨h1, (Array.getElem?_eq_some_iff.1 h2).1⟩
theorem ty_ne {w : World} {g h : Nat} {c1 c2 : Array Value} {t1 t2 : TypeId} (h1 : w.heap[g]? = some (.cells c1 t1 (0, 0))) (h2 : w.heap[h]? = some (.cells c2 t2 (0, 0))) (hn : t1 ≠ t2) : g ≠ h := fun e => by
  subst e; rw [h1] at h2; injection h2 with h2; injection h2 with _ h2; exact hn h2
theorem blk_own (ao : Option Addr) (n c : Nat) (g : Nat) : (Value.slice ao n c).ownBlock = some g ↔ g ∈ blk ao := by
  cases ao <;> simp [Value.ownBlock, blk, eq_comm]
theorem info3 : (Tryd.prog.info? 3).map (fun i => (i.zero, i.size, i.bytes)) = some (some (.int .i64 0), 1, 8) := by kernel_rfl
theorem own_get {w : World} {b g n c : Nat} {t : TypeId} {ls : List Int} (h : w.ownsRow b t 1 (.slice (some ⟨g, 0, none⟩) n c) n (ls.map (Value.int .i64))) (k : Nat) (hk : k < ls.length) : w.cell? ⟨g, k, none⟩ = some (.int .i64 (ls.getD k 0)) := by
  rw [h.cellAt k (by have := h.1; simp at this; omega), List.getElem?_map, List.getD_eq_getElem?_getD, List.getElem?_eq_getElem hk]
  rfl
/-- one more behind a row: in its own block, or in a new one and the old one stays -/
theorem push2 {t e : TypeId} {i : TypeInfo} {z : Value} {bytes : Nat} (ht : Tryd.prog.underlying t = some (.slice e)) (hi : Tryd.prog.info? e = some i) (hz : i.zero = some z) (hsize : i.size = 1) (hby : i.bytes = bytes) (hzs : z.cells.size = 1)
    (w : World) (base : Nat) (p : Option Addr) (c : Nat) (xs : List Value) (x : Value) (h : w.ownsRow base e 1 (.slice p xs.length c) xs.length xs) (hx : x.oneCell' = true) (h63 : xs.length + 1 ≤ maxLen) (hb : ((xs.length + 1) + (xs.length + 1) / 4 + 192) * bytes ≤ 281474976710656) (hB : base ≤ w.heap.size) :
    ∃ p' c' w', (Builtin.append_ #[t, t] t #[.slice p xs.length c, .slice (some ⟨w.heap.size, 0, none⟩) 1 1]).run Tryd.prog (w.alloc (.cells #[x] e)) = .ok (.slice p' (xs.length + 1) c') w' ∧
      w'.ownsRow base e 1 (.slice p' (xs.length + 1) c') (xs.length + 1) (xs ++ [x]) ∧ ((p' = p ∧ c' = c ∧ Fr (blk p) w w') ∨ (Fr [] w w' ∧ ∀ g ∈ blk p', w.heap.size ≤ g)) := by
  have hA : (w.alloc (.cells #[x] e)).heap.size = w.heap.size + 1 := by simp
  have hown : (w.alloc (.cells #[x] e)).ownsRow base e 1 (.slice p xs.length c) xs.length xs := own_congr h (fun g hg => Below.heap_alloc _ _ _ (h.lt g hg).2)
  have hnews := cell_one_new w x e
  have h1 : ∀ u ∈ [x], u.oneCell' = true := fun u hu => by simp at hu; subst hu; exact hx
  obtain ⟨v', w', hr, h2, h3, _⟩ := run_append_own_wide (P := Tryd.prog) (w.alloc (.cells #[x] e)) base t t e i z 1 bytes ht hi hz hsize hby hzs (by decide) _ _ _ hown ⟨w.heap.size, 0, none⟩ 1 1 [x] rfl hnews h1 h63 hb (by omega)
  rcases h.2 with ⟨e1, e2⟩ | ⟨g, c0, cur, e1, q1, q2, q3, q4, q5, q6⟩
  · injection e1 with e1 e3 e4
    subst e1
    subst e4
    have hnil : xs = [] := List.length_eq_zero_iff.1 e2
    subst hnil
    have hr2 := run_append_nil (P := Tryd.prog) (w.alloc (.cells #[x] e)) t t e i z ht hi hz ⟨w.heap.size, 0, none⟩ 1 1 [x] (by rw [hsize]; rfl) hnews (by decide) (by decide) (by rw [hby]; simp at hb; omega)
    have hr3 := hr
    rw [show (Value.slice none ([] : List Value).length 0) = .slice none 0 0 from rfl, hr2] at hr3
    injection hr3 with hv hw
    subst hv
    subst hw
    exact ⟨_, _, _, hr, h2, Or.inr ⟨(Fr.alloc [] w _).trans ((Fr.drew [] _).trans (Fr.alloc [] _ _) (by simp)) (by simp), fun g hg => by simp [blk] at hg; omega⟩⟩
  · injection e1 with e1 _ e4
    subst e1
    subst e4
    by_cases hroom : xs.length + 1 ≤ c
    · have hg : (w.alloc (.cells #[x] e)).heap[g]? = some (.cells cur e (0, 0)) := (Below.heap_alloc _ _ _ (lt_of_heap q2)).trans q2
      have hr2 := run_append_room (P := Tryd.prog) (w.alloc (.cells #[x] e)) t t e i ht hi g xs.length c cur hg ⟨w.heap.size, 0, none⟩ 1 1 [x] (by rw [hsize]; rfl) hnews h1 hroom (by rw [hsize, q5]; simp; omega)
      have hr3 := hr
      rw [hr2] at hr3
      injection hr3 with hv hw
      subst hv
      refine ⟨_, _, w', hr, h2, Or.inl ⟨rfl, rfl, (Fr.alloc (blk (some ⟨g, 0, none⟩)) w _).trans (Fr.grown (S := [g]) h3 (fun k hk => ?_)) (by simp [blk])⟩⟩
      simp [Value.ownBlock] at hk
      simp [hk]
    · have holds : ∀ j u, xs[j]? = some u → (w.alloc (.cells #[x] e)).cell? ((⟨g, 0, none⟩ : Addr).add j) = some u := hown.cells (g := g) rfl
      have hr2 := run_append_grow (P := Tryd.prog) (w.alloc (.cells #[x] e)) t t e i z ht hi hz ⟨g, 0, none⟩ xs.length c xs (by rw [hsize]; simp) holds ⟨w.heap.size, 0, none⟩ 1 1 [x] (by rw [hsize]; rfl) hnews (by omega) (by unfold maxLen at h63; omega) (by rw [hby]; exact growslice_fits_wide (by omega) hb)
      have hr3 := hr
      rw [hr2] at hr3
      injection hr3 with hv hw
      subst hv
      subst hw
      exact ⟨_, _, _, hr, h2, Or.inr ⟨(Fr.alloc [] w _).trans ((Fr.drew [] _).trans (Fr.alloc [] _ _) (by simp)) (by simp), fun g hg => by simp [blk] at hg; omega⟩⟩


/-- a number more behind a row of numbers -/
theorem push_int (w : World) (base : Nat) (p : Option Addr) (c : Nat) (ts : List Int) (s : Int) (h : w.ownsRow base 3 1 (.slice p ts.length c) ts.length (ts.map (Value.int .i64))) (hb : ts.length + 1 ≤ 17592186044000) (hB : base ≤ w.heap.size) :
    ∃ p' c' w', (Builtin.append_ #[23, 23] 23 #[.slice p ts.length c, .slice (some ⟨w.heap.size, 0, none⟩) 1 1]).run Tryd.prog (w.alloc (.cells #[.int .i64 s] 3)) = .ok (.slice p' (ts.length + 1) c') w' ∧
      w'.ownsRow base 3 1 (.slice p' (ts ++ [s]).length c') (ts ++ [s]).length ((ts ++ [s]).map (Value.int .i64)) ∧ ((p' = p ∧ c' = c ∧ Fr (blk p) w w') ∨ (Fr [] w w' ∧ ∀ g ∈ blk p', w.heap.size ≤ g)) := by
  obtain ⟨i3, ii, iz, is, ib⟩ := info_parts info3
  have := push2 Tryd.underlying23 ii iz is ib rfl w base p c (ts.map (Value.int .i64)) (.int .i64 s) (by rw [List.length_map]; exact h) rfl (by rw [List.length_map]; unfold maxLen; omega) (by rw [List.length_map]; omega) hB
  rw [List.length_map] at this
  obtain ⟨p', c', w', r1, r2, r3⟩ := this
  exact ⟨p', c', w', r1, by rw [List.length_append, List.map_append]; exact r2, r3⟩
/-- a list of numbers that can be read, wherever it lies -/
structure Rd (w : World) (v : Value) (ss : List Int) : Prop where
  at_ : ∃ p c, v = .slice p ss.length c ∧ (0 < ss.length → ∃ g off, p = some ⟨g, off, none⟩ ∧ g < w.heap.size ∧ ∀ i, i < ss.length → w.cell? ⟨g, off + i, none⟩ = some (.int .i64 (ss.getD i 0)))
  nil : ∀ c, v = .slice none ss.length c → c = 0
  short : ss.length ≤ 17592186043904
/-- a list of words, read cell by cell -/
theorem own_slot {w : World} {base : Nat} {t : TypeId} {v : Value} {ss : List Int} (h : w.ownsRow base t 1 v ss.length (ss.map (Value.int .i64))) : ∃ p c, v = .slice p ss.length c ∧ (0 < ss.length → ∃ g, p = some ⟨g, 0, none⟩ ∧ ∀ i, i < ss.length → w.cell? ⟨g, i, none⟩ = some (.int .i64 (ss.getD i 0))) := by
  rcases h.2 with ⟨h2, h3⟩ | ⟨g, cap, cur, h2, h3⟩
  · exact ⟨none, 0, by rw [h2, h3], fun hp => by omega⟩
  · refine ⟨some ⟨g, 0, none⟩, cap, h2, fun hp => ⟨g, rfl, fun i hi => ?_⟩⟩
    rw [h2] at h
    rw [h.cellAt i (by omega), List.getElem?_map, List.getD_eq_getElem?_getD, List.getElem?_eq_getElem hi]
    rfl
theorem own_rd {w : World} {base : Nat} {t : TypeId} {v : Value} {ss : List Int} (h : w.ownsRow base t 1 v ss.length (ss.map (Value.int .i64))) (hs : ss.length ≤ 17592186043904) : Rd w v ss := by
  obtain ⟨p, c, e, h1⟩ := own_slot h
  refine ⟨⟨p, c, e, fun hp => ?_⟩, fun c' hc => ?_, hs⟩
  rotate_left
  · rcases h.2 with ⟨h2, h3⟩ | ⟨g, cap, cur, h2, h3⟩
    · rw [h2] at hc; injection hc with _ _ e3; exact e3.symm
    · rw [h2] at hc; injection hc with e3; cases e3
  obtain ⟨g, e2, h2⟩ := h1 hp
  exact ⟨g, 0, e2, World.block_lt_of_cell? w ⟨g, 0, none⟩ (h2 0 hp), fun i hi => by rw [Nat.zero_add]; exact h2 i hi⟩
theorem Rd.keep {w w' : World} {v : Value} {ss : List Int} {S : List Nat} (h : Rd w v ss) (hf : Fr S w w') (hd : 0 < ss.length → ∀ g, v.ownBlock = some g → g ∉ S) : Rd w' v ss := by
  obtain ⟨p, c, e, h1⟩ := h.at_
  refine ⟨⟨p, c, e, fun hp => ?_⟩, h.nil, h.short⟩
  obtain ⟨g, off, e2, h2, h3⟩ := h1 hp
  have hn := hd hp g (by rw [e, e2]; rfl)
  exact ⟨g, off, e2, by have := hf.size; omega, fun i hi => (hf.cell (p := ⟨g, off + i, none⟩) h2 hn).trans (h3 i hi)⟩
theorem Rd.idle {w w' : World} {v : Value} {ss : List Int} (h : Rd w v ss) (hf : Fr [] w w') : Rd w' v ss := h.keep hf (by simp)
theorem Rd.lt {w : World} {v : Value} {ss : List Int} (h : Rd w v ss) (hp : 0 < ss.length) (g : Nat) (hg : v.ownBlock = some g) : g < w.heap.size := by
  obtain ⟨p, c, e, h1⟩ := h.at_
  obtain ⟨g', off, e2, h2, h3⟩ := h1 hp
  rw [e, e2] at hg
  have : g' = g := by simpa [Value.ownBlock] using hg
  omega
/-- a copy of a list of words: append to nil -/
theorem run_copy (ss : List Int) (u : Value) (w : World) (h : Rd w u ss) : ∃ v' w', (Builtin.append_ #[23, 23] 23 #[.slice none 0 0, u]).run Tryd.prog w = .ok v' w' ∧ w'.ownsRow w.heap.size 3 1 v' ss.length (ss.map (Value.int .i64)) ∧ Fr [] w w' := by
  obtain ⟨p, c, rfl, h1⟩ := h.at_
  obtain ⟨i33, ii, iz, is, ib⟩ := info_parts info3
  have hown : w.ownsRow w.heap.size 3 1 (.slice none 0 0) 0 [] := World.ownsRow_nil _ _ _ _
  cases p with
  | none =>
    have h0 : ss.length = 0 := by
      rcases Nat.eq_zero_or_pos ss.length with h0 | h0
      · exact h0
      · obtain ⟨g, off, e2, _⟩ := h1 h0; cases e2
    have hs : ss = [] := List.length_eq_zero_iff.1 h0
    have hc := h.nil c rfl
    subst hs
    subst hc
    exact ⟨_, _, run_append_owned_none (P := Tryd.prog) (w := w) w.heap.size 23 23 3 i33 1 Tryd.underlying23 ii _ _ _ hown, hown, Fr.refl _ _⟩
  | some ad =>
    have hnews : ∀ j x, (ss.map (Value.int .i64))[j]? = some x → w.cell? (ad.add j) = some x := fun j x hx => by
      rw [List.getElem?_map] at hx
      cases hz : ss[j]? with
      | none => rw [hz] at hx; simp at hx
      | some z =>
        rw [hz] at hx
        simp at hx
        obtain ⟨hj, hjz⟩ := List.getElem?_eq_some_iff.1 hz
        obtain ⟨g, off, e2, h2, h3⟩ := h1 (by omega)
        rw [Option.some.inj e2, Addr.add_mid, h3 j hj, List.getD_eq_getElem?_getD, hz, ← hx]
        rfl
    have hsh := h.short
    obtain ⟨v', w', hr, h2, h3, _, h5⟩ := run_append_own_at (P := Tryd.prog) w w.heap.size 23 23 3 i33 (.int .i64 0) 1 8 Tryd.underlying23 ii iz is ib rfl (by decide) _ _ _ hown ad ss.length c (ss.map (Value.int .i64)) (by simp) hnews (fun x hx => by obtain ⟨z, _, rfl⟩ := List.mem_map.1 hx; rfl) (by unfold maxLen; omega) (by omega) (Nat.le_refl _)
    refine ⟨v', w', hr, ?_, Fr.grown h3 (fun k hk => by cases hk)⟩
    rw [Nat.zero_add] at h2
    exact h2

theorem Fr.al {w V : World} (h : Fr [] w V) (o : Obj) : Fr [] w (V.alloc o) := h.trans (Fr.alloc [] V o) (by simp)
theorem Fr.st {w V : World} (h : Fr [] w V) {g : Nat} (hg : w.heap.size ≤ g) (i : Nat) (v : Value) : Fr [] w (V.setCell ⟨g, i, none⟩ v) := h.trans (Fr.setCell (S := [g]) V ⟨g, i, none⟩ v (by simp)) (fun b hb => .inr (by simp at hb; omega))
theorem Fr.sr {w V : World} (h : Fr [] w V) {g : Nat} (hg : w.heap.size ≤ g) (cs : Array Value) : Fr [] w (V.setRow g cs) := h.trans (Fr.setRow (S := [g]) V g cs (by simp)) (fun b hb => .inr (by simp at hb; omega))
theorem Fr.dn {w V : World} (h : Fr [] w V) (n : Nat) : Fr [] w (V.drewN n) := h.trans (Fr.drewN [] V n) (by simp)
theorem Fr.tr0 {w V U : World} (h : Fr [] w V) (k : Fr [] V U) : Fr [] w U := h.trans k (by simp)
theorem Fr.hb {w V : World} (h : Fr [] w V) {g : Nat} {o : Obj} (hg : w.heap[g]? = some o) : V.heap[g]? = some o := (h.block g (lt_of_heap hg) (by simp)).trans hg
theorem Fr.cl {w V : World} (h : Fr [] w V) {p : Addr} {v : Value} (hg : w.cell? p = some v) : V.cell? p = some v := (h.cell (World.block_lt_of_cell? w p hg) (by simp)).trans hg
theorem set_other {w : World} {g k : Nat} {o : Obj} (h : w.heap[k]? = some o) (hn : k ≠ g) (i : Nat) (v : Value) : (w.setCell ⟨g, i, none⟩ v).heap[k]? = some o := (Below.heap_setCell _ _ _ _ hn).trans h
theorem al_old {w : World} {k : Nat} {o : Obj} (h : w.heap[k]? = some o) (o2 : Obj) : (w.alloc o2).heap[k]? = some o := (Below.heap_alloc _ _ _ (lt_of_heap h)).trans h
theorem iwrap_id {n : Int} (h1 : -9223372036854775808 ≤ n) (h2 : n ≤ 9223372036854775807) : IntKind.i64.wrap n = n := by
  simp [IntKind.wrap, IntKind.signed, IntKind.bits]
  split <;> omega
end Go.Proofs.YtdflpoldlokijaaDoor
namespace Go.Proofs.YtdflpoldlokijaaDoor
open Go.RowKit
set_option linter.unusedVariables false
set_option linter.unusedSimpArgs false
attribute [local go_sem ↓] Go.wp_at_zero Go.wp_at_succ
set_option maxHeartbeats 400000 in
theorem within_ok (n lo hi : Int) (w : World) : Calls Tryd.prog 22 #[.int .i64 n, .int .i64 lo, .int .i64 hi] w fun e w' => e = .returned (.bool (inR n lo hi)) ∧ w' = w := by
  by_cases h1 : lo ≤ n
  · by_cases h2 : n ≤ hi
    · have HB : Hid (inR n lo hi = true) := by show inR n lo hi = true; simp [inR, h1, h2]
      go_enter Tryd.func22, Tryd.ntmps22
      go_wp2_with fail
      go_ret
      exact ⟨by rw [HB.out]; rfl, rfl⟩
    · have HB : Hid (inR n lo hi = false) := by show inR n lo hi = false; simp [inR, h1, h2]
      have d2 : decide (n ≤ hi) = false := decide_eq_false h2
      go_enter Tryd.func22, Tryd.ntmps22
      go_wp2_with fail
      go_ret
      exact ⟨by rw [HB.out]; rfl, rfl⟩
  · have HB : Hid (inR n lo hi = false) := by show inR n lo hi = false; simp [inR, h1]
    have d2 : decide (lo ≤ n) = false := decide_eq_false h1
    go_enter Tryd.func22, Tryd.ntmps22
    go_wp2_with fail
    go_ret
    exact ⟨by rw [HB.out]; rfl, rfl⟩
set_option maxHeartbeats 400000 in
theorem below_ok (n c : Int) (w : World) : Calls Tryd.prog 65 #[.int .i64 n, .int .i64 c] w fun e w' => e = .returned (.bool (bel n c)) ∧ w' = w := by
  by_cases h1 : 0 ≤ n
  · by_cases h2 : n < c
    · have HB : Hid (bel n c = true) := by show bel n c = true; simp [bel, h1, h2]
      go_enter Tryd.func65, Tryd.ntmps65
      go_wp2_with fail
      go_ret
      exact ⟨by rw [HB.out]; rfl, rfl⟩
    · have HB : Hid (bel n c = false) := by show bel n c = false; simp [bel, h1, h2]
      have d2 : decide (n < c) = false := decide_eq_false h2
      go_enter Tryd.func65, Tryd.ntmps65
      go_wp2_with fail
      go_ret
      exact ⟨by rw [HB.out]; rfl, rfl⟩
  · have HB : Hid (bel n c = false) := by show bel n c = false; simp [bel, h1]
    have d2 : decide (0 ≤ n) = false := decide_eq_false h1
    go_enter Tryd.func65, Tryd.ntmps65
    go_wp2_with fail
    go_ret
    exact ⟨by rw [HB.out]; rfl, rfl⟩
set_option maxHeartbeats 400000 in
theorem isScope_ok (a t : Int) (w : World) : Calls Tryd.prog 21 #[.int .i64 a, .int .i64 t] w fun e w' => e = .returned (.bool (scopeB a t)) ∧ w' = w := by
  have H1 := mkHid (within_ok a 0 8 w)
  have H2 := mkHid (within_ok t a 32 w)
  have HB : Hid (scopeB a t = (inR a 0 8 && inR t a 32)) := mkHid rfl
  generalize inR t a 32 = b2 at *
  cases h1 : inR a 0 8
  all_goals rw [h1] at H1 HB
  all_goals clear h1
  · go_enter Tryd.func21, Tryd.ntmps21
    go_wp2_with (go_at_call 22; first | (refine Calls.mono H1.out ?_; rintro e w' ⟨rfl, hw'⟩; rw [hw']; clear hw' w'))
    go_ret
    exact ⟨by rw [HB.out]; rfl, rfl⟩
  · go_enter Tryd.func21, Tryd.ntmps21
    go_wp2_with (go_at_call 22; first | (have hh := K1; refine Calls.mono H2.out ?_; rintro e w' ⟨rfl, hw'⟩; rw [hw']; clear hw' w') | (refine Calls.mono H1.out ?_; rintro e w' ⟨rfl, hw'⟩; rw [hw']; clear hw' w'; have K1 := trivial))
    go_ret
    exact ⟨by rw [HB.out]; simp, rfl⟩
/-- the table of shapes -/
def Tb (w : World) : Prop := ∀ i, i < 29 → w.cell? ⟨0, i * 5, none⟩ = some (I (tbl.getD i noSh).kind) ∧ w.cell? ⟨0, i * 5 + 1, none⟩ = some (I (tbl.getD i noSh).opd) ∧ w.cell? ⟨0, i * 5 + 2, none⟩ = some (I (tbl.getD i noSh).takes) ∧ w.cell? ⟨0, i * 5 + 3, none⟩ = some (I (tbl.getD i noSh).on) ∧ w.cell? ⟨0, i * 5 + 4, none⟩ = some (I (tbl.getD i noSh).jump)
theorem Tb.pos {w : World} (h : Tb w) : 0 < w.heap.size := World.block_lt_of_cell? w ⟨0, 0, none⟩ (h 0 (by decide)).1
theorem Tb.fr {w w' : World} {S : List Nat} (h : Tb w) (hf : Fr S w w') (h0 : 0 ∉ S) : Tb w' := fun i hi => by
  obtain ⟨a, b, c, d, e⟩ := h i hi
  have hp := h.pos
  exact ⟨(hf.cell (p := ⟨0, i * 5, none⟩) hp h0).trans a, (hf.cell (p := ⟨0, i * 5 + 1, none⟩) hp h0).trans b, (hf.cell (p := ⟨0, i * 5 + 2, none⟩) hp h0).trans c, (hf.cell (p := ⟨0, i * 5 + 3, none⟩) hp h0).trans d, (hf.cell (p := ⟨0, i * 5 + 4, none⟩) hp h0).trans e⟩
theorem Tb.idle {w w' : World} (h : Tb w) (hf : Fr [] w w') : Tb w' := h.fr hf (by simp)
/-- a shape as a value -/
def shv (s : Sh) : Value := .agg #[I s.kind, I s.opd, I s.takes, I s.on, I s.jump]
theorem ret99 {f : Func} {V : World} {B p : Nat} {tm : Array Value} {a0 a1 a2 a3 a4 : Value} {R : Ending → World → Prop} (hres : f.results = #[.cell p 99]) (hVb : V.heap[B]? = some (.cells #[a0, a1, a2, a3, a4] 99 (0, 0)))
    (h2 : tm.getD p undef = .pointer (some ⟨B, 0, none⟩)) (hR : R (.returned (.agg #[a0, a1, a2, a3, a4])) V) : bodyPost Tryd.prog f R .ret ⟨tm, []⟩ V := by
  have x0 : V.cell? ⟨B, 0, none⟩ = some a0 := by rw [cell_in hVb]; rfl
  have x1 : V.cell? ⟨B, 1, none⟩ = some a1 := by rw [cell_in hVb]; rfl
  have x2 : V.cell? ⟨B, 2, none⟩ = some a2 := by rw [cell_in hVb]; rfl
  have x3 : V.cell? ⟨B, 3, none⟩ = some a3 := by rw [cell_in hVb]; rfl
  have x4 : V.cell? ⟨B, 4, none⟩ = some a4 := by rw [cell_in hVb]; rfl
  have h2' : tm[p]?.getD undef = .pointer (some ⟨B, 0, none⟩) := by simpa using h2
  refine bodyPost_ret (v := .agg #[a0, a1, a2, a3, a4]) (by simp [results, hres, go_sem, h2, h2', x0, x1, x2, x3, x4]) rfl hR
theorem row_fr (W : World) (B : Nat) (cs : Array Value) : Fr [B] W (W.setRow B cs) :=
  ⟨rfl, rfl, rfl, by simp, fun k hk hn => setRow_other _ _ _ _ (by simpa using hn)⟩
theorem new_row_fr (w : World) (o : Obj) (cs : Array Value) : Fr [] w ((w.alloc o).setRow w.heap.size cs) :=
  (Fr.alloc [] w o).trans (row_fr _ _ _) (fun b hb => .inr (by simp at hb; omega))
set_option maxRecDepth 100000 in
set_option maxHeartbeats 2000000 in
theorem shapeOf_ok (op : Int) (w : World) (hT : Tb w) : Calls Tryd.prog 44 #[.int .i64 op] w fun e w' => e = .returned (shv (shp op)) ∧ Fr [] w w' := by
  have HW := mkHid (fun V => within_ok op 1 28 V)
  by_cases h : 1 ≤ op ∧ op ≤ 28
  · have HB : Hid (shp op = tbl.getD op.toNat noSh) := mkHid (if_pos h)
    have hb : inR op 1 28 = true := by simp [inR, h.1, h.2]
    rw [hb] at HW
    obtain ⟨n, rfl⟩ := Int.eq_ofNat_of_zero_le (show 0 ≤ op by omega)
    rw [Int.toNat_natCast] at HB
    have HTT := mkHid hT
    obtain ⟨t0, t1, t2, t3, t4⟩ := (hT.idle (Fr.alloc [] w (.cells #[.int .i64 0, .int .i64 0, .int .i64 0, .int .i64 0, .int .i64 0] 99))) n (by omega)
    have n1 : (0 : Int) ≤ (n : Int) := by omega
    have n2 : (n : Int) < 29 := by omega
    unfold shv
    rw [HB.out]
    generalize tbl.getD n noSh = s at *
    obtain ⟨k0, k1, k2, k3, k4⟩ := s
    simp only [I] at *
    clear hb hT HB h HTT
    go_enter Tryd.func44, Tryd.ntmps44
    go_wp2_with (first
      | (go_at_call 22; refine Calls.mono (HW.out _) ?_; rintro e w' ⟨rfl, hw'⟩; rw [hw']; clear hw' w')
      | (refine wpList_store_row rfl 99 _ _ rfl w.heap.size #[.int .i64 k0, .int .i64 k1, .int .i64 k2, .int .i64 k3, .int .i64 k4] rfl rfl 99 _ (heap_alloc_new w _) (by kernel_rfl) rfl (by kernel_rfl) ?_))
    refine ret99 Tryd.results44 (B := w.heap.size) ?_ rfl ⟨rfl, new_row_fr _ _ _⟩
    exact setRow_heap _ _ _ _ 99 (0, 0) (heap_alloc_new w _)
  · have HB : Hid (shp op = noSh) := mkHid (if_neg h)
    have hb : inR op 1 28 = false := by
      unfold inR
      by_cases h1 : 1 ≤ op
      · simp [h1]; omega
      · simp [h1]
    rw [hb] at HW
    clear hb hT h
    rw [HB.out]
    go_enter Tryd.func44, Tryd.ntmps44
    go_wp2_with (first
      | (go_at_call 22; refine Calls.mono (HW.out _) ?_; rintro e w' ⟨rfl, hw'⟩; rw [hw']; clear hw' w')
      | (refine wpList_store_row rfl 99 _ _ rfl w.heap.size #[.int .i64 0, .int .i64 0, .int .i64 0, .int .i64 0, .int .i64 0] rfl rfl 99 _ (heap_alloc_new w _) (by kernel_rfl) rfl (by kernel_rfl) ?_))
    refine ret99 Tryd.results44 (B := w.heap.size) ?_ rfl ⟨rfl, new_row_fr _ _ _⟩
    exact setRow_heap _ _ _ _ 99 (0, 0) (heap_alloc_new w _)
end Go.Proofs.YtdflpoldlokijaaDoor
namespace Go.Proofs.YtdflpoldlokijaaDoor
open Go.RowKit
set_option linter.unusedVariables false
set_option linter.unusedSimpArgs false
def plc (p : Pl) : List Value := [I p.op, I p.body, I p.args, I p.fin, I p.nxt, I p.to]
def plCells (l : List Pl) : List Value := l.flatMap plc
theorem plCells_len (l : List Pl) : (plCells l).length = l.length * 6 := by
  induction l with
  | nil => rfl
  | cons p l ih => simp only [plCells, List.flatMap_cons, List.length_append, List.length_cons] at *; rw [ih]; simp [plc]; omega
theorem plCells_at (l : List Pl) : ∀ i j, i < l.length → j < 6 → (plCells l)[i * 6 + j]? = (plc (plD l i))[j]? := by
  induction l with
  | nil => intro i j h; simp at h
  | cons p l ih =>
    intro i j hi hj
    have e : plCells (p :: l) = plc p ++ plCells l := by simp [plCells]
    rw [e]
    cases i with
    | zero => rw [List.getElem?_append_left (by simp [plc]; omega)]; simp [plD]
    | succ i =>
      rw [List.getElem?_append_right (by simp [plc]; omega), show (i + 1) * 6 + j - (plc p).length = i * 6 + j from by simp [plc]; omega, ih i j (by simpa using hi) hj]
      rfl
def rcells (C : Cx) (wv : Value) (ps : Option Addr) (cs : Nat) (sc : List Nat) (k : Nat) (pp : Option Addr) (n : Nat) : Array Value :=
  #[wv, I C.lits, .int .i64 C.b.fields, .int .i64 C.b.classes, .int .i64 C.b.globals, .int .i64 C.b.symbols, .slice ps sc.length cs, I k, .slice pp n n]
/-- a reader in memory -/
structure RR (w : World) (B a : Nat) (C : Cx) (wv : Value) (sc : List Nat) (ps : Option Addr) (cs : Nat) (pls : List Pl) (pp : Option Addr) (k : Nat) : Prop where
  top : w.heap[a]? = some (.cells (rcells C wv ps cs sc k pp pls.length) 74 (0, 0))
  base : B ≤ a
  words : Rd w wv C.ws
  wlo : 0 < C.ws.length → ∀ g, wv.ownBlock = some g → g < B
  scs : w.ownsRow B 3 1 (.slice ps sc.length cs) sc.length (sc.map I)
  pl : w.ownsRow B 93 6 (.slice pp pls.length pls.length) pls.length (plCells pls)
  tb : Tb w
  b0 : 0 < B
  short : C.ws.length ≤ 4096
  lits : C.lits ≤ 64
  plen : pls.length = C.ws.length
  scn : sc.length ≤ 25
  sc1 : 1 ≤ sc.length
  sc32 : ∀ x ∈ sc, x ≤ 32
  wcap : ∀ p n c, wv = .slice p n c → n ≤ c
  rng : ∀ i, -9223372036854775808 ≤ C.w i ∧ C.w i ≤ 9223372036854775807
theorem RR.keep {w w' : World} {B a : Nat} {C : Cx} {wv : Value} {sc : List Nat} {ps : Option Addr} {cs : Nat} {pls : List Pl} {pp : Option Addr} {k : Nat} (h : RR w B a C wv sc ps cs pls pp k) {S : List Nat} (hf : Fr S w w')
    (ha : a ∉ S) (h1 : ∀ g ∈ blk ps, g ∉ S) (h2 : ∀ g ∈ blk pp, g ∉ S) (hS : ∀ g ∈ S, B ≤ g) : RR w' B a C wv sc ps cs pls pp k :=
  ⟨(hf.block a (lt_of_heap h.top) ha).trans h.top, h.base, h.words.keep hf fun hp g hg hm => by have := h.wlo hp g hg; have := hS g hm; omega, h.wlo,
    own_congr h.scs fun g hg => hf.block g (own_lt h.scs g hg).2 (h1 g ((blk_own _ _ _ _).1 hg)), own_congr h.pl fun g hg => hf.block g (own_lt h.pl g hg).2 (h2 g ((blk_own _ _ _ _).1 hg)),
    h.tb.fr hf fun hm => by have := hS 0 hm; have := h.b0; omega, h.b0, h.short, h.lits, h.plen, h.scn, h.sc1, h.sc32, h.wcap, h.rng⟩
theorem RR.idle {w w' : World} {B a : Nat} {C : Cx} {wv : Value} {sc : List Nat} {ps : Option Addr} {cs : Nat} {pls : List Pl} {pp : Option Addr} {k : Nat} (h : RR w B a C wv sc ps cs pls pp k) (hf : Fr [] w w') : RR w' B a C wv sc ps cs pls pp k :=
  h.keep hf (by simp) (by simp) (by simp) (by simp)
section
variable {w : World} {B a : Nat} {C : Cx} {wv : Value} {sc : List Nat} {ps : Option Addr} {cs : Nat} {pls : List Pl} {pp : Option Addr} {k : Nat}
theorem RR.cells (h : RR w B a C wv sc ps cs pls pp k) : w.cell? ⟨a, 0, none⟩ = some wv ∧ w.cell? ⟨a, 1, none⟩ = some (I C.lits) ∧ w.cell? ⟨a, 2, none⟩ = some (.int .i64 C.b.fields) ∧ w.cell? ⟨a, 3, none⟩ = some (.int .i64 C.b.classes) ∧ w.cell? ⟨a, 4, none⟩ = some (.int .i64 C.b.globals) ∧ w.cell? ⟨a, 5, none⟩ = some (.int .i64 C.b.symbols) ∧ w.cell? ⟨a, 6, none⟩ = some (.slice ps sc.length cs) ∧ w.cell? ⟨a, 7, none⟩ = some (I k) ∧ w.cell? ⟨a, 8, none⟩ = some (.slice pp pls.length pls.length) := by
  have := h.top
  exact ⟨by rw [cell_in this]; rfl, by rw [cell_in this]; rfl, by rw [cell_in this]; rfl, by rw [cell_in this]; rfl, by rw [cell_in this]; rfl, by rw [cell_in this]; rfl, by rw [cell_in this]; rfl, by rw [cell_in this]; rfl, by rw [cell_in this]; rfl⟩
/-- a word of the code -/
theorem RR.word (h : RR w B a C wv sc ps cs pls pp k) : ∃ pw cw, wv = .slice pw C.ws.length cw ∧ (0 < C.ws.length → ∃ g off, pw = some ⟨g, off, none⟩ ∧ g < B ∧ ∀ i, i < C.ws.length → w.cell? ⟨g, off + i, none⟩ = some (.int .i64 (C.w i))) := by
  obtain ⟨p, c, e, h1⟩ := h.words.at_
  refine ⟨p, c, e, fun hp => ?_⟩
  obtain ⟨g, off, e2, h2, h3⟩ := h1 hp
  exact ⟨g, off, e2, h.wlo hp g (by rw [e, e2]; rfl), h3⟩
/-- a scope's number of slots -/
theorem RR.scope (h : RR w B a C wv sc ps cs pls pp k) : ∃ g, ps = some ⟨g, 0, none⟩ ∧ B ≤ g ∧ sc.length ≤ cs ∧ ∀ i, i < sc.length → w.cell? ⟨g, i, none⟩ = some (I (sc.getD i 0)) := by
  have h1 := h.scs
  have h2 := h.sc1
  rcases h1.2 with ⟨e, e0⟩ | ⟨g, cap, cur, e, q1, q2, q3, q4⟩
  · injection e with _ e3 _; omega
  · injection e with e1 _ e3
    subst e1 e3
    refine ⟨g, rfl, q1, q3, fun i hi => ?_⟩
    rw [h1.cellAt i (by omega), List.getElem?_map, List.getD_eq_getElem?_getD, List.getElem?_eq_getElem hi]
    rfl
/-- a place's cells -/
theorem RR.place (h : RR w B a C wv sc ps cs pls pp k) : ∀ i, i < pls.length → ∃ g, pp = some ⟨g, 0, none⟩ ∧ B ≤ g ∧ w.cell? ⟨g, i * 6, none⟩ = some (I (plD pls i).op) ∧ w.cell? ⟨g, i * 6 + 1, none⟩ = some (I (plD pls i).body) ∧ w.cell? ⟨g, i * 6 + 2, none⟩ = some (I (plD pls i).args) ∧ w.cell? ⟨g, i * 6 + 3, none⟩ = some (I (plD pls i).fin) ∧ w.cell? ⟨g, i * 6 + 4, none⟩ = some (I (plD pls i).nxt) ∧ w.cell? ⟨g, i * 6 + 5, none⟩ = some (I (plD pls i).to) := by
  intro i hi
  have h1 := h.pl
  rcases h1.2 with ⟨e, e0⟩ | ⟨g, cap, cur, e, q1, q2, q3, q4⟩
  · omega
  · injection e with e1 _ e3
    subst e1 e3
    have hc : ∀ j, j < 6 → w.cell? ⟨g, i * 6 + j, none⟩ = (plc (plD pls i))[j]? := fun j hj => by
      rw [h1.cellAt (i * 6 + j) (by omega)]
      exact plCells_at pls i j hi hj
    exact ⟨g, rfl, q1, hc 0 (by omega), hc 1 (by omega), hc 2 (by omega), hc 3 (by omega), hc 4 (by omega), hc 5 (by omega)⟩
end
end Go.Proofs.YtdflpoldlokijaaDoor
