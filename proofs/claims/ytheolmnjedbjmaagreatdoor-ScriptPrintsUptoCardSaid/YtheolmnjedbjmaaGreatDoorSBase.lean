import Derived.Test.YtheolmnjedbjmaaGreatDoorChecked
import Derived.Test.YtheolmnjedbjmaaGreatDoorSPure
import Derived.WalkKit
import Derived.Deep.AppendLies
import Derived.Deep.Draws
import Derived.Laws.AppendOwnNone
import Derived.Lib.AppendZeros
import Derived.Lib.SliceRun
import Derived.Maps.AppendAt
import Derived.LaidEqlPtr
import Derived.BigQuiet
import Derived.Laws.Tables
import Derived.BigRegion
import Derived.Deep.RegionHeld3
import Derived.Deep.DeepCutAuto
import Derived.Deep.DrawnRows
import Derived.Deep.QuietTactic
import Derived.Deep.DeepAppendWide
namespace Go.Proofs.YtheolmnjedbjmaaGreatDoor
open Go.RowKit
set_option linter.unusedVariables false
set_option linter.unusedSimpArgs false
theorem mkHid {p : Prop} (h : p) : Hid p := h
/-- all blocks but those of S are as they were -/
structure Fr (S : List Nat) (w w' : World) : Prop where
  os : w'.os = w.os
  tape : w'.tape = w.tape
  output : w'.output = w.output
  size : w.heap.size ≤ w'.heap.size
  block : ∀ k, k < w.heap.size → k ∉ S → w'.heap[k]? = w.heap[k]?
namespace Fr
theorem refl (S : List Nat) (w : World) : Fr S w w := ⟨rfl, rfl, rfl, Nat.le_refl _, fun _ _ _ => rfl⟩
theorem trans {S S' : List Nat} {w w' w'' : World} (h : Fr S w w') (k : Fr S' w' w'') (hs : ∀ b ∈ S', b ∈ S ∨ w.heap.size ≤ b) : Fr S w w'' :=
  ⟨k.os.trans h.os, k.tape.trans h.tape, k.output.trans h.output, Nat.le_trans h.size k.size, fun i hi hn => by
    rw [k.block i (Nat.lt_of_lt_of_le hi h.size) (fun hm => by rcases hs i hm with h1 | h1; exact hn h1; omega)]
    exact h.block i hi hn⟩
theorem mono {S S' : List Nat} {w w' : World} (h : Fr S w w') (hs : ∀ b ∈ S, b ∈ S' ∨ w.heap.size ≤ b) : Fr S' w w' :=
  ⟨h.os, h.tape, h.output, h.size, fun k hk hn => h.block k hk (fun hm => by rcases hs k hm with h1 | h1; exact hn h1; omega)⟩
theorem drew (S : List Nat) (w : World) : Fr S w w.drew := ⟨rfl, rfl, rfl, Nat.le_refl _, fun _ _ _ => rfl⟩
theorem drewN (S : List Nat) (w : World) (n : Nat) : Fr S w (w.drewN n) := ⟨rfl, rfl, rfl, Nat.le_refl _, fun _ _ _ => rfl⟩
theorem alloc (S : List Nat) (w : World) (o : Obj) : Fr S w (w.alloc o) := ⟨rfl, rfl, rfl, by simp, fun k hk _ => Below.heap_alloc _ _ _ hk⟩
theorem setCell {S : List Nat} (w : World) (a : Addr) (v : Value) (h : a.block ∈ S) : Fr S w (w.setCell a v) :=
  ⟨rfl, rfl, rfl, by simp, fun k hk hn => Below.heap_setCell _ _ _ _ (fun e => hn (by rw [e]; exact h))⟩
theorem grown {S : List Nat} {w w' : World} {row : Option Nat} (h : w.grownBy w' row) (hr : ∀ k, row = some k → k ∈ S) : Fr S w w' :=
  ⟨h.os, h.tape, h.output, h.size, fun k hk hn => h.block k hk (fun e => hn (hr k e.symm))⟩
theorem ofBelow {w w' : World} {B : Nat} (h : Below B w w') (hB : w.heap.size ≤ B) (S : List Nat) : Fr S w w' :=
  ⟨h.os, h.tape, h.output, h.size, fun k hk _ => h.block k (by omega)⟩
theorem below {w w' : World} {S : List Nat} (h : Fr S w w') {B : Nat} (hB : B ≤ w.heap.size) (hS : ∀ b ∈ S, B ≤ b) : Below B w w' :=
  ⟨h.os, h.tape, h.output, h.size, fun k hk => h.block k (by omega) (fun hm => by have := hS k hm; omega)⟩
theorem cell {S : List Nat} {w w' : World} (h : Fr S w w') {p : Addr} (h1 : p.block < w.heap.size) (h2 : p.block ∉ S) : w'.cell? p = w.cell? p :=
  World.cell?_of_block (w := w) (h.block p.block h1 h2)
theorem frozen {S : List Nat} {w w' : World} (h : Fr S w w') {p : Addr} (h1 : p.block < w.heap.size) (h2 : p.block ∉ S) : w'.frozen? p = w.frozen? p :=
  World.frozen?_of_block (w := w) (h.block p.block h1 h2)
end Fr
def blk (o : Option Addr) : List Nat := match o with | some a => [a.block] | none => []
theorem own_congr {w w' : World} {base : Nat} {e : TypeId} {size : Nat} {v : Value} {n : Nat} {xs : List Value} (h : w.ownsRow base e size v n xs)
    (hb : ∀ g, v.ownBlock = some g → w'.heap[g]? = w.heap[g]?) : w'.ownsRow base e size v n xs := by
  refine ⟨h.1, ?_⟩
  rcases h.2 with ⟨rfl, h2⟩ | ⟨g, cap, cur, rfl, h1, h2, h3⟩
  · exact Or.inl ⟨rfl, h2⟩
  · exact Or.inr ⟨g, cap, cur, rfl, h1, (hb g rfl).trans h2, h3⟩
theorem own_lt {w : World} {base : Nat} {e : TypeId} {size : Nat} {v : Value} {n : Nat} {xs : List Value} (h : w.ownsRow base e size v n xs) (g : Nat) (hg : v.ownBlock = some g) : base ≤ g ∧ g < w.heap.size := by
  rcases h.2 with ⟨rfl, h2⟩ | ⟨g', cap, cur, rfl, h1, h2, h3⟩
  · cases hg
  · have : g' = g := by simpa [Value.ownBlock] using hg
    subst this
    exact ⟨h1, (Array.getElem?_eq_some_iff.1 h2).1⟩
theorem row_block {w : World} {B : Nat} {e : TypeId} {s n : Nat} {v : Value} {xs : List Value} (h : w.ownsRow B e s v n xs) {g : Nat} (hg : v.ownBlock = some g) : ∃ cur, w.heap[g]? = some (.cells cur e (0, 0)) := by
  rcases h.2 with ⟨rfl, h2⟩ | ⟨g', cap, cur, rfl, h1, h2, h3⟩
  · cases hg
  · have : g' = g := by simpa [Value.ownBlock] using hg
    subst this
    exact ⟨cur, h2⟩
/-! where a text stands in a list -/
def pos : List ByteArray → ByteArray → Option Nat
  | [], _ => none
  | x :: l, s => if x = s then some 0 else (pos l s).map (· + 1)
theorem pos_none {l : List ByteArray} {s : ByteArray} : pos l s = none ↔ s ∉ l := by
  induction l with
  | nil => simp [pos]
  | cons x l ih =>
    unfold pos
    by_cases e : x = s
    · rw [if_pos e]; simp [e]
    · rw [if_neg e, Option.map_eq_none_iff, ih]
      simp [Ne.symm e]
theorem pos_some {l : List ByteArray} {s : ByteArray} {k : Nat} (h : pos l s = some k) : k < l.length ∧ l[k]? = some s := by
  induction l generalizing k with
  | nil => simp [pos] at h
  | cons x l ih =>
    unfold pos at h
    by_cases e : x = s
    · rw [if_pos e] at h
      cases h
      simp [e]
    · rw [if_neg e] at h
      obtain ⟨j, h1, rfl⟩ := Option.map_eq_some_iff.1 h
      have := ih h1
      simpa using this
theorem pos_mem {l : List ByteArray} {s : ByteArray} {k : Nat} (h : pos l s = some k) : s ∈ l := List.mem_of_getElem? (pos_some h).2
theorem pos_append (l m : List ByteArray) (s : ByteArray) : pos (l ++ m) s = match pos l s with | some k => some k | none => (pos m s).map (· + l.length) := by
  induction l with
  | nil => simp [pos]
  | cons x l ih =>
    rw [List.cons_append]
    show (if x = s then some 0 else (pos (l ++ m) s).map (· + 1)) = match (if x = s then some 0 else (pos l s).map (· + 1)) with | some k => some k | none => (pos m s).map (· + (x :: l).length)
    by_cases e : x = s
    · rw [if_pos e, if_pos e]
    · rw [if_neg e, if_neg e, ih]
      cases pos l s with
      | some k => rfl
      | none =>
        cases pos m s with
        | none => rfl
        | some k => simp; omega
theorem pos_left {l m : List ByteArray} {s : ByteArray} {k : Nat} (h : pos l s = some k) : pos (l ++ m) s = some k := by rw [pos_append, h]
theorem pos_at {l : List ByteArray} {k : Nat} {s : ByteArray} (h : l[k]? = some s) (hn : s ∉ l.take k) : pos l s = some k := by
  have hk := (List.getElem?_eq_some_iff.1 h).1
  have e : l = l.take k ++ l.drop k := (List.take_append_drop k l).symm
  rw [e, pos_append, pos_none.2 hn]
  have e2 : l.drop k = s :: l.drop (k + 1) := by
    rw [List.drop_eq_getElem_cons hk]
    rw [List.getElem?_eq_getElem hk] at h
    cases h
    rfl
  rw [e2]
  simp [pos]
  omega
theorem pos_nodup {l : List ByteArray} (hn : l.Nodup) {k : Nat} {s : ByteArray} (h : l[k]? = some s) : pos l s = some k := by
  refine pos_at h (fun hm => ?_)
  obtain ⟨j, hj, e⟩ := List.getElem_of_mem hm
  have hk := (List.getElem?_eq_some_iff.1 h).1
  have hj1 : j < k := by simp at hj; omega
  have e2 : l[j]? = some s := by rw [← e, List.getElem_take, List.getElem?_eq_getElem]
  have := (List.getElem?_inj (by omega : j < l.length) hn).1 (e2.trans h.symm)
  omega
theorem lt_of_heap {w : World} {g : Nat} {o : Obj} (h : w.heap[g]? = some o) : g < w.heap.size := (Array.getElem?_eq_some_iff.1 h).1
theorem cell_in {w : World} {a : Nat} {C : Array Value} {t : TypeId} (h : w.heap[a]? = some (.cells C t (0, 0))) (i : Nat) : w.cell? ⟨a, i, none⟩ = C[i]? := by simp [World.cell?, h]
theorem frozen_in {w : World} {a : Nat} {C : Array Value} {t : TypeId} (h : w.heap[a]? = some (.cells C t (0, 0))) (i : Nat) : w.frozen? ⟨a, i, none⟩ = false := by simp [World.frozen?, h]
theorem set_in {w : World} {a : Nat} {C : Array Value} {t : TypeId} (h : w.heap[a]? = some (.cells C t (0, 0))) (i : Nat) (v : Value) : (w.setCell ⟨a, i, none⟩ v).heap[a]? = some (.cells (C.setIfInBounds i v) t (0, 0)) := by
  simp [World.setCell, Array.getElem?_modify, h]
theorem blk_own (ao : Option Addr) (n c : Nat) (g : Nat) : (Value.slice ao n c).ownBlock = some g ↔ g ∈ blk ao := by
  cases ao <;> simp [Value.ownBlock, blk, eq_comm]
theorem own_blk {w : World} {base : Nat} {e : TypeId} {size : Nat} {ao : Option Addr} {k c n : Nat} {xs : List Value} (h : w.ownsRow base e size (.slice ao k c) n xs) (g : Nat) (hg : g ∈ blk ao) :
    ∃ cur, w.heap[g]? = some (.cells cur e (0, 0)) := by
  rcases h.2 with ⟨h2, _⟩ | ⟨g', cap, cur, h2, h3, h4, h5⟩
  · injection h2 with h2; subst h2; simp [blk] at hg
  · injection h2 with h2; subst h2; simp [blk] at hg; subst hg; exact ⟨cur, h4⟩
/-- a text of the list, by its cell -/
theorem row_cell {w : World} {p : Option Addr} {cap base n : Nat} {ts : List ByteArray} (h : w.ownsRow base 9 1 (.slice p n cap) n (ts.map Value.string)) (hp : 0 < n) :
    n = ts.length ∧ ∃ g, p = some ⟨g, 0, none⟩ ∧ (∀ i, i < n → w.cell? ⟨g, i, none⟩ = some (.string (ts.getD i ⟨#[]⟩))) ∧ (∀ i, w.frozen? ⟨g, i, none⟩ = false) ∧ g < w.heap.size := by
  have hn : n = ts.length := by have := h.1; simpa using this.symm
  refine ⟨hn, ?_⟩
  rcases h.2 with ⟨h2, h3⟩ | ⟨g, cap', cur, h2, h3, h4, h5, h6⟩
  · omega
  · injection h2 with h2 h2' h2''
    subst h2
    refine ⟨g, rfl, fun i hi => ?_, fun i => frozen_in h4 i, lt_of_heap h4⟩
    rw [h.cellAt i (by omega), List.getElem?_map, List.getD_eq_getElem?_getD, List.getElem?_eq_getElem (by omega)]
    rfl
theorem info9 : (Tryz.prog.info? 9).map (fun i => (i.zero, i.size, i.bytes)) = some (some (.string ⟨#[]⟩), 1, 16) := by kernel_rfl
theorem toList_data (s : ByteArray) : s.toList = s.data.toList := by
  exact ByteArray.toList_eq s
theorem tl_eq (a b : ByteArray) : (a.toList == b.toList) = decide (a = b) := by
  by_cases e : a = b
  · subst e; simp
  · rw [decide_eq_false e]
    refine beq_eq_false_iff_ne.2 (fun h => e ?_)
    rw [toList_data, toList_data] at h
    apply ByteArray.ext
    exact Array.toList_inj.1 h
theorem fitStr_no {s : ByteArray} (h : s.size = 0) : s = ⟨#[]⟩ := by
  apply ByteArray.ext
  exact Array.eq_empty_of_size_eq_zero h
theorem take_snoc {ss : List ByteArray} {i : Nat} (hi : i < ss.length) : ss.take i ++ [ss.getD i ⟨#[]⟩] = ss.take (i + 1) := by
  rw [List.take_succ_eq_append_getElem hi, List.getD_eq_getElem?_getD, List.getElem?_eq_getElem hi]; rfl
/-- a list of texts that can be read, wherever it lies -/
structure RdS (w : World) (v : Value) (ss : List ByteArray) : Prop where
  at_ : ∃ p c, v = .slice p ss.length c ∧ (0 < ss.length → ∃ g off, p = some ⟨g, off, none⟩ ∧ g < w.heap.size ∧ ∀ i, i < ss.length → w.cell? ⟨g, off + i, none⟩ = some (.string (ss.getD i ⟨#[]⟩)))
  nil : ∀ c, v = .slice none ss.length c → c = 0
  short : ss.length ≤ 8796093022208
  cap : ∀ p n c, v = .slice p n c → n ≤ c ∧ c ≤ 9223372036854775807
theorem own_rd {w : World} {base : Nat} {v : Value} {ss : List ByteArray} (h : w.ownsRow base 9 1 v ss.length (ss.map Value.string)) (hs : ss.length ≤ 8796093022208) : RdS w v ss := by
  rcases h.2 with ⟨h2, h3⟩ | ⟨g, cap, cur, h2, h3, h4, h5, h6, h7⟩
  · refine ⟨⟨none, 0, by rw [h2, h3], fun hp => by omega⟩, fun c hc => ?_, hs, fun p n c hc => ?_⟩
    · rw [h2] at hc; injection hc with _ _ e3; exact e3.symm
    · rw [h2] at hc; injection hc with _ e2 e3; omega
  · refine ⟨⟨some ⟨g, 0, none⟩, cap, h2, fun hp => ?_⟩, fun c hc => ?_, hs, fun p n c hc => by rw [h2] at hc; injection hc with _ e2 e3; unfold maxLen at h6; omega⟩
    · rw [h2] at h
      obtain ⟨_, g', e, hc, _, hl⟩ := row_cell h hp
      injection e with e
      injection e with e
      subst e
      exact ⟨g, 0, rfl, hl, fun i hi => by rw [Nat.zero_add]; exact hc i hi⟩
    · rw [h2] at hc; injection hc with e3; cases e3
theorem RdS.keep {w w' : World} {v : Value} {ss : List ByteArray} {S : List Nat} (h : RdS w v ss) (hf : Fr S w w') (hd : 0 < ss.length → ∀ g, v.ownBlock = some g → g ∉ S) : RdS w' v ss := by
  obtain ⟨p, c, e, h1⟩ := h.at_
  refine ⟨⟨p, c, e, fun hp => ?_⟩, h.nil, h.short, h.cap⟩
  obtain ⟨g, off, e2, h2, h3⟩ := h1 hp
  have hn := hd hp g (by rw [e, e2]; rfl)
  exact ⟨g, off, e2, by have := hf.size; omega, fun i hi => (hf.cell (p := ⟨g, off + i, none⟩) h2 hn).trans (h3 i hi)⟩
theorem RdS.idle {w w' : World} {v : Value} {ss : List ByteArray} (h : RdS w v ss) (hf : Fr [] w w') : RdS w' v ss := h.keep hf (by simp)
theorem RdS.lt {w : World} {v : Value} {ss : List ByteArray} (h : RdS w v ss) (hp : 0 < ss.length) (g : Nat) (hg : v.ownBlock = some g) : g < w.heap.size := by
  obtain ⟨p, c, e, h1⟩ := h.at_
  obtain ⟨g', off, e2, h2, h3⟩ := h1 hp
  rw [e, e2] at hg
  have : g' = g := by simpa [Value.ownBlock] using hg
  omega
theorem own_front {w : World} {base : Nat} {p : Option Addr} {c : Nat} {ts : List ByteArray} (h : w.ownsRow base 9 1 (.slice p ts.length c) ts.length (ts.map Value.string)) (hp : 0 < ts.length) {k : Nat} (hk : k ≤ ts.length) (hs : ts.length ≤ 8796093022208) :
    ∃ g, p = some ⟨g, 0, none⟩ ∧ base ≤ g ∧ g < w.heap.size ∧ ts.length ≤ c ∧ c ≤ 9223372036854775807 ∧ RdS w (.slice p k c) (ts.take k) := by
  obtain ⟨_, g, rfl, h1, h2, h3⟩ := row_cell h hp
  have hl : (ts.take k).length = k := by simp; omega
  have hb := (own_lt h g rfl).1
  have hc : ts.length ≤ c ∧ c ≤ 9223372036854775807 := by
    rcases h.2 with ⟨e, _⟩ | ⟨g', c', cur, e, _, _, q1, q2, _⟩
    · cases e
    · injection e with _ _ e; unfold maxLen at q2; omega
  refine ⟨g, rfl, hb, h3, hc.1, hc.2, ⟨_, _, by rw [hl], fun h0 => ⟨g, 0, rfl, h3, fun i hi => ?_⟩⟩, fun c' hc => (by injection hc with e; cases e), by omega, fun p' n' c' hc' => by injection hc' with _ e2 e3; omega⟩
  rw [hl] at hi
  rw [Nat.zero_add, h1 i (by omega), List.getD_eq_getElem?_getD, List.getD_eq_getElem?_getD, List.getElem?_take, if_pos hi]
theorem own_set {w : World} {base g c : Nat} {ts : List ByteArray} (h : w.ownsRow base 9 1 (.slice (some ⟨g, 0, none⟩) ts.length c) ts.length (ts.map Value.string)) (i : Nat) (hi : i < ts.length) (s : ByteArray) :
    (w.setCell ⟨g, i, none⟩ (.string s)).ownsRow base 9 1 (.slice (some ⟨g, 0, none⟩) (ts.set i s).length c) (ts.set i s).length ((ts.set i s).map Value.string) := by
  rw [List.length_set]
  refine ⟨by simp, Or.inr ?_⟩
  rcases h.2 with ⟨e, _⟩ | ⟨g', c', cur, e, q1, q2, q3, q4, q5, q6⟩
  · cases e
  · injection e with e _ e3
    injection e with e
    injection e with e
    subst e
    subst e3
    refine ⟨g, c, cur.setIfInBounds i (.string s), rfl, q1, set_in q2 i _, q3, q4, by simpa using q5, ?_⟩
    rw [List.map_set, ← q6, Nat.mul_one, Array.toList_setIfInBounds, List.take_set]
/-- one more behind a row: in its own block, or in a new one and the old one stays -/
theorem push2 {t e : TypeId} {i : TypeInfo} {z : Value} {bytes : Nat} (ht : Tryz.prog.underlying t = some (.slice e)) (hi : Tryz.prog.info? e = some i) (hz : i.zero = some z) (hsize : i.size = 1) (hby : i.bytes = bytes) (hzs : z.cells.size = 1)
    (w : World) (base : Nat) (p : Option Addr) (c : Nat) (xs : List Value) (x : Value) (h : w.ownsRow base e 1 (.slice p xs.length c) xs.length xs) (hx : x.oneCell' = true) (h63 : xs.length + 1 ≤ maxLen) (hb : ((xs.length + 1) + (xs.length + 1) / 4 + 192) * bytes ≤ 281474976710656) (hB : base ≤ w.heap.size) :
    ∃ p' c' w', (Builtin.append_ #[t, t] t #[.slice p xs.length c, .slice (some ⟨w.heap.size, 0, none⟩) 1 1]).run Tryz.prog (w.alloc (.cells #[x] e)) = .ok (.slice p' (xs.length + 1) c') w' ∧
      w'.ownsRow base e 1 (.slice p' (xs.length + 1) c') (xs.length + 1) (xs ++ [x]) ∧ ((p' = p ∧ c' = c ∧ Fr (blk p) w w') ∨ (Fr [] w w' ∧ ∀ g ∈ blk p', w.heap.size ≤ g)) := by
  have hA : (w.alloc (.cells #[x] e)).heap.size = w.heap.size + 1 := by simp
  have hown : (w.alloc (.cells #[x] e)).ownsRow base e 1 (.slice p xs.length c) xs.length xs := own_congr h (fun g hg => Below.heap_alloc _ _ _ (own_lt h g hg).2)
  have hnews := cell_one_new w x e
  have h1 : ∀ u ∈ [x], u.oneCell' = true := fun u hu => by simp at hu; subst hu; exact hx
  obtain ⟨v', w', hr, h2, h3, _⟩ := run_append_own_wide (P := Tryz.prog) (w.alloc (.cells #[x] e)) base t t e i z 1 bytes ht hi hz hsize hby hzs (by decide) _ _ _ hown ⟨w.heap.size, 0, none⟩ 1 1 [x] rfl hnews h1 h63 hb (by omega)
  rcases h.2 with ⟨e1, e2⟩ | ⟨g, c0, cur, e1, q1, q2, q3, q4, q5, q6⟩
  · injection e1 with e1 e3 e4
    subst e1
    subst e4
    have hnil : xs = [] := List.length_eq_zero_iff.1 e2
    subst hnil
    have hr2 := run_append_nil (P := Tryz.prog) (w.alloc (.cells #[x] e)) t t e i z ht hi hz ⟨w.heap.size, 0, none⟩ 1 1 [x] (by rw [hsize]; rfl) hnews (by decide) (by decide) (by rw [hby]; simp at hb; omega)
    have hr3 := hr
    rw [show (Value.slice none ([] : List Value).length 0) = .slice none 0 0 from rfl, hr2] at hr3
    injection hr3 with hv hw
    subst hv
    subst hw
    exact ⟨_, _, _, hr, h2, Or.inr ⟨(Fr.alloc [] w _).trans ((Fr.drew [] _).trans (Fr.alloc [] _ _) (by simp)) (by simp), fun g hg => by simp [blk] at hg; omega⟩⟩
  · injection e1 with e1 _ e4
    subst e1
    subst e4
    by_cases hroom : xs.length + 1 ≤ c
    · have hg : (w.alloc (.cells #[x] e)).heap[g]? = some (.cells cur e (0, 0)) := (Below.heap_alloc _ _ _ (lt_of_heap q2)).trans q2
      have hr2 := run_append_room (P := Tryz.prog) (w.alloc (.cells #[x] e)) t t e i ht hi g xs.length c cur hg ⟨w.heap.size, 0, none⟩ 1 1 [x] (by rw [hsize]; rfl) hnews h1 hroom (by rw [hsize, q5]; simp; omega)
      have hr3 := hr
      rw [hr2] at hr3
      injection hr3 with hv hw
      subst hv
      refine ⟨_, _, w', hr, h2, Or.inl ⟨rfl, rfl, (Fr.alloc (blk (some ⟨g, 0, none⟩)) w _).trans (Fr.grown (S := [g]) h3 (fun k hk => ?_)) (by simp [blk])⟩⟩
      simp [Value.ownBlock] at hk
      simp [hk]
    · have holds : ∀ j u, xs[j]? = some u → (w.alloc (.cells #[x] e)).cell? ((⟨g, 0, none⟩ : Addr).add j) = some u := hown.cells (g := g) rfl
      have hr2 := run_append_grow (P := Tryz.prog) (w.alloc (.cells #[x] e)) t t e i z ht hi hz ⟨g, 0, none⟩ xs.length c xs (by rw [hsize]; simp) holds ⟨w.heap.size, 0, none⟩ 1 1 [x] (by rw [hsize]; rfl) hnews (by omega) (by unfold maxLen at h63; omega) (by rw [hby]; exact growslice_fits_wide (by omega) hb)
      have hr3 := hr
      rw [hr2] at hr3
      injection hr3 with hv hw
      subst hv
      subst hw
      exact ⟨_, _, _, hr, h2, Or.inr ⟨(Fr.alloc [] w _).trans ((Fr.drew [] _).trans (Fr.alloc [] _ _) (by simp)) (by simp), fun g hg => by simp [blk] at hg; omega⟩⟩
theorem push_text (w : World) (base : Nat) (p : Option Addr) (c : Nat) (ts : List ByteArray) (s : ByteArray) (h : w.ownsRow base 9 1 (.slice p ts.length c) ts.length (ts.map Value.string)) (hb : ts.length + 1 ≤ 8796093022208) (hB : base ≤ w.heap.size) :
    ∃ p' c' w', (Builtin.append_ #[38, 38] 38 #[.slice p ts.length c, .slice (some ⟨w.heap.size, 0, none⟩) 1 1]).run Tryz.prog (w.alloc (.cells #[.string s] 9)) = .ok (.slice p' (ts.length + 1) c') w' ∧
      w'.ownsRow base 9 1 (.slice p' (ts ++ [s]).length c') (ts ++ [s]).length ((ts ++ [s]).map Value.string) ∧ ((p' = p ∧ c' = c ∧ Fr (blk p) w w') ∨ (Fr [] w w' ∧ ∀ g ∈ blk p', w.heap.size ≤ g)) := by
  obtain ⟨i9, ii, iz, is, ib⟩ := info_parts info9
  have := push2 Tryz.underlying38 ii iz is ib rfl w base p c (ts.map Value.string) (.string s) (by rw [List.length_map]; exact h) rfl (by rw [List.length_map]; unfold maxLen; omega) (by rw [List.length_map]; omega) hB
  rw [List.length_map] at this
  obtain ⟨p', c', w', r1, r2, r3⟩ := this
  exact ⟨p', c', w', r1, by rw [List.length_append, List.map_append]; exact r2, r3⟩
/-- a list of texts, one more put behind it, as long as a list may be -/
theorem run_pushL (w : World) (p : Option Addr) (cap base : Nat) (ts : List ByteArray) (s : ByteArray) (h : w.ownsRow base 9 1 (.slice p ts.length cap) ts.length (ts.map Value.string)) (hs : ts.length + 1 ≤ 8796093022208) (hB : base ≤ w.heap.size) :
    ∃ p' cap' w', (Builtin.append_ #[38, 38] 38 #[.slice p ts.length cap, .slice (some ⟨w.heap.size, 0, none⟩) 1 1]).run Tryz.prog (w.alloc (.cells #[.string s] 9)) = .ok (.slice p' (ts.length + 1) cap') w' ∧
      w'.ownsRow base 9 1 (.slice p' (ts.length + 1) cap') (ts.length + 1) ((ts ++ [s]).map Value.string) ∧ Fr (blk p) w w' ∧ (∀ g ∈ blk p', g ∈ blk p ∨ w.heap.size ≤ g) := by
  obtain ⟨i9, ii, iz, is, ib⟩ := info_parts info9
  have hA : (w.alloc (.cells #[.string s] 9)).heap.size = w.heap.size + 1 := by simp
  have hown : (w.alloc (.cells #[.string s] 9)).ownsRow base 9 1 (.slice p ts.length cap) ts.length (ts.map Value.string) := own_congr h (fun g hg => Below.heap_alloc _ _ _ (own_lt h g hg).2)
  have hcell : (w.alloc (.cells #[.string s] 9)).cell? ⟨w.heap.size, 0, none⟩ = some (.string s) := by rw [cell_in (heap_alloc_new w _)]; rfl
  obtain ⟨v', w', hr, h2, h3, _, h5⟩ := run_append_own_at (P := Tryz.prog) (w.alloc (.cells #[.string s] 9)) base 38 38 9 i9 (.string ⟨#[]⟩) 1 16 Tryz.underlying38 ii iz is ib rfl (by decide) _ _ _ hown ⟨w.heap.size, 0, none⟩ 1 1 [.string s] rfl
    (fun j x hx => by
      cases j with
      | zero => simp at hx; subst hx; rw [Addr.add_lit]; exact hcell
      | succ j => simp at hx)
    (fun x hx => by simp at hx; subst hx; rfl) (by unfold maxLen; omega) (by omega) (by omega)
  have hv : ∃ p' cap', v' = .slice p' (ts.length + 1) cap' := by
    rcases h2.2 with ⟨e1, e2⟩ | ⟨g, cap', cur, e1, _⟩
    · omega
    · exact ⟨_, _, e1⟩
  obtain ⟨p', cap', rfl⟩ := hv
  refine ⟨p', cap', w', hr, ?_, ?_, fun g hg => ?_⟩
  · rw [List.map_append]; exact h2
  · refine (Fr.alloc (blk p) w _).trans (Fr.grown h3 (fun k hk => (blk_own _ _ _ _).1 hk)) (fun b hb => Or.inl hb)
  · rcases h5 with h5 | h5
    · exact Or.inl ((blk_own p ts.length cap g).1 (by rw [← h5]; exact (blk_own p' (ts.length + 1) cap' g).2 hg))
    · have := (blk_own p' (ts.length + 1) cap' g).2 hg
      rw [h5, hA] at this
      injection this with this
      exact Or.inr (by omega)
/-- a list of this call's own -/
structure Mine (w0 w : World) (p : Option Addr) (c : Nat) (ts : List ByteArray) : Prop where
  row : w.ownsRow w0.heap.size 9 1 (.slice p ts.length c) ts.length (ts.map Value.string)
  fr : Fr [] w0 w
theorem mine_nil (w : World) : Mine w w none 0 [] := ⟨World.ownsRow_nil _ _ _ _, Fr.refl _ _⟩
theorem mine_push {w0 w : World} {p : Option Addr} {c : Nat} {ts : List ByteArray} (h : Mine w0 w p c ts) (s : ByteArray) (ht : ts.length + 1 ≤ 8796093022208) :
    ∃ p' c' w', (Builtin.append_ #[38, 38] 38 #[.slice p ts.length c, .slice (some ⟨w.heap.size, 0, none⟩) 1 1]).run Tryz.prog (w.alloc (.cells #[.string s] 9)) = .ok (.slice p' (ts.length + 1) c') w' ∧ Mine w0 w' p' c' (ts ++ [s]) := by
  obtain ⟨p', c', w', r1, r2, r3, r4⟩ := run_pushL w p c w0.heap.size ts s h.row ht h.fr.size
  exact ⟨p', c', w', r1, by rw [List.length_append]; exact r2, h.fr.trans r3 (fun g hg => Or.inr (own_lt h.row g ((blk_own _ _ _ _).2 hg)).1)⟩
theorem getD_snoc {ss : List ByteArray} {i : Nat} (hi : i < ss.length) : ss.take (i + 1) = ss.take i ++ [ss.getD i ⟨#[]⟩] := (take_snoc hi).symm
end Go.Proofs.YtheolmnjedbjmaaGreatDoor

