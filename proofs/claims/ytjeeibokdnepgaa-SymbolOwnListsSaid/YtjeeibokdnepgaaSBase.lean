import Derived.Test.YtjeeibokdnepgaaChecked
import Derived.WalkKit
import Derived.Deep.AppendLies
import Derived.Deep.Draws
import Derived.Laws.AppendOwnNone
import Derived.Lib.AppendZeros
import Derived.Maps.OwnOps
import Derived.Maps.OwnSet
import Derived.Maps.Views
import Derived.Maps.AppendAt
import Derived.StringKeys
namespace Go.Proofs.Ytjeeibokdnepgaa
open Go.RowKit Go.Maps
set_option linter.unusedVariables false
set_option linter.unusedSimpArgs false
theorem mkHid {p : Prop} (h : p) : Hid p := h
/-- all blocks but those of S are as they were -/
structure Fr (S : List Nat) (w w' : World) : Prop where
  os : w'.os = w.os
  tape : w'.tape = w.tape
  output : w'.output = w.output
  size : w.heap.size ≤ w'.heap.size
  block : ∀ k, k < w.heap.size → k ∉ S → w'.heap[k]? = w.heap[k]?
namespace Fr
theorem refl (S : List Nat) (w : World) : Fr S w w := ⟨rfl, rfl, rfl, Nat.le_refl _, fun _ _ _ => rfl⟩
theorem trans {S S' : List Nat} {w w' w'' : World} (h : Fr S w w') (k : Fr S' w' w'') (hs : ∀ b ∈ S', b ∈ S ∨ w.heap.size ≤ b) : Fr S w w'' :=
  ⟨k.os.trans h.os, k.tape.trans h.tape, k.output.trans h.output, Nat.le_trans h.size k.size, fun i hi hn => by
    rw [k.block i (Nat.lt_of_lt_of_le hi h.size) (fun hm => by rcases hs i hm with h1 | h1; exact hn h1; omega)]
    exact h.block i hi hn⟩
theorem mono {S S' : List Nat} {w w' : World} (h : Fr S w w') (hs : ∀ b ∈ S, b ∈ S' ∨ w.heap.size ≤ b) : Fr S' w w' :=
  ⟨h.os, h.tape, h.output, h.size, fun k hk hn => h.block k hk (fun hm => by rcases hs k hm with h1 | h1; exact hn h1; omega)⟩
theorem drew (S : List Nat) (w : World) : Fr S w w.drew := ⟨rfl, rfl, rfl, Nat.le_refl _, fun _ _ _ => rfl⟩
theorem drewN (S : List Nat) (w : World) (n : Nat) : Fr S w (w.drewN n) := ⟨rfl, rfl, rfl, Nat.le_refl _, fun _ _ _ => rfl⟩
theorem alloc (S : List Nat) (w : World) (o : Obj) : Fr S w (w.alloc o) := ⟨rfl, rfl, rfl, by simp, fun k hk _ => Below.heap_alloc _ _ _ hk⟩
theorem setCell {S : List Nat} (w : World) (a : Addr) (v : Value) (h : a.block ∈ S) : Fr S w (w.setCell a v) :=
  ⟨rfl, rfl, rfl, by simp, fun k hk hn => Below.heap_setCell _ _ _ _ (fun e => hn (by rw [e]; exact h))⟩
theorem grown {S : List Nat} {w w' : World} {row : Option Nat} (h : w.grownBy w' row) (hr : ∀ k, row = some k → k ∈ S) : Fr S w w' :=
  ⟨h.os, h.tape, h.output, h.size, fun k hk hn => h.block k hk (fun e => hn (hr k e.symm))⟩
theorem ofBelow {w w' : World} {B : Nat} (h : Below B w w') (hB : w.heap.size ≤ B) (S : List Nat) : Fr S w w' :=
  ⟨h.os, h.tape, h.output, h.size, fun k hk _ => h.block k (by omega)⟩
theorem below {w w' : World} {S : List Nat} (h : Fr S w w') {B : Nat} (hB : B ≤ w.heap.size) (hS : ∀ b ∈ S, B ≤ b) : Below B w w' :=
  ⟨h.os, h.tape, h.output, h.size, fun k hk => h.block k (by omega) (fun hm => by have := hS k hm; omega)⟩
theorem cell {S : List Nat} {w w' : World} (h : Fr S w w') {p : Addr} (h1 : p.block < w.heap.size) (h2 : p.block ∉ S) : w'.cell? p = w.cell? p :=
  World.cell?_of_block (w := w) (h.block p.block h1 h2)
theorem frozen {S : List Nat} {w w' : World} (h : Fr S w w') {p : Addr} (h1 : p.block < w.heap.size) (h2 : p.block ∉ S) : w'.frozen? p = w.frozen? p :=
  World.frozen?_of_block (w := w) (h.block p.block h1 h2)
end Fr
def blk (o : Option Addr) : List Nat := match o with | some a => [a.block] | none => []
theorem own_congr {w w' : World} {base : Nat} {e : TypeId} {size : Nat} {v : Value} {n : Nat} {xs : List Value} (h : w.ownsRow base e size v n xs)
    (hb : ∀ g, v.ownBlock = some g → w'.heap[g]? = w.heap[g]?) : w'.ownsRow base e size v n xs := by
  refine ⟨h.1, ?_⟩
  rcases h.2 with ⟨rfl, h2⟩ | ⟨g, cap, cur, rfl, h1, h2, h3⟩
  · exact Or.inl ⟨rfl, h2⟩
  · exact Or.inr ⟨g, cap, cur, rfl, h1, (hb g rfl).trans h2, h3⟩
theorem own_lt {w : World} {base : Nat} {e : TypeId} {size : Nat} {v : Value} {n : Nat} {xs : List Value} (h : w.ownsRow base e size v n xs) (g : Nat) (hg : v.ownBlock = some g) : base ≤ g ∧ g < w.heap.size := by
  rcases h.2 with ⟨rfl, h2⟩ | ⟨g', cap, cur, rfl, h1, h2, h3⟩
  · cases hg
  · have : g' = g := by simpa [Value.ownBlock] using hg
    subst this
    exact ⟨h1, (Array.getElem?_eq_some_iff.1 h2).1⟩
/-! where a text stands in a list -/
def pos : List ByteArray → ByteArray → Option Nat
  | [], _ => none
  | x :: l, s => if x = s then some 0 else (pos l s).map (· + 1)
theorem pos_none {l : List ByteArray} {s : ByteArray} : pos l s = none ↔ s ∉ l := by
  induction l with
  | nil => simp [pos]
  | cons x l ih =>
    unfold pos
    by_cases e : x = s
    · rw [if_pos e]; simp [e]
    · rw [if_neg e, Option.map_eq_none_iff, ih]
      simp [Ne.symm e]
theorem pos_some {l : List ByteArray} {s : ByteArray} {k : Nat} (h : pos l s = some k) : k < l.length ∧ l[k]? = some s := by
  induction l generalizing k with
  | nil => simp [pos] at h
  | cons x l ih =>
    unfold pos at h
    by_cases e : x = s
    · rw [if_pos e] at h
      cases h
      simp [e]
    · rw [if_neg e] at h
      obtain ⟨j, h1, rfl⟩ := Option.map_eq_some_iff.1 h
      have := ih h1
      simpa using this
theorem pos_mem {l : List ByteArray} {s : ByteArray} {k : Nat} (h : pos l s = some k) : s ∈ l := List.mem_of_getElem? (pos_some h).2
theorem pos_append (l m : List ByteArray) (s : ByteArray) : pos (l ++ m) s = match pos l s with | some k => some k | none => (pos m s).map (· + l.length) := by
  induction l with
  | nil => simp [pos]
  | cons x l ih =>
    rw [List.cons_append]
    show (if x = s then some 0 else (pos (l ++ m) s).map (· + 1)) = match (if x = s then some 0 else (pos l s).map (· + 1)) with | some k => some k | none => (pos m s).map (· + (x :: l).length)
    by_cases e : x = s
    · rw [if_pos e, if_pos e]
    · rw [if_neg e, if_neg e, ih]
      cases pos l s with
      | some k => rfl
      | none =>
        cases pos m s with
        | none => rfl
        | some k => simp; omega
theorem pos_left {l m : List ByteArray} {s : ByteArray} {k : Nat} (h : pos l s = some k) : pos (l ++ m) s = some k := by rw [pos_append, h]
theorem pos_at {l : List ByteArray} {k : Nat} {s : ByteArray} (h : l[k]? = some s) (hn : s ∉ l.take k) : pos l s = some k := by
  have hk := (List.getElem?_eq_some_iff.1 h).1
  have e : l = l.take k ++ l.drop k := (List.take_append_drop k l).symm
  rw [e, pos_append, pos_none.2 hn]
  have e2 : l.drop k = s :: l.drop (k + 1) := by
    rw [List.drop_eq_getElem_cons hk]
    rw [List.getElem?_eq_getElem hk] at h
    cases h
    rfl
  rw [e2]
  simp [pos]
  omega
theorem pos_nodup {l : List ByteArray} (hn : l.Nodup) {k : Nat} {s : ByteArray} (h : l[k]? = some s) : pos l s = some k := by
  refine pos_at h (fun hm => ?_)
  obtain ⟨j, hj, e⟩ := List.getElem_of_mem hm
  have hk := (List.getElem?_eq_some_iff.1 h).1
  have hj1 : j < k := by simp at hj; omega
  have e2 : l[j]? = some s := by rw [← e, List.getElem_take, List.getElem?_eq_getElem]
  have := (List.getElem?_inj (by omega : j < l.length) hn).1 (e2.trans h.symm)
  omega
/-! the map of a table -/
def kS (s : ByteArray) : Lit := .string s.data.toList
theorem kS_ne {s t : ByteArray} (h : s ≠ t) : kS s ≠ kS t := fun e => h (by
  unfold kS at e
  injection e with e
  apply ByteArray.ext
  exact Array.toList_inj.1 e)
theorem isKey_s (s : ByteArray) : WideAt.IsKeyLit (kS s) := trivial
theorem mlaw : Keyed Try.prog 9 := string_keyed Try.underlying9
theorem mzero (w : World) : (zeroValue 3).run Try.prog w = .ok (.int .i64 0) w := by kernel_rfl
structure MapOf (w : World) (b : Nat) (f : ByteArray → Option Nat) (n : Nat) : Prop where
  at_ : ∃ D : DataW Unit, w.ownsMap Try.prog 9 (plainElem Try.prog 3) b n D ∧ (∀ s, Maps.has D (kS s) = (f s).isSome) ∧ (∀ s, D.atKey (kS s) (.lit (.int .i64 0)) = .lit (.int .i64 (((f s).getD 0 : Nat) : Int))) ∧ Maps.size D = n
theorem MapOf.congr {w w' : World} {b n : Nat} {f : ByteArray → Option Nat} (h : MapOf w b f n) (hb : w'.heap[b]? = w.heap[b]?) : MapOf w' b f n := by
  obtain ⟨D, ⟨es, clock, h1, h2⟩, h3⟩ := h.at_
  exact ⟨D, ⟨es, clock, hb.trans h1, h2⟩, h3⟩
theorem MapOf.lt {w : World} {b n : Nat} {f : ByteArray → Option Nat} (h : MapOf w b f n) : b < w.heap.size := by
  obtain ⟨D, ⟨es, clock, h1, h2⟩, h3⟩ := h.at_
  exact (Array.getElem?_eq_some_iff.1 h1).1
theorem MapOf.eqf {w : World} {b n : Nat} {f g : ByteArray → Option Nat} (h : MapOf w b f n) (e : ∀ s, f s = g s) : MapOf w b g n := by
  rw [← funext e]; exact h
theorem own_size {w : World} {b n : Nat} {D : DataW Unit} (h : w.ownsMap Try.prog 9 (plainElem Try.prog 3) b n D) : w.ownsMap Try.prog 9 (plainElem Try.prog 3) b (Maps.size D) D := by
  obtain ⟨es, clock, h1, h2, h3, h4⟩ := h
  refine ⟨es, clock, h1, h2, ?_, h4⟩
  rw [h4]
  simp [Maps.size, length_sorted]
theorem map_put {w w' : World} {b n : Nat} {f : ByteArray → Option Nat} {D : DataW Unit} (x : ByteArray) (v : Nat) (hown : w.ownsMap Try.prog 9 (plainElem Try.prog 3) b n D) (hh : ∀ s, Maps.has D (kS s) = (f s).isSome) (ha : ∀ s, D.atKey (kS s) (.lit (.int .i64 0)) = .lit (.int .i64 (((f s).getD 0 : Nat) : Int))) (hs : Maps.size D = n)
    (hx : f x = none) (h' : w'.ownsMap Try.prog 9 (plainElem Try.prog 3) b (n + 1) (D.put (kS x) (.lit (.int .i64 (v : Int))))) : MapOf w' b (fun s => if s = x then some v else f s) (n + 1) := by
  have hm := hown.isMap
  refine ⟨_, h', fun s => ?_, fun s => ?_, ?_⟩
  · by_cases e : s = x
    · subst e
      rw [has_put_same hm (isKey_s s), if_pos rfl]; rfl
    · rw [has_put_other (kS_ne e), hh, if_neg e]
  · by_cases e : s = x
    · subst e
      rw [atKey_put_same hm (isKey_s s), if_pos rfl]; rfl
    · rw [atKey_put_other (kS_ne e), ha, if_neg e]
  · rw [size_put (hown.tidy mlaw), hh, hx, hs]; rfl
theorem map_del {w w' : World} {b n : Nat} {f : ByteArray → Option Nat} {D : DataW Unit} (x : ByteArray) (hown : w.ownsMap Try.prog 9 (plainElem Try.prog 3) b n D) (hh : ∀ s, Maps.has D (kS s) = (f s).isSome) (ha : ∀ s, D.atKey (kS s) (.lit (.int .i64 0)) = .lit (.int .i64 (((f s).getD 0 : Nat) : Int))) (hs : Maps.size D = n)
    (hx : (f x).isSome = true) (h' : w'.ownsMap Try.prog 9 (plainElem Try.prog 3) b n (D.del (kS x))) : MapOf w' b (fun s => if s = x then none else f s) (n - 1) := by
  have hz : Maps.size (D.del (kS x)) = n - 1 := by
    have := size_del (k := kS x) (hown.tidy mlaw)
    rw [hh, hx, hs, if_pos rfl] at this
    omega
  refine ⟨_, by rw [← hz]; exact own_size h', fun s => ?_, fun s => ?_, hz⟩
  · by_cases e : s = x
    · subst e
      rw [has_del_same, if_pos rfl]; rfl
    · rw [has_del_other (kS_ne e), hh, if_neg e]
  · by_cases e : s = x
    · subst e
      rw [atKey_del_same, if_pos rfl]; rfl
    · rw [atKey_del_other (kS_ne e), ha, if_neg e]
end Go.Proofs.Ytjeeibokdnepgaa
