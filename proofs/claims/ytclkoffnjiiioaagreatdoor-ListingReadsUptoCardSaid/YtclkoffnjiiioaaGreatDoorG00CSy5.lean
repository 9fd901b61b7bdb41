import Derived.Test.YtclkoffnjiiioaaGreatDoorChecked
import Derived.WalkKit
import Derived.Deep.AppendLies
import Derived.Deep.Draws
import Derived.Deep.DeepAppendWide
import Derived.Maps.AppendAt
import Derived.Laws.AppendOwnNone
import Derived.Lib.AppendZeros
import Derived.Laws.Tables
import Derived.BigQuiet
import Derived.BigRegion
import Derived.Deep.RegionHeld3
import Derived.Deep.DeepCutAuto
import Derived.Deep.DrawnRows
import Derived.Deep.RegionLaw
namespace Go.Proofs.YtclkoffnjiiioaaGreatDoor
open Go.RowKit
set_option linter.unusedVariables false
set_option linter.unusedSimpArgs false
theorem mkHid {p : Prop} (h : p) : Hid p := h
/-- all blocks but those of S are as they were -/
structure Fr (S : List Nat) (w w' : World) : Prop where
  os : w'.os = w.os
  tape : w'.tape = w.tape
  output : w'.output = w.output
  size : w.heap.size ≤ w'.heap.size
  block : ∀ k, k < w.heap.size → k ∉ S → w'.heap[k]? = w.heap[k]?
namespace Fr
theorem refl (S : List Nat) (w : World) : Fr S w w := ⟨rfl, rfl, rfl, Nat.le_refl _, fun _ _ _ => rfl⟩
theorem trans {S S' : List Nat} {w w' w'' : World} (h : Fr S w w') (k : Fr S' w' w'') (hs : ∀ b ∈ S', b ∈ S ∨ w.heap.size ≤ b) : Fr S w w'' :=
  ⟨k.os.trans h.os, k.tape.trans h.tape, k.output.trans h.output, Nat.le_trans h.size k.size, fun i hi hn => by
    rw [k.block i (Nat.lt_of_lt_of_le hi h.size) (fun hm => by rcases hs i hm with h1 | h1; exact hn h1; omega)]
    exact h.block i hi hn⟩
theorem mono {S S' : List Nat} {w w' : World} (h : Fr S w w') (hs : ∀ b ∈ S, b ∈ S' ∨ w.heap.size ≤ b) : Fr S' w w' :=
  ⟨h.os, h.tape, h.output, h.size, fun k hk hn => h.block k hk (fun hm => by rcases hs k hm with h1 | h1; exact hn h1; omega)⟩
theorem drew (S : List Nat) (w : World) : Fr S w w.drew := ⟨rfl, rfl, rfl, Nat.le_refl _, fun _ _ _ => rfl⟩
theorem alloc (S : List Nat) (w : World) (o : Obj) : Fr S w (w.alloc o) := ⟨rfl, rfl, rfl, by simp, fun k hk _ => Below.heap_alloc _ _ _ hk⟩
theorem setCell {S : List Nat} (w : World) (a : Addr) (v : Value) (h : a.block ∈ S) : Fr S w (w.setCell a v) :=
  ⟨rfl, rfl, rfl, by simp, fun k hk hn => Below.heap_setCell _ _ _ _ (fun e => hn (by rw [e]; exact h))⟩
theorem setRow {S : List Nat} (w : World) (g : Nat) (cs : Array Value) (h : g ∈ S) : Fr S w (w.setRow g cs) :=
  ⟨rfl, rfl, rfl, by simp, fun k hk hn => setRow_other w g k _ (fun e => hn (by rw [e]; exact h))⟩
theorem grown {S : List Nat} {w w' : World} {row : Option Nat} (h : w.grownBy w' row) (hr : ∀ k, row = some k → k ∈ S) : Fr S w w' :=
  ⟨h.os, h.tape, h.output, h.size, fun k hk hn => h.block k hk (fun e => hn (hr k e.symm))⟩
theorem below {w w' : World} {S : List Nat} (h : Fr S w w') {B : Nat} (hB : B ≤ w.heap.size) (hS : ∀ b ∈ S, B ≤ b) : Below B w w' :=
  ⟨h.os, h.tape, h.output, h.size, fun k hk => h.block k (by omega) (fun hm => by have := hS k hm; omega)⟩
theorem cell {S : List Nat} {w w' : World} (h : Fr S w w') {p : Addr} (h1 : p.block < w.heap.size) (h2 : p.block ∉ S) : w'.cell? p = w.cell? p :=
  World.cell?_of_block (w := w) (h.block p.block h1 h2)
theorem frozen {S : List Nat} {w w' : World} (h : Fr S w w') {p : Addr} (h1 : p.block < w.heap.size) (h2 : p.block ∉ S) : w'.frozen? p = w.frozen? p :=
  World.frozen?_of_block (w := w) (h.block p.block h1 h2)
end Fr
theorem Fr.drewN (S : List Nat) (w : World) (n : Nat) : Fr S w (w.drewN n) := ⟨rfl, rfl, rfl, Nat.le_refl _, fun _ _ _ => rfl⟩

def blk (o : Option Addr) : List Nat := match o with | some a => [a.block] | none => []
def I (n : Nat) : Value := .int .i64 (n : Int)
theorem own_congr {w w' : World} {base : Nat} {e : TypeId} {size : Nat} {v : Value} {n : Nat} {xs : List Value} (h : w.ownsRow base e size v n xs)
    (hb : ∀ g, v.ownBlock = some g → w'.heap[g]? = w.heap[g]?) : w'.ownsRow base e size v n xs := by
  refine ⟨h.1, ?_⟩
  rcases h.2 with h2 | ⟨g, cap, cur, rfl, h3, h4, h5⟩
  · exact .inl h2
  · exact .inr ⟨g, cap, cur, rfl, h3, (hb g rfl).trans h4, h5⟩
theorem lt_of_heap {w : World} {g : Nat} {o : Obj} (h : w.heap[g]? = some o) : g < w.heap.size := (Array.getElem?_eq_some_iff.1 h).1
theorem cell_in {w : World} {a : Nat} {C : Array Value} {t : TypeId} (h : w.heap[a]? = some (.cells C t (0, 0))) (i : Nat) : w.cell? ⟨a, i, none⟩ = C[i]? := by simp [World.cell?, h]
theorem frozen_in {w : World} {a : Nat} {C : Array Value} {t : TypeId} (h : w.heap[a]? = some (.cells C t (0, 0))) (i : Nat) : w.frozen? ⟨a, i, none⟩ = false := by simp [World.frozen?, h]
theorem set_in {w : World} {a : Nat} {C : Array Value} {t : TypeId} (h : w.heap[a]? = some (.cells C t (0, 0))) (i : Nat) (v : Value) : (w.setCell ⟨a, i, none⟩ v).heap[a]? = some (.cells (C.setIfInBounds i v) t (0, 0)) := by
  simp [World.setCell, Array.getElem?_modify, h]
theorem row_block {w : World} {B : Nat} {e : TypeId} {s n : Nat} {v : Value} {xs : List Value} (h : w.ownsRow B e s v n xs) {g : Nat} (hg : v.ownBlock = some g) : ∃ cur, w.heap[g]? = some (.cells cur e (0, 0)) := by
  rcases h.2 with ⟨rfl, h2⟩ | ⟨g', cap, cur, rfl, h1, h2, h3⟩
  · cases hg
  · have : g' = g := by simpa [Value.ownBlock] using hg
    subst this
    exact ⟨cur, h2⟩
theorem own_lt {w : World} {base : Nat} {e : TypeId} {size : Nat} {v : Value} {n : Nat} {xs : List Value} (h : w.ownsRow base e size v n xs) (g : Nat) (hg : v.ownBlock = some g) : base ≤ g ∧ g < w.heap.size := by
  rcases h.2 with ⟨rfl, h2⟩ | ⟨g', cap, cur, rfl, h1, h2, h3⟩
  · cases hg
  · have : g' = g := by simpa [Value.ownBlock] using hg
    subst this
    exact ⟨h1, (Array.getElem?_eq_some_iff.1 h2).1⟩
theorem ty_ne {w : World} {g h : Nat} {c1 c2 : Array Value} {t1 t2 : TypeId} (h1 : w.heap[g]? = some (.cells c1 t1 (0, 0))) (h2 : w.heap[h]? = some (.cells c2 t2 (0, 0))) (hn : t1 ≠ t2) : g ≠ h := fun e => by
  subst e; rw [h1] at h2; injection h2 with h2; injection h2 with _ h2; exact hn h2
theorem blk_own (ao : Option Addr) (n c : Nat) (g : Nat) : (Value.slice ao n c).ownBlock = some g ↔ g ∈ blk ao := by
  cases ao <;> simp [Value.ownBlock, blk, eq_comm]
theorem info3 : (Tryz.prog.info? 3).map (fun i => (i.zero, i.size, i.bytes)) = some (some (.int .i64 0), 1, 8) := by kernel_rfl
theorem own_get {w : World} {b g n c : Nat} {t : TypeId} {ls : List Int} (h : w.ownsRow b t 1 (.slice (some ⟨g, 0, none⟩) n c) n (ls.map (Value.int .i64))) (k : Nat) (hk : k < ls.length) : w.cell? ⟨g, k, none⟩ = some (.int .i64 (ls.getD k 0)) := by
  rw [h.cellAt k (by have := h.1; simp at this; omega), List.getElem?_map, List.getD_eq_getElem?_getD, List.getElem?_eq_getElem hk]
  rfl
/-- one more behind a row: in its own block, or in a new one and the old one stays -/
theorem push2 {t e : TypeId} {i : TypeInfo} {z : Value} {bytes : Nat} (ht : Tryz.prog.underlying t = some (.slice e)) (hi : Tryz.prog.info? e = some i) (hz : i.zero = some z) (hsize : i.size = 1) (hby : i.bytes = bytes) (hzs : z.cells.size = 1)
    (w : World) (base : Nat) (p : Option Addr) (c : Nat) (xs : List Value) (x : Value) (h : w.ownsRow base e 1 (.slice p xs.length c) xs.length xs) (hx : x.oneCell' = true) (h63 : xs.length + 1 ≤ maxLen) (hb : ((xs.length + 1) + (xs.length + 1) / 4 + 192) * bytes ≤ 281474976710656) (hB : base ≤ w.heap.size) :
    ∃ p' c' w', (Builtin.append_ #[t, t] t #[.slice p xs.length c, .slice (some ⟨w.heap.size, 0, none⟩) 1 1]).run Tryz.prog (w.alloc (.cells #[x] e)) = .ok (.slice p' (xs.length + 1) c') w' ∧
      w'.ownsRow base e 1 (.slice p' (xs.length + 1) c') (xs.length + 1) (xs ++ [x]) ∧ ((p' = p ∧ c' = c ∧ Fr (blk p) w w') ∨ (Fr [] w w' ∧ ∀ g ∈ blk p', w.heap.size ≤ g)) := by
  have hA : (w.alloc (.cells #[x] e)).heap.size = w.heap.size + 1 := by simp
  have hown : (w.alloc (.cells #[x] e)).ownsRow base e 1 (.slice p xs.length c) xs.length xs := own_congr h (fun g hg => Below.heap_alloc _ _ _ (h.lt g hg).2)
  have hnews := cell_one_new w x e
  have h1 : ∀ u ∈ [x], u.oneCell' = true := fun u hu => by simp at hu; subst hu; exact hx
  obtain ⟨v', w', hr, h2, h3, _⟩ := run_append_own_wide (P := Tryz.prog) (w.alloc (.cells #[x] e)) base t t e i z 1 bytes ht hi hz hsize hby hzs (by decide) _ _ _ hown ⟨w.heap.size, 0, none⟩ 1 1 [x] rfl hnews h1 h63 hb (by omega)
  rcases h.2 with ⟨e1, e2⟩ | ⟨g, c0, cur, e1, q1, q2, q3, q4, q5, q6⟩
  · injection e1 with e1 e3 e4
    subst e1
    subst e4
    have hnil : xs = [] := List.length_eq_zero_iff.1 e2
    subst hnil
    have hr2 := run_append_nil (P := Tryz.prog) (w.alloc (.cells #[x] e)) t t e i z ht hi hz ⟨w.heap.size, 0, none⟩ 1 1 [x] (by rw [hsize]; rfl) hnews (by decide) (by decide) (by rw [hby]; simp at hb; omega)
    have hr3 := hr
    rw [show (Value.slice none ([] : List Value).length 0) = .slice none 0 0 from rfl, hr2] at hr3
    injection hr3 with hv hw
    subst hv
    subst hw
    exact ⟨_, _, _, hr, h2, Or.inr ⟨(Fr.alloc [] w _).trans ((Fr.drew [] _).trans (Fr.alloc [] _ _) (by simp)) (by simp), fun g hg => by simp [blk] at hg; omega⟩⟩
  · injection e1 with e1 _ e4
    subst e1
    subst e4
    by_cases hroom : xs.length + 1 ≤ c
    · have hg : (w.alloc (.cells #[x] e)).heap[g]? = some (.cells cur e (0, 0)) := (Below.heap_alloc _ _ _ (lt_of_heap q2)).trans q2
      have hr2 := run_append_room (P := Tryz.prog) (w.alloc (.cells #[x] e)) t t e i ht hi g xs.length c cur hg ⟨w.heap.size, 0, none⟩ 1 1 [x] (by rw [hsize]; rfl) hnews h1 hroom (by rw [hsize, q5]; simp; omega)
      have hr3 := hr
      rw [hr2] at hr3
      injection hr3 with hv hw
      subst hv
      refine ⟨_, _, w', hr, h2, Or.inl ⟨rfl, rfl, (Fr.alloc (blk (some ⟨g, 0, none⟩)) w _).trans (Fr.grown (S := [g]) h3 (fun k hk => ?_)) (by simp [blk])⟩⟩
      simp [Value.ownBlock] at hk
      simp [hk]
    · have holds : ∀ j u, xs[j]? = some u → (w.alloc (.cells #[x] e)).cell? ((⟨g, 0, none⟩ : Addr).add j) = some u := hown.cells (g := g) rfl
      have hr2 := run_append_grow (P := Tryz.prog) (w.alloc (.cells #[x] e)) t t e i z ht hi hz ⟨g, 0, none⟩ xs.length c xs (by rw [hsize]; simp) holds ⟨w.heap.size, 0, none⟩ 1 1 [x] (by rw [hsize]; rfl) hnews (by omega) (by unfold maxLen at h63; omega) (by rw [hby]; exact growslice_fits_wide (by omega) hb)
      have hr3 := hr
      rw [hr2] at hr3
      injection hr3 with hv hw
      subst hv
      subst hw
      exact ⟨_, _, _, hr, h2, Or.inr ⟨(Fr.alloc [] w _).trans ((Fr.drew [] _).trans (Fr.alloc [] _ _) (by simp)) (by simp), fun g hg => by simp [blk] at hg; omega⟩⟩


/-- a number more behind a row of numbers -/
theorem push_int (w : World) (base : Nat) (p : Option Addr) (c : Nat) (ts : List Int) (s : Int) (h : w.ownsRow base 3 1 (.slice p ts.length c) ts.length (ts.map (Value.int .i64))) (hb : ts.length + 1 ≤ 17592186044000) (hB : base ≤ w.heap.size) :
    ∃ p' c' w', (Builtin.append_ #[23, 23] 23 #[.slice p ts.length c, .slice (some ⟨w.heap.size, 0, none⟩) 1 1]).run Tryz.prog (w.alloc (.cells #[.int .i64 s] 3)) = .ok (.slice p' (ts.length + 1) c') w' ∧
      w'.ownsRow base 3 1 (.slice p' (ts ++ [s]).length c') (ts ++ [s]).length ((ts ++ [s]).map (Value.int .i64)) ∧ ((p' = p ∧ c' = c ∧ Fr (blk p) w w') ∨ (Fr [] w w' ∧ ∀ g ∈ blk p', w.heap.size ≤ g)) := by
  obtain ⟨i3, ii, iz, is, ib⟩ := info_parts info3
  have := push2 Tryz.underlying23 ii iz is ib rfl w base p c (ts.map (Value.int .i64)) (.int .i64 s) (by rw [List.length_map]; exact h) rfl (by rw [List.length_map]; unfold maxLen; omega) (by rw [List.length_map]; omega) hB
  rw [List.length_map] at this
  obtain ⟨p', c', w', r1, r2, r3⟩ := this
  exact ⟨p', c', w', r1, by rw [List.length_append, List.map_append]; exact r2, r3⟩
/-- a list of numbers that can be read, wherever it lies -/
structure Rd (w : World) (v : Value) (ss : List Int) : Prop where
  at_ : ∃ p c, v = .slice p ss.length c ∧ (0 < ss.length → ∃ g off, p = some ⟨g, off, none⟩ ∧ g < w.heap.size ∧ ∀ i, i < ss.length → w.cell? ⟨g, off + i, none⟩ = some (.int .i64 (ss.getD i 0)))
  nil : ∀ c, v = .slice none ss.length c → c = 0
  short : ss.length ≤ 17592186043904
theorem Fr.al {w V : World} (h : Fr [] w V) (o : Obj) : Fr [] w (V.alloc o) := h.trans (Fr.alloc [] V o) (by simp)
theorem Fr.st {w V : World} (h : Fr [] w V) {g : Nat} (hg : w.heap.size ≤ g) (i : Nat) (v : Value) : Fr [] w (V.setCell ⟨g, i, none⟩ v) := h.trans (Fr.setCell (S := [g]) V ⟨g, i, none⟩ v (by simp)) (fun b hb => .inr (by simp at hb; omega))
theorem Fr.sr {w V : World} (h : Fr [] w V) {g : Nat} (hg : w.heap.size ≤ g) (cs : Array Value) : Fr [] w (V.setRow g cs) := h.trans (Fr.setRow (S := [g]) V g cs (by simp)) (fun b hb => .inr (by simp at hb; omega))
theorem Fr.dn {w V : World} (h : Fr [] w V) (n : Nat) : Fr [] w (V.drewN n) := h.trans (Fr.drewN [] V n) (by simp)
theorem Fr.tr0 {w V U : World} (h : Fr [] w V) (k : Fr [] V U) : Fr [] w U := h.trans k (by simp)
theorem Fr.hb {w V : World} (h : Fr [] w V) {g : Nat} {o : Obj} (hg : w.heap[g]? = some o) : V.heap[g]? = some o := (h.block g (lt_of_heap hg) (by simp)).trans hg
theorem Fr.cl {w V : World} (h : Fr [] w V) {p : Addr} {v : Value} (hg : w.cell? p = some v) : V.cell? p = some v := (h.cell (World.block_lt_of_cell? w p hg) (by simp)).trans hg
theorem al_old {w : World} {k : Nat} {o : Obj} (h : w.heap[k]? = some o) (o2 : Obj) : (w.alloc o2).heap[k]? = some o := (Below.heap_alloc _ _ _ (lt_of_heap h)).trans h
theorem iwrap_id {n : Int} (h1 : -9223372036854775808 ≤ n) (h2 : n ≤ 9223372036854775807) : IntKind.i64.wrap n = n := by
  simp [IntKind.wrap, IntKind.signed, IntKind.bits]
  split <;> omega
theorem qT {α : Type _} {xs : List α} {i : Nat} (h : i < xs.toArray.size) : xs.toArray[i] = xs[i]'(by simpa using h) := rfl
theorem qZ {α : Type _} (a : α) (l : List α) (h : 0 < (a :: l).length) : (a :: l)[0] = a := rfl
theorem qS {α : Type _} (a : α) (l : List α) (i : Nat) (h : i + 1 < (a :: l).length) : (a :: l)[i + 1] = l[i]'(Nat.lt_of_succ_lt_succ h) := rfl
theorem qB {α : Type _} (l : List α) (i : Nat) (a : α) : l.toArray.setIfInBounds i a = (l.set i a).toArray := List.setIfInBounds_toArray l i a
theorem qY {α : Type _} {a x : α} {l : List α} : (a :: l).set 0 x = x :: l := rfl
theorem qX {α : Type _} {a x : α} {l : List α} {n : Nat} : (a :: l).set (n + 1) x = a :: l.set n x := rfl
end Go.Proofs.YtclkoffnjiiioaaGreatDoor


namespace Go.Proofs.YtclkoffnjiiioaaGreatDoor
open Go.RowKit
set_option linter.unusedVariables false
set_option linter.unusedSimpArgs false
/-- all blocks below B are as they were -/
structure Kw (B : Nat) (w w' : World) : Prop where
  os : w'.os = w.os
  tape : w'.tape = w.tape
  output : w'.output = w.output
  size : w.heap.size ≤ w'.heap.size
  block : ∀ k, k < B → w'.heap[k]? = w.heap[k]?
theorem step_append_run {P : Program} {ops : Array Oper} {o : Oper} {a : Act} {w : World} {K : Act → World → Prop} {Q : Exit → Act → World → Prop} {E : Prop}
    (hg : o.guard = none) (s x : Operand) (t tn : TypeId) (ho : o.op = .call { callee := .builtin .append, args := #[s, x], argTypes := #[t, tn] }) (vs vx : Value) (hs : a.eval s = vs) (hx : a.eval x = vx)
    (v' : Value) (w' : World) (hr : (Builtin.append_ #[t, tn] o.type #[vs, vx]).run P w = .ok v' w') (h : K (a.put o.dst v') w') : if Region.wanted o (yielded ops a.tmps) = true then Oper.wp P o a w K Q else E := by
  have hw : Region.wanted o (yielded ops a.tmps) = true := by simp [Region.wanted, hg]
  rw [if_pos hw]
  exact Lib.wp_append_run w s x t tn ho vs vx hs hx v' w' hr h
end Go.Proofs.YtclkoffnjiiioaaGreatDoor



namespace Go.Proofs.YtclkoffnjiiioaaGreatDoor
open Go.RowKit
set_option linter.unusedVariables false
set_option linter.unusedSimpArgs false
attribute [local go_sem ↓] Go.wp_at_zero Go.wp_at_succ
/-- a literal as it lies in memory -/
inductive LitT where
  | mk (kind : Int) (text : ByteArray) (num : Int) (p : Option Addr) (c : Nat) (kids : List LitT)
def LitT.kind : LitT → Int | .mk k _ _ _ _ _ => k
def LitT.text : LitT → ByteArray | .mk _ t _ _ _ _ => t
def LitT.num : LitT → Int | .mk _ _ n _ _ _ => n
def LitT.p : LitT → Option Addr | .mk _ _ _ p _ _ => p
def LitT.c : LitT → Nat | .mk _ _ _ _ c _ => c
def LitT.kids : LitT → List LitT | .mk _ _ _ _ _ l => l
def LitT.items (t : LitT) : Value := .slice t.p t.kids.length t.c
def litc (t : LitT) : List Value := [.int .i64 t.kind, .string t.text, .int .i64 t.num, t.items]
structure LitAt (w : World) (g off : Nat) (t : LitT) : Prop where
  c0 : w.cell? ⟨g, off, none⟩ = some (.int .i64 t.kind)
  c1 : w.cell? ⟨g, off + 1, none⟩ = some (.string t.text)
  c2 : w.cell? ⟨g, off + 2, none⟩ = some (.int .i64 t.num)
  c3 : w.cell? ⟨g, off + 3, none⟩ = some t.items
theorem LitAt.idle {w w' : World} {g off : Nat} {t : LitT} (h : LitAt w g off t) (hf : Fr [] w w') : LitAt w' g off t := ⟨hf.cl h.c0, hf.cl h.c1, hf.cl h.c2, hf.cl h.c3⟩
/-- literals that can be read, with all that is in them -/
inductive LitsR (w : World) : Option Addr → Nat → List LitT → Prop
  | mk (p : Option Addr) (c : Nat) (ts : List LitT) (nil : p = none → c = 0) (at_ : 0 < ts.length → ∃ g off, p = some ⟨g, off, none⟩ ∧ g < w.heap.size ∧ ∀ i t, ts[i]? = some t → LitAt w g (off + i * 4) t) (short : ts.length ≤ 2513169434916) (txt : ∀ t ∈ ts, t.text.size ≤ 140737488355328)
      (kids : ∀ t ∈ ts, LitsR w t.p t.c t.kids) : LitsR w p c ts
theorem LitsR.idle {w w' : World} {p : Option Addr} {c : Nat} {ts : List LitT} (h : LitsR w p c ts) (hf : Fr [] w w') : LitsR w' p c ts := by
  induction h with
  | mk p c ts nil at_ short txt kids ih =>
    refine .mk p c ts nil (fun hp => ?_) short txt ih
    obtain ⟨g, off, e, hg, hc⟩ := at_ hp
    exact ⟨g, off, e, Nat.lt_of_lt_of_le hg hf.size, fun i t ht => (hc i t ht).idle hf⟩
theorem drop_at {α : Type} {l : List α} {i : Nat} {t : α} (h : l[i]? = some t) : l.drop i = t :: l.drop (i + 1) := by
  obtain ⟨hlt, e⟩ := List.getElem?_eq_some_iff.1 h
  rw [List.drop_eq_getElem_cons hlt, e]
end Go.Proofs.YtclkoffnjiiioaaGreatDoor



namespace Go.Proofs.YtclkoffnjiiioaaGreatDoor
open Go.RowKit
set_option linter.unusedVariables false
set_option linter.unusedSimpArgs false
/-- one more struct behind a row: in its own block, or in a new one and the old one stays -/
theorem pushS {t e : TypeId} {sz by_ : Nat} {z0 : Value} (hu : Tryz.prog.underlying t = some (.slice e)) (hinf : (Tryz.prog.info? e).map (fun i => (i.zero, i.size, i.bytes)) = some (some z0, sz, by_)) (hzc : z0.cells.size = sz) (hsz0 : 0 < sz) (w : World) (base : Nat) (p : Option Addr) (c n : Nat) (xs x : List Value) (h4 : x.length = sz) (h : w.ownsRow base e sz (.slice p n c) n xs) (hx : ∀ u ∈ x, u.oneCell' = true) (hn : n + 1 ≤ maxLen) (hb : ((n + 1) + (n + 1) / 4 + 192) * by_ ≤ 281474976710656) (hB : base ≤ w.heap.size) :
    ∃ p' c' w', (Builtin.append_ #[t, t] t #[.slice p n c, .slice (some ⟨w.heap.size, 0, none⟩) 1 1]).run Tryz.prog (w.alloc (.cells x.toArray e)) = .ok (.slice p' (n + 1) c') w' ∧
      w'.ownsRow base e sz (.slice p' (n + 1) c') (n + 1) (xs ++ x) ∧ ((p' = p ∧ c' = c ∧ Fr (blk p) w w') ∨ (Fr [] w w' ∧ ∀ g ∈ blk p', w.heap.size ≤ g)) := by
  obtain ⟨i, hi, hz, hsize, hby⟩ := info_parts hinf
  have hA : (w.alloc (.cells x.toArray e)).heap.size = w.heap.size + 1 := by simp
  have hown : (w.alloc (.cells x.toArray e)).ownsRow base e sz (.slice p n c) n xs := own_congr h (fun g hg => Below.heap_alloc _ _ _ (own_lt h g hg).2)
  have hnews : ∀ j u, x[j]? = some u → (w.alloc (.cells x.toArray e)).cell? ((⟨w.heap.size, 0, none⟩ : Addr).add j) = some u := by
    have := World.news_of_block (heap_alloc_new w (.cells x.toArray e))
    simpa using this
  have h63 := hn
  obtain ⟨v', w', hr, h2, h3, _⟩ := run_append_own_wide (P := Tryz.prog) (w.alloc (.cells x.toArray e)) base t t e i _ sz by_ hu hi hz hsize hby hzc hsz0 _ _ _ hown ⟨w.heap.size, 0, none⟩ 1 1 x (by rw [h4, Nat.one_mul]) hnews hx h63 hb (by omega)
  rcases h.2 with ⟨e1, e2⟩ | ⟨g, c0, cur, e1, q1, q2, q3, q4, q5, q6⟩
  · injection e1 with e1 e3 e4
    subst e1
    subst e4
    subst e2
    have hnil : xs = [] := List.length_eq_zero_iff.1 (by rw [h.1, Nat.zero_mul])
    subst hnil
    have hr2 := run_append_nil (P := Tryz.prog) (w.alloc (.cells x.toArray e)) t t e i _ hu hi hz ⟨w.heap.size, 0, none⟩ 1 1 x (by rw [hsize, h4, Nat.one_mul]) hnews (by decide) (by decide) (by rw [hby]; simp at hb; omega)
    have hr3 := hr
    rw [hr2] at hr3
    injection hr3 with hv hw
    subst hv
    subst hw
    exact ⟨_, _, _, hr, h2, Or.inr ⟨(Fr.alloc [] w _).trans ((Fr.drew [] _).trans (Fr.alloc [] _ _) (by simp)) (by simp), fun g hg => by simp [blk] at hg; omega⟩⟩
  · injection e1 with e1 _ e4
    subst e1
    subst e4
    by_cases hroom : n + 1 ≤ c
    · have hg : (w.alloc (.cells x.toArray e)).heap[g]? = some (.cells cur e (0, 0)) := (Below.heap_alloc _ _ _ (lt_of_heap q2)).trans q2
      have hr2 := run_append_room (P := Tryz.prog) (w.alloc (.cells x.toArray e)) t t e i hu hi g n c cur hg ⟨w.heap.size, 0, none⟩ 1 1 x (by rw [hsize, h4, Nat.one_mul]) hnews hx hroom (by rw [hsize, q5, h4, ← Nat.add_one_mul]; exact Nat.mul_le_mul_right _ hroom)
      have hr3 := hr
      rw [hr2] at hr3
      injection hr3 with hv hw
      subst hv
      refine ⟨_, _, w', hr, h2, Or.inl ⟨rfl, rfl, (Fr.alloc (blk (some ⟨g, 0, none⟩)) w _).trans (Fr.grown (S := [g]) h3 (fun k hk => ?_)) (by simp [blk])⟩⟩
      simp [Value.ownBlock] at hk
      simp [hk]
    · have holds : ∀ j u, xs[j]? = some u → (w.alloc (.cells x.toArray e)).cell? ((⟨g, 0, none⟩ : Addr).add j) = some u := hown.cells (g := g) rfl
      have hr2 := run_append_grow (P := Tryz.prog) (w.alloc (.cells x.toArray e)) t t e i _ hu hi hz ⟨g, 0, none⟩ n c xs (by rw [hsize]; exact h.1) holds ⟨w.heap.size, 0, none⟩ 1 1 x (by rw [hsize, h4, Nat.one_mul]) hnews (by omega) (by unfold maxLen at h63; omega) (by rw [hby]; exact growslice_fits_wide (by omega) hb)
      have hr3 := hr
      rw [hr2] at hr3
      injection hr3 with hv hw
      subst hv
      subst hw
      exact ⟨_, _, _, hr, h2, Or.inr ⟨(Fr.alloc [] w _).trans ((Fr.drew [] _).trans (Fr.alloc [] _ _) (by simp)) (by simp), fun g hg => by simp [blk] at hg; omega⟩⟩
end Go.Proofs.YtclkoffnjiiioaaGreatDoor


namespace Go.Proofs.YtclkoffnjiiioaaGreatDoor
open Go.RowKit
set_option linter.unusedVariables false
set_option linter.unusedSimpArgs false
attribute [local go_sem ↓] Go.wp_at_zero Go.wp_at_succ
theorem info54 : (Tryz.prog.info? 49).map (fun i => (i.zero, i.size, i.bytes)) = some (some (.agg #[.int .i64 0, .string ⟨#[]⟩, .int .i64 0, .slice none 0 0]), 4, 56) := by kernel_rfl
/-- literals whose blocks are all of a kind -/
inductive LitsO (w : World) (Ok : Nat → Prop) : Option Addr → Nat → List LitT → Prop
  | mk (p : Option Addr) (c : Nat) (ts : List LitT) (nil : p = none → c = 0) (at_ : 0 < ts.length → ∃ g off, p = some ⟨g, off, none⟩ ∧ g < w.heap.size ∧ Ok g ∧ ∀ i t, ts[i]? = some t → LitAt w g (off + i * 4) t) (short : ts.length ≤ 2513169434916) (txt : ∀ t ∈ ts, t.text.size ≤ 140737488355328)
      (kids : ∀ t ∈ ts, LitsO w Ok t.p t.c t.kids) : LitsO w Ok p c ts
theorem LitsO.keep {w w' : World} {Ok Ok' : Nat → Prop} {S : List Nat} {p : Option Addr} {c : Nat} {ts : List LitT} (h : LitsO w Ok p c ts) (hf : Fr S w w') (hS : ∀ g, Ok g → g < w.heap.size → g ∉ S) (hO : ∀ g, Ok g → g < w.heap.size → Ok' g) : LitsO w' Ok' p c ts := by
  induction h with
  | mk p c ts nil at_ short txt kids ih =>
    refine .mk p c ts nil (fun hp => ?_) short txt ih
    obtain ⟨g, off, e, hg, ho, hc⟩ := at_ hp
    have hn := hS g ho hg
    exact ⟨g, off, e, Nat.lt_of_lt_of_le hg hf.size, hO g ho hg, fun i t ht => by
      have hl := hc i t ht
      exact ⟨(hf.cell (p := ⟨g, off + i * 4, none⟩) hg hn).trans hl.c0, (hf.cell (p := ⟨g, off + i * 4 + 1, none⟩) hg hn).trans hl.c1, (hf.cell (p := ⟨g, off + i * 4 + 2, none⟩) hg hn).trans hl.c2, (hf.cell (p := ⟨g, off + i * 4 + 3, none⟩) hg hn).trans hl.c3⟩⟩
theorem LitsO.plain {w : World} {Ok : Nat → Prop} {p : Option Addr} {c : Nat} {ts : List LitT} (h : LitsO w Ok p c ts) : LitsR w p c ts := by
  induction h with
  | mk p c ts nil at_ short txt kids ih =>
    refine .mk p c ts nil (fun hp => ?_) short txt ih
    obtain ⟨g, off, e, hg, ho, hc⟩ := at_ hp
    exact ⟨g, off, e, hg, hc⟩
def litCells (l : List LitT) : List Value := l.flatMap litc
theorem litCells_at (l : List LitT) : ∀ i t j, l[i]? = some t → j < 4 → (litCells l)[i * 4 + j]? = (litc t)[j]? := by
  induction l with
  | nil => intro i t j h; simp at h
  | cons q l ih =>
    intro i t j hi hj
    have e : litCells (q :: l) = litc q ++ litCells l := by simp [litCells]
    rw [e]
    cases i with
    | zero =>
      have : q = t := by simpa using hi
      subst this
      rw [List.getElem?_append_left (by simp [litc]; omega)]; simp
    | succ i =>
      rw [List.getElem?_append_right (by simp [litc]; omega), show (i + 1) * 4 + j - (litc q).length = i * 4 + j from by simp [litc]; omega]
      exact ih i t j (by simpa using hi) hj
/-- a row of literals of one's own can be read -/
theorem row_lits {w : World} {B : Nat} {Ok : Nat → Prop} {p : Option Addr} {n c : Nat} {us rest : List LitT} (h : w.ownsRow B 49 4 (.slice p n c) n (litCells (us ++ rest))) (hn : (us ++ rest).length = n) (hp : 0 < n) (hOk : ∀ g, g ∈ blk p → Ok g) (hs : us.length ≤ 2513169434916) (ht : ∀ t ∈ us, t.text.size ≤ 140737488355328) (hk : ∀ t ∈ us, LitsO w Ok t.p t.c t.kids) : LitsO w Ok p c us := by
  rcases h.2 with ⟨e, e0⟩ | ⟨g, cap, cur, e, q1, q2, q3, q4⟩
  · omega
  · injection e with e1 _ e3
    subst e1 e3
    refine .mk _ _ us (fun h0 => by cases h0) (fun _ => ⟨g, 0, rfl, lt_of_heap q2, hOk g (by simp [blk]), fun i t hit => ?_⟩) hs ht hk
    have hlt : i < us.length := (List.getElem?_eq_some_iff.1 hit).1
    have hit2 : (us ++ rest)[i]? = some t := by rw [List.getElem?_append_left hlt]; exact hit
    have hc : ∀ j, j < 4 → w.cell? ⟨g, i * 4 + j, none⟩ = (litc t)[j]? := fun j hj => by
      rw [h.cellAt (i * 4 + j) (by simp at hn; omega)]
      exact litCells_at _ i t j hit2 hj
    rw [Nat.zero_add]
    exact ⟨hc 0 (by omega), hc 1 (by omega), hc 2 (by omega), hc 3 (by omega)⟩
end Go.Proofs.YtclkoffnjiiioaaGreatDoor


namespace Go.Proofs.YtclkoffnjiiioaaGreatDoor
open Go.RowKit
set_option linter.unusedVariables false
set_option linter.unusedSimpArgs false
attribute [local go_sem ↓] Go.wp_at_zero Go.wp_at_succ
/-- a level of literals: its cells can be read, and what is in them was there at first -/
structure LvR (w0 w : World) (p : Option Addr) (c : Nat) (ts : List LitT) : Prop where
  at_ : 0 < ts.length → ∃ g off, p = some ⟨g, off, none⟩ ∧ g < w.heap.size ∧ ∀ i t, ts[i]? = some t → LitAt w g (off + i * 4) t
  short : ts.length ≤ 2513169434916
  txt : ∀ t ∈ ts, t.text.size ≤ 140737488355328
  kids : ∀ t ∈ ts, LitsR w0 t.p t.c t.kids
end Go.Proofs.YtclkoffnjiiioaaGreatDoor


namespace Go.Proofs.YtclkoffnjiiioaaGreatDoor
open Go.RowKit
set_option linter.unusedVariables false
set_option linter.unusedSimpArgs false
attribute [local go_sem ↓] Go.wp_at_zero Go.wp_at_succ
def AnyB (w : World) (e : Ending) (w' : World) : Prop := ∃ b, e = .returned (.bool b) ∧ Fr [] w w'
/-- the next level under way -/
def Nxt (w0 w wr : World) (k : Nat) (p : Option Addr) (c : Nat) (us : List LitT) : Prop := us.length = k ∧ wr.ownsRow w.heap.size 49 4 (.slice p k c) k (litCells us) ∧ (∀ u ∈ us, u.text.size ≤ 140737488355328 ∧ LitsR w0 u.p u.c u.kids) ∧ Fr [] w wr
end Go.Proofs.YtclkoffnjiiioaaGreatDoor


namespace Go.Proofs.YtclkoffnjiiioaaGreatDoor
open Go.RowKit
set_option linter.unusedVariables false
set_option linter.unusedSimpArgs false
attribute [local go_sem ↓] Go.wp_at_zero Go.wp_at_succ
def TwP (w : World) (n : Nat) (e : Ending) (w' : World) : Prop := ∃ p' c' us, e = .returned (.slice p' n c') ∧ us.length = n ∧ Fr [] w w' ∧ LitsO w' (fun g => w.heap.size ≤ g) p' c' us
/-- a row of copies under way -/
def Tw (w wr : World) (i : Nat) (p' : Option Addr) (c' : Nat) (us : List LitT) : Prop := us.length = i ∧ wr.ownsRow w.heap.size 49 4 (.slice p' i c') i (litCells us) ∧ (∀ u ∈ us, u.text.size ≤ 140737488355328 ∧ LitsO wr (fun g => w.heap.size ≤ g ∧ g ∉ blk p') u.p u.c u.kids) ∧ Fr [] w wr
def markL : LitT := .mk (-7) ⟨#[]⟩ 0 none 0 []
end Go.Proofs.YtclkoffnjiiioaaGreatDoor


namespace Go.Proofs.YtclkoffnjiiioaaGreatDoor
open Go.RowKit
set_option linter.unusedVariables false
set_option linter.unusedSimpArgs false
/-- a literal, wherever it lies -/
inductive LitS where
  | mk (kind : Int) (text : ByteArray) (num : Int) (kids : List LitS)
mutual
def stT : LitT → LitS
  | .mk k a n _ _ kids => .mk k a n (stL kids)
def stL : List LitT → List LitS
  | [] => []
  | t :: ts => stT t :: stL ts
end
theorem stL_nil : stL [] = [] := by rw [stL]
theorem stL_cons (t : LitT) (ts : List LitT) : stL (t :: ts) = stT t :: stL ts := by rw [stL]
theorem stT_mk (t : LitT) : stT t = .mk t.kind t.text t.num (stL t.kids) := by
  cases t with
  | mk k a n p c kids => rw [stT]; rfl
theorem stL_len : ∀ ts : List LitT, (stL ts).length = ts.length
  | [] => by rw [stL_nil]; rfl
  | t :: ts => by rw [stL_cons, List.length_cons, List.length_cons, stL_len ts]
theorem stL_map : ∀ ts : List LitT, stL ts = ts.map stT
  | [] => by rw [stL_nil]; rfl
  | t :: ts => by rw [stL_cons, List.map_cons, stL_map ts]
theorem stT_inj {a b : LitT} (h : stT a = stT b) : a.kind = b.kind ∧ a.text = b.text ∧ a.num = b.num ∧ stL a.kids = stL b.kids := by
  rw [stT_mk, stT_mk] at h
  injection h with h1 h2 h3 h4
  exact ⟨h1, h2, h3, h4⟩
/-- a tree of literals in blocks of its own, no block twice, a mark behind each list -/
inductive LitsM (w : World) : (Nat → Prop) → Option Addr → Nat → List LitT → Prop
  | mk (Ok : Nat → Prop) (g c : Nat) (ts : List LitT) (K : Nat → Nat → Prop) (row : w.ownsRow 0 49 4 (.slice (some ⟨g, 0, none⟩) (ts.length + 1) c) (ts.length + 1) (litCells (ts ++ [markL]))) (ok : Ok g) (short : ts.length ≤ 2513169434916) (txt : ∀ t ∈ ts, t.text.size ≤ 140737488355328)
      (sub : ∀ i b, K i b → Ok b ∧ b ≠ g) (dis : ∀ i j b, K i b → K j b → i = j) (kids : ∀ (i : Nat) (t : LitT), ts[i]? = some t → LitsM w (K i) t.p t.c t.kids) : LitsM w Ok (some ⟨g, 0, none⟩) c ts
/-- only blocks of a kind are written -/
structure FrP (Ok : Nat → Prop) (w w' : World) : Prop where
  os : w'.os = w.os
  tape : w'.tape = w.tape
  output : w'.output = w.output
  size : w.heap.size ≤ w'.heap.size
  block : ∀ k, k < w.heap.size → ¬ Ok k → w'.heap[k]? = w.heap[k]?
end Go.Proofs.YtclkoffnjiiioaaGreatDoor



namespace Go.Proofs.YtclkoffnjiiioaaGreatDoor
open Go.RowKit
set_option linter.unusedVariables false
set_option linter.unusedSimpArgs false
attribute [local go_sem ↓] Go.wp_at_zero Go.wp_at_succ
/-- a list of copies under way -/
structure Te (w wr : World) (ts : List LitT) (i : Nat) (p' : Option Addr) (c' : Nat) (us : List LitT) (K : Nat → Nat → Prop) : Prop where
  st : stL us = stL (ts.take i)
  len : us.length = i
  row : wr.ownsRow w.heap.size 49 4 (.slice p' i c') i (litCells us)
  txt : ∀ t ∈ us, t.text.size ≤ 140737488355328
  sub : ∀ j b, K j b → w.heap.size ≤ b ∧ b < wr.heap.size ∧ b ∉ blk p'
  dis : ∀ a b x, K a x → K b x → a = b
  kids : ∀ (j : Nat) (t : LitT), us[j]? = some t → LitsM wr (K j) t.p t.c t.kids
  idx : ∀ j b, K j b → j < i
  fr : Fr [] w wr
def TeP (w : World) (ts : List LitT) (e : Ending) (w' : World) : Prop := ∃ g c us, e = .returned (.slice (some ⟨g, 0, none⟩) ts.length c) ∧ us.length = ts.length ∧ stL us = stL ts ∧ Fr [] w w' ∧ LitsM w' (fun b => w.heap.size ≤ b ∧ b < w'.heap.size) (some ⟨g, 0, none⟩) c us
end Go.Proofs.YtclkoffnjiiioaaGreatDoor


namespace Go.Proofs.YtclkoffnjiiioaaGreatDoor
open Go.RowKit
set_option linter.unusedVariables false
set_option linter.unusedSimpArgs false
attribute [local go_sem ↓] Go.wp_at_zero Go.wp_at_succ
/-- all texts are short -/
inductive SmT : LitT → Prop
  | mk (t : LitT) (h : t.text.size < 140737488355328) (k : ∀ u ∈ t.kids, SmT u) : SmT t
end Go.Proofs.YtclkoffnjiiioaaGreatDoor


namespace Go.Proofs.YtclkoffnjiiioaaGreatDoor
open Go.RowKit
set_option linter.unusedVariables false
set_option linter.unusedSimpArgs false
attribute [local go_sem ↓] Go.wp_at_zero Go.wp_at_succ
/-- any answer; where it is no, all texts are short -/
def AnyS (w : World) (ts : List LitT) (e : Ending) (w' : World) : Prop := ∃ b, e = .returned (.bool b) ∧ Fr [] w w' ∧ (b = false → ∀ t ∈ ts, SmT t)
end Go.Proofs.YtclkoffnjiiioaaGreatDoor


