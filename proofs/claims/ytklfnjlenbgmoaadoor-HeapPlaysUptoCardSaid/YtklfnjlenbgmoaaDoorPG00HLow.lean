import Derived.Test.YtklfnjlenbgmoaaDoorChecked
import Derived.WalkKit
import Derived.Deep.AppendLies
import Derived.Deep.Draws
import Derived.WalkSpells
import Derived.WalkLawsBesides
import Derived.BigQuiet
import Derived.Deep.QuietTactic
import Derived.LaidEqlPtr
import Derived.Shelf.Spec.TrailingZeros
import Derived.Deep.LoopGhost
import Derived.Laws.BitsAllLaws
set_option linter.unusedVariables false
namespace Go.Proofs.YtklfnjlenbgmoaaDoor
open Go.RowKit
structure Fr (S : List Nat) (w w' : World) : Prop where
 os : w'.os = w.os
 tape : w'.tape = w.tape
 output : w'.output = w.output
 size : w.heap.size ≤ w'.heap.size
 block : ∀ k, k < w.heap.size → k ∉ S → w'.heap[k]? = w.heap[k]?
namespace Fr
theorem refl (S : List Nat) (w : World) : Fr S w w := ⟨rfl, rfl, rfl, Nat.le_refl _, fun _ _ _ => rfl⟩
theorem trans {S S' : List Nat} {w w' w'' : World} (h : Fr S w w') (k : Fr S' w' w'') (hs : ∀ b ∈ S', b ∈ S ∨ w.heap.size ≤ b) : Fr S w w'' :=
 ⟨k.os.trans h.os, k.tape.trans h.tape, k.output.trans h.output, Nat.le_trans h.size k.size, fun i hi hn => by
  rw [k.block i (Nat.lt_of_lt_of_le hi h.size) (fun hm => by rcases hs i hm with h1 | h1; exact hn h1; omega)]
  exact h.block i hi hn⟩
theorem mono {S S' : List Nat} {w w' : World} (h : Fr S w w') (hs : ∀ b ∈ S, b ∈ S' ∨ w.heap.size ≤ b) : Fr S' w w' :=
 ⟨h.os, h.tape, h.output, h.size, fun k hk hn => h.block k hk (fun hm => by rcases hs k hm with h1 | h1; exact hn h1; omega)⟩
theorem drew (S : List Nat) (w : World) : Fr S w w.drew := ⟨rfl, rfl, rfl, Nat.le_refl _, fun _ _ _ => rfl⟩
theorem alloc (S : List Nat) (w : World) (o : Obj) : Fr S w (w.alloc o) := ⟨rfl, rfl, rfl, by simp, fun k hk _ => Below.heap_alloc _ _ _ hk⟩
theorem setCell {S : List Nat} (w : World) (a : Addr) (v : Value) (h : a.block ∈ S) : Fr S w (w.setCell a v) :=
 ⟨rfl, rfl, rfl, by simp, fun k hk hn => Below.heap_setCell _ _ _ _ (fun e => hn (by rw [e]; exact h))⟩
theorem setRow {S : List Nat} (w : World) (g : Nat) (cs : Array Value) (h : g ∈ S) : Fr S w (w.setRow g cs) :=
 ⟨rfl, rfl, rfl, by simp, fun k hk hn => setRow_other w g k _ (fun e => hn (by rw [e]; exact h))⟩
theorem grown {S : List Nat} {w w' : World} {row : Option Nat} (h : w.grownBy w' row) (hr : ∀ k, row = some k → k ∈ S) : Fr S w w' :=
 ⟨h.os, h.tape, h.output, h.size, fun k hk hn => h.block k hk (fun e => hn (hr k e.symm))⟩
theorem below {w w' : World} {S : List Nat} (h : Fr S w w') {B : Nat} (hB : B ≤ w.heap.size) (hS : ∀ b ∈ S, B ≤ b) : Below B w w' :=
 ⟨h.os, h.tape, h.output, h.size, fun k hk => h.block k (by omega) (fun hm => by have := hS k hm; omega)⟩
theorem cell {S : List Nat} {w w' : World} (h : Fr S w w') {p : Addr} (h1 : p.block < w.heap.size) (h2 : p.block ∉ S) : w'.cell? p = w.cell? p :=
 World.cell?_of_block (w := w) (h.block p.block h1 h2)
theorem frozen {S : List Nat} {w w' : World} (h : Fr S w w') {p : Addr} (h1 : p.block < w.heap.size) (h2 : p.block ∉ S) : w'.frozen? p = w.frozen? p :=
 World.frozen?_of_block (w := w) (h.block p.block h1 h2)
end Fr
theorem drewN_heap (w : World) (n : Nat) : (w.drewN n).heap = w.heap := rfl
theorem Fr.drewN (S : List Nat) (w : World) (n : Nat) : Fr S w (w.drewN n) := ⟨rfl, rfl, rfl, Nat.le_refl _, fun _ _ _ => rfl⟩
structure HS where
 words : Nat
 oops : Nat
 mark : Nat
 mem : List Int
 seats : List (Nat × Nat × Nat)
 order : List Nat
 bits : List Nat
 low : Nat
 count : Nat
 age : Nat
structure Lay where
 pm : Option Addr
 cm : Nat
 ps : Option Addr
 cs : Nat
 po : Option Addr
 co : Nat
 pb : Option Addr
 cb : Nat
def blk (o : Option Addr) : List Nat := match o with | some a => [a.block] | none => []
def Lay.blocks (l : Lay) : List Nat := blk l.pm ++ blk l.ps ++ blk l.po ++ blk l.pb
def foot (a : Nat) (l : Lay) : List Nat := a :: l.blocks
def I (n : Nat) : Value := .int .i64 (n : Int)
def U (n : Nat) : Value := .int .u64 (n : Int)
def seatCells (l : List (Nat × Nat × Nat)) : List Value := l.flatMap fun s => [I s.1, I s.2.1, I s.2.2]
def hcells (a : Nat) (l : Lay) (H : HS) : Array Value :=
 #[.pointer (some ⟨a, 0, none⟩), .int .i64 H.words, .int .i64 H.oops, .int .i64 H.mark, .slice l.pm H.mem.length l.cm, .slice l.ps H.seats.length l.cs,
  .slice l.po H.order.length l.co, .slice l.pb H.bits.length l.cb, .int .i64 H.low, .int .i64 H.count, .int .i64 H.age]
structure Rep (w : World) (a : Nat) (l : Lay) (H : HS) : Prop where
 top : w.heap[a]? = some (.cells (hcells a l H) 95 (0, 0))
 ml : H.mem.length ≤ l.cm
 mem : w.ownsRow 0 33 1 (.slice l.pm l.cm l.cm) l.cm ((H.mem ++ List.replicate (l.cm - H.mem.length) 0).map (Value.int .i64))
 seats : w.ownsRow 0 103 3 (.slice l.ps H.seats.length l.cs) H.seats.length (seatCells H.seats)
 order : w.ownsRow 0 3 1 (.slice l.po H.order.length l.co) H.order.length (H.order.map I)
 bits : w.ownsRow 0 152 1 (.slice l.pb H.bits.length l.cb) H.bits.length (H.bits.map U)
theorem own_congr {w w' : World} {base : Nat} {e : TypeId} {size : Nat} {v : Value} {n : Nat} {xs : List Value} (h : w.ownsRow base e size v n xs)
  (hb : ∀ g, v.ownBlock = some g → w'.heap[g]? = w.heap[g]?) : w'.ownsRow base e size v n xs := by
 refine ⟨h.1, ?_⟩
 rcases h.2 with h2 | ⟨g, cap, cur, rfl, h3, h4, h5⟩
 ·exact .inl h2
 ·exact .inr ⟨g, cap, cur, rfl, h3, (hb g rfl).trans h4, h5⟩
theorem own_blk {w : World} {base : Nat} {e : TypeId} {size : Nat} {ao : Option Addr} {k c n : Nat} {xs : List Value} (h : w.ownsRow base e size (.slice ao k c) n xs) (g : Nat) (hg : g ∈ blk ao) :
  ∃ cur, w.heap[g]? = some (.cells cur e (0, 0)) := by
 rcases h.2 with ⟨h2, _⟩ | ⟨g', cap, cur, h2, h3, h4, h5⟩
 ·injection h2 with h2; subst h2; simp [blk] at hg
 ·injection h2 with h2; subst h2; simp [blk] at hg; subst hg; exact ⟨cur, h4⟩
theorem blk_own (ao : Option Addr) (n c : Nat) (g : Nat) : (Value.slice ao n c).ownBlock = some g ↔ g ∈ blk ao := by
 cases ao <;> simp [Value.ownBlock, blk, eq_comm]
theorem Rep.congr {w w' : World} {a : Nat} {l : Lay} {H : HS} (h : Rep w a l H) (hb : ∀ g ∈ foot a l, w'.heap[g]? = w.heap[g]?) : Rep w' a l H := by
 have h4 : ∀ g, g ∈ blk l.pm ∨ g ∈ blk l.ps ∨ g ∈ blk l.po ∨ g ∈ blk l.pb → w'.heap[g]? = w.heap[g]? := fun g hg => hb g (by simp only [foot, Lay.blocks, List.mem_cons, List.mem_append]; rcases hg with h | h | h | h <;> simp [h])
 exact ⟨(hb a (by simp [foot])).trans h.top, h.ml, own_congr h.mem fun g hg => h4 g (.inl ((blk_own _ _ _ _).1 hg)), own_congr h.seats fun g hg => h4 g (.inr (.inl ((blk_own _ _ _ _).1 hg))),
  own_congr h.order fun g hg => h4 g (.inr (.inr (.inl ((blk_own _ _ _ _).1 hg)))), own_congr h.bits fun g hg => h4 g (.inr (.inr (.inr ((blk_own _ _ _ _).1 hg))))⟩
theorem lt_of_heap {w : World} {g : Nat} {o : Obj} (h : w.heap[g]? = some o) : g < w.heap.size := (Array.getElem?_eq_some_iff.1 h).1
theorem Rep.lt {w : World} {a : Nat} {l : Lay} {H : HS} (h : Rep w a l H) : ∀ g ∈ foot a l, g < w.heap.size := by
 intro g hg
 simp only [foot, Lay.blocks, List.mem_cons, List.mem_append] at hg
 rcases hg with rfl | ((hg | hg) | hg) | hg
 ·exact lt_of_heap h.top
 ·obtain ⟨c, hc⟩ := own_blk h.mem g hg; exact lt_of_heap hc
 ·obtain ⟨c, hc⟩ := own_blk h.seats g hg; exact lt_of_heap hc
 ·obtain ⟨c, hc⟩ := own_blk h.order g hg; exact lt_of_heap hc
 ·obtain ⟨c, hc⟩ := own_blk h.bits g hg; exact lt_of_heap hc
theorem Rep.keep {w w' : World} {a : Nat} {l : Lay} {H : HS} {S : List Nat} (h : Rep w a l H) (hf : Fr S w w') (hd : ∀ g ∈ foot a l, g ∉ S) : Rep w' a l H :=
 h.congr fun g hg => hf.block g (h.lt g hg) (hd g hg)
theorem Rep.drewN {w : World} {a : Nat} {l : Lay} {H : HS} (h : Rep w a l H) (n : Nat) : Rep (w.drewN n) a l H := h.congr fun g _ => by rw [drewN_heap]
theorem Rep.alloc {w : World} {a : Nat} {l : Lay} {H : HS} (h : Rep w a l H) (o : Obj) : Rep (w.alloc o) a l H := h.congr fun g hg => Below.heap_alloc _ _ _ (h.lt g hg)
theorem cell_in {w : World} {a : Nat} {C : Array Value} {t : TypeId} (h : w.heap[a]? = some (.cells C t (0, 0))) (i : Nat) : w.cell? ⟨a, i, none⟩ = C[i]? := by simp [World.cell?, h]
theorem frozen_in {w : World} {a : Nat} {C : Array Value} {t : TypeId} (h : w.heap[a]? = some (.cells C t (0, 0))) (i : Nat) : w.frozen? ⟨a, i, none⟩ = false := by simp [World.frozen?, h]
theorem set_in {w : World} {a : Nat} {C : Array Value} {t : TypeId} (h : w.heap[a]? = some (.cells C t (0, 0))) (i : Nat) (v : Value) : (w.setCell ⟨a, i, none⟩ v).heap[a]? = some (.cells (C.setIfInBounds i v) t (0, 0)) := by
 simp [World.setCell, Array.getElem?_modify, h]
theorem Rep.frozen {w : World} {a : Nat} {l : Lay} {H : HS} (h : Rep w a l H) (i : Nat) : w.frozen? ⟨a, i, none⟩ = false := frozen_in h.top i
theorem Rep.c0 {w : World} {a : Nat} {l : Lay} {H : HS} (h : Rep w a l H) : w.cell? ⟨a, 0, none⟩ = some (.pointer (some ⟨a, 0, none⟩)) := by rw [cell_in h.top]; rfl
theorem Rep.c1 {w : World} {a : Nat} {l : Lay} {H : HS} (h : Rep w a l H) : w.cell? ⟨a, 1, none⟩ = some (.int .i64 H.words) := by rw [cell_in h.top]; rfl
theorem Rep.c2 {w : World} {a : Nat} {l : Lay} {H : HS} (h : Rep w a l H) : w.cell? ⟨a, 2, none⟩ = some (.int .i64 H.oops) := by rw [cell_in h.top]; rfl
theorem Rep.c3 {w : World} {a : Nat} {l : Lay} {H : HS} (h : Rep w a l H) : w.cell? ⟨a, 3, none⟩ = some (.int .i64 H.mark) := by rw [cell_in h.top]; rfl
theorem Rep.c4 {w : World} {a : Nat} {l : Lay} {H : HS} (h : Rep w a l H) : w.cell? ⟨a, 4, none⟩ = some (.slice l.pm H.mem.length l.cm) := by rw [cell_in h.top]; rfl
theorem Rep.c5 {w : World} {a : Nat} {l : Lay} {H : HS} (h : Rep w a l H) : w.cell? ⟨a, 5, none⟩ = some (.slice l.ps H.seats.length l.cs) := by rw [cell_in h.top]; rfl
theorem Rep.c6 {w : World} {a : Nat} {l : Lay} {H : HS} (h : Rep w a l H) : w.cell? ⟨a, 6, none⟩ = some (.slice l.po H.order.length l.co) := by rw [cell_in h.top]; rfl
theorem Rep.c7 {w : World} {a : Nat} {l : Lay} {H : HS} (h : Rep w a l H) : w.cell? ⟨a, 7, none⟩ = some (.slice l.pb H.bits.length l.cb) := by rw [cell_in h.top]; rfl
theorem Rep.c8 {w : World} {a : Nat} {l : Lay} {H : HS} (h : Rep w a l H) : w.cell? ⟨a, 8, none⟩ = some (.int .i64 H.low) := by rw [cell_in h.top]; rfl
theorem Rep.c9 {w : World} {a : Nat} {l : Lay} {H : HS} (h : Rep w a l H) : w.cell? ⟨a, 9, none⟩ = some (.int .i64 H.count) := by rw [cell_in h.top]; rfl
theorem Rep.c10 {w : World} {a : Nat} {l : Lay} {H : HS} (h : Rep w a l H) : w.cell? ⟨a, 10, none⟩ = some (.int .i64 H.age) := by rw [cell_in h.top]; rfl
theorem Rep.top_ne {w : World} {a : Nat} {l : Lay} {H : HS} (h : Rep w a l H) : ∀ g ∈ l.blocks, g ≠ a := by
 intro g hg e
 subst e
 have ht := h.top
 simp only [Lay.blocks, List.mem_append] at hg
 rcases hg with ((hg | hg) | hg) | hg
 ·obtain ⟨c, hc⟩ := own_blk h.mem g hg; rw [hc] at ht; simp at ht
 ·obtain ⟨c, hc⟩ := own_blk h.seats g hg; rw [hc] at ht; simp at ht
 ·obtain ⟨c, hc⟩ := own_blk h.order g hg; rw [hc] at ht; simp at ht
 ·obtain ⟨c, hc⟩ := own_blk h.bits g hg; rw [hc] at ht; simp at ht
theorem Rep.set {w : World} {a : Nat} {l : Lay} {H H' : HS} (h : Rep w a l H) (i : Nat) (v : Value) (hc : hcells a l H' = (hcells a l H).setIfInBounds i v)
  (hm : H'.mem = H.mem) (hs : H'.seats = H.seats) (ho : H'.order = H.order) (hbt : H'.bits = H.bits) : Rep (w.setCell ⟨a, i, none⟩ v) a l H' := by
 have hk : ∀ g ∈ l.blocks, (w.setCell ⟨a, i, none⟩ v).heap[g]? = w.heap[g]? := fun g hg => Below.heap_setCell _ _ _ _ (h.top_ne g hg)
 have h4 : ∀ g, g ∈ blk l.pm ∨ g ∈ blk l.ps ∨ g ∈ blk l.po ∨ g ∈ blk l.pb → (w.setCell ⟨a, i, none⟩ v).heap[g]? = w.heap[g]? := fun g hg => hk g (by simp only [Lay.blocks, List.mem_append]; rcases hg with h | h | h | h <;> simp [h])
 refine ⟨by rw [hc]; exact set_in h.top i v, by rw [hm]; exact h.ml, ?_, ?_, ?_, ?_⟩
 ·rw [hm]; exact own_congr h.mem fun g hg => h4 g (.inl ((blk_own _ _ _ _).1 hg))
 ·rw [hs]; exact own_congr h.seats fun g hg => h4 g (.inr (.inl ((blk_own _ _ _ _).1 hg)))
 ·rw [ho]; exact own_congr h.order fun g hg => h4 g (.inr (.inr (.inl ((blk_own _ _ _ _).1 hg))))
 ·rw [hbt]; exact own_congr h.bits fun g hg => h4 g (.inr (.inr (.inr ((blk_own _ _ _ _).1 hg))))
theorem qT {α : Type _} {xs : List α} {i : Nat} (h : i < xs.toArray.size) : xs.toArray[i] = xs[i]'(by simpa using h) := rfl
theorem qZ {α : Type _} (a : α) (l : List α) (h : 0 < (a :: l).length) : (a :: l)[0] = a := rfl
theorem qS {α : Type _} (a : α) (l : List α) (i : Nat) (h : i + 1 < (a :: l).length) : (a :: l)[i + 1] = l[i]'(Nat.lt_of_succ_lt_succ h) := rfl
theorem qB {α : Type _} (l : List α) (i : Nat) (a : α) : l.toArray.setIfInBounds i a = (l.set i a).toArray := List.setIfInBounds_toArray l i a
theorem qY {α : Type _} {a x : α} {l : List α} : (a :: l).set 0 x = x :: l := rfl
theorem qX {α : Type _} {a x : α} {l : List α} {n : Nat} : (a :: l).set (n + 1) x = a :: l.set n x := rfl
end Go.Proofs.YtklfnjlenbgmoaaDoor
namespace Go.Proofs.YtklfnjlenbgmoaaDoor
open Go.RowKit
theorem iwrap (n : Int) : IntKind.i64.wrap n = wrap64 n := by
 simp [IntKind.wrap, IntKind.signed, IntKind.bits, wrap64]
 split <;> omega
theorem and3 (n : Int) : bits .and .i64 n 3 = n % 4 := by
 unfold bits
 simp only [BitVec.toNat_and, BitVec.toNat_ofInt]
 rw [iwrap]
 have e : ((3 : Int) % ((2 ^ IntKind.i64.bits : Nat) : Int)).toNat = 2 ^ 2 - 1 := by decide
 rw [e, Nat.and_two_pow_sub_one_eq_mod]
 have e2 : ((2 ^ IntKind.i64.bits : Nat) : Int) = 18446744073709551616 := by decide
 rw [e2]
 unfold wrap64
 omega
def kindOf (n : Int) : Int :=
 if n % 2 = 1 then (if -2147483647 ≤ n ∧ n ≤ 2147483647 then 1 else 0)
 else if n % 4 = 2 then (if 2 ≤ n ∧ n ≤ 16382 then 2 else 0)
 else (if 4 ≤ n ∧ n ≤ 262144 then 3 else 0)
theorem kind_cases (n : Int) : kindOf n = 0 ∨ kindOf n = 1 ∨ kindOf n = 2 ∨ kindOf n = 3 := by
 unfold kindOf; (repeat' split); all_goals omega
theorem kind1 (n : Int) : kindOf n = 1 ↔ n % 2 = 1 ∧ -2147483647 ≤ n ∧ n ≤ 2147483647 := by
 unfold kindOf; (repeat' split); all_goals omega
theorem kind2 (n : Int) : kindOf n = 2 ↔ n % 4 = 2 ∧ 2 ≤ n ∧ n ≤ 16382 := by
 unfold kindOf; (repeat' split); all_goals omega
theorem kind3 (n : Int) : kindOf n = 3 ↔ n % 4 = 0 ∧ 4 ≤ n ∧ n ≤ 262144 := by
 unfold kindOf; (repeat' split); all_goals omega
theorem half (n : Int) (h : n % 2 = 1) : (n - 1).tdiv 2 = (n - 1) / 2 := by
 rw [Int.tdiv_eq_ediv, if_pos (Or.inr (by omega))]; omega
theorem ret_int {k : IntKind} {a b : Int} (h : a = b) : Ending.returned (.int k a) = .returned (.int k b) := by rw [h]
theorem ret_bool {a b : Bool} (h : a = b) : Ending.returned (.bool a) = .returned (.bool b) := by rw [h]
set_option maxHeartbeats 400000 in
theorem num_any (n : Int) (w : World) (h0 : -9223372036854775808 ≤ n) (h1 : n ≤ 9223372036854775807) :
  Calls Tryd.prog 11 #[.int .i64 n] w fun e w' => e = .returned (.int .i64 (n)) ∧ w' = w := by
 go_enter Tryd.func11, Tryd.ntmps11
 go_wp2
 go_ret
 exact ⟨ret_int (by first | rfl | (unfold wrap64; omega)), rfl⟩
set_option maxHeartbeats 400000 in
theorem intWord_any (n : Int) (w : World) (h0 : -1073741824 ≤ n) (h1 : n ≤ 1073741823) :
  Calls Tryd.prog 118 #[.int .i64 n] w fun e w' => e = .returned (.int .i64 (2 * n + 1)) ∧ w' = w := by
 go_enter Tryd.func118, Tryd.ntmps118
 go_wp2
 go_ret
 exact ⟨rfl, rfl⟩
set_option maxHeartbeats 400000 in
theorem symbolWord_any (n : Int) (w : World) (h0 : 0 ≤ n) (h1 : n ≤ 4095) :
  Calls Tryd.prog 119 #[.int .i64 n] w fun e w' => e = .returned (.int .i64 (4 * n + 2)) ∧ w' = w := by
 go_enter Tryd.func119, Tryd.ntmps119
 go_wp2
 go_ret
 exact ⟨rfl, rfl⟩
set_option maxHeartbeats 400000 in
theorem objectWord_any (n : Int) (w : World) (h0 : 1 ≤ n) (h1 : n ≤ 65536) :
  Calls Tryd.prog 120 #[.int .i64 n] w fun e w' => e = .returned (.int .i64 (4 * n)) ∧ w' = w := by
 go_enter Tryd.func120, Tryd.ntmps120
 go_wp2
 go_ret
 exact ⟨rfl, rfl⟩
set_option maxHeartbeats 400000 in
theorem span1  (w : World)  :
  Calls Tryd.prog 114 #[.int .i64 1] w fun e w' => e = .returned (.tuple #[.int .i64 (-2147483647), .int .i64 (2147483647)]) ∧ w' = w := by
 go_enter Tryd.func114, Tryd.ntmps114
 go_wp2_with (first | (go_at_call 118; refine (intWord_any _ _ (by omega) (by omega)).mono ?_; rintro e w' ⟨rfl, rfl⟩) | (go_at_call 119; refine (symbolWord_any _ _ (by omega) (by omega)).mono ?_; rintro e w' ⟨rfl, rfl⟩) | (go_at_call 120; refine (objectWord_any _ _ (by omega) (by omega)).mono ?_; rintro e w' ⟨rfl, rfl⟩))
 go_ret2
 exact ⟨rfl, rfl⟩
set_option maxHeartbeats 400000 in
theorem span2  (w : World)  :
  Calls Tryd.prog 114 #[.int .i64 2] w fun e w' => e = .returned (.tuple #[.int .i64 (2), .int .i64 (16382)]) ∧ w' = w := by
 go_enter Tryd.func114, Tryd.ntmps114
 go_wp2_with (first | (go_at_call 118; refine (intWord_any _ _ (by omega) (by omega)).mono ?_; rintro e w' ⟨rfl, rfl⟩) | (go_at_call 119; refine (symbolWord_any _ _ (by omega) (by omega)).mono ?_; rintro e w' ⟨rfl, rfl⟩) | (go_at_call 120; refine (objectWord_any _ _ (by omega) (by omega)).mono ?_; rintro e w' ⟨rfl, rfl⟩))
 go_ret2
 exact ⟨rfl, rfl⟩
set_option maxHeartbeats 400000 in
theorem span3  (w : World)  :
  Calls Tryd.prog 114 #[.int .i64 3] w fun e w' => e = .returned (.tuple #[.int .i64 (4), .int .i64 (262144)]) ∧ w' = w := by
 go_enter Tryd.func114, Tryd.ntmps114
 go_wp2_with (first | (go_at_call 118; refine (intWord_any _ _ (by omega) (by omega)).mono ?_; rintro e w' ⟨rfl, rfl⟩) | (go_at_call 119; refine (symbolWord_any _ _ (by omega) (by omega)).mono ?_; rintro e w' ⟨rfl, rfl⟩) | (go_at_call 120; refine (objectWord_any _ _ (by omega) (by omega)).mono ?_; rintro e w' ⟨rfl, rfl⟩))
 go_ret2
 exact ⟨rfl, rfl⟩
def Tab (w : World) : Prop := w.cell? ⟨0, 0, none⟩ = some (.int .i64 3) ∧ w.cell? ⟨0, 1, none⟩ = some (.int .i64 1) ∧ w.cell? ⟨0, 2, none⟩ = some (.int .i64 2) ∧ w.cell? ⟨0, 3, none⟩ = some (.int .i64 1)
set_option maxHeartbeats 400000 in
theorem kind_r0_in (n : Int) (w : World) (hT : Tab w) (hr : n % 4 = 0) (h0 : 4 ≤ n) (h1 : n ≤ 262144) :
  Calls Tryd.prog 99 #[.int .i64 n] w fun e w' => e = .returned (.int .i64 (3)) ∧ w' = w := by
 obtain ⟨c0, c1, c2, c3⟩ := hT
 have hb : bits .and .i64 n 3 = 0 := by rw [and3, hr]
 clear hr
 go_enter Tryd.func99, Tryd.ntmps99
 go_wp2_with (go_at_call 114; refine (span3 _).mono ?_; rintro e w' ⟨rfl, rfl⟩)
 go_ret
 exact ⟨rfl, rfl⟩
set_option maxHeartbeats 400000 in
theorem kind_r0_out (n : Int) (w : World) (hT : Tab w) (hr : n % 4 = 0) (h : n < 4 ∨ 262144 < n) :
  Calls Tryd.prog 99 #[.int .i64 n] w fun e w' => e = .returned (.int .i64 (0)) ∧ w' = w := by
 obtain ⟨c0, c1, c2, c3⟩ := hT
 have hb : bits .and .i64 n 3 = 0 := by rw [and3, hr]
 clear hr
 rcases h with h | h
 all_goals
  go_enter Tryd.func99, Tryd.ntmps99
  go_wp2_with (go_at_call 114; refine (span3 _).mono ?_; rintro e w' ⟨rfl, rfl⟩)
  go_ret
  exact ⟨rfl, rfl⟩
set_option maxHeartbeats 400000 in
theorem kind_r1_in (n : Int) (w : World) (hT : Tab w) (hr : n % 4 = 1) (h0 : -2147483647 ≤ n) (h1 : n ≤ 2147483647) :
  Calls Tryd.prog 99 #[.int .i64 n] w fun e w' => e = .returned (.int .i64 (1)) ∧ w' = w := by
 obtain ⟨c0, c1, c2, c3⟩ := hT
 have hb : bits .and .i64 n 3 = 1 := by rw [and3, hr]
 clear hr
 go_enter Tryd.func99, Tryd.ntmps99
 go_wp2_with (go_at_call 114; refine (span1 _).mono ?_; rintro e w' ⟨rfl, rfl⟩)
 go_ret
 exact ⟨rfl, rfl⟩
set_option maxHeartbeats 400000 in
theorem kind_r1_out (n : Int) (w : World) (hT : Tab w) (hr : n % 4 = 1) (h : n < -2147483647 ∨ 2147483647 < n) :
  Calls Tryd.prog 99 #[.int .i64 n] w fun e w' => e = .returned (.int .i64 (0)) ∧ w' = w := by
 obtain ⟨c0, c1, c2, c3⟩ := hT
 have hb : bits .and .i64 n 3 = 1 := by rw [and3, hr]
 clear hr
 rcases h with h | h
 all_goals
  go_enter Tryd.func99, Tryd.ntmps99
  go_wp2_with (go_at_call 114; refine (span1 _).mono ?_; rintro e w' ⟨rfl, rfl⟩)
  go_ret
  exact ⟨rfl, rfl⟩
set_option maxHeartbeats 400000 in
theorem kind_r2_in (n : Int) (w : World) (hT : Tab w) (hr : n % 4 = 2) (h0 : 2 ≤ n) (h1 : n ≤ 16382) :
  Calls Tryd.prog 99 #[.int .i64 n] w fun e w' => e = .returned (.int .i64 (2)) ∧ w' = w := by
 obtain ⟨c0, c1, c2, c3⟩ := hT
 have hb : bits .and .i64 n 3 = 2 := by rw [and3, hr]
 clear hr
 go_enter Tryd.func99, Tryd.ntmps99
 go_wp2_with (go_at_call 114; refine (span2 _).mono ?_; rintro e w' ⟨rfl, rfl⟩)
 go_ret
 exact ⟨rfl, rfl⟩
set_option maxHeartbeats 400000 in
theorem kind_r2_out (n : Int) (w : World) (hT : Tab w) (hr : n % 4 = 2) (h : n < 2 ∨ 16382 < n) :
  Calls Tryd.prog 99 #[.int .i64 n] w fun e w' => e = .returned (.int .i64 (0)) ∧ w' = w := by
 obtain ⟨c0, c1, c2, c3⟩ := hT
 have hb : bits .and .i64 n 3 = 2 := by rw [and3, hr]
 clear hr
 rcases h with h | h
 all_goals
  go_enter Tryd.func99, Tryd.ntmps99
  go_wp2_with (go_at_call 114; refine (span2 _).mono ?_; rintro e w' ⟨rfl, rfl⟩)
  go_ret
  exact ⟨rfl, rfl⟩
set_option maxHeartbeats 400000 in
theorem kind_r3_in (n : Int) (w : World) (hT : Tab w) (hr : n % 4 = 3) (h0 : -2147483647 ≤ n) (h1 : n ≤ 2147483647) :
  Calls Tryd.prog 99 #[.int .i64 n] w fun e w' => e = .returned (.int .i64 (1)) ∧ w' = w := by
 obtain ⟨c0, c1, c2, c3⟩ := hT
 have hb : bits .and .i64 n 3 = 3 := by rw [and3, hr]
 clear hr
 go_enter Tryd.func99, Tryd.ntmps99
 go_wp2_with (go_at_call 114; refine (span1 _).mono ?_; rintro e w' ⟨rfl, rfl⟩)
 go_ret
 exact ⟨rfl, rfl⟩
set_option maxHeartbeats 400000 in
theorem kind_r3_out (n : Int) (w : World) (hT : Tab w) (hr : n % 4 = 3) (h : n < -2147483647 ∨ 2147483647 < n) :
  Calls Tryd.prog 99 #[.int .i64 n] w fun e w' => e = .returned (.int .i64 (0)) ∧ w' = w := by
 obtain ⟨c0, c1, c2, c3⟩ := hT
 have hb : bits .and .i64 n 3 = 3 := by rw [and3, hr]
 clear hr
 rcases h with h | h
 all_goals
  go_enter Tryd.func99, Tryd.ntmps99
  go_wp2_with (go_at_call 114; refine (span1 _).mono ?_; rintro e w' ⟨rfl, rfl⟩)
  go_ret
  exact ⟨rfl, rfl⟩
theorem kind_any (n : Int) (w : World) (hT : Tab w) :
  Calls Tryd.prog 99 #[.int .i64 n] w fun e w' => e = .returned (.int .i64 (kindOf n)) ∧ w' = w := by
 have h4 : n % 4 = 0 ∨ n % 4 = 1 ∨ n % 4 = 2 ∨ n % 4 = 3 := by omega
 rcases h4 with h4 | h4 | h4 | h4
 ·by_cases h : 4 ≤ n ∧ n ≤ 262144
  ·have e : kindOf n = 3 := (kind3 n).2 ⟨h4, h⟩
   rw [e]; exact kind_r0_in n w hT h4 h.1 h.2
  ·have e : kindOf n = 0 := by unfold kindOf; (repeat' split); all_goals omega
   rw [e]; exact kind_r0_out n w hT h4 (by omega)
 ·by_cases h : -2147483647 ≤ n ∧ n ≤ 2147483647
  ·have e : kindOf n = 1 := (kind1 n).2 ⟨by omega, h⟩
   rw [e]; exact kind_r1_in n w hT h4 h.1 h.2
  ·have e : kindOf n = 0 := by unfold kindOf; (repeat' split); all_goals omega
   rw [e]; exact kind_r1_out n w hT h4 (by omega)
 ·by_cases h : 2 ≤ n ∧ n ≤ 16382
  ·have e : kindOf n = 2 := (kind2 n).2 ⟨h4, h⟩
   rw [e]; exact kind_r2_in n w hT h4 h.1 h.2
  ·have e : kindOf n = 0 := by unfold kindOf; (repeat' split); all_goals omega
   rw [e]; exact kind_r2_out n w hT h4 (by omega)
 ·by_cases h : -2147483647 ≤ n ∧ n ≤ 2147483647
  ·have e : kindOf n = 1 := (kind1 n).2 ⟨by omega, h⟩
   rw [e]; exact kind_r3_in n w hT h4 h.1 h.2
  ·have e : kindOf n = 0 := by unfold kindOf; (repeat' split); all_goals omega
   rw [e]; exact kind_r3_out n w hT h4 (by omega)
def isW (n : Int) : Bool := kindOf n != 0
set_option maxHeartbeats 400000 in
theorem isWord_any (n : Int) (w : World) (hT : Tab w) :
  Calls Tryd.prog 48 #[.int .i64 n] w fun e w' => e = .returned (.bool (isW n)) ∧ w' = w := by
 have hK := kind_any n w hT
 have hi : Hid (isW n = (kindOf n != 0)) := rfl
 generalize kindOf n = q at *
 go_enter Tryd.func48, Tryd.ntmps48
 go_wp2_with (go_at_call 99; refine hK.mono ?_; rintro e w' ⟨rfl, rfl⟩)
 go_ret
 exact ⟨ret_bool hi.out.symm, rfl⟩
def isF (n : Int) : Bool := n == 0 || n == 1
set_option maxHeartbeats 400000 in
theorem isFormat_any (n : Int) (w : World) :
  Calls Tryd.prog 49 #[.int .i64 n] w fun e w' => e = .returned (.bool (isF n)) ∧ w' = w := by
 by_cases h0 : n = 0
 ·subst h0
  go_enter Tryd.func49, Tryd.ntmps49
  go_wp2
  go_ret
  exact ⟨rfl, rfl⟩
 ·have hb : (n == 0) = false := by simpa using h0
  have hi : Hid (isF n = (n == 1)) := by unfold isF; simp [hb, Hid]
  clear h0
  go_enter Tryd.func49, Tryd.ntmps49
  go_wp2
  go_ret
  exact ⟨ret_bool hi.out.symm, rfl⟩
def isM (k : Int) : Bool := decide (0 ≤ k ∧ k ≤ 1073741824)
set_option maxHeartbeats 400000 in
theorem isMark_any (n : Int) (w : World) :
  Calls Tryd.prog 45 #[.int .i64 n] w fun e w' => e = .returned (.bool (isM n)) ∧ w' = w := by
 by_cases h0 : 0 ≤ n
 ·have hi : Hid (isM n = decide (n ≤ 1073741824)) := by unfold isM; simp [h0, Hid]
  go_enter Tryd.func45, Tryd.ntmps45
  go_wp2
  go_ret
  exact ⟨ret_bool hi.out.symm, rfl⟩
 ·have hi : Hid (isM n = false) := by unfold isM; simp [h0, Hid]
  go_enter Tryd.func45, Tryd.ntmps45
  go_wp2
  go_ret
  exact ⟨ret_bool hi.out.symm, rfl⟩
def lenOf (n f : Int) : Int := if f = 1 then 2 + (n + 3) / 4 else 2 + n
set_option maxHeartbeats 400000 in
theorem length_any (n f : Int) (w : World) (h0 : 0 ≤ n) (h1 : n ≤ 1000000000) :
  Calls Tryd.prog 50 #[.int .i64 n, .int .i64 f] w fun e w' => e = .returned (.int .i64 (lenOf n f)) ∧ w' = w := by
 by_cases hf : f = 1
 ·subst hf
  have hi : Hid (lenOf n 1 = 2 + (n + 3) / 4) := by unfold lenOf Hid; simp
  go_enter Tryd.func50, Tryd.ntmps50
  go_wp2
  go_ret
  exact ⟨ret_int (by rw [hi.out]; first | rfl | omega), rfl⟩
 ·have hi : Hid (lenOf n f = 2 + n) := by unfold lenOf Hid; simp [hf]
  have hb : (f == 1) = false := by simpa using hf
  clear hf
  go_enter Tryd.func50, Tryd.ntmps50
  go_wp2
  go_ret
  exact ⟨ret_int (by rw [hi.out]), rfl⟩
theorem info95 : (Tryd.prog.info? 95).isSome = true := by kernel_rfl
set_option maxHeartbeats 400000 in
theorem made_any (a : Nat) (w : World) (h : w.cell? ⟨a, 0, none⟩ = some (.pointer (some ⟨a, 0, none⟩))) :
  Calls Tryd.prog 44 #[.pointer (some ⟨a, 0, none⟩)] w fun e w' => e = .returned (.bool true) ∧ w' = w := by
 obtain ⟨j, hj⟩ := Option.isSome_iff_exists.1 info95
 have hq := run_eql_ptr_same (P := Tryd.prog) w ⟨a, 0, none⟩ Tryd.underlying24 hj
 clear hj
 go_enter Tryd.func44, Tryd.ntmps44
 go_wp2
 go_ret
 exact ⟨rfl, rfl⟩
def nilLay : Lay := ⟨none, 0, none, 0, none, 0, none, 0⟩
def emptyH (words oops : Nat) : HS := ⟨words, oops, 0, [], [], [], [], 0, 0, 0⟩
theorem rep_new (w : World) (words oops : Nat) : Rep (w.alloc (.cells (hcells w.heap.size nilLay (emptyH words oops)) 95)) w.heap.size nilLay (emptyH words oops) :=
 ⟨heap_alloc_new w _, Nat.le_refl _, World.ownsRow_nil _ _ _ _, World.ownsRow_nil _ _ _ _, World.ownsRow_nil _ _ _ _, World.ownsRow_nil _ _ _ _⟩
set_option maxHeartbeats 400000 in
theorem New_in (words oops : Nat) (w : World) (h1 : (words : Int) ≤ 1048576) (h2 : (oops : Int) ≤ 65536) :
  Calls Tryd.prog 10 #[.int .i64 words, .int .i64 oops] w fun e w' => e = .returned (.tuple #[.pointer (some ⟨w.heap.size, 0, none⟩), .int .i64 0]) ∧ Rep w' w.heap.size nilLay (emptyH words oops) ∧ Fr [] w w' ∧ w'.heap.size = w.heap.size + 1 := by
 have g1 : (0 : Int) ≤ words := by omega
 have g2 : (0 : Int) ≤ oops := by omega
 go_enter Tryd.func10, Tryd.ntmps10
 go_wp2
 go_ret2
 exact ⟨rfl, rep_new w words oops, Fr.alloc [] w _, by simp⟩
set_option maxHeartbeats 400000 in
theorem Mark_in (k : Nat) (a : Nat) (l : Lay) (H : HS) (w : World) (h : Rep w a l H) (hk : (k : Int) ≤ 1073741824) :
  Calls Tryd.prog 12 #[.pointer (some ⟨a, 0, none⟩), .int .i64 k] w fun e w' => e = .returned (.int .i64 0) ∧ Rep w' a l { H with mark := k } ∧ Fr [a] w w' ∧ w'.heap.size = w.heap.size := by
 have hm := isMark_any k w
 rw [show isM k = true from by simp [isM]; omega] at hm
 have c0 := h.c0
 have c3 := h.c3
 have f3 := h.frozen 3
 have R : Hid (Rep (w.setCell ⟨a, 3, none⟩ (.int .i64 k)) a l { H with mark := k }) := h.set 3 _ rfl rfl rfl rfl rfl
 have F : Hid (Fr [a] w (w.setCell ⟨a, 3, none⟩ (.int .i64 k))) := Fr.setCell w _ _ (by simp)
 clear h
 go_enter Tryd.func12, Tryd.ntmps12
 go_wp2_with (first | (go_at_call 44; refine (made_any _ _ c0).mono ?_; rintro e w' ⟨rfl, rfl⟩) | (go_at_call 45; refine hm.mono ?_; rintro e w' ⟨rfl, rfl⟩))
 go_ret
 exact ⟨rfl, R.out, F.out, by simp⟩
set_option maxHeartbeats 400000 in
theorem Marked_any (a : Nat) (l : Lay) (H : HS) (w : World) (h : Rep w a l H) :
  Calls Tryd.prog 15 #[.pointer (some ⟨a, 0, none⟩)] w fun e w' => e = .returned (.int .i64 H.mark) ∧ w' = w := by
 have c0 := h.c0
 have c3 := h.c3
 clear h
 go_enter Tryd.func15, Tryd.ntmps15
 go_wp2_with (go_at_call 44; refine (made_any _ _ c0).mono ?_; rintro e w' ⟨rfl, rfl⟩)
 go_ret
 exact ⟨rfl, rfl⟩
structure Small (H : HS) : Prop where
 words : (H.words : Int) ≤ 1048576
 oops : (H.oops : Int) ≤ 65536
 mem : (H.mem.length : Int) ≤ H.words
 count : (H.count : Int) ≤ H.oops
 mark : (H.mark : Int) ≤ 1073741824
set_option maxHeartbeats 400000 in
theorem Room_any (a : Nat) (l : Lay) (H : HS) (w : World) (h : Rep w a l H) (hs : Small H) :
  Calls Tryd.prog 20 #[.pointer (some ⟨a, 0, none⟩)] w fun e w' => e = .returned (.tuple #[.int .i64 (H.words - H.mem.length), .int .i64 (H.oops - H.count)]) ∧ ∃ n, w' = w.drewN n := by
 have c0 := h.c0
 have c1 := h.c1
 have c2 := h.c2
 have c4 := h.c4
 have c9 := h.c9
 obtain ⟨s1, s2, s3, s4, s5⟩ := hs
 clear h
 generalize H.mem.length = m at *
 generalize H.words = x at *
 generalize H.oops = y at *
 generalize H.count = z at *
 go_enter Tryd.func20, Tryd.ntmps20
 go_wp2_with (go_at_call 44; refine (made_any _ _ c0).mono ?_; rintro e w' ⟨rfl, rfl⟩)
 go_quiet (fail)
 go_wp2
 go_ret2
 exact ⟨rfl, _, rfl⟩
def Tab64 (w : World) : Prop := TabAt 1 Lib.deBruijn64tab w
set_option maxHeartbeats 1000000 in
theorem tz_core (x k idx : Nat) (w : World) (hx0 : ((x : Int) == 0) = false)
  (key : IntKind.u64.wrap (bits BinOp.and IntKind.u64 (x : Int) (IntKind.u64.wrap (-(x : Int))) * 285870213051353865) / 288230376151711744 = (idx : Int))
  (hi : idx < 64) (hk : k < 64) (hcell : w.cell? ⟨1, idx, none⟩ = some (.int .u8 k)) :
  Calls Tryd.prog 100 #[.int .u64 x] w fun e w' => e = .returned (.int .i64 k) ∧ w' = w := by
 go_enter Tryd.func100, Tryd.ntmps100
 go_wp2_with (simp only [key])
 go_ret
 exact ⟨rfl, rfl⟩
theorem tz_any (x : Nat) (hx : x < 18446744073709551616) (hx0 : x ≠ 0) (w : World) (hT : Tab64 w) :
  Calls Tryd.prog 100 #[.int .u64 x] w fun e w' => e = .returned (.int .i64 (Lib.ctz 64 x)) ∧ w' = w := by
 obtain ⟨hlow, hk⟩ := Lib.lowest_bit 64 x hx0 hx
 obtain ⟨hi, htab⟩ := Lib.deBruijn64_at _ hk
 have hcell := hT _ hi
 rw [htab] at hcell
 exact tz_core x _ _ w (by simp; omega) (tz64_key x _ hx hx0 hlow) hi hk hcell
def full : Nat := 18446744073709551615
theorem own_at {w : World} {base : Nat} {e : TypeId} {ao : Option Addr} {c n : Nat} {xs : List Value} (h : w.ownsRow base e 1 (.slice ao n c) n xs) (k : Nat) (hk : k < n) :
  ∃ g, ao = some ⟨g, 0, none⟩ ∧ (∀ i, i < n → w.cell? ⟨g, i, none⟩ = xs[i]?) ∧ (∀ i, w.frozen? ⟨g, i, none⟩ = false) ∧ n ≤ c ∧ ∃ cur, w.heap[g]? = some (.cells cur e (0, 0)) ∧ cur.size = c := by
 rcases h.2 with ⟨h2, h3⟩ | ⟨g', cap, cur, h2, h3, h4, h5, h6, h7, h8⟩
 ·omega
 ·injection h2 with h2 h2b h2c
  subst h2
  subst h2c
  exact ⟨g', rfl, fun i hi => h.cellAt i (by omega), fun i => frozen_in h4 i, h5, cur, h4, by omega⟩
theorem Rep.bitAt {w : World} {a : Nat} {l : Lay} {H : HS} (h : Rep w a l H) (k : Nat) (hk : k < H.bits.length) :
  ∃ g, l.pb = some ⟨g, 0, none⟩ ∧ w.cell? ⟨g, k, none⟩ = some (.int .u64 ((H.bits.getD k 0 : Nat) : Int)) ∧ w.frozen? ⟨g, k, none⟩ = false ∧ g ≠ a := by
 obtain ⟨g, hg, hc, hf, _, cur, hcur, _⟩ := own_at h.bits k hk
 refine ⟨g, hg, ?_, hf k, ?_⟩
 ·rw [hc k hk]; simp [U, hk]
 ·exact h.top_ne g (by simp [Lay.blocks, blk, hg])
def oopAt (bits : List Nat) (k : Nat) : Int := if k = bits.length then (k : Int) * 64 + 1 else (k : Int) * 64 + (Lib.ctz 64 (full - bits.getD k 0) : Nat) + 1
structure LowTo (bits : List Nat) (low k : Nat) : Prop where
 ge : low ≤ k
 le : k ≤ bits.length
 ful : ∀ j, low ≤ j → j < k → bits.getD j 0 = full
theorem not64 (b : Nat) (hb : b < 18446744073709551616) : bits .xor .u64 18446744073709551615 (b : Int) = ((full - b : Nat) : Int) := by
 have h := u64_xor_nat 18446744073709551615 b (by omega) hb
 have e : (18446744073709551615 ^^^ b : Nat) = full - b := by
  have hx : (18446744073709551615 ^^^ b) = 2 ^ 64 - 1 - b := by
   apply Nat.eq_of_testBit_eq
   intro i
   rw [Nat.testBit_xor, show (18446744073709551615 : Nat) = 2 ^ 64 - 1 from rfl, Nat.testBit_two_pow_sub_one, show 2 ^ 64 - 1 - b = 2 ^ 64 - (b + 1) from by omega, Nat.testBit_two_pow_sub_succ (by omega)]
   by_cases hi : i < 64
   ·simp [hi]
   ·simp [hi]
    exact Nat.testBit_lt_two_pow (Nat.lt_of_lt_of_le (m := 2 ^ 64) hb (Nat.pow_le_pow_right (n := 2) (by omega) (by omega)))
  rw [hx]; rfl
 rw [e] at h
 exact h
theorem not64' (b : Nat) (hb : b < 18446744073709551616) : Go.bits .xor .u64 (if IntKind.u64.signed = true then -1 else IntKind.u64.max) (b : Int) = ((full - b : Nat) : Int) := by
 rw [show (if IntKind.u64.signed = true then (-1 : Int) else IntKind.u64.max) = 18446744073709551615 from rfl]
 exact not64 b hb
theorem ctz_lt (x : Nat) (h0 : x ≠ 0) (hx : x < 18446744073709551616) : Lib.ctz 64 x < 64 := (Lib.lowest_bit 64 x h0 hx).2
theorem Fr.same (S : List Nat) {w w' : World} (h1 : w'.os = w.os) (h2 : w'.tape = w.tape) (h3 : w'.output = w.output) (h4 : w'.heap = w.heap) : Fr S w w' := ⟨h1, h2, h3, by rw [h4]; exact Nat.le_refl _, fun k _ _ => by rw [h4]⟩
theorem Tab64.keep {w w' : World} {S : List Nat} (h : Tab64 w) (hf : Fr S w w') (h1 : 1 < w.heap.size) (hS : 1 ∉ S) : Tab64 w' := fun j hj => (hf.cell (p := ⟨1, j, none⟩) h1 hS).trans (h j hj)
theorem Tab64.same {w w' : World} (h : Tab64 w) (e : w'.heap = w.heap) : Tab64 w' := fun j hj => (World.cell?_of_block (w := w) (by rw [e])).trans (h j hj)
theorem Tab.keep {w w' : World} {S : List Nat} (h : Tab w) (hf : Fr S w w') (h1 : 0 < w.heap.size) (hS : 0 ∉ S) : Tab w' :=
 ⟨(hf.cell (p := ⟨0, 0, none⟩) h1 hS).trans h.1, (hf.cell (p := ⟨0, 1, none⟩) h1 hS).trans h.2.1, (hf.cell (p := ⟨0, 2, none⟩) h1 hS).trans h.2.2.1, (hf.cell (p := ⟨0, 3, none⟩) h1 hS).trans h.2.2.2⟩
set_option maxHeartbeats 1000000 in
theorem lowest_any (a : Nat) (l : Lay) (H : HS) (w : World) (h : Rep w a l H) (hl : H.low ≤ H.bits.length) (hn : (H.bits.length : Int) ≤ 1100) (hb : ∀ k, H.bits.getD k 0 ≤ full) (hT : Tab64 w) (ha : 2 ≤ a) :
  Calls Tryd.prog 51 #[.pointer (some ⟨a, 7, none⟩)] w fun e w' => ∃ k, LowTo H.bits H.low k ∧ (k < H.bits.length → H.bits.getD k 0 ≠ full) ∧ e = .returned (.int .i64 (oopAt H.bits k)) ∧ Rep w' a l { H with low := k } ∧ Fr [a] w w' ∧ w'.heap.size = w.heap.size := by
 have hlt := h.lt a (by simp [foot])
 go_enter Tryd.func51, Tryd.ntmps51
 go_wp2
 go_loopg [] (H.bits.length - H.low) (fun gk wr => ∃ k, gk = H.bits.length - k ∧ LowTo H.bits H.low k ∧ Rep wr a l { H with low := k } ∧ Fr [a] w wr ∧ wr.heap.size = w.heap.size)
 case atStart => exact ⟨H.low, rfl, ⟨Nat.le_refl _, hl, fun j h1 h2 => by omega⟩, h, Fr.refl _ _, rfl⟩
 case round =>
  clear h
  obtain ⟨k, rfl, hk, hr, hf, hz⟩ := hrel
  have hT' : Hid (Tab64 wr) := hT.keep hf (by omega) (by simp; omega)
  have hkl := hk.le
  have c7 := hr.c7
  have c8 := hr.c8
  have f8 := hr.frozen 8
  dsimp only at c7 c8
  by_cases hkn : k < H.bits.length
  ·obtain ⟨g, hg, cg, _, hga⟩ := hr.bitAt k hkn
   dsimp only at hg cg
   rw [hg] at c7
   have hbk := hb k
   by_cases hfl : H.bits.getD k 0 = full
   ·have R : Hid (∀ nq, Rep ((wr.drewN nq).setCell ⟨a, 8, none⟩ (.int .i64 ((k : Int) + 1))) a l { H with low := k + 1 }) := fun nq => (hr.drewN nq).set 8 _ rfl rfl rfl rfl rfl
    have F : Hid (∀ nq, Fr [a] w ((wr.drewN nq).setCell ⟨a, 8, none⟩ (.int .i64 ((k : Int) + 1)))) := fun nq => (hf.trans (Fr.drewN [a] wr nq) (by simp)).trans (Fr.setCell (S := [a]) _ _ _ (by simp)) (by simp)
    have L : Hid (LowTo H.bits H.low (k + 1)) := ⟨by have := hk.ge; omega, by omega, fun j h1 h2 => by
     by_cases e : j = k
     ·rw [e]; exact hfl
     ·exact hk.ful j h1 (by omega)⟩
    rw [hfl] at cg
    have hkn' : (k : Int) < (H.bits.length : Int) := by omega
    have hlt' : Hid (H.bits.length - (k + 1) < H.bits.length - k) := by unfold Hid; omega
    clear hr hf hk hT' hbk hfl hg hb hl hkl
    unfold full at cg
    go_wp2
    go_quiet (fail)
    go_wp2
    go_roundg (H.bits.length - (k + 1))
    case measure => exact hlt'.out
    case rel => exact ⟨k + 1, rfl, L.out, R.out _, F.out _, by simpa using hz⟩
   ·have hfl' : (((H.bits.getD k 0 : Nat) : Int) == 18446744073709551615) = false := beq_eq_false_iff_ne.2 (by unfold full at hfl; omega)
    have hx := not64' (H.bits.getD k 0) (by unfold full at hbk; omega)
    have hx0 : full - H.bits.getD k 0 ≠ 0 := by omega
    have hx1 : full - H.bits.getD k 0 < 18446744073709551616 := by unfold full; omega
    have hz1 := ctz_lt _ hx0 hx1
    have htz := fun w hT => tz_any (full - H.bits.getD k 0) hx1 hx0 w hT
    have O : Hid (oopAt H.bits k = (k : Int) * 64 + ((Lib.ctz 64 (full - H.bits.getD k 0) : Nat) : Int) + 1) := by unfold oopAt Hid; rw [if_neg (by omega)]
    have HTZ := htz
    have P1 : Hid (LowTo H.bits H.low k ∧ (k < H.bits.length → H.bits.getD k 0 ≠ full) ∧ Rep wr a l { H with low := k } ∧ Fr [a] w wr ∧ wr.heap.size = w.heap.size) := ⟨hk, fun _ => hfl, hr, hf, hz⟩
    clear htz
    have hkn' : (k : Int) < (H.bits.length : Int) := by omega
    have hne : ((k : Int) == (H.bits.length : Int)) = false := by simp; omega
    clear hr hf hk hbk hfl hg hb hl hkl hx0 hx1
    generalize H.bits.length = n at hn c7 hkn hkn' hne
    generalize full - H.bits.getD k 0 = y at *
    generalize H.bits.getD k 0 = b at cg hfl' hx
    generalize Lib.ctz 64 y = z at *
    go_wp2
    go_quiet (fail)
    go_wp2
    go_quiet (fail)
    go_wp2
    go_quiet ((go_at_call 100; refine (HTZ _ (by exact hT'.out.same rfl)).mono ?_; rintro e w'' ⟨rfl, rfl⟩; exact ⟨rfl, _, rfl⟩))
    go_wp2
    go_ret
    obtain ⟨q1, q2, q3, q4, q5⟩ := P1.out
    exact ⟨k, q1, q2, ret_int (by rw [O.out]), q3.congr fun _ _ => rfl, q4.trans (Fr.same [] rfl rfl rfl rfl) (by simp), q5⟩
  ·have hkeq : k = H.bits.length := by omega
   have O : Hid (oopAt H.bits k = (k : Int) * 64 + 1) := by unfold oopAt Hid; rw [if_pos hkeq]
   have P1 : Hid (LowTo H.bits H.low k ∧ (k < H.bits.length → H.bits.getD k 0 ≠ full) ∧ Rep wr a l { H with low := k } ∧ Fr [a] w wr ∧ wr.heap.size = w.heap.size) := ⟨hk, fun h => by omega, hr, hf, hz⟩
   have hne : ((k : Int) == (H.bits.length : Int)) = true := by simp; omega
   have hnl : decide ((k : Int) < (H.bits.length : Int)) = false := by simp; omega
   have hk2 : (k : Int) ≤ 1100 := by omega
   clear hr hf hk hb hl hkl hkeq
   generalize H.bits.length = n at hn c7 hkn hne hnl
   go_wp2
   go_quiet (fail)
   go_wp2
   go_quiet (fail)
   go_wp2
   go_ret
   obtain ⟨q1, q2, q3, q4, q5⟩ := P1.out
   exact ⟨k, q1, q2, ret_int (by rw [O.out]), q3.congr fun _ _ => rfl, q4.trans (Fr.same [] rfl rfl rfl rfl) (by simp), q5⟩
end Go.Proofs.YtklfnjlenbgmoaaDoor
