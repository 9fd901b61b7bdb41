import Derived.WalkKit
import Derived.Test.YtflgicdbbogllaaGreatDoorChecked
import Derived.Deep.AppendLies
import Derived.Deep.Draws
import Derived.WalkSpells
import Derived.WalkLawsBesides
import Derived.BigQuiet
import Derived.Deep.QuietTactic
import Derived.LaidEqlPtr
import Derived.Shelf.Spec.TrailingZeros
import Derived.Deep.LoopGhost
import Derived.Laws.BitsAllLaws
import Derived.Laws.ShiftsVar
set_option maxHeartbeats 1000000
set_option linter.unusedSimpArgs false
set_option linter.unusedVariables false
namespace Go.Proofs.YtflgicdbbogllaaGreatDoor
open Go.RowKit
abbrev jAA := @List.getD_eq_getElem?_getD
abbrev jAB := @List.getElem?_eq_getElem
abbrev jn := @if_neg
abbrev jp := @if_pos
abbrev jAC := @List.mem_append
abbrev jAD := @Nat.le_refl
abbrev jAE := @World.cell?_alloc_lt
abbrev jAF := @List.mem_cons
abbrev jAG := @List.length_append
abbrev jAH := @Nat.zero_le
abbrev jAI := @List.getElem?_append_right
abbrev jAJ := @Nat.add_sub_cancel
abbrev jAK := @List.getElem?_append_left
abbrev jAL := @List.length_set
abbrev jAM := @List.getElem?_eq_none
abbrev jAN := @Below.heap_alloc
abbrev jAO := @List.take_succ_eq_append_getElem
abbrev jAP := @List.map_append
abbrev jAQ := @List.getElem?_map
abbrev jAR := @List.length_map
abbrev jAS := @World.ownsRow_nil
abbrev jAT := @List.getElem_mem
abbrev jAU := @Nat.le_trans
abbrev jAV := @List.take_length
abbrev jAW := @List.getElem?_cons_zero
abbrev jAX := @List.getElem?_toArray
abbrev jAY := @List.length_replicate
abbrev jAZ := @List.mem_map
abbrev jAa := @List.map_map
abbrev jAb := @Nat.lt_of_lt_of_le
abbrev jAc := @List.getElem?_eq_some_iff
abbrev jAd := @List.mem_flatMap
abbrev jAe := @List.getElem?_cons_succ
abbrev jAf := @World.block_lt_of_cell?
abbrev jAg := @Array.getElem?_setIfInBounds_ne
abbrev jAh := @List.getElem?_set
abbrev jAi := @List.pairwise_append
abbrev jAj := @Int.toNat_natCast
abbrev jAk := @List.length_take
abbrev jAl := @Nat.zero_add
abbrev jAm := @List.pairwise_iff_getElem
abbrev jAn := @List.mem_of_getElem?
abbrev jAo := @List.getElem?_replicate
abbrev jAp := @List.mem_singleton
abbrev jAq := @List.mem_map_of_mem
abbrev jAr := @List.mem_cons_of_mem
abbrev jAs := @List.filter_append
abbrev jAt := @List.take_append_drop
abbrev jAu := @List.append_assoc
abbrev jAv := @Option.isSome_iff_exists
abbrev jAw := @Below.heap_setCell
abbrev jAx := @List.getElem?_take
abbrev jAy := @List.set_append_right
abbrev jAz := @List.append_nil
abbrev jBA := @Bool.and_eq_true
abbrev jBB := @World.frozen?_alloc_old
abbrev jBC := @List.take_append_of_le_length
abbrev jBD := @List.drop_eq_getElem_cons
abbrev jBE := @List.mem_append_left
abbrev jBF := @Nat.add_assoc
abbrev jBG := @List.length_cons
abbrev jBH := @List.length_filter_le
abbrev jBI := @List.pairwise_cons
abbrev jBJ := @List.map_congr_left
abbrev jBK := @Nat.min_eq_left
abbrev jBL := @List.getElem_map
abbrev jBM := @Array.getElem?_setIfInBounds_self_of_lt
abbrev jBN := @List.replicate_append_replicate
abbrev jBO := @List.take_of_length_le
abbrev jBP := @List.getElem_of_mem
abbrev jBQ := @List.length_singleton
abbrev jBR := @List.all_eq_true
abbrev jBS := @List.map_take
abbrev jBT := @List.length_eq_zero_iff
abbrev jBU := @List.pairwise_singleton
abbrev jBV := @List.mem_filter
abbrev jBW := @Array.getElem?_eq_some_iff
abbrev jBX := @Option.ne_none_iff_exists'
abbrev jBY := @List.replicate_succ'
abbrev jBZ := @Bool.eq_iff_iff
abbrev jBa := @World.cell?_of_block
abbrev jBb := @List.pairwise_map
abbrev jBc := @List.replicate_succ
abbrev jBd := @List.any_eq_true
abbrev jBe := @List.ext_getElem?
abbrev jBf := @Nat.lt_trichotomy
abbrev jBg := @Nat.pow_lt_pow_right
abbrev jBh := @List.mem_iff_getElem
abbrev jBi := @Nat.pow_le_pow_right
abbrev jBj := @List.mem_of_mem_take
abbrev jBk := @Nat.mul_one
abbrev jBl := @List.length_drop
abbrev jBm := @Nat.add_zero
abbrev jBn := @List.length_nil
abbrev jBo := @List.nil_append
abbrev jBp := @List.getElem?_drop
theorem jex {α : Sort _} (E : α) : ∃ X, X = E := ⟨_, rfl⟩
theorem jxe {α : Sort _} (E : α) : ∃ X, E = X := ⟨_, rfl⟩
theorem ng (n : Nat) : (0 : Int) ≤ n := by omega
theorem jq0 {w : World} {b : Nat} {a0 : Value} {l : List Value} {t : TypeId} (h : w.heap[b]? = some (.cells (List.toArray (a0 :: l)) t (0, 0))) : w.cell? ⟨b, 0, none⟩ = some a0 := by simp [World.cell?, h]
theorem jq1 {w : World} {b : Nat} {a0 a1 : Value} {l : List Value} {t : TypeId} (h : w.heap[b]? = some (.cells (List.toArray (a0 :: a1 :: l)) t (0, 0))) : w.cell? ⟨b, 1, none⟩ = some a1 := by simp [World.cell?, h]
theorem jq2 {w : World} {b : Nat} {a0 a1 a2 : Value} {l : List Value} {t : TypeId} (h : w.heap[b]? = some (.cells (List.toArray (a0 :: a1 :: a2 :: l)) t (0, 0))) : w.cell? ⟨b, 2, none⟩ = some a2 := by simp [World.cell?, h]
theorem jq3 {w : World} {b : Nat} {a0 a1 a2 a3 : Value} {l : List Value} {t : TypeId} (h : w.heap[b]? = some (.cells (List.toArray (a0 :: a1 :: a2 :: a3 :: l)) t (0, 0))) : w.cell? ⟨b, 3, none⟩ = some a3 := by simp [World.cell?, h]
theorem jq4 {w : World} {b : Nat} {a0 a1 a2 a3 a4 : Value} {l : List Value} {t : TypeId} (h : w.heap[b]? = some (.cells (List.toArray (a0 :: a1 :: a2 :: a3 :: a4 :: l)) t (0, 0))) : w.cell? ⟨b, 4, none⟩ = some a4 := by simp [World.cell?, h]
theorem jq5 {w : World} {b : Nat} {a0 a1 a2 a3 a4 a5 : Value} {l : List Value} {t : TypeId} (h : w.heap[b]? = some (.cells (List.toArray (a0 :: a1 :: a2 :: a3 :: a4 :: a5 :: l)) t (0, 0))) : w.cell? ⟨b, 5, none⟩ = some a5 := by simp [World.cell?, h]
theorem jq6 {w : World} {b : Nat} {a0 a1 a2 a3 a4 a5 a6 : Value} {l : List Value} {t : TypeId} (h : w.heap[b]? = some (.cells (List.toArray (a0 :: a1 :: a2 :: a3 :: a4 :: a5 :: a6 :: l)) t (0, 0))) : w.cell? ⟨b, 6, none⟩ = some a6 := by simp [World.cell?, h]
end Go.Proofs.YtflgicdbbogllaaGreatDoor
namespace Go.Proofs.YtflgicdbbogllaaGreatDoor
open Go.RowKit Tryz
open Value (int)
open IntKind (i64)
structure Fr (S : List Nat) (w w' : World) : Prop where
 os : w'.os = w.os
 tape : w'.tape = w.tape
 output : w'.output = w.output
 size : w.heap.size ≤ w'.heap.size
 block : ∀ k, k < w.heap.size → k ∉ S → w'.heap[k]? = w.heap[k]?
namespace Fr
theorem refl (S : List Nat) (w : World) : Fr S w w := ⟨rfl, rfl, rfl, jAD _, fun _ _ _ => rfl⟩
theorem trans {S S' : List Nat} {w w' w'' : World} (h : Fr S w w') (k : Fr S' w' w'') (hs : ∀ b ∈ S', b ∈ S ∨ w.heap.size ≤ b) : Fr S w w'' :=
 ⟨k.os.trans h.os, k.tape.trans h.tape, k.output.trans h.output, jAU h.size k.size, fun i hi hn => by
  rw [k.block i (jAb hi h.size) (fun hm => by rcases hs i hm with h1 | h1; exact hn h1; omega)];exact h.block i hi hn⟩
theorem mono {S S' : List Nat} {w w' : World} (h : Fr S w w') (hs : ∀ b ∈ S, b ∈ S' ∨ w.heap.size ≤ b) : Fr S' w w' :=
 ⟨h.os, h.tape, h.output, h.size, fun k hk hn => h.block k hk (fun hm => by rcases hs k hm with h1 | h1; exact hn h1; omega)⟩
theorem drew (S : List Nat) (w : World) : Fr S w w.drew := ⟨rfl, rfl, rfl, jAD _, fun _ _ _ => rfl⟩
theorem alloc (S : List Nat) (w : World) (o : Obj) : Fr S w (w.alloc o) := ⟨rfl, rfl, rfl, by simp, fun k hk _ => jAN _ _ _ hk⟩
theorem setCell {S : List Nat} (w : World) (a : Addr) (v : Value) (h : a.block ∈ S) : Fr S w (w.setCell a v) :=
 ⟨rfl, rfl, rfl, by simp, fun k hk hn => jAw _ _ _ _ (fun e => hn (by rw [e]; exact h))⟩
theorem setRow {S : List Nat} (w : World) (g : Nat) (cs : Array Value) (h : g ∈ S) : Fr S w (w.setRow g cs) :=
 ⟨rfl, rfl, rfl, by simp, fun k hk hn => setRow_other w g k _ (fun e => hn (by rw [e]; exact h))⟩
theorem grown {S : List Nat} {w w' : World} {row : Option Nat} (h : w.grownBy w' row) (hr : ∀ k, row = some k → k ∈ S) : Fr S w w' :=
 ⟨h.os, h.tape, h.output, h.size, fun k hk hn => h.block k hk (fun e => hn (hr k e.symm))⟩
theorem below {w w' : World} {S : List Nat} (h : Fr S w w') {B : Nat} (hB : B ≤ w.heap.size) (hS : ∀ b ∈ S, B ≤ b) : Below B w w' :=
 ⟨h.os, h.tape, h.output, h.size, fun k hk => h.block k (by omega) (fun hm => by have := hS k hm; omega)⟩
theorem cell {S : List Nat} {w w' : World} (h : Fr S w w') {p : Addr} (h1 : p.block < w.heap.size) (h2 : p.block ∉ S) : w'.cell? p = w.cell? p :=
 jBa (w := w) (h.block p.block h1 h2)
theorem frozen {S : List Nat} {w w' : World} (h : Fr S w w') {p : Addr} (h1 : p.block < w.heap.size) (h2 : p.block ∉ S) : w'.frozen? p = w.frozen? p :=
 World.frozen?_of_block (w := w) (h.block p.block h1 h2)
end Fr
theorem kIr (w : World) (n : Nat) : (w.drewN n).heap = w.heap := rfl
theorem Fr.drewN (S : List Nat) (w : World) (n : Nat) : Fr S w (w.drewN n) := ⟨rfl, rfl, rfl, jAD _, fun _ _ _ => rfl⟩
structure HS where
 fH : Nat
 fM : Nat
 mark : Nat
 mem : List Int
 fD : List (Nat × Nat × Nat)
 fC : List Nat
 bits : List Nat
 low : Nat
 count : Nat
 age : Nat
structure Lay where
 pm : Option Addr
 cm : Nat
 ps : Option Addr
 cs : Nat
 po : Option Addr
 co : Nat
 pb : Option Addr
 cb : Nat
def blk (o : Option Addr) : List Nat := match o with | some a => [a.block] | none => []
def Lay.blocks (l : Lay) : List Nat := blk l.pm ++ blk l.ps ++ blk l.po ++ blk l.pb
def foot (a : Nat) (l : Lay) : List Nat := a :: l.blocks
def I (n : Nat) : Value := int i64 n
def U (n : Nat) : Value := .int .u64 (n : Int)
def kAZ (l : List (Nat × Nat × Nat)) : List Value := l.flatMap fun s => [I s.1, I s.2.1, I s.2.2]
def kBv (a : Nat) (l : Lay) (H : HS) : Array Value :=
 #[.pointer (some ⟨a, 0, none⟩), int i64 H.fH, int i64 H.fM, int i64 H.mark, .slice l.pm H.mem.length l.cm, .slice l.ps H.fD.length l.cs,
  .slice l.po H.fC.length l.co, .slice l.pb H.bits.length l.cb, int i64 H.low, int i64 H.count, int i64 H.age]
structure Rep (w : World) (a : Nat) (l : Lay) (H : HS) : Prop where
 top : w.heap[a]? = some (.cells (kBv a l H) 93 (0, 0))
 ml : H.mem.length ≤ l.cm
 mem : w.ownsRow 0 41 1 (.slice l.pm l.cm l.cm) l.cm ((H.mem ++ List.replicate (l.cm - H.mem.length) 0).map (int i64))
 fD : w.ownsRow 0 148 3 (.slice l.ps H.fD.length l.cs) H.fD.length (kAZ H.fD)
 fC : w.ownsRow 0 3 1 (.slice l.po H.fC.length l.co) H.fC.length (H.fC.map I)
 bits : w.ownsRow 0 180 1 (.slice l.pb H.bits.length l.cb) H.bits.length (H.bits.map U)
theorem kAE {w w' : World} {base : Nat} {e : TypeId} {size : Nat} {v : Value} {n : Nat} {xs : List Value} (h : w.ownsRow base e size v n xs)
  (hb : ∀ g, v.ownBlock = some g → w'.heap[g]? = w.heap[g]?) : w'.ownsRow base e size v n xs := by
 refine ⟨h.1, ?_⟩;rcases h.2 with h2 | ⟨g, cap, cur, rfl, h3, h4, h5⟩
 ·exact .inl h2
 ·exact .inr ⟨g, cap, cur, rfl, h3, (hb g rfl).trans h4, h5⟩
theorem kBX {w : World} {base : Nat} {e : TypeId} {size : Nat} {ao : Option Addr} {k c n : Nat} {xs : List Value} (h : w.ownsRow base e size (.slice ao k c) n xs) (g : Nat) (hg : g ∈ blk ao) :
  ∃ cur, w.heap[g]? = some (.cells cur e (0, 0)) := by
 rcases h.2 with ⟨h2, _⟩ | ⟨g', cap, cur, h2, h3, h4, h5⟩
 ·injection h2 with h2; subst h2; simp [blk] at hg
 ·injection h2 with h2; subst h2; simp [blk] at hg; subst hg; exact ⟨cur, h4⟩
theorem kBE (ao : Option Addr) (n c : Nat) (g : Nat) : (Value.slice ao n c).ownBlock = some g ↔ g ∈ blk ao := by
 cases ao <;> simp [Value.ownBlock, blk, eq_comm]
theorem Rep.congr {w w' : World} {a : Nat} {l : Lay} {H : HS} (h : Rep w a l H) (hb : ∀ g ∈ foot a l, w'.heap[g]? = w.heap[g]?) : Rep w' a l H := by
 have h4 : ∀ g, g ∈ blk l.pm ∨ g ∈ blk l.ps ∨ g ∈ blk l.po ∨ g ∈ blk l.pb → w'.heap[g]? = w.heap[g]? := fun g hg => hb g (by simp only [foot, Lay.blocks, jAF, jAC]; rcases hg with h | h | h | h <;> simp [h])
 exact ⟨(hb a (by simp [foot])).trans h.top, h.ml, kAE h.mem fun g hg => h4 g (.inl ((kBE _ _ _ _).1 hg)), kAE h.fD fun g hg => h4 g (.inr (.inl ((kBE _ _ _ _).1 hg))),
  kAE h.fC fun g hg => h4 g (.inr (.inr (.inl ((kBE _ _ _ _).1 hg)))), kAE h.bits fun g hg => h4 g (.inr (.inr (.inr ((kBE _ _ _ _).1 hg))))⟩
theorem kAB {w : World} {g : Nat} {o : Obj} (h : w.heap[g]? = some o) : g < w.heap.size := (jBW.1 h).1
theorem Rep.lt {w : World} {a : Nat} {l : Lay} {H : HS} (h : Rep w a l H) : ∀ g ∈ foot a l, g < w.heap.size := by
 intro g hg;simp only [foot, Lay.blocks, jAF, jAC] at hg;rcases hg with rfl | ((hg | hg) | hg) | hg
 ·exact kAB h.top
 ·obtain ⟨c, hc⟩ := kBX h.mem g hg; exact kAB hc
 ·obtain ⟨c, hc⟩ := kBX h.fD g hg; exact kAB hc
 ·obtain ⟨c, hc⟩ := kBX h.fC g hg; exact kAB hc
 ·obtain ⟨c, hc⟩ := kBX h.bits g hg; exact kAB hc
theorem Rep.keep {w w' : World} {a : Nat} {l : Lay} {H : HS} {S : List Nat} (h : Rep w a l H) (hf : Fr S w w') (hd : ∀ g ∈ foot a l, g ∉ S) : Rep w' a l H :=
 h.congr fun g hg => hf.block g (h.lt g hg) (hd g hg)
theorem Rep.drewN {w : World} {a : Nat} {l : Lay} {H : HS} (h : Rep w a l H) (n : Nat) : Rep (w.drewN n) a l H := h.congr fun g _ => by rw [kIr]
theorem Rep.alloc {w : World} {a : Nat} {l : Lay} {H : HS} (h : Rep w a l H) (o : Obj) : Rep (w.alloc o) a l H := h.congr fun g hg => jAN _ _ _ (h.lt g hg)
theorem kAC {w : World} {a : Nat} {C : Array Value} {t : TypeId} (h : w.heap[a]? = some (.cells C t (0, 0))) (i : Nat) : w.cell? ⟨a, i, none⟩ = C[i]? := by simp [World.cell?, h]
theorem kAD {w : World} {a : Nat} {C : Array Value} {t : TypeId} (h : w.heap[a]? = some (.cells C t (0, 0))) (i : Nat) : w.frozen? ⟨a, i, none⟩ = false := by simp [World.frozen?, h]
theorem kAI {w : World} {a : Nat} {C : Array Value} {t : TypeId} (h : w.heap[a]? = some (.cells C t (0, 0))) (i : Nat) (v : Value) : (w.setCell ⟨a, i, none⟩ v).heap[a]? = some (.cells (C.setIfInBounds i v) t (0, 0)) := by
 simp [World.setCell, Array.getElem?_modify, h]
theorem Rep.frozen {w : World} {a : Nat} {l : Lay} {H : HS} (h : Rep w a l H) (i : Nat) : w.frozen? ⟨a, i, none⟩ = false := kAD h.top i
theorem Rep.c0 {w : World} {a : Nat} {l : Lay} {H : HS} (h : Rep w a l H) : w.cell? ⟨a, 0, none⟩ = some (.pointer (some ⟨a, 0, none⟩)) := by rw [kAC h.top]; rfl
theorem Rep.c1 {w : World} {a : Nat} {l : Lay} {H : HS} (h : Rep w a l H) : w.cell? ⟨a, 1, none⟩ = some (int i64 H.fH) := by rw [kAC h.top]; rfl
theorem Rep.c2 {w : World} {a : Nat} {l : Lay} {H : HS} (h : Rep w a l H) : w.cell? ⟨a, 2, none⟩ = some (int i64 H.fM) := by rw [kAC h.top]; rfl
theorem Rep.c3 {w : World} {a : Nat} {l : Lay} {H : HS} (h : Rep w a l H) : w.cell? ⟨a, 3, none⟩ = some (int i64 H.mark) := by rw [kAC h.top]; rfl
theorem Rep.c4 {w : World} {a : Nat} {l : Lay} {H : HS} (h : Rep w a l H) : w.cell? ⟨a, 4, none⟩ = some (.slice l.pm H.mem.length l.cm) := by rw [kAC h.top]; rfl
theorem Rep.c5 {w : World} {a : Nat} {l : Lay} {H : HS} (h : Rep w a l H) : w.cell? ⟨a, 5, none⟩ = some (.slice l.ps H.fD.length l.cs) := by rw [kAC h.top]; rfl
theorem Rep.c6 {w : World} {a : Nat} {l : Lay} {H : HS} (h : Rep w a l H) : w.cell? ⟨a, 6, none⟩ = some (.slice l.po H.fC.length l.co) := by rw [kAC h.top]; rfl
theorem Rep.c7 {w : World} {a : Nat} {l : Lay} {H : HS} (h : Rep w a l H) : w.cell? ⟨a, 7, none⟩ = some (.slice l.pb H.bits.length l.cb) := by rw [kAC h.top]; rfl
theorem Rep.c8 {w : World} {a : Nat} {l : Lay} {H : HS} (h : Rep w a l H) : w.cell? ⟨a, 8, none⟩ = some (int i64 H.low) := by rw [kAC h.top]; rfl
theorem Rep.c9 {w : World} {a : Nat} {l : Lay} {H : HS} (h : Rep w a l H) : w.cell? ⟨a, 9, none⟩ = some (int i64 H.count) := by rw [kAC h.top]; rfl
theorem Rep.c10 {w : World} {a : Nat} {l : Lay} {H : HS} (h : Rep w a l H) : w.cell? ⟨a, 10, none⟩ = some (int i64 H.age) := by rw [kAC h.top]; rfl
theorem Rep.top_ne {w : World} {a : Nat} {l : Lay} {H : HS} (h : Rep w a l H) : ∀ g ∈ l.blocks, g ≠ a := by
 intro g hg e;subst e;have ht := h.top;simp only [Lay.blocks, jAC] at hg;rcases hg with ((hg | hg) | hg) | hg
 ·obtain ⟨c, hc⟩ := kBX h.mem g hg; rw [hc] at ht; simp at ht
 ·obtain ⟨c, hc⟩ := kBX h.fD g hg; rw [hc] at ht; simp at ht
 ·obtain ⟨c, hc⟩ := kBX h.fC g hg; rw [hc] at ht; simp at ht
 ·obtain ⟨c, hc⟩ := kBX h.bits g hg; rw [hc] at ht; simp at ht
theorem Rep.set {w : World} {a : Nat} {l : Lay} {H H' : HS} (h : Rep w a l H) (i : Nat) (v : Value) (hc : kBv a l H' = (kBv a l H).setIfInBounds i v)
  (hm : H'.mem = H.mem) (hs : H'.fD = H.fD) (ho : H'.fC = H.fC) (hbt : H'.bits = H.bits) : Rep (w.setCell ⟨a, i, none⟩ v) a l H' := by
 have hk : ∀ g ∈ l.blocks, (w.setCell ⟨a, i, none⟩ v).heap[g]? = w.heap[g]? := fun g hg => jAw _ _ _ _ (h.top_ne g hg)
 have h4 : ∀ g, g ∈ blk l.pm ∨ g ∈ blk l.ps ∨ g ∈ blk l.po ∨ g ∈ blk l.pb → (w.setCell ⟨a, i, none⟩ v).heap[g]? = w.heap[g]? := fun g hg => hk g (by simp only [Lay.blocks, jAC]; rcases hg with h | h | h | h <;> simp [h])
 refine ⟨by rw [hc]; exact kAI h.top i v, by rw [hm]; exact h.ml, ?_, ?_, ?_, ?_⟩
 ·rw [hm]; exact kAE h.mem fun g hg => h4 g (.inl ((kBE _ _ _ _).1 hg))
 ·rw [hs]; exact kAE h.fD fun g hg => h4 g (.inr (.inl ((kBE _ _ _ _).1 hg)))
 ·rw [ho]; exact kAE h.fC fun g hg => h4 g (.inr (.inr (.inl ((kBE _ _ _ _).1 hg))))
 ·rw [hbt]; exact kAE h.bits fun g hg => h4 g (.inr (.inr (.inr ((kBE _ _ _ _).1 hg))))
theorem qT {α : Type _} {xs : List α} {i : Nat} (h : i < xs.toArray.size) : xs.toArray[i] = xs[i]'(by simpa using h) := rfl
theorem qZ {α : Type _} (a : α) (l : List α) (h : 0 < (a :: l).length) : (a :: l)[0] = a := rfl
theorem qS {α : Type _} (a : α) (l : List α) (i : Nat) (h : i + 1 < (a :: l).length) : (a :: l)[i + 1] = l[i]'(Nat.lt_of_succ_lt_succ h) := rfl
theorem qB {α : Type _} (l : List α) (i : Nat) (a : α) : l.toArray.setIfInBounds i a = (l.set i a).toArray := List.setIfInBounds_toArray l i a
theorem qY {α : Type _} {a x : α} {l : List α} : (a :: l).set 0 x = x :: l := rfl
theorem qX {α : Type _} {a x : α} {l : List α} {n : Nat} : (a :: l).set (n + 1) x = a :: l.set n x := rfl
end Go.Proofs.YtflgicdbbogllaaGreatDoor
namespace Go.Proofs.YtflgicdbbogllaaGreatDoor
open Go.RowKit Tryz
open Value (int)
open IntKind (i64)
theorem kBp (n : Int) : IntKind.i64.wrap n = wrap64 n := by
 simp [IntKind.wrap, IntKind.signed, IntKind.bits, wrap64]
 split <;> omega
theorem and3 (n : Int) : bits .and .i64 n 3 = n % 4 := by
 unfold bits;simp only [BitVec.toNat_and, BitVec.toNat_ofInt];rw [kBp];have e : ((3 : Int) % ((2 ^ IntKind.i64.bits : Nat) : Int)).toNat = 2 ^ 2 - 1 := by decide
 rw [e, Nat.and_two_pow_sub_one_eq_mod];have e2 : ((2 ^ IntKind.i64.bits : Nat) : Int) = 18446744073709551616 := by decide
 rw [e2];unfold wrap64;omega
def kAJ (n : Int) : Int :=
 if n % 2 = 1 then (if -2147483647 ≤ n ∧ n ≤ 2147483647 then 1 else 0)
 else if n % 4 = 2 then (if 2 ≤ n ∧ n ≤ 16382 then 2 else 0)
 else (if 4 ≤ n ∧ n ≤ 262144 then 3 else 0)
theorem kIw (n : Int) : kAJ n = 0 ∨ kAJ n = 1 ∨ kAJ n = 2 ∨ kAJ n = 3 := by
 unfold kAJ; (repeat' split); all_goals omega
theorem kJp (n : Int) : kAJ n = 1 ↔ n % 2 = 1 ∧ -2147483647 ≤ n ∧ n ≤ 2147483647 := by
 unfold kAJ; (repeat' split); all_goals omega
theorem kind2 (n : Int) : kAJ n = 2 ↔ n % 4 = 2 ∧ 2 ≤ n ∧ n ≤ 16382 := by
 unfold kAJ; (repeat' split); all_goals omega
theorem kHT (n : Int) : kAJ n = 3 ↔ n % 4 = 0 ∧ 4 ≤ n ∧ n ≤ 262144 := by
 unfold kAJ; (repeat' split); all_goals omega
theorem half (n : Int) (h : n % 2 = 1) : (n - 1).tdiv 2 = (n - 1) / 2 := by
 rw [Int.tdiv_eq_ediv, jp (Or.inr (by omega))]; omega
theorem kBK {k : IntKind} {a b : Int} (h : a = b) : Ending.returned (.int k a) = .returned (.int k b) := by rw [h]
theorem kBt {a b : Bool} (h : a = b) : Ending.returned (.bool a) = .returned (.bool b) := by rw [h]
theorem kAm (n : Int) (w : World) (h0 : -9223372036854775808 ≤ n) (h1 : n ≤ 9223372036854775807) :
  Calls prog 6 #[int i64 n] w fun e w' => e = .returned (int i64 (n)) ∧ w' = w := by
 go_enter func6, ntmps6
 go_wp2
 go_ret
 exact ⟨kBK (by first | rfl | (unfold wrap64; omega)), rfl⟩
theorem kDV (n : Int) (w : World) (h0 : -1073741824 ≤ n) (h1 : n ≤ 1073741823) :
  Calls prog 150 #[int i64 n] w fun e w' => e = .returned (int i64 (2 * n + 1)) ∧ w' = w := by
 go_enter func150, ntmps150
 go_wp2
 go_ret
 exact ⟨rfl, rfl⟩
theorem kCS (n : Int) (w : World) (h0 : 0 ≤ n) (h1 : n ≤ 4095) :
  Calls prog 151 #[int i64 n] w fun e w' => e = .returned (int i64 (4 * n + 2)) ∧ w' = w := by
 go_enter func151, ntmps151
 go_wp2
 go_ret
 exact ⟨rfl, rfl⟩
theorem kCR (n : Int) (w : World) (h0 : 1 ≤ n) (h1 : n ≤ 65536) :
  Calls prog 131 #[int i64 n] w fun e w' => e = .returned (int i64 (4 * n)) ∧ w' = w := by
 go_enter func131, ntmps131
 go_wp2
 go_ret
 exact ⟨rfl, rfl⟩
theorem kMQ  (w : World)  :
  Calls prog 148 #[int i64 1] w fun e w' => e = .returned (.tuple #[int i64 (-2147483647), int i64 (2147483647)]) ∧ w' = w := by
 go_enter func148, ntmps148
 go_wp2_with (first | (go_at_call 150; refine (kDV _ _ (by omega) (by omega)).mono ?_; rintro e w' ⟨rfl, rfl⟩) | (go_at_call 151; refine (kCS _ _ (by omega) (by omega)).mono ?_; rintro e w' ⟨rfl, rfl⟩) | (go_at_call 131; refine (kCR _ _ (by omega) (by omega)).mono ?_; rintro e w' ⟨rfl, rfl⟩))
 go_ret2
 exact ⟨rfl, rfl⟩
theorem span2  (w : World)  :
  Calls prog 148 #[int i64 2] w fun e w' => e = .returned (.tuple #[int i64 (2), int i64 (16382)]) ∧ w' = w := by
 go_enter func148, ntmps148
 go_wp2_with (first | (go_at_call 150; refine (kDV _ _ (by omega) (by omega)).mono ?_; rintro e w' ⟨rfl, rfl⟩) | (go_at_call 151; refine (kCS _ _ (by omega) (by omega)).mono ?_; rintro e w' ⟨rfl, rfl⟩) | (go_at_call 131; refine (kCR _ _ (by omega) (by omega)).mono ?_; rintro e w' ⟨rfl, rfl⟩))
 go_ret2
 exact ⟨rfl, rfl⟩
theorem span3  (w : World)  :
  Calls prog 148 #[int i64 3] w fun e w' => e = .returned (.tuple #[int i64 (4), int i64 (262144)]) ∧ w' = w := by
 go_enter func148, ntmps148
 go_wp2_with (first | (go_at_call 150; refine (kDV _ _ (by omega) (by omega)).mono ?_; rintro e w' ⟨rfl, rfl⟩) | (go_at_call 151; refine (kCS _ _ (by omega) (by omega)).mono ?_; rintro e w' ⟨rfl, rfl⟩) | (go_at_call 131; refine (kCR _ _ (by omega) (by omega)).mono ?_; rintro e w' ⟨rfl, rfl⟩))
 go_ret2
 exact ⟨rfl, rfl⟩
def Tab (w : World) : Prop := w.cell? ⟨0, 0, none⟩ = some (int i64 3) ∧ w.cell? ⟨0, 1, none⟩ = some (int i64 1) ∧ w.cell? ⟨0, 2, none⟩ = some (int i64 2) ∧ w.cell? ⟨0, 3, none⟩ = some (int i64 1)
theorem kIv (n : Int) (w : World) (hT : Tab w) (hr : n % 4 = 0) (h0 : 4 ≤ n) (h1 : n ≤ 262144) :
  Calls prog 132 #[int i64 n] w fun e w' => e = .returned (int i64 (3)) ∧ w' = w := by
 obtain ⟨c0, c1, c2, c3⟩ := hT;have hb : bits .and .i64 n 3 = 0 := by rw [and3, hr]
 clear hr;go_enter func132, ntmps132
 go_wp2_with (go_at_call 148; refine (span3 _).mono ?_; rintro e w' ⟨rfl, rfl⟩)
 go_ret
 exact ⟨rfl, rfl⟩
theorem kHZ (n : Int) (w : World) (hT : Tab w) (hr : n % 4 = 0) (h : n < 4 ∨ 262144 < n) :
  Calls prog 132 #[int i64 n] w fun e w' => e = .returned (int i64 (0)) ∧ w' = w := by
 obtain ⟨c0, c1, c2, c3⟩ := hT;have hb : bits .and .i64 n 3 = 0 := by rw [and3, hr]
 clear hr;rcases h with h | h
 all_goals
  go_enter func132, ntmps132
  go_wp2_with (go_at_call 148; refine (span3 _).mono ?_; rintro e w' ⟨rfl, rfl⟩)
  go_ret
  exact ⟨rfl, rfl⟩
theorem kIy (n : Int) (w : World) (hT : Tab w) (hr : n % 4 = 1) (h0 : -2147483647 ≤ n) (h1 : n ≤ 2147483647) :
  Calls prog 132 #[int i64 n] w fun e w' => e = .returned (int i64 (1)) ∧ w' = w := by
 obtain ⟨c0, c1, c2, c3⟩ := hT;have hb : bits .and .i64 n 3 = 1 := by rw [and3, hr]
 clear hr;go_enter func132, ntmps132
 go_wp2_with (go_at_call 148; refine (kMQ _).mono ?_; rintro e w' ⟨rfl, rfl⟩)
 go_ret
 exact ⟨rfl, rfl⟩
theorem kHp (n : Int) (w : World) (hT : Tab w) (hr : n % 4 = 1) (h : n < -2147483647 ∨ 2147483647 < n) :
  Calls prog 132 #[int i64 n] w fun e w' => e = .returned (int i64 (0)) ∧ w' = w := by
 obtain ⟨c0, c1, c2, c3⟩ := hT;have hb : bits .and .i64 n 3 = 1 := by rw [and3, hr]
 clear hr;rcases h with h | h
 all_goals
  go_enter func132, ntmps132
  go_wp2_with (go_at_call 148; refine (kMQ _).mono ?_; rintro e w' ⟨rfl, rfl⟩)
  go_ret
  exact ⟨rfl, rfl⟩
theorem kJV (n : Int) (w : World) (hT : Tab w) (hr : n % 4 = 2) (h0 : 2 ≤ n) (h1 : n ≤ 16382) :
  Calls prog 132 #[int i64 n] w fun e w' => e = .returned (int i64 (2)) ∧ w' = w := by
 obtain ⟨c0, c1, c2, c3⟩ := hT;have hb : bits .and .i64 n 3 = 2 := by rw [and3, hr]
 clear hr;go_enter func132, ntmps132
 go_wp2_with (go_at_call 148; refine (span2 _).mono ?_; rintro e w' ⟨rfl, rfl⟩)
 go_ret
 exact ⟨rfl, rfl⟩
theorem kHR (n : Int) (w : World) (hT : Tab w) (hr : n % 4 = 2) (h : n < 2 ∨ 16382 < n) :
  Calls prog 132 #[int i64 n] w fun e w' => e = .returned (int i64 (0)) ∧ w' = w := by
 obtain ⟨c0, c1, c2, c3⟩ := hT;have hb : bits .and .i64 n 3 = 2 := by rw [and3, hr]
 clear hr;rcases h with h | h
 all_goals
  go_enter func132, ntmps132
  go_wp2_with (go_at_call 148; refine (span2 _).mono ?_; rintro e w' ⟨rfl, rfl⟩)
  go_ret
  exact ⟨rfl, rfl⟩
theorem kJa (n : Int) (w : World) (hT : Tab w) (hr : n % 4 = 3) (h0 : -2147483647 ≤ n) (h1 : n ≤ 2147483647) :
  Calls prog 132 #[int i64 n] w fun e w' => e = .returned (int i64 (1)) ∧ w' = w := by
 obtain ⟨c0, c1, c2, c3⟩ := hT;have hb : bits .and .i64 n 3 = 3 := by rw [and3, hr]
 clear hr;go_enter func132, ntmps132
 go_wp2_with (go_at_call 148; refine (kMQ _).mono ?_; rintro e w' ⟨rfl, rfl⟩)
 go_ret
 exact ⟨rfl, rfl⟩
theorem kHz (n : Int) (w : World) (hT : Tab w) (hr : n % 4 = 3) (h : n < -2147483647 ∨ 2147483647 < n) :
  Calls prog 132 #[int i64 n] w fun e w' => e = .returned (int i64 (0)) ∧ w' = w := by
 obtain ⟨c0, c1, c2, c3⟩ := hT;have hb : bits .and .i64 n 3 = 3 := by rw [and3, hr]
 clear hr;rcases h with h | h
 all_goals
  go_enter func132, ntmps132
  go_wp2_with (go_at_call 148; refine (kMQ _).mono ?_; rintro e w' ⟨rfl, rfl⟩)
  go_ret
  exact ⟨rfl, rfl⟩
theorem kEO (n : Int) (w : World) (hT : Tab w) :
  Calls prog 132 #[int i64 n] w fun e w' => e = .returned (int i64 (kAJ n)) ∧ w' = w := by
 have h4 : n % 4 = 0 ∨ n % 4 = 1 ∨ n % 4 = 2 ∨ n % 4 = 3 := by omega
 rcases h4 with h4 | h4 | h4 | h4
 ·by_cases h : 4 ≤ n ∧ n ≤ 262144
  ·have e : kAJ n = 3 := (kHT n).2 ⟨h4, h⟩;rw [e]; exact kIv n w hT h4 h.1 h.2
  ·have e : kAJ n = 0 := by unfold kAJ; (repeat' split); all_goals omega
   rw [e]; exact kHZ n w hT h4 (by omega)
 ·by_cases h : -2147483647 ≤ n ∧ n ≤ 2147483647
  ·have e : kAJ n = 1 := (kJp n).2 ⟨by omega, h⟩;rw [e]; exact kIy n w hT h4 h.1 h.2
  ·have e : kAJ n = 0 := by unfold kAJ; (repeat' split); all_goals omega
   rw [e]; exact kHp n w hT h4 (by omega)
 ·by_cases h : 2 ≤ n ∧ n ≤ 16382
  ·have e : kAJ n = 2 := (kind2 n).2 ⟨h4, h⟩;rw [e]; exact kJV n w hT h4 h.1 h.2
  ·have e : kAJ n = 0 := by unfold kAJ; (repeat' split); all_goals omega
   rw [e]; exact kHR n w hT h4 (by omega)
 ·by_cases h : -2147483647 ≤ n ∧ n ≤ 2147483647
  ·have e : kAJ n = 1 := (kJp n).2 ⟨by omega, h⟩;rw [e]; exact kJa n w hT h4 h.1 h.2
  ·have e : kAJ n = 0 := by unfold kAJ; (repeat' split); all_goals omega
   rw [e]; exact kHz n w hT h4 (by omega)
def isW (n : Int) : Bool := kAJ n != 0
theorem kBG (n : Int) (w : World) (hT : Tab w) :
  Calls prog 92 #[int i64 n] w fun e w' => e = .returned (.bool (isW n)) ∧ w' = w := by
 have hK := kEO n w hT;have hi : Hid (isW n = (kAJ n != 0)) := rfl;generalize kAJ n = q at *;go_enter func92, ntmps92
 go_wp2_with (go_at_call 132; refine hK.mono ?_; rintro e w' ⟨rfl, rfl⟩)
 go_ret
 exact ⟨kBt hi.out.symm, rfl⟩
def isF (n : Int) : Bool := n == 0 || n == 1
theorem kAu (n : Int) (w : World) :
  Calls prog 93 #[int i64 n] w fun e w' => e = .returned (.bool (isF n)) ∧ w' = w := by
 by_cases h0 : n = 0
 ·subst h0;go_enter func93, ntmps93
  go_wp2
  go_ret
  exact ⟨rfl, rfl⟩
 ·have hb : (n == 0) = false := by simpa using h0
  have hi : Hid (isF n = (n == 1)) := by unfold isF; simp [hb, Hid]
  clear h0;go_enter func93, ntmps93
  go_wp2
  go_ret
  exact ⟨kBt hi.out.symm, rfl⟩
def isM (k : Int) : Bool := decide (0 ≤ k ∧ k ≤ 1073741824)
theorem kDt (n : Int) (w : World) :
  Calls prog 114 #[int i64 n] w fun e w' => e = .returned (.bool (isM n)) ∧ w' = w := by
 by_cases h0 : 0 ≤ n
 ·have hi : Hid (isM n = decide (n ≤ 1073741824)) := by unfold isM; simp [h0, Hid]
  go_enter func114, ntmps114
  go_wp2
  go_ret
  exact ⟨kBt hi.out.symm, rfl⟩
 ·have hi : Hid (isM n = false) := by unfold isM; simp [h0, Hid]
  go_enter func114, ntmps114
  go_wp2
  go_ret
  exact ⟨kBt hi.out.symm, rfl⟩
def kBd (n f : Int) : Int := if f = 1 then 2 + (n + 3) / 4 else 2 + n
theorem kBo (n f : Int) (w : World) (h0 : 0 ≤ n) (h1 : n ≤ 1000000000) :
  Calls prog 95 #[int i64 n, int i64 f] w fun e w' => e = .returned (int i64 (kBd n f)) ∧ w' = w := by
 by_cases hf : f = 1
 ·subst hf;have hi : Hid (kBd n 1 = 2 + (n + 3) / 4) := by unfold kBd Hid; simp
  go_enter func95, ntmps95
  go_wp2
  go_ret
  exact ⟨kBK (by rw [hi.out]; first | rfl | omega), rfl⟩
 ·have hi : Hid (kBd n f = 2 + n) := by unfold kBd Hid; simp [hf]
  have hb : (f == 1) = false := by simpa using hf
  clear hf;go_enter func95, ntmps95
  go_wp2
  go_ret
  exact ⟨kBK (by rw [hi.out]), rfl⟩
theorem kLB : (prog.info? 93).isSome = true := by kernel_rfl
theorem kAh (a : Nat) (w : World) (h : w.cell? ⟨a, 0, none⟩ = some (.pointer (some ⟨a, 0, none⟩))) :
  Calls prog 88 #[.pointer (some ⟨a, 0, none⟩)] w fun e w' => e = .returned (.bool true) ∧ w' = w := by
 obtain ⟨j, hj⟩ := jAv.1 kLB;have hq := run_eql_ptr_same (P := prog) w ⟨a, 0, none⟩ underlying46 hj;clear hj;go_enter func88, ntmps88
 go_wp2
 go_ret
 exact ⟨rfl, rfl⟩
def kCm : Lay := ⟨none, 0, none, 0, none, 0, none, 0⟩
def kBZ (fH fM : Nat) : HS := ⟨fH, fM, 0, [], [], [], [], 0, 0, 0⟩
theorem kPS (w : World) (fH fM : Nat) : Rep (w.alloc (.cells (kBv w.heap.size kCm (kBZ fH fM)) 93)) w.heap.size kCm (kBZ fH fM) :=
 ⟨heap_alloc_new w _, jAD _, jAS _ _ _ _, jAS _ _ _ _, jAS _ _ _ _, jAS _ _ _ _⟩
theorem kOa (fH fM : Nat) (w : World) (h1 : (fH : Int) ≤ 1048576) (h2 : (fM : Int) ≤ 65536) :
  Calls prog 10 #[int i64 fH, int i64 fM] w fun e w' => e = .returned (.tuple #[.pointer (some ⟨w.heap.size, 0, none⟩), int i64 0]) ∧ Rep w' w.heap.size kCm (kBZ fH fM) ∧ Fr [] w w' ∧ w'.heap.size = w.heap.size + 1 := by
 have g1 : (0 : Int) ≤ fH := by omega
 have g2 : (0 : Int) ≤ fM := by omega
 go_enter func10, ntmps10
 go_wp2
 go_ret2
 exact ⟨rfl, kPS w fH fM, Fr.alloc [] w _, by simp⟩
theorem kPW (k : Nat) (a : Nat) (l : Lay) (H : HS) (w : World) (h : Rep w a l H) (hk : (k : Int) ≤ 1073741824) :
  Calls prog 67 #[.pointer (some ⟨a, 0, none⟩), int i64 k] w fun e w' => e = .returned (int i64 0) ∧ Rep w' a l { H with mark := k } ∧ Fr [a] w w' ∧ w'.heap.size = w.heap.size := by
 have hm := kDt k w;rw [show isM k = true from by simp [isM]; omega] at hm;have c0 := h.c0;have c3 := h.c3;have f3 := h.frozen 3;have R : Hid (Rep (w.setCell ⟨a, 3, none⟩ (int i64 k)) a l { H with mark := k }) := h.set 3 _ rfl rfl rfl rfl rfl;have F : Hid (Fr [a] w (w.setCell ⟨a, 3, none⟩ (int i64 k))) := Fr.setCell w _ _ (by simp);clear h;go_enter func67, ntmps67
 go_wp2_with (first | (go_at_call 88; refine (kAh _ _ c0).mono ?_; rintro e w' ⟨rfl, rfl⟩) | (go_at_call 114; refine hm.mono ?_; rintro e w' ⟨rfl, rfl⟩))
 go_ret
 exact ⟨rfl, R.out, F.out, by simp⟩
theorem kFL (a : Nat) (l : Lay) (H : HS) (w : World) (h : Rep w a l H) :
  Calls prog 62 #[.pointer (some ⟨a, 0, none⟩)] w fun e w' => e = .returned (int i64 H.mark) ∧ w' = w := by
 have c0 := h.c0;have c3 := h.c3;clear h;go_enter func62, ntmps62
 go_wp2_with (go_at_call 88; refine (kAh _ _ c0).mono ?_; rintro e w' ⟨rfl, rfl⟩)
 go_ret
 exact ⟨rfl, rfl⟩
structure kDX (H : HS) : Prop where
 fH : (H.fH : Int) ≤ 1048576
 fM : (H.fM : Int) ≤ 65536
 mem : (H.mem.length : Int) ≤ H.fH
 count : (H.count : Int) ≤ H.fM
 mark : (H.mark : Int) ≤ 1073741824
theorem kDD (a : Nat) (l : Lay) (H : HS) (w : World) (h : Rep w a l H) (hs : kDX H) :
  Calls prog 94 #[.pointer (some ⟨a, 0, none⟩)] w fun e w' => e = .returned (.tuple #[int i64 (H.fH - H.mem.length), int i64 (H.fM - H.count)]) ∧ ∃ n, w' = w.drewN n := by
 have c0 := h.c0;have c1 := h.c1;have c2 := h.c2;have c4 := h.c4;have c9 := h.c9;obtain ⟨s1, s2, s3, s4, s5⟩ := hs;clear h;generalize H.mem.length = m at *;generalize H.fH = x at *;generalize H.fM = y at *;generalize H.count = z at *;go_enter func94, ntmps94
 go_wp2_with (go_at_call 88; refine (kAh _ _ c0).mono ?_; rintro e w' ⟨rfl, rfl⟩)
 go_quiet (fail)
 go_wp2
 go_ret2
 exact ⟨rfl, _, rfl⟩
def kCQ (w : World) : Prop := TabAt 1 Lib.deBruijn64tab w
theorem kQE (x k idx : Nat) (w : World) (hx0 : ((x : Int) == 0) = false)
  (key : IntKind.u64.wrap (bits BinOp.and IntKind.u64 (x : Int) (IntKind.u64.wrap (-(x : Int))) * 285870213051353865) / 288230376151711744 = (idx : Int))
  (hi : idx < 64) (hk : k < 64) (hcell : w.cell? ⟨1, idx, none⟩ = some (.int .u8 k)) :
  Calls prog 133 #[.int .u64 x] w fun e w' => e = .returned (int i64 k) ∧ w' = w := by
 go_enter func133, ntmps133
 go_wp2_with (simp only [key])
 go_ret
 exact ⟨rfl, rfl⟩
theorem tz_any (x : Nat) (hx : x < 18446744073709551616) (hx0 : x ≠ 0) (w : World) (hT : kCQ w) :
  Calls prog 133 #[.int .u64 x] w fun e w' => e = .returned (int i64 (Lib.ctz 64 x)) ∧ w' = w := by
 obtain ⟨hlow, hk⟩ := Lib.lowest_bit 64 x hx0 hx;obtain ⟨hi, htab⟩ := Lib.deBruijn64_at _ hk;have hcell := hT _ hi;rw [htab] at hcell;exact kQE x _ _ w (by simp; omega) (tz64_key x _ hx hx0 hlow) hi hk hcell
def full : Nat := 18446744073709551615
theorem kIK {w : World} {base : Nat} {e : TypeId} {ao : Option Addr} {c n : Nat} {xs : List Value} (h : w.ownsRow base e 1 (.slice ao n c) n xs) (k : Nat) (hk : k < n) :
  ∃ g, ao = some ⟨g, 0, none⟩ ∧ (∀ i, i < n → w.cell? ⟨g, i, none⟩ = xs[i]?) ∧ (∀ i, w.frozen? ⟨g, i, none⟩ = false) ∧ n ≤ c ∧ ∃ cur, w.heap[g]? = some (.cells cur e (0, 0)) ∧ cur.size = c := by
 rcases h.2 with ⟨h2, h3⟩ | ⟨g', cap, cur, h2, h3, h4, h5, h6, h7, h8⟩
 ·omega
 ·injection h2 with h2 h2b h2c
  subst h2;subst h2c;exact ⟨g', rfl, fun i hi => h.cellAt i (by omega), fun i => kAD h4 i, h5, cur, h4, by omega⟩
theorem Rep.bitAt {w : World} {a : Nat} {l : Lay} {H : HS} (h : Rep w a l H) (k : Nat) (hk : k < H.bits.length) :
  ∃ g, l.pb = some ⟨g, 0, none⟩ ∧ w.cell? ⟨g, k, none⟩ = some (.int .u64 ((H.bits.getD k 0 : Nat) : Int)) ∧ w.frozen? ⟨g, k, none⟩ = false ∧ g ≠ a := by
 obtain ⟨g, hg, hc, hf, _, cur, hcur, _⟩ := kIK h.bits k hk;refine ⟨g, hg, ?_, hf k, ?_⟩
 ·rw [hc k hk]; simp [U, hk]
 ·exact h.top_ne g (by simp [Lay.blocks, blk, hg])
def kHr (bits : List Nat) (k : Nat) : Int := if k = bits.length then (k : Int) * 64 + 1 else (k : Int) * 64 + (Lib.ctz 64 (full - bits.getD k 0) : Nat) + 1
structure kFq (bits : List Nat) (low k : Nat) : Prop where
 ge : low ≤ k
 le : k ≤ bits.length
 ful : ∀ j, low ≤ j → j < k → bits.getD j 0 = full
theorem not64 (b : Nat) (hb : b < 18446744073709551616) : bits .xor .u64 18446744073709551615 (b : Int) = ((full - b : Nat) : Int) := by
 have h := u64_xor_nat 18446744073709551615 b (by omega) hb
 have e : (18446744073709551615 ^^^ b : Nat) = full - b := by
  have hx : (18446744073709551615 ^^^ b) = 2 ^ 64 - 1 - b := by
   apply Nat.eq_of_testBit_eq
   intro i;rw [Nat.testBit_xor, show (18446744073709551615 : Nat) = 2 ^ 64 - 1 from rfl, Nat.testBit_two_pow_sub_one, show 2 ^ 64 - 1 - b = 2 ^ 64 - (b + 1) from by omega, Nat.testBit_two_pow_sub_succ (by omega)]
   by_cases hi : i < 64
   ·simp [hi]
   ·simp [hi]
    exact Nat.testBit_lt_two_pow (jAb (m := 2 ^ 64) hb (jBi (n := 2) (by omega) (by omega)))
  rw [hx]; rfl
 rw [e] at h;exact h
theorem not64' (b : Nat) (hb : b < 18446744073709551616) : Go.bits .xor .u64 (if IntKind.u64.signed = true then -1 else IntKind.u64.max) (b : Int) = ((full - b : Nat) : Int) := by
 rw [show (if IntKind.u64.signed = true then (-1 : Int) else IntKind.u64.max) = 18446744073709551615 from rfl];exact not64 b hb
theorem kKk (x : Nat) (h0 : x ≠ 0) (hx : x < 18446744073709551616) : Lib.ctz 64 x < 64 := (Lib.lowest_bit 64 x h0 hx).2
theorem Fr.same (S : List Nat) {w w' : World} (h1 : w'.os = w.os) (h2 : w'.tape = w.tape) (h3 : w'.output = w.output) (h4 : w'.heap = w.heap) : Fr S w w' := ⟨h1, h2, h3, by rw [h4]; exact jAD _, fun k _ _ => by rw [h4]⟩
theorem kCQ.keep {w w' : World} {S : List Nat} (h : kCQ w) (hf : Fr S w w') (h1 : 1 < w.heap.size) (hS : 1 ∉ S) : kCQ w' := fun j hj => (hf.cell (p := ⟨1, j, none⟩) h1 hS).trans (h j hj)
theorem kCQ.same {w w' : World} (h : kCQ w) (e : w'.heap = w.heap) : kCQ w' := fun j hj => (jBa (w := w) (by rw [e])).trans (h j hj)
theorem Tab.keep {w w' : World} {S : List Nat} (h : Tab w) (hf : Fr S w w') (h1 : 0 < w.heap.size) (hS : 0 ∉ S) : Tab w' :=
 ⟨(hf.cell (p := ⟨0, 0, none⟩) h1 hS).trans h.1, (hf.cell (p := ⟨0, 1, none⟩) h1 hS).trans h.2.1, (hf.cell (p := ⟨0, 2, none⟩) h1 hS).trans h.2.2.1, (hf.cell (p := ⟨0, 3, none⟩) h1 hS).trans h.2.2.2⟩
theorem kJE (a : Nat) (l : Lay) (H : HS) (w : World) (h : Rep w a l H) (hl : H.low ≤ H.bits.length) (hn : (H.bits.length : Int) ≤ 1100) (hb : ∀ k, H.bits.getD k 0 ≤ full) (hT : kCQ w) (ha : 2 ≤ a) :
  Calls prog 96 #[.pointer (some ⟨a, 7, none⟩)] w fun e w' => ∃ k, kFq H.bits H.low k ∧ (k < H.bits.length → H.bits.getD k 0 ≠ full) ∧ e = .returned (int i64 (kHr H.bits k)) ∧ Rep w' a l { H with low := k } ∧ Fr [a] w w' ∧ w'.heap.size = w.heap.size := by
 have hlt := h.lt a (by simp [foot]);go_enter func96, ntmps96
 go_wp2
 go_loopg [] (H.bits.length - H.low) (fun gk wr => ∃ k, gk = H.bits.length - k ∧ kFq H.bits H.low k ∧ Rep wr a l { H with low := k } ∧ Fr [a] w wr ∧ wr.heap.size = w.heap.size)
 case atStart => exact ⟨H.low, rfl, ⟨jAD _, hl, fun j h1 h2 => by omega⟩, h, Fr.refl _ _, rfl⟩
 case round =>
  clear h;obtain ⟨k, rfl, hk, hr, hf, hz⟩ := hrel;have hT' : Hid (kCQ wr) := hT.keep hf (by omega) (by simp; omega);have hkl := hk.le;have c7 := hr.c7;have c8 := hr.c8;have f8 := hr.frozen 8;dsimp only at c7 c8
  by_cases hkn : k < H.bits.length
  ·obtain ⟨g, hg, cg, _, hga⟩ := hr.bitAt k hkn;dsimp only at hg cg;rw [hg] at c7;have hbk := hb k
   by_cases hfl : H.bits.getD k 0 = full
   ·have R : Hid (∀ nq, Rep ((wr.drewN nq).setCell ⟨a, 8, none⟩ (int i64 ((k : Int) + 1))) a l { H with low := k + 1 }) := fun nq => (hr.drewN nq).set 8 _ rfl rfl rfl rfl rfl
    have F : Hid (∀ nq, Fr [a] w ((wr.drewN nq).setCell ⟨a, 8, none⟩ (int i64 ((k : Int) + 1)))) := fun nq => (hf.trans (Fr.drewN [a] wr nq) (by simp)).trans (Fr.setCell (S := [a]) _ _ _ (by simp)) (by simp)
    have L : Hid (kFq H.bits H.low (k + 1)) := ⟨by have := hk.ge; omega, by omega, fun j h1 h2 => by
     by_cases e : j = k
     ·rw [e]; exact hfl
     ·exact hk.ful j h1 (by omega)⟩
    rw [hfl] at cg;have hkn' : (k : Int) < H.bits.length := by omega
    have hlt' : Hid (H.bits.length - (k + 1) < H.bits.length - k) := by unfold Hid; omega
    clear hr hf hk hT' hbk hfl hg hb hl hkl;unfold full at cg
    go_wp2
    go_quiet (fail)
    go_wp2
    go_roundg (H.bits.length - (k + 1))
    case measure => exact hlt'.out
    case rel => exact ⟨k + 1, rfl, L.out, R.out _, F.out _, by simpa using hz⟩
   ·have hfl' : (((H.bits.getD k 0 : Nat) : Int) == 18446744073709551615) = false := beq_eq_false_iff_ne.2 (by unfold full at hfl; omega);have hx := not64' (H.bits.getD k 0) (by unfold full at hbk; omega);have hx0 : full - H.bits.getD k 0 ≠ 0 := by omega
    have hx1 : full - H.bits.getD k 0 < 18446744073709551616 := by unfold full; omega
    have hz1 := kKk _ hx0 hx1;have htz := fun w hT => tz_any (full - H.bits.getD k 0) hx1 hx0 w hT
    have O : Hid (kHr H.bits k = (k : Int) * 64 + ((Lib.ctz 64 (full - H.bits.getD k 0) : Nat) : Int) + 1) := by unfold kHr Hid; rw [jn (by omega)]
    have HTZ := htz;have P1 : Hid (kFq H.bits H.low k ∧ (k < H.bits.length → H.bits.getD k 0 ≠ full) ∧ Rep wr a l { H with low := k } ∧ Fr [a] w wr ∧ wr.heap.size = w.heap.size) := ⟨hk, fun _ => hfl, hr, hf, hz⟩;clear htz;have hkn' : (k : Int) < H.bits.length := by omega
    have hne : ((k : Int) == (H.bits.length : Int)) = false := by simp; omega
    clear hr hf hk hbk hfl hg hb hl hkl hx0 hx1;generalize H.bits.length = n at hn c7 hkn hkn' hne;generalize full - H.bits.getD k 0 = y at *;generalize H.bits.getD k 0 = b at cg hfl' hx;generalize Lib.ctz 64 y = z at *
    go_wp2
    go_quiet (fail)
    go_wp2
    go_quiet (fail)
    go_wp2
    go_quiet ((go_at_call 133; refine (HTZ _ (by exact hT'.out.same rfl)).mono ?_; rintro e w'' ⟨rfl, rfl⟩; exact ⟨rfl, _, rfl⟩))
    go_wp2
    go_ret
    obtain ⟨q1, q2, q3, q4, q5⟩ := P1.out;exact ⟨k, q1, q2, kBK (by rw [O.out]), q3.congr fun _ _ => rfl, q4.trans (Fr.same [] rfl rfl rfl rfl) (by simp), q5⟩
  ·have hkeq : k = H.bits.length := by omega
   have O : Hid (kHr H.bits k = (k : Int) * 64 + 1) := by unfold kHr Hid; rw [jp hkeq]
   have P1 : Hid (kFq H.bits H.low k ∧ (k < H.bits.length → H.bits.getD k 0 ≠ full) ∧ Rep wr a l { H with low := k } ∧ Fr [a] w wr ∧ wr.heap.size = w.heap.size) := ⟨hk, fun h => by omega, hr, hf, hz⟩;have hne : ((k : Int) == (H.bits.length : Int)) = true := by simp; omega
   have hnl : decide ((k : Int) < H.bits.length) = false := by simp; omega
   have hk2 : (k : Int) ≤ 1100 := by omega
   clear hr hf hk hb hl hkl hkeq;generalize H.bits.length = n at hn c7 hkn hne hnl
   go_wp2
   go_quiet (fail)
   go_wp2
   go_quiet (fail)
   go_wp2
   go_ret
   obtain ⟨q1, q2, q3, q4, q5⟩ := P1.out;exact ⟨k, q1, q2, kBK (by rw [O.out]), q3.congr fun _ _ => rfl, q4.trans (Fr.same [] rfl rfl rfl rfl) (by simp), q5⟩
def Nx (a : Nat) (l l' : Lay) (w w' : World) : Prop := Fr (foot a l) w w' ∧ ∀ b ∈ foot a l', b ∈ foot a l ∨ w.heap.size ≤ b
theorem Nx.refl (a : Nat) (l : Lay) (w : World) : Nx a l l w w := ⟨Fr.refl _ _, fun b hb => .inl hb⟩
theorem Nx.trans {a : Nat} {l l' l'' : Lay} {w w' w'' : World} (h : Nx a l l' w w') (k : Nx a l' l'' w' w'') : Nx a l l'' w w'' :=
 ⟨h.1.trans k.1 h.2, fun b hb => by
  rcases k.2 b hb with h1 | h1
  ·exact h.2 b h1
  ·exact .inr (jAU h.1.size h1)⟩
theorem Nx.fr {a : Nat} {l : Lay} {w w' : World} (h : Fr [a] w w') : Nx a l l w w' := ⟨h.mono (by simp [foot]), fun b hb => .inl hb⟩
theorem Nx.frw {a : Nat} {l : Lay} {w w' : World} (h : Fr (foot a l) w w') : Nx a l l w w' := ⟨h, fun b hb => .inl hb⟩
theorem kCl {w : World} {e e' : TypeId} {s s' : Nat} {ao ao' : Option Addr} {k c n k' c' n' : Nat} {xs xs' : List Value} (hne : e ≠ e') (h : w.ownsRow 0 e s (.slice ao k c) n xs) (h' : w.ownsRow 0 e' s' (.slice ao' k' c') n' xs') :
  ∀ g ∈ blk ao, g ∉ blk ao' := by
 intro g hg hg';obtain ⟨c1, h1⟩ := kBX h g hg;obtain ⟨c2, h2⟩ := kBX h' g hg';rw [h1] at h2
 simp at h2
 exact hne h2.2
theorem kAK {w : World} {a i : Nat} {v : Value} {g : Nat} (h : g ≠ a) : (w.setCell ⟨a, i, none⟩ v).heap[g]? = w.heap[g]? := jAw _ _ _ _ h
theorem kBW {w : World} {a i : Nat} {v : Value} {e : TypeId} {s : Nat} {ao : Option Addr} {k c n : Nat} {xs : List Value} (h : w.ownsRow 0 e s (.slice ao k c) n xs) (hn : a ∉ blk ao) : (w.setCell ⟨a, i, none⟩ v).ownsRow 0 e s (.slice ao k c) n xs :=
 kAE h fun g hg => kAK (fun e => hn (by rw [← e]; exact (kBE _ _ _ _).1 hg))
theorem kAy {w : World} {a : Nat} {C : Array Value} {e : TypeId} {s : Nat} {ao : Option Addr} {k c n : Nat} {xs : List Value} (ht : w.heap[a]? = some (.cells C 93 (0, 0))) (he : e ≠ 93) (h : w.ownsRow 0 e s (.slice ao k c) n xs) : a ∉ blk ao := by
 intro hg;obtain ⟨c1, h1⟩ := kBX h a hg;rw [h1] at ht
 simp at ht
 exact he ht.2
theorem kBL {w w' : World} {e : TypeId} {s : Nat} {ao : Option Addr} {k c n : Nat} {xs : List Value} (h : w.ownsRow 0 e s (.slice ao k c) n xs) (hb : ∀ g ∈ blk ao, w'.heap[g]? = w.heap[g]?) : w'.ownsRow 0 e s (.slice ao k c) n xs :=
 kAE h fun g hg => hb g ((kBE _ _ _ _).1 hg)
theorem Rep.putBits {w w1 : World} {a : Nat} {l : Lay} {H : HS} {pb : Option Addr} {cb : Nat} {bs : List Nat} (h : Rep w a l H)
  (hf : ∀ g, g = a ∨ g ∈ blk l.pm ∨ g ∈ blk l.ps ∨ g ∈ blk l.po → w1.heap[g]? = w.heap[g]?) (ho : w1.ownsRow 0 180 1 (.slice pb bs.length cb) bs.length (bs.map U)) :
  Rep (w1.setCell ⟨a, 7, none⟩ (.slice pb bs.length cb)) a { l with pb := pb, cb := cb } { H with bits := bs } := by
 have ht : w1.heap[a]? = some (.cells (kBv a l H) 93 (0, 0)) := (hf a (.inl rfl)).trans h.top;have m1 := kBL h.mem fun g hg => hf g (.inr (.inl hg))
 have m2 := kBL h.fD fun g hg => hf g (.inr (.inr (.inl hg)))
 have m3 := kBL h.fC fun g hg => hf g (.inr (.inr (.inr hg)))
 exact ⟨kAI ht 7 _, h.ml, kBW m1 (kAy ht (by decide) m1), kBW m2 (kAy ht (by decide) m2), kBW m3 (kAy ht (by decide) m3), kBW ho (kAy ht (by decide) ho)⟩
theorem Rep.putOrder {w w1 : World} {a : Nat} {l : Lay} {H : HS} {po : Option Addr} {co : Nat} {os : List Nat} (h : Rep w a l H)
  (hf : ∀ g, g = a ∨ g ∈ blk l.pm ∨ g ∈ blk l.ps ∨ g ∈ blk l.pb → w1.heap[g]? = w.heap[g]?) (ho : w1.ownsRow 0 3 1 (.slice po os.length co) os.length (os.map I)) :
  Rep (w1.setCell ⟨a, 6, none⟩ (.slice po os.length co)) a { l with po := po, co := co } { H with fC := os } := by
 have ht : w1.heap[a]? = some (.cells (kBv a l H) 93 (0, 0)) := (hf a (.inl rfl)).trans h.top;have m1 := kBL h.mem fun g hg => hf g (.inr (.inl hg))
 have m2 := kBL h.fD fun g hg => hf g (.inr (.inr (.inl hg)))
 have m3 := kBL h.bits fun g hg => hf g (.inr (.inr (.inr hg)))
 exact ⟨kAI ht 6 _, h.ml, kBW m1 (kAy ht (by decide) m1), kBW m2 (kAy ht (by decide) m2), kBW ho (kAy ht (by decide) ho), kBW m3 (kAy ht (by decide) m3)⟩
theorem Rep.putSeats {w w1 : World} {a : Nat} {l : Lay} {H : HS} {ps : Option Addr} {cs : Nat} {ss : List (Nat × Nat × Nat)} (h : Rep w a l H)
  (hf : ∀ g, g = a ∨ g ∈ blk l.pm ∨ g ∈ blk l.po ∨ g ∈ blk l.pb → w1.heap[g]? = w.heap[g]?) (ho : w1.ownsRow 0 148 3 (.slice ps ss.length cs) ss.length (kAZ ss)) :
  Rep (w1.setCell ⟨a, 5, none⟩ (.slice ps ss.length cs)) a { l with ps := ps, cs := cs } { H with fD := ss } := by
 have ht : w1.heap[a]? = some (.cells (kBv a l H) 93 (0, 0)) := (hf a (.inl rfl)).trans h.top;have m1 := kBL h.mem fun g hg => hf g (.inr (.inl hg))
 have m2 := kBL h.fC fun g hg => hf g (.inr (.inr (.inl hg)))
 have m3 := kBL h.bits fun g hg => hf g (.inr (.inr (.inr hg)))
 exact ⟨kAI ht 5 _, h.ml, kBW m1 (kAy ht (by decide) m1), kBW ho (kAy ht (by decide) ho), kBW m2 (kAy ht (by decide) m2), kBW m3 (kAy ht (by decide) m3)⟩
theorem Rep.putMem {w w1 : World} {a : Nat} {l : Lay} {H : HS} {pm : Option Addr} {cm : Nat} {ms : List Int} (h : Rep w a l H) (hl : ms.length ≤ cm)
  (hf : ∀ g, g = a ∨ g ∈ blk l.ps ∨ g ∈ blk l.po ∨ g ∈ blk l.pb → w1.heap[g]? = w.heap[g]?) (ho : w1.ownsRow 0 41 1 (.slice pm cm cm) cm ((ms ++ List.replicate (cm - ms.length) 0).map (int i64))) :
  Rep (w1.setCell ⟨a, 4, none⟩ (.slice pm ms.length cm)) a { l with pm := pm, cm := cm } { H with mem := ms } := by
 have ht : w1.heap[a]? = some (.cells (kBv a l H) 93 (0, 0)) := (hf a (.inl rfl)).trans h.top;have m1 := kBL h.fD fun g hg => hf g (.inr (.inl hg))
 have m2 := kBL h.fC fun g hg => hf g (.inr (.inr (.inl hg)))
 have m3 := kBL h.bits fun g hg => hf g (.inr (.inr (.inr hg)))
 exact ⟨kAI ht 4 _, hl, kBW ho (kAy ht (by decide) ho), kBW m1 (kAy ht (by decide) m1), kBW m2 (kAy ht (by decide) m2), kBW m3 (kAy ht (by decide) m3)⟩
theorem kBn {w : World} {e : TypeId} {s : Nat} {g n c : Nat} {xs : List Value} (h : w.ownsRow 0 e s (.slice (some ⟨g, 0, none⟩) n c) n xs) (j : Nat) (u : Value) : (w.setCell ⟨g, j, none⟩ u).ownsRow 0 e s (.slice (some ⟨g, 0, none⟩) n c) n (xs.set j u) :=
 (h.stored j u).1
theorem Rep.turnBits {w w1 : World} {a : Nat} {l : Lay} {H : HS} {bs : List Nat} (h : Rep w a l H) (hl : bs.length = H.bits.length)
  (hf : ∀ g, g = a ∨ g ∈ blk l.pm ∨ g ∈ blk l.ps ∨ g ∈ blk l.po → w1.heap[g]? = w.heap[g]?) (ho : w1.ownsRow 0 180 1 (.slice l.pb bs.length l.cb) bs.length (bs.map U)) : Rep w1 a l { H with bits := bs } := by
 refine ⟨?_, h.ml, kBL h.mem fun g hg => hf g (.inr (.inl hg)), kBL h.fD fun g hg => hf g (.inr (.inr (.inl hg))), kBL h.fC fun g hg => hf g (.inr (.inr (.inr hg))), ho⟩;rw [hf a (.inl rfl), h.top]; simp only [kBv, hl]
theorem Rep.turnOrder {w w1 : World} {a : Nat} {l : Lay} {H : HS} {os : List Nat} (h : Rep w a l H) (hl : os.length = H.fC.length)
  (hf : ∀ g, g = a ∨ g ∈ blk l.pm ∨ g ∈ blk l.ps ∨ g ∈ blk l.pb → w1.heap[g]? = w.heap[g]?) (ho : w1.ownsRow 0 3 1 (.slice l.po os.length l.co) os.length (os.map I)) : Rep w1 a l { H with fC := os } := by
 refine ⟨?_, h.ml, kBL h.mem fun g hg => hf g (.inr (.inl hg)), kBL h.fD fun g hg => hf g (.inr (.inr (.inl hg))), ho, kBL h.bits fun g hg => hf g (.inr (.inr (.inr hg)))⟩;rw [hf a (.inl rfl), h.top]; simp only [kBv, hl]
theorem Rep.turnSeats {w w1 : World} {a : Nat} {l : Lay} {H : HS} {ss : List (Nat × Nat × Nat)} (h : Rep w a l H) (hl : ss.length = H.fD.length)
  (hf : ∀ g, g = a ∨ g ∈ blk l.pm ∨ g ∈ blk l.po ∨ g ∈ blk l.pb → w1.heap[g]? = w.heap[g]?) (ho : w1.ownsRow 0 148 3 (.slice l.ps ss.length l.cs) ss.length (kAZ ss)) : Rep w1 a l { H with fD := ss } := by
 refine ⟨?_, h.ml, kBL h.mem fun g hg => hf g (.inr (.inl hg)), ho, kBL h.fC fun g hg => hf g (.inr (.inr (.inl hg))), kBL h.bits fun g hg => hf g (.inr (.inr (.inr hg)))⟩;rw [hf a (.inl rfl), h.top]; simp only [kBv, hl]
theorem Rep.turnMem {w w1 : World} {a : Nat} {l : Lay} {H : HS} {ms : List Int} (h : Rep w a l H) (hl : ms.length = H.mem.length)
  (hf : ∀ g, g = a ∨ g ∈ blk l.ps ∨ g ∈ blk l.po ∨ g ∈ blk l.pb → w1.heap[g]? = w.heap[g]?) (ho : w1.ownsRow 0 41 1 (.slice l.pm l.cm l.cm) l.cm ((ms ++ List.replicate (l.cm - ms.length) 0).map (int i64))) : Rep w1 a l { H with mem := ms } := by
 refine ⟨?_, by rw [hl]; exact h.ml, ho, kBL h.fD fun g hg => hf g (.inr (.inl hg)), kBL h.fC fun g hg => hf g (.inr (.inr (.inl hg))), kBL h.bits fun g hg => hf g (.inr (.inr (.inr hg)))⟩;rw [hf a (.inl rfl), h.top]; simp only [kBv, hl]
theorem Rep.apart {w : World} {a : Nat} {l : Lay} {H : HS} (h : Rep w a l H) (g : Nat) :
  (g ∈ blk l.pm → g ≠ a ∧ g ∉ blk l.ps ∧ g ∉ blk l.po ∧ g ∉ blk l.pb) ∧ (g ∈ blk l.ps → g ≠ a ∧ g ∉ blk l.pm ∧ g ∉ blk l.po ∧ g ∉ blk l.pb) ∧ (g ∈ blk l.po → g ≠ a ∧ g ∉ blk l.pm ∧ g ∉ blk l.ps ∧ g ∉ blk l.pb) ∧ (g ∈ blk l.pb → g ≠ a ∧ g ∉ blk l.pm ∧ g ∉ blk l.ps ∧ g ∉ blk l.po) := by
 refine ⟨fun hg => ⟨h.top_ne g (by simp [Lay.blocks, hg]), kCl (by decide) h.mem h.fD g hg, kCl (by decide) h.mem h.fC g hg, kCl (by decide) h.mem h.bits g hg⟩,
  fun hg => ⟨h.top_ne g (by simp [Lay.blocks, hg]), kCl (by decide) h.fD h.mem g hg, kCl (by decide) h.fD h.fC g hg, kCl (by decide) h.fD h.bits g hg⟩,
  fun hg => ⟨h.top_ne g (by simp [Lay.blocks, hg]), kCl (by decide) h.fC h.mem g hg, kCl (by decide) h.fC h.fD g hg, kCl (by decide) h.fC h.bits g hg⟩,
  fun hg => ⟨h.top_ne g (by simp [Lay.blocks, hg]), kCl (by decide) h.bits h.mem g hg, kCl (by decide) h.bits h.fD g hg, kCl (by decide) h.bits h.fC g hg⟩⟩
theorem kOh (a b : Nat) (ha : a < 9223372036854775808) (hb : b < 9223372036854775808) : Go.bits .or .i64 (a : Int) (b : Int) = ((a ||| b : Nat) : Int) := by
 unfold Go.bits;simp only [BitVec.toNat_or, BitVec.toNat_ofInt];rw [kBp]
 have e : ∀ x : Nat, x < 9223372036854775808 → ((x : Int) % ((2 ^ IntKind.i64.bits : Nat) : Int)).toNat = x := by
  intro x hx;rw [show ((2 ^ IntKind.i64.bits : Nat) : Int) = 18446744073709551616 from by decide]; omega
 rw [e a ha, e b hb];have hl : a ||| b < 2 ^ 63 := Nat.or_lt_two_pow (by omega) (by omega)
 unfold wrap64;omega
theorem kMf (n f : Nat) (hn : (n : Int) ≤ 8192) (hf : (f : Int) ≤ 1) : Go.bits .or .i64 ((n : Int) * 2) (f : Int) = ((2 * n + f : Nat) : Int) := by
 have h := kOh (n * 2) f (by omega) (by omega);rw [Int.natCast_mul] at h;rw [show ((2 : Nat) : Int) = 2 from rfl] at h;rw [h];have h2 := Nat.shiftLeft_add_eq_or_of_lt (i := 1) (b := f) (by omega) n;rw [Nat.shiftLeft_eq] at h2;rw [show n * 2 = n * 2 ^ 1 from rfl, ← h2];omega
theorem kLw (n f : Nat) (w : World) (hn : (n : Int) ≤ 8192) (hf : (f : Int) ≤ 1) :
  Calls prog 135 #[int i64 n, int i64 f] w fun e w' => e = .returned (int i64 ((2 * n + f : Nat) : Int)) ∧ w' = w := by
 go_enter func135, ntmps135
 go_wp2
 go_ret
 exact ⟨kBK (kMf n f hn hf), rfl⟩
theorem pow64 (j : Nat) : IntKind.u64.wrap (2 ^ (j % 64)) = ((2 ^ (j % 64) : Nat) : Int) := by
 have h : 2 ^ (j % 64) < 2 ^ 64 := jBg (by omega) (Nat.mod_lt _ (by omega));have e : ((2 : Int) ^ (j % 64)) = ((2 ^ (j % 64) : Nat) : Int) := by simp
 rw [e, IntKind.wrap_u64];generalize 2 ^ (j % 64) = x at *;omega
theorem kKD (k : Nat) (w : World) (h0 : (1 : Int) ≤ k) (h1 : (k : Int) ≤ 100000) :
  Calls prog 149 #[int i64 k] w fun e w' => e = .returned (.int .u64 ((2 ^ ((k - 1) % 64) : Nat) : Int)) ∧ w' = w := by
 go_enter func149, ntmps149
 go_wp2
 go_ret
 exact ⟨kBK (pow64 _), rfl⟩
end Go.Proofs.YtflgicdbbogllaaGreatDoor
