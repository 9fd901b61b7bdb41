import Derived.Test.YtklfnjlenbgmoaaDoorPG00HLow
import Derived.Deep.AppendLies
import Derived.Laws.ShiftsVar
import Derived.Deep.RegionHeld3
import Derived.Deep.DrawnRows
import Derived.Laws.CopyOwn
import Derived.Laws.MakeOwn
import Derived.Deep.DeepMust
set_option linter.unusedVariables false
namespace Go.Proofs.YtklfnjlenbgmoaaDoor
open Go.RowKit
def Nx (a : Nat) (l l' : Lay) (w w' : World) : Prop := Fr (foot a l) w w' ∧ ∀ b ∈ foot a l', b ∈ foot a l ∨ w.heap.size ≤ b
theorem Nx.refl (a : Nat) (l : Lay) (w : World) : Nx a l l w w := ⟨Fr.refl _ _, fun b hb => .inl hb⟩
theorem Nx.trans {a : Nat} {l l' l'' : Lay} {w w' w'' : World} (h : Nx a l l' w w') (k : Nx a l' l'' w' w'') : Nx a l l'' w w'' :=
 ⟨h.1.trans k.1 h.2, fun b hb => by
  rcases k.2 b hb with h1 | h1
  ·exact h.2 b h1
  ·exact .inr (Nat.le_trans h.1.size h1)⟩
theorem Nx.fr {a : Nat} {l : Lay} {w w' : World} (h : Fr [a] w w') : Nx a l l w w' := ⟨h.mono (by simp [foot]), fun b hb => .inl hb⟩
theorem Nx.frw {a : Nat} {l : Lay} {w w' : World} (h : Fr (foot a l) w w') : Nx a l l w w' := ⟨h, fun b hb => .inl hb⟩
theorem own_ne {w : World} {e e' : TypeId} {s s' : Nat} {ao ao' : Option Addr} {k c n k' c' n' : Nat} {xs xs' : List Value} (hne : e ≠ e') (h : w.ownsRow 0 e s (.slice ao k c) n xs) (h' : w.ownsRow 0 e' s' (.slice ao' k' c') n' xs') :
  ∀ g ∈ blk ao, g ∉ blk ao' := by
 intro g hg hg'
 obtain ⟨c1, h1⟩ := own_blk h g hg
 obtain ⟨c2, h2⟩ := own_blk h' g hg'
 rw [h1] at h2
 simp at h2
 exact hne h2.2
theorem set_else {w : World} {a i : Nat} {v : Value} {g : Nat} (h : g ≠ a) : (w.setCell ⟨a, i, none⟩ v).heap[g]? = w.heap[g]? := Below.heap_setCell _ _ _ _ h
theorem own_set {w : World} {a i : Nat} {v : Value} {e : TypeId} {s : Nat} {ao : Option Addr} {k c n : Nat} {xs : List Value} (h : w.ownsRow 0 e s (.slice ao k c) n xs) (hn : a ∉ blk ao) : (w.setCell ⟨a, i, none⟩ v).ownsRow 0 e s (.slice ao k c) n xs :=
 own_congr h fun g hg => set_else (fun e => hn (by rw [← e]; exact (blk_own _ _ _ _).1 hg))
theorem top_nblk {w : World} {a : Nat} {C : Array Value} {e : TypeId} {s : Nat} {ao : Option Addr} {k c n : Nat} {xs : List Value} (ht : w.heap[a]? = some (.cells C 95 (0, 0))) (he : e ≠ 95) (h : w.ownsRow 0 e s (.slice ao k c) n xs) : a ∉ blk ao := by
 intro hg
 obtain ⟨c1, h1⟩ := own_blk h a hg
 rw [h1] at ht
 simp at ht
 exact he ht.2
theorem own_to {w w' : World} {e : TypeId} {s : Nat} {ao : Option Addr} {k c n : Nat} {xs : List Value} (h : w.ownsRow 0 e s (.slice ao k c) n xs) (hb : ∀ g ∈ blk ao, w'.heap[g]? = w.heap[g]?) : w'.ownsRow 0 e s (.slice ao k c) n xs :=
 own_congr h fun g hg => hb g ((blk_own _ _ _ _).1 hg)
theorem Rep.putBits {w w1 : World} {a : Nat} {l : Lay} {H : HS} {pb : Option Addr} {cb : Nat} {bs : List Nat} (h : Rep w a l H)
  (hf : ∀ g, g = a ∨ g ∈ blk l.pm ∨ g ∈ blk l.ps ∨ g ∈ blk l.po → w1.heap[g]? = w.heap[g]?) (ho : w1.ownsRow 0 152 1 (.slice pb bs.length cb) bs.length (bs.map U)) :
  Rep (w1.setCell ⟨a, 7, none⟩ (.slice pb bs.length cb)) a { l with pb := pb, cb := cb } { H with bits := bs } := by
 have ht : w1.heap[a]? = some (.cells (hcells a l H) 95 (0, 0)) := (hf a (.inl rfl)).trans h.top
 have m1 := own_to h.mem fun g hg => hf g (.inr (.inl hg))
 have m2 := own_to h.seats fun g hg => hf g (.inr (.inr (.inl hg)))
 have m3 := own_to h.order fun g hg => hf g (.inr (.inr (.inr hg)))
 exact ⟨set_in ht 7 _, h.ml, own_set m1 (top_nblk ht (by decide) m1), own_set m2 (top_nblk ht (by decide) m2), own_set m3 (top_nblk ht (by decide) m3), own_set ho (top_nblk ht (by decide) ho)⟩
theorem Rep.putOrder {w w1 : World} {a : Nat} {l : Lay} {H : HS} {po : Option Addr} {co : Nat} {os : List Nat} (h : Rep w a l H)
  (hf : ∀ g, g = a ∨ g ∈ blk l.pm ∨ g ∈ blk l.ps ∨ g ∈ blk l.pb → w1.heap[g]? = w.heap[g]?) (ho : w1.ownsRow 0 3 1 (.slice po os.length co) os.length (os.map I)) :
  Rep (w1.setCell ⟨a, 6, none⟩ (.slice po os.length co)) a { l with po := po, co := co } { H with order := os } := by
 have ht : w1.heap[a]? = some (.cells (hcells a l H) 95 (0, 0)) := (hf a (.inl rfl)).trans h.top
 have m1 := own_to h.mem fun g hg => hf g (.inr (.inl hg))
 have m2 := own_to h.seats fun g hg => hf g (.inr (.inr (.inl hg)))
 have m3 := own_to h.bits fun g hg => hf g (.inr (.inr (.inr hg)))
 exact ⟨set_in ht 6 _, h.ml, own_set m1 (top_nblk ht (by decide) m1), own_set m2 (top_nblk ht (by decide) m2), own_set ho (top_nblk ht (by decide) ho), own_set m3 (top_nblk ht (by decide) m3)⟩
theorem Rep.putSeats {w w1 : World} {a : Nat} {l : Lay} {H : HS} {ps : Option Addr} {cs : Nat} {ss : List (Nat × Nat × Nat)} (h : Rep w a l H)
  (hf : ∀ g, g = a ∨ g ∈ blk l.pm ∨ g ∈ blk l.po ∨ g ∈ blk l.pb → w1.heap[g]? = w.heap[g]?) (ho : w1.ownsRow 0 103 3 (.slice ps ss.length cs) ss.length (seatCells ss)) :
  Rep (w1.setCell ⟨a, 5, none⟩ (.slice ps ss.length cs)) a { l with ps := ps, cs := cs } { H with seats := ss } := by
 have ht : w1.heap[a]? = some (.cells (hcells a l H) 95 (0, 0)) := (hf a (.inl rfl)).trans h.top
 have m1 := own_to h.mem fun g hg => hf g (.inr (.inl hg))
 have m2 := own_to h.order fun g hg => hf g (.inr (.inr (.inl hg)))
 have m3 := own_to h.bits fun g hg => hf g (.inr (.inr (.inr hg)))
 exact ⟨set_in ht 5 _, h.ml, own_set m1 (top_nblk ht (by decide) m1), own_set ho (top_nblk ht (by decide) ho), own_set m2 (top_nblk ht (by decide) m2), own_set m3 (top_nblk ht (by decide) m3)⟩
theorem Rep.putMem {w w1 : World} {a : Nat} {l : Lay} {H : HS} {pm : Option Addr} {cm : Nat} {ms : List Int} (h : Rep w a l H) (hl : ms.length ≤ cm)
  (hf : ∀ g, g = a ∨ g ∈ blk l.ps ∨ g ∈ blk l.po ∨ g ∈ blk l.pb → w1.heap[g]? = w.heap[g]?) (ho : w1.ownsRow 0 33 1 (.slice pm cm cm) cm ((ms ++ List.replicate (cm - ms.length) 0).map (Value.int .i64))) :
  Rep (w1.setCell ⟨a, 4, none⟩ (.slice pm ms.length cm)) a { l with pm := pm, cm := cm } { H with mem := ms } := by
 have ht : w1.heap[a]? = some (.cells (hcells a l H) 95 (0, 0)) := (hf a (.inl rfl)).trans h.top
 have m1 := own_to h.seats fun g hg => hf g (.inr (.inl hg))
 have m2 := own_to h.order fun g hg => hf g (.inr (.inr (.inl hg)))
 have m3 := own_to h.bits fun g hg => hf g (.inr (.inr (.inr hg)))
 exact ⟨set_in ht 4 _, hl, own_set ho (top_nblk ht (by decide) ho), own_set m1 (top_nblk ht (by decide) m1), own_set m2 (top_nblk ht (by decide) m2), own_set m3 (top_nblk ht (by decide) m3)⟩
theorem own_stored {w : World} {e : TypeId} {s : Nat} {g n c : Nat} {xs : List Value} (h : w.ownsRow 0 e s (.slice (some ⟨g, 0, none⟩) n c) n xs) (j : Nat) (u : Value) : (w.setCell ⟨g, j, none⟩ u).ownsRow 0 e s (.slice (some ⟨g, 0, none⟩) n c) n (xs.set j u) :=
 (h.stored j u).1
theorem Rep.turnBits {w w1 : World} {a : Nat} {l : Lay} {H : HS} {bs : List Nat} (h : Rep w a l H) (hl : bs.length = H.bits.length)
  (hf : ∀ g, g = a ∨ g ∈ blk l.pm ∨ g ∈ blk l.ps ∨ g ∈ blk l.po → w1.heap[g]? = w.heap[g]?) (ho : w1.ownsRow 0 152 1 (.slice l.pb bs.length l.cb) bs.length (bs.map U)) : Rep w1 a l { H with bits := bs } := by
 refine ⟨?_, h.ml, own_to h.mem fun g hg => hf g (.inr (.inl hg)), own_to h.seats fun g hg => hf g (.inr (.inr (.inl hg))), own_to h.order fun g hg => hf g (.inr (.inr (.inr hg))), ho⟩
 rw [hf a (.inl rfl), h.top]; simp only [hcells, hl]
theorem Rep.turnOrder {w w1 : World} {a : Nat} {l : Lay} {H : HS} {os : List Nat} (h : Rep w a l H) (hl : os.length = H.order.length)
  (hf : ∀ g, g = a ∨ g ∈ blk l.pm ∨ g ∈ blk l.ps ∨ g ∈ blk l.pb → w1.heap[g]? = w.heap[g]?) (ho : w1.ownsRow 0 3 1 (.slice l.po os.length l.co) os.length (os.map I)) : Rep w1 a l { H with order := os } := by
 refine ⟨?_, h.ml, own_to h.mem fun g hg => hf g (.inr (.inl hg)), own_to h.seats fun g hg => hf g (.inr (.inr (.inl hg))), ho, own_to h.bits fun g hg => hf g (.inr (.inr (.inr hg)))⟩
 rw [hf a (.inl rfl), h.top]; simp only [hcells, hl]
theorem Rep.turnSeats {w w1 : World} {a : Nat} {l : Lay} {H : HS} {ss : List (Nat × Nat × Nat)} (h : Rep w a l H) (hl : ss.length = H.seats.length)
  (hf : ∀ g, g = a ∨ g ∈ blk l.pm ∨ g ∈ blk l.po ∨ g ∈ blk l.pb → w1.heap[g]? = w.heap[g]?) (ho : w1.ownsRow 0 103 3 (.slice l.ps ss.length l.cs) ss.length (seatCells ss)) : Rep w1 a l { H with seats := ss } := by
 refine ⟨?_, h.ml, own_to h.mem fun g hg => hf g (.inr (.inl hg)), ho, own_to h.order fun g hg => hf g (.inr (.inr (.inl hg))), own_to h.bits fun g hg => hf g (.inr (.inr (.inr hg)))⟩
 rw [hf a (.inl rfl), h.top]; simp only [hcells, hl]
theorem Rep.turnMem {w w1 : World} {a : Nat} {l : Lay} {H : HS} {ms : List Int} (h : Rep w a l H) (hl : ms.length = H.mem.length)
  (hf : ∀ g, g = a ∨ g ∈ blk l.ps ∨ g ∈ blk l.po ∨ g ∈ blk l.pb → w1.heap[g]? = w.heap[g]?) (ho : w1.ownsRow 0 33 1 (.slice l.pm l.cm l.cm) l.cm ((ms ++ List.replicate (l.cm - ms.length) 0).map (Value.int .i64))) : Rep w1 a l { H with mem := ms } := by
 refine ⟨?_, by rw [hl]; exact h.ml, ho, own_to h.seats fun g hg => hf g (.inr (.inl hg)), own_to h.order fun g hg => hf g (.inr (.inr (.inl hg))), own_to h.bits fun g hg => hf g (.inr (.inr (.inr hg)))⟩
 rw [hf a (.inl rfl), h.top]; simp only [hcells, hl]
theorem Rep.apart {w : World} {a : Nat} {l : Lay} {H : HS} (h : Rep w a l H) (g : Nat) :
  (g ∈ blk l.pm → g ≠ a ∧ g ∉ blk l.ps ∧ g ∉ blk l.po ∧ g ∉ blk l.pb) ∧ (g ∈ blk l.ps → g ≠ a ∧ g ∉ blk l.pm ∧ g ∉ blk l.po ∧ g ∉ blk l.pb) ∧ (g ∈ blk l.po → g ≠ a ∧ g ∉ blk l.pm ∧ g ∉ blk l.ps ∧ g ∉ blk l.pb) ∧ (g ∈ blk l.pb → g ≠ a ∧ g ∉ blk l.pm ∧ g ∉ blk l.ps ∧ g ∉ blk l.po) := by
 refine ⟨fun hg => ⟨h.top_ne g (by simp [Lay.blocks, hg]), own_ne (by decide) h.mem h.seats g hg, own_ne (by decide) h.mem h.order g hg, own_ne (by decide) h.mem h.bits g hg⟩,
  fun hg => ⟨h.top_ne g (by simp [Lay.blocks, hg]), own_ne (by decide) h.seats h.mem g hg, own_ne (by decide) h.seats h.order g hg, own_ne (by decide) h.seats h.bits g hg⟩,
  fun hg => ⟨h.top_ne g (by simp [Lay.blocks, hg]), own_ne (by decide) h.order h.mem g hg, own_ne (by decide) h.order h.seats g hg, own_ne (by decide) h.order h.bits g hg⟩,
  fun hg => ⟨h.top_ne g (by simp [Lay.blocks, hg]), own_ne (by decide) h.bits h.mem g hg, own_ne (by decide) h.bits h.seats g hg, own_ne (by decide) h.bits h.order g hg⟩⟩
theorem or_i64 (a b : Nat) (ha : a < 9223372036854775808) (hb : b < 9223372036854775808) : Go.bits .or .i64 (a : Int) (b : Int) = ((a ||| b : Nat) : Int) := by
 unfold Go.bits
 simp only [BitVec.toNat_or, BitVec.toNat_ofInt]
 rw [iwrap]
 have e : ∀ x : Nat, x < 9223372036854775808 → ((x : Int) % ((2 ^ IntKind.i64.bits : Nat) : Int)).toNat = x := by
  intro x hx
  rw [show ((2 ^ IntKind.i64.bits : Nat) : Int) = 18446744073709551616 from by decide]; omega
 rw [e a ha, e b hb]
 have hl : a ||| b < 2 ^ 63 := Nat.or_lt_two_pow (by omega) (by omega)
 unfold wrap64
 omega
theorem or_shape (n f : Nat) (hn : (n : Int) ≤ 8192) (hf : (f : Int) ≤ 1) : Go.bits .or .i64 ((n : Int) * 2) (f : Int) = ((2 * n + f : Nat) : Int) := by
 have h := or_i64 (n * 2) f (by omega) (by omega)
 rw [Int.natCast_mul] at h
 rw [show ((2 : Nat) : Int) = 2 from rfl] at h
 rw [h]
 have h2 := Nat.shiftLeft_add_eq_or_of_lt (i := 1) (b := f) (by omega) n
 rw [Nat.shiftLeft_eq] at h2
 rw [show n * 2 = n * 2 ^ 1 from rfl, ← h2]
 omega
set_option maxHeartbeats 400000 in
theorem shape_any (n f : Nat) (w : World) (hn : (n : Int) ≤ 8192) (hf : (f : Int) ≤ 1) :
  Calls Tryd.prog 102 #[.int .i64 n, .int .i64 f] w fun e w' => e = .returned (.int .i64 ((2 * n + f : Nat) : Int)) ∧ w' = w := by
 go_enter Tryd.func102, Tryd.ntmps102
 go_wp2
 go_ret
 exact ⟨ret_int (or_shape n f hn hf), rfl⟩
theorem pow64 (j : Nat) : IntKind.u64.wrap (2 ^ (j % 64)) = ((2 ^ (j % 64) : Nat) : Int) := by
 have h : 2 ^ (j % 64) < 2 ^ 64 := Nat.pow_lt_pow_right (by omega) (Nat.mod_lt _ (by omega))
 have e : ((2 : Int) ^ (j % 64)) = ((2 ^ (j % 64) : Nat) : Int) := by simp
 rw [e, IntKind.wrap_u64]
 generalize 2 ^ (j % 64) = x at *
 omega
set_option maxHeartbeats 400000 in
theorem bit_any (k : Nat) (w : World) (h0 : (1 : Int) ≤ k) (h1 : (k : Int) ≤ 100000) :
  Calls Tryd.prog 115 #[.int .i64 k] w fun e w' => e = .returned (.int .u64 ((2 ^ ((k - 1) % 64) : Nat) : Int)) ∧ w' = w := by
 go_enter Tryd.func115, Tryd.ntmps115
 go_wp2
 go_ret
 exact ⟨ret_int (pow64 _), rfl⟩
end Go.Proofs.YtklfnjlenbgmoaaDoor
namespace Go.Proofs.YtklfnjlenbgmoaaDoor
open Go.RowKit
attribute [local go_sem ↓] Go.wp_at_zero Go.wp_at_succ
theorem info152 : (Tryd.prog.info? 152).map (fun i => (i.zero, i.size, i.bytes)) = some (some (.int .u64 0), 1, 8) := by kernel_rfl
def padTo (bits : List Nat) (n : Nat) : List Nat := bits ++ List.replicate (n - bits.length) 0
def addBits (bits : List Nat) (k : Nat) : List Nat := (padTo bits ((k - 1) / 64 + 1)).set ((k - 1) / 64) ((padTo bits ((k - 1) / 64 + 1)).getD ((k - 1) / 64) 0 ||| 2 ^ ((k - 1) % 64))
theorem or_u64 (b j : Nat) (hb : b ≤ full) : Go.bits .or .u64 (b : Int) ((2 ^ (j % 64) : Nat) : Int) = ((b ||| 2 ^ (j % 64) : Nat) : Int) := by
 have h : 2 ^ (j % 64) < 2 ^ 64 := Nat.pow_lt_pow_right (by omega) (Nat.mod_lt _ (by omega))
 exact bits_or_u64_nat b _ (by unfold full at hb; omega) (by omega)
theorem blk_some (g o : Nat) : blk (some ⟨g, o, none⟩) = [g] := rfl
theorem grow_bits {w w1 : World} {a : Nat} {l : Lay} {H : HS} {g cap : Nat} (h : Rep w a l H) (hown : w1.ownsRow 0 152 1 (.slice (some ⟨g, 0, none⟩) (H.bits.length + 1) cap) (H.bits.length + 1) (H.bits.map U ++ [.int .u64 0]))
  (hg : (w.alloc (.cells #[.int .u64 0] 152)).grownBy w1 (Value.ownBlock (.slice l.pb H.bits.length l.cb))) (hat : Value.ownBlock (.slice l.pb H.bits.length l.cb) = some g ∨ g = w.heap.size + 1) :
  Rep (w1.setCell ⟨a, 7, none⟩ (.slice (some ⟨g, 0, none⟩) (H.bits.length + 1) cap)) a { l with pb := some ⟨g, 0, none⟩, cb := cap } { H with bits := H.bits ++ [0] } ∧
  Nx a l { l with pb := some ⟨g, 0, none⟩, cb := cap } w (w1.setCell ⟨a, 7, none⟩ (.slice (some ⟨g, 0, none⟩) (H.bits.length + 1) cap)) := by
 have hblk : ∀ k, k < w.heap.size → k ∉ blk l.pb → w1.heap[k]? = w.heap[k]? := fun k hk hn => by
  rw [hg.block k (by simp; omega) (fun e => hn ((blk_own _ _ _ _).1 e.symm))]
  exact Below.heap_alloc _ _ _ hk
 have hf : ∀ k, k = a ∨ k ∈ blk l.pm ∨ k ∈ blk l.ps ∨ k ∈ blk l.po → w1.heap[k]? = w.heap[k]? := fun k hk => by
  have hlt : k < w.heap.size := h.lt k (by simp only [foot, Lay.blocks, List.mem_cons, List.mem_append]; rcases hk with h1 | h1 | h1 | h1 <;> simp [h1])
  refine hblk k hlt (fun hb => ?_)
  have hp := (h.apart k).2.2.2 hb
  rcases hk with h1 | h1 | h1 | h1
  ·exact hp.1 h1
  ·exact hp.2.1 h1
  ·exact hp.2.2.1 h1
  ·exact hp.2.2.2 h1
 refine ⟨?_, ?_, ?_⟩
 ·have := h.putBits (pb := some ⟨g, 0, none⟩) (cb := cap) (bs := H.bits ++ [0]) hf (by simpa [U] using hown)
  simpa using this
 ·refine Fr.trans (S := foot a l) (S' := foot a l) (w' := w1) ⟨hg.os, hg.tape, hg.output, by have := hg.size; simp at this; omega, fun k hk hn => hblk k hk (fun hb => hn (by simp [foot, Lay.blocks, hb]))⟩ (Fr.setCell _ _ _ (by simp [foot])) (fun b hb => .inl hb)
 ·intro b hb
  simp only [foot, Lay.blocks, List.mem_cons, List.mem_append, blk_some] at hb ⊢
  rcases hb with h1 | ((h1 | h1) | h1) | h1
  ·exact .inl (.inl h1)
  ·exact .inl (.inr (.inl (.inl (.inl h1))))
  ·exact .inl (.inr (.inl (.inl (.inr h1))))
  ·exact .inl (.inr (.inl (.inr h1)))
  ·simp at h1
   subst h1
   rcases hat with h2 | h2
   ·exact .inl (.inr (.inr ((blk_own _ _ _ _).1 h2)))
   ·right; omega
def Eqw (w w' : World) : Prop := w'.os = w.os ∧ w'.tape = w.tape ∧ w'.output = w.output ∧ w'.heap = w.heap
theorem Eqw.fr {w w' : World} (h : Eqw w w') (S : List Nat) : Fr S w w' := Fr.same S h.1 h.2.1 h.2.2.1 h.2.2.2
theorem map_set_U (B : List Nat) (i z : Nat) : (B.map U).set i (.int .u64 (z : Int)) = (B.set i z).map U := by rw [List.map_set]; rfl
theorem Rep.eqw {w w' : World} {a : Nat} {l : Lay} {H : HS} (h : Rep w a l H) (e : Eqw w w') : Rep w' a l H := h.congr fun g _ => by rw [e.2.2.2]
theorem Nx.eqw {w w' w'' : World} {a : Nat} {l l' : Lay} (h : Nx a l l' w w') (e : Eqw w' w'') : Nx a l l' w w'' := ⟨h.1.trans (e.fr []) (by simp), h.2⟩
theorem add_done {w w2 : World} {a : Nat} {l : Lay} {H : HS} {g i z : Nat} (h : Rep w a l H) (hg : l.pb = some ⟨g, 0, none⟩) (he : Eqw ((w.setCell ⟨g, i, none⟩ (.int .u64 (z : Int))).setCell ⟨a, 9, none⟩ (.int .i64 ((H.count : Int) + 1))) w2) :
  Rep w2 a l { H with bits := H.bits.set i z, count := H.count + 1 } ∧ Nx a l l w w2 := by
 have hgb : g ∈ blk l.pb := by rw [hg]; simp [blk]
 have hap := (h.apart g).2.2.2 hgb
 have hb := h.bits
 rw [hg] at hb
 have hb1 := own_stored hb i (.int .u64 (z : Int))
 rw [map_set_U, ← hg] at hb1
 have h2 : Rep (w.setCell ⟨g, i, none⟩ (.int .u64 (z : Int))) a l { H with bits := H.bits.set i z } := by
  refine h.turnBits (by simp) (fun k hk => set_else (fun e => ?_)) (by simpa using hb1)
  subst e
  rcases hk with h1 | h1 | h1 | h1
  ·exact hap.1 h1
  ·exact hap.2.1 h1
  ·exact hap.2.2.1 h1
  ·exact hap.2.2.2 h1
 have f1 : Fr (foot a l) w (w.setCell ⟨g, i, none⟩ (.int .u64 (z : Int))) := Fr.setCell _ _ _ (by simp [foot, Lay.blocks, hgb])
 exact ⟨Rep.eqw (h2.set (H' := { H with bits := H.bits.set i z, count := H.count + 1 }) 9 _ rfl rfl rfl rfl rfl) he, (Nx.frw (f1.trans (Fr.setCell (S := foot a l) _ _ _ (by simp [foot])) (fun b hb => .inl hb))).eqw he⟩
set_option maxRecDepth 20000 in
set_option maxHeartbeats 1000000 in
theorem add_any (k : Nat) (a : Nat) (l : Lay) (H : HS) (w : World) (h : Rep w a l H) (hk0 : (1 : Int) ≤ k) (hk1 : (k : Int) ≤ 65537) (hb : ∀ k, H.bits.getD k 0 ≤ full) (hn : (H.bits.length : Int) ≤ 1100) (hc : (H.count : Int) ≤ 100000) :
  Calls Tryd.prog 104 #[.pointer (some ⟨a, 7, none⟩), .int .i64 k] w fun e w' => e = .returned (.tuple #[]) ∧ ∃ l', Rep w' a l' { H with bits := addBits H.bits k, count := H.count + 1 } ∧ Nx a l l' w w' := by
 obtain ⟨i0, hi, hz0, hz1, hz2⟩ := info_parts info152
 have hd : ((k : Int) - 1) / 64 = (((k - 1) / 64 : Nat) : Int) := by omega
 have hd2 : (((k - 1) / 64 : Nat) : Int) ≤ 1024 := by omega
 obtain ⟨i, hi2⟩ : ∃ i, i = (k - 1) / 64 := ⟨_, rfl⟩
 rw [← hi2] at hd hd2
 have HI : Hid (i = (k - 1) / 64) := hi2
 clear hi2
 go_enter Tryd.func104, Tryd.ntmps104
 go_wp2
 simp only [hd]
 have HD : Hid (((k : Int) - 1) / 64 = (i : Int)) := hd
 clear hd
 go_loopg [] (i + 1 - H.bits.length) (fun gk wr => ∃ m l', gk = i + 1 - (H.bits.length + m) ∧ (m = 0 ∨ H.bits.length + m ≤ i + 1) ∧ Rep wr a l' { H with bits := H.bits ++ List.replicate m 0 } ∧ Nx a l l' w wr)
 case atStart => exact ⟨0, l, rfl, .inl rfl, by simpa using h, Nx.refl _ _ _⟩
 case round =>
  clear h
  obtain ⟨m, l', rfl, hm, hr, hx⟩ := hrel
  obtain ⟨B, hB⟩ : ∃ B, B = H.bits ++ List.replicate m 0 := ⟨_, rfl⟩
  have hBl : B.length = H.bits.length + m := by rw [hB]; simp
  rw [← hB] at hr
  have c7 := hr.c7
  have c9 := hr.c9
  have f7 := hr.frozen 7
  have f9 := hr.frozen 9
  dsimp only at c7 c9
  by_cases hle : B.length ≤ i
  ·have hle' : ((B.length : Nat) : Int) ≤ (i : Int) := by omega
   have G := fun w1 g cap => @grow_bits wr w1 a l' { H with bits := B } g cap hr
   have HG := G
   clear G
   have hown := hr.bits
   dsimp only at hown HG
   have HM : Hid (B = H.bits ++ List.replicate m 0 ∧ B.length = H.bits.length + m ∧ Nx a l l' w wr) := ⟨hB, hBl, hx⟩
   have hmx : Hid (i + 1 - (H.bits.length + (m + 1)) < i + 1 - (H.bits.length + m)) := by unfold Hid; omega
   have hmy : Hid (H.bits.length + (m + 1) ≤ i + 1) := by unfold Hid; omega
   have hne : a < wr.heap.size := hr.lt a (by simp [foot])
   have hra : some a ≠ Value.ownBlock (.slice l'.pb B.length l'.cb) := fun e => (hr.apart a).2.2.2 ((blk_own _ _ _ _).1 e.symm) |>.1 rfl
   clear hr hx hB hBl hm hb hn HI
   go_wp2_with (first
    | (at_builtin; refine wpList_append_lies _ rfl (.tmp 19) (.tmp 20) 91 rfl 0 152 i0 (.int .u64 0) 1 8 Tryd.underlying91 hi hz0 hz1 hz2 rfl (by decide) _ _ _ rfl (hown.alloc _) ⟨wr.heap.size, 0, none⟩ 1 1 [.int .u64 0] rfl rfl ?c1 ?c2 (by omega) ?c3 ?c4 (by simp) (wr.heap.size + 1) (by simp) ?_)
    | go_in)
   case c1 =>
    intro j u hj
    match j, hj with
    | 0, hj => simp at hj; subst hj; simp [Addr.add]
   case c2 => intro u hu; simp at hu; subst hu; rfl
   case c3 => unfold maxLen; omega
   case c4 => omega
   intro g cap w1 hown' hgrow hat hlt
   have d7 := (hgrow.cell_far ⟨a, 7, none⟩ (by simp; omega) hra).trans ((World.cell?_alloc_lt (o := .cells #[.int .u64 0] 152) (w := wr) (a := ⟨a, 7, none⟩) hne).trans c7)
   have e7 := (hgrow.frozen_far ⟨a, 7, none⟩ (by simp; omega) hra).trans ((World.frozen?_alloc_old (o := .cells #[.int .u64 0] 152) (w := wr) (a := ⟨a, 7, none⟩) (by show a ≠ _; omega)).trans f7)
   have K := HG w1 g cap hown' hgrow hat
   have HK : Hid _ := K
   clear K HG hgrow hown' hown hat
   go_wp2
   go_roundg (i + 1 - (H.bits.length + (m + 1)))
   case measure => exact hmx.out
   case rel =>
    obtain ⟨q1, q2, q3⟩ := HM.out
    refine ⟨m + 1, _, rfl, .inr hmy.out, ?_, q3.trans HK.out.2⟩
    rw [List.replicate_succ', ← List.append_assoc, ← q1]
    exact HK.out.1
  ·have hil : i < B.length := by omega
   have hpad : Hid (B = padTo H.bits ((k - 1) / 64 + 1)) := by
    have := HI.out
    have e : (k - 1) / 64 + 1 - H.bits.length = m := by omega
    unfold padTo Hid
    rw [hB, e]
   have hBb : ∀ j, B.getD j 0 ≤ full := by
    intro j
    rw [hB]
    by_cases hj : j < H.bits.length
    ·have := hb j
     simp only [List.getD_eq_getElem?_getD, List.getElem?_append_left hj] at this ⊢
     exact this
    ·simp only [List.getD_eq_getElem?_getD, List.getElem?_append_right (Nat.le_of_not_lt hj), List.getElem?_replicate]
     split <;> simp [full]
   obtain ⟨g, hg, cg, fg, hga⟩ := hr.bitAt i hil
   dsimp only at hg cg
   rw [hg] at c7
   have hou := or_u64 (B.getD i 0) (k - 1) (hBb i)
   have i1 : (0 : Int) ≤ (i : Int) := by omega
   have i2 : (i : Int) < (B.length : Int) := by omega
   have i3 : (B.length : Int) ≤ (i : Int) → False := by omega
   have HR : Hid (Nx a l l' w wr ∧ ∀ w2, Eqw ((wr.setCell ⟨g, i, none⟩ (.int .u64 ((B.getD i 0 ||| 2 ^ ((k - 1) % 64) : Nat) : Int))).setCell ⟨a, 9, none⟩ (.int .i64 ((H.count : Int) + 1))) w2 → Rep w2 a l' { H with bits := addBits H.bits k, count := H.count + 1 } ∧ Nx a l' l' wr w2) := by
    refine ⟨hx, fun w2 he => ?_⟩
    have K := add_done hr hg he
    have e : addBits H.bits k = B.set i (B.getD i 0 ||| 2 ^ ((k - 1) % 64)) := by unfold addBits; rw [← hpad.out, ← HI.out]
    rw [e]
    exact K
   have hc0 : (0 : Int) ≤ (H.count : Int) := by omega
   have hg0 : a < wr.heap.size := hr.lt a (by simp [foot])
   clear hr hx hB hBl hm hb hBb hle i3 hn HI hg hil
   generalize B.getD i 0 = b at *
   generalize hN : B.length = n at *
   have HN : Hid (B.length = n) := hN
   clear hN
   generalize b ||| 2 ^ ((k - 1) % 64) = z at *
   generalize hy : 2 ^ ((k - 1) % 64) = y at *
   have Hbit := bit_any k
   rw [hy] at Hbit
   have HB : Hid _ := Hbit
   clear hy Hbit
   go_wp2
   go_region_with (go_at_call 115; refine (HB.out _ hk0 (by omega)).mono ?_; rintro e w' ⟨rfl, rfl⟩)
   all_goals go_wp2
   all_goals
    go_end0
    refine ⟨rfl, l', (HR.out.2 _ ?_).1, HR.out.1.trans (HR.out.2 _ ?_).2⟩
   all_goals exact ⟨rfl, rfl, rfl, rfl⟩
end Go.Proofs.YtklfnjlenbgmoaaDoor
namespace Go.Proofs.YtklfnjlenbgmoaaDoor
open Go.RowKit
def fillC (C : Array Value) (off : Nat) (v : Value) : Nat → Array Value
 | 0 => C
 | k + 1 => (fillC C off v k).setIfInBounds (off + k) v
theorem fillC_size (C : Array Value) (off : Nat) (v : Value) (k : Nat) : (fillC C off v k).size = C.size := by
 induction k with
 | zero => rfl
 | succ k ih => simp [fillC, ih]
set_option maxHeartbeats 1000000 in
theorem fill_any (b off n c : Nat) (ao : Option Addr) (v : Int) (w : World) (C : Array Value) (hn : (n : Int) ≤ 1048576) (hw : n ≠ 0 → ao = some ⟨b, off, none⟩) (hb : w.heap[b]? = some (.cells C 33 (0, 0))) (hC : off + n ≤ C.size) :
  Calls Tryd.prog 103 #[.slice ao n c, .int .i64 v] w fun e w' => e = .returned (.tuple #[]) ∧ w'.heap[b]? = some (.cells (fillC C off (.int .i64 v) n) 33 (0, 0)) ∧ Fr [b] w w' ∧ w'.heap.size = w.heap.size := by
 have hbl := lt_of_heap hb
 go_enter Tryd.func103, Tryd.ntmps103
 go_wp2
 go_loopw [7] (fun i wr => ∃ k : Nat, k ≤ n ∧ i = .int .i64 k ∧ wr.heap[b]? = some (.cells (fillC C off (.int .i64 v) k) 33 (0, 0)) ∧ Fr [b] w wr ∧ wr.heap.size = w.heap.size) (fun i _ => n - (intOf i).toNat)
 case atStart => exact ⟨0, Nat.zero_le _, rfl, hb, Fr.refl _ _, rfl⟩
 case round =>
  obtain ⟨k, hk, rfl, hr, hf, hz⟩ := hrel
  by_cases hkn : k < n
  ·have e := hw (by omega)
   subst e
   have hsz := fillC_size C off (.int .i64 v) k
   have R : Hid ((wr.setCell ⟨b, off + k, none⟩ (.int .i64 v)).heap[b]? = some (.cells (fillC C off (.int .i64 v) (k + 1)) 33 (0, 0))) := set_in hr (off + k) _
   have F : Hid (Fr [b] w (wr.setCell ⟨b, off + k, none⟩ (.int .i64 v))) := hf.trans (Fr.setCell (S := [b]) _ _ _ (by simp)) (by simp)
   have fz := frozen_in hr (off + k)
   have cl := cell_in hr (off + k)
   rw [Array.getElem?_eq_getElem (by omega)] at cl
   generalize (fillC C off (.int .i64 v) k)[off + k] = old at cl
   have k1 : (0 : Int) ≤ k := by omega
   have k2 : (k : Int) < n := by omega
   clear hr hf hb hw
   go_wp2
   go_roundw
   case rel => exact ⟨k + 1, by omega, by go_num, R.out, F.out, by simpa using hz⟩
   case measure => simp [intOf]; omega
  ·have hkn' : k = n := by omega
   subst hkn'
   have P : Hid (wr.heap[b]? = some (.cells (fillC C off (.int .i64 v) k) 33 (0, 0)) ∧ Fr [b] w wr ∧ wr.heap.size = w.heap.size) := ⟨hr, hf, hz⟩
   clear hr hf hb hw
   go_wp2
   go_end0
   exact ⟨rfl, P.out⟩
theorem info33 : (Tryd.prog.info? 33).map (fun i => (i.zero, i.size, i.bytes)) = some (some (.int .i64 0), 1, 8) := by kernel_rfl
def zeros (n : Nat) : List Value := List.replicate n (.int .i64 0)
theorem zeros_len (n : Nat) : (zeros n).length = n := by simp [zeros]
theorem make_words (l c : Nat) (h1 : l ≤ c) (h2 : c ≤ 1048576) (L C : Int) (hL : L = l) (hC : C = c) (W : World) :
  (Instr.makeSlice 80 (.int .i64 L) (.int .i64 C)).run Tryd.prog W = .ok (.slice (some ⟨W.heap.size, 0, none⟩) l c) (W.alloc (.cells (zeros c).toArray 33)) := by
 obtain ⟨i0, hi, hz0, hz1, hz2⟩ := info_parts info33
 subst hL hC
 have h := run_make (P := Tryd.prog) W 80 33 i0 (.int .i64 0) Tryd.underlying80 hi hz0 .i64 .i64 l c (by omega) (by omega) (by rw [hz2]; omega) (by omega)
 have e : madeCells (Value.int .i64 0).cells c = (zeros c).toArray := by
  apply Array.toList_inj.1
  show (madeCells #[.int .i64 0] c).toList = _
  rw [toList_madeCells_one]
  rfl
 rw [h, hz1, Nat.mul_one, Int.toNat_natCast, Int.toNat_natCast, e]
theorem grow_mem {w w1 : World} {a : Nat} {l : Lay} {H : HS} {n cap : Nat} (h : Rep w a l H) (hcap : H.mem.length + n ≤ cap) (hcm : cap ≤ 1048576)
  (h1 : w1.heap[w.heap.size]? = some (.cells (splice (zeros cap) 0 (H.mem.map (Value.int .i64))).toArray 33 (0, 0))) (hb : Below w.heap.size w w1) (w2 : World) (he : Eqw (w1.setCell ⟨a, 4, none⟩ (.slice (some ⟨w.heap.size, 0, none⟩) (H.mem.length + n) cap)) w2) :
  Rep w2 a { l with pm := some ⟨w.heap.size, 0, none⟩, cm := cap } { H with mem := H.mem ++ List.replicate n 0 } ∧ Nx a l { l with pm := some ⟨w.heap.size, 0, none⟩, cm := cap } w w2 := by
 have hsp : splice (zeros cap) 0 (H.mem.map (Value.int .i64)) = (H.mem ++ List.replicate n (0 : Int) ++ List.replicate (cap - (H.mem ++ List.replicate n (0 : Int)).length) (0 : Int)).map (Value.int .i64) := by
  simp only [splice, zeros, List.take_zero, List.nil_append, List.length_map, Nat.zero_add, List.drop_replicate, List.map_append, List.map_replicate, List.append_assoc, List.length_append, List.length_replicate]
  congr 1
  rw [List.replicate_append_replicate]
  congr 1
  omega
 have ho : w1.ownsRow 0 33 1 (.slice (some ⟨w.heap.size, 0, none⟩) cap cap) cap ((H.mem ++ List.replicate n (0 : Int) ++ List.replicate (cap - (H.mem ++ List.replicate n (0 : Int)).length) (0 : Int)).map (Value.int .i64)) := by
  rw [hsp] at h1
  have hl : ((H.mem ++ List.replicate n (0 : Int) ++ List.replicate (cap - (H.mem ++ List.replicate n (0 : Int)).length) (0 : Int)).map (Value.int .i64)).length = cap := by simp; omega
  refine ⟨by rw [hl]; omega, .inr ⟨w.heap.size, cap, _, rfl, Nat.zero_le _, h1, Nat.le_refl _, by unfold maxLen; omega, by simpa using hl, ?_⟩⟩
  rw [List.take_of_length_le (by rw [Nat.mul_one]; exact Nat.le_of_eq hl)]
 have hf : ∀ g, g = a ∨ g ∈ blk l.ps ∨ g ∈ blk l.po ∨ g ∈ blk l.pb → w1.heap[g]? = w.heap[g]? := fun k hk => by
  have hlt : k < w.heap.size := h.lt k (by simp only [foot, Lay.blocks, List.mem_cons, List.mem_append]; rcases hk with h1 | h1 | h1 | h1 <;> simp [h1])
  exact hb.block k hlt
 have K := h.putMem (pm := some ⟨w.heap.size, 0, none⟩) (cm := cap) (ms := H.mem ++ List.replicate n 0) (by simpa using hcap) hf ho
 simp only [List.length_append, List.length_replicate] at K
 refine ⟨K.eqw he, Nx.eqw ⟨?_, ?_⟩ he⟩
 ·exact Fr.trans (S := foot a l) (S' := foot a l) (w' := w1) ⟨hb.os, hb.tape, hb.output, hb.size, fun k hk _ => hb.block k hk⟩ (Fr.setCell _ _ _ (by simp [foot])) (fun b hb => .inl hb)
 ·intro b hb
  simp only [foot, Lay.blocks, List.mem_cons, List.mem_append, blk_some] at hb ⊢
  rcases hb with h1 | ((h1 | h1) | h1) | h1
  ·exact .inl (.inl h1)
  ·simp at h1; right; omega
  ·exact .inl (.inr (.inl (.inl (.inr h1))))
  ·exact .inl (.inr (.inl (.inr h1)))
  ·exact .inl (.inr (.inr h1))
theorem add_block (ad : Addr) (j : Nat) : (ad.add j).block = ad.block := by unfold Addr.add; split <;> simp_all
theorem src_alloc {w : World} {X : List Value} {pm : Option Addr} {b : Addr} (h : 0 < X.length → ∃ ad, pm = some ad ∧ ad.block < w.heap.size ∧ ∀ (j : Nat) (v : Value), X[j]? = some v → w.cell? (ad.add j) = some v) (o : Obj) :
  0 < X.length → some b = some b ∧ ∃ ad, pm = some ad ∧ ∀ (j : Nat) (v : Value), X[j]? = some v → (w.alloc o).cell? (ad.add j) = some v := fun hp => by
 obtain ⟨ad, q1, q2, q3⟩ := h hp
 exact ⟨rfl, ad, q1, fun j v hv => (World.cell?_alloc_lt w o (ad.add j) (by rw [add_block]; exact q2)).trans (q3 j v hv)⟩
theorem set_set (w : World) (b o : Nat) (v v' : Value) : (w.setCell ⟨b, o, none⟩ v).setCell ⟨b, o, none⟩ v' = w.setCell ⟨b, o, none⟩ v' := by
 simp only [World.setCell]
 congr 1
 apply Array.ext_getElem?
 intro i
 rw [Array.getElem?_modify, Array.getElem?_modify, Array.getElem?_modify]
 by_cases h : b = i
 ·subst h
  simp only [if_true]
  cases hq : w.heap[b]? with
  | none => rfl
  | some x => cases x <;> simp
 ·simp [h]
theorem Rep.memAt {w : World} {a : Nat} {l : Lay} {H : HS} (h : Rep w a l H) (k : Nat) (hk : k < l.cm) :
  ∃ g, l.pm = some ⟨g, 0, none⟩ ∧ (∀ i, i < l.cm → w.cell? ⟨g, i, none⟩ = ((H.mem ++ List.replicate (l.cm - H.mem.length) 0).map (Value.int .i64))[i]?) ∧ (∀ i, w.frozen? ⟨g, i, none⟩ = false) ∧ g ≠ a ∧ g < w.heap.size := by
 obtain ⟨g, hg, hc, hf, _, cur, hcur, _⟩ := own_at h.mem k hk
 exact ⟨g, hg, hc, hf, h.top_ne g (by simp [Lay.blocks, blk, hg]), lt_of_heap hcur⟩
set_option maxRecDepth 20000 in
set_option maxHeartbeats 1000000 in
theorem stretch_grow (n : Nat) (a : Nat) (l : Lay) (H : HS) (w : World) (h : Rep w a l H) (hs : Small H) (h0 : (1 : Int) ≤ n) (h1 : (H.mem.length : Int) + n ≤ H.words) (hc : (l.cm : Int) < H.mem.length + n) :
  Calls Tryd.prog 101 #[.pointer (some ⟨a, 0, none⟩), .int .i64 n] w fun e w' => e = .returned (.tuple #[]) ∧ ∃ l', Rep w' a l' { H with mem := H.mem ++ List.replicate n 0 } ∧ Nx a l l' w w' := by
 obtain ⟨s1, s2, s3, s4, s5⟩ := hs
 obtain ⟨i0, hi, hz0, hz1, hz2⟩ := info_parts info33
 have c1 := h.c1
 have c4 := h.c4
 have f4 := h.frozen 4
 have hsrc : 0 < (H.mem.map (Value.int .i64)).length → ∃ ad, l.pm = some ad ∧ ad.block < w.heap.size ∧ ∀ j v, (H.mem.map (Value.int .i64))[j]? = some v → w.cell? (ad.add j) = some v := by
  intro hpos
  rw [List.length_map] at hpos
  obtain ⟨g, hg, hcl, _, _, hgl⟩ := h.memAt 0 (by have := h.ml; omega)
  refine ⟨⟨g, 0, none⟩, hg, hgl, fun j v hv => ?_⟩
  have hj : j < H.mem.length := by
   rcases Nat.lt_or_ge j H.mem.length with hj | hj
   ·exact hj
   ·rw [List.getElem?_eq_none (by simpa using hj)] at hv; cases hv
  rw [show (⟨g, 0, none⟩ : Addr).add j = ⟨g, j, none⟩ from by unfold Addr.add; split <;> simp_all, hcl j (by have := h.ml; omega), List.map_append, List.getElem?_append_left (by simpa using hj)]
  exact hv
 have G := fun w1 cap => @grow_mem w w1 a l H n cap h
 have HG : Hid _ := G
 have HS' : Hid _ := hsrc
 have hal := h.lt a (by simp [foot])
 clear G hsrc h
 obtain ⟨X, hX⟩ : ∃ X, X = H.mem.map (Value.int .i64) := ⟨_, rfl⟩
 have hXl : X.length = H.mem.length := by rw [hX]; simp
 have hX1 : ∀ v ∈ X, v.oneCell' = true := by rw [hX]; exact ints_oneCell _ _
 rw [← hX] at HG HS'
 clear hX
 generalize hm : H.mem.length = m at *
 generalize H.words = x at *
 obtain ⟨cap, k1, k2, k3, k4⟩ : ∃ cap : Nat, m + n ≤ cap ∧ cap ≤ x ∧ cap ≤ 1048576 ∧ (if 2 * ((m : Int) + n) < x then 2 * ((m : Int) + n) else (x : Int)) = cap := by
  by_cases hq : 2 * ((m : Int) + n) < x
  ·exact ⟨2 * (m + n), by omega, by omega, by omega, by rw [if_pos hq]; omega⟩
  ·exact ⟨x, by omega, by omega, by omega, by rw [if_neg hq]⟩
 have hmk := fun W => make_words m cap (by omega) k3 (m : Int) _ rfl k4 W
 have K4 : Hid _ := k4
 have HXl : Hid _ := hXl
 have HX1 : Hid _ := hX1
 clear k4 hXl hX1 hm
 go_enter Tryd.func101, Tryd.ntmps101
 go_wp2
 go_region
 all_goals
  go_wp2_with (first
   | (refine wpList_copy_splice rfl (.tmp 33) (.tmp 37) 80 80 rfl 33 Tryd.underlying80 (by rw [hi]; simp [hz1]) (some ⟨w.heap.size, 0, none⟩) l.pm m cap m l.cm rfl rfl w.heap.size 0 (zeros cap) 33 (by exact heap_alloc_new w _) X (by rw [HXl.out]; simp) (by exact src_alloc HS'.out _) (by rw [HXl.out, zeros_len]; omega) HX1.out w.heap.size w (by exact ((Below.refl _ _).alloc (Nat.le_refl _) _).drew) (Nat.le_refl _) ?_; intro w1 hg1 hb1; have d4 := hb1.cell (p := ⟨a, 4, none⟩) hal; have e4 := hb1.frozen (p := ⟨a, 4, none⟩) hal; rw [c4] at d4; rw [f4] at e4)
   | go_in)
 all_goals
  go_end0
  refine ⟨rfl, _, (HG.out _ cap k1 k3 hg1.out hb1 _ ?_).1, (HG.out _ cap k1 k3 hg1.out hb1 _ ?_).2⟩
 all_goals exact ⟨rfl, rfl, rfl, by rw [set_set]⟩
theorem more_mem {w : World} {a : Nat} {l : Lay} {H : HS} {n : Nat} (h : Rep w a l H) (hcap : H.mem.length + n ≤ l.cm) (w2 : World) (he : Eqw (w.setCell ⟨a, 4, none⟩ (.slice l.pm (H.mem.length + n) l.cm)) w2) :
  Rep w2 a l { H with mem := H.mem ++ List.replicate n 0 } ∧ Nx a l l w w2 := by
 have e : H.mem ++ List.replicate n (0 : Int) ++ List.replicate (l.cm - (H.mem ++ List.replicate n (0 : Int)).length) (0 : Int) = H.mem ++ List.replicate (l.cm - H.mem.length) 0 := by
  rw [List.append_assoc, List.replicate_append_replicate]
  congr 2
  simp
  omega
 have K := h.putMem (pm := l.pm) (cm := l.cm) (ms := H.mem ++ List.replicate n 0) (by simpa using hcap) (fun _ _ => rfl) (by rw [e]; exact h.mem)
 simp only [List.length_append, List.length_replicate] at K
 exact ⟨K.eqw he, (Nx.frw (Fr.setCell (S := foot a l) _ _ _ (by simp [foot]))).eqw he⟩
set_option maxRecDepth 20000 in
set_option maxHeartbeats 1000000 in
theorem stretch_more (n : Nat) (a : Nat) (l : Lay) (H : HS) (w : World) (h : Rep w a l H) (hs : Small H) (h0 : (1 : Int) ≤ n) (h1 : (H.mem.length : Int) + n ≤ H.words) (hc : (H.mem.length : Int) + n ≤ l.cm) :
  Calls Tryd.prog 101 #[.pointer (some ⟨a, 0, none⟩), .int .i64 n] w fun e w' => e = .returned (.tuple #[]) ∧ ∃ l', Rep w' a l' { H with mem := H.mem ++ List.replicate n 0 } ∧ Nx a l l' w w' := by
 obtain ⟨s1, s2, s3, s4, s5⟩ := hs
 have c1 := h.c1
 have c4 := h.c4
 have f4 := h.frozen 4
 have hal := h.lt a (by simp [foot])
 have HG : Hid _ := more_mem (n := n) h (by omega)
 obtain ⟨g, hg, _, _, _, hgl⟩ := h.memAt 0 (by omega)
 rw [hg] at c4
 clear h
 rw [hg] at HG
 generalize hm : H.mem.length = m at *
 generalize H.words = x at *
 generalize hcm : l.cm = cm at *
 clear hm
 have k1 : (0 : Int) ≤ (m : Int) + n := by omega
 go_enter Tryd.func101, Tryd.ntmps101
 go_wp2
 go_end0
 refine ⟨rfl, l, (HG.out _ ?_).1, (HG.out _ ?_).2⟩
 all_goals exact ⟨rfl, rfl, rfl, rfl⟩
theorem stretch_any (n : Nat) (a : Nat) (l : Lay) (H : HS) (w : World) (h : Rep w a l H) (hs : Small H) (h0 : (1 : Int) ≤ n) (h1 : (H.mem.length : Int) + n ≤ H.words) :
  Calls Tryd.prog 101 #[.pointer (some ⟨a, 0, none⟩), .int .i64 n] w fun e w' => e = .returned (.tuple #[]) ∧ ∃ l', Rep w' a l' { H with mem := H.mem ++ List.replicate n 0 } ∧ Nx a l l' w w' := by
 by_cases hc : (H.mem.length : Int) + n ≤ l.cm
 ·exact stretch_more n a l H w h hs h0 h1 hc
 ·exact stretch_grow n a l H w h hs h0 h1 (by omega)
end Go.Proofs.YtklfnjlenbgmoaaDoor
