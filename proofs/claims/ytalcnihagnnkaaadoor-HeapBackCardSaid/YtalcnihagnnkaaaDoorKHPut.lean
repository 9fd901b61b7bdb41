import Derived.Test.YtalcnihagnnkaaaDoorKHLow
import Derived.Deep.AppendLies
namespace Go.Proofs.YtalcnihagnnkaaaDoor
open Go.RowKit
set_option linter.unusedVariables false
/-- what a call leaves: its own blocks, or new ones, are written; they stay its own, or are new -/
def Nx (a : Nat) (l l' : Lay) (w w' : World) : Prop := Fr (foot a l) w w' ∧ ∀ b ∈ foot a l', b ∈ foot a l ∨ w.heap.size ≤ b
theorem Nx.refl (a : Nat) (l : Lay) (w : World) : Nx a l l w w := ⟨Fr.refl _ _, fun b hb => .inl hb⟩
theorem Nx.trans {a : Nat} {l l' l'' : Lay} {w w' w'' : World} (h : Nx a l l' w w') (k : Nx a l' l'' w' w'') : Nx a l l'' w w'' :=
  ⟨h.1.trans k.1 h.2, fun b hb => by
    rcases k.2 b hb with h1 | h1
    · exact h.2 b h1
    · exact .inr (Nat.le_trans h.1.size h1)⟩
theorem Nx.fr {a : Nat} {l : Lay} {w w' : World} (h : Fr [a] w w') : Nx a l l w w' := ⟨h.mono (by simp [foot]), fun b hb => .inl hb⟩
theorem Nx.frw {a : Nat} {l : Lay} {w w' : World} (h : Fr (foot a l) w w') : Nx a l l w w' := ⟨h, fun b hb => .inl hb⟩
theorem own_ne {w : World} {e e' : TypeId} {s s' : Nat} {ao ao' : Option Addr} {k c n k' c' n' : Nat} {xs xs' : List Value} (hne : e ≠ e') (h : w.ownsRow 0 e s (.slice ao k c) n xs) (h' : w.ownsRow 0 e' s' (.slice ao' k' c') n' xs') :
    ∀ g ∈ blk ao, g ∉ blk ao' := by
  intro g hg hg'
  obtain ⟨c1, h1⟩ := own_blk h g hg
  obtain ⟨c2, h2⟩ := own_blk h' g hg'
  rw [h1] at h2
  simp at h2
  exact hne h2.2
theorem set_else {w : World} {a i : Nat} {v : Value} {g : Nat} (h : g ≠ a) : (w.setCell ⟨a, i, none⟩ v).heap[g]? = w.heap[g]? := Below.heap_setCell _ _ _ _ h
theorem own_set {w : World} {a i : Nat} {v : Value} {e : TypeId} {s : Nat} {ao : Option Addr} {k c n : Nat} {xs : List Value} (h : w.ownsRow 0 e s (.slice ao k c) n xs) (hn : a ∉ blk ao) : (w.setCell ⟨a, i, none⟩ v).ownsRow 0 e s (.slice ao k c) n xs :=
  own_congr h fun g hg => set_else (fun e => hn (by rw [← e]; exact (blk_own _ _ _ _).1 hg))
theorem top_nblk {w : World} {a : Nat} {C : Array Value} {e : TypeId} {s : Nat} {ao : Option Addr} {k c n : Nat} {xs : List Value} (ht : w.heap[a]? = some (.cells C 95 (0, 0))) (he : e ≠ 95) (h : w.ownsRow 0 e s (.slice ao k c) n xs) : a ∉ blk ao := by
  intro hg
  obtain ⟨c1, h1⟩ := own_blk h a hg
  rw [h1] at ht
  simp at ht
  exact he ht.2
theorem own_to {w w' : World} {e : TypeId} {s : Nat} {ao : Option Addr} {k c n : Nat} {xs : List Value} (h : w.ownsRow 0 e s (.slice ao k c) n xs) (hb : ∀ g ∈ blk ao, w'.heap[g]? = w.heap[g]?) : w'.ownsRow 0 e s (.slice ao k c) n xs :=
  own_congr h fun g hg => hb g ((blk_own _ _ _ _).1 hg)
/-- the bits lie anew -/
theorem Rep.putBits {w w1 : World} {a : Nat} {l : Lay} {H : HS} {pb : Option Addr} {cb : Nat} {bs : List Nat} (h : Rep w a l H)
    (hf : ∀ g, g = a ∨ g ∈ blk l.pm ∨ g ∈ blk l.ps ∨ g ∈ blk l.po → w1.heap[g]? = w.heap[g]?) (ho : w1.ownsRow 0 152 1 (.slice pb bs.length cb) bs.length (bs.map U)) :
    Rep (w1.setCell ⟨a, 7, none⟩ (.slice pb bs.length cb)) a { l with pb := pb, cb := cb } { H with bits := bs } := by
  have ht : w1.heap[a]? = some (.cells (hcells a l H) 95 (0, 0)) := (hf a (.inl rfl)).trans h.top
  have m1 := own_to h.mem fun g hg => hf g (.inr (.inl hg))
  have m2 := own_to h.seats fun g hg => hf g (.inr (.inr (.inl hg)))
  have m3 := own_to h.order fun g hg => hf g (.inr (.inr (.inr hg)))
  exact ⟨set_in ht 7 _, h.ml, own_set m1 (top_nblk ht (by decide) m1), own_set m2 (top_nblk ht (by decide) m2), own_set m3 (top_nblk ht (by decide) m3), own_set ho (top_nblk ht (by decide) ho)⟩
theorem Rep.putOrder {w w1 : World} {a : Nat} {l : Lay} {H : HS} {po : Option Addr} {co : Nat} {os : List Nat} (h : Rep w a l H)
    (hf : ∀ g, g = a ∨ g ∈ blk l.pm ∨ g ∈ blk l.ps ∨ g ∈ blk l.pb → w1.heap[g]? = w.heap[g]?) (ho : w1.ownsRow 0 3 1 (.slice po os.length co) os.length (os.map I)) :
    Rep (w1.setCell ⟨a, 6, none⟩ (.slice po os.length co)) a { l with po := po, co := co } { H with order := os } := by
  have ht : w1.heap[a]? = some (.cells (hcells a l H) 95 (0, 0)) := (hf a (.inl rfl)).trans h.top
  have m1 := own_to h.mem fun g hg => hf g (.inr (.inl hg))
  have m2 := own_to h.seats fun g hg => hf g (.inr (.inr (.inl hg)))
  have m3 := own_to h.bits fun g hg => hf g (.inr (.inr (.inr hg)))
  exact ⟨set_in ht 6 _, h.ml, own_set m1 (top_nblk ht (by decide) m1), own_set m2 (top_nblk ht (by decide) m2), own_set ho (top_nblk ht (by decide) ho), own_set m3 (top_nblk ht (by decide) m3)⟩
theorem Rep.putSeats {w w1 : World} {a : Nat} {l : Lay} {H : HS} {ps : Option Addr} {cs : Nat} {ss : List (Nat × Nat × Nat)} (h : Rep w a l H)
    (hf : ∀ g, g = a ∨ g ∈ blk l.pm ∨ g ∈ blk l.po ∨ g ∈ blk l.pb → w1.heap[g]? = w.heap[g]?) (ho : w1.ownsRow 0 103 3 (.slice ps ss.length cs) ss.length (seatCells ss)) :
    Rep (w1.setCell ⟨a, 5, none⟩ (.slice ps ss.length cs)) a { l with ps := ps, cs := cs } { H with seats := ss } := by
  have ht : w1.heap[a]? = some (.cells (hcells a l H) 95 (0, 0)) := (hf a (.inl rfl)).trans h.top
  have m1 := own_to h.mem fun g hg => hf g (.inr (.inl hg))
  have m2 := own_to h.order fun g hg => hf g (.inr (.inr (.inl hg)))
  have m3 := own_to h.bits fun g hg => hf g (.inr (.inr (.inr hg)))
  exact ⟨set_in ht 5 _, h.ml, own_set m1 (top_nblk ht (by decide) m1), own_set ho (top_nblk ht (by decide) ho), own_set m2 (top_nblk ht (by decide) m2), own_set m3 (top_nblk ht (by decide) m3)⟩
theorem Rep.putMem {w w1 : World} {a : Nat} {l : Lay} {H : HS} {pm : Option Addr} {cm : Nat} {ms : List Int} (h : Rep w a l H) (hl : ms.length ≤ cm)
    (hf : ∀ g, g = a ∨ g ∈ blk l.ps ∨ g ∈ blk l.po ∨ g ∈ blk l.pb → w1.heap[g]? = w.heap[g]?) (ho : w1.ownsRow 0 33 1 (.slice pm cm cm) cm ((ms ++ List.replicate (cm - ms.length) 0).map (Value.int .i64))) :
    Rep (w1.setCell ⟨a, 4, none⟩ (.slice pm ms.length cm)) a { l with pm := pm, cm := cm } { H with mem := ms } := by
  have ht : w1.heap[a]? = some (.cells (hcells a l H) 95 (0, 0)) := (hf a (.inl rfl)).trans h.top
  have m1 := own_to h.seats fun g hg => hf g (.inr (.inl hg))
  have m2 := own_to h.order fun g hg => hf g (.inr (.inr (.inl hg)))
  have m3 := own_to h.bits fun g hg => hf g (.inr (.inr (.inr hg)))
  exact ⟨set_in ht 4 _, hl, own_set ho (top_nblk ht (by decide) ho), own_set m1 (top_nblk ht (by decide) m1), own_set m2 (top_nblk ht (by decide) m2), own_set m3 (top_nblk ht (by decide) m3)⟩
/-- a row is written in place -/
theorem own_stored {w : World} {e : TypeId} {s : Nat} {g n c : Nat} {xs : List Value} (h : w.ownsRow 0 e s (.slice (some ⟨g, 0, none⟩) n c) n xs) (j : Nat) (u : Value) : (w.setCell ⟨g, j, none⟩ u).ownsRow 0 e s (.slice (some ⟨g, 0, none⟩) n c) n (xs.set j u) :=
  (h.stored j u).1
/-- one row turned, all else stands -/
theorem Rep.turnBits {w w1 : World} {a : Nat} {l : Lay} {H : HS} {bs : List Nat} (h : Rep w a l H) (hl : bs.length = H.bits.length)
    (hf : ∀ g, g = a ∨ g ∈ blk l.pm ∨ g ∈ blk l.ps ∨ g ∈ blk l.po → w1.heap[g]? = w.heap[g]?) (ho : w1.ownsRow 0 152 1 (.slice l.pb bs.length l.cb) bs.length (bs.map U)) : Rep w1 a l { H with bits := bs } := by
  refine ⟨?_, h.ml, own_to h.mem fun g hg => hf g (.inr (.inl hg)), own_to h.seats fun g hg => hf g (.inr (.inr (.inl hg))), own_to h.order fun g hg => hf g (.inr (.inr (.inr hg))), ho⟩
  rw [hf a (.inl rfl), h.top]; simp only [hcells, hl]
theorem Rep.turnOrder {w w1 : World} {a : Nat} {l : Lay} {H : HS} {os : List Nat} (h : Rep w a l H) (hl : os.length = H.order.length)
    (hf : ∀ g, g = a ∨ g ∈ blk l.pm ∨ g ∈ blk l.ps ∨ g ∈ blk l.pb → w1.heap[g]? = w.heap[g]?) (ho : w1.ownsRow 0 3 1 (.slice l.po os.length l.co) os.length (os.map I)) : Rep w1 a l { H with order := os } := by
  refine ⟨?_, h.ml, own_to h.mem fun g hg => hf g (.inr (.inl hg)), own_to h.seats fun g hg => hf g (.inr (.inr (.inl hg))), ho, own_to h.bits fun g hg => hf g (.inr (.inr (.inr hg)))⟩
  rw [hf a (.inl rfl), h.top]; simp only [hcells, hl]
theorem Rep.turnSeats {w w1 : World} {a : Nat} {l : Lay} {H : HS} {ss : List (Nat × Nat × Nat)} (h : Rep w a l H) (hl : ss.length = H.seats.length)
    (hf : ∀ g, g = a ∨ g ∈ blk l.pm ∨ g ∈ blk l.po ∨ g ∈ blk l.pb → w1.heap[g]? = w.heap[g]?) (ho : w1.ownsRow 0 103 3 (.slice l.ps ss.length l.cs) ss.length (seatCells ss)) : Rep w1 a l { H with seats := ss } := by
  refine ⟨?_, h.ml, own_to h.mem fun g hg => hf g (.inr (.inl hg)), ho, own_to h.order fun g hg => hf g (.inr (.inr (.inl hg))), own_to h.bits fun g hg => hf g (.inr (.inr (.inr hg)))⟩
  rw [hf a (.inl rfl), h.top]; simp only [hcells, hl]
theorem Rep.turnMem {w w1 : World} {a : Nat} {l : Lay} {H : HS} {ms : List Int} (h : Rep w a l H) (hl : ms.length = H.mem.length)
    (hf : ∀ g, g = a ∨ g ∈ blk l.ps ∨ g ∈ blk l.po ∨ g ∈ blk l.pb → w1.heap[g]? = w.heap[g]?) (ho : w1.ownsRow 0 33 1 (.slice l.pm l.cm l.cm) l.cm ((ms ++ List.replicate (l.cm - ms.length) 0).map (Value.int .i64))) : Rep w1 a l { H with mem := ms } := by
  refine ⟨?_, by rw [hl]; exact h.ml, ho, own_to h.seats fun g hg => hf g (.inr (.inl hg)), own_to h.order fun g hg => hf g (.inr (.inr (.inl hg))), own_to h.bits fun g hg => hf g (.inr (.inr (.inr hg)))⟩
  rw [hf a (.inl rfl), h.top]; simp only [hcells, hl]
/-- the lists lie apart -/
theorem Rep.apart {w : World} {a : Nat} {l : Lay} {H : HS} (h : Rep w a l H) (g : Nat) :
    (g ∈ blk l.pm → g ≠ a ∧ g ∉ blk l.ps ∧ g ∉ blk l.po ∧ g ∉ blk l.pb) ∧ (g ∈ blk l.ps → g ≠ a ∧ g ∉ blk l.pm ∧ g ∉ blk l.po ∧ g ∉ blk l.pb) ∧ (g ∈ blk l.po → g ≠ a ∧ g ∉ blk l.pm ∧ g ∉ blk l.ps ∧ g ∉ blk l.pb) ∧ (g ∈ blk l.pb → g ≠ a ∧ g ∉ blk l.pm ∧ g ∉ blk l.ps ∧ g ∉ blk l.po) := by
  refine ⟨fun hg => ⟨h.top_ne g (by simp [Lay.blocks, hg]), own_ne (by decide) h.mem h.seats g hg, own_ne (by decide) h.mem h.order g hg, own_ne (by decide) h.mem h.bits g hg⟩,
    fun hg => ⟨h.top_ne g (by simp [Lay.blocks, hg]), own_ne (by decide) h.seats h.mem g hg, own_ne (by decide) h.seats h.order g hg, own_ne (by decide) h.seats h.bits g hg⟩,
    fun hg => ⟨h.top_ne g (by simp [Lay.blocks, hg]), own_ne (by decide) h.order h.mem g hg, own_ne (by decide) h.order h.seats g hg, own_ne (by decide) h.order h.bits g hg⟩,
    fun hg => ⟨h.top_ne g (by simp [Lay.blocks, hg]), own_ne (by decide) h.bits h.mem g hg, own_ne (by decide) h.bits h.seats g hg, own_ne (by decide) h.bits h.order g hg⟩⟩
end Go.Proofs.YtalcnihagnnkaaaDoor
