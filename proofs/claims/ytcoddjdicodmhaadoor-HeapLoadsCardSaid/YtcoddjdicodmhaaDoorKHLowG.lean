import Derived.Test.YtcoddjdicodmhaaDoorKHTop
import Derived.Test.YtcoddjdicodmhaaDoorKHLeafM
import Derived.Deep.LoopGhost
import Derived.Laws.BitsAllLaws
import Derived.Deep.AppendLies
import Derived.Laws.ShiftsVar
import Derived.Deep.RegionHeld3
import Derived.Deep.DrawnRows
namespace Go.Proofs.YtcoddjdicodmhaaDoor
open Go.RowKit
set_option linter.unusedVariables false
def full : Nat := 18446744073709551615
theorem own_at {w : World} {base : Nat} {e : TypeId} {ao : Option Addr} {c n : Nat} {xs : List Value} (h : w.ownsRow base e 1 (.slice ao n c) n xs) (k : Nat) (hk : k < n) :
    ∃ g, ao = some ⟨g, 0, none⟩ ∧ (∀ i, i < n → w.cell? ⟨g, i, none⟩ = xs[i]?) ∧ (∀ i, w.frozen? ⟨g, i, none⟩ = false) ∧ n ≤ c ∧ ∃ cur, w.heap[g]? = some (.cells cur e (0, 0)) ∧ cur.size = c := by
  rcases h.2 with ⟨h2, h3⟩ | ⟨g', cap, cur, h2, h3, h4, h5, h6, h7, h8⟩
  · omega
  · injection h2 with h2 h2b h2c
    subst h2
    subst h2c
    exact ⟨g', rfl, fun i hi => h.cellAt i (by omega), fun i => frozen_in h4 i, h5, cur, h4, by omega⟩
theorem Rep.bitAt {w : World} {a : Nat} {l : Lay} {H : HS} (h : Rep w a l H) (k : Nat) (hk : k < H.bits.length) :
    ∃ g, l.pb = some ⟨g, 0, none⟩ ∧ w.cell? ⟨g, k, none⟩ = some (.int .u64 ((H.bits.getD k 0 : Nat) : Int)) ∧ w.frozen? ⟨g, k, none⟩ = false ∧ g ≠ a := by
  obtain ⟨g, hg, hc, hf, _, cur, hcur, _⟩ := own_at h.bits k hk
  refine ⟨g, hg, ?_, hf k, ?_⟩
  · rw [hc k hk]; simp [U, hk]
  · exact h.top_ne g (by simp [Lay.blocks, blk, hg])
def oopAt (bits : List Nat) (k : Nat) : Int := if k = bits.length then (k : Int) * 64 + 1 else (k : Int) * 64 + (Lib.ctz 64 (full - bits.getD k 0) : Nat) + 1
structure LowTo (bits : List Nat) (low k : Nat) : Prop where
  ge : low ≤ k
  le : k ≤ bits.length
  ful : ∀ j, low ≤ j → j < k → bits.getD j 0 = full
theorem not64 (b : Nat) (hb : b < 18446744073709551616) : bits .xor .u64 18446744073709551615 (b : Int) = ((full - b : Nat) : Int) := by
  have h := u64_xor_nat 18446744073709551615 b (by omega) hb
  have e : (18446744073709551615 ^^^ b : Nat) = full - b := by
    have hx : (18446744073709551615 ^^^ b) = 2 ^ 64 - 1 - b := by
      apply Nat.eq_of_testBit_eq
      intro i
      rw [Nat.testBit_xor, show (18446744073709551615 : Nat) = 2 ^ 64 - 1 from rfl, Nat.testBit_two_pow_sub_one, show 2 ^ 64 - 1 - b = 2 ^ 64 - (b + 1) from by omega, Nat.testBit_two_pow_sub_succ (by omega)]
      by_cases hi : i < 64
      · simp [hi]
      · simp [hi]
        exact Nat.testBit_lt_two_pow (Nat.lt_of_lt_of_le (m := 2 ^ 64) hb (Nat.pow_le_pow_right (n := 2) (by omega) (by omega)))
    rw [hx]; rfl
  rw [e] at h
  exact h
theorem not64' (b : Nat) (hb : b < 18446744073709551616) : Go.bits .xor .u64 (if IntKind.u64.signed = true then -1 else IntKind.u64.max) (b : Int) = ((full - b : Nat) : Int) := by
  rw [show (if IntKind.u64.signed = true then (-1 : Int) else IntKind.u64.max) = 18446744073709551615 from rfl]
  exact not64 b hb
theorem ctz_lt (x : Nat) (h0 : x ≠ 0) (hx : x < 18446744073709551616) : Lib.ctz 64 x < 64 := (Lib.lowest_bit 64 x h0 hx).2
theorem Fr.same (S : List Nat) {w w' : World} (h1 : w'.os = w.os) (h2 : w'.tape = w.tape) (h3 : w'.output = w.output) (h4 : w'.heap = w.heap) : Fr S w w' := ⟨h1, h2, h3, by rw [h4]; exact Nat.le_refl _, fun k _ _ => by rw [h4]⟩
theorem Tab64.keep {w w' : World} {S : List Nat} (h : Tab64 w) (hf : Fr S w w') (h1 : 1 < w.heap.size) (hS : 1 ∉ S) : Tab64 w' := fun j hj => (hf.cell (p := ⟨1, j, none⟩) h1 hS).trans (h j hj)
theorem Tab64.same {w w' : World} (h : Tab64 w) (e : w'.heap = w.heap) : Tab64 w' := fun j hj => (World.cell?_of_block (w := w) (by rw [e])).trans (h j hj)
theorem Tab.keep {w w' : World} {S : List Nat} (h : Tab w) (hf : Fr S w w') (h1 : 0 < w.heap.size) (hS : 0 ∉ S) : Tab w' :=
  ⟨(hf.cell (p := ⟨0, 0, none⟩) h1 hS).trans h.1, (hf.cell (p := ⟨0, 1, none⟩) h1 hS).trans h.2.1, (hf.cell (p := ⟨0, 2, none⟩) h1 hS).trans h.2.2.1, (hf.cell (p := ⟨0, 3, none⟩) h1 hS).trans h.2.2.2⟩
set_option maxHeartbeats 1000000 in
theorem lowest_any (a : Nat) (l : Lay) (H : HS) (w : World) (h : Rep w a l H) (hl : H.low ≤ H.bits.length) (hn : (H.bits.length : Int) ≤ 1100) (hb : ∀ k, H.bits.getD k 0 ≤ full) (hT : Tab64 w) (ha : 2 ≤ a) :
    Calls Tryd.prog 51 #[.pointer (some ⟨a, 7, none⟩)] w fun e w' => ∃ k, LowTo H.bits H.low k ∧ (k < H.bits.length → H.bits.getD k 0 ≠ full) ∧ e = .returned (.int .i64 (oopAt H.bits k)) ∧ Rep w' a l { H with low := k } ∧ Fr [a] w w' ∧ w'.heap.size = w.heap.size := by
  have hlt := h.lt a (by simp [foot])
  go_enter Tryd.func51, Tryd.ntmps51
  go_wp2
  go_loopg [] (H.bits.length - H.low) (fun gk wr => ∃ k, gk = H.bits.length - k ∧ LowTo H.bits H.low k ∧ Rep wr a l { H with low := k } ∧ Fr [a] w wr ∧ wr.heap.size = w.heap.size)
  case atStart => exact ⟨H.low, rfl, ⟨Nat.le_refl _, hl, fun j h1 h2 => by omega⟩, h, Fr.refl _ _, rfl⟩
  case round =>
    clear h
    obtain ⟨k, rfl, hk, hr, hf, hz⟩ := hrel
    have hT' : Hid (Tab64 wr) := hT.keep hf (by omega) (by simp; omega)
    have hkl := hk.le
    have c7 := hr.c7
    have c8 := hr.c8
    have f8 := hr.frozen 8
    dsimp only at c7 c8
    by_cases hkn : k < H.bits.length
    · obtain ⟨g, hg, cg, _, hga⟩ := hr.bitAt k hkn
      dsimp only at hg cg
      rw [hg] at c7
      have hbk := hb k
      by_cases hfl : H.bits.getD k 0 = full
      · have R : Hid (∀ nq, Rep ((wr.drewN nq).setCell ⟨a, 8, none⟩ (.int .i64 ((k : Int) + 1))) a l { H with low := k + 1 }) := fun nq => (hr.drewN nq).set 8 _ rfl rfl rfl rfl rfl
        have F : Hid (∀ nq, Fr [a] w ((wr.drewN nq).setCell ⟨a, 8, none⟩ (.int .i64 ((k : Int) + 1)))) := fun nq => (hf.trans (Fr.drewN [a] wr nq) (by simp)).trans (Fr.setCell (S := [a]) _ _ _ (by simp)) (by simp)
        have L : Hid (LowTo H.bits H.low (k + 1)) := ⟨by have := hk.ge; omega, by omega, fun j h1 h2 => by
          by_cases e : j = k
          · rw [e]; exact hfl
          · exact hk.ful j h1 (by omega)⟩
        rw [hfl] at cg
        have hkn' : (k : Int) < (H.bits.length : Int) := by omega
        have hlt' : Hid (H.bits.length - (k + 1) < H.bits.length - k) := by unfold Hid; omega
        clear hr hf hk hT' hbk hfl hg hb hl hkl
        unfold full at cg
        go_wp2
        go_quiet (fail)
        go_wp2
        go_roundg (H.bits.length - (k + 1))
        case measure => exact hlt'.out
        case rel => exact ⟨k + 1, rfl, L.out, R.out _, F.out _, by simpa using hz⟩
      · have hfl' : (((H.bits.getD k 0 : Nat) : Int) == 18446744073709551615) = false := beq_eq_false_iff_ne.2 (by unfold full at hfl; omega)
        have hx := not64' (H.bits.getD k 0) (by unfold full at hbk; omega)
        have hx0 : full - H.bits.getD k 0 ≠ 0 := by omega
        have hx1 : full - H.bits.getD k 0 < 18446744073709551616 := by unfold full; omega
        have hz1 := ctz_lt _ hx0 hx1
        have htz := fun w hT => tz_any (full - H.bits.getD k 0) hx1 hx0 w hT
        have O : Hid (oopAt H.bits k = (k : Int) * 64 + ((Lib.ctz 64 (full - H.bits.getD k 0) : Nat) : Int) + 1) := by unfold oopAt Hid; rw [if_neg (by omega)]
        have HTZ := htz
        have P1 : Hid (LowTo H.bits H.low k ∧ (k < H.bits.length → H.bits.getD k 0 ≠ full) ∧ Rep wr a l { H with low := k } ∧ Fr [a] w wr ∧ wr.heap.size = w.heap.size) := ⟨hk, fun _ => hfl, hr, hf, hz⟩
        clear htz
        have hkn' : (k : Int) < (H.bits.length : Int) := by omega
        have hne : ((k : Int) == (H.bits.length : Int)) = false := by simp; omega
        clear hr hf hk hbk hfl hg hb hl hkl hx0 hx1
        generalize H.bits.length = n at hn c7 hkn hkn' hne
        generalize full - H.bits.getD k 0 = y at *
        generalize H.bits.getD k 0 = b at cg hfl' hx
        generalize Lib.ctz 64 y = z at *
        go_wp2
        go_quiet (fail)
        go_wp2
        go_quiet (fail)
        go_wp2
        go_quiet ((go_at_call 100; refine (HTZ _ (by exact hT'.out.same rfl)).mono ?_; rintro e w'' ⟨rfl, rfl⟩; exact ⟨rfl, _, rfl⟩))
        go_wp2
        go_ret
        obtain ⟨q1, q2, q3, q4, q5⟩ := P1.out
        exact ⟨k, q1, q2, ret_int (by rw [O.out]), q3.congr fun _ _ => rfl, q4.trans (Fr.same [] rfl rfl rfl rfl) (by simp), q5⟩
    · have hkeq : k = H.bits.length := by omega
      have O : Hid (oopAt H.bits k = (k : Int) * 64 + 1) := by unfold oopAt Hid; rw [if_pos hkeq]
      have P1 : Hid (LowTo H.bits H.low k ∧ (k < H.bits.length → H.bits.getD k 0 ≠ full) ∧ Rep wr a l { H with low := k } ∧ Fr [a] w wr ∧ wr.heap.size = w.heap.size) := ⟨hk, fun h => by omega, hr, hf, hz⟩
      have hne : ((k : Int) == (H.bits.length : Int)) = true := by simp; omega
      have hnl : decide ((k : Int) < (H.bits.length : Int)) = false := by simp; omega
      have hk2 : (k : Int) ≤ 1100 := by omega
      clear hr hf hk hb hl hkl hkeq
      generalize H.bits.length = n at hn c7 hkn hne hnl
      go_wp2
      go_quiet (fail)
      go_wp2
      go_quiet (fail)
      go_wp2
      go_ret
      obtain ⟨q1, q2, q3, q4, q5⟩ := P1.out
      exact ⟨k, q1, q2, ret_int (by rw [O.out]), q3.congr fun _ _ => rfl, q4.trans (Fr.same [] rfl rfl rfl rfl) (by simp), q5⟩
end Go.Proofs.YtcoddjdicodmhaaDoor
namespace Go.Proofs.YtcoddjdicodmhaaDoor
open Go.RowKit
set_option linter.unusedVariables false
/-- what a call leaves: its own blocks, or new ones, are written; they stay its own, or are new -/
def Nx (a : Nat) (l l' : Lay) (w w' : World) : Prop := Fr (foot a l) w w' ∧ ∀ b ∈ foot a l', b ∈ foot a l ∨ w.heap.size ≤ b
theorem Nx.refl (a : Nat) (l : Lay) (w : World) : Nx a l l w w := ⟨Fr.refl _ _, fun b hb => .inl hb⟩
theorem Nx.trans {a : Nat} {l l' l'' : Lay} {w w' w'' : World} (h : Nx a l l' w w') (k : Nx a l' l'' w' w'') : Nx a l l'' w w'' :=
  ⟨h.1.trans k.1 h.2, fun b hb => by
    rcases k.2 b hb with h1 | h1
    · exact h.2 b h1
    · exact .inr (Nat.le_trans h.1.size h1)⟩
theorem Nx.fr {a : Nat} {l : Lay} {w w' : World} (h : Fr [a] w w') : Nx a l l w w' := ⟨h.mono (by simp [foot]), fun b hb => .inl hb⟩
theorem Nx.frw {a : Nat} {l : Lay} {w w' : World} (h : Fr (foot a l) w w') : Nx a l l w w' := ⟨h, fun b hb => .inl hb⟩
theorem own_ne {w : World} {e e' : TypeId} {s s' : Nat} {ao ao' : Option Addr} {k c n k' c' n' : Nat} {xs xs' : List Value} (hne : e ≠ e') (h : w.ownsRow 0 e s (.slice ao k c) n xs) (h' : w.ownsRow 0 e' s' (.slice ao' k' c') n' xs') :
    ∀ g ∈ blk ao, g ∉ blk ao' := by
  intro g hg hg'
  obtain ⟨c1, h1⟩ := own_blk h g hg
  obtain ⟨c2, h2⟩ := own_blk h' g hg'
  rw [h1] at h2
  simp at h2
  exact hne h2.2
theorem set_else {w : World} {a i : Nat} {v : Value} {g : Nat} (h : g ≠ a) : (w.setCell ⟨a, i, none⟩ v).heap[g]? = w.heap[g]? := Below.heap_setCell _ _ _ _ h
theorem own_set {w : World} {a i : Nat} {v : Value} {e : TypeId} {s : Nat} {ao : Option Addr} {k c n : Nat} {xs : List Value} (h : w.ownsRow 0 e s (.slice ao k c) n xs) (hn : a ∉ blk ao) : (w.setCell ⟨a, i, none⟩ v).ownsRow 0 e s (.slice ao k c) n xs :=
  own_congr h fun g hg => set_else (fun e => hn (by rw [← e]; exact (blk_own _ _ _ _).1 hg))
theorem top_nblk {w : World} {a : Nat} {C : Array Value} {e : TypeId} {s : Nat} {ao : Option Addr} {k c n : Nat} {xs : List Value} (ht : w.heap[a]? = some (.cells C 95 (0, 0))) (he : e ≠ 95) (h : w.ownsRow 0 e s (.slice ao k c) n xs) : a ∉ blk ao := by
  intro hg
  obtain ⟨c1, h1⟩ := own_blk h a hg
  rw [h1] at ht
  simp at ht
  exact he ht.2
theorem own_to {w w' : World} {e : TypeId} {s : Nat} {ao : Option Addr} {k c n : Nat} {xs : List Value} (h : w.ownsRow 0 e s (.slice ao k c) n xs) (hb : ∀ g ∈ blk ao, w'.heap[g]? = w.heap[g]?) : w'.ownsRow 0 e s (.slice ao k c) n xs :=
  own_congr h fun g hg => hb g ((blk_own _ _ _ _).1 hg)
/-- the bits lie anew -/
theorem Rep.putBits {w w1 : World} {a : Nat} {l : Lay} {H : HS} {pb : Option Addr} {cb : Nat} {bs : List Nat} (h : Rep w a l H)
    (hf : ∀ g, g = a ∨ g ∈ blk l.pm ∨ g ∈ blk l.ps ∨ g ∈ blk l.po → w1.heap[g]? = w.heap[g]?) (ho : w1.ownsRow 0 152 1 (.slice pb bs.length cb) bs.length (bs.map U)) :
    Rep (w1.setCell ⟨a, 7, none⟩ (.slice pb bs.length cb)) a { l with pb := pb, cb := cb } { H with bits := bs } := by
  have ht : w1.heap[a]? = some (.cells (hcells a l H) 95 (0, 0)) := (hf a (.inl rfl)).trans h.top
  have m1 := own_to h.mem fun g hg => hf g (.inr (.inl hg))
  have m2 := own_to h.seats fun g hg => hf g (.inr (.inr (.inl hg)))
  have m3 := own_to h.order fun g hg => hf g (.inr (.inr (.inr hg)))
  exact ⟨set_in ht 7 _, h.ml, own_set m1 (top_nblk ht (by decide) m1), own_set m2 (top_nblk ht (by decide) m2), own_set m3 (top_nblk ht (by decide) m3), own_set ho (top_nblk ht (by decide) ho)⟩
theorem Rep.putOrder {w w1 : World} {a : Nat} {l : Lay} {H : HS} {po : Option Addr} {co : Nat} {os : List Nat} (h : Rep w a l H)
    (hf : ∀ g, g = a ∨ g ∈ blk l.pm ∨ g ∈ blk l.ps ∨ g ∈ blk l.pb → w1.heap[g]? = w.heap[g]?) (ho : w1.ownsRow 0 3 1 (.slice po os.length co) os.length (os.map I)) :
    Rep (w1.setCell ⟨a, 6, none⟩ (.slice po os.length co)) a { l with po := po, co := co } { H with order := os } := by
  have ht : w1.heap[a]? = some (.cells (hcells a l H) 95 (0, 0)) := (hf a (.inl rfl)).trans h.top
  have m1 := own_to h.mem fun g hg => hf g (.inr (.inl hg))
  have m2 := own_to h.seats fun g hg => hf g (.inr (.inr (.inl hg)))
  have m3 := own_to h.bits fun g hg => hf g (.inr (.inr (.inr hg)))
  exact ⟨set_in ht 6 _, h.ml, own_set m1 (top_nblk ht (by decide) m1), own_set m2 (top_nblk ht (by decide) m2), own_set ho (top_nblk ht (by decide) ho), own_set m3 (top_nblk ht (by decide) m3)⟩
theorem Rep.putSeats {w w1 : World} {a : Nat} {l : Lay} {H : HS} {ps : Option Addr} {cs : Nat} {ss : List (Nat × Nat × Nat)} (h : Rep w a l H)
    (hf : ∀ g, g = a ∨ g ∈ blk l.pm ∨ g ∈ blk l.po ∨ g ∈ blk l.pb → w1.heap[g]? = w.heap[g]?) (ho : w1.ownsRow 0 103 3 (.slice ps ss.length cs) ss.length (seatCells ss)) :
    Rep (w1.setCell ⟨a, 5, none⟩ (.slice ps ss.length cs)) a { l with ps := ps, cs := cs } { H with seats := ss } := by
  have ht : w1.heap[a]? = some (.cells (hcells a l H) 95 (0, 0)) := (hf a (.inl rfl)).trans h.top
  have m1 := own_to h.mem fun g hg => hf g (.inr (.inl hg))
  have m2 := own_to h.order fun g hg => hf g (.inr (.inr (.inl hg)))
  have m3 := own_to h.bits fun g hg => hf g (.inr (.inr (.inr hg)))
  exact ⟨set_in ht 5 _, h.ml, own_set m1 (top_nblk ht (by decide) m1), own_set ho (top_nblk ht (by decide) ho), own_set m2 (top_nblk ht (by decide) m2), own_set m3 (top_nblk ht (by decide) m3)⟩
theorem Rep.putMem {w w1 : World} {a : Nat} {l : Lay} {H : HS} {pm : Option Addr} {cm : Nat} {ms : List Int} (h : Rep w a l H) (hl : ms.length ≤ cm)
    (hf : ∀ g, g = a ∨ g ∈ blk l.ps ∨ g ∈ blk l.po ∨ g ∈ blk l.pb → w1.heap[g]? = w.heap[g]?) (ho : w1.ownsRow 0 33 1 (.slice pm cm cm) cm ((ms ++ List.replicate (cm - ms.length) 0).map (Value.int .i64))) :
    Rep (w1.setCell ⟨a, 4, none⟩ (.slice pm ms.length cm)) a { l with pm := pm, cm := cm } { H with mem := ms } := by
  have ht : w1.heap[a]? = some (.cells (hcells a l H) 95 (0, 0)) := (hf a (.inl rfl)).trans h.top
  have m1 := own_to h.seats fun g hg => hf g (.inr (.inl hg))
  have m2 := own_to h.order fun g hg => hf g (.inr (.inr (.inl hg)))
  have m3 := own_to h.bits fun g hg => hf g (.inr (.inr (.inr hg)))
  exact ⟨set_in ht 4 _, hl, own_set ho (top_nblk ht (by decide) ho), own_set m1 (top_nblk ht (by decide) m1), own_set m2 (top_nblk ht (by decide) m2), own_set m3 (top_nblk ht (by decide) m3)⟩
/-- a row is written in place -/
theorem own_stored {w : World} {e : TypeId} {s : Nat} {g n c : Nat} {xs : List Value} (h : w.ownsRow 0 e s (.slice (some ⟨g, 0, none⟩) n c) n xs) (j : Nat) (u : Value) : (w.setCell ⟨g, j, none⟩ u).ownsRow 0 e s (.slice (some ⟨g, 0, none⟩) n c) n (xs.set j u) :=
  (h.stored j u).1
/-- one row turned, all else stands -/
theorem Rep.turnBits {w w1 : World} {a : Nat} {l : Lay} {H : HS} {bs : List Nat} (h : Rep w a l H) (hl : bs.length = H.bits.length)
    (hf : ∀ g, g = a ∨ g ∈ blk l.pm ∨ g ∈ blk l.ps ∨ g ∈ blk l.po → w1.heap[g]? = w.heap[g]?) (ho : w1.ownsRow 0 152 1 (.slice l.pb bs.length l.cb) bs.length (bs.map U)) : Rep w1 a l { H with bits := bs } := by
  refine ⟨?_, h.ml, own_to h.mem fun g hg => hf g (.inr (.inl hg)), own_to h.seats fun g hg => hf g (.inr (.inr (.inl hg))), own_to h.order fun g hg => hf g (.inr (.inr (.inr hg))), ho⟩
  rw [hf a (.inl rfl), h.top]; simp only [hcells, hl]
theorem Rep.turnOrder {w w1 : World} {a : Nat} {l : Lay} {H : HS} {os : List Nat} (h : Rep w a l H) (hl : os.length = H.order.length)
    (hf : ∀ g, g = a ∨ g ∈ blk l.pm ∨ g ∈ blk l.ps ∨ g ∈ blk l.pb → w1.heap[g]? = w.heap[g]?) (ho : w1.ownsRow 0 3 1 (.slice l.po os.length l.co) os.length (os.map I)) : Rep w1 a l { H with order := os } := by
  refine ⟨?_, h.ml, own_to h.mem fun g hg => hf g (.inr (.inl hg)), own_to h.seats fun g hg => hf g (.inr (.inr (.inl hg))), ho, own_to h.bits fun g hg => hf g (.inr (.inr (.inr hg)))⟩
  rw [hf a (.inl rfl), h.top]; simp only [hcells, hl]
theorem Rep.turnSeats {w w1 : World} {a : Nat} {l : Lay} {H : HS} {ss : List (Nat × Nat × Nat)} (h : Rep w a l H) (hl : ss.length = H.seats.length)
    (hf : ∀ g, g = a ∨ g ∈ blk l.pm ∨ g ∈ blk l.po ∨ g ∈ blk l.pb → w1.heap[g]? = w.heap[g]?) (ho : w1.ownsRow 0 103 3 (.slice l.ps ss.length l.cs) ss.length (seatCells ss)) : Rep w1 a l { H with seats := ss } := by
  refine ⟨?_, h.ml, own_to h.mem fun g hg => hf g (.inr (.inl hg)), ho, own_to h.order fun g hg => hf g (.inr (.inr (.inl hg))), own_to h.bits fun g hg => hf g (.inr (.inr (.inr hg)))⟩
  rw [hf a (.inl rfl), h.top]; simp only [hcells, hl]
theorem Rep.turnMem {w w1 : World} {a : Nat} {l : Lay} {H : HS} {ms : List Int} (h : Rep w a l H) (hl : ms.length = H.mem.length)
    (hf : ∀ g, g = a ∨ g ∈ blk l.ps ∨ g ∈ blk l.po ∨ g ∈ blk l.pb → w1.heap[g]? = w.heap[g]?) (ho : w1.ownsRow 0 33 1 (.slice l.pm l.cm l.cm) l.cm ((ms ++ List.replicate (l.cm - ms.length) 0).map (Value.int .i64))) : Rep w1 a l { H with mem := ms } := by
  refine ⟨?_, by rw [hl]; exact h.ml, ho, own_to h.seats fun g hg => hf g (.inr (.inl hg)), own_to h.order fun g hg => hf g (.inr (.inr (.inl hg))), own_to h.bits fun g hg => hf g (.inr (.inr (.inr hg)))⟩
  rw [hf a (.inl rfl), h.top]; simp only [hcells, hl]
/-- the lists lie apart -/
theorem Rep.apart {w : World} {a : Nat} {l : Lay} {H : HS} (h : Rep w a l H) (g : Nat) :
    (g ∈ blk l.pm → g ≠ a ∧ g ∉ blk l.ps ∧ g ∉ blk l.po ∧ g ∉ blk l.pb) ∧ (g ∈ blk l.ps → g ≠ a ∧ g ∉ blk l.pm ∧ g ∉ blk l.po ∧ g ∉ blk l.pb) ∧ (g ∈ blk l.po → g ≠ a ∧ g ∉ blk l.pm ∧ g ∉ blk l.ps ∧ g ∉ blk l.pb) ∧ (g ∈ blk l.pb → g ≠ a ∧ g ∉ blk l.pm ∧ g ∉ blk l.ps ∧ g ∉ blk l.po) := by
  refine ⟨fun hg => ⟨h.top_ne g (by simp [Lay.blocks, hg]), own_ne (by decide) h.mem h.seats g hg, own_ne (by decide) h.mem h.order g hg, own_ne (by decide) h.mem h.bits g hg⟩,
    fun hg => ⟨h.top_ne g (by simp [Lay.blocks, hg]), own_ne (by decide) h.seats h.mem g hg, own_ne (by decide) h.seats h.order g hg, own_ne (by decide) h.seats h.bits g hg⟩,
    fun hg => ⟨h.top_ne g (by simp [Lay.blocks, hg]), own_ne (by decide) h.order h.mem g hg, own_ne (by decide) h.order h.seats g hg, own_ne (by decide) h.order h.bits g hg⟩,
    fun hg => ⟨h.top_ne g (by simp [Lay.blocks, hg]), own_ne (by decide) h.bits h.mem g hg, own_ne (by decide) h.bits h.seats g hg, own_ne (by decide) h.bits h.order g hg⟩⟩
end Go.Proofs.YtcoddjdicodmhaaDoor
namespace Go.Proofs.YtcoddjdicodmhaaDoor
open Go.RowKit
set_option linter.unusedVariables false
theorem or_i64 (a b : Nat) (ha : a < 9223372036854775808) (hb : b < 9223372036854775808) : Go.bits .or .i64 (a : Int) (b : Int) = ((a ||| b : Nat) : Int) := by
  unfold Go.bits
  simp only [BitVec.toNat_or, BitVec.toNat_ofInt]
  rw [iwrap]
  have e : ∀ x : Nat, x < 9223372036854775808 → ((x : Int) % ((2 ^ IntKind.i64.bits : Nat) : Int)).toNat = x := by
    intro x hx
    rw [show ((2 ^ IntKind.i64.bits : Nat) : Int) = 18446744073709551616 from by decide]; omega
  rw [e a ha, e b hb]
  have hl : a ||| b < 2 ^ 63 := Nat.or_lt_two_pow (by omega) (by omega)
  unfold wrap64
  omega
theorem or_shape (n f : Nat) (hn : (n : Int) ≤ 8192) (hf : (f : Int) ≤ 1) : Go.bits .or .i64 ((n : Int) * 2) (f : Int) = ((2 * n + f : Nat) : Int) := by
  have h := or_i64 (n * 2) f (by omega) (by omega)
  rw [Int.natCast_mul] at h
  rw [show ((2 : Nat) : Int) = 2 from rfl] at h
  rw [h]
  have h2 := Nat.shiftLeft_add_eq_or_of_lt (i := 1) (b := f) (by omega) n
  rw [Nat.shiftLeft_eq] at h2
  rw [show n * 2 = n * 2 ^ 1 from rfl, ← h2]
  omega
set_option maxHeartbeats 400000 in
theorem shape_any (n f : Nat) (w : World) (hn : (n : Int) ≤ 8192) (hf : (f : Int) ≤ 1) :
    Calls Tryd.prog 102 #[.int .i64 n, .int .i64 f] w fun e w' => e = .returned (.int .i64 ((2 * n + f : Nat) : Int)) ∧ w' = w := by
  go_enter Tryd.func102, Tryd.ntmps102
  go_wp2
  go_ret
  exact ⟨ret_int (or_shape n f hn hf), rfl⟩
theorem pow64 (j : Nat) : IntKind.u64.wrap (2 ^ (j % 64)) = ((2 ^ (j % 64) : Nat) : Int) := by
  have h : 2 ^ (j % 64) < 2 ^ 64 := Nat.pow_lt_pow_right (by omega) (Nat.mod_lt _ (by omega))
  have e : ((2 : Int) ^ (j % 64)) = ((2 ^ (j % 64) : Nat) : Int) := by simp
  rw [e, IntKind.wrap_u64]
  generalize 2 ^ (j % 64) = x at *
  omega
set_option maxHeartbeats 400000 in
theorem bit_any (k : Nat) (w : World) (h0 : (1 : Int) ≤ k) (h1 : (k : Int) ≤ 100000) :
    Calls Tryd.prog 115 #[.int .i64 k] w fun e w' => e = .returned (.int .u64 ((2 ^ ((k - 1) % 64) : Nat) : Int)) ∧ w' = w := by
  go_enter Tryd.func115, Tryd.ntmps115
  go_wp2
  go_ret
  exact ⟨ret_int (pow64 _), rfl⟩
end Go.Proofs.YtcoddjdicodmhaaDoor
namespace Go.Proofs.YtcoddjdicodmhaaDoor
open Go.RowKit
set_option linter.unusedVariables false
attribute [local go_sem ↓] Go.wp_at_zero Go.wp_at_succ
theorem info152 : (Tryd.prog.info? 152).map (fun i => (i.zero, i.size, i.bytes)) = some (some (.int .u64 0), 1, 8) := by kernel_rfl
def padTo (bits : List Nat) (n : Nat) : List Nat := bits ++ List.replicate (n - bits.length) 0
def addBits (bits : List Nat) (k : Nat) : List Nat := (padTo bits ((k - 1) / 64 + 1)).set ((k - 1) / 64) ((padTo bits ((k - 1) / 64 + 1)).getD ((k - 1) / 64) 0 ||| 2 ^ ((k - 1) % 64))
theorem or_u64 (b j : Nat) (hb : b ≤ full) : Go.bits .or .u64 (b : Int) ((2 ^ (j % 64) : Nat) : Int) = ((b ||| 2 ^ (j % 64) : Nat) : Int) := by
  have h : 2 ^ (j % 64) < 2 ^ 64 := Nat.pow_lt_pow_right (by omega) (Nat.mod_lt _ (by omega))
  exact bits_or_u64_nat b _ (by unfold full at hb; omega) (by omega)
theorem blk_some (g o : Nat) : blk (some ⟨g, o, none⟩) = [g] := rfl
/-- one more word of bits -/
theorem grow_bits {w w1 : World} {a : Nat} {l : Lay} {H : HS} {g cap : Nat} (h : Rep w a l H) (hown : w1.ownsRow 0 152 1 (.slice (some ⟨g, 0, none⟩) (H.bits.length + 1) cap) (H.bits.length + 1) (H.bits.map U ++ [.int .u64 0]))
    (hg : (w.alloc (.cells #[.int .u64 0] 152)).grownBy w1 (Value.ownBlock (.slice l.pb H.bits.length l.cb))) (hat : Value.ownBlock (.slice l.pb H.bits.length l.cb) = some g ∨ g = w.heap.size + 1) :
    Rep (w1.setCell ⟨a, 7, none⟩ (.slice (some ⟨g, 0, none⟩) (H.bits.length + 1) cap)) a { l with pb := some ⟨g, 0, none⟩, cb := cap } { H with bits := H.bits ++ [0] } ∧
    Nx a l { l with pb := some ⟨g, 0, none⟩, cb := cap } w (w1.setCell ⟨a, 7, none⟩ (.slice (some ⟨g, 0, none⟩) (H.bits.length + 1) cap)) := by
  have hblk : ∀ k, k < w.heap.size → k ∉ blk l.pb → w1.heap[k]? = w.heap[k]? := fun k hk hn => by
    rw [hg.block k (by simp; omega) (fun e => hn ((blk_own _ _ _ _).1 e.symm))]
    exact Below.heap_alloc _ _ _ hk
  have hf : ∀ k, k = a ∨ k ∈ blk l.pm ∨ k ∈ blk l.ps ∨ k ∈ blk l.po → w1.heap[k]? = w.heap[k]? := fun k hk => by
    have hlt : k < w.heap.size := h.lt k (by simp only [foot, Lay.blocks, List.mem_cons, List.mem_append]; rcases hk with h1 | h1 | h1 | h1 <;> simp [h1])
    refine hblk k hlt (fun hb => ?_)
    have hp := (h.apart k).2.2.2 hb
    rcases hk with h1 | h1 | h1 | h1
    · exact hp.1 h1
    · exact hp.2.1 h1
    · exact hp.2.2.1 h1
    · exact hp.2.2.2 h1
  refine ⟨?_, ?_, ?_⟩
  · have := h.putBits (pb := some ⟨g, 0, none⟩) (cb := cap) (bs := H.bits ++ [0]) hf (by simpa [U] using hown)
    simpa using this
  · refine Fr.trans (S := foot a l) (S' := foot a l) (w' := w1) ⟨hg.os, hg.tape, hg.output, by have := hg.size; simp at this; omega, fun k hk hn => hblk k hk (fun hb => hn (by simp [foot, Lay.blocks, hb]))⟩ (Fr.setCell _ _ _ (by simp [foot])) (fun b hb => .inl hb)
  · intro b hb
    simp only [foot, Lay.blocks, List.mem_cons, List.mem_append, blk_some] at hb ⊢
    rcases hb with h1 | ((h1 | h1) | h1) | h1
    · exact .inl (.inl h1)
    · exact .inl (.inr (.inl (.inl (.inl h1))))
    · exact .inl (.inr (.inl (.inl (.inr h1))))
    · exact .inl (.inr (.inl (.inr h1)))
    · simp at h1
      subst h1
      rcases hat with h2 | h2
      · exact .inl (.inr (.inr ((blk_own _ _ _ _).1 h2)))
      · right; omega
/-- two worlds but for what was drawn -/
def Eqw (w w' : World) : Prop := w'.os = w.os ∧ w'.tape = w.tape ∧ w'.output = w.output ∧ w'.heap = w.heap
theorem Eqw.fr {w w' : World} (h : Eqw w w') (S : List Nat) : Fr S w w' := Fr.same S h.1 h.2.1 h.2.2.1 h.2.2.2
theorem map_set_U (B : List Nat) (i z : Nat) : (B.map U).set i (.int .u64 (z : Int)) = (B.set i z).map U := by rw [List.map_set]; rfl
theorem Rep.eqw {w w' : World} {a : Nat} {l : Lay} {H : HS} (h : Rep w a l H) (e : Eqw w w') : Rep w' a l H := h.congr fun g _ => by rw [e.2.2.2]
theorem Nx.eqw {w w' w'' : World} {a : Nat} {l l' : Lay} (h : Nx a l l' w w') (e : Eqw w' w'') : Nx a l l' w w'' := ⟨h.1.trans (e.fr []) (by simp), h.2⟩
/-- a bit's word and the count are written -/
theorem add_done {w w2 : World} {a : Nat} {l : Lay} {H : HS} {g i z : Nat} (h : Rep w a l H) (hg : l.pb = some ⟨g, 0, none⟩) (he : Eqw ((w.setCell ⟨g, i, none⟩ (.int .u64 (z : Int))).setCell ⟨a, 9, none⟩ (.int .i64 ((H.count : Int) + 1))) w2) :
    Rep w2 a l { H with bits := H.bits.set i z, count := H.count + 1 } ∧ Nx a l l w w2 := by
  have hgb : g ∈ blk l.pb := by rw [hg]; simp [blk]
  have hap := (h.apart g).2.2.2 hgb
  have hb := h.bits
  rw [hg] at hb
  have hb1 := own_stored hb i (.int .u64 (z : Int))
  rw [map_set_U, ← hg] at hb1
  have h2 : Rep (w.setCell ⟨g, i, none⟩ (.int .u64 (z : Int))) a l { H with bits := H.bits.set i z } := by
    refine h.turnBits (by simp) (fun k hk => set_else (fun e => ?_)) (by simpa using hb1)
    subst e
    rcases hk with h1 | h1 | h1 | h1
    · exact hap.1 h1
    · exact hap.2.1 h1
    · exact hap.2.2.1 h1
    · exact hap.2.2.2 h1
  have f1 : Fr (foot a l) w (w.setCell ⟨g, i, none⟩ (.int .u64 (z : Int))) := Fr.setCell _ _ _ (by simp [foot, Lay.blocks, hgb])
  exact ⟨Rep.eqw (h2.set (H' := { H with bits := H.bits.set i z, count := H.count + 1 }) 9 _ rfl rfl rfl rfl rfl) he, (Nx.frw (f1.trans (Fr.setCell (S := foot a l) _ _ _ (by simp [foot])) (fun b hb => .inl hb))).eqw he⟩
set_option maxRecDepth 20000 in
set_option maxHeartbeats 1000000 in
theorem add_any (k : Nat) (a : Nat) (l : Lay) (H : HS) (w : World) (h : Rep w a l H) (hk0 : (1 : Int) ≤ k) (hk1 : (k : Int) ≤ 65537) (hb : ∀ k, H.bits.getD k 0 ≤ full) (hn : (H.bits.length : Int) ≤ 1100) (hc : (H.count : Int) ≤ 100000) :
    Calls Tryd.prog 104 #[.pointer (some ⟨a, 7, none⟩), .int .i64 k] w fun e w' => e = .returned (.tuple #[]) ∧ ∃ l', Rep w' a l' { H with bits := addBits H.bits k, count := H.count + 1 } ∧ Nx a l l' w w' := by
  obtain ⟨i0, hi, hz0, hz1, hz2⟩ := info_parts info152
  have hd : ((k : Int) - 1) / 64 = (((k - 1) / 64 : Nat) : Int) := by omega
  have hd2 : (((k - 1) / 64 : Nat) : Int) ≤ 1024 := by omega
  obtain ⟨i, hi2⟩ : ∃ i, i = (k - 1) / 64 := ⟨_, rfl⟩
  rw [← hi2] at hd hd2
  have HI : Hid (i = (k - 1) / 64) := hi2
  clear hi2
  go_enter Tryd.func104, Tryd.ntmps104
  go_wp2
  simp only [hd]
  have HD : Hid (((k : Int) - 1) / 64 = (i : Int)) := hd
  clear hd
  go_loopg [] (i + 1 - H.bits.length) (fun gk wr => ∃ m l', gk = i + 1 - (H.bits.length + m) ∧ (m = 0 ∨ H.bits.length + m ≤ i + 1) ∧ Rep wr a l' { H with bits := H.bits ++ List.replicate m 0 } ∧ Nx a l l' w wr)
  case atStart => exact ⟨0, l, rfl, .inl rfl, by simpa using h, Nx.refl _ _ _⟩
  case round =>
    clear h
    obtain ⟨m, l', rfl, hm, hr, hx⟩ := hrel
    obtain ⟨B, hB⟩ : ∃ B, B = H.bits ++ List.replicate m 0 := ⟨_, rfl⟩
    have hBl : B.length = H.bits.length + m := by rw [hB]; simp
    rw [← hB] at hr
    have c7 := hr.c7
    have c9 := hr.c9
    have f7 := hr.frozen 7
    have f9 := hr.frozen 9
    dsimp only at c7 c9
    by_cases hle : B.length ≤ i
    · have hle' : ((B.length : Nat) : Int) ≤ (i : Int) := by omega
      have G := fun w1 g cap => @grow_bits wr w1 a l' { H with bits := B } g cap hr
      have HG := G
      clear G
      have hown := hr.bits
      dsimp only at hown HG
      have HM : Hid (B = H.bits ++ List.replicate m 0 ∧ B.length = H.bits.length + m ∧ Nx a l l' w wr) := ⟨hB, hBl, hx⟩
      have hmx : Hid (i + 1 - (H.bits.length + (m + 1)) < i + 1 - (H.bits.length + m)) := by unfold Hid; omega
      have hmy : Hid (H.bits.length + (m + 1) ≤ i + 1) := by unfold Hid; omega
      have hne : a < wr.heap.size := hr.lt a (by simp [foot])
      have hra : some a ≠ Value.ownBlock (.slice l'.pb B.length l'.cb) := fun e => (hr.apart a).2.2.2 ((blk_own _ _ _ _).1 e.symm) |>.1 rfl
      clear hr hx hB hBl hm hb hn HI
      go_wp2_with (first
        | (at_builtin; refine wpList_append_lies _ rfl (.tmp 19) (.tmp 20) 91 rfl 0 152 i0 (.int .u64 0) 1 8 Tryd.underlying91 hi hz0 hz1 hz2 rfl (by decide) _ _ _ rfl (hown.alloc _) ⟨wr.heap.size, 0, none⟩ 1 1 [.int .u64 0] rfl rfl ?c1 ?c2 (by omega) ?c3 ?c4 (by simp) (wr.heap.size + 1) (by simp) ?_)
        | go_in)
      case c1 =>
        intro j u hj
        match j, hj with
        | 0, hj => simp at hj; subst hj; simp [Addr.add]
      case c2 => intro u hu; simp at hu; subst hu; rfl
      case c3 => unfold maxLen; omega
      case c4 => omega
      intro g cap w1 hown' hgrow hat hlt
      have d7 := (hgrow.cell_far ⟨a, 7, none⟩ (by simp; omega) hra).trans ((World.cell?_alloc_lt (o := .cells #[.int .u64 0] 152) (w := wr) (a := ⟨a, 7, none⟩) hne).trans c7)
      have e7 := (hgrow.frozen_far ⟨a, 7, none⟩ (by simp; omega) hra).trans ((World.frozen?_alloc_old (o := .cells #[.int .u64 0] 152) (w := wr) (a := ⟨a, 7, none⟩) (by show a ≠ _; omega)).trans f7)
      have K := HG w1 g cap hown' hgrow hat
      have HK : Hid _ := K
      clear K HG hgrow hown' hown hat
      go_wp2
      go_roundg (i + 1 - (H.bits.length + (m + 1)))
      case measure => exact hmx.out
      case rel =>
        obtain ⟨q1, q2, q3⟩ := HM.out
        refine ⟨m + 1, _, rfl, .inr hmy.out, ?_, q3.trans HK.out.2⟩
        rw [List.replicate_succ', ← List.append_assoc, ← q1]
        exact HK.out.1
    · have hil : i < B.length := by omega
      have hpad : Hid (B = padTo H.bits ((k - 1) / 64 + 1)) := by
        have := HI.out
        have e : (k - 1) / 64 + 1 - H.bits.length = m := by omega
        unfold padTo Hid
        rw [hB, e]
      have hBb : ∀ j, B.getD j 0 ≤ full := by
        intro j
        rw [hB]
        by_cases hj : j < H.bits.length
        · have := hb j
          simp only [List.getD_eq_getElem?_getD, List.getElem?_append_left hj] at this ⊢
          exact this
        · simp only [List.getD_eq_getElem?_getD, List.getElem?_append_right (Nat.le_of_not_lt hj), List.getElem?_replicate]
          split <;> simp [full]
      obtain ⟨g, hg, cg, fg, hga⟩ := hr.bitAt i hil
      dsimp only at hg cg
      rw [hg] at c7
      have hou := or_u64 (B.getD i 0) (k - 1) (hBb i)
      have i1 : (0 : Int) ≤ (i : Int) := by omega
      have i2 : (i : Int) < (B.length : Int) := by omega
      have i3 : (B.length : Int) ≤ (i : Int) → False := by omega
      have HR : Hid (Nx a l l' w wr ∧ ∀ w2, Eqw ((wr.setCell ⟨g, i, none⟩ (.int .u64 ((B.getD i 0 ||| 2 ^ ((k - 1) % 64) : Nat) : Int))).setCell ⟨a, 9, none⟩ (.int .i64 ((H.count : Int) + 1))) w2 → Rep w2 a l' { H with bits := addBits H.bits k, count := H.count + 1 } ∧ Nx a l' l' wr w2) := by
        refine ⟨hx, fun w2 he => ?_⟩
        have K := add_done hr hg he
        have e : addBits H.bits k = B.set i (B.getD i 0 ||| 2 ^ ((k - 1) % 64)) := by unfold addBits; rw [← hpad.out, ← HI.out]
        rw [e]
        exact K
      have hc0 : (0 : Int) ≤ (H.count : Int) := by omega
      have hg0 : a < wr.heap.size := hr.lt a (by simp [foot])
      clear hr hx hB hBl hm hb hBb hle i3 hn HI hg hil
      generalize B.getD i 0 = b at *
      generalize hN : B.length = n at *
      have HN : Hid (B.length = n) := hN
      clear hN
      generalize b ||| 2 ^ ((k - 1) % 64) = z at *
      generalize hy : 2 ^ ((k - 1) % 64) = y at *
      have Hbit := bit_any k
      rw [hy] at Hbit
      have HB : Hid _ := Hbit
      clear hy Hbit
      go_wp2
      go_region_with (go_at_call 115; refine (HB.out _ hk0 (by omega)).mono ?_; rintro e w' ⟨rfl, rfl⟩)
      all_goals go_wp2
      all_goals
        go_end0
        refine ⟨rfl, l', (HR.out.2 _ ?_).1, HR.out.1.trans (HR.out.2 _ ?_).2⟩
      all_goals exact ⟨rfl, rfl, rfl, rfl⟩
end Go.Proofs.YtcoddjdicodmhaaDoor
