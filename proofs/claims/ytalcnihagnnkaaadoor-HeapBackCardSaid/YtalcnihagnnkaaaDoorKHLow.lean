import Derived.Test.YtalcnihagnnkaaaDoorKHTop
import Derived.Test.YtalcnihagnnkaaaDoorKHLeafM
import Derived.Deep.LoopGhost
import Derived.Laws.BitsAllLaws
namespace Go.Proofs.YtalcnihagnnkaaaDoor
open Go.RowKit
set_option linter.unusedVariables false
def full : Nat := 18446744073709551615
theorem own_at {w : World} {base : Nat} {e : TypeId} {ao : Option Addr} {c n : Nat} {xs : List Value} (h : w.ownsRow base e 1 (.slice ao n c) n xs) (k : Nat) (hk : k < n) :
    ∃ g, ao = some ⟨g, 0, none⟩ ∧ (∀ i, i < n → w.cell? ⟨g, i, none⟩ = xs[i]?) ∧ (∀ i, w.frozen? ⟨g, i, none⟩ = false) ∧ n ≤ c ∧ ∃ cur, w.heap[g]? = some (.cells cur e (0, 0)) ∧ cur.size = c := by
  rcases h.2 with ⟨h2, h3⟩ | ⟨g', cap, cur, h2, h3, h4, h5, h6, h7, h8⟩
  · omega
  · injection h2 with h2 h2b h2c
    subst h2
    subst h2c
    exact ⟨g', rfl, fun i hi => h.cellAt i (by omega), fun i => frozen_in h4 i, h5, cur, h4, by omega⟩
theorem Rep.bitAt {w : World} {a : Nat} {l : Lay} {H : HS} (h : Rep w a l H) (k : Nat) (hk : k < H.bits.length) :
    ∃ g, l.pb = some ⟨g, 0, none⟩ ∧ w.cell? ⟨g, k, none⟩ = some (.int .u64 ((H.bits.getD k 0 : Nat) : Int)) ∧ w.frozen? ⟨g, k, none⟩ = false ∧ g ≠ a := by
  obtain ⟨g, hg, hc, hf, _, cur, hcur, _⟩ := own_at h.bits k hk
  refine ⟨g, hg, ?_, hf k, ?_⟩
  · rw [hc k hk]; simp [U, hk]
  · exact h.top_ne g (by simp [Lay.blocks, blk, hg])
def oopAt (bits : List Nat) (k : Nat) : Int := if k = bits.length then (k : Int) * 64 + 1 else (k : Int) * 64 + (Lib.ctz 64 (full - bits.getD k 0) : Nat) + 1
structure LowTo (bits : List Nat) (low k : Nat) : Prop where
  ge : low ≤ k
  le : k ≤ bits.length
  ful : ∀ j, low ≤ j → j < k → bits.getD j 0 = full
theorem not64 (b : Nat) (hb : b < 18446744073709551616) : bits .xor .u64 18446744073709551615 (b : Int) = ((full - b : Nat) : Int) := by
  have h := u64_xor_nat 18446744073709551615 b (by omega) hb
  have e : (18446744073709551615 ^^^ b : Nat) = full - b := by
    have hx : (18446744073709551615 ^^^ b) = 2 ^ 64 - 1 - b := by
      apply Nat.eq_of_testBit_eq
      intro i
      rw [Nat.testBit_xor, show (18446744073709551615 : Nat) = 2 ^ 64 - 1 from rfl, Nat.testBit_two_pow_sub_one, show 2 ^ 64 - 1 - b = 2 ^ 64 - (b + 1) from by omega, Nat.testBit_two_pow_sub_succ (by omega)]
      by_cases hi : i < 64
      · simp [hi]
      · simp [hi]
        exact Nat.testBit_lt_two_pow (Nat.lt_of_lt_of_le (m := 2 ^ 64) hb (Nat.pow_le_pow_right (n := 2) (by omega) (by omega)))
    rw [hx]; rfl
  rw [e] at h
  exact h
theorem not64' (b : Nat) (hb : b < 18446744073709551616) : Go.bits .xor .u64 (if IntKind.u64.signed = true then -1 else IntKind.u64.max) (b : Int) = ((full - b : Nat) : Int) := by
  rw [show (if IntKind.u64.signed = true then (-1 : Int) else IntKind.u64.max) = 18446744073709551615 from rfl]
  exact not64 b hb
theorem ctz_lt (x : Nat) (h0 : x ≠ 0) (hx : x < 18446744073709551616) : Lib.ctz 64 x < 64 := (Lib.lowest_bit 64 x h0 hx).2
theorem Fr.same (S : List Nat) {w w' : World} (h1 : w'.os = w.os) (h2 : w'.tape = w.tape) (h3 : w'.output = w.output) (h4 : w'.heap = w.heap) : Fr S w w' := ⟨h1, h2, h3, by rw [h4]; exact Nat.le_refl _, fun k _ _ => by rw [h4]⟩
theorem Tab64.keep {w w' : World} {S : List Nat} (h : Tab64 w) (hf : Fr S w w') (h1 : 1 < w.heap.size) (hS : 1 ∉ S) : Tab64 w' := fun j hj => (hf.cell (p := ⟨1, j, none⟩) h1 hS).trans (h j hj)
theorem Tab64.same {w w' : World} (h : Tab64 w) (e : w'.heap = w.heap) : Tab64 w' := fun j hj => (World.cell?_of_block (w := w) (by rw [e])).trans (h j hj)
theorem Tab.keep {w w' : World} {S : List Nat} (h : Tab w) (hf : Fr S w w') (h1 : 0 < w.heap.size) (hS : 0 ∉ S) : Tab w' :=
  ⟨(hf.cell (p := ⟨0, 0, none⟩) h1 hS).trans h.1, (hf.cell (p := ⟨0, 1, none⟩) h1 hS).trans h.2.1, (hf.cell (p := ⟨0, 2, none⟩) h1 hS).trans h.2.2.1, (hf.cell (p := ⟨0, 3, none⟩) h1 hS).trans h.2.2.2⟩
set_option maxHeartbeats 1000000 in
theorem lowest_any (a : Nat) (l : Lay) (H : HS) (w : World) (h : Rep w a l H) (hl : H.low ≤ H.bits.length) (hn : (H.bits.length : Int) ≤ 1100) (hb : ∀ k, H.bits.getD k 0 ≤ full) (hT : Tab64 w) (ha : 2 ≤ a) :
    Calls Tryd.prog 51 #[.pointer (some ⟨a, 7, none⟩)] w fun e w' => ∃ k, LowTo H.bits H.low k ∧ (k < H.bits.length → H.bits.getD k 0 ≠ full) ∧ e = .returned (.int .i64 (oopAt H.bits k)) ∧ Rep w' a l { H with low := k } ∧ Fr [a] w w' ∧ w'.heap.size = w.heap.size := by
  have hlt := h.lt a (by simp [foot])
  go_enter Tryd.func51, Tryd.ntmps51
  go_wp2
  go_loopg [] (H.bits.length - H.low) (fun gk wr => ∃ k, gk = H.bits.length - k ∧ LowTo H.bits H.low k ∧ Rep wr a l { H with low := k } ∧ Fr [a] w wr ∧ wr.heap.size = w.heap.size)
  case atStart => exact ⟨H.low, rfl, ⟨Nat.le_refl _, hl, fun j h1 h2 => by omega⟩, h, Fr.refl _ _, rfl⟩
  case round =>
    clear h
    obtain ⟨k, rfl, hk, hr, hf, hz⟩ := hrel
    have hT' : Hid (Tab64 wr) := hT.keep hf (by omega) (by simp; omega)
    have hkl := hk.le
    have c7 := hr.c7
    have c8 := hr.c8
    have f8 := hr.frozen 8
    dsimp only at c7 c8
    by_cases hkn : k < H.bits.length
    · obtain ⟨g, hg, cg, _, hga⟩ := hr.bitAt k hkn
      dsimp only at hg cg
      rw [hg] at c7
      have hbk := hb k
      by_cases hfl : H.bits.getD k 0 = full
      · have R : Hid (∀ nq, Rep ((wr.drewN nq).setCell ⟨a, 8, none⟩ (.int .i64 ((k : Int) + 1))) a l { H with low := k + 1 }) := fun nq => (hr.drewN nq).set 8 _ rfl rfl rfl rfl rfl
        have F : Hid (∀ nq, Fr [a] w ((wr.drewN nq).setCell ⟨a, 8, none⟩ (.int .i64 ((k : Int) + 1)))) := fun nq => (hf.trans (Fr.drewN [a] wr nq) (by simp)).trans (Fr.setCell (S := [a]) _ _ _ (by simp)) (by simp)
        have L : Hid (LowTo H.bits H.low (k + 1)) := ⟨by have := hk.ge; omega, by omega, fun j h1 h2 => by
          by_cases e : j = k
          · rw [e]; exact hfl
          · exact hk.ful j h1 (by omega)⟩
        rw [hfl] at cg
        have hkn' : (k : Int) < (H.bits.length : Int) := by omega
        have hlt' : Hid (H.bits.length - (k + 1) < H.bits.length - k) := by unfold Hid; omega
        clear hr hf hk hT' hbk hfl hg hb hl hkl
        unfold full at cg
        go_wp2
        go_quiet (fail)
        go_wp2
        go_roundg (H.bits.length - (k + 1))
        case measure => exact hlt'.out
        case rel => exact ⟨k + 1, rfl, L.out, R.out _, F.out _, by simpa using hz⟩
      · have hfl' : (((H.bits.getD k 0 : Nat) : Int) == 18446744073709551615) = false := beq_eq_false_iff_ne.2 (by unfold full at hfl; omega)
        have hx := not64' (H.bits.getD k 0) (by unfold full at hbk; omega)
        have hx0 : full - H.bits.getD k 0 ≠ 0 := by omega
        have hx1 : full - H.bits.getD k 0 < 18446744073709551616 := by unfold full; omega
        have hz1 := ctz_lt _ hx0 hx1
        have htz := fun w hT => tz_any (full - H.bits.getD k 0) hx1 hx0 w hT
        have O : Hid (oopAt H.bits k = (k : Int) * 64 + ((Lib.ctz 64 (full - H.bits.getD k 0) : Nat) : Int) + 1) := by unfold oopAt Hid; rw [if_neg (by omega)]
        have HTZ := htz
        have P1 : Hid (LowTo H.bits H.low k ∧ (k < H.bits.length → H.bits.getD k 0 ≠ full) ∧ Rep wr a l { H with low := k } ∧ Fr [a] w wr ∧ wr.heap.size = w.heap.size) := ⟨hk, fun _ => hfl, hr, hf, hz⟩
        clear htz
        have hkn' : (k : Int) < (H.bits.length : Int) := by omega
        have hne : ((k : Int) == (H.bits.length : Int)) = false := by simp; omega
        clear hr hf hk hbk hfl hg hb hl hkl hx0 hx1
        generalize H.bits.length = n at hn c7 hkn hkn' hne
        generalize full - H.bits.getD k 0 = y at *
        generalize H.bits.getD k 0 = b at cg hfl' hx
        generalize Lib.ctz 64 y = z at *
        go_wp2
        go_quiet (fail)
        go_wp2
        go_quiet (fail)
        go_wp2
        go_quiet ((go_at_call 100; refine (HTZ _ (by exact hT'.out.same rfl)).mono ?_; rintro e w'' ⟨rfl, rfl⟩; exact ⟨rfl, _, rfl⟩))
        go_wp2
        go_ret
        obtain ⟨q1, q2, q3, q4, q5⟩ := P1.out
        exact ⟨k, q1, q2, ret_int (by rw [O.out]), q3.congr fun _ _ => rfl, q4.trans (Fr.same [] rfl rfl rfl rfl) (by simp), q5⟩
    · have hkeq : k = H.bits.length := by omega
      have O : Hid (oopAt H.bits k = (k : Int) * 64 + 1) := by unfold oopAt Hid; rw [if_pos hkeq]
      have P1 : Hid (LowTo H.bits H.low k ∧ (k < H.bits.length → H.bits.getD k 0 ≠ full) ∧ Rep wr a l { H with low := k } ∧ Fr [a] w wr ∧ wr.heap.size = w.heap.size) := ⟨hk, fun h => by omega, hr, hf, hz⟩
      have hne : ((k : Int) == (H.bits.length : Int)) = true := by simp; omega
      have hnl : decide ((k : Int) < (H.bits.length : Int)) = false := by simp; omega
      have hk2 : (k : Int) ≤ 1100 := by omega
      clear hr hf hk hb hl hkl hkeq
      generalize H.bits.length = n at hn c7 hkn hne hnl
      go_wp2
      go_quiet (fail)
      go_wp2
      go_quiet (fail)
      go_wp2
      go_ret
      obtain ⟨q1, q2, q3, q4, q5⟩ := P1.out
      exact ⟨k, q1, q2, ret_int (by rw [O.out]), q3.congr fun _ _ => rfl, q4.trans (Fr.same [] rfl rfl rfl rfl) (by simp), q5⟩
end Go.Proofs.YtalcnihagnnkaaaDoor
