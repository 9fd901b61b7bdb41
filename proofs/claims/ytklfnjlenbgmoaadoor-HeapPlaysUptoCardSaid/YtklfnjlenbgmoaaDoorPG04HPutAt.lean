import Derived.Test.YtklfnjlenbgmoaaDoorPHLay
set_option linter.unusedVariables false
namespace Go.Proofs.YtklfnjlenbgmoaaDoor
open Go.RowKit
theorem ret2 {k l : IntKind} {a b c d : Int} (h : a = b) (h2 : c = d) : Ending.returned (.tuple #[.int k a, .int l c]) = .returned (.tuple #[.int k b, .int l d]) := by rw [h, h2]
structure Safe (H : HS) : Prop where
 small : Small H
 low : H.low ≤ H.bits.length
 bl : (H.bits.length : Int) ≤ 1024
 bits : ∀ k, H.bits.getD k 0 ≤ full
 seats : (H.seats.length : Int) ≤ 65538
 order : (H.order.length : Int) ≤ 1048575
set_option maxHeartbeats 1000000 in
theorem Alloc_arg (cl n f : Int) (a : Nat) (l : Lay) (H : HS) (w : World) (h : Rep w a l H) (hT : Tab w) (he : isW cl = false ∨ isF f = false ∨ n < 0) :
  Calls Tryd.prog 14 #[.pointer (some ⟨a, 0, none⟩), .int .i64 cl, .int .i64 n, .int .i64 f] w fun e w' => e = .returned (.tuple #[.int .i64 0, .int .i64 1]) ∧ w' = w := by
 have c0 := h.c0
 have hw := mkHid (isWord_any cl w hT)
 have hf := mkHid (isFormat_any f w)
 clear h hT
 generalize hA : isW cl = A at *
 generalize hB : isF f = B at *
 clear hA hB
 cases A
 ·go_enter Tryd.func14, Tryd.ntmps14
  go_wp2_with (first | (go_at_call 44; refine (made_any _ _ c0).mono ?_; rintro e w' ⟨rfl, rfl⟩) | (go_at_call 48; refine Calls.mono hw.out ?_; rintro e w' ⟨rfl, rfl⟩))
  go_ret2
  exact ⟨rfl, rfl⟩
 ·cases B
  ·go_enter Tryd.func14, Tryd.ntmps14
   go_wp2_with (first | (go_at_call 44; refine (made_any _ _ c0).mono ?_; rintro e w' ⟨rfl, rfl⟩) | (go_at_call 48; refine Calls.mono hw.out ?_; rintro e w' ⟨rfl, rfl⟩) | (go_at_call 49; refine Calls.mono hf.out ?_; rintro e w' ⟨rfl, rfl⟩))
   go_ret2
   exact ⟨rfl, rfl⟩
  ·have hn : n < 0 := by simpa using he
   clear he
   go_enter Tryd.func14, Tryd.ntmps14
   go_wp2_with (first | (go_at_call 44; refine (made_any _ _ c0).mono ?_; rintro e w' ⟨rfl, rfl⟩) | (go_at_call 48; refine Calls.mono hw.out ?_; rintro e w' ⟨rfl, rfl⟩) | (go_at_call 49; refine Calls.mono hf.out ?_; rintro e w' ⟨rfl, rfl⟩))
   go_ret2
   exact ⟨rfl, rfl⟩
set_option maxHeartbeats 1000000 in
theorem Alloc_size (cl n f : Int) (a : Nat) (l : Lay) (H : HS) (w : World) (h : Rep w a l H) (hT : Tab w) (h1 : isW cl = true) (h2 : isF f = true) (h3 : 8192 < n) :
  Calls Tryd.prog 14 #[.pointer (some ⟨a, 0, none⟩), .int .i64 cl, .int .i64 n, .int .i64 f] w fun e w' => e = .returned (.tuple #[.int .i64 0, .int .i64 22]) ∧ w' = w := by
 have c0 := h.c0
 have hw := isWord_any cl w hT
 have hf := isFormat_any f w
 rw [h1] at hw
 rw [h2] at hf
 have HW := mkHid hw
 have HF := mkHid hf
 clear h hT h1 h2 hw hf
 go_enter Tryd.func14, Tryd.ntmps14
 go_wp2_with (first | (go_at_call 44; refine (made_any _ _ c0).mono ?_; rintro e w' ⟨rfl, rfl⟩) | (go_at_call 48; refine Calls.mono HW.out ?_; rintro e w' ⟨rfl, rfl⟩) | (go_at_call 49; refine Calls.mono HF.out ?_; rintro e w' ⟨rfl, rfl⟩))
 go_ret2
 exact ⟨rfl, rfl⟩
set_option maxHeartbeats 1000000 in
theorem Alloc_full (cl : Int) (n f : Nat) (a : Nat) (l : Lay) (H : HS) (w : World) (h : Rep w a l H) (hs : Small H) (hT : Tab w) (h1 : isW cl = true) (hf1 : (f : Int) ≤ 1) (h3 : (n : Int) ≤ 8192) (hfull : H.oops = H.count ∨ H.words < H.mem.length + lenN n f) :
  Calls Tryd.prog 14 #[.pointer (some ⟨a, 0, none⟩), .int .i64 cl, .int .i64 n, .int .i64 f] w fun e w' => e = .returned (.tuple #[.int .i64 0, .int .i64 23]) ∧ ∃ k, w' = w.drewN k := by
 have c0 := h.c0
 have hw := isWord_any cl w hT
 have hf := isFormat_any f w
 rw [h1] at hw
 rw [show isF (f : Int) = true from by unfold isF; simp; omega] at hf
 have HW := mkHid hw
 have HF := mkHid hf
 have HRm := mkHid (Room_any a l H w h hs)
 have hlen := length_any n f
 rw [lenOf_nat] at hlen
 have HL := mkHid hlen
 obtain ⟨s1, s2, s3, s4, s5⟩ := hs
 clear h hT h1 hw hf hlen
 generalize H.mem.length = m at *
 generalize H.words = x at *
 generalize H.oops = y at *
 generalize H.count = z at *
 generalize lenN n f = L at *
 by_cases hyz : y = z
 ·subst hyz
  have hb : ((y : Int) - y == 0) = true := by simp
  go_enter Tryd.func14, Tryd.ntmps14
  go_wp2_with (first | (go_at_call 44; refine (made_any _ _ c0).mono ?_; rintro e w' ⟨rfl, rfl⟩) | (go_at_call 48; refine Calls.mono HW.out ?_; rintro e w' ⟨rfl, rfl⟩) | (go_at_call 49; refine Calls.mono HF.out ?_; rintro e w' ⟨rfl, rfl⟩) | (go_at_call 20; refine Calls.mono HRm.out ?_; rintro e w' ⟨rfl, k, rfl⟩))
  go_ret2
  exact ⟨rfl, _, rfl⟩
 ·have hb : ((y : Int) - z == 0) = false := by simp; omega
  have hc : (x : Int) - m < L := by omega
  clear hyz hfull
  go_enter Tryd.func14, Tryd.ntmps14
  go_wp2_with (first | (go_at_call 44; refine (made_any _ _ c0).mono ?_; rintro e w' ⟨rfl, rfl⟩) | (go_at_call 48; refine Calls.mono HW.out ?_; rintro e w' ⟨rfl, rfl⟩) | (go_at_call 49; refine Calls.mono HF.out ?_; rintro e w' ⟨rfl, rfl⟩) | (go_at_call 20; refine Calls.mono HRm.out ?_; rintro e w' ⟨rfl, k, rfl⟩) | (go_at_call 50; refine (HL.out _ (by omega) (by omega)).mono ?_; rintro e w' ⟨rfl, rfl⟩))
  go_ret2
  exact ⟨rfl, _, rfl⟩
set_option maxHeartbeats 1000000 in
theorem Alloc_marked (cl : Int) (n f : Nat) (a : Nat) (l : Lay) (H : HS) (w : World) (h : Rep w a l H) (hs : Small H) (hT : Tab w) (h1 : isW cl = true) (hf1 : (f : Int) ≤ 1) (h3 : (n : Int) ≤ 8192) (hr1 : H.count < H.oops) (hr2 : H.mem.length + lenN n f ≤ H.words) (hm : H.mark = 1) :
  Calls Tryd.prog 14 #[.pointer (some ⟨a, 0, none⟩), .int .i64 cl, .int .i64 n, .int .i64 f] w fun e w' => e = .returned (.tuple #[.int .i64 0, .int .i64 24]) ∧ Rep w' a l { H with mark := 0 } ∧ Nx a l l w w' := by
 have c0 := h.c0
 have c3 := h.c3
 have f3 := h.frozen 3
 rw [hm] at c3
 have hw := isWord_any cl w hT
 have hf := isFormat_any f w
 rw [h1] at hw
 rw [show isF (f : Int) = true from by unfold isF; simp; omega] at hf
 have HW := mkHid hw
 have HF := mkHid hf
 have HRm := mkHid (Room_any a l H w h hs)
 have hlen := length_any n f
 rw [lenOf_nat] at hlen
 have HL := mkHid hlen
 obtain ⟨s1, s2, s3, s4, s5⟩ := hs
 have HE : Hid (∀ W, Eqw (w.setCell ⟨a, 3, none⟩ (.int .i64 0)) W → Rep W a l { H with mark := 0 } ∧ Nx a l l w W) := fun W he =>
  ⟨(h.set (H' := { H with mark := 0 }) 3 _ rfl rfl rfl rfl rfl).eqw he, (Nx.fr (Fr.setCell (S := [a]) _ _ _ (by simp))).eqw he⟩
 clear h hT h1 hw hf hlen hm
 generalize H.mem.length = m at *
 generalize H.words = x at *
 generalize H.oops = y at *
 generalize H.count = z at *
 generalize lenN n f = L at *
 have hb : ((y : Int) - z == 0) = false := by simp; omega
 have hc : (L : Int) ≤ (x : Int) - m := by omega
 go_enter Tryd.func14, Tryd.ntmps14
 go_wp2_with (first | (go_at_call 44; refine (made_any _ _ c0).mono ?_; rintro e w' ⟨rfl, rfl⟩) | (go_at_call 48; refine Calls.mono HW.out ?_; rintro e w' ⟨rfl, rfl⟩) | (go_at_call 49; refine Calls.mono HF.out ?_; rintro e w' ⟨rfl, rfl⟩) | (go_at_call 20; refine Calls.mono HRm.out ?_; rintro e w' ⟨rfl, k, rfl⟩) | (go_at_call 50; refine (HL.out _ (by omega) (by omega)).mono ?_; rintro e w' ⟨rfl, rfl⟩))
 go_ret2
 exact ⟨rfl, HE.out _ ⟨rfl, rfl, rfl, rfl⟩⟩
def oopN (bits : List Nat) (k : Nat) : Nat := if k = bits.length then k * 64 + 1 else k * 64 + Lib.ctz 64 (full - bits.getD k 0) + 1
theorem oopAt_nat (bits : List Nat) (k : Nat) : oopAt bits k = (oopN bits k : Int) := by
 unfold oopAt oopN
 split <;> omega
theorem oopN_le (bits : List Nat) (k : Nat) (hk : k ≤ bits.length) (hb : (bits.length : Int) ≤ 1024) (hne : k < bits.length → bits.getD k 0 ≠ full) (hf : ∀ k, bits.getD k 0 ≤ full) : 1 ≤ oopN bits k ∧ oopN bits k ≤ 65537 := by
 unfold oopN
 split
 ·omega
 ·have h1 := hne (by omega)
  have h2 := hf k
  have := ctz_lt (full - bits.getD k 0) (by omega) (by unfold full; omega)
  omega
set_option maxRecDepth 20000 in
set_option maxHeartbeats 2000000 in
theorem Alloc_ok (cl : Int) (n f : Nat) (a : Nat) (l : Lay) (H : HS) (w : World) (h : Rep w a l H) (hS : Safe H) (hT : Tab w) (hT2 : Tab64 w) (ha : 2 ≤ a) (h1 : isW cl = true) (hf1 : (f : Int) ≤ 1) (h3 : (n : Int) ≤ 8192) (hr1 : H.count < H.oops) (hr2 : H.mem.length + lenN n f ≤ H.words) (hm : H.mark ≠ 1) :
  Calls Tryd.prog 14 #[.pointer (some ⟨a, 0, none⟩), .int .i64 cl, .int .i64 n, .int .i64 f] w fun e w' => ∃ k, LowTo H.bits H.low k ∧ (k < H.bits.length → H.bits.getD k 0 ≠ full) ∧ e = .returned (.tuple #[.int .i64 (oopN H.bits k : Nat), .int .i64 0]) ∧ ∃ l', Rep w' a l' (layH { H with mark := H.mark - 1, low := k } (oopN H.bits k) cl n f) ∧ Nx a l l' w w' := by
 have hs := hS.small
 have c0 := h.c0
 have c3 := h.c3
 have f3 := h.frozen 3
 have hw := isWord_any cl w hT
 have hf := isFormat_any f w
 rw [h1] at hw
 rw [show isF (f : Int) = true from by unfold isF; simp; omega] at hf
 have HW := mkHid hw
 have HF := mkHid hf
 have HRm := mkHid (Room_any a l H w h hs)
 have hlen := length_any n f
 rw [lenOf_nat] at hlen
 have HL := mkHid hlen
 obtain ⟨s1, s2, s3, s4, s5⟩ := hs
 have hal := h.lt a (by simp [foot])
 have HE : Hid (∀ W, Eqw (w.setCell ⟨a, 3, none⟩ (.int .i64 ((H.mark - 1 : Nat) : Int))) W → Rep W a l { H with mark := H.mark - 1 } ∧ Nx a l l w W ∧ Tab64 W) := fun W he =>
  have hfr : Fr [a] w W := (Fr.setCell (S := [a]) _ _ _ (by simp)).trans (he.fr []) (by simp)
  ⟨(h.set (H' := { H with mark := H.mark - 1 }) 3 _ rfl rfl rfl rfl rfl).eqw he, Nx.fr hfr, hT2.keep hfr (by omega) (by simp; omega)⟩
 have HLow : Hid (∀ W, Rep W a l { H with mark := H.mark - 1 } → Tab64 W → Calls Tryd.prog 51 #[.pointer (some ⟨a, 7, none⟩)] W fun e w' => ∃ k, (LowTo H.bits H.low k ∧ (k < H.bits.length → H.bits.getD k 0 ≠ full)) ∧ e = .returned (.int .i64 (oopN H.bits k : Nat)) ∧ Rep w' a l { H with mark := H.mark - 1, low := k } ∧ Nx a l l W w' ∧ 1 ≤ oopN H.bits k ∧ oopN H.bits k ≤ 65537) := by
  intro W hW hTW
  refine (lowest_any a l { H with mark := H.mark - 1 } W hW hS.low (by have := hS.bl; dsimp only; omega) hS.bits hTW ha).mono ?_
  rintro e w' ⟨k, q1, q2, q3, q4, q5, q6⟩
  dsimp only at q1 q2 q3 q4
  rw [oopAt_nat] at q3
  exact ⟨k, ⟨q1, q2⟩, q3, q4, Nx.fr q5, oopN_le H.bits k q1.le hS.bl q2 hS.bits⟩
 have HLay : Hid (∀ W k, Rep W a l { H with mark := H.mark - 1, low := k } → 1 ≤ oopN H.bits k → oopN H.bits k ≤ 65537 → Calls Tryd.prog 52 #[.pointer (some ⟨a, 0, none⟩), .int .i64 (oopN H.bits k : Nat), .int .i64 cl, .int .i64 n, .int .i64 f] W fun e w' => (∃ v, e = .returned v) ∧ ∃ l', Rep w' a l' (layH { H with mark := H.mark - 1, low := k } (oopN H.bits k) cl n f) ∧ Nx a l l' W w') := by
  intro W k hW hk1 hk2
  have hsm : Small { H with mark := H.mark - 1, low := k } := ⟨s1, s2, s3, s4, by dsimp only; omega⟩
  refine (lay_any (oopN H.bits k) n f cl a l { H with mark := H.mark - 1, low := k } W hW hsm (by omega) (by omega) h3 hf1 hr2 hS.seats (by have := hS.order; dsimp only; omega) hS.bits (by have := hS.bl; dsimp only; omega)).mono ?_
  rintro e w' ⟨rfl, q⟩
  exact ⟨⟨_, rfl⟩, q⟩
 have hb : ((H.oops : Int) - H.count == 0) = false := by simp; omega
 have hc : (lenN n f : Int) ≤ (H.words : Int) - H.mem.length := by omega
 have hmb : ((H.mark : Int) == 1) = false := by simp; omega
 have hmx : ∃ q : Int, q = ((H.mark - 1 : Nat) : Int) := ⟨_, rfl⟩
 clear h hT h1 hw hf hlen hT2 hS
 go_enter Tryd.func14, Tryd.ntmps14
 go_wp2_with (first | (go_at_call 44; refine (made_any _ _ c0).mono ?_; rintro e w' ⟨rfl, rfl⟩) | (go_at_call 48; refine Calls.mono HW.out ?_; rintro e w' ⟨rfl, rfl⟩) | (go_at_call 49; refine Calls.mono HF.out ?_; rintro e w' ⟨rfl, rfl⟩) | (go_at_call 20; refine Calls.mono HRm.out ?_; rintro e w' ⟨rfl, k, rfl⟩) | (go_at_call 50; refine (HL.out _ (by omega) (by omega)).mono ?_; rintro e w' ⟨rfl, rfl⟩))
 ·have hv : ((H.mark - 1 : Nat) : Int) = 0 := by omega
  rw [hv] at HE
  have K := HE.out _ (⟨rfl, rfl, rfl, rfl⟩ : Eqw _ ((w'.drewN k).setCell ⟨a, 3, none⟩ (.int .i64 0)))
  refine Calls.mono (HLow.out _ K.1 K.2.2) ?_
  rintro e w2 ⟨k2, hlw, rfl, hr2, hx2, ho1, ho2⟩
  have HLY := mkHid (HLay.out w2 k2 hr2 ho1 ho2)
  have HX := mkHid (K.2.1.trans hx2)
  clear K HE HLow HLay hr2 hx2
  generalize hoo : oopN H.bits k2 = oo at *
  have HO := mkHid hoo
  clear hoo
  go_wp2_with fail
  refine Calls.mono HLY.out ?_
  rintro e w3 ⟨⟨v, rfl⟩, l', hr3, hx3⟩
  have HR := mkHid hr3
  have HX3 := mkHid (HX.out.trans hx3)
  have HLW := mkHid hlw
  clear hr3 hx3 hlw HLY HX
  go_wp2
  go_ret2
  have ho := HO.out
  subst ho
  exact ⟨k2, HLW.out.1, HLW.out.2, rfl, l', HR.out, HX3.out⟩
 ·have hv : ((H.mark - 1 : Nat) : Int) = (H.mark : Int) - 1 := by omega
  rw [hv] at HE
  have K := HE.out _ (⟨rfl, rfl, rfl, rfl⟩ : Eqw _ ((w'.drewN k).setCell ⟨a, 3, none⟩ (.int .i64 ((H.mark : Int) - 1))))
  refine Calls.mono (HLow.out _ K.1 K.2.2) ?_
  rintro e w2 ⟨k2, hlw, rfl, hr2, hx2, ho1, ho2⟩
  have HLY := mkHid (HLay.out w2 k2 hr2 ho1 ho2)
  have HX := mkHid (K.2.1.trans hx2)
  clear K HE HLow HLay hr2 hx2
  generalize hoo : oopN H.bits k2 = oo at *
  have HO := mkHid hoo
  clear hoo
  go_wp2_with fail
  refine Calls.mono HLY.out ?_
  rintro e w3 ⟨⟨v, rfl⟩, l', hr3, hx3⟩
  have HR := mkHid hr3
  have HX3 := mkHid (HX.out.trans hx3)
  have HLW := mkHid hlw
  clear hr3 hx3 hlw HLY HX
  go_wp2
  go_ret2
  have ho := HO.out
  subst ho
  exact ⟨k2, HLW.out.1, HLW.out.2, rfl, l', HR.out, HX3.out⟩
end Go.Proofs.YtklfnjlenbgmoaaDoor
namespace Go.Proofs.YtklfnjlenbgmoaaDoor
open Go.RowKit
attribute [local go_sem ↓] Go.wp_at_zero Go.wp_at_succ
def sv (s : Nat × Nat × Nat) : Value := .agg #[I s.1, I s.2.1, I s.2.2]
def has (H : HS) (oop : Int) : Bool := decide (1 ≤ oop ∧ oop < H.seats.length ∧ (H.seats.getD oop.toNat (0, 0, 0)).2.1 ≠ 0)
set_option maxRecDepth 20000 in
set_option maxHeartbeats 1000000 in
theorem seatOf_yes (oop : Nat) (a : Nat) (l : Lay) (H : HS) (w : World) (h : Rep w a l H) (h1 : (1 : Int) ≤ oop) (h2 : (oop : Int) < H.seats.length) (h3 : (H.seats.getD oop (0, 0, 0)).2.1 ≠ 0) :
  Calls Tryd.prog 70 #[.pointer (some ⟨a, 0, none⟩), .int .i64 oop] w fun e w' => e = .returned (.tuple #[sv (H.seats.getD oop (0, 0, 0)), .int .i64 0]) ∧ Fr [] w w' := by
 obtain ⟨gs, hgs, hcs, hfs, hgsa, hgsl⟩ := h.seatAt oop (by omega)
 obtain ⟨q0, q1, q2⟩ := hcs oop (by omega)
 have c0 := h.c0
 have c5 := h.c5
 rw [hgs] at c5
 have hal := h.lt a (by simp [foot])
 have n0 : (H.seats.length : Int) ≤ oop → False := by omega
 have hne : (((H.seats.getD oop (0, 0, 0)).2.1 : Int) == 0) = false := by simpa using h3
 have hSV : sv (H.seats.getD oop (0, 0, 0)) = .agg #[.int .i64 ((H.seats.getD oop (0, 0, 0)).1 : Int), .int .i64 ((H.seats.getD oop (0, 0, 0)).2.1 : Int), .int .i64 ((H.seats.getD oop (0, 0, 0)).2.2 : Int)] := rfl
 have HSV := mkHid hSV
 simp only [I] at q0 q1 q2
 clear h hcs hfs h3 hSV
 generalize hy : sv (H.seats.getD oop (0, 0, 0)) = yy at *
 clear hy
 generalize (H.seats.getD oop (0, 0, 0)).1 = y0 at *
 generalize (H.seats.getD oop (0, 0, 0)).2.1 = y1 at *
 generalize (H.seats.getD oop (0, 0, 0)).2.2 = y2 at *
 generalize H.seats.length = sn at *
 have m0 : (0 : Int) ≤ (oop : Int) := by omega
 have hm : Calls Tryd.prog 44 #[.pointer (some ⟨a, 0, none⟩)] (w.alloc (.cells #[.int .i64 0, .int .i64 0, .int .i64 0] 103)) fun e w' => e = .returned (.bool true) ∧ w' = (w.alloc (.cells #[.int .i64 0, .int .i64 0, .int .i64 0] 103)) := made_any a _ ((World.cell?_alloc_lt w _ _ hal).trans c0)
 have HM := mkHid hm
 clear hm
 go_enter Tryd.func70, Tryd.ntmps70
 go_wp2_with (go_at_call 44; refine Calls.mono HM.out ?_; rintro e w' ⟨rfl, rfl⟩)
 have x := heap_alloc_new w (.cells #[.int .i64 y0, .int .i64 y1, .int .i64 y2] 103)
 refine bodyPost_ret (v := .tuple #[yy, .int .i64 0]) (by rw [HSV.out]; simp [results, Tryd.results70, go_sem]) rfl ⟨rfl, Fr.alloc _ _ _⟩
set_option maxRecDepth 20000 in
set_option maxHeartbeats 1000000 in
theorem seatOf_no (oop : Int) (a : Nat) (l : Lay) (H : HS) (w : World) (h : Rep w a l H) (hh : has H oop = false) :
  Calls Tryd.prog 70 #[.pointer (some ⟨a, 0, none⟩), .int .i64 oop] w fun e w' => e = .returned (.tuple #[sv (0, 0, 0), .int .i64 20]) ∧ Fr [] w w' := by
 have c0 := h.c0
 have c5 := h.c5
 have hal := h.lt a (by simp [foot])
 have HM := mkHid (made_any a _ ((World.cell?_alloc_lt w (.cells #[.int .i64 0, .int .i64 0, .int .i64 0] 103) _ hal).trans c0))
 have hSV : sv (0, 0, 0) = .agg #[.int .i64 0, .int .i64 0, .int .i64 0] := rfl
 have HSV := mkHid hSV
 clear hSV
 by_cases h1 : oop < 1
 ·clear h hh
  generalize sv (0, 0, 0) = yy at *
  go_enter Tryd.func70, Tryd.ntmps70
  go_wp2_with (go_at_call 44; refine Calls.mono HM.out ?_; rintro e w' ⟨rfl, rfl⟩)
  refine bodyPost_ret (v := .tuple #[yy, .int .i64 20]) (by rw [HSV.out]; simp [results, Tryd.results70, go_sem]) rfl ⟨rfl, Fr.alloc _ _ _⟩
 ·obtain ⟨k, rfl⟩ : ∃ k : Nat, oop = k := ⟨oop.toNat, by omega⟩
  by_cases h2 : H.seats.length ≤ k
  ·have h2' : (H.seats.length : Int) ≤ (k : Int) := by omega
   clear h hh
   generalize H.seats.length = sn at *
   generalize sv (0, 0, 0) = yy at *
   go_enter Tryd.func70, Tryd.ntmps70
   go_wp2_with (go_at_call 44; refine Calls.mono HM.out ?_; rintro e w' ⟨rfl, rfl⟩)
   refine bodyPost_ret (v := .tuple #[yy, .int .i64 20]) (by rw [HSV.out]; simp [results, Tryd.results70, go_sem]) rfl ⟨rfl, Fr.alloc _ _ _⟩
  ·obtain ⟨gs, hgs, hcs, hfs, hgsa, hgsl⟩ := h.seatAt k (by omega)
   obtain ⟨q0, q1, q2⟩ := hcs k (by omega)
   rw [hgs] at c5
   have h3 : (H.seats.getD k (0, 0, 0)).2.1 = 0 := by
    unfold has at hh
    have := of_decide_eq_false hh
    simp only [Int.toNat_natCast] at this
    have hx : 1 ≤ (k : Int) ∧ (k : Int) < H.seats.length := by omega
    by_cases hq : (H.seats.getD k (0, 0, 0)).2.1 = 0
    ·exact hq
    ·exact absurd ⟨hx.1, hx.2, hq⟩ this
   rw [h3] at q1
   simp only [I] at q1
   have h2' : (k : Int) < (H.seats.length : Int) := by omega
   have m0 : (0 : Int) ≤ (k : Int) := by omega
   clear h hh hcs hfs q0 q2 h3
   generalize H.seats.length = sn at *
   generalize sv (0, 0, 0) = yy at *
   go_enter Tryd.func70, Tryd.ntmps70
   go_wp2_with (go_at_call 44; refine Calls.mono HM.out ?_; rintro e w' ⟨rfl, rfl⟩)
   refine bodyPost_ret (v := .tuple #[yy, .int .i64 20]) (by rw [HSV.out]; simp [results, Tryd.results70, go_sem]) rfl ⟨rfl, Fr.alloc _ _ _⟩
theorem and1 (n : Int) : Go.bits .and .i64 n 1 = n % 2 := by
 unfold Go.bits
 simp only [BitVec.toNat_and, BitVec.toNat_ofInt]
 rw [iwrap]
 have e : ((1 : Int) % ((2 ^ IntKind.i64.bits : Nat) : Int)).toNat = 2 ^ 1 - 1 := by decide
 rw [e, Nat.and_two_pow_sub_one_eq_mod]
 have e2 : ((2 ^ IntKind.i64.bits : Nat) : Int) = 18446744073709551616 := by decide
 rw [e2]
 unfold wrap64
 omega
set_option maxRecDepth 20000 in
set_option maxHeartbeats 1000000 in
theorem shape_of (s : Nat × Nat × Nat) (v : Nat) (a : Nat) (l : Lay) (H : HS) (w : World) (h : Rep w a l H) (h1 : s.1 + 1 < H.mem.length) (h2 : H.mem.getD (s.1 + 1) 0 = (v : Int)) (hb : (H.mem.length : Int) ≤ 1048576) :
  Calls Tryd.prog 71 #[.pointer (some ⟨a, 0, none⟩), sv s] w fun e w' => e = .returned (.tuple #[I (v / 2), I (v % 2)]) ∧ Fr [] w w' := by
 obtain ⟨g, hg, hcg, hfg, hga, hgl⟩ := h.memBlock (by omega)
 have q := hcg (s.1 + 1) h1
 rw [h2] at q
 have c4 := h.c4
 rw [hg] at c4
 have hal := h.lt a (by simp [foot])
 have k1 : (s.1 : Int) + 1 < (H.mem.length : Int) := by omega
 have k2 : (0 : Int) ≤ (s.1 : Int) + 1 := by omega
 have k3 : IntKind.i64.wrap ((s.1 : Int) + 1) = (s.1 : Int) + 1 := by rw [iwrap]; unfold wrap64; omega
 have ha := and1 v
 clear h hcg hfg h1 h2
 obtain ⟨p, L, t⟩ := s
 dsimp only [sv, I] at *
 generalize H.mem.length = m at *
 go_enter Tryd.func71, Tryd.ntmps71
 go_wp2
 go_quiet (fail)
 go_wp2
 go_ret2
 exact ⟨ret2 (by omega) (by omega), (Fr.alloc [] w _).trans (Fr.drewN [] _ _) (by simp)⟩
def mayB (v f : Int) : Bool := if f = 1 then decide (0 ≤ v ∧ v ≤ 255) else isW v
set_option maxHeartbeats 400000 in
theorem mayStand_any (v f : Int) (w : World) (hT : Tab w) :
  Calls Tryd.prog 72 #[.int .i64 v, .int .i64 f] w fun e w' => e = .returned (.bool (mayB v f)) ∧ w' = w := by
 by_cases hf : f = 1
 ·subst hf
  by_cases h0 : 0 ≤ v
  ·have hi : Hid (mayB v 1 = decide (v ≤ 255)) := by unfold mayB Hid; simp [h0]
   clear hT
   go_enter Tryd.func72, Tryd.ntmps72
   go_wp2
   go_ret
   exact ⟨ret_bool hi.out.symm, rfl⟩
  ·have hi : Hid (mayB v 1 = false) := by unfold mayB Hid; simp [h0]
   clear hT
   go_enter Tryd.func72, Tryd.ntmps72
   go_wp2
   go_ret
   exact ⟨ret_bool hi.out.symm, rfl⟩
 ·have hi : Hid (mayB v f = isW v) := by unfold mayB Hid; simp [hf]
  have hb : (f == 1) = false := by simpa using hf
  have HW := mkHid (isWord_any v w hT)
  clear hf hT
  generalize isW v = q at *
  go_enter Tryd.func72, Tryd.ntmps72
  go_wp2_with (go_at_call 48; refine Calls.mono HW.out ?_; rintro e w' ⟨rfl, rfl⟩)
  go_ret
  exact ⟨ret_bool hi.out.symm, rfl⟩
set_option maxHeartbeats 400000 in
theorem byteAt_any (s : Nat × Nat × Nat) (i : Nat) (w : World) (h0 : (s.1 : Int) ≤ 1048576) (h1 : (i : Int) ≤ 1048576) :
  Calls Tryd.prog 107 #[sv s, .int .i64 i] w fun e w' => e = .returned (.tuple #[I (s.1 + 2 + i / 4), I (i % 4 * 8)]) ∧ Fr [] w w' := by
 obtain ⟨p, L, t⟩ := s
 dsimp only [sv, I] at *
 go_enter Tryd.func107, Tryd.ntmps107
 go_wp2
 go_ret2
 exact ⟨ret2 (by omega) (by omega), Fr.alloc _ _ _⟩
set_option maxRecDepth 20000 in
set_option maxHeartbeats 1000000 in
theorem setSlot_w (s : Nat × Nat × Nat) (i : Nat) (v : Int) (a : Nat) (l : Lay) (H : HS) (w : World) (h : Rep w a l H) (h1 : s.1 + 2 + i < H.mem.length) (hb : (H.mem.length : Int) ≤ 1048576) :
  Calls Tryd.prog 73 #[.pointer (some ⟨a, 0, none⟩), sv s, .int .i64 0, .int .i64 i, .int .i64 v] w fun e w' => e = .returned (.tuple #[]) ∧ Rep w' a l { H with mem := H.mem.set (s.1 + 2 + i) v } ∧ Nx a l l w w' := by
 obtain ⟨g, hg, hcg, hfg, hga, hgl⟩ := h.memBlock (by omega)
 have q := hcg (s.1 + 2 + i) h1
 have fq := hfg (s.1 + 2 + i)
 have c4 := h.c4
 rw [hg] at c4
 have hal := h.lt a (by simp [foot])
 have HE : Hid (∀ o W, Eqw ((w.setCell ⟨g, s.1 + 2 + i, none⟩ (.int .i64 v)).alloc o) W → Rep W a l { H with mem := H.mem.set (s.1 + 2 + i) v } ∧ Nx a l l w W) := by
  intro o W he
  have K := h.setMem hg (s.1 + 2 + i) h1 v _ ⟨rfl, rfl, rfl, rfl⟩
  exact ⟨(K.1.alloc o).eqw he, (K.2.trans (Nx.frw (Fr.alloc _ _ _))).eqw he⟩
 have k1 : (s.1 : Int) + 2 + (i : Int) < (H.mem.length : Int) := by omega
 have k2 : (0 : Int) ≤ (s.1 : Int) + 2 + (i : Int) := by omega
 have k3 : IntKind.i64.wrap ((s.1 : Int) + 2) = (s.1 : Int) + 2 := by rw [iwrap]; unfold wrap64; omega
 have k4 : IntKind.i64.wrap ((s.1 : Int) + 2 + (i : Int)) = (s.1 : Int) + 2 + (i : Int) := by rw [iwrap]; unfold wrap64; omega
 clear h hcg hfg
 obtain ⟨p, L, t⟩ := s
 dsimp only [sv, I] at *
 generalize H.mem.getD (p + 2 + i) 0 = old at *
 generalize hm : H.mem.length = m at *
 have HMM := mkHid hm
 clear hm
 go_enter Tryd.func73, Tryd.ntmps73
 go_wp2
 go_region
 all_goals go_wp2
 all_goals
  refine bodyPost_ret (results_none rfl _ _ _) rfl ?_
  exact ⟨rfl, HE.out _ _ ⟨rfl, rfl, rfl, rfl⟩⟩
theorem andNot_i64 (a b : Nat) (ha : a < 9223372036854775808) (hb : b < 9223372036854775808) : Go.bits .andNot .i64 (a : Int) (b : Int) = ((a &&& (18446744073709551615 - b) : Nat) : Int) := by
 show IntKind.i64.wrap ((BitVec.ofInt 64 (a : Int) &&& ~~~ BitVec.ofInt 64 (b : Int)).toNat : Int) = _
 rw [BitVec.toNat_and, BitVec.toNat_not, ofInt_u64 a (by omega), ofInt_u64 b (by omega), iwrap]
 have hl : a &&& (2 ^ 64 - 1 - b) ≤ a := Nat.and_le_left
 unfold wrap64
 rw [show (18446744073709551615 : Nat) = 2 ^ 64 - 1 from rfl]
 omega
theorem and255 (n : Int) : Go.bits .and .i64 n 255 = n % 256 := by
 unfold Go.bits
 simp only [BitVec.toNat_and, BitVec.toNat_ofInt]
 rw [iwrap]
 have e : ((255 : Int) % ((2 ^ IntKind.i64.bits : Nat) : Int)).toNat = 2 ^ 8 - 1 := by decide
 rw [e, Nat.and_two_pow_sub_one_eq_mod]
 have e2 : ((2 ^ IntKind.i64.bits : Nat) : Int) = 18446744073709551616 := by decide
 rw [e2]
 unfold wrap64
 omega
set_option maxRecDepth 20000 in
set_option maxHeartbeats 1000000 in
theorem slot_w (s : Nat × Nat × Nat) (i : Nat) (a : Nat) (l : Lay) (H : HS) (w : World) (h : Rep w a l H) (h1 : s.1 + 2 + i < H.mem.length) (hb : (H.mem.length : Int) ≤ 1048576) :
  Calls Tryd.prog 98 #[.pointer (some ⟨a, 0, none⟩), sv s, .int .i64 0, .int .i64 i] w fun e w' => e = .returned (.int .i64 (H.mem.getD (s.1 + 2 + i) 0)) ∧ Fr [] w w' := by
 obtain ⟨g, hg, hcg, hfg, hga, hgl⟩ := h.memBlock (by omega)
 have q := hcg (s.1 + 2 + i) h1
 have c4 := h.c4
 rw [hg] at c4
 have hal := h.lt a (by simp [foot])
 have k1 : (s.1 : Int) + 2 + (i : Int) < (H.mem.length : Int) := by omega
 have k2 : (0 : Int) ≤ (s.1 : Int) + 2 + (i : Int) := by omega
 have k3 : IntKind.i64.wrap ((s.1 : Int) + 2) = (s.1 : Int) + 2 := by rw [iwrap]; unfold wrap64; omega
 have k4 : IntKind.i64.wrap ((s.1 : Int) + 2 + (i : Int)) = (s.1 : Int) + 2 + (i : Int) := by rw [iwrap]; unfold wrap64; omega
 clear h hcg hfg
 obtain ⟨p, L, t⟩ := s
 dsimp only [sv, I] at *
 generalize H.mem.getD (p + 2 + i) 0 = old at *
 generalize hm : H.mem.length = m at *
 clear hm
 go_enter Tryd.func98, Tryd.ntmps98
 go_wp2
 go_quiet (fail)
 go_wp2
 go_ret
 exact ⟨rfl, (Fr.alloc [] w _).trans (Fr.drewN [] _ _) (by simp)⟩
theorem Tab.fr {w w' : World} (h : Tab w) (hf : Fr [] w w') (h1 : 0 < w.heap.size) : Tab w' := h.keep hf h1 (by simp)
set_option maxRecDepth 20000 in
set_option maxHeartbeats 2000000 in
theorem Put_ok (oop i n f : Nat) (v : Int) (a : Nat) (l : Lay) (H H' : HS) (w : World) (h : Rep w a l H) (hb : (H.mem.length : Int) ≤ 1048576) (h1 : (1 : Int) ≤ oop) (h2 : (oop : Int) < H.seats.length)
  (h3 : (H.seats.getD oop (0, 0, 0)).2.1 ≠ 0) (h4 : (H.seats.getD oop (0, 0, 0)).1 + 1 < H.mem.length) (h5 : H.mem.getD ((H.seats.getD oop (0, 0, 0)).1 + 1) 0 = ((2 * n + f : Nat) : Int)) (hf : (f : Int) ≤ 1) (hi : (i : Int) < n) (hn : (n : Int) ≤ 8192) (hm : mayB v f = true) (hT : Tab w)
  (hset : ∀ W, Rep W a l H → Calls Tryd.prog 73 #[.pointer (some ⟨a, 0, none⟩), sv (H.seats.getD oop (0, 0, 0)), .int .i64 f, .int .i64 i, .int .i64 v] W fun e w' => e = .returned (.tuple #[]) ∧ Rep w' a l H' ∧ Nx a l l W w') :
  Calls Tryd.prog 29 #[.pointer (some ⟨a, 0, none⟩), .int .i64 oop, .int .i64 i, .int .i64 v] w fun e w' => e = .returned (.int .i64 0) ∧ Rep w' a l H' ∧ Nx a l l w w' := by
 have hal := h.lt a (by simp [foot])
 have HSO := mkHid (seatOf_yes oop a l H w h h1 h2 h3)
 obtain ⟨⟨p, L, t⟩, hs⟩ : ∃ s, s = H.seats.getD oop (0, 0, 0) := ⟨_, rfl⟩
 rw [← hs] at HSO h4 h5
 have HSET := mkHid hset
 rw [← hs] at HSET
 have HSH : Hid (∀ W, Rep W a l H → Calls Tryd.prog 71 #[.pointer (some ⟨a, 0, none⟩), .agg #[.int .i64 (p : Int), .int .i64 (L : Int), .int .i64 (t : Int)]] W fun e w' => e = .returned (.tuple #[.int .i64 (n : Int), .int .i64 (f : Int)]) ∧ Fr [] W w') := by
  intro W hW
  have := shape_of (p, L, t) (2 * n + f) a l H W hW h4 h5 hb
  rw [show (2 * n + f) / 2 = n from by omega, show (2 * n + f) % 2 = f from by omega] at this
  exact this
 have HMS : Hid (∀ W, Tab W → Calls Tryd.prog 72 #[.int .i64 v, .int .i64 f] W fun e w' => e = .returned (.bool true) ∧ w' = W) := by
  intro W hW
  have := mayStand_any v f W hW
  rw [hm] at this
  exact this
 have HR := mkHid h
 have HT := mkHid hT
 clear h hs hset hT hm h3 h5 h4 h2
 dsimp only [sv, I] at HSO HSET
 go_enter Tryd.func29, Tryd.ntmps29
 go_wp2_with fail
 refine Calls.mono HSO.out ?_
 rintro e w1 ⟨rfl, hf1⟩
 have hz1 := hf1.size
 have HF1 := mkHid hf1
 clear hf1 HSO
 go_wp2_with fail
 have F2 : Fr [] w (w1.alloc (.cells #[.int .i64 (p : Int), .int .i64 (L : Int), .int .i64 (t : Int)] 103)) := HF1.out.trans (Fr.alloc [] _ _) (by simp)
 refine Calls.mono (HSH.out _ (HR.out.keep F2 (by simp))) ?_
 rintro e w2 ⟨rfl, hf2⟩
 have HF2 := mkHid (F2.trans hf2 (by simp))
 have z2 := hf2.size
 have s0 := hf2.cell (p := ⟨w1.heap.size, 0, none⟩) (by simp) (by simp)
 have s1 := hf2.cell (p := ⟨w1.heap.size, 1, none⟩) (by simp) (by simp)
 have s2 := hf2.cell (p := ⟨w1.heap.size, 2, none⟩) (by simp) (by simp)
 simp only [World.cell?_alloc_new, List.getElem?_toArray, List.getElem?_cons_succ, List.getElem?_cons_zero] at s0 s1 s2
 clear hf2 F2 HSH
 go_wp2_with fail
 refine Calls.mono (HMS.out _ (HT.out.fr HF2.out (by omega))) ?_
 rintro e w3 ⟨rfl, rfl⟩
 clear HMS
 go_wp2_with fail
 refine Calls.mono (HSET.out _ (HR.out.keep HF2.out (by simp))) ?_
 rintro e w4 ⟨rfl, hr4, hx4⟩
 have HR4 := mkHid hr4
 have HX4 := mkHid ((Nx.frw (HF2.out.mono (by simp)) : Nx a l l w w3).trans hx4)
 clear hr4 hx4 HSET
 go_wp2
 go_ret
 exact ⟨rfl, HR4.out, HX4.out⟩
set_option maxRecDepth 20000 in
set_option maxHeartbeats 2000000 in
theorem At_ok (oop i n f : Nat) (v : Int) (a : Nat) (l : Lay) (H : HS) (w : World) (h : Rep w a l H) (hb : (H.mem.length : Int) ≤ 1048576) (h1 : (1 : Int) ≤ oop) (h2 : (oop : Int) < H.seats.length)
  (h3 : (H.seats.getD oop (0, 0, 0)).2.1 ≠ 0) (h4 : (H.seats.getD oop (0, 0, 0)).1 + 1 < H.mem.length) (h5 : H.mem.getD ((H.seats.getD oop (0, 0, 0)).1 + 1) 0 = ((2 * n + f : Nat) : Int)) (hf : (f : Int) ≤ 1) (hi : (i : Int) < n) (hn : (n : Int) ≤ 8192)
  (hget : ∀ W, Rep W a l H → Calls Tryd.prog 98 #[.pointer (some ⟨a, 0, none⟩), sv (H.seats.getD oop (0, 0, 0)), .int .i64 f, .int .i64 i] W fun e w' => e = .returned (.int .i64 v) ∧ Fr [] W w') :
  Calls Tryd.prog 47 #[.pointer (some ⟨a, 0, none⟩), .int .i64 oop, .int .i64 i] w fun e w' => e = .returned (.tuple #[.int .i64 v, .int .i64 0]) ∧ Fr [] w w' := by
 have hal := h.lt a (by simp [foot])
 have HSO := mkHid (seatOf_yes oop a l H w h h1 h2 h3)
 obtain ⟨⟨p, L, t⟩, hs⟩ : ∃ s, s = H.seats.getD oop (0, 0, 0) := ⟨_, rfl⟩
 rw [← hs] at HSO h4 h5
 have HSET := mkHid hget
 rw [← hs] at HSET
 have HSH : Hid (∀ W, Rep W a l H → Calls Tryd.prog 71 #[.pointer (some ⟨a, 0, none⟩), .agg #[.int .i64 (p : Int), .int .i64 (L : Int), .int .i64 (t : Int)]] W fun e w' => e = .returned (.tuple #[.int .i64 (n : Int), .int .i64 (f : Int)]) ∧ Fr [] W w') := by
  intro W hW
  have := shape_of (p, L, t) (2 * n + f) a l H W hW h4 h5 hb
  rw [show (2 * n + f) / 2 = n from by omega, show (2 * n + f) % 2 = f from by omega] at this
  exact this
 have HR := mkHid h
 clear h hs hget h3 h5 h4 h2
 dsimp only [sv, I] at HSO HSET
 go_enter Tryd.func47, Tryd.ntmps47
 go_wp2_with fail
 refine Calls.mono HSO.out ?_
 rintro e w1 ⟨rfl, hf1⟩
 have hz1 := hf1.size
 have HF1 := mkHid hf1
 clear hf1 HSO
 go_wp2_with fail
 have F2 : Fr [] w (w1.alloc (.cells #[.int .i64 (p : Int), .int .i64 (L : Int), .int .i64 (t : Int)] 103)) := HF1.out.trans (Fr.alloc [] _ _) (by simp)
 refine Calls.mono (HSH.out _ (HR.out.keep F2 (by simp))) ?_
 rintro e w2 ⟨rfl, hf2⟩
 have HF2 := mkHid (F2.trans hf2 (by simp))
 have z2 := hf2.size
 have s0 := hf2.cell (p := ⟨w1.heap.size, 0, none⟩) (by simp) (by simp)
 have s1 := hf2.cell (p := ⟨w1.heap.size, 1, none⟩) (by simp) (by simp)
 have s2 := hf2.cell (p := ⟨w1.heap.size, 2, none⟩) (by simp) (by simp)
 simp only [World.cell?_alloc_new, List.getElem?_toArray, List.getElem?_cons_succ, List.getElem?_cons_zero] at s0 s1 s2
 clear hf2 F2 HSH
 go_wp2_with fail
 refine Calls.mono (HSET.out _ (HR.out.keep HF2.out (by simp))) ?_
 rintro e w4 ⟨rfl, hf4⟩
 have HX4 := mkHid (HF2.out.trans hf4 (by simp))
 clear hf4 HSET
 go_wp2
 go_ret2
 exact ⟨rfl, HX4.out⟩
theorem Rep.orderAt {w : World} {a : Nat} {l : Lay} {H : HS} (h : Rep w a l H) (k : Nat) (hk : k < H.order.length) :
  ∃ g, l.po = some ⟨g, 0, none⟩ ∧ (∀ i, i < H.order.length → w.cell? ⟨g, i, none⟩ = some (.int .i64 (H.order.getD i 0 : Nat))) ∧ (∀ i, w.frozen? ⟨g, i, none⟩ = false) ∧ g ≠ a ∧ g < w.heap.size := by
 obtain ⟨g, hg, hc, hf, _, cur, hcur, _⟩ := own_at h.order k hk
 refine ⟨g, hg, fun i hi => ?_, hf, h.top_ne g (by simp [Lay.blocks, blk, hg]), lt_of_heap hcur⟩
 rw [hc i hi]; simp [I, hi]
theorem Rep.setOrder {w : World} {a : Nat} {l : Lay} {H : HS} {g : Nat} (h : Rep w a l H) (hg : l.po = some ⟨g, 0, none⟩) (i v : Nat) (w2 : World) (he : Eqw (w.setCell ⟨g, i, none⟩ (.int .i64 (v : Int))) w2) :
  Rep w2 a l { H with order := H.order.set i v } ∧ Nx a l l w w2 := by
 have hgb : g ∈ blk l.po := by rw [hg]; simp [blk]
 have hap := (h.apart g).2.2.1 hgb
 have hb := h.order
 rw [hg] at hb
 have hb1 := own_stored hb i (.int .i64 (v : Int))
 have e : (H.order.map I).set i (.int .i64 (v : Int)) = (H.order.set i v).map I := by rw [List.map_set]; rfl
 rw [e, ← hg] at hb1
 have h2 : Rep (w.setCell ⟨g, i, none⟩ (.int .i64 (v : Int))) a l { H with order := H.order.set i v } := by
  refine h.turnOrder (by simp) (fun k hk => set_else (fun e => ?_)) (by simpa using hb1)
  subst e
  rcases hk with h1 | h1 | h1 | h1
  ·exact hap.1 h1
  ·exact hap.2.1 h1
  ·exact hap.2.2.1 h1
  ·exact hap.2.2.2 h1
 have f1 : Fr (foot a l) w (w.setCell ⟨g, i, none⟩ (.int .i64 (v : Int))) := Fr.setCell _ _ _ (by simp [foot, Lay.blocks, hgb])
 exact ⟨h2.eqw he, (Nx.frw f1).eqw he⟩
end Go.Proofs.YtklfnjlenbgmoaaDoor
