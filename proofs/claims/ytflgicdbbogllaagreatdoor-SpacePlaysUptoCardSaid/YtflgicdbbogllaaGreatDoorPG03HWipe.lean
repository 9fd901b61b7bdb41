import Derived.Test.YtflgicdbbogllaaGreatDoorPHLay
set_option maxHeartbeats 4000000
set_option maxRecDepth 20000
set_option linter.unusedSimpArgs false
set_option linter.unusedVariables false
namespace Go.Proofs.YtflgicdbbogllaaGreatDoor
open Go.RowKit Tryz
open Value (int)
open IntKind (i64)
theorem ret2 {k l : IntKind} {a b c d : Int} (h : a = b) (h2 : c = d) : Ending.returned (.tuple #[.int k a, .int l c]) = .returned (.tuple #[.int k b, .int l d]) := by rw [h, h2]
structure Safe (H : HS) : Prop where
 small : kDX H
 low : H.low ≤ H.bits.length
 bl : (H.bits.length : Int) ≤ 1024
 bits : ∀ k, H.bits.getD k 0 ≤ full
 fD : (H.fD.length : Int) ≤ 65538
 fC : (H.fC.length : Int) ≤ 1048575
theorem kJv (cl n f : Int) (a : Nat) (l : Lay) (H : HS) (w : World) (h : Rep w a l H) (hT : Tab w) (he : isW cl = false ∨ isF f = false ∨ n < 0) :
  Calls prog 47 #[.pointer (some ⟨a, 0, none⟩), int i64 cl, int i64 n, int i64 f] w fun e w' => e = .returned (.tuple #[int i64 0, int i64 1]) ∧ w' = w := by
 have c0 := h.c0;have hw := kAA (kBG cl w hT);have hf := kAA (kAu f w);clear h hT;generalize hA : isW cl = A at *;generalize hB : isF f = B at *;clear hA hB
 cases A
 ·go_enter func47, ntmps47
  go_wp2_with (first | (go_at_call 88; refine (kAh _ _ c0).mono ?_; rintro e w' ⟨rfl, rfl⟩) | (go_at_call 92; refine hw.out.mono ?_; rintro e w' ⟨rfl, rfl⟩))
  go_ret2
  exact ⟨rfl, rfl⟩
 ·cases B
  ·go_enter func47, ntmps47
   go_wp2_with (first | (go_at_call 88; refine (kAh _ _ c0).mono ?_; rintro e w' ⟨rfl, rfl⟩) | (go_at_call 92; refine hw.out.mono ?_; rintro e w' ⟨rfl, rfl⟩) | (go_at_call 93; refine hf.out.mono ?_; rintro e w' ⟨rfl, rfl⟩))
   go_ret2
   exact ⟨rfl, rfl⟩
  ·have hn : n < 0 := by simpa using he
   clear he;go_enter func47, ntmps47
   go_wp2_with (first | (go_at_call 88; refine (kAh _ _ c0).mono ?_; rintro e w' ⟨rfl, rfl⟩) | (go_at_call 92; refine hw.out.mono ?_; rintro e w' ⟨rfl, rfl⟩) | (go_at_call 93; refine hf.out.mono ?_; rintro e w' ⟨rfl, rfl⟩))
   go_ret2
   exact ⟨rfl, rfl⟩
theorem kJF (cl n f : Int) (a : Nat) (l : Lay) (H : HS) (w : World) (h : Rep w a l H) (hT : Tab w) (h1 : isW cl = true) (h2 : isF f = true) (h3 : 8192 < n) :
  Calls prog 47 #[.pointer (some ⟨a, 0, none⟩), int i64 cl, int i64 n, int i64 f] w fun e w' => e = .returned (.tuple #[int i64 0, int i64 22]) ∧ w' = w := by
 have c0 := h.c0;have hw := kBG cl w hT;have hf := kAu f w;rw [h1] at hw;rw [h2] at hf;have HW := kAA hw;have HF := kAA hf;clear h hT h1 h2 hw hf;go_enter func47, ntmps47
 go_wp2_with (first | (go_at_call 88; refine (kAh _ _ c0).mono ?_; rintro e w' ⟨rfl, rfl⟩) | (go_at_call 92; refine HW.out.mono ?_; rintro e w' ⟨rfl, rfl⟩) | (go_at_call 93; refine HF.out.mono ?_; rintro e w' ⟨rfl, rfl⟩))
 go_ret2
 exact ⟨rfl, rfl⟩
theorem kJi (cl : Int) (n f : Nat) (a : Nat) (l : Lay) (H : HS) (w : World) (h : Rep w a l H) (hs : kDX H) (hT : Tab w) (h1 : isW cl = true) (hf1 : (f : Int) ≤ 1) (h3 : (n : Int) ≤ 8192) (hfull : H.fM = H.count ∨ H.fH < H.mem.length + lenN n f) :
  Calls prog 47 #[.pointer (some ⟨a, 0, none⟩), int i64 cl, int i64 n, int i64 f] w fun e w' => e = .returned (.tuple #[int i64 0, int i64 23]) ∧ ∃ k, w' = w.drewN k := by
 have c0 := h.c0;have hw := kBG cl w hT;have hf := kAu f w;rw [h1] at hw;rw [show isF (f : Int) = true from by unfold isF; simp; omega] at hf;have HW := kAA hw;have HF := kAA hf;have HRm := kAA (kDD a l H w h hs);have hlen := kBo n f;rw [kAt] at hlen;have HL := kAA hlen;obtain ⟨s1, s2, s3, s4, s5⟩ := hs;clear h hT h1 hw hf hlen;generalize H.mem.length = m at *;generalize H.fH = x at *;generalize H.fM = y at *;generalize H.count = z at *;generalize lenN n f = L at *
 by_cases hyz : y = z
 ·subst hyz;have hb : ((y : Int) - y == 0) = true := by simp
  go_enter func47, ntmps47
  go_wp2_with (first | (go_at_call 88; refine (kAh _ _ c0).mono ?_; rintro e w' ⟨rfl, rfl⟩) | (go_at_call 92; refine HW.out.mono ?_; rintro e w' ⟨rfl, rfl⟩) | (go_at_call 93; refine HF.out.mono ?_; rintro e w' ⟨rfl, rfl⟩) | (go_at_call 94; refine HRm.out.mono ?_; rintro e w' ⟨rfl, k, rfl⟩))
  go_ret2
  exact ⟨rfl, _, rfl⟩
 ·have hb : ((y : Int) - z == 0) = false := by simp; omega
  have hc : (x : Int) - m < L := by omega
  clear hyz hfull;go_enter func47, ntmps47
  go_wp2_with (first | (go_at_call 88; refine (kAh _ _ c0).mono ?_; rintro e w' ⟨rfl, rfl⟩) | (go_at_call 92; refine HW.out.mono ?_; rintro e w' ⟨rfl, rfl⟩) | (go_at_call 93; refine HF.out.mono ?_; rintro e w' ⟨rfl, rfl⟩) | (go_at_call 94; refine HRm.out.mono ?_; rintro e w' ⟨rfl, k, rfl⟩) | (go_at_call 95; refine (HL.out _ (by omega) (by omega)).mono ?_; rintro e w' ⟨rfl, rfl⟩))
  go_ret2
  exact ⟨rfl, _, rfl⟩
theorem kGY (cl : Int) (n f : Nat) (a : Nat) (l : Lay) (H : HS) (w : World) (h : Rep w a l H) (hs : kDX H) (hT : Tab w) (h1 : isW cl = true) (hf1 : (f : Int) ≤ 1) (h3 : (n : Int) ≤ 8192) (hr1 : H.count < H.fM) (hr2 : H.mem.length + lenN n f ≤ H.fH) (hm : H.mark = 1) :
  Calls prog 47 #[.pointer (some ⟨a, 0, none⟩), int i64 cl, int i64 n, int i64 f] w fun e w' => e = .returned (.tuple #[int i64 0, int i64 24]) ∧ Rep w' a l { H with mark := 0 } ∧ Nx a l l w w' := by
 have c0 := h.c0;have c3 := h.c3;have f3 := h.frozen 3;rw [hm] at c3;have hw := kBG cl w hT;have hf := kAu f w;rw [h1] at hw;rw [show isF (f : Int) = true from by unfold isF; simp; omega] at hf;have HW := kAA hw;have HF := kAA hf;have HRm := kAA (kDD a l H w h hs);have hlen := kBo n f;rw [kAt] at hlen;have HL := kAA hlen;obtain ⟨s1, s2, s3, s4, s5⟩ := hs
 have HE : Hid (∀ W, Eqw (w.setCell ⟨a, 3, none⟩ (int i64 0)) W → Rep W a l { H with mark := 0 } ∧ Nx a l l w W) := fun W he =>
  ⟨(h.set (H' := { H with mark := 0 }) 3 _ rfl rfl rfl rfl rfl).eqw he, (Nx.fr (Fr.setCell (S := [a]) _ _ _ (by simp))).eqw he⟩
 clear h hT h1 hw hf hlen hm;generalize H.mem.length = m at *;generalize H.fH = x at *;generalize H.fM = y at *;generalize H.count = z at *;generalize lenN n f = L at *;have hb : ((y : Int) - z == 0) = false := by simp; omega
 have hc : (L : Int) ≤ x - m := by omega
 go_enter func47, ntmps47
 go_wp2_with (first | (go_at_call 88; refine (kAh _ _ c0).mono ?_; rintro e w' ⟨rfl, rfl⟩) | (go_at_call 92; refine HW.out.mono ?_; rintro e w' ⟨rfl, rfl⟩) | (go_at_call 93; refine HF.out.mono ?_; rintro e w' ⟨rfl, rfl⟩) | (go_at_call 94; refine HRm.out.mono ?_; rintro e w' ⟨rfl, k, rfl⟩) | (go_at_call 95; refine (HL.out _ (by omega) (by omega)).mono ?_; rintro e w' ⟨rfl, rfl⟩))
 go_ret2
 exact ⟨rfl, HE.out _ ⟨rfl, rfl, rfl, rfl⟩⟩
def oopN (bits : List Nat) (k : Nat) : Nat := if k = bits.length then k * 64 + 1 else k * 64 + Lib.ctz 64 (full - bits.getD k 0) + 1
theorem kKm (bits : List Nat) (k : Nat) : kHr bits k = (oopN bits k : Int) := by
 unfold kHr oopN
 split <;> omega
theorem kPq (bits : List Nat) (k : Nat) (hk : k ≤ bits.length) (hb : (bits.length : Int) ≤ 1024) (hne : k < bits.length → bits.getD k 0 ≠ full) (hf : ∀ k, bits.getD k 0 ≤ full) : 1 ≤ oopN bits k ∧ oopN bits k ≤ 65537 := by
 unfold oopN
 split
 ·omega
 ·have h1 := hne (by omega);have h2 := hf k;have := kKk (full - bits.getD k 0) (by omega) (by unfold full; omega);omega
theorem kNb (cl : Int) (n f : Nat) (a : Nat) (l : Lay) (H : HS) (w : World) (h : Rep w a l H) (hS : Safe H) (hT : Tab w) (hT2 : kCQ w) (ha : 2 ≤ a) (h1 : isW cl = true) (hf1 : (f : Int) ≤ 1) (h3 : (n : Int) ≤ 8192) (hr1 : H.count < H.fM) (hr2 : H.mem.length + lenN n f ≤ H.fH) (hm : H.mark ≠ 1) :
  Calls prog 47 #[.pointer (some ⟨a, 0, none⟩), int i64 cl, int i64 n, int i64 f] w fun e w' => ∃ k, kFq H.bits H.low k ∧ (k < H.bits.length → H.bits.getD k 0 ≠ full) ∧ e = .returned (.tuple #[int i64 (oopN H.bits k : Nat), int i64 0]) ∧ ∃ l', Rep w' a l' (layH { H with mark := H.mark - 1, low := k } (oopN H.bits k) cl n f) ∧ Nx a l l' w w' := by
 have hs := hS.small;have c0 := h.c0;have c3 := h.c3;have f3 := h.frozen 3;have hw := kBG cl w hT;have hf := kAu f w;rw [h1] at hw;rw [show isF (f : Int) = true from by unfold isF; simp; omega] at hf;have HW := kAA hw;have HF := kAA hf;have HRm := kAA (kDD a l H w h hs);have hlen := kBo n f;rw [kAt] at hlen;have HL := kAA hlen;obtain ⟨s1, s2, s3, s4, s5⟩ := hs;have hal := h.lt a (by simp [foot])
 have HE : Hid (∀ W, Eqw (w.setCell ⟨a, 3, none⟩ (int i64 ((H.mark - 1 : Nat) : Int))) W → Rep W a l { H with mark := H.mark - 1 } ∧ Nx a l l w W ∧ kCQ W) := fun W he =>
  have hfr : Fr [a] w W := (Fr.setCell (S := [a]) _ _ _ (by simp)).trans (he.fr []) (by simp)
  ⟨(h.set (H' := { H with mark := H.mark - 1 }) 3 _ rfl rfl rfl rfl rfl).eqw he, Nx.fr hfr, hT2.keep hfr (by omega) (by simp; omega)⟩
 have HLow : Hid (∀ W, Rep W a l { H with mark := H.mark - 1 } → kCQ W → Calls prog 96 #[.pointer (some ⟨a, 7, none⟩)] W fun e w' => ∃ k, (kFq H.bits H.low k ∧ (k < H.bits.length → H.bits.getD k 0 ≠ full)) ∧ e = .returned (int i64 (oopN H.bits k : Nat)) ∧ Rep w' a l { H with mark := H.mark - 1, low := k } ∧ Nx a l l W w' ∧ 1 ≤ oopN H.bits k ∧ oopN H.bits k ≤ 65537) := by
  intro W hW hTW;refine (kJE a l { H with mark := H.mark - 1 } W hW hS.low (by have := hS.bl; dsimp only; omega) hS.bits hTW ha).mono ?_;rintro e w' ⟨k, q1, q2, q3, q4, q5, q6⟩;dsimp only at q1 q2 q3 q4;rw [kKm] at q3;exact ⟨k, ⟨q1, q2⟩, q3, q4, Nx.fr q5, kPq H.bits k q1.le hS.bl q2 hS.bits⟩
 have HLay : Hid (∀ W k, Rep W a l { H with mark := H.mark - 1, low := k } → 1 ≤ oopN H.bits k → oopN H.bits k ≤ 65537 → Calls prog 97 #[.pointer (some ⟨a, 0, none⟩), int i64 (oopN H.bits k : Nat), int i64 cl, int i64 n, int i64 f] W fun e w' => (∃ v, e = .returned v) ∧ ∃ l', Rep w' a l' (layH { H with mark := H.mark - 1, low := k } (oopN H.bits k) cl n f) ∧ Nx a l l' W w') := by
  intro W k hW hk1 hk2;have hsm : kDX { H with mark := H.mark - 1, low := k } := ⟨s1, s2, s3, s4, by dsimp only; omega⟩;refine (kKC (oopN H.bits k) n f cl a l { H with mark := H.mark - 1, low := k } W hW hsm (by omega) (by omega) h3 hf1 hr2 hS.fD (by have := hS.fC; dsimp only; omega) hS.bits (by have := hS.bl; dsimp only; omega)).mono ?_;rintro e w' ⟨rfl, q⟩;exact ⟨⟨_, rfl⟩, q⟩
 have hb : ((H.fM : Int) - H.count == 0) = false := by simp; omega
 have hc : (lenN n f : Int) ≤ (H.fH : Int) - H.mem.length := by omega
 have hmb : ((H.mark : Int) == 1) = false := by simp; omega
 have hmx : ∃ q : Int, q = ((H.mark - 1 : Nat) : Int) := ⟨_, rfl⟩
 clear h hT h1 hw hf hlen hT2 hS;go_enter func47, ntmps47
 go_wp2_with (first | (go_at_call 88; refine (kAh _ _ c0).mono ?_; rintro e w' ⟨rfl, rfl⟩) | (go_at_call 92; refine HW.out.mono ?_; rintro e w' ⟨rfl, rfl⟩) | (go_at_call 93; refine HF.out.mono ?_; rintro e w' ⟨rfl, rfl⟩) | (go_at_call 94; refine HRm.out.mono ?_; rintro e w' ⟨rfl, k, rfl⟩) | (go_at_call 95; refine (HL.out _ (by omega) (by omega)).mono ?_; rintro e w' ⟨rfl, rfl⟩))
 ·have hv : ((H.mark - 1 : Nat) : Int) = 0 := by omega
  rw [hv] at HE;have K := HE.out _ (⟨rfl, rfl, rfl, rfl⟩ : Eqw _ ((w'.drewN k).setCell ⟨a, 3, none⟩ (int i64 0)));refine Calls.mono (HLow.out _ K.1 K.2.2) ?_;rintro e w2 ⟨k2, hlw, rfl, hr2, hx2, ho1, ho2⟩;have HLY := kAA (HLay.out w2 k2 hr2 ho1 ho2);have HX := kAA (K.2.1.trans hx2);clear K HE HLow HLay hr2 hx2;generalize hoo : oopN H.bits k2 = oo at *;have HO := kAA hoo;clear hoo
  go_wp2_with fail
  refine HLY.out.mono ?_;rintro e w3 ⟨⟨v, rfl⟩, l', hr3, hx3⟩;have HR := kAA hr3;have HX3 := kAA (HX.out.trans hx3);have HLW := kAA hlw;clear hr3 hx3 hlw HLY HX
  go_wp2
  go_ret2
  have ho := HO.out;subst ho;exact ⟨k2, HLW.out.1, HLW.out.2, rfl, l', HR.out, HX3.out⟩
 ·have hv : ((H.mark - 1 : Nat) : Int) = (H.mark : Int) - 1 := by omega
  rw [hv] at HE;have K := HE.out _ (⟨rfl, rfl, rfl, rfl⟩ : Eqw _ ((w'.drewN k).setCell ⟨a, 3, none⟩ (int i64 ((H.mark : Int) - 1))));refine Calls.mono (HLow.out _ K.1 K.2.2) ?_;rintro e w2 ⟨k2, hlw, rfl, hr2, hx2, ho1, ho2⟩;have HLY := kAA (HLay.out w2 k2 hr2 ho1 ho2);have HX := kAA (K.2.1.trans hx2);clear K HE HLow HLay hr2 hx2;generalize hoo : oopN H.bits k2 = oo at *;have HO := kAA hoo;clear hoo
  go_wp2_with fail
  refine HLY.out.mono ?_;rintro e w3 ⟨⟨v, rfl⟩, l', hr3, hx3⟩;have HR := kAA hr3;have HX3 := kAA (HX.out.trans hx3);have HLW := kAA hlw;clear hr3 hx3 hlw HLY HX
  go_wp2
  go_ret2
  have ho := HO.out;subst ho;exact ⟨k2, HLW.out.1, HLW.out.2, rfl, l', HR.out, HX3.out⟩
end Go.Proofs.YtflgicdbbogllaaGreatDoor
namespace Go.Proofs.YtflgicdbbogllaaGreatDoor
open Go.RowKit Tryz
open Value (int)
open IntKind (i64)
attribute [local go_sem ↓] wp_at_zero wp_at_succ
variable {H : HS} {a g : Nat} {l : Lay} {o : Oper} {w : World}
def sv (s : Nat × Nat × Nat) : Value := .agg #[I s.1, I s.2.1, I s.2.2]
def has (H : HS) (oop : Int) : Bool := decide (1 ≤ oop ∧ oop < H.fD.length ∧ (H.fD.getD oop.toNat (0, 0, 0)).2.1 ≠ 0)
theorem kAb (oop : Nat) (a : Nat) (l : Lay) (H : HS) (w : World) (h : Rep w a l H) (h1 : (1 : Int) ≤ oop) (h2 : (oop : Int) < H.fD.length) (h3 : (H.fD.getD oop (0, 0, 0)).2.1 ≠ 0) :
  Calls prog 102 #[.pointer (some ⟨a, 0, none⟩), int i64 oop] w fun e w' => e = .returned (.tuple #[sv (H.fD.getD oop (0, 0, 0)), int i64 0]) ∧ Fr [] w w' := by
 obtain ⟨gs, hgs, hcs, hfs, hgsa, hgsl⟩ := h.seatAt oop (by omega);obtain ⟨q0, q1, q2⟩ := hcs oop (by omega);have c0 := h.c0;have c5 := h.c5;rw [hgs] at c5;have hal := h.lt a (by simp [foot]);have n0 : (H.fD.length : Int) ≤ oop → False := by omega
 have hne : (((H.fD.getD oop (0, 0, 0)).2.1 : Int) == 0) = false := by simpa using h3
 have hSV : sv (H.fD.getD oop (0, 0, 0)) = .agg #[int i64 ((H.fD.getD oop (0, 0, 0)).1 : Int), int i64 ((H.fD.getD oop (0, 0, 0)).2.1 : Int), int i64 ((H.fD.getD oop (0, 0, 0)).2.2 : Int)] := rfl;have HSV := kAA hSV;simp only [I] at q0 q1 q2;clear h hcs hfs h3 hSV;generalize hy : sv (H.fD.getD oop (0, 0, 0)) = yy at *;clear hy;generalize (H.fD.getD oop (0, 0, 0)).1 = y0 at *;generalize (H.fD.getD oop (0, 0, 0)).2.1 = y1 at *;generalize (H.fD.getD oop (0, 0, 0)).2.2 = y2 at *;generalize H.fD.length = sn at *;have m0 := ng oop;have hm : Calls prog 88 #[.pointer (some ⟨a, 0, none⟩)] (w.alloc (.cells #[int i64 0, int i64 0, int i64 0] 148)) fun e w' => e = .returned (.bool true) ∧ w' = (w.alloc (.cells #[int i64 0, int i64 0, int i64 0] 148)) := kAh a _ ((jAE w _ _ hal).trans c0)
 have HM := kAA hm;clear hm;go_enter func102, ntmps102
 go_wp2_with (go_at_call 88; refine HM.out.mono ?_; rintro e w' ⟨rfl, rfl⟩)
 have x := heap_alloc_new w (.cells #[int i64 y0, int i64 y1, int i64 y2] 148);refine bodyPost_ret (v := .tuple #[yy, int i64 0]) (by rw [HSV.out]; simp [results, results102, go_sem]) rfl ⟨rfl, Fr.alloc _ _ _⟩
theorem kLS (oop : Int) (a : Nat) (l : Lay) (H : HS) (w : World) (h : Rep w a l H) (hh : has H oop = false) :
  Calls prog 102 #[.pointer (some ⟨a, 0, none⟩), int i64 oop] w fun e w' => e = .returned (.tuple #[sv (0, 0, 0), int i64 20]) ∧ Fr [] w w' := by
 have c0 := h.c0;have c5 := h.c5;have hal := h.lt a (by simp [foot]);have HM := kAA (kAh a _ ((jAE w (.cells #[int i64 0, int i64 0, int i64 0] 148) _ hal).trans c0));have hSV : sv (0, 0, 0) = .agg #[int i64 0, int i64 0, int i64 0] := rfl;have HSV := kAA hSV;clear hSV
 by_cases h1 : oop < 1
 ·clear h hh;generalize sv (0, 0, 0) = yy at *;go_enter func102, ntmps102
  go_wp2_with (go_at_call 88; refine HM.out.mono ?_; rintro e w' ⟨rfl, rfl⟩)
  refine bodyPost_ret (v := .tuple #[yy, int i64 20]) (by rw [HSV.out]; simp [results, results102, go_sem]) rfl ⟨rfl, Fr.alloc _ _ _⟩
 ·obtain ⟨k, rfl⟩ : ∃ k : Nat, oop = k := ⟨oop.toNat, by omega⟩
  by_cases h2 : H.fD.length ≤ k
  ·have h2' : (H.fD.length : Int) ≤ k := by omega
   clear h hh;generalize H.fD.length = sn at *;generalize sv (0, 0, 0) = yy at *;go_enter func102, ntmps102
   go_wp2_with (go_at_call 88; refine HM.out.mono ?_; rintro e w' ⟨rfl, rfl⟩)
   refine bodyPost_ret (v := .tuple #[yy, int i64 20]) (by rw [HSV.out]; simp [results, results102, go_sem]) rfl ⟨rfl, Fr.alloc _ _ _⟩
  ·obtain ⟨gs, hgs, hcs, hfs, hgsa, hgsl⟩ := h.seatAt k (by omega);obtain ⟨q0, q1, q2⟩ := hcs k (by omega);rw [hgs] at c5
   have h3 : (H.fD.getD k (0, 0, 0)).2.1 = 0 := by
    unfold has at hh;have := of_decide_eq_false hh;simp only [jAj] at this;have hx : 1 ≤ (k : Int) ∧ (k : Int) < H.fD.length := by omega
    by_cases hq : (H.fD.getD k (0, 0, 0)).2.1 = 0
    ·exact hq
    ·exact absurd ⟨hx.1, hx.2, hq⟩ this
   rw [h3] at q1;simp only [I] at q1;have h2' : (k : Int) < H.fD.length := by omega
   have m0 := ng k;clear h hh hcs hfs q0 q2 h3;generalize H.fD.length = sn at *;generalize sv (0, 0, 0) = yy at *;go_enter func102, ntmps102
   go_wp2_with (go_at_call 88; refine HM.out.mono ?_; rintro e w' ⟨rfl, rfl⟩)
   refine bodyPost_ret (v := .tuple #[yy, int i64 20]) (by rw [HSV.out]; simp [results, results102, go_sem]) rfl ⟨rfl, Fr.alloc _ _ _⟩
theorem and1 (n : Int) : Go.bits .and .i64 n 1 = n % 2 := by
 unfold Go.bits;simp only [BitVec.toNat_and, BitVec.toNat_ofInt];rw [kBp];have e : ((1 : Int) % ((2 ^ IntKind.i64.bits : Nat) : Int)).toNat = 2 ^ 1 - 1 := by decide
 rw [e, Nat.and_two_pow_sub_one_eq_mod];have e2 : ((2 ^ IntKind.i64.bits : Nat) : Int) = 18446744073709551616 := by decide
 rw [e2];unfold wrap64;omega
theorem kCg (s : Nat × Nat × Nat) (v : Nat) (a : Nat) (l : Lay) (H : HS) (w : World) (h : Rep w a l H) (h1 : s.1 + 1 < H.mem.length) (h2 : H.mem.getD (s.1 + 1) 0 = (v : Int)) (hb : (H.mem.length : Int) ≤ 1048576) :
  Calls prog 103 #[.pointer (some ⟨a, 0, none⟩), sv s] w fun e w' => e = .returned (.tuple #[I (v / 2), I (v % 2)]) ∧ Fr [] w w' := by
 obtain ⟨g, hg, hcg, hfg, hga, hgl⟩ := h.memBlock (by omega);have q := hcg (s.1 + 1) h1;rw [h2] at q;have c4 := h.c4;rw [hg] at c4;have hal := h.lt a (by simp [foot]);have k1 : (s.1 : Int) + 1 < (H.mem.length : Int) := by omega
 have k2 : 0 ≤ (s.1 : Int) + 1 := by omega
 have k3 : IntKind.i64.wrap ((s.1 : Int) + 1) = (s.1 : Int) + 1 := by rw [kBp]; unfold wrap64; omega
 have ha := and1 v;clear h hcg hfg h1 h2;obtain ⟨p, L, t⟩ := s;dsimp only [sv, I] at *;generalize H.mem.length = m at *;go_enter func103, ntmps103
 go_wp2
 go_quiet (fail)
 go_wp2
 go_ret2
 exact ⟨ret2 (by omega) (by omega), (Fr.alloc [] w _).trans (Fr.drewN [] _ _) (by simp)⟩
def mayB (v f : Int) : Bool := if f = 1 then decide (0 ≤ v ∧ v ≤ 255) else isW v
theorem kCN (v f : Int) (w : World) (hT : Tab w) :
  Calls prog 104 #[int i64 v, int i64 f] w fun e w' => e = .returned (.bool (mayB v f)) ∧ w' = w := by
 by_cases hf : f = 1
 ·subst hf
  by_cases h0 : 0 ≤ v
  ·have hi : Hid (mayB v 1 = decide (v ≤ 255)) := by unfold mayB Hid; simp [h0]
   clear hT;go_enter func104, ntmps104
   go_wp2
   go_ret
   exact ⟨kBt hi.out.symm, rfl⟩
  ·have hi : Hid (mayB v 1 = false) := by unfold mayB Hid; simp [h0]
   clear hT;go_enter func104, ntmps104
   go_wp2
   go_ret
   exact ⟨kBt hi.out.symm, rfl⟩
 ·have hi : Hid (mayB v f = isW v) := by unfold mayB Hid; simp [hf]
  have hb : (f == 1) = false := by simpa using hf
  have HW := kAA (kBG v w hT);clear hf hT;generalize isW v = q at *;go_enter func104, ntmps104
  go_wp2_with (go_at_call 92; refine HW.out.mono ?_; rintro e w' ⟨rfl, rfl⟩)
  go_ret
  exact ⟨kBt hi.out.symm, rfl⟩
theorem kBg (s : Nat × Nat × Nat) (i : Nat) (w : World) (h0 : (s.1 : Int) ≤ 1048576) (h1 : (i : Int) ≤ 1048576) :
  Calls prog 139 #[sv s, int i64 i] w fun e w' => e = .returned (.tuple #[I (s.1 + 2 + i / 4), I (i % 4 * 8)]) ∧ Fr [] w w' := by
 obtain ⟨p, L, t⟩ := s;dsimp only [sv, I] at *;go_enter func139, ntmps139
 go_wp2
 go_ret2
 exact ⟨ret2 (by omega) (by omega), Fr.alloc _ _ _⟩
theorem kGv (s : Nat × Nat × Nat) (i : Nat) (v : Int) (a : Nat) (l : Lay) (H : HS) (w : World) (h : Rep w a l H) (h1 : s.1 + 2 + i < H.mem.length) (hb : (H.mem.length : Int) ≤ 1048576) :
  Calls prog 105 #[.pointer (some ⟨a, 0, none⟩), sv s, int i64 0, int i64 i, int i64 v] w fun e w' => e = .returned (.tuple #[]) ∧ Rep w' a l { H with mem := H.mem.set (s.1 + 2 + i) v } ∧ Nx a l l w w' := by
 obtain ⟨g, hg, hcg, hfg, hga, hgl⟩ := h.memBlock (by omega);have q := hcg (s.1 + 2 + i) h1;have fq := hfg (s.1 + 2 + i);have c4 := h.c4;rw [hg] at c4;have hal := h.lt a (by simp [foot])
 have HE : Hid (∀ o W, Eqw ((w.setCell ⟨g, s.1 + 2 + i, none⟩ (int i64 v)).alloc o) W → Rep W a l { H with mem := H.mem.set (s.1 + 2 + i) v } ∧ Nx a l l w W) := by
  intro o W he;have K := h.setMem hg (s.1 + 2 + i) h1 v _ ⟨rfl, rfl, rfl, rfl⟩;exact ⟨(K.1.alloc o).eqw he, (K.2.trans (Nx.frw (Fr.alloc _ _ _))).eqw he⟩
 have k1 : (s.1 : Int) + 2 + (i : Int) < H.mem.length := by omega
 have k2 : 0 ≤ (s.1 : Int) + 2 + (i : Int) := by omega
 have k3 : IntKind.i64.wrap ((s.1 : Int) + 2) = (s.1 : Int) + 2 := by rw [kBp]; unfold wrap64; omega
 have k4 : IntKind.i64.wrap ((s.1 : Int) + 2 + (i : Int)) = (s.1 : Int) + 2 + (i : Int) := by rw [kBp]; unfold wrap64; omega
 clear h hcg hfg;obtain ⟨p, L, t⟩ := s;dsimp only [sv, I] at *;generalize H.mem.getD (p + 2 + i) 0 = old at *;generalize hm : H.mem.length = m at *;have HMM := kAA hm;clear hm;go_enter func105, ntmps105
 go_wp2
 go_region
 all_goals go_wp2
 all_goals
  refine bodyPost_ret (results_none rfl _ _ _) rfl ?_;exact ⟨rfl, HE.out _ _ ⟨rfl, rfl, rfl, rfl⟩⟩
theorem kIo (a b : Nat) (ha : a < 9223372036854775808) (hb : b < 9223372036854775808) : Go.bits .andNot .i64 (a : Int) (b : Int) = ((a &&& (18446744073709551615 - b) : Nat) : Int) := by
 show IntKind.i64.wrap ((BitVec.ofInt 64 (a : Int) &&& ~~~ BitVec.ofInt 64 (b : Int)).toNat : Int) = _;rw [BitVec.toNat_and, BitVec.toNat_not, ofInt_u64 a (by omega), ofInt_u64 b (by omega), kBp];have hl : a &&& (2 ^ 64 - 1 - b) ≤ a := Nat.and_le_left;unfold wrap64;rw [show (18446744073709551615 : Nat) = 2 ^ 64 - 1 from rfl];omega
theorem kIO (n : Int) : Go.bits .and .i64 n 255 = n % 256 := by
 unfold Go.bits;simp only [BitVec.toNat_and, BitVec.toNat_ofInt];rw [kBp];have e : ((255 : Int) % ((2 ^ IntKind.i64.bits : Nat) : Int)).toNat = 2 ^ 8 - 1 := by decide
 rw [e, Nat.and_two_pow_sub_one_eq_mod];have e2 : ((2 ^ IntKind.i64.bits : Nat) : Int) = 18446744073709551616 := by decide
 rw [e2];unfold wrap64;omega
theorem kOO (s : Nat × Nat × Nat) (i : Nat) (a : Nat) (l : Lay) (H : HS) (w : World) (h : Rep w a l H) (h1 : s.1 + 2 + i < H.mem.length) (hb : (H.mem.length : Int) ≤ 1048576) :
  Calls prog 108 #[.pointer (some ⟨a, 0, none⟩), sv s, int i64 0, int i64 i] w fun e w' => e = .returned (int i64 (H.mem.getD (s.1 + 2 + i) 0)) ∧ Fr [] w w' := by
 obtain ⟨g, hg, hcg, hfg, hga, hgl⟩ := h.memBlock (by omega);have q := hcg (s.1 + 2 + i) h1;have c4 := h.c4;rw [hg] at c4;have hal := h.lt a (by simp [foot]);have k1 : (s.1 : Int) + 2 + (i : Int) < H.mem.length := by omega
 have k2 : 0 ≤ (s.1 : Int) + 2 + (i : Int) := by omega
 have k3 : IntKind.i64.wrap ((s.1 : Int) + 2) = (s.1 : Int) + 2 := by rw [kBp]; unfold wrap64; omega
 have k4 : IntKind.i64.wrap ((s.1 : Int) + 2 + (i : Int)) = (s.1 : Int) + 2 + (i : Int) := by rw [kBp]; unfold wrap64; omega
 clear h hcg hfg;obtain ⟨p, L, t⟩ := s;dsimp only [sv, I] at *;generalize H.mem.getD (p + 2 + i) 0 = old at *;generalize hm : H.mem.length = m at *;clear hm;go_enter func108, ntmps108
 go_wp2
 go_quiet (fail)
 go_wp2
 go_ret
 exact ⟨rfl, (Fr.alloc [] w _).trans (Fr.drewN [] _ _) (by simp)⟩
theorem Tab.fr {w' : World} (h : Tab w) (hf : Fr [] w w') (h1 : 0 < w.heap.size) : Tab w' := h.keep hf h1 (by simp)
theorem kOY (oop i n f : Nat) (v : Int) (a : Nat) (l : Lay) (H H' : HS) (w : World) (h : Rep w a l H) (hb : (H.mem.length : Int) ≤ 1048576) (h1 : (1 : Int) ≤ oop) (h2 : (oop : Int) < H.fD.length) 
  (h3 : (H.fD.getD oop (0, 0, 0)).2.1 ≠ 0) (h4 : (H.fD.getD oop (0, 0, 0)).1 + 1 < H.mem.length) (h5 : H.mem.getD ((H.fD.getD oop (0, 0, 0)).1 + 1) 0 = ((2 * n + f : Nat) : Int)) (hf : (f : Int) ≤ 1) (hi : (i : Int) < n) (hn : (n : Int) ≤ 8192) (hm : mayB v f = true) (hT : Tab w)
  (hset : ∀ W, Rep W a l H → Calls prog 105 #[.pointer (some ⟨a, 0, none⟩), sv (H.fD.getD oop (0, 0, 0)), int i64 f, int i64 i, int i64 v] W fun e w' => e = .returned (.tuple #[]) ∧ Rep w' a l H' ∧ Nx a l l W w') :
  Calls prog 51 #[.pointer (some ⟨a, 0, none⟩), int i64 oop, int i64 i, int i64 v] w fun e w' => e = .returned (int i64 0) ∧ Rep w' a l H' ∧ Nx a l l w w' := by
 have hal := h.lt a (by simp [foot]);have HSO := kAA (kAb oop a l H w h h1 h2 h3);obtain ⟨⟨p, L, t⟩, hs⟩ : ∃ s, s = H.fD.getD oop (0, 0, 0) := ⟨_, rfl⟩
 rw [← hs] at HSO h4 h5;have HSET := kAA hset;rw [← hs] at HSET
 have HSH : Hid (∀ W, Rep W a l H → Calls prog 103 #[.pointer (some ⟨a, 0, none⟩), .agg #[int i64 p, int i64 L, int i64 t]] W fun e w' => e = .returned (.tuple #[int i64 n, int i64 f]) ∧ Fr [] W w') := by
  intro W hW;have := kCg (p, L, t) (2 * n + f) a l H W hW h4 h5 hb;rw [show (2 * n + f) / 2 = n from by omega, show (2 * n + f) % 2 = f from by omega] at this;exact this
 have HMS : Hid (∀ W, Tab W → Calls prog 104 #[int i64 v, int i64 f] W fun e w' => e = .returned (.bool true) ∧ w' = W) := by
  intro W hW;have := kCN v f W hW;rw [hm] at this;exact this
 have HR := kAA h;have HT := kAA hT;clear h hs hset hT hm h3 h5 h4 h2;dsimp only [sv, I] at HSO HSET;go_enter func51, ntmps51
 go_wp2_with fail
 refine HSO.out.mono ?_;rintro e w1 ⟨rfl, hf1⟩;have hz1 := hf1.size;have HF1 := kAA hf1;clear hf1 HSO
 go_wp2_with fail
 have F2 : Fr [] w (w1.alloc (.cells #[int i64 p, int i64 L, int i64 t] 148)) := HF1.out.trans (Fr.alloc [] _ _) (by simp);refine Calls.mono (HSH.out _ (HR.out.keep F2 (by simp))) ?_;rintro e w2 ⟨rfl, hf2⟩;have HF2 := kAA (F2.trans hf2 (by simp));have z2 := hf2.size;have s0 := hf2.cell (p := ⟨w1.heap.size, 0, none⟩) (by simp) (by simp);have s1 := hf2.cell (p := ⟨w1.heap.size, 1, none⟩) (by simp) (by simp);have s2 := hf2.cell (p := ⟨w1.heap.size, 2, none⟩) (by simp) (by simp);simp only [World.cell?_alloc_new, jAX, jAe, jAW] at s0 s1 s2;clear hf2 F2 HSH
 go_wp2_with fail
 refine Calls.mono (HMS.out _ (HT.out.fr HF2.out (by omega))) ?_;rintro e w3 ⟨rfl, rfl⟩;clear HMS
 go_wp2_with fail
 refine Calls.mono (HSET.out _ (HR.out.keep HF2.out (by simp))) ?_;rintro e w4 ⟨rfl, hr4, hx4⟩;have HR4 := kAA hr4;have HX4 := kAA ((Nx.frw (HF2.out.mono (by simp)) : Nx a l l w w3).trans hx4);clear hr4 hx4 HSET
 go_wp2
 go_ret
 exact ⟨rfl, HR4.out, HX4.out⟩
theorem At_ok (oop i n f : Nat) (v : Int) (a : Nat) (l : Lay) (H : HS) (w : World) (h : Rep w a l H) (hb : (H.mem.length : Int) ≤ 1048576) (h1 : (1 : Int) ≤ oop) (h2 : (oop : Int) < H.fD.length) 
  (h3 : (H.fD.getD oop (0, 0, 0)).2.1 ≠ 0) (h4 : (H.fD.getD oop (0, 0, 0)).1 + 1 < H.mem.length) (h5 : H.mem.getD ((H.fD.getD oop (0, 0, 0)).1 + 1) 0 = ((2 * n + f : Nat) : Int)) (hf : (f : Int) ≤ 1) (hi : (i : Int) < n) (hn : (n : Int) ≤ 8192)
  (hget : ∀ W, Rep W a l H → Calls prog 108 #[.pointer (some ⟨a, 0, none⟩), sv (H.fD.getD oop (0, 0, 0)), int i64 f, int i64 i] W fun e w' => e = .returned (int i64 v) ∧ Fr [] W w') :
  Calls prog 55 #[.pointer (some ⟨a, 0, none⟩), int i64 oop, int i64 i] w fun e w' => e = .returned (.tuple #[int i64 v, int i64 0]) ∧ Fr [] w w' := by
 have hal := h.lt a (by simp [foot]);have HSO := kAA (kAb oop a l H w h h1 h2 h3);obtain ⟨⟨p, L, t⟩, hs⟩ : ∃ s, s = H.fD.getD oop (0, 0, 0) := ⟨_, rfl⟩
 rw [← hs] at HSO h4 h5;have HSET := kAA hget;rw [← hs] at HSET
 have HSH : Hid (∀ W, Rep W a l H → Calls prog 103 #[.pointer (some ⟨a, 0, none⟩), .agg #[int i64 p, int i64 L, int i64 t]] W fun e w' => e = .returned (.tuple #[int i64 n, int i64 f]) ∧ Fr [] W w') := by
  intro W hW;have := kCg (p, L, t) (2 * n + f) a l H W hW h4 h5 hb;rw [show (2 * n + f) / 2 = n from by omega, show (2 * n + f) % 2 = f from by omega] at this;exact this
 have HR := kAA h;clear h hs hget h3 h5 h4 h2;dsimp only [sv, I] at HSO HSET;go_enter func55, ntmps55
 go_wp2_with fail
 refine HSO.out.mono ?_;rintro e w1 ⟨rfl, hf1⟩;have hz1 := hf1.size;have HF1 := kAA hf1;clear hf1 HSO
 go_wp2_with fail
 have F2 : Fr [] w (w1.alloc (.cells #[int i64 p, int i64 L, int i64 t] 148)) := HF1.out.trans (Fr.alloc [] _ _) (by simp);refine Calls.mono (HSH.out _ (HR.out.keep F2 (by simp))) ?_;rintro e w2 ⟨rfl, hf2⟩;have HF2 := kAA (F2.trans hf2 (by simp));have z2 := hf2.size;have s0 := hf2.cell (p := ⟨w1.heap.size, 0, none⟩) (by simp) (by simp);have s1 := hf2.cell (p := ⟨w1.heap.size, 1, none⟩) (by simp) (by simp);have s2 := hf2.cell (p := ⟨w1.heap.size, 2, none⟩) (by simp) (by simp);simp only [World.cell?_alloc_new, jAX, jAe, jAW] at s0 s1 s2;clear hf2 F2 HSH
 go_wp2_with fail
 refine Calls.mono (HSET.out _ (HR.out.keep HF2.out (by simp))) ?_;rintro e w4 ⟨rfl, hf4⟩;have HX4 := kAA (HF2.out.trans hf4 (by simp));clear hf4 HSET
 go_wp2
 go_ret2
 exact ⟨rfl, HX4.out⟩
theorem Rep.orderAt (h : Rep w a l H) (k : Nat) (hk : k < H.fC.length) :
  ∃ g, l.po = some ⟨g, 0, none⟩ ∧ (∀ i, i < H.fC.length → w.cell? ⟨g, i, none⟩ = some (int i64 (H.fC.getD i 0 : Nat))) ∧ (∀ i, w.frozen? ⟨g, i, none⟩ = false) ∧ g ≠ a ∧ g < w.heap.size := by
 obtain ⟨g, hg, hc, hf, _, cur, hcur, _⟩ := kIK h.fC k hk;refine ⟨g, hg, fun i hi => ?_, hf, h.top_ne g (by simp [Lay.blocks, blk, hg]), kAB hcur⟩;rw [hc i hi]; simp [I, hi]
theorem Rep.setOrder (h : Rep w a l H) (hg : l.po = some ⟨g, 0, none⟩) (i v : Nat) (w2 : World) (he : Eqw (w.setCell ⟨g, i, none⟩ (int i64 v)) w2) :
  Rep w2 a l { H with fC := H.fC.set i v } ∧ Nx a l l w w2 := by
 have hgb : g ∈ blk l.po := by rw [hg]; simp [blk]
 have hap := (h.apart g).2.2.1 hgb;have hb := h.fC;rw [hg] at hb;have hb1 := kBn hb i (int i64 v);have e : (H.fC.map I).set i (int i64 v) = (H.fC.set i v).map I := by rw [List.map_set]; rfl
 rw [e, ← hg] at hb1
 have h2 : Rep (w.setCell ⟨g, i, none⟩ (int i64 v)) a l { H with fC := H.fC.set i v } := by
  refine h.turnOrder (by simp) (fun k hk => kAK (fun e => ?_)) (by simpa using hb1);subst e;rcases hk with h1 | h1 | h1 | h1
  ·exact hap.1 h1
  ·exact hap.2.1 h1
  ·exact hap.2.2.1 h1
  ·exact hap.2.2.2 h1
 have f1 : Fr (foot a l) w (w.setCell ⟨g, i, none⟩ (int i64 v)) := Fr.setCell _ _ _ (by simp [foot, Lay.blocks, hgb]);exact ⟨h2.eqw he, (Nx.frw f1).eqw he⟩
def kDp (H : HS) (i j : Nat) : HS :=
 {H with fD := (H.fD.set i (H.fD.getD j (0, 0, 0))).set j (H.fD.getD i (0, 0, 0)), fC := (H.fC.set (H.fD.getD j (0, 0, 0)).2.2 i).set (H.fD.getD i (0, 0, 0)).2.2 j, age := H.age + 1 }
theorem kAS (X : World) : Eqw X X.drew := ⟨rfl, rfl, rfl, rfl⟩
theorem kFP {gs : Nat} (h : Rep w a l H) (hgs : l.ps = some ⟨gs, 0, none⟩) (i j : Nat) (hi : i < H.fD.length) (hj : j < H.fD.length) (x y : Nat × Nat × Nat) (W : World) 
  (he : Eqw ((((((w.setCell ⟨gs, i * 3, none⟩ (I y.1)).setCell ⟨gs, i * 3 + 1, none⟩ (I y.2.1)).setCell ⟨gs, i * 3 + 2, none⟩ (I y.2.2)).setCell ⟨gs, j * 3, none⟩ (I x.1)).setCell ⟨gs, j * 3 + 1, none⟩ (I x.2.1)).setCell ⟨gs, j * 3 + 2, none⟩ (I x.2.2)) W) :
  Rep W a l { H with fD := (H.fD.set i y).set j x } ∧ Nx a l l w W ∧ ∀ k, k ≠ gs → W.heap[k]? = w.heap[k]? := by
 have K1 := h.setSeat hgs i hi y (((w.setCell ⟨gs, i * 3, none⟩ (I y.1)).setCell ⟨gs, i * 3 + 1, none⟩ (I y.2.1)).setCell ⟨gs, i * 3 + 2, none⟩ (I y.2.2)) ⟨rfl, rfl, rfl, rfl⟩;have K2 := K1.1.setSeat hgs j (by simp; omega) x W he;refine ⟨K2.1, K1.2.trans K2.2, fun k hk => ?_⟩;rw [he.2.2.2, kAK hk, kAK hk, kAK hk, kAK hk, kAK hk, kAK hk]
theorem kFJ {H' : HS} {go : Nat} (h : Rep w a l H) (hgo : l.po = some ⟨go, 0, none⟩) (p q i j : Nat) (hH : H' = { H with fC := (H.fC.set p i).set q j, age := H.age + 1 }) (W : World) 
  (he : Eqw (((w.setCell ⟨go, p, none⟩ (int i64 i)).setCell ⟨go, q, none⟩ (int i64 j)).setCell ⟨a, 10, none⟩ (int i64 ((H.age : Int) + 1))) W) : Rep W a l H' ∧ Nx a l l w W := by
 subst hH;have K1 := h.setOrder hgo p i (w.setCell ⟨go, p, none⟩ (int i64 i)) ⟨rfl, rfl, rfl, rfl⟩;have K2 := K1.1.setOrder hgo q j ((w.setCell ⟨go, p, none⟩ (int i64 i)).setCell ⟨go, q, none⟩ (int i64 j)) ⟨rfl, rfl, rfl, rfl⟩;have K3 := K2.1.set (H' := { H with fC := (H.fC.set p i).set q j, age := H.age + 1 }) 10 (int i64 ((H.age : Int) + 1)) (by simp [kBv]) rfl rfl rfl rfl;exact ⟨K3.eqw he, ((K1.2.trans K2.2).trans (Nx.fr (Fr.setCell (S := [a]) _ _ _ (by simp)))).eqw he⟩
theorem kHw (i j : Nat) (a : Nat) (l : Lay) (H : HS) (w : World) (h : Rep w a l H) (h1 : (1 : Int) ≤ i) (h2 : (i : Int) < H.fD.length) (h3 : (H.fD.getD i (0, 0, 0)).2.1 ≠ 0) (k1 : (1 : Int) ≤ j) (k2 : (j : Int) < H.fD.length) (k3 : (H.fD.getD j (0, 0, 0)).2.1 ≠ 0) (hij : i ≠ j) 
  (t1 : (H.fD.getD i (0, 0, 0)).2.2 < H.fC.length) (t2 : (H.fD.getD j (0, 0, 0)).2.2 < H.fC.length) (t3 : (H.fD.getD i (0, 0, 0)).2.2 ≠ (H.fD.getD j (0, 0, 0)).2.2) (hsl : (H.fD.length : Int) ≤ 65538) (hol : (H.fC.length : Int) ≤ 1048576) (hage : (H.age : Int) ≤ 1000000000) :
  Calls prog 72 #[.pointer (some ⟨a, 0, none⟩), int i64 i, int i64 j] w fun e w' => e = .returned (int i64 0) ∧ Rep w' a l (kDp H i j) ∧ Nx a l l w w' := by
 have hal := h.lt a (by simp [foot]);have HS1 := kAA (fun W (hW : Rep W a l H) => kAb i a l H W hW h1 h2 h3);have HS2 := kAA (fun W (hW : Rep W a l H) => kAb j a l H W hW k1 k2 k3);have HR := kAA h;have HEX : Hid (kDp H i j = { H with fD := (H.fD.set i (H.fD.getD j (0, 0, 0))).set j (H.fD.getD i (0, 0, 0)), fC := (H.fC.set (H.fD.getD j (0, 0, 0)).2.2 i).set (H.fD.getD i (0, 0, 0)).2.2 j, age := H.age + 1 }) := rfl;generalize kDp H i j = HX at *;clear h h3 k3;obtain ⟨⟨x0, x1, x2⟩, hx⟩ : ∃ s, s = H.fD.getD i (0, 0, 0) := ⟨_, rfl⟩
 obtain ⟨⟨y0, y1, y2⟩, hy⟩ : ∃ s, s = H.fD.getD j (0, 0, 0) := ⟨_, rfl⟩
 rw [← hx] at HS1 t1 t3 HEX;rw [← hy] at HS2 t2 t3 HEX;dsimp only [sv, I] at HS1 HS2 t1 t2 t3 HEX;clear hx hy;go_enter func72, ntmps72
 go_wp2_with fail
 refine Calls.mono (HS1.out _ HR.out) ?_;rintro e w1 ⟨rfl, hf1⟩;have hz1 := hf1.size;have HF1 := kAA hf1;clear hf1
 go_wp2_with fail
 have F2 : Fr [] w (w1.alloc (.cells #[int i64 x0, int i64 x1, int i64 x2] 148)) := HF1.out.trans (Fr.alloc [] _ _) (by simp);refine Calls.mono (HS2.out _ (HR.out.keep F2 (by simp))) ?_;rintro e w2 ⟨rfl, hf2⟩;have z2 := hf2.size;have s0 := hf2.cell (p := ⟨w1.heap.size, 0, none⟩) (by simp) (by simp);have s1 := hf2.cell (p := ⟨w1.heap.size, 1, none⟩) (by simp) (by simp);have s2 := hf2.cell (p := ⟨w1.heap.size, 2, none⟩) (by simp) (by simp);simp only [World.cell?_alloc_new, jAX, jAe, jAW, World.size_alloc] at s0 s1 s2 z2;have F3 := F2.trans hf2 (by simp);have HW0 := kAA ((hf2.block w1.heap.size (by simp) (by simp)).trans (heap_alloc_new w1 _));have hr2 := HR.out.keep F3 (by simp);clear hf2 F2 HS1 HS2;obtain ⟨gs, hgs, hcs, hfs, hgsa, hgsl⟩ := HR.out.seatAt i (by omega);obtain ⟨p0, p1, p2⟩ := hcs i (by omega);obtain ⟨q0, q1, q2⟩ := hcs j (by omega);have c5 := hr2.c5;rw [hgs] at c5;have cc : ∀ o, w2.cell? ⟨gs, o, none⟩ = w.cell? ⟨gs, o, none⟩ := fun o => F3.cell (p := ⟨gs, o, none⟩) hgsl (by simp)
 have ff : ∀ o, w2.frozen? ⟨gs, o, none⟩ = false := fun o => (F3.frozen (p := ⟨gs, o, none⟩) hgsl (by simp)).trans (hfs o)
 obtain ⟨o3, ho3⟩ := jex (Obj.cells #[int i64 y0, int i64 y1, int i64 y2] 148);have P0 := ((jAE w2 o3 ⟨gs, i * 3, none⟩ (by show gs < _; omega)).trans (cc _)).trans p0;have P1 := ((jAE w2 o3 ⟨gs, i * 3 + 1, none⟩ (by show gs < _; omega)).trans (cc _)).trans p1;have P2 := ((jAE w2 o3 ⟨gs, i * 3 + 2, none⟩ (by show gs < _; omega)).trans (cc _)).trans p2;have Q0 := ((jAE w2 o3 ⟨gs, j * 3, none⟩ (by show gs < _; omega)).trans (cc _)).trans q0;have Q1 := ((jAE w2 o3 ⟨gs, j * 3 + 1, none⟩ (by show gs < _; omega)).trans (cc _)).trans q1;have Q2 := ((jAE w2 o3 ⟨gs, j * 3 + 2, none⟩ (by show gs < _; omega)).trans (cc _)).trans q2;simp only [I] at P0 P1 P2 Q0 Q1 Q2;have fo : ∀ o, (w2.alloc o3).frozen? ⟨gs, o, none⟩ = false := fun o => (jBB w2 o3 ⟨gs, o, none⟩ (by show gs ≠ _; omega)).trans (ff o)
 have e0 := fo (i * 3);have e1 := fo (i * 3 + 1);have e2 := fo (i * 3 + 2);have g0 := fo (j * 3);have g1 := fo (j * 3 + 1);have g2 := fo (j * 3 + 2);have C5 := (jAE w2 o3 ⟨a, 5, none⟩ (by show a < _; omega)).trans c5;have S0 := (jAE w2 o3 ⟨w1.heap.size, 0, none⟩ (by show w1.heap.size < _; omega)).trans s0;have S1 := (jAE w2 o3 ⟨w1.heap.size, 1, none⟩ (by show w1.heap.size < _; omega)).trans s1;have S2 := (jAE w2 o3 ⟨w1.heap.size, 2, none⟩ (by show w1.heap.size < _; omega)).trans s2;have hn3 := heap_alloc_new w2 o3;rw [ho3] at hn3;have T0 := kAC hn3 0;have T1 := kAC hn3 1;have T2 := kAC hn3 2;rw [← ho3] at T0 T1 T2;simp only [jAX, jAe, jAW] at T0 T1 T2;have HF3 := kAA (F3.trans (Fr.alloc [] w2 o3) (by simp));have hzz : (w2.alloc o3).heap.size = w2.heap.size + 1 := by simp
 have HB1 : Hid ((w2.alloc o3).heap[w1.heap.size]? = w2.heap[w1.heap.size]? ∧ (w2.alloc o3).heap[w2.heap.size]? = some (.cells #[int i64 y0, int i64 y1, int i64 y2] 148 (0, 0))) := ⟨jAN _ _ _ (by omega), by rw [ho3]; exact heap_alloc_new _ _⟩;have HW1 : Hid (w2.heap[w1.heap.size]? = some (.cells #[int i64 x0, int i64 x1, int i64 x2] 148 (0, 0))) := HW0.out;clear hcs hfs p0 p1 p2 q0 q1 q2 cc ff fo hn3 F3 hr2 s0 s1 s2 c5
 go_wp2
 rw [← ho3];clear ho3;generalize w2.alloc o3 = w3 at *;generalize (H.fD.getD i (0, 0, 0)).1 = ox0 at *;generalize (H.fD.getD i (0, 0, 0)).2.1 = ox1 at *;generalize (H.fD.getD i (0, 0, 0)).2.2 = ox2 at *;generalize (H.fD.getD j (0, 0, 0)).1 = oy0 at *;generalize (H.fD.getD j (0, 0, 0)).2.1 = oy1 at *;generalize (H.fD.getD j (0, 0, 0)).2.2 = oy2 at *;have m1 := ng i;have m2 := ng j;have d1 : gs ≠ w1.heap.size := by omega
 have d2 : gs ≠ w2.heap.size := by omega
 have d3 : w1.heap.size ≠ w2.heap.size := by omega
 have HZZ := kAA hzz;clear hzz
 have HE1 : Hid (∀ W, Eqw ((((((w3.setCell ⟨gs, i * 3, none⟩ (int i64 y0)).setCell ⟨gs, i * 3 + 1, none⟩ (int i64 y1)).setCell ⟨gs, i * 3 + 2, none⟩ (int i64 y2)).setCell ⟨gs, j * 3, none⟩ (int i64 x0)).setCell ⟨gs, j * 3 + 1, none⟩ (int i64 x1)).setCell ⟨gs, j * 3 + 2, none⟩ (int i64 x2)) W → Rep W a l { H with fD := (H.fD.set i (y0, y1, y2)).set j (x0, x1, x2) } ∧ Nx a l l w W ∧ W.heap[w1.heap.size]? = w2.heap[w1.heap.size]? ∧ W.heap[w2.heap.size]? = some (.cells #[int i64 y0, int i64 y1, int i64 y2] 148 (0, 0))) := by
  intro W he;have K := kFP (HR.out.keep HF3.out (by simp)) hgs i j (by omega) (by omega) (x0, x1, x2) (y0, y1, y2) W he;exact ⟨K.1, (Nx.frw (HF3.out.mono (by simp)) : Nx a l l w w3).trans K.2.1, (K.2.2 _ (Ne.symm d1)).trans HB1.out.1, (K.2.2 _ (Ne.symm d2)).trans HB1.out.2⟩
 go_cut [] (fun W => Hid (Rep W a l { H with fD := (H.fD.set i (y0, y1, y2)).set j (x0, x1, x2) } ∧ Nx a l l w W ∧ W.heap[w1.heap.size]? = w2.heap[w1.heap.size]? ∧ W.heap[w2.heap.size]? = some (.cells #[int i64 y0, int i64 y1, int i64 y2] 148 (0, 0))))
 case first =>
  go_region_held3 (fun w' => w'.cell? ⟨a, 5, none⟩ = some (.slice (some ⟨gs, 0, none⟩) H.fD.length l.cs) ∧ w'.cell? ⟨w1.heap.size, 0, none⟩ = some (int i64 x0) ∧ w'.cell? ⟨w1.heap.size, 1, none⟩ = some (int i64 x1) ∧ w'.cell? ⟨w1.heap.size, 2, none⟩ = some (int i64 x2) ∧ w'.cell? ⟨w2.heap.size, 0, none⟩ = some (int i64 y0) ∧ w'.cell? ⟨w2.heap.size, 1, none⟩ = some (int i64 y1) ∧ w'.cell? ⟨w2.heap.size, 2, none⟩ = some (int i64 y2)) (go_keep) (fail)
  all_goals go_wp2
  all_goals
   go_meet
   case rel =>
    refine kAA (HE1.out _ ?_);exact kAS _
 case rest =>
  obtain ⟨w4, hw4⟩ := jex (wc);subst hw4;obtain ⟨hr4, hx4, hb4, hb5⟩ := hcut.out;clear hcut P0 P1 P2 Q0 Q1 Q2 e0 e1 e2 g0 g1 g2 C5 T0 T1 T2;have hz4 : w4.heap[w1.heap.size]? = some (.cells #[int i64 x0, int i64 x1, int i64 x2] 148 (0, 0)) := by rw [hb4]; exact HW1.out
  have s0 := kAC hz4 0;have s2 := kAC hz4 2;have u2 := kAC hb5 2;simp only [jAX, jAe, jAW] at s0 s2 u2;obtain ⟨go, hgo, hco, hfo, hgoa, hgol⟩ := hr4.orderAt x2 (by dsimp only; omega);have c6 := hr4.c6;have c10 := hr4.c10;have f10 := hr4.frozen 10;rw [hgo] at c6;have o1 := hco x2 (by dsimp only; omega);have o2 := hco y2 (by dsimp only; omega);have p1 := hfo x2;have p2 := hfo y2;dsimp only at c6 c10 o1 o2;generalize H.fC.getD x2 0 = ov1 at *;generalize H.fC.getD y2 0 = ov2 at *
  have hgn1 : go ≠ w1.heap.size := by
   intro e;obtain ⟨cur, hcur⟩ := kBX hr4.fC go (by rw [hgo]; simp [blk]);rw [e, hz4] at hcur
   simp at hcur
  have hgn2 : go ≠ w2.heap.size := by
   intro e;obtain ⟨cur, hcur⟩ := kBX hr4.fC go (by rw [hgo]; simp [blk]);rw [e, hb5] at hcur
   simp at hcur
  have HE : Hid (∀ W, Eqw (((w4.setCell ⟨go, y2, none⟩ (int i64 i)).setCell ⟨go, x2, none⟩ (int i64 j)).setCell ⟨a, 10, none⟩ (int i64 ((H.age : Int) + 1))) W → Rep W a l HX ∧ Nx a l l w W) := by
   intro W he;have K := kFJ (H' := HX) hr4 hgo y2 x2 i j HEX.out W he;exact ⟨K.1, hx4.trans K.2⟩
  have a1 := ng x2;have a2 := ng y2;have a3 : (x2 : Int) < H.fC.length := by omega
  have a4 : (y2 : Int) < H.fC.length := by omega
  have t3' : y2 ≠ x2 := fun e => t3 e.symm
  clear hr4 hx4 hb4 hb5 hz4 hco hfo hgo HEX HR HF3 HB1
  go_wp2
  go_region_held3 (fun w' => w'.cell? ⟨a, 6, none⟩ = some (.slice (some ⟨go, 0, none⟩) H.fC.length l.co) ∧ w'.cell? ⟨w1.heap.size, 2, none⟩ = some (int i64 x2) ∧ w'.cell? ⟨w2.heap.size, 2, none⟩ = some (int i64 y2)) (go_keep) (fail)
  all_goals go_wp2
  all_goals
   go_ret
   exact ⟨rfl, HE.out _ ⟨rfl, rfl, rfl, rfl⟩⟩
def kBz (bits : List Nat) (k : Nat) : List Nat := bits.set ((k - 1) / 64) (bits.getD ((k - 1) / 64) 0 &&& (full - 2 ^ ((k - 1) % 64)))
def remH (H : HS) (k : Nat) : HS := { H with bits := kBz H.bits k, low := min H.low ((k - 1) / 64), count := H.count - 1 }
theorem kJC (b j : Nat) (hb : b ≤ full) : Go.bits .andNot .u64 (b : Int) ((2 ^ (j % 64) : Nat) : Int) = ((b &&& (full - 2 ^ (j % 64)) : Nat) : Int) := by
 have h : 2 ^ (j % 64) < 2 ^ 64 := jBg (by omega) (Nat.mod_lt _ (by omega));exact u64_andNot_nat b _ (by unfold full at hb; omega) (by omega)
theorem kMb {i z lw : Nat} (h : Rep w a l H) (hg : l.pb = some ⟨g, 0, none⟩) (hc : 1 ≤ H.count) (W : World) 
  (he : Eqw (((w.setCell ⟨g, i, none⟩ (.int .u64 (z : Int))).setCell ⟨a, 8, none⟩ (int i64 lw)).setCell ⟨a, 9, none⟩ (int i64 ((H.count : Int) - 1))) W) :
  Rep W a l { H with bits := H.bits.set i z, low := lw, count := H.count - 1 } ∧ Nx a l l w W := by
 have hgb : g ∈ blk l.pb := by rw [hg]; simp [blk]
 have hap := (h.apart g).2.2.2 hgb;have hb := h.bits;rw [hg] at hb;have hb1 := kBn hb i (.int .u64 (z : Int));rw [kGi, ← hg] at hb1
 have h2 : Rep (w.setCell ⟨g, i, none⟩ (.int .u64 (z : Int))) a l { H with bits := H.bits.set i z } := by
  refine h.turnBits (by simp) (fun k hk => kAK (fun e => ?_)) (by simpa using hb1);subst e;rcases hk with h1 | h1 | h1 | h1
  ·exact hap.1 h1
  ·exact hap.2.1 h1
  ·exact hap.2.2.1 h1
  ·exact hap.2.2.2 h1
 have f1 : Fr (foot a l) w (w.setCell ⟨g, i, none⟩ (.int .u64 (z : Int))) := Fr.setCell _ _ _ (by simp [foot, Lay.blocks, hgb]);have h3 := h2.set (H' := { H with bits := H.bits.set i z, low := lw }) 8 (int i64 lw) rfl rfl rfl rfl rfl;have h4 := h3.set (H' := { H with bits := H.bits.set i z, low := lw, count := H.count - 1 }) 9 (int i64 ((H.count : Int) - 1)) (by simp [kBv]; omega) rfl rfl rfl rfl;exact ⟨h4.eqw he, (Nx.frw ((f1.trans (Fr.setCell (S := foot a l) _ _ _ (by simp [foot])) (fun b hb => .inl hb)).trans (Fr.setCell (S := foot a l) _ _ _ (by simp [foot])) (fun b hb => .inl hb))).eqw he⟩
theorem kJo (k : Nat) (a : Nat) (l : Lay) (H : HS) (w : World) (h : Rep w a l H) (hk0 : (1 : Int) ≤ k) (hk1 : (k : Int) ≤ 65537) (hi : (k - 1) / 64 < H.bits.length) (hb : ∀ k, H.bits.getD k 0 ≤ full) (hc0 : 1 ≤ H.count) (hc : (H.count : Int) ≤ 100000) (hlw : (H.low : Int) ≤ 100000) :
  Calls prog 142 #[.pointer (some ⟨a, 7, none⟩), int i64 k] w fun e w' => e = .returned (.tuple #[]) ∧ Rep w' a l (remH H k) ∧ Nx a l l w w' := by
 have hd : ((k : Int) - 1) / 64 = (((k - 1) / 64 : Nat) : Int) := by omega
 have hd2 : (((k - 1) / 64 : Nat) : Int) ≤ 1024 := by omega
 obtain ⟨g, hg, cg, fg, hga⟩ := h.bitAt _ hi;have c7 := h.c7;have c8 := h.c8;have c9 := h.c9;have f8 := h.frozen 8;have f9 := h.frozen 9;rw [hg] at c7;have hou := kJC (H.bits.getD ((k - 1) / 64) 0) (k - 1) (hb _)
 obtain ⟨lw, hlw1, hlw2⟩ : ∃ lw, lw = min H.low ((k - 1) / 64) ∧ (if (((k - 1) / 64 : Nat) : Int) < (H.low : Int) then (((k - 1) / 64 : Nat) : Int) else (H.low : Int)) = (lw : Int) := by
  refine ⟨_, rfl, ?_⟩
  split <;> omega
 have HR : Hid (∀ W, Eqw (((w.setCell ⟨g, (k - 1) / 64, none⟩ (.int .u64 ((H.bits.getD ((k - 1) / 64) 0 &&& (full - 2 ^ ((k - 1) % 64)) : Nat) : Int))).setCell ⟨a, 8, none⟩ (int i64 lw)).setCell ⟨a, 9, none⟩ (int i64 ((H.count : Int) - 1))) W → Rep W a l (remH H k) ∧ Nx a l l w W) := by
  intro W he;have K := kMb h hg hc0 W he;unfold remH kBz;rw [← hlw1];exact K
 have i1 : (0 : Int) ≤ (((k - 1) / 64 : Nat) : Int) := by omega
 have i2 : (((k - 1) / 64 : Nat) : Int) < (H.bits.length : Int) := by omega
 have hl0 := ng H.low;have HLW := kAA hlw2;clear h hb hg hi hlw1 hlw2;generalize H.bits.getD ((k - 1) / 64) 0 &&& (full - 2 ^ ((k - 1) % 64)) = z at *;generalize H.bits.getD ((k - 1) / 64) 0 = b at *;have Hbit := kKD k;generalize 2 ^ ((k - 1) % 64) = y at *;have HB := kAA Hbit;clear Hbit;generalize (k - 1) / 64 = i at *;generalize H.bits.length = n at *;generalize remH H k = HX at *;generalize H.count = cnt at *;generalize H.low = low at *;go_enter func142, ntmps142
 go_wp2
 simp only [hd];clear hd
 go_region_with (go_at_call 149; refine (HB.out _ hk0 (by omega)).mono ?_; rintro e w' ⟨rfl, rfl⟩)
 all_goals go_wp2
 all_goals
  go_end0
  have hh := HLW.out
  first
  | (rw [jp (by omega)] at hh; rw [← hh] at HR; exact ⟨rfl, HR.out _ (kAS _)⟩)
  | (rw [jn (by omega)] at hh; rw [← hh] at HR; exact ⟨rfl, HR.out _ (kAS _)⟩)
theorem kEl (w : World) (ty : TypeId) (g o n c : Nat) (C : Array Value) (hn : 0 < n) (hg : w.heap[g]? = some (.cells C 41 (0, 0))) (hfit : o + n ≤ C.size) :
  (Builtin.clear_ #[35] ty #[.slice (some ⟨g, o, none⟩) n c]).run prog w = .ok (.tuple #[]) (w.setRow g (splice C.toList o (kDQ n)).toArray) := by
 have hzc : (Builtin.zeroCells (int i64 0).cells n).toList = kDQ n := by
  show (Builtin.zeroCells #[int i64 0] n).toList = List.replicate n (int i64 0)
  simp [Builtin.zeroCells]
  apply List.ext_getElem
  ·simp
  ·intro i h1 h2
   simp [Nat.mod_one]
 have hst := run_storeCells_at prog g o 41 (kDQ n) 0 C w hg (by rw [kGZ]; omega) (by intro v hv; rw [List.eq_of_mem_replicate hv]; rfl);obtain ⟨m, rfl⟩ : ∃ m, n = m + 1 := ⟨n - 1, by omega⟩
 simp only [jBm, jAu] at hst
 simp [Builtin.clear_, run_underlying underlying35, hzc, hst, splice]
theorem kJR {ops : Array Oper} {a : Act} {w : World} {K : Act → World → Prop} {Q : Exit → Act → World → Prop} {E : Prop} (hgd : o.guard = none) (d : Operand) 
  (ho : o.op = .call { callee := .builtin .clear, args := #[d], argTypes := #[35] }) (g off n c : Nat) (hd : a.eval d = .slice (some ⟨g, off, none⟩) n c) (hn : 0 < n) (C : Array Value) (hg : w.heap[g]? = some (.cells C 41 (0, 0))) (hfit : off + n ≤ C.size)
  (h : ∀ w', w'.heap[g]? = some (.cells (splice C.toList off (kDQ n)).toArray 41 (0, 0)) → Fr [g] w w' → w'.heap.size = w.heap.size → K (a.put o.dst (.tuple #[])) w') :
  if Region.wanted o (yielded ops a.tmps) = true then Oper.wp prog o a w K Q else E := by
 have hw : Region.wanted o (yielded ops a.tmps) = true := by simp [Region.wanted, hgd]
 rw [jp hw];have hrun := kEl w o.type g off n c C hn hg hfit;unfold Oper.wp
 simp [execOp, ho, resolve, invoke, builtin, hd, hrun, Result.andThen]
 exact h _ (setRow_heap w g C _ 41 _ hg) (Fr.setRow w g _ (by simp)) (by simp)
theorem kGW {ops : Array Oper} {rest : List Oper} {a : Act} {w : World} {Q : Exit → Act → World → Prop} (hgd : o.guard = none) (d : Operand) 
  (ho : o.op = .call { callee := .builtin .clear, args := #[d], argTypes := #[35] }) (g off n c : Nat) (hd : a.eval d = .slice (some ⟨g, off, none⟩) n c) (hn : 0 < n) (C : Array Value) (hg : w.heap[g]? = some (.cells C 41 (0, 0))) (hfit : off + n ≤ C.size)
  (h : ∀ w', w'.heap[g]? = some (.cells (splice C.toList off (kDQ n)).toArray 41 (0, 0)) → Fr [g] w w' → w'.heap.size = w.heap.size → wpList prog ops Q rest (a.put o.dst (.tuple #[])) w') : wpList prog ops Q (o :: rest) a w := by
 refine wpList_plain hgd fun K hK => ?_
 have hrun := kEl w o.type g off n c C hn hg hfit;unfold Oper.wp
 simp [execOp, ho, resolve, invoke, builtin, hd, hrun, Result.andThen]
 exact hK _ _ (h _ (setRow_heap w g C _ 41 _ hg) (Fr.setRow w g _ (by simp)) (by simp))
theorem Rep.memCells (h : Rep w a l H) (hg : l.pm = some ⟨g, 0, none⟩) :
  ∃ C, w.heap[g]? = some (.cells C 41 (0, 0)) ∧ C.toList = (H.mem ++ List.replicate (l.cm - H.mem.length) 0).map (int i64) ∧ C.size = l.cm ∧ l.cm ≤ maxLen := by
 have hb := h.mem;rw [hg] at hb;rcases hb.2 with ⟨q, _⟩ | ⟨g', cap, cur, q1, q2, q3, q4, q5, q6, q7⟩
 ·cases q
 ·injection q1 with q1a q1b q1c
  injection q1a with q1a
  injection q1a with q1a
  subst q1a;rw [jBO (by rw [Array.length_toList, q6, q1c]; exact jAD _)] at q7;exact ⟨cur, q3, q7, by omega, by omega⟩
theorem Rep.newMem {w2 : World} {ms : List Int} (h : Rep w a l H) (hg : l.pm = some ⟨g, 0, none⟩) (hl : ms.length = H.mem.length) 
  (h2 : w2.heap[g]? = some (.cells ((ms ++ List.replicate (l.cm - H.mem.length) 0).map (int i64)).toArray 41 (0, 0))) (hf : Fr [g] w w2) : Rep w2 a l { H with mem := ms } ∧ Nx a l l w w2 := by
 have hgb : g ∈ blk l.pm := by rw [hg]; simp [blk]
 have hap := (h.apart g).1 hgb;obtain ⟨C, hC, hCl, hCs, hcm⟩ := h.memCells hg;have hml := h.ml;have hlen : ((ms ++ List.replicate (l.cm - ms.length) (0 : Int)).map (int i64)).length = l.cm := by simp; omega
 have ho : w2.ownsRow 0 41 1 (.slice l.pm l.cm l.cm) l.cm ((ms ++ List.replicate (l.cm - ms.length) 0).map (int i64)) := by
  rw [← hl] at h2;rw [hg];refine ⟨by rw [hlen]; omega, .inr ⟨g, l.cm, _, rfl, jAH _, h2, jAD _, hcm, by simpa using hlen, ?_⟩⟩;rw [jBO (by rw [jBk]; exact Nat.le_of_eq hlen)]
 have hf' : ∀ k, k = a ∨ k ∈ blk l.ps ∨ k ∈ blk l.po ∨ k ∈ blk l.pb → w2.heap[k]? = w.heap[k]? := fun k hk => by
  have hlt : k < w.heap.size := h.lt k (by simp only [foot, Lay.blocks, jAF, jAC]; rcases hk with h1 | h1 | h1 | h1 <;> simp [h1]);refine hf.block k hlt (fun hm => ?_)
  simp at hm
  subst hm;rcases hk with h1 | h1 | h1 | h1
  ·exact hap.1 h1
  ·exact hap.2.1 h1
  ·exact hap.2.2.1 h1
  ·exact hap.2.2.2 h1
 exact ⟨h.turnMem hl hf' ho, Nx.frw (hf.mono (fun b hb => by simp at hb; subst hb; simp [foot, Lay.blocks, hgb]))⟩
theorem kIp (M Z : List Int) (off : Nat) (vs : List Int) (h : off + vs.length ≤ M.length) : splice ((M ++ Z).map (int i64)) off (vs.map (int i64)) = (splice M off vs ++ Z).map (int i64) := by
 unfold splice;rw [jAP, jAP, jAP, jAP, jBS, List.map_drop, jAR];rw [jBC (by simp; omega), List.drop_append_of_le_length (by simp; omega)]
 simp
theorem kHC (n : Nat) : kDQ n = (List.replicate n (0 : Int)).map (int i64) := by simp [kDQ]
theorem Rep.spliced {w2 : World} {off : Nat} {vs : List Int} {C : Array Value} (h : Rep w a l H) (hg : l.pm = some ⟨g, 0, none⟩) (hC : w.heap[g]? = some (.cells C 41 (0, 0))) (ho : off + vs.length ≤ H.mem.length) 
  (h2 : w2.heap[g]? = some (.cells (splice C.toList off (vs.map (int i64))).toArray 41 (0, 0))) (hf : Fr [g] w w2) : Rep w2 a l { H with mem := splice H.mem off vs } ∧ Nx a l l w w2 := by
 obtain ⟨C', hC', hCl, hCs, hcm⟩ := h.memCells hg;rw [hC] at hC'
 injection hC' with hC'
 injection hC' with hC'
 subst hC';rw [hCl, kIp _ _ _ _ ho] at h2;exact h.newMem hg (length_splice _ _ _ ho) h2 hf
end Go.Proofs.YtflgicdbbogllaaGreatDoor
