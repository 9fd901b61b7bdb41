import Derived.Test.YtflgicdbbogllaaGreatDoorPG07HMadeW
set_option linter.unusedSimpArgs false
set_option linter.unusedVariables false
namespace Go.Proofs.YtflgicdbbogllaaGreatDoor
open Go.RowKit Tryz
open Value (int)
open IntKind (i64)
attribute [local go_sem ↓] wp_at_zero wp_at_succ
variable {H : HS} {M : MS}
structure InvV (H : HS) (M : MS) : Prop where
 safe : Safe H
 fH : H.fH = M.fH
 fM : H.fM = M.fM
 mark : H.mark = M.mark
 len : H.fD.length ≤ M.fA.length + 1
 seat0 : (H.fD.getD 0 (0, 0, 0)).2.1 = 0
 fI : ∀ k, k < M.fA.length → ((M.fA.getD k noTh).fI = true ↔ (H.fD.getD (k + 1) (0, 0, 0)).2.1 ≠ 0)
 seat : ∀ k, k < M.fA.length → (M.fA.getD k noTh).fI = true → (H.fD.getD (k + 1) (0, 0, 0)).1 = (M.fA.getD k noTh).fJ ∧ (H.fD.getD (k + 1) (0, 0, 0)).2.1 = lenN (M.fA.getD k noTh).fB.length (M.fA.getD k noTh).fmt
 is : ∀ k, k < M.fA.length → (M.fA.getD k noTh).fI = true → Is H (k + 1) (M.fA.getD k noTh)
 count : H.count = kAG M.fA M.fA.length
 fO : ∀ k, k < M.fA.length → (M.fA.getD k noTh).fI = true → (H.fD.getD (k + 1) (0, 0, 0)).2.2 < H.fC.length ∧ H.fC.getD (H.fD.getD (k + 1) (0, 0, 0)).2.2 0 = k + 1
 fC : ∀ j, j < H.fC.length → H.fC.getD j 0 ≠ 0 → H.fC.getD j 0 ≤ M.fA.length ∧ (M.fA.getD (H.fC.getD j 0 - 1) noTh).fI = true ∧ (H.fD.getD (H.fC.getD j 0) (0, 0, 0)).2.2 = j
 rise : ∀ i j, i < j → j < H.fC.length → H.fC.getD i 0 ≠ 0 → H.fC.getD j 0 ≠ 0 → (H.fD.getD (H.fC.getD i 0) (0, 0, 0)).1 + (H.fD.getD (H.fC.getD i 0) (0, 0, 0)).2.1 ≤ (H.fD.getD (H.fC.getD j 0) (0, 0, 0)).1
 gaps : ∀ p, p < H.mem.length → (∀ k, k < M.fA.length → (M.fA.getD k noTh).fI = true → p < (M.fA.getD k noTh).fJ ∨ (M.fA.getD k noTh).fJ + lenN (M.fA.getD k noTh).fB.length (M.fA.getD k noTh).fmt ≤ p) → H.mem.getD p 0 = 0
 bit : ∀ k, (H.bits.getD (k / 64) 0).testBit (k % 64) = (M.fA.getD k noTh).fI
 low : ∀ i, i < H.low → H.bits.getD i 0 = full
 model : MOk M
 deep : ∀ j, j < H.fC.length → H.fC.getD j 0 ≠ 0 → 2 * j ≤ (H.fD.getD (H.fC.getD j 0) (0, 0, 0)).1
 most : M.fA.length ≤ M.fM
 room : (H.fH : Int) ≤ 1048576
structure Inv (H : HS) (M : MS) : Prop extends InvV H M where
 fin : H.mem.length = kAp M.fA M.fA.length
 last : ∀ j, H.fC.length = j + 1 → H.fC.getD j 0 ≠ 0
theorem Inv.allLen (h : Inv H M) : ∀ k, k ≤ M.fA.length → (kAq H (k + 1)).length = kAG M.fA k := by
 intro k
 induction k with
 | zero =>
  intro _;rw [kCH, h.seat0];rfl
 | succ k ih =>
  intro hk;rw [kCH, jAG, ih (by omega), kAN M.fA k (by omega)];have ht := h.fI k (by omega)
  cases hb : (M.fA.getD k noTh).fI with
  | true => rw [jp (by have := ht.1 hb; omega)]; rfl
  | false =>
   have : ¬ 0 < (H.fD.getD (k + 1) (0, 0, 0)).2.1 := fun hp => by
    have := ht.2 (by omega);rw [hb] at this
    simp at this
   rw [jn this]; rfl
theorem Inv.allAt (h : Inv H M) (k : Nat) (hb : (M.fA.getD k noTh).fI = true) : ∀ n, k < n → n ≤ M.fA.length → (kAq H (n + 1))[kAG M.fA k]? = some (k + 1) := by
 intro n
 induction n with
 | zero => intro h1; omega
 | succ n ih =>
  intro h1 h2
  by_cases e : k = n
  ·subst e;have hl := h.allLen k (by omega);rw [kCH, jp (by have := (h.fI k (by omega)).1 hb; omega), jAI (by omega), hl, Nat.sub_self];rfl
  ·have := ih (by omega) (by omega);rw [kCH, jAK ?_]
   ·exact this
   ·exact (jAc.1 this).1
theorem kGP (H : HS) : ∀ n, kAq H (H.fD.length + n) = kAq H H.fD.length
 | 0 => rfl
 | n + 1 => by
  rw [← jBF, kCH, kGP H n, jAA, jAM (by omega)]
  simp
theorem Inv.allEnd (h : Inv H M) : kAq H H.fD.length = kAq H (M.fA.length + 1) := by
 have hl := h.len;have := kGP H (M.fA.length + 1 - H.fD.length);rw [Nat.add_sub_cancel' hl] at this;exact this.symm
theorem InvV.seatIn (h : InvV H M) (k : Nat) (hk : k < M.fA.length) (hb : (M.fA.getD k noTh).fI = true) : k + 1 < H.fD.length := by
 have h1 := (h.fI k hk).1 hb
 by_cases hc : k + 1 < H.fD.length
 ·exact hc
 ·rw [jAA, jAM (by omega)] at h1;exact absurd rfl h1
theorem Inv.has (h : Inv H M) (k : Nat) (hk : k < M.fA.length) : has H ((k : Int) + 1) = (M.fA.getD k noTh).fI := by
 have e : ((k : Int) + 1).toNat = k + 1 := by omega
 cases hb : (M.fA.getD k noTh).fI with
 | true => exact decide_eq_true ⟨by omega, by have := h.seatIn k hk hb; omega, by rw [e]; exact (h.fI k hk).1 hb⟩
 | false =>
  refine decide_eq_false (fun hc => ?_);rw [e] at hc;have := (h.fI k hk).2 hc.2.2;rw [hb] at this
  simp at this
theorem Inv.told (h : Inv H M) : Told H M where
 small := h.safe.small
 fH := h.fH
 fM := h.fM
 mark := h.mark
 fin := h.fin
 cnt := h.count
 is := h.is
 none := fun k hk hb => by rw [h.has k hk, hb]
 all := fun k hk hb => by rw [h.allEnd]; exact h.allAt k hb _ hk (jAD _)
 allLen := by rw [h.allEnd]; exact h.allLen _ (jAD _)
 fD := h.safe.fD
theorem Inv.hasM (h : Inv H M) (oop : Int) : Go.Proofs.YtflgicdbbogllaaGreatDoor.has H oop = mhas M oop := by
 by_cases h1 : 1 ≤ oop ∧ oop ≤ M.fA.length
 ·obtain ⟨k, rfl⟩ : ∃ k : Nat, oop = (k : Int) + 1 := ⟨oop.toNat - 1, by omega⟩
  rw [h.has k (by omega)]
  cases hb : (M.fA.getD k noTh).fI with
  | true => exact (kDu k (by omega) hb).symm
  | false => exact (decide_eq_false (by rw [show ((k : Int) + 1).toNat - 1 = k from by omega, hb]; simp)).symm
 ·have e1 : mhas M oop = false := decide_eq_false (by omega);rw [e1];refine decide_eq_false (fun hc => ?_);have hl := h.len;omega
theorem kNa (x : Nat) (h0 : x ≠ 0) (hx : x < 18446744073709551616) : x.testBit (Lib.ctz 64 x) = true ∧ ∀ i, i < Lib.ctz 64 x → x.testBit i = false := by
 have e : Lib.ctz 64 x = Lib.ctzFrom 64 x := by unfold Lib.ctz; rw [jn h0]
 obtain ⟨m, h1, h2⟩ := Lib.ctzFrom_spec 64 x (by omega) hx;rw [e];generalize Lib.ctzFrom 64 x = c at *;rw [h1];refine ⟨?_, fun i hi => ?_⟩
 ·rw [Nat.testBit_two_pow_mul]; simp
 ·rw [Nat.testBit_two_pow_mul]; simp; omega
theorem kFz (b i : Nat) (hb : b ≤ full) (hi : i < 64) : (full - b).testBit i = !b.testBit i := by
 unfold full at *;rw [show (18446744073709551615 - b : Nat) = 2 ^ 64 - (b + 1) from by omega, Nat.testBit_two_pow_sub_succ (by omega)]
 simp [hi]
theorem kLb (i : Nat) (hi : i < 64) : full.testBit i = true := by
 unfold full;rw [show (18446744073709551615 : Nat) = 2 ^ 64 - 1 from rfl, Nat.testBit_two_pow_sub_one]
 simpa using hi
theorem Inv.lowest (h : Inv H M) (k : Nat) (hk : kFq H.bits H.low k) (hkf : k < H.bits.length → H.bits.getD k 0 ≠ full) : oopN H.bits k = kAf M.fA := by
 obtain ⟨x, hx⟩ : ∃ x, oopN H.bits k = x + 1 ∧ k * 64 ≤ x ∧ x < k * 64 + 64 ∧ (∀ j, k * 64 ≤ j → j < x → (H.bits.getD k 0).testBit (j % 64) = true) ∧ (H.bits.getD k 0).testBit (x % 64) = false := by
  unfold oopN
  by_cases e : k = H.bits.length
  ·rw [jp e];refine ⟨k * 64, rfl, by omega, by omega, fun j h1 h2 => by omega, ?_⟩;rw [jAA, jAM (by omega)]
   simp
  ·rw [jn e];have hl : k < H.bits.length := by have := hk.le; omega
   have hb := h.safe.bits k;have hne := hkf hl;have h0 : full - H.bits.getD k 0 ≠ 0 := by omega
   have h1 : full - H.bits.getD k 0 < 18446744073709551616 := by unfold full; omega
   have hc := kKk _ h0 h1;obtain ⟨b1, b2⟩ := kNa _ h0 h1;generalize Lib.ctz 64 (full - H.bits.getD k 0) = c at *;refine ⟨k * 64 + c, rfl, by omega, by omega, fun j h1 h2 => ?_, ?_⟩
   ·have := b2 (j % 64) (by omega);rw [kFz _ _ hb (by omega)] at this
    simpa using this
   ·rw [kFz _ _ hb hc] at b1;rw [show (k * 64 + c) % 64 = c from by omega]
    simpa using b1
 obtain ⟨e1, e2, e3, e4, e5⟩ := hx;rw [e1]
 have hup : ∀ j, j < x → (M.fA.getD j noTh).fI = true := by
  intro j hj;rw [← h.bit j]
  by_cases hjk : j < k * 64
  ·have hw : H.bits.getD (j / 64) 0 = full := by
    by_cases hl : j / 64 < H.low
    ·exact h.low _ hl
    ·exact hk.ful _ (by omega) (by omega)
   rw [hw];exact kLb _ (by omega)
  ·rw [show j / 64 = k from by omega];exact e4 j (by omega) hj
 have hno : (M.fA.getD x noTh).fI = false := by
  rw [← h.bit x, show x / 64 = k from by omega];exact e5
 have hin : ∀ j, (M.fA.getD j noTh).fI = true → j < M.fA.length := by
  intro j hj
  by_cases hl : j < M.fA.length
  ·exact hl
  ·rw [jAA, jAM (by omega)] at hj
   simp [noTh] at hj
 by_cases hxl : x < M.fA.length
 ·exact (kMy M.fA x hxl hup hno).symm
 ·have hxe : x = M.fA.length := by
   by_cases h0 : x = 0
   ·omega
   ·have := hin (x - 1) (hup _ (by omega));omega
  rw [kJK M.fA (fun j hj => hup j (by omega)), hxe]
theorem kDH (S : List Th) : kAf S ≤ S.length + 1 ∧ 1 ≤ kAf S := by
 unfold kAf;have := List.IsPrefix.length_le (List.takeWhile_prefix (p := fun t : Th => t.fI) (l := S));omega
def kBD (fH fM : Nat) : MS := ⟨fH, fM, 0, [], none, 0⟩
theorem kEz (fH fM : Nat) (h1 : (fH : Int) ≤ 1048576) (h2 : (fM : Int) ≤ 65536) : Inv (kBZ fH fM) (kBD fH fM) where
 safe := ⟨⟨by show (fH : Int) ≤ _; omega, h2, by show ((0 : Nat) : Int) ≤ (fH : Int); omega, by show ((0 : Nat) : Int) ≤ (fM : Int); omega, by show ((0 : Nat) : Int) ≤ _; omega⟩, jAD _, by show ((0 : Nat) : Int) ≤ _; omega, fun k => by simp [kBZ, full], by show ((0 : Nat) : Int) ≤ _; omega, by show ((0 : Nat) : Int) ≤ _; omega⟩
 fH := rfl
 fM := rfl
 mark := rfl
 len := jAH _
 seat0 := rfl
 fI := fun k hk => by simp [kBD] at hk
 seat := fun k hk => by simp [kBD] at hk
 is := fun k hk => by simp [kBD] at hk
 count := rfl
 fin := rfl
 fO := fun k hk => by simp [kBD] at hk
 fC := fun j hj => by simp [kBZ] at hj
 rise := fun i j _ hj => by simp [kBZ] at hj
 last := fun j hj => by simp [kBZ] at hj
 gaps := fun p hp => by simp [kBZ] at hp
 bit := fun k => by simp [kBZ, kBD, noTh]
 low := fun i hi => by simp [kBZ] at hi
 model := ⟨by show ((0 : Nat) : Int) ≤ _; omega, fun k hk => by simp [kBD] at hk, fun k hk => by simp [kBD] at hk⟩
 deep := fun j hj => by simp [kBZ] at hj
 most := jAH _
 room := h1
theorem Inv.short (h : Inv H M) : 2 * H.fC.length ≤ H.mem.length := by
 cases hl : H.fC.length with
 | zero => omega
 | succ j =>
  have hn := h.last j hl;have hd := h.deep j (by omega) hn;obtain ⟨o1, o2, o3⟩ := h.fC j (by omega) hn;have hi := h.is (H.fC.getD j 0 - 1) (by omega) o2;have hr := hi.room;rw [show H.fC.getD j 0 - 1 + 1 = H.fC.getD j 0 from by omega] at hr;have := kAR (M.fA.getD (H.fC.getD j 0 - 1) noTh).fB.length (M.fA.getD (H.fC.getD j 0 - 1) noTh).fmt;omega
theorem kAs {S : List Th} {j : Nat} (hj : (S.getD j noTh).fI = true) : j < S.length := by
 by_cases hl : j < S.length
 ·exact hl
 ·rw [jAA, jAM (by omega)] at hj
  simp [noTh] at hj
theorem kDK (S : List Th) : (S.getD (kAf S - 1) noTh).fI = false ∧ ∀ j, j < kAf S - 1 → (S.getD j noTh).fI = true := by
 unfold kAf
 induction S with
 | nil => simp [noTh]
 | cons s S ih =>
  by_cases hs : s.fI = true
  ·rw [List.takeWhile_cons_of_pos hs];simp only [jBG, jAJ] at ih ⊢;refine ⟨by simpa using ih.1, fun j hj => ?_⟩
   cases j with
   | zero => simpa using hs
   | succ j => simpa using ih.2 j (by simpa using hj)
  ·rw [List.takeWhile_cons_of_neg hs]
   simp
   simpa using hs
theorem kHd (S : List Th) : ∀ k, k ≤ S.length → (∀ j, j < k → (S.getD j noTh).fI = true) → kAG S k = k := by
 intro k
 induction k with
 | zero => intro _ _; rfl
 | succ k ih =>
  intro h1 h2;rw [kAN S k (by omega), ih (by omega) (fun j hj => h2 j (by omega)), jp (h2 k (by omega))]
theorem kGd (S : List Th) : ∀ n k, k ≤ n → n ≤ S.length → kAG S k ≤ kAG S n := by
 intro n
 induction n with
 | zero => intro k h1 _; rw [show k = 0 from by omega]; exact jAD _
 | succ n ih =>
  intro k h1 h2
  by_cases e : k = n + 1
  ·rw [e]; exact jAD _
  ·have := ih k (by omega) (by omega);have := kAN S n (by omega);omega
theorem Inv.low_le (h : Inv H M) : kAf M.fA - 1 ≤ H.count := by
 have hf := kDK M.fA;have hl := kDH M.fA;have h1 := kHd M.fA (kAf M.fA - 1) (by omega) hf.2;have h2 := kGd M.fA M.fA.length (kAf M.fA - 1) (by omega) (jAD _);rw [h.count];omega
theorem kNy (S : List (Nat × Nat × Nat)) (n i : Nat) : (kBA S n).getD i (0, 0, 0) = S.getD i (0, 0, 0) := by
 unfold kBA;rw [jAA, jAA]
 by_cases h : i < S.length
 ·rw [jAK h]
 ·rw [jAI (by omega), jAM (l := S) (by omega), jAo]
  split <;> rfl
theorem kHs (S : List (Nat × Nat × Nat)) (o i : Nat) (s : Nat × Nat × Nat) : ((kBA S (o + 1)).set o s).getD i (0, 0, 0) = if i = o then s else S.getD i (0, 0, 0) := by
 rw [jAA, jAh]
 by_cases h : o = i
 ·rw [jp h, jp h.symm, jp (by unfold kBA; simp; omega)]; rfl
 ·rw [jn h, jn (fun e => h e.symm), ← jAA, kNy]
theorem kGq (bits : List Nat) (n : Nat) : (kHO bits n).length = max bits.length n := by unfold kHO; simp; omega
theorem kFI (bits : List Nat) (n i : Nat) : (kHO bits n).getD i 0 = bits.getD i 0 := by
 unfold kHO;rw [jAA, jAA]
 by_cases h : i < bits.length
 ·rw [jAK h]
 ·rw [jAI (by omega), jAM (l := bits) (by omega), jAo]
  split <;> rfl
theorem kCf (bits : List Nat) (k : Nat) : (kBB bits k).length = max bits.length ((k - 1) / 64 + 1) := by unfold kBB; rw [jAL, kGq]
theorem kCO (bits : List Nat) (k i : Nat) : (kBB bits k).getD i 0 = if i = (k - 1) / 64 then bits.getD i 0 ||| 2 ^ ((k - 1) % 64) else bits.getD i 0 := by
 unfold kBB;rw [jAA, jAh]
 by_cases h : (k - 1) / 64 = i
 ·rw [jp h, jp h.symm, jp (by rw [kGq]; omega), kFI, h]; rfl
 ·rw [jn h, jn (fun e => h e.symm), ← jAA, kFI]
theorem kCz (bits : List Nat) (k : Nat) (hb : ∀ i, bits.getD i 0 ≤ full) (i : Nat) : (kBB bits k).getD i 0 ≤ full := by
 rw [kCO]
 split
 ·have h1 := hb i;have h2 : bits.getD i 0 ||| 2 ^ ((k - 1) % 64) < 2 ^ 64 := Nat.or_lt_two_pow (by unfold full at h1; omega) (jBg (by omega) (by omega))
  unfold full;omega
 ·exact hb i
theorem kEe (bits : List Nat) (k j : Nat) (hk : 1 ≤ k) : ((kBB bits k).getD (j / 64) 0).testBit (j % 64) = (if j = k - 1 then true else (bits.getD (j / 64) 0).testBit (j % 64)) := by
 rw [kCO]
 by_cases h : j / 64 = (k - 1) / 64
 ·rw [jp h, Nat.testBit_or, Nat.testBit_two_pow]
  by_cases e : j = k - 1
  ·rw [jp e, e]; simp
  ·rw [jn e];have : ¬ (k - 1) % 64 = j % 64 := by omega
   simp [this]
 ·rw [jn h, jn (fun e => h (by rw [e]))]
theorem kCP (cl : Int) (n f : Nat) (hf : f ≤ 1) : (kAQ cl n f).length = lenN n f := by
 unfold kAQ lenN;rcases (show f = 0 ∨ f = 1 from by omega) with rfl | rfl <;> simp <;> omega
theorem kGl (S : List Th) (q i : Nat) (t : Th) (hq : q ≤ S.length) : (kAY S q t).getD i noTh = if i = q then t else S.getD i noTh := by
 by_cases hi : i < (kAY S q t).length
 ·exact kIe S q t hq i hi
 ·have h1 := (kEr S q t hq).1;rw [jn (by omega), jAA, jAM (by omega), jAA, jAM ?_];unfold kAY at hi
  split at hi
  ·simp at hi; omega
  ·simp at hi; omega
theorem kEL (S : List Th) (q : Nat) (t : Th) (hq : q ≤ S.length) : (kAY S q t).length = max S.length (q + 1) := by
 unfold kAY
 split
 ·simp; omega
 ·simp; omega
theorem kEX (S : List Th) : ∀ k j, j < k → (S.getD j noTh).fI = true → (S.getD j noTh).fJ + lenN (S.getD j noTh).fB.length (S.getD j noTh).fmt ≤ kAp S k := by
 intro k
 induction k with
 | zero => intro j h; omega
 | succ k ih =>
  intro j h hb;rw [kBh]
  by_cases e : j = k
  ·subst e
   split
   ·exact jAD _
   ·rename_i hc
    simp only [hb, true_and] at hc;omega
  ·have := ih j (by omega) hb
   split <;> omega
theorem kCY (S : List Th) (E : Nat) : ∀ k, (∀ j, j < k → (S.getD j noTh).fI = true → (S.getD j noTh).fJ + lenN (S.getD j noTh).fB.length (S.getD j noTh).fmt ≤ E) → (E = 0 ∨ ∃ j, j < k ∧ (S.getD j noTh).fI = true ∧ (S.getD j noTh).fJ + lenN (S.getD j noTh).fB.length (S.getD j noTh).fmt = E) → kAp S k = E := by
 intro k h1 h2
 have hle : ∀ k, (∀ j, j < k → (S.getD j noTh).fI = true → (S.getD j noTh).fJ + lenN (S.getD j noTh).fB.length (S.getD j noTh).fmt ≤ E) → kAp S k ≤ E := by
  intro k
  induction k with
  | zero => intro _; exact jAH _
  | succ k ih =>
   intro h;rw [kBh]
   split
   ·rename_i hc; exact h k (by omega) hc.1
   ·exact ih fun j hj => h j (by omega)
 have h3 := hle k h1;rcases h2 with h2 | ⟨j, j1, j2, j3⟩
 ·omega
 ·have := kEX S k j j1 j2;omega
theorem Is.same {H' : HS} {oop : Nat} {t : Th} (h : Is H oop t) (hs : H'.fD.getD oop (0, 0, 0) = H.fD.getD oop (0, 0, 0)) (hl : oop < H'.fD.length) (hr : (H.fD.getD oop (0, 0, 0)).1 + lenN t.fB.length t.fmt ≤ H'.mem.length) 
  (hm : ∀ p, (H.fD.getD oop (0, 0, 0)).1 ≤ p → p < (H.fD.getD oop (0, 0, 0)).1 + lenN t.fB.length t.fmt → H'.mem.getD p 0 = H.mem.getD p 0) : Is H' oop t := by
 have h2 := kAR t.fB.length t.fmt;obtain ⟨a1, a2, a3⟩ := kAk h.has;refine ⟨?_, by rw [hs]; exact hr, ?_, ?_, h.fmt, h.len, ?_, ?_⟩
 ·exact decide_eq_true ⟨a1, by omega, by simp only [jAj]; rw [hs]; exact a3⟩
 ·rw [hs, hm _ (by omega) (by omega)]; exact h.cls
 ·rw [hs, hm _ (by omega) (by omega)]; exact h.shape
 ·intro hf i hi;have := kCK t.fB.length i t.fmt hf hi;rw [hs, hm _ (by omega) (by omega)];exact h.word hf i hi
 ·intro hf i hi;have := kCI t.fB.length i hi;rw [← hf] at this;rw [hs, hm _ (by omega) (by omega)];exact h.byte hf i hi
theorem kDe (A B : List Int) (p : Nat) (h : p < A.length) : (A ++ B).getD p 0 = A.getD p 0 := by
 rw [jAA, jAA, jAK h]
theorem kCF (A B : List Int) (i : Nat) : (A ++ B).getD (A.length + i) 0 = B.getD i 0 := by
 rw [jAA, jAA, jAI (by omega), show A.length + i - A.length = i from by omega]
theorem kEQ (n i : Nat) (x : Int) (h : i < n) : (List.replicate n x).getD i 0 = x := by
 rw [jAA, jAo, jp h]; rfl
theorem kLJ (H : HS) (q : Nat) (cl : Int) (n f : Nat) (t : Th) (hf : f ≤ 1) (hn : n ≤ 8192) (h1 : t.cls = cl) (h2 : t.fmt = f) (h3 : t.fB = List.replicate n (newX f)) : Is (layH H (q + 1) cl n f) (q + 1) t := by
 have hs : (layH H (q + 1) cl n f).fD.getD (q + 1) (0, 0, 0) = (H.mem.length, lenN n f, H.fC.length) := by show ((kBA H.fD (q + 1 + 1)).set (q + 1) _).getD (q + 1) (0, 0, 0) = _; rw [kHs, jp rfl]
 have hl2 := kAR n f;have hsl : t.fB.length = n := by rw [h3]; simp
 have hm : (layH H (q + 1) cl n f).mem = H.mem ++ kAQ cl n f := rfl;refine ⟨?_, ?_, ?_, ?_, by omega, by omega, ?_, ?_⟩
 ·refine decide_eq_true ⟨by omega, ?_, ?_⟩
  ·show ((q + 1 : Nat) : Int) < ((kBA H.fD (q + 1 + 1)).set (q + 1) _).length;unfold kBA
   simp
   omega
  ·simp only [jAj];rw [hs];show lenN n f ≠ 0;omega
 ·rw [hs, hm, jAG, kCP cl n f hf, hsl, h2]; exact jAD _
 ·rw [hs, hm];rw [h1];exact kCF H.mem (kAQ cl n f) 0
 ·rw [hs, hm, kCF H.mem (kAQ cl n f) 1, hsl, h2];rfl
 ·intro hf0 i hi;rw [hsl] at hi;have hf1 : f = 0 := by omega
  rw [hs, hm];show (H.mem ++ kAQ cl n f).getD (H.mem.length + 2 + i) 0 = _;rw [show H.mem.length + 2 + i = H.mem.length + (2 + i) from by omega, kCF, h3, kEQ n i _ hi];subst hf1;unfold kAQ;rw [jp rfl, show (2 + i) = [cl, ((2 * n + 0 : Nat) : Int)].length + i from rfl, kCF, kEQ n i _ hi];rfl
 ·intro hf1 i hi;rw [hsl] at hi;have hf1 : f = 1 := by omega
  refine ⟨0, ?_, by omega, ?_⟩
  ·rw [hs, hm];show (H.mem ++ kAQ cl n f).getD (H.mem.length + 2 + i / 4) 0 = _;rw [show H.mem.length + 2 + i / 4 = H.mem.length + (2 + i / 4) from by omega, kCF];subst hf1;unfold kAQ;rw [jn (by omega), show (2 + i / 4) = [cl, ((2 * n + 1 : Nat) : Int)].length + i / 4 from rfl, kCF, kEQ _ _ _ (by omega)];rfl
  ·rw [h3, kEQ n i _ hi, hf1]
   simp [newX, getB]
theorem kCE (S T : List Th) (k : Nat) (h : ∀ j, j < k → (S.getD j noTh).fI = (T.getD j noTh).fI) (hs : k ≤ S.length) (ht : k ≤ T.length) : kAG S k = kAG T k := by
 induction k with
 | zero => rfl
 | succ k ih => rw [kAN S k (by omega), kAN T k (by omega), ih (fun j hj => h j (by omega)) (by omega) (by omega), h k (by omega)]
theorem kEx (S : List Th) (q : Nat) (t : Th) (hq : q ≤ S.length) (hf : (S.getD q noTh).fI = false) (ht : t.fI = true) : kAG (kAY S q t) (kAY S q t).length = kAG S S.length + 1 := by
 have hg := fun i => kGl S q i t hq
 have hl := kEL S q t hq;have hlow : ∀ k, k ≤ q → k ≤ S.length → kAG (kAY S q t) k = kAG S k := fun k h1 h2 => kCE _ _ k (fun j hj => by rw [hg j, jn (by omega)]) (by omega) h2
 by_cases hlt : q < S.length
 ·have hup : ∀ k, q + 1 ≤ k → k ≤ S.length → kAG (kAY S q t) k = kAG S k + 1 := by
   intro k
   induction k with
   | zero => intro h; omega
   | succ k ih =>
    intro h1 h2;rw [kAN S k (by omega), kAN (kAY S q t) k (by omega), hg k]
    by_cases e : k = q
    ·rw [jp e, ht, hlow k (by omega) (by omega), e, hf]; simp
    ·rw [jn e, ih (by omega) (by omega)]; omega
  rw [show (kAY S q t).length = S.length from by omega];exact hup S.length (by omega) (jAD _)
 ·have hqe : q = S.length := by omega
  rw [show (kAY S q t).length = S.length + 1 from by omega, kAN _ _ (by omega), hlow S.length (by omega) (jAD _), hg, jp hqe.symm, ht]
  simp
theorem Inv.lay (h : Inv H M) (k : Nat) (hk : kFq H.bits H.low k) (cl : Int) (n f : Nat) (p pt : Option Addr) (c ct : Nat) (hf : f ≤ 1) (hn : n ≤ 8192) (hr1 : H.count < H.fM) (hr2 : H.mem.length + lenN n f ≤ H.fH) :
  Inv (layH { H with mark := H.mark - 1, low := k } (kAf M.fA) cl n f) { M with mark := M.mark - 1, fA := kAY M.fA (kAf M.fA - 1) ⟨true, cl, f, kAp M.fA M.fA.length, List.replicate n (newX f), p, c⟩, pt := pt, ct := ct } := by
 have hlow := kDH M.fA;have hfree := kDK M.fA;have hq1 := h.low_le;obtain ⟨q, hq⟩ : ∃ q, kAf M.fA = q + 1 := ⟨kAf M.fA - 1, by omega⟩
 rw [hq] at hfree hq1 hlow ⊢;rw [jAJ] at hfree hq1 ⊢;rw [← h.fin];generalize ht : (⟨true, cl, f, H.mem.length, List.replicate n (newX f), p, c⟩ : Th) = t;have t1 : t.fI = true := by rw [← ht]
 have t2 : t.cls = cl := by rw [← ht]
 have t3 : t.fmt = f := by rw [← ht]
 have t4 : t.fJ = H.mem.length := by rw [← ht]
 have t5 : t.fB = List.replicate n (newX f) := by rw [← ht]
 have t6 : t.fB.length = n := by rw [t5]; simp
 have hqs : q ≤ M.fA.length := by omega
 have hg := fun i => kGl M.fA q i t hqs
 have hgl := kEL M.fA q t hqs;have hS : ∀ i, (layH { H with mark := H.mark - 1, low := k } (q + 1) cl n f).fD.getD i (0, 0, 0) = if i = q + 1 then (H.mem.length, lenN n f, H.fC.length) else H.fD.getD i (0, 0, 0) := fun i => kHs H.fD (q + 1) i _
 have hSl : (layH { H with mark := H.mark - 1, low := k } (q + 1) cl n f).fD.length = max H.fD.length (q + 2) := by
  show ((kBA H.fD (q + 1 + 1)).set (q + 1) _).length = _;unfold kBA
  simp
  omega
 have hM : (layH { H with mark := H.mark - 1, low := k } (q + 1) cl n f).mem = H.mem ++ kAQ cl n f := rfl;have hMl : (H.mem ++ kAQ cl n f).length = H.mem.length + lenN n f := by rw [jAG, kCP cl n f hf]
 have hO : (layH { H with mark := H.mark - 1, low := k } (q + 1) cl n f).fC = H.fC ++ [q + 1] := rfl
 have hOg : ∀ j, (H.fC ++ [q + 1]).getD j 0 = if j = H.fC.length then q + 1 else H.fC.getD j 0 := fun j => by
  rw [jAA, jAA]
  by_cases e : j = H.fC.length
  ·rw [jp e, e, jAI (jAD _)]; simp
  ·rw [jn e]
   by_cases hl : j < H.fC.length
   ·rw [jAK hl]
   ·rw [jAM (by simp; omega), jAM (by omega)]
 have hin : ∀ i, i < (kAY M.fA q t).length → i ≠ q → i < M.fA.length := fun i h1 h2 => (kEr M.fA q t hqs).2 i h1 h2
 have hL := h.len;have hsm := h.safe.small;have ho := hsm.fM;have hw := hsm.fH;have hshort := h.short;have hl2 := kAR n f;have hmost := h.most;have hoo := h.fM;have hend : ∀ i, i < M.fA.length → (M.fA.getD i noTh).fI = true → (M.fA.getD i noTh).fJ + lenN (M.fA.getD i noTh).fB.length (M.fA.getD i noTh).fmt ≤ H.mem.length := fun i h1 h2 => by rw [h.fin]; exact kEX M.fA _ i h1 h2
 exact {
  safe := ⟨⟨hw, ho, by rw [hM, hMl]; show ((H.mem.length + lenN n f : Nat) : Int) ≤ (H.fH : Int); omega, by show ((H.count + 1 : Nat) : Int) ≤ (H.fM : Int); omega, by show ((H.mark - 1 : Nat) : Int) ≤ _; have := hsm.mark; omega⟩,
   by show k ≤ (kBB H.bits (q + 1)).length; rw [kCf]; have := hk.le; omega,
   by show ((kBB H.bits (q + 1)).length : Int) ≤ 1024; rw [kCf]; have := h.safe.bl; omega,
   fun i => kCz H.bits (q + 1) h.safe.bits i, by rw [hSl]; have := h.safe.fD; omega,
   by rw [hO]; simp only [jAG, jBQ]; omega⟩
  fH := h.fH
  fM := h.fM
  mark := by show H.mark - 1 = M.mark - 1; rw [h.mark]
  len := by
   rw [hSl];show max H.fD.length (q + 2) ≤ (kAY M.fA q t).length + 1;rw [hgl];omega
  seat0 := by rw [hS, jn (by omega)]; exact h.seat0
  fI := fun i hi => by
   show (((kAY M.fA q t).getD i noTh).fI = true ↔ _);rw [hg i, hS (i + 1)]
   by_cases e : i = q
   ·rw [jp e, jp (by omega)]; simp only [t1, true_iff]; show lenN n f ≠ 0; omega
   ·rw [jn e, jn (by omega)]; exact h.fI i (hin i hi e)
  seat := fun i hi hb => by
   have hb2 : ((kAY M.fA q t).getD i noTh).fI = true := hb;show _ = ((kAY M.fA q t).getD i noTh).fJ ∧ _ = lenN ((kAY M.fA q t).getD i noTh).fB.length ((kAY M.fA q t).getD i noTh).fmt;rw [hg i] at hb2 ⊢;rw [hS (i + 1)]
   by_cases e : i = q
   ·rw [jp e, jp (by omega), t4, t6, t3]; exact ⟨rfl, rfl⟩
   ·rw [jn e] at hb2 ⊢; rw [jn (by omega)]; exact h.seat i (hin i hi e) hb2
  is := fun i hi hb => by
   have hb2 : ((kAY M.fA q t).getD i noTh).fI = true := hb;show Is _ (i + 1) ((kAY M.fA q t).getD i noTh);rw [hg i] at hb2 ⊢
   by_cases e : i = q
   ·rw [jp e, e]; exact kLJ _ q cl n f t hf hn t2 t3 t5
   ·rw [jn e] at hb2 ⊢;have hi2 := hin i hi e;have hI := h.is i hi2 hb2;have hr := hI.room;refine hI.same (by rw [hS, jn (by omega)]) (by rw [hSl]; have := (kAk hI.has).2.1; omega) (by rw [hM, hMl]; omega) (fun x h1 h2 => by rw [hM]; exact kDe _ _ x (by omega))
  count := by show H.count + 1 = kAG (kAY M.fA q t) (kAY M.fA q t).length; rw [kEx M.fA q t hqs hfree.1 t1, h.count]
  fin := by
   rw [hM, hMl];show _ = kAp (kAY M.fA q t) (kAY M.fA q t).length;refine (kCY _ _ _ (fun j hj hb => ?_) (.inr ⟨q, by omega, by rw [hg, jp rfl]; exact t1, by rw [hg, jp rfl, t4, t6, t3]⟩)).symm;rw [hg j] at hb ⊢
   by_cases e : j = q
   ·rw [jp e, t4, t6, t3]; exact jAD _
   ·rw [jn e] at hb ⊢;have := hend j (hin j hj e) hb;omega
  fO := fun i hi hb => by
   have hb2 : ((kAY M.fA q t).getD i noTh).fI = true := hb;rw [hg i] at hb2;rw [hS (i + 1), hO, hOg]
   by_cases e : i = q
   ·rw [jp (by omega)]; simp; omega
   ·rw [jn e] at hb2;rw [jn (by omega)];have := h.fO i (hin i hi e) hb2;rw [jn (by omega)];exact ⟨by rw [jAG, jBQ]; omega, this.2⟩
  fC := fun j hj hne => by
   rw [hO] at hj hne ⊢;show _ ≤ (kAY M.fA q t).length ∧ ((kAY M.fA q t).getD _ noTh).fI = true ∧ _;rw [hOg] at hne ⊢
   by_cases e : j = H.fC.length
   ·rw [jp e, hS, jp rfl, hg, jp (by omega)];exact ⟨by omega, t1, e.symm⟩
   ·rw [jn e] at hne ⊢
    simp at hj
    obtain ⟨o1, o2, o3⟩ := h.fC j (by omega) hne
    have hne2 : H.fC.getD j 0 ≠ q + 1 := fun e2 => by
     rw [e2, jAJ, hfree.1] at o2
     simp at o2
    rw [hS, jn hne2, hg, jn (by omega)];exact ⟨by omega, o2, o3⟩
  rise := fun i j hij hj hi0 hj0 => by
   rw [hO] at hj hi0 hj0 ⊢;rw [hOg] at hi0 hj0 ⊢;rw [hOg j]
   simp at hj
   rw [jn (by omega)] at hi0 ⊢;obtain ⟨o1, o2, o3⟩ := h.fC i (by omega) hi0
   have hne2 : H.fC.getD i 0 ≠ q + 1 := fun e2 => by
    rw [e2, jAJ, hfree.1] at o2
    simp at o2
   rw [hS, jn hne2, hS]
   by_cases e : j = H.fC.length
   ·rw [jp e, jp rfl];have hI := h.seat (H.fC.getD i 0 - 1) (by omega) o2;have := hend (H.fC.getD i 0 - 1) (by omega) o2;rw [show H.fC.getD i 0 - 1 + 1 = H.fC.getD i 0 from by omega] at hI;show _ ≤ H.mem.length;omega
   ·rw [jn e] at hj0 ⊢;obtain ⟨p1, p2, p3⟩ := h.fC j (by omega) hj0
    have hne3 : H.fC.getD j 0 ≠ q + 1 := fun e2 => by
     rw [e2, jAJ, hfree.1] at p2
     simp at p2
    rw [jn hne3];exact h.rise i j hij (by omega) hi0 hj0
  last := fun j hj => by
   rw [hO] at hj ⊢
   simp at hj
   rw [hOg, jp (by omega)];omega
  gaps := fun x hx hc => by
   rw [hM] at hx ⊢;rw [hMl] at hx
   by_cases hlt : x < H.mem.length
   ·rw [kDe _ _ x hlt];refine h.gaps x hlt (fun i hi hb => ?_);have hiq : i ≠ q := fun e => by rw [e, hfree.1] at hb; simp at hb
    have := hc i (by show i < (kAY M.fA q t).length; omega) (by show ((kAY M.fA q t).getD i noTh).fI = true; rw [hg, jn hiq]; exact hb);have h3 : x < ((kAY M.fA q t).getD i noTh).fJ ∨ ((kAY M.fA q t).getD i noTh).fJ + lenN ((kAY M.fA q t).getD i noTh).fB.length ((kAY M.fA q t).getD i noTh).fmt ≤ x := this;rw [hg, jn hiq] at h3;exact h3
   ·have := hc q (by show q < (kAY M.fA q t).length; omega) (by show ((kAY M.fA q t).getD q noTh).fI = true; rw [hg, jp rfl]; exact t1);have h3 : x < ((kAY M.fA q t).getD q noTh).fJ ∨ ((kAY M.fA q t).getD q noTh).fJ + lenN ((kAY M.fA q t).getD q noTh).fB.length ((kAY M.fA q t).getD q noTh).fmt ≤ x := this;rw [hg, jp rfl, t4, t6, t3] at h3;omega
  bit := fun j => by
   show ((kBB H.bits (q + 1)).getD (j / 64) 0).testBit (j % 64) = ((kAY M.fA q t).getD j noTh).fI;rw [kEe H.bits (q + 1) j (by omega), hg, jAJ]
   split
   ·exact t1.symm
   ·exact h.bit j
  low := fun i hi => by
   have hi2 : i < k := hi;show (kBB H.bits (q + 1)).getD i 0 = full
   have hb : H.bits.getD i 0 = full := by
    by_cases hl : i < H.low
    ·exact h.low i hl
    ·exact hk.ful i (by omega) hi2
   have h1 := kCz H.bits (q + 1) h.safe.bits i;rw [kCO] at h1 ⊢
   split
   ·rw [jp (by assumption)] at h1;have := Nat.left_le_or (n := H.bits.getD i 0) (m := 2 ^ ((q + 1 - 1) % 64));omega
   ·exact hb
  model := ⟨by show ((kAY M.fA q t).length : Int) ≤ 65538; have := h.model.len; omega, fun i hi => by
    show (((kAY M.fA q t).getD i noTh).fB.length : Int) ≤ 8192;rw [hg]
    split
    ·rw [t6]; omega
    ·rename_i e; exact h.model.fB i (hin i hi e), fun i hi => by
    show (((kAY M.fA q t).getD i noTh).fJ : Int) ≤ 1048576;rw [hg]
    split
    ·rw [t4]; have := h.room; omega
    ·rename_i e; exact h.model.fJ i (hin i hi e)⟩
  deep := fun j hj hne => by
   rw [hO] at hj hne ⊢;rw [hOg] at hne ⊢
   by_cases e : j = H.fC.length
   ·rw [jp e, hS, jp rfl];show 2 * j ≤ H.mem.length;omega
   ·rw [jn e] at hne ⊢
    simp at hj
    obtain ⟨o1, o2, o3⟩ := h.fC j (by omega) hne
    have hne2 : H.fC.getD j 0 ≠ q + 1 := fun e2 => by
     rw [e2, jAJ, hfree.1] at o2
     simp at o2
    rw [hS, jn hne2];exact h.deep j (by omega) hne
  most := by show (kAY M.fA q t).length ≤ M.fM; omega
  room := h.room }
theorem Inv.apart (h : Inv H M) (i j : Nat) (hi : i < M.fA.length) (hj : j < M.fA.length) (bi : (M.fA.getD i noTh).fI = true) (bj : (M.fA.getD j noTh).fI = true) (hne : i ≠ j) :
  (M.fA.getD i noTh).fJ + lenN (M.fA.getD i noTh).fB.length (M.fA.getD i noTh).fmt ≤ (M.fA.getD j noTh).fJ ∨ (M.fA.getD j noTh).fJ + lenN (M.fA.getD j noTh).fB.length (M.fA.getD j noTh).fmt ≤ (M.fA.getD i noTh).fJ := by
 obtain ⟨a1, a2⟩ := h.fO i hi bi;obtain ⟨b1, b2⟩ := h.fO j hj bj;obtain ⟨s1, s2⟩ := h.seat i hi bi;obtain ⟨s3, s4⟩ := h.seat j hj bj;generalize (H.fD.getD (i + 1) (0, 0, 0)).2.2 = x at *;generalize (H.fD.getD (j + 1) (0, 0, 0)).2.2 = y at *;rcases jBf x y with e | e | e
 ·have := h.rise x y e b1 (by omega) (by omega);rw [a2, b2] at this;omega
 ·subst e; omega
 ·have := h.rise y x e a1 (by omega) (by omega);rw [a2, b2] at this;omega
theorem kIH (S T : List Th) : ∀ k, (∀ j, j < k → (S.getD j noTh).fI = (T.getD j noTh).fI ∧ (S.getD j noTh).fJ = (T.getD j noTh).fJ ∧ (S.getD j noTh).fB.length = (T.getD j noTh).fB.length ∧ (S.getD j noTh).fmt = (T.getD j noTh).fmt) → kAp S k = kAp T k := by
 intro k
 induction k with
 | zero => intro _; rfl
 | succ k ih =>
  intro h;obtain ⟨h1, h2, h3, h4⟩ := h k (by omega);rw [kBh, kBh, ih fun j hj => h j (by omega), h1, h2, h3, h4]
theorem Inv.poke (h : Inv H M) (k : Nat) (hk : k < M.fA.length) (hb : (M.fA.getD k noTh).fI = true) (mem : List Int) (hl : mem.length = H.mem.length) (t : Th) 
  (t1 : t.fI = true) (t2 : t.fJ = (M.fA.getD k noTh).fJ) (t3 : t.fmt = (M.fA.getD k noTh).fmt) (t4 : t.fB.length = (M.fA.getD k noTh).fB.length) (hI : Is { H with mem := mem } (k + 1) t)
  (hm : ∀ x, x < (M.fA.getD k noTh).fJ ∨ (M.fA.getD k noTh).fJ + lenN (M.fA.getD k noTh).fB.length (M.fA.getD k noTh).fmt ≤ x → mem.getD x 0 = H.mem.getD x 0) :
  Inv { H with mem := mem } { M with fA := M.fA.set k t } := by
 have hg := fun i => kAX M.fA k i t hk
 have hgl : (M.fA.set k t).length = M.fA.length := jAL ..
 have ha : ∀ i, ((M.fA.set k t).getD i noTh).fI = (M.fA.getD i noTh).fI ∧ ((M.fA.set k t).getD i noTh).fJ = (M.fA.getD i noTh).fJ ∧ ((M.fA.set k t).getD i noTh).fB.length = (M.fA.getD i noTh).fB.length ∧ ((M.fA.set k t).getD i noTh).fmt = (M.fA.getD i noTh).fmt := fun i => by
  rw [hg i]
  split
  ·rename_i e; rw [e, t1, hb]; exact ⟨rfl, t2, t4, t3⟩
  ·exact ⟨rfl, rfl, rfl, rfl⟩
 have hsm := h.safe.small
 exact {
  safe := ⟨⟨hsm.fH, hsm.fM, by show (mem.length : Int) ≤ _; rw [hl]; exact hsm.mem, hsm.count, hsm.mark⟩, h.safe.low, h.safe.bl, h.safe.bits, h.safe.fD, h.safe.fC⟩
  fH := h.fH
  fM := h.fM
  mark := h.mark
  len := by show H.fD.length ≤ (M.fA.set k t).length + 1; rw [hgl]; exact h.len
  seat0 := h.seat0
  fI := fun i hi => by show (((M.fA.set k t).getD i noTh).fI = true ↔ _); rw [(ha i).1]; exact h.fI i (by rw [← hgl]; exact hi)
  seat := fun i hi hbi => by
   have hb2 : ((M.fA.set k t).getD i noTh).fI = true := hbi;show _ = ((M.fA.set k t).getD i noTh).fJ ∧ _ = lenN ((M.fA.set k t).getD i noTh).fB.length ((M.fA.set k t).getD i noTh).fmt;rw [(ha i).1] at hb2;rw [(ha i).2.1, (ha i).2.2.1, (ha i).2.2.2];exact h.seat i (by rw [← hgl]; exact hi) hb2
  is := fun i hi hbi => by
   have hb2 : ((M.fA.set k t).getD i noTh).fI = true := hbi;have hi2 : i < M.fA.length := by rw [← hgl]; exact hi
   rw [(ha i).1] at hb2;show Is _ (i + 1) ((M.fA.set k t).getD i noTh);rw [hg i]
   by_cases e : i = k
   ·rw [jp e, e]; exact hI
   ·rw [jn e];have hIs := h.is i hi2 hb2;have hap := h.apart i k hi2 hk hb2 hb e;obtain ⟨s1, s2⟩ := h.seat i hi2 hb2;exact hIs.same rfl (by have := (kAk hIs.has).2.1; show i + 1 < H.fD.length; omega) (by show _ ≤ mem.length; rw [hl]; exact hIs.room) (fun x h1 h2 => hm x (by omega))
  count := by show H.count = kAG (M.fA.set k t) (M.fA.set k t).length; rw [h.count, hgl]; exact kCE _ _ _ (fun j _ => (ha j).1.symm) (jAD _) (by rw [hgl]; exact jAD _)
  fin := by show mem.length = kAp (M.fA.set k t) (M.fA.set k t).length; rw [hl, h.fin, hgl]; exact (kIH _ _ _ fun j _ => ha j).symm
  fO := fun i hi hbi => by
   have hb2 : ((M.fA.set k t).getD i noTh).fI = true := hbi;rw [(ha i).1] at hb2;exact h.fO i (by rw [← hgl]; exact hi) hb2
  fC := fun j hj hne => by
   show _ ≤ (M.fA.set k t).length ∧ ((M.fA.set k t).getD _ noTh).fI = true ∧ _;rw [hgl, (ha _).1];exact h.fC j hj hne
  rise := h.rise
  last := h.last
  gaps := fun x hx hc => by
   have hx2 : x < H.mem.length := by rw [← hl]; exact hx
   have hc2 : ∀ i, i < M.fA.length → (M.fA.getD i noTh).fI = true → x < (M.fA.getD i noTh).fJ ∨ (M.fA.getD i noTh).fJ + lenN (M.fA.getD i noTh).fB.length (M.fA.getD i noTh).fmt ≤ x := fun i hi hbi => by
    have h3 : x < ((M.fA.set k t).getD i noTh).fJ ∨ ((M.fA.set k t).getD i noTh).fJ + lenN ((M.fA.set k t).getD i noTh).fB.length ((M.fA.set k t).getD i noTh).fmt ≤ x := hc i (by show i < (M.fA.set k t).length; rw [hgl]; exact hi) (by show ((M.fA.set k t).getD i noTh).fI = true; rw [(ha i).1]; exact hbi);rw [(ha i).2.1, (ha i).2.2.1, (ha i).2.2.2] at h3;exact h3
   show mem.getD x 0 = 0;rw [hm x (hc2 k hk hb)];exact h.gaps x hx2 hc2
  bit := fun j => by show _ = ((M.fA.set k t).getD j noTh).fI; rw [(ha j).1]; exact h.bit j
  low := h.low
  model := ⟨by show ((M.fA.set k t).length : Int) ≤ _; rw [hgl]; exact h.model.len, fun i hi => by
    show (((M.fA.set k t).getD i noTh).fB.length : Int) ≤ 8192;rw [(ha i).2.2.1]; exact h.model.fB i (by rw [← hgl]; exact hi), fun i hi => by
    show (((M.fA.set k t).getD i noTh).fJ : Int) ≤ 1048576;rw [(ha i).2.1]; exact h.model.fJ i (by rw [← hgl]; exact hi)⟩
  deep := h.deep
  most := by show (M.fA.set k t).length ≤ M.fM; rw [hgl]; exact h.most
  room := h.room }
def sw (x y k : Nat) : Nat := if k = x then y else if k = y then x else k
theorem kJL (x y k : Nat) : sw x y (sw x y k) = k := by unfold sw; (repeat' split) <;> omega
def sw1 (x y o : Nat) : Nat := if o = x + 1 then y + 1 else if o = y + 1 then x + 1 else o
theorem kDC (x y k : Nat) : sw1 x y (k + 1) = sw x y k + 1 := by unfold sw1 sw; (repeat' split) <;> omega
theorem kFm (x y o : Nat) : sw1 x y (sw1 x y o) = o := by unfold sw1; (repeat' split) <;> omega
theorem kDa (x y o : Nat) : sw1 x y o = 0 ↔ o = 0 := by unfold sw1; (repeat' split) <;> omega
theorem kLi (S : List (Nat × Nat × Nat)) (x y o : Nat) (hx : x + 1 < S.length) (hy : y + 1 < S.length) : ((S.set (x + 1) (S.getD (y + 1) (0, 0, 0))).set (y + 1) (S.getD (x + 1) (0, 0, 0))).getD o (0, 0, 0) = S.getD (sw1 x y o) (0, 0, 0) := by
 rw [jAA, jAh, jAh, jAL];unfold sw1
 by_cases h1 : o = y + 1
 ·rw [jp h1.symm, jp (by omega)]
  by_cases h2 : o = x + 1
  ·rw [jp h2, show y = x from by omega]; rfl
  ·rw [jn h2, jp h1]; rfl
 ·rw [jn (fun e => h1 e.symm)]
  by_cases h2 : o = x + 1
  ·rw [jp h2.symm, jp (by omega), jp h2]; rfl
  ·rw [jn (fun e => h2 e.symm), jn h2, jn h1, jAA]
theorem kOm (S : List Th) (x y k : Nat) (hx : x < S.length) (hy : y < S.length) : ((S.set x (S.getD y noTh)).set y (S.getD x noTh)).getD k noTh = S.getD (sw x y k) noTh := by
 rw [kAX _ _ _ _ (by rw [jAL]; exact hy), kAX _ _ _ _ hx];unfold sw
 by_cases h1 : k = y
 ·rw [jp h1]
  by_cases h2 : k = x
  ·rw [jp h2, show y = x from by omega]
  ·rw [jn h2, jp h1]
 ·rw [jn h1]
  by_cases h2 : k = x
  ·rw [jp h2, jp h2]
  ·rw [jn h2, jn h2, jn h1]
theorem kMN {x y k n : Nat} (hx : x < n) (hy : y < n) (hk : k < n) : sw x y k < n := by unfold sw; (repeat' split) <;> omega
theorem Inv.exch (h : Inv H M) (x y : Nat) (hx : x < M.fA.length) (hy : y < M.fA.length) (bx : (M.fA.getD x noTh).fI = true) (by_ : (M.fA.getD y noTh).fI = true) :
  Inv (kDp H (x + 1) (y + 1)) { M with fA := (M.fA.set x (M.fA.getD y noTh)).set y (M.fA.getD x noTh) } := by
 have hLx := h.seatIn x hx bx;have hLy := h.seatIn y hy by_;have hS : ∀ o, (kDp H (x + 1) (y + 1)).fD.getD o (0, 0, 0) = H.fD.getD (sw1 x y o) (0, 0, 0) := fun o => kLi H.fD x y o (by omega) (by omega)
 have hSl : (kDp H (x + 1) (y + 1)).fD.length = H.fD.length := by show ((H.fD.set _ _).set _ _).length = _; rw [jAL, jAL]
 have hg : ∀ k, ((M.fA.set x (M.fA.getD y noTh)).set y (M.fA.getD x noTh)).getD k noTh = M.fA.getD (sw x y k) noTh := fun k => kOm M.fA x y k hx hy
 have hgl : ((M.fA.set x (M.fA.getD y noTh)).set y (M.fA.getD x noTh)).length = M.fA.length := by rw [jAL, jAL]
 generalize ((M.fA.set x (M.fA.getD y noTh)).set y (M.fA.getD x noTh)) = T at *
 have hth : ∀ k, (T.getD k noTh).fI = (M.fA.getD k noTh).fI := fun k => by
  rw [hg k]; unfold sw
  split
  ·rename_i e; rw [e, bx, by_]
  ·split
   ·rename_i e; rw [e, bx, by_]
   ·rfl
 obtain ⟨a1, a2⟩ := h.fO x hx bx;obtain ⟨b1, b2⟩ := h.fO y hy by_;have hOl : (kDp H (x + 1) (y + 1)).fC.length = H.fC.length := by show ((H.fC.set _ _).set _ _).length = _; rw [jAL, jAL]
 have hO : ∀ r, (kDp H (x + 1) (y + 1)).fC.getD r 0 = sw1 x y (H.fC.getD r 0) := fun r => by
  show ((H.fC.set (H.fD.getD (y + 1) (0, 0, 0)).2.2 (x + 1)).set (H.fD.getD (x + 1) (0, 0, 0)).2.2 (y + 1)).getD r 0 = _;rw [jAA, jAh, jAh, jAL]
  by_cases h1 : (H.fD.getD (x + 1) (0, 0, 0)).2.2 = r
  ·rw [jp h1, jp (by omega), ← h1, a2]; unfold sw1; rw [jp rfl]; rfl
  ·rw [jn h1]
   by_cases h2 : (H.fD.getD (y + 1) (0, 0, 0)).2.2 = r
   ·rw [jp h2, jp (by omega), ← h2, b2]; unfold sw1
    split
    ·rename_i e; rw [e]; rfl
    ·rw [jp rfl]; rfl
   ·rw [jn h2, ← jAA];unfold sw1
    by_cases hr : r < H.fC.length
    ·by_cases h0 : H.fC.getD r 0 = 0
     ·rw [h0, jn (by omega), jn (by omega)]
     ·obtain ⟨o1, o2, o3⟩ := h.fC r hr h0;rw [jn (fun e => h1 (by rw [← e]; exact o3)), jn (fun e => h2 (by rw [← e]; exact o3))]
    ·rw [jAA, jAM (by omega)]
     simp
 have hsm := h.safe.small;have hback : ∀ k, k < T.length → sw x y k < M.fA.length := fun k hk => kMN hx hy (by omega)
 exact {
  safe := ⟨⟨hsm.fH, hsm.fM, hsm.mem, hsm.count, hsm.mark⟩, h.safe.low, h.safe.bl, h.safe.bits, by rw [hSl]; exact h.safe.fD, by rw [hOl]; exact h.safe.fC⟩
  fH := h.fH
  fM := h.fM
  mark := h.mark
  len := by rw [hSl]; show _ ≤ T.length + 1; rw [hgl]; exact h.len
  seat0 := by rw [hS]; exact h.seat0
  fI := fun k hk => by show ((T.getD k noTh).fI = true ↔ _); rw [hS, kDC, hg]; exact h.fI _ (hback k hk)
  seat := fun k hk hb => by
   have hb2 : (T.getD k noTh).fI = true := hb;show _ = (T.getD k noTh).fJ ∧ _ = lenN (T.getD k noTh).fB.length (T.getD k noTh).fmt;rw [hg] at hb2 ⊢;rw [hS, kDC];exact h.seat _ (hback k hk) hb2
  is := fun k hk hb => by
   have hb2 : (T.getD k noTh).fI = true := hb;show Is _ (k + 1) (T.getD k noTh);rw [hg] at hb2 ⊢;have hI := h.is _ (hback k hk) hb2;have e : (kDp H (x + 1) (y + 1)).fD.getD (k + 1) (0, 0, 0) = H.fD.getD (sw x y k + 1) (0, 0, 0) := by rw [hS, kDC]
   obtain ⟨c1, c2, c3⟩ := kAk hI.has;have hk2 : k < T.length := hk;have hsk := h.seatIn k (by omega) (by rw [← hth k]; exact hb);refine ⟨decide_eq_true ⟨by omega, by rw [hSl]; omega, by simp only [jAj]; rw [e]; exact c3⟩, by rw [e]; exact hI.room, by rw [e]; exact hI.cls, by rw [e]; exact hI.shape, hI.fmt, hI.len, by rw [e]; exact hI.word, by rw [e]; exact hI.byte⟩
  count := by show H.count = kAG T T.length; rw [h.count, hgl]; exact kCE _ _ _ (fun j _ => (hth j).symm) (jAD _) (by omega)
  fin := by
   show H.mem.length = kAp T T.length;refine (kCY T _ _ (fun j hj hb => ?_) ?_).symm
   ·rw [hg] at hb ⊢;rw [h.fin];exact kEX M.fA _ _ (hback j hj) hb
   ·have hlast : H.fC.length ≠ 0 := by omega
    obtain ⟨r, hr⟩ : ∃ r, H.fC.length = r + 1 := ⟨H.fC.length - 1, by omega⟩
    have hE : ∀ k, k ≤ M.fA.length → kAp M.fA k = 0 ∨ ∃ j, j < k ∧ (M.fA.getD j noTh).fI = true ∧ (M.fA.getD j noTh).fJ + lenN (M.fA.getD j noTh).fB.length (M.fA.getD j noTh).fmt = kAp M.fA k := by
     intro k
     induction k with
     | zero => intro _; exact .inl rfl
     | succ k ih =>
      intro hk;rw [kBh]
      split
      ·rename_i hc; exact .inr ⟨k, by omega, hc.1, rfl⟩
      ·rcases ih (by omega) with e | ⟨j, j1, j2⟩
       ·exact .inl e
       ·exact .inr ⟨j, by omega, j2⟩
    rcases hE M.fA.length (jAD _) with e | ⟨j, j1, j2, j3⟩
    ·exact .inl (by rw [h.fin]; exact e)
    ·refine .inr ⟨sw x y j, by rw [hgl]; exact kMN hx hy j1, ?_, ?_⟩
     ·rw [hg, kJL]; exact j2
     ·rw [hg, kJL, j3, h.fin]
  fO := fun k hk hb => by
   have hb2 : (T.getD k noTh).fI = true := hb;rw [hg] at hb2;rw [hS, kDC, hOl, hO];obtain ⟨c1, c2⟩ := h.fO _ (hback k hk) hb2;rw [c2, kDC, kJL];exact ⟨c1, rfl⟩
  fC := fun r hr hne => by
   rw [hOl] at hr;rw [hO] at hne ⊢;have h0 : H.fC.getD r 0 ≠ 0 := fun e => hne ((kDa _ _ _).2 e)
   obtain ⟨o1, o2, o3⟩ := h.fC r hr h0;obtain ⟨o, ho⟩ : ∃ o, H.fC.getD r 0 = o + 1 := ⟨H.fC.getD r 0 - 1, by omega⟩
   rw [ho] at o1 o2 o3 ⊢;rw [hS, kFm, kDC, jAJ];show _ ≤ T.length ∧ (T.getD _ noTh).fI = true ∧ _;rw [hg, kJL];refine ⟨?_, by simpa using o2, o3⟩;have := kMN hx hy (show o < M.fA.length by omega);omega
  rise := fun i j hij hj hi0 hj0 => by
   rw [hOl] at hj;rw [hO] at hi0 hj0;rw [hO, hO, hS, hS, kFm, kFm];exact h.rise i j hij hj (fun e => hi0 ((kDa _ _ _).2 e)) (fun e => hj0 ((kDa _ _ _).2 e))
  last := fun j hj => by
   rw [hOl] at hj;rw [hO];exact fun e => h.last j hj ((kDa _ _ _).1 e)
  gaps := fun q hq hc => by
   refine h.gaps q hq (fun k hk hb => ?_);have h3 : q < (T.getD (sw x y k) noTh).fJ ∨ (T.getD (sw x y k) noTh).fJ + lenN (T.getD (sw x y k) noTh).fB.length (T.getD (sw x y k) noTh).fmt ≤ q := hc (sw x y k) (by show _ < T.length; rw [hgl]; exact kMN hx hy hk) (by show (T.getD (sw x y k) noTh).fI = true; rw [hg, kJL]; exact hb);rw [hg, kJL] at h3;exact h3
  bit := fun k => by show _ = (T.getD k noTh).fI; rw [hth]; exact h.bit k
  low := h.low
  model := ⟨by show (T.length : Int) ≤ _; rw [hgl]; exact h.model.len, fun k hk => by show ((T.getD k noTh).fB.length : Int) ≤ _; rw [hg]; exact h.model.fB _ (hback k hk), fun k hk => by show ((T.getD k noTh).fJ : Int) ≤ _; rw [hg]; exact h.model.fJ _ (hback k hk)⟩
  deep := fun j hj hne => by
   rw [hOl] at hj;rw [hO] at hne;rw [hO, hS, kFm];exact h.deep j hj (fun e => hne ((kDa _ _ _).2 e))
  most := by show T.length ≤ M.fM; rw [hgl]; exact h.most
  room := h.room }
def gone (t : Th) : Th := { t with fI := false }
theorem kCu (bits : List Nat) (k i : Nat) (h : k / 64 < bits.length) : (kBz bits (k + 1)).getD i 0 = if i = k / 64 then bits.getD i 0 &&& (full - 2 ^ (k % 64)) else bits.getD i 0 := by
 unfold kBz;rw [jAJ, jAA, jAh]
 by_cases e : k / 64 = i
 ·rw [jp e, jp e.symm, jp (by omega), e]; rfl
 ·rw [jn e, jn (fun e2 => e e2.symm), jAA]
theorem kIC (bits : List Nat) (k j : Nat) (h : k / 64 < bits.length) : ((kBz bits (k + 1)).getD (j / 64) 0).testBit (j % 64) = (if j = k then false else (bits.getD (j / 64) 0).testBit (j % 64)) := by
 rw [kCu bits k _ h]
 by_cases e : j / 64 = k / 64
 ·have hp : 2 ^ (k % 64) ≤ full := by
   have : 2 ^ (k % 64) < 2 ^ 64 := jBg (by omega) (by omega);unfold full; omega
  rw [jp e, Nat.testBit_and, kFz _ _ hp (by omega), Nat.testBit_two_pow]
  by_cases e2 : j = k
  ·rw [jp e2, e2]; simp
  ·rw [jn e2];have : ¬ k % 64 = j % 64 := by omega
   simp [this]
 ·rw [jn e, jn (fun e2 => e (by rw [e2]))]
theorem kJD (bits : List Nat) (k i : Nat) (h : k / 64 < bits.length) (hb : ∀ i, bits.getD i 0 ≤ full) : (kBz bits (k + 1)).getD i 0 ≤ full := by
 rw [kCu bits k i h]
 split
 ·exact jAU Nat.and_le_left (hb i)
 ·exact hb i
theorem kEJ (S : List Th) (k : Nat) (hk : k < S.length) (hb : (S.getD k noTh).fI = true) : kAG (S.set k (gone (S.getD k noTh))) S.length + 1 = kAG S S.length := by
 have hg := fun i => kAX S k i (gone (S.getD k noTh)) hk
 have hl : (S.set k (gone (S.getD k noTh))).length = S.length := jAL ..;have hlow : ∀ n, n ≤ k → kAG (S.set k (gone (S.getD k noTh))) n = kAG S n := fun n hn => kCE _ _ n (fun j hj => by rw [hg j, jn (by omega)]) (by omega) (by omega)
 have hup : ∀ n, k + 1 ≤ n → n ≤ S.length → kAG (S.set k (gone (S.getD k noTh))) n + 1 = kAG S n := by
  intro n
  induction n with
  | zero => intro h; omega
  | succ n ih =>
   intro h1 h2;rw [kAN S n (by omega), kAN _ n (by omega), hg n]
   by_cases e : n = k
   ·rw [jp e, hlow n (by omega), e, hb]; simp [gone]
   ·rw [jn e];have := ih (by omega) (by omega);omega
 exact hup S.length (by omega) (jAD _)
end Go.Proofs.YtflgicdbbogllaaGreatDoor
