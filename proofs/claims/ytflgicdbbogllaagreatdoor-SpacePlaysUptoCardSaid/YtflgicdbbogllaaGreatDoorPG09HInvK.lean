import Derived.Test.YtflgicdbbogllaaGreatDoorPG08HInvF
set_option linter.unusedSimpArgs false
set_option linter.unusedVariables false
namespace Go.Proofs.YtflgicdbbogllaaGreatDoor
open Go.RowKit Tryz
open Value (int)
open IntKind (i64)
attribute [local go_sem ↓] wp_at_zero wp_at_succ
variable {H : HS} {M : MS} {T : List Th} {k : Nat} {x : Sl}
theorem InvV.apart (h : InvV H M) (i j : Nat) (hi : i < M.fA.length) (hj : j < M.fA.length) (bi : (M.fA.getD i noTh).fI = true) (bj : (M.fA.getD j noTh).fI = true) (hne : i ≠ j) :
  (M.fA.getD i noTh).fJ + lenN (M.fA.getD i noTh).fB.length (M.fA.getD i noTh).fmt ≤ (M.fA.getD j noTh).fJ ∨ (M.fA.getD j noTh).fJ + lenN (M.fA.getD j noTh).fB.length (M.fA.getD j noTh).fmt ≤ (M.fA.getD i noTh).fJ := by
 obtain ⟨a1, a2⟩ := h.fO i hi bi;obtain ⟨b1, b2⟩ := h.fO j hj bj;obtain ⟨s1, s2⟩ := h.seat i hi bi;obtain ⟨s3, s4⟩ := h.seat j hj bj;generalize (H.fD.getD (i + 1) (0, 0, 0)).2.2 = x at *;generalize (H.fD.getD (j + 1) (0, 0, 0)).2.2 = y at *;rcases jBf x y with e | e | e
 ·have := h.rise x y e b1 (by omega) (by omega);rw [a2, b2] at this;omega
 ·subst e; omega
 ·have := h.rise y x e a1 (by omega) (by omega);rw [a2, b2] at this;omega
theorem kIE (L : List Int) (off n x : Nat) (h : off + n ≤ L.length) : (splice L off (List.replicate n 0)).getD x 0 = if off ≤ x ∧ x < off + n then 0 else L.getD x 0 := by
 unfold splice;rw [jAA, jAA]
 by_cases h1 : x < off
 ·rw [jAK (by simp; omega), jn (by omega), jAx, jp h1]
 ·rw [jAI (by simp; omega)];have e : (List.take off L).length = off := by simp; omega
  rw [e]
  by_cases h2 : x < off + n
  ·rw [jAK (by simp; omega), jp (by omega), jAo, jp (by omega)]; rfl
  ·rw [jAI (by simp; omega), jn (by omega), jAY, jBp, show off + n + (x - off - n) = x from by omega]
theorem InvV.bitIn (h : InvV H M) (k : Nat) (hb : (M.fA.getD k noTh).fI = true) : k / 64 < H.bits.length := by
 by_cases hl : k / 64 < H.bits.length
 ·exact hl
 ·have := h.bit k;rw [hb, jAA, jAM (by omega)] at this
  simp at this
theorem InvV.vacOk (h : InvV H M) (k : Nat) (hk : k < M.fA.length) (hb : (M.fA.getD k noTh).fI = true) : kKh H (k + 1) := by
 have hL := h.seatIn k hk hb;have hI := h.is k hk hb;obtain ⟨s1, s2⟩ := h.seat k hk hb;have h2 := kAR (M.fA.getD k noTh).fB.length (M.fA.getD k noTh).fmt;have hc := kJJ M.fA k hk hb;have hm := h.model.len;have ho := h.safe.small.fM;have hcc := h.safe.small.count;have hmo := h.most;have hoo := h.fM;exact ⟨by omega, by omega, by omega, by omega, by rw [s2]; exact hI.room, (h.fO k hk hb).1, by rw [jAJ]; exact h.bitIn k hb, h.safe.bits, by rw [h.count]; omega, by omega, by have := h.safe.low; have := h.safe.bl; omega, by have := h.safe.small.mem; have := h.safe.small.fH; omega, by have := h.safe.fC; omega, by have := h.safe.fD; omega⟩
theorem InvV.vac (h : InvV H M) (k : Nat) (hk : k < M.fA.length) (hb : (M.fA.getD k noTh).fI = true) : InvV (vacH H (k + 1)) { M with fA := M.fA.set k (gone (M.fA.getD k noTh)) } := by
 have hL := h.seatIn k hk hb;have hbi := h.bitIn k hb;have hI := h.is k hk hb;have hrm := hI.room;obtain ⟨s1, s2⟩ := h.seat k hk hb;obtain ⟨u1, u2⟩ := h.fO k hk hb;have hg := fun i => kAX M.fA k i (gone (M.fA.getD k noTh)) hk
 have hgl : (M.fA.set k (gone (M.fA.getD k noTh))).length = M.fA.length := jAL ..;have hcount := kEJ M.fA k hk hb;generalize hTe : M.fA.set k (gone (M.fA.getD k noTh)) = T at *
 have hS : ∀ o, (vacH H (k + 1)).fD.getD o (0, 0, 0) = if o = k + 1 then (0, 0, 0) else H.fD.getD o (0, 0, 0) := fun o => by
  show (H.fD.set (k + 1) (0, 0, 0)).getD o (0, 0, 0) = _;rw [jAA, jAh]
  by_cases e : k + 1 = o
  ·rw [jp e, jp e.symm, jp (by omega)]; rfl
  ·rw [jn e, jn (fun e2 => e e2.symm), jAA]
 have hSl : (vacH H (k + 1)).fD.length = H.fD.length := by show (H.fD.set _ _).length = _; rw [jAL]
 have hO : ∀ r, (vacH H (k + 1)).fC.getD r 0 = if r = (H.fD.getD (k + 1) (0, 0, 0)).2.2 then 0 else H.fC.getD r 0 := fun r => by
  show (H.fC.set (H.fD.getD (k + 1) (0, 0, 0)).2.2 0).getD r 0 = _;rw [jAA, jAh]
  by_cases e : (H.fD.getD (k + 1) (0, 0, 0)).2.2 = r
  ·rw [jp e, jp e.symm, jp (by omega)]; rfl
  ·rw [jn e, jn (fun e2 => e e2.symm), jAA]
 have hOl : (vacH H (k + 1)).fC.length = H.fC.length := by show (H.fC.set _ _).length = _; rw [jAL]
 have hM : ∀ x, (vacH H (k + 1)).mem.getD x 0 = if (M.fA.getD k noTh).fJ ≤ x ∧ x < (M.fA.getD k noTh).fJ + lenN (M.fA.getD k noTh).fB.length (M.fA.getD k noTh).fmt then 0 else H.mem.getD x 0 := fun x => by
  show (splice H.mem (H.fD.getD (k + 1) (0, 0, 0)).1 (List.replicate (H.fD.getD (k + 1) (0, 0, 0)).2.1 0)).getD x 0 = _;rw [kIE _ _ _ _ (by omega), s1, s2]
 have hMl : (vacH H (k + 1)).mem.length = H.mem.length := by
  show (splice H.mem _ (List.replicate _ 0)).length = _;exact length_splice _ _ _ (by rw [jAY]; omega)
 have hin : ∀ i, (T.getD i noTh).fI = true → i ≠ k ∧ (M.fA.getD i noTh).fI = true ∧ T.getD i noTh = M.fA.getD i noTh := fun i hbi => by
  rw [hg i] at hbi ⊢
  by_cases e : i = k
  ·rw [jp e] at hbi; simp [gone] at hbi
  ·rw [jn e] at hbi ⊢; exact ⟨e, hbi, rfl⟩
 have hord : ∀ r, r < H.fC.length → (if r = (H.fD.getD (k + 1) (0, 0, 0)).2.2 then 0 else H.fC.getD r 0) ≠ 0 → r ≠ (H.fD.getD (k + 1) (0, 0, 0)).2.2 ∧ H.fC.getD r 0 ≠ 0 ∧ H.fC.getD r 0 ≠ k + 1 := fun r hr hne => by
  by_cases e : r = (H.fD.getD (k + 1) (0, 0, 0)).2.2
  ·rw [jp e] at hne; exact absurd rfl hne
  ·rw [jn e] at hne;refine ⟨e, hne, fun e2 => e ?_⟩;have := (h.fC r hr hne).2.2;rw [e2] at this;exact this.symm
 have hsm := h.safe.small;have hlow := h.safe.low
 exact {
  safe := ⟨⟨hsm.fH, hsm.fM, by rw [hMl]; exact hsm.mem, by show ((H.count - 1 : Nat) : Int) ≤ (H.fM : Int); have := hsm.count; omega, hsm.mark⟩,
   by show min H.low ((k + 1 - 1) / 64) ≤ (kBz H.bits (k + 1)).length; unfold kBz; rw [jAL]; omega,
   by show ((kBz H.bits (k + 1)).length : Int) ≤ 1024; unfold kBz; rw [jAL]; exact h.safe.bl,
   fun i => kJD H.bits k i hbi h.safe.bits, by rw [hSl]; exact h.safe.fD, by rw [hOl]; exact h.safe.fC⟩
  fH := h.fH
  fM := h.fM
  mark := h.mark
  len := by rw [hSl]; show _ ≤ T.length + 1; rw [hgl]; exact h.len
  seat0 := by rw [hS, jn (by omega)]; exact h.seat0
  fI := fun i hi => by
   have hi2 : i < M.fA.length := by rw [← hgl]; exact hi
   show ((T.getD i noTh).fI = true ↔ _);rw [hS, hg i]
   by_cases e : i = k
   ·rw [jp e, jp (by omega)]; simp [gone]
   ·rw [jn e, jn (by omega)]; exact h.fI i hi2
  seat := fun i hi hb2 => by
   obtain ⟨e1, e2, e3⟩ := hin i hb2;show _ = (T.getD i noTh).fJ ∧ _ = lenN (T.getD i noTh).fB.length (T.getD i noTh).fmt;rw [e3, hS, jn (by omega)];exact h.seat i (by rw [← hgl]; exact hi) e2
  is := fun i hi hb2 => by
   obtain ⟨e1, e2, e3⟩ := hin i hb2;have hi2 : i < M.fA.length := by rw [← hgl]; exact hi
   show Is _ (i + 1) (T.getD i noTh);rw [e3];have hIs := h.is i hi2 e2;have hap := h.apart i k hi2 hk e2 hb e1;obtain ⟨v1, v2⟩ := h.seat i hi2 e2;have hsi := h.seatIn i hi2 e2;exact hIs.same (by rw [hS, jn (by omega)]) (by rw [hSl]; omega) (by rw [hMl]; exact hIs.room) (fun x h1 h2 => by rw [hM, jn (by omega)])
  count := by show H.count - 1 = kAG T T.length; rw [hgl, h.count]; omega
  fO := fun i hi hb2 => by
   obtain ⟨e1, e2, e3⟩ := hin i hb2;obtain ⟨v1, v2⟩ := h.fO i (by rw [← hgl]; exact hi) e2;rw [hS, jn (by omega), hO, hOl];rw [jn (fun e => by rw [e, u2] at v2; omega)];exact ⟨v1, v2⟩
  fC := fun r hr hne => by
   rw [hOl] at hr;rw [hO] at hne ⊢;obtain ⟨e1, e2, e3⟩ := hord r hr hne;rw [jn e1, hS, jn e3];obtain ⟨o1, o2, o3⟩ := h.fC r hr e2;show _ ≤ T.length ∧ (T.getD _ noTh).fI = true ∧ _;rw [hgl, hg, jn (by omega)];exact ⟨o1, o2, o3⟩
  rise := fun i j hij hj hi0 hj0 => by
   rw [hOl] at hj;rw [hO] at hi0 hj0;obtain ⟨e1, e2, e3⟩ := hord i (by omega) hi0;obtain ⟨d1, d2, d3⟩ := hord j hj hj0;rw [hO, hO, jn e1, jn d1, hS, hS, jn e3, jn d3];exact h.rise i j hij hj e2 d2
  gaps := fun x hx hc => by
   rw [hMl] at hx;rw [hM]
   split
   ·rfl
   ·rename_i hns
    refine h.gaps x hx (fun i hi hb2 => ?_)
    by_cases e : i = k
    ·rw [e]; omega
    ·have h3 : x < (T.getD i noTh).fJ ∨ (T.getD i noTh).fJ + lenN (T.getD i noTh).fB.length (T.getD i noTh).fmt ≤ x := hc i (by show i < T.length; rw [hgl]; exact hi) (by show (T.getD i noTh).fI = true; rw [hg, jn e]; exact hb2);rw [hg, jn e] at h3;exact h3
  bit := fun j => by
   show ((kBz H.bits (k + 1)).getD (j / 64) 0).testBit (j % 64) = (T.getD j noTh).fI;rw [kIC H.bits k j hbi, hg]
   split
   ·rfl
   ·exact h.bit j
  low := fun i hi => by
   have hi2 : i < min H.low ((k + 1 - 1) / 64) := hi;show (kBz H.bits (k + 1)).getD i 0 = full;rw [kCu H.bits k i hbi, jn (by omega)];exact h.low i (by omega)
  model := ⟨by show (T.length : Int) ≤ _; rw [hgl]; exact h.model.len, fun i hi => by
    show ((T.getD i noTh).fB.length : Int) ≤ 8192;rw [hg]
    split
    ·exact h.model.fB k hk
    ·exact h.model.fB i (by rw [← hgl]; exact hi), fun i hi => by
    show ((T.getD i noTh).fJ : Int) ≤ 1048576;rw [hg]
    split
    ·exact h.model.fJ k hk
    ·exact h.model.fJ i (by rw [← hgl]; exact hi)⟩
  deep := fun j hj hne => by
   rw [hOl] at hj;rw [hO] at hne;obtain ⟨e1, e2, e3⟩ := hord j hj hne;rw [hO, jn e1, hS, jn e3];exact h.deep j hj e2
  most := by show T.length ≤ M.fM; rw [hgl]; exact h.most
  room := h.room }
theorem kOl (l : List Nat) : ∀ n, ∃ t, t ≤ n ∧ (∀ j, t ≤ j → j < n → l.getD j 0 = 0) ∧ (0 < t → l.getD (t - 1) 0 ≠ 0) := by
 intro n
 induction n with
 | zero => exact ⟨0, jAD _, fun j h1 h2 => by omega, fun h => by omega⟩
 | succ n ih =>
  by_cases hz : l.getD n 0 = 0
  ·obtain ⟨t, h1, h2, h3⟩ := ih;refine ⟨t, by omega, fun j j1 j2 => ?_, h3⟩
   by_cases e : j = n
   ·rw [e]; exact hz
   ·exact h2 j j1 (by omega)
  ·exact ⟨n + 1, jAD _, fun j h1 h2 => by omega, fun _ => hz⟩
theorem kDc {α : Type} (L : List α) (e x : Nat) (d : α) : (L.take e).getD x d = if x < e then L.getD x d else d := by
 rw [jAA, jAA, jAx]
 split <;> rfl
theorem InvV.draw (h : InvV H M) : ∃ t e, kEw H t e ∧ Inv (kCW H t e) M := by
 obtain ⟨t, h1, h2, h3⟩ := kOl H.fC H.fC.length
 obtain ⟨e, he0, he1⟩ : ∃ e, (t = 0 → e = 0) ∧ (0 < t → e = (H.fD.getD (H.fC.getD (t - 1) 0) (0, 0, 0)).1 + (H.fD.getD (H.fC.getD (t - 1) 0) (0, 0, 0)).2.1) := by
  by_cases ht : t = 0
  ·exact ⟨0, fun _ => rfl, fun h => by omega⟩
  ·exact ⟨_, fun h => absurd h ht, fun _ => rfl⟩
 have hsm := h.safe.small
 have hle : e ≤ H.mem.length := by
  by_cases ht : t = 0
  ·rw [he0 ht]; exact jAH _
  ·obtain ⟨o1, o2, o3⟩ := h.fC (t - 1) (by omega) (h3 (by omega));have hn := h3 (by omega);have hI := (h.is (H.fC.getD (t - 1) 0 - 1) (by omega) o2).room;have hs := (h.seat (H.fC.getD (t - 1) 0 - 1) (by omega) o2).2;rw [show H.fC.getD (t - 1) 0 - 1 + 1 = H.fC.getD (t - 1) 0 from by omega] at hI hs;rw [he1 (by omega)];omega
 have hturn : ∀ k, k < M.fA.length → (M.fA.getD k noTh).fI = true → (H.fD.getD (k + 1) (0, 0, 0)).2.2 < t := fun k hk hb => by
  obtain ⟨u1, u2⟩ := h.fO k hk hb
  by_cases hlt : (H.fD.getD (k + 1) (0, 0, 0)).2.2 < t
  ·exact hlt
  ·have := h2 _ (by omega) u1;omega
 have hend : ∀ k, k < M.fA.length → (M.fA.getD k noTh).fI = true → (M.fA.getD k noTh).fJ + lenN (M.fA.getD k noTh).fB.length (M.fA.getD k noTh).fmt ≤ e := fun k hk hb => by
  obtain ⟨u1, u2⟩ := h.fO k hk hb;obtain ⟨s1, s2⟩ := h.seat k hk hb;have ht := hturn k hk hb;rw [he1 (by omega)]
  by_cases e2 : (H.fD.getD (k + 1) (0, 0, 0)).2.2 = t - 1
  ·rw [e2] at u2; rw [u2]; omega
  ·have := h.rise (H.fD.getD (k + 1) (0, 0, 0)).2.2 (t - 1) (by omega) (by omega) (by rw [u2]; omega) (h3 (by omega));rw [u2] at this;omega
 have hzero : ∀ x, e ≤ x → x < H.mem.length → H.mem.getD x 0 = 0 := fun x hx hl => h.gaps x hl (fun k hk hb => .inr (by have := hend k hk hb; omega))
 have hmem : H.mem = H.mem.take e ++ List.replicate (H.mem.length - e) 0 := by
  apply jBe
  intro x
  by_cases hx : x < e
  ·rw [jAK (by simp; omega), jAx, jp hx]
  ·rw [jAI (by simp; omega), jAo];have el : (List.take e H.mem).length = e := by simp; omega
   rw [el]
   by_cases hl : x < H.mem.length
   ·have := hzero x (by omega) hl;rw [jAA, jAB hl] at this;rw [jp (by omega), jAB hl]
    simpa using this
   ·rw [jn (by omega), jAM (by omega)]
 have hok : kEw H t e := ⟨h1, h2, fun ht => ⟨h3 ht, by
   obtain ⟨o1, o2, o3⟩ := h.fC (t - 1) (by omega) (h3 ht);have hL := h.seatIn _ (kAs o2) o2;omega, he1 ht⟩, he0, hle, hmem, by have := hsm.mem; have := hsm.fH; omega, by have := h.safe.fC; omega, by have := h.safe.fD; omega⟩
 refine ⟨t, e, hok, ?_⟩;have hMl : (kCW H t e).mem.length = e := by show (H.mem.take e).length = e; simp; omega
 have hM : ∀ x, x < e → (kCW H t e).mem.getD x 0 = H.mem.getD x 0 := fun x hx => by show (H.mem.take e).getD x 0 = _; rw [kDc, jp hx]
 have hOl : (kCW H t e).fC.length = t := by show (H.fC.take t).length = t; simp; omega
 have hO : ∀ r, r < t → (kCW H t e).fC.getD r 0 = H.fC.getD r 0 := fun r hr => by show (H.fC.take t).getD r 0 = _; rw [kDc, jp hr]
 exact {
  safe := ⟨⟨hsm.fH, hsm.fM, by rw [hMl]; show (e : Int) ≤ H.fH; have := hsm.mem; omega, hsm.count, hsm.mark⟩, h.safe.low, h.safe.bl, h.safe.bits, h.safe.fD, by rw [hOl]; have := h.safe.fC; omega⟩
  fH := h.fH
  fM := h.fM
  mark := h.mark
  len := h.len
  seat0 := h.seat0
  fI := h.fI
  seat := h.seat
  is := fun k hk hb => by
   have hI := h.is k hk hb;obtain ⟨s1, s2⟩ := h.seat k hk hb;have he := hend k hk hb;exact hI.same rfl (by have := (kAk hI.has).2.1; show k + 1 < H.fD.length; omega) (by rw [hMl]; omega) (fun x x1 x2 => hM x (by omega))
  count := h.count
  fO := fun k hk hb => by
   rw [hOl];have ht := hturn k hk hb;exact ⟨ht, (hO _ ht).trans (h.fO k hk hb).2⟩
  fC := fun r hr hne => by
   rw [hOl] at hr;rw [hO r hr] at hne ⊢;exact h.fC r (by omega) hne
  rise := fun i j hij hj hi0 hj0 => by
   rw [hOl] at hj;rw [hO i (by omega)] at hi0 ⊢;rw [hO j hj] at hj0 ⊢;exact h.rise i j hij (by omega) hi0 hj0
  gaps := fun x hx hc => by
   rw [hMl] at hx;rw [hM x hx];exact h.gaps x (by omega) hc
  bit := h.bit
  low := h.low
  model := h.model
  deep := fun j hj hne => by
   rw [hOl] at hj;rw [hO j hj] at hne ⊢;exact h.deep j (by omega) hne
  most := h.most
  room := h.room
  fin := by
   rw [hMl];refine (kCY M.fA e _ (fun j hj hb => hend j hj hb) ?_).symm
   by_cases ht : t = 0
   ·exact .inl (he0 ht)
   ·right
    obtain ⟨o1, o2, o3⟩ := h.fC (t - 1) (by omega) (h3 (by omega));have hn := h3 (by omega);obtain ⟨s1, s2⟩ := h.seat (H.fC.getD (t - 1) 0 - 1) (by omega) o2;rw [show H.fC.getD (t - 1) 0 - 1 + 1 = H.fC.getD (t - 1) 0 from by omega] at s1 s2;exact ⟨H.fC.getD (t - 1) 0 - 1, by omega, o2, by rw [he1 (by omega)]; omega⟩
  last := fun j hj => by
   rw [hOl] at hj;rw [hO j (by omega), show j = t - 1 from by omega];exact h3 (by omega) }
theorem kMa (m r s v : Nat) (hm : m ≤ 4294967295) (hr : r ≤ 3) (hs : s ≤ 3) (hv : v ≤ 255) : getB (putB m r v) s = if s = r then v else getB m s := by
 rcases (show r = 0 ∨ r = 1 ∨ r = 2 ∨ r = 3 from by omega) with rfl | rfl | rfl | rfl <;> rcases (show s = 0 ∨ s = 1 ∨ s = 2 ∨ s = 3 from by omega) with rfl | rfl | rfl | rfl <;> simp only [getB, putB, Nat.reduceMul, Nat.reduceAdd, Nat.reducePow, Nat.reduceEqDiff, if_true, if_false] <;> omega
theorem kPe (m r v : Nat) (hm : m ≤ 4294967295) (hr : r ≤ 3) (hv : v ≤ 255) : putB m r v ≤ 4294967295 := by
 rcases (show r = 0 ∨ r = 1 ∨ r = 2 ∨ r = 3 from by omega) with rfl | rfl | rfl | rfl <;> simp only [putB, Nat.reduceMul, Nat.reduceAdd, Nat.reducePow] <;> omega
theorem kBQ (L : List Int) (p x : Nat) (v : Int) (hp : p < L.length) : (L.set p v).getD x 0 = if x = p then v else L.getD x 0 := by
 rw [jAA, jAA, jAh]
 by_cases h : p = x
 ·rw [jp h, jp h.symm, jp (by omega)]; rfl
 ·rw [jn h, jn (fun e => h e.symm)]
def kCD (t : Th) (i : Nat) (v : Int) : Th := { t with fB := t.fB.set i v }
def kPn (t : Th) (v : Int) : Th := { t with cls := v }
theorem Inv.putW (h : Inv H M) (k : Nat) (hk : k < M.fA.length) (hb : (M.fA.getD k noTh).fI = true) (i : Nat) (v : Int) (hi : i < (M.fA.getD k noTh).fB.length) (hf : (M.fA.getD k noTh).fmt = 0) :
  Inv { H with mem := H.mem.set ((H.fD.getD (k + 1) (0, 0, 0)).1 + 2 + i) v } { M with fA := M.fA.set k (kCD (M.fA.getD k noTh) i v) } := by
 have hI := h.is k hk hb;obtain ⟨s1, s2⟩ := h.seat k hk hb;have hr := hI.room;have hw := kCK _ i _ hf hi;generalize hT : M.fA.getD k noTh = t at *;have hp : (H.fD.getD (k + 1) (0, 0, 0)).1 + 2 + i < H.mem.length := by omega
 have hl : (t.fB.set i v).length = t.fB.length := jAL ..;refine h.poke k hk (by rw [hT]; exact hb) _ (jAL ..) _ hb (by rw [hT]; rfl) (by rw [hT]; rfl) (by rw [hT]; exact hl) ?_ (fun x hx => by rw [hT] at hx; rw [kBQ _ _ _ _ hp, jn (by omega)]);refine ⟨hI.has, by show _ + lenN (t.fB.set i v).length t.fmt ≤ (H.mem.set _ _).length; rw [hl, jAL]; exact hr, ?_, ?_, hI.fmt, by show (t.fB.set i v).length ≤ 8192; rw [hl]; exact hI.len, ?_, ?_⟩
 ·show (H.mem.set _ _).getD (H.fD.getD (k + 1) (0, 0, 0)).1 0 = t.cls;rw [kBQ _ _ _ _ hp, jn (by omega)]; exact hI.cls
 ·show (H.mem.set _ _).getD ((H.fD.getD (k + 1) (0, 0, 0)).1 + 1) 0 = ((2 * (t.fB.set i v).length + t.fmt : Nat) : Int);rw [kBQ _ _ _ _ hp, jn (by omega), hl]; exact hI.shape
 ·intro _ j hj;have hj2 : j < t.fB.length := by rw [← hl]; exact hj
  show (H.mem.set _ _).getD ((H.fD.getD (k + 1) (0, 0, 0)).1 + 2 + j) 0 = (t.fB.set i v).getD j 0;rw [kBQ _ _ _ _ hp, kBQ _ _ _ _ hi]
  by_cases e : j = i
  ·rw [jp (by omega), jp e]
  ·rw [jn (by omega), jn e]; exact hI.word hf j hj2
 ·intro hf1;have : t.fmt = 1 := hf1;omega
theorem Inv.putB' (h : Inv H M) (k : Nat) (hk : k < M.fA.length) (hb : (M.fA.getD k noTh).fI = true) (i v old : Nat) (hi : i < (M.fA.getD k noTh).fB.length) (hf : (M.fA.getD k noTh).fmt = 1) (hv : v ≤ 255) (hold : H.mem.getD ((H.fD.getD (k + 1) (0, 0, 0)).1 + 2 + i / 4) 0 = (old : Int)) (ho : (old : Int) ≤ 4294967295) :
  Inv { H with mem := H.mem.set ((H.fD.getD (k + 1) (0, 0, 0)).1 + 2 + i / 4) ((putB old (i % 4) v : Nat) : Int) } { M with fA := M.fA.set k (kCD (M.fA.getD k noTh) i v) } := by
 have hI := h.is k hk hb;obtain ⟨s1, s2⟩ := h.seat k hk hb;have hr := hI.room;have hw := kCI _ i hi;rw [← hf] at hw;generalize hT : M.fA.getD k noTh = t at *;have hp : (H.fD.getD (k + 1) (0, 0, 0)).1 + 2 + i / 4 < H.mem.length := by omega
 have hl : (t.fB.set i (v : Int)).length = t.fB.length := jAL ..;refine h.poke k hk (by rw [hT]; exact hb) _ (jAL ..) _ hb (by rw [hT]; rfl) (by rw [hT]; rfl) (by rw [hT]; exact hl) ?_ (fun x hx => by rw [hT] at hx; rw [kBQ _ _ _ _ hp, jn (by omega)]);refine ⟨hI.has, by show _ + lenN (t.fB.set i (v : Int)).length t.fmt ≤ (H.mem.set _ _).length; rw [hl, jAL]; exact hr, ?_, ?_, hI.fmt, by show (t.fB.set i (v : Int)).length ≤ 8192; rw [hl]; exact hI.len, ?_, ?_⟩
 ·show (H.mem.set _ _).getD (H.fD.getD (k + 1) (0, 0, 0)).1 0 = t.cls;rw [kBQ _ _ _ _ hp, jn (by omega)]; exact hI.cls
 ·show (H.mem.set _ _).getD ((H.fD.getD (k + 1) (0, 0, 0)).1 + 1) 0 = ((2 * (t.fB.set i (v : Int)).length + t.fmt : Nat) : Int);rw [kBQ _ _ _ _ hp, jn (by omega), hl]; exact hI.shape
 ·intro hf0;have : t.fmt = 0 := hf0;omega
 ·intro _ j hj;have hj2 : j < t.fB.length := by rw [← hl]; exact hj
  show ∃ o : Nat, (H.mem.set _ _).getD ((H.fD.getD (k + 1) (0, 0, 0)).1 + 2 + j / 4) 0 = (o : Int) ∧ (o : Int) ≤ 4294967295 ∧ (t.fB.set i (v : Int)).getD j 0 = ((getB o (j % 4) : Nat) : Int)
  rw [kBQ _ _ _ _ hp, kBQ _ _ _ _ hi];obtain ⟨o, o1, o2, o3⟩ := hI.byte hf j hj2
  by_cases e4 : j / 4 = i / 4
  ·have e5 : o = old := by rw [e4, hold] at o1; omega
   refine ⟨putB old (i % 4) v, by rw [jp (by omega)], by have := kPe old (i % 4) v (by omega) (by omega) hv; omega, ?_⟩;rw [kMa old (i % 4) (j % 4) v (by omega) (by omega) (by omega) hv]
   by_cases e : j = i
   ·rw [jp e, jp (by rw [e])]
   ·rw [jn e, jn (by omega), o3, e5]
  ·refine ⟨o, by rw [jn (by omega)]; exact o1, o2, ?_⟩;rw [jn (fun e => e4 (by rw [e]))];exact o3
theorem kMG (L xs : List Int) (off x : Nat) (h : off + xs.length ≤ L.length) : (splice L off xs).getD x 0 = if off ≤ x ∧ x < off + xs.length then xs.getD (x - off) 0 else L.getD x 0 := by
 unfold splice;rw [jAA, jAA, jAA]
 by_cases h1 : x < off
 ·rw [jAK (by simp; omega), jn (by omega), jAx, jp h1]
 ·rw [jAI (by simp; omega)];have e : (List.take off L).length = off := by simp; omega
  rw [e]
  by_cases h2 : x < off + xs.length
  ·rw [jAK (by omega), jp (by omega)]
  ·rw [jAI (by omega), jn (by omega), jBp, show off + xs.length + (x - off - xs.length) = x from by omega]
theorem Is.moved {H' : HS} {oop : Nat} {t : Th} (h : Is H oop t) (P : Nat) (hp : (H'.fD.getD oop (0, 0, 0)).1 = P) (hz : (H'.fD.getD oop (0, 0, 0)).2.1 ≠ 0) (hl : oop < H'.fD.length) (hr : P + lenN t.fB.length t.fmt ≤ H'.mem.length) 
  (hm : ∀ d, d < lenN t.fB.length t.fmt → H'.mem.getD (P + d) 0 = H.mem.getD ((H.fD.getD oop (0, 0, 0)).1 + d) 0) : Is H' oop t := by
 have h2 := kAR t.fB.length t.fmt;obtain ⟨a1, a2, a3⟩ := kAk h.has;refine ⟨?_, by rw [hp]; exact hr, ?_, ?_, h.fmt, h.len, ?_, ?_⟩
 ·exact decide_eq_true ⟨a1, by omega, by simp only [jAj]; exact hz⟩
 ·rw [hp, show P = P + 0 from rfl, hm 0 (by omega)]; exact h.cls
 ·rw [hp, hm 1 (by omega)]; exact h.shape
 ·intro hf i hi;have := kCK t.fB.length i t.fmt hf hi;rw [hp, jBF, hm _ this, ← jBF];exact h.word hf i hi
 ·intro hf i hi;have := kCI t.fB.length i hi;obtain ⟨old, o1, o2, o3⟩ := h.byte hf i hi;refine ⟨old, ?_, o2, o3⟩;rw [hp, jBF, hm _ (by rw [hf]; exact this), ← jBF];exact o1
theorem kHG (S : List Th) (A i0 : Nat) (hb : (S.getD i0 noTh).fI = true) (hA : A ≤ (S.getD i0 noTh).fJ) (hmin : ∀ i, i ≠ i0 → (S.getD i noTh).fI = true → A ≤ (S.getD i noTh).fJ → (S.getD i0 noTh).fJ < (S.getD i noTh).fJ) : ∀ n, i0 < n → kBi S A n = some i0 := by
 intro n
 induction n with
 | zero => intro h; omega
 | succ n ih =>
  intro hn
  by_cases e : i0 = n
  ·subst e
   cases hp : kBi S A i0 with
   | none => rw [kDP S A i0 hp, jp ⟨hb, hA⟩]
   | some b =>
    obtain ⟨b1, b2, b3⟩ := kEh S A i0 b hp;rw [kDW S A i0 b hp, jp ⟨hb, hA, hmin b (by omega) b2 b3⟩]
  ·have := ih (by omega);rw [kDW S A n i0 this, jn (fun hc => by have := hmin n (fun e2 => e e2.symm) hc.1 hc.2.1; omega)]
theorem kHA (S : List Th) (A : Nat) (h : ∀ i, (S.getD i noTh).fI = true → (S.getD i noTh).fJ < A) : ∀ n, kBi S A n = none := by
 intro n
 induction n with
 | zero => rfl
 | succ n ih => rw [kDP S A n ih, jn (fun hc => by have := h n hc.1; omega)]
theorem kEF : ∀ (c : Nat) (S : List Th) (f : Nat → Nat), (∀ r, r < c → (S.getD (f r) noTh).fI = true) → (∀ i j, i < c → j < c → f i = f j → i = j) → c ≤ kAG S S.length := by
 intro c
 induction c with
 | zero => intro S f _ _; exact jAH _
 | succ c ih =>
  intro S f h1 h2;have hb := h1 c (by omega);have hk := kAs hb;have hg := fun i => kAX S (f c) i (gone (S.getD (f c) noTh)) hk
  have := ih (S.set (f c) (gone (S.getD (f c) noTh))) f (fun r hr => by
   rw [hg, jn (fun e => by have := h2 r c (by omega) (by omega) e; omega)];exact h1 r (by omega)) (fun i j hi hj e => h2 i j (by omega) (by omega) e)
  rw [jAL] at this;have := kEJ S (f c) hk hb;omega
structure Mid (H : HS) (S : List Th) (k : Nat) (x : Sl) (T : List Th) : Prop where
 alike : kDw T S
 run : ∀ r, kBc S 0 (x.turns + r) = kBc T x.en r
 ml : x.H.mem.length = H.mem.length
 ol : x.H.fC.length = H.fC.length
 sl : x.H.fD.length = H.fD.length
 rest : x.H.fH = H.fH ∧ x.H.fM = H.fM ∧ x.H.mark = H.mark ∧ x.H.bits = H.bits ∧ x.H.low = H.low ∧ x.H.count = H.count
 tk : x.turns ≤ k
 off : ∀ o, o = 0 ∨ (S.getD (o - 1) noTh).fI = false → x.H.fD.getD o (0, 0, 0) = H.fD.getD o (0, 0, 0)
 still : ∀ i, (S.getD i noTh).fI = false → T.getD i noTh = S.getD i noTh
 ahead : ∀ i, (S.getD i noTh).fI = true → k ≤ (H.fD.getD (i + 1) (0, 0, 0)).2.2 → x.H.fD.getD (i + 1) (0, 0, 0) = H.fD.getD (i + 1) (0, 0, 0) ∧ T.getD i noTh = S.getD i noTh ∧ x.en ≤ (S.getD i noTh).fJ
 done : ∀ i, (S.getD i noTh).fI = true → (H.fD.getD (i + 1) (0, 0, 0)).2.2 < k → ∃ t, x.H.fD.getD (i + 1) (0, 0, 0) = ((T.getD i noTh).fJ, lenN (S.getD i noTh).fB.length (S.getD i noTh).fmt, t) ∧ t < x.turns ∧ x.H.fC.getD t 0 = i + 1 ∧
  (T.getD i noTh).fJ + lenN (S.getD i noTh).fB.length (S.getD i noTh).fmt ≤ x.en ∧ 2 * t ≤ (T.getD i noTh).fJ ∧ ∀ d, d < lenN (S.getD i noTh).fB.length (S.getD i noTh).fmt → x.H.mem.getD ((T.getD i noTh).fJ + d) 0 = H.mem.getD ((S.getD i noTh).fJ + d) 0
 ord : ∀ r, r < x.turns → ∃ i, x.H.fC.getD r 0 = i + 1 ∧ (S.getD i noTh).fI = true ∧ (H.fD.getD (i + 1) (0, 0, 0)).2.2 < k ∧ (x.H.fD.getD (i + 1) (0, 0, 0)).2.2 = r
 ordA : ∀ r, k ≤ r → x.H.fC.getD r 0 = H.fC.getD r 0
 rise : ∀ i j, i < j → j < x.turns → (x.H.fD.getD (x.H.fC.getD i 0) (0, 0, 0)).1 + (x.H.fD.getD (x.H.fC.getD i 0) (0, 0, 0)).2.1 ≤ (x.H.fD.getD (x.H.fC.getD j 0) (0, 0, 0)).1
 memA : ∀ p, x.en ≤ p → x.H.mem.getD p 0 = H.mem.getD p 0
 cov : ∀ p, p < x.en → ∃ i, (S.getD i noTh).fI = true ∧ (H.fD.getD (i + 1) (0, 0, 0)).2.2 < k ∧ (T.getD i noTh).fJ ≤ p ∧ p < (T.getD i noTh).fJ + lenN (S.getD i noTh).fB.length (S.getD i noTh).fmt
 deep : 2 * x.turns ≤ x.en
 top : 0 < x.en → ∃ i, (S.getD i noTh).fI = true ∧ (H.fD.getD (i + 1) (0, 0, 0)).2.2 < k ∧ (T.getD i noTh).fJ + lenN (S.getD i noTh).fB.length (S.getD i noTh).fmt = x.en
theorem kJw (H : HS) (S : List Th) : Mid H S 0 ⟨H, 0, 0⟩ S where
 alike := kDw.refl S
 run := fun r => by rw [show (⟨H, 0, 0⟩ : Sl).turns + r = r from jAl r]
 ml := rfl
 ol := rfl
 sl := rfl
 rest := ⟨rfl, rfl, rfl, rfl, rfl, rfl⟩
 tk := jAD _
 off := fun _ _ => rfl
 still := fun _ _ => rfl
 ahead := fun _ _ _ => ⟨rfl, rfl, jAH _⟩
 done := fun _ _ h => by omega
 ord := fun r h => absurd h (Nat.not_lt_zero r)
 ordA := fun _ _ => rfl
 rise := fun i j _ h => absurd h (Nat.not_lt_zero j)
 memA := fun _ _ => rfl
 cov := fun p h => absurd h (Nat.not_lt_zero p)
 deep := jAD _
 top := fun h => absurd h (Nat.not_lt_zero _)
theorem Mid.skip (hv : InvV H M) (h : Mid H M.fA k x T) (h0 : H.fC.getD k 0 = 0) : Mid H M.fA (k + 1) x T := by
 have hne : ∀ i, (M.fA.getD i noTh).fI = true → (H.fD.getD (i + 1) (0, 0, 0)).2.2 ≠ k := fun i hb e => by
  have := (hv.fO i (kAs hb) hb).2;rw [e] at this;omega
 exact {
  alike := h.alike
  run := h.run
  ml := h.ml
  ol := h.ol
  sl := h.sl
  rest := h.rest
  tk := Nat.le_succ_of_le h.tk
  off := h.off
  still := h.still
  ahead := fun i hb hk => h.ahead i hb (by omega)
  done := fun i hb hk => h.done i hb (by have := hne i hb; omega)
  ord := fun r hr => by
   obtain ⟨i, i1, i2, i3, i4⟩ := h.ord r hr;exact ⟨i, i1, i2, by omega, i4⟩
  ordA := fun r hr => h.ordA r (by omega)
  rise := h.rise
  memA := h.memA
  cov := fun p hp => by
   obtain ⟨i, i1, i2, i3⟩ := h.cov p hp;exact ⟨i, i1, by omega, i3⟩
  deep := h.deep
  top := fun hp => by
   obtain ⟨i, i1, i2, i3⟩ := h.top hp;exact ⟨i, i1, by omega, i3⟩ }
theorem Mid.stepOk (hv : InvV H M) (h : Mid H M.fA k x T) (hk : k < H.fC.length) (h0 : H.fC.getD k 0 ≠ 0) :
  ∃ i0, H.fC.getD k 0 = i0 + 1 ∧ i0 < M.fA.length ∧ (M.fA.getD i0 noTh).fI = true ∧ (H.fD.getD (i0 + 1) (0, 0, 0)).2.2 = k ∧ (H.fD.getD (i0 + 1) (0, 0, 0)).1 = (M.fA.getD i0 noTh).fJ ∧
   (H.fD.getD (i0 + 1) (0, 0, 0)).2.1 = lenN (M.fA.getD i0 noTh).fB.length (M.fA.getD i0 noTh).fmt ∧ (M.fA.getD i0 noTh).fJ + lenN (M.fA.getD i0 noTh).fB.length (M.fA.getD i0 noTh).fmt ≤ H.mem.length ∧ x.en ≤ (M.fA.getD i0 noTh).fJ ∧
   x.H.fD.getD (i0 + 1) (0, 0, 0) = H.fD.getD (i0 + 1) (0, 0, 0) ∧ T.getD i0 noTh = M.fA.getD i0 noTh ∧ i0 + 1 < H.fD.length ∧ kOd x (i0 + 1) := by
 obtain ⟨o1, o2, o3⟩ := hv.fC k hk h0;obtain ⟨i0, hi0⟩ : ∃ i0, H.fC.getD k 0 = i0 + 1 := ⟨H.fC.getD k 0 - 1, by omega⟩
 rw [hi0] at o1 o2 o3;rw [jAJ] at o2;obtain ⟨s1, s2⟩ := hv.seat i0 (by omega) o2;have hr := (hv.is i0 (by omega) o2).room;rw [s1] at hr;obtain ⟨a1, a2, a3⟩ := h.ahead i0 o2 (by omega);have hL := hv.seatIn i0 (by omega) o2;have h2 := kAR (M.fA.getD i0 noTh).fB.length (M.fA.getD i0 noTh).fmt;have hml := h.ml;have hsl := h.sl;exact ⟨i0, hi0, by omega, o2, o3, s1, s2, hr, a3, a1, a2, by omega, by omega, by rw [a1]; omega, by rw [a1, hml]; omega, by rw [a1, hml]; omega⟩
theorem kGe (L : List (Nat × Nat × Nat)) (k i : Nat) (v : Nat × Nat × Nat) (hk : k < L.length) : (L.set k v).getD i (0, 0, 0) = if i = k then v else L.getD i (0, 0, 0) := by
 rw [jAA, jAh]
 by_cases e : k = i
 ·rw [jp e, jp e.symm, jp hk]; rfl
 ·rw [jn e, jn (fun e2 => e e2.symm), jAA]
theorem kFd (L : List Nat) (k i : Nat) (v : Nat) (hk : k < L.length) : (L.set k v).getD i 0 = if i = k then v else L.getD i 0 := by
 rw [jAA, jAh]
 by_cases e : k = i
 ·rw [jp e, jp e.symm, jp hk]; rfl
 ·rw [jn e, jn (fun e2 => e e2.symm), jAA]
theorem kIs (L : List Int) (p n d : Nat) (hd : d < n) : ((L.drop p).take n).getD d 0 = L.getD (p + d) 0 := by
 rw [jAA, jAA, jAx, jp hd, jBp]
theorem Mid.next (hv : InvV H M) (h : Mid H M.fA k x T) (hk : k < H.fC.length) (h0 : H.fC.getD k 0 ≠ 0) : ∃ T', Mid H M.fA (k + 1) (kAW x k) T' := by
 obtain ⟨i0, hi0, hlt, hb, ht, s1, s2, hr, hen, xs, hT, hsl, -⟩ := h.stepOk hv hk h0;have h2 := kAR (M.fA.getD i0 noTh).fB.length (M.fA.getD i0 noTh).fmt;have hxo : x.H.fC.getD k 0 = i0 + 1 := by rw [h.ordA k (jAD _)]; exact hi0
 have hml := h.ml;have hol := h.ol;have hxsl := h.sl;have htk := h.tk;have hTl := h.alike.len
 have hstep : kAW x k = ⟨{ x.H with mem := splice x.H.mem x.en ((x.H.mem.drop (M.fA.getD i0 noTh).fJ).take (lenN (M.fA.getD i0 noTh).fB.length (M.fA.getD i0 noTh).fmt)), fD := x.H.fD.set (i0 + 1) (x.en, lenN (M.fA.getD i0 noTh).fB.length (M.fA.getD i0 noTh).fmt, x.turns), fC := x.H.fC.set x.turns (i0 + 1) }, x.turns + 1, x.en + lenN (M.fA.getD i0 noTh).fB.length (M.fA.getD i0 noTh).fmt⟩ := by
  unfold kAW;rw [jn (by omega), hxo, xs, s1, s2]
 rw [hstep];have hg := fun i => kAX T i0 i (kCr (T.getD i0 noTh) x.en) (by omega)
 have hS := fun i => kGe x.H.fD (i0 + 1) i (x.en, lenN (M.fA.getD i0 noTh).fB.length (M.fA.getD i0 noTh).fmt, x.turns) (by omega)
 have hO := fun i => kFd x.H.fC x.turns i (i0 + 1) (by omega)
 have hpl : ((x.H.mem.drop (M.fA.getD i0 noTh).fJ).take (lenN (M.fA.getD i0 noTh).fB.length (M.fA.getD i0 noTh).fmt)).length = lenN (M.fA.getD i0 noTh).fB.length (M.fA.getD i0 noTh).fmt := by rw [jAk, jBl]; omega
 have hM := fun p => kMG x.H.mem ((x.H.mem.drop (M.fA.getD i0 noTh).fJ).take (lenN (M.fA.getD i0 noTh).fB.length (M.fA.getD i0 noTh).fmt)) x.en p (by rw [hpl]; omega)
 rw [hpl] at hM;have hMl := length_splice x.H.mem x.en ((x.H.mem.drop (M.fA.getD i0 noTh).fJ).take (lenN (M.fA.getD i0 noTh).fB.length (M.fA.getD i0 noTh).fmt)) (by rw [hpl]; omega);have hpc := fun d hd => kIs x.H.mem (M.fA.getD i0 noTh).fJ (lenN (M.fA.getD i0 noTh).fB.length (M.fA.getD i0 noTh).fmt) d hd
 have hat : ∀ i, (M.fA.getD i noTh).fI = true → (H.fD.getD (i + 1) (0, 0, 0)).2.2 = k → i = i0 := fun i hbi e => by
  have := (hv.fO i (kAs hbi) hbi).2;rw [e] at this;omega
 have hafter : ∀ i, (M.fA.getD i noTh).fI = true → k < (H.fD.getD (i + 1) (0, 0, 0)).2.2 → (M.fA.getD i0 noTh).fJ + lenN (M.fA.getD i0 noTh).fB.length (M.fA.getD i0 noTh).fmt ≤ (M.fA.getD i noTh).fJ := fun i hbi hlt2 => by
  obtain ⟨u1, u2⟩ := hv.fO i (kAs hbi) hbi;have := hv.rise k _ hlt2 u1 h0 (by rw [u2]; omega);rw [u2, hi0, s1, s2, (hv.seat i (kAs hbi) hbi).1] at this;exact this
 have hpick : kBi T x.en T.length = some i0 := by
  refine kHG T x.en i0 (by rw [hT]; exact hb) (by rw [hT]; exact hen) (fun i hne hbi hA => ?_) _ (by omega);have hbi2 : (M.fA.getD i noTh).fI = true := by rw [← (h.alike.at_ i).1]; exact hbi
  have h2i := kAR (M.fA.getD i noTh).fB.length (M.fA.getD i noTh).fmt;rcases jBf (H.fD.getD (i + 1) (0, 0, 0)).2.2 k with e | e | e
  ·obtain ⟨t, t1, t2, t3, t4, t5⟩ := h.done i hbi2 e;omega
  ·exact absurd (hat i hbi2 e) hne
  ·have := hafter i hbi2 e;obtain ⟨a1, a2, a3⟩ := h.ahead i hbi2 (by omega);rw [hT, a2];omega
 generalize hLn : lenN (M.fA.getD i0 noTh).fB.length (M.fA.getD i0 noTh).fmt = L0 at *;generalize hsp : splice x.H.mem x.en ((x.H.mem.drop (M.fA.getD i0 noTh).fJ).take L0) = MM at *;generalize hse : x.H.fD.set (i0 + 1) (x.en, L0, x.turns) = SS at *;generalize hoe : x.H.fC.set x.turns (i0 + 1) = OO at *;have hSl : SS.length = x.H.fD.length := by rw [← hse, jAL]
 have hOl : OO.length = x.H.fC.length := by rw [← hoe, jAL]
 refine ⟨T.set i0 (kCr (T.getD i0 noTh) x.en), ?_⟩;have hrun := fun r => kCy T x.en r i0 hpick
 have halike := h.alike.fJ i0 x.en (by omega);generalize hTe : T.set i0 (kCr (T.getD i0 noTh) x.en) = T' at *;have hT0 : (T'.getD i0 noTh).fJ = x.en := by rw [hg, jp rfl]; rfl
 have hTo : ∀ i, i ≠ i0 → T'.getD i noTh = T.getD i noTh := fun i hne => by rw [hg, jn hne]
 have hS0 : SS.getD (i0 + 1) (0, 0, 0) = (x.en, L0, x.turns) := by rw [hS, jp rfl]
 have hSo : ∀ i, i ≠ i0 → SS.getD (i + 1) (0, 0, 0) = x.H.fD.getD (i + 1) (0, 0, 0) := fun i hne => by rw [hS, jn (by omega)]
 exact {
  alike := halike
  run := fun r => by
   show kBc M.fA 0 (x.turns + 1 + r) = kBc T' (x.en + L0) r;rw [jBF, Nat.add_comm 1 r, h.run (r + 1), hrun r, hT, hLn]
  ml := by show MM.length = _; omega
  ol := by show OO.length = _; omega
  sl := by show SS.length = _; omega
  rest := h.rest
  tk := by show x.turns + 1 ≤ k + 1; omega
  off := fun o ho => by
   show SS.getD o (0, 0, 0) = _
   rw [hS, jn (fun e => by
    rcases ho with ho | ho
    ·omega
    ·rw [e, jAJ, hb] at ho; cases ho)]
   exact h.off o ho
  still := fun i hi => by
   rw [hTo i (fun e => by rw [e, hb] at hi; cases hi)];exact h.still i hi
  ahead := fun i hbi hki => by
   have hne : i ≠ i0 := fun e => by rw [e, ht] at hki; omega
   obtain ⟨a1, a2, a3⟩ := h.ahead i hbi (by omega);have := hafter i hbi (by omega);refine ⟨?_, by rw [hTo i hne]; exact a2, ?_⟩
   ·show SS.getD (i + 1) (0, 0, 0) = _;rw [hSo i hne]; exact a1
   ·show x.en + L0 ≤ _; omega
  done := fun i hbi hki => by
   show ∃ t, SS.getD (i + 1) (0, 0, 0) = _ ∧ t < x.turns + 1 ∧ OO.getD t 0 = i + 1 ∧ _ ≤ x.en + L0 ∧ _ ∧ ∀ d, _ → MM.getD _ 0 = _
   by_cases e : i = i0
   ·subst e;rw [hT0, hLn];refine ⟨x.turns, hS0, by omega, by rw [hO, jp rfl], jAD _, h.deep, fun d hd => ?_⟩;rw [hM, jp (by omega), Nat.add_sub_cancel_left, hpc d hd, h.memA _ (by omega)]
   ·have hne : (H.fD.getD (i + 1) (0, 0, 0)).2.2 ≠ k := fun e2 => e (hat i hbi e2)
    obtain ⟨t, t1, t2, t3, t4, t5, t6⟩ := h.done i hbi (by omega);rw [hTo i e];refine ⟨t, by rw [hSo i e]; exact t1, by omega, by rw [hO, jn (by omega)]; exact t3, by omega, t5, fun d hd => ?_⟩;rw [hM, jn (by omega)];exact t6 d hd
  ord := fun r hr => by
   have hr2 : r < x.turns + 1 := hr;show ∃ i, OO.getD r 0 = i + 1 ∧ _ ∧ _ ∧ (SS.getD (i + 1) (0, 0, 0)).2.2 = r
   by_cases e : r = x.turns
   ·exact ⟨i0, by rw [hO, jp e], hb, by omega, by rw [hS0, e]⟩
   ·obtain ⟨i, i1, i2, i3, i4⟩ := h.ord r (by omega);have hne : i ≠ i0 := fun e2 => by rw [e2, ht] at i3; omega
    exact ⟨i, by rw [hO, jn e]; exact i1, i2, by omega, by rw [hSo i hne]; exact i4⟩
  ordA := fun r hr => by
   show OO.getD r 0 = _;rw [hO, jn (by omega)];exact h.ordA r (by omega)
  rise := fun i j hij hj => by
   have hj2 : j < x.turns + 1 := hj;show (SS.getD (OO.getD i 0) (0, 0, 0)).1 + (SS.getD (OO.getD i 0) (0, 0, 0)).2.1 ≤ (SS.getD (OO.getD j 0) (0, 0, 0)).1;obtain ⟨q, q1, q2, q3, q4⟩ := h.ord i (by omega);have hqn : q ≠ i0 := fun e2 => by rw [e2, ht] at q3; omega
   have hi3 := h.rise i j hij;rw [hO i, jn (by omega), q1, hSo q hqn]
   by_cases e : j = x.turns
   ·rw [hO j, jp e, hS0];obtain ⟨t, t1, t2, t3, t4, t5, t6⟩ := h.done q q2 q3;rw [t1];exact t4
   ·obtain ⟨z, z1, z2, z3, z4⟩ := h.ord j (by omega);have hzn : z ≠ i0 := fun e2 => by rw [e2, ht] at z3; omega
    have := hi3 (by omega);rw [q1, z1] at this;rw [hO j, jn e, z1, hSo z hzn];exact this
  memA := fun p hp => by
   have hp2 : x.en + L0 ≤ p := hp;show MM.getD p 0 = _;rw [hM, jn (by omega)];exact h.memA p (by omega)
  cov := fun p hp => by
   have hp2 : p < x.en + L0 := hp
   by_cases e : p < x.en
   ·obtain ⟨i, i1, i2, i3, i4⟩ := h.cov p e;have hne : i ≠ i0 := fun e2 => by rw [e2, ht] at i2; omega
    exact ⟨i, i1, by omega, by rw [hTo i hne]; exact i3, by rw [hTo i hne]; exact i4⟩
   ·exact ⟨i0, hb, by omega, by rw [hT0]; omega, by rw [hT0, hLn]; exact hp2⟩
  deep := by have := h.deep; show 2 * (x.turns + 1) ≤ x.en + L0; omega
  top := fun _ => ⟨i0, hb, by omega, by rw [hT0, hLn]⟩ }
theorem InvV.mid (hv : InvV H M) : ∀ k, k ≤ H.fC.length → ∃ T, Mid H M.fA k (kAM H k) T := by
 intro k
 induction k with
 | zero => intro _; exact ⟨_, kJw H M.fA⟩
 | succ k ih =>
  intro hk;obtain ⟨T, h⟩ := ih (by omega);show ∃ T, Mid H M.fA (k + 1) (kAW (kAM H k) k) T
  by_cases h0 : H.fC.getD k 0 = 0
  ·have e : kAW (kAM H k) k = kAM H k := by
    unfold kAW;rw [jp (by rw [h.ordA k (jAD _)]; exact h0)]
   rw [e];exact ⟨T, h.skip hv h0⟩
  ·exact h.next hv (by omega) h0
theorem InvV.slideOk (hv : InvV H M) : kEt H where
 step := fun k hk hne => by
  obtain ⟨T, h⟩ := hv.mid k (by omega);have e := h.ordA k (jAD _);rw [e] at hne ⊢;obtain ⟨i0, hi0, _, _, _, _, _, _, _, _, _, _, hs⟩ := h.stepOk hv hk hne;rw [hi0];exact hs
 m1 := by have := hv.safe.small.mem; have := hv.safe.small.fH; omega
 r1 := by have := hv.safe.fC; omega
 t1 := by have := hv.safe.fD; omega
theorem InvV.slide (hv : InvV H M) : Inv (kBS H) { M with fA := kBc M.fA 0 (kAG M.fA M.fA.length) } := by
 obtain ⟨T, h⟩ := hv.mid H.fC.length (jAD _);have hdone : ∀ i, (M.fA.getD i noTh).fI = true → (H.fD.getD (i + 1) (0, 0, 0)).2.2 < H.fC.length := fun i hb => (hv.fO i (kAs hb) hb).1
 have hen := (kCc H hv.slideOk H.fC.length (jAD _)).2.2.2.2;unfold kBS;generalize kAM H H.fC.length = x at *;have hml := h.ml;have hol := h.ol;have hxsl := h.sl;have htk := h.tk;have hTl := h.alike.len;obtain ⟨e1, e2, e3, e4, e5, e6⟩ := h.rest;have hb : ∀ i, (T.getD i noTh).fI = (M.fA.getD i noTh).fI := fun i => (h.alike.at_ i).1
 have hln : ∀ i, lenN (T.getD i noTh).fB.length (T.getD i noTh).fmt = lenN (M.fA.getD i noTh).fB.length (M.fA.getD i noTh).fmt := fun i => by rw [(h.alike.at_ i).2.1, (h.alike.at_ i).2.2.1]
 have hD := fun i hbi => h.done i hbi (hdone i hbi)
 have hres : kBc M.fA 0 (kAG M.fA M.fA.length) = T := by
  have hc : x.turns ≤ kAG M.fA M.fA.length := by
   refine kEF x.turns M.fA (fun r => x.H.fC.getD r 0 - 1) (fun r hr => ?_) (fun i j hi hj e => ?_)
   ·obtain ⟨i, i1, i2, i3, i4⟩ := h.ord r hr;simp only [i1, jAJ];exact i2
   ·obtain ⟨p, p1, p2, p3, p4⟩ := h.ord i hi;obtain ⟨q, q1, q2, q3, q4⟩ := h.ord j hj;simp only [p1, q1, jAJ] at e;rw [e] at p4;omega
  have := h.run (kAG M.fA M.fA.length - x.turns);rw [show x.turns + (kAG M.fA M.fA.length - x.turns) = kAG M.fA M.fA.length from by omega] at this;rw [this]
  have hno := kHA T x.en (fun i hbi => by
   rw [hb] at hbi;obtain ⟨t, t1, t2, t3, t4, t5, t6⟩ := hD i hbi;have := kAR (M.fA.getD i noTh).fB.length (M.fA.getD i noTh).fmt;omega) T.length
  cases kAG M.fA M.fA.length - x.turns with
  | zero => rfl
  | succ n => exact kDB T x.en n hno
 rw [hres];have hsm := hv.safe.small;have hMl : (x.H.mem.take x.en).length = x.en := by simp; omega
 have hM : ∀ p, p < x.en → (x.H.mem.take x.en).getD p 0 = x.H.mem.getD p 0 := fun p hp => by rw [kDc, jp hp]
 have hOl : (x.H.fC.take x.turns).length = x.turns := by simp; omega
 have hO : ∀ r, r < x.turns → (x.H.fC.take x.turns).getD r 0 = x.H.fC.getD r 0 := fun r hr => by rw [kDc, jp hr]
 generalize x.H.mem.take x.en = MM at *;generalize x.H.fC.take x.turns = OO at *;have hrm := hv.room
 exact {
  safe := ⟨⟨by show (x.H.fH : Int) ≤ _; rw [e1]; exact hsm.fH, by show (x.H.fM : Int) ≤ _; rw [e2]; exact hsm.fM, by show (MM.length : Int) ≤ x.H.fH; rw [e1]; have := hsm.mem; omega, by show (x.H.count : Int) ≤ x.H.fM; rw [e6, e2]; exact hsm.count, by show (x.H.mark : Int) ≤ _; rw [e3]; exact hsm.mark⟩,
   by show x.H.low ≤ x.H.bits.length; rw [e4, e5]; exact hv.safe.low, by show (x.H.bits.length : Int) ≤ _; rw [e4]; exact hv.safe.bl, by show ∀ k, x.H.bits.getD k 0 ≤ full; rw [e4]; exact hv.safe.bits, by show (x.H.fD.length : Int) ≤ _; rw [hxsl]; exact hv.safe.fD, by show (OO.length : Int) ≤ _; rw [hOl]; have := hv.safe.fC; omega⟩
  fH := e1.trans hv.fH
  fM := e2.trans hv.fM
  mark := e3.trans hv.mark
  len := by show x.H.fD.length ≤ T.length + 1; rw [hxsl, hTl]; exact hv.len
  seat0 := by show (x.H.fD.getD 0 (0, 0, 0)).2.1 = 0; rw [h.off 0 (.inl rfl)]; exact hv.seat0
  fI := fun i hi => by
   have hi2 : i < M.fA.length := by rw [← hTl]; exact hi
   show ((T.getD i noTh).fI = true ↔ (x.H.fD.getD (i + 1) (0, 0, 0)).2.1 ≠ 0);rw [hb]
   cases hbi : (M.fA.getD i noTh).fI with
   | true =>
    obtain ⟨t, t1, -⟩ := hD i hbi;have := kAR (M.fA.getD i noTh).fB.length (M.fA.getD i noTh).fmt;rw [t1];exact ⟨fun _ => by show lenN _ _ ≠ 0; omega, fun _ => rfl⟩
   | false =>
    rw [h.off (i + 1) (.inr (by rw [jAJ]; exact hbi)), ← hbi];exact hv.fI i hi2
  seat := fun i hi hbi => by
   show (x.H.fD.getD (i + 1) (0, 0, 0)).1 = (T.getD i noTh).fJ ∧ (x.H.fD.getD (i + 1) (0, 0, 0)).2.1 = lenN (T.getD i noTh).fB.length (T.getD i noTh).fmt;have hbi2 : (M.fA.getD i noTh).fI = true := by rw [← hb]; exact hbi
   obtain ⟨t, t1, -⟩ := hD i hbi2;rw [t1, hln];exact ⟨rfl, rfl⟩
  is := fun i hi hbi => by
   have hbi2 : (M.fA.getD i noTh).fI = true := by rw [← hb]; exact hbi
   have hI := hv.is i (kAs hbi2) hbi2;have hsx := (kAk hI.has).2.1;obtain ⟨t, t1, t2, t3, t4, t5, t6⟩ := hD i hbi2;have h2 := kAR (M.fA.getD i noTh).fB.length (M.fA.getD i noTh).fmt
   have hI2 : Is H (i + 1) (T.getD i noTh) := by
    obtain ⟨q1, q2, q3, q4, q5, q6⟩ := h.alike.at_ i;exact ⟨hI.has, by rw [q2, q3]; exact hI.room, by rw [q4]; exact hI.cls, by rw [q2, q3]; exact hI.shape, by rw [q3]; exact hI.fmt, by rw [q2]; exact hI.len, by rw [q2, q3]; exact hI.word, by rw [q2, q3]; exact hI.byte⟩
   refine hI2.moved (T.getD i noTh).fJ ?_ ?_ ?_ ?_ ?_
   ·show (x.H.fD.getD (i + 1) (0, 0, 0)).1 = _; rw [t1]
   ·show (x.H.fD.getD (i + 1) (0, 0, 0)).2.1 ≠ 0; rw [t1]; show lenN _ _ ≠ 0; omega
   ·show i + 1 < x.H.fD.length; omega
   ·show _ ≤ MM.length; rw [hln]; omega
   ·intro d hd;rw [hln] at hd;show MM.getD _ 0 = _;rw [hM _ (by omega), t6 d hd, (hv.seat i (kAs hbi2) hbi2).1]
  count := by
   show x.H.count = kAG T T.length;rw [e6, hv.count, hTl, ← h.alike.fI _ (by omega)]
  fO := fun i hi hbi => by
   have hbi2 : (M.fA.getD i noTh).fI = true := by rw [← hb]; exact hbi
   obtain ⟨t, t1, t2, t3, t4, t5, t6⟩ := hD i hbi2;show (x.H.fD.getD (i + 1) (0, 0, 0)).2.2 < OO.length ∧ OO.getD (x.H.fD.getD (i + 1) (0, 0, 0)).2.2 0 = i + 1;rw [t1, hOl];exact ⟨t2, by rw [hO _ t2]; exact t3⟩
  fC := fun r hr hne => by
   have hr2 : r < x.turns := by rw [← hOl]; exact hr
   show OO.getD r 0 ≤ T.length ∧ (T.getD (OO.getD r 0 - 1) noTh).fI = true ∧ (x.H.fD.getD (OO.getD r 0) (0, 0, 0)).2.2 = r;obtain ⟨i, i1, i2, i3, i4⟩ := h.ord r hr2;have := kAs i2;rw [hO r hr2, i1, jAJ, hb];exact ⟨by omega, i2, i4⟩
  rise := fun i j hij hj _ _ => by
   have hj2 : j < x.turns := by rw [← hOl]; exact hj
   show (x.H.fD.getD (OO.getD i 0) (0, 0, 0)).1 + (x.H.fD.getD (OO.getD i 0) (0, 0, 0)).2.1 ≤ (x.H.fD.getD (OO.getD j 0) (0, 0, 0)).1;rw [hO i (by omega), hO j hj2];exact h.rise i j hij hj2
  gaps := fun p hp hc => by
   have hp2 : p < x.en := by rw [← hMl]; exact hp
   obtain ⟨i, i1, i2, i3, i4⟩ := h.cov p hp2;have hx : p < (T.getD i noTh).fJ ∨ (T.getD i noTh).fJ + lenN (T.getD i noTh).fB.length (T.getD i noTh).fmt ≤ p := hc i (by show i < T.length; have := kAs i1; omega) (by show (T.getD i noTh).fI = true; rw [hb]; exact i1);rw [hln] at hx;omega
  bit := fun j => by
   show (x.H.bits.getD (j / 64) 0).testBit (j % 64) = (T.getD j noTh).fI;rw [e4, hb];exact hv.bit j
  low := fun i hi => by
   show x.H.bits.getD i 0 = full;rw [e4];exact hv.low i (by rw [← e5]; exact hi)
  model := ⟨by show (T.length : Int) ≤ _; rw [hTl]; exact hv.model.len, fun i hi => by
    show ((T.getD i noTh).fB.length : Int) ≤ 8192;rw [(h.alike.at_ i).2.1];exact hv.model.fB i (by rw [← hTl]; exact hi), fun i hi => by
    show ((T.getD i noTh).fJ : Int) ≤ 1048576
    cases hbi : (M.fA.getD i noTh).fI with
    | true =>
     obtain ⟨t, t1, t2, t3, t4, t5, t6⟩ := hD i hbi;have := hsm.mem;omega
    | false =>
     rw [h.still i hbi];exact hv.model.fJ i (by rw [← hTl]; exact hi)⟩
  deep := fun j hj hne => by
   have hj2 : j < x.turns := by rw [← hOl]; exact hj
   show 2 * j ≤ (x.H.fD.getD (OO.getD j 0) (0, 0, 0)).1;obtain ⟨i, i1, i2, i3, i4⟩ := h.ord j hj2;obtain ⟨t, t1, t2, t3, t4, t5, t6⟩ := hD i i2;rw [hO j hj2, i1, t1];rw [t1] at i4;have i4' : t = j := i4;show 2 * j ≤ (T.getD i noTh).fJ;omega
  most := by show T.length ≤ M.fM; rw [hTl]; exact hv.most
  room := by show (x.H.fH : Int) ≤ _; rw [e1]; exact hv.room
  fin := by
   show MM.length = kAp T T.length;rw [hMl];refine (kCY T x.en _ (fun j hj hbj => ?_) ?_).symm
   ·rw [hb] at hbj;obtain ⟨t, t1, t2, t3, t4, t5, t6⟩ := hD j hbj;rw [hln];exact t4
   ·by_cases e : 0 < x.en
    ·obtain ⟨i, i1, i2, i3⟩ := h.top e;exact .inr ⟨i, by have := kAs i1; omega, by rw [hb]; exact i1, by rw [hln]; exact i3⟩
    ·exact .inl (by omega)
  last := fun j hj => by
   have hj2 : x.turns = j + 1 := by rw [← hOl]; exact hj
   show OO.getD j 0 ≠ 0;obtain ⟨i, i1, _⟩ := h.ord j (by omega);rw [hO j (by omega), i1];omega }
def kGr (t : Th) (b : Bool) : Th := { t with fI := t.fI && b }
def kBl (S : List Th) (ks : List Nat) : Nat → List Th
 | 0 => S
 | k + 1 => (kBl S ks k).set k (kGr (S.getD k noTh) (decide (k + 1 ∈ ks)))
theorem kEA (S : List Th) (ks : List Nat) : ∀ k, (kBl S ks k).length = S.length := by
 intro k
 induction k with
 | zero => rfl
 | succ k ih => show ((kBl S ks k).set k _).length = _; rw [jAL, ih]
theorem kEv (S : List Th) (ks : List Nat) : ∀ k, k ≤ S.length → ∀ i, (kBl S ks k).getD i noTh = if i < k then kGr (S.getD i noTh) (decide (i + 1 ∈ ks)) else S.getD i noTh := by
 intro k
 induction k with
 | zero => intro _ i; rw [jn (by omega)]; rfl
 | succ k ih =>
  intro hk i;show ((kBl S ks k).set k _).getD i noTh = _;rw [kAX _ _ _ _ (by rw [kEA]; omega)]
  by_cases e : i = k
  ·rw [jp e, jp (by omega), e]
  ·rw [jn e, ih (by omega) i]
   by_cases e2 : i < k
   ·rw [jp e2, jp (by omega)]
   ·rw [jn e2, jn (by omega)]
theorem th_ext {S : List Th} (hl : S.length = T.length) (h : ∀ i, i < S.length → S.getD i noTh = T.getD i noTh) : S = T := by
 apply List.ext_getElem hl
 intro i h1 h2;have := h i h1;rw [jAA, jAA, jAB h1, jAB h2] at this
 simpa using this
theorem InvV.vacs (hv : InvV H M) (ks : List Nat) : ∀ k, k ≤ H.fC.length → ∃ T : List Th, InvV (kAj H ks k) { M with fA := T } ∧ T.length = M.fA.length ∧
  (∀ i, T.getD i noTh = if (M.fA.getD i noTh).fI = true ∧ (H.fD.getD (i + 1) (0, 0, 0)).2.2 < k ∧ i + 1 ∉ ks then gone (M.fA.getD i noTh) else M.fA.getD i noTh) ∧
  (kAj H ks k).fC.length = H.fC.length ∧ (∀ r, k ≤ r → (kAj H ks k).fC.getD r 0 = H.fC.getD r 0) ∧ (kAj H ks k).fD.length = H.fD.length := by
 intro k
 induction k with
 | zero => intro _; exact ⟨M.fA, hv, rfl, fun i => by rw [jn (by omega)], rfl, fun _ _ => rfl, rfl⟩
 | succ k ih =>
  intro hk;obtain ⟨T, h1, h2, h3, h4, h5, h6⟩ := ih (by omega);have ho := h5 k (jAD _)
  have hat : ∀ i, (M.fA.getD i noTh).fI = true → (H.fD.getD (i + 1) (0, 0, 0)).2.2 = k → H.fC.getD k 0 = i + 1 := fun i hb e => by
   have := (hv.fO i (kAs hb) hb).2;rw [e] at this;exact this
  by_cases hc : (kAj H ks k).fC.getD k 0 ≠ 0 ∧ (kAj H ks k).fC.getD k 0 ∉ ks
  ·have e : kAj H ks (k + 1) = vacH (kAj H ks k) ((kAj H ks k).fC.getD k 0) := by
    show (if _ then _ else _) = _;rw [jp hc]
   rw [e];obtain ⟨c1, c2⟩ := hc;obtain ⟨o1, o2, o3⟩ := h1.fC k (by omega) c1;obtain ⟨u1, u2, u3⟩ := hv.fC k (by omega) (by rw [← ho]; exact c1);obtain ⟨i0, hi0⟩ : ∃ i0, (kAj H ks k).fC.getD k 0 = i0 + 1 := ⟨(kAj H ks k).fC.getD k 0 - 1, by omega⟩
   rw [ho] at hi0;rw [ho, hi0] at o1 o2 o3 c2;rw [hi0] at u1 u2 u3;rw [jAJ] at o2 u2;rw [ho, hi0];have hlt : i0 < T.length := o1;have hg := fun i => kAX T i0 i (gone (T.getD i0 noTh)) hlt
   have hvac := h1.vac i0 hlt o2;refine ⟨T.set i0 (gone (T.getD i0 noTh)), hvac, by rw [jAL]; exact h2, fun i => ?_, ?_, fun r hr => ?_, ?_⟩
   ·have hTi : T.getD i0 noTh = M.fA.getD i0 noTh := by
     rw [h3 i0, jn (fun hh => by omega)]
    rw [hg]
    by_cases e2 : i = i0
    ·rw [jp e2, hTi, e2, jp ⟨u2, by omega, c2⟩]
    ·rw [jn e2, h3 i]
     have hiff : ((M.fA.getD i noTh).fI = true ∧ (H.fD.getD (i + 1) (0, 0, 0)).2.2 < k ∧ i + 1 ∉ ks) ↔ ((M.fA.getD i noTh).fI = true ∧ (H.fD.getD (i + 1) (0, 0, 0)).2.2 < k + 1 ∧ i + 1 ∉ ks) := by
      refine ⟨fun q => ⟨q.1, by omega, q.2.2⟩, fun q => ⟨q.1, ?_, q.2.2⟩⟩;have q2 := q.2.1
      by_cases e3 : (H.fD.getD (i + 1) (0, 0, 0)).2.2 = k
      ·have := hat i q.1 e3; omega
      ·omega
     simp only [hiff]
   ·show ((kAj H ks k).fC.set _ 0).length = _; rw [jAL]; exact h4
   ·show ((kAj H ks k).fC.set ((kAj H ks k).fD.getD (i0 + 1) (0, 0, 0)).2.2 0).getD r 0 = _;rw [o3, kFd _ _ _ _ (by omega), jn (by omega)];exact h5 r (by omega)
   ·show ((kAj H ks k).fD.set _ _).length = _; rw [jAL]; exact h6
  ·have e : kAj H ks (k + 1) = kAj H ks k := by
    show (if _ then _ else _) = _;rw [jn hc]
   rw [e];refine ⟨T, h1, h2, fun i => ?_, h4, fun r hr => h5 r (by omega), h6⟩;rw [h3 i]
   have hiff : ((M.fA.getD i noTh).fI = true ∧ (H.fD.getD (i + 1) (0, 0, 0)).2.2 < k ∧ i + 1 ∉ ks) ↔ ((M.fA.getD i noTh).fI = true ∧ (H.fD.getD (i + 1) (0, 0, 0)).2.2 < k + 1 ∧ i + 1 ∉ ks) := by
    refine ⟨fun q => ⟨q.1, by omega, q.2.2⟩, fun q => ⟨q.1, ?_, q.2.2⟩⟩;have q2 := q.2.1
    by_cases e3 : (H.fD.getD (i + 1) (0, 0, 0)).2.2 = k
    ·have := hat i q.1 e3;exact absurd ⟨by rw [ho, this]; omega, by rw [ho, this]; exact q.2.2⟩ hc
    ·omega
   simp only [hiff]
theorem Inv.aged (h : Inv H M) (n : Nat) : Inv { H with age := n } M :=
 {safe := ⟨⟨h.safe.small.fH, h.safe.small.fM, h.safe.small.mem, h.safe.small.count, h.safe.small.mark⟩, h.safe.low, h.safe.bl, h.safe.bits, h.safe.fD, h.safe.fC⟩
  fH := h.fH, fM := h.fM, mark := h.mark, len := h.len, seat0 := h.seat0, fI := h.fI, seat := h.seat
  is := fun k hk hb => (h.is k hk hb).same rfl (by have := (kAk (h.is k hk hb).has).2.1; show k + 1 < H.fD.length; omega) (h.is k hk hb).room (fun _ _ _ => rfl)
  count := h.count, fO := h.fO, fC := h.fC, rise := h.rise, gaps := h.gaps, bit := h.bit, low := h.low, model := h.model, deep := h.deep, most := h.most, room := h.room, fin := h.fin, last := h.last }
def kDf (S : List Th) (ks : List Nat) : List Th := kBc (kBl S ks S.length) 0 (kAG (kBl S ks S.length) S.length)
theorem Inv.keep (h : Inv H M) (ks : List Nat) (hks : ∀ j ∈ ks, mhas M (j : Int) = true) (ha : H.age ≤ 1000000000) : kLR H ks ∧ Inv (kFf H ks) { M with fA := kDf M.fA ks } := by
 have hv := h.toInvV;have hsl : ∀ i, i < M.fA.length → (M.fA.getD i noTh).fI = true → i + 1 < H.fD.length := fun i hi hb => hv.seatIn i hi hb
 obtain ⟨T, h1, h2, h3, h4, h5, h6⟩ := hv.vacs ks H.fC.length (jAD _)
 have hT : T = kBl M.fA ks M.fA.length := by
  refine th_ext (by rw [h2, kEA]) (fun i hi => ?_);have e2 := kEv M.fA ks M.fA.length (jAD _) i;rw [jp (by omega)] at e2;rw [h3 i, e2]
  cases hb : (M.fA.getD i noTh).fI with
  | true =>
   have := (hv.fO i (by omega) hb).1
   by_cases hm : i + 1 ∈ ks
   ·rw [jn (fun hc => hc.2.2 hm)]
    simp [kGr, hm]
   ·rw [jp ⟨rfl, this, hm⟩]
    simp [kGr, gone, hm]
  | false =>
   rw [jn (fun hc => by cases hc.1)];generalize M.fA.getD i noTh = t at hb
   cases t
   simp only at hb;subst hb
   simp [kGr]
 refine ⟨⟨fun j hj => ?_, fun k hk hne => ?_, h1.slideOk, ?_, ?_, ?_, ?_, ha⟩, ?_⟩
 ·obtain ⟨i, i1, i2, i3⟩ := kAx (hks j hj);have e : j = i + 1 := by omega
  subst e;have := hsl i i2 i3;exact ⟨by omega, by omega, (hv.fI i i2).1 i3⟩
 ·obtain ⟨T', q1, q2, q3, q4, q5, q6⟩ := hv.vacs ks k (by omega);obtain ⟨o1, o2, o3⟩ := q1.fC k (by omega) hne;obtain ⟨i0, hi0⟩ : ∃ i0, (kAj H ks k).fC.getD k 0 = i0 + 1 := ⟨(kAj H ks k).fC.getD k 0 - 1, by omega⟩
  rw [hi0] at o1 o2 ⊢;rw [jAJ] at o2;have o1' : i0 + 1 ≤ T'.length := o1
  have o4 : (M.fA.getD i0 noTh).fI = true := by
   have o5 : (T'.getD i0 noTh).fI = true := o2;rw [q3 i0] at o5
   split at o5
   ·exact absurd o5 (by simp [gone])
   ·exact o5
  exact ⟨hsl i0 (by omega) o4, fun _ => q1.vacOk i0 o1' o2⟩
 ·have := hv.safe.small.mem; have := hv.safe.small.fH; omega
 ·have := hv.safe.fC; omega
 ·have := hv.safe.fD; omega
 ·have := hv.safe.small.count; have := hv.safe.small.fM; omega
 ·have hs := h1.slide
  have e : kBc ({ M with fA := T } : MS).fA 0 (kAG ({ M with fA := T } : MS).fA ({ M with fA := T } : MS).fA.length) = kDf M.fA ks := by
   show kBc T 0 (kAG T T.length) = _;rw [h2, hT];rfl
  rw [e] at hs;exact hs.aged _
theorem Inv.setMark (h : Inv H M) (n : Nat) (hn : (n : Int) ≤ 1073741824) : Inv { H with mark := n } { M with mark := n } :=
 {safe := ⟨⟨h.safe.small.fH, h.safe.small.fM, h.safe.small.mem, h.safe.small.count, hn⟩, h.safe.low, h.safe.bl, h.safe.bits, h.safe.fD, h.safe.fC⟩
  fH := h.fH, fM := h.fM, mark := rfl, len := h.len, seat0 := h.seat0, fI := h.fI, seat := h.seat
  is := fun k hk hb => (h.is k hk hb).same rfl (by have := (kAk (h.is k hk hb).has).2.1; show k + 1 < H.fD.length; omega) (h.is k hk hb).room (fun _ _ _ => rfl)
  count := h.count, fO := h.fO, fC := h.fC, rise := h.rise, gaps := h.gaps, bit := h.bit, low := h.low, model := ⟨h.model.len, h.model.fB, h.model.fJ⟩, deep := h.deep, most := h.most, room := h.room, fin := h.fin, last := h.last }
end Go.Proofs.YtflgicdbbogllaaGreatDoor
