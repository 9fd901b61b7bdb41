import Derived.Test.YtklfnjlenbgmoaaDoorPG10HInvA
set_option linter.unusedVariables false
namespace Go.Proofs.YtklfnjlenbgmoaaDoor
open Go.RowKit
theorem thereTo_congr (S T : List Th) (k : Nat) (h : ∀ j, j < k → (S.getD j noTh).there = (T.getD j noTh).there) (hs : k ≤ S.length) (ht : k ≤ T.length) : thereTo S k = thereTo T k := by
 induction k with
 | zero => rfl
 | succ k ih => rw [thereTo_succ S k (by omega), thereTo_succ T k (by omega), ih (fun j hj => h j (by omega)) (by omega) (by omega), h k (by omega)]
theorem thereTo_put (S : List Th) (q : Nat) (t : Th) (hq : q ≤ S.length) (hf : (S.getD q noTh).there = false) (ht : t.there = true) : thereTo (putTh S q t) (putTh S q t).length = thereTo S S.length + 1 := by
 have hg := fun i => putTh_get S q i t hq
 have hl := putTh_length S q t hq
 have hlow : ∀ k, k ≤ q → k ≤ S.length → thereTo (putTh S q t) k = thereTo S k := fun k h1 h2 => thereTo_congr _ _ k (fun j hj => by rw [hg j, if_neg (by omega)]) (by omega) h2
 by_cases hlt : q < S.length
 ·have hup : ∀ k, q + 1 ≤ k → k ≤ S.length → thereTo (putTh S q t) k = thereTo S k + 1 := by
   intro k
   induction k with
   | zero => intro h; omega
   | succ k ih =>
    intro h1 h2
    rw [thereTo_succ S k (by omega), thereTo_succ (putTh S q t) k (by omega), hg k]
    by_cases e : k = q
    ·rw [if_pos e, ht, hlow k (by omega) (by omega), e, hf]; simp
    ·rw [if_neg e, ih (by omega) (by omega)]; omega
  rw [show (putTh S q t).length = S.length from by omega]
  exact hup S.length (by omega) (Nat.le_refl _)
 ·have hqe : q = S.length := by omega
  rw [show (putTh S q t).length = S.length + 1 from by omega, thereTo_succ _ _ (by omega), hlow S.length (by omega) (Nat.le_refl _), hg, if_pos hqe.symm, ht]
  simp
theorem Inv.lay {H : HS} {M : MS} (h : Inv H M) (k : Nat) (hk : LowTo H.bits H.low k) (cl : Int) (n f : Nat) (p pt : Option Addr) (c ct : Nat) (hf : f ≤ 1) (hn : n ≤ 8192) (hr1 : H.count < H.oops) (hr2 : H.mem.length + lenN n f ≤ H.words) :
  Inv (layH { H with mark := H.mark - 1, low := k } (lowTo M.things) cl n f) { M with mark := M.mark - 1, things := putTh M.things (lowTo M.things - 1) ⟨true, cl, f, endTo M.things M.things.length, List.replicate n (newX f), p, c⟩, pt := pt, ct := ct } := by
 have hlow := lowTo_le M.things
 have hfree := lowTo_free M.things
 have hq1 := h.low_le
 obtain ⟨q, hq⟩ : ∃ q, lowTo M.things = q + 1 := ⟨lowTo M.things - 1, by omega⟩
 rw [hq] at hfree hq1 hlow ⊢
 rw [Nat.add_sub_cancel] at hfree hq1 ⊢
 rw [← h.fin]
 generalize ht : (⟨true, cl, f, H.mem.length, List.replicate n (newX f), p, c⟩ : Th) = t
 have t1 : t.there = true := by rw [← ht]
 have t2 : t.cls = cl := by rw [← ht]
 have t3 : t.fmt = f := by rw [← ht]
 have t4 : t.place = H.mem.length := by rw [← ht]
 have t5 : t.slots = List.replicate n (newX f) := by rw [← ht]
 have t6 : t.slots.length = n := by rw [t5]; simp
 have hqs : q ≤ M.things.length := by omega
 have hg := fun i => putTh_get M.things q i t hqs
 have hgl := putTh_length M.things q t hqs
 have hS : ∀ i, (layH { H with mark := H.mark - 1, low := k } (q + 1) cl n f).seats.getD i (0, 0, 0) = if i = q + 1 then (H.mem.length, lenN n f, H.order.length) else H.seats.getD i (0, 0, 0) := fun i => laySeat H.seats (q + 1) i _
 have hSl : (layH { H with mark := H.mark - 1, low := k } (q + 1) cl n f).seats.length = max H.seats.length (q + 2) := by
  show ((padSeats H.seats (q + 1 + 1)).set (q + 1) _).length = _
  unfold padSeats
  simp
  omega
 have hM : (layH { H with mark := H.mark - 1, low := k } (q + 1) cl n f).mem = H.mem ++ objCells cl n f := rfl
 have hMl : (H.mem ++ objCells cl n f).length = H.mem.length + lenN n f := by rw [List.length_append, objCells_len cl n f hf]
 have hO : (layH { H with mark := H.mark - 1, low := k } (q + 1) cl n f).order = H.order ++ [q + 1] := rfl
 have hOg : ∀ j, (H.order ++ [q + 1]).getD j 0 = if j = H.order.length then q + 1 else H.order.getD j 0 := fun j => by
  rw [List.getD_eq_getElem?_getD, List.getD_eq_getElem?_getD]
  by_cases e : j = H.order.length
  ·rw [if_pos e, e, List.getElem?_append_right (Nat.le_refl _)]; simp
  ·rw [if_neg e]
   by_cases hl : j < H.order.length
   ·rw [List.getElem?_append_left hl]
   ·rw [List.getElem?_eq_none (by simp; omega), List.getElem?_eq_none (by omega)]
 have hin : ∀ i, i < (putTh M.things q t).length → i ≠ q → i < M.things.length := fun i h1 h2 => (putTh_len M.things q t hqs).2 i h1 h2
 have hL := h.len
 have hsm := h.safe.small
 have ho := hsm.oops
 have hw := hsm.words
 have hshort := h.short
 have hl2 := lenN_two n f
 have hmost := h.most
 have hoo := h.oops
 have hend : ∀ i, i < M.things.length → (M.things.getD i noTh).there = true → (M.things.getD i noTh).place + lenN (M.things.getD i noTh).slots.length (M.things.getD i noTh).fmt ≤ H.mem.length := fun i h1 h2 => by rw [h.fin]; exact endTo_ge M.things _ i h1 h2
 exact {
  safe := ⟨⟨hw, ho, by rw [hM, hMl]; show ((H.mem.length + lenN n f : Nat) : Int) ≤ (H.words : Int); omega, by show ((H.count + 1 : Nat) : Int) ≤ (H.oops : Int); omega, by show ((H.mark - 1 : Nat) : Int) ≤ _; have := hsm.mark; omega⟩,
   by show k ≤ (addBits H.bits (q + 1)).length; rw [addBits_len]; have := hk.le; omega,
   by show ((addBits H.bits (q + 1)).length : Int) ≤ 1024; rw [addBits_len]; have := h.safe.bl; omega,
   fun i => addBits_le H.bits (q + 1) h.safe.bits i, by rw [hSl]; have := h.safe.seats; omega,
   by rw [hO]; simp only [List.length_append, List.length_singleton]; omega⟩
  words := h.words
  oops := h.oops
  mark := by show H.mark - 1 = M.mark - 1; rw [h.mark]
  len := by
   rw [hSl]
   show max H.seats.length (q + 2) ≤ (putTh M.things q t).length + 1
   rw [hgl]
   omega
  seat0 := by rw [hS, if_neg (by omega)]; exact h.seat0
  there := fun i hi => by
   show (((putTh M.things q t).getD i noTh).there = true ↔ _)
   rw [hg i, hS (i + 1)]
   by_cases e : i = q
   ·rw [if_pos e, if_pos (by omega)]; simp only [t1, true_iff]; show lenN n f ≠ 0; omega
   ·rw [if_neg e, if_neg (by omega)]; exact h.there i (hin i hi e)
  seat := fun i hi hb => by
   have hb2 : ((putTh M.things q t).getD i noTh).there = true := hb
   show _ = ((putTh M.things q t).getD i noTh).place ∧ _ = lenN ((putTh M.things q t).getD i noTh).slots.length ((putTh M.things q t).getD i noTh).fmt
   rw [hg i] at hb2 ⊢
   rw [hS (i + 1)]
   by_cases e : i = q
   ·rw [if_pos e, if_pos (by omega), t4, t6, t3]; exact ⟨rfl, rfl⟩
   ·rw [if_neg e] at hb2 ⊢; rw [if_neg (by omega)]; exact h.seat i (hin i hi e) hb2
  is := fun i hi hb => by
   have hb2 : ((putTh M.things q t).getD i noTh).there = true := hb
   show Is _ (i + 1) ((putTh M.things q t).getD i noTh)
   rw [hg i] at hb2 ⊢
   by_cases e : i = q
   ·rw [if_pos e, e]; exact is_laid _ q cl n f t hf hn t2 t3 t5
   ·rw [if_neg e] at hb2 ⊢
    have hi2 := hin i hi e
    have hI := h.is i hi2 hb2
    have hr := hI.room
    refine hI.same (by rw [hS, if_neg (by omega)]) (by rw [hSl]; have := (has_yes hI.has).2.1; omega) (by rw [hM, hMl]; omega) (fun x h1 h2 => by rw [hM]; exact getD_left _ _ x (by omega))
  count := by show H.count + 1 = thereTo (putTh M.things q t) (putTh M.things q t).length; rw [thereTo_put M.things q t hqs hfree.1 t1, h.count]
  fin := by
   rw [hM, hMl]
   show _ = endTo (putTh M.things q t) (putTh M.things q t).length
   refine (endTo_is _ _ _ (fun j hj hb => ?_) (.inr ⟨q, by omega, by rw [hg, if_pos rfl]; exact t1, by rw [hg, if_pos rfl, t4, t6, t3]⟩)).symm
   rw [hg j] at hb ⊢
   by_cases e : j = q
   ·rw [if_pos e, t4, t6, t3]; exact Nat.le_refl _
   ·rw [if_neg e] at hb ⊢
    have := hend j (hin j hj e) hb
    omega
  turn := fun i hi hb => by
   have hb2 : ((putTh M.things q t).getD i noTh).there = true := hb
   rw [hg i] at hb2
   rw [hS (i + 1), hO, hOg]
   by_cases e : i = q
   ·rw [if_pos (by omega)]; simp; omega
   ·rw [if_neg e] at hb2
    rw [if_neg (by omega)]
    have := h.turn i (hin i hi e) hb2
    rw [if_neg (by omega)]
    exact ⟨by rw [List.length_append, List.length_singleton]; omega, this.2⟩
  order := fun j hj hne => by
   rw [hO] at hj hne ⊢
   show _ ≤ (putTh M.things q t).length ∧ ((putTh M.things q t).getD _ noTh).there = true ∧ _
   rw [hOg] at hne ⊢
   by_cases e : j = H.order.length
   ·rw [if_pos e, hS, if_pos rfl, hg, if_pos (by omega)]
    exact ⟨by omega, t1, e.symm⟩
   ·rw [if_neg e] at hne ⊢
    simp at hj
    obtain ⟨o1, o2, o3⟩ := h.order j (by omega) hne
    have hne2 : H.order.getD j 0 ≠ q + 1 := fun e2 => by
     rw [e2, Nat.add_sub_cancel, hfree.1] at o2
     simp at o2
    rw [hS, if_neg hne2, hg, if_neg (by omega)]
    exact ⟨by omega, o2, o3⟩
  rise := fun i j hij hj hi0 hj0 => by
   rw [hO] at hj hi0 hj0 ⊢
   rw [hOg] at hi0 hj0 ⊢
   rw [hOg j]
   simp at hj
   rw [if_neg (by omega)] at hi0 ⊢
   obtain ⟨o1, o2, o3⟩ := h.order i (by omega) hi0
   have hne2 : H.order.getD i 0 ≠ q + 1 := fun e2 => by
    rw [e2, Nat.add_sub_cancel, hfree.1] at o2
    simp at o2
   rw [hS, if_neg hne2, hS]
   by_cases e : j = H.order.length
   ·rw [if_pos e, if_pos rfl]
    have hI := h.seat (H.order.getD i 0 - 1) (by omega) o2
    have := hend (H.order.getD i 0 - 1) (by omega) o2
    rw [show H.order.getD i 0 - 1 + 1 = H.order.getD i 0 from by omega] at hI
    show _ ≤ H.mem.length
    omega
   ·rw [if_neg e] at hj0 ⊢
    obtain ⟨p1, p2, p3⟩ := h.order j (by omega) hj0
    have hne3 : H.order.getD j 0 ≠ q + 1 := fun e2 => by
     rw [e2, Nat.add_sub_cancel, hfree.1] at p2
     simp at p2
    rw [if_neg hne3]
    exact h.rise i j hij (by omega) hi0 hj0
  last := fun j hj => by
   rw [hO] at hj ⊢
   simp at hj
   rw [hOg, if_pos (by omega)]
   omega
  gaps := fun x hx hc => by
   rw [hM] at hx ⊢
   rw [hMl] at hx
   by_cases hlt : x < H.mem.length
   ·rw [getD_left _ _ x hlt]
    refine h.gaps x hlt (fun i hi hb => ?_)
    have hiq : i ≠ q := fun e => by rw [e, hfree.1] at hb; simp at hb
    have := hc i (by show i < (putTh M.things q t).length; omega) (by show ((putTh M.things q t).getD i noTh).there = true; rw [hg, if_neg hiq]; exact hb)
    have h3 : x < ((putTh M.things q t).getD i noTh).place ∨ ((putTh M.things q t).getD i noTh).place + lenN ((putTh M.things q t).getD i noTh).slots.length ((putTh M.things q t).getD i noTh).fmt ≤ x := this
    rw [hg, if_neg hiq] at h3
    exact h3
   ·have := hc q (by show q < (putTh M.things q t).length; omega) (by show ((putTh M.things q t).getD q noTh).there = true; rw [hg, if_pos rfl]; exact t1)
    have h3 : x < ((putTh M.things q t).getD q noTh).place ∨ ((putTh M.things q t).getD q noTh).place + lenN ((putTh M.things q t).getD q noTh).slots.length ((putTh M.things q t).getD q noTh).fmt ≤ x := this
    rw [hg, if_pos rfl, t4, t6, t3] at h3
    omega
  bit := fun j => by
   show ((addBits H.bits (q + 1)).getD (j / 64) 0).testBit (j % 64) = ((putTh M.things q t).getD j noTh).there
   rw [addBits_bit H.bits (q + 1) j (by omega), hg, Nat.add_sub_cancel]
   split
   ·exact t1.symm
   ·exact h.bit j
  low := fun i hi => by
   have hi2 : i < k := hi
   show (addBits H.bits (q + 1)).getD i 0 = full
   have hb : H.bits.getD i 0 = full := by
    by_cases hl : i < H.low
    ·exact h.low i hl
    ·exact hk.ful i (by omega) hi2
   have h1 := addBits_le H.bits (q + 1) h.safe.bits i
   rw [addBits_getD] at h1 ⊢
   split
   ·rw [if_pos (by assumption)] at h1
    have := Nat.left_le_or (n := H.bits.getD i 0) (m := 2 ^ ((q + 1 - 1) % 64))
    omega
   ·exact hb
  model := ⟨by show ((putTh M.things q t).length : Int) ≤ 65538; have := h.model.len; omega, fun i hi => by
    show (((putTh M.things q t).getD i noTh).slots.length : Int) ≤ 8192
    rw [hg]
    split
    ·rw [t6]; omega
    ·rename_i e; exact h.model.slots i (hin i hi e), fun i hi => by
    show (((putTh M.things q t).getD i noTh).place : Int) ≤ 1048576
    rw [hg]
    split
    ·rw [t4]; have := h.room; omega
    ·rename_i e; exact h.model.place i (hin i hi e)⟩
  deep := fun j hj hne => by
   rw [hO] at hj hne ⊢
   rw [hOg] at hne ⊢
   by_cases e : j = H.order.length
   ·rw [if_pos e, hS, if_pos rfl]
    show 2 * j ≤ H.mem.length
    omega
   ·rw [if_neg e] at hne ⊢
    simp at hj
    obtain ⟨o1, o2, o3⟩ := h.order j (by omega) hne
    have hne2 : H.order.getD j 0 ≠ q + 1 := fun e2 => by
     rw [e2, Nat.add_sub_cancel, hfree.1] at o2
     simp at o2
    rw [hS, if_neg hne2]
    exact h.deep j (by omega) hne
  most := by show (putTh M.things q t).length ≤ M.oops; omega
  room := h.room }
theorem Inv.apart {H : HS} {M : MS} (h : Inv H M) (i j : Nat) (hi : i < M.things.length) (hj : j < M.things.length) (bi : (M.things.getD i noTh).there = true) (bj : (M.things.getD j noTh).there = true) (hne : i ≠ j) :
  (M.things.getD i noTh).place + lenN (M.things.getD i noTh).slots.length (M.things.getD i noTh).fmt ≤ (M.things.getD j noTh).place ∨ (M.things.getD j noTh).place + lenN (M.things.getD j noTh).slots.length (M.things.getD j noTh).fmt ≤ (M.things.getD i noTh).place := by
 obtain ⟨a1, a2⟩ := h.turn i hi bi
 obtain ⟨b1, b2⟩ := h.turn j hj bj
 obtain ⟨s1, s2⟩ := h.seat i hi bi
 obtain ⟨s3, s4⟩ := h.seat j hj bj
 generalize (H.seats.getD (i + 1) (0, 0, 0)).2.2 = x at *
 generalize (H.seats.getD (j + 1) (0, 0, 0)).2.2 = y at *
 rcases Nat.lt_trichotomy x y with e | e | e
 ·have := h.rise x y e b1 (by omega) (by omega)
  rw [a2, b2] at this
  omega
 ·subst e; omega
 ·have := h.rise y x e a1 (by omega) (by omega)
  rw [a2, b2] at this
  omega
theorem endTo_congr (S T : List Th) : ∀ k, (∀ j, j < k → (S.getD j noTh).there = (T.getD j noTh).there ∧ (S.getD j noTh).place = (T.getD j noTh).place ∧ (S.getD j noTh).slots.length = (T.getD j noTh).slots.length ∧ (S.getD j noTh).fmt = (T.getD j noTh).fmt) → endTo S k = endTo T k := by
 intro k
 induction k with
 | zero => intro _; rfl
 | succ k ih =>
  intro h
  obtain ⟨h1, h2, h3, h4⟩ := h k (by omega)
  rw [endTo_succ, endTo_succ, ih fun j hj => h j (by omega), h1, h2, h3, h4]
theorem Inv.poke {H : HS} {M : MS} (h : Inv H M) (k : Nat) (hk : k < M.things.length) (hb : (M.things.getD k noTh).there = true) (mem : List Int) (hl : mem.length = H.mem.length) (t : Th)
  (t1 : t.there = true) (t2 : t.place = (M.things.getD k noTh).place) (t3 : t.fmt = (M.things.getD k noTh).fmt) (t4 : t.slots.length = (M.things.getD k noTh).slots.length) (hI : Is { H with mem := mem } (k + 1) t)
  (hm : ∀ x, x < (M.things.getD k noTh).place ∨ (M.things.getD k noTh).place + lenN (M.things.getD k noTh).slots.length (M.things.getD k noTh).fmt ≤ x → mem.getD x 0 = H.mem.getD x 0) :
  Inv { H with mem := mem } { M with things := M.things.set k t } := by
 have hg := fun i => getD_set M.things k i t hk
 have hgl : (M.things.set k t).length = M.things.length := List.length_set ..
 have ha : ∀ i, ((M.things.set k t).getD i noTh).there = (M.things.getD i noTh).there ∧ ((M.things.set k t).getD i noTh).place = (M.things.getD i noTh).place ∧ ((M.things.set k t).getD i noTh).slots.length = (M.things.getD i noTh).slots.length ∧ ((M.things.set k t).getD i noTh).fmt = (M.things.getD i noTh).fmt := fun i => by
  rw [hg i]
  split
  ·rename_i e; rw [e, t1, hb]; exact ⟨rfl, t2, t4, t3⟩
  ·exact ⟨rfl, rfl, rfl, rfl⟩
 have hsm := h.safe.small
 exact {
  safe := ⟨⟨hsm.words, hsm.oops, by show (mem.length : Int) ≤ _; rw [hl]; exact hsm.mem, hsm.count, hsm.mark⟩, h.safe.low, h.safe.bl, h.safe.bits, h.safe.seats, h.safe.order⟩
  words := h.words
  oops := h.oops
  mark := h.mark
  len := by show H.seats.length ≤ (M.things.set k t).length + 1; rw [hgl]; exact h.len
  seat0 := h.seat0
  there := fun i hi => by show (((M.things.set k t).getD i noTh).there = true ↔ _); rw [(ha i).1]; exact h.there i (by rw [← hgl]; exact hi)
  seat := fun i hi hbi => by
   have hb2 : ((M.things.set k t).getD i noTh).there = true := hbi
   show _ = ((M.things.set k t).getD i noTh).place ∧ _ = lenN ((M.things.set k t).getD i noTh).slots.length ((M.things.set k t).getD i noTh).fmt
   rw [(ha i).1] at hb2
   rw [(ha i).2.1, (ha i).2.2.1, (ha i).2.2.2]
   exact h.seat i (by rw [← hgl]; exact hi) hb2
  is := fun i hi hbi => by
   have hb2 : ((M.things.set k t).getD i noTh).there = true := hbi
   have hi2 : i < M.things.length := by rw [← hgl]; exact hi
   rw [(ha i).1] at hb2
   show Is _ (i + 1) ((M.things.set k t).getD i noTh)
   rw [hg i]
   by_cases e : i = k
   ·rw [if_pos e, e]; exact hI
   ·rw [if_neg e]
    have hIs := h.is i hi2 hb2
    have hap := h.apart i k hi2 hk hb2 hb e
    obtain ⟨s1, s2⟩ := h.seat i hi2 hb2
    exact hIs.same rfl (by have := (has_yes hIs.has).2.1; show i + 1 < H.seats.length; omega) (by show _ ≤ mem.length; rw [hl]; exact hIs.room) (fun x h1 h2 => hm x (by omega))
  count := by show H.count = thereTo (M.things.set k t) (M.things.set k t).length; rw [h.count, hgl]; exact thereTo_congr _ _ _ (fun j _ => (ha j).1.symm) (Nat.le_refl _) (by rw [hgl]; exact Nat.le_refl _)
  fin := by show mem.length = endTo (M.things.set k t) (M.things.set k t).length; rw [hl, h.fin, hgl]; exact (endTo_congr _ _ _ fun j _ => ha j).symm
  turn := fun i hi hbi => by
   have hb2 : ((M.things.set k t).getD i noTh).there = true := hbi
   rw [(ha i).1] at hb2
   exact h.turn i (by rw [← hgl]; exact hi) hb2
  order := fun j hj hne => by
   show _ ≤ (M.things.set k t).length ∧ ((M.things.set k t).getD _ noTh).there = true ∧ _
   rw [hgl, (ha _).1]
   exact h.order j hj hne
  rise := h.rise
  last := h.last
  gaps := fun x hx hc => by
   have hx2 : x < H.mem.length := by rw [← hl]; exact hx
   have hc2 : ∀ i, i < M.things.length → (M.things.getD i noTh).there = true → x < (M.things.getD i noTh).place ∨ (M.things.getD i noTh).place + lenN (M.things.getD i noTh).slots.length (M.things.getD i noTh).fmt ≤ x := fun i hi hbi => by
    have h3 : x < ((M.things.set k t).getD i noTh).place ∨ ((M.things.set k t).getD i noTh).place + lenN ((M.things.set k t).getD i noTh).slots.length ((M.things.set k t).getD i noTh).fmt ≤ x := hc i (by show i < (M.things.set k t).length; rw [hgl]; exact hi) (by show ((M.things.set k t).getD i noTh).there = true; rw [(ha i).1]; exact hbi)
    rw [(ha i).2.1, (ha i).2.2.1, (ha i).2.2.2] at h3
    exact h3
   show mem.getD x 0 = 0
   rw [hm x (hc2 k hk hb)]
   exact h.gaps x hx2 hc2
  bit := fun j => by show _ = ((M.things.set k t).getD j noTh).there; rw [(ha j).1]; exact h.bit j
  low := h.low
  model := ⟨by show ((M.things.set k t).length : Int) ≤ _; rw [hgl]; exact h.model.len, fun i hi => by
    show (((M.things.set k t).getD i noTh).slots.length : Int) ≤ 8192
    rw [(ha i).2.2.1]; exact h.model.slots i (by rw [← hgl]; exact hi), fun i hi => by
    show (((M.things.set k t).getD i noTh).place : Int) ≤ 1048576
    rw [(ha i).2.1]; exact h.model.place i (by rw [← hgl]; exact hi)⟩
  deep := h.deep
  most := by show (M.things.set k t).length ≤ M.oops; rw [hgl]; exact h.most
  room := h.room }
def sw (x y k : Nat) : Nat := if k = x then y else if k = y then x else k
theorem sw_sw (x y k : Nat) : sw x y (sw x y k) = k := by unfold sw; (repeat' split) <;> omega
def sw1 (x y o : Nat) : Nat := if o = x + 1 then y + 1 else if o = y + 1 then x + 1 else o
theorem sw1_succ (x y k : Nat) : sw1 x y (k + 1) = sw x y k + 1 := by unfold sw1 sw; (repeat' split) <;> omega
theorem sw1_sw1 (x y o : Nat) : sw1 x y (sw1 x y o) = o := by unfold sw1; (repeat' split) <;> omega
theorem sw1_zero (x y o : Nat) : sw1 x y o = 0 ↔ o = 0 := by unfold sw1; (repeat' split) <;> omega
theorem exch_seat (S : List (Nat × Nat × Nat)) (x y o : Nat) (hx : x + 1 < S.length) (hy : y + 1 < S.length) : ((S.set (x + 1) (S.getD (y + 1) (0, 0, 0))).set (y + 1) (S.getD (x + 1) (0, 0, 0))).getD o (0, 0, 0) = S.getD (sw1 x y o) (0, 0, 0) := by
 rw [List.getD_eq_getElem?_getD, List.getElem?_set, List.getElem?_set, List.length_set]
 unfold sw1
 by_cases h1 : o = y + 1
 ·rw [if_pos h1.symm, if_pos (by omega)]
  by_cases h2 : o = x + 1
  ·rw [if_pos h2, show y = x from by omega]; rfl
  ·rw [if_neg h2, if_pos h1]; rfl
 ·rw [if_neg (fun e => h1 e.symm)]
  by_cases h2 : o = x + 1
  ·rw [if_pos h2.symm, if_pos (by omega), if_pos h2]; rfl
  ·rw [if_neg (fun e => h2 e.symm), if_neg h2, if_neg h1, List.getD_eq_getElem?_getD]
theorem exch_th (S : List Th) (x y k : Nat) (hx : x < S.length) (hy : y < S.length) : ((S.set x (S.getD y noTh)).set y (S.getD x noTh)).getD k noTh = S.getD (sw x y k) noTh := by
 rw [getD_set _ _ _ _ (by rw [List.length_set]; exact hy), getD_set _ _ _ _ hx]
 unfold sw
 by_cases h1 : k = y
 ·rw [if_pos h1]
  by_cases h2 : k = x
  ·rw [if_pos h2, show y = x from by omega]
  ·rw [if_neg h2, if_pos h1]
 ·rw [if_neg h1]
  by_cases h2 : k = x
  ·rw [if_pos h2, if_pos h2]
  ·rw [if_neg h2, if_neg h2, if_neg h1]
theorem sw_lt {x y k n : Nat} (hx : x < n) (hy : y < n) (hk : k < n) : sw x y k < n := by unfold sw; (repeat' split) <;> omega
theorem Inv.exch {H : HS} {M : MS} (h : Inv H M) (x y : Nat) (hx : x < M.things.length) (hy : y < M.things.length) (bx : (M.things.getD x noTh).there = true) (by_ : (M.things.getD y noTh).there = true) :
  Inv (exchH H (x + 1) (y + 1)) { M with things := (M.things.set x (M.things.getD y noTh)).set y (M.things.getD x noTh) } := by
 have hLx := h.seatIn x hx bx
 have hLy := h.seatIn y hy by_
 have hS : ∀ o, (exchH H (x + 1) (y + 1)).seats.getD o (0, 0, 0) = H.seats.getD (sw1 x y o) (0, 0, 0) := fun o => exch_seat H.seats x y o (by omega) (by omega)
 have hSl : (exchH H (x + 1) (y + 1)).seats.length = H.seats.length := by show ((H.seats.set _ _).set _ _).length = _; rw [List.length_set, List.length_set]
 have hg : ∀ k, ((M.things.set x (M.things.getD y noTh)).set y (M.things.getD x noTh)).getD k noTh = M.things.getD (sw x y k) noTh := fun k => exch_th M.things x y k hx hy
 have hgl : ((M.things.set x (M.things.getD y noTh)).set y (M.things.getD x noTh)).length = M.things.length := by rw [List.length_set, List.length_set]
 generalize ((M.things.set x (M.things.getD y noTh)).set y (M.things.getD x noTh)) = T at *
 have hth : ∀ k, (T.getD k noTh).there = (M.things.getD k noTh).there := fun k => by
  rw [hg k]; unfold sw
  split
  ·rename_i e; rw [e, bx, by_]
  ·split
   ·rename_i e; rw [e, bx, by_]
   ·rfl
 obtain ⟨a1, a2⟩ := h.turn x hx bx
 obtain ⟨b1, b2⟩ := h.turn y hy by_
 have hOl : (exchH H (x + 1) (y + 1)).order.length = H.order.length := by show ((H.order.set _ _).set _ _).length = _; rw [List.length_set, List.length_set]
 have hO : ∀ r, (exchH H (x + 1) (y + 1)).order.getD r 0 = sw1 x y (H.order.getD r 0) := fun r => by
  show ((H.order.set (H.seats.getD (y + 1) (0, 0, 0)).2.2 (x + 1)).set (H.seats.getD (x + 1) (0, 0, 0)).2.2 (y + 1)).getD r 0 = _
  rw [List.getD_eq_getElem?_getD, List.getElem?_set, List.getElem?_set, List.length_set]
  by_cases h1 : (H.seats.getD (x + 1) (0, 0, 0)).2.2 = r
  ·rw [if_pos h1, if_pos (by omega), ← h1, a2]; unfold sw1; rw [if_pos rfl]; rfl
  ·rw [if_neg h1]
   by_cases h2 : (H.seats.getD (y + 1) (0, 0, 0)).2.2 = r
   ·rw [if_pos h2, if_pos (by omega), ← h2, b2]; unfold sw1
    split
    ·rename_i e; rw [e]; rfl
    ·rw [if_pos rfl]; rfl
   ·rw [if_neg h2, ← List.getD_eq_getElem?_getD]
    unfold sw1
    by_cases hr : r < H.order.length
    ·by_cases h0 : H.order.getD r 0 = 0
     ·rw [h0, if_neg (by omega), if_neg (by omega)]
     ·obtain ⟨o1, o2, o3⟩ := h.order r hr h0
      rw [if_neg (fun e => h1 (by rw [← e]; exact o3)), if_neg (fun e => h2 (by rw [← e]; exact o3))]
    ·rw [List.getD_eq_getElem?_getD, List.getElem?_eq_none (by omega)]
     simp
 have hsm := h.safe.small
 have hback : ∀ k, k < T.length → sw x y k < M.things.length := fun k hk => sw_lt hx hy (by omega)
 exact {
  safe := ⟨⟨hsm.words, hsm.oops, hsm.mem, hsm.count, hsm.mark⟩, h.safe.low, h.safe.bl, h.safe.bits, by rw [hSl]; exact h.safe.seats, by rw [hOl]; exact h.safe.order⟩
  words := h.words
  oops := h.oops
  mark := h.mark
  len := by rw [hSl]; show _ ≤ T.length + 1; rw [hgl]; exact h.len
  seat0 := by rw [hS]; exact h.seat0
  there := fun k hk => by show ((T.getD k noTh).there = true ↔ _); rw [hS, sw1_succ, hg]; exact h.there _ (hback k hk)
  seat := fun k hk hb => by
   have hb2 : (T.getD k noTh).there = true := hb
   show _ = (T.getD k noTh).place ∧ _ = lenN (T.getD k noTh).slots.length (T.getD k noTh).fmt
   rw [hg] at hb2 ⊢
   rw [hS, sw1_succ]
   exact h.seat _ (hback k hk) hb2
  is := fun k hk hb => by
   have hb2 : (T.getD k noTh).there = true := hb
   show Is _ (k + 1) (T.getD k noTh)
   rw [hg] at hb2 ⊢
   have hI := h.is _ (hback k hk) hb2
   have e : (exchH H (x + 1) (y + 1)).seats.getD (k + 1) (0, 0, 0) = H.seats.getD (sw x y k + 1) (0, 0, 0) := by rw [hS, sw1_succ]
   obtain ⟨c1, c2, c3⟩ := has_yes hI.has
   have hk2 : k < T.length := hk
   have hsk := h.seatIn k (by omega) (by rw [← hth k]; exact hb)
   refine ⟨decide_eq_true ⟨by omega, by rw [hSl]; omega, by simp only [Int.toNat_natCast]; rw [e]; exact c3⟩, by rw [e]; exact hI.room, by rw [e]; exact hI.cls, by rw [e]; exact hI.shape, hI.fmt, hI.len, by rw [e]; exact hI.word, by rw [e]; exact hI.byte⟩
  count := by show H.count = thereTo T T.length; rw [h.count, hgl]; exact thereTo_congr _ _ _ (fun j _ => (hth j).symm) (Nat.le_refl _) (by omega)
  fin := by
   show H.mem.length = endTo T T.length
   refine (endTo_is T _ _ (fun j hj hb => ?_) ?_).symm
   ·rw [hg] at hb ⊢
    rw [h.fin]
    exact endTo_ge M.things _ _ (hback j hj) hb
   ·have hlast : H.order.length ≠ 0 := by omega
    obtain ⟨r, hr⟩ : ∃ r, H.order.length = r + 1 := ⟨H.order.length - 1, by omega⟩
    have hE : ∀ k, k ≤ M.things.length → endTo M.things k = 0 ∨ ∃ j, j < k ∧ (M.things.getD j noTh).there = true ∧ (M.things.getD j noTh).place + lenN (M.things.getD j noTh).slots.length (M.things.getD j noTh).fmt = endTo M.things k := by
     intro k
     induction k with
     | zero => intro _; exact .inl rfl
     | succ k ih =>
      intro hk
      rw [endTo_succ]
      split
      ·rename_i hc; exact .inr ⟨k, by omega, hc.1, rfl⟩
      ·rcases ih (by omega) with e | ⟨j, j1, j2⟩
       ·exact .inl e
       ·exact .inr ⟨j, by omega, j2⟩
    rcases hE M.things.length (Nat.le_refl _) with e | ⟨j, j1, j2, j3⟩
    ·exact .inl (by rw [h.fin]; exact e)
    ·refine .inr ⟨sw x y j, by rw [hgl]; exact sw_lt hx hy j1, ?_, ?_⟩
     ·rw [hg, sw_sw]; exact j2
     ·rw [hg, sw_sw, j3, h.fin]
  turn := fun k hk hb => by
   have hb2 : (T.getD k noTh).there = true := hb
   rw [hg] at hb2
   rw [hS, sw1_succ, hOl, hO]
   obtain ⟨c1, c2⟩ := h.turn _ (hback k hk) hb2
   rw [c2, sw1_succ, sw_sw]
   exact ⟨c1, rfl⟩
  order := fun r hr hne => by
   rw [hOl] at hr
   rw [hO] at hne ⊢
   have h0 : H.order.getD r 0 ≠ 0 := fun e => hne ((sw1_zero _ _ _).2 e)
   obtain ⟨o1, o2, o3⟩ := h.order r hr h0
   obtain ⟨o, ho⟩ : ∃ o, H.order.getD r 0 = o + 1 := ⟨H.order.getD r 0 - 1, by omega⟩
   rw [ho] at o1 o2 o3 ⊢
   rw [hS, sw1_sw1, sw1_succ, Nat.add_sub_cancel]
   show _ ≤ T.length ∧ (T.getD _ noTh).there = true ∧ _
   rw [hg, sw_sw]
   refine ⟨?_, by simpa using o2, o3⟩
   have := sw_lt hx hy (show o < M.things.length by omega)
   omega
  rise := fun i j hij hj hi0 hj0 => by
   rw [hOl] at hj
   rw [hO] at hi0 hj0
   rw [hO, hO, hS, hS, sw1_sw1, sw1_sw1]
   exact h.rise i j hij hj (fun e => hi0 ((sw1_zero _ _ _).2 e)) (fun e => hj0 ((sw1_zero _ _ _).2 e))
  last := fun j hj => by
   rw [hOl] at hj
   rw [hO]
   exact fun e => h.last j hj ((sw1_zero _ _ _).1 e)
  gaps := fun q hq hc => by
   refine h.gaps q hq (fun k hk hb => ?_)
   have h3 : q < (T.getD (sw x y k) noTh).place ∨ (T.getD (sw x y k) noTh).place + lenN (T.getD (sw x y k) noTh).slots.length (T.getD (sw x y k) noTh).fmt ≤ q := hc (sw x y k) (by show _ < T.length; rw [hgl]; exact sw_lt hx hy hk) (by show (T.getD (sw x y k) noTh).there = true; rw [hg, sw_sw]; exact hb)
   rw [hg, sw_sw] at h3
   exact h3
  bit := fun k => by show _ = (T.getD k noTh).there; rw [hth]; exact h.bit k
  low := h.low
  model := ⟨by show (T.length : Int) ≤ _; rw [hgl]; exact h.model.len, fun k hk => by show ((T.getD k noTh).slots.length : Int) ≤ _; rw [hg]; exact h.model.slots _ (hback k hk), fun k hk => by show ((T.getD k noTh).place : Int) ≤ _; rw [hg]; exact h.model.place _ (hback k hk)⟩
  deep := fun j hj hne => by
   rw [hOl] at hj
   rw [hO] at hne
   rw [hO, hS, sw1_sw1]
   exact h.deep j hj (fun e => hne ((sw1_zero _ _ _).2 e))
  most := by show T.length ≤ M.oops; rw [hgl]; exact h.most
  room := h.room }
def gone (t : Th) : Th := { t with there := false }
theorem remBits_getD (bits : List Nat) (k i : Nat) (h : k / 64 < bits.length) : (remBits bits (k + 1)).getD i 0 = if i = k / 64 then bits.getD i 0 &&& (full - 2 ^ (k % 64)) else bits.getD i 0 := by
 unfold remBits
 rw [Nat.add_sub_cancel, List.getD_eq_getElem?_getD, List.getElem?_set]
 by_cases e : k / 64 = i
 ·rw [if_pos e, if_pos e.symm, if_pos (by omega), e]; rfl
 ·rw [if_neg e, if_neg (fun e2 => e e2.symm), List.getD_eq_getElem?_getD]
theorem remBits_bit (bits : List Nat) (k j : Nat) (h : k / 64 < bits.length) : ((remBits bits (k + 1)).getD (j / 64) 0).testBit (j % 64) = (if j = k then false else (bits.getD (j / 64) 0).testBit (j % 64)) := by
 rw [remBits_getD bits k _ h]
 by_cases e : j / 64 = k / 64
 ·have hp : 2 ^ (k % 64) ≤ full := by
   have : 2 ^ (k % 64) < 2 ^ 64 := Nat.pow_lt_pow_right (by omega) (by omega)
   unfold full; omega
  rw [if_pos e, Nat.testBit_and, not_bits _ _ hp (by omega), Nat.testBit_two_pow]
  by_cases e2 : j = k
  ·rw [if_pos e2, e2]; simp
  ·rw [if_neg e2]
   have : ¬ k % 64 = j % 64 := by omega
   simp [this]
 ·rw [if_neg e, if_neg (fun e2 => e (by rw [e2]))]
theorem remBits_le (bits : List Nat) (k i : Nat) (h : k / 64 < bits.length) (hb : ∀ i, bits.getD i 0 ≤ full) : (remBits bits (k + 1)).getD i 0 ≤ full := by
 rw [remBits_getD bits k i h]
 split
 ·exact Nat.le_trans Nat.and_le_left (hb i)
 ·exact hb i
theorem thereTo_gone (S : List Th) (k : Nat) (hk : k < S.length) (hb : (S.getD k noTh).there = true) : thereTo (S.set k (gone (S.getD k noTh))) S.length + 1 = thereTo S S.length := by
 have hg := fun i => getD_set S k i (gone (S.getD k noTh)) hk
 have hl : (S.set k (gone (S.getD k noTh))).length = S.length := List.length_set ..
 have hlow : ∀ n, n ≤ k → thereTo (S.set k (gone (S.getD k noTh))) n = thereTo S n := fun n hn => thereTo_congr _ _ n (fun j hj => by rw [hg j, if_neg (by omega)]) (by omega) (by omega)
 have hup : ∀ n, k + 1 ≤ n → n ≤ S.length → thereTo (S.set k (gone (S.getD k noTh))) n + 1 = thereTo S n := by
  intro n
  induction n with
  | zero => intro h; omega
  | succ n ih =>
   intro h1 h2
   rw [thereTo_succ S n (by omega), thereTo_succ _ n (by omega), hg n]
   by_cases e : n = k
   ·rw [if_pos e, hlow n (by omega), e, hb]; simp [gone]
   ·rw [if_neg e]
    have := ih (by omega) (by omega)
    omega
 exact hup S.length (by omega) (Nat.le_refl _)
theorem InvV.apart {H : HS} {M : MS} (h : InvV H M) (i j : Nat) (hi : i < M.things.length) (hj : j < M.things.length) (bi : (M.things.getD i noTh).there = true) (bj : (M.things.getD j noTh).there = true) (hne : i ≠ j) :
  (M.things.getD i noTh).place + lenN (M.things.getD i noTh).slots.length (M.things.getD i noTh).fmt ≤ (M.things.getD j noTh).place ∨ (M.things.getD j noTh).place + lenN (M.things.getD j noTh).slots.length (M.things.getD j noTh).fmt ≤ (M.things.getD i noTh).place := by
 obtain ⟨a1, a2⟩ := h.turn i hi bi
 obtain ⟨b1, b2⟩ := h.turn j hj bj
 obtain ⟨s1, s2⟩ := h.seat i hi bi
 obtain ⟨s3, s4⟩ := h.seat j hj bj
 generalize (H.seats.getD (i + 1) (0, 0, 0)).2.2 = x at *
 generalize (H.seats.getD (j + 1) (0, 0, 0)).2.2 = y at *
 rcases Nat.lt_trichotomy x y with e | e | e
 ·have := h.rise x y e b1 (by omega) (by omega)
  rw [a2, b2] at this
  omega
 ·subst e; omega
 ·have := h.rise y x e a1 (by omega) (by omega)
  rw [a2, b2] at this
  omega
theorem splice_getD (L : List Int) (off n x : Nat) (h : off + n ≤ L.length) : (splice L off (List.replicate n 0)).getD x 0 = if off ≤ x ∧ x < off + n then 0 else L.getD x 0 := by
 unfold splice
 rw [List.getD_eq_getElem?_getD, List.getD_eq_getElem?_getD]
 by_cases h1 : x < off
 ·rw [List.getElem?_append_left (by simp; omega), if_neg (by omega), List.getElem?_take, if_pos h1]
 ·rw [List.getElem?_append_right (by simp; omega)]
  have e : (List.take off L).length = off := by simp; omega
  rw [e]
  by_cases h2 : x < off + n
  ·rw [List.getElem?_append_left (by simp; omega), if_pos (by omega), List.getElem?_replicate, if_pos (by omega)]; rfl
  ·rw [List.getElem?_append_right (by simp; omega), if_neg (by omega), List.length_replicate, List.getElem?_drop, show off + n + (x - off - n) = x from by omega]
theorem InvV.bitIn {H : HS} {M : MS} (h : InvV H M) (k : Nat) (hb : (M.things.getD k noTh).there = true) : k / 64 < H.bits.length := by
 by_cases hl : k / 64 < H.bits.length
 ·exact hl
 ·have := h.bit k
  rw [hb, List.getD_eq_getElem?_getD, List.getElem?_eq_none (by omega)] at this
  simp at this
theorem InvV.vacOk {H : HS} {M : MS} (h : InvV H M) (k : Nat) (hk : k < M.things.length) (hb : (M.things.getD k noTh).there = true) : VacOk H (k + 1) := by
 have hL := h.seatIn k hk hb
 have hI := h.is k hk hb
 obtain ⟨s1, s2⟩ := h.seat k hk hb
 have h2 := lenN_two (M.things.getD k noTh).slots.length (M.things.getD k noTh).fmt
 have hc := thereTo_lt M.things k hk hb
 have hm := h.model.len
 have ho := h.safe.small.oops
 have hcc := h.safe.small.count
 have hmo := h.most
 have hoo := h.oops
 exact ⟨by omega, by omega, by omega, by omega, by rw [s2]; exact hI.room, (h.turn k hk hb).1, by rw [Nat.add_sub_cancel]; exact h.bitIn k hb, h.safe.bits, by rw [h.count]; omega, by omega, by have := h.safe.low; have := h.safe.bl; omega, by have := h.safe.small.mem; have := h.safe.small.words; omega, by have := h.safe.order; omega, by have := h.safe.seats; omega⟩
theorem InvV.vac {H : HS} {M : MS} (h : InvV H M) (k : Nat) (hk : k < M.things.length) (hb : (M.things.getD k noTh).there = true) : InvV (vacH H (k + 1)) { M with things := M.things.set k (gone (M.things.getD k noTh)) } := by
 have hL := h.seatIn k hk hb
 have hbi := h.bitIn k hb
 have hI := h.is k hk hb
 have hrm := hI.room
 obtain ⟨s1, s2⟩ := h.seat k hk hb
 obtain ⟨u1, u2⟩ := h.turn k hk hb
 have hg := fun i => getD_set M.things k i (gone (M.things.getD k noTh)) hk
 have hgl : (M.things.set k (gone (M.things.getD k noTh))).length = M.things.length := List.length_set ..
 have hcount := thereTo_gone M.things k hk hb
 generalize hTe : M.things.set k (gone (M.things.getD k noTh)) = T at *
 have hS : ∀ o, (vacH H (k + 1)).seats.getD o (0, 0, 0) = if o = k + 1 then (0, 0, 0) else H.seats.getD o (0, 0, 0) := fun o => by
  show (H.seats.set (k + 1) (0, 0, 0)).getD o (0, 0, 0) = _
  rw [List.getD_eq_getElem?_getD, List.getElem?_set]
  by_cases e : k + 1 = o
  ·rw [if_pos e, if_pos e.symm, if_pos (by omega)]; rfl
  ·rw [if_neg e, if_neg (fun e2 => e e2.symm), List.getD_eq_getElem?_getD]
 have hSl : (vacH H (k + 1)).seats.length = H.seats.length := by show (H.seats.set _ _).length = _; rw [List.length_set]
 have hO : ∀ r, (vacH H (k + 1)).order.getD r 0 = if r = (H.seats.getD (k + 1) (0, 0, 0)).2.2 then 0 else H.order.getD r 0 := fun r => by
  show (H.order.set (H.seats.getD (k + 1) (0, 0, 0)).2.2 0).getD r 0 = _
  rw [List.getD_eq_getElem?_getD, List.getElem?_set]
  by_cases e : (H.seats.getD (k + 1) (0, 0, 0)).2.2 = r
  ·rw [if_pos e, if_pos e.symm, if_pos (by omega)]; rfl
  ·rw [if_neg e, if_neg (fun e2 => e e2.symm), List.getD_eq_getElem?_getD]
 have hOl : (vacH H (k + 1)).order.length = H.order.length := by show (H.order.set _ _).length = _; rw [List.length_set]
 have hM : ∀ x, (vacH H (k + 1)).mem.getD x 0 = if (M.things.getD k noTh).place ≤ x ∧ x < (M.things.getD k noTh).place + lenN (M.things.getD k noTh).slots.length (M.things.getD k noTh).fmt then 0 else H.mem.getD x 0 := fun x => by
  show (splice H.mem (H.seats.getD (k + 1) (0, 0, 0)).1 (List.replicate (H.seats.getD (k + 1) (0, 0, 0)).2.1 0)).getD x 0 = _
  rw [splice_getD _ _ _ _ (by omega), s1, s2]
 have hMl : (vacH H (k + 1)).mem.length = H.mem.length := by
  show (splice H.mem _ (List.replicate _ 0)).length = _
  exact length_splice _ _ _ (by rw [List.length_replicate]; omega)
 have hin : ∀ i, (T.getD i noTh).there = true → i ≠ k ∧ (M.things.getD i noTh).there = true ∧ T.getD i noTh = M.things.getD i noTh := fun i hbi => by
  rw [hg i] at hbi ⊢
  by_cases e : i = k
  ·rw [if_pos e] at hbi; simp [gone] at hbi
  ·rw [if_neg e] at hbi ⊢; exact ⟨e, hbi, rfl⟩
 have hord : ∀ r, r < H.order.length → (if r = (H.seats.getD (k + 1) (0, 0, 0)).2.2 then 0 else H.order.getD r 0) ≠ 0 → r ≠ (H.seats.getD (k + 1) (0, 0, 0)).2.2 ∧ H.order.getD r 0 ≠ 0 ∧ H.order.getD r 0 ≠ k + 1 := fun r hr hne => by
  by_cases e : r = (H.seats.getD (k + 1) (0, 0, 0)).2.2
  ·rw [if_pos e] at hne; exact absurd rfl hne
  ·rw [if_neg e] at hne
   refine ⟨e, hne, fun e2 => e ?_⟩
   have := (h.order r hr hne).2.2
   rw [e2] at this
   exact this.symm
 have hsm := h.safe.small
 have hlow := h.safe.low
 exact {
  safe := ⟨⟨hsm.words, hsm.oops, by rw [hMl]; exact hsm.mem, by show ((H.count - 1 : Nat) : Int) ≤ (H.oops : Int); have := hsm.count; omega, hsm.mark⟩,
   by show min H.low ((k + 1 - 1) / 64) ≤ (remBits H.bits (k + 1)).length; unfold remBits; rw [List.length_set]; omega,
   by show ((remBits H.bits (k + 1)).length : Int) ≤ 1024; unfold remBits; rw [List.length_set]; exact h.safe.bl,
   fun i => remBits_le H.bits k i hbi h.safe.bits, by rw [hSl]; exact h.safe.seats, by rw [hOl]; exact h.safe.order⟩
  words := h.words
  oops := h.oops
  mark := h.mark
  len := by rw [hSl]; show _ ≤ T.length + 1; rw [hgl]; exact h.len
  seat0 := by rw [hS, if_neg (by omega)]; exact h.seat0
  there := fun i hi => by
   have hi2 : i < M.things.length := by rw [← hgl]; exact hi
   show ((T.getD i noTh).there = true ↔ _)
   rw [hS, hg i]
   by_cases e : i = k
   ·rw [if_pos e, if_pos (by omega)]; simp [gone]
   ·rw [if_neg e, if_neg (by omega)]; exact h.there i hi2
  seat := fun i hi hb2 => by
   obtain ⟨e1, e2, e3⟩ := hin i hb2
   show _ = (T.getD i noTh).place ∧ _ = lenN (T.getD i noTh).slots.length (T.getD i noTh).fmt
   rw [e3, hS, if_neg (by omega)]
   exact h.seat i (by rw [← hgl]; exact hi) e2
  is := fun i hi hb2 => by
   obtain ⟨e1, e2, e3⟩ := hin i hb2
   have hi2 : i < M.things.length := by rw [← hgl]; exact hi
   show Is _ (i + 1) (T.getD i noTh)
   rw [e3]
   have hIs := h.is i hi2 e2
   have hap := h.apart i k hi2 hk e2 hb e1
   obtain ⟨v1, v2⟩ := h.seat i hi2 e2
   have hsi := h.seatIn i hi2 e2
   exact hIs.same (by rw [hS, if_neg (by omega)]) (by rw [hSl]; omega) (by rw [hMl]; exact hIs.room) (fun x h1 h2 => by rw [hM, if_neg (by omega)])
  count := by show H.count - 1 = thereTo T T.length; rw [hgl, h.count]; omega
  turn := fun i hi hb2 => by
   obtain ⟨e1, e2, e3⟩ := hin i hb2
   obtain ⟨v1, v2⟩ := h.turn i (by rw [← hgl]; exact hi) e2
   rw [hS, if_neg (by omega), hO, hOl]
   rw [if_neg (fun e => by rw [e, u2] at v2; omega)]
   exact ⟨v1, v2⟩
  order := fun r hr hne => by
   rw [hOl] at hr
   rw [hO] at hne ⊢
   obtain ⟨e1, e2, e3⟩ := hord r hr hne
   rw [if_neg e1, hS, if_neg e3]
   obtain ⟨o1, o2, o3⟩ := h.order r hr e2
   show _ ≤ T.length ∧ (T.getD _ noTh).there = true ∧ _
   rw [hgl, hg, if_neg (by omega)]
   exact ⟨o1, o2, o3⟩
  rise := fun i j hij hj hi0 hj0 => by
   rw [hOl] at hj
   rw [hO] at hi0 hj0
   obtain ⟨e1, e2, e3⟩ := hord i (by omega) hi0
   obtain ⟨d1, d2, d3⟩ := hord j hj hj0
   rw [hO, hO, if_neg e1, if_neg d1, hS, hS, if_neg e3, if_neg d3]
   exact h.rise i j hij hj e2 d2
  gaps := fun x hx hc => by
   rw [hMl] at hx
   rw [hM]
   split
   ·rfl
   ·rename_i hns
    refine h.gaps x hx (fun i hi hb2 => ?_)
    by_cases e : i = k
    ·rw [e]; omega
    ·have h3 : x < (T.getD i noTh).place ∨ (T.getD i noTh).place + lenN (T.getD i noTh).slots.length (T.getD i noTh).fmt ≤ x := hc i (by show i < T.length; rw [hgl]; exact hi) (by show (T.getD i noTh).there = true; rw [hg, if_neg e]; exact hb2)
     rw [hg, if_neg e] at h3
     exact h3
  bit := fun j => by
   show ((remBits H.bits (k + 1)).getD (j / 64) 0).testBit (j % 64) = (T.getD j noTh).there
   rw [remBits_bit H.bits k j hbi, hg]
   split
   ·rfl
   ·exact h.bit j
  low := fun i hi => by
   have hi2 : i < min H.low ((k + 1 - 1) / 64) := hi
   show (remBits H.bits (k + 1)).getD i 0 = full
   rw [remBits_getD H.bits k i hbi, if_neg (by omega)]
   exact h.low i (by omega)
  model := ⟨by show (T.length : Int) ≤ _; rw [hgl]; exact h.model.len, fun i hi => by
    show ((T.getD i noTh).slots.length : Int) ≤ 8192
    rw [hg]
    split
    ·exact h.model.slots k hk
    ·exact h.model.slots i (by rw [← hgl]; exact hi), fun i hi => by
    show ((T.getD i noTh).place : Int) ≤ 1048576
    rw [hg]
    split
    ·exact h.model.place k hk
    ·exact h.model.place i (by rw [← hgl]; exact hi)⟩
  deep := fun j hj hne => by
   rw [hOl] at hj
   rw [hO] at hne
   obtain ⟨e1, e2, e3⟩ := hord j hj hne
   rw [hO, if_neg e1, hS, if_neg e3]
   exact h.deep j hj e2
  most := by show T.length ≤ M.oops; rw [hgl]; exact h.most
  room := h.room }
end Go.Proofs.YtklfnjlenbgmoaaDoor
