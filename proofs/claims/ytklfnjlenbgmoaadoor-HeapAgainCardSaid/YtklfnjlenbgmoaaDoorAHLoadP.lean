import Derived.Test.YtklfnjlenbgmoaaDoorAG38HBackP
namespace Go.Proofs.YtklfnjlenbgmoaaDoor
open Go.RowKit
set_option linter.unusedVariables false
/-- a thing is laid at q, whatever lies ahead of it -/
def putAt (S : List Th) (q : Nat) (t : Th) : List Th := if q < S.length then S.set q t else S ++ (List.replicate (q - S.length) noTh ++ [t])
theorem putAt_get (S : List Th) (q i : Nat) (t : Th) : (putAt S q t).getD i noTh = if i = q then t else S.getD i noTh := by
  unfold putAt
  split
  · rename_i h; exact getD_set S q i t h
  · rename_i h
    rw [List.getD_eq_getElem?_getD, List.getD_eq_getElem?_getD]
    by_cases h1 : i < S.length
    · rw [List.getElem?_append_left h1, if_neg (by omega)]
    · rw [List.getElem?_append_right (by omega), List.getElem?_eq_none (l := S) (by omega)]
      by_cases h2 : i < q
      · rw [List.getElem?_append_left (by simp; omega), List.getElem?_replicate, if_pos (by omega), if_neg (by omega)]; rfl
      · rw [List.getElem?_append_right (by simp; omega), List.length_replicate]
        by_cases h3 : i = q
        · rw [if_pos h3, show i - S.length - (q - S.length) = 0 from by omega]; rfl
        · rw [if_neg h3, List.getElem?_eq_none (by simp; omega)]
theorem putAt_length (S : List Th) (q : Nat) (t : Th) : (putAt S q t).length = max S.length (q + 1) := by
  unfold putAt
  split
  · rw [List.length_set]; omega
  · simp; omega
theorem thereTo_putAt (S : List Th) (q : Nat) (t : Th) (hf : (S.getD q noTh).there = false) (ht : t.there = true) : thereTo (putAt S q t) (putAt S q t).length = thereTo S S.length + 1 := by
  by_cases h : q < S.length
  · have := thereTo_put S q t (by omega) hf ht
    unfold putTh at this
    unfold putAt
    rw [if_pos h] at this ⊢
    exact this
  · unfold putAt
    rw [if_neg h]
    unfold thereTo
    rw [List.take_length, List.take_length, List.filter_append, List.filter_append]
    simp [ht, noTh]
theorem Inv.layAt {H : HS} {M : MS} (h : Inv H M) (q : Nat) (hq0 : q < M.oops) (hqf : (M.things.getD q noTh).there = false) (cl : Int) (n f : Nat) (p pt : Option Addr) (c ct : Nat) (hf : f ≤ 1) (hn : n ≤ 8192) (hr1 : H.count < H.oops) (hr2 : H.mem.length + lenN n f ≤ H.words) :
    Inv (layH H (q + 1) cl n f) { M with things := putAt M.things q ⟨true, cl, f, endTo M.things M.things.length, List.replicate n (newX f), p, c⟩, pt := pt, ct := ct } := by
  have hfree : (M.things.getD q noTh).there = false ∧ True := ⟨hqf, trivial⟩
  rw [← h.fin]
  generalize ht : (⟨true, cl, f, H.mem.length, List.replicate n (newX f), p, c⟩ : Th) = t
  have t1 : t.there = true := by rw [← ht]
  have t2 : t.cls = cl := by rw [← ht]
  have t3 : t.fmt = f := by rw [← ht]
  have t4 : t.place = H.mem.length := by rw [← ht]
  have t5 : t.slots = List.replicate n (newX f) := by rw [← ht]
  have t6 : t.slots.length = n := by rw [t5]; simp
  have hg := fun i => putAt_get M.things q i t
  have hgl := putAt_length M.things q t
  have hS : ∀ i, (layH H (q + 1) cl n f).seats.getD i (0, 0, 0) = if i = q + 1 then (H.mem.length, lenN n f, H.order.length) else H.seats.getD i (0, 0, 0) := fun i => laySeat H.seats (q + 1) i _
  have hSl : (layH H (q + 1) cl n f).seats.length = max H.seats.length (q + 2) := by
    show ((padSeats H.seats (q + 1 + 1)).set (q + 1) _).length = _
    unfold padSeats
    simp
    omega
  have hM : (layH H (q + 1) cl n f).mem = H.mem ++ objCells cl n f := rfl
  have hMl : (H.mem ++ objCells cl n f).length = H.mem.length + lenN n f := by rw [List.length_append, objCells_len cl n f hf]
  have hO : (layH H (q + 1) cl n f).order = H.order ++ [q + 1] := rfl
  have hOg : ∀ j, (H.order ++ [q + 1]).getD j 0 = if j = H.order.length then q + 1 else H.order.getD j 0 := fun j => by
    rw [List.getD_eq_getElem?_getD, List.getD_eq_getElem?_getD]
    by_cases e : j = H.order.length
    · rw [if_pos e, e, List.getElem?_append_right (Nat.le_refl _)]; simp
    · rw [if_neg e]
      by_cases hl : j < H.order.length
      · rw [List.getElem?_append_left hl]
      · rw [List.getElem?_eq_none (by simp; omega), List.getElem?_eq_none (by omega)]
  have hL := h.len
  have hsm := h.safe.small
  have ho := hsm.oops
  have hw := hsm.words
  have hshort := h.short
  have hl2 := lenN_two n f
  have hmost := h.most
  have hoo := h.oops
  have hend : ∀ i, i < M.things.length → (M.things.getD i noTh).there = true → (M.things.getD i noTh).place + lenN (M.things.getD i noTh).slots.length (M.things.getD i noTh).fmt ≤ H.mem.length := fun i h1 h2 => by rw [h.fin]; exact endTo_ge M.things _ i h1 h2
  exact {
    safe := ⟨⟨hw, ho, by rw [hM, hMl]; show ((H.mem.length + lenN n f : Nat) : Int) ≤ (H.words : Int); omega, by show ((H.count + 1 : Nat) : Int) ≤ (H.oops : Int); omega, hsm.mark⟩,
      by show H.low ≤ (addBits H.bits (q + 1)).length; rw [addBits_len]; have := h.safe.low; omega,
      by show ((addBits H.bits (q + 1)).length : Int) ≤ 1024; rw [addBits_len]; have := h.safe.bl; omega,
      fun i => addBits_le H.bits (q + 1) h.safe.bits i, by rw [hSl]; have := h.safe.seats; omega,
      by rw [hO]; simp only [List.length_append, List.length_singleton]; omega⟩
    words := h.words
    oops := h.oops
    mark := h.mark
    len := by
      rw [hSl]
      show max H.seats.length (q + 2) ≤ (putAt M.things q t).length + 1
      rw [hgl]
      omega
    seat0 := by rw [hS, if_neg (by omega)]; exact h.seat0
    there := fun i hi => by
      show (((putAt M.things q t).getD i noTh).there = true ↔ _)
      rw [hg i, hS (i + 1)]
      by_cases e : i = q
      · rw [if_pos e, if_pos (by omega)]; simp only [t1, true_iff]; show lenN n f ≠ 0; omega
      · rw [if_neg e, if_neg (by omega)]
        by_cases hil : i < M.things.length
        · exact h.there i hil
        · have e1 : M.things.getD i noTh = noTh := by rw [List.getD_eq_getElem?_getD, List.getElem?_eq_none (by omega)]; rfl
          have e2 : H.seats.getD (i + 1) (0, 0, 0) = (0, 0, 0) := by
            rw [List.getD_eq_getElem?_getD, List.getElem?_eq_none (by omega)]; rfl
          rw [e1, e2]
          simp [noTh]
    seat := fun i hi hb => by
      have hb2 : ((putAt M.things q t).getD i noTh).there = true := hb
      show _ = ((putAt M.things q t).getD i noTh).place ∧ _ = lenN ((putAt M.things q t).getD i noTh).slots.length ((putAt M.things q t).getD i noTh).fmt
      rw [hg i] at hb2 ⊢
      rw [hS (i + 1)]
      by_cases e : i = q
      · rw [if_pos e, if_pos (by omega), t4, t6, t3]; exact ⟨rfl, rfl⟩
      · rw [if_neg e] at hb2 ⊢; rw [if_neg (by omega)]; exact h.seat i (th_in hb2) hb2
    is := fun i hi hb => by
      have hb2 : ((putAt M.things q t).getD i noTh).there = true := hb
      show Is _ (i + 1) ((putAt M.things q t).getD i noTh)
      rw [hg i] at hb2 ⊢
      by_cases e : i = q
      · rw [if_pos e, e]; exact is_laid _ q cl n f t hf hn t2 t3 t5
      · rw [if_neg e] at hb2 ⊢
        have hi2 := th_in hb2
        have hI := h.is i hi2 hb2
        have hr := hI.room
        refine hI.same (by rw [hS, if_neg (by omega)]) (by rw [hSl]; have := (has_yes hI.has).2.1; omega) (by rw [hM, hMl]; omega) (fun x h1 h2 => by rw [hM]; exact getD_left _ _ x (by omega))
    count := by show H.count + 1 = thereTo (putAt M.things q t) (putAt M.things q t).length; rw [thereTo_putAt M.things q t hqf t1, h.count]
    fin := by
      rw [hM, hMl]
      show _ = endTo (putAt M.things q t) (putAt M.things q t).length
      refine (endTo_is _ _ _ (fun j hj hb => ?_) (.inr ⟨q, by omega, by rw [hg, if_pos rfl]; exact t1, by rw [hg, if_pos rfl, t4, t6, t3]⟩)).symm
      rw [hg j] at hb ⊢
      by_cases e : j = q
      · rw [if_pos e, t4, t6, t3]; exact Nat.le_refl _
      · rw [if_neg e] at hb ⊢
        have := hend j (th_in hb) hb
        omega
    turn := fun i hi hb => by
      have hb2 : ((putAt M.things q t).getD i noTh).there = true := hb
      rw [hg i] at hb2
      rw [hS (i + 1), hO, hOg]
      by_cases e : i = q
      · rw [if_pos (by omega)]; simp; omega
      · rw [if_neg e] at hb2
        rw [if_neg (by omega)]
        have := h.turn i (th_in hb2) hb2
        rw [if_neg (by omega)]
        exact ⟨by rw [List.length_append, List.length_singleton]; omega, this.2⟩
    order := fun j hj hne => by
      rw [hO] at hj hne ⊢
      show _ ≤ (putAt M.things q t).length ∧ ((putAt M.things q t).getD _ noTh).there = true ∧ _
      rw [hOg] at hne ⊢
      by_cases e : j = H.order.length
      · rw [if_pos e, hS, if_pos rfl, hg, if_pos (by omega)]
        exact ⟨by omega, t1, e.symm⟩
      · rw [if_neg e] at hne ⊢
        simp at hj
        obtain ⟨o1, o2, o3⟩ := h.order j (by omega) hne
        have hne2 : H.order.getD j 0 ≠ q + 1 := fun e2 => by
          rw [e2, Nat.add_sub_cancel, hfree.1] at o2
          simp at o2
        rw [hS, if_neg hne2, hg, if_neg (by omega)]
        exact ⟨by omega, o2, o3⟩
    rise := fun i j hij hj hi0 hj0 => by
      rw [hO] at hj hi0 hj0 ⊢
      rw [hOg] at hi0 hj0 ⊢
      rw [hOg j]
      simp at hj
      rw [if_neg (by omega)] at hi0 ⊢
      obtain ⟨o1, o2, o3⟩ := h.order i (by omega) hi0
      have hne2 : H.order.getD i 0 ≠ q + 1 := fun e2 => by
        rw [e2, Nat.add_sub_cancel, hfree.1] at o2
        simp at o2
      rw [hS, if_neg hne2, hS]
      by_cases e : j = H.order.length
      · rw [if_pos e, if_pos rfl]
        have hI := h.seat (H.order.getD i 0 - 1) (by omega) o2
        have := hend (H.order.getD i 0 - 1) (by omega) o2
        rw [show H.order.getD i 0 - 1 + 1 = H.order.getD i 0 from by omega] at hI
        show _ ≤ H.mem.length
        omega
      · rw [if_neg e] at hj0 ⊢
        obtain ⟨p1, p2, p3⟩ := h.order j (by omega) hj0
        have hne3 : H.order.getD j 0 ≠ q + 1 := fun e2 => by
          rw [e2, Nat.add_sub_cancel, hfree.1] at p2
          simp at p2
        rw [if_neg hne3]
        exact h.rise i j hij (by omega) hi0 hj0
    last := fun j hj => by
      rw [hO] at hj ⊢
      simp at hj
      rw [hOg, if_pos (by omega)]
      omega
    gaps := fun x hx hc => by
      rw [hM] at hx ⊢
      rw [hMl] at hx
      by_cases hlt : x < H.mem.length
      · rw [getD_left _ _ x hlt]
        refine h.gaps x hlt (fun i hi hb => ?_)
        have hiq : i ≠ q := fun e => by rw [e, hfree.1] at hb; simp at hb
        have := hc i (by show i < (putAt M.things q t).length; omega) (by show ((putAt M.things q t).getD i noTh).there = true; rw [hg, if_neg hiq]; exact hb)
        have h3 : x < ((putAt M.things q t).getD i noTh).place ∨ ((putAt M.things q t).getD i noTh).place + lenN ((putAt M.things q t).getD i noTh).slots.length ((putAt M.things q t).getD i noTh).fmt ≤ x := this
        rw [hg, if_neg hiq] at h3
        exact h3
      · have := hc q (by show q < (putAt M.things q t).length; omega) (by show ((putAt M.things q t).getD q noTh).there = true; rw [hg, if_pos rfl]; exact t1)
        have h3 : x < ((putAt M.things q t).getD q noTh).place ∨ ((putAt M.things q t).getD q noTh).place + lenN ((putAt M.things q t).getD q noTh).slots.length ((putAt M.things q t).getD q noTh).fmt ≤ x := this
        rw [hg, if_pos rfl, t4, t6, t3] at h3
        omega
    bit := fun j => by
      show ((addBits H.bits (q + 1)).getD (j / 64) 0).testBit (j % 64) = ((putAt M.things q t).getD j noTh).there
      rw [addBits_bit H.bits (q + 1) j (by omega), hg, Nat.add_sub_cancel]
      split
      · exact t1.symm
      · exact h.bit j
    low := fun i hi => by
      have hi2 : i < H.low := hi
      show (addBits H.bits (q + 1)).getD i 0 = full
      have hb : H.bits.getD i 0 = full := h.low i hi2
      have h1 := addBits_le H.bits (q + 1) h.safe.bits i
      rw [addBits_getD] at h1 ⊢
      split
      · rw [if_pos (by assumption)] at h1
        have := Nat.left_le_or (n := H.bits.getD i 0) (m := 2 ^ ((q + 1 - 1) % 64))
        omega
      · exact hb
    model := ⟨by show ((putAt M.things q t).length : Int) ≤ 65538; have := h.model.len; omega, fun i hi => by
        show (((putAt M.things q t).getD i noTh).slots.length : Int) ≤ 8192
        rw [hg]
        split
        · rw [t6]; omega
        · by_cases hil : i < M.things.length
          · exact h.model.slots i hil
          · rw [List.getD_eq_getElem?_getD, List.getElem?_eq_none (by omega)]; simp [noTh], fun i hi => by
        show (((putAt M.things q t).getD i noTh).place : Int) ≤ 1048576
        rw [hg]
        split
        · rw [t4]; have := h.room; omega
        · by_cases hil : i < M.things.length
          · exact h.model.place i hil
          · rw [List.getD_eq_getElem?_getD, List.getElem?_eq_none (by omega)]; simp [noTh]⟩
    deep := fun j hj hne => by
      rw [hO] at hj hne ⊢
      rw [hOg] at hne ⊢
      by_cases e : j = H.order.length
      · rw [if_pos e, hS, if_pos rfl]
        show 2 * j ≤ H.mem.length
        omega
      · rw [if_neg e] at hne ⊢
        simp at hj
        obtain ⟨o1, o2, o3⟩ := h.order j (by omega) hne
        have hne2 : H.order.getD j 0 ≠ q + 1 := fun e2 => by
          rw [e2, Nat.add_sub_cancel, hfree.1] at o2
          simp at o2
        rw [hS, if_neg hne2]
        exact h.deep j (by omega) hne
    most := by show (putAt M.things q t).length ≤ M.oops; omega
    room := h.room }
end Go.Proofs.YtklfnjlenbgmoaaDoor
