import Derived.Test.YtklfnjlenbgmoaaDoorAG20HInvA
namespace Go.Proofs.YtklfnjlenbgmoaaDoor
open Go.RowKit
set_option linter.unusedVariables false
theorem thereTo_congr (S T : List Th) (k : Nat) (h : ∀ j, j < k → (S.getD j noTh).there = (T.getD j noTh).there) (hs : k ≤ S.length) (ht : k ≤ T.length) : thereTo S k = thereTo T k := by
  induction k with
  | zero => rfl
  | succ k ih => rw [thereTo_succ S k (by omega), thereTo_succ T k (by omega), ih (fun j hj => h j (by omega)) (by omega) (by omega), h k (by omega)]
/-- one more is there -/
theorem thereTo_put (S : List Th) (q : Nat) (t : Th) (hq : q ≤ S.length) (hf : (S.getD q noTh).there = false) (ht : t.there = true) : thereTo (putTh S q t) (putTh S q t).length = thereTo S S.length + 1 := by
  have hg := fun i => putTh_get S q i t hq
  have hl := putTh_length S q t hq
  have hlow : ∀ k, k ≤ q → k ≤ S.length → thereTo (putTh S q t) k = thereTo S k := fun k h1 h2 => thereTo_congr _ _ k (fun j hj => by rw [hg j, if_neg (by omega)]) (by omega) h2
  by_cases hlt : q < S.length
  · have hup : ∀ k, q + 1 ≤ k → k ≤ S.length → thereTo (putTh S q t) k = thereTo S k + 1 := by
      intro k
      induction k with
      | zero => intro h; omega
      | succ k ih =>
        intro h1 h2
        rw [thereTo_succ S k (by omega), thereTo_succ (putTh S q t) k (by omega), hg k]
        by_cases e : k = q
        · rw [if_pos e, ht, hlow k (by omega) (by omega), e, hf]; simp
        · rw [if_neg e, ih (by omega) (by omega)]; omega
    rw [show (putTh S q t).length = S.length from by omega]
    exact hup S.length (by omega) (Nat.le_refl _)
  · have hqe : q = S.length := by omega
    rw [show (putTh S q t).length = S.length + 1 from by omega, thereTo_succ _ _ (by omega), hlow S.length (by omega) (Nat.le_refl _), hg, if_pos hqe.symm, ht]
    simp
theorem Inv.lay {H : HS} {M : MS} (h : Inv H M) (k : Nat) (hk : LowTo H.bits H.low k) (cl : Int) (n f : Nat) (p pt : Option Addr) (c ct : Nat) (hf : f ≤ 1) (hn : n ≤ 8192) (hr1 : H.count < H.oops) (hr2 : H.mem.length + lenN n f ≤ H.words) :
    Inv (layH { H with mark := H.mark - 1, low := k } (lowTo M.things) cl n f) { M with mark := M.mark - 1, things := putTh M.things (lowTo M.things - 1) ⟨true, cl, f, endTo M.things M.things.length, List.replicate n (newX f), p, c⟩, pt := pt, ct := ct } := by
  have hlow := lowTo_le M.things
  have hfree := lowTo_free M.things
  have hq1 := h.low_le
  obtain ⟨q, hq⟩ : ∃ q, lowTo M.things = q + 1 := ⟨lowTo M.things - 1, by omega⟩
  rw [hq] at hfree hq1 hlow ⊢
  rw [Nat.add_sub_cancel] at hfree hq1 ⊢
  rw [← h.fin]
  generalize ht : (⟨true, cl, f, H.mem.length, List.replicate n (newX f), p, c⟩ : Th) = t
  have t1 : t.there = true := by rw [← ht]
  have t2 : t.cls = cl := by rw [← ht]
  have t3 : t.fmt = f := by rw [← ht]
  have t4 : t.place = H.mem.length := by rw [← ht]
  have t5 : t.slots = List.replicate n (newX f) := by rw [← ht]
  have t6 : t.slots.length = n := by rw [t5]; simp
  have hqs : q ≤ M.things.length := by omega
  have hg := fun i => putTh_get M.things q i t hqs
  have hgl := putTh_length M.things q t hqs
  have hS : ∀ i, (layH { H with mark := H.mark - 1, low := k } (q + 1) cl n f).seats.getD i (0, 0, 0) = if i = q + 1 then (H.mem.length, lenN n f, H.order.length) else H.seats.getD i (0, 0, 0) := fun i => laySeat H.seats (q + 1) i _
  have hSl : (layH { H with mark := H.mark - 1, low := k } (q + 1) cl n f).seats.length = max H.seats.length (q + 2) := by
    show ((padSeats H.seats (q + 1 + 1)).set (q + 1) _).length = _
    unfold padSeats
    simp
    omega
  have hM : (layH { H with mark := H.mark - 1, low := k } (q + 1) cl n f).mem = H.mem ++ objCells cl n f := rfl
  have hMl : (H.mem ++ objCells cl n f).length = H.mem.length + lenN n f := by rw [List.length_append, objCells_len cl n f hf]
  have hO : (layH { H with mark := H.mark - 1, low := k } (q + 1) cl n f).order = H.order ++ [q + 1] := rfl
  have hOg : ∀ j, (H.order ++ [q + 1]).getD j 0 = if j = H.order.length then q + 1 else H.order.getD j 0 := fun j => by
    rw [List.getD_eq_getElem?_getD, List.getD_eq_getElem?_getD]
    by_cases e : j = H.order.length
    · rw [if_pos e, e, List.getElem?_append_right (Nat.le_refl _)]; simp
    · rw [if_neg e]
      by_cases hl : j < H.order.length
      · rw [List.getElem?_append_left hl]
      · rw [List.getElem?_eq_none (by simp; omega), List.getElem?_eq_none (by omega)]
  have hin : ∀ i, i < (putTh M.things q t).length → i ≠ q → i < M.things.length := fun i h1 h2 => (putTh_len M.things q t hqs).2 i h1 h2
  have hL := h.len
  have hsm := h.safe.small
  have ho := hsm.oops
  have hw := hsm.words
  have hshort := h.short
  have hl2 := lenN_two n f
  have hmost := h.most
  have hoo := h.oops
  have hend : ∀ i, i < M.things.length → (M.things.getD i noTh).there = true → (M.things.getD i noTh).place + lenN (M.things.getD i noTh).slots.length (M.things.getD i noTh).fmt ≤ H.mem.length := fun i h1 h2 => by rw [h.fin]; exact endTo_ge M.things _ i h1 h2
  exact {
    safe := ⟨⟨hw, ho, by rw [hM, hMl]; show ((H.mem.length + lenN n f : Nat) : Int) ≤ (H.words : Int); omega, by show ((H.count + 1 : Nat) : Int) ≤ (H.oops : Int); omega, by show ((H.mark - 1 : Nat) : Int) ≤ _; have := hsm.mark; omega⟩,
      by show k ≤ (addBits H.bits (q + 1)).length; rw [addBits_len]; have := hk.le; omega,
      by show ((addBits H.bits (q + 1)).length : Int) ≤ 1024; rw [addBits_len]; have := h.safe.bl; omega,
      fun i => addBits_le H.bits (q + 1) h.safe.bits i, by rw [hSl]; have := h.safe.seats; omega,
      by rw [hO]; simp only [List.length_append, List.length_singleton]; omega⟩
    words := h.words
    oops := h.oops
    mark := by show H.mark - 1 = M.mark - 1; rw [h.mark]
    len := by
      rw [hSl]
      show max H.seats.length (q + 2) ≤ (putTh M.things q t).length + 1
      rw [hgl]
      omega
    seat0 := by rw [hS, if_neg (by omega)]; exact h.seat0
    there := fun i hi => by
      show (((putTh M.things q t).getD i noTh).there = true ↔ _)
      rw [hg i, hS (i + 1)]
      by_cases e : i = q
      · rw [if_pos e, if_pos (by omega)]; simp only [t1, true_iff]; show lenN n f ≠ 0; omega
      · rw [if_neg e, if_neg (by omega)]; exact h.there i (hin i hi e)
    seat := fun i hi hb => by
      have hb2 : ((putTh M.things q t).getD i noTh).there = true := hb
      show _ = ((putTh M.things q t).getD i noTh).place ∧ _ = lenN ((putTh M.things q t).getD i noTh).slots.length ((putTh M.things q t).getD i noTh).fmt
      rw [hg i] at hb2 ⊢
      rw [hS (i + 1)]
      by_cases e : i = q
      · rw [if_pos e, if_pos (by omega), t4, t6, t3]; exact ⟨rfl, rfl⟩
      · rw [if_neg e] at hb2 ⊢; rw [if_neg (by omega)]; exact h.seat i (hin i hi e) hb2
    is := fun i hi hb => by
      have hb2 : ((putTh M.things q t).getD i noTh).there = true := hb
      show Is _ (i + 1) ((putTh M.things q t).getD i noTh)
      rw [hg i] at hb2 ⊢
      by_cases e : i = q
      · rw [if_pos e, e]; exact is_laid _ q cl n f t hf hn t2 t3 t5
      · rw [if_neg e] at hb2 ⊢
        have hi2 := hin i hi e
        have hI := h.is i hi2 hb2
        have hr := hI.room
        refine hI.same (by rw [hS, if_neg (by omega)]) (by rw [hSl]; have := (has_yes hI.has).2.1; omega) (by rw [hM, hMl]; omega) (fun x h1 h2 => by rw [hM]; exact getD_left _ _ x (by omega))
    count := by show H.count + 1 = thereTo (putTh M.things q t) (putTh M.things q t).length; rw [thereTo_put M.things q t hqs hfree.1 t1, h.count]
    fin := by
      rw [hM, hMl]
      show _ = endTo (putTh M.things q t) (putTh M.things q t).length
      refine (endTo_is _ _ _ (fun j hj hb => ?_) (.inr ⟨q, by omega, by rw [hg, if_pos rfl]; exact t1, by rw [hg, if_pos rfl, t4, t6, t3]⟩)).symm
      rw [hg j] at hb ⊢
      by_cases e : j = q
      · rw [if_pos e, t4, t6, t3]; exact Nat.le_refl _
      · rw [if_neg e] at hb ⊢
        have := hend j (hin j hj e) hb
        omega
    turn := fun i hi hb => by
      have hb2 : ((putTh M.things q t).getD i noTh).there = true := hb
      rw [hg i] at hb2
      rw [hS (i + 1), hO, hOg]
      by_cases e : i = q
      · rw [if_pos (by omega)]; simp; omega
      · rw [if_neg e] at hb2
        rw [if_neg (by omega)]
        have := h.turn i (hin i hi e) hb2
        rw [if_neg (by omega)]
        exact ⟨by rw [List.length_append, List.length_singleton]; omega, this.2⟩
    order := fun j hj hne => by
      rw [hO] at hj hne ⊢
      show _ ≤ (putTh M.things q t).length ∧ ((putTh M.things q t).getD _ noTh).there = true ∧ _
      rw [hOg] at hne ⊢
      by_cases e : j = H.order.length
      · rw [if_pos e, hS, if_pos rfl, hg, if_pos (by omega)]
        exact ⟨by omega, t1, e.symm⟩
      · rw [if_neg e] at hne ⊢
        simp at hj
        obtain ⟨o1, o2, o3⟩ := h.order j (by omega) hne
        have hne2 : H.order.getD j 0 ≠ q + 1 := fun e2 => by
          rw [e2, Nat.add_sub_cancel, hfree.1] at o2
          simp at o2
        rw [hS, if_neg hne2, hg, if_neg (by omega)]
        exact ⟨by omega, o2, o3⟩
    rise := fun i j hij hj hi0 hj0 => by
      rw [hO] at hj hi0 hj0 ⊢
      rw [hOg] at hi0 hj0 ⊢
      rw [hOg j]
      simp at hj
      rw [if_neg (by omega)] at hi0 ⊢
      obtain ⟨o1, o2, o3⟩ := h.order i (by omega) hi0
      have hne2 : H.order.getD i 0 ≠ q + 1 := fun e2 => by
        rw [e2, Nat.add_sub_cancel, hfree.1] at o2
        simp at o2
      rw [hS, if_neg hne2, hS]
      by_cases e : j = H.order.length
      · rw [if_pos e, if_pos rfl]
        have hI := h.seat (H.order.getD i 0 - 1) (by omega) o2
        have := hend (H.order.getD i 0 - 1) (by omega) o2
        rw [show H.order.getD i 0 - 1 + 1 = H.order.getD i 0 from by omega] at hI
        show _ ≤ H.mem.length
        omega
      · rw [if_neg e] at hj0 ⊢
        obtain ⟨p1, p2, p3⟩ := h.order j (by omega) hj0
        have hne3 : H.order.getD j 0 ≠ q + 1 := fun e2 => by
          rw [e2, Nat.add_sub_cancel, hfree.1] at p2
          simp at p2
        rw [if_neg hne3]
        exact h.rise i j hij (by omega) hi0 hj0
    last := fun j hj => by
      rw [hO] at hj ⊢
      simp at hj
      rw [hOg, if_pos (by omega)]
      omega
    gaps := fun x hx hc => by
      rw [hM] at hx ⊢
      rw [hMl] at hx
      by_cases hlt : x < H.mem.length
      · rw [getD_left _ _ x hlt]
        refine h.gaps x hlt (fun i hi hb => ?_)
        have hiq : i ≠ q := fun e => by rw [e, hfree.1] at hb; simp at hb
        have := hc i (by show i < (putTh M.things q t).length; omega) (by show ((putTh M.things q t).getD i noTh).there = true; rw [hg, if_neg hiq]; exact hb)
        have h3 : x < ((putTh M.things q t).getD i noTh).place ∨ ((putTh M.things q t).getD i noTh).place + lenN ((putTh M.things q t).getD i noTh).slots.length ((putTh M.things q t).getD i noTh).fmt ≤ x := this
        rw [hg, if_neg hiq] at h3
        exact h3
      · have := hc q (by show q < (putTh M.things q t).length; omega) (by show ((putTh M.things q t).getD q noTh).there = true; rw [hg, if_pos rfl]; exact t1)
        have h3 : x < ((putTh M.things q t).getD q noTh).place ∨ ((putTh M.things q t).getD q noTh).place + lenN ((putTh M.things q t).getD q noTh).slots.length ((putTh M.things q t).getD q noTh).fmt ≤ x := this
        rw [hg, if_pos rfl, t4, t6, t3] at h3
        omega
    bit := fun j => by
      show ((addBits H.bits (q + 1)).getD (j / 64) 0).testBit (j % 64) = ((putTh M.things q t).getD j noTh).there
      rw [addBits_bit H.bits (q + 1) j (by omega), hg, Nat.add_sub_cancel]
      split
      · exact t1.symm
      · exact h.bit j
    low := fun i hi => by
      have hi2 : i < k := hi
      show (addBits H.bits (q + 1)).getD i 0 = full
      have hb : H.bits.getD i 0 = full := by
        by_cases hl : i < H.low
        · exact h.low i hl
        · exact hk.ful i (by omega) hi2
      have h1 := addBits_le H.bits (q + 1) h.safe.bits i
      rw [addBits_getD] at h1 ⊢
      split
      · rw [if_pos (by assumption)] at h1
        have := Nat.left_le_or (n := H.bits.getD i 0) (m := 2 ^ ((q + 1 - 1) % 64))
        omega
      · exact hb
    model := ⟨by show ((putTh M.things q t).length : Int) ≤ 65538; have := h.model.len; omega, fun i hi => by
        show (((putTh M.things q t).getD i noTh).slots.length : Int) ≤ 8192
        rw [hg]
        split
        · rw [t6]; omega
        · rename_i e; exact h.model.slots i (hin i hi e), fun i hi => by
        show (((putTh M.things q t).getD i noTh).place : Int) ≤ 1048576
        rw [hg]
        split
        · rw [t4]; have := h.room; omega
        · rename_i e; exact h.model.place i (hin i hi e)⟩
    deep := fun j hj hne => by
      rw [hO] at hj hne ⊢
      rw [hOg] at hne ⊢
      by_cases e : j = H.order.length
      · rw [if_pos e, hS, if_pos rfl]
        show 2 * j ≤ H.mem.length
        omega
      · rw [if_neg e] at hne ⊢
        simp at hj
        obtain ⟨o1, o2, o3⟩ := h.order j (by omega) hne
        have hne2 : H.order.getD j 0 ≠ q + 1 := fun e2 => by
          rw [e2, Nat.add_sub_cancel, hfree.1] at o2
          simp at o2
        rw [hS, if_neg hne2]
        exact h.deep j (by omega) hne
    most := by show (putTh M.things q t).length ≤ M.oops; omega
    room := h.room }
end Go.Proofs.YtklfnjlenbgmoaaDoor
namespace Go.Proofs.YtklfnjlenbgmoaaDoor
open Go.RowKit
set_option linter.unusedVariables false
/-- two that are there lie apart -/
theorem Inv.apart {H : HS} {M : MS} (h : Inv H M) (i j : Nat) (hi : i < M.things.length) (hj : j < M.things.length) (bi : (M.things.getD i noTh).there = true) (bj : (M.things.getD j noTh).there = true) (hne : i ≠ j) :
    (M.things.getD i noTh).place + lenN (M.things.getD i noTh).slots.length (M.things.getD i noTh).fmt ≤ (M.things.getD j noTh).place ∨ (M.things.getD j noTh).place + lenN (M.things.getD j noTh).slots.length (M.things.getD j noTh).fmt ≤ (M.things.getD i noTh).place := by
  obtain ⟨a1, a2⟩ := h.turn i hi bi
  obtain ⟨b1, b2⟩ := h.turn j hj bj
  obtain ⟨s1, s2⟩ := h.seat i hi bi
  obtain ⟨s3, s4⟩ := h.seat j hj bj
  generalize (H.seats.getD (i + 1) (0, 0, 0)).2.2 = x at *
  generalize (H.seats.getD (j + 1) (0, 0, 0)).2.2 = y at *
  rcases Nat.lt_trichotomy x y with e | e | e
  · have := h.rise x y e b1 (by omega) (by omega)
    rw [a2, b2] at this
    omega
  · subst e; omega
  · have := h.rise y x e a1 (by omega) (by omega)
    rw [a2, b2] at this
    omega
theorem endTo_congr (S T : List Th) : ∀ k, (∀ j, j < k → (S.getD j noTh).there = (T.getD j noTh).there ∧ (S.getD j noTh).place = (T.getD j noTh).place ∧ (S.getD j noTh).slots.length = (T.getD j noTh).slots.length ∧ (S.getD j noTh).fmt = (T.getD j noTh).fmt) → endTo S k = endTo T k := by
  intro k
  induction k with
  | zero => intro _; rfl
  | succ k ih =>
    intro h
    obtain ⟨h1, h2, h3, h4⟩ := h k (by omega)
    rw [endTo_succ, endTo_succ, ih fun j hj => h j (by omega), h1, h2, h3, h4]
/-- one thing's class and slots are turned, in its own words alone -/
theorem Inv.poke {H : HS} {M : MS} (h : Inv H M) (k : Nat) (hk : k < M.things.length) (hb : (M.things.getD k noTh).there = true) (mem : List Int) (hl : mem.length = H.mem.length) (t : Th)
    (t1 : t.there = true) (t2 : t.place = (M.things.getD k noTh).place) (t3 : t.fmt = (M.things.getD k noTh).fmt) (t4 : t.slots.length = (M.things.getD k noTh).slots.length) (hI : Is { H with mem := mem } (k + 1) t)
    (hm : ∀ x, x < (M.things.getD k noTh).place ∨ (M.things.getD k noTh).place + lenN (M.things.getD k noTh).slots.length (M.things.getD k noTh).fmt ≤ x → mem.getD x 0 = H.mem.getD x 0) :
    Inv { H with mem := mem } { M with things := M.things.set k t } := by
  have hg := fun i => getD_set M.things k i t hk
  have hgl : (M.things.set k t).length = M.things.length := List.length_set ..
  have ha : ∀ i, ((M.things.set k t).getD i noTh).there = (M.things.getD i noTh).there ∧ ((M.things.set k t).getD i noTh).place = (M.things.getD i noTh).place ∧ ((M.things.set k t).getD i noTh).slots.length = (M.things.getD i noTh).slots.length ∧ ((M.things.set k t).getD i noTh).fmt = (M.things.getD i noTh).fmt := fun i => by
    rw [hg i]
    split
    · rename_i e; rw [e, t1, hb]; exact ⟨rfl, t2, t4, t3⟩
    · exact ⟨rfl, rfl, rfl, rfl⟩
  have hsm := h.safe.small
  exact {
    safe := ⟨⟨hsm.words, hsm.oops, by show (mem.length : Int) ≤ _; rw [hl]; exact hsm.mem, hsm.count, hsm.mark⟩, h.safe.low, h.safe.bl, h.safe.bits, h.safe.seats, h.safe.order⟩
    words := h.words
    oops := h.oops
    mark := h.mark
    len := by show H.seats.length ≤ (M.things.set k t).length + 1; rw [hgl]; exact h.len
    seat0 := h.seat0
    there := fun i hi => by show (((M.things.set k t).getD i noTh).there = true ↔ _); rw [(ha i).1]; exact h.there i (by rw [← hgl]; exact hi)
    seat := fun i hi hbi => by
      have hb2 : ((M.things.set k t).getD i noTh).there = true := hbi
      show _ = ((M.things.set k t).getD i noTh).place ∧ _ = lenN ((M.things.set k t).getD i noTh).slots.length ((M.things.set k t).getD i noTh).fmt
      rw [(ha i).1] at hb2
      rw [(ha i).2.1, (ha i).2.2.1, (ha i).2.2.2]
      exact h.seat i (by rw [← hgl]; exact hi) hb2
    is := fun i hi hbi => by
      have hb2 : ((M.things.set k t).getD i noTh).there = true := hbi
      have hi2 : i < M.things.length := by rw [← hgl]; exact hi
      rw [(ha i).1] at hb2
      show Is _ (i + 1) ((M.things.set k t).getD i noTh)
      rw [hg i]
      by_cases e : i = k
      · rw [if_pos e, e]; exact hI
      · rw [if_neg e]
        have hIs := h.is i hi2 hb2
        have hap := h.apart i k hi2 hk hb2 hb e
        obtain ⟨s1, s2⟩ := h.seat i hi2 hb2
        exact hIs.same rfl (by have := (has_yes hIs.has).2.1; show i + 1 < H.seats.length; omega) (by show _ ≤ mem.length; rw [hl]; exact hIs.room) (fun x h1 h2 => hm x (by omega))
    count := by show H.count = thereTo (M.things.set k t) (M.things.set k t).length; rw [h.count, hgl]; exact thereTo_congr _ _ _ (fun j _ => (ha j).1.symm) (Nat.le_refl _) (by rw [hgl]; exact Nat.le_refl _)
    fin := by show mem.length = endTo (M.things.set k t) (M.things.set k t).length; rw [hl, h.fin, hgl]; exact (endTo_congr _ _ _ fun j _ => ha j).symm
    turn := fun i hi hbi => by
      have hb2 : ((M.things.set k t).getD i noTh).there = true := hbi
      rw [(ha i).1] at hb2
      exact h.turn i (by rw [← hgl]; exact hi) hb2
    order := fun j hj hne => by
      show _ ≤ (M.things.set k t).length ∧ ((M.things.set k t).getD _ noTh).there = true ∧ _
      rw [hgl, (ha _).1]
      exact h.order j hj hne
    rise := h.rise
    last := h.last
    gaps := fun x hx hc => by
      have hx2 : x < H.mem.length := by rw [← hl]; exact hx
      have hc2 : ∀ i, i < M.things.length → (M.things.getD i noTh).there = true → x < (M.things.getD i noTh).place ∨ (M.things.getD i noTh).place + lenN (M.things.getD i noTh).slots.length (M.things.getD i noTh).fmt ≤ x := fun i hi hbi => by
        have h3 : x < ((M.things.set k t).getD i noTh).place ∨ ((M.things.set k t).getD i noTh).place + lenN ((M.things.set k t).getD i noTh).slots.length ((M.things.set k t).getD i noTh).fmt ≤ x := hc i (by show i < (M.things.set k t).length; rw [hgl]; exact hi) (by show ((M.things.set k t).getD i noTh).there = true; rw [(ha i).1]; exact hbi)
        rw [(ha i).2.1, (ha i).2.2.1, (ha i).2.2.2] at h3
        exact h3
      show mem.getD x 0 = 0
      rw [hm x (hc2 k hk hb)]
      exact h.gaps x hx2 hc2
    bit := fun j => by show _ = ((M.things.set k t).getD j noTh).there; rw [(ha j).1]; exact h.bit j
    low := h.low
    model := ⟨by show ((M.things.set k t).length : Int) ≤ _; rw [hgl]; exact h.model.len, fun i hi => by
        show (((M.things.set k t).getD i noTh).slots.length : Int) ≤ 8192
        rw [(ha i).2.2.1]; exact h.model.slots i (by rw [← hgl]; exact hi), fun i hi => by
        show (((M.things.set k t).getD i noTh).place : Int) ≤ 1048576
        rw [(ha i).2.1]; exact h.model.place i (by rw [← hgl]; exact hi)⟩
    deep := h.deep
    most := by show (M.things.set k t).length ≤ M.oops; rw [hgl]; exact h.most
    room := h.room }
end Go.Proofs.YtklfnjlenbgmoaaDoor
