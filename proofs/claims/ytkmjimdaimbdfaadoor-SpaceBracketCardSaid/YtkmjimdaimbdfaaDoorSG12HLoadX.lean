import Derived.Test.YtkmjimdaimbdfaaDoorSG11HBackP
import Derived.Test.YtkmjimdaimbdfaaDoorSG07HRefB
import Derived.Test.YtkmjimdaimbdfaaDoorSG08HInvE
namespace Go.Proofs.YtkmjimdaimbdfaaDoor
open Go.RowKit
set_option linter.unusedVariables false
/-- a thing is laid at q, whatever lies ahead of it -/
def putAt (S : List Th) (q : Nat) (t : Th) : List Th := if q < S.length then S.set q t else S ++ (List.replicate (q - S.length) noTh ++ [t])
theorem putAt_get (S : List Th) (q i : Nat) (t : Th) : (putAt S q t).getD i noTh = if i = q then t else S.getD i noTh := by
  unfold putAt
  split
  · rename_i h; exact getD_set S q i t h
  · rename_i h
    rw [List.getD_eq_getElem?_getD, List.getD_eq_getElem?_getD]
    by_cases h1 : i < S.length
    · rw [List.getElem?_append_left h1, if_neg (by omega)]
    · rw [List.getElem?_append_right (by omega), List.getElem?_eq_none (l := S) (by omega)]
      by_cases h2 : i < q
      · rw [List.getElem?_append_left (by simp; omega), List.getElem?_replicate, if_pos (by omega), if_neg (by omega)]; rfl
      · rw [List.getElem?_append_right (by simp; omega), List.length_replicate]
        by_cases h3 : i = q
        · rw [if_pos h3, show i - S.length - (q - S.length) = 0 from by omega]; rfl
        · rw [if_neg h3, List.getElem?_eq_none (by simp; omega)]
theorem putAt_length (S : List Th) (q : Nat) (t : Th) : (putAt S q t).length = max S.length (q + 1) := by
  unfold putAt
  split
  · rw [List.length_set]; omega
  · simp; omega
theorem thereTo_putAt (S : List Th) (q : Nat) (t : Th) (hf : (S.getD q noTh).there = false) (ht : t.there = true) : thereTo (putAt S q t) (putAt S q t).length = thereTo S S.length + 1 := by
  by_cases h : q < S.length
  · have := thereTo_put S q t (by omega) hf ht
    unfold putTh at this
    unfold putAt
    rw [if_pos h] at this ⊢
    exact this
  · unfold putAt
    rw [if_neg h]
    unfold thereTo
    rw [List.take_length, List.take_length, List.filter_append, List.filter_append]
    simp [ht, noTh]
theorem Inv.layAt {H : HS} {M : MS} (h : Inv H M) (q : Nat) (hq0 : q < M.oops) (hqf : (M.things.getD q noTh).there = false) (cl : Int) (n f : Nat) (p pt : Option Addr) (c ct : Nat) (hf : f ≤ 1) (hn : n ≤ 8192) (hr1 : H.count < H.oops) (hr2 : H.mem.length + lenN n f ≤ H.words) :
    Inv (layH H (q + 1) cl n f) { M with things := putAt M.things q ⟨true, cl, f, endTo M.things M.things.length, List.replicate n (newX f), p, c⟩, pt := pt, ct := ct } := by
  have hfree : (M.things.getD q noTh).there = false ∧ True := ⟨hqf, trivial⟩
  rw [← h.fin]
  generalize ht : (⟨true, cl, f, H.mem.length, List.replicate n (newX f), p, c⟩ : Th) = t
  have t1 : t.there = true := by rw [← ht]
  have t2 : t.cls = cl := by rw [← ht]
  have t3 : t.fmt = f := by rw [← ht]
  have t4 : t.place = H.mem.length := by rw [← ht]
  have t5 : t.slots = List.replicate n (newX f) := by rw [← ht]
  have t6 : t.slots.length = n := by rw [t5]; simp
  have hg := fun i => putAt_get M.things q i t
  have hgl := putAt_length M.things q t
  have hS : ∀ i, (layH H (q + 1) cl n f).seats.getD i (0, 0, 0) = if i = q + 1 then (H.mem.length, lenN n f, H.order.length) else H.seats.getD i (0, 0, 0) := fun i => laySeat H.seats (q + 1) i _
  have hSl : (layH H (q + 1) cl n f).seats.length = max H.seats.length (q + 2) := by
    show ((padSeats H.seats (q + 1 + 1)).set (q + 1) _).length = _
    unfold padSeats
    simp
    omega
  have hM : (layH H (q + 1) cl n f).mem = H.mem ++ objCells cl n f := rfl
  have hMl : (H.mem ++ objCells cl n f).length = H.mem.length + lenN n f := by rw [List.length_append, objCells_len cl n f hf]
  have hO : (layH H (q + 1) cl n f).order = H.order ++ [q + 1] := rfl
  have hOg : ∀ j, (H.order ++ [q + 1]).getD j 0 = if j = H.order.length then q + 1 else H.order.getD j 0 := fun j => by
    rw [List.getD_eq_getElem?_getD, List.getD_eq_getElem?_getD]
    by_cases e : j = H.order.length
    · rw [if_pos e, e, List.getElem?_append_right (Nat.le_refl _)]; simp
    · rw [if_neg e]
      by_cases hl : j < H.order.length
      · rw [List.getElem?_append_left hl]
      · rw [List.getElem?_eq_none (by simp; omega), List.getElem?_eq_none (by omega)]
  have hL := h.len
  have hsm := h.safe.small
  have ho := hsm.oops
  have hw := hsm.words
  have hshort := h.short
  have hl2 := lenN_two n f
  have hmost := h.most
  have hoo := h.oops
  have hend : ∀ i, i < M.things.length → (M.things.getD i noTh).there = true → (M.things.getD i noTh).place + lenN (M.things.getD i noTh).slots.length (M.things.getD i noTh).fmt ≤ H.mem.length := fun i h1 h2 => by rw [h.fin]; exact endTo_ge M.things _ i h1 h2
  exact {
    safe := ⟨⟨hw, ho, by rw [hM, hMl]; show ((H.mem.length + lenN n f : Nat) : Int) ≤ (H.words : Int); omega, by show ((H.count + 1 : Nat) : Int) ≤ (H.oops : Int); omega, hsm.mark⟩,
      by show H.low ≤ (addBits H.bits (q + 1)).length; rw [addBits_len]; have := h.safe.low; omega,
      by show ((addBits H.bits (q + 1)).length : Int) ≤ 1024; rw [addBits_len]; have := h.safe.bl; omega,
      fun i => addBits_le H.bits (q + 1) h.safe.bits i, by rw [hSl]; have := h.safe.seats; omega,
      by rw [hO]; simp only [List.length_append, List.length_singleton]; omega⟩
    words := h.words
    oops := h.oops
    mark := h.mark
    len := by
      rw [hSl]
      show max H.seats.length (q + 2) ≤ (putAt M.things q t).length + 1
      rw [hgl]
      omega
    seat0 := by rw [hS, if_neg (by omega)]; exact h.seat0
    there := fun i hi => by
      show (((putAt M.things q t).getD i noTh).there = true ↔ _)
      rw [hg i, hS (i + 1)]
      by_cases e : i = q
      · rw [if_pos e, if_pos (by omega)]; simp only [t1, true_iff]; show lenN n f ≠ 0; omega
      · rw [if_neg e, if_neg (by omega)]
        by_cases hil : i < M.things.length
        · exact h.there i hil
        · have e1 : M.things.getD i noTh = noTh := by rw [List.getD_eq_getElem?_getD, List.getElem?_eq_none (by omega)]; rfl
          have e2 : H.seats.getD (i + 1) (0, 0, 0) = (0, 0, 0) := by
            rw [List.getD_eq_getElem?_getD, List.getElem?_eq_none (by omega)]; rfl
          rw [e1, e2]
          simp [noTh]
    seat := fun i hi hb => by
      have hb2 : ((putAt M.things q t).getD i noTh).there = true := hb
      show _ = ((putAt M.things q t).getD i noTh).place ∧ _ = lenN ((putAt M.things q t).getD i noTh).slots.length ((putAt M.things q t).getD i noTh).fmt
      rw [hg i] at hb2 ⊢
      rw [hS (i + 1)]
      by_cases e : i = q
      · rw [if_pos e, if_pos (by omega), t4, t6, t3]; exact ⟨rfl, rfl⟩
      · rw [if_neg e] at hb2 ⊢; rw [if_neg (by omega)]; exact h.seat i (th_in hb2) hb2
    is := fun i hi hb => by
      have hb2 : ((putAt M.things q t).getD i noTh).there = true := hb
      show Is _ (i + 1) ((putAt M.things q t).getD i noTh)
      rw [hg i] at hb2 ⊢
      by_cases e : i = q
      · rw [if_pos e, e]; exact is_laid _ q cl n f t hf hn t2 t3 t5
      · rw [if_neg e] at hb2 ⊢
        have hi2 := th_in hb2
        have hI := h.is i hi2 hb2
        have hr := hI.room
        refine hI.same (by rw [hS, if_neg (by omega)]) (by rw [hSl]; have := (has_yes hI.has).2.1; omega) (by rw [hM, hMl]; omega) (fun x h1 h2 => by rw [hM]; exact getD_left _ _ x (by omega))
    count := by show H.count + 1 = thereTo (putAt M.things q t) (putAt M.things q t).length; rw [thereTo_putAt M.things q t hqf t1, h.count]
    fin := by
      rw [hM, hMl]
      show _ = endTo (putAt M.things q t) (putAt M.things q t).length
      refine (endTo_is _ _ _ (fun j hj hb => ?_) (.inr ⟨q, by omega, by rw [hg, if_pos rfl]; exact t1, by rw [hg, if_pos rfl, t4, t6, t3]⟩)).symm
      rw [hg j] at hb ⊢
      by_cases e : j = q
      · rw [if_pos e, t4, t6, t3]; exact Nat.le_refl _
      · rw [if_neg e] at hb ⊢
        have := hend j (th_in hb) hb
        omega
    turn := fun i hi hb => by
      have hb2 : ((putAt M.things q t).getD i noTh).there = true := hb
      rw [hg i] at hb2
      rw [hS (i + 1), hO, hOg]
      by_cases e : i = q
      · rw [if_pos (by omega)]; simp; omega
      · rw [if_neg e] at hb2
        rw [if_neg (by omega)]
        have := h.turn i (th_in hb2) hb2
        rw [if_neg (by omega)]
        exact ⟨by rw [List.length_append, List.length_singleton]; omega, this.2⟩
    order := fun j hj hne => by
      rw [hO] at hj hne ⊢
      show _ ≤ (putAt M.things q t).length ∧ ((putAt M.things q t).getD _ noTh).there = true ∧ _
      rw [hOg] at hne ⊢
      by_cases e : j = H.order.length
      · rw [if_pos e, hS, if_pos rfl, hg, if_pos (by omega)]
        exact ⟨by omega, t1, e.symm⟩
      · rw [if_neg e] at hne ⊢
        simp at hj
        obtain ⟨o1, o2, o3⟩ := h.order j (by omega) hne
        have hne2 : H.order.getD j 0 ≠ q + 1 := fun e2 => by
          rw [e2, Nat.add_sub_cancel, hfree.1] at o2
          simp at o2
        rw [hS, if_neg hne2, hg, if_neg (by omega)]
        exact ⟨by omega, o2, o3⟩
    rise := fun i j hij hj hi0 hj0 => by
      rw [hO] at hj hi0 hj0 ⊢
      rw [hOg] at hi0 hj0 ⊢
      rw [hOg j]
      simp at hj
      rw [if_neg (by omega)] at hi0 ⊢
      obtain ⟨o1, o2, o3⟩ := h.order i (by omega) hi0
      have hne2 : H.order.getD i 0 ≠ q + 1 := fun e2 => by
        rw [e2, Nat.add_sub_cancel, hfree.1] at o2
        simp at o2
      rw [hS, if_neg hne2, hS]
      by_cases e : j = H.order.length
      · rw [if_pos e, if_pos rfl]
        have hI := h.seat (H.order.getD i 0 - 1) (by omega) o2
        have := hend (H.order.getD i 0 - 1) (by omega) o2
        rw [show H.order.getD i 0 - 1 + 1 = H.order.getD i 0 from by omega] at hI
        show _ ≤ H.mem.length
        omega
      · rw [if_neg e] at hj0 ⊢
        obtain ⟨p1, p2, p3⟩ := h.order j (by omega) hj0
        have hne3 : H.order.getD j 0 ≠ q + 1 := fun e2 => by
          rw [e2, Nat.add_sub_cancel, hfree.1] at p2
          simp at p2
        rw [if_neg hne3]
        exact h.rise i j hij (by omega) hi0 hj0
    last := fun j hj => by
      rw [hO] at hj ⊢
      simp at hj
      rw [hOg, if_pos (by omega)]
      omega
    gaps := fun x hx hc => by
      rw [hM] at hx ⊢
      rw [hMl] at hx
      by_cases hlt : x < H.mem.length
      · rw [getD_left _ _ x hlt]
        refine h.gaps x hlt (fun i hi hb => ?_)
        have hiq : i ≠ q := fun e => by rw [e, hfree.1] at hb; simp at hb
        have := hc i (by show i < (putAt M.things q t).length; omega) (by show ((putAt M.things q t).getD i noTh).there = true; rw [hg, if_neg hiq]; exact hb)
        have h3 : x < ((putAt M.things q t).getD i noTh).place ∨ ((putAt M.things q t).getD i noTh).place + lenN ((putAt M.things q t).getD i noTh).slots.length ((putAt M.things q t).getD i noTh).fmt ≤ x := this
        rw [hg, if_neg hiq] at h3
        exact h3
      · have := hc q (by show q < (putAt M.things q t).length; omega) (by show ((putAt M.things q t).getD q noTh).there = true; rw [hg, if_pos rfl]; exact t1)
        have h3 : x < ((putAt M.things q t).getD q noTh).place ∨ ((putAt M.things q t).getD q noTh).place + lenN ((putAt M.things q t).getD q noTh).slots.length ((putAt M.things q t).getD q noTh).fmt ≤ x := this
        rw [hg, if_pos rfl, t4, t6, t3] at h3
        omega
    bit := fun j => by
      show ((addBits H.bits (q + 1)).getD (j / 64) 0).testBit (j % 64) = ((putAt M.things q t).getD j noTh).there
      rw [addBits_bit H.bits (q + 1) j (by omega), hg, Nat.add_sub_cancel]
      split
      · exact t1.symm
      · exact h.bit j
    low := fun i hi => by
      have hi2 : i < H.low := hi
      show (addBits H.bits (q + 1)).getD i 0 = full
      have hb : H.bits.getD i 0 = full := h.low i hi2
      have h1 := addBits_le H.bits (q + 1) h.safe.bits i
      rw [addBits_getD] at h1 ⊢
      split
      · rw [if_pos (by assumption)] at h1
        have := Nat.left_le_or (n := H.bits.getD i 0) (m := 2 ^ ((q + 1 - 1) % 64))
        omega
      · exact hb
    model := ⟨by show ((putAt M.things q t).length : Int) ≤ 65538; have := h.model.len; omega, fun i hi => by
        show (((putAt M.things q t).getD i noTh).slots.length : Int) ≤ 8192
        rw [hg]
        split
        · rw [t6]; omega
        · by_cases hil : i < M.things.length
          · exact h.model.slots i hil
          · rw [List.getD_eq_getElem?_getD, List.getElem?_eq_none (by omega)]; simp [noTh], fun i hi => by
        show (((putAt M.things q t).getD i noTh).place : Int) ≤ 1048576
        rw [hg]
        split
        · rw [t4]; have := h.room; omega
        · by_cases hil : i < M.things.length
          · exact h.model.place i hil
          · rw [List.getD_eq_getElem?_getD, List.getElem?_eq_none (by omega)]; simp [noTh]⟩
    deep := fun j hj hne => by
      rw [hO] at hj hne ⊢
      rw [hOg] at hne ⊢
      by_cases e : j = H.order.length
      · rw [if_pos e, hS, if_pos rfl]
        show 2 * j ≤ H.mem.length
        omega
      · rw [if_neg e] at hne ⊢
        simp at hj
        obtain ⟨o1, o2, o3⟩ := h.order j (by omega) hne
        have hne2 : H.order.getD j 0 ≠ q + 1 := fun e2 => by
          rw [e2, Nat.add_sub_cancel, hfree.1] at o2
          simp at o2
        rw [hS, if_neg hne2]
        exact h.deep j (by omega) hne
    most := by show (putAt M.things q t).length ≤ M.oops; omega
    room := h.room }
end Go.Proofs.YtkmjimdaimbdfaaDoor



namespace Go.Proofs.YtkmjimdaimbdfaaDoor
open Go.RowKit
set_option linter.unusedVariables false
attribute [local go_sem ↓] Go.wp_at_zero Go.wp_at_succ
set_option maxRecDepth 20000 in
set_option maxHeartbeats 1000000 in
theorem State_ok (a : Nat) (l : Lay) (H : HS) (M : MS) (w : World) (h : Rep w a l H) (hi : InvV H M) :
    Calls Tryd.prog 15 #[.pointer (some ⟨a, 0, none⟩)] w fun e w' => ∃ ov ls, e = .returned (.agg #[.int .i64 H.words, .int .i64 H.oops, .int .i64 H.mark, ov]) ∧ SRep w' w.heap.size ov ls ∧ ls.map osKey = stKeys H M.things H.order.length ∧ Fr [] w w' := by
  have hal := h.lt a (by simp [foot])
  have hsm := hi.safe.small
  have hord := hi.safe.order
  have hsb := hsm.words
  have hsm2 := hsm.mem
  have hcb := hsm.count
  have hob := hsm.oops
  have hb : (H.mem.length : Int) ≤ 1048576 := by omega
  have HR : Hid (∀ V, Fr [] w V → Rep V a l H) := fun V hV => h.keep hV (by simp)
  have HObj : Hid (∀ V, Fr [] w V → ∀ j, j < H.order.length → H.order.getD j 0 ≠ 0 → Calls Tryd.prog 47 #[.pointer (some ⟨a, 0, none⟩), .int .i64 (H.order.getD j 0 : Nat)] V fun e w' => ∃ v, e = .returned v ∧ ∃ o : OS, v = .agg #[.int .i64 (o.oop : Int), .int .i64 o.cls, .int .i64 (o.fmt : Int), o.v] ∧ osKey o = (H.order.getD j 0, (M.things.getD (H.order.getD j 0 - 1) noTh).cls, (M.things.getD (H.order.getD j 0 - 1) noTh).fmt, (M.things.getD (H.order.getD j 0 - 1) noTh).slots) ∧ w'.ownsRow V.heap.size 28 1 o.v o.slots.length (o.slots.map (Value.int .i64)) ∧ Fr [] V w') := by
    intro V hV j hj hne
    obtain ⟨o1, o2, o3⟩ := hi.order j hj hne
    have hI := hi.is (H.order.getD j 0 - 1) (by omega) o2
    rw [show H.order.getD j 0 - 1 + 1 = H.order.getD j 0 from by omega] at hI
    refine Calls.mono (object_ok (H.order.getD j 0) _ a l H V (h.keep hV (by simp)) hI hb) ?_
    rintro e w' ⟨v, rfl, h1, h2⟩
    exact ⟨_, rfl, ⟨H.order.getD j 0, _, _, _, v⟩, rfl, rfl, h1, h2⟩
  have c0 := (World.cell?_alloc_lt w (.cells #[.int .i64 0, .int .i64 0, .int .i64 0, .slice none 0 0] 44) ⟨a, 0, none⟩ hal).trans h.c0
  have HM := mkHid (made_any a _ c0)
  have c1 := h.c1
  have c2 := h.c2
  have c3 := h.c3
  clear h
  go_enter Tryd.func15, Tryd.ntmps15
  go_wp2_with (go_at_call 43; refine Calls.mono HM.out ?_; rintro e w' ⟨rfl, hw'⟩; rw [hw']; clear hw' w')
  obtain ⟨W0, hW0⟩ : ∃ W0, W0 = w.alloc (.cells #[.int .i64 0, .int .i64 0, .int .i64 0, .slice none 0 0] 44) := ⟨_, rfl⟩
  rw [← hW0]
  have F0 : Fr [] w W0 := by rw [hW0]; exact Fr.alloc [] _ _
  have hB0 : W0.heap[w.heap.size]? = some (.cells #[.int .i64 0, .int .i64 0, .int .i64 0, .slice none 0 0] 44 (0, 0)) := by rw [hW0]; exact heap_alloc_new _ _
  have hz0 : W0.heap.size = w.heap.size + 1 := by rw [hW0]; simp
  have d1 := (F0.cell (p := ⟨a, 1, none⟩) hal (by simp)).trans c1
  have d2 := (F0.cell (p := ⟨a, 2, none⟩) hal (by simp)).trans c2
  have d3 := (F0.cell (p := ⟨a, 3, none⟩) hal (by simp)).trans c3
  have ha0 : a < W0.heap.size := by omega
  clear hW0 c0 c1 c2 c3 HM
  have HF0 := mkHid F0
  have HB0 := mkHid hB0
  have HS1 : Hid (∀ V, Eqw (W0.alloc (.cells #[.int .i64 (H.words : Int), .int .i64 (H.oops : Int), .int .i64 (H.mark : Int), .slice none 0 0] 44)) V → St1 w V (w.heap.size + 1) H.words H.oops H.mark []) := by
    intro V hV
    refine ⟨(HF0.out.trans (Fr.alloc [] _ _) (by simp)).trans (hV.fr []) (by simp), by omega, ?_, .slice none 0 0, [], ?_, ⟨World.ownsRow_nil _ _ _ _, fun o ho => by simp at ho⟩, rfl⟩
    · rw [hV.2.2.2, Below.heap_alloc _ _ _ (by omega)]; exact HB0.out
    · have := heap_alloc_new W0 (.cells #[.int .i64 (H.words : Int), .int .i64 (H.oops : Int), .int .i64 (H.mark : Int), .slice none 0 0] 44); rw [hz0] at this; rw [hV.2.2.2]; exact this
  clear F0 hB0
  go_wp2_with fail
  go_region
  all_goals go_wp2_with fail
  have HS2 := mkHid (HS1.out _ (eqw_drew _))
  have hVs : ((W0.alloc (.cells #[.int .i64 (H.words : Int), .int .i64 (H.oops : Int), .int .i64 (H.mark : Int), .slice none 0 0] 44)).drew).heap.size = (w.heap.size + 1) + 1 := by simp [hz0]
  have e3 : ((W0.alloc (.cells #[.int .i64 (H.words : Int), .int .i64 (H.oops : Int), .int .i64 (H.mark : Int), .slice none 0 0] 44)).drew).heap[(w.heap.size + 1)]? = some (.cells #[.int .i64 (H.words : Int), .int .i64 (H.oops : Int), .int .i64 (H.mark : Int), .slice none 0 0] 44 (0, 0)) := by have := heap_alloc_new W0 (.cells #[.int .i64 (H.words : Int), .int .i64 (H.oops : Int), .int .i64 (H.mark : Int), .slice none 0 0] 44); rw [hz0] at this; exact this
  generalize (W0.alloc (.cells #[.int .i64 (H.words : Int), .int .i64 (H.oops : Int), .int .i64 (H.mark : Int), .slice none 0 0] 44)).drew = V0 at *
  have hR0 := HR.out V0 HS2.out.fr
  have c9 := hR0.c9
  have e4 : V0.cell? ⟨(w.heap.size + 1), 3, none⟩ = some (.slice none 0 0) := by rw [cell_in e3]; rfl
  have HG : Hid (Calls Tryd.prog 46 #[.slice none 0 0, .int .i64 (H.count : Int)] V0.drew fun e w' => ∃ v, e = .returned v ∧ ((∃ p c, v = .slice p 0 c) ∧ w'.ownsRow ((w.heap.size + 1) + 1) 90 4 v 0 [] ∧ Hid (Fr [] V0 w'))) := by
    refine Calls.mono (grow61 H.count (by omega) V0.drew) ?_
    rintro e w' ⟨v, rfl, h1, h2⟩
    refine ⟨v, rfl, ?_, ?_, (Fr.drew [] _).trans h2 (by simp)⟩
    · rcases h1.2 with ⟨q1, q2⟩ | ⟨g, cap, cur, q1, _⟩
      · exact ⟨none, 0, q1⟩
      · exact ⟨_, cap, q1⟩
    · rw [← hVs]; exact h1
  have HN : Hid (∀ V p c w4, Hid (Fr [] V0 w4) → w4.ownsRow ((w.heap.size + 1) + 1) 90 4 (.slice p 0 c) 0 [] → Eqw (w4.setCell ⟨(w.heap.size + 1), 3, none⟩ (.slice p 0 c)) V → St1 w V (w.heap.size + 1) H.words H.oops H.mark []) := by
    intro V p c w4 hf ho hV
    have hS := HS2.out.idle hf.out
    have hb4 := (hf.out.block _ (lt_of_heap e3) (by simp)).trans e3
    have hne : ∀ i, i ≠ (w.heap.size + 1) → V.heap[i]? = w4.heap[i]? := fun i hi => by rw [hV.2.2.2, set_else hi]
    refine ⟨(hS.fr.trans (Fr.setCell (S := [(w.heap.size + 1)]) _ _ _ (by simp)) (fun b hb => by simp at hb; subst hb; right; omega)).trans (hV.fr []) (by simp), hS.lo, (hne _ (by omega)).trans hS.res, .slice p 0 c, [], ?_, ⟨?_, fun o ho => by simp at ho⟩, rfl⟩
    · rw [hV.2.2.2, set_in hb4]; rfl
    · exact own_congr ho fun g hg => hne g (by have := (ho.lt g hg).1; omega)
  have HFz : Hid (∀ w4, Hid (Fr [] V0 w4) → w4.frozen? ⟨(w.heap.size + 1), 3, none⟩ = false ∧ w4.cell? ⟨(w.heap.size + 1), 3, none⟩ = some (.slice none 0 0)) := by
    intro w4 hf
    have hb4 := (hf.out.block _ (lt_of_heap e3) (by simp)).trans e3
    exact ⟨frozen_in hb4 3, by rw [cell_in hb4]; rfl⟩
  clear hR0 e3 HS1 d1 d2 d3
  go_cut [] (fun V => Hid (St1 w V (w.heap.size + 1) H.words H.oops H.mark []))
  case first =>
    go_region_law
      (refine step_call rfl 46 Tryd.f46 Tryd.func46 (by kernel_rfl) (by kernel_rfl) _ _ rfl _ (by simp [Act.eval]) _ HG.out ?_; rintro _ w4 ⟨⟨p4, c4, rfl⟩, ho4, hf4⟩; obtain ⟨z1, z2⟩ := HFz.out w4 hf4)
    all_goals go_wp2_with fail
    all_goals
      go_meet
      case rel => exact HN.out _ p4 c4 w4 hf4 ho4 ⟨rfl, rfl, rfl, rfl⟩
  case rest =>
    have HC := hcut
    clear hcut HN HFz HG e4 c9 hVs HS2
    have hRc := HR.out wc HC.out.fr
    have c6 := hRc.c6
    clear hRc
    obtain ⟨k0, ki, kz0, kz1, kz2⟩ := info_parts info106
    go_wp2_with fail
    go_loopw [37] (fun q wr => ∃ j : Nat, j ≤ H.order.length ∧ q = .int .i64 j ∧ Hid (St1 w wr (w.heap.size + 1) H.words H.oops H.mark (stKeys H M.things j))) (fun q _ => H.order.length - (intOf q).toNat)
    case atStart => exact ⟨0, Nat.zero_le _, rfl, by simpa [stKeys] using HC⟩
    case round =>
      clear c6 HC
      obtain ⟨j, hjn, rfl, hq⟩ := hrel
      have hRr := HR.out wr hq.out.fr
      obtain ⟨ov, ls, hv, hsr, hkk⟩ := hq.out.at_
      by_cases hlt : j < H.order.length
      · obtain ⟨go, hgo, hco, hfo, hgoa, hgol⟩ := hRr.orderAt j hlt
        have o1 := hco j hlt
        have k1 : (0 : Int) ≤ (j : Int) := by omega
        have k2 : (j : Int) < (H.order.length : Int) := by omega
        rw [hgo]
        by_cases h0 : H.order.getD j 0 = 0
        · rw [h0] at o1
          have HN : Hid (stKeys H M.things (j + 1) = stKeys H M.things j) := stKeys_zero H M.things j hlt h0
          clear hRr hco hfo hv hsr hkk HObj h0 hgo
          go_wp2_with fail
          go_roundw
          case rel => exact ⟨j + 1, by omega, by go_num, by rw [HN.out]; exact hq.out⟩
          case measure => simp [intOf]; omega
        · have hob2 : ((H.order.getD j 0 : Int) != 0) = true := by rw [bne_iff_ne]; omega
          have hll : ls.length ≤ j := by
            have e1 : ls.length = (stKeys H M.things j).length := by rw [← hkk, List.length_map]
            rw [e1]
            unfold stKeys
            rw [List.length_map]
            exact Nat.le_trans (List.length_filter_le _ _) (by simp; omega)
          have HNk := mkHid (stKeys_one H M.things j _ hlt rfl h0)
          have HSk : Hid (Calls Tryd.prog 47 #[.pointer (some ⟨a, 0, none⟩), .int .i64 (H.order.getD j 0 : Nat)] wr.drew fun e w' => ∃ v, e = .returned v ∧ (∃ (oo : Nat) (oc : Int) (of_ : Nat) (os : List Int) (p : Option Addr) (c : Nat), v = .agg #[.int .i64 (oo : Int), .int .i64 oc, .int .i64 (of_ : Int), .slice p os.length c] ∧ stKeys H M.things (j + 1) = stKeys H M.things j ++ [(oo, oc, of_, os)] ∧ w'.ownsRow (w.heap.size + 2) 28 1 (.slice p os.length c) os.length (os.map (Value.int .i64)) ∧ Hid (Fr [] wr w'))) := by
            refine Calls.mono (HObj.out wr.drew (hq.out.fr.trans (Fr.drew [] wr) (by simp)) j hlt h0) ?_
            rintro e w' ⟨v, rfl, ⟨oo, oc, of_, os, ov⟩, rfl, hkey, ho, hf⟩
            dsimp only at *
            obtain ⟨p, c, rfl⟩ : ∃ p c, ov = .slice p os.length c := by
              rcases ho.2 with ⟨q1, q2⟩ | ⟨g, cap, cur, q1, _⟩
              · exact ⟨none, 0, by rw [q1, q2]⟩
              · exact ⟨_, cap, q1⟩
            refine ⟨_, rfl, oo, oc, of_, os, p, c, rfl, by rw [HNk.out, ← hkey]; rfl, own_base ho ?_, (Fr.drew [] wr).trans hf (by simp)⟩
            have := lt_of_heap hv
            show w.heap.size + 2 ≤ wr.heap.size
            omega
          have HBf : Hid (∀ V oo oc of_ p n c, Hid (Fr [] wr V) → w.heap.size + 1 < V.heap.size ∧ V.cell? ⟨w.heap.size + 1, 3, none⟩ = some ov ∧ (V.alloc (.cells #[.int .i64 oo, .int .i64 oc, .int .i64 of_, .slice p n c] 90)).ownsRow (w.heap.size + 1 + 1) 90 4 ov ls.length (osCells ls) ∧ (∀ j u, ([.int .i64 oo, .int .i64 oc, .int .i64 of_, .slice p n c] : List Value)[j]? = some u → (V.alloc (.cells #[.int .i64 oo, .int .i64 oc, .int .i64 of_, .slice p n c] 90)).cell? ((⟨V.heap.size, 0, none⟩ : Addr).add j) = some u)) := by
            intro V oo oc of_ p n c hV
            refine ⟨Nat.lt_of_lt_of_le (lt_of_heap hv) hV.out.size, ?_, (own_congr hsr.row fun g hg => hV.out.block g (hsr.row.lt g hg).2 (by simp)).alloc _, World.news_of_block (heap_alloc_new V (.cells #[.int .i64 oo, .int .i64 oc, .int .i64 of_, .slice p n c] 90))⟩
            rw [cell_in ((hV.out.block _ (lt_of_heap hv) (by simp)).trans hv)]
            rfl
          have HNx : Hid (∀ V (oo : Nat) (oc : Int) (of_ : Nat) (os : List Int) p c g2 cap W2 V2, Hid (Fr [] wr V) → stKeys H M.things (j + 1) = stKeys H M.things j ++ [(oo, oc, of_, os)] → V.ownsRow (w.heap.size + 2) 28 1 (.slice p os.length c) os.length (os.map (Value.int .i64)) → (V.alloc (.cells #[.int .i64 (oo : Int), .int .i64 oc, .int .i64 (of_ : Int), .slice p os.length c] 90)).grownBy W2 ov.ownBlock → W2.ownsRow (w.heap.size + 1 + 1) 90 4 (.slice (some ⟨g2, 0, none⟩) (ls.length + 1) cap) (ls.length + 1) (osCells ls ++ [.int .i64 (oo : Int), .int .i64 oc, .int .i64 (of_ : Int), .slice p os.length c]) → Eqw (W2.setCell ⟨w.heap.size + 1, 3, none⟩ (.slice (some ⟨g2, 0, none⟩) (ls.length + 1) cap)) V2 → St1 w V2 (w.heap.size + 1) H.words H.oops H.mark (stKeys H M.things (j + 1))) := by
            intro V oo oc of_ os p c g2 cap W2 V2 hV hk ho hg hown he
            rw [hk]
            exact (hq.out.idle hV.out).next (o := ⟨oo, oc, of_, os, .slice p os.length c⟩) ((hV.out.block _ (lt_of_heap hv) (by simp)).trans hv) (hsr.idle hV.out) hkk ho hg hown he
          have HFz : Hid (∀ V oo oc of_ p n c W2, Hid (Fr [] wr V) → (V.alloc (.cells #[.int .i64 oo, .int .i64 oc, .int .i64 of_, .slice p n c] 90)).grownBy W2 ov.ownBlock → W2.frozen? ⟨w.heap.size + 1, 3, none⟩ = false ∧ W2.cell? ⟨w.heap.size + 1, 3, none⟩ = some ov) := by
            intro V oo oc of_ p n c W2 hV hg
            have h1 : W2.heap[w.heap.size + 1]? = some (.cells #[.int .i64 (H.words : Int), .int .i64 (H.oops : Int), .int .i64 (H.mark : Int), ov] 44 (0, 0)) := by
              rw [hg.block _ (by simp; have := lt_of_heap hv; have := hV.out.size; omega) (fun e => by have := (hsr.row.lt _ e.symm).1; omega), Below.heap_alloc _ _ _ (Nat.lt_of_lt_of_le (lt_of_heap hv) hV.out.size)]
              exact (hV.out.block _ (lt_of_heap hv) (by simp)).trans hv
            exact ⟨frozen_in h1 3, by rw [cell_in h1]; rfl⟩
          have d3 : wr.cell? ⟨w.heap.size + 1, 3, none⟩ = some ov := by rw [cell_in hv]; rfl
          have hBl := lt_of_heap hv
          generalize H.order.getD j 0 = o at *
          clear hRr hco hfo hv hsr hkk HObj hgo hq HNk
          go_wp2_with fail
          go_region_law
            (first
              | (refine step_append_lies _ rfl (.tmp 44) (.tmp 48) 42 rfl (w.heap.size + 1 + 1) 90 k0 (.agg #[.int .i64 0, .int .i64 0, .int .i64 0, .slice none 0 0]) 4 48 Tryd.underlying42 ki kz0 kz1 kz2 rfl (by decide) ov ls.length (osCells ls) (by simp [Act.eval]) z3 ⟨w5.heap.size, 0, none⟩ 1 1 [.int .i64 (oo : Int), .int .i64 oc, .int .i64 (of_ : Int), .slice p5 os5.length c5] (by simp [Act.eval]) rfl z4 (by simp [Value.oneCell']) (by decide) (by unfold maxLen; omega) (by omega) (by simp; omega) _ rfl ?_; intro g6 c6 w6 hown6 hgrow6 hat6 hlt6; obtain ⟨y1, y2⟩ := HFz.out w5 oo oc of_ p5 os5.length c5 w6 hf5 hgrow6)
              | (refine step_call rfl 47 Tryd.f47 Tryd.func47 (by kernel_rfl) (by kernel_rfl) _ _ rfl _ (by simp [Act.eval, Act.put]) _ HSk.out ?_; rintro _ w5 ⟨oo, oc, of_, os5, p5, c5, rfl, hk5, ho5, hf5⟩; obtain ⟨z1, z2, z3, z4⟩ := HBf.out w5 oo oc of_ p5 os5.length c5 hf5))
          all_goals go_wp2_with fail
          all_goals
            go_roundw
            case rel => exact ⟨j + 1, by omega, by go_num, HNx.out w5 oo oc of_ os5 p5 c5 g6 c6 w6 _ hf5 hk5 ho5 hgrow6 hown6 ⟨rfl, rfl, rfl, rfl⟩⟩
            case measure => simp [intOf]; omega
      · have hje : j = H.order.length := by omega
        subst hje
        have hB := lt_of_heap hv
        have d0 : wr.cell? ⟨w.heap.size + 1, 0, none⟩ = some (.int .i64 (H.words : Int)) := by rw [cell_in hv]; rfl
        have d1 : wr.cell? ⟨w.heap.size + 1, 1, none⟩ = some (.int .i64 (H.oops : Int)) := by rw [cell_in hv]; rfl
        have d2 : wr.cell? ⟨w.heap.size + 1, 2, none⟩ = some (.int .i64 (H.mark : Int)) := by rw [cell_in hv]; rfl
        have d3 : wr.cell? ⟨w.heap.size + 1, 3, none⟩ = some ov := by rw [cell_in hv]; rfl
        have hr := hq.out.res
        have r0 : wr.cell? ⟨w.heap.size, 0, none⟩ = some (.int .i64 0) := by rw [cell_in hr]; rfl
        have r1 : wr.cell? ⟨w.heap.size, 1, none⟩ = some (.int .i64 0) := by rw [cell_in hr]; rfl
        have r2 : wr.cell? ⟨w.heap.size, 2, none⟩ = some (.int .i64 0) := by rw [cell_in hr]; rfl
        have r3 : wr.cell? ⟨w.heap.size, 3, none⟩ = some (.slice none 0 0) := by rw [cell_in hr]; rfl
        have y0 := frozen_in hr 0
        have y1 := frozen_in hr 1
        have y2 := frozen_in hr 2
        have y3 := frozen_in hr 3
        obtain ⟨pv, cv, rfl⟩ : ∃ p c, ov = .slice p ls.length c := by
          rcases hsr.row.2 with ⟨h2, h3⟩ | ⟨g, cap, cur, h2, _⟩
          · exact ⟨none, 0, by rw [h2, h3]⟩
          · exact ⟨_, cap, h2⟩
        have HE : Hid (∀ V, Fr [w.heap.size] wr V → SRep V w.heap.size (.slice pv ls.length cv) ls ∧ ls.map osKey = stKeys H M.things H.order.length ∧ Fr [] w V) := by
          intro V hV
          refine ⟨⟨own_base (own_congr hsr.row fun g hg => hV.block g (hsr.row.lt g hg).2 (by have := (hsr.row.lt g hg).1; simp; omega)) (by omega), fun o ho => own_base (own_congr (hsr.slots o ho) fun g hg => hV.block g ((hsr.slots o ho).lt g hg).2 (by have := ((hsr.slots o ho).lt g hg).1; simp; omega)) (by omega)⟩, hkk, hq.out.fr.trans hV (fun b hb => by simp at hb; subst hb; right; exact Nat.le_refl _)⟩
        have HRes := mkHid hr
        generalize hln : ls.length = ln at *
        clear hq hv hsr hkk hr hRr HObj
        go_wp2_with fail
        obtain ⟨V, hV⟩ : ∃ V, V = (((wr.setCell ⟨w.heap.size, 0, none⟩ (.int .i64 (H.words : Int))).setCell ⟨w.heap.size, 1, none⟩ (.int .i64 (H.oops : Int))).setCell ⟨w.heap.size, 2, none⟩ (.int .i64 (H.mark : Int))).setCell ⟨w.heap.size, 3, none⟩ (.slice pv ln cv) := ⟨_, rfl⟩
        have hVb : V.heap[w.heap.size]? = some (.cells #[.int .i64 (H.words : Int), .int .i64 (H.oops : Int), .int .i64 (H.mark : Int), .slice pv ln cv] 44 (0, 0)) := by
          rw [hV, set_in (set_in (set_in (set_in HRes.out 0 _) 1 _) 2 _) 3 _]
          rfl
        have F : Fr [w.heap.size] wr V := by
          rw [hV]
          exact (((Fr.setCell (S := [w.heap.size]) wr ⟨w.heap.size, 0, none⟩ (.int .i64 (H.words : Int)) (by simp)).trans (Fr.setCell (S := [w.heap.size]) _ ⟨w.heap.size, 1, none⟩ (.int .i64 (H.oops : Int)) (by simp)) (fun b hb => .inl hb)).trans (Fr.setCell (S := [w.heap.size]) _ ⟨w.heap.size, 2, none⟩ (.int .i64 (H.mark : Int)) (by simp)) (fun b hb => .inl hb)).trans (Fr.setCell (S := [w.heap.size]) _ ⟨w.heap.size, 3, none⟩ (.slice pv ln cv) (by simp)) (fun b hb => .inl hb)
        rw [← hV]
        clear hV
        have x0 : V.cell? ⟨w.heap.size, 0, none⟩ = some (.int .i64 (H.words : Int)) := by rw [cell_in hVb]; rfl
        have x1 : V.cell? ⟨w.heap.size, 1, none⟩ = some (.int .i64 (H.oops : Int)) := by rw [cell_in hVb]; rfl
        have x2 : V.cell? ⟨w.heap.size, 2, none⟩ = some (.int .i64 (H.mark : Int)) := by rw [cell_in hVb]; rfl
        have x3 : V.cell? ⟨w.heap.size, 3, none⟩ = some (.slice pv ln cv) := by rw [cell_in hVb]; rfl
        refine bodyPost_ret (v := .agg #[.int .i64 (H.words : Int), .int .i64 (H.oops : Int), .int .i64 (H.mark : Int), .slice pv ln cv]) (by simp [results, Tryd.results15, go_sem, x0, x1, x2, x3]) rfl ?_
        obtain ⟨h5, h6, h7⟩ := HE.out V F
        exact ⟨_, ls, rfl, h5, h6, h7⟩
end Go.Proofs.YtkmjimdaimbdfaaDoor



namespace Go.Proofs.YtkmjimdaimbdfaaDoor
open Go.RowKit
set_option linter.unusedVariables false
attribute [local go_sem ↓] Go.wp_at_zero Go.wp_at_succ
/-- a slot is set, and the relation stands -/
theorem setSlot_inv (k i : Nat) (v : Int) (a : Nat) (l : Lay) (H : HS) (M : MS) (w : World) (h : Rep w a l H) (hi : Inv H M) (hk : k < M.things.length) (hb : (M.things.getD k noTh).there = true) (hil : i < (M.things.getD k noTh).slots.length) (hm : mayB v ((M.things.getD k noTh).fmt : Int) = true) :
    ∃ H', Inv H' { M with things := M.things.set k (withSlot (M.things.getD k noTh) i v) } ∧ H'.age = H.age ∧ H'.words = H.words ∧ H'.oops = H.oops ∧ H'.mark = H.mark ∧ H'.order = H.order ∧ H'.seats = H.seats ∧ H'.count = H.count ∧ H'.mem.length = H.mem.length ∧ Calls Tryd.prog 69 #[.pointer (some ⟨a, 0, none⟩), sv (H.seats.getD (k + 1) (0, 0, 0)), .int .i64 ((M.things.getD k noTh).fmt : Int), .int .i64 i, .int .i64 v] w fun e w' => e = .returned (.tuple #[]) ∧ Rep w' a l H' ∧ Nx a l l w w' := by
  have hI := hi.is k hk hb
  have hmem : (H.mem.length : Int) ≤ 1048576 := by have := hi.safe.small.mem; have := hi.safe.small.words; omega
  have hroom := hI.room
  have h22 := lenN_two (M.things.getD k noTh).slots.length (M.things.getD k noTh).fmt
  have hfl := hI.fmt
  have hlen := hI.len
  rcases (show (M.things.getD k noTh).fmt = 0 ∨ (M.things.getD k noTh).fmt = 1 from by omega) with hf | hf
  · have hw := lenN_word (M.things.getD k noTh).slots.length i (M.things.getD k noTh).fmt hf hil
    refine ⟨_, hi.putW k hk hb i v hil hf, rfl, rfl, rfl, rfl, rfl, rfl, rfl, by simp, ?_⟩
    rw [hf]
    exact setSlot_w (H.seats.getD (k + 1) (0, 0, 0)) i v a l H w h (by omega) hmem
  · have hw := lenN_byte (M.things.getD k noTh).slots.length i hil
    rw [← hf] at hw
    obtain ⟨old, o1, o2, o3⟩ := hI.byte hf i hil
    have hv : 0 ≤ v ∧ v ≤ 255 := by
      unfold mayB at hm
      rw [if_pos (by omega)] at hm
      exact of_decide_eq_true hm
    obtain ⟨vn, rfl⟩ : ∃ vn : Nat, v = (vn : Int) := ⟨v.toNat, by omega⟩
    refine ⟨_, hi.putB' k hk hb i vn old hil hf (by omega) o1 o2, rfl, rfl, rfl, rfl, rfl, rfl, rfl, by simp, ?_⟩
    rw [hf]
    exact setB_any (H.seats.getD (k + 1) (0, 0, 0)) i vn old a l H w h (by omega) hmem o1 (by omega) (by omega) o2
/-- an object is being loaded: i of its slots stand -/
structure Ld (H0 : HS) (M0 : MS) (q : Nat) (cls : Int) (fmt : Nat) (ss : List Int) (i : Nat) (H : HS) (M : MS) : Prop where
  inv : Inv H M
  age : H.age = H0.age
  words : H.words = H0.words
  oops : H.oops = H0.oops
  mark : H.mark = H0.mark
  order : H.order = H0.order ++ [q + 1]
  seat : H.seats.getD (q + 1) (0, 0, 0) = (H0.mem.length, lenN ss.length fmt, H0.order.length)
  len : q < M.things.length
  at_ : (M.things.getD q noTh).there = true ∧ (M.things.getD q noTh).cls = cls ∧ (M.things.getD q noTh).fmt = fmt ∧ (M.things.getD q noTh).slots.length = ss.length ∧ ∀ j, j < i → (M.things.getD q noTh).slots.getD j 0 = ss.getD j 0
  count : H.count = H0.count + 1
  mem : H.mem.length = H0.mem.length + lenN ss.length fmt
  rest : ∀ k, k ≠ q → M.things.getD k noTh = M0.things.getD k noTh
theorem Ld.next {H0 H H' : HS} {M0 M : MS} {q fmt i : Nat} {cls : Int} {ss : List Int} (h : Ld H0 M0 q cls fmt ss i H M) (hi : i < ss.length) (hinv : Inv H' { M with things := M.things.set q (withSlot (M.things.getD q noTh) i (ss.getD i 0)) }) (e1 : H'.age = H.age) (e2 : H'.words = H.words) (e3 : H'.oops = H.oops) (e4 : H'.mark = H.mark) (e5 : H'.order = H.order) (e6 : H'.seats = H.seats) (e7 : H'.count = H.count) (e8 : H'.mem.length = H.mem.length) :
    Ld H0 M0 q cls fmt ss (i + 1) H' { M with things := M.things.set q (withSlot (M.things.getD q noTh) i (ss.getD i 0)) } := by
  obtain ⟨a1, a2, a3, a4, a5⟩ := h.at_
  have hg := fun k => getD_set M.things q k (withSlot (M.things.getD q noTh) i (ss.getD i 0)) h.len
  refine ⟨hinv, e1.trans h.age, e2.trans h.words, e3.trans h.oops, e4.trans h.mark, e5.trans h.order, by rw [e6]; exact h.seat, by show q < (M.things.set q _).length; rw [List.length_set]; exact h.len, ?_, e7.trans h.count, e8.trans h.mem, fun k hk => ?_⟩
  · show ((M.things.set q _).getD q noTh).there = true ∧ ((M.things.set q _).getD q noTh).cls = cls ∧ ((M.things.set q _).getD q noTh).fmt = fmt ∧ ((M.things.set q _).getD q noTh).slots.length = ss.length ∧ ∀ j, j < i + 1 → ((M.things.set q _).getD q noTh).slots.getD j 0 = ss.getD j 0
    rw [hg q, if_pos rfl]
    refine ⟨a1, a2, a3, by show ((M.things.getD q noTh).slots.set i _).length = _; rw [List.length_set]; exact a4, fun j hj => ?_⟩
    show ((M.things.getD q noTh).slots.set i (ss.getD i 0)).getD j 0 = _
    rw [getD_set' _ _ _ _ (by omega)]
    by_cases e : j = i
    · rw [if_pos e, e]
    · rw [if_neg e]; exact a5 j (by omega)
  · show (M.things.set q _).getD k noTh = _
    rw [hg k, if_neg hk]
    exact h.rest k hk
theorem ld_start {H : HS} {M : MS} (h : Inv H M) (q : Nat) (hq : q < M.oops) (hf0 : (M.things.getD q noTh).there = false) (cls : Int) (fmt : Nat) (ss : List Int) (hf : fmt ≤ 1) (hn : ss.length ≤ 8192) (hr1 : H.count < H.oops) (hr2 : H.mem.length + lenN ss.length fmt ≤ H.words) :
    ∃ M', Ld H M q cls fmt ss 0 (layH H (q + 1) cls ss.length fmt) M' := by
  have hinv := h.layAt q hq hf0 cls ss.length fmt none none 0 0 hf hn hr1 hr2
  have hg := fun i => putAt_get M.things q i ⟨true, cls, fmt, endTo M.things M.things.length, List.replicate ss.length (newX fmt), none, 0⟩
  refine ⟨_, hinv, rfl, rfl, rfl, rfl, rfl, ?_, ?_, ?_, rfl, ?_, fun k hk => ?_⟩
  · show ((padSeats H.seats (q + 1 + 1)).set (q + 1) (H.mem.length, lenN ss.length fmt, H.order.length)).getD (q + 1) (0, 0, 0) = _
    rw [getD_seat _ _ _ _ (by unfold padSeats; simp; omega), if_pos rfl]
  · show q < (putAt M.things q _).length
    rw [putAt_length]; omega
  · show ((putAt M.things q _).getD q noTh).there = true ∧ ((putAt M.things q _).getD q noTh).cls = cls ∧ ((putAt M.things q _).getD q noTh).fmt = fmt ∧ ((putAt M.things q _).getD q noTh).slots.length = ss.length ∧ ∀ j, j < 0 → _
    rw [hg q, if_pos rfl]
    exact ⟨rfl, rfl, rfl, by simp, fun j hj => by omega⟩
  · show (H.mem ++ objCells cls ss.length fmt).length = _
    rw [List.length_append, objCells_len cls ss.length fmt hf]
  · show (putAt M.things q _).getD k noTh = _
    rw [hg k, if_neg hk]
end Go.Proofs.YtkmjimdaimbdfaaDoor



namespace Go.Proofs.YtkmjimdaimbdfaaDoor
open Go.RowKit
set_option linter.unusedVariables false
attribute [local go_sem ↓] Go.wp_at_zero Go.wp_at_succ
set_option maxRecDepth 20000 in
set_option maxHeartbeats 1000000 in
theorem load_ok (q : Nat) (cls : Int) (fmt : Nat) (ss : List Int) (v : Value) (a : Nat) (l : Lay) (H : HS) (M : MS) (w : World) (h : Rep w a l H) (hi : Inv H M) (hq : q < M.oops) (hf0 : (M.things.getD q noTh).there = false) (hf : fmt ≤ 1) (hn : ss.length ≤ 8192) (hr1 : H.count < H.oops) (hr2 : H.mem.length + lenN ss.length fmt ≤ H.words)
    (hmay : ∀ j, j < ss.length → mayB (ss.getD j 0) (fmt : Int) = true) (ho : Rd w v ss) (hbn : 0 < ss.length → ∀ g, v.ownBlock = some g → g ∉ foot a l) :
    Calls Tryd.prog 84 #[.pointer (some ⟨a, 0, none⟩), .agg #[.int .i64 ((q : Int) + 1), .int .i64 cls, .int .i64 (fmt : Int), v]] w fun e w' => e = .returned (.tuple #[]) ∧ ∃ l' H' M', Rep w' a l' H' ∧ Nx a l l' w w' ∧ Ld H M q cls fmt ss ss.length H' M' := by
  obtain ⟨p, c, rfl, hrow⟩ := ho.at_
  have hsm := hi.safe.small
  have hoo := hi.oops
  obtain ⟨M1, hld⟩ := ld_start hi q hq hf0 cls fmt ss hf hn hr1 hr2
  have hlay := lay_any (q + 1) ss.length fmt cls a l H (w.alloc (.cells #[.int .i64 ((q : Int) + 1), .int .i64 cls, .int .i64 (fmt : Int), .slice p ss.length c] 90)) (h.alloc _) hsm (by omega) (by have := hsm.oops; omega) (by omega) (by omega) hr2 hi.safe.seats (by have := hi.safe.order; omega) hi.safe.bits (by have := hi.safe.bl; omega)
  rw [show ((q + 1 : Nat) : Int) = (q : Int) + 1 from by omega] at hlay
  have HLay := mkHid hlay
  have HL0 := mkHid hld
  have HMay := mkHid hmay
  have hBn : w.heap.size ∉ foot a l := fun hb => by have := h.lt _ hb; omega
  have HRow : Hid (0 < ss.length → ∃ g off, p = some ⟨g, off, none⟩ ∧ g < w.heap.size ∧ g ∉ foot a l ∧ ∀ i, i < ss.length → w.cell? ⟨g, off + i, none⟩ = some (.int .i64 (ss.getD i 0))) := by
    intro hp
    obtain ⟨g, off, hg, hgl, hc⟩ := hrow hp
    exact ⟨g, off, hg, hgl, hbn hp g (by rw [hg]; rfl), hc⟩
  obtain ⟨W1, hW1⟩ : ∃ W1, W1 = w.alloc (.cells #[.int .i64 ((q : Int) + 1), .int .i64 cls, .int .i64 (fmt : Int), .slice p ss.length c] 90) := ⟨_, rfl⟩
  have HX1 : Hid (Nx a l l w W1) := by rw [hW1]; exact Nx.frw (Fr.alloc _ _ _)
  have hB1 : W1.heap[w.heap.size]? = some (.cells #[.int .i64 ((q : Int) + 1), .int .i64 cls, .int .i64 (fmt : Int), .slice p ss.length c] 90 (0, 0)) := by rw [hW1]; exact heap_alloc_new _ _
  have HB1 := mkHid hB1
  rw [← hW1] at HLay
  have hWs : W1.heap.size = w.heap.size + 1 := by rw [hW1]; simp
  have HWs := mkHid hWs
  clear h hi ho hbn hrow hmay hlay hld hB1 hWs hf0 hr2 hr1 hsm
  simp only [I] at HLay
  go_enter Tryd.func84, Tryd.ntmps84
  go_wp2_with fail
  rw [← hW1]
  clear hW1
  refine Calls.mono HLay.out ?_
  rintro e w2 ⟨rfl, l2, hr2, hx2⟩
  have hb2 := (hx2.1.block _ (lt_of_heap HB1.out) hBn).trans HB1.out
  have e3 : w2.cell? ⟨w.heap.size, 3, none⟩ = some (.slice p ss.length c) := by rw [cell_in hb2]; rfl
  have hz2 := lt_of_heap hb2
  have HR2 := mkHid (hr2.alloc (.cells #[.int .i64 (H.mem.length : Int), .int .i64 ((lenN ss.length fmt : Nat) : Int), .int .i64 (H.order.length : Int)] 94))
  have HX2 : Hid (Nx a l l2 w (w2.alloc (.cells #[.int .i64 (H.mem.length : Int), .int .i64 ((lenN ss.length fmt : Nat) : Int), .int .i64 (H.order.length : Int)] 94))) := (HX1.out.trans hx2).trans (Nx.frw (Fr.alloc _ _ _))
  have HBs : Hid ((w2.alloc (.cells #[.int .i64 (H.mem.length : Int), .int .i64 ((lenN ss.length fmt : Nat) : Int), .int .i64 (H.order.length : Int)] 94)).heap[w.heap.size]? = some (.cells #[.int .i64 ((q : Int) + 1), .int .i64 cls, .int .i64 (fmt : Int), .slice p ss.length c] 90 (0, 0)) ∧ (w2.alloc (.cells #[.int .i64 (H.mem.length : Int), .int .i64 ((lenN ss.length fmt : Nat) : Int), .int .i64 (H.order.length : Int)] 94)).heap[w2.heap.size]? = some (.cells #[.int .i64 (H.mem.length : Int), .int .i64 ((lenN ss.length fmt : Nat) : Int), .int .i64 (H.order.length : Int)] 94 (0, 0))) := ⟨by rw [Below.heap_alloc _ _ _ hz2]; exact hb2, heap_alloc_new _ _⟩
  have hn1 : w.heap.size ∉ foot a l2 := fun hb => by
    rcases hx2.2 _ hb with h1 | h1
    · exact hBn h1
    · have := HWs.out; omega
  have hn2 : w2.heap.size ∉ foot a l2 := fun hb => by have := hr2.lt _ hb; omega
  have HRow2 : Hid (0 < ss.length → ∃ g off, p = some ⟨g, off, none⟩ ∧ g < (w2.alloc (.cells #[.int .i64 (H.mem.length : Int), .int .i64 ((lenN ss.length fmt : Nat) : Int), .int .i64 (H.order.length : Int)] 94)).heap.size ∧ g ∉ foot a l2 ∧ ∀ i, i < ss.length → (w2.alloc (.cells #[.int .i64 (H.mem.length : Int), .int .i64 ((lenN ss.length fmt : Nat) : Int), .int .i64 (H.order.length : Int)] 94)).cell? ⟨g, off + i, none⟩ = some (.int .i64 (ss.getD i 0))) := by
    intro hp
    obtain ⟨g, off, g1, g2, g3, g4⟩ := HRow.out hp
    have hs := HX2.out.1.size
    refine ⟨g, off, g1, by omega, fun hb => ?_, fun i hi => ?_⟩
    · rcases hx2.2 _ hb with h1 | h1
      · exact g3 h1
      · have := HWs.out; omega
    · exact (HX2.out.1.cell (p := ⟨g, off + i, none⟩) g2 g3).trans (g4 i hi)
  clear hr2 hx2 hb2 HLay HX1 HB1 HRow
  go_wp2_with fail
  generalize w2.alloc (.cells #[.int .i64 (H.mem.length : Int), .int .i64 ((lenN ss.length fmt : Nat) : Int), .int .i64 (H.order.length : Int)] 94) = W2 at *
  generalize w2.heap.size = S at *
  go_loopw [21] (fun qq wr => ∃ i : Nat, i ≤ ss.length ∧ qq = .int .i64 i ∧ Hid (Nx a l2 l2 W2 wr ∧ ∃ H' M', Rep wr a l2 H' ∧ Ld H M q cls fmt ss i H' M')) (fun qq _ => ss.length - (intOf qq).toNat)
  case atStart => exact ⟨0, Nat.zero_le _, rfl, Nx.refl _ _ _, _, M1, HR2.out, HL0.out⟩
  case round =>
    obtain ⟨i, hin, rfl, hqq⟩ := hrel
    obtain ⟨hx, H3, M3, hr3, hl3⟩ := hqq.out
    have b0 := (hx.1.block _ (lt_of_heap HBs.out.1) hn1).trans HBs.out.1
    have b1 := (hx.1.block _ (lt_of_heap HBs.out.2) hn2).trans HBs.out.2
    by_cases hlt : i < ss.length
    · obtain ⟨g, off, rfl, g2, g3, g4⟩ := HRow2.out (by omega)
      have gx := (hx.1.cell (p := ⟨g, off + i, none⟩) g2 g3).trans (g4 i hlt)
      obtain ⟨a1, a2, a3, a4, a5⟩ := hl3.at_
      obtain ⟨H4, hinv4, e1, e2, e3', e4, e5, e6, e7, e8, hcall⟩ := setSlot_inv q i (ss.getD i 0) a l2 H3 M3 wr hr3 hl3.inv hl3.len a1 (by omega) (by rw [a3]; exact HMay.out i hlt)
      rw [hl3.seat, a3] at hcall
      have hnx := hl3.next hlt hinv4 e1 e2 e3' e4 e5 e6 e7 e8
      have d2 : wr.cell? ⟨w.heap.size, 2, none⟩ = some (.int .i64 (fmt : Int)) := by rw [cell_in b0]; rfl
      have s0 : wr.cell? ⟨S, 0, none⟩ = some (.int .i64 (H.mem.length : Int)) := by rw [cell_in b1]; rfl
      have s1 : wr.cell? ⟨S, 1, none⟩ = some (.int .i64 ((lenN ss.length fmt : Nat) : Int)) := by rw [cell_in b1]; rfl
      have s2 : wr.cell? ⟨S, 2, none⟩ = some (.int .i64 (H.order.length : Int)) := by rw [cell_in b1]; rfl
      dsimp only [sv, I] at hcall
      have HC := mkHid hcall
      have HN := mkHid hnx
      have HX := mkHid hx
      have k1 : (0 : Int) ≤ (i : Int) := by omega
      have k2 : (i : Int) < (ss.length : Int) := by omega
      generalize ss.getD i 0 = xv at *
      clear hqq hx hr3 hl3 a1 a2 a3 a4 a5 hinv4 e1 e2 e3' e4 e5 e6 e7 e8 hcall hnx b0 b1 g4 g2 g3
      go_wp2_with fail
      refine Calls.mono HC.out ?_
      rintro e w5 ⟨rfl, hr5, hx5⟩
      have HF : Hid (Nx a l2 l2 W2 w5 ∧ ∃ H' M', Rep w5 a l2 H' ∧ Ld H M q cls fmt ss (i + 1) H' M') := ⟨HX.out.trans hx5, _, _, hr5, HN.out⟩
      clear hr5 hx5
      go_wp2_with fail
      go_roundw
      case rel => exact ⟨i + 1, by omega, by go_num, HF.out⟩
      case measure => simp [intOf]; omega
    · have hie : i = ss.length := by omega
      subst hie
      have HF : Hid (∃ l' H' M', Rep wr a l' H' ∧ Nx a l l' w wr ∧ Ld H M q cls fmt ss ss.length H' M') := ⟨l2, H3, M3, hr3, HX2.out.trans hx, hl3⟩
      clear hqq hx hr3 hl3 b0 b1
      go_wp2_with fail
      go_end0
      exact ⟨rfl, HF.out⟩
end Go.Proofs.YtkmjimdaimbdfaaDoor



