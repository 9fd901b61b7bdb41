import Derived.Test.YtklfnjlenbgmoaaDoorAG43HRef
import Derived.Test.YtklfnjlenbgmoaaDoorAG36HPoint
import Derived.Test.YtklfnjlenbgmoaaDoorAG38HBackP
namespace Go.Proofs.YtklfnjlenbgmoaaDoor
open Go.RowKit
set_option linter.unusedVariables false
attribute [local go_sem ↓] Go.wp_at_zero Go.wp_at_succ
set_option maxHeartbeats 1000000 in
theorem rmay_any (n f : Int) (w : World) :
    Calls Tryd.prog 57 #[.int .i64 n, .int .i64 f] w fun e w' => e = .returned (.bool (mayB n f)) ∧ w' = w := by
  have hK := rKind_any n w
  by_cases h1 : f = 1
  · subst h1
    have e : Hid (mayB n 1 = decide (0 ≤ n ∧ n ≤ 255)) := by show mayB n 1 = _; unfold mayB; simp
    generalize mayB n 1 = q at *
    clear hK
    by_cases ha : 0 ≤ n
    · go_enter Tryd.func57, Tryd.ntmps57
      go_wp2
      go_ret
      exact ⟨ret_bool (by rw [e.out]; simp [ha]), rfl⟩
    · have ha' : n < 0 := by omega
      go_enter Tryd.func57, Tryd.ntmps57
      go_wp2
      go_ret
      exact ⟨ret_bool (by rw [e.out]; simp; omega), rfl⟩
  · have hb : (f == 1) = false := by simpa using h1
    have e : Hid (mayB n f = (kindOf n != 0)) := by show mayB n f = _; unfold mayB; rw [if_neg h1]; rfl
    generalize mayB n f = q at *
    clear h1
    rcases kind_cases n with h | h | h | h
    all_goals
      rw [h] at hK e
      clear h
      go_enter Tryd.func57, Tryd.ntmps57
      go_wp2_with (go_at_call 56; refine hK.mono ?_; rintro e w' ⟨rfl, rfl⟩)
      go_ret
      exact ⟨ret_bool (by rw [e.out]; rfl), rfl⟩
/-- the place behind the last object -/
def rEnd (l : List RO) : Nat := if l.length = 0 then 0 else (l.getD (l.length - 1) noRO).place + lenN (l.getD (l.length - 1) noRO).slots.length (l.getD (l.length - 1) noRO).fmt
/-- bounds that hold of every heap of the document's -/
structure ROk (R : RS) : Prop where
  len : R.objs.length ≤ 1048576
  place : ∀ o ∈ R.objs, o.place ≤ 1048576 ∧ o.slots.length ≤ 8192
theorem ROk.getD {R : RS} (h : ROk R) (k : Nat) (hk : k < R.objs.length) : (R.objs.getD k noRO).place ≤ 1048576 ∧ (R.objs.getD k noRO).slots.length ≤ 8192 := by
  rw [List.getD_eq_getElem?_getD, List.getElem?_eq_getElem hk]
  exact h.place _ (List.getElem_mem hk)
theorem RRep.vIs {w : World} {B r : Nat} {R : RS} (h : RRep w B r R) (k : Nat) (hk : k < R.objs.length) : ∃ p c, (R.objs.getD k noRO).v = .slice p (R.objs.getD k noRO).slots.length c := by
  have hm : R.objs.getD k noRO ∈ R.objs := by rw [List.getD_eq_getElem?_getD, List.getElem?_eq_getElem hk]; exact List.getElem_mem hk
  rcases (h.slots _ hm).2 with ⟨h2, h3⟩ | ⟨g, cap, cur, h2, h3⟩
  · exact ⟨none, 0, by rw [h2, h3]⟩
  · exact ⟨some ⟨g, 0, none⟩, cap, h2⟩
set_option maxRecDepth 20000 in
set_option maxHeartbeats 1000000 in
theorem rend_any (B r : Nat) (R : RS) (w : World) (h : RRep w B r R) (ho : ROk R) :
    Calls Tryd.prog 58 #[.pointer (some ⟨r, 0, none⟩)] w fun e w' => e = .returned (.int .i64 (rEnd R.objs : Nat)) ∧ Fr [] w w' := by
  obtain ⟨p, c, hov⟩ := h.ovIs
  have c5 : w.cell? ⟨r, 5, none⟩ = some (.slice p R.objs.length c) := by rw [h.c, ← hov]; rfl
  have hl := ho.len
  by_cases h0 : R.objs.length = 0
  · have e : rEnd R.objs = 0 := by unfold rEnd; rw [if_pos h0]
    rw [e]
    rw [h0] at c5
    clear h hov
    go_enter Tryd.func58, Tryd.ntmps58
    go_wp2_with fail
    go_ret
    exact ⟨rfl, Fr.refl _ _⟩
  · obtain ⟨g, c', hv, hc⟩ := h.at_ (by omega)
    rw [hov] at hv
    injection hv with hv1 hv2 hv3
    subst hv1
    obtain ⟨q0, q1, q2, q3, q4, q5⟩ := hc (R.objs.length - 1) (by omega)
    obtain ⟨p5, c5', hv5⟩ := h.vIs (R.objs.length - 1) (by omega)
    rw [hv5] at q5
    obtain ⟨o1, o2⟩ := ho.getD (R.objs.length - 1) (by omega)
    have e : Hid (rEnd R.objs = (R.objs.getD (R.objs.length - 1) noRO).place + lenN (R.objs.getD (R.objs.length - 1) noRO).slots.length (R.objs.getD (R.objs.length - 1) noRO).fmt) := by show rEnd R.objs = _; unfold rEnd; rw [if_neg h0]
    have k0 : ((R.objs.length : Int) == 0) = false := by simpa using (by omega : ¬ (R.objs.length : Int) = 0)
    have k1 : (0 : Int) ≤ (R.objs.length : Int) - 1 := by omega
    have k2 : (R.objs.length : Int) - 1 < (R.objs.length : Int) := by omega
    have k3 : ((R.objs.length : Int) - 1).toNat = R.objs.length - 1 := by omega
    have hll := lenN_le (R.objs.getD (R.objs.length - 1) noRO).slots.length (R.objs.getD (R.objs.length - 1) noRO).fmt
    have hgl : g < w.heap.size := World.block_lt_of_cell? w _ q0
    have hrl : r < w.heap.size := lt_of_heap h.top
    simp only [I] at q0 q1 q2 q3
    generalize rEnd R.objs = E at *
    generalize (R.objs.getD (R.objs.length - 1) noRO).oop = y0 at *
    generalize (R.objs.getD (R.objs.length - 1) noRO).fmt = y1 at *
    generalize (R.objs.getD (R.objs.length - 1) noRO).place = y2 at *
    generalize (R.objs.getD (R.objs.length - 1) noRO).born = y3 at *
    generalize (R.objs.getD (R.objs.length - 1) noRO).cls = y4 at *
    generalize (R.objs.getD (R.objs.length - 1) noRO).slots.length = y5 at *
    have HL := mkHid fun V => refLen_any y5 y1 V (by omega)
    clear h hc hov hv2 hv3 ho hv5
    go_enter Tryd.func58, Tryd.ntmps58
    go_wp2_with fail
    go_region
    all_goals go_wp2_with fail
    have F5 : Hid (Fr [] w ((w.alloc (.cells #[.int .i64 (y0 : Int), .int .i64 (y1 : Int), .int .i64 (y2 : Int), .int .i64 (y3 : Int), .int .i64 y4, .slice p5 y5 c5'] 114)).drew)) := (Fr.alloc [] w _).trans (Fr.drew [] _) (by simp)
    have hb5 : ((w.alloc (.cells #[.int .i64 (y0 : Int), .int .i64 (y1 : Int), .int .i64 (y2 : Int), .int .i64 (y3 : Int), .int .i64 y4, .slice p5 y5 c5'] 114)).drew).heap[w.heap.size]? = some (.cells #[.int .i64 (y0 : Int), .int .i64 (y1 : Int), .int .i64 (y2 : Int), .int .i64 (y3 : Int), .int .i64 y4, .slice p5 y5 c5'] 114 (0, 0)) := heap_alloc_new _ _
    generalize (w.alloc (.cells #[.int .i64 (y0 : Int), .int .i64 (y1 : Int), .int .i64 (y2 : Int), .int .i64 (y3 : Int), .int .i64 y4, .slice p5 y5 c5'] 114)).drew = W5 at *
    have x1 : W5.cell? ⟨w.heap.size, 1, none⟩ = some (.int .i64 (y1 : Int)) := by rw [cell_in hb5]; rfl
    have x2 : W5.cell? ⟨w.heap.size, 2, none⟩ = some (.int .i64 (y2 : Int)) := by rw [cell_in hb5]; rfl
    have x5 : W5.cell? ⟨w.heap.size, 5, none⟩ = some (.slice p5 y5 c5') := by rw [cell_in hb5]; rfl
    clear q0 q1 q2 q3 q4 q5 c5 hb5
    go_quiet ((go_at_call 59; exact Calls.quiet_of_same (HL.out _)))
    go_wp2_with fail
    go_ret
    refine ⟨ret_int ?_, ?_⟩
    · rw [e.out]; push_cast; first | rfl | omega
    · exact F5.out.trans (Fr.drewN [] _ _) (by simp)
end Go.Proofs.YtklfnjlenbgmoaaDoor
namespace Go.Proofs.YtklfnjlenbgmoaaDoor
open Go.RowKit
set_option linter.unusedVariables false
/-- each of a list is taken beside those ahead of it -/
def allK (words oops : Nat) (ks : List Key) : Prop := ∀ (i : Nat) (o : Key), ks[i]? = some o → takesK words oops (ks.take i) o = true
theorem allK_snoc {words oops : Nat} {ks : List Key} {k : Key} (h : allK words oops ks) (hk : takesK words oops ks k = true) : allK words oops (ks ++ [k]) := by
  intro i o ho
  have hi := (List.getElem?_eq_some_iff.1 ho).1
  rw [List.length_append, List.length_singleton] at hi
  by_cases e : i < ks.length
  · rw [List.getElem?_append_left e] at ho
    rw [List.take_append_of_le_length (by omega)]
    exact h i o ho
  · have e2 : i = ks.length := by omega
    subst e2
    rw [List.getElem?_append_right (Nat.le_refl _), Nat.sub_self] at ho
    have : k = o := by simpa using ho
    subst this
    rw [List.take_append_of_le_length (Nat.le_refl _), List.take_length]
    exact hk
/-- the document's heap holds just these objects, one behind the other -/
structure ROf (words oops mark : Nat) (ks : List Key) (R : RS) : Prop where
  eWords : R.words = words
  eOops : R.oops = oops
  eMark : R.mark = mark
  born : R.born = ks.length
  turn : R.turn = 0
  keys : R.objs.map roKey = ks
  fin : (rEnd R.objs : Int) = endK ks
  fits : endK ks ≤ (words : Int)
  twice : 2 * (ks.length : Int) ≤ endK ks
  slots : ∀ o ∈ R.objs, o.place ≤ words ∧ o.slots.length ≤ 8192
  good : allK words oops ks
theorem ROf.len {words oops mark : Nat} {ks : List Key} {R : RS} (h : ROf words oops mark ks R) : R.objs.length = ks.length := by rw [← h.keys, List.length_map]
theorem ROf.ok {words oops mark : Nat} {ks : List Key} {R : RS} (h : ROf words oops mark ks R) (hw : words ≤ 1048576) : ROk R :=
  ⟨by have := h.len; have := h.fits; have := h.twice; omega, fun o ho => ⟨by have := (h.slots o ho).1; omega, (h.slots o ho).2⟩⟩
theorem rEnd_snoc (l : List RO) (o : RO) : rEnd (l ++ [o]) = o.place + lenN o.slots.length o.fmt := by
  unfold rEnd
  rw [List.length_append, List.length_singleton, if_neg (by omega), Nat.add_sub_cancel]
  have : (l ++ [o]).getD l.length noRO = o := by rw [List.getD_eq_getElem?_getD, List.getElem?_append_right (Nat.le_refl _)]; simp
  rw [this]
theorem takesK_yes {words oops : Nat} {ks : List Key} {k : Key} (h : takesK words oops ks k = true) : 1 ≤ k.1 ∧ k.1 ≤ (oops : Int) ∧ (ks.any fun x => x.1 == k.1) = false ∧ isW k.2.1 = true ∧ isF k.2.2.1 = true ∧ (k.2.2.2.length : Int) ≤ 8192 ∧ (∀ j, j < k.2.2.2.length → mayB (k.2.2.2.getD j 0) k.2.2.1 = true) ∧ endK ks + lenOf (k.2.2.2.length : Int) k.2.2.1 ≤ (words : Int) := by
  unfold takesK at h
  simp only [Bool.and_eq_true, Bool.not_eq_true', decide_eq_true_eq] at h
  obtain ⟨⟨⟨⟨⟨⟨⟨h1, h2⟩, h3⟩, h4⟩, h5⟩, h6⟩, h7⟩, h8⟩ := h
  refine ⟨h1, h2, h3, h4, h5, h6, fun j hj => ?_, h8⟩
  rw [List.all_eq_true] at h7
  have e : k.2.2.2.getD j 0 = k.2.2.2[j] := by rw [List.getD_eq_getElem?_getD, List.getElem?_eq_getElem hj]; rfl
  rw [e]
  exact h7 _ (List.getElem_mem hj)
theorem ROf.nil (words oops mark : Nat) (ov : Value) : ROf words oops mark [] ⟨words, oops, mark, 0, 0, [], ov⟩ :=
  ⟨rfl, rfl, rfl, rfl, rfl, rfl, rfl, by simp [endK], by simp [endK], by simp, fun i o ho => by simp at ho⟩
theorem ROf.snoc {words oops mark : Nat} {ks : List Key} {R : RS} (h : ROf words oops mark ks R) (o : RO) (ov : Value) (ht : takesK words oops ks (roKey o) = true) (hp : o.place = rEnd R.objs) : ROf words oops mark (ks ++ [roKey o]) { R with objs := R.objs ++ [o], born := R.born + 1, ov := ov } := by
  obtain ⟨t1, t2, t3, t4, t5, t6, t7, t8⟩ := takesK_yes ht
  have hl : lenOf (o.slots.length : Int) (o.fmt : Int) = (lenN o.slots.length o.fmt : Nat) := lenOf_nat _ _
  have h2 := lenN_two o.slots.length o.fmt
  have e : endK (ks ++ [roKey o]) = endK ks + (lenN o.slots.length o.fmt : Nat) := by rw [endK_append]; simp only [endK, roKey]; omega
  have hf := h.fin
  simp only [roKey] at t8 t6
  refine ⟨h.eWords, h.eOops, h.eMark, by show R.born + 1 = _; rw [h.born, List.length_append]; rfl, h.turn, by show (R.objs ++ [o]).map roKey = _; rw [List.map_append, h.keys]; rfl, ?_, ?_, ?_, fun x hx => ?_, allK_snoc h.good ht⟩
  · show (rEnd (R.objs ++ [o]) : Int) = _
    rw [rEnd_snoc, e, hp]
    omega
  · rw [e]; omega
  · rw [e, List.length_append, List.length_singleton]
    have := h.twice
    omega
  · rcases List.mem_append.1 hx with h1 | h1
    · exact h.slots x h1
    · have : x = o := by simpa using h1
      rw [this]
      exact ⟨by omega, by omega⟩
theorem all_badK (f : Int → Bool) : ∀ ss : List Int, (ss.all f) = false → ∃ j, j < ss.length ∧ (∀ i, i < j → f (ss.getD i 0) = true) ∧ f (ss.getD j 0) = false
  | [], h => by simp at h
  | x :: t, h => by
    by_cases hx : f x = true
    · have ht : t.all f = false := by simpa [hx] using h
      obtain ⟨j, hj, hg, hb⟩ := all_badK f t ht
      refine ⟨j + 1, by simpa using hj, fun i hi => ?_, by simpa using hb⟩
      rcases i with _ | i
      · simpa using hx
      · simpa using hg i (by omega)
    · exact ⟨0, by simp, fun i hi => absurd hi (by omega), by simpa using hx⟩
theorem takesK_no {words oops : Nat} {ks : List Key} {k : Key} (h : takesK words oops ks k = false) :
    k.1 < 1 ∨ (1 ≤ k.1 ∧ (oops : Int) < k.1) ∨ (1 ≤ k.1 ∧ k.1 ≤ (oops : Int) ∧ (ks.any fun x => x.1 == k.1) = true) ∨
    (1 ≤ k.1 ∧ k.1 ≤ (oops : Int) ∧ (ks.any fun x => x.1 == k.1) = false ∧ (isW k.2.1 = false ∨ (isW k.2.1 = true ∧ (k.2.2.1 < 0 ∨ (0 ≤ k.2.2.1 ∧ 1 < k.2.2.1) ∨ (0 ≤ k.2.2.1 ∧ k.2.2.1 ≤ 1 ∧ (8192 < (k.2.2.2.length : Int) ∨ ((k.2.2.2.length : Int) ≤ 8192 ∧
      ((∃ j, j < k.2.2.2.length ∧ (∀ i, i < j → mayB (k.2.2.2.getD i 0) k.2.2.1 = true) ∧ mayB (k.2.2.2.getD j 0) k.2.2.1 = false) ∨ ((∀ j, j < k.2.2.2.length → mayB (k.2.2.2.getD j 0) k.2.2.1 = true) ∧ (words : Int) < endK ks + lenOf (k.2.2.2.length : Int) k.2.2.1))))))))) := by
  by_cases h1 : 1 ≤ k.1
  rotate_left
  · left; omega
  right
  by_cases h2 : k.1 ≤ (oops : Int)
  rotate_left
  · left; omega
  right
  by_cases h3 : (ks.any fun x => x.1 == k.1) = true
  · left; exact ⟨h1, h2, h3⟩
  right
  have h3 : (ks.any fun x => x.1 == k.1) = false := Bool.eq_false_iff.2 h3
  refine ⟨h1, h2, h3, ?_⟩
  by_cases h4 : isW k.2.1 = true
  rotate_left
  · left; simpa using h4
  right
  refine ⟨h4, ?_⟩
  by_cases h5 : 0 ≤ k.2.2.1
  rotate_left
  · left; omega
  right
  by_cases h6 : k.2.2.1 ≤ 1
  rotate_left
  · left; omega
  right
  refine ⟨h5, h6, ?_⟩
  by_cases h7 : (k.2.2.2.length : Int) ≤ 8192
  rotate_left
  · left; omega
  right
  refine ⟨h7, ?_⟩
  by_cases h8 : (k.2.2.2.all fun x => mayB x k.2.2.1) = true
  · right
    have hj : ∀ j, j < k.2.2.2.length → mayB (k.2.2.2.getD j 0) k.2.2.1 = true := fun j hj => by
      rw [List.all_eq_true] at h8
      have e : k.2.2.2.getD j 0 = k.2.2.2[j] := by rw [List.getD_eq_getElem?_getD, List.getElem?_eq_getElem hj]; rfl
      rw [e]
      exact h8 _ (List.getElem_mem hj)
    refine ⟨hj, ?_⟩
    by_cases h9 : endK ks + lenOf (k.2.2.2.length : Int) k.2.2.1 ≤ (words : Int)
    · exfalso
      have : takesK words oops ks k = true := by
        unfold takesK
        have h5' : isF k.2.2.1 = true := by unfold isF; simp; omega
        rw [decide_eq_true h1, decide_eq_true h2, h3, h4, h5', decide_eq_true h7, h8, decide_eq_true h9]
        rfl
      rw [h] at this
      simp at this
    · omega
  · left
    have h8 : (k.2.2.2.all fun x => mayB x k.2.2.1) = false := by simpa using h8
    exact all_badK _ _ h8
end Go.Proofs.YtklfnjlenbgmoaaDoor
namespace Go.Proofs.YtklfnjlenbgmoaaDoor
open Go.RowKit
set_option linter.unusedVariables false
/-- where the object o lies, and how long it is -/
def plO (S : List Th) (o : Nat) : Nat := (S.getD (o - 1) noTh).place
def lnO (S : List Th) (o : Nat) : Nat := lenN (S.getD (o - 1) noTh).slots.length (S.getD (o - 1) noTh).fmt
/-- the objects, in their order -/
def liveO (H : HS) : List Nat := H.order.filter (fun o => o != 0)
theorem InvV.live {H : HS} {M : MS} (h : InvV H M) (x : Nat) : x ∈ liveO H ↔ 1 ≤ x ∧ (M.things.getD (x - 1) noTh).there = true := by
  unfold liveO
  rw [List.mem_filter]
  constructor
  · rintro ⟨h1, h2⟩
    have hx : x ≠ 0 := by simpa using h2
    obtain ⟨j, hj, e⟩ := List.mem_iff_getElem.1 h1
    have e2 : H.order.getD j 0 = x := by rw [List.getD_eq_getElem?_getD, List.getElem?_eq_getElem hj]; exact e
    have := h.order j hj (by rw [e2]; exact hx)
    rw [e2] at this
    exact ⟨by omega, this.2.1⟩
  · rintro ⟨h1, h2⟩
    obtain ⟨t1, t2⟩ := h.turn (x - 1) (th_in h2) h2
    refine ⟨?_, by simp; omega⟩
    rw [show x - 1 + 1 = x from by omega] at t1 t2
    rw [List.getD_eq_getElem?_getD, List.getElem?_eq_getElem t1] at t2
    have t3 : H.order[(H.seats.getD x (0, 0, 0)).2.2] = x := t2
    rw [← t3]
    exact List.getElem_mem t1
theorem InvV.liveIn {H : HS} {M : MS} (h : InvV H M) (x : Nat) (hx : x ∈ liveO H) : ∃ i, x = i + 1 ∧ i < M.things.length ∧ (M.things.getD i noTh).there = true ∧ (H.seats.getD x (0, 0, 0)).1 = plO M.things x ∧ (H.seats.getD x (0, 0, 0)).2.1 = lnO M.things x ∧ plO M.things x + lnO M.things x ≤ H.mem.length := by
  obtain ⟨h1, h2⟩ := (h.live x).1 hx
  have hi := th_in h2
  obtain ⟨s1, s2⟩ := h.seat (x - 1) hi h2
  have hr := (h.is (x - 1) hi h2).room
  rw [show x - 1 + 1 = x from by omega] at s1 s2 hr
  refine ⟨x - 1, by omega, hi, h2, s1, s2, ?_⟩
  unfold plO lnO
  rw [s1] at hr
  exact hr
/-- they rise -/
theorem InvV.lives {H : HS} {M : MS} (h : InvV H M) : (liveO H).Pairwise (fun x y => plO M.things x + lnO M.things x ≤ plO M.things y) := by
  have h1 : H.order.Pairwise (fun x y => x ≠ 0 → y ≠ 0 → (H.seats.getD x (0, 0, 0)).1 + (H.seats.getD x (0, 0, 0)).2.1 ≤ (H.seats.getD y (0, 0, 0)).1) := by
    rw [List.pairwise_iff_getElem]
    intro i j hi hj hij n1 n2
    have e1 : H.order.getD i 0 = H.order[i] := by rw [List.getD_eq_getElem?_getD, List.getElem?_eq_getElem hi]; rfl
    have e2 : H.order.getD j 0 = H.order[j] := by rw [List.getD_eq_getElem?_getD, List.getElem?_eq_getElem hj]; rfl
    have := h.rise i j hij hj (by rw [e1]; exact n1) (by rw [e2]; exact n2)
    rw [e1, e2] at this
    exact this
  have h2 : (liveO H).Pairwise _ := h1.filter (fun o => o != 0)
  refine h2.imp_of_mem (fun {x y} hx hy hr => ?_)
  obtain ⟨i, e1, -, -, p1, p2, -⟩ := h.liveIn x hx
  obtain ⟨j, e2, -, -, q1, q2, -⟩ := h.liveIn y hy
  have := hr (by omega) (by omega)
  rw [p1, p2, q1] at this
  exact this
theorem lnO_two (S : List Th) (o : Nat) : 2 ≤ lnO S o := lenN_two _ _
/-- two lists that rise and have the same members are one -/
theorem rise_one (f : Nat → Nat) : ∀ a b : List Nat, a.Pairwise (fun x y => f x < f y) → b.Pairwise (fun x y => f x < f y) → (∀ x, x ∈ a ↔ x ∈ b) → a = b := by
  intro a
  induction a with
  | nil =>
    intro b _ _ h
    cases b with
    | nil => rfl
    | cons y t => exact absurd ((h y).2 (by simp)) (by simp)
  | cons x s ih =>
    intro b ha hb h
    cases b with
    | nil => exact absurd ((h x).1 (by simp)) (by simp)
    | cons y t =>
      obtain ⟨a1, a2⟩ := List.pairwise_cons.1 ha
      obtain ⟨b1, b2⟩ := List.pairwise_cons.1 hb
      have e : x = y := by
        rcases List.mem_cons.1 ((h x).1 (by simp)) with h1 | h1
        · exact h1
        · rcases List.mem_cons.1 ((h y).2 (by simp)) with h2 | h2
          · exact h2.symm
          · have := b1 x h1; have := a1 y h2; omega
      subst e
      rw [ih t a2 b2 (fun z => ?_)]
      constructor
      · intro hz
        rcases List.mem_cons.1 ((h z).1 (List.mem_cons_of_mem _ hz)) with h1 | h1
        · have := a1 z hz; rw [h1] at this; omega
        · exact h1
      · intro hz
        rcases List.mem_cons.1 ((h z).2 (List.mem_cons_of_mem _ hz)) with h1 | h1
        · have := b1 z hz; rw [h1] at this; omega
        · exact h1
/-- two heaps that say what like models say have one order -/
theorem live_one {H G : HS} {M C : MS} (h : InvV H M) (g : InvV G C) (hl : Lk M C) : liveO H = liveO G := by
  refine rise_one (plO M.things) _ _ (h.lives.imp (fun {x y} hr => ?_)) (g.lives.imp (fun {x y} hr => ?_)) (fun x => ?_)
  · have := lnO_two M.things x; omega
  · have e : ∀ o, plO C.things o = plO M.things o := fun o => ((hl.fields (o - 1)).2.2.2.1).symm
    rw [e, e] at hr
    have := lnO_two C.things x; omega
  · rw [h.live, g.live, (hl.fields (x - 1)).1]
def keyO (S : List Th) (o : Nat) : Nat × Int × Nat × List Int := (o, (S.getD (o - 1) noTh).cls, (S.getD (o - 1) noTh).fmt, (S.getD (o - 1) noTh).slots)
theorem stKeys_live (H : HS) (S : List Th) : stKeys H S H.order.length = (liveO H).map (keyO S) := by
  unfold stKeys liveO
  rw [List.take_length]
  rfl
theorem keys_one {H G : HS} {M C : MS} (h : InvV H M) (g : InvV G C) (hl : Lk M C) : stKeys H M.things H.order.length = stKeys G C.things G.order.length := by
  rw [stKeys_live, stKeys_live, live_one h g hl]
  refine List.map_congr_left fun o _ => ?_
  obtain ⟨-, h2, h3, -, h5⟩ := hl.fields (o - 1)
  unfold keyO
  rw [h2, h3, h5]
def natKey2 (k : Nat × Int × Nat × List Int) : Key := ((k.1 : Int), k.2.1, (k.2.2.1 : Int), k.2.2.2)
/-- how long the first objects are together -/
def sumO (S : List Th) : List Nat → Nat
  | [] => 0
  | o :: t => lnO S o + sumO S t
theorem sumO_append (S : List Th) (a b : List Nat) : sumO S (a ++ b) = sumO S a + sumO S b := by
  induction a with
  | nil => simp [sumO]
  | cons x t ih => simp [sumO, ih]; omega
theorem endK_sum (S : List Th) : ∀ l : List Nat, endK ((l.map (keyO S)).map natKey2) = (sumO S l : Nat) := by
  intro l
  induction l with
  | nil => rfl
  | cons o t ih =>
    show lenOf _ _ + endK ((t.map (keyO S)).map natKey2) = ((lnO S o + sumO S t : Nat) : Int)
    rw [ih]
    show lenOf ((S.getD (o - 1) noTh).slots.length : Int) ((S.getD (o - 1) noTh).fmt : Int) + _ = _
    rw [lenOf_nat]
    unfold lnO
    omega
/-- those ahead end ahead -/
theorem sum_le (S : List Th) : ∀ (l : List Nat) (B : Nat), l.Pairwise (fun x y => plO S x + lnO S x ≤ plO S y) → (∀ x ∈ l, plO S x + lnO S x ≤ B) → sumO S l ≤ B := by
  intro l
  induction l with
  | nil => intro B _ _; exact Nat.zero_le _
  | cons x t ih =>
    intro B hp hB
    obtain ⟨a1, a2⟩ := List.pairwise_cons.1 hp
    have key : ∀ (t : List Nat) (x : Nat), (∀ y ∈ t, plO S x + lnO S x ≤ plO S y) → t.Pairwise (fun x y => plO S x + lnO S x ≤ plO S y) → (∀ y ∈ t, plO S y + lnO S y ≤ B) → plO S x + lnO S x ≤ B → plO S x + lnO S x + sumO S t ≤ B := by
      intro t
      induction t with
      | nil => intro x _ _ _ h; exact h
      | cons y t ih2 =>
        intro x h1 h2 h3 h4
        obtain ⟨b1, b2⟩ := List.pairwise_cons.1 h2
        have := ih2 y b1 b2 (fun z hz => h3 z (List.mem_cons_of_mem _ hz)) (h3 y (by simp))
        have := h1 y (by simp)
        show plO S x + lnO S x + (lnO S y + sumO S t) ≤ B
        omega
    have := key t x a1 a2 (fun y hy => hB y (List.mem_cons_of_mem _ hy)) (hB x (by simp))
    show lnO S x + sumO S t ≤ B
    omega
theorem sum_tail (S : List Th) (B : Nat) : ∀ (t : List Nat) (x : Nat), (x :: t).Pairwise (fun x y => plO S x + lnO S x ≤ plO S y) → (∀ y ∈ x :: t, plO S y + lnO S y ≤ B) → plO S x + sumO S (x :: t) ≤ B := by
  intro t
  induction t with
  | nil => intro x _ h; have := h x (by simp); show plO S x + (lnO S x + 0) ≤ B; omega
  | cons y t ih =>
    intro x hp hB
    obtain ⟨b1, b2⟩ := List.pairwise_cons.1 hp
    have := ih y b2 (fun z hz => hB z (List.mem_cons_of_mem _ hz))
    have := b1 y (by simp)
    show plO S x + (lnO S x + sumO S (y :: t)) ≤ B
    omega
/-- where the words end with the last one, each begins where the ones ahead end -/
theorem tight_sum (S : List Th) (l : List Nat) (hp : l.Pairwise (fun x y => plO S x + lnO S x ≤ plO S y)) (hB : ∀ x ∈ l, plO S x + lnO S x ≤ sumO S l) : ∀ a x b, l = a ++ x :: b → plO S x = sumO S a := by
  intro a x b e
  subst e
  obtain ⟨p1, p2, p3⟩ := List.pairwise_append.1 hp
  have h1 := sum_le S a (plO S x) p1 (fun y hy => p3 y hy x (by simp))
  have h2 := sum_tail S (sumO S (a ++ x :: b)) b x p2 (fun y hy => hB y (List.mem_append_right _ hy))
  rw [sumO_append] at h2
  omega
/-- where no word lies idle, likewise -/
theorem cov_sum (S : List Th) (l : List Nat) (E : Nat) (hp : l.Pairwise (fun x y => plO S x + lnO S x ≤ plO S y)) (hE : ∀ x ∈ l, plO S x + lnO S x ≤ E) (hc : ∀ p, p < E → ∃ x ∈ l, plO S x ≤ p ∧ p < plO S x + lnO S x) : ∀ a x b, l = a ++ x :: b → plO S x = sumO S a := by
  have main : ∀ (n : Nat) (a : List Nat) (x : Nat) (b : List Nat), a.length = n → l = a ++ x :: b → plO S x = sumO S a ∧ ∀ y ∈ a, plO S y + lnO S y ≤ sumO S a := by
    intro n
    induction n with
    | zero =>
      intro a x b hn e
      have : a = [] := List.eq_nil_of_length_eq_zero hn
      subst this
      refine ⟨?_, by simp⟩
      subst e
      rw [List.nil_append] at hp hE hc
      obtain ⟨b1, b2⟩ := List.pairwise_cons.1 hp
      show plO S x = 0
      by_cases h0 : plO S x = 0
      · exact h0
      · have hx := hE x (by simp)
        have := lnO_two S x
        obtain ⟨z, hz, z1, z2⟩ := hc 0 (by omega)
        rcases List.mem_cons.1 hz with h | h
        · rw [h] at z1; omega
        · have := b1 z h; omega
    | succ n ih =>
      intro a x b hn e
      have hne : a ≠ [] := fun h => by rw [h] at hn; simp at hn
      obtain ⟨a', u, hu⟩ : ∃ a' u, a = a' ++ [u] := ⟨a.dropLast, a.getLast hne, (List.dropLast_concat_getLast hne).symm⟩
      subst hu
      have hn' : a'.length = n := by simpa using hn
      have e' : l = a' ++ u :: (x :: b) := by rw [e]; simp
      obtain ⟨i1, i2⟩ := ih a' u (x :: b) hn' e'
      have hs : sumO S (a' ++ [u]) = sumO S a' + lnO S u := by rw [sumO_append]; simp [sumO]
      have hmem : ∀ y ∈ a' ++ [u], plO S y + lnO S y ≤ sumO S (a' ++ [u]) := by
        intro y hy
        rw [hs]
        rcases List.mem_append.1 hy with h | h
        · have := i2 y h; omega
        · have : y = u := by simpa using h
          rw [this]; omega
      refine ⟨?_, hmem⟩
      rw [e] at hp
      obtain ⟨p1, p2, p3⟩ := List.pairwise_append.1 hp
      obtain ⟨q1, q2⟩ := List.pairwise_cons.1 p2
      have hux := p3 u (by simp) x (by simp)
      have hge : sumO S (a' ++ [u]) ≤ plO S x := by rw [hs]; omega
      have hx := hE x (by rw [e]; simp)
      have h2x := lnO_two S x
      obtain ⟨z, hz, z1, z2⟩ := hc (sumO S (a' ++ [u])) (by omega)
      rw [e] at hz
      rcases List.mem_append.1 hz with h | h
      · have := hmem z h; omega
      · rcases List.mem_cons.1 h with h3 | h3
        · rw [h3] at z1; omega
        · have := q1 z h3; omega
  exact fun a x b e => (main _ a x b rfl e).1
end Go.Proofs.YtklfnjlenbgmoaaDoor
