import Derived.Test.YtklfnjlenbgmoaaDoorAG38HBackP
import Derived.Laws.AppendOwnNone
import Derived.Lib.AppendZeros
import Derived.Test.YtklfnjlenbgmoaaDoorAHLoadP
import Derived.Test.YtklfnjlenbgmoaaDoorAHStateX
namespace Go.Proofs.YtklfnjlenbgmoaaDoor
open Go.RowKit
set_option linter.unusedVariables false
/-- a list of numbers that can be read, wherever it lies -/
structure Rd (w : World) (v : Value) (ss : List Int) : Prop where
  at_ : ∃ p c, v = .slice p ss.length c ∧ (0 < ss.length → ∃ g off, p = some ⟨g, off, none⟩ ∧ g < w.heap.size ∧ ∀ i, i < ss.length → w.cell? ⟨g, off + i, none⟩ = some (.int .i64 (ss.getD i 0)))
  nil : ∀ c, v = .slice none ss.length c → c = 0
  short : ss.length ≤ 17592186043904
/-- a list of words, read cell by cell -/
theorem own_slot {w : World} {base : Nat} {t : TypeId} {v : Value} {ss : List Int} (h : w.ownsRow base t 1 v ss.length (ss.map (Value.int .i64))) : ∃ p c, v = .slice p ss.length c ∧ (0 < ss.length → ∃ g, p = some ⟨g, 0, none⟩ ∧ ∀ i, i < ss.length → w.cell? ⟨g, i, none⟩ = some (.int .i64 (ss.getD i 0))) := by
  rcases h.2 with ⟨h2, h3⟩ | ⟨g, cap, cur, h2, h3⟩
  · exact ⟨none, 0, by rw [h2, h3], fun hp => by omega⟩
  · refine ⟨some ⟨g, 0, none⟩, cap, h2, fun hp => ⟨g, rfl, fun i hi => ?_⟩⟩
    rw [h2] at h
    rw [h.cellAt i (by omega), List.getElem?_map, List.getD_eq_getElem?_getD, List.getElem?_eq_getElem hi]
    rfl
theorem own_rd {w : World} {base : Nat} {t : TypeId} {v : Value} {ss : List Int} (h : w.ownsRow base t 1 v ss.length (ss.map (Value.int .i64))) (hs : ss.length ≤ 17592186043904) : Rd w v ss := by
  obtain ⟨p, c, e, h1⟩ := own_slot h
  refine ⟨⟨p, c, e, fun hp => ?_⟩, fun c' hc => ?_, hs⟩
  rotate_left
  · rcases h.2 with ⟨h2, h3⟩ | ⟨g, cap, cur, h2, h3⟩
    · rw [h2] at hc; injection hc with _ _ e3; exact e3.symm
    · rw [h2] at hc; injection hc with e3; cases e3
  obtain ⟨g, e2, h2⟩ := h1 hp
  exact ⟨g, 0, e2, World.block_lt_of_cell? w ⟨g, 0, none⟩ (h2 0 hp), fun i hi => by rw [Nat.zero_add]; exact h2 i hi⟩
theorem Rd.keep {w w' : World} {v : Value} {ss : List Int} {S : List Nat} (h : Rd w v ss) (hf : Fr S w w') (hd : 0 < ss.length → ∀ g, v.ownBlock = some g → g ∉ S) : Rd w' v ss := by
  obtain ⟨p, c, e, h1⟩ := h.at_
  refine ⟨⟨p, c, e, fun hp => ?_⟩, h.nil, h.short⟩
  obtain ⟨g, off, e2, h2, h3⟩ := h1 hp
  have hn := hd hp g (by rw [e, e2]; rfl)
  exact ⟨g, off, e2, by have := hf.size; omega, fun i hi => (hf.cell (p := ⟨g, off + i, none⟩) h2 hn).trans (h3 i hi)⟩
theorem Rd.idle {w w' : World} {v : Value} {ss : List Int} (h : Rd w v ss) (hf : Fr [] w w') : Rd w' v ss := h.keep hf (by simp)
theorem Rd.lt {w : World} {v : Value} {ss : List Int} (h : Rd w v ss) (hp : 0 < ss.length) (g : Nat) (hg : v.ownBlock = some g) : g < w.heap.size := by
  obtain ⟨p, c, e, h1⟩ := h.at_
  obtain ⟨g', off, e2, h2, h3⟩ := h1 hp
  rw [e, e2] at hg
  have : g' = g := by simpa [Value.ownBlock] using hg
  omega
/-- a copy of a list of words: append to nil -/
theorem run_copy (ss : List Int) (u : Value) (w : World) (h : Rd w u ss) : ∃ v' w', (Builtin.append_ #[80, 80] 80 #[.slice none 0 0, u]).run Tryd.prog w = .ok v' w' ∧ w'.ownsRow w.heap.size 33 1 v' ss.length (ss.map (Value.int .i64)) ∧ Fr [] w w' := by
  obtain ⟨p, c, rfl, h1⟩ := h.at_
  obtain ⟨i33, ii, iz, is, ib⟩ := info_parts info33
  have hown : w.ownsRow w.heap.size 33 1 (.slice none 0 0) 0 [] := World.ownsRow_nil _ _ _ _
  cases p with
  | none =>
    have h0 : ss.length = 0 := by
      rcases Nat.eq_zero_or_pos ss.length with h0 | h0
      · exact h0
      · obtain ⟨g, off, e2, _⟩ := h1 h0; cases e2
    have hs : ss = [] := List.length_eq_zero_iff.1 h0
    have hc := h.nil c rfl
    subst hs
    subst hc
    exact ⟨_, _, run_append_owned_none (P := Tryd.prog) (w := w) w.heap.size 80 80 33 i33 1 Tryd.underlying80 ii _ _ _ hown, hown, Fr.refl _ _⟩
  | some ad =>
    have hnews : ∀ j x, (ss.map (Value.int .i64))[j]? = some x → w.cell? (ad.add j) = some x := fun j x hx => by
      rw [List.getElem?_map] at hx
      cases hz : ss[j]? with
      | none => rw [hz] at hx; simp at hx
      | some z =>
        rw [hz] at hx
        simp at hx
        obtain ⟨hj, hjz⟩ := List.getElem?_eq_some_iff.1 hz
        obtain ⟨g, off, e2, h2, h3⟩ := h1 (by omega)
        rw [Option.some.inj e2, Addr.add_mid, h3 j hj, List.getD_eq_getElem?_getD, hz, ← hx]
        rfl
    have hsh := h.short
    obtain ⟨v', w', hr, h2, h3, _, h5⟩ := run_append_own_at (P := Tryd.prog) w w.heap.size 80 80 33 i33 (.int .i64 0) 1 8 Tryd.underlying80 ii iz is ib rfl (by decide) _ _ _ hown ad ss.length c (ss.map (Value.int .i64)) (by simp) hnews (fun x hx => by obtain ⟨z, _, rfl⟩ := List.mem_map.1 hx; rfl) (by unfold maxLen; omega) (by omega) (Nat.le_refl _)
    refine ⟨v', w', hr, ?_, Fr.grown h3 (fun k hk => by cases hk)⟩
    rw [Nat.zero_add] at h2
    exact h2
/-- an object as it was handed in -/
structure OI where
  oop : Int
  cls : Int
  fmt : Int
  slots : List Int
  v : Value
def oiKey (o : OI) : Int × Int × Int × List Int := (o.oop, o.cls, o.fmt, o.slots)
/-- a list of objects that can be read, wherever it lies -/
structure SAt (w : World) (ov : Value) (l : List OI) : Prop where
  at_ : ∃ p c, ov = .slice p l.length c ∧ (0 < l.length → ∃ g off, p = some ⟨g, off, none⟩ ∧ ∀ k, k < l.length → ∃ o, l[k]? = some o ∧ w.cell? ⟨g, off + k * 4, none⟩ = some (.int .i64 o.oop) ∧ w.cell? ⟨g, off + k * 4 + 1, none⟩ = some (.int .i64 o.cls) ∧ w.cell? ⟨g, off + k * 4 + 2, none⟩ = some (.int .i64 o.fmt) ∧ w.cell? ⟨g, off + k * 4 + 3, none⟩ = some o.v)
  slots : ∀ o ∈ l, Rd w o.v o.slots
  short : l.length ≤ 2932031007317
theorem SAt.idle {w w' : World} {ov : Value} {l : List OI} (h : SAt w ov l) (hf : Fr [] w w') : SAt w' ov l := by
  obtain ⟨p, c, e, h1⟩ := h.at_
  refine ⟨⟨p, c, e, fun hp => ?_⟩, fun o ho => (h.slots o ho).idle hf, h.short⟩
  obtain ⟨g, off, e2, h3⟩ := h1 hp
  refine ⟨g, off, e2, fun k hk => ?_⟩
  obtain ⟨o, h4, a0, a1, a2, a3⟩ := h3 k hk
  have hl := World.block_lt_of_cell? w ⟨g, off + k * 4, none⟩ a0
  exact ⟨o, h4, (hf.cell (p := ⟨g, off + k * 4, none⟩) hl (by simp)).trans a0, (hf.cell (p := ⟨g, off + k * 4 + 1, none⟩) hl (by simp)).trans a1, (hf.cell (p := ⟨g, off + k * 4 + 2, none⟩) hl (by simp)).trans a2, (hf.cell (p := ⟨g, off + k * 4 + 3, none⟩) hl (by simp)).trans a3⟩
/-- the cells of an object -/
theorem osCells_at (l : List OS) : ∀ k, k < l.length → ∃ o, l[k]? = some o ∧ (osCells l)[k * 4]? = some (.int .i64 (o.oop : Int)) ∧ (osCells l)[k * 4 + 1]? = some (.int .i64 o.cls) ∧ (osCells l)[k * 4 + 2]? = some (.int .i64 (o.fmt : Int)) ∧ (osCells l)[k * 4 + 3]? = some o.v := by
  induction l with
  | nil => intro k hk; simp at hk
  | cons o l ih =>
    intro k hk
    have e : osCells (o :: l) = os4 o ++ osCells l := by simp [osCells]
    rw [e]
    cases k with
    | zero => exact ⟨o, rfl, rfl, rfl, rfl, rfl⟩
    | succ k =>
      obtain ⟨x, h0, h1, h2, h3, h4⟩ := ih k (by simpa using hk)
      refine ⟨x, by simpa using h0, ?_, ?_, ?_, ?_⟩
      · rw [List.getElem?_append_right (by simp [os4]; omega), show (k + 1) * 4 - (os4 o).length = k * 4 from by simp [os4]; omega]; exact h1
      · rw [List.getElem?_append_right (by simp [os4]; omega), show (k + 1) * 4 + 1 - (os4 o).length = k * 4 + 1 from by simp [os4]; omega]; exact h2
      · rw [List.getElem?_append_right (by simp [os4]; omega), show (k + 1) * 4 + 2 - (os4 o).length = k * 4 + 2 from by simp [os4]; omega]; exact h3
      · rw [List.getElem?_append_right (by simp [os4]; omega), show (k + 1) * 4 + 3 - (os4 o).length = k * 4 + 3 from by simp [os4]; omega]; exact h4
theorem SRep.at {w : World} {base : Nat} {ov : Value} {l : List OS} (h : SRep w base ov l) : ∃ p c, ov = .slice p l.length c ∧ True := by
  rcases h.row.2 with ⟨h2, h3⟩ | ⟨g, cap, cur, h2, h3⟩
  · exact ⟨none, 0, by rw [h2, h3], trivial⟩
  · exact ⟨some ⟨g, 0, none⟩, cap, h2, trivial⟩
def toOI (o : OS) : OI := ⟨o.oop, o.cls, o.fmt, o.slots, o.v⟩
theorem SRep.sat {w : World} {base : Nat} {ov : Value} {l : List OS} (h : SRep w base ov l) (hl : l.length ≤ 2932031007317) (hs : ∀ o ∈ l, o.slots.length ≤ 17592186043904) : SAt w ov (l.map toOI) := by
  have hr := h.row
  refine ⟨?_, fun o ho => ?_, by simpa using hl⟩
  · rcases hr.2 with ⟨h2, h3⟩ | ⟨g, cap, cur, h2, h3⟩
    · exact ⟨none, 0, by rw [h2, List.length_map, h3], fun hp => by rw [List.length_map] at hp; omega⟩
    · refine ⟨some ⟨g, 0, none⟩, cap, by rw [List.length_map]; exact h2, fun hp => ⟨g, 0, rfl, fun k hk => ?_⟩⟩
      rw [List.length_map] at hk
      rw [h2] at hr
      obtain ⟨o, h0, h1, h4, h5, h6⟩ := osCells_at l k hk
      refine ⟨toOI o, by rw [List.getElem?_map, h0]; rfl, ?_, ?_, ?_, ?_⟩
      · rw [Nat.zero_add, hr.cellAt _ (by omega)]; exact h1
      · rw [Nat.zero_add, hr.cellAt _ (by omega)]; exact h4
      · rw [Nat.zero_add, hr.cellAt _ (by omega)]; exact h5
      · rw [Nat.zero_add, hr.cellAt _ (by omega)]; exact h6
  · obtain ⟨x, hx, rfl⟩ := List.mem_map.1 ho
    exact own_rd (h.slots x hx) (hs x hx)
end Go.Proofs.YtklfnjlenbgmoaaDoor
namespace Go.Proofs.YtklfnjlenbgmoaaDoor
open Go.RowKit
set_option linter.unusedVariables false
attribute [local go_sem ↓] Go.wp_at_zero Go.wp_at_succ
/-- a slot is set, and the relation stands -/
theorem setSlot_inv (k i : Nat) (v : Int) (a : Nat) (l : Lay) (H : HS) (M : MS) (w : World) (h : Rep w a l H) (hi : Inv H M) (hk : k < M.things.length) (hb : (M.things.getD k noTh).there = true) (hil : i < (M.things.getD k noTh).slots.length) (hm : mayB v ((M.things.getD k noTh).fmt : Int) = true) :
    ∃ H', Inv H' { M with things := M.things.set k (withSlot (M.things.getD k noTh) i v) } ∧ H'.age = H.age ∧ H'.words = H.words ∧ H'.oops = H.oops ∧ H'.mark = H.mark ∧ H'.order = H.order ∧ H'.seats = H.seats ∧ H'.count = H.count ∧ H'.mem.length = H.mem.length ∧ Calls Tryd.prog 73 #[.pointer (some ⟨a, 0, none⟩), sv (H.seats.getD (k + 1) (0, 0, 0)), .int .i64 ((M.things.getD k noTh).fmt : Int), .int .i64 i, .int .i64 v] w fun e w' => e = .returned (.tuple #[]) ∧ Rep w' a l H' ∧ Nx a l l w w' := by
  have hI := hi.is k hk hb
  have hmem : (H.mem.length : Int) ≤ 1048576 := by have := hi.safe.small.mem; have := hi.safe.small.words; omega
  have hroom := hI.room
  have h22 := lenN_two (M.things.getD k noTh).slots.length (M.things.getD k noTh).fmt
  have hfl := hI.fmt
  have hlen := hI.len
  rcases (show (M.things.getD k noTh).fmt = 0 ∨ (M.things.getD k noTh).fmt = 1 from by omega) with hf | hf
  · have hw := lenN_word (M.things.getD k noTh).slots.length i (M.things.getD k noTh).fmt hf hil
    refine ⟨_, hi.putW k hk hb i v hil hf, rfl, rfl, rfl, rfl, rfl, rfl, rfl, by simp, ?_⟩
    rw [hf]
    exact setSlot_w (H.seats.getD (k + 1) (0, 0, 0)) i v a l H w h (by omega) hmem
  · have hw := lenN_byte (M.things.getD k noTh).slots.length i hil
    rw [← hf] at hw
    obtain ⟨old, o1, o2, o3⟩ := hI.byte hf i hil
    have hv : 0 ≤ v ∧ v ≤ 255 := by
      unfold mayB at hm
      rw [if_pos (by omega)] at hm
      exact of_decide_eq_true hm
    obtain ⟨vn, rfl⟩ : ∃ vn : Nat, v = (vn : Int) := ⟨v.toNat, by omega⟩
    refine ⟨_, hi.putB' k hk hb i vn old hil hf (by omega) o1 o2, rfl, rfl, rfl, rfl, rfl, rfl, rfl, by simp, ?_⟩
    rw [hf]
    exact setB_any (H.seats.getD (k + 1) (0, 0, 0)) i vn old a l H w h (by omega) hmem o1 (by omega) (by omega) o2
/-- an object is being loaded: i of its slots stand -/
structure Ld (H0 : HS) (M0 : MS) (q : Nat) (cls : Int) (fmt : Nat) (ss : List Int) (i : Nat) (H : HS) (M : MS) : Prop where
  inv : Inv H M
  age : H.age = H0.age
  words : H.words = H0.words
  oops : H.oops = H0.oops
  mark : H.mark = H0.mark
  order : H.order = H0.order ++ [q + 1]
  seat : H.seats.getD (q + 1) (0, 0, 0) = (H0.mem.length, lenN ss.length fmt, H0.order.length)
  len : q < M.things.length
  at_ : (M.things.getD q noTh).there = true ∧ (M.things.getD q noTh).cls = cls ∧ (M.things.getD q noTh).fmt = fmt ∧ (M.things.getD q noTh).slots.length = ss.length ∧ ∀ j, j < i → (M.things.getD q noTh).slots.getD j 0 = ss.getD j 0
  count : H.count = H0.count + 1
  mem : H.mem.length = H0.mem.length + lenN ss.length fmt
  rest : ∀ k, k ≠ q → M.things.getD k noTh = M0.things.getD k noTh
  tl : ∀ B, M0.things.length ≤ B → q < B → M.things.length ≤ B
theorem Ld.next {H0 H H' : HS} {M0 M : MS} {q fmt i : Nat} {cls : Int} {ss : List Int} (h : Ld H0 M0 q cls fmt ss i H M) (hi : i < ss.length) (hinv : Inv H' { M with things := M.things.set q (withSlot (M.things.getD q noTh) i (ss.getD i 0)) }) (e1 : H'.age = H.age) (e2 : H'.words = H.words) (e3 : H'.oops = H.oops) (e4 : H'.mark = H.mark) (e5 : H'.order = H.order) (e6 : H'.seats = H.seats) (e7 : H'.count = H.count) (e8 : H'.mem.length = H.mem.length) :
    Ld H0 M0 q cls fmt ss (i + 1) H' { M with things := M.things.set q (withSlot (M.things.getD q noTh) i (ss.getD i 0)) } := by
  obtain ⟨a1, a2, a3, a4, a5⟩ := h.at_
  have hg := fun k => getD_set M.things q k (withSlot (M.things.getD q noTh) i (ss.getD i 0)) h.len
  refine ⟨hinv, e1.trans h.age, e2.trans h.words, e3.trans h.oops, e4.trans h.mark, e5.trans h.order, by rw [e6]; exact h.seat, by show q < (M.things.set q _).length; rw [List.length_set]; exact h.len, ?_, e7.trans h.count, e8.trans h.mem, fun k hk => ?_, fun B h1 h2 => by show (M.things.set q _).length ≤ B; rw [List.length_set]; exact h.tl B h1 h2⟩
  · show ((M.things.set q _).getD q noTh).there = true ∧ ((M.things.set q _).getD q noTh).cls = cls ∧ ((M.things.set q _).getD q noTh).fmt = fmt ∧ ((M.things.set q _).getD q noTh).slots.length = ss.length ∧ ∀ j, j < i + 1 → ((M.things.set q _).getD q noTh).slots.getD j 0 = ss.getD j 0
    rw [hg q, if_pos rfl]
    refine ⟨a1, a2, a3, by show ((M.things.getD q noTh).slots.set i _).length = _; rw [List.length_set]; exact a4, fun j hj => ?_⟩
    show ((M.things.getD q noTh).slots.set i (ss.getD i 0)).getD j 0 = _
    rw [getD_set' _ _ _ _ (by omega)]
    by_cases e : j = i
    · rw [if_pos e, e]
    · rw [if_neg e]; exact a5 j (by omega)
  · show (M.things.set q _).getD k noTh = _
    rw [hg k, if_neg hk]
    exact h.rest k hk
theorem ld_start {H : HS} {M : MS} (h : Inv H M) (q : Nat) (hq : q < M.oops) (hf0 : (M.things.getD q noTh).there = false) (cls : Int) (fmt : Nat) (ss : List Int) (hf : fmt ≤ 1) (hn : ss.length ≤ 8192) (hr1 : H.count < H.oops) (hr2 : H.mem.length + lenN ss.length fmt ≤ H.words) :
    ∃ M', Ld H M q cls fmt ss 0 (layH H (q + 1) cls ss.length fmt) M' := by
  have hinv := h.layAt q hq hf0 cls ss.length fmt none none 0 0 hf hn hr1 hr2
  have hg := fun i => putAt_get M.things q i ⟨true, cls, fmt, endTo M.things M.things.length, List.replicate ss.length (newX fmt), none, 0⟩
  refine ⟨_, hinv, rfl, rfl, rfl, rfl, rfl, ?_, ?_, ?_, rfl, ?_, fun k hk => ?_, fun B h1 h2 => by show (putAt M.things q _).length ≤ B; rw [putAt_length]; omega⟩
  · show ((padSeats H.seats (q + 1 + 1)).set (q + 1) (H.mem.length, lenN ss.length fmt, H.order.length)).getD (q + 1) (0, 0, 0) = _
    rw [getD_seat _ _ _ _ (by unfold padSeats; simp; omega), if_pos rfl]
  · show q < (putAt M.things q _).length
    rw [putAt_length]; omega
  · show ((putAt M.things q _).getD q noTh).there = true ∧ ((putAt M.things q _).getD q noTh).cls = cls ∧ ((putAt M.things q _).getD q noTh).fmt = fmt ∧ ((putAt M.things q _).getD q noTh).slots.length = ss.length ∧ ∀ j, j < 0 → _
    rw [hg q, if_pos rfl]
    exact ⟨rfl, rfl, rfl, by simp, fun j hj => by omega⟩
  · show (H.mem ++ objCells cls ss.length fmt).length = _
    rw [List.length_append, objCells_len cls ss.length fmt hf]
  · show (putAt M.things q _).getD k noTh = _
    rw [hg k, if_neg hk]
end Go.Proofs.YtklfnjlenbgmoaaDoor
namespace Go.Proofs.YtklfnjlenbgmoaaDoor
open Go.RowKit
set_option linter.unusedVariables false
attribute [local go_sem ↓] Go.wp_at_zero Go.wp_at_succ
set_option maxRecDepth 20000 in
set_option maxHeartbeats 1000000 in
theorem load_ok (q : Nat) (cls : Int) (fmt : Nat) (ss : List Int) (v : Value) (a : Nat) (l : Lay) (H : HS) (M : MS) (w : World) (h : Rep w a l H) (hi : Inv H M) (hq : q < M.oops) (hf0 : (M.things.getD q noTh).there = false) (hf : fmt ≤ 1) (hn : ss.length ≤ 8192) (hr1 : H.count < H.oops) (hr2 : H.mem.length + lenN ss.length fmt ≤ H.words)
    (hmay : ∀ j, j < ss.length → mayB (ss.getD j 0) (fmt : Int) = true) (ho : Rd w v ss) (hbn : 0 < ss.length → ∀ g, v.ownBlock = some g → g ∉ foot a l) :
    Calls Tryd.prog 54 #[.pointer (some ⟨a, 0, none⟩), .agg #[.int .i64 ((q : Int) + 1), .int .i64 cls, .int .i64 (fmt : Int), v]] w fun e w' => e = .returned (.tuple #[]) ∧ ∃ l' H' M', Rep w' a l' H' ∧ Nx a l l' w w' ∧ Ld H M q cls fmt ss ss.length H' M' := by
  obtain ⟨p, c, rfl, hrow⟩ := ho.at_
  have hsm := hi.safe.small
  have hoo := hi.oops
  obtain ⟨M1, hld⟩ := ld_start hi q hq hf0 cls fmt ss hf hn hr1 hr2
  have hlay := lay_any (q + 1) ss.length fmt cls a l H (w.alloc (.cells #[.int .i64 ((q : Int) + 1), .int .i64 cls, .int .i64 (fmt : Int), .slice p ss.length c] 106)) (h.alloc _) hsm (by omega) (by have := hsm.oops; omega) (by omega) (by omega) hr2 hi.safe.seats (by have := hi.safe.order; omega) hi.safe.bits (by have := hi.safe.bl; omega)
  rw [show ((q + 1 : Nat) : Int) = (q : Int) + 1 from by omega] at hlay
  have HLay := mkHid hlay
  have HL0 := mkHid hld
  have HMay := mkHid hmay
  have hBn : w.heap.size ∉ foot a l := fun hb => by have := h.lt _ hb; omega
  have HRow : Hid (0 < ss.length → ∃ g off, p = some ⟨g, off, none⟩ ∧ g < w.heap.size ∧ g ∉ foot a l ∧ ∀ i, i < ss.length → w.cell? ⟨g, off + i, none⟩ = some (.int .i64 (ss.getD i 0))) := by
    intro hp
    obtain ⟨g, off, hg, hgl, hc⟩ := hrow hp
    exact ⟨g, off, hg, hgl, hbn hp g (by rw [hg]; rfl), hc⟩
  obtain ⟨W1, hW1⟩ : ∃ W1, W1 = w.alloc (.cells #[.int .i64 ((q : Int) + 1), .int .i64 cls, .int .i64 (fmt : Int), .slice p ss.length c] 106) := ⟨_, rfl⟩
  have HX1 : Hid (Nx a l l w W1) := by rw [hW1]; exact Nx.frw (Fr.alloc _ _ _)
  have hB1 : W1.heap[w.heap.size]? = some (.cells #[.int .i64 ((q : Int) + 1), .int .i64 cls, .int .i64 (fmt : Int), .slice p ss.length c] 106 (0, 0)) := by rw [hW1]; exact heap_alloc_new _ _
  have HB1 := mkHid hB1
  rw [← hW1] at HLay
  have hWs : W1.heap.size = w.heap.size + 1 := by rw [hW1]; simp
  have HWs := mkHid hWs
  clear h hi ho hbn hrow hmay hlay hld hB1 hWs hf0 hr2 hr1 hsm
  simp only [I] at HLay
  go_enter Tryd.func54, Tryd.ntmps54
  go_wp2_with fail
  rw [← hW1]
  clear hW1
  refine Calls.mono HLay.out ?_
  rintro e w2 ⟨rfl, l2, hr2, hx2⟩
  have hb2 := (hx2.1.block _ (lt_of_heap HB1.out) hBn).trans HB1.out
  have e3 : w2.cell? ⟨w.heap.size, 3, none⟩ = some (.slice p ss.length c) := by rw [cell_in hb2]; rfl
  have hz2 := lt_of_heap hb2
  have HR2 := mkHid (hr2.alloc (.cells #[.int .i64 (H.mem.length : Int), .int .i64 ((lenN ss.length fmt : Nat) : Int), .int .i64 (H.order.length : Int)] 103))
  have HX2 : Hid (Nx a l l2 w (w2.alloc (.cells #[.int .i64 (H.mem.length : Int), .int .i64 ((lenN ss.length fmt : Nat) : Int), .int .i64 (H.order.length : Int)] 103))) := (HX1.out.trans hx2).trans (Nx.frw (Fr.alloc _ _ _))
  have HBs : Hid ((w2.alloc (.cells #[.int .i64 (H.mem.length : Int), .int .i64 ((lenN ss.length fmt : Nat) : Int), .int .i64 (H.order.length : Int)] 103)).heap[w.heap.size]? = some (.cells #[.int .i64 ((q : Int) + 1), .int .i64 cls, .int .i64 (fmt : Int), .slice p ss.length c] 106 (0, 0)) ∧ (w2.alloc (.cells #[.int .i64 (H.mem.length : Int), .int .i64 ((lenN ss.length fmt : Nat) : Int), .int .i64 (H.order.length : Int)] 103)).heap[w2.heap.size]? = some (.cells #[.int .i64 (H.mem.length : Int), .int .i64 ((lenN ss.length fmt : Nat) : Int), .int .i64 (H.order.length : Int)] 103 (0, 0))) := ⟨by rw [Below.heap_alloc _ _ _ hz2]; exact hb2, heap_alloc_new _ _⟩
  have hn1 : w.heap.size ∉ foot a l2 := fun hb => by
    rcases hx2.2 _ hb with h1 | h1
    · exact hBn h1
    · have := HWs.out; omega
  have hn2 : w2.heap.size ∉ foot a l2 := fun hb => by have := hr2.lt _ hb; omega
  have HRow2 : Hid (0 < ss.length → ∃ g off, p = some ⟨g, off, none⟩ ∧ g < (w2.alloc (.cells #[.int .i64 (H.mem.length : Int), .int .i64 ((lenN ss.length fmt : Nat) : Int), .int .i64 (H.order.length : Int)] 103)).heap.size ∧ g ∉ foot a l2 ∧ ∀ i, i < ss.length → (w2.alloc (.cells #[.int .i64 (H.mem.length : Int), .int .i64 ((lenN ss.length fmt : Nat) : Int), .int .i64 (H.order.length : Int)] 103)).cell? ⟨g, off + i, none⟩ = some (.int .i64 (ss.getD i 0))) := by
    intro hp
    obtain ⟨g, off, g1, g2, g3, g4⟩ := HRow.out hp
    have hs := HX2.out.1.size
    refine ⟨g, off, g1, by omega, fun hb => ?_, fun i hi => ?_⟩
    · rcases hx2.2 _ hb with h1 | h1
      · exact g3 h1
      · have := HWs.out; omega
    · exact (HX2.out.1.cell (p := ⟨g, off + i, none⟩) g2 g3).trans (g4 i hi)
  clear hr2 hx2 hb2 HLay HX1 HB1 HRow
  go_wp2_with fail
  generalize w2.alloc (.cells #[.int .i64 (H.mem.length : Int), .int .i64 ((lenN ss.length fmt : Nat) : Int), .int .i64 (H.order.length : Int)] 103) = W2 at *
  generalize w2.heap.size = S at *
  go_loopw [21] (fun qq wr => ∃ i : Nat, i ≤ ss.length ∧ qq = .int .i64 i ∧ Hid (Nx a l2 l2 W2 wr ∧ ∃ H' M', Rep wr a l2 H' ∧ Ld H M q cls fmt ss i H' M')) (fun qq _ => ss.length - (intOf qq).toNat)
  case atStart => exact ⟨0, Nat.zero_le _, rfl, Nx.refl _ _ _, _, M1, HR2.out, HL0.out⟩
  case round =>
    obtain ⟨i, hin, rfl, hqq⟩ := hrel
    obtain ⟨hx, H3, M3, hr3, hl3⟩ := hqq.out
    have b0 := (hx.1.block _ (lt_of_heap HBs.out.1) hn1).trans HBs.out.1
    have b1 := (hx.1.block _ (lt_of_heap HBs.out.2) hn2).trans HBs.out.2
    by_cases hlt : i < ss.length
    · obtain ⟨g, off, rfl, g2, g3, g4⟩ := HRow2.out (by omega)
      have gx := (hx.1.cell (p := ⟨g, off + i, none⟩) g2 g3).trans (g4 i hlt)
      obtain ⟨a1, a2, a3, a4, a5⟩ := hl3.at_
      obtain ⟨H4, hinv4, e1, e2, e3', e4, e5, e6, e7, e8, hcall⟩ := setSlot_inv q i (ss.getD i 0) a l2 H3 M3 wr hr3 hl3.inv hl3.len a1 (by omega) (by rw [a3]; exact HMay.out i hlt)
      rw [hl3.seat, a3] at hcall
      have hnx := hl3.next hlt hinv4 e1 e2 e3' e4 e5 e6 e7 e8
      have d2 : wr.cell? ⟨w.heap.size, 2, none⟩ = some (.int .i64 (fmt : Int)) := by rw [cell_in b0]; rfl
      have s0 : wr.cell? ⟨S, 0, none⟩ = some (.int .i64 (H.mem.length : Int)) := by rw [cell_in b1]; rfl
      have s1 : wr.cell? ⟨S, 1, none⟩ = some (.int .i64 ((lenN ss.length fmt : Nat) : Int)) := by rw [cell_in b1]; rfl
      have s2 : wr.cell? ⟨S, 2, none⟩ = some (.int .i64 (H.order.length : Int)) := by rw [cell_in b1]; rfl
      dsimp only [sv, I] at hcall
      have HC := mkHid hcall
      have HN := mkHid hnx
      have HX := mkHid hx
      have k1 : (0 : Int) ≤ (i : Int) := by omega
      have k2 : (i : Int) < (ss.length : Int) := by omega
      generalize ss.getD i 0 = xv at *
      clear hqq hx hr3 hl3 a1 a2 a3 a4 a5 hinv4 e1 e2 e3' e4 e5 e6 e7 e8 hcall hnx b0 b1 g4 g2 g3
      go_wp2_with fail
      refine Calls.mono HC.out ?_
      rintro e w5 ⟨rfl, hr5, hx5⟩
      have HF : Hid (Nx a l2 l2 W2 w5 ∧ ∃ H' M', Rep w5 a l2 H' ∧ Ld H M q cls fmt ss (i + 1) H' M') := ⟨HX.out.trans hx5, _, _, hr5, HN.out⟩
      clear hr5 hx5
      go_wp2_with fail
      go_roundw
      case rel => exact ⟨i + 1, by omega, by go_num, HF.out⟩
      case measure => simp [intOf]; omega
    · have hie : i = ss.length := by omega
      subst hie
      have HF : Hid (∃ l' H' M', Rep wr a l' H' ∧ Nx a l l' w wr ∧ Ld H M q cls fmt ss ss.length H' M') := ⟨l2, H3, M3, hr3, HX2.out.trans hx, hl3⟩
      clear hqq hx hr3 hl3 b0 b1
      go_wp2_with fail
      go_end0
      exact ⟨rfl, HF.out⟩
end Go.Proofs.YtklfnjlenbgmoaaDoor
