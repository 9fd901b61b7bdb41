import Derived.Test.YtdkbnnhcjaibdaaDoorSG02HKey
import Derived.Test.YtdkbnnhcjaibdaaDoorSG07HRd
import Derived.Test.YtdkbnnhcjaibdaaDoorSG06HSame
namespace Go.Proofs.YtdkbnnhcjaibdaaDoor
open Go.RowKit
set_option linter.unusedVariables false
attribute [local go_sem ↓] Go.wp_at_zero Go.wp_at_succ
/-- an object of the document's heap -/
structure RO where
  oop : Nat
  fmt : Nat
  place : Nat
  born : Nat
  cls : Int
  slots : List Int
  v : Value
def noRO : RO := ⟨0, 0, 0, 0, 0, [], .slice none 0 0⟩
def ro6 (o : RO) : List Value := [I o.oop, I o.fmt, I o.place, I o.born, .int .i64 o.cls, o.v]
def roCells (l : List RO) : List Value := l.flatMap ro6
def roKey (o : RO) : Key := ((o.oop : Int), o.cls, (o.fmt : Int), o.slots)
/-- the document's heap -/
structure RS where
  words : Nat
  oops : Nat
  mark : Nat
  born : Nat
  turn : Nat
  objs : List RO
  ov : Value
def rcells (R : RS) : Array Value := #[I R.words, I R.oops, I R.mark, I R.born, I R.turn, R.ov]
/-- where it lies: in block r, its lists behind B -/
structure RRep (w : World) (B r : Nat) (R : RS) : Prop where
  lo : B ≤ r
  top : w.heap[r]? = some (.cells (rcells R) 137 (0, 0))
  row : w.ownsRow B 153 6 R.ov R.objs.length (roCells R.objs)
  slots : ∀ o ∈ R.objs, w.ownsRow B 35 1 o.v o.slots.length (o.slots.map (Value.int .i64))
theorem RRep.keep {w w' : World} {B r : Nat} {R : RS} {S : List Nat} (h : RRep w B r R) (hf : Fr S w w') (hd : ∀ g ∈ S, g < B ∨ w.heap.size ≤ g) : RRep w' B r R := by
  have hk : ∀ g, B ≤ g → g < w.heap.size → w'.heap[g]? = w.heap[g]? := fun g h1 h2 => hf.block g h2 (fun hm => by have := hd g hm; omega)
  exact ⟨h.lo, (hk r h.lo (lt_of_heap h.top)).trans h.top, own_congr h.row fun g hg => hk g (h.row.lt g hg).1 (h.row.lt g hg).2, fun o ho => own_congr (h.slots o ho) fun g hg => hk g ((h.slots o ho).lt g hg).1 ((h.slots o ho).lt g hg).2⟩
theorem RRep.idle {w w' : World} {B r : Nat} {R : RS} (h : RRep w B r R) (hf : Fr [] w w') : RRep w' B r R := h.keep hf (by simp)
theorem RRep.c (i : Nat) {w : World} {B r : Nat} {R : RS} (h : RRep w B r R) : w.cell? ⟨r, i, none⟩ = (rcells R)[i]? := cell_in h.top i
theorem roCells_append (l : List RO) (o : RO) : roCells (l ++ [o]) = roCells l ++ ro6 o := by simp [roCells]
theorem roCells_at (l : List RO) : ∀ k, k < l.length → (roCells l)[k * 6]? = some (I (l.getD k noRO).oop) ∧ (roCells l)[k * 6 + 1]? = some (I (l.getD k noRO).fmt) ∧ (roCells l)[k * 6 + 2]? = some (I (l.getD k noRO).place) ∧ (roCells l)[k * 6 + 3]? = some (I (l.getD k noRO).born) ∧ (roCells l)[k * 6 + 4]? = some (.int .i64 (l.getD k noRO).cls) ∧ (roCells l)[k * 6 + 5]? = some (l.getD k noRO).v := by
  induction l with
  | nil => intro k hk; simp at hk
  | cons o l ih =>
    intro k hk
    have e : roCells (o :: l) = ro6 o ++ roCells l := by simp [roCells]
    rw [e]
    cases k with
    | zero => exact ⟨rfl, rfl, rfl, rfl, rfl, rfl⟩
    | succ k =>
      have := ih k (by simpa using hk)
      have e2 : ∀ j, (ro6 o ++ roCells l)[(k + 1) * 6 + j]? = (roCells l)[k * 6 + j]? := fun j => by
        rw [List.getElem?_append_right (by simp [ro6]; omega), show (k + 1) * 6 + j - (ro6 o).length = k * 6 + j from by simp [ro6]; omega]
      have e3 : (o :: l).getD (k + 1) noRO = l.getD k noRO := by simp
      rw [e3, e2, e2, e2, e2, e2]
      have := e2 0
      rw [Nat.add_zero, Nat.add_zero] at this
      rw [this]
      exact ih k (by simpa using hk)
theorem RRep.at_ {w : World} {B r : Nat} {R : RS} (h : RRep w B r R) (hp : 0 < R.objs.length) : ∃ g c, R.ov = .slice (some ⟨g, 0, none⟩) R.objs.length c ∧ (∀ k, k < R.objs.length → w.cell? ⟨g, k * 6, none⟩ = some (I (R.objs.getD k noRO).oop) ∧ w.cell? ⟨g, k * 6 + 1, none⟩ = some (I (R.objs.getD k noRO).fmt) ∧ w.cell? ⟨g, k * 6 + 2, none⟩ = some (I (R.objs.getD k noRO).place) ∧ w.cell? ⟨g, k * 6 + 3, none⟩ = some (I (R.objs.getD k noRO).born) ∧ w.cell? ⟨g, k * 6 + 4, none⟩ = some (.int .i64 (R.objs.getD k noRO).cls) ∧ w.cell? ⟨g, k * 6 + 5, none⟩ = some (R.objs.getD k noRO).v) := by
  have hs := h.row
  obtain ⟨g, c, hv, _, hgl⟩ := hs.form hp
  refine ⟨g, c, hv, fun k hk => ?_⟩
  rw [hv] at hs
  have := roCells_at R.objs k hk
  exact ⟨(hs.cellAt _ (by omega)).trans this.1, (hs.cellAt _ (by omega)).trans this.2.1, (hs.cellAt _ (by omega)).trans this.2.2.1, (hs.cellAt _ (by omega)).trans this.2.2.2.1, (hs.cellAt _ (by omega)).trans this.2.2.2.2.1, (hs.cellAt _ (by omega)).trans this.2.2.2.2.2⟩
theorem RRep.ovIs {w : World} {B r : Nat} {R : RS} (h : RRep w B r R) : ∃ p c, R.ov = .slice p R.objs.length c := by
  rcases h.row.2 with ⟨h2, h3⟩ | ⟨g, cap, cur, h2, h3⟩
  · exact ⟨none, 0, by rw [h2, h3]⟩
  · exact ⟨some ⟨g, 0, none⟩, cap, h2⟩
/-- where an oop stands -/
def FoundAt (l : List RO) (oop z : Int) : Prop := (∃ k : Nat, k < l.length ∧ z = k ∧ ((l.getD k noRO).oop : Int) = oop ∧ ∀ j, j < k → ((l.getD j noRO).oop : Int) ≠ oop) ∨ (z = -1 ∧ ∀ j, j < l.length → ((l.getD j noRO).oop : Int) ≠ oop)
set_option maxRecDepth 20000 in
set_option maxHeartbeats 1000000 in
theorem find_any (oop : Int) (B r : Nat) (R : RS) (w : World) (h : RRep w B r R) (hl : R.objs.length ≤ 1048576) :
    Calls Tryd.prog 121 #[.pointer (some ⟨r, 0, none⟩), .int .i64 oop] w fun e w' => ∃ z, e = .returned (.int .i64 z) ∧ FoundAt R.objs oop z ∧ w' = w := by
  obtain ⟨p, c, hov⟩ := h.ovIs
  have c5 : w.cell? ⟨r, 5, none⟩ = some (.slice p R.objs.length c) := by rw [h.c, ← hov]; rfl
  have HR := mkHid h
  clear h
  go_enter Tryd.func121, Tryd.ntmps121
  go_wp2_with fail
  go_loopw [5] (fun q wr => ∃ k : Nat, k ≤ R.objs.length ∧ q = .int .i64 k ∧ wr = w ∧ Hid (∀ j, j < k → ((R.objs.getD j noRO).oop : Int) ≠ oop)) (fun q _ => R.objs.length - (intOf q).toNat)
  case atStart => exact ⟨0, Nat.zero_le _, rfl, rfl, fun j hj => by omega⟩
  case round =>
    obtain ⟨k, hkn, rfl, rfl, hq⟩ := hrel
    by_cases hlt : k < R.objs.length
    · obtain ⟨g, c', hv, hc⟩ := HR.out.at_ (by omega)
      obtain ⟨q0, -, -, -, -, -⟩ := hc k hlt
      rw [hov] at hv
      injection hv with hv1 hv2 hv3
      subst hv1
      have k1 : (0 : Int) ≤ (k : Int) := by omega
      have k2 : (k : Int) < (R.objs.length : Int) := by omega
      simp only [I] at q0
      by_cases he : ((R.objs.getD k noRO).oop : Int) = oop
      · have HF : Hid (FoundAt R.objs oop k) := .inl ⟨k, hlt, rfl, he, hq.out⟩
        rw [he] at q0
        clear hc hq he hv2 hv3
        go_wp2_with fail
        go_ret
        exact ⟨_, rfl, HF.out, rfl⟩
      · have HQ : Hid (∀ j, j < k + 1 → ((R.objs.getD j noRO).oop : Int) ≠ oop) := fun j hj => by
          by_cases e : j = k
          · rw [e]; exact he
          · exact hq.out j (by omega)
        have he2 : ((((R.objs.getD k noRO).oop : Nat) : Int) == oop) = false := by simpa using he
        generalize (R.objs.getD k noRO).oop = z at *
        clear hc hq hv2 hv3
        go_wp2_with fail
        go_roundw
        case rel => exact ⟨k + 1, by omega, by go_num, trivial, HQ⟩
        case measure => simp [intOf]; omega
    · have hke : k = R.objs.length := by omega
      subst hke
      go_wp2_with fail
      go_ret
      exact ⟨_, rfl, .inr ⟨rfl, hq.out⟩, rfl⟩
theorem find_no (oop : Int) (B r : Nat) (R : RS) (w : World) (h : RRep w B r R) (hl : R.objs.length ≤ 1048576) (hn : (R.objs.map roKey).any (fun x => x.1 == oop) = false) :
    Calls Tryd.prog 121 #[.pointer (some ⟨r, 0, none⟩), .int .i64 oop] w fun e w' => e = .returned (.int .i64 (-1)) ∧ w' = w := by
  refine Calls.mono (find_any oop B r R w h hl) ?_
  rintro e w' ⟨z, rfl, h1, h2⟩
  refine ⟨?_, h2⟩
  rcases h1 with ⟨k, k1, k2, k3, k4⟩ | ⟨k1, k2⟩
  · exfalso
    have hm : R.objs.getD k noRO ∈ R.objs := by rw [List.getD_eq_getElem?_getD, List.getElem?_eq_getElem k1]; exact List.getElem_mem k1
    have : (R.objs.map roKey).any (fun x => x.1 == oop) = true := List.any_eq_true.2 ⟨_, List.mem_map_of_mem hm, by show (((R.objs.getD k noRO).oop : Int) == oop) = true; rw [k3]; simp⟩
    rw [hn] at this
    simp at this
  · rw [k1]
theorem find_yes (oop : Int) (B r : Nat) (R : RS) (w : World) (h : RRep w B r R) (hl : R.objs.length ≤ 1048576) (hn : (R.objs.map roKey).any (fun x => x.1 == oop) = true) :
    Calls Tryd.prog 121 #[.pointer (some ⟨r, 0, none⟩), .int .i64 oop] w fun e w' => ∃ k : Nat, e = .returned (.int .i64 (k : Int)) ∧ w' = w := by
  refine Calls.mono (find_any oop B r R w h hl) ?_
  rintro e w' ⟨z, rfl, h1, h2⟩
  rcases h1 with ⟨k, k1, k2, k3, k4⟩ | ⟨k1, k2⟩
  · exact ⟨k, by rw [k2], h2⟩
  · exfalso
    obtain ⟨x, x1, x2⟩ := List.any_eq_true.1 hn
    obtain ⟨o, o1, rfl⟩ := List.mem_map.1 x1
    obtain ⟨i, i1, i2⟩ := List.getElem_of_mem o1
    refine k2 i i1 ?_
    rw [List.getD_eq_getElem?_getD, List.getElem?_eq_getElem i1]
    show (R.objs[i].oop : Int) = oop
    rw [i2]
    simpa [roKey] using x2
end Go.Proofs.YtdkbnnhcjaibdaaDoor

namespace Go.Proofs.YtdkbnnhcjaibdaaDoor
open Go.RowKit
set_option linter.unusedVariables false
attribute [local go_sem ↓] Go.wp_at_zero Go.wp_at_succ
set_option maxHeartbeats 1000000 in
theorem rmay_any (n f : Int) (w : World) :
    Calls Tryd.prog 123 #[.int .i64 n, .int .i64 f] w fun e w' => e = .returned (.bool (mayB n f)) ∧ w' = w := by
  have hK := rKind_any n w
  by_cases h1 : f = 1
  · subst h1
    have e : Hid (mayB n 1 = decide (0 ≤ n ∧ n ≤ 255)) := by show mayB n 1 = _; unfold mayB; simp
    generalize mayB n 1 = q at *
    clear hK
    by_cases ha : 0 ≤ n
    · go_enter Tryd.func123, Tryd.ntmps123
      go_wp2
      go_ret
      exact ⟨ret_bool (by rw [e.out]; simp [ha]), rfl⟩
    · have ha' : n < 0 := by omega
      go_enter Tryd.func123, Tryd.ntmps123
      go_wp2
      go_ret
      exact ⟨ret_bool (by rw [e.out]; simp; omega), rfl⟩
  · have hb : (f == 1) = false := by simpa using h1
    have e : Hid (mayB n f = (kindOf n != 0)) := by show mayB n f = _; unfold mayB; rw [if_neg h1]; rfl
    generalize mayB n f = q at *
    clear h1
    rcases kind_cases n with h | h | h | h
    all_goals
      rw [h] at hK e
      clear h
      go_enter Tryd.func123, Tryd.ntmps123
      go_wp2_with (go_at_call 59; refine hK.mono ?_; rintro e w' ⟨rfl, rfl⟩)
      go_ret
      exact ⟨ret_bool (by rw [e.out]; rfl), rfl⟩
/-- the place behind the last object -/
def rEnd (l : List RO) : Nat := if l.length = 0 then 0 else (l.getD (l.length - 1) noRO).place + lenN (l.getD (l.length - 1) noRO).slots.length (l.getD (l.length - 1) noRO).fmt
/-- bounds that hold of every heap of the document's -/
structure ROk (R : RS) : Prop where
  len : R.objs.length ≤ 1048576
  place : ∀ o ∈ R.objs, o.place ≤ 1048576 ∧ o.slots.length ≤ 8192
theorem ROk.getD {R : RS} (h : ROk R) (k : Nat) (hk : k < R.objs.length) : (R.objs.getD k noRO).place ≤ 1048576 ∧ (R.objs.getD k noRO).slots.length ≤ 8192 := by
  rw [List.getD_eq_getElem?_getD, List.getElem?_eq_getElem hk]
  exact h.place _ (List.getElem_mem hk)
theorem RRep.vIs {w : World} {B r : Nat} {R : RS} (h : RRep w B r R) (k : Nat) (hk : k < R.objs.length) : ∃ p c, (R.objs.getD k noRO).v = .slice p (R.objs.getD k noRO).slots.length c := by
  have hm : R.objs.getD k noRO ∈ R.objs := by rw [List.getD_eq_getElem?_getD, List.getElem?_eq_getElem hk]; exact List.getElem_mem hk
  rcases (h.slots _ hm).2 with ⟨h2, h3⟩ | ⟨g, cap, cur, h2, h3⟩
  · exact ⟨none, 0, by rw [h2, h3]⟩
  · exact ⟨some ⟨g, 0, none⟩, cap, h2⟩
set_option maxRecDepth 20000 in
set_option maxHeartbeats 1000000 in
theorem rend_any (B r : Nat) (R : RS) (w : World) (h : RRep w B r R) (ho : ROk R) :
    Calls Tryd.prog 119 #[.pointer (some ⟨r, 0, none⟩)] w fun e w' => e = .returned (.int .i64 (rEnd R.objs : Nat)) ∧ Fr [] w w' := by
  obtain ⟨p, c, hov⟩ := h.ovIs
  have c5 : w.cell? ⟨r, 5, none⟩ = some (.slice p R.objs.length c) := by rw [h.c, ← hov]; rfl
  have hl := ho.len
  by_cases h0 : R.objs.length = 0
  · have e : rEnd R.objs = 0 := by unfold rEnd; rw [if_pos h0]
    rw [e]
    rw [h0] at c5
    clear h hov
    go_enter Tryd.func119, Tryd.ntmps119
    go_wp2_with fail
    go_ret
    exact ⟨rfl, Fr.refl _ _⟩
  · obtain ⟨g, c', hv, hc⟩ := h.at_ (by omega)
    rw [hov] at hv
    injection hv with hv1 hv2 hv3
    subst hv1
    obtain ⟨q0, q1, q2, q3, q4, q5⟩ := hc (R.objs.length - 1) (by omega)
    obtain ⟨p5, c5', hv5⟩ := h.vIs (R.objs.length - 1) (by omega)
    rw [hv5] at q5
    obtain ⟨o1, o2⟩ := ho.getD (R.objs.length - 1) (by omega)
    have e : Hid (rEnd R.objs = (R.objs.getD (R.objs.length - 1) noRO).place + lenN (R.objs.getD (R.objs.length - 1) noRO).slots.length (R.objs.getD (R.objs.length - 1) noRO).fmt) := by show rEnd R.objs = _; unfold rEnd; rw [if_neg h0]
    have k0 : ((R.objs.length : Int) == 0) = false := by simpa using (by omega : ¬ (R.objs.length : Int) = 0)
    have k1 : (0 : Int) ≤ (R.objs.length : Int) - 1 := by omega
    have k2 : (R.objs.length : Int) - 1 < (R.objs.length : Int) := by omega
    have k3 : ((R.objs.length : Int) - 1).toNat = R.objs.length - 1 := by omega
    have hll := lenN_le (R.objs.getD (R.objs.length - 1) noRO).slots.length (R.objs.getD (R.objs.length - 1) noRO).fmt
    have hgl : g < w.heap.size := World.block_lt_of_cell? w _ q0
    have hrl : r < w.heap.size := lt_of_heap h.top
    simp only [I] at q0 q1 q2 q3
    generalize rEnd R.objs = E at *
    generalize (R.objs.getD (R.objs.length - 1) noRO).oop = y0 at *
    generalize (R.objs.getD (R.objs.length - 1) noRO).fmt = y1 at *
    generalize (R.objs.getD (R.objs.length - 1) noRO).place = y2 at *
    generalize (R.objs.getD (R.objs.length - 1) noRO).born = y3 at *
    generalize (R.objs.getD (R.objs.length - 1) noRO).cls = y4 at *
    generalize (R.objs.getD (R.objs.length - 1) noRO).slots.length = y5 at *
    have HL := mkHid fun V => refLen_any y5 y1 V (by omega)
    clear h hc hov hv2 hv3 ho hv5
    go_enter Tryd.func119, Tryd.ntmps119
    go_wp2_with fail
    go_region
    all_goals go_wp2_with fail
    have F5 : Hid (Fr [] w ((w.alloc (.cells #[.int .i64 (y0 : Int), .int .i64 (y1 : Int), .int .i64 (y2 : Int), .int .i64 (y3 : Int), .int .i64 y4, .slice p5 y5 c5'] 153)).drew)) := (Fr.alloc [] w _).trans (Fr.drew [] _) (by simp)
    have hb5 : ((w.alloc (.cells #[.int .i64 (y0 : Int), .int .i64 (y1 : Int), .int .i64 (y2 : Int), .int .i64 (y3 : Int), .int .i64 y4, .slice p5 y5 c5'] 153)).drew).heap[w.heap.size]? = some (.cells #[.int .i64 (y0 : Int), .int .i64 (y1 : Int), .int .i64 (y2 : Int), .int .i64 (y3 : Int), .int .i64 y4, .slice p5 y5 c5'] 153 (0, 0)) := heap_alloc_new _ _
    generalize (w.alloc (.cells #[.int .i64 (y0 : Int), .int .i64 (y1 : Int), .int .i64 (y2 : Int), .int .i64 (y3 : Int), .int .i64 y4, .slice p5 y5 c5'] 153)).drew = W5 at *
    have x1 : W5.cell? ⟨w.heap.size, 1, none⟩ = some (.int .i64 (y1 : Int)) := by rw [cell_in hb5]; rfl
    have x2 : W5.cell? ⟨w.heap.size, 2, none⟩ = some (.int .i64 (y2 : Int)) := by rw [cell_in hb5]; rfl
    have x5 : W5.cell? ⟨w.heap.size, 5, none⟩ = some (.slice p5 y5 c5') := by rw [cell_in hb5]; rfl
    clear q0 q1 q2 q3 q4 q5 c5 hb5
    go_quiet ((go_at_call 67; exact Calls.quiet_of_same (HL.out _)))
    go_wp2_with fail
    go_ret
    refine ⟨ret_int ?_, ?_⟩
    · rw [e.out]; push_cast; first | rfl | omega
    · exact F5.out.trans (Fr.drewN [] _ _) (by simp)
end Go.Proofs.YtdkbnnhcjaibdaaDoor

namespace Go.Proofs.YtdkbnnhcjaibdaaDoor
open Go.RowKit
set_option linter.unusedVariables false
attribute [local go_sem ↓] Go.wp_at_zero Go.wp_at_succ
def th5 (t : Th) : List Value := [.bool t.there, .int .i64 t.cls, I t.fmt, I t.place, .slice t.p t.slots.length t.c]
theorem thCells_cons (s : Th) (S : List Th) : thCells (s :: S) = th5 s ++ thCells S := by simp [thCells, th5]
theorem th5_len (t : Th) : (th5 t).length = 5 := rfl
theorem thCells_get (S : List Th) : ∀ i, (thCells S)[i]? = (S[i / 5]?).bind fun t => (th5 t)[i % 5]? := by
  induction S with
  | nil => intro i; simp [thCells]
  | cons s S ih =>
    intro i
    rw [thCells_cons]
    by_cases h : i < 5
    · rw [List.getElem?_append_left (by rw [th5_len]; exact h), show i / 5 = 0 from by omega, show i % 5 = i from by omega]; rfl
    · rw [List.getElem?_append_right (by rw [th5_len]; omega), ih, th5_len, show i / 5 = (i - 5) / 5 + 1 from by omega, show (i - 5) % 5 = i % 5 from by omega]
      rfl
theorem thCells_set1 (S : List Th) (k j : Nat) (v : Value) (t' : Th) (hk : k < S.length) (hj : j < 5) (h5 : th5 t' = (th5 (S.getD k noTh)).set j v) : thCells (S.set k t') = (thCells S).set (k * 5 + j) v := by
  apply List.ext_getElem?
  intro i
  rw [thCells_get, List.getElem?_set, List.getElem?_set, thCells_len]
  by_cases h1 : i / 5 = k
  · rw [if_pos h1.symm, if_pos (by omega)]
    simp only [Option.bind_some]
    rw [h5, List.getElem?_set]
    by_cases h2 : j = i % 5
    · rw [if_pos h2, if_pos (by rw [th5_len]; exact hj), if_pos (by omega), if_pos (by omega)]
    · rw [if_neg h2, if_neg (by omega), thCells_get, h1, List.getD_eq_getElem?_getD, List.getElem?_eq_getElem hk]
      rfl
  · rw [if_neg (fun e => h1 e.symm), if_neg (by omega), thCells_get]
theorem getD_set (S : List Th) (k i : Nat) (t : Th) (hk : k < S.length) : (S.set k t).getD i noTh = if i = k then t else S.getD i noTh := by
  rw [List.getD_eq_getElem?_getD, List.getD_eq_getElem?_getD, List.getElem?_set]
  by_cases h : k = i
  · rw [if_pos h, if_pos h.symm, if_pos (by omega)]; rfl
  · rw [if_neg h, if_neg (fun e => h e.symm)]
theorem getD_mem (S : List Th) (k : Nat) (hk : k < S.length) : S.getD k noTh ∈ S := by
  rw [List.getD_eq_getElem?_getD, List.getElem?_eq_getElem hk]; exact List.getElem_mem hk
theorem mem_set {S : List Th} {k : Nat} {t u : Th} (h : u ∈ S.set k t) : u = t ∨ u ∈ S := by
  rcases List.mem_or_eq_of_mem_set h with h | h
  · exact .inr h
  · exact .inl h
/-- the things' block is neither the model's nor one of the slots' -/
theorem MRep.pt_ne {w : World} {m : Nat} {M : MS} {g : Nat} (h : MRep w m M) (hg : M.pt = some ⟨g, 0, none⟩) : g ≠ m ∧ g ∉ mslots M := by
  obtain ⟨c, hc⟩ := own_blk h.row g (by rw [hg]; simp [blk])
  refine ⟨fun e => ?_, fun hm => ?_⟩
  · have ht := h.top
    rw [← e, hc] at ht
    simp at ht
  · obtain ⟨t, ht, hb⟩ := List.mem_flatMap.1 hm
    obtain ⟨c2, hc2⟩ := own_blk (h.slots t ht) g hb
    rw [hc] at hc2
    simp at hc2
/-- one cell of a thing is written, its slots lie where they lay -/
theorem MRep.set1 {w : World} {m : Nat} {M : MS} {g : Nat} (h : MRep w m M) (hg : M.pt = some ⟨g, 0, none⟩) (k j : Nat) (v : Value) (t' : Th) (hk : k < M.things.length) (hj : j < 5)
    (h5 : th5 t' = (th5 (M.things.getD k noTh)).set j v) (hp : t'.p = (M.things.getD k noTh).p) (hc : t'.c = (M.things.getD k noTh).c) (hs : t'.slots = (M.things.getD k noTh).slots) :
    MRep (w.setCell ⟨g, k * 5 + j, none⟩ v) m { M with things := M.things.set k t' } := by
  obtain ⟨n1, n2⟩ := h.pt_ne hg
  have hel : ∀ i, i ≠ g → (w.setCell ⟨g, k * 5 + j, none⟩ v).heap[i]? = w.heap[i]? := fun i hi => set_else hi
  have hrow := h.row
  rw [hg] at hrow
  have hr2 := own_stored hrow (k * 5 + j) v
  rw [← thCells_set1 M.things k j v t' hk hj h5] at hr2
  refine ⟨?_, ?_, ?_, ?_⟩
  · rw [hel m (fun e => n1 e.symm)]
    have := h.top
    simpa [mcells] using this
  · show (w.setCell ⟨g, k * 5 + j, none⟩ v).ownsRow 0 116 5 (.slice M.pt (M.things.set k t').length M.ct) (M.things.set k t').length (thCells (M.things.set k t'))
    rw [List.length_set, hg]
    exact hr2
  · intro t ht
    have hold : ∃ u ∈ M.things, u.p = t.p ∧ u.c = t.c ∧ u.slots = t.slots := by
      rcases mem_set ht with rfl | h2
      · exact ⟨_, getD_mem M.things k hk, hp.symm, hc.symm, hs.symm⟩
      · exact ⟨t, h2, rfl, rfl, rfl⟩
    obtain ⟨u, hu, u1, u2, u3⟩ := hold
    have := h.slots u hu
    rw [u1, u2, u3] at this
    refine own_congr this fun b hb => hel b (fun e => n2 ?_)
    rw [← e]
    exact mslots_mem hu (by rw [u1]; exact (blk_own _ _ _ _).1 hb)
  · intro i i' hi hi' hne b hb
    simp only [List.length_set] at hi hi'
    have e : ∀ x, ((M.things.set k t').getD x noTh).p = (M.things.getD x noTh).p := fun x => by
      rw [getD_set M.things k x t' hk]
      split
      · rename_i hx; rw [hx, hp]
      · rfl
    simp only [e] at hb ⊢
    exact h.apart i i' hi hi' hne b hb
end Go.Proofs.YtdkbnnhcjaibdaaDoor

namespace Go.Proofs.YtdkbnnhcjaibdaaDoor
open Go.RowKit
set_option linter.unusedVariables false
attribute [local go_sem ↓] Go.wp_at_zero Go.wp_at_succ
/-- the first thing of the first i that lies lowest, of those that lie at A or above -/
def pickTo (S : List Th) (A : Nat) : Nat → Option Nat
  | 0 => none
  | i + 1 => match pickTo S A i with
    | none => if (S.getD i noTh).there = true ∧ A ≤ (S.getD i noTh).place then some i else none
    | some b => if (S.getD i noTh).there = true ∧ A ≤ (S.getD i noTh).place ∧ (S.getD i noTh).place < (S.getD b noTh).place then some i else some b
theorem pickTo_none (S : List Th) (A i : Nat) (h : pickTo S A i = none) : pickTo S A (i + 1) = if (S.getD i noTh).there = true ∧ A ≤ (S.getD i noTh).place then some i else none := by
  conv => lhs; unfold pickTo
  rw [h]
theorem pickTo_some (S : List Th) (A i b : Nat) (h : pickTo S A i = some b) : pickTo S A (i + 1) = if (S.getD i noTh).there = true ∧ A ≤ (S.getD i noTh).place ∧ (S.getD i noTh).place < (S.getD b noTh).place then some i else some b := by
  conv => lhs; unfold pickTo
  rw [h]
theorem pickTo_lt (S : List Th) (A : Nat) : ∀ i b, pickTo S A i = some b → b < i ∧ (S.getD b noTh).there = true ∧ A ≤ (S.getD b noTh).place := by
  intro i
  induction i with
  | zero => intro b h; simp [pickTo] at h
  | succ i ih =>
    intro b h
    cases hp : pickTo S A i with
    | none =>
      rw [pickTo_none S A i hp] at h
      split at h
      · rename_i hc; injection h with h; subst h; exact ⟨by omega, hc⟩
      · simp at h
    | some c =>
      rw [pickTo_some S A i c hp] at h
      split at h
      · rename_i hc; injection h with h; subst h; exact ⟨by omega, hc.1, hc.2.1⟩
      · injection h with h; subst h
        have := ih _ hp
        exact ⟨by omega, this.2⟩
def pv : Option Nat → Int
  | none => -1
  | some b => b
def placed (t : Th) (A : Nat) : Th := { t with place := A }
/-- n of them slide, from A on -/
def slidN (S : List Th) (A : Nat) : Nat → List Th
  | 0 => S
  | n + 1 => match pickTo S A S.length with
    | none => S
    | some k => slidN (S.set k (placed (S.getD k noTh) A)) (A + lenN (S.getD k noTh).slots.length (S.getD k noTh).fmt) n
theorem slidN_none (S : List Th) (A n : Nat) (h : pickTo S A S.length = none) : slidN S A (n + 1) = S := by conv => lhs; unfold slidN; rw [h]
theorem slidN_some (S : List Th) (A n k : Nat) (h : pickTo S A S.length = some k) : slidN S A (n + 1) = slidN (S.set k (placed (S.getD k noTh) A)) (A + lenN (S.getD k noTh).slots.length (S.getD k noTh).fmt) n := by
  conv => lhs; unfold slidN
  rw [h]
/-- two lists of things that differ in their places alone -/
structure Alike (S T : List Th) : Prop where
  len : S.length = T.length
  at_ : ∀ i, (S.getD i noTh).there = (T.getD i noTh).there ∧ (S.getD i noTh).slots = (T.getD i noTh).slots ∧ (S.getD i noTh).fmt = (T.getD i noTh).fmt ∧ (S.getD i noTh).cls = (T.getD i noTh).cls ∧ (S.getD i noTh).p = (T.getD i noTh).p ∧ (S.getD i noTh).c = (T.getD i noTh).c
theorem Alike.refl (S : List Th) : Alike S S := ⟨rfl, fun _ => ⟨rfl, rfl, rfl, rfl, rfl, rfl⟩⟩
theorem Alike.place {S T : List Th} (h : Alike S T) (k A : Nat) (hk : k < S.length) : Alike (S.set k (placed (S.getD k noTh) A)) T := by
  refine ⟨by rw [List.length_set]; exact h.len, fun i => ?_⟩
  rw [getD_set S k i _ hk]
  split
  · rename_i e; subst e; exact h.at_ i
  · exact h.at_ i
theorem Alike.there {S T : List Th} (h : Alike S T) : ∀ k, k ≤ S.length → thereTo S k = thereTo T k := by
  intro k
  induction k with
  | zero => intro _; rfl
  | succ k ih =>
    intro hk
    rw [thereTo_succ S k (by omega), thereTo_succ T k (by have := h.len; omega), ih (by omega), (h.at_ k).1]
set_option maxRecDepth 20000 in
set_option maxHeartbeats 4000000 in
theorem slid_ok (m : Nat) (M : MS) (w : World) (h : MRep w m M) (hlen : (M.things.length : Int) ≤ 65538) (hsl : ∀ k, k < M.things.length → ((M.things.getD k noTh).slots.length : Int) ≤ 8192) :
    Calls Tryd.prog 16 #[.pointer (some ⟨m, 0, none⟩)] w fun e w' => e = .returned (.tuple #[]) ∧ MRep w' m { M with things := slidN M.things 0 (thereTo M.things M.things.length) } ∧ Fr (blk M.pt) w w' := by
  have hTl := thereTo_le M.things M.things.length
  have HM := mkHid h
  have HSl := mkHid hsl
  clear h hsl
  generalize hT : thereTo M.things M.things.length = T at *
  have HT := mkHid hT
  clear hT
  go_enter Tryd.func16, Tryd.ntmps16
  go_wp2
  go_loopw [2, 3] (fun x q wr => ∃ (n A : Nat) (S : List Th), n ≤ T ∧ q = .int .i64 n ∧ x = .int .i64 A ∧ A ≤ n * 8194 ∧ Hid (Alike S M.things ∧ MRep wr m { M with things := S } ∧ Fr (blk M.pt) w wr ∧ slidN M.things 0 T = slidN S A (T - n))) (fun _ q _ => T - (intOf q).toNat)
  case atStart => exact ⟨0, 0, M.things, Nat.zero_le _, rfl, rfl, by omega, Alike.refl _, HM.out, Fr.refl _ _, rfl⟩
  case round =>
    obtain ⟨n, A, S, hn, rfl, rfl, hA, hq⟩ := hrel
    obtain ⟨wo, hwo⟩ : ∃ wo, wo = wr := ⟨_, rfl⟩
    subst hwo
    obtain ⟨hal, hmr, hfr, hsd⟩ := hq.out
    clear hq
    have hSl := hal.len
    have hth := there_ok m _ wo hmr (by show (S.length : Int) ≤ 65538; omega)
    have e1 : thereTo S S.length = T := by rw [hal.there _ (Nat.le_refl _), hal.len]; exact HT.out
    have hth2 : Calls Tryd.prog 66 #[.pointer (some ⟨m, 0, none⟩)] wo fun e w' => e = .returned (.int .i64 (T : Nat)) ∧ w' = wo := by rw [← e1]; exact hth
    have HTh := mkHid hth2
    have HMr := mkHid hmr
    have HAl := mkHid hal
    have HFr := mkHid hfr
    have HSd := mkHid hsd
    have HSL := mkHid hSl
    have hS5 : (S.length : Int) ≤ 65538 := by omega
    clear hth hth2 hmr hal hfr hsd e1 hSl
    by_cases hlt : n < T
    · have n1 : (n : Int) < (T : Int) := by omega
      have hml := HMr.out.lt m (by simp [mfoot])
      go_wp2_with (go_at_call 66; refine HTh.out.mono ?_; rintro e w1 ⟨rfl, hw1⟩; rw [hw1]; clear hw1 w1)
      go_loopw [4, 5] (fun x q W => ∃ i : Nat, i ≤ S.length ∧ q = .int .i64 i ∧ x = .int .i64 (pv (pickTo S A i)) ∧ Hid (Fr [] wo W)) (fun _ q _ => S.length - (intOf q).toNat)
      case atStart => exact ⟨0, Nat.zero_le _, rfl, rfl, Fr.refl _ _⟩
      case round =>
        obtain ⟨i, hi, rfl, rfl, hfi⟩ := hrel
        have hmi := HMr.out.keep hfi.out (by simp)
        have hmw := hmi.lt m (by simp [mfoot])
        have c3 := hmi.c3
        dsimp only at c3
        by_cases hil : i < S.length
        · obtain ⟨g, hg, hc, hf, hgl⟩ := hmi.thAt (by show 0 < S.length; omega)
          dsimp only at hg hc
          obtain ⟨q0, q1, q2, q3, q4⟩ := hc i hil
          rw [hg] at c3
          simp only [I] at q2 q3
          have k1 : (0 : Int) ≤ (i : Int) := by omega
          have k2 : (i : Int) < (S.length : Int) := by omega
          have HC := mkHid hc
          clear hmi hc hf hg HTh
          cases hpk : pickTo S A i with
          | none =>
            have HP := mkHid (pickTo_none S A i hpk)
            clear HC hpk
            generalize S.getD i noTh = t at *
            obtain ⟨th, tcl, fm, pl, sl, tp, tc⟩ := t
            dsimp only at *
            generalize sl.length = sn at *
            have HFA : Hid (∀ nq, Fr [] wo ((wr.alloc (.cells #[.bool th, .int .i64 tcl, .int .i64 fm, .int .i64 pl, .slice tp sn tc] 116)).drewN nq)) := fun nq => (hfi.out.trans (Fr.alloc [] _ _) (by simp)).trans (Fr.drewN [] _ _) (by simp)
            simp only [show pv none = -1 from rfl]
            cases th with
            | false =>
              have HP2 : Hid (pv (pickTo S A (i + 1)) = -1) := by show pv (pickTo S A (i + 1)) = -1; rw [HP.out, if_neg (by simp)]; rfl
              clear HP
              go_wp2
              go_quiet (fail)
              go_wp2
              go_roundw
              case rel => exact ⟨i + 1, by omega, by go_num, by rw [HP2.out], HFA.out _⟩
              case measure => simp [intOf]; omega
            | true =>
              by_cases hpa : A ≤ pl
              · have HP2 : Hid (pv (pickTo S A (i + 1)) = i) := by show pv (pickTo S A (i + 1)) = i; rw [HP.out, if_pos ⟨rfl, hpa⟩]; rfl
                have z1 : (A : Int) ≤ (pl : Int) := by omega
                clear HP
                go_wp2
                go_quiet (fail)
                go_wp2
                go_roundw
                case rel => exact ⟨i + 1, by omega, by go_num, by rw [HP2.out], HFA.out _⟩
                case measure => simp [intOf]; omega
              · have HP2 : Hid (pv (pickTo S A (i + 1)) = -1) := by show pv (pickTo S A (i + 1)) = -1; rw [HP.out, if_neg (by simp; omega)]; rfl
                have z1 : decide ((A : Int) ≤ (pl : Int)) = false := decide_eq_false (by omega)
                clear HP
                go_wp2
                go_quiet (fail)
                go_wp2
                go_roundw
                case rel => exact ⟨i + 1, by omega, by go_num, by rw [HP2.out], HFA.out _⟩
                case measure => simp [intOf]; omega
          | some b =>
            have HP := mkHid (pickTo_some S A i b hpk)
            obtain ⟨b1, b2, b3⟩ := pickTo_lt S A i b hpk
            obtain ⟨_, _, _, y3, _⟩ := HC.out b (by omega)
            simp only [I] at y3
            have k3 : (0 : Int) ≤ (b : Int) := by omega
            have k4 : (b : Int) < (S.length : Int) := by omega
            have k5 : decide ((b : Int) < 0) = false := decide_eq_false (by omega)
            clear HC hpk b2 b3
            generalize (S.getD b noTh).place = pb at *
            generalize S.getD i noTh = t at *
            obtain ⟨th, tcl, fm, pl, sl, tp, tc⟩ := t
            dsimp only at *
            generalize sl.length = sn at *
            have HFA : Hid (∀ nq, Fr [] wo ((wr.alloc (.cells #[.bool th, .int .i64 tcl, .int .i64 fm, .int .i64 pl, .slice tp sn tc] 116)).drewN nq)) := fun nq => (hfi.out.trans (Fr.alloc [] _ _) (by simp)).trans (Fr.drewN [] _ _) (by simp)
            simp only [show pv (some b) = (b : Int) from rfl]
            cases th with
            | false =>
              have HP2 : Hid (pv (pickTo S A (i + 1)) = b) := by show pv (pickTo S A (i + 1)) = b; rw [HP.out, if_neg (by simp)]; rfl
              clear HP
              go_wp2
              go_quiet (fail)
              go_wp2
              go_roundw
              case rel => exact ⟨i + 1, by omega, by go_num, by rw [HP2.out], HFA.out _⟩
              case measure => simp [intOf]; omega
            | true =>
              by_cases hpa : A ≤ pl
              · have z1 : (A : Int) ≤ (pl : Int) := by omega
                by_cases hpb : pl < pb
                · have HP2 : Hid (pv (pickTo S A (i + 1)) = i) := by show pv (pickTo S A (i + 1)) = i; rw [HP.out, if_pos ⟨rfl, hpa, hpb⟩]; rfl
                  have z2 : (pl : Int) < (pb : Int) := by omega
                  clear HP
                  go_wp2
                  go_quiet (fail)
                  go_wp2
                  go_roundw
                  case rel => exact ⟨i + 1, by omega, by go_num, by rw [HP2.out], HFA.out _⟩
                  case measure => simp [intOf]; omega
                · have HP2 : Hid (pv (pickTo S A (i + 1)) = b) := by show pv (pickTo S A (i + 1)) = b; rw [HP.out, if_neg (by simp; omega)]; rfl
                  have z2 : decide ((pl : Int) < (pb : Int)) = false := decide_eq_false (by omega)
                  clear HP
                  go_wp2
                  go_quiet (fail)
                  go_wp2
                  go_roundw
                  case rel => exact ⟨i + 1, by omega, by go_num, by rw [HP2.out], HFA.out _⟩
                  case measure => simp [intOf]; omega
              · have HP2 : Hid (pv (pickTo S A (i + 1)) = b) := by show pv (pickTo S A (i + 1)) = b; rw [HP.out, if_neg (by simp; omega)]; rfl
                have z1 : decide ((A : Int) ≤ (pl : Int)) = false := decide_eq_false (by omega)
                clear HP
                go_wp2
                go_quiet (fail)
                go_wp2
                go_roundw
                case rel => exact ⟨i + 1, by omega, by go_num, by rw [HP2.out], HFA.out _⟩
                case measure => simp [intOf]; omega
        · have hie : i = S.length := by omega
          subst hie
          cases hpk : pickTo S A S.length with
          | none =>
            have HP := mkHid (slidN_none S A (T - (n + 1)) hpk)
            clear hpk
            simp only [show pv none = -1 from rfl]
            clear HTh
            go_wp2
            refine bodyPost_ret (v := .tuple #[]) (by simp [results, Tryd.results16, go_sem]) rfl ?_
            refine ⟨rfl, ?_, HFr.out.trans hfi.out (by simp)⟩
            rw [HSd.out, show T - n = T - (n + 1) + 1 from by omega, HP.out]
            exact hmi
          | some b =>
            have HP := mkHid (slidN_some S A (T - (n + 1)) b hpk)
            obtain ⟨b1, b2, b3⟩ := pickTo_lt S A _ b hpk
            obtain ⟨g, hg, hc, hf, hgl⟩ := hmi.thAt (by show 0 < S.length; omega)
            dsimp only at hg hc
            obtain ⟨y0, y1, y2, y3, y4⟩ := hc b (by omega)
            have k3 : (0 : Int) ≤ (b : Int) := by omega
            have k4 : (b : Int) < (S.length : Int) := by omega
            have k5 : decide ((b : Int) < 0) = false := decide_eq_false (by omega)
            simp only [show pv (some b) = (b : Int) from rfl]
            have hgm := (hmi.pt_ne hg).1
            have hfz := hf (b * 5 + 3)
            have hset := hmi.set1 hg b 3 (I A) (placed (S.getD b noTh) A) (by show b < S.length; omega) (by omega) rfl rfl rfl rfl
            have HAl2 := mkHid (HAl.out.place b A (by omega))
            have hslb := HSl.out b (by have := HSL.out; omega)
            rw [← (HAl.out.at_ b).2.1] at hslb
            have hLb := lenN_le (S.getD b noTh).slots.length (S.getD b noTh).fmt
            have HL := mkHid (refLen_any (S.getD b noTh).slots.length (S.getD b noTh).fmt)
            have hgp : g ∈ blk M.pt := by rw [hg]; simp [blk]
            have HFs := mkHid ((HFr.out.trans hfi.out (by simp)).trans (Fr.setCell (S := blk M.pt) wr ⟨g, b * 5 + 3, none⟩ (I A) hgp) (fun x hx => .inl hx))
            have d3 : (wr.setCell ⟨g, b * 5 + 3, none⟩ (I A)).cell? ⟨m, 3, none⟩ = some (.slice (some ⟨g, 0, none⟩) S.length M.ct) := by
              have := hset.c3
              dsimp only at this
              rw [List.length_set, hg] at this
              exact this
            have d2 : (wr.setCell ⟨g, b * 5 + 3, none⟩ (I A)).cell? ⟨g, b * 5 + 2, none⟩ = some (I (S.getD b noTh).fmt) ∧ (wr.setCell ⟨g, b * 5 + 3, none⟩ (I A)).cell? ⟨g, b * 5 + 4, none⟩ = some (.slice (S.getD b noTh).p (S.getD b noTh).slots.length (S.getD b noTh).c) := by
              obtain ⟨g', hg', hc', _, _⟩ := hset.thAt (by dsimp only; rw [List.length_set]; omega)
              dsimp only at hg' hc'
              have e : g' = g := by
                rw [hg] at hg'
                injection hg' with e
                injection e with e _ _
                exact e.symm
              subst e
              have := hc' b (by rw [List.length_set]; omega)
              rw [getD_set S b b _ (by omega), if_pos rfl] at this
              exact ⟨this.2.2.1, this.2.2.2.2⟩
            obtain ⟨d2, d4⟩ := d2
            have HSet := mkHid hset
            rw [hg] at c3
            simp only [I] at y2 y3 HFs HSet d2 d3 d4
            clear hset hpk b2 b3 hc hf HTh hgp hg
            generalize hLn : lenN (S.getD b noTh).slots.length (S.getD b noTh).fmt = L at *
            generalize hTb : S.getD b noTh = t at *
            obtain ⟨th, tcl, fm, pl, sl, tp, tc⟩ := t
            dsimp only at *
            generalize hsn : sl.length = sn at *
            clear hmi
            go_wp2
            generalize wr.setCell ⟨g, b * 5 + 3, none⟩ (.int .i64 (A : Int)) = W1 at *
            clear c3 y0 y1 y2 y3 y4
            go_quiet ((go_at_call 67; exact Calls.quiet_of_same (HL.out _ (by omega))))
            go_wp2
            go_roundw
            case rel =>
              refine ⟨n + 1, A + L, _, by omega, by go_num, by go_num, by omega, HAl2.out, HSet.out.congr fun _ _ => rfl, HFs.out.trans (Fr.drewN (blk M.pt) _ _) (fun x hx => .inl hx), ?_⟩
              rw [HSd.out, show T - n = T - (n + 1) + 1 from by omega, HP.out]
            case measure => simp [intOf]; omega
    · have hnT : n = T := by omega
      subst hnT
      have n1 : ¬ (n : Int) < (n : Int) := by omega
      go_wp2_with (go_at_call 66; refine HTh.out.mono ?_; rintro e w1 ⟨rfl, hw1⟩; rw [hw1]; clear hw1 w1)
      go_end0
      refine ⟨rfl, ?_, HFr.out⟩
      rw [HSd.out, Nat.sub_self]
      exact HMr.out
end Go.Proofs.YtdkbnnhcjaibdaaDoor

namespace Go.Proofs.YtdkbnnhcjaibdaaDoor
open Go.RowKit
set_option linter.unusedVariables false
attribute [local go_sem ↓] Go.wp_at_zero Go.wp_at_succ
def newX (f : Nat) : Int := if f = 1 then 0 else 4
def thObj (cl : Int) (f E : Nat) (v : Value) : Obj := .cells #[.bool true, .int .i64 cl, .int .i64 f, .int .i64 E, v] 116 (0, 0)
/-- the thing under way: its block is B, it has k slots -/
structure Way (w wr : World) (B : Nat) (cl : Int) (f E : Nat) (k : Nat) : Prop where
  fr : Fr [] w wr
  lt : w.heap.size ≤ B
  at_ : ∃ v, wr.heap[B]? = some (thObj cl f E v) ∧ wr.ownsRow (B + 1) 35 1 v k ((List.replicate k (newX f)).map (Value.int .i64))
theorem Way.next {w wr w2 : World} {B : Nat} {cl : Int} {f E k : Nat} {v v' : Value} {o : Obj} (h : Way w wr B cl f E k) (hv : wr.heap[B]? = some (thObj cl f E v)) (hown : wr.ownsRow (B + 1) 35 1 v k ((List.replicate k (newX f)).map (Value.int .i64)))
    (hg : (wr.alloc o).grownBy w2 v.ownBlock) (ho : w2.ownsRow (B + 1) 35 1 v' (k + 1) ((List.replicate k (newX f)).map (Value.int .i64) ++ [.int .i64 (newX f)])) : Way w (w2.setCell ⟨B, 4, none⟩ v') B cl f E (k + 1) := by
  have hBl := lt_of_heap hv
  have hob : ∀ b, v.ownBlock = some b → B + 1 ≤ b := fun b hb => (hown.lt b hb).1
  have hB2 : w2.heap[B]? = some (thObj cl f E v) := by
    rw [hg.block B (by simp; omega) (fun e => by have := hob B e.symm; omega), Below.heap_alloc _ _ _ hBl]
    exact hv
  have F2 : Fr [B] w w2 := by
    refine ⟨hg.os.trans h.fr.os, hg.tape.trans h.fr.tape, hg.output.trans h.fr.output, Nat.le_trans h.fr.size (Nat.le_trans (by simp) hg.size), fun i hi hn => ?_⟩
    have hiB : i < wr.heap.size := Nat.lt_of_lt_of_le hi h.fr.size
    rw [hg.block i (by simp; omega) (fun e => by have := hob i e.symm; have := h.lt; omega), Below.heap_alloc _ _ _ hiB]
    exact h.fr.block i hi (by simp)
  refine ⟨(F2.trans (Fr.setCell (S := [B]) w2 ⟨B, 4, none⟩ v' (by simp)) (fun b hb => .inl hb)).mono (fun b hb => ?_), h.lt, v', ?_, ?_⟩
  · simp at hb; subst hb; exact .inr h.lt
  · unfold thObj at hB2 ⊢
    rw [set_in hB2]
    rfl
  · have : (List.replicate (k + 1) (newX f)).map (Value.int .i64) = (List.replicate k (newX f)).map (Value.int .i64) ++ [.int .i64 (newX f)] := by
      rw [List.replicate_succ', List.map_append]; rfl
    rw [this]
    exact own_congr ho fun b hb => set_else (by have := (ho.lt b hb).1; omega)
end Go.Proofs.YtdkbnnhcjaibdaaDoor

namespace Go.Proofs.YtdkbnnhcjaibdaaDoor
open Go.RowKit
set_option linter.unusedVariables false
attribute [local go_sem ↓] Go.wp_at_zero Go.wp_at_succ
def putTh (S : List Th) (k : Nat) (t : Th) : List Th := if k < S.length then S.set k t else S ++ [t]
/-- one thing is new, the others are as they were -/
theorem MRep.renew {w w2 : World} {m : Nat} {M : MS} (h : MRep w m M) (S : List Th) (pt : Option Addr) (ct : Nat) (t : Th) (k : Nat) (hk : k < S.length)
    (hat : ∀ i, i < S.length → S.getD i noTh = if i = k then t else M.things.getD i noTh) (hlen : ∀ i, i < S.length → i ≠ k → i < M.things.length)
    (htop : w2.heap[m]? = some (.cells (mcells { M with things := S, pt := pt, ct := ct }) 33 (0, 0)))
    (hrow : w2.ownsRow 0 116 5 (.slice pt S.length ct) S.length (thCells S)) (hkeep : ∀ g ∈ mslots M, w2.heap[g]? = w.heap[g]?)
    (hnew : w2.ownsRow 0 35 1 (.slice t.p t.slots.length t.c) t.slots.length (t.slots.map (Value.int .i64))) (hap : ∀ g ∈ blk t.p, g ∉ mslots M) :
    MRep w2 m { M with things := S, pt := pt, ct := ct } := by
  refine ⟨htop, hrow, ?_, ?_⟩
  · intro u hu
    obtain ⟨i, hi, hiu⟩ := List.getElem_of_mem hu
    have e : S.getD i noTh = u := by rw [List.getD_eq_getElem?_getD, List.getElem?_eq_getElem hi, hiu]; rfl
    rw [hat i hi] at e
    split at e
    · rw [← e]; exact hnew
    · rename_i hik
      have hm := getD_mem M.things i (hlen i hi hik)
      rw [e] at hm
      exact own_congr (h.slots u hm) fun b hb => hkeep b (mslots_mem hm ((blk_own _ _ _ _).1 hb))
  · intro i j hi hj hij g hg
    dsimp only at hi hj hg ⊢
    rw [hat i hi] at hg
    rw [hat j hj]
    by_cases hik : i = k
    · rw [if_pos hik] at hg
      rw [if_neg (by omega)]
      exact fun hb => hap g hg (mslots_mem (getD_mem M.things j (hlen j hj (by omega))) hb)
    · rw [if_neg hik] at hg
      have hmi := mslots_mem (getD_mem M.things i (hlen i hi hik)) hg
      by_cases hjk : j = k
      · rw [if_pos hjk]; exact fun hb => hap g hb hmi
      · rw [if_neg hjk]; exact h.apart i j (hlen i hi hik) (hlen j hj hjk) hij g hg
theorem putTh_at (S : List Th) (k : Nat) (t : Th) (hk : k ≤ S.length) : ∀ i, i < (putTh S k t).length → (putTh S k t).getD i noTh = if i = k then t else S.getD i noTh := by
  intro i hi
  unfold putTh at hi ⊢
  by_cases h : k < S.length
  · rw [if_pos h] at hi ⊢
    exact getD_set S k i t h
  · rw [if_neg h] at hi ⊢
    have hke : k = S.length := by omega
    simp at hi
    by_cases e : i = k
    · rw [if_pos e, e, hke, List.getD_eq_getElem?_getD, List.getElem?_append_right (by omega)]; simp
    · rw [if_neg e, List.getD_eq_getElem?_getD, List.getD_eq_getElem?_getD, List.getElem?_append_left (by omega)]
theorem putTh_len (S : List Th) (k : Nat) (t : Th) (hk : k ≤ S.length) : k < (putTh S k t).length ∧ ∀ i, i < (putTh S k t).length → i ≠ k → i < S.length := by
  unfold putTh
  by_cases h : k < S.length
  · rw [if_pos h]; simp; exact ⟨h, fun i hi _ => hi⟩
  · rw [if_neg h]; simp; exact ⟨by omega, fun i hi hne => by omega⟩
theorem thCells_append (S : List Th) (t : Th) : thCells (S ++ [t]) = thCells S ++ th5 t := by simp [thCells, th5]
/-- a whole thing is written -/
theorem thCells_setAll (S : List Th) (k : Nat) (t : Th) (hk : k < S.length) : thCells (S.set k t) = (((((thCells S).set (k * 5) (.bool t.there)).set (k * 5 + 1) (.int .i64 t.cls)).set (k * 5 + 2) (I t.fmt)).set (k * 5 + 3) (I t.place)).set (k * 5 + 4) (.slice t.p t.slots.length t.c) := by
  apply List.ext_getElem?
  intro i
  rw [thCells_get, List.getElem?_set, List.getElem?_set, List.getElem?_set, List.getElem?_set, List.getElem?_set, List.getElem?_set]
  simp only [List.length_set, thCells_len]
  by_cases h1 : i / 5 = k
  · rw [if_pos h1.symm, if_pos (by omega)]
    simp only [Option.bind_some]
    have h5 : i = k * 5 ∨ i = k * 5 + 1 ∨ i = k * 5 + 2 ∨ i = k * 5 + 3 ∨ i = k * 5 + 4 := by omega
    rcases h5 with e | e | e | e | e
    · rw [if_neg (by omega), if_neg (by omega), if_neg (by omega), if_neg (by omega), if_pos (by omega), if_pos (by omega), show i % 5 = 0 from by omega]; rfl
    · rw [if_neg (by omega), if_neg (by omega), if_neg (by omega), if_pos (by omega), if_pos (by omega), show i % 5 = 1 from by omega]; rfl
    · rw [if_neg (by omega), if_neg (by omega), if_pos (by omega), if_pos (by omega), show i % 5 = 2 from by omega]; rfl
    · rw [if_neg (by omega), if_pos (by omega), if_pos (by omega), show i % 5 = 3 from by omega]; rfl
    · rw [if_pos (by omega), if_pos (by omega), show i % 5 = 4 from by omega]; rfl
  · rw [if_neg (fun e => h1 e.symm), if_neg (by omega), if_neg (by omega), if_neg (by omega), if_neg (by omega), if_neg (by omega), thCells_get]
end Go.Proofs.YtdkbnnhcjaibdaaDoor

namespace Go.Proofs.YtdkbnnhcjaibdaaDoor
open Go.RowKit
set_option linter.unusedVariables false
attribute [local go_sem ↓] Go.wp_at_zero Go.wp_at_succ
def setTh (w : World) (g q : Nat) (t : Th) : World :=
  ((((w.setCell ⟨g, q * 5, none⟩ (.bool t.there)).setCell ⟨g, q * 5 + 1, none⟩ (.int .i64 t.cls)).setCell ⟨g, q * 5 + 2, none⟩ (.int .i64 t.fmt)).setCell ⟨g, q * 5 + 3, none⟩ (.int .i64 t.place)).setCell ⟨g, q * 5 + 4, none⟩ (.slice t.p t.slots.length t.c)
theorem setTh_else {w : World} {g q : Nat} {t : Th} {i : Nat} (h : i ≠ g) : (setTh w g q t).heap[i]? = w.heap[i]? := by
  unfold setTh
  rw [set_else h, set_else h, set_else h, set_else h, set_else h]
theorem setTh_fr (w : World) (g q : Nat) (t : Th) (S : List Nat) (h : g ∈ S) : Fr S w (setTh w g q t) := by
  unfold setTh
  exact ((((Fr.setCell w _ _ h).trans (Fr.setCell (S := S) _ _ _ h) (fun b hb => .inl hb)).trans (Fr.setCell (S := S) _ _ _ h) (fun b hb => .inl hb)).trans (Fr.setCell (S := S) _ _ _ h) (fun b hb => .inl hb)).trans (Fr.setCell (S := S) _ _ _ h) (fun b hb => .inl hb)
theorem setTh_row {w : World} {S : List Th} {g c q : Nat} {t : Th} (h : w.ownsRow 0 116 5 (.slice (some ⟨g, 0, none⟩) S.length c) S.length (thCells S)) (hq : q < S.length) :
    (setTh w g q t).ownsRow 0 116 5 (.slice (some ⟨g, 0, none⟩) S.length c) S.length (thCells (S.set q t)) := by
  rw [thCells_setAll S q t hq]
  exact own_stored (own_stored (own_stored (own_stored (own_stored h _ _) _ _) _ _) _ _) _ _
theorem MRep.putAll {w : World} {m : Nat} {M : MS} {g : Nat} (h : MRep w m M) (hg : M.pt = some ⟨g, 0, none⟩) (q : Nat) (hq : q < M.things.length) (t : Th)
    (hnew : w.ownsRow 0 35 1 (.slice t.p t.slots.length t.c) t.slots.length (t.slots.map (Value.int .i64))) (hap : ∀ b ∈ blk t.p, b ∉ mslots M) :
    MRep (setTh w g q t) m { M with things := M.things.set q t } := by
  obtain ⟨n1, n2⟩ := h.pt_ne hg
  have hgt : g ∉ blk t.p := fun hb => by
    obtain ⟨c1, hc1⟩ := own_blk hnew g hb
    obtain ⟨c2, hc2⟩ := own_blk h.row g (by rw [hg]; simp [blk])
    rw [hc1] at hc2
    simp at hc2
  have hrow := h.row
  rw [hg] at hrow
  refine h.renew (M.things.set q t) M.pt M.ct t q (by simpa using hq) (fun i hi => getD_set M.things q i t hq) (fun i hi _ => by simpa using hi) ?_ ?_ (fun b hb => setTh_else (fun e => n2 (e ▸ hb))) (own_congr hnew fun b hb => setTh_else (fun e => hgt (e ▸ (blk_own _ _ _ _).1 hb))) hap
  · rw [setTh_else (fun e => n1 e.symm), h.top]
    simp [mcells]
  · rw [List.length_set, hg]
    exact setTh_row hrow hq
theorem MRep.drew {w : World} {m : Nat} {M : MS} (h : MRep w m M) : MRep w.drew m M := h.congr fun g _ => rfl
end Go.Proofs.YtdkbnnhcjaibdaaDoor

