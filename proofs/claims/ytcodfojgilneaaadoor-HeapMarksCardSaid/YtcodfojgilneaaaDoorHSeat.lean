import Derived.Test.YtcodfojgilneaaaDoorHAlloc
namespace Go.Proofs.YtcodfojgilneaaaDoor
open Go.RowKit
set_option linter.unusedVariables false
attribute [local go_sem ↓] Go.wp_at_zero Go.wp_at_succ
abbrev Seat := Nat × Nat × Nat
def sv (s : Nat × Nat × Nat) : Value := .agg #[I s.1, I s.2.1, I s.2.2]
def has (H : HS) (oop : Int) : Bool := decide (1 ≤ oop ∧ oop < H.seats.length ∧ (H.seats.getD oop.toNat (0, 0, 0)).2.1 ≠ 0)
theorem res_cells {w : World} {b : Nat} {x y z : Value} (h : w.heap[b]? = some (.cells #[x, y, z] 103 (0, 0))) : w.cell? ⟨b, 0, none⟩ = some x ∧ w.cell? ⟨b, 1, none⟩ = some y ∧ w.cell? ⟨b, 2, none⟩ = some z :=
  ⟨by rw [cell_in h]; rfl, by rw [cell_in h]; rfl, by rw [cell_in h]; rfl⟩
set_option maxRecDepth 20000 in
set_option maxHeartbeats 1000000 in
theorem seatOf_yes (oop : Nat) (a : Nat) (l : Lay) (H : HS) (w : World) (h : Rep w a l H) (h1 : (1 : Int) ≤ oop) (h2 : (oop : Int) < H.seats.length) (h3 : (H.seats.getD oop (0, 0, 0)).2.1 ≠ 0) :
    Calls Tryd.prog 70 #[.pointer (some ⟨a, 0, none⟩), .int .i64 oop] w fun e w' => e = .returned (.tuple #[sv (H.seats.getD oop (0, 0, 0)), .int .i64 0]) ∧ Fr [] w w' := by
  obtain ⟨gs, hgs, hcs, hfs, hgsa, hgsl⟩ := h.seatAt oop (by omega)
  obtain ⟨q0, q1, q2⟩ := hcs oop (by omega)
  have c0 := h.c0
  have c5 := h.c5
  rw [hgs] at c5
  have hal := h.lt a (by simp [foot])
  have n0 : (H.seats.length : Int) ≤ oop → False := by omega
  have hne : (((H.seats.getD oop (0, 0, 0)).2.1 : Int) == 0) = false := by simpa using h3
  have hSV : sv (H.seats.getD oop (0, 0, 0)) = .agg #[.int .i64 ((H.seats.getD oop (0, 0, 0)).1 : Int), .int .i64 ((H.seats.getD oop (0, 0, 0)).2.1 : Int), .int .i64 ((H.seats.getD oop (0, 0, 0)).2.2 : Int)] := rfl
  have HSV := mkHid hSV
  simp only [I] at q0 q1 q2
  clear h hcs hfs h3 hSV
  generalize hy : sv (H.seats.getD oop (0, 0, 0)) = yy at *
  clear hy
  generalize (H.seats.getD oop (0, 0, 0)).1 = y0 at *
  generalize (H.seats.getD oop (0, 0, 0)).2.1 = y1 at *
  generalize (H.seats.getD oop (0, 0, 0)).2.2 = y2 at *
  generalize H.seats.length = sn at *
  have m0 : (0 : Int) ≤ (oop : Int) := by omega
  have hm : Calls Tryd.prog 44 #[.pointer (some ⟨a, 0, none⟩)] (w.alloc (.cells #[.int .i64 0, .int .i64 0, .int .i64 0] 103)) fun e w' => e = .returned (.bool true) ∧ w' = (w.alloc (.cells #[.int .i64 0, .int .i64 0, .int .i64 0] 103)) := made_any a _ ((World.cell?_alloc_lt w _ _ hal).trans c0)
  have HM := mkHid hm
  clear hm
  go_enter Tryd.func70, Tryd.ntmps70
  go_wp2_with (go_at_call 44; refine Calls.mono HM.out ?_; rintro e w' ⟨rfl, rfl⟩)
  have x := heap_alloc_new w (.cells #[.int .i64 y0, .int .i64 y1, .int .i64 y2] 103)
  refine bodyPost_ret (v := .tuple #[yy, .int .i64 0]) (by rw [HSV.out]; simp [results, Tryd.results70, go_sem]) rfl ⟨rfl, Fr.alloc _ _ _⟩
set_option maxRecDepth 20000 in
set_option maxHeartbeats 1000000 in
theorem seatOf_no (oop : Int) (a : Nat) (l : Lay) (H : HS) (w : World) (h : Rep w a l H) (hh : has H oop = false) :
    Calls Tryd.prog 70 #[.pointer (some ⟨a, 0, none⟩), .int .i64 oop] w fun e w' => e = .returned (.tuple #[sv (0, 0, 0), .int .i64 20]) ∧ Fr [] w w' := by
  have c0 := h.c0
  have c5 := h.c5
  have hal := h.lt a (by simp [foot])
  have HM := mkHid (made_any a _ ((World.cell?_alloc_lt w (.cells #[.int .i64 0, .int .i64 0, .int .i64 0] 103) _ hal).trans c0))
  have hSV : sv (0, 0, 0) = .agg #[.int .i64 0, .int .i64 0, .int .i64 0] := rfl
  have HSV := mkHid hSV
  clear hSV
  by_cases h1 : oop < 1
  · clear h hh
    generalize sv (0, 0, 0) = yy at *
    go_enter Tryd.func70, Tryd.ntmps70
    go_wp2_with (go_at_call 44; refine Calls.mono HM.out ?_; rintro e w' ⟨rfl, rfl⟩)
    refine bodyPost_ret (v := .tuple #[yy, .int .i64 20]) (by rw [HSV.out]; simp [results, Tryd.results70, go_sem]) rfl ⟨rfl, Fr.alloc _ _ _⟩
  · obtain ⟨k, rfl⟩ : ∃ k : Nat, oop = k := ⟨oop.toNat, by omega⟩
    by_cases h2 : H.seats.length ≤ k
    · have h2' : (H.seats.length : Int) ≤ (k : Int) := by omega
      clear h hh
      generalize H.seats.length = sn at *
      generalize sv (0, 0, 0) = yy at *
      go_enter Tryd.func70, Tryd.ntmps70
      go_wp2_with (go_at_call 44; refine Calls.mono HM.out ?_; rintro e w' ⟨rfl, rfl⟩)
      refine bodyPost_ret (v := .tuple #[yy, .int .i64 20]) (by rw [HSV.out]; simp [results, Tryd.results70, go_sem]) rfl ⟨rfl, Fr.alloc _ _ _⟩
    · obtain ⟨gs, hgs, hcs, hfs, hgsa, hgsl⟩ := h.seatAt k (by omega)
      obtain ⟨q0, q1, q2⟩ := hcs k (by omega)
      rw [hgs] at c5
      have h3 : (H.seats.getD k (0, 0, 0)).2.1 = 0 := by
        unfold has at hh
        have := of_decide_eq_false hh
        simp only [Int.toNat_natCast] at this
        have hx : 1 ≤ (k : Int) ∧ (k : Int) < H.seats.length := by omega
        by_cases hq : (H.seats.getD k (0, 0, 0)).2.1 = 0
        · exact hq
        · exact absurd ⟨hx.1, hx.2, hq⟩ this
      rw [h3] at q1
      simp only [I] at q1
      have h2' : (k : Int) < (H.seats.length : Int) := by omega
      have m0 : (0 : Int) ≤ (k : Int) := by omega
      clear h hh hcs hfs q0 q2 h3
      generalize H.seats.length = sn at *
      generalize sv (0, 0, 0) = yy at *
      go_enter Tryd.func70, Tryd.ntmps70
      go_wp2_with (go_at_call 44; refine Calls.mono HM.out ?_; rintro e w' ⟨rfl, rfl⟩)
      refine bodyPost_ret (v := .tuple #[yy, .int .i64 20]) (by rw [HSV.out]; simp [results, Tryd.results70, go_sem]) rfl ⟨rfl, Fr.alloc _ _ _⟩
theorem and1 (n : Int) : Go.bits .and .i64 n 1 = n % 2 := by
  unfold Go.bits
  simp only [BitVec.toNat_and, BitVec.toNat_ofInt]
  rw [iwrap]
  have e : ((1 : Int) % ((2 ^ IntKind.i64.bits : Nat) : Int)).toNat = 2 ^ 1 - 1 := by decide
  rw [e, Nat.and_two_pow_sub_one_eq_mod]
  have e2 : ((2 ^ IntKind.i64.bits : Nat) : Int) = 18446744073709551616 := by decide
  rw [e2]
  unfold wrap64
  omega
set_option maxRecDepth 20000 in
set_option maxHeartbeats 1000000 in
theorem shape_of (s : Nat × Nat × Nat) (v : Nat) (a : Nat) (l : Lay) (H : HS) (w : World) (h : Rep w a l H) (h1 : s.1 + 1 < H.mem.length) (h2 : H.mem.getD (s.1 + 1) 0 = (v : Int)) (hb : (H.mem.length : Int) ≤ 1048576) :
    Calls Tryd.prog 71 #[.pointer (some ⟨a, 0, none⟩), sv s] w fun e w' => e = .returned (.tuple #[I (v / 2), I (v % 2)]) ∧ Fr [] w w' := by
  obtain ⟨g, hg, hcg, hfg, hga, hgl⟩ := h.memBlock (by omega)
  have q := hcg (s.1 + 1) h1
  rw [h2] at q
  have c4 := h.c4
  rw [hg] at c4
  have hal := h.lt a (by simp [foot])
  have k1 : (s.1 : Int) + 1 < (H.mem.length : Int) := by omega
  have k2 : (0 : Int) ≤ (s.1 : Int) + 1 := by omega
  have k3 : IntKind.i64.wrap ((s.1 : Int) + 1) = (s.1 : Int) + 1 := by rw [iwrap]; unfold wrap64; omega
  have ha := and1 v
  clear h hcg hfg h1 h2
  obtain ⟨p, L, t⟩ := s
  dsimp only [sv, I] at *
  generalize H.mem.length = m at *
  go_enter Tryd.func71, Tryd.ntmps71
  go_wp2
  go_quiet (fail)
  go_wp2
  go_ret2
  exact ⟨ret2 (by omega) (by omega), (Fr.alloc [] w _).trans (Fr.drewN [] _ _) (by simp)⟩
def mayB (v f : Int) : Bool := if f = 1 then decide (0 ≤ v ∧ v ≤ 255) else isW v
set_option maxHeartbeats 400000 in
theorem mayStand_any (v f : Int) (w : World) (hT : Tab w) :
    Calls Tryd.prog 72 #[.int .i64 v, .int .i64 f] w fun e w' => e = .returned (.bool (mayB v f)) ∧ w' = w := by
  by_cases hf : f = 1
  · subst hf
    by_cases h0 : 0 ≤ v
    · have hi : Hid (mayB v 1 = decide (v ≤ 255)) := by unfold mayB Hid; simp [h0]
      clear hT
      go_enter Tryd.func72, Tryd.ntmps72
      go_wp2
      go_ret
      exact ⟨ret_bool hi.out.symm, rfl⟩
    · have hi : Hid (mayB v 1 = false) := by unfold mayB Hid; simp [h0]
      clear hT
      go_enter Tryd.func72, Tryd.ntmps72
      go_wp2
      go_ret
      exact ⟨ret_bool hi.out.symm, rfl⟩
  · have hi : Hid (mayB v f = isW v) := by unfold mayB Hid; simp [hf]
    have hb : (f == 1) = false := by simpa using hf
    have HW := mkHid (isWord_any v w hT)
    clear hf hT
    generalize isW v = q at *
    go_enter Tryd.func72, Tryd.ntmps72
    go_wp2_with (go_at_call 48; refine Calls.mono HW.out ?_; rintro e w' ⟨rfl, rfl⟩)
    go_ret
    exact ⟨ret_bool hi.out.symm, rfl⟩
set_option maxHeartbeats 400000 in
theorem byteAt_any (s : Nat × Nat × Nat) (i : Nat) (w : World) (h0 : (s.1 : Int) ≤ 1048576) (h1 : (i : Int) ≤ 1048576) :
    Calls Tryd.prog 107 #[sv s, .int .i64 i] w fun e w' => e = .returned (.tuple #[I (s.1 + 2 + i / 4), I (i % 4 * 8)]) ∧ Fr [] w w' := by
  obtain ⟨p, L, t⟩ := s
  dsimp only [sv, I] at *
  go_enter Tryd.func107, Tryd.ntmps107
  go_wp2
  go_ret2
  exact ⟨ret2 (by omega) (by omega), Fr.alloc _ _ _⟩
end Go.Proofs.YtcodfojgilneaaaDoor
