import Derived.Test.YtdflpoldlokijaaDoorG02CRep
namespace Go.Proofs.YtdflpoldlokijaaDoor
open Go.RowKit
set_option linter.unusedVariables false
set_option linter.unusedSimpArgs false
attribute [local go_sem ↓] Go.wp_at_zero Go.wp_at_succ
section
variable {w : World} {B a : Nat} {C : Cx} {wv : Value} {sc : List Nat} {ps : Option Addr} {cs : Nat} {pls : List Pl} {pp : Option Addr} {k : Nat}
set_option maxHeartbeats 400000 in
theorem blocks_ok (h : RR w B a C wv sc ps cs pls pp k) : Calls Tryd.prog 64 #[.pointer (some ⟨a, 0, none⟩)] w fun e w' => e = .returned (.int .i64 ((sc.length : Int) - 1)) ∧ w' = w := by
  obtain ⟨-, -, -, -, -, -, c6, -, -⟩ := h.cells
  have h1 := h.sc1
  have h2 := h.scn
  clear h
  go_enter Tryd.func64, Tryd.ntmps64
  go_wp2_with fail
  go_ret
  exact ⟨rfl, rfl⟩
set_option maxHeartbeats 1000000 in
theorem mayStand_ok (h : RR w B a C wv sc ps cs pls pp k) (op : Nat) : Calls Tryd.prog 62 #[.pointer (some ⟨a, 0, none⟩), .int .i64 op] w fun e w' => e = .returned (.bool (mayP sc op)) ∧ w' = w := by
  have HBk := mkHid (blocks_ok h)
  have h1 := h.sc1
  have h2 := h.scn
  clear h
  by_cases e20 : op = 20
  · subst e20
    have HB : Hid (mayP sc 20 = decide (sc.length = 1)) := mkHid rfl
    by_cases e1 : sc.length = 1
    · have d1 : ((sc.length : Int) - 1 == 0) = true := beq_iff_eq.2 (by omega)
      have HB2 : Hid (mayP sc 20 = true) := by show mayP sc 20 = true; rw [HB.out]; exact decide_eq_true e1
      clear e1
      go_enter Tryd.func62, Tryd.ntmps62
      go_wp2_with (go_at_call 64; refine Calls.mono HBk.out ?_; rintro e w' ⟨rfl, hw'⟩; rw [hw']; clear hw' w')
      go_ret
      exact ⟨by rw [HB2.out]; rfl, rfl⟩
    · have d1 : ((sc.length : Int) - 1 == 0) = false := beq_eq_false_iff_ne.2 (by omega)
      have HB2 : Hid (mayP sc 20 = false) := by show mayP sc 20 = false; rw [HB.out]; exact decide_eq_false e1
      clear e1
      go_enter Tryd.func62, Tryd.ntmps62
      go_wp2_with (go_at_call 64; refine Calls.mono HBk.out ?_; rintro e w' ⟨rfl, hw'⟩; rw [hw']; clear hw' w')
      go_ret
      exact ⟨by rw [HB2.out]; rfl, rfl⟩
  · have q20 : ((op : Int) == 20) = false := beq_eq_false_iff_ne.2 (by omega)
    by_cases e2 : op = 21 ∨ op = 22
    · have HB : Hid (mayP sc op = decide (1 < sc.length)) := by show mayP sc op = _; unfold mayP; rw [if_neg e20, if_pos e2]
      by_cases e1 : 1 < sc.length
      · have HB2 : Hid (mayP sc op = true) := by show mayP sc op = true; rw [HB.out]; exact decide_eq_true e1
        have d1 : decide ((1 : Int) < (sc.length : Int)) = true := decide_eq_true (by omega)
        rcases e2 with rfl | rfl
        all_goals clear e20 q20 e1
        all_goals go_enter Tryd.func62, Tryd.ntmps62
        all_goals go_wp2_with (go_at_call 64; refine Calls.mono HBk.out ?_; rintro e w' ⟨rfl, hw'⟩; rw [hw']; clear hw' w')
        all_goals go_ret
        all_goals exact ⟨by rw [HB2.out]; rfl, rfl⟩
      · have HB2 : Hid (mayP sc op = false) := by show mayP sc op = false; rw [HB.out]; exact decide_eq_false e1
        have d1 : decide ((1 : Int) < (sc.length : Int)) = false := decide_eq_false (by omega)
        rcases e2 with rfl | rfl
        all_goals clear e20 q20 e1
        all_goals go_enter Tryd.func62, Tryd.ntmps62
        all_goals go_wp2_with (go_at_call 64; refine Calls.mono HBk.out ?_; rintro e w' ⟨rfl, hw'⟩; rw [hw']; clear hw' w')
        all_goals go_ret
        all_goals exact ⟨by rw [HB2.out]; rfl, rfl⟩
    · have HB : Hid (mayP sc op = true) := by show mayP sc op = _; unfold mayP; rw [if_neg e20, if_neg e2]
      have q21 : ((op : Int) == 21) = false := beq_eq_false_iff_ne.2 (by omega)
      have q22 : ((op : Int) == 22) = false := beq_eq_false_iff_ne.2 (by omega)
      clear e20 e2
      go_enter Tryd.func62, Tryd.ntmps62
      go_wp2_with (go_at_call 64; fail)
      go_ret
      exact ⟨by rw [HB.out]; rfl, rfl⟩
set_option maxHeartbeats 2000000 in
theorem isSlot_ok (h : RR w B a C wv sc ps cs pls pp k) (o s : Int) : Calls Tryd.prog 73 #[.pointer (some ⟨a, 0, none⟩), .int .i64 o, .int .i64 s] w fun e w' => e = .returned (.bool (isSlotP sc o s)) ∧ ∃ n, w' = w.drewN n := by
  have HBk : Hid (∀ x, Calls Tryd.prog 64 #[.pointer (some ⟨a, 0, none⟩)] (w.drewN x) fun e w' => e = .returned (.int .i64 ((sc.length : Int) - 1)) ∧ w' = w.drewN x) := fun x => blocks_ok (h.idle (Fr.drewN [] w x))
  have HW : Hid (∀ x, Calls Tryd.prog 22 #[.int .i64 o, .int .i64 0, .int .i64 ((sc.length : Int) - 1)] (w.drewN x) fun e w' => e = .returned (.bool (inR o 0 ((sc.length : Int) - 1))) ∧ w' = w.drewN x) := fun x => within_ok _ _ _ _
  obtain ⟨-, -, -, -, -, -, c6, -, -⟩ := h.cells
  obtain ⟨g, rfl, -, hcs, hsc⟩ := h.scope
  have h1 := h.sc1
  have h2 := h.scn
  have HF := mkHid (fun n => Fr.drewN [] w n)
  by_cases ho : 0 ≤ o ∧ o ≤ (sc.length : Int) - 1
  · have hb : inR o 0 ((sc.length : Int) - 1) = true := by simp [inR, ho.1, ho.2]
    rw [hb] at HW
    obtain ⟨m, rfl⟩ := Int.eq_ofNat_of_zero_le ho.1
    have HR : Hid (isSlotP sc m s = bel s (sc.getD (sc.length - 1 - m) 0)) := by
      show isSlotP sc m s = _
      unfold isSlotP
      rw [hb, Int.toNat_natCast]; rfl
    have x1 := hsc (sc.length - 1 - m) (by omega)
    generalize hj : sc.length - 1 - m = j at *
    have hjm : (sc.length : Int) - 1 - (m : Int) = (j : Int) := by omega
    have hjw : IntKind.i64.wrap ((sc.length : Int) - 1 - (m : Int)) = (j : Int) := by rw [hjm]; exact iwrap_id (by omega) (by omega)
    have hj1 : (0 : Int) ≤ (j : Int) := by omega
    have hj2 : (j : Int) < (sc.length : Int) := by omega
    generalize sc.getD j 0 = u at *
    simp only [I] at x1
    have HBe : Hid (∀ x, Calls Tryd.prog 65 #[.int .i64 s, .int .i64 u] (w.drewN x) fun e w' => e = .returned (.bool (bel s u)) ∧ w' = w.drewN x) := fun x => below_ok _ _ _
    generalize bel s u = bb at *
    have HJ := mkHid hj
    clear h hsc hb ho hj hjm
    go_enter Tryd.func73, Tryd.ntmps73
    go_wp2_with fail
    go_quiet (first
      | (go_at_call 64; refine (HBk.out _).mono ?_; rintro e w'' ⟨rfl, rfl⟩; exact ⟨rfl, _, rfl⟩)
      | (go_at_call 22; refine (HW.out _).mono ?_; rintro e w'' ⟨rfl, rfl⟩; exact ⟨rfl, _, rfl⟩)
      | (go_at_call 65; refine (HBe.out _).mono ?_; rintro e w'' ⟨rfl, rfl⟩; exact ⟨rfl, _, rfl⟩))
    go_wp2_with fail
    go_ret
    exact ⟨by rw [HR.out]; rfl, _, rfl⟩
  · have hb : inR o 0 ((sc.length : Int) - 1) = false := by
      unfold inR
      by_cases h3 : 0 ≤ o
      · simp [h3]; omega
      · simp [h3]
    rw [hb] at HW
    have HR : Hid (isSlotP sc o s = false) := by
      show isSlotP sc o s = _
      unfold isSlotP
      rw [hb]; rfl
    clear h hsc hb ho
    go_enter Tryd.func73, Tryd.ntmps73
    go_wp2_with fail
    go_quiet (first
      | (go_at_call 64; refine (HBk.out _).mono ?_; rintro e w'' ⟨rfl, rfl⟩; exact ⟨rfl, _, rfl⟩)
      | (go_at_call 22; refine (HW.out _).mono ?_; rintro e w'' ⟨rfl, rfl⟩; exact ⟨rfl, _, rfl⟩))
    go_wp2_with fail
    go_ret
    exact ⟨by rw [HR.out]; rfl, _, rfl⟩
end
end Go.Proofs.YtdflpoldlokijaaDoor
namespace Go.Proofs.YtdflpoldlokijaaDoor
open Go.RowKit
set_option linter.unusedVariables false
set_option linter.unusedSimpArgs false
attribute [local go_sem ↓] Go.wp_at_zero Go.wp_at_succ
section
variable {w : World} {B a : Nat} {C : Cx} {wv : Value} {sc : List Nat} {ps : Option Addr} {cs : Nat} {pls : List Pl} {pp : Option Addr} {k : Nat}
set_option maxHeartbeats 2000000 in
theorem fit5 (h : RR w B a C wv sc ps cs pls pp k) (g off cx : Nat) (x y z : Int) (h0 : w.cell? ⟨g, off, none⟩ = some (.int .i64 x)) : Calls Tryd.prog 63 #[.pointer (some ⟨a, 0, none⟩), .int .i64 5, .slice (some ⟨g, off, none⟩) 1 cx] w fun e w' => e = .returned (.bool (fitP C.b C.lits sc 5 x y z)) ∧ ∃ n, w' = w.drewN n := by
  obtain ⟨c0, c1, c2, c3, c4, c5, c6, c7, c8⟩ := h.cells
  simp only [I] at c1
  have HR : Hid (fitP C.b C.lits sc 5 x y z = inR x (-1073741824) 1073741823) := mkHid rfl
  have H1 := mkHid (within_ok x (-1073741824) 1073741823 w)
  generalize inR x (-1073741824) 1073741823 = bb at *
  clear h
  go_enter Tryd.func63, Tryd.ntmps63
  go_wp2_with (go_at_call 22; refine Calls.mono H1.out ?_; rintro e w' ⟨rfl, hw'⟩; rw [hw']; clear hw' w')
  go_ret
  exact ⟨by rw [HR.out]; rfl, 0, rfl⟩
set_option maxHeartbeats 2000000 in
theorem fit6 (h : RR w B a C wv sc ps cs pls pp k) (g off cx : Nat) (x y z : Int) (h0 : w.cell? ⟨g, off, none⟩ = some (.int .i64 x)) : Calls Tryd.prog 63 #[.pointer (some ⟨a, 0, none⟩), .int .i64 6, .slice (some ⟨g, off, none⟩) 1 cx] w fun e w' => e = .returned (.bool (fitP C.b C.lits sc 6 x y z)) ∧ ∃ n, w' = w.drewN n := by
  obtain ⟨c0, c1, c2, c3, c4, c5, c6, c7, c8⟩ := h.cells
  simp only [I] at c1
  have HR : Hid (fitP C.b C.lits sc 6 x y z = bel x C.lits) := mkHid rfl
  have H1 : Hid (∀ q, Calls Tryd.prog 65 #[.int .i64 x, .int .i64 C.lits] (w.drewN q) fun e w' => e = .returned (.bool (bel x C.lits)) ∧ w' = w.drewN q) := fun q => below_ok _ _ _
  generalize bel x C.lits = bb at *
  clear h
  go_enter Tryd.func63, Tryd.ntmps63
  go_wp2_with fail
  go_quiet (first
    | (go_at_call 65; refine (H1.out _).mono ?_; rintro e w'' ⟨rfl, rfl⟩; exact ⟨rfl, _, rfl⟩))
  go_wp2_with fail
  go_ret
  exact ⟨by rw [HR.out]; rfl, _, rfl⟩
set_option maxHeartbeats 2000000 in
theorem fit7 (h : RR w B a C wv sc ps cs pls pp k) (g off cx : Nat) (x y z : Int) (h0 : w.cell? ⟨g, off, none⟩ = some (.int .i64 x)) : Calls Tryd.prog 63 #[.pointer (some ⟨a, 0, none⟩), .int .i64 7, .slice (some ⟨g, off, none⟩) 1 cx] w fun e w' => e = .returned (.bool (fitP C.b C.lits sc 7 x y z)) ∧ ∃ n, w' = w.drewN n := by
  obtain ⟨c0, c1, c2, c3, c4, c5, c6, c7, c8⟩ := h.cells
  simp only [I] at c1
  have HR : Hid (fitP C.b C.lits sc 7 x y z = bel x C.b.symbols) := mkHid rfl
  have H1 : Hid (∀ q, Calls Tryd.prog 65 #[.int .i64 x, .int .i64 C.b.symbols] (w.drewN q) fun e w' => e = .returned (.bool (bel x C.b.symbols)) ∧ w' = w.drewN q) := fun q => below_ok _ _ _
  generalize bel x C.b.symbols = bb at *
  clear h
  go_enter Tryd.func63, Tryd.ntmps63
  go_wp2_with fail
  go_quiet (first
    | (go_at_call 65; refine (H1.out _).mono ?_; rintro e w'' ⟨rfl, rfl⟩; exact ⟨rfl, _, rfl⟩))
  go_wp2_with fail
  go_ret
  exact ⟨by rw [HR.out]; rfl, _, rfl⟩
set_option maxHeartbeats 2000000 in
theorem fit8 (h : RR w B a C wv sc ps cs pls pp k) (g off cx : Nat) (x y z : Int) (h0 : w.cell? ⟨g, off, none⟩ = some (.int .i64 x)) : Calls Tryd.prog 63 #[.pointer (some ⟨a, 0, none⟩), .int .i64 8, .slice (some ⟨g, off, none⟩) 1 cx] w fun e w' => e = .returned (.bool (fitP C.b C.lits sc 8 x y z)) ∧ ∃ n, w' = w.drewN n := by
  obtain ⟨c0, c1, c2, c3, c4, c5, c6, c7, c8⟩ := h.cells
  simp only [I] at c1
  have HR : Hid (fitP C.b C.lits sc 8 x y z = inR x 1 C.b.classes) := mkHid rfl
  have H1 : Hid (∀ q, Calls Tryd.prog 22 #[.int .i64 x, .int .i64 1, .int .i64 C.b.classes] (w.drewN q) fun e w' => e = .returned (.bool (inR x 1 C.b.classes)) ∧ w' = w.drewN q) := fun q => within_ok _ _ _ _
  generalize inR x 1 C.b.classes = bb at *
  clear h
  go_enter Tryd.func63, Tryd.ntmps63
  go_wp2_with fail
  go_quiet (first
    | (go_at_call 22; refine (H1.out _).mono ?_; rintro e w'' ⟨rfl, rfl⟩; exact ⟨rfl, _, rfl⟩))
  go_wp2_with fail
  go_ret
  exact ⟨by rw [HR.out]; rfl, _, rfl⟩
set_option maxHeartbeats 2000000 in
theorem fit9 (h : RR w B a C wv sc ps cs pls pp k) (g off cx : Nat) (x y z : Int) (h0 : w.cell? ⟨g, off, none⟩ = some (.int .i64 x)) : Calls Tryd.prog 63 #[.pointer (some ⟨a, 0, none⟩), .int .i64 9, .slice (some ⟨g, off, none⟩) 1 cx] w fun e w' => e = .returned (.bool (fitP C.b C.lits sc 9 x y z)) ∧ ∃ n, w' = w.drewN n := by
  obtain ⟨c0, c1, c2, c3, c4, c5, c6, c7, c8⟩ := h.cells
  simp only [I] at c1
  have HR : Hid (fitP C.b C.lits sc 9 x y z = bel x C.b.fields) := mkHid rfl
  have H1 : Hid (∀ q, Calls Tryd.prog 65 #[.int .i64 x, .int .i64 C.b.fields] (w.drewN q) fun e w' => e = .returned (.bool (bel x C.b.fields)) ∧ w' = w.drewN q) := fun q => below_ok _ _ _
  generalize bel x C.b.fields = bb at *
  clear h
  go_enter Tryd.func63, Tryd.ntmps63
  go_wp2_with fail
  go_quiet (first
    | (go_at_call 65; refine (H1.out _).mono ?_; rintro e w'' ⟨rfl, rfl⟩; exact ⟨rfl, _, rfl⟩))
  go_wp2_with fail
  go_ret
  exact ⟨by rw [HR.out]; rfl, _, rfl⟩
end
end Go.Proofs.YtdflpoldlokijaaDoor
namespace Go.Proofs.YtdflpoldlokijaaDoor
open Go.RowKit
set_option linter.unusedVariables false
set_option linter.unusedSimpArgs false
attribute [local go_sem ↓] Go.wp_at_zero Go.wp_at_succ
section
variable {w : World} {B a : Nat} {C : Cx} {wv : Value} {sc : List Nat} {ps : Option Addr} {cs : Nat} {pls : List Pl} {pp : Option Addr} {k : Nat}
set_option maxHeartbeats 2000000 in
theorem fit12 (h : RR w B a C wv sc ps cs pls pp k) (g off cx : Nat) (x y z : Int) (h0 : w.cell? ⟨g, off, none⟩ = some (.int .i64 x)) : Calls Tryd.prog 63 #[.pointer (some ⟨a, 0, none⟩), .int .i64 12, .slice (some ⟨g, off, none⟩) 1 cx] w fun e w' => e = .returned (.bool (fitP C.b C.lits sc 12 x y z)) ∧ ∃ n, w' = w.drewN n := by
  obtain ⟨c0, c1, c2, c3, c4, c5, c6, c7, c8⟩ := h.cells
  simp only [I] at c1
  have HR : Hid (fitP C.b C.lits sc 12 x y z = bel x C.b.fields) := mkHid rfl
  have H1 : Hid (∀ q, Calls Tryd.prog 65 #[.int .i64 x, .int .i64 C.b.fields] (w.drewN q) fun e w' => e = .returned (.bool (bel x C.b.fields)) ∧ w' = w.drewN q) := fun q => below_ok _ _ _
  generalize bel x C.b.fields = bb at *
  clear h
  go_enter Tryd.func63, Tryd.ntmps63
  go_wp2_with fail
  go_quiet (first
    | (go_at_call 65; refine (H1.out _).mono ?_; rintro e w'' ⟨rfl, rfl⟩; exact ⟨rfl, _, rfl⟩))
  go_wp2_with fail
  go_ret
  exact ⟨by rw [HR.out]; rfl, _, rfl⟩
set_option maxHeartbeats 2000000 in
theorem fit11 (h : RR w B a C wv sc ps cs pls pp k) (g off cx : Nat) (x y z : Int) (h0 : w.cell? ⟨g, off, none⟩ = some (.int .i64 x)) : Calls Tryd.prog 63 #[.pointer (some ⟨a, 0, none⟩), .int .i64 11, .slice (some ⟨g, off, none⟩) 1 cx] w fun e w' => e = .returned (.bool (fitP C.b C.lits sc 11 x y z)) ∧ ∃ n, w' = w.drewN n := by
  obtain ⟨c0, c1, c2, c3, c4, c5, c6, c7, c8⟩ := h.cells
  simp only [I] at c1
  have HR : Hid (fitP C.b C.lits sc 11 x y z = bel x C.b.globals) := mkHid rfl
  have H1 : Hid (∀ q, Calls Tryd.prog 65 #[.int .i64 x, .int .i64 C.b.globals] (w.drewN q) fun e w' => e = .returned (.bool (bel x C.b.globals)) ∧ w' = w.drewN q) := fun q => below_ok _ _ _
  generalize bel x C.b.globals = bb at *
  clear h
  go_enter Tryd.func63, Tryd.ntmps63
  go_wp2_with fail
  go_quiet (first
    | (go_at_call 65; refine (H1.out _).mono ?_; rintro e w'' ⟨rfl, rfl⟩; exact ⟨rfl, _, rfl⟩))
  go_wp2_with fail
  go_ret
  exact ⟨by rw [HR.out]; rfl, _, rfl⟩
set_option maxHeartbeats 2000000 in
theorem fit14 (h : RR w B a C wv sc ps cs pls pp k) (g off cx : Nat) (x y z : Int) (h0 : w.cell? ⟨g, off, none⟩ = some (.int .i64 x)) : Calls Tryd.prog 63 #[.pointer (some ⟨a, 0, none⟩), .int .i64 14, .slice (some ⟨g, off, none⟩) 1 cx] w fun e w' => e = .returned (.bool (fitP C.b C.lits sc 14 x y z)) ∧ ∃ n, w' = w.drewN n := by
  obtain ⟨c0, c1, c2, c3, c4, c5, c6, c7, c8⟩ := h.cells
  simp only [I] at c1
  have HR : Hid (fitP C.b C.lits sc 14 x y z = bel x C.b.globals) := mkHid rfl
  have H1 : Hid (∀ q, Calls Tryd.prog 65 #[.int .i64 x, .int .i64 C.b.globals] (w.drewN q) fun e w' => e = .returned (.bool (bel x C.b.globals)) ∧ w' = w.drewN q) := fun q => below_ok _ _ _
  generalize bel x C.b.globals = bb at *
  clear h
  go_enter Tryd.func63, Tryd.ntmps63
  go_wp2_with fail
  go_quiet (first
    | (go_at_call 65; refine (H1.out _).mono ?_; rintro e w'' ⟨rfl, rfl⟩; exact ⟨rfl, _, rfl⟩))
  go_wp2_with fail
  go_ret
  exact ⟨by rw [HR.out]; rfl, _, rfl⟩
set_option maxHeartbeats 2000000 in
theorem fit10 (h : RR w B a C wv sc ps cs pls pp k) (g off cx : Nat) (x y z : Int) (h0 : w.cell? ⟨g, off, none⟩ = some (.int .i64 x)) (h1 : w.cell? ⟨g, off + 1, none⟩ = some (.int .i64 y)) : Calls Tryd.prog 63 #[.pointer (some ⟨a, 0, none⟩), .int .i64 10, .slice (some ⟨g, off, none⟩) 2 cx] w fun e w' => e = .returned (.bool (fitP C.b C.lits sc 10 x y z)) ∧ ∃ n, w' = w.drewN n := by
  obtain ⟨c0, c1, c2, c3, c4, c5, c6, c7, c8⟩ := h.cells
  simp only [I] at c1
  have HR : Hid (fitP C.b C.lits sc 10 x y z = isSlotP sc x y) := mkHid rfl
  have H1 : Hid (∀ q, Calls Tryd.prog 73 #[.pointer (some ⟨a, 0, none⟩), .int .i64 x, .int .i64 y] (w.drewN q) fun e w' => e = .returned (.bool (isSlotP sc x y)) ∧ ∃ n, w' = w.drewN n) := fun q => (isSlot_ok (h.idle (Fr.drewN [] w q)) x y).mono (by rintro e w' ⟨rfl, n, rfl⟩; exact ⟨rfl, q + n, by rw [World.drewN_drewN]⟩)
  generalize isSlotP sc x y = bb at *
  clear h
  go_enter Tryd.func63, Tryd.ntmps63
  go_wp2_with fail
  go_quiet (first
    | (go_at_call 73; refine (H1.out _).mono ?_; rintro e w'' ⟨rfl, n, rfl⟩; exact ⟨rfl, _, rfl⟩))
  go_wp2_with fail
  go_ret
  exact ⟨by rw [HR.out]; rfl, _, rfl⟩
set_option maxHeartbeats 2000000 in
theorem fit13 (h : RR w B a C wv sc ps cs pls pp k) (g off cx : Nat) (x y z : Int) (h0 : w.cell? ⟨g, off, none⟩ = some (.int .i64 x)) (h1 : w.cell? ⟨g, off + 1, none⟩ = some (.int .i64 y)) : Calls Tryd.prog 63 #[.pointer (some ⟨a, 0, none⟩), .int .i64 13, .slice (some ⟨g, off, none⟩) 2 cx] w fun e w' => e = .returned (.bool (fitP C.b C.lits sc 13 x y z)) ∧ ∃ n, w' = w.drewN n := by
  obtain ⟨c0, c1, c2, c3, c4, c5, c6, c7, c8⟩ := h.cells
  simp only [I] at c1
  have HR : Hid (fitP C.b C.lits sc 13 x y z = isSlotP sc x y) := mkHid rfl
  have H1 : Hid (∀ q, Calls Tryd.prog 73 #[.pointer (some ⟨a, 0, none⟩), .int .i64 x, .int .i64 y] (w.drewN q) fun e w' => e = .returned (.bool (isSlotP sc x y)) ∧ ∃ n, w' = w.drewN n) := fun q => (isSlot_ok (h.idle (Fr.drewN [] w q)) x y).mono (by rintro e w' ⟨rfl, n, rfl⟩; exact ⟨rfl, q + n, by rw [World.drewN_drewN]⟩)
  generalize isSlotP sc x y = bb at *
  clear h
  go_enter Tryd.func63, Tryd.ntmps63
  go_wp2_with fail
  go_quiet (first
    | (go_at_call 73; refine (H1.out _).mono ?_; rintro e w'' ⟨rfl, n, rfl⟩; exact ⟨rfl, _, rfl⟩))
  go_wp2_with fail
  go_ret
  exact ⟨by rw [HR.out]; rfl, _, rfl⟩
end
end Go.Proofs.YtdflpoldlokijaaDoor
namespace Go.Proofs.YtdflpoldlokijaaDoor
open Go.RowKit
set_option linter.unusedVariables false
set_option linter.unusedSimpArgs false
attribute [local go_sem ↓] Go.wp_at_zero Go.wp_at_succ
section
variable {w : World} {B a : Nat} {C : Cx} {wv : Value} {sc : List Nat} {ps : Option Addr} {cs : Nat} {pls : List Pl} {pp : Option Addr} {k : Nat}
set_option maxHeartbeats 2000000 in
theorem fit27 (h : RR w B a C wv sc ps cs pls pp k) (g off cx : Nat) (x y z : Int) (h0 : w.cell? ⟨g, off, none⟩ = some (.int .i64 x)) (h1 : w.cell? ⟨g, off + 1, none⟩ = some (.int .i64 y)) : Calls Tryd.prog 63 #[.pointer (some ⟨a, 0, none⟩), .int .i64 27, .slice (some ⟨g, off, none⟩) 2 cx] w fun e w' => e = .returned (.bool (fitP C.b C.lits sc 27 x y z)) ∧ ∃ n, w' = w.drewN n := by
  obtain ⟨c0, c1, c2, c3, c4, c5, c6, c7, c8⟩ := h.cells
  simp only [I] at c1
  have HR : Hid (fitP C.b C.lits sc 27 x y z = isSlotP sc 0 x) := mkHid rfl
  have H1 := mkHid (isSlot_ok h 0 x)
  generalize isSlotP sc 0 x = bb at *
  clear h
  go_enter Tryd.func63, Tryd.ntmps63
  go_wp2_with (go_at_call 73; refine Calls.mono H1.out ?_; rintro e w' ⟨rfl, n, rfl⟩)
  go_ret
  exact ⟨by rw [HR.out]; rfl, _, rfl⟩
set_option maxHeartbeats 2000000 in
theorem fit28 (h : RR w B a C wv sc ps cs pls pp k) (g off cx : Nat) (x y z : Int) (h0 : w.cell? ⟨g, off, none⟩ = some (.int .i64 x)) (h1 : w.cell? ⟨g, off + 1, none⟩ = some (.int .i64 y)) : Calls Tryd.prog 63 #[.pointer (some ⟨a, 0, none⟩), .int .i64 28, .slice (some ⟨g, off, none⟩) 2 cx] w fun e w' => e = .returned (.bool (fitP C.b C.lits sc 28 x y z)) ∧ ∃ n, w' = w.drewN n := by
  obtain ⟨c0, c1, c2, c3, c4, c5, c6, c7, c8⟩ := h.cells
  simp only [I] at c1
  have HR : Hid (fitP C.b C.lits sc 28 x y z = isSlotP sc 0 x) := mkHid rfl
  have H1 := mkHid (isSlot_ok h 0 x)
  generalize isSlotP sc 0 x = bb at *
  clear h
  go_enter Tryd.func63, Tryd.ntmps63
  go_wp2_with (go_at_call 73; refine Calls.mono H1.out ?_; rintro e w' ⟨rfl, n, rfl⟩)
  go_ret
  exact ⟨by rw [HR.out]; rfl, _, rfl⟩
end
end Go.Proofs.YtdflpoldlokijaaDoor
namespace Go.Proofs.YtdflpoldlokijaaDoor
open Go.RowKit
set_option linter.unusedVariables false
set_option linter.unusedSimpArgs false
attribute [local go_sem ↓] Go.wp_at_zero Go.wp_at_succ
section
variable {w : World} {B a : Nat} {C : Cx} {wv : Value} {sc : List Nat} {ps : Option Addr} {cs : Nat} {pls : List Pl} {pp : Option Addr} {k : Nat}
set_option maxHeartbeats 2000000 in
theorem fit17 (h : RR w B a C wv sc ps cs pls pp k) (g off cx : Nat) (x y z : Int) (h0 : w.cell? ⟨g, off, none⟩ = some (.int .i64 x)) (h1 : w.cell? ⟨g, off + 1, none⟩ = some (.int .i64 y)) : Calls Tryd.prog 63 #[.pointer (some ⟨a, 0, none⟩), .int .i64 17, .slice (some ⟨g, off, none⟩) 2 cx] w fun e w' => e = .returned (.bool (fitP C.b C.lits sc 17 x y z)) ∧ ∃ n, w' = w.drewN n := by
  obtain ⟨c0, c1, c2, c3, c4, c5, c6, c7, c8⟩ := h.cells
  have HR : Hid (fitP C.b C.lits sc 17 x y z = (bel x C.b.symbols && inR y 0 8)) := mkHid rfl
  have H1 : Hid (∀ q, Calls Tryd.prog 65 #[.int .i64 x, .int .i64 C.b.symbols] (w.drewN q) fun e w' => e = .returned (.bool (bel x C.b.symbols)) ∧ w' = w.drewN q) := fun q => below_ok _ _ _
  have H2 : Hid (∀ q, Calls Tryd.prog 22 #[.int .i64 y, .int .i64 0, .int .i64 8] (w.drewN q) fun e w' => e = .returned (.bool (inR y 0 8)) ∧ w' = w.drewN q) := fun q => within_ok _ _ _ _
  generalize inR y 0 8 = b2 at *
  cases hb : bel x C.b.symbols
  all_goals rw [hb] at H1 HR
  all_goals clear h hb
  · go_enter Tryd.func63, Tryd.ntmps63
    go_wp2_with fail
    go_quiet (first
    | (go_at_call 65; refine (H1.out _).mono ?_; rintro e w'' ⟨rfl, rfl⟩; exact ⟨rfl, _, rfl⟩))
    go_wp2_with fail
    go_ret
    exact ⟨by rw [HR.out]; rfl, _, rfl⟩
  · go_enter Tryd.func63, Tryd.ntmps63
    go_wp2_with fail
    go_quiet (first
    | (go_at_call 65; refine (H1.out _).mono ?_; rintro e w'' ⟨rfl, rfl⟩; exact ⟨rfl, _, rfl⟩)
    | (go_at_call 22; refine (H2.out _).mono ?_; rintro e w'' ⟨rfl, rfl⟩; exact ⟨rfl, _, rfl⟩))
    go_wp2_with fail
    go_ret
    exact ⟨by rw [HR.out]; simp, _, rfl⟩
set_option maxHeartbeats 2000000 in
theorem fit18 (h : RR w B a C wv sc ps cs pls pp k) (g off cx : Nat) (x y z : Int) (h0 : w.cell? ⟨g, off, none⟩ = some (.int .i64 x)) (h1 : w.cell? ⟨g, off + 1, none⟩ = some (.int .i64 y)) : Calls Tryd.prog 63 #[.pointer (some ⟨a, 0, none⟩), .int .i64 18, .slice (some ⟨g, off, none⟩) 2 cx] w fun e w' => e = .returned (.bool (fitP C.b C.lits sc 18 x y z)) ∧ ∃ n, w' = w.drewN n := by
  obtain ⟨c0, c1, c2, c3, c4, c5, c6, c7, c8⟩ := h.cells
  have HR : Hid (fitP C.b C.lits sc 18 x y z = (bel x C.b.symbols && inR y 0 8)) := mkHid rfl
  have H1 : Hid (∀ q, Calls Tryd.prog 65 #[.int .i64 x, .int .i64 C.b.symbols] (w.drewN q) fun e w' => e = .returned (.bool (bel x C.b.symbols)) ∧ w' = w.drewN q) := fun q => below_ok _ _ _
  have H2 : Hid (∀ q, Calls Tryd.prog 22 #[.int .i64 y, .int .i64 0, .int .i64 8] (w.drewN q) fun e w' => e = .returned (.bool (inR y 0 8)) ∧ w' = w.drewN q) := fun q => within_ok _ _ _ _
  generalize inR y 0 8 = b2 at *
  cases hb : bel x C.b.symbols
  all_goals rw [hb] at H1 HR
  all_goals clear h hb
  · go_enter Tryd.func63, Tryd.ntmps63
    go_wp2_with fail
    go_quiet (first
    | (go_at_call 65; refine (H1.out _).mono ?_; rintro e w'' ⟨rfl, rfl⟩; exact ⟨rfl, _, rfl⟩))
    go_wp2_with fail
    go_ret
    exact ⟨by rw [HR.out]; rfl, _, rfl⟩
  · go_enter Tryd.func63, Tryd.ntmps63
    go_wp2_with fail
    go_quiet (first
    | (go_at_call 65; refine (H1.out _).mono ?_; rintro e w'' ⟨rfl, rfl⟩; exact ⟨rfl, _, rfl⟩)
    | (go_at_call 22; refine (H2.out _).mono ?_; rintro e w'' ⟨rfl, rfl⟩; exact ⟨rfl, _, rfl⟩))
    go_wp2_with fail
    go_ret
    exact ⟨by rw [HR.out]; simp, _, rfl⟩
end
end Go.Proofs.YtdflpoldlokijaaDoor
namespace Go.Proofs.YtdflpoldlokijaaDoor
open Go.RowKit
set_option linter.unusedVariables false
set_option linter.unusedSimpArgs false
attribute [local go_sem ↓] Go.wp_at_zero Go.wp_at_succ
section
variable {w : World} {B a : Nat} {C : Cx} {wv : Value} {sc : List Nat} {ps : Option Addr} {cs : Nat} {pls : List Pl} {pp : Option Addr} {k : Nat}
set_option maxHeartbeats 2000000 in
theorem fit19 (h : RR w B a C wv sc ps cs pls pp k) (g off cx : Nat) (x y z : Int) (h0 : w.cell? ⟨g, off, none⟩ = some (.int .i64 x)) (h1 : w.cell? ⟨g, off + 1, none⟩ = some (.int .i64 y)) (h2 : w.cell? ⟨g, off + 2, none⟩ = some (.int .i64 z)) : Calls Tryd.prog 63 #[.pointer (some ⟨a, 0, none⟩), .int .i64 19, .slice (some ⟨g, off, none⟩) 3 cx] w fun e w' => e = .returned (.bool (fitP C.b C.lits sc 19 x y z)) ∧ ∃ n, w' = w.drewN n := by
  have HR : Hid (fitP C.b C.lits sc 19 x y z = (scopeB x y && decide (0 < z) && decide (sc.length ≤ 24))) := mkHid rfl
  have H1 : Hid (∀ q, Calls Tryd.prog 21 #[.int .i64 x, .int .i64 y] (w.drewN q) fun e w' => e = .returned (.bool (scopeB x y)) ∧ w' = w.drewN q) := fun q => isScope_ok _ _ _
  have H2 : Hid (∀ q, Calls Tryd.prog 64 #[.pointer (some ⟨a, 0, none⟩)] (w.drewN q) fun e w' => e = .returned (.int .i64 ((sc.length : Int) - 1)) ∧ w' = w.drewN q) := fun q => blocks_ok (h.idle (Fr.drewN [] w q))
  have s1 := h.sc1
  have s2 := h.scn
  cases hb : scopeB x y
  all_goals rw [hb] at H1 HR
  all_goals clear h hb
  · go_enter Tryd.func63, Tryd.ntmps63
    go_wp2_with fail
    go_quiet (first
    | (go_at_call 21; refine (H1.out _).mono ?_; rintro e w'' ⟨rfl, rfl⟩; exact ⟨rfl, _, rfl⟩))
    go_wp2_with fail
    go_ret
    exact ⟨by rw [HR.out]; rfl, _, rfl⟩
  · by_cases hz : 0 < z
    · by_cases hn : sc.length ≤ 24
      · have d1 : decide ((sc.length : Int) - 1 < 24) = true := decide_eq_true (by omega)
        have d2 : (sc.length : Int) - 1 < 24 := by omega
        have HR2 : Hid (fitP C.b C.lits sc 19 x y z = true) := by show fitP C.b C.lits sc 19 x y z = true; rw [HR.out]; simp [hz, hn]
        clear HR
        go_enter Tryd.func63, Tryd.ntmps63
        go_wp2_with fail
        go_quiet (first
        | (go_at_call 21; refine (H1.out _).mono ?_; rintro e w'' ⟨rfl, rfl⟩; exact ⟨rfl, _, rfl⟩)
        | (go_at_call 64; refine (H2.out _).mono ?_; rintro e w'' ⟨rfl, rfl⟩; exact ⟨rfl, _, rfl⟩))
        go_wp2_with fail
        go_ret
        exact ⟨by rw [HR2.out]; first | rfl | simp [hn] | (simp; omega), _, rfl⟩
      · have d1 : decide ((sc.length : Int) - 1 < 24) = false := decide_eq_false (by omega)
        have HR2 : Hid (fitP C.b C.lits sc 19 x y z = false) := by show fitP C.b C.lits sc 19 x y z = false; rw [HR.out]; simp [hn]
        clear HR
        go_enter Tryd.func63, Tryd.ntmps63
        go_wp2_with fail
        go_quiet (first
        | (go_at_call 21; refine (H1.out _).mono ?_; rintro e w'' ⟨rfl, rfl⟩; exact ⟨rfl, _, rfl⟩)
        | (go_at_call 64; refine (H2.out _).mono ?_; rintro e w'' ⟨rfl, rfl⟩; exact ⟨rfl, _, rfl⟩))
        go_wp2_with fail
        go_ret
        exact ⟨by rw [HR2.out]; first | rfl | simp [hn] | (simp; omega), _, rfl⟩
    · have d1 : decide (0 < z) = false := decide_eq_false hz
      have HR2 : Hid (fitP C.b C.lits sc 19 x y z = false) := by show fitP C.b C.lits sc 19 x y z = false; rw [HR.out]; simp [hz]
      clear HR
      go_enter Tryd.func63, Tryd.ntmps63
      go_wp2_with fail
      go_quiet (first
      | (go_at_call 21; refine (H1.out _).mono ?_; rintro e w'' ⟨rfl, rfl⟩; exact ⟨rfl, _, rfl⟩))
      go_wp2_with fail
      go_ret
      exact ⟨by rw [HR2.out]; first | rfl | simp, _, rfl⟩
set_option maxHeartbeats 2000000 in
theorem fitO (op : Nat) (xv : Value) (x y z : Int) (b : Bn) (lits : Nat) (sc : List Nat) (a : Nat) (w : World) (ho : op ≠ 5 ∧ op ≠ 6 ∧ op ≠ 7 ∧ op ≠ 8 ∧ op ≠ 9 ∧ op ≠ 10 ∧ op ≠ 11 ∧ op ≠ 12 ∧ op ≠ 13 ∧ op ≠ 14 ∧ op ≠ 17 ∧ op ≠ 18 ∧ op ≠ 19 ∧ op ≠ 27 ∧ op ≠ 28) : Calls Tryd.prog 63 #[.pointer (some ⟨a, 0, none⟩), .int .i64 op, xv] w fun e w' => e = .returned (.bool (fitP b lits sc op x y z)) ∧ ∃ n, w' = w.drewN n := by
  have HR : Hid (fitP b lits sc op x y z = true) := by
    show fitP b lits sc op x y z = true
    unfold fitP
    simp [ho]
  have q5 : ((op : Int) == 5) = false := beq_eq_false_iff_ne.2 (by omega)
  have q6 : ((op : Int) == 6) = false := beq_eq_false_iff_ne.2 (by omega)
  have q7 : ((op : Int) == 7) = false := beq_eq_false_iff_ne.2 (by omega)
  have q8 : ((op : Int) == 8) = false := beq_eq_false_iff_ne.2 (by omega)
  have q9 : ((op : Int) == 9) = false := beq_eq_false_iff_ne.2 (by omega)
  have q10 : ((op : Int) == 10) = false := beq_eq_false_iff_ne.2 (by omega)
  have q11 : ((op : Int) == 11) = false := beq_eq_false_iff_ne.2 (by omega)
  have q12 : ((op : Int) == 12) = false := beq_eq_false_iff_ne.2 (by omega)
  have q13 : ((op : Int) == 13) = false := beq_eq_false_iff_ne.2 (by omega)
  have q14 : ((op : Int) == 14) = false := beq_eq_false_iff_ne.2 (by omega)
  have q17 : ((op : Int) == 17) = false := beq_eq_false_iff_ne.2 (by omega)
  have q18 : ((op : Int) == 18) = false := beq_eq_false_iff_ne.2 (by omega)
  have q19 : ((op : Int) == 19) = false := beq_eq_false_iff_ne.2 (by omega)
  have q27 : ((op : Int) == 27) = false := beq_eq_false_iff_ne.2 (by omega)
  have q28 : ((op : Int) == 28) = false := beq_eq_false_iff_ne.2 (by omega)
  clear ho
  go_enter Tryd.func63, Tryd.ntmps63
  go_wp2_with fail
  go_ret
  exact ⟨by rw [HR.out]; rfl, 0, rfl⟩
end
end Go.Proofs.YtdflpoldlokijaaDoor
