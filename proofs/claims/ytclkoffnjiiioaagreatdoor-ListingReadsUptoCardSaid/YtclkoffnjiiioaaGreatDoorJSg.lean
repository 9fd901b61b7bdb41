import Derived.Test.YtclkoffnjiiioaaGreatDoorG17JSe
namespace Go.Proofs.YtclkoffnjiiioaaGreatDoor
open Go.RowKit
set_option linter.unusedVariables false
set_option linter.unusedSimpArgs false
attribute [local go_sem ↓] Go.wp_at_zero Go.wp_at_succ
theorem flL_cells {w : World} {B g n c : Nat} {m : Int} (h : w.ownsRow B 49 4 (.slice (some ⟨g, 0, none⟩) n c) n (flL m n)) (i : Nat) (hi : i < n) : w.cell? ⟨g, i * 4, none⟩ = some (.int .i64 m) ∧ w.cell? ⟨g, i * 4 + 1, none⟩ = some (.string ⟨#[]⟩) ∧ w.cell? ⟨g, i * 4 + 2, none⟩ = some (.int .i64 0) ∧ w.cell? ⟨g, i * 4 + 3, none⟩ = some (.slice none 0 0) := by
  have hg : (List.replicate n (mkT m))[i]? = some (mkT m) := by rw [List.getElem?_replicate, if_pos hi]
  have hc : ∀ j, j < 4 → w.cell? ⟨g, i * 4 + j, none⟩ = (litc (mkT m))[j]? := fun j hj => by
    rw [h.cellAt (i * 4 + j) (by omega)]
    exact litCells_at _ i (mkT m) j hg hj
  exact ⟨hc 0 (by omega), hc 1 (by omega), hc 2 (by omega), hc 3 (by omega)⟩
theorem flI_cells {w : World} {B g n c : Nat} {m : Int} (h : w.ownsRow B 3 1 (.slice (some ⟨g, 0, none⟩) n c) n (flI m n)) (i : Nat) (hi : i < n) : w.cell? ⟨g, i, none⟩ = some (.int .i64 m) := by
  rw [h.cellAt i (by omega)]
  unfold flI
  rw [List.getElem?_replicate, if_pos hi]
theorem row_some {w : World} {B : Nat} {e : TypeId} {s n c : Nat} {p : Option Addr} {xs : List Value} (h : w.ownsRow B e s (.slice p n c) n xs) (hn : 0 < n) : ∃ g, p = some ⟨g, 0, none⟩ := by
  rcases h.2 with ⟨e1, e0⟩ | ⟨g, cap, cur, e1, -⟩
  · omega
  · injection e1 with e1; exact ⟨g, e1⟩
set_option maxRecDepth 100000 in
set_option maxHeartbeats 8000000 in
/-- a list is full of its mark -/
theorem marked_full (w : World) (p : Option Addr) (n c : Nat) (m : Int) (h : w.ownsRow 0 49 4 (.slice p n c) n (flL m n)) (hn : n ≤ 3000000000000) : Calls Tryz.prog 27 #[.slice p n c, .int .i64 m] w fun e w' => e = .returned (.bool true) ∧ w' = w := by
  have H := mkHid h
  clear h
  go_enter Tryz.func27, Tryz.ntmps27
  go_wp2_with fail
  go_loopw [5] (fun q wr => w = wr ∧ ∃ i : Nat, i ≤ n ∧ q = .int .i64 (i : Int)) (fun q _ => n - (intOf q).toNat)
  case atStart => exact ⟨rfl, 0, Nat.zero_le _, rfl⟩
  case round =>
    obtain ⟨rfl, i, hi, rfl⟩ := hrel
    have i0 : (0 : Int) ≤ (i : Int) := by omega
    by_cases hlt : i < n
    · obtain ⟨g, hg⟩ := row_some H.out (by omega)
      subst hg
      obtain ⟨c0, c1, c2, c3⟩ := flL_cells H.out i hlt
      have i1 : (i : Int) < (n : Int) := by omega
      obtain ⟨i2, hi2⟩ : ∃ q, q = i + 1 := ⟨_, rfl⟩
      have hwi : IntKind.i64.wrap ((i : Int) + 1) = (i2 : Int) := by rw [iwrap_id (by omega) (by omega)]; omega
      have HI2 : Hid (i2 = i + 1 ∧ i < n) := ⟨hi2, hlt⟩
      clear hi2 hlt hi
      go_wp2_with fail
      go_roundw
      case rel => exact ⟨trivial, i2, by have := HI2.out; omega, rfl⟩
      case measure => have := HI2.out; simp [intOf]; omega
    · have i1 : ¬ (i : Int) < (n : Int) := by omega
      go_wp2_with fail
      go_ret
      exact ⟨rfl, rfl⟩
set_option maxRecDepth 100000 in
set_option maxHeartbeats 16000000 in
/-- all lists of the book hold what was written -/
theorem holds_ok (W : World) (Ok : Nat → Prop) (b : Nat) (vW vL vC vM : Value) (Ws Ls Cs Ms : List Value) (h : Bk W Ok b vW vL vC vM Ws Ls Cs Ms) (nW : Ws.length ≤ 1000000000000) (nC : Cs.length ≤ 1000000000000) : Calls Tryz.prog 15 #[pt b] W fun e w' => e = .returned (.bool true) ∧ w' = W := by
  obtain ⟨pW, cW, hvW⟩ := own_form h.ints.rA
  obtain ⟨pL, cL, hvL⟩ := own_form h.ints.rB
  obtain ⟨pC, cC, hvC⟩ := own_form h.lits.rA
  obtain ⟨pM, cM, hvM⟩ := own_form h.lits.rB
  rw [h.ints.len] at hvL
  rw [h.lits.len] at hvM
  obtain ⟨aW, haW⟩ : ∃ q, q = Ws.length := ⟨_, rfl⟩
  obtain ⟨aC, haC⟩ : ∃ q, q = Cs.length := ⟨_, rfl⟩
  rw [← haW] at hvW hvL nW
  rw [← haC] at hvC hvM nC
  subst hvW hvL hvC hvM
  have b0 : W.cell? ⟨b, 0, none⟩ = some (.slice pW aW cW) := cell_in h.top 0
  have b1 : W.cell? ⟨b, 1, none⟩ = some (.slice pL aW cL) := cell_in h.top 1
  have b2 : W.cell? ⟨b, 2, none⟩ = some (.slice pC aC cC) := cell_in h.top 2
  have b3 : W.cell? ⟨b, 3, none⟩ = some (.slice pM aC cM) := cell_in h.top 3
  have HRd : ∀ {B : Nat} {e : TypeId} {p : Option Addr} {n c : Nat} {xs : List Value}, W.ownsRow B e 1 (.slice p n c) n xs → ∀ i, i < n → ∃ g v, p = some ⟨g, 0, none⟩ ∧ W.cell? ⟨g, i, none⟩ = some v ∧ xs[i]? = some v := fun {B e p n c xs} hr i hi => by
    obtain ⟨g, hg⟩ := row_some hr (by omega)
    subst hg
    have hl := hr.1
    refine ⟨g, xs[i]'(by omega), rfl, ?_, List.getElem?_eq_getElem _⟩
    rw [hr.cellAt i (by omega)]
    exact List.getElem?_eq_getElem _
  have HA : Hid (∀ i, i < aW → ∃ g g2 p1 n1 c1 p2 n2 c2, pW = some ⟨g, 0, none⟩ ∧ pL = some ⟨g2, 0, none⟩ ∧ W.cell? ⟨g, i, none⟩ = some (.slice p1 n1 c1) ∧ W.cell? ⟨g2, i, none⟩ = some (.slice p2 n2 c2) ∧ n1 ≤ 3000000000000 ∧ n2 ≤ 3000000000000 ∧ W.ownsRow 0 3 1 (.slice p1 n1 c1) n1 (flI (-(i : Int) - 1) n1) ∧ W.ownsRow 0 3 1 (.slice p2 n2 c2) n2 (flI (-(i : Int) - 1) n2)) := fun i hi => by
    obtain ⟨g, v, e1, e2, e3⟩ := HRd (by have := h.ints.rA; rw [← haW] at this; exact this) i hi
    obtain ⟨g2, v2, e4, e5, e6⟩ := HRd (by have := h.ints.rB; rw [h.ints.len, ← haW] at this; exact this) i hi
    obtain ⟨n1, l1, r1, -⟩ := h.ints.fA i v e3
    obtain ⟨n2, l2, r2, -⟩ := h.ints.fB i v2 e6
    obtain ⟨p1, c1, rfl⟩ := own_form r1
    obtain ⟨p2, c2, rfl⟩ := own_form r2
    exact ⟨g, g2, p1, n1, c1, p2, n2, c2, e1, e4, e2, e5, l1, l2, r1, r2⟩
  have HC : Hid (∀ i, i < aC → ∃ g g2 p1 n1 c1 p2 n2 c2, pC = some ⟨g, 0, none⟩ ∧ pM = some ⟨g2, 0, none⟩ ∧ W.cell? ⟨g, i, none⟩ = some (.slice p1 n1 c1) ∧ W.cell? ⟨g2, i, none⟩ = some (.slice p2 n2 c2) ∧ Calls Tryz.prog 27 #[.slice p1 n1 c1, .int .i64 (-(i : Int) - 1)] W (fun e w' => e = .returned (.bool true) ∧ w' = W) ∧ Calls Tryz.prog 27 #[.slice p2 n2 c2, .int .i64 (-(i : Int) - 1)] W (fun e w' => e = .returned (.bool true) ∧ w' = W)) := fun i hi => by
    obtain ⟨g, v, e1, e2, e3⟩ := HRd (by have := h.lits.rA; rw [← haC] at this; exact this) i hi
    obtain ⟨g2, v2, e4, e5, e6⟩ := HRd (by have := h.lits.rB; rw [h.lits.len, ← haC] at this; exact this) i hi
    obtain ⟨n1, l1, r1, -⟩ := h.lits.fA i v e3
    obtain ⟨n2, l2, r2, -⟩ := h.lits.fB i v2 e6
    obtain ⟨p1, c1, rfl⟩ := own_form r1
    obtain ⟨p2, c2, rfl⟩ := own_form r2
    exact ⟨g, g2, p1, n1, c1, p2, n2, c2, e1, e4, e2, e5, marked_full W p1 n1 c1 _ r1 l1, marked_full W p2 n2 c2 _ r2 l2⟩
  clear h HRd haW haC
  go_enter Tryz.func15, Tryz.ntmps15
  go_wp2_with fail
  go_loopw [3] (fun q wr => W = wr ∧ ∃ i : Nat, i ≤ aW ∧ q = .int .i64 (i : Int)) (fun q _ => aW - (intOf q).toNat)
  case atStart => exact ⟨rfl, 0, Nat.zero_le _, rfl⟩
  case round =>
    obtain ⟨rfl, i, hi, rfl⟩ := hrel
    have i0 : (0 : Int) ≤ (i : Int) := by omega
    by_cases hlt : i < aW
    · obtain ⟨g, g2, p1, n1, c1, p2, n2, c2, rfl, rfl, d1, d2, l1, l2, r1, r2⟩ := HA.out i hlt
      have i1 : (i : Int) < (aW : Int) := by omega
      obtain ⟨i2, hi2⟩ : ∃ q, q = i + 1 := ⟨_, rfl⟩
      have hwi : IntKind.i64.wrap ((i : Int) + 1) = (i2 : Int) := by rw [iwrap_id (by omega) (by omega)]; omega
      have HI2 : Hid (i2 = i + 1 ∧ i < aW) := ⟨hi2, hlt⟩
      have hw1 : IntKind.i64.wrap (-(i : Int)) = -(i : Int) := iwrap_id (by omega) (by omega)
      have hw2 : IntKind.i64.wrap (-(i : Int) - 1) = -(i : Int) - 1 := iwrap_id (by omega) (by omega)
      have HR1 := mkHid r1
      have HR2 := mkHid r2
      have HL : Hid (n1 ≤ 3000000000000 ∧ n2 ≤ 3000000000000) := ⟨l1, l2⟩
      clear r1 r2 hi2 hlt hi l1 l2
      go_wp2_with fail
      go_loopw [4] (fun q wr => W = wr ∧ ∃ k : Nat, k ≤ n2 ∧ q = .int .i64 (k : Int)) (fun q _ => n2 - (intOf q).toNat)
      case atStart => exact ⟨rfl, 0, Nat.zero_le _, rfl⟩
      case round =>
        obtain ⟨rfl, k, hk, rfl⟩ := hrel
        have k0 : (0 : Int) ≤ (k : Int) := by omega
        by_cases hkl : k < n2
        · obtain ⟨ga, hga⟩ := row_some HR2.out (by omega)
          subst hga
          have e2 := flI_cells HR2.out k hkl
          have k1 : (k : Int) < (n2 : Int) := by omega
          obtain ⟨k2, hk2⟩ : ∃ q, q = k + 1 := ⟨_, rfl⟩
          have hwk : IntKind.i64.wrap ((k : Int) + 1) = (k2 : Int) := by rw [iwrap_id (by omega) (by have := HL.out; omega)]; omega
          have HK2 : Hid (k2 = k + 1 ∧ k < n2) := ⟨hk2, hkl⟩
          clear hk2 hkl hk
          by_cases hk1 : k < n1
          · obtain ⟨gb, hgb⟩ := row_some HR1.out (by omega)
            subst hgb
            have e1 := flI_cells HR1.out k hk1
            have q1 : (k : Int) < (n1 : Int) := by omega
            go_wp2_with fail
            go_roundw
            case rel => exact ⟨trivial, k2, by have := HK2.out; omega, rfl⟩
            case measure => have := HK2.out; simp [intOf]; omega
          · have q1 : ¬ (k : Int) < (n1 : Int) := by omega
            go_wp2_with fail
            go_roundw
            case rel => exact ⟨trivial, k2, by have := HK2.out; omega, rfl⟩
            case measure => have := HK2.out; simp [intOf]; omega
        · have k1 : ¬ (k : Int) < (n2 : Int) := by omega
          go_wp2_with fail
          go_roundw
          case rel => exact ⟨trivial, i2, by have := HI2.out; omega, rfl⟩
          case measure => have := HI2.out; simp [intOf]; omega
    · have i1 : ¬ (i : Int) < (aW : Int) := by omega
      clear HA
      go_wp2_with fail
      go_loopw [5] (fun q wr => W = wr ∧ ∃ i : Nat, i ≤ aC ∧ q = .int .i64 (i : Int)) (fun q _ => aC - (intOf q).toNat)
      case atStart => exact ⟨rfl, 0, Nat.zero_le _, rfl⟩
      case round =>
        obtain ⟨rfl, j, hj, rfl⟩ := hrel
        have j0 : (0 : Int) ≤ (j : Int) := by omega
        by_cases hjl : j < aC
        · obtain ⟨g, g2, p1, n1, c1, p2, n2, c2, rfl, rfl, d1, d2, m1, m2⟩ := HC.out j hjl
          have j1 : (j : Int) < (aC : Int) := by omega
          obtain ⟨j2, hj2⟩ : ∃ q, q = j + 1 := ⟨_, rfl⟩
          have hwj : IntKind.i64.wrap ((j : Int) + 1) = (j2 : Int) := by rw [iwrap_id (by omega) (by omega)]; omega
          have HJ2 : Hid (j2 = j + 1 ∧ j < aC) := ⟨hj2, hjl⟩
          have hw1 : IntKind.i64.wrap (-(j : Int)) = -(j : Int) := iwrap_id (by omega) (by omega)
          have hw2 : IntKind.i64.wrap (-(j : Int) - 1) = -(j : Int) - 1 := iwrap_id (by omega) (by omega)
          have M1 := mkHid m1
          have M2 := mkHid m2
          clear m1 m2 hj2 hjl hj
          go_wp2_with fail
          refine M1.out.mono ?_
          rintro e w1 ⟨rfl, rfl⟩
          go_wp2_with fail
          refine M2.out.mono ?_
          rintro e w1 ⟨rfl, rfl⟩
          go_wp2_with fail
          go_roundw
          case rel => exact ⟨trivial, j2, by have := HJ2.out; omega, rfl⟩
          case measure => have := HJ2.out; simp [intOf]; omega
        · have j1 : ¬ (j : Int) < (aC : Int) := by omega
          go_wp2_with fail
          go_ret
          exact ⟨rfl, rfl⟩
end Go.Proofs.YtclkoffnjiiioaaGreatDoor
