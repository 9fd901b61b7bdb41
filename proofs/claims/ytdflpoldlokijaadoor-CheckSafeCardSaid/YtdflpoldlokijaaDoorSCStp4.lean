import Derived.Test.YtdflpoldlokijaaDoorSG27CStp0
import Derived.Test.YtdflpoldlokijaaDoorSG26CMk
namespace Go.Proofs.YtdflpoldlokijaaDoor
open Go.RowKit
set_option linter.unusedVariables false
set_option linter.unusedSimpArgs false
attribute [local go_sem ↓] Go.wp_at_zero Go.wp_at_succ
section
variable {w : World} {B x : Nat} {F : Fx} {s : WS} {pi : Option Addr} {ci : Nat} {ins : List In}
set_option maxRecDepth 100000 in
set_option maxHeartbeats 4000000 in
theorem step_17 (h : WK w B x F s pi ci ins) (hw : F.C.w s.at_ = 17) (hin : s.at_ + 3 ≤ F.e0) (hwi : s.wild = false) (k : Nat) (hk : F.C.w (s.at_ + 2) = k) (hd : (k : Int) + 1 ≤ s.dep) (hst : s.dep - k ≤ F.h.stack) (hlo : s.loose + 1 ≤ 5000) (hf : fitP F.C.b F.C.lits F.sc 17 (F.C.w (s.at_ + 1)) (F.C.w (s.at_ + 2)) (F.C.w (s.at_ + 3)) = true) :
    Calls Tryd.prog 19 #[.pointer (some ⟨x, 0, none⟩)] w fun e w' => StP w B x F s pi ci ins ⟨s.at_ + 3, s.dep - k, s.seed, s.done, false, 0⟩ e w' := by
  obtain ⟨sa, sd, ss, so, sw, sl⟩ := s
  simp only at hw hin hwi hk hd hst hlo hf
  subst hwi
  obtain ⟨va, hva⟩ : ∃ v, F.C.w (sa + 1) = v := ⟨_, rfl⟩
  rw [hva] at hf
  have hvb := hk
  rw [hvb] at hf
  have ff : (0 ≤ va ∧ va < F.C.b.symbols) ∧ k ≤ 8 := by
    have := hf
    simp [fitP, bel, inR] at this
    exact ⟨this.1, by omega⟩
  obtain ⟨⟨q1, q2⟩, q3⟩ := ff
  have q4 : (k : Int) ≤ 8 := by omega
  have q5 : (0 : Int) ≤ (k : Int) := by omega
  have r1 := decide_eq_true q1
  have r2 := decide_eq_true q2
  have r4 := decide_eq_true q4
  have r5 := decide_eq_true q5
  have H0 : Hid (∀ V, WK V B x F ⟨sa, sd, ss, so, false, sl⟩ pi ci ins → Calls Tryd.prog 28 #[.pointer (some ⟨x, 0, none⟩), .int .i64 0] V fun e w' => e = .returned (.int .i64 17) ∧ ∃ n, w' = V.drewN n) := fun V hV => by
    have := word_ok hV 0 (by show sa + 0 < F.e0; omega) (by omega)
    rw [show (⟨sa, sd, ss, so, false, sl⟩ : WS).at_ + 0 = sa + 0 from rfl, Nat.add_zero, hw] at this
    exact this
  have H1 : Hid (∀ V, WK V B x F ⟨sa, sd, ss, so, false, sl⟩ pi ci ins → Calls Tryd.prog 28 #[.pointer (some ⟨x, 0, none⟩), .int .i64 1] V fun e w' => e = .returned (.int .i64 va) ∧ ∃ n, w' = V.drewN n) := fun V hV => by
    have := word_ok hV 1 (by show sa + 1 < F.e0; omega) (by omega)
    rw [show (⟨sa, sd, ss, so, false, sl⟩ : WS).at_ + 1 = sa + 1 from rfl, hva] at this
    exact this
  have H2 : Hid (∀ V, WK V B x F ⟨sa, sd, ss, so, false, sl⟩ pi ci ins → Calls Tryd.prog 28 #[.pointer (some ⟨x, 0, none⟩), .int .i64 2] V fun e w' => e = .returned (.int .i64 (k : Int)) ∧ ∃ n, w' = V.drewN n) := fun V hV => by
    have := word_ok hV 2 (by show sa + 2 < F.e0; omega) (by omega)
    rw [show (⟨sa, sd, ss, so, false, sl⟩ : WS).at_ + 2 = sa + 2 from rfl, hvb] at this
    exact this
  have HZ : Hid (∀ V, Calls Tryd.prog 29 #[.int .i64 17] V fun e w' => e = .returned (.int .i64 3) ∧ w' = V) := fun V => size_ok 17 V (by decide) (by decide)
  have en := h.en
  have n4 := h.n4
  have HB : Hid (∀ V, WK V B x F ⟨sa, sd, ss, so, false, sl⟩ pi ci ins → V.cell? ⟨x, 17, none⟩ = some (.bool false) ∧ V.cell? ⟨x, 18, none⟩ = some (.int .i64 (sl : Int)) ∧ V.frozen? ⟨x, 18, none⟩ = false ∧ (V.setCell ⟨x, 18, none⟩ (.int .i64 ((sl : Int) + 1))).cell? ⟨x, 12, none⟩ = some (.int .i64 (sa : Int)) ∧ Fr [x] V (V.setCell ⟨x, 18, none⟩ (.int .i64 ((sl : Int) + 1))) ∧ WK (V.setCell ⟨x, 18, none⟩ (.int .i64 ((sl : Int) + 1))) B x F ⟨sa, sd, ss, so, false, sl + 1⟩ pi ci ins) := fun V hV => by
    have e1 : I (sl + 1) = .int .i64 ((sl : Int) + 1) := rfl
    have := hV.bump (sl + 1) hlo
    rw [e1] at this
    exact ⟨hV.cell 17, hV.cell 18, hV.fz 18, this.1.cell 12, this.2, this.1⟩
  have HNd := mkHid (needs_ok x)
  have HY : Hid (∀ V, WK V B x F ⟨sa, sd, ss, so, false, sl + 1⟩ pi ci ins → V.cell? ⟨x, 8, none⟩ = some (.int .i64 F.C.b.symbols)) := fun V hV => hV.cell 8
  have HM : Hid (∀ V, WK V B x F ⟨sa, sd, ss, so, false, sl + 1⟩ pi ci ins → Calls Tryd.prog 32 #[.pointer (some ⟨x, 0, none⟩), .int .i64 ((k : Int) + 1), .int .i64 1] V fun e w' => e = .returned (.tuple #[]) ∧ Fr [x] V w' ∧ WK w' B x F ⟨sa, sd - k, ss, so, false, sl + 1⟩ pi ci ins) := fun V hV => mv_ok hV ((k : Int) + 1) 1 (sd - k) (by omega) hd (by show sd - ((k : Int) + 1) + 1 = sd - k; omega) hst
  have HE : Hid (∀ V, WK V B x F ⟨sa, sd - k, ss, so, false, sl + 1⟩ pi ci ins → V.cell? ⟨x, 18, none⟩ = some (.int .i64 ((sl : Int) + 1)) ∧ V.frozen? ⟨x, 18, none⟩ = false ∧ (V.setCell ⟨x, 18, none⟩ (.int .i64 0)).cell? ⟨x, 12, none⟩ = some (.int .i64 (sa : Int)) ∧ (V.setCell ⟨x, 18, none⟩ (.int .i64 0)).frozen? ⟨x, 12, none⟩ = false ∧ WK ((V.setCell ⟨x, 18, none⟩ (.int .i64 0)).setCell ⟨x, 12, none⟩ (.int .i64 ((sa : Int) + 3))) B x F ⟨sa + 3, sd - k, ss, so, false, 0⟩ pi ci ins ∧ Fr [x] V ((V.setCell ⟨x, 18, none⟩ (.int .i64 0)).setCell ⟨x, 12, none⟩ (.int .i64 ((sa : Int) + 3)))) := fun V hV => by
    obtain ⟨z1, z2, z3, z4⟩ := hV.loose0
    have e1 : I (sa + 3) = .int .i64 ((sa : Int) + 3) := rfl
    have := z1.goes (sa + 3) (by omega)
    rw [e1] at this
    exact ⟨z3, z4, z1.cell 12, z1.fz 12, this.1, z2.x2 this.2⟩
  generalize F.C.b.symbols = sy at *
  have K0 := mkHid h
  have F0 : Hid (Fr [x] w w) := Fr.refl _ _
  clear h hw hf hva hvb hk
  go_enter Tryd.func19, Tryd.ntmps19
  go_wp2_with (first
    | (go_at_call 28; refine (H0.out _ K0.out).mono ?_; rintro e v1 ⟨rfl, n1, hn1⟩; have k1 := K0.out.dr n1; have f1 := F0.out.x2 (Fr.drewN [x] _ n1); rw [← hn1] at k1 f1; have K1 := mkHid k1; have F1 := mkHid f1; clear hn1 k1 f1; clear H0)
    | (go_at_call 28; refine (H1.out _ K1.out).mono ?_; rintro e v2 ⟨rfl, n2, hn2⟩; have k2 := K1.out.dr n2; have f2 := F1.out.x2 (Fr.drewN [x] _ n2); rw [← hn2] at k2 f2; have K2 := mkHid k2; have F2 := mkHid f2; clear hn2 k2 f2; clear H1)
    | (go_at_call 28; refine (H2.out _ K2.out).mono ?_; rintro e v3 ⟨rfl, n3, hn3⟩; have k3 := K2.out.dr n3; have f3 := F2.out.x2 (Fr.drewN [x] _ n3); rw [← hn3] at k3 f3; have K3 := mkHid k3; have F3 := mkHid f3; clear hn3 k3 f3; clear H2; obtain ⟨c1, c2, c3, c4, c5, c6⟩ := HB.out _ K3.out; have C5 := mkHid (F3.out.x2 c5); have C6 := mkHid c6; have c7 := HY.out _ c6; clear c5 c6)
    | (go_at_call 29; refine (HZ.out _).mono ?_; rintro e w' ⟨rfl, hw'⟩; rw [hw']; clear hw' w')
    | (go_at_call 30; refine (HNd.out _).mono ?_; rintro e w' ⟨rfl, hw'⟩; rw [hw']; clear hw' w')
    | (go_at_call 32; refine (HM.out _ C6.out).mono ?_; rintro e w2 ⟨rfl, f2, k2⟩; obtain ⟨d1, d2, d1b, d2b, d3, d4⟩ := HE.out _ k2; have HD3 := mkHid d3; have HD4 := mkHid ((C5.out.x2 f2).x2 d4); clear f2 k2 d3 d4))
  go_end0
  exact ⟨rfl, HD4.out, HD3.out⟩
set_option maxRecDepth 100000 in
set_option maxHeartbeats 4000000 in
theorem step_18 (h : WK w B x F s pi ci ins) (hw : F.C.w s.at_ = 18) (hin : s.at_ + 3 ≤ F.e0) (hwi : s.wild = false) (k : Nat) (hk : F.C.w (s.at_ + 2) = k) (hd : (k : Int) + 1 ≤ s.dep) (hst : s.dep - k ≤ F.h.stack) (hlo : s.loose + 1 ≤ 5000) (hf : fitP F.C.b F.C.lits F.sc 18 (F.C.w (s.at_ + 1)) (F.C.w (s.at_ + 2)) (F.C.w (s.at_ + 3)) = true) :
    Calls Tryd.prog 19 #[.pointer (some ⟨x, 0, none⟩)] w fun e w' => StP w B x F s pi ci ins ⟨s.at_ + 3, s.dep - k, s.seed, s.done, false, 0⟩ e w' := by
  obtain ⟨sa, sd, ss, so, sw, sl⟩ := s
  simp only at hw hin hwi hk hd hst hlo hf
  subst hwi
  obtain ⟨va, hva⟩ : ∃ v, F.C.w (sa + 1) = v := ⟨_, rfl⟩
  rw [hva] at hf
  have hvb := hk
  rw [hvb] at hf
  have ff : (0 ≤ va ∧ va < F.C.b.symbols) ∧ k ≤ 8 := by
    have := hf
    simp [fitP, bel, inR] at this
    exact ⟨this.1, by omega⟩
  obtain ⟨⟨q1, q2⟩, q3⟩ := ff
  have q4 : (k : Int) ≤ 8 := by omega
  have q5 : (0 : Int) ≤ (k : Int) := by omega
  have r1 := decide_eq_true q1
  have r2 := decide_eq_true q2
  have r4 := decide_eq_true q4
  have r5 := decide_eq_true q5
  have H0 : Hid (∀ V, WK V B x F ⟨sa, sd, ss, so, false, sl⟩ pi ci ins → Calls Tryd.prog 28 #[.pointer (some ⟨x, 0, none⟩), .int .i64 0] V fun e w' => e = .returned (.int .i64 18) ∧ ∃ n, w' = V.drewN n) := fun V hV => by
    have := word_ok hV 0 (by show sa + 0 < F.e0; omega) (by omega)
    rw [show (⟨sa, sd, ss, so, false, sl⟩ : WS).at_ + 0 = sa + 0 from rfl, Nat.add_zero, hw] at this
    exact this
  have H1 : Hid (∀ V, WK V B x F ⟨sa, sd, ss, so, false, sl⟩ pi ci ins → Calls Tryd.prog 28 #[.pointer (some ⟨x, 0, none⟩), .int .i64 1] V fun e w' => e = .returned (.int .i64 va) ∧ ∃ n, w' = V.drewN n) := fun V hV => by
    have := word_ok hV 1 (by show sa + 1 < F.e0; omega) (by omega)
    rw [show (⟨sa, sd, ss, so, false, sl⟩ : WS).at_ + 1 = sa + 1 from rfl, hva] at this
    exact this
  have H2 : Hid (∀ V, WK V B x F ⟨sa, sd, ss, so, false, sl⟩ pi ci ins → Calls Tryd.prog 28 #[.pointer (some ⟨x, 0, none⟩), .int .i64 2] V fun e w' => e = .returned (.int .i64 (k : Int)) ∧ ∃ n, w' = V.drewN n) := fun V hV => by
    have := word_ok hV 2 (by show sa + 2 < F.e0; omega) (by omega)
    rw [show (⟨sa, sd, ss, so, false, sl⟩ : WS).at_ + 2 = sa + 2 from rfl, hvb] at this
    exact this
  have HZ : Hid (∀ V, Calls Tryd.prog 29 #[.int .i64 18] V fun e w' => e = .returned (.int .i64 3) ∧ w' = V) := fun V => size_ok 18 V (by decide) (by decide)
  have en := h.en
  have n4 := h.n4
  have HB : Hid (∀ V, WK V B x F ⟨sa, sd, ss, so, false, sl⟩ pi ci ins → V.cell? ⟨x, 17, none⟩ = some (.bool false) ∧ V.cell? ⟨x, 18, none⟩ = some (.int .i64 (sl : Int)) ∧ V.frozen? ⟨x, 18, none⟩ = false ∧ (V.setCell ⟨x, 18, none⟩ (.int .i64 ((sl : Int) + 1))).cell? ⟨x, 12, none⟩ = some (.int .i64 (sa : Int)) ∧ Fr [x] V (V.setCell ⟨x, 18, none⟩ (.int .i64 ((sl : Int) + 1))) ∧ WK (V.setCell ⟨x, 18, none⟩ (.int .i64 ((sl : Int) + 1))) B x F ⟨sa, sd, ss, so, false, sl + 1⟩ pi ci ins) := fun V hV => by
    have e1 : I (sl + 1) = .int .i64 ((sl : Int) + 1) := rfl
    have := hV.bump (sl + 1) hlo
    rw [e1] at this
    exact ⟨hV.cell 17, hV.cell 18, hV.fz 18, this.1.cell 12, this.2, this.1⟩
  have HNd := mkHid (needs_ok x)
  have HY : Hid (∀ V, WK V B x F ⟨sa, sd, ss, so, false, sl + 1⟩ pi ci ins → V.cell? ⟨x, 8, none⟩ = some (.int .i64 F.C.b.symbols)) := fun V hV => hV.cell 8
  have HM : Hid (∀ V, WK V B x F ⟨sa, sd, ss, so, false, sl + 1⟩ pi ci ins → Calls Tryd.prog 32 #[.pointer (some ⟨x, 0, none⟩), .int .i64 ((k : Int) + 1), .int .i64 1] V fun e w' => e = .returned (.tuple #[]) ∧ Fr [x] V w' ∧ WK w' B x F ⟨sa, sd - k, ss, so, false, sl + 1⟩ pi ci ins) := fun V hV => mv_ok hV ((k : Int) + 1) 1 (sd - k) (by omega) hd (by show sd - ((k : Int) + 1) + 1 = sd - k; omega) hst
  have HE : Hid (∀ V, WK V B x F ⟨sa, sd - k, ss, so, false, sl + 1⟩ pi ci ins → V.cell? ⟨x, 18, none⟩ = some (.int .i64 ((sl : Int) + 1)) ∧ V.frozen? ⟨x, 18, none⟩ = false ∧ (V.setCell ⟨x, 18, none⟩ (.int .i64 0)).cell? ⟨x, 12, none⟩ = some (.int .i64 (sa : Int)) ∧ (V.setCell ⟨x, 18, none⟩ (.int .i64 0)).frozen? ⟨x, 12, none⟩ = false ∧ WK ((V.setCell ⟨x, 18, none⟩ (.int .i64 0)).setCell ⟨x, 12, none⟩ (.int .i64 ((sa : Int) + 3))) B x F ⟨sa + 3, sd - k, ss, so, false, 0⟩ pi ci ins ∧ Fr [x] V ((V.setCell ⟨x, 18, none⟩ (.int .i64 0)).setCell ⟨x, 12, none⟩ (.int .i64 ((sa : Int) + 3)))) := fun V hV => by
    obtain ⟨z1, z2, z3, z4⟩ := hV.loose0
    have e1 : I (sa + 3) = .int .i64 ((sa : Int) + 3) := rfl
    have := z1.goes (sa + 3) (by omega)
    rw [e1] at this
    exact ⟨z3, z4, z1.cell 12, z1.fz 12, this.1, z2.x2 this.2⟩
  generalize F.C.b.symbols = sy at *
  have K0 := mkHid h
  have F0 : Hid (Fr [x] w w) := Fr.refl _ _
  clear h hw hf hva hvb hk
  go_enter Tryd.func19, Tryd.ntmps19
  go_wp2_with (first
    | (go_at_call 28; refine (H0.out _ K0.out).mono ?_; rintro e v1 ⟨rfl, n1, hn1⟩; have k1 := K0.out.dr n1; have f1 := F0.out.x2 (Fr.drewN [x] _ n1); rw [← hn1] at k1 f1; have K1 := mkHid k1; have F1 := mkHid f1; clear hn1 k1 f1; clear H0)
    | (go_at_call 28; refine (H1.out _ K1.out).mono ?_; rintro e v2 ⟨rfl, n2, hn2⟩; have k2 := K1.out.dr n2; have f2 := F1.out.x2 (Fr.drewN [x] _ n2); rw [← hn2] at k2 f2; have K2 := mkHid k2; have F2 := mkHid f2; clear hn2 k2 f2; clear H1)
    | (go_at_call 28; refine (H2.out _ K2.out).mono ?_; rintro e v3 ⟨rfl, n3, hn3⟩; have k3 := K2.out.dr n3; have f3 := F2.out.x2 (Fr.drewN [x] _ n3); rw [← hn3] at k3 f3; have K3 := mkHid k3; have F3 := mkHid f3; clear hn3 k3 f3; clear H2; obtain ⟨c1, c2, c3, c4, c5, c6⟩ := HB.out _ K3.out; have C5 := mkHid (F3.out.x2 c5); have C6 := mkHid c6; have c7 := HY.out _ c6; clear c5 c6)
    | (go_at_call 29; refine (HZ.out _).mono ?_; rintro e w' ⟨rfl, hw'⟩; rw [hw']; clear hw' w')
    | (go_at_call 30; refine (HNd.out _).mono ?_; rintro e w' ⟨rfl, hw'⟩; rw [hw']; clear hw' w')
    | (go_at_call 32; refine (HM.out _ C6.out).mono ?_; rintro e w2 ⟨rfl, f2, k2⟩; obtain ⟨d1, d2, d1b, d2b, d3, d4⟩ := HE.out _ k2; have HD3 := mkHid d3; have HD4 := mkHid ((C5.out.x2 f2).x2 d4); clear f2 k2 d3 d4))
  go_end0
  exact ⟨rfl, HD4.out, HD3.out⟩
end
end Go.Proofs.YtdflpoldlokijaaDoor
