import Derived.Test.YtdflpoldlokijaaDoorSG27CStp0
namespace Go.Proofs.YtdflpoldlokijaaDoor
open Go.RowKit
set_option linter.unusedVariables false
set_option linter.unusedSimpArgs false
attribute [local go_sem ↓] Go.wp_at_zero Go.wp_at_succ
section
variable {w : World} {B x : Nat} {F : Fx} {s : WS} {pi : Option Addr} {ci : Nat} {ins : List In}
set_option maxRecDepth 100000 in
set_option maxHeartbeats 4000000 in
theorem step_5 (h : WK w B x F s pi ci ins) (hw : F.C.w s.at_ = 5) (hin : s.at_ + 2 ≤ F.e0) (hwi : s.wild = false) (hd : 0 ≤ s.dep) (hst : s.dep - 0 + 1 ≤ F.h.stack) (hlo : s.loose + 1 ≤ 5000) (hf : fitP F.C.b F.C.lits F.sc 5 (F.C.w (s.at_ + 1)) (F.C.w (s.at_ + 2)) (F.C.w (s.at_ + 3)) = true) :
    Calls Tryd.prog 19 #[.pointer (some ⟨x, 0, none⟩)] w fun e w' => StP w B x F s pi ci ins ⟨s.at_ + 2, s.dep - 0 + 1, s.seed, s.done, false, s.loose + 1⟩ e w' := by
  obtain ⟨sa, sd, ss, so, sw, sl⟩ := s
  simp only at hw hin hwi hd hst hlo hf
  subst hwi
  obtain ⟨va, hva⟩ : ∃ v, F.C.w (sa + 1) = v := ⟨_, rfl⟩
  rw [hva] at hf
  have H0 : Hid (∀ V, WK V B x F ⟨sa, sd, ss, so, false, sl⟩ pi ci ins → Calls Tryd.prog 28 #[.pointer (some ⟨x, 0, none⟩), .int .i64 0] V fun e w' => e = .returned (.int .i64 5) ∧ ∃ n, w' = V.drewN n) := fun V hV => by
    have := word_ok hV 0 (by show sa + 0 < F.e0; omega) (by omega)
    rw [show (⟨sa, sd, ss, so, false, sl⟩ : WS).at_ + 0 = sa + 0 from rfl, Nat.add_zero, hw] at this
    exact this
  have H1 : Hid (∀ V, WK V B x F ⟨sa, sd, ss, so, false, sl⟩ pi ci ins → Calls Tryd.prog 28 #[.pointer (some ⟨x, 0, none⟩), .int .i64 1] V fun e w' => e = .returned (.int .i64 va) ∧ ∃ n, w' = V.drewN n) := fun V hV => by
    have := word_ok hV 1 (by show sa + 1 < F.e0; omega) (by omega)
    rw [show (⟨sa, sd, ss, so, false, sl⟩ : WS).at_ + 1 = sa + 1 from rfl, hva] at this
    exact this
  have HZ : Hid (∀ V, Calls Tryd.prog 29 #[.int .i64 5] V fun e w' => e = .returned (.int .i64 2) ∧ w' = V) := fun V => size_ok 5 V (by decide) (by decide)
  have en := h.en
  have n4 := h.n4
  have HB : Hid (∀ V, WK V B x F ⟨sa, sd, ss, so, false, sl⟩ pi ci ins → V.cell? ⟨x, 17, none⟩ = some (.bool false) ∧ V.cell? ⟨x, 18, none⟩ = some (.int .i64 (sl : Int)) ∧ V.frozen? ⟨x, 18, none⟩ = false ∧ (V.setCell ⟨x, 18, none⟩ (.int .i64 ((sl : Int) + 1))).cell? ⟨x, 12, none⟩ = some (.int .i64 (sa : Int)) ∧ Fr [x] V (V.setCell ⟨x, 18, none⟩ (.int .i64 ((sl : Int) + 1))) ∧ WK (V.setCell ⟨x, 18, none⟩ (.int .i64 ((sl : Int) + 1))) B x F ⟨sa, sd, ss, so, false, sl + 1⟩ pi ci ins) := fun V hV => by
    have e1 : I (sl + 1) = .int .i64 ((sl : Int) + 1) := rfl
    have := hV.bump (sl + 1) hlo
    rw [e1] at this
    exact ⟨hV.cell 17, hV.cell 18, hV.fz 18, this.1.cell 12, this.2, this.1⟩
  have HNm : Hid (∀ V, WK V B x F ⟨sa, sd, ss, so, false, sl + 1⟩ pi ci ins → Calls Tryd.prog 31 #[.pointer (some ⟨x, 0, none⟩), .int .i64 5, .int .i64 va, .int .i64 0] V fun e w' => e = .returned (.bool true) ∧ w' = V) := fun V hV => named_ok hV 5 va 0 (F.C.w (sa + 3)) (by decide) (by simpa [fitP] using hf)
  have HNd := mkHid (needs_ok x)
  have HM : Hid (∀ V, WK V B x F ⟨sa, sd, ss, so, false, sl + 1⟩ pi ci ins → Calls Tryd.prog 32 #[.pointer (some ⟨x, 0, none⟩), .int .i64 0, .int .i64 1] V fun e w' => e = .returned (.tuple #[]) ∧ Fr [x] V w' ∧ WK w' B x F ⟨sa, sd - 0 + 1, ss, so, false, sl + 1⟩ pi ci ins) := fun V hV => mv_ok hV 0 1 (sd - 0 + 1) (by decide) hd rfl hst
  have HE : Hid (∀ V, WK V B x F ⟨sa, sd - 0 + 1, ss, so, false, sl + 1⟩ pi ci ins → V.cell? ⟨x, 12, none⟩ = some (.int .i64 (sa : Int)) ∧ V.frozen? ⟨x, 12, none⟩ = false ∧ WK (V.setCell ⟨x, 12, none⟩ (.int .i64 ((sa : Int) + 2))) B x F ⟨sa + 2, sd - 0 + 1, ss, so, false, sl + 1⟩ pi ci ins ∧ Fr [x] V (V.setCell ⟨x, 12, none⟩ (.int .i64 ((sa : Int) + 2)))) := fun V hV => by
    have e1 : I (sa + 2) = .int .i64 ((sa : Int) + 2) := rfl
    have := hV.goes (sa + 2) (by omega)
    rw [e1] at this
    exact ⟨hV.cell 12, hV.fz 12, this.1, this.2⟩
  have K0 := mkHid h
  have F0 : Hid (Fr [x] w w) := Fr.refl _ _
  clear h hw hf hva
  go_enter Tryd.func19, Tryd.ntmps19
  go_wp2_with (first
    | (go_at_call 28; refine (H0.out _ K0.out).mono ?_; rintro e v1 ⟨rfl, n1, hn1⟩; have k1 := K0.out.dr n1; have f1 := F0.out.x2 (Fr.drewN [x] _ n1); rw [← hn1] at k1 f1; have K1 := mkHid k1; have F1 := mkHid f1; clear hn1 k1 f1; clear H0)
    | (go_at_call 28; refine (H1.out _ K1.out).mono ?_; rintro e v2 ⟨rfl, n2, hn2⟩; have k2 := K1.out.dr n2; have f2 := F1.out.x2 (Fr.drewN [x] _ n2); rw [← hn2] at k2 f2; have K2 := mkHid k2; have F2 := mkHid f2; clear hn2 k2 f2; clear H1; obtain ⟨c1, c2, c3, c4, c5, c6⟩ := HB.out _ K2.out; have C5 := mkHid (F2.out.x2 c5); have C6 := mkHid c6; clear c5 c6)
    | (go_at_call 29; refine (HZ.out _).mono ?_; rintro e w' ⟨rfl, hw'⟩; rw [hw']; clear hw' w')
    | (go_at_call 31; refine (HNm.out _ C6.out).mono ?_; rintro e w' ⟨rfl, hw'⟩; rw [hw']; clear hw' w')
    | (go_at_call 30; refine (HNd.out _).mono ?_; rintro e w' ⟨rfl, hw'⟩; rw [hw']; clear hw' w')
    | (go_at_call 32; refine (HM.out _ C6.out).mono ?_; rintro e w2 ⟨rfl, f2, k2⟩; obtain ⟨d1, d2, d3, d4⟩ := HE.out _ k2; have HD3 := mkHid d3; have HD4 := mkHid ((C5.out.x2 f2).x2 d4); clear f2 k2 d3 d4))
  go_end0
  exact ⟨rfl, HD4.out, HD3.out⟩
set_option maxRecDepth 100000 in
set_option maxHeartbeats 4000000 in
theorem step_6 (h : WK w B x F s pi ci ins) (hw : F.C.w s.at_ = 6) (hin : s.at_ + 2 ≤ F.e0) (hwi : s.wild = false) (hd : 0 ≤ s.dep) (hst : s.dep - 0 + 1 ≤ F.h.stack) (hlo : s.loose + 1 ≤ 5000) (hf : fitP F.C.b F.C.lits F.sc 6 (F.C.w (s.at_ + 1)) (F.C.w (s.at_ + 2)) (F.C.w (s.at_ + 3)) = true) :
    Calls Tryd.prog 19 #[.pointer (some ⟨x, 0, none⟩)] w fun e w' => StP w B x F s pi ci ins ⟨s.at_ + 2, s.dep - 0 + 1, s.seed, s.done, false, s.loose + 1⟩ e w' := by
  obtain ⟨sa, sd, ss, so, sw, sl⟩ := s
  simp only at hw hin hwi hd hst hlo hf
  subst hwi
  obtain ⟨va, hva⟩ : ∃ v, F.C.w (sa + 1) = v := ⟨_, rfl⟩
  rw [hva] at hf
  have H0 : Hid (∀ V, WK V B x F ⟨sa, sd, ss, so, false, sl⟩ pi ci ins → Calls Tryd.prog 28 #[.pointer (some ⟨x, 0, none⟩), .int .i64 0] V fun e w' => e = .returned (.int .i64 6) ∧ ∃ n, w' = V.drewN n) := fun V hV => by
    have := word_ok hV 0 (by show sa + 0 < F.e0; omega) (by omega)
    rw [show (⟨sa, sd, ss, so, false, sl⟩ : WS).at_ + 0 = sa + 0 from rfl, Nat.add_zero, hw] at this
    exact this
  have H1 : Hid (∀ V, WK V B x F ⟨sa, sd, ss, so, false, sl⟩ pi ci ins → Calls Tryd.prog 28 #[.pointer (some ⟨x, 0, none⟩), .int .i64 1] V fun e w' => e = .returned (.int .i64 va) ∧ ∃ n, w' = V.drewN n) := fun V hV => by
    have := word_ok hV 1 (by show sa + 1 < F.e0; omega) (by omega)
    rw [show (⟨sa, sd, ss, so, false, sl⟩ : WS).at_ + 1 = sa + 1 from rfl, hva] at this
    exact this
  have HZ : Hid (∀ V, Calls Tryd.prog 29 #[.int .i64 6] V fun e w' => e = .returned (.int .i64 2) ∧ w' = V) := fun V => size_ok 6 V (by decide) (by decide)
  have en := h.en
  have n4 := h.n4
  have HB : Hid (∀ V, WK V B x F ⟨sa, sd, ss, so, false, sl⟩ pi ci ins → V.cell? ⟨x, 17, none⟩ = some (.bool false) ∧ V.cell? ⟨x, 18, none⟩ = some (.int .i64 (sl : Int)) ∧ V.frozen? ⟨x, 18, none⟩ = false ∧ (V.setCell ⟨x, 18, none⟩ (.int .i64 ((sl : Int) + 1))).cell? ⟨x, 12, none⟩ = some (.int .i64 (sa : Int)) ∧ Fr [x] V (V.setCell ⟨x, 18, none⟩ (.int .i64 ((sl : Int) + 1))) ∧ WK (V.setCell ⟨x, 18, none⟩ (.int .i64 ((sl : Int) + 1))) B x F ⟨sa, sd, ss, so, false, sl + 1⟩ pi ci ins) := fun V hV => by
    have e1 : I (sl + 1) = .int .i64 ((sl : Int) + 1) := rfl
    have := hV.bump (sl + 1) hlo
    rw [e1] at this
    exact ⟨hV.cell 17, hV.cell 18, hV.fz 18, this.1.cell 12, this.2, this.1⟩
  have HNm : Hid (∀ V, WK V B x F ⟨sa, sd, ss, so, false, sl + 1⟩ pi ci ins → Calls Tryd.prog 31 #[.pointer (some ⟨x, 0, none⟩), .int .i64 6, .int .i64 va, .int .i64 0] V fun e w' => e = .returned (.bool true) ∧ w' = V) := fun V hV => named_ok hV 6 va 0 (F.C.w (sa + 3)) (by decide) (by simpa [fitP] using hf)
  have HNd := mkHid (needs_ok x)
  have HM : Hid (∀ V, WK V B x F ⟨sa, sd, ss, so, false, sl + 1⟩ pi ci ins → Calls Tryd.prog 32 #[.pointer (some ⟨x, 0, none⟩), .int .i64 0, .int .i64 1] V fun e w' => e = .returned (.tuple #[]) ∧ Fr [x] V w' ∧ WK w' B x F ⟨sa, sd - 0 + 1, ss, so, false, sl + 1⟩ pi ci ins) := fun V hV => mv_ok hV 0 1 (sd - 0 + 1) (by decide) hd rfl hst
  have HE : Hid (∀ V, WK V B x F ⟨sa, sd - 0 + 1, ss, so, false, sl + 1⟩ pi ci ins → V.cell? ⟨x, 12, none⟩ = some (.int .i64 (sa : Int)) ∧ V.frozen? ⟨x, 12, none⟩ = false ∧ WK (V.setCell ⟨x, 12, none⟩ (.int .i64 ((sa : Int) + 2))) B x F ⟨sa + 2, sd - 0 + 1, ss, so, false, sl + 1⟩ pi ci ins ∧ Fr [x] V (V.setCell ⟨x, 12, none⟩ (.int .i64 ((sa : Int) + 2)))) := fun V hV => by
    have e1 : I (sa + 2) = .int .i64 ((sa : Int) + 2) := rfl
    have := hV.goes (sa + 2) (by omega)
    rw [e1] at this
    exact ⟨hV.cell 12, hV.fz 12, this.1, this.2⟩
  have K0 := mkHid h
  have F0 : Hid (Fr [x] w w) := Fr.refl _ _
  clear h hw hf hva
  go_enter Tryd.func19, Tryd.ntmps19
  go_wp2_with (first
    | (go_at_call 28; refine (H0.out _ K0.out).mono ?_; rintro e v1 ⟨rfl, n1, hn1⟩; have k1 := K0.out.dr n1; have f1 := F0.out.x2 (Fr.drewN [x] _ n1); rw [← hn1] at k1 f1; have K1 := mkHid k1; have F1 := mkHid f1; clear hn1 k1 f1; clear H0)
    | (go_at_call 28; refine (H1.out _ K1.out).mono ?_; rintro e v2 ⟨rfl, n2, hn2⟩; have k2 := K1.out.dr n2; have f2 := F1.out.x2 (Fr.drewN [x] _ n2); rw [← hn2] at k2 f2; have K2 := mkHid k2; have F2 := mkHid f2; clear hn2 k2 f2; clear H1; obtain ⟨c1, c2, c3, c4, c5, c6⟩ := HB.out _ K2.out; have C5 := mkHid (F2.out.x2 c5); have C6 := mkHid c6; clear c5 c6)
    | (go_at_call 29; refine (HZ.out _).mono ?_; rintro e w' ⟨rfl, hw'⟩; rw [hw']; clear hw' w')
    | (go_at_call 31; refine (HNm.out _ C6.out).mono ?_; rintro e w' ⟨rfl, hw'⟩; rw [hw']; clear hw' w')
    | (go_at_call 30; refine (HNd.out _).mono ?_; rintro e w' ⟨rfl, hw'⟩; rw [hw']; clear hw' w')
    | (go_at_call 32; refine (HM.out _ C6.out).mono ?_; rintro e w2 ⟨rfl, f2, k2⟩; obtain ⟨d1, d2, d3, d4⟩ := HE.out _ k2; have HD3 := mkHid d3; have HD4 := mkHid ((C5.out.x2 f2).x2 d4); clear f2 k2 d3 d4))
  go_end0
  exact ⟨rfl, HD4.out, HD3.out⟩
set_option maxRecDepth 100000 in
set_option maxHeartbeats 4000000 in
theorem step_7 (h : WK w B x F s pi ci ins) (hw : F.C.w s.at_ = 7) (hin : s.at_ + 2 ≤ F.e0) (hwi : s.wild = false) (hd : 0 ≤ s.dep) (hst : s.dep - 0 + 1 ≤ F.h.stack) (hlo : s.loose + 1 ≤ 5000) (hf : fitP F.C.b F.C.lits F.sc 7 (F.C.w (s.at_ + 1)) (F.C.w (s.at_ + 2)) (F.C.w (s.at_ + 3)) = true) :
    Calls Tryd.prog 19 #[.pointer (some ⟨x, 0, none⟩)] w fun e w' => StP w B x F s pi ci ins ⟨s.at_ + 2, s.dep - 0 + 1, s.seed, s.done, false, s.loose + 1⟩ e w' := by
  obtain ⟨sa, sd, ss, so, sw, sl⟩ := s
  simp only at hw hin hwi hd hst hlo hf
  subst hwi
  obtain ⟨va, hva⟩ : ∃ v, F.C.w (sa + 1) = v := ⟨_, rfl⟩
  rw [hva] at hf
  have H0 : Hid (∀ V, WK V B x F ⟨sa, sd, ss, so, false, sl⟩ pi ci ins → Calls Tryd.prog 28 #[.pointer (some ⟨x, 0, none⟩), .int .i64 0] V fun e w' => e = .returned (.int .i64 7) ∧ ∃ n, w' = V.drewN n) := fun V hV => by
    have := word_ok hV 0 (by show sa + 0 < F.e0; omega) (by omega)
    rw [show (⟨sa, sd, ss, so, false, sl⟩ : WS).at_ + 0 = sa + 0 from rfl, Nat.add_zero, hw] at this
    exact this
  have H1 : Hid (∀ V, WK V B x F ⟨sa, sd, ss, so, false, sl⟩ pi ci ins → Calls Tryd.prog 28 #[.pointer (some ⟨x, 0, none⟩), .int .i64 1] V fun e w' => e = .returned (.int .i64 va) ∧ ∃ n, w' = V.drewN n) := fun V hV => by
    have := word_ok hV 1 (by show sa + 1 < F.e0; omega) (by omega)
    rw [show (⟨sa, sd, ss, so, false, sl⟩ : WS).at_ + 1 = sa + 1 from rfl, hva] at this
    exact this
  have HZ : Hid (∀ V, Calls Tryd.prog 29 #[.int .i64 7] V fun e w' => e = .returned (.int .i64 2) ∧ w' = V) := fun V => size_ok 7 V (by decide) (by decide)
  have en := h.en
  have n4 := h.n4
  have HB : Hid (∀ V, WK V B x F ⟨sa, sd, ss, so, false, sl⟩ pi ci ins → V.cell? ⟨x, 17, none⟩ = some (.bool false) ∧ V.cell? ⟨x, 18, none⟩ = some (.int .i64 (sl : Int)) ∧ V.frozen? ⟨x, 18, none⟩ = false ∧ (V.setCell ⟨x, 18, none⟩ (.int .i64 ((sl : Int) + 1))).cell? ⟨x, 12, none⟩ = some (.int .i64 (sa : Int)) ∧ Fr [x] V (V.setCell ⟨x, 18, none⟩ (.int .i64 ((sl : Int) + 1))) ∧ WK (V.setCell ⟨x, 18, none⟩ (.int .i64 ((sl : Int) + 1))) B x F ⟨sa, sd, ss, so, false, sl + 1⟩ pi ci ins) := fun V hV => by
    have e1 : I (sl + 1) = .int .i64 ((sl : Int) + 1) := rfl
    have := hV.bump (sl + 1) hlo
    rw [e1] at this
    exact ⟨hV.cell 17, hV.cell 18, hV.fz 18, this.1.cell 12, this.2, this.1⟩
  have HNm : Hid (∀ V, WK V B x F ⟨sa, sd, ss, so, false, sl + 1⟩ pi ci ins → Calls Tryd.prog 31 #[.pointer (some ⟨x, 0, none⟩), .int .i64 7, .int .i64 va, .int .i64 0] V fun e w' => e = .returned (.bool true) ∧ w' = V) := fun V hV => named_ok hV 7 va 0 (F.C.w (sa + 3)) (by decide) (by simpa [fitP] using hf)
  have HNd := mkHid (needs_ok x)
  have HM : Hid (∀ V, WK V B x F ⟨sa, sd, ss, so, false, sl + 1⟩ pi ci ins → Calls Tryd.prog 32 #[.pointer (some ⟨x, 0, none⟩), .int .i64 0, .int .i64 1] V fun e w' => e = .returned (.tuple #[]) ∧ Fr [x] V w' ∧ WK w' B x F ⟨sa, sd - 0 + 1, ss, so, false, sl + 1⟩ pi ci ins) := fun V hV => mv_ok hV 0 1 (sd - 0 + 1) (by decide) hd rfl hst
  have HE : Hid (∀ V, WK V B x F ⟨sa, sd - 0 + 1, ss, so, false, sl + 1⟩ pi ci ins → V.cell? ⟨x, 12, none⟩ = some (.int .i64 (sa : Int)) ∧ V.frozen? ⟨x, 12, none⟩ = false ∧ WK (V.setCell ⟨x, 12, none⟩ (.int .i64 ((sa : Int) + 2))) B x F ⟨sa + 2, sd - 0 + 1, ss, so, false, sl + 1⟩ pi ci ins ∧ Fr [x] V (V.setCell ⟨x, 12, none⟩ (.int .i64 ((sa : Int) + 2)))) := fun V hV => by
    have e1 : I (sa + 2) = .int .i64 ((sa : Int) + 2) := rfl
    have := hV.goes (sa + 2) (by omega)
    rw [e1] at this
    exact ⟨hV.cell 12, hV.fz 12, this.1, this.2⟩
  have K0 := mkHid h
  have F0 : Hid (Fr [x] w w) := Fr.refl _ _
  clear h hw hf hva
  go_enter Tryd.func19, Tryd.ntmps19
  go_wp2_with (first
    | (go_at_call 28; refine (H0.out _ K0.out).mono ?_; rintro e v1 ⟨rfl, n1, hn1⟩; have k1 := K0.out.dr n1; have f1 := F0.out.x2 (Fr.drewN [x] _ n1); rw [← hn1] at k1 f1; have K1 := mkHid k1; have F1 := mkHid f1; clear hn1 k1 f1; clear H0)
    | (go_at_call 28; refine (H1.out _ K1.out).mono ?_; rintro e v2 ⟨rfl, n2, hn2⟩; have k2 := K1.out.dr n2; have f2 := F1.out.x2 (Fr.drewN [x] _ n2); rw [← hn2] at k2 f2; have K2 := mkHid k2; have F2 := mkHid f2; clear hn2 k2 f2; clear H1; obtain ⟨c1, c2, c3, c4, c5, c6⟩ := HB.out _ K2.out; have C5 := mkHid (F2.out.x2 c5); have C6 := mkHid c6; clear c5 c6)
    | (go_at_call 29; refine (HZ.out _).mono ?_; rintro e w' ⟨rfl, hw'⟩; rw [hw']; clear hw' w')
    | (go_at_call 31; refine (HNm.out _ C6.out).mono ?_; rintro e w' ⟨rfl, hw'⟩; rw [hw']; clear hw' w')
    | (go_at_call 30; refine (HNd.out _).mono ?_; rintro e w' ⟨rfl, hw'⟩; rw [hw']; clear hw' w')
    | (go_at_call 32; refine (HM.out _ C6.out).mono ?_; rintro e w2 ⟨rfl, f2, k2⟩; obtain ⟨d1, d2, d3, d4⟩ := HE.out _ k2; have HD3 := mkHid d3; have HD4 := mkHid ((C5.out.x2 f2).x2 d4); clear f2 k2 d3 d4))
  go_end0
  exact ⟨rfl, HD4.out, HD3.out⟩
set_option maxRecDepth 100000 in
set_option maxHeartbeats 4000000 in
theorem step_8 (h : WK w B x F s pi ci ins) (hw : F.C.w s.at_ = 8) (hin : s.at_ + 2 ≤ F.e0) (hwi : s.wild = false) (hd : 0 ≤ s.dep) (hst : s.dep - 0 + 1 ≤ F.h.stack) (hlo : s.loose + 1 ≤ 5000) (hf : fitP F.C.b F.C.lits F.sc 8 (F.C.w (s.at_ + 1)) (F.C.w (s.at_ + 2)) (F.C.w (s.at_ + 3)) = true) :
    Calls Tryd.prog 19 #[.pointer (some ⟨x, 0, none⟩)] w fun e w' => StP w B x F s pi ci ins ⟨s.at_ + 2, s.dep - 0 + 1, s.seed, s.done, false, s.loose + 1⟩ e w' := by
  obtain ⟨sa, sd, ss, so, sw, sl⟩ := s
  simp only at hw hin hwi hd hst hlo hf
  subst hwi
  obtain ⟨va, hva⟩ : ∃ v, F.C.w (sa + 1) = v := ⟨_, rfl⟩
  rw [hva] at hf
  have H0 : Hid (∀ V, WK V B x F ⟨sa, sd, ss, so, false, sl⟩ pi ci ins → Calls Tryd.prog 28 #[.pointer (some ⟨x, 0, none⟩), .int .i64 0] V fun e w' => e = .returned (.int .i64 8) ∧ ∃ n, w' = V.drewN n) := fun V hV => by
    have := word_ok hV 0 (by show sa + 0 < F.e0; omega) (by omega)
    rw [show (⟨sa, sd, ss, so, false, sl⟩ : WS).at_ + 0 = sa + 0 from rfl, Nat.add_zero, hw] at this
    exact this
  have H1 : Hid (∀ V, WK V B x F ⟨sa, sd, ss, so, false, sl⟩ pi ci ins → Calls Tryd.prog 28 #[.pointer (some ⟨x, 0, none⟩), .int .i64 1] V fun e w' => e = .returned (.int .i64 va) ∧ ∃ n, w' = V.drewN n) := fun V hV => by
    have := word_ok hV 1 (by show sa + 1 < F.e0; omega) (by omega)
    rw [show (⟨sa, sd, ss, so, false, sl⟩ : WS).at_ + 1 = sa + 1 from rfl, hva] at this
    exact this
  have HZ : Hid (∀ V, Calls Tryd.prog 29 #[.int .i64 8] V fun e w' => e = .returned (.int .i64 2) ∧ w' = V) := fun V => size_ok 8 V (by decide) (by decide)
  have en := h.en
  have n4 := h.n4
  have HB : Hid (∀ V, WK V B x F ⟨sa, sd, ss, so, false, sl⟩ pi ci ins → V.cell? ⟨x, 17, none⟩ = some (.bool false) ∧ V.cell? ⟨x, 18, none⟩ = some (.int .i64 (sl : Int)) ∧ V.frozen? ⟨x, 18, none⟩ = false ∧ (V.setCell ⟨x, 18, none⟩ (.int .i64 ((sl : Int) + 1))).cell? ⟨x, 12, none⟩ = some (.int .i64 (sa : Int)) ∧ Fr [x] V (V.setCell ⟨x, 18, none⟩ (.int .i64 ((sl : Int) + 1))) ∧ WK (V.setCell ⟨x, 18, none⟩ (.int .i64 ((sl : Int) + 1))) B x F ⟨sa, sd, ss, so, false, sl + 1⟩ pi ci ins) := fun V hV => by
    have e1 : I (sl + 1) = .int .i64 ((sl : Int) + 1) := rfl
    have := hV.bump (sl + 1) hlo
    rw [e1] at this
    exact ⟨hV.cell 17, hV.cell 18, hV.fz 18, this.1.cell 12, this.2, this.1⟩
  have HNm : Hid (∀ V, WK V B x F ⟨sa, sd, ss, so, false, sl + 1⟩ pi ci ins → Calls Tryd.prog 31 #[.pointer (some ⟨x, 0, none⟩), .int .i64 8, .int .i64 va, .int .i64 0] V fun e w' => e = .returned (.bool true) ∧ w' = V) := fun V hV => named_ok hV 8 va 0 (F.C.w (sa + 3)) (by decide) (by simpa [fitP] using hf)
  have HNd := mkHid (needs_ok x)
  have HM : Hid (∀ V, WK V B x F ⟨sa, sd, ss, so, false, sl + 1⟩ pi ci ins → Calls Tryd.prog 32 #[.pointer (some ⟨x, 0, none⟩), .int .i64 0, .int .i64 1] V fun e w' => e = .returned (.tuple #[]) ∧ Fr [x] V w' ∧ WK w' B x F ⟨sa, sd - 0 + 1, ss, so, false, sl + 1⟩ pi ci ins) := fun V hV => mv_ok hV 0 1 (sd - 0 + 1) (by decide) hd rfl hst
  have HE : Hid (∀ V, WK V B x F ⟨sa, sd - 0 + 1, ss, so, false, sl + 1⟩ pi ci ins → V.cell? ⟨x, 12, none⟩ = some (.int .i64 (sa : Int)) ∧ V.frozen? ⟨x, 12, none⟩ = false ∧ WK (V.setCell ⟨x, 12, none⟩ (.int .i64 ((sa : Int) + 2))) B x F ⟨sa + 2, sd - 0 + 1, ss, so, false, sl + 1⟩ pi ci ins ∧ Fr [x] V (V.setCell ⟨x, 12, none⟩ (.int .i64 ((sa : Int) + 2)))) := fun V hV => by
    have e1 : I (sa + 2) = .int .i64 ((sa : Int) + 2) := rfl
    have := hV.goes (sa + 2) (by omega)
    rw [e1] at this
    exact ⟨hV.cell 12, hV.fz 12, this.1, this.2⟩
  have K0 := mkHid h
  have F0 : Hid (Fr [x] w w) := Fr.refl _ _
  clear h hw hf hva
  go_enter Tryd.func19, Tryd.ntmps19
  go_wp2_with (first
    | (go_at_call 28; refine (H0.out _ K0.out).mono ?_; rintro e v1 ⟨rfl, n1, hn1⟩; have k1 := K0.out.dr n1; have f1 := F0.out.x2 (Fr.drewN [x] _ n1); rw [← hn1] at k1 f1; have K1 := mkHid k1; have F1 := mkHid f1; clear hn1 k1 f1; clear H0)
    | (go_at_call 28; refine (H1.out _ K1.out).mono ?_; rintro e v2 ⟨rfl, n2, hn2⟩; have k2 := K1.out.dr n2; have f2 := F1.out.x2 (Fr.drewN [x] _ n2); rw [← hn2] at k2 f2; have K2 := mkHid k2; have F2 := mkHid f2; clear hn2 k2 f2; clear H1; obtain ⟨c1, c2, c3, c4, c5, c6⟩ := HB.out _ K2.out; have C5 := mkHid (F2.out.x2 c5); have C6 := mkHid c6; clear c5 c6)
    | (go_at_call 29; refine (HZ.out _).mono ?_; rintro e w' ⟨rfl, hw'⟩; rw [hw']; clear hw' w')
    | (go_at_call 31; refine (HNm.out _ C6.out).mono ?_; rintro e w' ⟨rfl, hw'⟩; rw [hw']; clear hw' w')
    | (go_at_call 30; refine (HNd.out _).mono ?_; rintro e w' ⟨rfl, hw'⟩; rw [hw']; clear hw' w')
    | (go_at_call 32; refine (HM.out _ C6.out).mono ?_; rintro e w2 ⟨rfl, f2, k2⟩; obtain ⟨d1, d2, d3, d4⟩ := HE.out _ k2; have HD3 := mkHid d3; have HD4 := mkHid ((C5.out.x2 f2).x2 d4); clear f2 k2 d3 d4))
  go_end0
  exact ⟨rfl, HD4.out, HD3.out⟩
set_option maxRecDepth 100000 in
set_option maxHeartbeats 4000000 in
theorem step_9 (h : WK w B x F s pi ci ins) (hw : F.C.w s.at_ = 9) (hin : s.at_ + 2 ≤ F.e0) (hwi : s.wild = false) (hd : 0 ≤ s.dep) (hst : s.dep - 0 + 1 ≤ F.h.stack) (hlo : s.loose + 1 ≤ 5000) (hf : fitP F.C.b F.C.lits F.sc 9 (F.C.w (s.at_ + 1)) (F.C.w (s.at_ + 2)) (F.C.w (s.at_ + 3)) = true) :
    Calls Tryd.prog 19 #[.pointer (some ⟨x, 0, none⟩)] w fun e w' => StP w B x F s pi ci ins ⟨s.at_ + 2, s.dep - 0 + 1, s.seed, s.done, false, s.loose + 1⟩ e w' := by
  obtain ⟨sa, sd, ss, so, sw, sl⟩ := s
  simp only at hw hin hwi hd hst hlo hf
  subst hwi
  obtain ⟨va, hva⟩ : ∃ v, F.C.w (sa + 1) = v := ⟨_, rfl⟩
  rw [hva] at hf
  have H0 : Hid (∀ V, WK V B x F ⟨sa, sd, ss, so, false, sl⟩ pi ci ins → Calls Tryd.prog 28 #[.pointer (some ⟨x, 0, none⟩), .int .i64 0] V fun e w' => e = .returned (.int .i64 9) ∧ ∃ n, w' = V.drewN n) := fun V hV => by
    have := word_ok hV 0 (by show sa + 0 < F.e0; omega) (by omega)
    rw [show (⟨sa, sd, ss, so, false, sl⟩ : WS).at_ + 0 = sa + 0 from rfl, Nat.add_zero, hw] at this
    exact this
  have H1 : Hid (∀ V, WK V B x F ⟨sa, sd, ss, so, false, sl⟩ pi ci ins → Calls Tryd.prog 28 #[.pointer (some ⟨x, 0, none⟩), .int .i64 1] V fun e w' => e = .returned (.int .i64 va) ∧ ∃ n, w' = V.drewN n) := fun V hV => by
    have := word_ok hV 1 (by show sa + 1 < F.e0; omega) (by omega)
    rw [show (⟨sa, sd, ss, so, false, sl⟩ : WS).at_ + 1 = sa + 1 from rfl, hva] at this
    exact this
  have HZ : Hid (∀ V, Calls Tryd.prog 29 #[.int .i64 9] V fun e w' => e = .returned (.int .i64 2) ∧ w' = V) := fun V => size_ok 9 V (by decide) (by decide)
  have en := h.en
  have n4 := h.n4
  have HB : Hid (∀ V, WK V B x F ⟨sa, sd, ss, so, false, sl⟩ pi ci ins → V.cell? ⟨x, 17, none⟩ = some (.bool false) ∧ V.cell? ⟨x, 18, none⟩ = some (.int .i64 (sl : Int)) ∧ V.frozen? ⟨x, 18, none⟩ = false ∧ (V.setCell ⟨x, 18, none⟩ (.int .i64 ((sl : Int) + 1))).cell? ⟨x, 12, none⟩ = some (.int .i64 (sa : Int)) ∧ Fr [x] V (V.setCell ⟨x, 18, none⟩ (.int .i64 ((sl : Int) + 1))) ∧ WK (V.setCell ⟨x, 18, none⟩ (.int .i64 ((sl : Int) + 1))) B x F ⟨sa, sd, ss, so, false, sl + 1⟩ pi ci ins) := fun V hV => by
    have e1 : I (sl + 1) = .int .i64 ((sl : Int) + 1) := rfl
    have := hV.bump (sl + 1) hlo
    rw [e1] at this
    exact ⟨hV.cell 17, hV.cell 18, hV.fz 18, this.1.cell 12, this.2, this.1⟩
  have HNm : Hid (∀ V, WK V B x F ⟨sa, sd, ss, so, false, sl + 1⟩ pi ci ins → Calls Tryd.prog 31 #[.pointer (some ⟨x, 0, none⟩), .int .i64 9, .int .i64 va, .int .i64 0] V fun e w' => e = .returned (.bool true) ∧ w' = V) := fun V hV => named_ok hV 9 va 0 (F.C.w (sa + 3)) (by decide) (by simpa [fitP] using hf)
  have HNd := mkHid (needs_ok x)
  have HM : Hid (∀ V, WK V B x F ⟨sa, sd, ss, so, false, sl + 1⟩ pi ci ins → Calls Tryd.prog 32 #[.pointer (some ⟨x, 0, none⟩), .int .i64 0, .int .i64 1] V fun e w' => e = .returned (.tuple #[]) ∧ Fr [x] V w' ∧ WK w' B x F ⟨sa, sd - 0 + 1, ss, so, false, sl + 1⟩ pi ci ins) := fun V hV => mv_ok hV 0 1 (sd - 0 + 1) (by decide) hd rfl hst
  have HE : Hid (∀ V, WK V B x F ⟨sa, sd - 0 + 1, ss, so, false, sl + 1⟩ pi ci ins → V.cell? ⟨x, 12, none⟩ = some (.int .i64 (sa : Int)) ∧ V.frozen? ⟨x, 12, none⟩ = false ∧ WK (V.setCell ⟨x, 12, none⟩ (.int .i64 ((sa : Int) + 2))) B x F ⟨sa + 2, sd - 0 + 1, ss, so, false, sl + 1⟩ pi ci ins ∧ Fr [x] V (V.setCell ⟨x, 12, none⟩ (.int .i64 ((sa : Int) + 2)))) := fun V hV => by
    have e1 : I (sa + 2) = .int .i64 ((sa : Int) + 2) := rfl
    have := hV.goes (sa + 2) (by omega)
    rw [e1] at this
    exact ⟨hV.cell 12, hV.fz 12, this.1, this.2⟩
  have K0 := mkHid h
  have F0 : Hid (Fr [x] w w) := Fr.refl _ _
  clear h hw hf hva
  go_enter Tryd.func19, Tryd.ntmps19
  go_wp2_with (first
    | (go_at_call 28; refine (H0.out _ K0.out).mono ?_; rintro e v1 ⟨rfl, n1, hn1⟩; have k1 := K0.out.dr n1; have f1 := F0.out.x2 (Fr.drewN [x] _ n1); rw [← hn1] at k1 f1; have K1 := mkHid k1; have F1 := mkHid f1; clear hn1 k1 f1; clear H0)
    | (go_at_call 28; refine (H1.out _ K1.out).mono ?_; rintro e v2 ⟨rfl, n2, hn2⟩; have k2 := K1.out.dr n2; have f2 := F1.out.x2 (Fr.drewN [x] _ n2); rw [← hn2] at k2 f2; have K2 := mkHid k2; have F2 := mkHid f2; clear hn2 k2 f2; clear H1; obtain ⟨c1, c2, c3, c4, c5, c6⟩ := HB.out _ K2.out; have C5 := mkHid (F2.out.x2 c5); have C6 := mkHid c6; clear c5 c6)
    | (go_at_call 29; refine (HZ.out _).mono ?_; rintro e w' ⟨rfl, hw'⟩; rw [hw']; clear hw' w')
    | (go_at_call 31; refine (HNm.out _ C6.out).mono ?_; rintro e w' ⟨rfl, hw'⟩; rw [hw']; clear hw' w')
    | (go_at_call 30; refine (HNd.out _).mono ?_; rintro e w' ⟨rfl, hw'⟩; rw [hw']; clear hw' w')
    | (go_at_call 32; refine (HM.out _ C6.out).mono ?_; rintro e w2 ⟨rfl, f2, k2⟩; obtain ⟨d1, d2, d3, d4⟩ := HE.out _ k2; have HD3 := mkHid d3; have HD4 := mkHid ((C5.out.x2 f2).x2 d4); clear f2 k2 d3 d4))
  go_end0
  exact ⟨rfl, HD4.out, HD3.out⟩
end
end Go.Proofs.YtdflpoldlokijaaDoor
