import Derived.Test.YtdflpoldlokijaaDoorSG32CStp7
namespace Go.Proofs.YtdflpoldlokijaaDoor
open Go.RowKit
set_option linter.unusedVariables false
set_option linter.unusedSimpArgs false
attribute [local go_sem ↓] Go.wp_at_zero Go.wp_at_succ
section
variable {w : World} {B x : Nat} {F : Fx} {s : WS} {pi : Option Addr} {ci : Nat} {ins : List In}
set_option maxRecDepth 100000 in
set_option maxHeartbeats 4000000 in
theorem step_26 (h : WK w B x F s pi ci ins) (hw : F.C.w s.at_ = 26) (hin : s.at_ + 2 ≤ F.e0) (hwi : s.wild = false) (hlo : s.loose + 1 ≤ 5000) (ok : Int → WS → Prop) (HL : ∀ V, WK V B x F ⟨s.at_, s.dep, s.seed, s.done, false, s.loose + 1⟩ pi ci ins → Calls Tryd.prog 34 #[.pointer (some ⟨x, 0, none⟩), .int .i64 26, .int .i64 (F.C.w (s.at_ + 1)), .int .i64 0, .int .i64 ((s.at_ : Int) + 2)] V fun e w' => LdP V B x F ⟨s.at_, s.dep, s.seed, s.done, false, s.loose + 1⟩ pi ci ins ok e w') (hok : ∀ t s', ok t s' → ∃ m : Nat, t = (m : Int) ∧ m ≤ 4096) :
    Calls Tryd.prog 19 #[.pointer (some ⟨x, 0, none⟩)] w fun e w' => StL w B x F pi ci ins ok e w' := by
  obtain ⟨sa, sd, ss, so, sw, sl0⟩ := s
  simp only at hw hin hwi hlo HL
  subst hwi
  obtain ⟨va, hva⟩ : ∃ v, F.C.w (sa + 1) = v := ⟨_, rfl⟩
  rw [hva] at HL
  have H0 : Hid (∀ V, WK V B x F ⟨sa, sd, ss, so, false, sl0⟩ pi ci ins → Calls Tryd.prog 28 #[.pointer (some ⟨x, 0, none⟩), .int .i64 0] V fun e w' => e = .returned (.int .i64 26) ∧ ∃ n, w' = V.drewN n) := fun V hV => by
    have := word_ok hV 0 (by show sa + 0 < F.e0; omega) (by omega)
    rw [show (⟨sa, sd, ss, so, false, sl0⟩ : WS).at_ + 0 = sa + 0 from rfl, Nat.add_zero, hw] at this
    exact this
  have H1 : Hid (∀ V, WK V B x F ⟨sa, sd, ss, so, false, sl0⟩ pi ci ins → Calls Tryd.prog 28 #[.pointer (some ⟨x, 0, none⟩), .int .i64 1] V fun e w' => e = .returned (.int .i64 va) ∧ ∃ n, w' = V.drewN n) := fun V hV => by
    have := word_ok hV 1 (by show sa + 1 < F.e0; omega) (by omega)
    rw [show (⟨sa, sd, ss, so, false, sl0⟩ : WS).at_ + 1 = sa + 1 from rfl, hva] at this
    exact this
  have HZ : Hid (∀ V, Calls Tryd.prog 29 #[.int .i64 26] V fun e w' => e = .returned (.int .i64 2) ∧ w' = V) := fun V => size_ok 26 V (by decide) (by decide)
  have en := h.en
  have n4 := h.n4
  have HB : Hid (∀ V, WK V B x F ⟨sa, sd, ss, so, false, sl0⟩ pi ci ins → V.cell? ⟨x, 17, none⟩ = some (.bool false) ∧ V.cell? ⟨x, 18, none⟩ = some (.int .i64 (sl0 : Int)) ∧ V.frozen? ⟨x, 18, none⟩ = false ∧ (V.setCell ⟨x, 18, none⟩ (.int .i64 ((sl0 : Int) + 1))).cell? ⟨x, 12, none⟩ = some (.int .i64 (sa : Int)) ∧ Fr [x] V (V.setCell ⟨x, 18, none⟩ (.int .i64 ((sl0 : Int) + 1))) ∧ WK (V.setCell ⟨x, 18, none⟩ (.int .i64 ((sl0 : Int) + 1))) B x F ⟨sa, sd, ss, so, false, sl0 + 1⟩ pi ci ins) := fun V hV => by
    have e1 : I (sl0 + 1) = .int .i64 ((sl0 : Int) + 1) := rfl
    have := hV.bump (sl0 + 1) hlo
    rw [e1] at this
    exact ⟨hV.cell 17, hV.cell 18, hV.fz 18, this.1.cell 12, this.2, this.1⟩
  have HL := mkHid HL
  have HOk := mkHid hok
  have HE : Hid (∀ V s2 (m : Nat), m ≤ 4096 → WK V B x F s2 pi ci ins → V.cell? ⟨x, 12, none⟩ = some (.int .i64 (s2.at_ : Int)) ∧ V.frozen? ⟨x, 12, none⟩ = false ∧ WK (V.setCell ⟨x, 12, none⟩ (.int .i64 (m : Int))) B x F ⟨m, s2.dep, s2.seed, s2.done, s2.wild, s2.loose⟩ pi ci ins ∧ Fr [x] V (V.setCell ⟨x, 12, none⟩ (.int .i64 (m : Int)))) := fun V s2 m hm hV => by
    have := hV.goes m hm
    exact ⟨hV.cell 12, hV.fz 12, this.1, this.2⟩
  have K0 := mkHid h
  have F0 : Hid (Fr [x] w w) := Fr.refl _ _
  clear h hw hok hva
  go_enter Tryd.func19, Tryd.ntmps19
  go_wp2_with (first
    | (go_at_call 28; refine (H0.out _ K0.out).mono ?_; rintro e v1 ⟨rfl, n1, hn1⟩; have k1 := K0.out.dr n1; have f1 := F0.out.x2 (Fr.drewN [x] _ n1); rw [← hn1] at k1 f1; have K1 := mkHid k1; have F1 := mkHid f1; clear hn1 k1 f1; clear H0)
    | (go_at_call 28; refine (H1.out _ K1.out).mono ?_; rintro e v2 ⟨rfl, n2, hn2⟩; have k2 := K1.out.dr n2; have f2 := F1.out.x2 (Fr.drewN [x] _ n2); rw [← hn2] at k2 f2; have K2 := mkHid k2; have F2 := mkHid f2; clear hn2 k2 f2; clear H1; obtain ⟨c1, c2, c3, c4, c5, c6⟩ := HB.out _ K2.out; have C5 := mkHid (F2.out.x2 c5); have C6 := mkHid c6; clear c5 c6)
    | (go_at_call 29; refine (HZ.out _).mono ?_; rintro e w' ⟨rfl, hw'⟩; rw [hw']; clear hw' w')
    | (go_at_call 34; refine (HL.out _ C6.out).mono ?_; rintro e w2 ⟨t, s', rfl, f2, k2, ho⟩; obtain ⟨m, em, hm⟩ := HOk.out t s' ho; subst em; obtain ⟨d1, d2, d3, d4⟩ := HE.out _ _ m hm k2; have HD3 := mkHid d3; have HD4 := mkHid ((C5.out.x2 f2).x2 d4); have HO := mkHid ho; clear f2 k2 d3 d4 ho))
  go_end0
  exact ⟨rfl, HD4.out, m, s', HO.out, HD3.out⟩
set_option maxRecDepth 100000 in
set_option maxHeartbeats 4000000 in
theorem step_27 (h : WK w B x F s pi ci ins) (hw : F.C.w s.at_ = 27) (hin : s.at_ + 3 ≤ F.e0) (hwi : s.wild = false) (hlo : s.loose + 1 ≤ 5000) (ok : Int → WS → Prop) (HL : ∀ V, WK V B x F ⟨s.at_, s.dep, s.seed, s.done, false, s.loose + 1⟩ pi ci ins → Calls Tryd.prog 34 #[.pointer (some ⟨x, 0, none⟩), .int .i64 27, .int .i64 (F.C.w (s.at_ + 1)), .int .i64 (F.C.w (s.at_ + 2)), .int .i64 ((s.at_ : Int) + 3)] V fun e w' => LdP V B x F ⟨s.at_, s.dep, s.seed, s.done, false, s.loose + 1⟩ pi ci ins ok e w') (hok : ∀ t s', ok t s' → ∃ m : Nat, t = (m : Int) ∧ m ≤ 4096) :
    Calls Tryd.prog 19 #[.pointer (some ⟨x, 0, none⟩)] w fun e w' => StL w B x F pi ci ins ok e w' := by
  obtain ⟨sa, sd, ss, so, sw, sl0⟩ := s
  simp only at hw hin hwi hlo HL
  subst hwi
  obtain ⟨va, hva⟩ : ∃ v, F.C.w (sa + 1) = v := ⟨_, rfl⟩
  rw [hva] at HL
  obtain ⟨vb, hvb⟩ : ∃ v, F.C.w (sa + 2) = v := ⟨_, rfl⟩
  rw [hvb] at HL
  have H0 : Hid (∀ V, WK V B x F ⟨sa, sd, ss, so, false, sl0⟩ pi ci ins → Calls Tryd.prog 28 #[.pointer (some ⟨x, 0, none⟩), .int .i64 0] V fun e w' => e = .returned (.int .i64 27) ∧ ∃ n, w' = V.drewN n) := fun V hV => by
    have := word_ok hV 0 (by show sa + 0 < F.e0; omega) (by omega)
    rw [show (⟨sa, sd, ss, so, false, sl0⟩ : WS).at_ + 0 = sa + 0 from rfl, Nat.add_zero, hw] at this
    exact this
  have H1 : Hid (∀ V, WK V B x F ⟨sa, sd, ss, so, false, sl0⟩ pi ci ins → Calls Tryd.prog 28 #[.pointer (some ⟨x, 0, none⟩), .int .i64 1] V fun e w' => e = .returned (.int .i64 va) ∧ ∃ n, w' = V.drewN n) := fun V hV => by
    have := word_ok hV 1 (by show sa + 1 < F.e0; omega) (by omega)
    rw [show (⟨sa, sd, ss, so, false, sl0⟩ : WS).at_ + 1 = sa + 1 from rfl, hva] at this
    exact this
  have H2 : Hid (∀ V, WK V B x F ⟨sa, sd, ss, so, false, sl0⟩ pi ci ins → Calls Tryd.prog 28 #[.pointer (some ⟨x, 0, none⟩), .int .i64 2] V fun e w' => e = .returned (.int .i64 vb) ∧ ∃ n, w' = V.drewN n) := fun V hV => by
    have := word_ok hV 2 (by show sa + 2 < F.e0; omega) (by omega)
    rw [show (⟨sa, sd, ss, so, false, sl0⟩ : WS).at_ + 2 = sa + 2 from rfl, hvb] at this
    exact this
  have HZ : Hid (∀ V, Calls Tryd.prog 29 #[.int .i64 27] V fun e w' => e = .returned (.int .i64 3) ∧ w' = V) := fun V => size_ok 27 V (by decide) (by decide)
  have en := h.en
  have n4 := h.n4
  have HB : Hid (∀ V, WK V B x F ⟨sa, sd, ss, so, false, sl0⟩ pi ci ins → V.cell? ⟨x, 17, none⟩ = some (.bool false) ∧ V.cell? ⟨x, 18, none⟩ = some (.int .i64 (sl0 : Int)) ∧ V.frozen? ⟨x, 18, none⟩ = false ∧ (V.setCell ⟨x, 18, none⟩ (.int .i64 ((sl0 : Int) + 1))).cell? ⟨x, 12, none⟩ = some (.int .i64 (sa : Int)) ∧ Fr [x] V (V.setCell ⟨x, 18, none⟩ (.int .i64 ((sl0 : Int) + 1))) ∧ WK (V.setCell ⟨x, 18, none⟩ (.int .i64 ((sl0 : Int) + 1))) B x F ⟨sa, sd, ss, so, false, sl0 + 1⟩ pi ci ins) := fun V hV => by
    have e1 : I (sl0 + 1) = .int .i64 ((sl0 : Int) + 1) := rfl
    have := hV.bump (sl0 + 1) hlo
    rw [e1] at this
    exact ⟨hV.cell 17, hV.cell 18, hV.fz 18, this.1.cell 12, this.2, this.1⟩
  have HL := mkHid HL
  have HOk := mkHid hok
  have HE : Hid (∀ V s2 (m : Nat), m ≤ 4096 → WK V B x F s2 pi ci ins → V.cell? ⟨x, 12, none⟩ = some (.int .i64 (s2.at_ : Int)) ∧ V.frozen? ⟨x, 12, none⟩ = false ∧ WK (V.setCell ⟨x, 12, none⟩ (.int .i64 (m : Int))) B x F ⟨m, s2.dep, s2.seed, s2.done, s2.wild, s2.loose⟩ pi ci ins ∧ Fr [x] V (V.setCell ⟨x, 12, none⟩ (.int .i64 (m : Int)))) := fun V s2 m hm hV => by
    have := hV.goes m hm
    exact ⟨hV.cell 12, hV.fz 12, this.1, this.2⟩
  have K0 := mkHid h
  have F0 : Hid (Fr [x] w w) := Fr.refl _ _
  clear h hw hok hva hvb
  go_enter Tryd.func19, Tryd.ntmps19
  go_wp2_with (first
    | (go_at_call 28; refine (H0.out _ K0.out).mono ?_; rintro e v1 ⟨rfl, n1, hn1⟩; have k1 := K0.out.dr n1; have f1 := F0.out.x2 (Fr.drewN [x] _ n1); rw [← hn1] at k1 f1; have K1 := mkHid k1; have F1 := mkHid f1; clear hn1 k1 f1; clear H0)
    | (go_at_call 28; refine (H1.out _ K1.out).mono ?_; rintro e v2 ⟨rfl, n2, hn2⟩; have k2 := K1.out.dr n2; have f2 := F1.out.x2 (Fr.drewN [x] _ n2); rw [← hn2] at k2 f2; have K2 := mkHid k2; have F2 := mkHid f2; clear hn2 k2 f2; clear H1)
    | (go_at_call 28; refine (H2.out _ K2.out).mono ?_; rintro e v3 ⟨rfl, n3, hn3⟩; have k3 := K2.out.dr n3; have f3 := F2.out.x2 (Fr.drewN [x] _ n3); rw [← hn3] at k3 f3; have K3 := mkHid k3; have F3 := mkHid f3; clear hn3 k3 f3; clear H2; obtain ⟨c1, c2, c3, c4, c5, c6⟩ := HB.out _ K3.out; have C5 := mkHid (F3.out.x2 c5); have C6 := mkHid c6; clear c5 c6)
    | (go_at_call 29; refine (HZ.out _).mono ?_; rintro e w' ⟨rfl, hw'⟩; rw [hw']; clear hw' w')
    | (go_at_call 34; refine (HL.out _ C6.out).mono ?_; rintro e w2 ⟨t, s', rfl, f2, k2, ho⟩; obtain ⟨m, em, hm⟩ := HOk.out t s' ho; subst em; obtain ⟨d1, d2, d3, d4⟩ := HE.out _ _ m hm k2; have HD3 := mkHid d3; have HD4 := mkHid ((C5.out.x2 f2).x2 d4); have HO := mkHid ho; clear f2 k2 d3 d4 ho))
  go_end0
  exact ⟨rfl, HD4.out, m, s', HO.out, HD3.out⟩
set_option maxRecDepth 100000 in
set_option maxHeartbeats 4000000 in
theorem step_28 (h : WK w B x F s pi ci ins) (hw : F.C.w s.at_ = 28) (hin : s.at_ + 3 ≤ F.e0) (hwi : s.wild = false) (hlo : s.loose + 1 ≤ 5000) (ok : Int → WS → Prop) (HL : ∀ V, WK V B x F ⟨s.at_, s.dep, s.seed, s.done, false, s.loose + 1⟩ pi ci ins → Calls Tryd.prog 34 #[.pointer (some ⟨x, 0, none⟩), .int .i64 28, .int .i64 (F.C.w (s.at_ + 1)), .int .i64 (F.C.w (s.at_ + 2)), .int .i64 ((s.at_ : Int) + 3)] V fun e w' => LdP V B x F ⟨s.at_, s.dep, s.seed, s.done, false, s.loose + 1⟩ pi ci ins ok e w') (hok : ∀ t s', ok t s' → ∃ m : Nat, t = (m : Int) ∧ m ≤ 4096) :
    Calls Tryd.prog 19 #[.pointer (some ⟨x, 0, none⟩)] w fun e w' => StL w B x F pi ci ins ok e w' := by
  obtain ⟨sa, sd, ss, so, sw, sl0⟩ := s
  simp only at hw hin hwi hlo HL
  subst hwi
  obtain ⟨va, hva⟩ : ∃ v, F.C.w (sa + 1) = v := ⟨_, rfl⟩
  rw [hva] at HL
  obtain ⟨vb, hvb⟩ : ∃ v, F.C.w (sa + 2) = v := ⟨_, rfl⟩
  rw [hvb] at HL
  have H0 : Hid (∀ V, WK V B x F ⟨sa, sd, ss, so, false, sl0⟩ pi ci ins → Calls Tryd.prog 28 #[.pointer (some ⟨x, 0, none⟩), .int .i64 0] V fun e w' => e = .returned (.int .i64 28) ∧ ∃ n, w' = V.drewN n) := fun V hV => by
    have := word_ok hV 0 (by show sa + 0 < F.e0; omega) (by omega)
    rw [show (⟨sa, sd, ss, so, false, sl0⟩ : WS).at_ + 0 = sa + 0 from rfl, Nat.add_zero, hw] at this
    exact this
  have H1 : Hid (∀ V, WK V B x F ⟨sa, sd, ss, so, false, sl0⟩ pi ci ins → Calls Tryd.prog 28 #[.pointer (some ⟨x, 0, none⟩), .int .i64 1] V fun e w' => e = .returned (.int .i64 va) ∧ ∃ n, w' = V.drewN n) := fun V hV => by
    have := word_ok hV 1 (by show sa + 1 < F.e0; omega) (by omega)
    rw [show (⟨sa, sd, ss, so, false, sl0⟩ : WS).at_ + 1 = sa + 1 from rfl, hva] at this
    exact this
  have H2 : Hid (∀ V, WK V B x F ⟨sa, sd, ss, so, false, sl0⟩ pi ci ins → Calls Tryd.prog 28 #[.pointer (some ⟨x, 0, none⟩), .int .i64 2] V fun e w' => e = .returned (.int .i64 vb) ∧ ∃ n, w' = V.drewN n) := fun V hV => by
    have := word_ok hV 2 (by show sa + 2 < F.e0; omega) (by omega)
    rw [show (⟨sa, sd, ss, so, false, sl0⟩ : WS).at_ + 2 = sa + 2 from rfl, hvb] at this
    exact this
  have HZ : Hid (∀ V, Calls Tryd.prog 29 #[.int .i64 28] V fun e w' => e = .returned (.int .i64 3) ∧ w' = V) := fun V => size_ok 28 V (by decide) (by decide)
  have en := h.en
  have n4 := h.n4
  have HB : Hid (∀ V, WK V B x F ⟨sa, sd, ss, so, false, sl0⟩ pi ci ins → V.cell? ⟨x, 17, none⟩ = some (.bool false) ∧ V.cell? ⟨x, 18, none⟩ = some (.int .i64 (sl0 : Int)) ∧ V.frozen? ⟨x, 18, none⟩ = false ∧ (V.setCell ⟨x, 18, none⟩ (.int .i64 ((sl0 : Int) + 1))).cell? ⟨x, 12, none⟩ = some (.int .i64 (sa : Int)) ∧ Fr [x] V (V.setCell ⟨x, 18, none⟩ (.int .i64 ((sl0 : Int) + 1))) ∧ WK (V.setCell ⟨x, 18, none⟩ (.int .i64 ((sl0 : Int) + 1))) B x F ⟨sa, sd, ss, so, false, sl0 + 1⟩ pi ci ins) := fun V hV => by
    have e1 : I (sl0 + 1) = .int .i64 ((sl0 : Int) + 1) := rfl
    have := hV.bump (sl0 + 1) hlo
    rw [e1] at this
    exact ⟨hV.cell 17, hV.cell 18, hV.fz 18, this.1.cell 12, this.2, this.1⟩
  have HL := mkHid HL
  have HOk := mkHid hok
  have HE : Hid (∀ V s2 (m : Nat), m ≤ 4096 → WK V B x F s2 pi ci ins → V.cell? ⟨x, 12, none⟩ = some (.int .i64 (s2.at_ : Int)) ∧ V.frozen? ⟨x, 12, none⟩ = false ∧ WK (V.setCell ⟨x, 12, none⟩ (.int .i64 (m : Int))) B x F ⟨m, s2.dep, s2.seed, s2.done, s2.wild, s2.loose⟩ pi ci ins ∧ Fr [x] V (V.setCell ⟨x, 12, none⟩ (.int .i64 (m : Int)))) := fun V s2 m hm hV => by
    have := hV.goes m hm
    exact ⟨hV.cell 12, hV.fz 12, this.1, this.2⟩
  have K0 := mkHid h
  have F0 : Hid (Fr [x] w w) := Fr.refl _ _
  clear h hw hok hva hvb
  go_enter Tryd.func19, Tryd.ntmps19
  go_wp2_with (first
    | (go_at_call 28; refine (H0.out _ K0.out).mono ?_; rintro e v1 ⟨rfl, n1, hn1⟩; have k1 := K0.out.dr n1; have f1 := F0.out.x2 (Fr.drewN [x] _ n1); rw [← hn1] at k1 f1; have K1 := mkHid k1; have F1 := mkHid f1; clear hn1 k1 f1; clear H0)
    | (go_at_call 28; refine (H1.out _ K1.out).mono ?_; rintro e v2 ⟨rfl, n2, hn2⟩; have k2 := K1.out.dr n2; have f2 := F1.out.x2 (Fr.drewN [x] _ n2); rw [← hn2] at k2 f2; have K2 := mkHid k2; have F2 := mkHid f2; clear hn2 k2 f2; clear H1)
    | (go_at_call 28; refine (H2.out _ K2.out).mono ?_; rintro e v3 ⟨rfl, n3, hn3⟩; have k3 := K2.out.dr n3; have f3 := F2.out.x2 (Fr.drewN [x] _ n3); rw [← hn3] at k3 f3; have K3 := mkHid k3; have F3 := mkHid f3; clear hn3 k3 f3; clear H2; obtain ⟨c1, c2, c3, c4, c5, c6⟩ := HB.out _ K3.out; have C5 := mkHid (F3.out.x2 c5); have C6 := mkHid c6; clear c5 c6)
    | (go_at_call 29; refine (HZ.out _).mono ?_; rintro e w' ⟨rfl, hw'⟩; rw [hw']; clear hw' w')
    | (go_at_call 34; refine (HL.out _ C6.out).mono ?_; rintro e w2 ⟨t, s', rfl, f2, k2, ho⟩; obtain ⟨m, em, hm⟩ := HOk.out t s' ho; subst em; obtain ⟨d1, d2, d3, d4⟩ := HE.out _ _ m hm k2; have HD3 := mkHid d3; have HD4 := mkHid ((C5.out.x2 f2).x2 d4); have HO := mkHid ho; clear f2 k2 d3 d4 ho))
  go_end0
  exact ⟨rfl, HD4.out, m, s', HO.out, HD3.out⟩
end
end Go.Proofs.YtdflpoldlokijaaDoor
namespace Go.Proofs.YtdflpoldlokijaaDoor
open Go.RowKit
set_option linter.unusedVariables false
set_option linter.unusedSimpArgs false
attribute [local go_sem ↓] Go.wp_at_zero Go.wp_at_succ
section
variable {w : World} {B x : Nat} {F : Fx} {s : WS} {pi : Option Addr} {ci : Nat} {ins : List In}
set_option maxRecDepth 100000 in
set_option maxHeartbeats 4000000 in
theorem step_19 (h : WK w B x F s pi ci ins) (hB : B ≤ w.heap.size) (hw : F.C.w s.at_ = 19) (hin : s.at_ + 4 ≤ F.e0) (hwi : s.wild = false) (hlo : s.loose + 1 ≤ 5000) (par sl k : Nat) (ha : F.C.w (s.at_ + 1) = (par : Int)) (hb : F.C.w (s.at_ + 2) = (sl : Int)) (hk : F.C.w (s.at_ + 3) = (k : Int)) (hk0 : 0 < k) (hps : par ≤ sl) (hsl : sl ≤ 32) (hnk : s.at_ + 4 + k ≤ F.e0) (hd : s.dep + 1 ≤ F.h.stack) (hi : ins.length + 1 ≤ 100000) :
    Calls Tryd.prog 19 #[.pointer (some ⟨x, 0, none⟩)] w fun e w' => BkS w B x F ⟨s.at_ + 4 + k, s.dep + 1, s.seed, s.done, false, 0⟩ ins (s.at_ + 4) (s.at_ + 4 + k) sl e w' := by
  obtain ⟨sa, sd, ss, so, sw, sl0⟩ := s
  simp only at hw hin hwi hlo ha hb hk hnk hd
  subst hwi
  have H0 : Hid (∀ V, WK V B x F ⟨sa, sd, ss, so, false, sl0⟩ pi ci ins → Calls Tryd.prog 28 #[.pointer (some ⟨x, 0, none⟩), .int .i64 0] V fun e w' => e = .returned (.int .i64 19) ∧ ∃ n, w' = V.drewN n) := fun V hV => by
    have := word_ok hV 0 (by show sa + 0 < F.e0; omega) (by omega)
    rw [show (⟨sa, sd, ss, so, false, sl0⟩ : WS).at_ + 0 = sa + 0 from rfl, Nat.add_zero, hw] at this
    exact this
  have H1 : Hid (∀ V, WK V B x F ⟨sa, sd, ss, so, false, sl0⟩ pi ci ins → Calls Tryd.prog 28 #[.pointer (some ⟨x, 0, none⟩), .int .i64 1] V fun e w' => e = .returned (.int .i64 (par : Int)) ∧ ∃ n, w' = V.drewN n) := fun V hV => by
    have := word_ok hV 1 (by show sa + 1 < F.e0; omega) (by omega)
    rw [show (⟨sa, sd, ss, so, false, sl0⟩ : WS).at_ + 1 = sa + 1 from rfl, ha] at this
    exact this
  have H2 : Hid (∀ V, WK V B x F ⟨sa, sd, ss, so, false, sl0⟩ pi ci ins → Calls Tryd.prog 28 #[.pointer (some ⟨x, 0, none⟩), .int .i64 2] V fun e w' => e = .returned (.int .i64 (sl : Int)) ∧ ∃ n, w' = V.drewN n) := fun V hV => by
    have := word_ok hV 2 (by show sa + 2 < F.e0; omega) (by omega)
    rw [show (⟨sa, sd, ss, so, false, sl0⟩ : WS).at_ + 2 = sa + 2 from rfl, hb] at this
    exact this
  have HZ : Hid (∀ V, Calls Tryd.prog 29 #[.int .i64 19] V fun e w' => e = .returned (.int .i64 4) ∧ w' = V) := fun V => size_ok 19 V (by decide) (by decide)
  have en := h.en
  have n4 := h.n4
  have HB : Hid (∀ V, WK V B x F ⟨sa, sd, ss, so, false, sl0⟩ pi ci ins → V.cell? ⟨x, 17, none⟩ = some (.bool false) ∧ V.cell? ⟨x, 18, none⟩ = some (.int .i64 (sl0 : Int)) ∧ V.frozen? ⟨x, 18, none⟩ = false ∧ (V.setCell ⟨x, 18, none⟩ (.int .i64 ((sl0 : Int) + 1))).cell? ⟨x, 12, none⟩ = some (.int .i64 (sa : Int)) ∧ Fr [x] V (V.setCell ⟨x, 18, none⟩ (.int .i64 ((sl0 : Int) + 1))) ∧ WK (V.setCell ⟨x, 18, none⟩ (.int .i64 ((sl0 : Int) + 1))) B x F ⟨sa, sd, ss, so, false, sl0 + 1⟩ pi ci ins) := fun V hV => by
    have e1 : I (sl0 + 1) = .int .i64 ((sl0 : Int) + 1) := rfl
    have := hV.bump (sl0 + 1) hlo
    rw [e1] at this
    exact ⟨hV.cell 17, hV.cell 18, hV.fz 18, this.1.cell 12, this.2, this.1⟩
  have HL : Hid (∀ V, WK V B x F ⟨sa, sd, ss, so, false, sl0 + 1⟩ pi ci ins → B ≤ V.heap.size → Calls Tryd.prog 33 #[.pointer (some ⟨x, 0, none⟩), .int .i64 (par : Int), .int .i64 (sl : Int), .int .i64 ((sa : Int) + 4)] V fun e w' => BkP V B x F ⟨sa, sd + 1, ss, so, false, 0⟩ ins (sa + 4 + k) (sa + 4) (sa + 4 + k) sl e w') := fun V hV hBV => wblock_ok hV hBV par sl (sa + 4) k (by show sa + 3 < F.e0; omega) hk hk0 hps hsl hnk hd rfl hi
  have HE : Hid (∀ V pi ci ins, WK V B x F ⟨sa, sd + 1, ss, so, false, 0⟩ pi ci ins → V.cell? ⟨x, 12, none⟩ = some (.int .i64 (sa : Int)) ∧ V.frozen? ⟨x, 12, none⟩ = false ∧ WK (V.setCell ⟨x, 12, none⟩ (.int .i64 ((sa + 4 + k : Nat) : Int))) B x F ⟨sa + 4 + k, sd + 1, ss, so, false, 0⟩ pi ci ins ∧ Fr [x] V (V.setCell ⟨x, 12, none⟩ (.int .i64 ((sa + 4 + k : Nat) : Int)))) := fun V pi ci ins hV => by
    have := hV.goes (sa + 4 + k) (by omega)
    exact ⟨hV.cell 12, hV.fz 12, this.1, this.2⟩
  have HKx : Hid (∀ V, Fr [x] w V → Kw B w V) := fun V hV => h.kwx hB hV
  have HKy : Hid (∀ (V V' : World) pi ci ins s, WK V B x F s pi ci ins → B ≤ V.heap.size → Fr [x] V V' → Kw B V V') := fun V V' pi ci ins s hV hb hf => hV.kwx hb hf
  have K0 := mkHid h
  have F0 : Hid (Fr [x] w w) := Fr.refl _ _
  have HB0 := mkHid hB
  have hkn : (0 : Int) ≤ (k : Int) := by omega
  have hk5 : (sa : Int) + 4 + (k : Int) ≤ 4096 := by omega
  clear h hw ha hb hk hB
  go_enter Tryd.func19, Tryd.ntmps19
  go_wp2_with (first
    | (go_at_call 28; refine (H0.out _ K0.out).mono ?_; rintro e v1 ⟨rfl, n1, hn1⟩; have k1 := K0.out.dr n1; have f1 := F0.out.x2 (Fr.drewN [x] _ n1); rw [← hn1] at k1 f1; have K1 := mkHid k1; have F1 := mkHid f1; clear hn1 k1 f1; clear H0)
    | (go_at_call 28; refine (H1.out _ K1.out).mono ?_; rintro e v2 ⟨rfl, n2, hn2⟩; have k2 := K1.out.dr n2; have f2 := F1.out.x2 (Fr.drewN [x] _ n2); rw [← hn2] at k2 f2; have K2 := mkHid k2; have F2 := mkHid f2; clear hn2 k2 f2; clear H1)
    | (go_at_call 28; refine (H2.out _ K2.out).mono ?_; rintro e v3 ⟨rfl, n3, hn3⟩; have k3 := K2.out.dr n3; have f3 := F2.out.x2 (Fr.drewN [x] _ n3); rw [← hn3] at k3 f3; have K3 := mkHid k3; have F3 := mkHid f3; clear hn3 k3 f3; clear H2; obtain ⟨c1, c2, c3, c4, c5, c6⟩ := HB.out _ K3.out; have C5 := mkHid (F3.out.x2 c5); have C6 := mkHid c6; clear c5 c6)
    | (go_at_call 29; refine (HZ.out _).mono ?_; rintro e w' ⟨rfl, hw'⟩; rw [hw']; clear hw' w')
    | (go_at_call 33; have HKV := mkHid (HKx.out _ C5.out); refine (HL.out _ C6.out (Nat.le_trans HB0.out HKV.out.size)).mono ?_; rintro e w2 ⟨rfl, kw2, pi', ci', p, c, k2⟩; obtain ⟨d1, d2, d3, d4⟩ := HE.out _ _ _ _ k2; have HK2 := mkHid (HKV.out.trans kw2); have HD4 := mkHid (HK2.out.trans (HKy.out _ _ _ _ _ _ k2 (Nat.le_trans HB0.out HK2.out.size) d4)); have HD3 := mkHid d3; clear kw2 k2 d3 d4))
  go_end0
  exact ⟨rfl, HD4.out, pi', ci', p, c, HD3.out⟩
end
end Go.Proofs.YtdflpoldlokijaaDoor
