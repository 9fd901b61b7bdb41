import Derived.Test.YtdflpoldlokijaaDoorSG27CStp0
import Derived.Test.YtdflpoldlokijaaDoorSG26CMk
namespace Go.Proofs.YtdflpoldlokijaaDoor
open Go.RowKit
set_option linter.unusedVariables false
/-- a step that leads on: where it goes, and the state then -/
def StL (w : World) (B x : Nat) (F : Fx) (pi : Option Addr) (ci : Nat) (ins : List In) (ok : Int → WS → Prop) (e : Ending) (w' : World) : Prop :=
  e = .returned (.tuple #[]) ∧ Fr [x] w w' ∧ ∃ (m : Nat) (s' : WS), ok (m : Int) s' ∧ WK w' B x F ⟨m, s'.dep, s'.seed, s'.done, s'.wild, s'.loose⟩ pi ci ins
/-- a step that tells a block -/
def BkS (w : World) (B x : Nat) (F : Fx) (s : WS) (ins : List In) (nx en sl : Nat) (e : Ending) (w' : World) : Prop :=
  e = .returned (.tuple #[]) ∧ Kw B w w' ∧ ∃ pi' ci' p c, WK w' B x F s pi' ci' (ins ++ [⟨nx, en, p, c, F.sc ++ [sl]⟩])
end Go.Proofs.YtdflpoldlokijaaDoor
namespace Go.Proofs.YtdflpoldlokijaaDoor
open Go.RowKit
set_option linter.unusedVariables false
set_option linter.unusedSimpArgs false
attribute [local go_sem ↓] Go.wp_at_zero Go.wp_at_succ
section
variable {w : World} {B x : Nat} {F : Fx} {s : WS} {pi : Option Addr} {ci : Nat} {ins : List In}
set_option maxRecDepth 100000 in
set_option maxHeartbeats 4000000 in
theorem step_20 (h : WK w B x F s pi ci ins) (hw : F.C.w s.at_ = 20) (hin : s.at_ + 1 ≤ F.e0) (hwi : s.wild = false) (hlo : s.loose + 1 ≤ 5000) (ok : Int → WS → Prop) (HL : ∀ V, WK V B x F ⟨s.at_, s.dep, s.seed, s.done, false, s.loose + 1⟩ pi ci ins → Calls Tryd.prog 34 #[.pointer (some ⟨x, 0, none⟩), .int .i64 20, .int .i64 0, .int .i64 0, .int .i64 ((s.at_ : Int) + 1)] V fun e w' => LdP V B x F ⟨s.at_, s.dep, s.seed, s.done, false, s.loose + 1⟩ pi ci ins ok e w') (hok : ∀ t s', ok t s' → ∃ m : Nat, t = (m : Int) ∧ m ≤ 4096) :
    Calls Tryd.prog 19 #[.pointer (some ⟨x, 0, none⟩)] w fun e w' => StL w B x F pi ci ins ok e w' := by
  obtain ⟨sa, sd, ss, so, sw, sl0⟩ := s
  simp only at hw hin hwi hlo HL
  subst hwi
  have H0 : Hid (∀ V, WK V B x F ⟨sa, sd, ss, so, false, sl0⟩ pi ci ins → Calls Tryd.prog 28 #[.pointer (some ⟨x, 0, none⟩), .int .i64 0] V fun e w' => e = .returned (.int .i64 20) ∧ ∃ n, w' = V.drewN n) := fun V hV => by
    have := word_ok hV 0 (by show sa + 0 < F.e0; omega) (by omega)
    rw [show (⟨sa, sd, ss, so, false, sl0⟩ : WS).at_ + 0 = sa + 0 from rfl, Nat.add_zero, hw] at this
    exact this
  have HZ : Hid (∀ V, Calls Tryd.prog 29 #[.int .i64 20] V fun e w' => e = .returned (.int .i64 1) ∧ w' = V) := fun V => size_ok 20 V (by decide) (by decide)
  have en := h.en
  have n4 := h.n4
  have HB : Hid (∀ V, WK V B x F ⟨sa, sd, ss, so, false, sl0⟩ pi ci ins → V.cell? ⟨x, 17, none⟩ = some (.bool false) ∧ V.cell? ⟨x, 18, none⟩ = some (.int .i64 (sl0 : Int)) ∧ V.frozen? ⟨x, 18, none⟩ = false ∧ (V.setCell ⟨x, 18, none⟩ (.int .i64 ((sl0 : Int) + 1))).cell? ⟨x, 12, none⟩ = some (.int .i64 (sa : Int)) ∧ Fr [x] V (V.setCell ⟨x, 18, none⟩ (.int .i64 ((sl0 : Int) + 1))) ∧ WK (V.setCell ⟨x, 18, none⟩ (.int .i64 ((sl0 : Int) + 1))) B x F ⟨sa, sd, ss, so, false, sl0 + 1⟩ pi ci ins) := fun V hV => by
    have e1 : I (sl0 + 1) = .int .i64 ((sl0 : Int) + 1) := rfl
    have := hV.bump (sl0 + 1) hlo
    rw [e1] at this
    exact ⟨hV.cell 17, hV.cell 18, hV.fz 18, this.1.cell 12, this.2, this.1⟩
  have HL := mkHid HL
  have HOk := mkHid hok
  have HE : Hid (∀ V s2 (m : Nat), m ≤ 4096 → WK V B x F s2 pi ci ins → V.cell? ⟨x, 12, none⟩ = some (.int .i64 (s2.at_ : Int)) ∧ V.frozen? ⟨x, 12, none⟩ = false ∧ WK (V.setCell ⟨x, 12, none⟩ (.int .i64 (m : Int))) B x F ⟨m, s2.dep, s2.seed, s2.done, s2.wild, s2.loose⟩ pi ci ins ∧ Fr [x] V (V.setCell ⟨x, 12, none⟩ (.int .i64 (m : Int)))) := fun V s2 m hm hV => by
    have := hV.goes m hm
    exact ⟨hV.cell 12, hV.fz 12, this.1, this.2⟩
  have K0 := mkHid h
  have F0 : Hid (Fr [x] w w) := Fr.refl _ _
  clear h hw hok
  go_enter Tryd.func19, Tryd.ntmps19
  go_wp2_with (first
    | (go_at_call 28; refine (H0.out _ K0.out).mono ?_; rintro e v1 ⟨rfl, n1, hn1⟩; have k1 := K0.out.dr n1; have f1 := F0.out.x2 (Fr.drewN [x] _ n1); rw [← hn1] at k1 f1; have K1 := mkHid k1; have F1 := mkHid f1; clear hn1 k1 f1; clear H0; obtain ⟨c1, c2, c3, c4, c5, c6⟩ := HB.out _ K1.out; have C5 := mkHid (F1.out.x2 c5); have C6 := mkHid c6; clear c5 c6)
    | (go_at_call 29; refine (HZ.out _).mono ?_; rintro e w' ⟨rfl, hw'⟩; rw [hw']; clear hw' w')
    | (go_at_call 34; refine (HL.out _ C6.out).mono ?_; rintro e w2 ⟨t, s', rfl, f2, k2, ho⟩; obtain ⟨m, em, hm⟩ := HOk.out t s' ho; subst em; obtain ⟨d1, d2, d3, d4⟩ := HE.out _ _ m hm k2; have HD3 := mkHid d3; have HD4 := mkHid ((C5.out.x2 f2).x2 d4); have HO := mkHid ho; clear f2 k2 d3 d4 ho))
  go_end0
  exact ⟨rfl, HD4.out, m, s', HO.out, HD3.out⟩
set_option maxRecDepth 100000 in
set_option maxHeartbeats 4000000 in
theorem step_21 (h : WK w B x F s pi ci ins) (hw : F.C.w s.at_ = 21) (hin : s.at_ + 1 ≤ F.e0) (hwi : s.wild = false) (hlo : s.loose + 1 ≤ 5000) (ok : Int → WS → Prop) (HL : ∀ V, WK V B x F ⟨s.at_, s.dep, s.seed, s.done, false, s.loose + 1⟩ pi ci ins → Calls Tryd.prog 34 #[.pointer (some ⟨x, 0, none⟩), .int .i64 21, .int .i64 0, .int .i64 0, .int .i64 ((s.at_ : Int) + 1)] V fun e w' => LdP V B x F ⟨s.at_, s.dep, s.seed, s.done, false, s.loose + 1⟩ pi ci ins ok e w') (hok : ∀ t s', ok t s' → ∃ m : Nat, t = (m : Int) ∧ m ≤ 4096) :
    Calls Tryd.prog 19 #[.pointer (some ⟨x, 0, none⟩)] w fun e w' => StL w B x F pi ci ins ok e w' := by
  obtain ⟨sa, sd, ss, so, sw, sl0⟩ := s
  simp only at hw hin hwi hlo HL
  subst hwi
  have H0 : Hid (∀ V, WK V B x F ⟨sa, sd, ss, so, false, sl0⟩ pi ci ins → Calls Tryd.prog 28 #[.pointer (some ⟨x, 0, none⟩), .int .i64 0] V fun e w' => e = .returned (.int .i64 21) ∧ ∃ n, w' = V.drewN n) := fun V hV => by
    have := word_ok hV 0 (by show sa + 0 < F.e0; omega) (by omega)
    rw [show (⟨sa, sd, ss, so, false, sl0⟩ : WS).at_ + 0 = sa + 0 from rfl, Nat.add_zero, hw] at this
    exact this
  have HZ : Hid (∀ V, Calls Tryd.prog 29 #[.int .i64 21] V fun e w' => e = .returned (.int .i64 1) ∧ w' = V) := fun V => size_ok 21 V (by decide) (by decide)
  have en := h.en
  have n4 := h.n4
  have HB : Hid (∀ V, WK V B x F ⟨sa, sd, ss, so, false, sl0⟩ pi ci ins → V.cell? ⟨x, 17, none⟩ = some (.bool false) ∧ V.cell? ⟨x, 18, none⟩ = some (.int .i64 (sl0 : Int)) ∧ V.frozen? ⟨x, 18, none⟩ = false ∧ (V.setCell ⟨x, 18, none⟩ (.int .i64 ((sl0 : Int) + 1))).cell? ⟨x, 12, none⟩ = some (.int .i64 (sa : Int)) ∧ Fr [x] V (V.setCell ⟨x, 18, none⟩ (.int .i64 ((sl0 : Int) + 1))) ∧ WK (V.setCell ⟨x, 18, none⟩ (.int .i64 ((sl0 : Int) + 1))) B x F ⟨sa, sd, ss, so, false, sl0 + 1⟩ pi ci ins) := fun V hV => by
    have e1 : I (sl0 + 1) = .int .i64 ((sl0 : Int) + 1) := rfl
    have := hV.bump (sl0 + 1) hlo
    rw [e1] at this
    exact ⟨hV.cell 17, hV.cell 18, hV.fz 18, this.1.cell 12, this.2, this.1⟩
  have HL := mkHid HL
  have HOk := mkHid hok
  have HE : Hid (∀ V s2 (m : Nat), m ≤ 4096 → WK V B x F s2 pi ci ins → V.cell? ⟨x, 12, none⟩ = some (.int .i64 (s2.at_ : Int)) ∧ V.frozen? ⟨x, 12, none⟩ = false ∧ WK (V.setCell ⟨x, 12, none⟩ (.int .i64 (m : Int))) B x F ⟨m, s2.dep, s2.seed, s2.done, s2.wild, s2.loose⟩ pi ci ins ∧ Fr [x] V (V.setCell ⟨x, 12, none⟩ (.int .i64 (m : Int)))) := fun V s2 m hm hV => by
    have := hV.goes m hm
    exact ⟨hV.cell 12, hV.fz 12, this.1, this.2⟩
  have K0 := mkHid h
  have F0 : Hid (Fr [x] w w) := Fr.refl _ _
  clear h hw hok
  go_enter Tryd.func19, Tryd.ntmps19
  go_wp2_with (first
    | (go_at_call 28; refine (H0.out _ K0.out).mono ?_; rintro e v1 ⟨rfl, n1, hn1⟩; have k1 := K0.out.dr n1; have f1 := F0.out.x2 (Fr.drewN [x] _ n1); rw [← hn1] at k1 f1; have K1 := mkHid k1; have F1 := mkHid f1; clear hn1 k1 f1; clear H0; obtain ⟨c1, c2, c3, c4, c5, c6⟩ := HB.out _ K1.out; have C5 := mkHid (F1.out.x2 c5); have C6 := mkHid c6; clear c5 c6)
    | (go_at_call 29; refine (HZ.out _).mono ?_; rintro e w' ⟨rfl, hw'⟩; rw [hw']; clear hw' w')
    | (go_at_call 34; refine (HL.out _ C6.out).mono ?_; rintro e w2 ⟨t, s', rfl, f2, k2, ho⟩; obtain ⟨m, em, hm⟩ := HOk.out t s' ho; subst em; obtain ⟨d1, d2, d3, d4⟩ := HE.out _ _ m hm k2; have HD3 := mkHid d3; have HD4 := mkHid ((C5.out.x2 f2).x2 d4); have HO := mkHid ho; clear f2 k2 d3 d4 ho))
  go_end0
  exact ⟨rfl, HD4.out, m, s', HO.out, HD3.out⟩
set_option maxRecDepth 100000 in
set_option maxHeartbeats 4000000 in
theorem step_22 (h : WK w B x F s pi ci ins) (hw : F.C.w s.at_ = 22) (hin : s.at_ + 1 ≤ F.e0) (hwi : s.wild = false) (hlo : s.loose + 1 ≤ 5000) (ok : Int → WS → Prop) (HL : ∀ V, WK V B x F ⟨s.at_, s.dep, s.seed, s.done, false, s.loose + 1⟩ pi ci ins → Calls Tryd.prog 34 #[.pointer (some ⟨x, 0, none⟩), .int .i64 22, .int .i64 0, .int .i64 0, .int .i64 ((s.at_ : Int) + 1)] V fun e w' => LdP V B x F ⟨s.at_, s.dep, s.seed, s.done, false, s.loose + 1⟩ pi ci ins ok e w') (hok : ∀ t s', ok t s' → ∃ m : Nat, t = (m : Int) ∧ m ≤ 4096) :
    Calls Tryd.prog 19 #[.pointer (some ⟨x, 0, none⟩)] w fun e w' => StL w B x F pi ci ins ok e w' := by
  obtain ⟨sa, sd, ss, so, sw, sl0⟩ := s
  simp only at hw hin hwi hlo HL
  subst hwi
  have H0 : Hid (∀ V, WK V B x F ⟨sa, sd, ss, so, false, sl0⟩ pi ci ins → Calls Tryd.prog 28 #[.pointer (some ⟨x, 0, none⟩), .int .i64 0] V fun e w' => e = .returned (.int .i64 22) ∧ ∃ n, w' = V.drewN n) := fun V hV => by
    have := word_ok hV 0 (by show sa + 0 < F.e0; omega) (by omega)
    rw [show (⟨sa, sd, ss, so, false, sl0⟩ : WS).at_ + 0 = sa + 0 from rfl, Nat.add_zero, hw] at this
    exact this
  have HZ : Hid (∀ V, Calls Tryd.prog 29 #[.int .i64 22] V fun e w' => e = .returned (.int .i64 1) ∧ w' = V) := fun V => size_ok 22 V (by decide) (by decide)
  have en := h.en
  have n4 := h.n4
  have HB : Hid (∀ V, WK V B x F ⟨sa, sd, ss, so, false, sl0⟩ pi ci ins → V.cell? ⟨x, 17, none⟩ = some (.bool false) ∧ V.cell? ⟨x, 18, none⟩ = some (.int .i64 (sl0 : Int)) ∧ V.frozen? ⟨x, 18, none⟩ = false ∧ (V.setCell ⟨x, 18, none⟩ (.int .i64 ((sl0 : Int) + 1))).cell? ⟨x, 12, none⟩ = some (.int .i64 (sa : Int)) ∧ Fr [x] V (V.setCell ⟨x, 18, none⟩ (.int .i64 ((sl0 : Int) + 1))) ∧ WK (V.setCell ⟨x, 18, none⟩ (.int .i64 ((sl0 : Int) + 1))) B x F ⟨sa, sd, ss, so, false, sl0 + 1⟩ pi ci ins) := fun V hV => by
    have e1 : I (sl0 + 1) = .int .i64 ((sl0 : Int) + 1) := rfl
    have := hV.bump (sl0 + 1) hlo
    rw [e1] at this
    exact ⟨hV.cell 17, hV.cell 18, hV.fz 18, this.1.cell 12, this.2, this.1⟩
  have HL := mkHid HL
  have HOk := mkHid hok
  have HE : Hid (∀ V s2 (m : Nat), m ≤ 4096 → WK V B x F s2 pi ci ins → V.cell? ⟨x, 12, none⟩ = some (.int .i64 (s2.at_ : Int)) ∧ V.frozen? ⟨x, 12, none⟩ = false ∧ WK (V.setCell ⟨x, 12, none⟩ (.int .i64 (m : Int))) B x F ⟨m, s2.dep, s2.seed, s2.done, s2.wild, s2.loose⟩ pi ci ins ∧ Fr [x] V (V.setCell ⟨x, 12, none⟩ (.int .i64 (m : Int)))) := fun V s2 m hm hV => by
    have := hV.goes m hm
    exact ⟨hV.cell 12, hV.fz 12, this.1, this.2⟩
  have K0 := mkHid h
  have F0 : Hid (Fr [x] w w) := Fr.refl _ _
  clear h hw hok
  go_enter Tryd.func19, Tryd.ntmps19
  go_wp2_with (first
    | (go_at_call 28; refine (H0.out _ K0.out).mono ?_; rintro e v1 ⟨rfl, n1, hn1⟩; have k1 := K0.out.dr n1; have f1 := F0.out.x2 (Fr.drewN [x] _ n1); rw [← hn1] at k1 f1; have K1 := mkHid k1; have F1 := mkHid f1; clear hn1 k1 f1; clear H0; obtain ⟨c1, c2, c3, c4, c5, c6⟩ := HB.out _ K1.out; have C5 := mkHid (F1.out.x2 c5); have C6 := mkHid c6; clear c5 c6)
    | (go_at_call 29; refine (HZ.out _).mono ?_; rintro e w' ⟨rfl, hw'⟩; rw [hw']; clear hw' w')
    | (go_at_call 34; refine (HL.out _ C6.out).mono ?_; rintro e w2 ⟨t, s', rfl, f2, k2, ho⟩; obtain ⟨m, em, hm⟩ := HOk.out t s' ho; subst em; obtain ⟨d1, d2, d3, d4⟩ := HE.out _ _ m hm k2; have HD3 := mkHid d3; have HD4 := mkHid ((C5.out.x2 f2).x2 d4); have HO := mkHid ho; clear f2 k2 d3 d4 ho))
  go_end0
  exact ⟨rfl, HD4.out, m, s', HO.out, HD3.out⟩
end
end Go.Proofs.YtdflpoldlokijaaDoor
namespace Go.Proofs.YtdflpoldlokijaaDoor
open Go.RowKit
set_option linter.unusedVariables false
set_option linter.unusedSimpArgs false
attribute [local go_sem ↓] Go.wp_at_zero Go.wp_at_succ
section
variable {w : World} {B x : Nat} {F : Fx} {s : WS} {pi : Option Addr} {ci : Nat} {ins : List In}
set_option maxRecDepth 100000 in
set_option maxHeartbeats 4000000 in
theorem step_23 (h : WK w B x F s pi ci ins) (hw : F.C.w s.at_ = 23) (hin : s.at_ + 2 ≤ F.e0) (hwi : s.wild = false) (hlo : s.loose + 1 ≤ 5000) (ok : Int → WS → Prop) (HL : ∀ V, WK V B x F ⟨s.at_, s.dep, s.seed, s.done, false, s.loose + 1⟩ pi ci ins → Calls Tryd.prog 34 #[.pointer (some ⟨x, 0, none⟩), .int .i64 23, .int .i64 (F.C.w (s.at_ + 1)), .int .i64 0, .int .i64 ((s.at_ : Int) + 2)] V fun e w' => LdP V B x F ⟨s.at_, s.dep, s.seed, s.done, false, s.loose + 1⟩ pi ci ins ok e w') (hok : ∀ t s', ok t s' → ∃ m : Nat, t = (m : Int) ∧ m ≤ 4096) :
    Calls Tryd.prog 19 #[.pointer (some ⟨x, 0, none⟩)] w fun e w' => StL w B x F pi ci ins ok e w' := by
  obtain ⟨sa, sd, ss, so, sw, sl0⟩ := s
  simp only at hw hin hwi hlo HL
  subst hwi
  obtain ⟨va, hva⟩ : ∃ v, F.C.w (sa + 1) = v := ⟨_, rfl⟩
  rw [hva] at HL
  have H0 : Hid (∀ V, WK V B x F ⟨sa, sd, ss, so, false, sl0⟩ pi ci ins → Calls Tryd.prog 28 #[.pointer (some ⟨x, 0, none⟩), .int .i64 0] V fun e w' => e = .returned (.int .i64 23) ∧ ∃ n, w' = V.drewN n) := fun V hV => by
    have := word_ok hV 0 (by show sa + 0 < F.e0; omega) (by omega)
    rw [show (⟨sa, sd, ss, so, false, sl0⟩ : WS).at_ + 0 = sa + 0 from rfl, Nat.add_zero, hw] at this
    exact this
  have H1 : Hid (∀ V, WK V B x F ⟨sa, sd, ss, so, false, sl0⟩ pi ci ins → Calls Tryd.prog 28 #[.pointer (some ⟨x, 0, none⟩), .int .i64 1] V fun e w' => e = .returned (.int .i64 va) ∧ ∃ n, w' = V.drewN n) := fun V hV => by
    have := word_ok hV 1 (by show sa + 1 < F.e0; omega) (by omega)
    rw [show (⟨sa, sd, ss, so, false, sl0⟩ : WS).at_ + 1 = sa + 1 from rfl, hva] at this
    exact this
  have HZ : Hid (∀ V, Calls Tryd.prog 29 #[.int .i64 23] V fun e w' => e = .returned (.int .i64 2) ∧ w' = V) := fun V => size_ok 23 V (by decide) (by decide)
  have en := h.en
  have n4 := h.n4
  have HB : Hid (∀ V, WK V B x F ⟨sa, sd, ss, so, false, sl0⟩ pi ci ins → V.cell? ⟨x, 17, none⟩ = some (.bool false) ∧ V.cell? ⟨x, 18, none⟩ = some (.int .i64 (sl0 : Int)) ∧ V.frozen? ⟨x, 18, none⟩ = false ∧ (V.setCell ⟨x, 18, none⟩ (.int .i64 ((sl0 : Int) + 1))).cell? ⟨x, 12, none⟩ = some (.int .i64 (sa : Int)) ∧ Fr [x] V (V.setCell ⟨x, 18, none⟩ (.int .i64 ((sl0 : Int) + 1))) ∧ WK (V.setCell ⟨x, 18, none⟩ (.int .i64 ((sl0 : Int) + 1))) B x F ⟨sa, sd, ss, so, false, sl0 + 1⟩ pi ci ins) := fun V hV => by
    have e1 : I (sl0 + 1) = .int .i64 ((sl0 : Int) + 1) := rfl
    have := hV.bump (sl0 + 1) hlo
    rw [e1] at this
    exact ⟨hV.cell 17, hV.cell 18, hV.fz 18, this.1.cell 12, this.2, this.1⟩
  have HL := mkHid HL
  have HOk := mkHid hok
  have HE : Hid (∀ V s2 (m : Nat), m ≤ 4096 → WK V B x F s2 pi ci ins → V.cell? ⟨x, 12, none⟩ = some (.int .i64 (s2.at_ : Int)) ∧ V.frozen? ⟨x, 12, none⟩ = false ∧ WK (V.setCell ⟨x, 12, none⟩ (.int .i64 (m : Int))) B x F ⟨m, s2.dep, s2.seed, s2.done, s2.wild, s2.loose⟩ pi ci ins ∧ Fr [x] V (V.setCell ⟨x, 12, none⟩ (.int .i64 (m : Int)))) := fun V s2 m hm hV => by
    have := hV.goes m hm
    exact ⟨hV.cell 12, hV.fz 12, this.1, this.2⟩
  have K0 := mkHid h
  have F0 : Hid (Fr [x] w w) := Fr.refl _ _
  clear h hw hok hva
  go_enter Tryd.func19, Tryd.ntmps19
  go_wp2_with (first
    | (go_at_call 28; refine (H0.out _ K0.out).mono ?_; rintro e v1 ⟨rfl, n1, hn1⟩; have k1 := K0.out.dr n1; have f1 := F0.out.x2 (Fr.drewN [x] _ n1); rw [← hn1] at k1 f1; have K1 := mkHid k1; have F1 := mkHid f1; clear hn1 k1 f1; clear H0)
    | (go_at_call 28; refine (H1.out _ K1.out).mono ?_; rintro e v2 ⟨rfl, n2, hn2⟩; have k2 := K1.out.dr n2; have f2 := F1.out.x2 (Fr.drewN [x] _ n2); rw [← hn2] at k2 f2; have K2 := mkHid k2; have F2 := mkHid f2; clear hn2 k2 f2; clear H1; obtain ⟨c1, c2, c3, c4, c5, c6⟩ := HB.out _ K2.out; have C5 := mkHid (F2.out.x2 c5); have C6 := mkHid c6; clear c5 c6)
    | (go_at_call 29; refine (HZ.out _).mono ?_; rintro e w' ⟨rfl, hw'⟩; rw [hw']; clear hw' w')
    | (go_at_call 34; refine (HL.out _ C6.out).mono ?_; rintro e w2 ⟨t, s', rfl, f2, k2, ho⟩; obtain ⟨m, em, hm⟩ := HOk.out t s' ho; subst em; obtain ⟨d1, d2, d3, d4⟩ := HE.out _ _ m hm k2; have HD3 := mkHid d3; have HD4 := mkHid ((C5.out.x2 f2).x2 d4); have HO := mkHid ho; clear f2 k2 d3 d4 ho))
  go_end0
  exact ⟨rfl, HD4.out, m, s', HO.out, HD3.out⟩
set_option maxRecDepth 100000 in
set_option maxHeartbeats 4000000 in
theorem step_24 (h : WK w B x F s pi ci ins) (hw : F.C.w s.at_ = 24) (hin : s.at_ + 2 ≤ F.e0) (hwi : s.wild = false) (hlo : s.loose + 1 ≤ 5000) (ok : Int → WS → Prop) (HL : ∀ V, WK V B x F ⟨s.at_, s.dep, s.seed, s.done, false, s.loose + 1⟩ pi ci ins → Calls Tryd.prog 34 #[.pointer (some ⟨x, 0, none⟩), .int .i64 24, .int .i64 (F.C.w (s.at_ + 1)), .int .i64 0, .int .i64 ((s.at_ : Int) + 2)] V fun e w' => LdP V B x F ⟨s.at_, s.dep, s.seed, s.done, false, s.loose + 1⟩ pi ci ins ok e w') (hok : ∀ t s', ok t s' → ∃ m : Nat, t = (m : Int) ∧ m ≤ 4096) :
    Calls Tryd.prog 19 #[.pointer (some ⟨x, 0, none⟩)] w fun e w' => StL w B x F pi ci ins ok e w' := by
  obtain ⟨sa, sd, ss, so, sw, sl0⟩ := s
  simp only at hw hin hwi hlo HL
  subst hwi
  obtain ⟨va, hva⟩ : ∃ v, F.C.w (sa + 1) = v := ⟨_, rfl⟩
  rw [hva] at HL
  have H0 : Hid (∀ V, WK V B x F ⟨sa, sd, ss, so, false, sl0⟩ pi ci ins → Calls Tryd.prog 28 #[.pointer (some ⟨x, 0, none⟩), .int .i64 0] V fun e w' => e = .returned (.int .i64 24) ∧ ∃ n, w' = V.drewN n) := fun V hV => by
    have := word_ok hV 0 (by show sa + 0 < F.e0; omega) (by omega)
    rw [show (⟨sa, sd, ss, so, false, sl0⟩ : WS).at_ + 0 = sa + 0 from rfl, Nat.add_zero, hw] at this
    exact this
  have H1 : Hid (∀ V, WK V B x F ⟨sa, sd, ss, so, false, sl0⟩ pi ci ins → Calls Tryd.prog 28 #[.pointer (some ⟨x, 0, none⟩), .int .i64 1] V fun e w' => e = .returned (.int .i64 va) ∧ ∃ n, w' = V.drewN n) := fun V hV => by
    have := word_ok hV 1 (by show sa + 1 < F.e0; omega) (by omega)
    rw [show (⟨sa, sd, ss, so, false, sl0⟩ : WS).at_ + 1 = sa + 1 from rfl, hva] at this
    exact this
  have HZ : Hid (∀ V, Calls Tryd.prog 29 #[.int .i64 24] V fun e w' => e = .returned (.int .i64 2) ∧ w' = V) := fun V => size_ok 24 V (by decide) (by decide)
  have en := h.en
  have n4 := h.n4
  have HB : Hid (∀ V, WK V B x F ⟨sa, sd, ss, so, false, sl0⟩ pi ci ins → V.cell? ⟨x, 17, none⟩ = some (.bool false) ∧ V.cell? ⟨x, 18, none⟩ = some (.int .i64 (sl0 : Int)) ∧ V.frozen? ⟨x, 18, none⟩ = false ∧ (V.setCell ⟨x, 18, none⟩ (.int .i64 ((sl0 : Int) + 1))).cell? ⟨x, 12, none⟩ = some (.int .i64 (sa : Int)) ∧ Fr [x] V (V.setCell ⟨x, 18, none⟩ (.int .i64 ((sl0 : Int) + 1))) ∧ WK (V.setCell ⟨x, 18, none⟩ (.int .i64 ((sl0 : Int) + 1))) B x F ⟨sa, sd, ss, so, false, sl0 + 1⟩ pi ci ins) := fun V hV => by
    have e1 : I (sl0 + 1) = .int .i64 ((sl0 : Int) + 1) := rfl
    have := hV.bump (sl0 + 1) hlo
    rw [e1] at this
    exact ⟨hV.cell 17, hV.cell 18, hV.fz 18, this.1.cell 12, this.2, this.1⟩
  have HL := mkHid HL
  have HOk := mkHid hok
  have HE : Hid (∀ V s2 (m : Nat), m ≤ 4096 → WK V B x F s2 pi ci ins → V.cell? ⟨x, 12, none⟩ = some (.int .i64 (s2.at_ : Int)) ∧ V.frozen? ⟨x, 12, none⟩ = false ∧ WK (V.setCell ⟨x, 12, none⟩ (.int .i64 (m : Int))) B x F ⟨m, s2.dep, s2.seed, s2.done, s2.wild, s2.loose⟩ pi ci ins ∧ Fr [x] V (V.setCell ⟨x, 12, none⟩ (.int .i64 (m : Int)))) := fun V s2 m hm hV => by
    have := hV.goes m hm
    exact ⟨hV.cell 12, hV.fz 12, this.1, this.2⟩
  have K0 := mkHid h
  have F0 : Hid (Fr [x] w w) := Fr.refl _ _
  clear h hw hok hva
  go_enter Tryd.func19, Tryd.ntmps19
  go_wp2_with (first
    | (go_at_call 28; refine (H0.out _ K0.out).mono ?_; rintro e v1 ⟨rfl, n1, hn1⟩; have k1 := K0.out.dr n1; have f1 := F0.out.x2 (Fr.drewN [x] _ n1); rw [← hn1] at k1 f1; have K1 := mkHid k1; have F1 := mkHid f1; clear hn1 k1 f1; clear H0)
    | (go_at_call 28; refine (H1.out _ K1.out).mono ?_; rintro e v2 ⟨rfl, n2, hn2⟩; have k2 := K1.out.dr n2; have f2 := F1.out.x2 (Fr.drewN [x] _ n2); rw [← hn2] at k2 f2; have K2 := mkHid k2; have F2 := mkHid f2; clear hn2 k2 f2; clear H1; obtain ⟨c1, c2, c3, c4, c5, c6⟩ := HB.out _ K2.out; have C5 := mkHid (F2.out.x2 c5); have C6 := mkHid c6; clear c5 c6)
    | (go_at_call 29; refine (HZ.out _).mono ?_; rintro e w' ⟨rfl, hw'⟩; rw [hw']; clear hw' w')
    | (go_at_call 34; refine (HL.out _ C6.out).mono ?_; rintro e w2 ⟨t, s', rfl, f2, k2, ho⟩; obtain ⟨m, em, hm⟩ := HOk.out t s' ho; subst em; obtain ⟨d1, d2, d3, d4⟩ := HE.out _ _ m hm k2; have HD3 := mkHid d3; have HD4 := mkHid ((C5.out.x2 f2).x2 d4); have HO := mkHid ho; clear f2 k2 d3 d4 ho))
  go_end0
  exact ⟨rfl, HD4.out, m, s', HO.out, HD3.out⟩
set_option maxRecDepth 100000 in
set_option maxHeartbeats 4000000 in
theorem step_25 (h : WK w B x F s pi ci ins) (hw : F.C.w s.at_ = 25) (hin : s.at_ + 2 ≤ F.e0) (hwi : s.wild = false) (hlo : s.loose + 1 ≤ 5000) (ok : Int → WS → Prop) (HL : ∀ V, WK V B x F ⟨s.at_, s.dep, s.seed, s.done, false, s.loose + 1⟩ pi ci ins → Calls Tryd.prog 34 #[.pointer (some ⟨x, 0, none⟩), .int .i64 25, .int .i64 (F.C.w (s.at_ + 1)), .int .i64 0, .int .i64 ((s.at_ : Int) + 2)] V fun e w' => LdP V B x F ⟨s.at_, s.dep, s.seed, s.done, false, s.loose + 1⟩ pi ci ins ok e w') (hok : ∀ t s', ok t s' → ∃ m : Nat, t = (m : Int) ∧ m ≤ 4096) :
    Calls Tryd.prog 19 #[.pointer (some ⟨x, 0, none⟩)] w fun e w' => StL w B x F pi ci ins ok e w' := by
  obtain ⟨sa, sd, ss, so, sw, sl0⟩ := s
  simp only at hw hin hwi hlo HL
  subst hwi
  obtain ⟨va, hva⟩ : ∃ v, F.C.w (sa + 1) = v := ⟨_, rfl⟩
  rw [hva] at HL
  have H0 : Hid (∀ V, WK V B x F ⟨sa, sd, ss, so, false, sl0⟩ pi ci ins → Calls Tryd.prog 28 #[.pointer (some ⟨x, 0, none⟩), .int .i64 0] V fun e w' => e = .returned (.int .i64 25) ∧ ∃ n, w' = V.drewN n) := fun V hV => by
    have := word_ok hV 0 (by show sa + 0 < F.e0; omega) (by omega)
    rw [show (⟨sa, sd, ss, so, false, sl0⟩ : WS).at_ + 0 = sa + 0 from rfl, Nat.add_zero, hw] at this
    exact this
  have H1 : Hid (∀ V, WK V B x F ⟨sa, sd, ss, so, false, sl0⟩ pi ci ins → Calls Tryd.prog 28 #[.pointer (some ⟨x, 0, none⟩), .int .i64 1] V fun e w' => e = .returned (.int .i64 va) ∧ ∃ n, w' = V.drewN n) := fun V hV => by
    have := word_ok hV 1 (by show sa + 1 < F.e0; omega) (by omega)
    rw [show (⟨sa, sd, ss, so, false, sl0⟩ : WS).at_ + 1 = sa + 1 from rfl, hva] at this
    exact this
  have HZ : Hid (∀ V, Calls Tryd.prog 29 #[.int .i64 25] V fun e w' => e = .returned (.int .i64 2) ∧ w' = V) := fun V => size_ok 25 V (by decide) (by decide)
  have en := h.en
  have n4 := h.n4
  have HB : Hid (∀ V, WK V B x F ⟨sa, sd, ss, so, false, sl0⟩ pi ci ins → V.cell? ⟨x, 17, none⟩ = some (.bool false) ∧ V.cell? ⟨x, 18, none⟩ = some (.int .i64 (sl0 : Int)) ∧ V.frozen? ⟨x, 18, none⟩ = false ∧ (V.setCell ⟨x, 18, none⟩ (.int .i64 ((sl0 : Int) + 1))).cell? ⟨x, 12, none⟩ = some (.int .i64 (sa : Int)) ∧ Fr [x] V (V.setCell ⟨x, 18, none⟩ (.int .i64 ((sl0 : Int) + 1))) ∧ WK (V.setCell ⟨x, 18, none⟩ (.int .i64 ((sl0 : Int) + 1))) B x F ⟨sa, sd, ss, so, false, sl0 + 1⟩ pi ci ins) := fun V hV => by
    have e1 : I (sl0 + 1) = .int .i64 ((sl0 : Int) + 1) := rfl
    have := hV.bump (sl0 + 1) hlo
    rw [e1] at this
    exact ⟨hV.cell 17, hV.cell 18, hV.fz 18, this.1.cell 12, this.2, this.1⟩
  have HL := mkHid HL
  have HOk := mkHid hok
  have HE : Hid (∀ V s2 (m : Nat), m ≤ 4096 → WK V B x F s2 pi ci ins → V.cell? ⟨x, 12, none⟩ = some (.int .i64 (s2.at_ : Int)) ∧ V.frozen? ⟨x, 12, none⟩ = false ∧ WK (V.setCell ⟨x, 12, none⟩ (.int .i64 (m : Int))) B x F ⟨m, s2.dep, s2.seed, s2.done, s2.wild, s2.loose⟩ pi ci ins ∧ Fr [x] V (V.setCell ⟨x, 12, none⟩ (.int .i64 (m : Int)))) := fun V s2 m hm hV => by
    have := hV.goes m hm
    exact ⟨hV.cell 12, hV.fz 12, this.1, this.2⟩
  have K0 := mkHid h
  have F0 : Hid (Fr [x] w w) := Fr.refl _ _
  clear h hw hok hva
  go_enter Tryd.func19, Tryd.ntmps19
  go_wp2_with (first
    | (go_at_call 28; refine (H0.out _ K0.out).mono ?_; rintro e v1 ⟨rfl, n1, hn1⟩; have k1 := K0.out.dr n1; have f1 := F0.out.x2 (Fr.drewN [x] _ n1); rw [← hn1] at k1 f1; have K1 := mkHid k1; have F1 := mkHid f1; clear hn1 k1 f1; clear H0)
    | (go_at_call 28; refine (H1.out _ K1.out).mono ?_; rintro e v2 ⟨rfl, n2, hn2⟩; have k2 := K1.out.dr n2; have f2 := F1.out.x2 (Fr.drewN [x] _ n2); rw [← hn2] at k2 f2; have K2 := mkHid k2; have F2 := mkHid f2; clear hn2 k2 f2; clear H1; obtain ⟨c1, c2, c3, c4, c5, c6⟩ := HB.out _ K2.out; have C5 := mkHid (F2.out.x2 c5); have C6 := mkHid c6; clear c5 c6)
    | (go_at_call 29; refine (HZ.out _).mono ?_; rintro e w' ⟨rfl, hw'⟩; rw [hw']; clear hw' w')
    | (go_at_call 34; refine (HL.out _ C6.out).mono ?_; rintro e w2 ⟨t, s', rfl, f2, k2, ho⟩; obtain ⟨m, em, hm⟩ := HOk.out t s' ho; subst em; obtain ⟨d1, d2, d3, d4⟩ := HE.out _ _ m hm k2; have HD3 := mkHid d3; have HD4 := mkHid ((C5.out.x2 f2).x2 d4); have HO := mkHid ho; clear f2 k2 d3 d4 ho))
  go_end0
  exact ⟨rfl, HD4.out, m, s', HO.out, HD3.out⟩
end
end Go.Proofs.YtdflpoldlokijaaDoor
