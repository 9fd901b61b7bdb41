import Derived.Test.YtdflpoldlokijaaDoorSG25CWlk0
import Derived.Test.YtdflpoldlokijaaDoorSG13CJmp
namespace Go.Proofs.YtdflpoldlokijaaDoor
open Go.RowKit
set_option linter.unusedVariables false
set_option linter.unusedSimpArgs false
attribute [local go_sem ↓] Go.wp_at_zero Go.wp_at_succ
def DrP (w : World) (B x : Nat) (F : Fx) (s : WS) (pi : Option Addr) (ci : Nat) (ins : List In) (n : Int) (e : Ending) (w' : World) : Prop := ∃ r sd : Int, e = .returned (.int .i64 r) ∧ 0 ≤ r ∧ r < n ∧ 0 ≤ sd ∧ sd < 2147483648 ∧ Fr [x] w w' ∧ WK w' B x F ⟨s.at_, s.dep, sd, s.done, s.wild, s.loose⟩ pi ci ins
section
variable {w : World} {B x : Nat} {F : Fx} {s : WS} {pi : Option Addr} {ci : Nat} {ins : List In}
set_option maxRecDepth 100000 in
set_option maxHeartbeats 2000000 in
theorem draws_ok (h : WK w B x F s pi ci ins) (n : Int) (hn : n = 2 ∨ n = 3) (hs1 : 0 ≤ s.seed) (hs2 : s.seed < 2147483648) : Calls Tryd.prog 52 #[.pointer (some ⟨x, 0, none⟩), .int .i64 n] w fun e w' => DrP w B x F s pi ci ins n e w' := by
  have c15 : w.cell? ⟨x, 15, none⟩ = some (.int .i64 s.seed) := h.cell 15
  have f15 := h.fz 15
  have HA : Hid (∀ v, WK (w.setCell ⟨x, 15, none⟩ (.int .i64 v)) B x F ⟨s.at_, s.dep, v, s.done, s.wild, s.loose⟩ pi ci ins ∧ Fr [x] w (w.setCell ⟨x, 15, none⟩ (.int .i64 v))) := fun v => h.set 15 _ ⟨s.at_, s.dep, v, s.done, s.wild, s.loose⟩ rfl h.at4 h.lo4 h.dp
  generalize s.seed = sd at *
  obtain ⟨m, hm⟩ : ∃ m, (sd * 1103515245 + 12345) % 2147483648 = m := ⟨_, rfl⟩
  have m1 : 0 ≤ m := by rw [← hm]; exact Int.emod_nonneg _ (by decide)
  have m2 : m < 2147483648 := by rw [← hm]; exact Int.emod_lt_of_pos _ (by decide)
  have q1 : ¬ m < 0 := by omega
  have u1 : (0 : Int) ≤ sd * 1103515245 := by omega
  have u2 : sd * 1103515245 ≤ 2369780944000000000 := by omega
  have u3 : (0 : Int) ≤ sd * 1103515245 + 12345 := by omega
  have v1 : 0 ≤ m / 65536 := by omega
  have v2 : 0 ≤ m / 65536 % n ∧ m / 65536 % n < n := by rcases hn with rfl | rfl <;> omega
  clear h
  rcases hn with rfl | rfl
  all_goals go_enter Tryd.func52, Tryd.ntmps52
  all_goals go_wp2_with fail
  all_goals go_ret
  all_goals exact ⟨_, m, rfl, v2.1, v2.2, m1, m2, (HA.out m).2, (HA.out m).1⟩
set_option maxHeartbeats 2000000 in
theorem named_ok (h : WK w B x F s pi ci ins) (op : Nat) (a b z : Int) (h1 : op ≤ 14) (hf : fitP F.C.b F.C.lits F.sc op a b z = true) : Calls Tryd.prog 31 #[.pointer (some ⟨x, 0, none⟩), .int .i64 op, .int .i64 a, .int .i64 b] w fun e w' => e = .returned (.bool true) ∧ w' = w := by
  have hlit : F.C.lits ≤ 100000000000 ∨ True := .inr trivial
  have c3 : w.cell? ⟨x, 3, none⟩ = some (.slice F.lp F.C.lits F.lc) := h.cell 3
  have c5 : w.cell? ⟨x, 5, none⟩ = some (.int .i64 F.C.b.fields) := h.cell 5
  have c6 : w.cell? ⟨x, 6, none⟩ = some (.int .i64 F.C.b.classes) := h.cell 6
  have c7 : w.cell? ⟨x, 7, none⟩ = some (.int .i64 F.C.b.globals) := h.cell 7
  have c8 : w.cell? ⟨x, 8, none⟩ = some (.int .i64 F.C.b.symbols) := h.cell 8
  have HSl : Hid (∀ o i, isSlotP F.sc o i = true → Calls Tryd.prog 51 #[.pointer (some ⟨x, 0, none⟩), .int .i64 o, .int .i64 i] w fun e w' => e = .returned (.bool true) ∧ w' = w) := fun o i hs => slot_ok h o i hs
  clear h hlit
  generalize F.C.lits = nl at *
  unfold fitP at hf
  rcases (show op = 5 ∨ op = 6 ∨ op = 7 ∨ op = 8 ∨ op = 9 ∨ op = 10 ∨ op = 11 ∨ op = 12 ∨ op = 13 ∨ op = 14 ∨ (op < 5) by omega) with rfl | rfl | rfl | rfl | rfl | rfl | rfl | rfl | rfl | rfl | ho
  · simp [inR] at hf
    obtain ⟨q1, q2⟩ := hf
    go_enter Tryd.func31, Tryd.ntmps31
    go_wp2_with fail
    go_ret
    exact ⟨rfl, rfl⟩
  · simp [bel] at hf
    obtain ⟨q1, q2⟩ := hf
    go_enter Tryd.func31, Tryd.ntmps31
    go_wp2_with fail
    go_ret
    exact ⟨rfl, rfl⟩
  · simp [bel] at hf
    obtain ⟨q1, q2⟩ := hf
    go_enter Tryd.func31, Tryd.ntmps31
    go_wp2_with fail
    go_ret
    exact ⟨rfl, rfl⟩
  · simp [inR] at hf
    obtain ⟨q1, q2⟩ := hf
    go_enter Tryd.func31, Tryd.ntmps31
    go_wp2_with fail
    go_ret
    exact ⟨rfl, rfl⟩
  · simp [bel] at hf
    obtain ⟨q1, q2⟩ := hf
    go_enter Tryd.func31, Tryd.ntmps31
    go_wp2_with fail
    go_ret
    exact ⟨rfl, rfl⟩
  · simp at hf
    have HS := mkHid (HSl.out a b hf)
    go_enter Tryd.func31, Tryd.ntmps31
    go_wp2_with (go_at_call 51; refine HS.out.mono ?_; rintro e w' ⟨rfl, hw'⟩; rw [hw']; clear hw' w')
    go_ret
    exact ⟨rfl, rfl⟩
  · simp [bel] at hf
    obtain ⟨q1, q2⟩ := hf
    go_enter Tryd.func31, Tryd.ntmps31
    go_wp2_with fail
    go_ret
    exact ⟨rfl, rfl⟩
  · simp [bel] at hf
    obtain ⟨q1, q2⟩ := hf
    go_enter Tryd.func31, Tryd.ntmps31
    go_wp2_with fail
    go_ret
    exact ⟨rfl, rfl⟩
  · simp at hf
    have HS := mkHid (HSl.out a b hf)
    go_enter Tryd.func31, Tryd.ntmps31
    go_wp2_with (go_at_call 51; refine HS.out.mono ?_; rintro e w' ⟨rfl, hw'⟩; rw [hw']; clear hw' w')
    go_ret
    exact ⟨rfl, rfl⟩
  · simp [bel] at hf
    obtain ⟨q1, q2⟩ := hf
    go_enter Tryd.func31, Tryd.ntmps31
    go_wp2_with fail
    go_ret
    exact ⟨rfl, rfl⟩
  · clear hf
    have e5 : ((op : Int) == 5) = false := beq_eq_false_iff_ne.2 (by omega)
    have e6 : ((op : Int) == 6) = false := beq_eq_false_iff_ne.2 (by omega)
    have e7 : ((op : Int) == 7) = false := beq_eq_false_iff_ne.2 (by omega)
    have e8 : ((op : Int) == 8) = false := beq_eq_false_iff_ne.2 (by omega)
    have e9 : ((op : Int) == 9) = false := beq_eq_false_iff_ne.2 (by omega)
    have e10 : ((op : Int) == 10) = false := beq_eq_false_iff_ne.2 (by omega)
    have e11 : ((op : Int) == 11) = false := beq_eq_false_iff_ne.2 (by omega)
    have e12 : ((op : Int) == 12) = false := beq_eq_false_iff_ne.2 (by omega)
    have e13 : ((op : Int) == 13) = false := beq_eq_false_iff_ne.2 (by omega)
    have e14 : ((op : Int) == 14) = false := beq_eq_false_iff_ne.2 (by omega)
    go_enter Tryd.func31, Tryd.ntmps31
    go_wp2_with fail
    go_ret
    exact ⟨rfl, rfl⟩
end
end Go.Proofs.YtdflpoldlokijaaDoor
namespace Go.Proofs.YtdflpoldlokijaaDoor
open Go.RowKit
set_option linter.unusedVariables false
set_option linter.unusedSimpArgs false
attribute [local go_sem ↓] Go.wp_at_zero Go.wp_at_succ
/-- what leads on from a jump or a return: where it goes, and the state then -/
def LdP (w : World) (B x : Nat) (F : Fx) (s : WS) (pi : Option Addr) (ci : Nat) (ins : List In) (ok : Int → WS → Prop) (e : Ending) (w' : World) : Prop :=
  ∃ (t : Int) (s' : WS), e = .returned (.int .i64 t) ∧ Fr [x] w w' ∧ WK w' B x F s' pi ci ins ∧ ok t s'
section
variable {w : World} {B x : Nat} {F : Fx} {s : WS} {pi : Option Addr} {ci : Nat} {ins : List In}
theorem Fr.x2 {x : Nat} {a b c : World} (h : Fr [x] a b) (k : Fr [x] b c) : Fr [x] a c := h.trans k (fun g hg => .inl hg)
theorem mv_ok (h : WK w B x F s pi ci ins) (t l d : Int) (h0 : 0 ≤ t ∧ 0 ≤ l) (h1 : t ≤ s.dep) (hd : s.dep - t + l = d) (h2 : d ≤ F.h.stack) : Calls Tryd.prog 32 #[.pointer (some ⟨x, 0, none⟩), .int .i64 t, .int .i64 l] w fun e w' => e = .returned (.tuple #[]) ∧ Fr [x] w w' ∧ WK w' B x F ⟨s.at_, d, s.seed, s.done, s.wild, s.loose⟩ pi ci ins := by
  obtain ⟨t', rfl⟩ := Int.eq_ofNat_of_zero_le h0.1
  obtain ⟨l', rfl⟩ := Int.eq_ofNat_of_zero_le h0.2
  subst hd
  exact moves_ok h t' l' h1 h2
set_option maxRecDepth 100000 in
set_option maxHeartbeats 2000000 in
theorem leads_ret (h : WK w B x F s pi ci ins) (op : Nat) (ho : op = 20 ∨ op = 21 ∨ op = 22) (hm : mayP F.sc op = true) (a b nx : Int) (hd : 1 ≤ s.dep) (hst : s.dep - 1 ≤ F.h.stack) :
    Calls Tryd.prog 34 #[.pointer (some ⟨x, 0, none⟩), .int .i64 op, .int .i64 a, .int .i64 b, .int .i64 nx] w fun e w' => LdP w B x F s pi ci ins (fun t s' => t = nx ∧ s' = ⟨s.at_, s.dep - 1, s.seed, true, s.wild, s.loose⟩) e w' := by
  have HMv := mkHid (mv_ok h 1 0 (s.dep - 1) (by decide) (by omega) (by omega) hst)
  have s1 := h.sc1
  have HN := mkHid (needs_ok x)
  have HSet : Hid (∀ V s2, WK V B x F s2 pi ci ins → WK (V.setCell ⟨x, 16, none⟩ (.bool true)) B x F ⟨s2.at_, s2.dep, s2.seed, true, s2.wild, s2.loose⟩ pi ci ins ∧ Fr [x] V (V.setCell ⟨x, 16, none⟩ (.bool true)) ∧ V.cell? ⟨x, 11, none⟩ = some (.slice F.psc F.sc.length F.csc) ∧ V.cell? ⟨x, 16, none⟩ = some (.bool s2.done) ∧ V.frozen? ⟨x, 16, none⟩ = false) := fun V s2 hV => by
    have := hV.set 16 (.bool true) ⟨s2.at_, s2.dep, s2.seed, true, s2.wild, s2.loose⟩ rfl hV.at4 hV.lo4 hV.dp
    exact ⟨this.1, this.2, hV.cell 11, hV.cell 16, hV.fz 16⟩
  rcases ho with rfl | rfl | rfl
  · have hl : F.sc.length = 1 := by simpa [mayP] using hm
    have e1 : ((F.sc.length : Int) == 1) = true := beq_iff_eq.2 (by omega)
    generalize F.sc.length = nn at *
    clear h hm hl
    go_enter Tryd.func34, Tryd.ntmps34
    go_wp2_with (first
    | (go_at_call 32; refine HMv.out.mono ?_; rintro e w1 ⟨rfl, f1, k1⟩; obtain ⟨z1, z2, z3, z4, z5⟩ := HSet.out w1 _ k1; have Z1 := mkHid z1; have Z2 := mkHid (f1.x2 z2); clear f1 k1 z1 z2)
    | (go_at_call 30; refine (HN.out _).mono ?_; rintro e w' ⟨rfl, hw'⟩; rw [hw']; clear hw' w'))
    go_ret
    exact ⟨_, _, rfl, Z2.out, Z1.out, rfl, rfl⟩
  · have hl : 1 < F.sc.length := by simpa [mayP] using hm
    have e1 : ((F.sc.length : Int) == 1) = false := beq_eq_false_iff_ne.2 (by omega)
    generalize F.sc.length = nn at *
    clear h hm hl
    go_enter Tryd.func34, Tryd.ntmps34
    go_wp2_with (first
    | (go_at_call 32; refine HMv.out.mono ?_; rintro e w1 ⟨rfl, f1, k1⟩; obtain ⟨z1, z2, z3, z4, z5⟩ := HSet.out w1 _ k1; have Z1 := mkHid z1; have Z2 := mkHid (f1.x2 z2); clear f1 k1 z1 z2)
    | (go_at_call 30; refine (HN.out _).mono ?_; rintro e w' ⟨rfl, hw'⟩; rw [hw']; clear hw' w'))
    go_ret
    exact ⟨_, _, rfl, Z2.out, Z1.out, rfl, rfl⟩
  · have hl : 1 < F.sc.length := by simpa [mayP] using hm
    have e1 : ((F.sc.length : Int) == 1) = false := beq_eq_false_iff_ne.2 (by omega)
    generalize F.sc.length = nn at *
    clear h hm hl
    go_enter Tryd.func34, Tryd.ntmps34
    go_wp2_with (first
    | (go_at_call 32; refine HMv.out.mono ?_; rintro e w1 ⟨rfl, f1, k1⟩; obtain ⟨z1, z2, z3, z4, z5⟩ := HSet.out w1 _ k1; have Z1 := mkHid z1; have Z2 := mkHid (f1.x2 z2); clear f1 k1 z1 z2)
    | (go_at_call 30; refine (HN.out _).mono ?_; rintro e w' ⟨rfl, hw'⟩; rw [hw']; clear hw' w'))
    go_ret
    exact ⟨_, _, rfl, Z2.out, Z1.out, rfl, rfl⟩
end
end Go.Proofs.YtdflpoldlokijaaDoor
namespace Go.Proofs.YtdflpoldlokijaaDoor
open Go.RowKit
set_option linter.unusedVariables false
set_option linter.unusedSimpArgs false
attribute [local go_sem ↓] Go.wp_at_zero Go.wp_at_succ
section
variable {w : World} {B x : Nat} {F : Fx} {s : WS} {pi : Option Addr} {ci : Nat} {ins : List In}
theorem LdP.intro {ok : Int → WS → Prop} {w' : World} {t : Int} {s' : WS} (f : Fr [x] w w') (k : WK w' B x F s' pi ci ins) (h : ok t s') : LdP w B x F s pi ci ins ok (.returned (.int .i64 t)) w' := ⟨t, s', rfl, f, k, h⟩
theorem WK.loose0 (h : WK w B x F s pi ci ins) : WK (w.setCell ⟨x, 18, none⟩ (.int .i64 0)) B x F ⟨s.at_, s.dep, s.seed, s.done, s.wild, 0⟩ pi ci ins ∧ Fr [x] w (w.setCell ⟨x, 18, none⟩ (.int .i64 0)) ∧ w.cell? ⟨x, 18, none⟩ = some (.int .i64 (s.loose : Int)) ∧ w.frozen? ⟨x, 18, none⟩ = false := by
  have := h.set 18 (.int .i64 0) ⟨s.at_, s.dep, s.seed, s.done, s.wild, 0⟩ rfl h.at4 (by show 0 ≤ 5000; omega) h.dp
  exact ⟨this.1, this.2, h.cell 18, h.fz 18⟩
set_option maxRecDepth 100000 in
set_option maxHeartbeats 2000000 in
theorem leads23 (h : WK w B x F s pi ci ins) (a b nx : Int) (hn : 0 ≤ nx ∧ nx ≤ 5000) (ha : 0 ≤ a ∧ a ≤ 5000) :
    Calls Tryd.prog 34 #[.pointer (some ⟨x, 0, none⟩), .int .i64 23, .int .i64 a, .int .i64 b, .int .i64 nx] w fun e w' => LdP w B x F s pi ci ins (fun t s' => t = nx + a ∧ s' = s) e w' := by
  obtain ⟨n1, n2⟩ := hn
  obtain ⟨a1, a2⟩ := ha
  have HH := mkHid h
  clear h
  go_enter Tryd.func34, Tryd.ntmps34
  go_wp2_with fail
  go_ret
  exact LdP.intro (Fr.refl _ _) HH.out ⟨rfl, rfl⟩
set_option maxRecDepth 100000 in
set_option maxHeartbeats 2000000 in
theorem leads24 (h : WK w B x F s pi ci ins) (a b nx : Int) (hn : 0 ≤ nx ∧ nx ≤ 5000) (ha : 0 ≤ a ∧ a ≤ 5000) (hd : 1 ≤ s.dep) (hst : s.dep - 1 ≤ F.h.stack) (hs : 0 ≤ s.seed ∧ s.seed < 2147483648) :
    Calls Tryd.prog 34 #[.pointer (some ⟨x, 0, none⟩), .int .i64 24, .int .i64 a, .int .i64 b, .int .i64 nx] w fun e w' => LdP w B x F s pi ci ins (fun t s' => ∃ sd, 0 ≤ sd ∧ sd < 2147483648 ∧ s' = ⟨s.at_, s.dep - 1, sd, s.done, s.wild, s.loose⟩ ∧ (t = nx + a ∨ t = nx)) e w' := by
  obtain ⟨n1, n2⟩ := hn
  obtain ⟨a1, a2⟩ := ha
  have HMv := mkHid (mv_ok h 1 0 (s.dep - 1) (by decide) (by omega) (by omega) hst)
  have HDr : Hid (∀ V, WK V B x F ⟨s.at_, s.dep - 1, s.seed, s.done, s.wild, s.loose⟩ pi ci ins → Calls Tryd.prog 52 #[.pointer (some ⟨x, 0, none⟩), .int .i64 2] V fun e w' => DrP V B x F ⟨s.at_, s.dep - 1, s.seed, s.done, s.wild, s.loose⟩ pi ci ins 2 e w') := fun V hV => draws_ok hV 2 (.inl rfl) hs.1 hs.2
  clear h
  go_enter Tryd.func34, Tryd.ntmps34
  go_wp2_with (first
    | (go_at_call 32; refine HMv.out.mono ?_; rintro e w1 ⟨rfl, f1, k1⟩; have F1 := mkHid f1; have K1 := mkHid k1; clear f1 k1)
    | (go_at_call 52; refine (HDr.out w1 K1.out).mono ?_; rintro e w2 ⟨r, sd, rfl, r1, r2, sd1, sd2, f2, k2⟩; have F2 := mkHid (F1.out.x2 f2); have K2 := mkHid k2; clear f2 k2))
  all_goals go_ret
  all_goals first
    | exact LdP.intro F2.out K2.out ⟨sd, sd1, sd2, rfl, .inl rfl⟩
    | exact LdP.intro F2.out K2.out ⟨sd, sd1, sd2, rfl, .inr rfl⟩
set_option maxRecDepth 100000 in
set_option maxHeartbeats 2000000 in
theorem leads25 (h : WK w B x F s pi ci ins) (a b nx : Int) (hn : 0 ≤ nx ∧ nx ≤ 5000) (ha : 0 ≤ a ∧ a ≤ 5000) (hd : 1 ≤ s.dep) (hst : s.dep - 1 ≤ F.h.stack) (hs : 0 ≤ s.seed ∧ s.seed < 2147483648) :
    Calls Tryd.prog 34 #[.pointer (some ⟨x, 0, none⟩), .int .i64 25, .int .i64 a, .int .i64 b, .int .i64 nx] w fun e w' => LdP w B x F s pi ci ins (fun t s' => ∃ sd, 0 ≤ sd ∧ sd < 2147483648 ∧ s' = ⟨s.at_, s.dep - 1, sd, s.done, s.wild, s.loose⟩ ∧ (t = nx + a ∨ t = nx)) e w' := by
  obtain ⟨n1, n2⟩ := hn
  obtain ⟨a1, a2⟩ := ha
  have HMv := mkHid (mv_ok h 1 0 (s.dep - 1) (by decide) (by omega) (by omega) hst)
  have HDr : Hid (∀ V, WK V B x F ⟨s.at_, s.dep - 1, s.seed, s.done, s.wild, s.loose⟩ pi ci ins → Calls Tryd.prog 52 #[.pointer (some ⟨x, 0, none⟩), .int .i64 2] V fun e w' => DrP V B x F ⟨s.at_, s.dep - 1, s.seed, s.done, s.wild, s.loose⟩ pi ci ins 2 e w') := fun V hV => draws_ok hV 2 (.inl rfl) hs.1 hs.2
  clear h
  go_enter Tryd.func34, Tryd.ntmps34
  go_wp2_with (first
    | (go_at_call 32; refine HMv.out.mono ?_; rintro e w1 ⟨rfl, f1, k1⟩; have F1 := mkHid f1; have K1 := mkHid k1; clear f1 k1)
    | (go_at_call 52; refine (HDr.out w1 K1.out).mono ?_; rintro e w2 ⟨r, sd, rfl, r1, r2, sd1, sd2, f2, k2⟩; have F2 := mkHid (F1.out.x2 f2); have K2 := mkHid k2; clear f2 k2))
  all_goals go_ret
  all_goals first
    | exact LdP.intro F2.out K2.out ⟨sd, sd1, sd2, rfl, .inl rfl⟩
    | exact LdP.intro F2.out K2.out ⟨sd, sd1, sd2, rfl, .inr rfl⟩
set_option maxRecDepth 100000 in
set_option maxHeartbeats 2000000 in
theorem leads26 (h : WK w B x F s pi ci ins) (a b nx : Int) (hn : 0 ≤ nx ∧ nx ≤ 5000) (ha : 0 ≤ a ∧ a ≤ 5000) :
    Calls Tryd.prog 34 #[.pointer (some ⟨x, 0, none⟩), .int .i64 26, .int .i64 a, .int .i64 b, .int .i64 nx] w fun e w' => LdP w B x F s pi ci ins (fun t s' => t = nx - a ∧ s' = ⟨s.at_, s.dep, s.seed, s.done, s.wild, 0⟩) e w' := by
  obtain ⟨n1, n2⟩ := hn
  obtain ⟨a1, a2⟩ := ha
  obtain ⟨z1, z2, c18, f18⟩ := h.loose0
  have Z1 := mkHid z1
  have Z2 := mkHid z2
  clear h z1 z2
  go_enter Tryd.func34, Tryd.ntmps34
  go_wp2_with fail
  go_ret
  exact LdP.intro Z2.out Z1.out ⟨rfl, rfl⟩
set_option maxRecDepth 100000 in
set_option maxHeartbeats 2000000 in
theorem leads27 (h : WK w B x F s pi ci ins) (a b nx : Int) (hn : 0 ≤ nx ∧ nx ≤ 5000) (hb : 0 ≤ b ∧ b ≤ 5000) (hsl : isSlotP F.sc 0 a = true) (hd : 2 ≤ s.dep) (hst : s.dep - 1 ≤ F.h.stack) (hs : 0 ≤ s.seed ∧ s.seed < 2147483648) :
    Calls Tryd.prog 34 #[.pointer (some ⟨x, 0, none⟩), .int .i64 27, .int .i64 a, .int .i64 b, .int .i64 nx] w fun e w' => LdP w B x F s pi ci ins (fun t s' => ∃ sd, 0 ≤ sd ∧ sd < 2147483648 ∧ (s' = ⟨s.at_, s.dep - 2, sd, s.done, s.wild, s.loose⟩ ∧ t = nx + b ∨ s' = ⟨s.at_, s.dep - 1, sd, s.done, s.wild, s.loose⟩ ∧ t = nx)) e w' := by
  obtain ⟨n1, n2⟩ := hn
  obtain ⟨b1, b2⟩ := hb
  have HSl := mkHid (slot_ok h 0 a hsl)
  have HN := mkHid (needs_ok x)
  have HDr := mkHid (draws_ok h 2 (.inl rfl) hs.1 hs.2)
  have HM0 : Hid (∀ V sd, WK V B x F ⟨s.at_, s.dep, sd, s.done, s.wild, s.loose⟩ pi ci ins → Calls Tryd.prog 32 #[.pointer (some ⟨x, 0, none⟩), .int .i64 2, .int .i64 0] V fun e w' => e = .returned (.tuple #[]) ∧ Fr [x] V w' ∧ WK w' B x F ⟨s.at_, s.dep - 2, sd, s.done, s.wild, s.loose⟩ pi ci ins) := fun V sd hV => mv_ok hV 2 0 (s.dep - 2) (by decide) hd (by show s.dep - 2 + 0 = s.dep - 2; omega) (by omega)
  have HM1 : Hid (∀ V sd, WK V B x F ⟨s.at_, s.dep, sd, s.done, s.wild, s.loose⟩ pi ci ins → Calls Tryd.prog 32 #[.pointer (some ⟨x, 0, none⟩), .int .i64 2, .int .i64 1] V fun e w' => e = .returned (.tuple #[]) ∧ Fr [x] V w' ∧ WK w' B x F ⟨s.at_, s.dep - 1, sd, s.done, s.wild, s.loose⟩ pi ci ins) := fun V sd hV => mv_ok hV 2 1 (s.dep - 1) (by decide) hd (by show s.dep - 2 + 1 = s.dep - 1; omega) hst
  clear h
  go_enter Tryd.func34, Tryd.ntmps34
  go_wp2_with (first
    | (go_at_call 51; refine HSl.out.mono ?_; rintro e w' ⟨rfl, hw'⟩; rw [hw']; clear hw' w')
    | (go_at_call 30; refine (HN.out _).mono ?_; rintro e w' ⟨rfl, hw'⟩; rw [hw']; clear hw' w')
    | (go_at_call 52; refine HDr.out.mono ?_; rintro e w2 ⟨r, sd, rfl, r1, r2, sd1, sd2, f2, k2⟩; have F2 := mkHid f2; have K2 := mkHid k2; clear f2 k2)
    | (go_at_call 32; first | (with_reducible refine (HM0.out w2 sd K2.out).mono ?_; rintro e w3 ⟨rfl, f3, k3⟩; have F3 := mkHid (F2.out.x2 f3); have K3 := mkHid k3; clear f3 k3) | (with_reducible refine (HM1.out w2 sd K2.out).mono ?_; rintro e w3 ⟨rfl, f3, k3⟩; have F3 := mkHid (F2.out.x2 f3); have K3 := mkHid k3; clear f3 k3)))
  all_goals go_ret
  all_goals first
    | exact LdP.intro F3.out K3.out ⟨sd, sd1, sd2, .inl ⟨rfl, rfl⟩⟩
    | exact LdP.intro F3.out K3.out ⟨sd, sd1, sd2, .inr ⟨rfl, rfl⟩⟩
set_option maxRecDepth 100000 in
set_option maxHeartbeats 2000000 in
theorem leads28 (h : WK w B x F s pi ci ins) (a b nx : Int) (hn : 0 ≤ nx ∧ nx ≤ 5000) (hb : 0 ≤ b ∧ b ≤ 5000) (hsl : isSlotP F.sc 0 a = true) (hd : 1 ≤ s.dep) (hst : s.dep ≤ F.h.stack) (hs : 0 ≤ s.seed ∧ s.seed < 2147483648) :
    Calls Tryd.prog 34 #[.pointer (some ⟨x, 0, none⟩), .int .i64 28, .int .i64 a, .int .i64 b, .int .i64 nx] w fun e w' => LdP w B x F s pi ci ins (fun t s' => ∃ sd, 0 ≤ sd ∧ sd < 2147483648 ∧ (s' = ⟨s.at_, s.dep - 1, sd, s.done, s.wild, s.loose⟩ ∧ t = nx ∨ s' = ⟨s.at_, s.dep, sd, s.done, s.wild, 0⟩ ∧ t = nx - b)) e w' := by
  obtain ⟨n1, n2⟩ := hn
  obtain ⟨b1, b2⟩ := hb
  have HSl := mkHid (slot_ok h 0 a hsl)
  have HN := mkHid (needs_ok x)
  have HDr := mkHid (draws_ok h 3 (.inr rfl) hs.1 hs.2)
  have HM0 : Hid (∀ V sd, WK V B x F ⟨s.at_, s.dep, sd, s.done, s.wild, s.loose⟩ pi ci ins → Calls Tryd.prog 32 #[.pointer (some ⟨x, 0, none⟩), .int .i64 1, .int .i64 0] V fun e w' => e = .returned (.tuple #[]) ∧ Fr [x] V w' ∧ WK w' B x F ⟨s.at_, s.dep - 1, sd, s.done, s.wild, s.loose⟩ pi ci ins) := fun V sd hV => mv_ok hV 1 0 (s.dep - 1) (by decide) hd (by show s.dep - 1 + 0 = s.dep - 1; omega) (by omega)
  have HM1 : Hid (∀ V sd, WK V B x F ⟨s.at_, s.dep, sd, s.done, s.wild, s.loose⟩ pi ci ins → Calls Tryd.prog 32 #[.pointer (some ⟨x, 0, none⟩), .int .i64 1, .int .i64 1] V fun e w' => e = .returned (.tuple #[]) ∧ Fr [x] V w' ∧ WK w' B x F ⟨s.at_, s.dep, sd, s.done, s.wild, s.loose⟩ pi ci ins) := fun V sd hV => mv_ok hV 1 1 s.dep (by decide) hd (by show s.dep - 1 + 1 = s.dep; omega) hst
  clear h
  go_enter Tryd.func34, Tryd.ntmps34
  go_wp2_with (first
    | (go_at_call 51; refine HSl.out.mono ?_; rintro e w' ⟨rfl, hw'⟩; rw [hw']; clear hw' w')
    | (go_at_call 30; refine (HN.out _).mono ?_; rintro e w' ⟨rfl, hw'⟩; rw [hw']; clear hw' w')
    | (go_at_call 52; refine HDr.out.mono ?_; rintro e w2 ⟨r, sd, rfl, r1, r2, sd1, sd2, f2, k2⟩; have F2 := mkHid f2; have K2 := mkHid k2; clear f2 k2)
    | (go_at_call 32; first | (with_reducible refine (HM0.out w2 sd K2.out).mono ?_; rintro e w3 ⟨rfl, f3, k3⟩; have F3 := mkHid (F2.out.x2 f3); have K3 := mkHid k3; clear f3 k3) | (with_reducible refine (HM1.out w2 sd K2.out).mono ?_; rintro e w3 ⟨rfl, f3, k3⟩; obtain ⟨z1, z2, c18, f18⟩ := k3.loose0; have F3 := mkHid (F2.out.x2 (f3.x2 z2)); have K3 := mkHid z1; clear f3 k3 z1 z2)))
  all_goals go_ret
  all_goals first
    | exact LdP.intro F3.out K3.out ⟨sd, sd1, sd2, .inl ⟨rfl, rfl⟩⟩
    | exact LdP.intro F3.out K3.out ⟨sd, sd1, sd2, .inr ⟨rfl, rfl⟩⟩
end
end Go.Proofs.YtdflpoldlokijaaDoor
namespace Go.Proofs.YtdflpoldlokijaaDoor
open Go.RowKit
set_option linter.unusedVariables false
set_option linter.unusedSimpArgs false
/-- one more struct behind a row: in its own block, or in a new one and the old one stays -/
theorem pushS {t e : TypeId} {sz by_ : Nat} {z0 : Value} (hu : Tryd.prog.underlying t = some (.slice e)) (hinf : (Tryd.prog.info? e).map (fun i => (i.zero, i.size, i.bytes)) = some (some z0, sz, by_)) (hzc : z0.cells.size = sz) (hsz0 : 0 < sz) (w : World) (base : Nat) (p : Option Addr) (c n : Nat) (xs x : List Value) (h4 : x.length = sz) (h : w.ownsRow base e sz (.slice p n c) n xs) (hx : ∀ u ∈ x, u.oneCell' = true) (hn : n + 1 ≤ maxLen) (hb : ((n + 1) + (n + 1) / 4 + 192) * by_ ≤ 281474976710656) (hB : base ≤ w.heap.size) :
    ∃ p' c' w', (Builtin.append_ #[t, t] t #[.slice p n c, .slice (some ⟨w.heap.size, 0, none⟩) 1 1]).run Tryd.prog (w.alloc (.cells x.toArray e)) = .ok (.slice p' (n + 1) c') w' ∧
      w'.ownsRow base e sz (.slice p' (n + 1) c') (n + 1) (xs ++ x) ∧ ((p' = p ∧ c' = c ∧ Fr (blk p) w w') ∨ (Fr [] w w' ∧ ∀ g ∈ blk p', w.heap.size ≤ g)) := by
  obtain ⟨i, hi, hz, hsize, hby⟩ := info_parts hinf
  have hA : (w.alloc (.cells x.toArray e)).heap.size = w.heap.size + 1 := by simp
  have hown : (w.alloc (.cells x.toArray e)).ownsRow base e sz (.slice p n c) n xs := own_congr h (fun g hg => Below.heap_alloc _ _ _ (own_lt h g hg).2)
  have hnews : ∀ j u, x[j]? = some u → (w.alloc (.cells x.toArray e)).cell? ((⟨w.heap.size, 0, none⟩ : Addr).add j) = some u := by
    have := World.news_of_block (heap_alloc_new w (.cells x.toArray e))
    simpa using this
  have h63 := hn
  obtain ⟨v', w', hr, h2, h3, _⟩ := run_append_own_wide (P := Tryd.prog) (w.alloc (.cells x.toArray e)) base t t e i _ sz by_ hu hi hz hsize hby hzc hsz0 _ _ _ hown ⟨w.heap.size, 0, none⟩ 1 1 x (by rw [h4, Nat.one_mul]) hnews hx h63 hb (by omega)
  rcases h.2 with ⟨e1, e2⟩ | ⟨g, c0, cur, e1, q1, q2, q3, q4, q5, q6⟩
  · injection e1 with e1 e3 e4
    subst e1
    subst e4
    subst e2
    have hnil : xs = [] := List.length_eq_zero_iff.1 (by rw [h.1, Nat.zero_mul])
    subst hnil
    have hr2 := run_append_nil (P := Tryd.prog) (w.alloc (.cells x.toArray e)) t t e i _ hu hi hz ⟨w.heap.size, 0, none⟩ 1 1 x (by rw [hsize, h4, Nat.one_mul]) hnews (by decide) (by decide) (by rw [hby]; simp at hb; omega)
    have hr3 := hr
    rw [hr2] at hr3
    injection hr3 with hv hw
    subst hv
    subst hw
    exact ⟨_, _, _, hr, h2, Or.inr ⟨(Fr.alloc [] w _).trans ((Fr.drew [] _).trans (Fr.alloc [] _ _) (by simp)) (by simp), fun g hg => by simp [blk] at hg; omega⟩⟩
  · injection e1 with e1 _ e4
    subst e1
    subst e4
    by_cases hroom : n + 1 ≤ c
    · have hg : (w.alloc (.cells x.toArray e)).heap[g]? = some (.cells cur e (0, 0)) := (Below.heap_alloc _ _ _ (lt_of_heap q2)).trans q2
      have hr2 := run_append_room (P := Tryd.prog) (w.alloc (.cells x.toArray e)) t t e i hu hi g n c cur hg ⟨w.heap.size, 0, none⟩ 1 1 x (by rw [hsize, h4, Nat.one_mul]) hnews hx hroom (by rw [hsize, q5, h4, ← Nat.add_one_mul]; exact Nat.mul_le_mul_right _ hroom)
      have hr3 := hr
      rw [hr2] at hr3
      injection hr3 with hv hw
      subst hv
      refine ⟨_, _, w', hr, h2, Or.inl ⟨rfl, rfl, (Fr.alloc (blk (some ⟨g, 0, none⟩)) w _).trans (Fr.grown (S := [g]) h3 (fun k hk => ?_)) (by simp [blk])⟩⟩
      simp [Value.ownBlock] at hk
      simp [hk]
    · have holds : ∀ j u, xs[j]? = some u → (w.alloc (.cells x.toArray e)).cell? ((⟨g, 0, none⟩ : Addr).add j) = some u := hown.cells (g := g) rfl
      have hr2 := run_append_grow (P := Tryd.prog) (w.alloc (.cells x.toArray e)) t t e i _ hu hi hz ⟨g, 0, none⟩ n c xs (by rw [hsize]; exact h.1) holds ⟨w.heap.size, 0, none⟩ 1 1 x (by rw [hsize, h4, Nat.one_mul]) hnews (by omega) (by unfold maxLen at h63; omega) (by rw [hby]; exact growslice_fits_wide (by omega) hb)
      have hr3 := hr
      rw [hr2] at hr3
      injection hr3 with hv hw
      subst hv
      subst hw
      exact ⟨_, _, _, hr, h2, Or.inr ⟨(Fr.alloc [] w _).trans ((Fr.drew [] _).trans (Fr.alloc [] _ _) (by simp)) (by simp), fun g hg => by simp [blk] at hg; omega⟩⟩
end Go.Proofs.YtdflpoldlokijaaDoor
namespace Go.Proofs.YtdflpoldlokijaaDoor
open Go.RowKit
set_option linter.unusedVariables false
set_option linter.unusedSimpArgs false
attribute [local go_sem ↓] Go.wp_at_zero Go.wp_at_succ
theorem own_shape {w : World} {base : Nat} {e : TypeId} {size : Nat} {v : Value} {n : Nat} {xs : List Value} (h : w.ownsRow base e size v n xs) : ∃ p c, v = .slice p n c := by
  rcases h.2 with ⟨rfl, h2⟩ | ⟨g', cap, cur, rfl, h1, h2, h3⟩
  · exact ⟨none, 0, by rw [h2]⟩
  · exact ⟨_, _, rfl⟩
set_option maxRecDepth 100000 in
set_option maxHeartbeats 2000000 in
theorem marked_ok (ls : List Int) (v : Value) (w : World) (h : Rd w v ls) : Calls Tryd.prog 6 #[v] w fun e w' => ∃ p c ms, e = .returned (.slice p (ls.length + 64) c) ∧ Fr [] w w' ∧ w'.ownsRow w.heap.size 3 1 (.slice p (ls.length + 64) c) (ls.length + 64) ((ls ++ ms).map (Value.int .i64)) := by
  obtain ⟨v1, w1, hr1, ho1, hf1⟩ := run_copy ls v w h
  obtain ⟨p1, c1, rfl⟩ := own_shape ho1
  obtain ⟨p0, c0, rfl, -⟩ := h.at_
  have hs := h.short
  have HR1 := mkHid hr1
  have HO1 := mkHid ho1
  have HF1 := mkHid hf1
  clear h hr1 ho1 hf1
  go_enter Tryd.func6, Tryd.ntmps6
  go_wp2_with (at_builtin; refine Lib.wpList_append_run _ rfl (.tmp 5) (.tmp 6) 23 23 rfl _ _ rfl rfl _ _ HR1.out ?_)
  go_loopw [3, 4] (fun m q wr => ∃ i : Nat, i ≤ 64 ∧ q = .int .i64 i ∧ ∃ p c, m = .slice p (ls.length + i) c ∧ Hid (∃ ms : List Int, ms.length = i ∧ wr.ownsRow w.heap.size 3 1 (.slice p (ls.length + i) c) (ls.length + i) ((ls ++ ms).map (Value.int .i64)) ∧ Fr [] w wr)) (fun _ q _ => 64 - (intOf q).toNat)
  case atStart => exact ⟨0, by omega, rfl, p1, c1, rfl, [], rfl, by rw [List.append_nil]; exact HO1.out, HF1.out⟩
  case round =>
    clear HR1 HO1 HF1
    obtain ⟨i, hi, rfl, p, c, rfl, hst⟩ := hrel
    have i0 : (0 : Int) ≤ (i : Int) := by omega
    by_cases hlt : i < 64
    · have i1 : (i : Int) < 64 := by omega
      obtain ⟨ms, hml, ho, hf⟩ := hst.out
      have hl : (ls ++ ms).length = ls.length + i := by simp [hml]
      have ho' : wr.ownsRow w.heap.size 3 1 (.slice p (ls ++ ms).length c) (ls ++ ms).length ((ls ++ ms).map (Value.int .i64)) := by rw [hl]; exact ho
      obtain ⟨p2, c2, w2, hr2, ho2, hm2⟩ := push_int wr w.heap.size p c (ls ++ ms) (-1 - (i : Int)) ho' (by rw [hl]; omega) hf.size
      rw [hl] at hr2
      have HR2 := mkHid hr2
      have HO2 : Hid (∃ ms : List Int, ms.length = i + 1 ∧ w2.ownsRow w.heap.size 3 1 (.slice p2 (ls.length + (i + 1)) c2) (ls.length + (i + 1)) ((ls ++ ms).map (Value.int .i64)) ∧ Fr [] w w2) := by
        refine ⟨ms ++ [-1 - (i : Int)], by simp [hml], ?_, ?_⟩
        · have := ho2
          rw [List.append_assoc, show (ls ++ (ms ++ [-1 - (i : Int)])).length = ls.length + (i + 1) by simp [hml]] at this
          exact this
        · rcases hm2 with ⟨-, -, e3⟩ | ⟨e1, -⟩
          · exact hf.trans e3 (fun b hb => .inr (own_lt ho b ((blk_own _ _ _ _).2 hb)).1)
          · exact hf.tr0 e1
      clear hst ho ho' hf hm2 ho2 hr2 hl hml
      go_wp2_with (at_builtin; refine Lib.wpList_append_run _ rfl (.tmp 12) (.tmp 15) 23 23 rfl _ _ rfl rfl _ _ HR2.out ?_)
      go_roundw
      case rel => exact ⟨i + 1, by omega, by go_num, p2, c2, rfl, HO2.out⟩
      case measure => simp [intOf]; omega
    · have hie : i = 64 := by omega
      subst hie
      go_wp2_with fail
      go_ret
      obtain ⟨ms, hml, ho, hf⟩ := hst.out
      exact ⟨p, c, ms, rfl, hf, ho⟩
end Go.Proofs.YtdflpoldlokijaaDoor
