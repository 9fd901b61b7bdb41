import Derived.Test.YtklfnjlenbgmoaaDoorPG39HPs6
import Derived.Test.YtklfnjlenbgmoaaDoorPG25RKeep
import Derived.Deep.RegionHeld3
set_option linter.unusedSimpArgs false
set_option linter.unusedVariables false
namespace Go.Proofs.YtklfnjlenbgmoaaDoor
open Go.RowKit Go.Maps
attribute [local go_sem ↓] Go.wp_at_zero Go.wp_at_succ
theorem idx_num (A : Int) (L : Nat) (hL : 0 < L) (hM : L ≤ 1000000000) : ∃ (r s : Int) (k : Nat), A.tmod (L : Int) = r ∧ IntKind.i64.wrap (r + (L : Int)) = s ∧ s.tmod (L : Int) = (k : Int) ∧ k < L ∧ IntKind.i64.wrap r = r ∧ IntKind.i64.wrap (k : Int) = (k : Int) := by
 have b1 : -(L : Int) < A.tmod (L : Int) ∧ A.tmod (L : Int) < (L : Int) := by
  refine ⟨?_, Int.tmod_lt_of_pos A (by omega)⟩
  have := Int.lt_tmod_of_pos A (b := (L : Int)) (by omega)
  omega
 obtain ⟨r, hr⟩ : ∃ r, A.tmod (L : Int) = r := ⟨_, rfl⟩
 rw [hr] at b1
 have hs : IntKind.i64.wrap (r + (L : Int)) = r + (L : Int) := by rw [iwrap]; unfold wrap64; omega
 obtain ⟨k, hk⟩ : ∃ k : Nat, (r + (L : Int)).tmod (L : Int) = (k : Int) := ⟨((r + (L : Int)).tmod (L : Int)).toNat, by
  have := Int.tmod_nonneg (L : Int) (a := r + (L : Int)) (by omega)
  omega⟩
 have hkl : (k : Int) < (L : Int) := by rw [← hk]; exact Int.tmod_lt_of_pos _ (by omega)
 exact ⟨r, r + (L : Int), k, hr, hs, hk, by omega, by rw [iwrap]; unfold wrap64; omega, by rw [iwrap]; unfold wrap64; omega⟩
set_option maxRecDepth 20000 in
set_option maxHeartbeats 4000000 in
theorem lw_back (O A B C X : Int) (ls : Value) (n t : Nat) (x : Wl) (w : World) (h : WOk w n t x) (ht : t ≤ 1) (hn : n ≤ 10000000) :
  Calls Tryd.prog 39 #[.pointer (some ⟨x.b, 0, none⟩), stepV 10 O A B C X ls] w fun e w' => e = .returned (.bool true) ∧ StepTo w n x w' := by
 obtain ⟨r, s, a, e1, e2, e3, ha, e4, e5⟩ := hand_num O
 obtain ⟨y, hyb, hy, hgo⟩ := take_hand h ht a ha
 have HSt : Hid (∀ w', StepTo w n y w' → StepTo w n x w') := fun w' ⟨x', t', q1, q2, q3, q4⟩ => ⟨x', t', q1, q2.trans hyb, q3, hgo.trans q4⟩
 rw [← hyb]
 have F0 : Fr [] w (w.alloc (.cells #[.int .i64 10, .int .i64 O, .int .i64 A, .int .i64 B, .int .i64 C, .int .i64 X, ls] 58)) := Fr.alloc [] _ _
 have HF0 := mkHid F0
 have HY : Hid (WOk (w.alloc (.cells #[.int .i64 10, .int .i64 O, .int .i64 A, .int .i64 B, .int .i64 C, .int .i64 X, ls] 58)) n a y) := hy.idle F0
 have HBl : Hid (∀ V Y, Fr Y (w.alloc (.cells #[.int .i64 10, .int .i64 O, .int .i64 A, .int .i64 B, .int .i64 C, .int .i64 X, ls] 58)) V → (∀ g ∈ Y, g < w.heap.size) → V.heap[w.heap.size]? = some (.cells #[.int .i64 10, .int .i64 O, .int .i64 A, .int .i64 B, .int .i64 C, .int .i64 X, ls] 58 (0, 0))) := fun V Y hV hX => (hV.block w.heap.size (by simp) (fun hm => by have := hX _ hm; omega)).trans (heap_alloc_new w _)
 have HLt : Hid (∀ g, Liv y g → g < w.heap.size) := fun g hg => hy.lt hg
 obtain ⟨c0, c1⟩ := cells_of HY.out ha a ha
 have eA : y.at a a = y.dA := if_pos rfl
 rw [eA] at c0 c1
 have a1 : (0 : Int) ≤ (a : Int) := by omega
 have a2 : (a : Int) < 2 := by omega
 clear h hy hgo hyb F0
 have c4 : (w.alloc (.cells #[.int .i64 10, .int .i64 O, .int .i64 A, .int .i64 B, .int .i64 C, .int .i64 X, ls] 58)).cell? ⟨y.b, 4, none⟩ = some (.slice y.ps.p y.pts.length y.ps.c) := by
  rw [cell_in (top_of HY.out), ← HY.out.np]; rfl
 have hLn := HY.out.c0
 by_cases hL0 : y.pts.length = 0
 ·rw [hL0] at c4
  have HZ : Hid (StepTo w n x (w.alloc (.cells #[.int .i64 10, .int .i64 O, .int .i64 A, .int .i64 B, .int .i64 C, .int .i64 X, ls] 58))) := HSt.out _ ⟨y, a, ha, rfl, HY.out.more (by omega), Go1.idle y HF0.out⟩
  unfold stepV
  go_enter Tryd.func39, Tryd.ntmps39
  go_wp2_with fail
  go_ret
  exact ⟨rfl, HZ.out⟩
 obtain ⟨r1, s1, k, f1, f2, f3, hk, f4, f5⟩ := idx_num A y.pts.length (by omega) (by omega)
 obtain ⟨p, hp, ⟨g, g1, g2, g3, g4, g5, g6⟩, m, m1, m2, m3, m4, m5, m6⟩ := pt_at HY.out hk
 have hpt := HY.out.pt hp
 have c5 : (w.alloc (.cells #[.int .i64 10, .int .i64 O, .int .i64 A, .int .i64 B, .int .i64 C, .int .i64 X, ls] 58)).cell? ⟨y.b, 5, none⟩ = some (.slice y.ms.p y.pts.length y.ms.c) := by
  rw [cell_in (top_of HY.out), ← HY.out.nm]; rfl
 rw [g1] at c4
 rw [m1] at c5
 have k1 : (0 : Int) ≤ (k : Int) := by omega
 have k2 : (k : Int) < (y.pts.length : Int) := by omega
 have n0 : y.pts.length ≠ 0 := hL0
 have n1 : ¬ ((y.pts.length : Int) = 0) := by omega
 have HGp := mkHid g2
 have HGm := mkHid m2
 have HPt := mkHid hpt
 obtain ⟨z, Q, hz, hBo⟩ := both_back _ n y.dA p HY.out.okA HY.out.tb (by omega) hpt
 have HBo := mkHid hBo
 have HCl : Hid (∀ V p' q, Hid (Q p' q V) → V.cell? ⟨y.b, 4, none⟩ = some (.slice (some ⟨g, 0, none⟩) y.pts.length y.ps.c) ∧ V.cell? ⟨y.b, 5, none⟩ = some (.slice (some ⟨m, 0, none⟩) y.pts.length y.ms.c) ∧ V.cell? ⟨g, k * 3, none⟩ = some (.pointer p.u) ∧ V.cell? ⟨g, k * 3 + 1, none⟩ = some (.int .i64 (p.ag : Int)) ∧ V.cell? ⟨g, k * 3 + 2, none⟩ = some (.int .i64 (p.n : Int)) ∧ V.cell? ⟨m, k * 3, none⟩ = some (.pointer p.v) ∧ V.cell? ⟨m, k * 3 + 1, none⟩ = some (.int .i64 (p.pb : Int)) ∧ V.cell? ⟨m, k * 3 + 2, none⟩ = some (.int .i64 (p.tn : Int))) := fun V p' q hq => by
  have hf := HBo.out.frm hq.out
  have ob : y.b ∉ duF y.dA := HY.out.dj (i := 0) (j := 4) rfl rfl (by decide) (List.mem_singleton.2 rfl)
  have og : g ∉ duF y.dA := HY.out.dj (i := 2) (j := 4) rfl rfl (by decide) g2
  have om : m ∉ duF y.dA := HY.out.dj (i := 3) (j := 4) rfl rfl (by decide) m2
  have lb := HY.out.lt (liv0 (x := y))
  exact ⟨(hf.cell (p := ⟨y.b, 4, none⟩) lb ob).trans c4, (hf.cell (p := ⟨y.b, 5, none⟩) lb ob).trans c5, (hf.cell (p := ⟨g, _, none⟩) g3 og).trans g4, (hf.cell (p := ⟨g, _, none⟩) g3 og).trans g5, (hf.cell (p := ⟨g, _, none⟩) g3 og).trans g6, (hf.cell (p := ⟨m, _, none⟩) m3 om).trans m4, (hf.cell (p := ⟨m, _, none⟩) m3 om).trans m5, (hf.cell (p := ⟨m, _, none⟩) m3 om).trans m6⟩
 clear hpt hBo g1 m1 hL0
 unfold stepV
 go_enter Tryd.func39, Tryd.ntmps39
 go_wp2_with fail
 generalize w.alloc (.cells #[.int .i64 10, .int .i64 O, .int .i64 A, .int .i64 B, .int .i64 C, .int .i64 X, ls] 58) = W0 at *
 obtain ⟨s0, hs0⟩ : ∃ s0, s0 = w.heap.size := ⟨_, rfl⟩
 rw [← hs0] at HBl HLt
 rw [← hs0]
 clear hs0
 have HP : Hid (∀ V q, Hid (Q false q V) → Calls Tryd.prog 31 #[vO y.dA, .agg #[.pointer p.u, .int .i64 (p.ag : Int), .int .i64 (p.n : Int)]] V fun e w'' => e = .returned (.int .i64 z) ∧ Hid (Q true q w'')) := fun V q hq => HBo.out.prog hq.out
 have HR : Hid (∀ V p', Hid (Q p' false V) → Calls Tryd.prog 88 #[vR y.dA, .agg #[.pointer p.v, .int .i64 (p.pb : Int), .int .i64 (p.tn : Int)]] V fun e w'' => e = .returned (.int .i64 z) ∧ Hid (Q p' true w'')) := fun V p' hq => HBo.out.docu hq.out
 have HZ : Hid (∀ V, Hid (Q true true V) → StepTo w n x V) := fun V hq => by
  obtain ⟨D', hp⟩ := HBo.out.done hq.out
  exact HSt.out V ⟨{ y with dA := D' }, a, ha, rfl, (HY.out.pair (n' := n + 1) (by omega) hp).more (by omega), (Go1.idle y HF0.out).trans (go_pair hp)⟩
 have q0 : Hid (Q false false W0.drew.drew) := HBo.out.idle (HBo.out.idle HBo.out.start (Fr.drew [] W0)) (Fr.drew [] _)
 have HKf : Hid (W0.drew.cell? ⟨s0, 2, none⟩ = some (.int .i64 A) ∧ W0.drew.cell? ⟨y.b, 4, none⟩ = some (.slice (some ⟨g, 0, none⟩) y.pts.length y.ps.c)) := by
  have hb := HBl.out W0.drew [] (Fr.drew [] W0) (by simp)
  exact ⟨by rw [cell_in hb]; rfl, ((Fr.drew [] W0).cell (p := ⟨y.b, 4, none⟩) (HY.out.lt (liv0 (x := y))) (by simp)).trans c4⟩
 clear HBo HY HBl HLt HF0 HSt HGp HGm HPt hp
 generalize vO y.dA = vo at *
 generalize vR y.dA = vr at *
 generalize y.pts.length = L at *
 generalize y.ps.c = cp at *
 generalize y.ms.c = cm at *
 go_region_held3 (fun V => V.cell? ⟨s0, 2, none⟩ = some (.int .i64 A) ∧ V.cell? ⟨y.b, 4, none⟩ = some (.slice (some ⟨g, 0, none⟩) L cp)) (exact HKf.out) (fail)
 all_goals go_wp2_with fail
 go_region_held3 (fun V => V.cell? ⟨y.b, 4, none⟩ = some (.slice (some ⟨g, 0, none⟩) L cp) ∧ V.cell? ⟨y.b, 5, none⟩ = some (.slice (some ⟨m, 0, none⟩) L cm) ∧ V.cell? ⟨g, k * 3, none⟩ = some (.pointer p.u) ∧ V.cell? ⟨g, k * 3 + 1, none⟩ = some (.int .i64 (p.ag : Int)) ∧ V.cell? ⟨g, k * 3 + 2, none⟩ = some (.int .i64 (p.n : Int)) ∧ V.cell? ⟨m, k * 3, none⟩ = some (.pointer p.v) ∧ V.cell? ⟨m, k * 3 + 1, none⟩ = some (.int .i64 (p.pb : Int)) ∧ V.cell? ⟨m, k * 3 + 2, none⟩ = some (.int .i64 (p.tn : Int)))
  (first
   | exact HCl.out _ _ _ q2
   | exact HCl.out _ _ _ q1
   | exact HCl.out _ _ _ q0)
  (first
   | (go_at_call 31; refine (HP.out _ _ q0).mono ?_; rintro e w1 ⟨rfl, q1⟩)
   | (go_at_call 11; refine (num_any _ _ (by omega) (by omega)).mono ?_; rintro e w' ⟨rfl, hw'⟩; subst hw')
   | (go_at_call 88; refine (HR.out _ _ q1).mono ?_; rintro e w2 ⟨rfl, q2⟩))
 all_goals go_wp2_with fail
 all_goals
  go_ret
  exact ⟨rfl, HZ.out _ q2⟩
end Go.Proofs.YtklfnjlenbgmoaaDoor
