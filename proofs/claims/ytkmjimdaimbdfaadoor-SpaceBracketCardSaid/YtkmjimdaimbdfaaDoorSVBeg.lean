import Derived.Test.YtkmjimdaimbdfaaDoorSG32HTable
import Derived.Deep.RegionHeld3
namespace Go.Proofs.YtkmjimdaimbdfaaDoor
open Go.RowKit Go.Maps
set_option linter.unusedVariables false
set_option linter.unusedSimpArgs false
attribute [local go_sem ↓] Go.wp_at_zero Go.wp_at_succ
/-- the mark behind an Abort -/
def abM (k m : Nat) : Nat := if k = 0 ∨ m = 0 then m else k
/-- what a bracket knows -/
def brC (a age len mark : Nat) : Obj := .cells #[.pointer (some ⟨a, 0, none⟩), .int .i64 (age : Int), .int .i64 (len : Int), .int .i64 (mark : Int)] 87 (0, 0)
set_option maxRecDepth 20000 in
set_option maxHeartbeats 2000000 in
theorem begin_no {w : World} {s a : Nat} {l : Lay} {X : SpS} (h : Spc w s a l X) (hb : X.br ≠ none) (hl : X.st.length ≤ 100000) (hr : X.root = 0 ∨ (1 ≤ X.root ∧ X.root ≤ 65536)) (hage : X.H.age ≤ 1000) (hT : Tab w) (hT0 : 0 < w.heap.size) :
    Calls Tryd.prog 14 #[.pointer (some ⟨s, 0, none⟩)] w fun e w' => e = .returned (.int .i64 25) ∧ Fr [] w w' := by
  have HC := mkHid (collect_ok h hl hr hage hT hT0)
  clear h hT hT0
  go_enter Tryd.func14, Tryd.ntmps14
  go_wp2_with fail
  refine Calls.mono HC.out ?_
  rintro e w1 (⟨-, rfl, hf⟩ | ⟨h1, -⟩)
  rotate_left
  · exact absurd h1 hb
  have HF := mkHid hf
  clear hf HC hb
  go_wp2_with fail
  go_ret
  exact ⟨rfl, HF.out⟩
set_option maxRecDepth 20000 in
set_option maxHeartbeats 2000000 in
theorem begin_ok {w : World} {s a : Nat} {l : Lay} {X : SpS} (h : Spc w s a l X) (hb : X.br = none) (hl : X.st.length ≤ 100000) (hr : X.root = 0 ∨ (1 ≤ X.root ∧ X.root ≤ 65536)) (hage : X.H.age ≤ 1000) (hT : Tab w) (hT0 : 0 < w.heap.size) :
    Calls Tryd.prog 14 #[.pointer (some ⟨s, 0, none⟩)] w fun e w' => e = .returned (.int .i64 0) ∧ ∃ st H' M' bb, Sts X.H X.M (rootsOf X) st ∧ Spc w' s a l { X with ks := keepK X.ks st, H := H', M := M', br := some ⟨bb, 0, none⟩ } ∧ H'.age = X.H.age + 1 ∧ w'.heap[bb]? = some (brC a H'.age (keepK X.ks st).length X.mark) ∧ w.heap.size ≤ bb ∧ Fr (s :: foot a l) w w' := by
  have HC := mkHid (collect_ok h hl hr hage hT hT0)
  clear h hT hT0
  go_enter Tryd.func14, Tryd.ntmps14
  go_wp2_with fail
  refine Calls.mono HC.out ?_
  rintro e w1 (⟨h1, -⟩ | ⟨-, st, H', M', hst, rfl, hsp, hag, hx⟩)
  · exact absurd hb h1
  have HSt := mkHid hst
  have HS := mkHid hsp
  have HAg := mkHid hag
  have HX := mkHid hx
  have HPt : Hid (∀ V, Hid (Fr [] w1 V) → Calls Tryd.prog 45 #[.pointer (some ⟨a, 0, none⟩)] V fun e w' => e = .returned (.agg #[.pointer (some ⟨a, 0, none⟩), .int .i64 (H'.age : Int), .int .i64 ((keepK X.ks st).length : Int)]) ∧ Hid (Fr [] w1 w')) := fun V hV => by
    have hsV := HS.out.idle hV.out
    have := Point_ok a l H' V hsV.rep
    have hol : H'.order.length = (keepK X.ks st).length := hsV.ka.olen
    rw [hol] at this
    exact this.mono fun e w' ⟨h1, h2⟩ => ⟨h1, hV.out.trans h2 (by simp)⟩
  have HMk : Hid (∀ V, Hid (Fr [] w1 V) → Calls Tryd.prog 20 #[.pointer (some ⟨a, 0, none⟩)] V fun e w' => e = .returned (.int .i64 (X.mark : Int)) ∧ w' = V) := fun V hV => by
    have hsV := HS.out.idle hV.out
    have := Marked_any a l H' V hsV.rep
    have hm : H'.mark = X.mark := hsV.ka.mark
    rw [hm] at this
    exact this
  have HCl : Hid (∀ V, Hid (Fr [] w1 V) → V.cell? ⟨s, 1, none⟩ = some (.pointer (some ⟨a, 0, none⟩)) ∧ V.cell? ⟨s, 6, none⟩ = some (.pointer none) ∧ V.frozen? ⟨s, 6, none⟩ = false ∧ s < V.heap.size) := fun V hV => by
    have hsV := HS.out.idle hV.out
    obtain ⟨-, d1, -, -, -, -, d6⟩ := hsV.cells
    have e6 : ({ X with ks := keepK X.ks st, H := H', M := M' } : SpS).br = none := hb
    rw [e6] at d6
    exact ⟨d1, d6, frozen_in hsV.top 6, lt_of_heap hsV.top⟩
  have HCx : Hid (∀ V o v, Hid (Fr [] w1 V) → ((V.setCell ⟨s, 6, none⟩ v).alloc o).cell? ⟨s, 1, none⟩ = some (.pointer (some ⟨a, 0, none⟩))) := fun V o v hV => by
    have hsV := HS.out.idle hV.out
    have h3 := set_in hsV.top 6 v
    have h2 := (Fr.alloc [] (V.setCell ⟨s, 6, none⟩ v) o).block s (lt_of_heap h3) (by simp)
    rw [cell_in (h2.trans h3)]; rfl
  have HCy : Hid (∀ V o, Hid (Fr [] w1 V) → (V.alloc o).cell? ⟨s, 1, none⟩ = some (.pointer (some ⟨a, 0, none⟩))) := fun V o hV => (HCl.out _ (hV.out.trans (Fr.alloc [] V o) (by simp))).1
  have HZ : Hid (∀ V, Hid (Fr [] w1 V) → ∀ W W2, W = (V.setCell ⟨s, 6, none⟩ (.pointer (some ⟨V.heap.size, 0, none⟩))).alloc (.cells #[.pointer (some ⟨a, 0, none⟩), .int .i64 (H'.age : Int), .int .i64 ((keepK X.ks st).length : Int), .int .i64 (X.mark : Int)] 87) → Fr [] W W2 → ∃ bb, Spc W2 s a l { X with ks := keepK X.ks st, H := H', M := M', br := some ⟨bb, 0, none⟩ } ∧ W2.heap[bb]? = some (brC a H'.age (keepK X.ks st).length X.mark) ∧ w.heap.size ≤ bb ∧ Fr (s :: foot a l) w W2) := fun V hV W W2 hW hW2 => by
    have hsV := HS.out.idle hV.out
    have f1 : Fr [s] V (V.setCell ⟨s, 6, none⟩ (.pointer (some ⟨V.heap.size, 0, none⟩))) := Fr.setCell (S := [s]) _ ⟨s, 6, none⟩ _ (by simp)
    have hs1 : Spc (V.setCell ⟨s, 6, none⟩ (.pointer (some ⟨V.heap.size, 0, none⟩))) s a l { X with ks := keepK X.ks st, H := H', M := M', br := some ⟨V.heap.size, 0, none⟩ } := by
      refine hsV.write f1 ?_ rfl hsV.ka rfl rfl
      rw [set_in hsV.top 6 _]; rfl
    have f2 : Fr [] (V.setCell ⟨s, 6, none⟩ (.pointer (some ⟨V.heap.size, 0, none⟩))) W := by rw [hW]; exact Fr.alloc [] _ _
    have hsz : (V.setCell ⟨s, 6, none⟩ (.pointer (some ⟨V.heap.size, 0, none⟩))).heap.size = V.heap.size := by simp
    have hbW : W.heap[V.heap.size]? = some (brC a H'.age (keepK X.ks st).length X.mark) := by
      rw [hW]
      have h5 := heap_alloc_new (V.setCell ⟨s, 6, none⟩ (.pointer (some ⟨V.heap.size, 0, none⟩))) (.cells #[.pointer (some ⟨a, 0, none⟩), .int .i64 (H'.age : Int), .int .i64 ((keepK X.ks st).length : Int), .int .i64 (X.mark : Int)] 87)
      rw [hsz] at h5
      exact h5
    have hx1 := HX.out.1.size
    have hv1 := hV.out.size
    refine ⟨V.heap.size, (hs1.idle f2).idle hW2, (hW2.block _ (lt_of_heap hbW) (by simp)).trans hbW, by omega, ?_⟩
    have g1 : Fr (foot a l) w V := HX.out.1.trans hV.out (by simp)
    exact (((g1.mono (fun g hg => .inl (by simp [hg]))).trans f1 (fun g hg => .inl (by rw [mem_single hg]; simp))).trans f2 (by simp)).trans hW2 (by simp)
  have hR : Hid (Fr [] w1 w1) := Fr.refl _ _
  clear hst hsp hag hx HC
  generalize endK X.ks - endK (keepK X.ks st) = ek at *
  generalize hn : (keepK X.ks st).length = kn at *
  have HN := mkHid hn
  clear hn
  go_wp2_with fail
  go_region_held3 (fun V => V.cell? ⟨s, 1, none⟩ = some (.pointer (some ⟨a, 0, none⟩)))
    (first
      | exact (HCl.out _ (hid_drew hR)).1
      | exact (HCl.out _ hR).1
      | exact (HCl.out _ hg5).1
      | exact HCy.out _ _ hg5
      | exact HCx.out _ _ _ hg5)
    (first
      | (go_at_call 45; refine (HPt.out _ (hid_drew hR)).mono ?_; rintro e w5 ⟨rfl, hg5⟩; obtain ⟨z1, z6, zf, zs⟩ := HCl.out _ hg5)
      | (go_at_call 20; refine (HMk.out _ hg5).mono ?_; rintro e w' ⟨rfl, hw'⟩; rw [hw']; clear hw' w'))
  all_goals
    obtain ⟨bb, y1, y2, y3, y4⟩ := HZ.out w5 hg5 _ _ rfl (Fr.refl _ _)
    have y2 := y2.trans (by rw [HN.out] : some (brC a H'.age kn X.mark) = some (brC a H'.age (keepK X.ks st).length X.mark))
    have HY := mkHid (And.intro y1 (And.intro y2 (And.intro y3 y4)))
    clear y1 y2 y3 y4
    go_wp2_with fail
    go_ret
    exact ⟨rfl, st, H', M', bb, HSt.out, HY.out.1, HAg.out, HY.out.2.1, HY.out.2.2.1, HY.out.2.2.2⟩
set_option maxRecDepth 20000 in
set_option maxHeartbeats 2000000 in
theorem abort_no {w : World} {s a : Nat} {l : Lay} {X : SpS} (h : Spc w s a l X) (hb : X.br = none) : Calls Tryd.prog 22 #[.pointer (some ⟨s, 0, none⟩)] w fun e w' => e = .returned (.int .i64 25) ∧ Fr [] w w' := by
  have HC := mkHid (closed_ok h)
  clear h
  go_enter Tryd.func22, Tryd.ntmps22
  go_wp2_with fail
  refine Calls.mono HC.out ?_
  rintro e w1 (⟨-, rfl, hf⟩ | ⟨b, h1, -⟩)
  rotate_left
  · rw [hb] at h1; cases h1
  have HF := mkHid hf
  clear hf HC hb
  go_wp2_with fail
  go_ret
  exact ⟨rfl, HF.out⟩
set_option maxRecDepth 20000 in
set_option maxHeartbeats 4000000 in
theorem abort_ok {w : World} {s a bb n0 k m0 : Nat} {l : Lay} {X : SpS} {ks0 new : List Key} {H0 : HS} {M0 : MS} (h : Spc w s a l X) (hbr : X.br = some ⟨bb, 0, none⟩) (hblk : w.heap[bb]? = some (brC a X.H.age n0 k)) (hka0 : KA X.words X.oops m0 ks0 H0 M0) (hks : X.ks = ks0 ++ new) (hn0 : n0 = ks0.length) (hage : X.H.age = H0.age) (hext : Ext M0 X.M) (ha : X.H.age ≤ 1000000000) (hbf : bb ∉ foot a l) (hbs : bb ≠ s) (hk : (k : Int) ≤ 1073741824) :
    Calls Tryd.prog 22 #[.pointer (some ⟨s, 0, none⟩)] w fun e w' => e = .returned (.int .i64 0) ∧ ∃ H' M', Spc w' s a l { X with br := none, mark := abM k X.mark, ks := ks0, H := H', M := M' } ∧ Fr (s :: foot a l) w w' := by
  have HC := mkHid (closed_ok h)
  have hmk : (X.mark : Int) ≤ 1073741824 := by
    have h3 := h.ka.inv.safe.small.mark
    have h4 := h.ka.mark
    omega
  have HK0 := mkHid hka0
  have HKs := mkHid hks
  have HN0 := mkHid hn0
  have HEx := mkHid hext
  have HAg := mkHid hage
  have hsb : s ∉ foot a l := h.sepS
  clear h hka0 hks hn0 hext hage
  go_enter Tryd.func22, Tryd.ntmps22
  go_wp2_with fail
  refine Calls.mono HC.out ?_
  rintro e w1 (⟨h1, -⟩ | ⟨b, h1, rfl, hsp1, hf1⟩)
  · rw [hbr] at h1; cases h1
  have eb : b = ⟨bb, 0, none⟩ := by rw [hbr] at h1; injection h1 with e1; exact e1.symm
  subst eb
  have hb1 : w1.heap[bb]? = some (brC a X.H.age n0 k) := (hf1.block bb (lt_of_heap hblk) (by simpa using hbs)).trans hblk
  have HS1 := mkHid hsp1
  have HF1 := mkHid hf1
  have HB1 := mkHid hb1
  have HCl : Hid (∀ S V, Fr S w1 V → s ∉ S → bb ∉ S → V.cell? ⟨s, 1, none⟩ = some (.pointer (some ⟨a, 0, none⟩)) ∧ V.cell? ⟨bb, 0, none⟩ = some (.pointer (some ⟨a, 0, none⟩)) ∧ V.cell? ⟨bb, 1, none⟩ = some (.int .i64 (X.H.age : Int)) ∧ V.cell? ⟨bb, 2, none⟩ = some (.int .i64 (n0 : Int)) ∧ V.cell? ⟨bb, 3, none⟩ = some (.int .i64 (k : Int))) := fun S V hV h3 h4 => by
    have e1 := (hV.block s (lt_of_heap HS1.out.top) h3).trans HS1.out.top
    have e2 := (hV.block bb (lt_of_heap HB1.out) h4).trans HB1.out
    refine ⟨by rw [cell_in e1]; rfl, ?_, ?_, ?_, ?_⟩ <;> (rw [cell_in e2]; rfl)
  have HBk : Hid (∀ V, Hid (Fr [] w1 V) → Calls Tryd.prog 54 #[.pointer (some ⟨a, 0, none⟩), .agg #[.pointer (some ⟨a, 0, none⟩), .int .i64 (X.H.age : Int), .int .i64 (n0 : Int)]] V fun e w' => e = .returned (.int .i64 0) ∧ ∃ H' M', Hid (Spc w' s a l { X with br := none, ks := ks0, H := H', M := M' }) ∧ Hid (Fr (foot a l) w1 w')) := fun V hV => by
    have hsV := HS1.out.idle hV.out
    have hk1 : KA X.words X.oops X.mark (ks0 ++ new) X.H X.M := by rw [← HKs.out]; exact hsV.ka
    have := back_at hsV.rep HK0.out hk1 HAg.out HEx.out ha (by omega)
    rw [HN0.out]
    refine this.mono ?_
    rintro e w' ⟨rfl, H', M', g1, g2, g3, g4⟩
    exact ⟨rfl, H', M', hsV.heap g1 g2 g4, (hV.out.mono (by simp)).trans g4.1 (fun g hg => .inl hg)⟩
  have hR : Hid (Fr [] w1 w1) := Fr.refl _ _
  clear hsp1 hf1 hb1 h1 HC hblk hbr
  go_wp2_with fail
  go_region_held3 (fun V => V.cell? ⟨s, 1, none⟩ = some (.pointer (some ⟨a, 0, none⟩)) ∧ V.cell? ⟨bb, 0, none⟩ = some (.pointer (some ⟨a, 0, none⟩)) ∧ V.cell? ⟨bb, 1, none⟩ = some (.int .i64 (X.H.age : Int)) ∧ V.cell? ⟨bb, 2, none⟩ = some (.int .i64 (n0 : Int)) ∧ V.cell? ⟨bb, 3, none⟩ = some (.int .i64 (k : Int)))
    (first
      | exact HCl.out [] _ (hid_drew hR).out (by simp) (by simp)
      | exact HCl.out [] _ hR.out (by simp) (by simp)
      | exact HCl.out _ _ hg2.out hsb hbf)
    (first | (go_at_call 54; refine (HBk.out _ (hid_drew hR)).mono ?_; rintro e w2 ⟨rfl, H', M', hs2, hg2⟩))
  all_goals
    obtain ⟨z1, -, -, -, z3⟩ := HCl.out _ _ hg2.out hsb hbf
    have HM2 : Hid (Calls Tryd.prog 20 #[.pointer (some ⟨a, 0, none⟩)] w2 fun e w' => e = .returned (.int .i64 (X.mark : Int)) ∧ w' = w2) := by
      have h5 := Marked_any a l H' w2 hs2.out.rep
      have h6 : H'.mark = X.mark := hs2.out.ka.mark
      rw [h6] at h5
      exact h5
    have HF2 : Hid (Fr (s :: foot a l) w w2) := (HF1.out.mono (fun g hg => .inl (by rw [mem_single hg]; simp))).trans hg2.out (fun g hg => .inl (by simp [hg]))
    clear HBk
    by_cases hk0 : k = 0
    · have HZ : Hid (Spc w2 s a l { X with br := none, mark := abM k X.mark, ks := ks0, H := H', M := M' }) := by
        have e1 : abM k X.mark = X.mark := if_pos (.inl hk0)
        rw [e1]
        exact hs2.out
      have hkz : ((k : Int) == 0) = true := by simpa using (by omega : (k : Int) = 0)
      clear hk0
      go_wp2_with fail
      go_ret
      exact ⟨rfl, H', M', HZ.out, HF2.out⟩
    · have hkz : ((k : Int) == 0) = false := by simpa using (by omega : ¬ (k : Int) = 0)
      by_cases hm0 : X.mark = 0
      · have HZ : Hid (Spc w2 s a l { X with br := none, mark := abM k X.mark, ks := ks0, H := H', M := M' }) := by
          have e1 : abM k X.mark = X.mark := if_pos (.inr hm0)
          rw [e1]
          exact hs2.out
        have hmz : ((X.mark : Int) == 0) = true := by simpa using (by omega : (X.mark : Int) = 0)
        clear hk0 hm0
        go_wp2_with (go_at_call 20; refine Calls.mono HM2.out ?_; rintro e w' ⟨rfl, hw'⟩; rw [hw']; clear hw' w')
        go_ret
        exact ⟨rfl, H', M', HZ.out, HF2.out⟩
      · have hmz : ((X.mark : Int) == 0) = false := by simpa using (by omega : ¬ (X.mark : Int) = 0)
        have HE : Hid (abM k X.mark = k) := if_neg (fun h => by rcases h with h | h; exact hk0 h; exact hm0 h)
        have HMa : Hid (∀ V, Hid (Fr [] w2 V) → Calls Tryd.prog 13 #[.pointer (some ⟨a, 0, none⟩), .int .i64 (k : Int)] V fun e w' => e = .returned (.int .i64 0) ∧ Hid (Spc w' s a l { X with br := none, mark := k, ks := ks0, H := { H' with mark := k }, M := { M' with mark := k } }) ∧ Hid (Fr (foot a l) w2 w')) := fun V hV => by
          refine (smark_ok (hs2.out.idle hV.out) k hk).mono ?_
          rintro e w' ⟨rfl, g1, g2⟩
          exact ⟨rfl, g1, (hV.out.mono (by simp)).trans g2.1 (fun g hg => .inl hg)⟩
        have HCm : Hid (∀ S V, Fr S w2 V → (∀ g ∈ S, g ∈ foot a l) → V.cell? ⟨s, 1, none⟩ = some (.pointer (some ⟨a, 0, none⟩)) ∧ V.cell? ⟨bb, 3, none⟩ = some (.int .i64 (k : Int))) := fun S V hV hS => by
          obtain ⟨y1, -, -, -, y3⟩ := HCl.out (foot a l) V (hg2.out.trans hV (fun g hg => .inl (hS g hg))) hsb hbf
          exact ⟨y1, y3⟩
        have hR2 : Hid (Fr [] w2 w2) := Fr.refl _ _
        clear hk0 hm0
        go_wp2_with (first
          | (go_at_call 20; refine Calls.mono HM2.out ?_; rintro e w' ⟨rfl, hw'⟩; rw [hw']; clear hw' w')
          | fail)
        go_region_held3 (fun V => V.cell? ⟨s, 1, none⟩ = some (.pointer (some ⟨a, 0, none⟩)) ∧ V.cell? ⟨bb, 3, none⟩ = some (.int .i64 (k : Int)))
          (first
            | exact HCm.out [] _ (hid_drew hR2).out (by simp)
            | exact HCm.out [] _ hR2.out (by simp)
            | exact HCm.out _ _ hg4.out (fun g hg => hg))
          (first | (go_at_call 13; refine (HMa.out _ (hid_drew hR2)).mono ?_; rintro e w4 ⟨rfl, hs4, hg4⟩))
        all_goals go_wp2_with fail
        all_goals
          go_ret
          exact ⟨rfl, _, _, by rw [HE.out]; exact hs4.out, HF2.out.trans hg4.out (fun g hg => .inl (by simp [hg]))⟩
end Go.Proofs.YtkmjimdaimbdfaaDoor
