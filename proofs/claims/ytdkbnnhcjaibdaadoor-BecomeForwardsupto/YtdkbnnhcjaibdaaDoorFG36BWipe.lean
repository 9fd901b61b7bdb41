import Derived.Test.YtdkbnnhcjaibdaaDoorFG15CEn
import Derived.Test.YtdkbnnhcjaibdaaDoorFG30BTrn
namespace Go.Proofs.YtdkbnnhcjaibdaaDoor
open Go.RowKit
set_option linter.unusedVariables false
attribute [local go_sem ↓] Go.wp_at_zero Go.wp_at_succ
set_option maxRecDepth 20000 in
set_option maxHeartbeats 600000 in
theorem sameInts_ok (ss : List Int) (va vb : Value) (w : World) (ha : Rd w va ss) (hb : Rd w vb ss) :
    Calls Tryd.prog 91 #[va, vb] w fun e w' => e = .returned (.bool true) ∧ ∃ n, w' = w.drewN n := by
  obtain ⟨pa, ca, rfl, hpa⟩ := ha.at_
  obtain ⟨pb, cb, rfl, hpb⟩ := hb.at_
  have hl := ha.short
  clear ha hb
  have HA := mkHid hpa
  have HB := mkHid hpb
  clear hpa hpb
  go_enter Tryd.func91, Tryd.ntmps91
  go_wp2_with fail
  go_loopw [5] (fun q wr => ∃ k : Nat, k ≤ ss.length ∧ q = .int .i64 k ∧ Hid (∃ n, wr = w.drewN n)) (fun q _ => ss.length - (intOf q).toNat)
  case atStart => exact ⟨0, Nat.zero_le _, rfl, 0, rfl⟩
  case round =>
    obtain ⟨k, hkn, rfl, hq⟩ := hrel
    by_cases hlt : k < ss.length
    · obtain ⟨ga, oa, rfl, -, hca⟩ := HA.out (by omega)
      obtain ⟨gb, ob, rfl, -, hcb⟩ := HB.out (by omega)
      obtain ⟨n, hn⟩ := hq.out
      have x1 : wr.cell? ⟨ga, oa + k, none⟩ = some (.int .i64 (ss.getD k 0)) := by rw [hn]; exact hca k hlt
      have x2 : wr.cell? ⟨gb, ob + k, none⟩ = some (.int .i64 (ss.getD k 0)) := by rw [hn]; exact hcb k hlt
      have k1 : (0 : Int) ≤ (k : Int) := by omega
      have k2 : (k : Int) < (ss.length : Int) := by omega
      have HD : Hid (∀ m, ∃ n, wr.drewN m = w.drewN n) := fun m => ⟨n + m, by rw [hn]; simp [World.drewN, Nat.add_assoc]⟩
      generalize ss.getD k 0 = z at *
      clear hca hcb hq hn HA HB
      go_wp2_with fail
      go_quiet (fail)
      go_wp2_with fail
      go_roundw
      case rel => exact ⟨k + 1, by omega, by go_num, HD.out _⟩
      case measure => simp [intOf]; omega
    · have hke : k = ss.length := by omega
      subst hke
      go_wp2_with fail
      go_ret
      exact ⟨rfl, hq.out⟩
end Go.Proofs.YtdkbnnhcjaibdaaDoor

namespace Go.Proofs.YtdkbnnhcjaibdaaDoor
open Go.RowKit
set_option linter.unusedVariables false
set_option linter.unusedSimpArgs false
attribute [local go_sem ↓] Go.wp_at_zero Go.wp_at_succ
/-- a list of words of one's own, laid since w0 -/
structure IWds (w0 wr : World) (v : Value) (ls : List Int) : Prop where
  own : wr.ownsRow w0.heap.size 3 1 v ls.length (ls.map (Value.int .i64))
  fr : Fr [] w0 wr
theorem IWds.idle {w0 wr V : World} {v : Value} {ls : List Int} (h : IWds w0 wr v ls) (hf : Fr [] wr V) : IWds w0 V v ls :=
  ⟨own_congr h.own fun g hg => hf.block g (h.own.lt g hg).2 (by simp), h.fr.trans hf (by simp)⟩
/-- .. where something that lay there ahead of it is written -/
theorem IWds.keep {w0 wr V : World} {v : Value} {ls : List Int} {S : List Nat} (h : IWds w0 wr v ls) (hf : Fr S wr V) (hS : ∀ g ∈ S, g < w0.heap.size) : V.ownsRow w0.heap.size 3 1 v ls.length (ls.map (Value.int .i64)) :=
  own_congr h.own fun g hg => hf.block g (h.own.lt g hg).2 (fun hm => by have := hS g hm; have := (h.own.lt g hg).1; omega)
theorem run_copyI_own (ss : List Int) (u : Value) (w : World) (h : Rd w u ss) : ∃ p c w', (Builtin.append_ #[36, 36] 36 #[.slice none 0 0, u]).run Tryd.prog w = .ok (.slice p ss.length c) w' ∧ IWds w w' (.slice p ss.length c) ss := by
  obtain ⟨v, w', h1, h2, h3⟩ := run_copyI ss u w h
  obtain ⟨p, c, e⟩ := row_is h2
  subst e
  exact ⟨p, c, w', h1, h2, h3⟩
set_option maxRecDepth 20000 in
set_option maxHeartbeats 1000000 in
theorem handI_ok (roots : List Int) (rv : Value) (w : World) (hr : Rd w rv roots) (hl : roots.length ≤ 17592186043904) :
    Calls Tryd.prog 38 #[rv] w fun e w' => ∃ v, e = .returned v ∧ IWds w w' v (roots ++ [-71, -72]) := by
  obtain ⟨j0, ji, jz0, jz1, jz2⟩ := info_parts info3
  obtain ⟨p3, c3, V3, hr3, hw3⟩ := run_copyI_own roots rv w hr
  obtain ⟨p, c, rfl, -⟩ := hr.at_
  have HR3 := mkHid hr3
  have HW3 := mkHid hw3
  clear hr3 hw3 hr
  go_enter Tryd.func38, Tryd.ntmps38
  have hz := HW3.out.fr.size
  have hown2 := HW3.out.own.alloc (.cells #[.int .i64 (-71), .int .i64 (-72)] 3)
  go_wp2_with (first
    | (at_builtin; refine Lib.wpList_append_run _ rfl (.const (.slice none 0 0)) (.tmp 4) 36 36 rfl _ _ rfl rfl _ _ HR3.out ?_)
    | (at_builtin; refine wpList_append_own _ rfl (.tmp 6) (.tmp 7) 36 rfl w.heap.size 3 j0 (.int .i64 0) 1 8 Tryd.underlying36 ji jz0 jz1 jz2 rfl (by decide) _ _ _ rfl hown2 ⟨V3.heap.size, 0, none⟩ 2 2 [.int .i64 (-71), .int .i64 (-72)] rfl rfl ?c1 ?c2 ?c3 ?c4 ?c5 ?_)
    | go_in)
  case c1 =>
    have := World.news_of_block (heap_alloc_new V3 (.cells #[.int .i64 (-71), .int .i64 (-72)] 3))
    simpa using this
  case c2 => first | rfl | (intro u hu; simp at hu; rcases hu with rfl | rfl <;> rfl)
  case c3 => unfold maxLen; omega
  case c4 => omega
  case c5 => first | omega | (simp; omega)
  intro v' w1 hown' hgrow _
  have HG : Hid (IWds w w1 v' (roots ++ [-71, -72])) := by
    have h1 : Fr [] w (V3.alloc (.cells #[.int .i64 (-71), .int .i64 (-72)] 3)) := HW3.out.fr.trans (Fr.alloc [] _ _) (by simp)
    refine ⟨by simpa using hown', hgrow.os.trans h1.os, hgrow.tape.trans h1.tape, hgrow.output.trans h1.output, Nat.le_trans h1.size hgrow.size, fun i hi hni => ?_⟩
    rw [hgrow.block i (Nat.lt_of_lt_of_le hi h1.size) (fun e => by have := (hown2.lt i e.symm).1; omega)]
    exact h1.block i hi hni
  clear hown' hgrow hown2
  go_wp2
  go_ret
  exact ⟨_, rfl, HG.out⟩
set_option maxRecDepth 20000 in
set_option maxHeartbeats 2000000 in
theorem leftI_ok (roots : List Int) (g c b : Nat) (rv : Value) (w : World) (h : w.ownsRow b 3 1 (.slice (some ⟨g, 0, none⟩) (roots.length + 2) c) (roots.length + 2) ((roots ++ [-71, -72]).map (Value.int .i64))) (hr : Rd w rv roots) (hcap : roots.length + 2 ≤ c) :
    Calls Tryd.prog 41 #[.slice (some ⟨g, 0, none⟩) (roots.length + 2) c, rv] w fun e w' => e = .returned (.bool true) ∧ Fr [] w w' := by
  have hs := hr.short
  have HSW := mkHid (sameInts_ok roots (.slice (some ⟨g, 0, none⟩) roots.length c) rv w (own_front h hs) hr)
  obtain ⟨p, c', rfl, -⟩ := hr.at_
  have x1 := own_get h roots.length (by simp)
  have x2 := own_get h (roots.length + 1) (by simp)
  have e1 : (roots ++ [-71, -72]).getD roots.length 0 = -71 := by simp [List.getD_eq_getElem?_getD]
  have e2 : (roots ++ [-71, -72]).getD (roots.length + 1) 0 = -72 := by simp [List.getD_eq_getElem?_getD]
  rw [e1] at x1
  rw [e2] at x2
  have hgl := World.block_lt_of_cell? w _ x1
  clear h hr e1 e2
  go_enter Tryd.func41, Tryd.ntmps41
  have k1 : (0 : Int) ≤ (roots.length : Int) := by omega
  have k2 : (roots.length : Int) < ((roots.length + 2 : Nat) : Int) := by omega
  have k3 : (roots.length : Int) ≤ (c : Int) := by omega
  go_wp2_with fail
  refine Calls.mono HSW.out ?_
  rintro e w2 ⟨rfl, n, hw⟩
  have y1 : w2.cell? ⟨g, roots.length, none⟩ = some (.int .i64 (-71)) := by rw [hw]; exact x1
  have y2 : w2.cell? ⟨g, roots.length + 1, none⟩ = some (.int .i64 (-72)) := by rw [hw]; exact x2
  have HF : Hid (Fr [] w w2) := by rw [hw]; exact Fr.drewN [] _ _
  clear hw x1 x2 HSW
  have k4 : (roots.length : Int) + 1 < ((roots.length + 2 : Nat) : Int) := by omega
  have k5 : (0 : Int) ≤ (roots.length : Int) + 1 := by omega
  have k6 : ((roots.length : Int) + 1).toNat = roots.length + 1 := by omega
  go_wp2_with fail
  go_ret
  exact ⟨rfl, HF.out⟩
end Go.Proofs.YtdkbnnhcjaibdaaDoor
namespace Go.Proofs.YtdkbnnhcjaibdaaDoor
open Go.RowKit
set_option linter.unusedVariables false
set_option linter.unusedSimpArgs false
attribute [local go_sem ↓] Go.wp_at_zero Go.wp_at_succ
/-- a list whose first numbers are written over -/
def wipeTo (xs : List Int) (m : Int) (k : Nat) : List Int := List.replicate k m ++ xs.drop k
theorem wipeTo_len (xs : List Int) (m : Int) (k : Nat) (hk : k ≤ xs.length) : (wipeTo xs m k).length = xs.length := by unfold wipeTo; simp; omega
theorem wipeTo_set (xs : List Int) (m : Int) (k : Nat) (hk : k < xs.length) : (wipeTo xs m k).set k m = wipeTo xs m (k + 1) := by
  unfold wipeTo
  rw [List.set_append_right _ _ (by simp), List.length_replicate, Nat.sub_self, List.drop_eq_getElem_cons hk, List.set_cons_zero, List.replicate_succ', List.append_assoc]
  rfl
set_option maxRecDepth 20000 in
set_option maxHeartbeats 1000000 in
theorem wiped_ok (xs : List Int) (m : Int) (g c b : Nat) (w : World) (h : w.ownsRow b 3 1 (.slice (some ⟨g, 0, none⟩) xs.length c) xs.length (xs.map (Value.int .i64))) (hl : xs.length ≤ 17592186044416) :
    Calls Tryd.prog 42 #[.slice (some ⟨g, 0, none⟩) xs.length c, .int .i64 m] w fun e w' => e = .returned (.tuple #[]) ∧ w'.ownsRow b 3 1 (.slice (some ⟨g, 0, none⟩) xs.length c) xs.length ((List.replicate xs.length m).map (Value.int .i64)) ∧ Fr [g] w w' := by
  have HO := mkHid h
  clear h
  go_enter Tryd.func42, Tryd.ntmps42
  go_wp2_with fail
  go_loopw [4] (fun q wr => ∃ k : Nat, k ≤ xs.length ∧ q = .int .i64 k ∧ Hid (wr.ownsRow b 3 1 (.slice (some ⟨g, 0, none⟩) xs.length c) xs.length ((wipeTo xs m k).map (Value.int .i64))) ∧ Hid (Fr [g] w wr)) (fun q _ => xs.length - (intOf q).toNat)
  case atStart => exact ⟨0, Nat.zero_le _, rfl, mkHid (by unfold wipeTo; simpa using HO.out), Fr.refl _ _⟩
  case round =>
    obtain ⟨k, hkn, rfl, hown, hq⟩ := hrel
    have k1 : (0 : Int) ≤ (k : Int) := by omega
    by_cases hlt : k < xs.length
    · have k2 : (k : Int) < (xs.length : Int) := by omega
      have hwl := wipeTo_len xs m k hkn
      have x1 := own_get hown.out k (by omega)
      obtain ⟨cur, hcur⟩ : ∃ cur, wr.heap[g]? = some (.cells cur 3 (0, 0)) := by
        rcases hown.out.2 with ⟨h2, h3⟩ | ⟨g', cap, cur, h2, h3, h4⟩
        · cases h2
        · injection h2 with e1; injection e1 with e1; injection e1 with e1; subst e1; exact ⟨cur, h4.1⟩
      have z1 := frozen_in hcur k
      have HO2 : Hid ((wr.setCell ⟨g, k, none⟩ (.int .i64 m)).ownsRow b 3 1 (.slice (some ⟨g, 0, none⟩) xs.length c) xs.length ((wipeTo xs m (k + 1)).map (Value.int .i64))) := by
        have := (hown.out.stored k (.int .i64 m)).1
        rw [← List.map_set, wipeTo_set xs m k hlt] at this
        exact this
      have HF2 : Hid (Fr [g] w (wr.setCell ⟨g, k, none⟩ (.int .i64 m))) := hq.out.trans (Fr.setCell (S := [g]) _ ⟨g, k, none⟩ _ (by simp)) (fun b hb => .inl hb)
      generalize (wipeTo xs m k).getD k 0 = u at *
      clear hown hcur hwl hq
      go_wp2_with fail
      go_roundw
      case rel => exact ⟨k + 1, by omega, by go_num, HO2, HF2⟩
      case measure => simp [intOf]; omega
    · have hke : k = xs.length := by omega
      subst hke
      have HO2 : Hid (wr.ownsRow b 3 1 (.slice (some ⟨g, 0, none⟩) xs.length c) xs.length ((List.replicate xs.length m).map (Value.int .i64))) := by
        have := hown.out
        unfold wipeTo at this
        rw [List.drop_length, List.append_nil] at this
        exact this
      clear hown hlt
      go_wp2_with fail
      go_end0
      exact ⟨rfl, HO2.out, hq.out⟩
end Go.Proofs.YtdkbnnhcjaibdaaDoor
