import Derived.Test.YtdkbnnhcjaibdaaDoorFG30BTrn
import Derived.Test.YtdkbnnhcjaibdaaDoorFG14CMeet
namespace Go.Proofs.YtdkbnnhcjaibdaaDoor
open Go.RowKit Go.Maps
set_option linter.unusedVariables false
set_option linter.unusedSimpArgs false
attribute [local go_sem ↓] Go.wp_at_zero Go.wp_at_succ
/-- does a word name one of the first list? -/
def isTrn (ps : List (Int × Int)) (z : Int) : Bool := ps.any fun p => decide (z = 4 * p.1)
theorem isTrn_not {ps : List (Int × Int)} {z : Int} (h : isTrn ps z = false) : trnZ ps z = z := by
  refine trn_out fun p hp e => ?_
  have := List.any_eq_false.1 h p hp
  simp [e] at this
theorem isTrn_ne {ps : List (Int × Int)} (hd : (nums ps).Nodup) {z : Int} (h : isTrn ps z = true) : trnZ ps z ≠ z := by
  obtain ⟨p, hp, e⟩ := List.any_eq_true.1 h
  have e : z = 4 * p.1 := of_decide_eq_true e
  subst e
  rw [trn_in hd p hp]
  have := apart hd p hp p hp
  omega
/-- what is told of it, as the program's turning has it -/
theorem turn_is {ps : List (Int × Int)} (hd : (nums ps).Nodup) (hb : ∀ p ∈ ps, 1 ≤ p.1 ∧ p.1 ≤ 65536) (z : Int) : turnC (pf ps) z = if isTrn ps z = true then 1 else 0 := by
  rw [(trn_turn hd hb z).2]
  cases h : isTrn ps z with
  | false => rw [if_pos (isTrn_not h), if_neg (by simp)]
  | true => rw [if_neg (isTrn_ne hd h), if_pos rfl]
set_option maxRecDepth 20000 in
set_option maxHeartbeats 1000000 in
theorem rTurned_ok (q : Int) (sa sb : List Int) (va vb : Value) (w : World) (hl : sa.length = sb.length) (ba : ∀ x ∈ sa, 0 ≤ x ∧ x ≤ 65536) (bb : ∀ x ∈ sb, 0 ≤ x ∧ x ≤ 65536) (ha : Rd w va sa) (hb : Rd w vb sb) :
    Calls Tryd.prog 103 #[.int .i64 q, va, vb] w fun e w' => e = .returned (.tuple #[.int .i64 (trnZ (sa.zip sb) q), .bool (isTrn (sa.zip sb) q)]) ∧ w' = w := by
  obtain ⟨pa, ca, rfl, hpa⟩ := ha.at_
  obtain ⟨pb, cb, rfl, hpb⟩ := hb.at_
  have s1 := ha.short
  have HPa := mkHid hpa
  have HPb := mkHid hpb
  have HBa := mkHid ba
  have HBb := mkHid bb
  have HL := mkHid hl
  rw [← hl]
  clear ha hb hpa hpb hl ba bb
  go_enter Tryd.func103, Tryd.ntmps103
  go_wp2_with fail
  go_loopw [8] (fun i wr => ∃ k : Nat, k ≤ sa.length ∧ i = .int .i64 k ∧ Hid (wr = w) ∧ Hid (trnZ (sa.zip sb) q = trnZ ((sa.zip sb).drop k) q ∧ isTrn (sa.zip sb) q = isTrn ((sa.zip sb).drop k) q)) (fun i _ => sa.length - (intOf i).toNat)
  case atStart => exact ⟨0, Nat.zero_le _, rfl, mkHid rfl, mkHid ⟨rfl, rfl⟩⟩
  case round =>
    obtain ⟨k, hkn, rfl, hw0, hp⟩ := hrel
    rw [hw0.out]
    clear hw0
    have k1 : (0 : Int) ≤ (k : Int) := by omega
    by_cases hlt : k < sa.length
    · have k2 : (k : Int) < (sa.length : Int) := by omega
      have hltb : k < sb.length := by have := HL.out; omega
      obtain ⟨ga, oa, rfl, hga, hca⟩ := HPa.out (by omega)
      obtain ⟨gb, ob, rfl, hgb, hcb⟩ := HPb.out (by omega)
      have x1 := hca k hlt
      have x2 := hcb k hltb
      have hz : k < (sa.zip sb).length := by rw [List.length_zip]; omega
      have hd : (sa.zip sb).drop k = (sa.getD k 0, sb.getD k 0) :: (sa.zip sb).drop (k + 1) := by
        rw [List.drop_eq_getElem_cons hz, List.getElem_zip, List.getD_eq_getElem?_getD, List.getElem?_eq_getElem hlt, List.getD_eq_getElem?_getD, List.getElem?_eq_getElem hltb]
        rfl
      obtain ⟨hp2, hq2⟩ := hp.out
      rw [hd] at hp2 hq2
      have hp3 : trnZ (sa.zip sb) q = if q = 4 * sa.getD k 0 then 4 * sb.getD k 0 else trnZ ((sa.zip sb).drop (k + 1)) q := hp2
      have hq3 : isTrn (sa.zip sb) q = (decide (q = 4 * sa.getD k 0) || isTrn ((sa.zip sb).drop (k + 1)) q) := hq2
      have HP3 := mkHid (And.intro hp3 hq3)
      have hbx := HBa.out (sa.getD k 0) (by rw [List.getD_eq_getElem?_getD, List.getElem?_eq_getElem hlt]; exact List.getElem_mem hlt)
      have hby := HBb.out (sb.getD k 0) (by rw [List.getD_eq_getElem?_getD, List.getElem?_eq_getElem hltb]; exact List.getElem_mem hltb)
      generalize sa.getD k 0 = x at *
      generalize sb.getD k 0 = y at *
      have wx : IntKind.i64.wrap (4 * x) = 4 * x := by rw [iwrap]; unfold wrap64; omega
      have wy : IntKind.i64.wrap (4 * y) = 4 * y := by rw [iwrap]; unfold wrap64; omega
      clear hca hcb hd hp2 hp3 hq2 hq3 hp
      by_cases hx : q = 4 * x
      · have hbq : (q == 4 * x) = true := by simpa using hx
        have HR2 : Hid (trnZ (sa.zip sb) q = 4 * y ∧ isTrn (sa.zip sb) q = true) := by
          show _ ∧ _
          rw [HP3.out.1, HP3.out.2, if_pos hx, decide_eq_true hx]
          exact ⟨rfl, rfl⟩
        clear hx HP3
        go_wp2_with fail
        go_ret2
        exact ⟨by rw [HR2.out.1, HR2.out.2]; rfl, rfl⟩
      · have hbq : (q == 4 * x) = false := by simpa using hx
        have HR2 : Hid (trnZ (sa.zip sb) q = trnZ ((sa.zip sb).drop (k + 1)) q ∧ isTrn (sa.zip sb) q = isTrn ((sa.zip sb).drop (k + 1)) q) := by
          show _ ∧ _
          refine ⟨by rw [HP3.out.1, if_neg hx], ?_⟩
          rw [HP3.out.2, decide_eq_false hx]
          rfl
        clear hx HP3
        go_wp2_with fail
        go_roundw
        case rel => exact ⟨k + 1, by omega, by go_num, by first | exact mkHid rfl | exact mkHid trivial, HR2⟩
        case measure => simp [intOf]; omega
    · have hke : k = sa.length := by omega
      subst hke
      have HR2 : Hid (trnZ (sa.zip sb) q = q ∧ isTrn (sa.zip sb) q = false) := by
        show _ ∧ _
        rw [hp.out.1, hp.out.2, List.drop_eq_nil_of_le (by rw [List.length_zip]; omega)]
        exact ⟨rfl, rfl⟩
      go_wp2_with fail
      go_ret2
      exact ⟨by rw [HR2.out.1, HR2.out.2]; rfl, rfl⟩
end Go.Proofs.YtdkbnnhcjaibdaaDoor
namespace Go.Proofs.YtdkbnnhcjaibdaaDoor
open Go.RowKit
set_option linter.unusedVariables false
attribute [local go_sem ↓] Go.wp_at_zero Go.wp_at_succ
set_option maxHeartbeats 1000000 in
theorem pairs_nil (va vb : Value) (w : World) : Calls Tryd.prog 98 #[.pointer none, va, vb] w fun e w' => e = .returned (.tuple #[.map none, .int .i64 2]) ∧ Fr [] w w' := by
  go_enter Tryd.func98, Tryd.ntmps98
  go_wp2_with fail
  go_ret2
  exact ⟨rfl, by first | exact Fr.refl _ _ | exact Fr.alloc [] _ _⟩
set_option maxHeartbeats 1000000 in
theorem Swap_nil (va vb : Value) (w : World) : Calls Tryd.prog 32 #[.pointer none, va, vb] w fun e w' => e = .returned (.int .i64 2) ∧ Fr [] w w' := by
  have HM := mkHid (pairs_nil va vb w)
  go_enter Tryd.func32, Tryd.ntmps32
  go_wp2_with fail
  refine Calls.mono HM.out ?_
  rintro e w1 ⟨rfl, hf⟩
  have HF := mkHid hf
  clear hf HM
  go_wp2_with fail
  go_ret
  exact ⟨rfl, HF.out⟩
set_option maxHeartbeats 1000000 in
theorem may_nil (va vb : Value) (w : World) : Calls Tryd.prog 102 #[.pointer none, va, vb] w fun e w' => e = .returned (.int .i64 2) ∧ Fr [] w w' := by
  go_enter Tryd.func102, Tryd.ntmps102
  go_wp2_with fail
  go_ret
  exact ⟨rfl, by first | exact Fr.refl _ _ | exact Fr.alloc [] _ _⟩
set_option maxHeartbeats 1000000 in
theorem rSwap_nil (va vb : Value) (w : World) : Calls Tryd.prog 45 #[.pointer none, va, vb] w fun e w' => e = .returned (.int .i64 2) ∧ Fr [] w w' := by
  have HM := mkHid (may_nil va vb w)
  go_enter Tryd.func45, Tryd.ntmps45
  go_wp2_with fail
  refine Calls.mono HM.out ?_
  rintro e w1 ⟨rfl, hf⟩
  have HF := mkHid hf
  clear hf HM
  go_wp2_with fail
  go_ret
  exact ⟨rfl, HF.out⟩
set_option maxHeartbeats 1000000 in
theorem Point_nil (w : World) : Calls Tryd.prog 43 #[.pointer none] w fun e w' => e = .returned (.agg #[.pointer none, .int .i64 0, .int .i64 0]) ∧ Fr [] w w' := by
  have HM := mkHid fun V => made_nil V
  go_enter Tryd.func43, Tryd.ntmps43
  go_wp2_with (go_at_call 62; refine Calls.mono (HM.out _) ?_; rintro e w' ⟨rfl, hw'⟩; rw [hw']; clear hw' w')
  have hB0 : (w.alloc (.cells #[.pointer none, .int .i64 0, .int .i64 0] 91)).heap[w.heap.size]? = some (.cells #[.pointer none, .int .i64 0, .int .i64 0] 91 (0, 0)) := heap_alloc_new _ _
  have F0 : Fr [] w (w.alloc (.cells #[.pointer none, .int .i64 0, .int .i64 0] 91)) := Fr.alloc [] _ _
  generalize w.alloc (.cells #[.pointer none, .int .i64 0, .int .i64 0] 91) = V at *
  have x0 : V.cell? ⟨w.heap.size, 0, none⟩ = some (.pointer none) := by rw [cell_in hB0]; rfl
  have x1 : V.cell? ⟨w.heap.size, 1, none⟩ = some (.int .i64 0) := by rw [cell_in hB0]; rfl
  have x2 : V.cell? ⟨w.heap.size, 2, none⟩ = some (.int .i64 0) := by rw [cell_in hB0]; rfl
  refine bodyPost_ret (v := .agg #[.pointer none, .int .i64 0, .int .i64 0]) (by simp [results, Tryd.results43, go_sem, x0, x1, x2]) rfl ?_
  exact ⟨rfl, F0⟩
set_option maxHeartbeats 1000000 in
theorem rPoint_nil (w : World) : Calls Tryd.prog 44 #[.pointer none] w fun e w' => e = .returned (.agg #[.pointer none, .int .i64 0, .int .i64 0]) ∧ Fr [] w w' := by
  go_enter Tryd.func44, Tryd.ntmps44
  go_wp2_with fail
  have hB0 : (w.alloc (.cells #[.pointer none, .int .i64 0, .int .i64 0] 94)).heap[w.heap.size]? = some (.cells #[.pointer none, .int .i64 0, .int .i64 0] 94 (0, 0)) := heap_alloc_new _ _
  have F0 : Fr [] w (w.alloc (.cells #[.pointer none, .int .i64 0, .int .i64 0] 94)) := Fr.alloc [] _ _
  generalize w.alloc (.cells #[.pointer none, .int .i64 0, .int .i64 0] 94) = V at *
  have x0 : V.cell? ⟨w.heap.size, 0, none⟩ = some (.pointer none) := by rw [cell_in hB0]; rfl
  have x1 : V.cell? ⟨w.heap.size, 1, none⟩ = some (.int .i64 0) := by rw [cell_in hB0]; rfl
  have x2 : V.cell? ⟨w.heap.size, 2, none⟩ = some (.int .i64 0) := by rw [cell_in hB0]; rfl
  refine bodyPost_ret (v := .agg #[.pointer none, .int .i64 0, .int .i64 0]) (by simp [results, Tryd.results44, go_sem, x0, x1, x2]) rfl ?_
  exact ⟨rfl, F0⟩
set_option maxHeartbeats 1000000 in
theorem Back_nil (x y z : Value) (w : World) : Calls Tryd.prog 46 #[.pointer none, .agg #[x, y, z]] w fun e w' => e = .returned (.int .i64 2) ∧ Fr [] w w' := by
  have HM := mkHid fun V => made_nil V
  go_enter Tryd.func46, Tryd.ntmps46
  go_wp2_with (go_at_call 62; refine Calls.mono (HM.out _) ?_; rintro e w' ⟨rfl, hw'⟩; rw [hw']; clear hw' w')
  go_ret
  exact ⟨rfl, by first | exact Fr.refl _ _ | exact Fr.alloc [] _ _⟩
set_option maxHeartbeats 1000000 in
theorem rBack_nil (x y z : Value) (w : World) : Calls Tryd.prog 47 #[.pointer none, .agg #[x, y, z]] w fun e w' => e = .returned (.int .i64 2) ∧ Fr [] w w' := by
  go_enter Tryd.func47, Tryd.ntmps47
  go_wp2_with fail
  go_ret
  exact ⟨rfl, by first | exact Fr.refl _ _ | exact Fr.alloc [] _ _⟩
end Go.Proofs.YtdkbnnhcjaibdaaDoor
