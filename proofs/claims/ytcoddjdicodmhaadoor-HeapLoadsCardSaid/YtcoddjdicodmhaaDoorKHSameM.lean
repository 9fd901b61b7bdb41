import Derived.Test.YtcoddjdicodmhaaDoorKHRd
import Derived.BigQuiet
namespace Go.Proofs.YtcoddjdicodmhaaDoor
open Go.RowKit
set_option linter.unusedVariables false
attribute [local go_sem ↓] Go.wp_at_zero Go.wp_at_succ
set_option maxRecDepth 20000 in
set_option maxHeartbeats 600000 in
theorem sameWords_ok (ss : List Int) (va vb : Value) (w : World) (ha : Rd w va ss) (hb : Rd w vb ss) :
    Calls Tryd.prog 60 #[va, vb] w fun e w' => e = .returned (.bool true) ∧ ∃ n, w' = w.drewN n := by
  obtain ⟨pa, ca, rfl, hpa⟩ := ha.at_
  obtain ⟨pb, cb, rfl, hpb⟩ := hb.at_
  have hl := ha.short
  clear ha hb
  have HA := mkHid hpa
  have HB := mkHid hpb
  clear hpa hpb
  go_enter Tryd.func60, Tryd.ntmps60
  go_wp2_with fail
  go_loopw [5] (fun q wr => ∃ k : Nat, k ≤ ss.length ∧ q = .int .i64 k ∧ Hid (∃ n, wr = w.drewN n)) (fun q _ => ss.length - (intOf q).toNat)
  case atStart => exact ⟨0, Nat.zero_le _, rfl, 0, rfl⟩
  case round =>
    obtain ⟨k, hkn, rfl, hq⟩ := hrel
    by_cases hlt : k < ss.length
    · obtain ⟨ga, oa, rfl, -, hca⟩ := HA.out (by omega)
      obtain ⟨gb, ob, rfl, -, hcb⟩ := HB.out (by omega)
      obtain ⟨n, hn⟩ := hq.out
      have x1 : wr.cell? ⟨ga, oa + k, none⟩ = some (.int .i64 (ss.getD k 0)) := by rw [hn]; exact hca k hlt
      have x2 : wr.cell? ⟨gb, ob + k, none⟩ = some (.int .i64 (ss.getD k 0)) := by rw [hn]; exact hcb k hlt
      have k1 : (0 : Int) ≤ (k : Int) := by omega
      have k2 : (k : Int) < (ss.length : Int) := by omega
      have HD : Hid (∀ m, ∃ n, wr.drewN m = w.drewN n) := fun m => ⟨n + m, by rw [hn]; simp [World.drewN, Nat.add_assoc]⟩
      generalize ss.getD k 0 = z at *
      clear hca hcb hq hn HA HB
      go_wp2_with fail
      go_quiet (fail)
      go_wp2_with fail
      go_roundw
      case rel => exact ⟨k + 1, by omega, by go_num, HD.out _⟩
      case measure => simp [intOf]; omega
    · have hke : k = ss.length := by omega
      subst hke
      go_wp2_with fail
      go_ret
      exact ⟨rfl, hq.out⟩
end Go.Proofs.YtcoddjdicodmhaaDoor
namespace Go.Proofs.YtcoddjdicodmhaaDoor
open Go.RowKit
set_option linter.unusedVariables false
attribute [local go_sem ↓] Go.wp_at_zero Go.wp_at_succ
set_option maxRecDepth 20000 in
set_option maxHeartbeats 1000000 in
theorem sameState_at (x y z : Int) (oa ob : Value) (la lb : List OI) (w : World) (ha : SAt w oa la) (hb : SAt w ob lb) (hk : la.map oiKey = lb.map oiKey) :
    Calls Tryd.prog 22 #[.agg #[.int .i64 x, .int .i64 y, .int .i64 z, oa], .agg #[.int .i64 x, .int .i64 y, .int .i64 z, ob]] w fun e w' => e = .returned (.bool true) ∧ Fr [] w w' := by
  have hll : lb.length = la.length := by have := congrArg List.length hk; simpa using this.symm
  have HA := mkHid ha
  have HB := mkHid hb
  have HK := mkHid hk
  have hl := ha.short
  obtain ⟨pa, ca, rfl, -⟩ := ha.at_
  obtain ⟨pb, cb, rfl, -⟩ := hb.at_
  rw [hll] at HB ⊢
  clear ha hb hk
  obtain ⟨W1, hW1⟩ : ∃ W1, W1 = (w.alloc (.cells #[.int .i64 x, .int .i64 y, .int .i64 z, .slice pa la.length ca] 38)).alloc (.cells #[.int .i64 x, .int .i64 y, .int .i64 z, .slice pb la.length cb] 38) := ⟨_, rfl⟩
  have F1 : Hid (Fr [] w W1) := by rw [hW1]; exact (Fr.alloc [] _ _).trans (Fr.alloc [] _ _) (by simp)
  have HC : Hid (W1.heap[w.heap.size]? = some (.cells #[.int .i64 x, .int .i64 y, .int .i64 z, .slice pa la.length ca] 38 (0, 0)) ∧ W1.heap[w.heap.size + 1]? = some (.cells #[.int .i64 x, .int .i64 y, .int .i64 z, .slice pb la.length cb] 38 (0, 0))) := by
    rw [hW1]
    refine ⟨?_, ?_⟩
    · rw [Below.heap_alloc _ _ _ (by simp)]; exact heap_alloc_new _ _
    · have := heap_alloc_new (w.alloc (.cells #[.int .i64 x, .int .i64 y, .int .i64 z, .slice pa la.length ca] 38)) (.cells #[.int .i64 x, .int .i64 y, .int .i64 z, .slice pb la.length cb] 38)
      simpa using this
  go_enter Tryd.func22, Tryd.ntmps22
  go_wp2_with fail
  rw [← hW1]
  clear hW1
  go_loopw [5] (fun q wr => ∃ k : Nat, k ≤ la.length ∧ q = .int .i64 k ∧ Hid (Fr [] W1 wr)) (fun q _ => la.length - (intOf q).toNat)
  case atStart => exact ⟨0, Nat.zero_le _, rfl, Fr.refl _ _⟩
  case round =>
    obtain ⟨k, hkn, rfl, hf⟩ := hrel
    have b0 := (hf.out.block _ (lt_of_heap HC.out.1) (by simp)).trans HC.out.1
    have b1 := (hf.out.block _ (lt_of_heap HC.out.2) (by simp)).trans HC.out.2
    have e0 : wr.cell? ⟨w.heap.size, 3, none⟩ = some (.slice pa la.length ca) := by rw [cell_in b0]; rfl
    have e1 : wr.cell? ⟨w.heap.size + 1, 3, none⟩ = some (.slice pb la.length cb) := by rw [cell_in b1]; rfl
    have hB1 := lt_of_heap b1
    by_cases hlt : k < la.length
    · have Fk := F1.out.trans hf.out (by simp)
      have hAk := HA.out.idle Fk
      have hBk := HB.out.idle Fk
      obtain ⟨pa', ca', e2, hpa⟩ := hAk.at_
      injection e2 with e2 e2b e2c
      subst e2
      subst e2c
      clear e2b
      obtain ⟨pb', cb', e3, hpb⟩ := hBk.at_
      injection e3 with e3 e3b e3c
      subst e3
      subst e3c
      clear e3b
      obtain ⟨ga, fa, rfl, hca⟩ := hpa (by omega)
      obtain ⟨gb, fb, rfl, hcb⟩ := hpb (by omega)
      obtain ⟨o, h0, x0, x1, x2, x3⟩ := hca k hlt
      have x4 := hAk.slots o (List.mem_of_getElem? h0)
      obtain ⟨o', h0', y0, y1, y2, y3⟩ := hcb k (by omega)
      have y4 := hBk.slots o' (List.mem_of_getElem? h0')
      have hkey : oiKey o = oiKey o' := by
        have := congrArg (fun l => l[k]?) HK.out
        simp only [List.getElem?_map, h0, h0'] at this
        simpa using this
      have hgl : ga < wr.heap.size := World.block_lt_of_cell? wr ⟨ga, fa + k * 4, none⟩ x0
      have hgl2 : gb < wr.heap.size := World.block_lt_of_cell? wr ⟨gb, fb + k * 4, none⟩ y0
      obtain ⟨oo, oc, of_, os, ov⟩ := o
      obtain ⟨oo', oc', of', os', ov'⟩ := o'
      simp only [oiKey, Prod.mk.injEq] at hkey
      obtain ⟨rfl, rfl, rfl, rfl⟩ := hkey
      dsimp only at *
      have HSW : Hid (∀ V, Hid (Fr [] wr V) → Calls Tryd.prog 60 #[ov, ov'] V fun e w' => e = .returned (.bool true) ∧ Hid (Fr [] wr w')) := by
        intro V hV
        refine Calls.mono (sameWords_ok os ov ov' V (x4.idle hV.out) (y4.idle hV.out)) ?_
        rintro e w' ⟨rfl, n, rfl⟩
        exact ⟨rfl, hV.out.trans (Fr.drewN [] _ _) (by simp)⟩
      obtain ⟨p1, c1, rfl⟩ : ∃ p c, ov = .slice p os.length c := by
        obtain ⟨p, c, h, _⟩ := x4.at_
        exact ⟨p, c, h⟩
      obtain ⟨p2, c2, rfl⟩ : ∃ p c, ov' = .slice p os.length c := by
        obtain ⟨p, c, h, _⟩ := y4.at_
        exact ⟨p, c, h⟩
      have k1 : (0 : Int) ≤ (k : Int) := by omega
      have k2 : (k : Int) < (la.length : Int) := by omega
      have HS2 := mkHid (HSW.out ((wr.alloc (.cells #[.int .i64 oo, .int .i64 oc, .int .i64 of_, .slice p1 os.length c1] 106)).alloc (.cells #[.int .i64 oo, .int .i64 oc, .int .i64 of_, .slice p2 os.length c2] 106)) ((Fr.alloc [] _ _).trans (Fr.alloc [] _ _) (by simp)))
      generalize os.length = sn at *
      clear hAk hBk hca hcb hpa hpb x4 y4 b0 b1 HSW HK HA HB h0 h0' Fk hll
      go_wp2_with (go_at_call 60; refine Calls.mono HS2.out ?_; rintro e w5 ⟨rfl, hf5⟩)
      go_roundw
      case rel => exact ⟨k + 1, by omega, by go_num, hf.out.trans hf5.out (by simp)⟩
      case measure => simp [intOf]; omega
    · have hke : k = la.length := by omega
      subst hke
      go_wp2_with fail
      go_ret
      exact ⟨rfl, F1.out.trans hf.out (by simp)⟩
theorem sameState_ok (x y z : Nat) (oa ob : Value) (la lb : List OS) (ba bb : Nat) (w : World) (ha : SRep w ba oa la) (hb : SRep w bb ob lb) (hk : la.map osKey = lb.map osKey) (hl : la.length ≤ 1048576) (hsl : ∀ o ∈ la, o.slots.length ≤ 8192) :
    Calls Tryd.prog 22 #[.agg #[.int .i64 (x : Int), .int .i64 (y : Int), .int .i64 (z : Int), oa], .agg #[.int .i64 (x : Int), .int .i64 (y : Int), .int .i64 (z : Int), ob]] w fun e w' => e = .returned (.bool true) ∧ Fr [] w w' := by
  have hll : lb.length = la.length := by have := congrArg List.length hk; simpa using this.symm
  have hsb : ∀ o ∈ lb, o.slots.length ≤ 8192 := fun o ho => by
    have h1 : osKey o ∈ la.map osKey := by rw [hk]; exact List.mem_map_of_mem ho
    obtain ⟨u, hu, he⟩ := List.mem_map.1 h1
    have e2 : u.slots = o.slots := by simp only [osKey, Prod.mk.injEq] at he; exact he.2.2.2
    rw [← e2]; exact hsl u hu
  refine sameState_at x y z oa ob (la.map toOI) (lb.map toOI) w (ha.sat (by omega) (fun o ho => by have := hsl o ho; omega)) (hb.sat (by omega) (fun o ho => by have := hsb o ho; omega)) ?_
  have e : oiKey ∘ toOI = (fun k : Nat × Int × Nat × List Int => ((k.1 : Int), k.2.1, (k.2.2.1 : Int), k.2.2.2)) ∘ osKey := rfl
  rw [List.map_map, List.map_map, e, ← List.map_map, ← List.map_map, hk]
end Go.Proofs.YtcoddjdicodmhaaDoor
