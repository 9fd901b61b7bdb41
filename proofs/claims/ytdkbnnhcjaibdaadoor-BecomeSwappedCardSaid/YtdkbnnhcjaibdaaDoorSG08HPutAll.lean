import Derived.Test.YtdkbnnhcjaibdaaDoorSG07HSameS
namespace Go.Proofs.YtdkbnnhcjaibdaaDoor
open Go.RowKit
set_option linter.unusedVariables false
attribute [local go_sem ↓] Go.wp_at_zero Go.wp_at_succ
set_option maxRecDepth 20000 in
set_option maxHeartbeats 1000000 in
theorem sameState_at (x y z : Int) (oa ob : Value) (la lb : List OI) (w : World) (ha : SAt w oa la) (hb : SAt w ob lb) (hk : la.map oiKey = lb.map oiKey) :
    Calls Tryd.prog 19 #[.agg #[.int .i64 x, .int .i64 y, .int .i64 z, oa], .agg #[.int .i64 x, .int .i64 y, .int .i64 z, ob]] w fun e w' => e = .returned (.bool true) ∧ Fr [] w w' := by
  have hll : lb.length = la.length := by have := congrArg List.length hk; simpa using this.symm
  have HA := mkHid ha
  have HB := mkHid hb
  have HK := mkHid hk
  have hl := ha.short
  obtain ⟨pa, ca, rfl, -⟩ := ha.at_
  obtain ⟨pb, cb, rfl, -⟩ := hb.at_
  rw [hll] at HB ⊢
  clear ha hb hk
  obtain ⟨W1, hW1⟩ : ∃ W1, W1 = (w.alloc (.cells #[.int .i64 x, .int .i64 y, .int .i64 z, .slice pa la.length ca] 45)).alloc (.cells #[.int .i64 x, .int .i64 y, .int .i64 z, .slice pb la.length cb] 45) := ⟨_, rfl⟩
  have F1 : Hid (Fr [] w W1) := by rw [hW1]; exact (Fr.alloc [] _ _).trans (Fr.alloc [] _ _) (by simp)
  have HC : Hid (W1.heap[w.heap.size]? = some (.cells #[.int .i64 x, .int .i64 y, .int .i64 z, .slice pa la.length ca] 45 (0, 0)) ∧ W1.heap[w.heap.size + 1]? = some (.cells #[.int .i64 x, .int .i64 y, .int .i64 z, .slice pb la.length cb] 45 (0, 0))) := by
    rw [hW1]
    refine ⟨?_, ?_⟩
    · rw [Below.heap_alloc _ _ _ (by simp)]; exact heap_alloc_new _ _
    · have := heap_alloc_new (w.alloc (.cells #[.int .i64 x, .int .i64 y, .int .i64 z, .slice pa la.length ca] 45)) (.cells #[.int .i64 x, .int .i64 y, .int .i64 z, .slice pb la.length cb] 45)
      simpa using this
  go_enter Tryd.func19, Tryd.ntmps19
  go_wp2_with fail
  rw [← hW1]
  clear hW1
  go_loopw [5] (fun q wr => ∃ k : Nat, k ≤ la.length ∧ q = .int .i64 k ∧ Hid (Fr [] W1 wr)) (fun q _ => la.length - (intOf q).toNat)
  case atStart => exact ⟨0, Nat.zero_le _, rfl, Fr.refl _ _⟩
  case round =>
    obtain ⟨k, hkn, rfl, hf⟩ := hrel
    have b0 := (hf.out.block _ (lt_of_heap HC.out.1) (by simp)).trans HC.out.1
    have b1 := (hf.out.block _ (lt_of_heap HC.out.2) (by simp)).trans HC.out.2
    have e0 : wr.cell? ⟨w.heap.size, 3, none⟩ = some (.slice pa la.length ca) := by rw [cell_in b0]; rfl
    have e1 : wr.cell? ⟨w.heap.size + 1, 3, none⟩ = some (.slice pb la.length cb) := by rw [cell_in b1]; rfl
    have hB1 := lt_of_heap b1
    by_cases hlt : k < la.length
    · have Fk := F1.out.trans hf.out (by simp)
      have hAk := HA.out.idle Fk
      have hBk := HB.out.idle Fk
      obtain ⟨pa', ca', e2, hpa⟩ := hAk.at_
      injection e2 with e2 e2b e2c
      subst e2
      subst e2c
      clear e2b
      obtain ⟨pb', cb', e3, hpb⟩ := hBk.at_
      injection e3 with e3 e3b e3c
      subst e3
      subst e3c
      clear e3b
      obtain ⟨ga, fa, rfl, hca⟩ := hpa (by omega)
      obtain ⟨gb, fb, rfl, hcb⟩ := hpb (by omega)
      obtain ⟨o, h0, x0, x1, x2, x3⟩ := hca k hlt
      have x4 := hAk.slots o (List.mem_of_getElem? h0)
      obtain ⟨o', h0', y0, y1, y2, y3⟩ := hcb k (by omega)
      have y4 := hBk.slots o' (List.mem_of_getElem? h0')
      have hkey : oiKey o = oiKey o' := by
        have := congrArg (fun l => l[k]?) HK.out
        simp only [List.getElem?_map, h0, h0'] at this
        simpa using this
      have hgl : ga < wr.heap.size := World.block_lt_of_cell? wr ⟨ga, fa + k * 4, none⟩ x0
      have hgl2 : gb < wr.heap.size := World.block_lt_of_cell? wr ⟨gb, fb + k * 4, none⟩ y0
      obtain ⟨oo, oc, of_, os, ov⟩ := o
      obtain ⟨oo', oc', of', os', ov'⟩ := o'
      simp only [oiKey, Prod.mk.injEq] at hkey
      obtain ⟨rfl, rfl, rfl, rfl⟩ := hkey
      dsimp only at *
      have HSW : Hid (∀ V, Hid (Fr [] wr V) → Calls Tryd.prog 73 #[ov, ov'] V fun e w' => e = .returned (.bool true) ∧ Hid (Fr [] wr w')) := by
        intro V hV
        refine Calls.mono (sameWords_ok os ov ov' V (x4.idle hV.out) (y4.idle hV.out)) ?_
        rintro e w' ⟨rfl, n, rfl⟩
        exact ⟨rfl, hV.out.trans (Fr.drewN [] _ _) (by simp)⟩
      obtain ⟨p1, c1, rfl⟩ : ∃ p c, ov = .slice p os.length c := by
        obtain ⟨p, c, h, _⟩ := x4.at_
        exact ⟨p, c, h⟩
      obtain ⟨p2, c2, rfl⟩ : ∃ p c, ov' = .slice p os.length c := by
        obtain ⟨p, c, h, _⟩ := y4.at_
        exact ⟨p, c, h⟩
      have k1 : (0 : Int) ≤ (k : Int) := by omega
      have k2 : (k : Int) < (la.length : Int) := by omega
      have HS2 := mkHid (HSW.out ((wr.alloc (.cells #[.int .i64 oo, .int .i64 oc, .int .i64 of_, .slice p1 os.length c1] 76)).alloc (.cells #[.int .i64 oo, .int .i64 oc, .int .i64 of_, .slice p2 os.length c2] 76)) ((Fr.alloc [] _ _).trans (Fr.alloc [] _ _) (by simp)))
      generalize os.length = sn at *
      clear hAk hBk hca hcb hpa hpb x4 y4 b0 b1 HSW HK HA HB h0 h0' Fk hll
      go_wp2_with (go_at_call 73; refine Calls.mono HS2.out ?_; rintro e w5 ⟨rfl, hf5⟩)
      go_roundw
      case rel => exact ⟨k + 1, by omega, by go_num, hf.out.trans hf5.out (by simp)⟩
      case measure => simp [intOf]; omega
    · have hke : k = la.length := by omega
      subst hke
      go_wp2_with fail
      go_ret
      exact ⟨rfl, F1.out.trans hf.out (by simp)⟩
theorem sameState_ok (x y z : Nat) (oa ob : Value) (la lb : List OS) (ba bb : Nat) (w : World) (ha : SRep w ba oa la) (hb : SRep w bb ob lb) (hk : la.map osKey = lb.map osKey) (hl : la.length ≤ 1048576) (hsl : ∀ o ∈ la, o.slots.length ≤ 8192) :
    Calls Tryd.prog 19 #[.agg #[.int .i64 (x : Int), .int .i64 (y : Int), .int .i64 (z : Int), oa], .agg #[.int .i64 (x : Int), .int .i64 (y : Int), .int .i64 (z : Int), ob]] w fun e w' => e = .returned (.bool true) ∧ Fr [] w w' := by
  have hll : lb.length = la.length := by have := congrArg List.length hk; simpa using this.symm
  have hsb : ∀ o ∈ lb, o.slots.length ≤ 8192 := fun o ho => by
    have h1 : osKey o ∈ la.map osKey := by rw [hk]; exact List.mem_map_of_mem ho
    obtain ⟨u, hu, he⟩ := List.mem_map.1 h1
    have e2 : u.slots = o.slots := by simp only [osKey, Prod.mk.injEq] at he; exact he.2.2.2
    rw [← e2]; exact hsl u hu
  refine sameState_at x y z oa ob (la.map toOI) (lb.map toOI) w (ha.sat (by omega) (fun o ho => by have := hsl o ho; omega)) (hb.sat (by omega) (fun o ho => by have := hsb o ho; omega)) ?_
  have e : oiKey ∘ toOI = (fun k : Nat × Int × Nat × List Int => ((k.1 : Int), k.2.1, (k.2.2.1 : Int), k.2.2.2)) ∘ osKey := rfl
  rw [List.map_map, List.map_map, e, ← List.map_map, ← List.map_map, hk]
end Go.Proofs.YtdkbnnhcjaibdaaDoor

namespace Go.Proofs.YtdkbnnhcjaibdaaDoor
open Go.RowKit
set_option linter.unusedVariables false
attribute [local go_sem ↓] Go.wp_at_zero Go.wp_at_succ
end Go.Proofs.YtdkbnnhcjaibdaaDoor

namespace Go.Proofs.YtdkbnnhcjaibdaaDoor
open Go.RowKit
set_option linter.unusedVariables false
attribute [local go_sem ↓] Go.wp_at_zero Go.wp_at_succ
end Go.Proofs.YtdkbnnhcjaibdaaDoor

namespace Go.Proofs.YtdkbnnhcjaibdaaDoor
open Go.RowKit
set_option linter.unusedVariables false
attribute [local go_sem ↓] Go.wp_at_zero Go.wp_at_succ
/-- an object as a value -/
def oiV (o : OI) : Value := .agg #[.int .i64 o.oop, .int .i64 o.cls, .int .i64 o.fmt, o.v]
def noV : Value := .agg #[.int .i64 0, .int .i64 0, .int .i64 0, .slice none 0 0]
/-- what at tells -/
def atR (l : List OI) (z : Int) : Value := match l.find? (fun o => decide (o.oop = z)) with | some o => .tuple #[oiV o, .bool true] | none => .tuple #[noV, .bool false]
theorem find_take {l : List OI} {z : Int} {k : Nat} {o : OI} (hk : l[k]? = some o) (hz : o.oop = z) (hn : ∀ x ∈ l.take k, x.oop ≠ z) : l.find? (fun o => decide (o.oop = z)) = some o := by
  have hlt : k < l.length := (List.getElem?_eq_some_iff.1 hk).1
  have e : l = l.take k ++ o :: l.drop (k + 1) := by
    have h1 := List.take_append_drop k l
    have h2 : l.drop k = o :: l.drop (k + 1) := by
      rw [List.drop_eq_getElem_cons hlt]
      congr 1
      have := List.getElem?_eq_some_iff.1 hk
      exact this.2
    rw [h2] at h1
    exact h1.symm
  rw [e, List.find?_append]
  rw [List.find?_eq_none.2 (fun x hx => by simpa using hn x hx)]
  simp [hz]
set_option maxRecDepth 20000 in
set_option maxHeartbeats 2000000 in
theorem at_ok (l : List OI) (z x1 x2 x3 : Int) (ov : Value) (w : World) (ha : SAt w ov l) :
    Calls Tryd.prog 34 #[.agg #[.int .i64 x1, .int .i64 x2, .int .i64 x3, ov], .int .i64 z] w fun e w' =>
      e = .returned (atR l z) ∧ Fr [] w w' := by
  have HS := mkHid ha
  obtain ⟨pa, ca, rfl, hpa⟩ := ha.at_
  have hl := ha.short
  clear ha hpa
  go_enter Tryd.func34, Tryd.ntmps34
  go_wp2_with fail
  obtain ⟨V, hV⟩ : ∃ V, (w.alloc (.cells #[.int .i64 x1, .int .i64 x2, .int .i64 x3, .slice pa l.length ca] 45)).alloc (.cells #[.int .i64 0, .int .i64 0, .int .i64 0, .slice none 0 0] 76) = V := ⟨_, rfl⟩
  rw [hV]
  have hfV : Fr [] w V := by rw [← hV]; exact (Fr.alloc [] _ _).trans (Fr.alloc [] _ _) (by simp)
  have hb1 : V.heap[w.heap.size]? = some (.cells #[.int .i64 x1, .int .i64 x2, .int .i64 x3, .slice pa l.length ca] 45 (0, 0)) := by
    rw [← hV, Below.heap_alloc _ _ _ (by simp)]; exact heap_alloc_new _ _
  have hb2 : V.heap[w.heap.size + 1]? = some (.cells #[.int .i64 0, .int .i64 0, .int .i64 0, .slice none 0 0] 76 (0, 0)) := by
    rw [← hV]
    have := heap_alloc_new (w.alloc (.cells #[.int .i64 x1, .int .i64 x2, .int .i64 x3, .slice pa l.length ca] 45)) (.cells #[.int .i64 0, .int .i64 0, .int .i64 0, .slice none 0 0] 76)
    simpa using this
  have c3 : V.cell? ⟨w.heap.size, 3, none⟩ = some (.slice pa l.length ca) := by rw [cell_in hb1]; rfl
  have d0 : V.cell? ⟨w.heap.size + 1, 0, none⟩ = some (.int .i64 0) := by rw [cell_in hb2]; rfl
  have d1 : V.cell? ⟨w.heap.size + 1, 1, none⟩ = some (.int .i64 0) := by rw [cell_in hb2]; rfl
  have d2 : V.cell? ⟨w.heap.size + 1, 2, none⟩ = some (.int .i64 0) := by rw [cell_in hb2]; rfl
  have d3 : V.cell? ⟨w.heap.size + 1, 3, none⟩ = some (.slice none 0 0) := by rw [cell_in hb2]; rfl
  have f0 : V.frozen? ⟨w.heap.size + 1, 0, none⟩ = false := frozen_in hb2 0
  have f1 : V.frozen? ⟨w.heap.size + 1, 1, none⟩ = false := frozen_in hb2 1
  have f2 : V.frozen? ⟨w.heap.size + 1, 2, none⟩ = false := frozen_in hb2 2
  have f3 : V.frozen? ⟨w.heap.size + 1, 3, none⟩ = false := frozen_in hb2 3
  obtain ⟨pa', ca', ep, hat⟩ := (HS.out.idle hfV).at_
  cases ep
  have HSl := mkHid (HS.out.idle hfV).slots
  have HA := mkHid hat
  have HF := mkHid hfV
  have HB := mkHid hb2
  clear hat hfV hV HS hb1 hb2
  go_loopw [6] (fun q wr => ∃ k : Nat, k ≤ l.length ∧ q = .int .i64 k ∧ wr = V ∧ Hid (∀ x ∈ l.take k, x.oop ≠ z)) (fun q _ => l.length - (intOf q).toNat)
  case atStart => exact ⟨0, Nat.zero_le _, rfl, rfl, mkHid (by simp)⟩
  case round =>
    obtain ⟨k, hkn, rfl, rfl, HZ⟩ := hrel
    by_cases hlt : k < l.length
    · obtain ⟨ga, oa, rfl, hca⟩ := HA.out (by omega)
      obtain ⟨o, ho, o0, o1, o2, o3⟩ := hca k hlt
      have k1 : (0 : Int) ≤ (k : Int) := by omega
      have k2 : (k : Int) < (l.length : Int) := by omega
      have HO := mkHid ho
      clear hca HA ho
      by_cases he : o.oop = z
      · have HFi := mkHid (find_take HO.out he HZ.out)
        obtain ⟨pv, cv, ev, _⟩ := (HSl.out o (List.mem_of_getElem? HO.out)).at_
        clear HZ HO
        subst he
        have HFv : Hid (atR l o.oop = .tuple #[.agg #[.int .i64 o.oop, .int .i64 o.cls, .int .i64 o.fmt, .slice pv o.slots.length cv], .bool true]) := by
          show atR l o.oop = _
          unfold atR
          rw [HFi.out, ← ev]; rfl
        rw [ev] at o3
        clear HFi ev
        go_wp2_with fail
        obtain ⟨U, hU⟩ : ∃ U, U = (((wr.setCell ⟨w.heap.size + 1, 0, none⟩ (.int .i64 o.oop)).setCell ⟨w.heap.size + 1, 1, none⟩ (.int .i64 o.cls)).setCell ⟨w.heap.size + 1, 2, none⟩ (.int .i64 o.fmt)).setCell ⟨w.heap.size + 1, 3, none⟩ (.slice pv o.slots.length cv) := ⟨_, rfl⟩
        have hUb : U.heap[w.heap.size + 1]? = some (.cells #[.int .i64 o.oop, .int .i64 o.cls, .int .i64 o.fmt, .slice pv o.slots.length cv] 76 (0, 0)) := by
          rw [hU, set_in (set_in (set_in (set_in HB.out 0 _) 1 _) 2 _) 3 _]
          rfl
        have F : Fr [w.heap.size + 1] wr U := by
          rw [hU]
          exact (((Fr.setCell (S := [w.heap.size + 1]) wr ⟨w.heap.size + 1, 0, none⟩ (.int .i64 o.oop) (by simp)).trans (Fr.setCell (S := [w.heap.size + 1]) _ ⟨w.heap.size + 1, 1, none⟩ (.int .i64 o.cls) (by simp)) (fun b hb => .inl hb)).trans (Fr.setCell (S := [w.heap.size + 1]) _ ⟨w.heap.size + 1, 2, none⟩ (.int .i64 o.fmt) (by simp)) (fun b hb => .inl hb)).trans (Fr.setCell (S := [w.heap.size + 1]) _ ⟨w.heap.size + 1, 3, none⟩ (.slice pv o.slots.length cv) (by simp)) (fun b hb => .inl hb)
        rw [← hU]
        clear hU
        have y0 : U.cell? ⟨w.heap.size + 1, 0, none⟩ = some (.int .i64 o.oop) := by rw [cell_in hUb]; rfl
        have y1 : U.cell? ⟨w.heap.size + 1, 1, none⟩ = some (.int .i64 o.cls) := by rw [cell_in hUb]; rfl
        have y2 : U.cell? ⟨w.heap.size + 1, 2, none⟩ = some (.int .i64 o.fmt) := by rw [cell_in hUb]; rfl
        have y3 : U.cell? ⟨w.heap.size + 1, 3, none⟩ = some (.slice pv o.slots.length cv) := by rw [cell_in hUb]; rfl
        refine bodyPost_ret (v := .tuple #[.agg #[.int .i64 o.oop, .int .i64 o.cls, .int .i64 o.fmt, .slice pv o.slots.length cv], .bool true]) (by simp [results, Tryd.results34, go_sem, y0, y1, y2, y3]) rfl ?_
        exact ⟨by rw [HFv.out], HF.out.trans F (fun b hb => .inr (by simp at hb; omega))⟩
      · have hb : (o.oop == z) = false := by simpa using he
        have HN : Hid (∀ x ∈ l.take (k + 1), x.oop ≠ z) := by
          show ∀ x ∈ l.take (k + 1), x.oop ≠ z
          intro x hx
          rw [List.take_add_one, HO.out] at hx
          rcases List.mem_append.1 hx with h1 | h1
          · exact HZ.out x h1
          · have : x = o := by simpa using h1
            rw [this]; exact he
        clear HO HZ he
        go_wp2_with fail
        go_roundw
        case rel => exact ⟨k + 1, by omega, by go_num, trivial, HN⟩
        case measure => simp [intOf]; omega
    · have hke : k = l.length := by omega
      subst hke
      have HD : Hid (l.find? (fun o => decide (o.oop = z)) = none) := List.find?_eq_none.2 (fun x hx => by have := HZ.out; rw [List.take_length] at this; simpa using this x hx)
      have HFv : Hid (atR l z = .tuple #[.agg #[.int .i64 0, .int .i64 0, .int .i64 0, .slice none 0 0], .bool false]) := by
        show atR l z = _
        unfold atR
        rw [HD.out]; rfl
      clear HZ HD
      go_wp2_with fail
      obtain ⟨U, hU⟩ : ∃ U, U = (((wr.setCell ⟨w.heap.size + 1, 0, none⟩ (.int .i64 0)).setCell ⟨w.heap.size + 1, 1, none⟩ (.int .i64 0)).setCell ⟨w.heap.size + 1, 2, none⟩ (.int .i64 0)).setCell ⟨w.heap.size + 1, 3, none⟩ (.slice none 0 0) := ⟨_, rfl⟩
      have hUb : U.heap[w.heap.size + 1]? = some (.cells #[.int .i64 0, .int .i64 0, .int .i64 0, .slice none 0 0] 76 (0, 0)) := by
        rw [hU, set_in (set_in (set_in (set_in HB.out 0 _) 1 _) 2 _) 3 _]
        rfl
      have F : Fr [w.heap.size + 1] wr U := by
        rw [hU]
        exact (((Fr.setCell (S := [w.heap.size + 1]) wr ⟨w.heap.size + 1, 0, none⟩ (.int .i64 0) (by simp)).trans (Fr.setCell (S := [w.heap.size + 1]) _ ⟨w.heap.size + 1, 1, none⟩ (.int .i64 0) (by simp)) (fun b hb => .inl hb)).trans (Fr.setCell (S := [w.heap.size + 1]) _ ⟨w.heap.size + 1, 2, none⟩ (.int .i64 0) (by simp)) (fun b hb => .inl hb)).trans (Fr.setCell (S := [w.heap.size + 1]) _ ⟨w.heap.size + 1, 3, none⟩ (.slice none 0 0) (by simp)) (fun b hb => .inl hb)
      rw [← hU]
      clear hU
      have y0 : U.cell? ⟨w.heap.size + 1, 0, none⟩ = some (.int .i64 0) := by rw [cell_in hUb]; rfl
      have y1 : U.cell? ⟨w.heap.size + 1, 1, none⟩ = some (.int .i64 0) := by rw [cell_in hUb]; rfl
      have y2 : U.cell? ⟨w.heap.size + 1, 2, none⟩ = some (.int .i64 0) := by rw [cell_in hUb]; rfl
      have y3 : U.cell? ⟨w.heap.size + 1, 3, none⟩ = some (.slice none 0 0) := by rw [cell_in hUb]; rfl
      refine bodyPost_ret (v := .tuple #[.agg #[.int .i64 0, .int .i64 0, .int .i64 0, .slice none 0 0], .bool false]) (by simp [results, Tryd.results34, go_sem, y0, y1, y2, y3]) rfl ?_
      exact ⟨by rw [HFv.out], HF.out.trans F (fun b hb => .inr (by simp at hb; omega))⟩
end Go.Proofs.YtdkbnnhcjaibdaaDoor

namespace Go.Proofs.YtdkbnnhcjaibdaaDoor
open Go.RowKit
set_option linter.unusedVariables false
attribute [local go_sem ↓] Go.wp_at_zero Go.wp_at_succ
/-- the law's names -/
def namesS (l : List OI) (z : Int) : Bool := decide (4 ≤ z ∧ z % 4 = 0 ∧ z ≤ 262144) && (l.find? (fun o => decide (o.oop = z / 4))).isSome
end Go.Proofs.YtdkbnnhcjaibdaaDoor

namespace Go.Proofs.YtdkbnnhcjaibdaaDoor
open Go.RowKit
set_option linter.unusedVariables false
attribute [local go_sem ↓] Go.wp_at_zero Go.wp_at_succ
end Go.Proofs.YtdkbnnhcjaibdaaDoor

namespace Go.Proofs.YtdkbnnhcjaibdaaDoor
open Go.RowKit
set_option linter.unusedVariables false
attribute [local go_sem ↓] Go.wp_at_zero Go.wp_at_succ
def th5 (t : Th) : List Value := [.bool t.there, .int .i64 t.cls, I t.fmt, I t.place, .slice t.p t.slots.length t.c]
theorem thCells_cons (s : Th) (S : List Th) : thCells (s :: S) = th5 s ++ thCells S := by simp [thCells, th5]
theorem th5_len (t : Th) : (th5 t).length = 5 := rfl
theorem thCells_get (S : List Th) : ∀ i, (thCells S)[i]? = (S[i / 5]?).bind fun t => (th5 t)[i % 5]? := by
  induction S with
  | nil => intro i; simp [thCells]
  | cons s S ih =>
    intro i
    rw [thCells_cons]
    by_cases h : i < 5
    · rw [List.getElem?_append_left (by rw [th5_len]; exact h), show i / 5 = 0 from by omega, show i % 5 = i from by omega]; rfl
    · rw [List.getElem?_append_right (by rw [th5_len]; omega), ih, th5_len, show i / 5 = (i - 5) / 5 + 1 from by omega, show (i - 5) % 5 = i % 5 from by omega]
      rfl
theorem thCells_set1 (S : List Th) (k j : Nat) (v : Value) (t' : Th) (hk : k < S.length) (hj : j < 5) (h5 : th5 t' = (th5 (S.getD k noTh)).set j v) : thCells (S.set k t') = (thCells S).set (k * 5 + j) v := by
  apply List.ext_getElem?
  intro i
  rw [thCells_get, List.getElem?_set, List.getElem?_set, thCells_len]
  by_cases h1 : i / 5 = k
  · rw [if_pos h1.symm, if_pos (by omega)]
    simp only [Option.bind_some]
    rw [h5, List.getElem?_set]
    by_cases h2 : j = i % 5
    · rw [if_pos h2, if_pos (by rw [th5_len]; exact hj), if_pos (by omega), if_pos (by omega)]
    · rw [if_neg h2, if_neg (by omega), thCells_get, h1, List.getD_eq_getElem?_getD, List.getElem?_eq_getElem hk]
      rfl
  · rw [if_neg (fun e => h1 e.symm), if_neg (by omega), thCells_get]
theorem getD_set (S : List Th) (k i : Nat) (t : Th) (hk : k < S.length) : (S.set k t).getD i noTh = if i = k then t else S.getD i noTh := by
  rw [List.getD_eq_getElem?_getD, List.getD_eq_getElem?_getD, List.getElem?_set]
  by_cases h : k = i
  · rw [if_pos h, if_pos h.symm, if_pos (by omega)]; rfl
  · rw [if_neg h, if_neg (fun e => h e.symm)]
theorem getD_mem (S : List Th) (k : Nat) (hk : k < S.length) : S.getD k noTh ∈ S := by
  rw [List.getD_eq_getElem?_getD, List.getElem?_eq_getElem hk]; exact List.getElem_mem hk
theorem mem_set {S : List Th} {k : Nat} {t u : Th} (h : u ∈ S.set k t) : u = t ∨ u ∈ S := by
  rcases List.mem_or_eq_of_mem_set h with h | h
  · exact .inr h
  · exact .inl h
/-- the things' block is neither the model's nor one of the slots' -/
theorem MRep.pt_ne {w : World} {m : Nat} {M : MS} {g : Nat} (h : MRep w m M) (hg : M.pt = some ⟨g, 0, none⟩) : g ≠ m ∧ g ∉ mslots M := by
  obtain ⟨c, hc⟩ := own_blk h.row g (by rw [hg]; simp [blk])
  refine ⟨fun e => ?_, fun hm => ?_⟩
  · have ht := h.top
    rw [← e, hc] at ht
    simp at ht
  · obtain ⟨t, ht, hb⟩ := List.mem_flatMap.1 hm
    obtain ⟨c2, hc2⟩ := own_blk (h.slots t ht) g hb
    rw [hc] at hc2
    simp at hc2
/-- one cell of a thing is written, its slots lie where they lay -/
theorem MRep.set1 {w : World} {m : Nat} {M : MS} {g : Nat} (h : MRep w m M) (hg : M.pt = some ⟨g, 0, none⟩) (k j : Nat) (v : Value) (t' : Th) (hk : k < M.things.length) (hj : j < 5)
    (h5 : th5 t' = (th5 (M.things.getD k noTh)).set j v) (hp : t'.p = (M.things.getD k noTh).p) (hc : t'.c = (M.things.getD k noTh).c) (hs : t'.slots = (M.things.getD k noTh).slots) :
    MRep (w.setCell ⟨g, k * 5 + j, none⟩ v) m { M with things := M.things.set k t' } := by
  obtain ⟨n1, n2⟩ := h.pt_ne hg
  have hel : ∀ i, i ≠ g → (w.setCell ⟨g, k * 5 + j, none⟩ v).heap[i]? = w.heap[i]? := fun i hi => set_else hi
  have hrow := h.row
  rw [hg] at hrow
  have hr2 := own_stored hrow (k * 5 + j) v
  rw [← thCells_set1 M.things k j v t' hk hj h5] at hr2
  refine ⟨?_, ?_, ?_, ?_⟩
  · rw [hel m (fun e => n1 e.symm)]
    have := h.top
    simpa [mcells] using this
  · show (w.setCell ⟨g, k * 5 + j, none⟩ v).ownsRow 0 116 5 (.slice M.pt (M.things.set k t').length M.ct) (M.things.set k t').length (thCells (M.things.set k t'))
    rw [List.length_set, hg]
    exact hr2
  · intro t ht
    have hold : ∃ u ∈ M.things, u.p = t.p ∧ u.c = t.c ∧ u.slots = t.slots := by
      rcases mem_set ht with rfl | h2
      · exact ⟨_, getD_mem M.things k hk, hp.symm, hc.symm, hs.symm⟩
      · exact ⟨t, h2, rfl, rfl, rfl⟩
    obtain ⟨u, hu, u1, u2, u3⟩ := hold
    have := h.slots u hu
    rw [u1, u2, u3] at this
    refine own_congr this fun b hb => hel b (fun e => n2 ?_)
    rw [← e]
    exact mslots_mem hu (by rw [u1]; exact (blk_own _ _ _ _).1 hb)
  · intro i i' hi hi' hne b hb
    simp only [List.length_set] at hi hi'
    have e : ∀ x, ((M.things.set k t').getD x noTh).p = (M.things.getD x noTh).p := fun x => by
      rw [getD_set M.things k x t' hk]
      split
      · rename_i hx; rw [hx, hp]
      · rfl
    simp only [e] at hb ⊢
    exact h.apart i i' hi hi' hne b hb
end Go.Proofs.YtdkbnnhcjaibdaaDoor

namespace Go.Proofs.YtdkbnnhcjaibdaaDoor
open Go.RowKit
set_option linter.unusedVariables false
attribute [local go_sem ↓] Go.wp_at_zero Go.wp_at_succ
/-- the first thing of the first i that lies lowest, of those that lie at A or above -/
def pickTo (S : List Th) (A : Nat) : Nat → Option Nat
  | 0 => none
  | i + 1 => match pickTo S A i with
    | none => if (S.getD i noTh).there = true ∧ A ≤ (S.getD i noTh).place then some i else none
    | some b => if (S.getD i noTh).there = true ∧ A ≤ (S.getD i noTh).place ∧ (S.getD i noTh).place < (S.getD b noTh).place then some i else some b
theorem pickTo_none (S : List Th) (A i : Nat) (h : pickTo S A i = none) : pickTo S A (i + 1) = if (S.getD i noTh).there = true ∧ A ≤ (S.getD i noTh).place then some i else none := by
  conv => lhs; unfold pickTo
  rw [h]
theorem pickTo_some (S : List Th) (A i b : Nat) (h : pickTo S A i = some b) : pickTo S A (i + 1) = if (S.getD i noTh).there = true ∧ A ≤ (S.getD i noTh).place ∧ (S.getD i noTh).place < (S.getD b noTh).place then some i else some b := by
  conv => lhs; unfold pickTo
  rw [h]
theorem pickTo_lt (S : List Th) (A : Nat) : ∀ i b, pickTo S A i = some b → b < i ∧ (S.getD b noTh).there = true ∧ A ≤ (S.getD b noTh).place := by
  intro i
  induction i with
  | zero => intro b h; simp [pickTo] at h
  | succ i ih =>
    intro b h
    cases hp : pickTo S A i with
    | none =>
      rw [pickTo_none S A i hp] at h
      split at h
      · rename_i hc; injection h with h; subst h; exact ⟨by omega, hc⟩
      · simp at h
    | some c =>
      rw [pickTo_some S A i c hp] at h
      split at h
      · rename_i hc; injection h with h; subst h; exact ⟨by omega, hc.1, hc.2.1⟩
      · injection h with h; subst h
        have := ih _ hp
        exact ⟨by omega, this.2⟩
def pv : Option Nat → Int
  | none => -1
  | some b => b
def placed (t : Th) (A : Nat) : Th := { t with place := A }
/-- n of them slide, from A on -/
def slidN (S : List Th) (A : Nat) : Nat → List Th
  | 0 => S
  | n + 1 => match pickTo S A S.length with
    | none => S
    | some k => slidN (S.set k (placed (S.getD k noTh) A)) (A + lenN (S.getD k noTh).slots.length (S.getD k noTh).fmt) n
theorem slidN_none (S : List Th) (A n : Nat) (h : pickTo S A S.length = none) : slidN S A (n + 1) = S := by conv => lhs; unfold slidN; rw [h]
theorem slidN_some (S : List Th) (A n k : Nat) (h : pickTo S A S.length = some k) : slidN S A (n + 1) = slidN (S.set k (placed (S.getD k noTh) A)) (A + lenN (S.getD k noTh).slots.length (S.getD k noTh).fmt) n := by
  conv => lhs; unfold slidN
  rw [h]
/-- two lists of things that differ in their places alone -/
structure Alike (S T : List Th) : Prop where
  len : S.length = T.length
  at_ : ∀ i, (S.getD i noTh).there = (T.getD i noTh).there ∧ (S.getD i noTh).slots = (T.getD i noTh).slots ∧ (S.getD i noTh).fmt = (T.getD i noTh).fmt ∧ (S.getD i noTh).cls = (T.getD i noTh).cls ∧ (S.getD i noTh).p = (T.getD i noTh).p ∧ (S.getD i noTh).c = (T.getD i noTh).c
theorem Alike.refl (S : List Th) : Alike S S := ⟨rfl, fun _ => ⟨rfl, rfl, rfl, rfl, rfl, rfl⟩⟩
theorem Alike.place {S T : List Th} (h : Alike S T) (k A : Nat) (hk : k < S.length) : Alike (S.set k (placed (S.getD k noTh) A)) T := by
  refine ⟨by rw [List.length_set]; exact h.len, fun i => ?_⟩
  rw [getD_set S k i _ hk]
  split
  · rename_i e; subst e; exact h.at_ i
  · exact h.at_ i
theorem Alike.there {S T : List Th} (h : Alike S T) : ∀ k, k ≤ S.length → thereTo S k = thereTo T k := by
  intro k
  induction k with
  | zero => intro _; rfl
  | succ k ih =>
    intro hk
    rw [thereTo_succ S k (by omega), thereTo_succ T k (by have := h.len; omega), ih (by omega), (h.at_ k).1]
set_option maxRecDepth 20000 in
set_option maxHeartbeats 4000000 in
theorem slid_ok (m : Nat) (M : MS) (w : World) (h : MRep w m M) (hlen : (M.things.length : Int) ≤ 65538) (hsl : ∀ k, k < M.things.length → ((M.things.getD k noTh).slots.length : Int) ≤ 8192) :
    Calls Tryd.prog 16 #[.pointer (some ⟨m, 0, none⟩)] w fun e w' => e = .returned (.tuple #[]) ∧ MRep w' m { M with things := slidN M.things 0 (thereTo M.things M.things.length) } ∧ Fr (blk M.pt) w w' := by
  have hTl := thereTo_le M.things M.things.length
  have HM := mkHid h
  have HSl := mkHid hsl
  clear h hsl
  generalize hT : thereTo M.things M.things.length = T at *
  have HT := mkHid hT
  clear hT
  go_enter Tryd.func16, Tryd.ntmps16
  go_wp2
  go_loopw [2, 3] (fun x q wr => ∃ (n A : Nat) (S : List Th), n ≤ T ∧ q = .int .i64 n ∧ x = .int .i64 A ∧ A ≤ n * 8194 ∧ Hid (Alike S M.things ∧ MRep wr m { M with things := S } ∧ Fr (blk M.pt) w wr ∧ slidN M.things 0 T = slidN S A (T - n))) (fun _ q _ => T - (intOf q).toNat)
  case atStart => exact ⟨0, 0, M.things, Nat.zero_le _, rfl, rfl, by omega, Alike.refl _, HM.out, Fr.refl _ _, rfl⟩
  case round =>
    obtain ⟨n, A, S, hn, rfl, rfl, hA, hq⟩ := hrel
    obtain ⟨wo, hwo⟩ : ∃ wo, wo = wr := ⟨_, rfl⟩
    subst hwo
    obtain ⟨hal, hmr, hfr, hsd⟩ := hq.out
    clear hq
    have hSl := hal.len
    have hth := there_ok m _ wo hmr (by show (S.length : Int) ≤ 65538; omega)
    have e1 : thereTo S S.length = T := by rw [hal.there _ (Nat.le_refl _), hal.len]; exact HT.out
    have hth2 : Calls Tryd.prog 66 #[.pointer (some ⟨m, 0, none⟩)] wo fun e w' => e = .returned (.int .i64 (T : Nat)) ∧ w' = wo := by rw [← e1]; exact hth
    have HTh := mkHid hth2
    have HMr := mkHid hmr
    have HAl := mkHid hal
    have HFr := mkHid hfr
    have HSd := mkHid hsd
    have HSL := mkHid hSl
    have hS5 : (S.length : Int) ≤ 65538 := by omega
    clear hth hth2 hmr hal hfr hsd e1 hSl
    by_cases hlt : n < T
    · have n1 : (n : Int) < (T : Int) := by omega
      have hml := HMr.out.lt m (by simp [mfoot])
      go_wp2_with (go_at_call 66; refine HTh.out.mono ?_; rintro e w1 ⟨rfl, hw1⟩; rw [hw1]; clear hw1 w1)
      go_loopw [4, 5] (fun x q W => ∃ i : Nat, i ≤ S.length ∧ q = .int .i64 i ∧ x = .int .i64 (pv (pickTo S A i)) ∧ Hid (Fr [] wo W)) (fun _ q _ => S.length - (intOf q).toNat)
      case atStart => exact ⟨0, Nat.zero_le _, rfl, rfl, Fr.refl _ _⟩
      case round =>
        obtain ⟨i, hi, rfl, rfl, hfi⟩ := hrel
        have hmi := HMr.out.keep hfi.out (by simp)
        have hmw := hmi.lt m (by simp [mfoot])
        have c3 := hmi.c3
        dsimp only at c3
        by_cases hil : i < S.length
        · obtain ⟨g, hg, hc, hf, hgl⟩ := hmi.thAt (by show 0 < S.length; omega)
          dsimp only at hg hc
          obtain ⟨q0, q1, q2, q3, q4⟩ := hc i hil
          rw [hg] at c3
          simp only [I] at q2 q3
          have k1 : (0 : Int) ≤ (i : Int) := by omega
          have k2 : (i : Int) < (S.length : Int) := by omega
          have HC := mkHid hc
          clear hmi hc hf hg HTh
          cases hpk : pickTo S A i with
          | none =>
            have HP := mkHid (pickTo_none S A i hpk)
            clear HC hpk
            generalize S.getD i noTh = t at *
            obtain ⟨th, tcl, fm, pl, sl, tp, tc⟩ := t
            dsimp only at *
            generalize sl.length = sn at *
            have HFA : Hid (∀ nq, Fr [] wo ((wr.alloc (.cells #[.bool th, .int .i64 tcl, .int .i64 fm, .int .i64 pl, .slice tp sn tc] 116)).drewN nq)) := fun nq => (hfi.out.trans (Fr.alloc [] _ _) (by simp)).trans (Fr.drewN [] _ _) (by simp)
            simp only [show pv none = -1 from rfl]
            cases th with
            | false =>
              have HP2 : Hid (pv (pickTo S A (i + 1)) = -1) := by show pv (pickTo S A (i + 1)) = -1; rw [HP.out, if_neg (by simp)]; rfl
              clear HP
              go_wp2
              go_quiet (fail)
              go_wp2
              go_roundw
              case rel => exact ⟨i + 1, by omega, by go_num, by rw [HP2.out], HFA.out _⟩
              case measure => simp [intOf]; omega
            | true =>
              by_cases hpa : A ≤ pl
              · have HP2 : Hid (pv (pickTo S A (i + 1)) = i) := by show pv (pickTo S A (i + 1)) = i; rw [HP.out, if_pos ⟨rfl, hpa⟩]; rfl
                have z1 : (A : Int) ≤ (pl : Int) := by omega
                clear HP
                go_wp2
                go_quiet (fail)
                go_wp2
                go_roundw
                case rel => exact ⟨i + 1, by omega, by go_num, by rw [HP2.out], HFA.out _⟩
                case measure => simp [intOf]; omega
              · have HP2 : Hid (pv (pickTo S A (i + 1)) = -1) := by show pv (pickTo S A (i + 1)) = -1; rw [HP.out, if_neg (by simp; omega)]; rfl
                have z1 : decide ((A : Int) ≤ (pl : Int)) = false := decide_eq_false (by omega)
                clear HP
                go_wp2
                go_quiet (fail)
                go_wp2
                go_roundw
                case rel => exact ⟨i + 1, by omega, by go_num, by rw [HP2.out], HFA.out _⟩
                case measure => simp [intOf]; omega
          | some b =>
            have HP := mkHid (pickTo_some S A i b hpk)
            obtain ⟨b1, b2, b3⟩ := pickTo_lt S A i b hpk
            obtain ⟨_, _, _, y3, _⟩ := HC.out b (by omega)
            simp only [I] at y3
            have k3 : (0 : Int) ≤ (b : Int) := by omega
            have k4 : (b : Int) < (S.length : Int) := by omega
            have k5 : decide ((b : Int) < 0) = false := decide_eq_false (by omega)
            clear HC hpk b2 b3
            generalize (S.getD b noTh).place = pb at *
            generalize S.getD i noTh = t at *
            obtain ⟨th, tcl, fm, pl, sl, tp, tc⟩ := t
            dsimp only at *
            generalize sl.length = sn at *
            have HFA : Hid (∀ nq, Fr [] wo ((wr.alloc (.cells #[.bool th, .int .i64 tcl, .int .i64 fm, .int .i64 pl, .slice tp sn tc] 116)).drewN nq)) := fun nq => (hfi.out.trans (Fr.alloc [] _ _) (by simp)).trans (Fr.drewN [] _ _) (by simp)
            simp only [show pv (some b) = (b : Int) from rfl]
            cases th with
            | false =>
              have HP2 : Hid (pv (pickTo S A (i + 1)) = b) := by show pv (pickTo S A (i + 1)) = b; rw [HP.out, if_neg (by simp)]; rfl
              clear HP
              go_wp2
              go_quiet (fail)
              go_wp2
              go_roundw
              case rel => exact ⟨i + 1, by omega, by go_num, by rw [HP2.out], HFA.out _⟩
              case measure => simp [intOf]; omega
            | true =>
              by_cases hpa : A ≤ pl
              · have z1 : (A : Int) ≤ (pl : Int) := by omega
                by_cases hpb : pl < pb
                · have HP2 : Hid (pv (pickTo S A (i + 1)) = i) := by show pv (pickTo S A (i + 1)) = i; rw [HP.out, if_pos ⟨rfl, hpa, hpb⟩]; rfl
                  have z2 : (pl : Int) < (pb : Int) := by omega
                  clear HP
                  go_wp2
                  go_quiet (fail)
                  go_wp2
                  go_roundw
                  case rel => exact ⟨i + 1, by omega, by go_num, by rw [HP2.out], HFA.out _⟩
                  case measure => simp [intOf]; omega
                · have HP2 : Hid (pv (pickTo S A (i + 1)) = b) := by show pv (pickTo S A (i + 1)) = b; rw [HP.out, if_neg (by simp; omega)]; rfl
                  have z2 : decide ((pl : Int) < (pb : Int)) = false := decide_eq_false (by omega)
                  clear HP
                  go_wp2
                  go_quiet (fail)
                  go_wp2
                  go_roundw
                  case rel => exact ⟨i + 1, by omega, by go_num, by rw [HP2.out], HFA.out _⟩
                  case measure => simp [intOf]; omega
              · have HP2 : Hid (pv (pickTo S A (i + 1)) = b) := by show pv (pickTo S A (i + 1)) = b; rw [HP.out, if_neg (by simp; omega)]; rfl
                have z1 : decide ((A : Int) ≤ (pl : Int)) = false := decide_eq_false (by omega)
                clear HP
                go_wp2
                go_quiet (fail)
                go_wp2
                go_roundw
                case rel => exact ⟨i + 1, by omega, by go_num, by rw [HP2.out], HFA.out _⟩
                case measure => simp [intOf]; omega
        · have hie : i = S.length := by omega
          subst hie
          cases hpk : pickTo S A S.length with
          | none =>
            have HP := mkHid (slidN_none S A (T - (n + 1)) hpk)
            clear hpk
            simp only [show pv none = -1 from rfl]
            clear HTh
            go_wp2
            refine bodyPost_ret (v := .tuple #[]) (by simp [results, Tryd.results16, go_sem]) rfl ?_
            refine ⟨rfl, ?_, HFr.out.trans hfi.out (by simp)⟩
            rw [HSd.out, show T - n = T - (n + 1) + 1 from by omega, HP.out]
            exact hmi
          | some b =>
            have HP := mkHid (slidN_some S A (T - (n + 1)) b hpk)
            obtain ⟨b1, b2, b3⟩ := pickTo_lt S A _ b hpk
            obtain ⟨g, hg, hc, hf, hgl⟩ := hmi.thAt (by show 0 < S.length; omega)
            dsimp only at hg hc
            obtain ⟨y0, y1, y2, y3, y4⟩ := hc b (by omega)
            have k3 : (0 : Int) ≤ (b : Int) := by omega
            have k4 : (b : Int) < (S.length : Int) := by omega
            have k5 : decide ((b : Int) < 0) = false := decide_eq_false (by omega)
            simp only [show pv (some b) = (b : Int) from rfl]
            have hgm := (hmi.pt_ne hg).1
            have hfz := hf (b * 5 + 3)
            have hset := hmi.set1 hg b 3 (I A) (placed (S.getD b noTh) A) (by show b < S.length; omega) (by omega) rfl rfl rfl rfl
            have HAl2 := mkHid (HAl.out.place b A (by omega))
            have hslb := HSl.out b (by have := HSL.out; omega)
            rw [← (HAl.out.at_ b).2.1] at hslb
            have hLb := lenN_le (S.getD b noTh).slots.length (S.getD b noTh).fmt
            have HL := mkHid (refLen_any (S.getD b noTh).slots.length (S.getD b noTh).fmt)
            have hgp : g ∈ blk M.pt := by rw [hg]; simp [blk]
            have HFs := mkHid ((HFr.out.trans hfi.out (by simp)).trans (Fr.setCell (S := blk M.pt) wr ⟨g, b * 5 + 3, none⟩ (I A) hgp) (fun x hx => .inl hx))
            have d3 : (wr.setCell ⟨g, b * 5 + 3, none⟩ (I A)).cell? ⟨m, 3, none⟩ = some (.slice (some ⟨g, 0, none⟩) S.length M.ct) := by
              have := hset.c3
              dsimp only at this
              rw [List.length_set, hg] at this
              exact this
            have d2 : (wr.setCell ⟨g, b * 5 + 3, none⟩ (I A)).cell? ⟨g, b * 5 + 2, none⟩ = some (I (S.getD b noTh).fmt) ∧ (wr.setCell ⟨g, b * 5 + 3, none⟩ (I A)).cell? ⟨g, b * 5 + 4, none⟩ = some (.slice (S.getD b noTh).p (S.getD b noTh).slots.length (S.getD b noTh).c) := by
              obtain ⟨g', hg', hc', _, _⟩ := hset.thAt (by dsimp only; rw [List.length_set]; omega)
              dsimp only at hg' hc'
              have e : g' = g := by
                rw [hg] at hg'
                injection hg' with e
                injection e with e _ _
                exact e.symm
              subst e
              have := hc' b (by rw [List.length_set]; omega)
              rw [getD_set S b b _ (by omega), if_pos rfl] at this
              exact ⟨this.2.2.1, this.2.2.2.2⟩
            obtain ⟨d2, d4⟩ := d2
            have HSet := mkHid hset
            rw [hg] at c3
            simp only [I] at y2 y3 HFs HSet d2 d3 d4
            clear hset hpk b2 b3 hc hf HTh hgp hg
            generalize hLn : lenN (S.getD b noTh).slots.length (S.getD b noTh).fmt = L at *
            generalize hTb : S.getD b noTh = t at *
            obtain ⟨th, tcl, fm, pl, sl, tp, tc⟩ := t
            dsimp only at *
            generalize hsn : sl.length = sn at *
            clear hmi
            go_wp2
            generalize wr.setCell ⟨g, b * 5 + 3, none⟩ (.int .i64 (A : Int)) = W1 at *
            clear c3 y0 y1 y2 y3 y4
            go_quiet ((go_at_call 67; exact Calls.quiet_of_same (HL.out _ (by omega))))
            go_wp2
            go_roundw
            case rel =>
              refine ⟨n + 1, A + L, _, by omega, by go_num, by go_num, by omega, HAl2.out, HSet.out.congr fun _ _ => rfl, HFs.out.trans (Fr.drewN (blk M.pt) _ _) (fun x hx => .inl hx), ?_⟩
              rw [HSd.out, show T - n = T - (n + 1) + 1 from by omega, HP.out]
            case measure => simp [intOf]; omega
    · have hnT : n = T := by omega
      subst hnT
      have n1 : ¬ (n : Int) < (n : Int) := by omega
      go_wp2_with (go_at_call 66; refine HTh.out.mono ?_; rintro e w1 ⟨rfl, hw1⟩; rw [hw1]; clear hw1 w1)
      go_end0
      refine ⟨rfl, ?_, HFr.out⟩
      rw [HSd.out, Nat.sub_self]
      exact HMr.out
end Go.Proofs.YtdkbnnhcjaibdaaDoor

namespace Go.Proofs.YtdkbnnhcjaibdaaDoor
open Go.RowKit
set_option linter.unusedVariables false
attribute [local go_sem ↓] Go.wp_at_zero Go.wp_at_succ
def newX (f : Nat) : Int := if f = 1 then 0 else 4
def thObj (cl : Int) (f E : Nat) (v : Value) : Obj := .cells #[.bool true, .int .i64 cl, .int .i64 f, .int .i64 E, v] 116 (0, 0)
/-- the thing under way: its block is B, it has k slots -/
structure Way (w wr : World) (B : Nat) (cl : Int) (f E : Nat) (k : Nat) : Prop where
  fr : Fr [] w wr
  lt : w.heap.size ≤ B
  at_ : ∃ v, wr.heap[B]? = some (thObj cl f E v) ∧ wr.ownsRow (B + 1) 35 1 v k ((List.replicate k (newX f)).map (Value.int .i64))
theorem Way.next {w wr w2 : World} {B : Nat} {cl : Int} {f E k : Nat} {v v' : Value} {o : Obj} (h : Way w wr B cl f E k) (hv : wr.heap[B]? = some (thObj cl f E v)) (hown : wr.ownsRow (B + 1) 35 1 v k ((List.replicate k (newX f)).map (Value.int .i64)))
    (hg : (wr.alloc o).grownBy w2 v.ownBlock) (ho : w2.ownsRow (B + 1) 35 1 v' (k + 1) ((List.replicate k (newX f)).map (Value.int .i64) ++ [.int .i64 (newX f)])) : Way w (w2.setCell ⟨B, 4, none⟩ v') B cl f E (k + 1) := by
  have hBl := lt_of_heap hv
  have hob : ∀ b, v.ownBlock = some b → B + 1 ≤ b := fun b hb => (hown.lt b hb).1
  have hB2 : w2.heap[B]? = some (thObj cl f E v) := by
    rw [hg.block B (by simp; omega) (fun e => by have := hob B e.symm; omega), Below.heap_alloc _ _ _ hBl]
    exact hv
  have F2 : Fr [B] w w2 := by
    refine ⟨hg.os.trans h.fr.os, hg.tape.trans h.fr.tape, hg.output.trans h.fr.output, Nat.le_trans h.fr.size (Nat.le_trans (by simp) hg.size), fun i hi hn => ?_⟩
    have hiB : i < wr.heap.size := Nat.lt_of_lt_of_le hi h.fr.size
    rw [hg.block i (by simp; omega) (fun e => by have := hob i e.symm; have := h.lt; omega), Below.heap_alloc _ _ _ hiB]
    exact h.fr.block i hi (by simp)
  refine ⟨(F2.trans (Fr.setCell (S := [B]) w2 ⟨B, 4, none⟩ v' (by simp)) (fun b hb => .inl hb)).mono (fun b hb => ?_), h.lt, v', ?_, ?_⟩
  · simp at hb; subst hb; exact .inr h.lt
  · unfold thObj at hB2 ⊢
    rw [set_in hB2]
    rfl
  · have : (List.replicate (k + 1) (newX f)).map (Value.int .i64) = (List.replicate k (newX f)).map (Value.int .i64) ++ [.int .i64 (newX f)] := by
      rw [List.replicate_succ', List.map_append]; rfl
    rw [this]
    exact own_congr ho fun b hb => set_else (by have := (ho.lt b hb).1; omega)
end Go.Proofs.YtdkbnnhcjaibdaaDoor

namespace Go.Proofs.YtdkbnnhcjaibdaaDoor
open Go.RowKit
set_option linter.unusedVariables false
attribute [local go_sem ↓] Go.wp_at_zero Go.wp_at_succ
def putTh (S : List Th) (k : Nat) (t : Th) : List Th := if k < S.length then S.set k t else S ++ [t]
/-- one thing is new, the others are as they were -/
theorem MRep.renew {w w2 : World} {m : Nat} {M : MS} (h : MRep w m M) (S : List Th) (pt : Option Addr) (ct : Nat) (t : Th) (k : Nat) (hk : k < S.length)
    (hat : ∀ i, i < S.length → S.getD i noTh = if i = k then t else M.things.getD i noTh) (hlen : ∀ i, i < S.length → i ≠ k → i < M.things.length)
    (htop : w2.heap[m]? = some (.cells (mcells { M with things := S, pt := pt, ct := ct }) 33 (0, 0)))
    (hrow : w2.ownsRow 0 116 5 (.slice pt S.length ct) S.length (thCells S)) (hkeep : ∀ g ∈ mslots M, w2.heap[g]? = w.heap[g]?)
    (hnew : w2.ownsRow 0 35 1 (.slice t.p t.slots.length t.c) t.slots.length (t.slots.map (Value.int .i64))) (hap : ∀ g ∈ blk t.p, g ∉ mslots M) :
    MRep w2 m { M with things := S, pt := pt, ct := ct } := by
  refine ⟨htop, hrow, ?_, ?_⟩
  · intro u hu
    obtain ⟨i, hi, hiu⟩ := List.getElem_of_mem hu
    have e : S.getD i noTh = u := by rw [List.getD_eq_getElem?_getD, List.getElem?_eq_getElem hi, hiu]; rfl
    rw [hat i hi] at e
    split at e
    · rw [← e]; exact hnew
    · rename_i hik
      have hm := getD_mem M.things i (hlen i hi hik)
      rw [e] at hm
      exact own_congr (h.slots u hm) fun b hb => hkeep b (mslots_mem hm ((blk_own _ _ _ _).1 hb))
  · intro i j hi hj hij g hg
    dsimp only at hi hj hg ⊢
    rw [hat i hi] at hg
    rw [hat j hj]
    by_cases hik : i = k
    · rw [if_pos hik] at hg
      rw [if_neg (by omega)]
      exact fun hb => hap g hg (mslots_mem (getD_mem M.things j (hlen j hj (by omega))) hb)
    · rw [if_neg hik] at hg
      have hmi := mslots_mem (getD_mem M.things i (hlen i hi hik)) hg
      by_cases hjk : j = k
      · rw [if_pos hjk]; exact fun hb => hap g hb hmi
      · rw [if_neg hjk]; exact h.apart i j (hlen i hi hik) (hlen j hj hjk) hij g hg
theorem putTh_at (S : List Th) (k : Nat) (t : Th) (hk : k ≤ S.length) : ∀ i, i < (putTh S k t).length → (putTh S k t).getD i noTh = if i = k then t else S.getD i noTh := by
  intro i hi
  unfold putTh at hi ⊢
  by_cases h : k < S.length
  · rw [if_pos h] at hi ⊢
    exact getD_set S k i t h
  · rw [if_neg h] at hi ⊢
    have hke : k = S.length := by omega
    simp at hi
    by_cases e : i = k
    · rw [if_pos e, e, hke, List.getD_eq_getElem?_getD, List.getElem?_append_right (by omega)]; simp
    · rw [if_neg e, List.getD_eq_getElem?_getD, List.getD_eq_getElem?_getD, List.getElem?_append_left (by omega)]
theorem putTh_len (S : List Th) (k : Nat) (t : Th) (hk : k ≤ S.length) : k < (putTh S k t).length ∧ ∀ i, i < (putTh S k t).length → i ≠ k → i < S.length := by
  unfold putTh
  by_cases h : k < S.length
  · rw [if_pos h]; simp; exact ⟨h, fun i hi _ => hi⟩
  · rw [if_neg h]; simp; exact ⟨by omega, fun i hi hne => by omega⟩
theorem thCells_append (S : List Th) (t : Th) : thCells (S ++ [t]) = thCells S ++ th5 t := by simp [thCells, th5]
/-- a whole thing is written -/
theorem thCells_setAll (S : List Th) (k : Nat) (t : Th) (hk : k < S.length) : thCells (S.set k t) = (((((thCells S).set (k * 5) (.bool t.there)).set (k * 5 + 1) (.int .i64 t.cls)).set (k * 5 + 2) (I t.fmt)).set (k * 5 + 3) (I t.place)).set (k * 5 + 4) (.slice t.p t.slots.length t.c) := by
  apply List.ext_getElem?
  intro i
  rw [thCells_get, List.getElem?_set, List.getElem?_set, List.getElem?_set, List.getElem?_set, List.getElem?_set, List.getElem?_set]
  simp only [List.length_set, thCells_len]
  by_cases h1 : i / 5 = k
  · rw [if_pos h1.symm, if_pos (by omega)]
    simp only [Option.bind_some]
    have h5 : i = k * 5 ∨ i = k * 5 + 1 ∨ i = k * 5 + 2 ∨ i = k * 5 + 3 ∨ i = k * 5 + 4 := by omega
    rcases h5 with e | e | e | e | e
    · rw [if_neg (by omega), if_neg (by omega), if_neg (by omega), if_neg (by omega), if_pos (by omega), if_pos (by omega), show i % 5 = 0 from by omega]; rfl
    · rw [if_neg (by omega), if_neg (by omega), if_neg (by omega), if_pos (by omega), if_pos (by omega), show i % 5 = 1 from by omega]; rfl
    · rw [if_neg (by omega), if_neg (by omega), if_pos (by omega), if_pos (by omega), show i % 5 = 2 from by omega]; rfl
    · rw [if_neg (by omega), if_pos (by omega), if_pos (by omega), show i % 5 = 3 from by omega]; rfl
    · rw [if_pos (by omega), if_pos (by omega), show i % 5 = 4 from by omega]; rfl
  · rw [if_neg (fun e => h1 e.symm), if_neg (by omega), if_neg (by omega), if_neg (by omega), if_neg (by omega), if_neg (by omega), thCells_get]
end Go.Proofs.YtdkbnnhcjaibdaaDoor

namespace Go.Proofs.YtdkbnnhcjaibdaaDoor
open Go.RowKit
set_option linter.unusedVariables false
attribute [local go_sem ↓] Go.wp_at_zero Go.wp_at_succ
def setTh (w : World) (g q : Nat) (t : Th) : World :=
  ((((w.setCell ⟨g, q * 5, none⟩ (.bool t.there)).setCell ⟨g, q * 5 + 1, none⟩ (.int .i64 t.cls)).setCell ⟨g, q * 5 + 2, none⟩ (.int .i64 t.fmt)).setCell ⟨g, q * 5 + 3, none⟩ (.int .i64 t.place)).setCell ⟨g, q * 5 + 4, none⟩ (.slice t.p t.slots.length t.c)
theorem setTh_else {w : World} {g q : Nat} {t : Th} {i : Nat} (h : i ≠ g) : (setTh w g q t).heap[i]? = w.heap[i]? := by
  unfold setTh
  rw [set_else h, set_else h, set_else h, set_else h, set_else h]
theorem setTh_fr (w : World) (g q : Nat) (t : Th) (S : List Nat) (h : g ∈ S) : Fr S w (setTh w g q t) := by
  unfold setTh
  exact ((((Fr.setCell w _ _ h).trans (Fr.setCell (S := S) _ _ _ h) (fun b hb => .inl hb)).trans (Fr.setCell (S := S) _ _ _ h) (fun b hb => .inl hb)).trans (Fr.setCell (S := S) _ _ _ h) (fun b hb => .inl hb)).trans (Fr.setCell (S := S) _ _ _ h) (fun b hb => .inl hb)
theorem setTh_row {w : World} {S : List Th} {g c q : Nat} {t : Th} (h : w.ownsRow 0 116 5 (.slice (some ⟨g, 0, none⟩) S.length c) S.length (thCells S)) (hq : q < S.length) :
    (setTh w g q t).ownsRow 0 116 5 (.slice (some ⟨g, 0, none⟩) S.length c) S.length (thCells (S.set q t)) := by
  rw [thCells_setAll S q t hq]
  exact own_stored (own_stored (own_stored (own_stored (own_stored h _ _) _ _) _ _) _ _) _ _
theorem MRep.putAll {w : World} {m : Nat} {M : MS} {g : Nat} (h : MRep w m M) (hg : M.pt = some ⟨g, 0, none⟩) (q : Nat) (hq : q < M.things.length) (t : Th)
    (hnew : w.ownsRow 0 35 1 (.slice t.p t.slots.length t.c) t.slots.length (t.slots.map (Value.int .i64))) (hap : ∀ b ∈ blk t.p, b ∉ mslots M) :
    MRep (setTh w g q t) m { M with things := M.things.set q t } := by
  obtain ⟨n1, n2⟩ := h.pt_ne hg
  have hgt : g ∉ blk t.p := fun hb => by
    obtain ⟨c1, hc1⟩ := own_blk hnew g hb
    obtain ⟨c2, hc2⟩ := own_blk h.row g (by rw [hg]; simp [blk])
    rw [hc1] at hc2
    simp at hc2
  have hrow := h.row
  rw [hg] at hrow
  refine h.renew (M.things.set q t) M.pt M.ct t q (by simpa using hq) (fun i hi => getD_set M.things q i t hq) (fun i hi _ => by simpa using hi) ?_ ?_ (fun b hb => setTh_else (fun e => n2 (e ▸ hb))) (own_congr hnew fun b hb => setTh_else (fun e => hgt (e ▸ (blk_own _ _ _ _).1 hb))) hap
  · rw [setTh_else (fun e => n1 e.symm), h.top]
    simp [mcells]
  · rw [List.length_set, hg]
    exact setTh_row hrow hq
theorem MRep.drew {w : World} {m : Nat} {M : MS} (h : MRep w m M) : MRep w.drew m M := h.congr fun g _ => rfl
end Go.Proofs.YtdkbnnhcjaibdaaDoor

