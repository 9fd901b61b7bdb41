import Derived.Test.YtdkbnnhcjaibdaaDoorSG28BLaw
import Derived.Deep.DeepCutAuto
import Derived.Deep.RegionHeld3
import Derived.BigQuiet
namespace Go.Proofs.YtdkbnnhcjaibdaaDoor
open Go.RowKit Go.Maps
set_option linter.unusedVariables false
set_option linter.unusedSimpArgs false
attribute [local go_sem ↓] Go.wp_at_zero Go.wp_at_succ
/-- is there an object of that oop in a state? -/
def inS (l : List OI) (q : Int) : Bool := (l.find? fun o => decide (o.oop = q)).isSome
theorem atR_form {w : World} {ov : Value} {l : List OI} (ha : SAt w ov l) (q : Int) : ∃ A B C pv nv cv, atR l q = .tuple #[.agg #[.int .i64 A, .int .i64 B, .int .i64 C, .slice pv nv cv], .bool (inS l q)] := by
  unfold atR inS
  cases hf : l.find? (fun o => decide (o.oop = q)) with
  | none => exact ⟨0, 0, 0, none, 0, 0, rfl⟩
  | some o =>
    obtain ⟨p, c, e, -⟩ := (ha.slots o (List.mem_of_find?_eq_some hf)).at_
    exact ⟨o.oop, o.cls, o.fmt, p, _, c, by show Value.tuple #[.agg #[.int .i64 o.oop, .int .i64 o.cls, .int .i64 o.fmt, o.v], .bool true] = _; rw [e]; rfl⟩
/-- does a pair meet one of a list? -/
def meets (ps : List (Int × Int)) (x y : Int) : Prop := ∃ p ∈ ps, x = p.1 ∨ y = p.2 ∨ x = p.2 ∨ y = p.1
theorem nodup_meets (ps : List (Int × Int)) (x y : Int) : ¬ (nums (ps ++ [(x, y)])).Nodup ↔ (¬ (nums ps).Nodup ∨ x = y ∨ meets ps x y) := by
  rw [nums_append]
  constructor
  · intro h
    refine Classical.byContradiction fun hc => h ?_
    rw [not_or, not_or, Classical.not_not] at hc
    obtain ⟨h1, h2, h3⟩ := hc
    rw [List.nodup_append]
    refine ⟨h1, by simp [h2], fun p hp q hq e => ?_⟩
    subst e
    obtain ⟨r, r1, r2⟩ := nums_mem hp
    simp at hq
    rcases hq with rfl | rfl
    · rcases r2 with e | e
      · exact h3 ⟨r, r1, .inl e⟩
      · exact h3 ⟨r, r1, .inr (.inr (.inl e))⟩
    · rcases r2 with e | e
      · exact h3 ⟨r, r1, .inr (.inr (.inr e))⟩
      · exact h3 ⟨r, r1, .inr (.inl e)⟩
  · intro h hn
    obtain ⟨n1, n2, n3⟩ := List.nodup_append.1 hn
    rcases h with h | h | ⟨r, r1, r2⟩
    · exact h n1
    · exact (List.nodup_cons.1 n2).1 (List.mem_singleton.2 h)
    · obtain ⟨m1, m2⟩ := mem_nums r1
      rcases r2 with e | e | e | e
      · exact n3 _ m1 x (by simp) e.symm
      · exact n3 _ m2 y (by simp) e.symm
      · exact n3 _ m2 x (by simp) e.symm
      · exact n3 _ m1 y (by simp) e.symm
theorem meets_snoc (ps : List (Int × Int)) (p : Int × Int) (x y : Int) : meets (ps ++ [p]) x y ↔ meets ps x y ∨ (x = p.1 ∨ y = p.2 ∨ x = p.2 ∨ y = p.1) := by
  unfold meets
  constructor
  · rintro ⟨r, r1, r2⟩
    rcases List.mem_append.1 r1 with h | h
    · exact .inl ⟨r, h, r2⟩
    · rw [List.mem_singleton.1 h] at r2; exact .inr r2
  · rintro (⟨r, r1, r2⟩ | h)
    · exact ⟨r, List.mem_append_left _ r1, r2⟩
    · exact ⟨p, by simp, h⟩
set_option maxRecDepth 20000 in
set_option maxHeartbeats 4000000 in
theorem fit_ok (l : List OI) (x1 x2 x3 : Int) (ov va vb : Value) (sa sb : List Int) (w : World) (ha : SAt w ov l) (hra : Rd w va sa) (hrb : Rd w vb sb) :
    Calls Tryd.prog 33 #[.agg #[.int .i64 x1, .int .i64 x2, .int .i64 x3, ov], va, vb] w fun e w' => e = .returned (.int .i64 (fitN (inS l) sa sb)) ∧ Fr [] w w' := by
  have HA := mkHid ha
  obtain ⟨po, co, rfl, -⟩ := ha.at_
  obtain ⟨pa, ca, rfl, hpa⟩ := hra.at_
  obtain ⟨pb, cb, rfl, hpb⟩ := hrb.at_
  have s0 := ha.short
  have s1 := hra.short
  have s2 := hrb.short
  obtain ⟨W1, hW1⟩ : ∃ W1, W1 = w.alloc (.cells #[.int .i64 x1, .int .i64 x2, .int .i64 x3, .slice po l.length co] 45) := ⟨_, rfl⟩
  have F1 : Hid (Fr [] w W1) := by rw [hW1]; exact Fr.alloc [] _ _
  have hB : W1.heap[w.heap.size]? = some (.cells #[.int .i64 x1, .int .i64 x2, .int .i64 x3, .slice po l.length co] 45 (0, 0)) := by rw [hW1]; exact heap_alloc_new _ _
  have hS1 : w.heap.size < W1.heap.size := lt_of_heap hB
  have HS : Hid (∀ V, Hid (Fr [] W1 V) → V.cell? ⟨w.heap.size, 0, none⟩ = some (.int .i64 x1) ∧ V.cell? ⟨w.heap.size, 1, none⟩ = some (.int .i64 x2) ∧ V.cell? ⟨w.heap.size, 2, none⟩ = some (.int .i64 x3) ∧ V.cell? ⟨w.heap.size, 3, none⟩ = some (.slice po l.length co)) := fun V hV => by
    have hb := (hV.out.block _ (lt_of_heap hB) (by simp)).trans hB
    exact ⟨by rw [cell_in hb]; rfl, by rw [cell_in hb]; rfl, by rw [cell_in hb]; rfl, by rw [cell_in hb]; rfl⟩
  have HPa := mkHid hpa
  have HPb := mkHid hpb
  obtain ⟨F, hF⟩ : ∃ F, F = fitN (inS l) sa sb := ⟨_, rfl⟩
  rw [← hF]
  have HF := mkHid hF
  have HAtG : Hid (∀ V z, Hid (Fr [] W1 V) → ∃ A B C pv nv cv, Calls Tryd.prog 34 #[.agg #[.int .i64 x1, .int .i64 x2, .int .i64 x3, .slice po l.length co], .int .i64 z] V fun e w' => e = .returned (.tuple #[.agg #[.int .i64 A, .int .i64 B, .int .i64 C, .slice pv nv cv], .bool (inS l z)]) ∧ Hid (Fr [] V w') ∧ Hid (Fr [] W1 w')) := fun V z hV => by
    obtain ⟨A, B, C, pv, nv, cv, e⟩ := atR_form HA.out z
    exact ⟨A, B, C, pv, nv, cv, (at_ok l z x1 x2 x3 _ V (HA.out.idle (F1.out.trans hV.out (by simp)))).mono fun e' w' ⟨he, hf⟩ => ⟨by rw [he, e], hf, hV.out.trans hf (by simp)⟩⟩
  clear ha hra hrb hpa hpb hB hF
  by_cases hlen : sa.length = sb.length
  rotate_left
  · have hb0 : ((sa.length : Int) != (sb.length : Int)) = true := by rw [bne_iff_ne]; omega
    have HFt : Hid (F = 26) := by show F = 26; rw [HF.out]; unfold fitN; rw [if_pos hlen]
    clear hlen
    go_enter Tryd.func33, Tryd.ntmps33
    go_wp2_with fail
    go_ret
    rw [← hW1]
    exact ⟨by rw [HFt.out]; rfl, F1.out⟩
  · have hb0 : ((sa.length : Int) != (sb.length : Int)) = false := by rw [bne_eq_false_iff_eq]; omega
    have HL := mkHid hlen
    have HFt : Hid (F = if (sa.all (inS l) && sb.all (inS l)) = false then 20 else if (nums (sa.zip sb)).Nodup then 0 else 26) := by
      show F = _
      rw [HF.out]
      unfold fitN
      rw [if_neg (by simpa using hlen)]
    clear hlen HF
    go_enter Tryd.func33, Tryd.ntmps33
    go_wp2_with fail
    rw [← hW1]
    clear hW1
    go_loopw [7, 8] (fun tv q wr => ∃ (i : Nat) (tw : Bool), i ≤ sa.length ∧ tv = .bool tw ∧ q = .int .i64 i ∧ Hid (tw = true ↔ ¬ (nums ((sa.zip sb).take i)).Nodup) ∧ Hid ((∀ j, j < i → inS l (sa.getD j 0) = true ∧ inS l (sb.getD j 0) = true)) ∧ Hid (Fr [] W1 wr)) (fun _ q _ => sa.length - (intOf q).toNat)
    case atStart => exact ⟨0, false, Nat.zero_le _, rfl, rfl, mkHid (by simp [nums]), mkHid (fun j hj => by omega), Fr.refl _ _⟩
    case round =>
      obtain ⟨i, tw, hin, rfl, rfl, htw, hall, hq⟩ := hrel
      have i1 : (0 : Int) ≤ (i : Int) := by omega
      by_cases hlt : i < sa.length
      · have i2 : (i : Int) < (sa.length : Int) := by omega
        have hltb : i < sb.length := by have := HL.out; omega
        have i3 : (i : Int) < (sb.length : Int) := by omega
        obtain ⟨ga, oa, rfl, hga, hca⟩ := HPa.out (by omega)
        obtain ⟨gb, ob, rfl, hgb, hcb⟩ := HPb.out (by omega)
        have HCa : Hid (∀ V, Hid (Fr [] W1 V) → ∀ k, k < sa.length → V.cell? ⟨ga, oa + k, none⟩ = some (.int .i64 (sa.getD k 0))) := fun V hV k hk => ((F1.out.trans hV.out (by simp)).cell (p := ⟨ga, oa + k, none⟩) hga (by simp)).trans (hca k hk)
        have HCb : Hid (∀ V, Hid (Fr [] W1 V) → ∀ k, k < sb.length → V.cell? ⟨gb, ob + k, none⟩ = some (.int .i64 (sb.getD k 0))) := fun V hV k hk => ((F1.out.trans hV.out (by simp)).cell (p := ⟨gb, ob + k, none⟩) hgb (by simp)).trans (hcb k hk)
        have htk := zip_get sa sb HL.out i hlt
        have hxm : sa.getD i 0 ∈ sa := by rw [List.getD_eq_getElem?_getD, List.getElem?_eq_getElem hlt]; exact List.getElem_mem hlt
        have hym : sb.getD i 0 ∈ sb := by rw [List.getD_eq_getElem?_getD, List.getElem?_eq_getElem hltb]; exact List.getElem_mem hltb
        have HBad : Hid ((inS l (sa.getD i 0) = false ∨ inS l (sb.getD i 0) = false) → F = 20) := fun hb => by
          rw [HFt.out, if_pos]
          rw [Bool.and_eq_false_iff]
          rcases hb with hb | hb
          · left; exact List.all_eq_false.2 ⟨_, hxm, by rw [hb]; simp⟩
          · right; exact List.all_eq_false.2 ⟨_, hym, by rw [hb]; simp⟩
        have HNext : Hid (inS l (sa.getD i 0) = true → inS l (sb.getD i 0) = true → ∀ j, j < i + 1 → inS l (sa.getD j 0) = true ∧ inS l (sb.getD j 0) = true) := fun h1 h2 j hj => by
          by_cases e : j = i
          · rw [e]; exact ⟨h1, h2⟩
          · exact hall.out j (by omega)
        have HTk := mkHid htk
        have HCx : Hid (∀ V, Hid (Fr [] W1 V) → V.cell? ⟨ga, oa + i, none⟩ = some (.int .i64 (sa.getD i 0)) ∧ V.cell? ⟨gb, ob + i, none⟩ = some (.int .i64 (sb.getD i 0))) := fun V hV => ⟨HCa.out V hV i hlt, HCb.out V hV i hltb⟩
        generalize sa.getD i 0 = x at *
        generalize sb.getD i 0 = y at *
        have hWz : W1.heap.size ≤ wr.heap.size := hq.out.size
        clear hca hcb htk hxm hym hall
        have HCl : Hid (∀ V, Hid (Fr [] W1 V) → (V.cell? ⟨w.heap.size, 0, none⟩ = some (.int .i64 x1) ∧ V.cell? ⟨w.heap.size, 1, none⟩ = some (.int .i64 x2) ∧ V.cell? ⟨w.heap.size, 2, none⟩ = some (.int .i64 x3) ∧ V.cell? ⟨w.heap.size, 3, none⟩ = some (.slice po l.length co)) ∧ V.cell? ⟨ga, oa + i, none⟩ = some (.int .i64 x) ∧ Hid (Fr [] W1 V)) := fun V hV => ⟨HS.out V hV, (HCx.out V hV).1, hV⟩
        have HXA : Hid (∀ w' : World, Hid (Fr [] (wr.alloc (.cells #[.int .i64 0, .int .i64 0, .int .i64 0, .slice none 0 0] 76)).drew w') → w'.heap[wr.heap.size]? = some (.cells #[.int .i64 0, .int .i64 0, .int .i64 0, .slice none 0 0] 76 (0, 0))) := fun w' hf => by
          have h5 : (wr.alloc (.cells #[.int .i64 0, .int .i64 0, .int .i64 0, .slice none 0 0] 76)).drew.heap[wr.heap.size]? = some (.cells #[.int .i64 0, .int .i64 0, .int .i64 0, .slice none 0 0] 76 (0, 0)) := heap_alloc_new wr _
          exact (hf.out.block _ (lt_of_heap h5) (by simp)).trans h5
        obtain ⟨A1, B1, C1, pv1, nv1, cv1, hAt1⟩ := HAtG.out (wr.alloc (.cells #[.int .i64 0, .int .i64 0, .int .i64 0, .slice none 0 0] 76)).drew x (hid_drew (hid_alloc hq))
        obtain ⟨A2, B2, C2, pv2, nv2, cv2, hAt2⟩ := HAtG.out wr.drew x (hid_drew hq)
        have HAt1 := mkHid hAt1
        have HAt2 := mkHid hAt2
        clear hAt1 hAt2
        generalize hbo : inS l x = bo at *
        go_wp2_with fail
        go_cut [9, 10] (fun p b W => b = .bool bo ∧ Hid (Fr [] W1 W))
        case first =>
          obtain ⟨⟨c0, c1, c2, c3⟩, c4, -⟩ := HCl.out wr hq
          go_region_held3 (fun w' => (w'.cell? ⟨w.heap.size, 0, none⟩ = some (.int .i64 x1) ∧ w'.cell? ⟨w.heap.size, 1, none⟩ = some (.int .i64 x2) ∧ w'.cell? ⟨w.heap.size, 2, none⟩ = some (.int .i64 x3) ∧ w'.cell? ⟨w.heap.size, 3, none⟩ = some (.slice po l.length co)) ∧ w'.cell? ⟨ga, oa + i, none⟩ = some (.int .i64 x) ∧ Hid (Fr [] W1 w'))
            (first
              | exact HCl.out _ (hid_drew hq)
              | exact HCl.out _ (hid_drew (hid_alloc hq))
              | exact HCl.out _ (by assumption)
              | exact HCl.out _ (hid_alloc (by assumption))
              | exact HCl.out _ (hid_set4 (by assumption) hWz))
            (first
              | (go_at_call 34; refine HAt1.out.mono ?_; rintro e w' ⟨rfl, hfa, hfb⟩; have hbx := HXA.out _ hfa; have y0 := cell_in hbx 0; have y1 := cell_in hbx 1; have y2 := cell_in hbx 2; have y3 := cell_in hbx 3; have z0 := frozen_in hbx 0; have z1 := frozen_in hbx 1; have z2 := frozen_in hbx 2; have z3 := frozen_in hbx 3)
              | (go_at_call 34; refine HAt2.out.mono ?_; rintro e w' ⟨rfl, hfa, hfb⟩; have hzw : wr.heap.size ≤ w'.heap.size := hfa.out.size))
          all_goals go_wp2_with fail
          all_goals
            go_meet
            case rel =>
              first
                | exact ⟨rfl, hid_set4 (by assumption) hWz⟩
                | exact ⟨rfl, hid_alloc (by assumption)⟩
        case rest =>
          obtain ⟨rfl, hq2⟩ := hcut
          clear hq HXA HAt1 HAt2 HCl hWz
          generalize wc = wr2 at *
          have hWz2 : W1.heap.size ≤ wr2.heap.size := hq2.out.size
          have HCl : Hid (∀ V, Hid (Fr [] W1 V) → (V.cell? ⟨w.heap.size, 0, none⟩ = some (.int .i64 x1) ∧ V.cell? ⟨w.heap.size, 1, none⟩ = some (.int .i64 x2) ∧ V.cell? ⟨w.heap.size, 2, none⟩ = some (.int .i64 x3) ∧ V.cell? ⟨w.heap.size, 3, none⟩ = some (.slice po l.length co)) ∧ V.cell? ⟨gb, ob + i, none⟩ = some (.int .i64 y) ∧ Hid (Fr [] W1 V)) := fun V hV => ⟨HS.out V hV, (HCx.out V hV).2, hV⟩
          have HXA : Hid (∀ w' : World, Hid (Fr [] (wr2.alloc (.cells #[.int .i64 0, .int .i64 0, .int .i64 0, .slice none 0 0] 76)).drew w') → w'.heap[wr2.heap.size]? = some (.cells #[.int .i64 0, .int .i64 0, .int .i64 0, .slice none 0 0] 76 (0, 0))) := fun w' hf => by
            have h5 : (wr2.alloc (.cells #[.int .i64 0, .int .i64 0, .int .i64 0, .slice none 0 0] 76)).drew.heap[wr2.heap.size]? = some (.cells #[.int .i64 0, .int .i64 0, .int .i64 0, .slice none 0 0] 76 (0, 0)) := heap_alloc_new wr2 _
            exact (hf.out.block _ (lt_of_heap h5) (by simp)).trans h5
          obtain ⟨A3, B3, C3, pv3, nv3, cv3, hAt3⟩ := HAtG.out (wr2.alloc (.cells #[.int .i64 0, .int .i64 0, .int .i64 0, .slice none 0 0] 76)).drew y (hid_drew (hid_alloc hq2))
          obtain ⟨A4, B4, C4, pv4, nv4, cv4, hAt4⟩ := HAtG.out wr2.drew y (hid_drew hq2)
          have HAt3 := mkHid hAt3
          have HAt4 := mkHid hAt4
          clear hAt3 hAt4
          generalize hbq : inS l y = bq at *
          go_wp2_with fail
          go_cut [11, 12] (fun p b W => b = .bool bq ∧ Hid (Fr [] W1 W))
          case first =>
            obtain ⟨⟨c0, c1, c2, c3⟩, c4, -⟩ := HCl.out wr2 hq2
            go_region_held3 (fun w' => (w'.cell? ⟨w.heap.size, 0, none⟩ = some (.int .i64 x1) ∧ w'.cell? ⟨w.heap.size, 1, none⟩ = some (.int .i64 x2) ∧ w'.cell? ⟨w.heap.size, 2, none⟩ = some (.int .i64 x3) ∧ w'.cell? ⟨w.heap.size, 3, none⟩ = some (.slice po l.length co)) ∧ w'.cell? ⟨gb, ob + i, none⟩ = some (.int .i64 y) ∧ Hid (Fr [] W1 w'))
              (first
                | exact HCl.out _ (hid_drew hq2)
                | exact HCl.out _ (hid_drew (hid_alloc hq2))
                | exact HCl.out _ (by assumption)
                | exact HCl.out _ (hid_alloc (by assumption))
                | exact HCl.out _ (hid_set4 (by assumption) hWz2))
              (first
                | (go_at_call 34; refine HAt3.out.mono ?_; rintro e w' ⟨rfl, hfa, hfb⟩; have hbx := HXA.out _ hfa; have y0 := cell_in hbx 0; have y1 := cell_in hbx 1; have y2 := cell_in hbx 2; have y3 := cell_in hbx 3; have z0 := frozen_in hbx 0; have z1 := frozen_in hbx 1; have z2 := frozen_in hbx 2; have z3 := frozen_in hbx 3)
                | (go_at_call 34; refine HAt4.out.mono ?_; rintro e w' ⟨rfl, hfa, hfb⟩; have hzw : wr2.heap.size ≤ w'.heap.size := hfa.out.size))
            all_goals go_wp2_with fail
            all_goals
              go_meet
              case rel =>
                first
                  | exact ⟨rfl, hid_set4 (by assumption) hWz2⟩
                  | exact ⟨rfl, hid_alloc (by assumption)⟩
          case rest =>
            obtain ⟨rfl, hq3⟩ := hcut
            clear hq2 HXA HAt3 HAt4 HCl hWz2
            generalize wc = wr3 at *
            by_cases hbb : bo = true ∧ bq = true
            rotate_left
            · have HF20 : Hid (F = 20) := HBad.out (by cases bo <;> cases bq <;> simp_all)
              have HFin : Hid (Fr [] w wr3) := F1.out.trans hq3.out (by simp)
              clear HBad HNext HCx HTk HCa HCb HFt hbo hbq
              cases bo
              · go_wp2_with fail
                go_ret
                exact ⟨by rw [HF20.out]; rfl, HFin.out⟩
              · cases bq
                · go_wp2_with fail
                  go_ret
                  exact ⟨by rw [HF20.out]; rfl, HFin.out⟩
                · exact absurd ⟨rfl, rfl⟩ hbb
            · obtain ⟨rfl, rfl⟩ := hbb
              have HNx := mkHid (HNext.out rfl rfl)
              clear HBad HNext hbo hbq
              go_wp2_with fail
              go_cut [7] (fun t W => ∃ tx : Bool, t = .bool tx ∧ Hid (tx = true ↔ (tw = true ∨ x = y)) ∧ Hid (Fr [] W1 W))
              case first =>
                obtain ⟨d1, d2⟩ := HCx.out wr3 hq3
                cases tw
                · by_cases hxy : x = y
                  · have hb : (x == y) = true := by simpa using hxy
                    have HXY := mkHid hxy
                    clear hxy
                    go_quiet (fail)
                    go_wp2_with fail
                    go_meet
                    case rel => exact ⟨true, rfl, mkHid (by simp [HXY.out]), mkHid (hq3.out.trans (Fr.drewN [] _ _) (by simp))⟩
                  · have hb : (x == y) = false := by simpa using hxy
                    have HXY := mkHid hxy
                    clear hxy
                    go_quiet (fail)
                    go_wp2_with fail
                    go_meet
                    case rel => exact ⟨false, rfl, mkHid (by simp [HXY.out]), mkHid (hq3.out.trans (Fr.drewN [] _ _) (by simp))⟩
                · go_quiet (fail)
                  go_wp2_with fail
                  go_meet
                  case rel => exact ⟨true, rfl, mkHid (by simp), mkHid (hq3.out.trans (Fr.drewN [] _ _) (by simp))⟩
              case rest =>
                obtain ⟨tx, rfl, htx, hq4⟩ := hcut
                clear hq3
                go_wp2_with fail
                go_loopw [7, 13] (fun tv q wr => ∃ (j : Nat) (tz : Bool), j ≤ i ∧ tv = .bool tz ∧ q = .int .i64 j ∧ Hid (tz = true ↔ (tw = true ∨ x = y) ∨ meets ((sa.zip sb).take j) x y) ∧ Hid (Fr [] W1 wr)) (fun _ q _ => i - (intOf q).toNat)
                case atStart => exact ⟨0, tx, Nat.zero_le _, rfl, rfl, mkHid (by rw [htx.out]; simp [meets]), hq4⟩
                case round =>
                  obtain ⟨j, tz, hjn, rfl, rfl, htz, hq5⟩ := hrel
                  have j1 : (0 : Int) ≤ (j : Int) := by omega
                  by_cases hj : j < i
                  · have j2 : (j : Int) < (i : Int) := by omega
                    have j3 : (j : Int) < (sa.length : Int) := by omega
                    have j4 : (j : Int) < (sb.length : Int) := by omega
                    have hzj := zip_get sa sb HL.out j (by omega)
                    have hpc := HCa.out _ hq5 j (by omega)
                    have hqc := HCb.out _ hq5 j (by omega)
                    obtain ⟨d1, d2⟩ := HCx.out _ hq5
                    have HS2 : Hid (∀ tn : Bool, (tn = true ↔ (tz = true ∨ (x = sa.getD j 0 ∨ y = sb.getD j 0 ∨ x = sb.getD j 0 ∨ y = sa.getD j 0))) → (tn = true ↔ (tw = true ∨ x = y) ∨ meets ((sa.zip sb).take (j + 1)) x y)) := fun tn h => by
                      rw [h, hzj, meets_snoc, htz.out, or_assoc]
                    clear hzj htz htx
                    generalize sa.getD j 0 = p at *
                    generalize sb.getD j 0 = q at *
                    clear HCa HCb HCx HTk HNx HFt
                    cases tz
                    · by_cases h1 : x = p
                      · have e1 : (x == p) = true := by simpa using h1
                        have HZ := mkHid (HS2.out true (by simp [h1]))
                        clear HS2 h1
                        go_wp2_with fail
                        go_quiet (fail)
                        go_wp2_with fail
                        go_roundw
                        case rel => exact ⟨j + 1, true, by omega, rfl, by go_num, mkHid ⟨fun _ => HZ.out.1 trivial, fun _ => rfl⟩, mkHid (hq5.out.trans (Fr.drewN [] _ _) (by simp))⟩
                        case measure => simp [intOf]; omega
                      · have e1 : (x == p) = false := by simpa using h1
                        by_cases h2 : y = q
                        · have e2 : (y == q) = true := by simpa using h2
                          have HZ := mkHid (HS2.out true (by simp [h2]))
                          clear HS2 h1 h2
                          go_wp2_with fail
                          go_quiet (fail)
                          go_wp2_with fail
                          go_roundw
                          case rel => exact ⟨j + 1, true, by omega, rfl, by go_num, mkHid ⟨fun _ => HZ.out.1 trivial, fun _ => rfl⟩, mkHid (hq5.out.trans (Fr.drewN [] _ _) (by simp))⟩
                          case measure => simp [intOf]; omega
                        · have e2 : (y == q) = false := by simpa using h2
                          by_cases h3 : x = q
                          · have e3 : (x == q) = true := by simpa using h3
                            have HZ := mkHid (HS2.out true (by simp [h3]))
                            clear HS2 h1 h2 h3
                            go_wp2_with fail
                            go_quiet (fail)
                            go_wp2_with fail
                            go_roundw
                            case rel => exact ⟨j + 1, true, by omega, rfl, by go_num, mkHid ⟨fun _ => HZ.out.1 trivial, fun _ => rfl⟩, mkHid (hq5.out.trans (Fr.drewN [] _ _) (by simp))⟩
                            case measure => simp [intOf]; omega
                          · have e3 : (x == q) = false := by simpa using h3
                            by_cases h4 : y = p
                            · have e4 : (y == p) = true := by simpa using h4
                              have HZ := mkHid (HS2.out true (by simp [h4]))
                              clear HS2 h1 h2 h3 h4
                              go_wp2_with fail
                              go_quiet (fail)
                              go_wp2_with fail
                              go_roundw
                              case rel => exact ⟨j + 1, true, by omega, rfl, by go_num, mkHid ⟨fun _ => HZ.out.1 trivial, fun _ => rfl⟩, mkHid (hq5.out.trans (Fr.drewN [] _ _) (by simp))⟩
                              case measure => simp [intOf]; omega
                            · have e4 : (y == p) = false := by simpa using h4
                              have HZ := mkHid (HS2.out false (by simp [h1, h2, h3, h4]))
                              clear HS2 h1 h2 h3 h4
                              go_wp2_with fail
                              go_quiet (fail)
                              go_wp2_with fail
                              go_roundw
                              case rel => exact ⟨j + 1, false, by omega, rfl, by go_num, HZ, mkHid (hq5.out.trans (Fr.drewN [] _ _) (by simp))⟩
                              case measure => simp [intOf]; omega
                    · have HZ := mkHid (HS2.out true (by simp))
                      clear HS2
                      go_wp2_with fail
                      go_quiet (fail)
                      go_wp2_with fail
                      go_roundw
                      case rel => exact ⟨j + 1, true, by omega, rfl, by go_num, mkHid ⟨fun _ => HZ.out.1 trivial, fun _ => rfl⟩, mkHid (hq5.out.trans (Fr.drewN [] _ _) (by simp))⟩
                      case measure => simp [intOf]; omega
                  · have hje : j = i := by omega
                    subst hje
                    have HT2 : Hid (tz = true ↔ ¬ (nums ((sa.zip sb).take (j + 1))).Nodup) := by
                      show _ ↔ _
                      rw [htz.out, HTk.out, nodup_meets, htw.out, or_assoc]
                    clear hj htz HTk htw HCa HCb HCx
                    go_wp2_with fail
                    go_roundw
                    case rel => exact ⟨j + 1, tz, by omega, rfl, by go_num, HT2, HNx, hq5⟩
                    case measure => simp [intOf]; omega
      · have hie : i = sa.length := by omega
        subst hie
        have hz : (sa.zip sb).take sa.length = sa.zip sb := List.take_of_length_le (by rw [List.length_zip]; omega)
        have htw2 := htw.out
        rw [hz] at htw2
        have hal : (sa.all (inS l) && sb.all (inS l)) = true := by
          rw [Bool.and_eq_true, List.all_eq_true, List.all_eq_true]
          constructor
          · intro v hv
            obtain ⟨k, hk, e⟩ := List.getElem_of_mem hv
            have := (hall.out k hk).1
            rw [List.getD_eq_getElem?_getD, List.getElem?_eq_getElem hk] at this
            rw [← e]; exact this
          · intro v hv
            obtain ⟨k, hk, e⟩ := List.getElem_of_mem hv
            have := (hall.out k (by rw [HL.out]; exact hk)).2
            rw [List.getD_eq_getElem?_getD, List.getElem?_eq_getElem hk] at this
            rw [← e]; exact this
        have HFe : Hid (F = if tw then 26 else 0) := by
          show F = _
          rw [HFt.out, hal, if_neg (by simp)]
          cases tw
          · rw [if_pos (Classical.not_not.1 fun h => by have := htw2.2 h; cases this)]; rfl
          · rw [if_neg (htw2.1 rfl)]; rfl
        have HFin : Hid (Fr [] w wr) := F1.out.trans hq.out (by simp)
        clear hz htw2 hal HFt htw hall hlt
        cases tw
        all_goals
          go_wp2_with fail
          go_ret
          exact ⟨by rw [HFe.out]; rfl, HFin.out⟩
end Go.Proofs.YtdkbnnhcjaibdaaDoor
