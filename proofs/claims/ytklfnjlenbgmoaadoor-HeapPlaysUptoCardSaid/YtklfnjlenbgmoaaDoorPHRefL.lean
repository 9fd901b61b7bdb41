import Derived.Test.YtklfnjlenbgmoaaDoorPG28HLast
import Derived.BigQuiet
import Derived.Deep.RegionHeld3
import Derived.Deep.RegionHeldLaw
set_option linter.unusedSimpArgs false
set_option linter.unusedVariables false
namespace Go.Proofs.YtklfnjlenbgmoaaDoor
open Go.RowKit
attribute [local go_sem ↓] Go.wp_at_zero Go.wp_at_succ
theorem info114 : (Tryd.prog.info? 114).map (fun i => (i.zero, i.size, i.bytes)) = some (some (.agg #[.int .i64 0, .int .i64 0, .int .i64 0, .int .i64 0, .int .i64 0, .slice none 0 0]), 6, 64) := by kernel_rfl
structure LdR (w W1 : World) (words oops mark : Nat) (la : List OI) (k : Nat) (wr : World) (R : RS) : Prop where
 rep : RRep wr (w.heap.size + 1) (w.heap.size + 1) R
 fr : Fr [] W1 wr
 of : ROf words oops mark ((la.take k).map oiKey) R
set_option maxRecDepth 20000 in
set_option maxHeartbeats 2000000 in
theorem rLoad_any (words oops mark : Nat) (ov : Value) (la : List OI) (w : World) (ha : SAt w ov la) (h1 : (words : Int) ≤ 1048576) (h2 : (oops : Int) ≤ 65536) (hm : (mark : Int) ≤ 1073741824) :
  Calls Tryd.prog 18 #[.agg #[.int .i64 (words : Int), .int .i64 (oops : Int), .int .i64 (mark : Int), ov]] w fun e w' =>
   (∃ R, e = .returned (.tuple #[.pointer (some ⟨w.heap.size + 1, 0, none⟩), .int .i64 0]) ∧ LdR w w words oops mark la la.length w' R) ∨
   (∃ k o, e = .returned (.tuple #[.pointer none, .int .i64 27]) ∧ Fr [] w w' ∧ la[k]? = some o ∧ takesK words oops ((la.take k).map oiKey) (oiKey o) = false) := by
 have HA := mkHid ha
 have hl := ha.short
 obtain ⟨p, c, rfl, -⟩ := ha.at_
 obtain ⟨W1, hW1⟩ : ∃ W1, W1 = w.alloc (.cells #[.int .i64 (words : Int), .int .i64 (oops : Int), .int .i64 (mark : Int), .slice p la.length c] 38) := ⟨_, rfl⟩
 have F1 : Hid (Fr [] w W1) := by rw [hW1]; exact Fr.alloc [] _ _
 have hS1 : W1.heap.size = w.heap.size + 1 := by rw [hW1]; simp
 have hb1 : W1.heap[w.heap.size]? = some (.cells #[.int .i64 (words : Int), .int .i64 (oops : Int), .int .i64 (mark : Int), .slice p la.length c] 38 (0, 0)) := by rw [hW1]; exact heap_alloc_new _ _
 have HB1 := mkHid hb1
 have a0 : W1.cell? ⟨w.heap.size, 0, none⟩ = some (.int .i64 (words : Int)) := by rw [cell_in hb1]; rfl
 have a1 : W1.cell? ⟨w.heap.size, 1, none⟩ = some (.int .i64 (oops : Int)) := by rw [cell_in hb1]; rfl
 have a2 : W1.cell? ⟨w.heap.size, 2, none⟩ = some (.int .i64 (mark : Int)) := by rw [cell_in hb1]; rfl
 have hz1 : w.heap.size < W1.heap.size := by omega
 obtain ⟨i114, ii114, iz114, is114, ib114⟩ := info_parts info114
 clear ha hb1
 go_enter Tryd.func18, Tryd.ntmps18
 go_wp2_with fail
 rw [← hW1]
 clear hW1
 go_loopw [5] (fun qq wr => ∃ k : Nat, k ≤ la.length ∧ qq = .int .i64 k ∧ Hid (∃ R, LdR w W1 words oops mark la k wr R)) (fun qq _ => la.length - (intOf qq).toNat)
 case atStart =>
  refine ⟨0, Nat.zero_le _, rfl, ⟨words, oops, mark, 0, 0, [], .slice none 0 0⟩, ⟨⟨Nat.le_refl _, ?_, World.ownsRow_nil _ _ _ _, fun o ho => by simp at ho⟩, Fr.alloc [] _ _, ROf.nil words oops mark _⟩⟩
  have := heap_alloc_new W1 (.cells #[.int .i64 (words : Int), .int .i64 (oops : Int), .int .i64 (mark : Int), .int .i64 0, .int .i64 0, .slice none 0 0] 111)
  rw [hS1] at this
  exact this
 case round =>
  obtain ⟨k, hkn, rfl, hqq⟩ := hrel
  obtain ⟨R, hw⟩ := hqq.out
  have b0 := (hw.fr.block _ (lt_of_heap HB1.out) (by simp)).trans HB1.out
  have e0 : wr.cell? ⟨w.heap.size, 0, none⟩ = some (.int .i64 (words : Int)) := by rw [cell_in b0]; rfl
  have e1 : wr.cell? ⟨w.heap.size, 1, none⟩ = some (.int .i64 (oops : Int)) := by rw [cell_in b0]; rfl
  have e3 : wr.cell? ⟨w.heap.size, 3, none⟩ = some (.slice p la.length c) := by rw [cell_in b0]; rfl
  have hz := lt_of_heap b0
  have Fk := F1.out.trans hw.fr (by simp)
  have k1 : (0 : Int) ≤ (k : Int) := by omega
  by_cases hlt : k < la.length
  ·have k2 : (k : Int) < (la.length : Int) := by omega
   have hAk := HA.out.idle Fk
   obtain ⟨p', c', ee, hpa⟩ := hAk.at_
   injection ee with ee eeb eec
   subst ee
   subst eec
   clear eeb
   obtain ⟨g, off, rfl, hca⟩ := hpa (by omega)
   obtain ⟨o, h0, x0, x1, x2, x3⟩ := hca k hlt
   have x4 := hAk.slots o (List.mem_of_getElem? h0)
   obtain ⟨oo, oc, of_, os, ov⟩ := o
   dsimp only at *
   obtain ⟨p1, c1, rfl, -⟩ := x4.at_
   have hgb : g < wr.heap.size := World.block_lt_of_cell? wr _ x0
   have hok := hw.of.ok (by omega)
   obtain ⟨W4, hW4⟩ : ∃ W4, W4 = wr.alloc (.cells #[.int .i64 oo, .int .i64 oc, .int .i64 of_, .slice p1 os.length c1] 106) := ⟨_, rfl⟩
   have F4 : Fr [] wr W4 := by rw [hW4]; exact Fr.alloc [] _ _
   have hB4 : W4.heap[wr.heap.size]? = some (.cells #[.int .i64 oo, .int .i64 oc, .int .i64 of_, .slice p1 os.length c1] 106 (0, 0)) := by rw [hW4]; exact heap_alloc_new _ _
   have hR4 := hw.rep.idle F4
   have FW4 : Hid (Fr [] w W4) := Fk.trans F4 (by simp)
   have y0 : W4.cell? ⟨wr.heap.size, 0, none⟩ = some (.int .i64 oo) := by rw [cell_in hB4]; rfl
   have y1 : W4.cell? ⟨wr.heap.size, 1, none⟩ = some (.int .i64 oc) := by rw [cell_in hB4]; rfl
   have y2 : W4.cell? ⟨wr.heap.size, 2, none⟩ = some (.int .i64 of_) := by rw [cell_in hB4]; rfl
   have y3 : W4.cell? ⟨wr.heap.size, 3, none⟩ = some (.slice p1 os.length c1) := by rw [cell_in hB4]; rfl
   have s0 := (F4.cell (p := ⟨w.heap.size, 0, none⟩) (by show w.heap.size < _; omega) (by simp)).trans e0
   have s1 := (F4.cell (p := ⟨w.heap.size, 1, none⟩) (by show w.heap.size < _; omega) (by simp)).trans e1
   have s3 := (F4.cell (p := ⟨w.heap.size, 3, none⟩) (by show w.heap.size < _; omega) (by simp)).trans e3
   have HX4 := mkHid (x4.idle F4)
   have HW := mkHid hw
   have HOK := mkHid hok
   have HF4 := mkHid F4
   have H0 := mkHid h0
   have HB4 := mkHid hB4
   have HR4 := mkHid hR4
   have HKs := mkHid hw.of.keys
   have hKd := rKind_any oc W4
   have HKd := mkHid hKd
   clear hqq hw b0 Fk hAk hpa hca x4 hok F4 hB4 hR4 h0 hKd
   by_cases ht : takesK words oops ((la.take k).map oiKey) (oo, oc, of_, os) = true
   ·obtain ⟨t1, t2, t3, t4, t5, t6, t7, t8⟩ := takesK_yes ht
    have HFd := mkHid (find_no oo _ _ R W4 HR4.out HOK.out.len (by rw [HKs.out]; exact t3))
    have HT := mkHid ht
    have HJ := mkHid t7
    have t1 : (1 : Int) ≤ oo := t1
    have t2 : oo ≤ (oops : Int) := t2
    have hk0 : (kindOf oc == 0) = false := by simpa [isW] using t4
    have hff : of_ = 0 ∨ of_ = 1 := by simpa [isF] using t5
    have hf0 : (0 : Int) ≤ of_ := by omega
    have hf1 : of_ ≤ 1 := by omega
    have t6 : (os.length : Int) ≤ 8192 := t6
    have t9 : endK ((la.take k).map oiKey) + lenOf (os.length : Int) of_ ≤ (words : Int) := t8
    clear ht t3 t7 t4 t5 t8 hff
    generalize kindOf oc = kz at *
    go_wp2_with fail
    rw [← hW4]
    clear hW4
    refine Calls.mono HFd.out ?_
    rintro e w' ⟨rfl, hw'⟩
    rw [hw']
    clear hw' w' HFd
    go_wp2_with fail
    refine Calls.mono HKd.out ?_
    rintro e w' ⟨rfl, hw'⟩
    rw [hw']
    clear hw' w' HKd
    have HSlot : Hid (∀ V, Hid (∃ n, V = W4.drewN n) → V.cell? ⟨wr.heap.size, 2, none⟩ = some (.int .i64 of_) ∧ V.cell? ⟨wr.heap.size, 3, none⟩ = some (.slice p1 os.length c1) ∧ (0 < os.length → ∃ g off, p1 = some ⟨g, off, none⟩ ∧ ∀ i, i < os.length → V.cell? ⟨g, off + i, none⟩ = some (.int .i64 (os.getD i 0)))) := by
     intro V hV
     obtain ⟨n, hn⟩ := hV.out
     obtain ⟨p', c', ee, hh⟩ := HX4.out.at_
     injection ee with ee _ _
     subst ee
     rw [hn]
     refine ⟨y2, y3, fun hp => ?_⟩
     obtain ⟨g', off', g1, g2, g3⟩ := hh hp
     exact ⟨g', off', g1, g3⟩
    have hWs : wr.heap.size < W4.heap.size := lt_of_heap HB4.out
    generalize hX : wr.heap.size = X at *
    go_wp2_with fail
    go_loopw [7] (fun qq wv => ∃ i : Nat, i ≤ os.length ∧ qq = .int .i64 i ∧ Hid (∃ n, wv = W4.drewN n)) (fun qq _ => os.length - (intOf qq).toNat)
    case atStart => exact ⟨0, Nat.zero_le _, rfl, 0, rfl⟩
    case round =>
     obtain ⟨i, hiJ, rfl, hv⟩ := hrel
     obtain ⟨z2, z3, hrd⟩ := HSlot.out _ hv
     have i1 : (0 : Int) ≤ (i : Int) := by omega
     by_cases hiE : i < os.length
     ·obtain ⟨g', off', rfl, hcc⟩ := hrd (by omega)
      have zi := hcc i (by omega)
      have i2 : (i : Int) < (os.length : Int) := by omega
      have hmy := fun V => rmay_any (os.getD i 0) of_ V
      rw [HJ.out i (by omega)] at hmy
      have HMy := mkHid hmy
      clear hmy hcc hrd y0 y1 y2 y3
      generalize os.getD i 0 = xv at *
      go_wp2_with fail
      go_quiet ((go_at_call 57; exact Calls.quiet_of_same (HMy.out _)))
      go_wp2_with fail
      go_roundw
      case rel =>
       refine ⟨i + 1, by omega, by go_num, ?_⟩
       obtain ⟨n, hn⟩ := hv.out
       exact ⟨n + nq, by rw [hn]; simp [World.drewN, Nat.add_assoc]⟩
      case measure => simp [intOf]; omega
     ·have hie : i = os.length := by omega
      subst hie
      obtain ⟨n, hn⟩ := hv.out
      have hfv : Fr [] W4 wr := by rw [hn]; exact Fr.drewN [] _ _
      have s0v := (hfv.cell (p := ⟨w.heap.size, 0, none⟩) (by show w.heap.size < _; omega) (by simp)).trans s0
      have HEnd : Hid (∀ W, Hid (Fr [] W4 W) → Calls Tryd.prog 58 #[.pointer (some ⟨w.heap.size + 1, 0, none⟩)] W fun e w' => e = .returned (.int .i64 (rEnd R.objs : Nat)) ∧ Hid (Fr [] W4 w')) := by
       intro W hW
       refine Calls.mono (rend_any _ _ R W (HR4.out.idle hW.out) HOK.out) ?_
       rintro e w' ⟨rfl, hf⟩
       exact ⟨rfl, hW.out.trans hf (by simp)⟩
      have F0 := mkHid hfv
      obtain ⟨fm, rfl⟩ : ∃ fm : Nat, of_ = (fm : Int) := ⟨of_.toNat, by omega⟩
      have HLn : Hid (∀ V, Calls Tryd.prog 59 #[.int .i64 (os.length : Int), .int .i64 (fm : Int)] V fun e w' => e = .returned (.int .i64 (lenN os.length fm : Nat)) ∧ w' = V) := fun V => refLen_any os.length fm V (by omega)
      have HCl : Hid (∀ V, Hid (Fr [] W4 V) → V.cell? ⟨X, 2, none⟩ = some (.int .i64 (fm : Int)) ∧ V.cell? ⟨X, 3, none⟩ = some (.slice p1 os.length c1) ∧ V.cell? ⟨w.heap.size, 0, none⟩ = some (.int .i64 (words : Int)) ∧ Hid (Fr [] W4 V)) := by
       intro V hV
       exact ⟨(hV.out.cell (p := ⟨X, 2, none⟩) hWs (by simp)).trans y2, (hV.out.cell (p := ⟨X, 3, none⟩) hWs (by simp)).trans y3, (hV.out.cell (p := ⟨w.heap.size, 0, none⟩) (by show w.heap.size < _; omega) (by simp)).trans s0, hV⟩
      have hfin := HW.out.of.fin
      have hlo : lenOf (os.length : Int) (fm : Int) = (lenN os.length fm : Nat) := lenOf_nat _ _
      have hbig : (rEnd R.objs : Int) + (lenN os.length fm : Int) ≤ (words : Int) := by
       rw [hfin, ← hlo]
       exact t9
      have hEN : (rEnd R.objs : Int) ≤ (words : Int) := by omega
      have hln := lenN_le os.length fm
      have HOkk : Hid (∀ V5, Hid (Fr [] W4 V5) → ∃ ENs : Nat, True) := fun V5 _ => ⟨0, trivial⟩
      have HV : Hid (Fr [] W4 wr) := hfv
      have HYs := mkHid (And.intro y0 (And.intro y1 (And.intro y2 y3)))
      have hbn := HW.out.of.born
      have hen : Hid (rEnd R.objs = rEnd R.objs) := rfl
      generalize hENd : rEnd R.objs = EN at *
      have HENd := mkHid hENd
      generalize lenN os.length fm = LN at *
      clear hlo t9 y2 y3 y0 y1 hrd hn hfin hENd hen HOkk hbn
      go_wp2_with fail
      have z9 : IntKind.i64.wrap ((EN : Int) + (LN : Int)) = (EN : Int) + (LN : Int) := by rw [iwrap]; unfold wrap64; omega
      go_region_held3 (fun w' => w'.cell? ⟨X, 2, none⟩ = some (.int .i64 (fm : Int)) ∧ w'.cell? ⟨X, 3, none⟩ = some (.slice p1 os.length c1) ∧ w'.cell? ⟨w.heap.size, 0, none⟩ = some (.int .i64 (words : Int)) ∧ Hid (Fr [] W4 w')) (exact HCl.out _ (by first | assumption | exact hid_drew (by assumption) | (go_split_ands; first | assumption | exact hid_drew (by assumption))))
       (first
        | (go_at_call 58; refine (HEnd.out _ (by first | assumption | (go_split_ands; first | assumption | exact hid_drew (by assumption)))).mono ?_; rintro e w' ⟨rfl, hf'⟩)
        | (go_at_call 59; refine (HLn.out _).mono ?_; rintro e w' ⟨rfl, rfl⟩))
      have F3 : Hid (Fr [] W4 w') := by assumption
      rename_i hheld
      clear hheld
      generalize w' = V5 at *
      have hR5 := HR4.out.idle F3.out
      obtain ⟨po, co, hov⟩ := hR5.ovIs
      have hbX5 := (F3.out.block _ (lt_of_heap HB4.out) (by simp)).trans HB4.out
      have hbr5 := hR5.top
      have hlr := lt_of_heap hbr5
      have hlX := lt_of_heap hbX5
      have hrn := hR5.ovNe
      have hXn : ∀ b, R.ov.ownBlock = some b → b ≠ X := fun b hb e => by
       rcases hR5.row.2 with ⟨q1, _⟩ | ⟨g1, cap1, cur1, q1, q2, q3, _⟩
       ·rw [q1] at hb; simp [Value.ownBlock] at hb
       ·rw [q1] at hb
        have a1 : g1 = b := by simpa [Value.ownBlock] using hb
        rw [a1, e, hbX5] at q3
        simp at q3
      have HKS : Hid (∀ W : World, Hid (∀ b, b = X ∨ b = w.heap.size + 1 → W.heap[b]? = V5.heap[b]?) → W.cell? ⟨X, 0, none⟩ = some (.int .i64 oo) ∧ W.cell? ⟨X, 1, none⟩ = some (.int .i64 oc) ∧ W.cell? ⟨X, 2, none⟩ = some (.int .i64 (fm : Int)) ∧ W.cell? ⟨X, 3, none⟩ = some (.slice p1 os.length c1) ∧ W.cell? ⟨w.heap.size + 1, 3, none⟩ = some (.int .i64 (R.born : Int)) ∧ W.cell? ⟨w.heap.size + 1, 5, none⟩ = some (.slice po R.objs.length co) ∧ W.frozen? ⟨w.heap.size + 1, 5, none⟩ = false ∧ W.frozen? ⟨w.heap.size + 1, 3, none⟩ = false) := by
       intro W hW
       have x1 := (hW.out X (.inl rfl)).trans hbX5
       have x2 := (hW.out (w.heap.size + 1) (.inr rfl)).trans hbr5
       rw [← hov]
       exact ⟨by rw [cell_in x1]; rfl, by rw [cell_in x1]; rfl, by rw [cell_in x1]; rfl, by rw [cell_in x1]; rfl, by rw [cell_in x2]; rfl, by rw [cell_in x2]; rfl, frozen_in x2 5, frozen_in x2 3⟩
      have HEnd5 : Hid (Calls Tryd.prog 58 #[.pointer (some ⟨w.heap.size + 1, 0, none⟩)] V5.drew fun e w' => e = .returned (.int .i64 (EN : Int)) ∧ Hid (Fr [] V5 w')) := by
       refine Calls.mono (rend_any _ _ R V5.drew (hR5.idle (Fr.drew [] _)) HOK.out) ?_
       rintro e w' ⟨rfl, hf⟩
       exact ⟨by rw [HENd.out], (Fr.drew [] _).trans hf (by simp)⟩
      have HCp : Hid (∀ w5 : World, Hid (Fr [] V5 w5) → ∃ p6 c6 w6, (Builtin.append_ #[80, 80] 80 #[.slice none 0 0, .slice p1 os.length c1]).run Tryd.prog w5 = .ok (.slice p6 os.length c6) w6 ∧ Hid (w6.ownsRow w5.heap.size 33 1 (.slice p6 os.length c6) os.length (os.map (Value.int .i64)) ∧ Fr [] w5 w6)) := by
       intro w5 h5
       obtain ⟨v6, w6, r1, r2, r3⟩ := run_copy os (.slice p1 os.length c1) w5 (HX4.out.idle (F3.out.trans h5.out (by simp)))
       obtain ⟨p6, c6, e6, _⟩ := own_slot r2
       subst e6
       exact ⟨p6, c6, w6, r1, r2, r3⟩
      have HRow : Hid (∀ (w5 w6 : World) (ob : Obj) (v : Value), Hid (Fr [] V5 w5) → Hid (w6.ownsRow w5.heap.size 33 1 v os.length (os.map (Value.int .i64)) ∧ Fr [] w5 w6) → (w6.alloc ob).ownsRow (w.heap.size + 1) 114 6 (.slice po R.objs.length co) R.objs.length (roCells R.objs)) := by
       intro w5 w6 ob v h5 h6
       have h56 := h5.out.trans h6.out.2 (by simp)
       rw [← hov]
       exact (own_congr hR5.row fun g hg => h56.block g (hR5.row.lt g hg).2 (by simp)).alloc _
      have HSz : Hid (∀ (w5 w6 : World) (v : Value), Hid (Fr [] V5 w5) → Hid (w6.ownsRow w5.heap.size 33 1 v os.length (os.map (Value.int .i64)) ∧ Fr [] w5 w6) → w.heap.size + 1 ≤ w6.heap.size) := by
       intro w5 w6 v h5 h6
       have := h5.out.size
       have := h6.out.2.size
       omega
      have HSy : Hid (∀ (w5 w6 : World) (v : Value), Hid (Fr [] V5 w5) → Hid (w6.ownsRow w5.heap.size 33 1 v os.length (os.map (Value.int .i64)) ∧ Fr [] w5 w6) → w.heap.size + 1 < w6.heap.size) := by
       intro w5 w6 v h5 h6
       have := h5.out.size
       have := h6.out.2.size
       omega
      have HK0 : Hid (∀ b, b = X ∨ b = w.heap.size + 1 → V5.drew.heap[b]? = V5.heap[b]?) := fun b _ => rfl
      have HK5 : Hid (∀ w5 : World, Hid (Fr [] V5 w5) → Hid (∀ b, b = X ∨ b = w.heap.size + 1 → w5.heap[b]? = V5.heap[b]?)) := fun w5 h5 b hb => h5.out.block b (by rcases hb with e | e <;> rw [e] <;> assumption) (by simp)
      have HK6 : Hid (∀ (w5 w6 : World) (v : Value), Hid (Fr [] V5 w5) → Hid (w6.ownsRow w5.heap.size 33 1 v os.length (os.map (Value.int .i64)) ∧ Fr [] w5 w6) → Hid (∀ b, b = X ∨ b = w.heap.size + 1 → w6.heap[b]? = V5.heap[b]?)) := fun w5 w6 v h5 h6 b hb => (h5.out.trans h6.out.2 (by simp)).block b (by rcases hb with e | e <;> rw [e] <;> assumption) (by simp)
      have HKa : Hid (∀ (w5 w6 : World) (v : Value) (ob : Obj), Hid (Fr [] V5 w5) → Hid (w6.ownsRow w5.heap.size 33 1 v os.length (os.map (Value.int .i64)) ∧ Fr [] w5 w6) → Hid (∀ b, b = X ∨ b = w.heap.size + 1 → (w6.alloc ob).heap[b]? = V5.heap[b]?)) := fun w5 w6 v ob h5 h6 b hb => ((h5.out.trans h6.out.2 (by simp)).trans (Fr.alloc [] _ _) (by simp)).block b (by rcases hb with e | e <;> rw [e] <;> assumption) (by simp)
      have HK7 : Hid (∀ (w5 w6 : World) (v : Value) (ob : Obj) (w7 : World), Hid (Fr [] V5 w5) → Hid (w6.ownsRow w5.heap.size 33 1 v os.length (os.map (Value.int .i64)) ∧ Fr [] w5 w6) → (w6.alloc ob).grownBy w7 (Value.slice po R.objs.length co).ownBlock → Hid (∀ b, b = X ∨ b = w.heap.size + 1 → w7.heap[b]? = V5.heap[b]?)) := by
       intro w5 w6 v ob w7 h5 h6 hg b hb
       have h56 := (h5.out.trans h6.out.2 (by simp)).trans (Fr.alloc [] w6 ob) (by simp)
       have hbl : b < V5.heap.size := by rcases hb with e | e <;> rw [e] <;> assumption
       have := h56.size
       rw [hg.block b (by omega) (fun e => by
        rw [← hov] at e
        rcases hb with e2 | e2
        ·exact hXn b e.symm e2
        ·exact hrn b e.symm e2)]
       exact h56.block b hbl (by simp)
      have hnl : R.objs.length ≤ 1048576 := HOK.out.len
      have hbs : (R.born : Int) ≤ 1048576 := by have e1 := HW.out.of.born; have e2 := HW.out.of.len; omega
      have HNx : Hid (∀ (w5 w6 : World) (p6 : Option Addr) (c6 g7 c7 : Nat) (w7 : World), Hid (Fr [] V5 w5) → Hid (w6.ownsRow w5.heap.size 33 1 (.slice p6 os.length c6) os.length (os.map (Value.int .i64)) ∧ Fr [] w5 w6) → (w6.alloc (.cells #[.int .i64 oo, .int .i64 (fm : Int), .int .i64 (EN : Int), .int .i64 (R.born : Int), .int .i64 oc, .slice p6 os.length c6] 114)).grownBy w7 (Value.slice po R.objs.length co).ownBlock → w7.ownsRow (w.heap.size + 1) 114 6 (.slice (some ⟨g7, 0, none⟩) (R.objs.length + 1) c7) (R.objs.length + 1) (roCells R.objs ++ [.int .i64 oo, .int .i64 (fm : Int), .int .i64 (EN : Int), .int .i64 (R.born : Int), .int .i64 oc, .slice p6 os.length c6]) → ((Value.slice po R.objs.length co).ownBlock = some g7 ∨ g7 = w6.heap.size + 1) → ∃ R', LdR w W1 words oops mark la (k + 1) ((w7.setCell ⟨w.heap.size + 1, 5, none⟩ (.slice (some ⟨g7, 0, none⟩) (R.objs.length + 1) c7)).setCell ⟨w.heap.size + 1, 3, none⟩ (.int .i64 ((R.born : Int) + 1))) R') := by
       intro w5 w6 p6 c6 g7 c7 w7 h5 h6 hg hown hat
       obtain ⟨q, hq⟩ : ∃ q : Nat, oo = (q : Int) := ⟨oo.toNat, by omega⟩
       have h56 : Fr [] V5 w6 := h5.out.trans h6.out.2 (by simp)
       have hs56 := h5.out.size
       rw [← hov] at hg hat
       have hroom5 : w.heap.size + 1 ≤ V5.heap.size := by omega
       have hnx := hR5.next (o := ⟨q, fm, EN, R.born, oc, os, .slice p6 os.length c6⟩) (v7 := .slice (some ⟨g7, 0, none⟩) (R.objs.length + 1) c7) (w7 := w7) (V := (w7.setCell ⟨w.heap.size + 1, 5, none⟩ (.slice (some ⟨g7, 0, none⟩) (R.objs.length + 1) c7)).setCell ⟨w.heap.size + 1, 3, none⟩ (.int .i64 ((R.born : Int) + 1))) h56 (own_base h6.out.1 hs56) hroom5 hrn (by rw [hq] at hg; exact hg) (by rw [hq] at hown; exact hown) (fun b hb e => by
        have e1 : g7 = b := by simpa [Value.ownBlock] using hb
        rcases hat with h1 | h1
        ·exact hrn g7 h1 (by omega)
        ·have := h56.size
         omega) ⟨rfl, rfl, rfl, rfl⟩
       have hkey : (la.take (k + 1)).map oiKey = (la.take k).map oiKey ++ [oiKey ⟨oo, oc, (fm : Int), os, .slice p1 os.length c1⟩] := by
        have h0 := H0.out
        rw [List.getElem?_eq_getElem hlt] at h0
        have h0' := Option.some.inj h0
        rw [List.take_succ_eq_append_getElem hlt, List.map_append, h0']
        rfl
       refine ⟨_, hnx, ?_, ?_⟩
       ·have hlo : ∀ b, R.ov.ownBlock = some b → w.heap.size + 1 ≤ b := fun b hb => (hR5.row.lt b hb).1
        have hF5 : Fr [] W1 V5 := HW.out.fr.trans (HF4.out.trans F3.out (by simp)) (by simp)
        have h6a : Fr [] V5 (w6.alloc (.cells #[.int .i64 oo, .int .i64 (fm : Int), .int .i64 (EN : Int), .int .i64 (R.born : Int), .int .i64 oc, .slice p6 os.length c6] 114)) := h56.trans (Fr.alloc [] _ _) (by simp)
        have hF7 : Fr [] W1 w7 := by
         refine ⟨hg.os.trans (h6a.os.trans hF5.os), hg.tape.trans (h6a.tape.trans hF5.tape), hg.output.trans (h6a.output.trans hF5.output), Nat.le_trans hF5.size (Nat.le_trans h6a.size hg.size), fun i hi hn => ?_⟩
         have := hF5.size
         have := h6a.size
         rw [hg.block i (by omega) (fun e => by have := hlo _ e.symm; omega), h6a.block i (by omega) (by simp)]
         exact hF5.block i hi (by simp)
        exact (hF7.trans (Fr.setCell (S := [w.heap.size + 1]) _ _ _ (by simp)) (fun b hb => by simp at hb; right; omega)).trans (Fr.setCell (S := [w.heap.size + 1]) _ _ _ (by simp)) (fun b hb => by simp at hb; right; omega)
       ·rw [hkey]
        have := HW.out.of.snoc ⟨q, fm, EN, R.born, oc, os, .slice p6 os.length c6⟩ (.slice (some ⟨g7, 0, none⟩) (R.objs.length + 1) c7) (by have h := HT.out; rw [hq] at h; exact h) HENd.out.symm rfl (fun x hx g hg e => by have h1 := (h6.out.1.lt g hg).1; have h2 := ((hR5.slots x hx).lt g e).2; omega)
        have e : roKey ⟨q, fm, EN, R.born, oc, os, .slice p6 os.length c6⟩ = oiKey ⟨oo, oc, (fm : Int), os, .slice p1 os.length c1⟩ := by simp [roKey, oiKey, hq]
        rw [e] at this
        exact this
      clear HSlot HCl HEnd HLn
      go_wp2_with fail
      refine wp_region_last (L := 25) (S := fun w' => w'.cell? ⟨X, 0, none⟩ = some (.int .i64 oo) ∧ w'.cell? ⟨X, 1, none⟩ = some (.int .i64 oc) ∧ w'.cell? ⟨X, 2, none⟩ = some (.int .i64 (fm : Int)) ∧ w'.cell? ⟨X, 3, none⟩ = some (.slice p1 os.length c1) ∧ w'.cell? ⟨w.heap.size + 1, 3, none⟩ = some (.int .i64 (R.born : Int)) ∧ w'.cell? ⟨w.heap.size + 1, 5, none⟩ = some (.slice po R.objs.length co) ∧ w'.frozen? ⟨w.heap.size + 1, 5, none⟩ = false ∧ w'.frozen? ⟨w.heap.size + 1, 3, none⟩ = false) (by kernel_rfl) (HKS.out _ HK0.out) (fun hHeld => ?_)
      refine wpLast_take (i := 0) (v := ?_) rfl (by kernel_rfl) (by kernel_rfl) (by kernel_rfl) (by decide) (by kernel_rfl) (fun _ _ _ h => h) (Or.inl ⟨by rfl, ?_⟩) (by assumption) ?_
      rotate_left
      ·(intro w hSw; (try dsimp only at hSw); first | (go_simp; done) | (go_simp; with_reducible rfl))
      try simp only [Act.put, qT, qZ, qS, qB, qY, qX]
      refine wpLast_take (i := 1) (v := ?_) rfl (by kernel_rfl) (by kernel_rfl) (by kernel_rfl) (by decide) (by kernel_rfl) (fun _ _ _ h => h) (Or.inl ⟨by rfl, ?_⟩) (by assumption) ?_
      rotate_left
      ·(intro w hSw; (try dsimp only at hSw); first | (go_simp; done) | (go_simp; with_reducible rfl))
      try simp only [Act.put, qT, qZ, qS, qB, qY, qX]
      refine wpLast_take (i := 2) (v := ?_) rfl (by kernel_rfl) (by kernel_rfl) (by kernel_rfl) (by decide) (by kernel_rfl) (fun _ _ _ h => h) (Or.inl ⟨by rfl, ?_⟩) (by assumption) ?_
      rotate_left
      ·(intro w hSw; (try dsimp only at hSw); first | (go_simp; done) | (go_simp; with_reducible rfl))
      try simp only [Act.put, qT, qZ, qS, qB, qY, qX]
      refine wpLast_take (i := 3) (v := ?_) rfl (by kernel_rfl) (by kernel_rfl) (by kernel_rfl) (by decide) (by kernel_rfl) (fun _ _ _ h => h) (Or.inl ⟨by rfl, ?_⟩) (by assumption) ?_
      rotate_left
      ·(intro w hSw; (try dsimp only at hSw); first | (go_simp; done) | (go_simp; with_reducible rfl))
      try simp only [Act.put, qT, qZ, qS, qB, qY, qX]
      refine wpLast_take (i := 4) (v := ?_) rfl (by kernel_rfl) (by kernel_rfl) (by kernel_rfl) (by decide) (by kernel_rfl) (fun _ _ _ h => h) (Or.inl ⟨by rfl, ?_⟩) (by assumption) ?_
      rotate_left
      ·(intro w hSw; (try dsimp only at hSw); first | (go_simp; done) | (go_simp; with_reducible rfl))
      try simp only [Act.put, qT, qZ, qS, qB, qY, qX]
      refine wpLast_take (i := 5) (v := ?_) rfl (by kernel_rfl) (by kernel_rfl) (by kernel_rfl) (by decide) (by kernel_rfl) (fun _ _ _ h => h) (Or.inl ⟨by rfl, ?_⟩) (by assumption) ?_
      rotate_left
      ·(intro w hSw; (try dsimp only at hSw); first | (go_simp; done) | (go_simp; with_reducible rfl))
      try simp only [Act.put, qT, qZ, qS, qB, qY, qX]
      refine wpLast_take (i := 6) (v := ?_) rfl (by kernel_rfl) (by kernel_rfl) (by kernel_rfl) (by decide) (by kernel_rfl) (fun _ _ _ h => h) (Or.inl ⟨by rfl, ?_⟩) (by assumption) ?_
      rotate_left
      ·(intro w hSw; (try dsimp only at hSw); first | (go_simp; done) | (go_simp; with_reducible rfl))
      try simp only [Act.put, qT, qZ, qS, qB, qY, qX]
      refine wpLast_take (i := 7) (v := ?_) rfl (by kernel_rfl) (by kernel_rfl) (by kernel_rfl) (by decide) (by kernel_rfl) (fun _ _ _ h => h) (Or.inl ⟨by rfl, ?_⟩) (by assumption) ?_
      rotate_left
      ·(intro w hSw; (try dsimp only at hSw); first | (go_simp; done) | (go_simp; with_reducible rfl))
      try simp only [Act.put, qT, qZ, qS, qB, qY, qX]
      refine wpLast_take (i := 8) (v := ?_) rfl (by kernel_rfl) (by kernel_rfl) (by kernel_rfl) (by decide) (by kernel_rfl) (fun _ _ _ h => h) (Or.inl ⟨by rfl, ?_⟩) (by assumption) ?_
      rotate_left
      ·(intro w hSw; (try dsimp only at hSw); first | (go_simp; done) | (go_simp; with_reducible rfl))
      try simp only [Act.put, qT, qZ, qS, qB, qY, qX]
      refine wpLast_take (i := 9) (v := ?_) rfl (by kernel_rfl) (by kernel_rfl) (by kernel_rfl) (by decide) (by kernel_rfl) (fun _ _ _ h => h) (Or.inl ⟨by rfl, ?_⟩) (by assumption) ?_
      rotate_left
      ·(intro w hSw; (try dsimp only at hSw); first | (go_simp; done) | (go_simp; with_reducible rfl))
      try simp only [Act.put, qT, qZ, qS, qB, qY, qX]
      refine wpLast_take (i := 11) (v := ?_) rfl (by kernel_rfl) (by kernel_rfl) (by kernel_rfl) (by decide) (by kernel_rfl) (fun _ _ _ h => h) (Or.inl ⟨by rfl, ?_⟩) (by assumption) ?_
      rotate_left
      ·(intro w hSw; (try dsimp only at hSw); first | (go_simp; done) | (go_simp; with_reducible rfl))
      try simp only [Act.put, qT, qZ, qS, qB, qY, qX]
      refine wpLast_take (i := 12) (v := ?_) rfl (by kernel_rfl) (by kernel_rfl) (by kernel_rfl) (by decide) (by kernel_rfl) (fun _ _ _ h => h) (Or.inl ⟨by rfl, ?_⟩) (by assumption) ?_
      rotate_left
      ·(intro w hSw; (try dsimp only at hSw); first | (go_simp; done) | (go_simp; with_reducible rfl))
      try simp only [Act.put, qT, qZ, qS, qB, qY, qX]
      refine wpLast_take (i := 13) (v := ?_) rfl (by kernel_rfl) (by kernel_rfl) (by kernel_rfl) (by decide) (by kernel_rfl) (fun _ _ _ h => h) (Or.inl ⟨by rfl, ?_⟩) (by assumption) ?_
      rotate_left
      ·(intro w hSw; (try dsimp only at hSw); first | (go_simp; done) | (go_simp; with_reducible rfl))
      try simp only [Act.put, qT, qZ, qS, qB, qY, qX]
      refine wpLast_take (i := 14) (v := ?_) rfl (by kernel_rfl) (by kernel_rfl) (by kernel_rfl) (by decide) (by kernel_rfl) (fun _ _ _ h => h) (Or.inl ⟨by rfl, ?_⟩) (by assumption) ?_
      rotate_left
      ·(intro w hSw; (try dsimp only at hSw); first | (go_simp; done) | (go_simp; with_reducible rfl))
      try simp only [Act.put, qT, qZ, qS, qB, qY, qX]
      refine wpLast_take (i := 15) (v := ?_) rfl (by kernel_rfl) (by kernel_rfl) (by kernel_rfl) (by decide) (by kernel_rfl) (fun _ _ _ h => h) (Or.inl ⟨by rfl, ?_⟩) (by assumption) ?_
      rotate_left
      ·(intro w hSw; (try dsimp only at hSw); first | (go_simp; done) | (go_simp; with_reducible rfl))
      try simp only [Act.put, qT, qZ, qS, qB, qY, qX]
      refine wpLast_take (i := 16) (v := ?_) rfl (by kernel_rfl) (by kernel_rfl) (by kernel_rfl) (by decide) (by kernel_rfl) (fun _ _ _ h => h) (Or.inl ⟨by rfl, ?_⟩) (by assumption) ?_
      rotate_left
      ·(intro w hSw; (try dsimp only at hSw); first | (go_simp; done) | (go_simp; with_reducible rfl))
      try simp only [Act.put, qT, qZ, qS, qB, qY, qX]
      refine wpLast_take (i := 17) (v := ?_) rfl (by kernel_rfl) (by kernel_rfl) (by kernel_rfl) (by decide) (by kernel_rfl) (fun _ _ _ h => h) (Or.inl ⟨by rfl, ?_⟩) (by assumption) ?_
      rotate_left
      ·(intro w hSw; (try dsimp only at hSw); first | (go_simp; done) | (go_simp; with_reducible rfl))
      try simp only [Act.put, qT, qZ, qS, qB, qY, qX]
      refine wpLast_take (i := 18) (v := ?_) rfl (by kernel_rfl) (by kernel_rfl) (by kernel_rfl) (by decide) (by kernel_rfl) (fun _ _ _ h => h) (Or.inl ⟨by rfl, ?_⟩) (by assumption) ?_
      rotate_left
      ·(intro w hSw; (try dsimp only at hSw); first | (go_simp; done) | (go_simp; with_reducible rfl))
      try simp only [Act.put, qT, qZ, qS, qB, qY, qX]
      refine wpLast_one (i := 10) (by kernel_rfl) rfl (by decide) (fun K hK => ?_)
      go_simp
      go_wp2_with (go_at_call 58; refine HEnd5.out.mono ?_; rintro e w5 ⟨rfl, hf5⟩)
      refine hK.out _ _ (HKS.out _ (HK5.out w5 hf5)) (fun hHeld => ?_)
      clear hK K
      try simp only [Act.put, qT, qZ, qS, qB, qY, qX]
      refine wpLast_one (i := 19) (by kernel_rfl) rfl (by decide) (fun K hK => ?_)
      obtain ⟨p6, c6, w6, hr6, hf6⟩ := HCp.out w5 hf5
      refine step_append_run rfl (.const (.slice none 0 0)) (.tmp 141) 80 80 rfl (.slice none 0 0) (.slice p1 os.length c1) rfl (by simp [Act.eval, Act.put]) _ _ hr6 ?_
      refine hK.out _ _ (HKS.out _ (HK6.out w5 w6 _ hf5 hf6)) (fun hHeld => ?_)
      clear hK K
      try simp only [Act.put, qT, qZ, qS, qB, qY, qX]
      refine wpLast_take (i := 20) (v := ?_) rfl (by kernel_rfl) (by kernel_rfl) (by kernel_rfl) (by decide) (by kernel_rfl) (fun _ _ _ h => h) (Or.inl ⟨by rfl, ?_⟩) (by assumption) ?_
      rotate_left
      ·(intro w hSw; (try dsimp only at hSw); first | (go_simp; done) | (go_simp; with_reducible rfl))
      try simp only [Act.put, qT, qZ, qS, qB, qY, qX]
      refine wpLast_one (i := 21) (by kernel_rfl) rfl (by decide) (fun K hK => ?_)
      go_simp
      refine hK.out _ _ (HKS.out _ (HKa.out w5 w6 _ _ hf5 hf6)) (fun hHeld => ?_)
      clear hK K
      try simp only [Act.put, qT, qZ, qS, qB, qY, qX]
      refine wpLast_one (i := 22) (by kernel_rfl) rfl (by decide) (fun K hK => ?_)
      refine step_append_lies _ rfl (.tmp 127) (.tmp 144) 109 rfl (w.heap.size + 1) 114 i114 (.agg #[.int .i64 0, .int .i64 0, .int .i64 0, .int .i64 0, .int .i64 0, .slice none 0 0]) 6 64 Tryd.underlying109 ii114 iz114 is114 ib114 rfl (by decide) (.slice po R.objs.length co) R.objs.length (roCells R.objs) (by simp [Act.eval]) (HRow.out w5 w6 _ _ hf5 hf6) ⟨w6.heap.size, 0, none⟩ 1 1 [.int .i64 oo, .int .i64 (fm : Int), .int .i64 (EN : Int), .int .i64 (R.born : Int), .int .i64 oc, .slice p6 os.length c6] (by simp [Act.eval]) rfl (World.news_of_block (heap_alloc_new w6 _)) (by simp [Value.oneCell']) (by decide) (by unfold maxLen; omega) (by omega) (by have := HSz.out w5 w6 _ hf5 hf6; simp; omega) (w6.heap.size + 1) (by simp) ?_
      intro g7 c7 w7 hown7 hgrow7 hat7 hlt7
      refine hK.out _ _ (HKS.out _ (HK7.out w5 w6 _ _ w7 hf5 hf6 hgrow7)) (fun hHeld => ?_)
      clear hK K
      try simp only [Act.put, qT, qZ, qS, qB, qY, qX]
      refine wpLast_one (i := 23) (by kernel_rfl) rfl (by decide) (fun K hK => ?_)
      go_simp
      refine hK.out _ _ (HKS.out _ (HK7.out w5 w6 _ _ w7 hf5 hf6 hgrow7)) (fun hHeld => ?_)
      clear hK K
      try simp only [Act.put, qT, qZ, qS, qB, qY, qX]
      refine wpLast_one (i := 24) (by kernel_rfl) rfl (by decide) (fun K hK => ?_)
      go_simp
      refine hK.out _ _ (HKS.out _ (HK7.out w5 w6 _ _ w7 hf5 hf6 hgrow7)) (fun hHeld => ?_)
      clear hK K
      try simp only [Act.put, qT, qZ, qS, qB, qY, qX]
      refine wpLast_end (by kernel_rfl) rfl (by kernel_rfl) (fun K hK => ?_)
      go_simp
      refine hK.out _ _ ?_
      clear hK K
      try simp only [Act.put, qT, qZ, qS, qB, qY, qX]
      have hS7 := HKS.out w7 (HK7.out w5 w6 _ _ w7 hf5 hf6 hgrow7)
      obtain ⟨-, -, -, -, d3, d5, f5, f3⟩ := hS7
      have HNx2 := mkHid (HNx.out w5 w6 p6 c6 g7 c7 w7 hf5 hf6 hgrow7 hown7 hat7)
      go_wp2_with fail
      go_roundw
      case rel => exact ⟨k + 1, by omega, by go_num, HNx2.out⟩
      case measure => simp [intOf]; omega
   ·have ht : takesK words oops ((la.take k).map oiKey) (oo, oc, of_, os) = false := Bool.eq_false_iff.2 ht
    have HT := mkHid ht
    have HE : Hid (∀ V, Hid (Fr [] W4 V) → ∃ k o, Fr [] w V ∧ la[k]? = some o ∧ takesK words oops ((la.take k).map oiKey) (oiKey o) = false) := fun V hV => ⟨k, _, FW4.out.trans hV.out (by simp), H0.out, HT.out⟩
    rcases takesK_no ht with t | ⟨t1, t⟩ | ⟨t1, t2, t⟩ | ⟨t1, t2, t3, t⟩
    ·clear ht
     dsimp only at t
     go_wp2_with fail
     go_ret2
     obtain ⟨k', o', q1, q2, q3⟩ := HE.out W4 (Fr.refl _ _)
     rw [hW4] at q1
     exact .inr ⟨k', o', rfl, q1, q2, q3⟩
    ·clear ht
     dsimp only at t t1
     go_wp2_with fail
     go_ret2
     obtain ⟨k', o', q1, q2, q3⟩ := HE.out W4 (Fr.refl _ _)
     rw [hW4] at q1
     exact .inr ⟨k', o', rfl, q1, q2, q3⟩
    ·clear ht
     dsimp only at t t1 t2
     have HFd := mkHid (find_yes oo _ _ R W4 HR4.out HOK.out.len (by rw [HKs.out]; exact t))
     go_wp2_with fail
     rw [← hW4]
     clear hW4
     refine Calls.mono HFd.out ?_
     rintro e w' ⟨z, rfl, hw'⟩
     rw [hw']
     clear hw' w'
     have hz0 : (0 : Int) ≤ (z : Int) := by omega
     go_wp2_with fail
     go_ret2
     obtain ⟨k', o', q1, q2, q3⟩ := HE.out W4 (Fr.refl _ _)
     exact .inr ⟨k', o', rfl, q1, q2, q3⟩
    ·have HFd := mkHid (find_no oo _ _ R W4 HR4.out HOK.out.len (by rw [HKs.out]; exact t3))
     clear ht
     dsimp only at t t1 t2
     go_wp2_with fail
     rw [← hW4]
     clear hW4
     refine Calls.mono HFd.out ?_
     rintro e w' ⟨rfl, hw'⟩
     rw [hw']
     clear hw' w' HFd t3
     rcases t with t | ⟨t4, t⟩
     ·have hk0 : kindOf oc = 0 := by simpa [isW] using t
      rw [hk0] at HKd
      go_wp2_with (go_at_call 56; refine Calls.mono HKd.out ?_; rintro e w' ⟨rfl, hw'⟩; rw [hw']; clear hw' w')
      go_ret2
      obtain ⟨k', o', q1, q2, q3⟩ := HE.out W4 (Fr.refl _ _)
      exact .inr ⟨k', o', rfl, q1, q2, q3⟩
     ·have hk0 : (kindOf oc == 0) = false := by simpa [isW] using t4
      generalize kindOf oc = kz at *
      go_wp2_with fail
      refine Calls.mono HKd.out ?_
      rintro e w' ⟨rfl, hw'⟩
      rw [hw']
      clear hw' w' HKd
      rcases t with t | ⟨t5, t⟩ | ⟨t5, t6, t⟩
      ·go_wp2_with fail
       go_ret2
       obtain ⟨k', o', q1, q2, q3⟩ := HE.out W4 (Fr.refl _ _)
       exact .inr ⟨k', o', rfl, q1, q2, q3⟩
      ·go_wp2_with fail
       go_ret2
       obtain ⟨k', o', q1, q2, q3⟩ := HE.out W4 (Fr.refl _ _)
       exact .inr ⟨k', o', rfl, q1, q2, q3⟩
      ·rcases t with t | ⟨t7, t⟩
       ·go_wp2_with fail
        go_ret2
        obtain ⟨k', o', q1, q2, q3⟩ := HE.out W4 (Fr.refl _ _)
        exact .inr ⟨k', o', rfl, q1, q2, q3⟩
       ·have HSlot : Hid (∀ V, Hid (∃ n, V = W4.drewN n) → V.cell? ⟨wr.heap.size, 2, none⟩ = some (.int .i64 of_) ∧ V.cell? ⟨wr.heap.size, 3, none⟩ = some (.slice p1 os.length c1) ∧ (0 < os.length → ∃ g off, p1 = some ⟨g, off, none⟩ ∧ ∀ i, i < os.length → V.cell? ⟨g, off + i, none⟩ = some (.int .i64 (os.getD i 0)))) := by
         intro V hV
         obtain ⟨n, hn⟩ := hV.out
         obtain ⟨p', c', ee, hh⟩ := HX4.out.at_
         injection ee with ee _ _
         subst ee
         rw [hn]
         refine ⟨y2, y3, fun hp => ?_⟩
         obtain ⟨g', off', g1, g2, g3⟩ := hh hp
         exact ⟨g', off', g1, g3⟩
        have hWs : wr.heap.size < W4.heap.size := lt_of_heap HB4.out
        generalize hX : wr.heap.size = X at *
        rcases t with ⟨J, j1, j2, j3⟩ | ⟨t8, t9⟩
        ·have HJ := mkHid (And.intro j2 j3)
         clear j2 j3
         go_wp2_with fail
         go_loopw [7] (fun qq wv => ∃ i : Nat, i ≤ J ∧ qq = .int .i64 i ∧ Hid (∃ n, wv = W4.drewN n)) (fun qq _ => os.length - (intOf qq).toNat)
         case atStart => exact ⟨0, Nat.zero_le _, rfl, 0, rfl⟩
         case round =>
          obtain ⟨i, hiJ, rfl, hv⟩ := hrel
          obtain ⟨z2, z3, hrd⟩ := HSlot.out _ hv
          obtain ⟨g', off', rfl, hcc⟩ := hrd (by omega)
          have zi := hcc i (by omega)
          have i1 : (0 : Int) ≤ (i : Int) := by omega
          have i2 : (i : Int) < (os.length : Int) := by omega
          have hmy := fun V => rmay_any (os.getD i 0) of_ V
          by_cases hiE : i = J
          ·subst hiE
           rw [HJ.out.2] at hmy
           have HMy := mkHid hmy
           clear hmy hcc hrd y0 y1 y2 y3
           generalize os.getD i 0 = xv at *
           go_wp2_with fail
           go_quiet ((go_at_call 57; exact Calls.quiet_of_same (HMy.out _)))
           go_wp2_with fail
           go_ret2
           obtain ⟨n, hn⟩ := hv.out
           obtain ⟨k', o', q1, q2, q3⟩ := HE.out ((W4.drewN n).drewN nq) ((Fr.drewN [] _ _).trans (Fr.drewN [] _ _) (by simp))
           refine .inr ⟨k', o', rfl, ?_, q2, q3⟩
           rw [hn]
           exact q1
          ·rw [HJ.out.1 i (by omega)] at hmy
           have HMy := mkHid hmy
           clear hmy hcc hrd y0 y1 y2 y3
           generalize os.getD i 0 = xv at *
           go_wp2_with fail
           go_quiet ((go_at_call 57; exact Calls.quiet_of_same (HMy.out _)))
           go_wp2_with fail
           go_roundw
           case rel =>
            refine ⟨i + 1, by omega, by go_num, ?_⟩
            obtain ⟨n, hn⟩ := hv.out
            exact ⟨n + nq, by rw [hn]; simp [World.drewN, Nat.add_assoc]⟩
           case measure => simp [intOf]; omega
        ·have HJ := mkHid t8
         clear t8
         go_wp2_with fail
         go_loopw [7] (fun qq wv => ∃ i : Nat, i ≤ os.length ∧ qq = .int .i64 i ∧ Hid (∃ n, wv = W4.drewN n)) (fun qq _ => os.length - (intOf qq).toNat)
         case atStart => exact ⟨0, Nat.zero_le _, rfl, 0, rfl⟩
         case round =>
          obtain ⟨i, hiJ, rfl, hv⟩ := hrel
          obtain ⟨z2, z3, hrd⟩ := HSlot.out _ hv
          have i1 : (0 : Int) ≤ (i : Int) := by omega
          by_cases hiE : i < os.length
          ·obtain ⟨g', off', rfl, hcc⟩ := hrd (by omega)
           have zi := hcc i (by omega)
           have i2 : (i : Int) < (os.length : Int) := by omega
           have hmy := fun V => rmay_any (os.getD i 0) of_ V
           rw [HJ.out i (by omega)] at hmy
           have HMy := mkHid hmy
           clear hmy hcc hrd y0 y1 y2 y3
           generalize os.getD i 0 = xv at *
           go_wp2_with fail
           go_quiet ((go_at_call 57; exact Calls.quiet_of_same (HMy.out _)))
           go_wp2_with fail
           go_roundw
           case rel =>
            refine ⟨i + 1, by omega, by go_num, ?_⟩
            obtain ⟨n, hn⟩ := hv.out
            exact ⟨n + nq, by rw [hn]; simp [World.drewN, Nat.add_assoc]⟩
           case measure => simp [intOf]; omega
          ·have hie : i = os.length := by omega
           subst hie
           obtain ⟨n, hn⟩ := hv.out
           have hfv : Fr [] W4 wr := by rw [hn]; exact Fr.drewN [] _ _
           have s0v := (hfv.cell (p := ⟨w.heap.size, 0, none⟩) (by show w.heap.size < _; omega) (by simp)).trans s0
           have HEnd : Hid (∀ W, Hid (Fr [] W4 W) → Calls Tryd.prog 58 #[.pointer (some ⟨w.heap.size + 1, 0, none⟩)] W fun e w' => e = .returned (.int .i64 (rEnd R.objs : Nat)) ∧ Hid (Fr [] W4 w')) := by
            intro W hW
            refine Calls.mono (rend_any _ _ R W (HR4.out.idle hW.out) HOK.out) ?_
            rintro e w' ⟨rfl, hf⟩
            exact ⟨rfl, hW.out.trans hf (by simp)⟩
           have F0 := mkHid hfv
           obtain ⟨fm, rfl⟩ : ∃ fm : Nat, of_ = (fm : Int) := ⟨of_.toNat, by omega⟩
           have HLn : Hid (∀ V, Calls Tryd.prog 59 #[.int .i64 (os.length : Int), .int .i64 (fm : Int)] V fun e w' => e = .returned (.int .i64 (lenN os.length fm : Nat)) ∧ w' = V) := fun V => refLen_any os.length fm V (by omega)
           have HCl : Hid (∀ V, Hid (Fr [] W4 V) → V.cell? ⟨X, 2, none⟩ = some (.int .i64 (fm : Int)) ∧ V.cell? ⟨X, 3, none⟩ = some (.slice p1 os.length c1) ∧ V.cell? ⟨w.heap.size, 0, none⟩ = some (.int .i64 (words : Int)) ∧ Hid (Fr [] W4 V)) := by
            intro V hV
            exact ⟨(hV.out.cell (p := ⟨X, 2, none⟩) hWs (by simp)).trans y2, (hV.out.cell (p := ⟨X, 3, none⟩) hWs (by simp)).trans y3, (hV.out.cell (p := ⟨w.heap.size, 0, none⟩) (by show w.heap.size < _; omega) (by simp)).trans s0, hV⟩
           have hfin := HW.out.of.fin
           have hlo : lenOf (os.length : Int) (fm : Int) = (lenN os.length fm : Nat) := lenOf_nat _ _
           have hbig : (words : Int) < (rEnd R.objs : Int) + (lenN os.length fm : Int) := by
            skip
            rw [hfin, ← hlo]
            exact t9
           have hEN : (rEnd R.objs : Int) ≤ (words : Int) := by rw [hfin]; exact HW.out.of.fits
           have hln := lenN_le os.length fm
           generalize rEnd R.objs = EN at *
           generalize lenN os.length fm = LN at *
           clear hlo t9 y2 y3 y0 y1 hrd hn hfin
           go_wp2_with fail
           have z9 : IntKind.i64.wrap ((EN : Int) + (LN : Int)) = (EN : Int) + (LN : Int) := by rw [iwrap]; unfold wrap64; omega
           go_region_held3 (fun w' => w'.cell? ⟨X, 2, none⟩ = some (.int .i64 (fm : Int)) ∧ w'.cell? ⟨X, 3, none⟩ = some (.slice p1 os.length c1) ∧ w'.cell? ⟨w.heap.size, 0, none⟩ = some (.int .i64 (words : Int)) ∧ Hid (Fr [] W4 w')) (exact HCl.out _ (by first | assumption | exact hid_drew (by assumption) | (go_split_ands; first | assumption | exact hid_drew (by assumption))))
            (first
             | (go_at_call 58; refine (HEnd.out _ (by first | assumption | (go_split_ands; first | assumption | exact hid_drew (by assumption)))).mono ?_; rintro e w' ⟨rfl, hf'⟩)
             | (go_at_call 59; refine (HLn.out _).mono ?_; rintro e w' ⟨rfl, rfl⟩))
           have F3 : Hid (Fr [] W4 w') := by assumption
           go_wp2_with fail
           go_ret2
           obtain ⟨k', o', q1, q2, q3⟩ := HE.out w' F3
           exact .inr ⟨k', o', rfl, q1, q2, q3⟩
  ·have hke : k = la.length := by omega
   subst hke
   clear hqq
   have HW := mkHid hw
   clear hw
   go_wp2_with fail
   go_ret2
   exact .inl ⟨R, rfl, ⟨HW.out.rep, F1.out.trans HW.out.fr (by simp), HW.out.of⟩⟩
end Go.Proofs.YtklfnjlenbgmoaaDoor
