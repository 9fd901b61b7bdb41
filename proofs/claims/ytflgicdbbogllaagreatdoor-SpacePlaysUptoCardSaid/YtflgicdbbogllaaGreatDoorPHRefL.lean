import Derived.Test.YtflgicdbbogllaaGreatDoorPG20HPlW
import Derived.Deep.RegionHeldLaw
set_option maxHeartbeats 2000000
set_option maxRecDepth 20000
set_option linter.unusedSimpArgs false
set_option linter.unusedVariables false
namespace Go.Proofs.YtflgicdbbogllaaGreatDoor
open Go.RowKit Tryz
open Value (int)
open IntKind (i64)
attribute [local go_sem ↓] wp_at_zero wp_at_succ
theorem kOo : (prog.info? 143).map (fun i => (i.zero, i.size, i.bytes)) = some (some (.agg #[int i64 0, int i64 0, int i64 0, int i64 0, int i64 0, .slice none 0 0]), 6, 64) := by kernel_rfl
structure LdR (w W1 : World) (fH fM mark : Nat) (la : List OI) (k : Nat) (wr : World) (R : RS) : Prop where
 rep : RRep wr (w.heap.size + 1) (w.heap.size + 1) R
 fr : Fr [] W1 wr
 of : ROf fH fM mark ((la.take k).map kAU) R
theorem kJs (fH fM mark : Nat) (ov : Value) (la : List OI) (w : World) (ha : SAt w ov la) (h1 : (fH : Int) ≤ 1048576) (h2 : (fM : Int) ≤ 65536) (hm : (mark : Int) ≤ 1073741824) :
  Calls prog 118 #[.agg #[int i64 fH, int i64 fM, int i64 mark, ov]] w fun e w' =>
   (∃ R, e = .returned (.tuple #[.pointer (some ⟨w.heap.size + 1, 0, none⟩), int i64 0]) ∧ LdR w w fH fM mark la la.length w' R) ∨
   (∃ k o, e = .returned (.tuple #[.pointer none, int i64 27]) ∧ Fr [] w w' ∧ la[k]? = some o ∧ kCB fH fM ((la.take k).map kAU) (kAU o) = false) := by
 have HA := kAA ha;have hl := ha.short;obtain ⟨p, c, rfl, -⟩ := ha.at_;obtain ⟨W1, hW1⟩ := jex (w.alloc (.cells #[int i64 fH, int i64 fM, int i64 mark, .slice p la.length c] 82));have F1 : Hid (Fr [] w W1) := by rw [hW1]; exact Fr.alloc [] _ _
 have hS1 : W1.heap.size = w.heap.size + 1 := by rw [hW1]; simp
 have hb1 : W1.heap[w.heap.size]? = some (.cells #[int i64 fH, int i64 fM, int i64 mark, .slice p la.length c] 82 (0, 0)) := by rw [hW1]; exact heap_alloc_new _ _
 have HB1 := kAA hb1;have a0 : W1.cell? ⟨w.heap.size, 0, none⟩ = some (int i64 fH) := by rw [kAC hb1]; rfl
 have a1 : W1.cell? ⟨w.heap.size, 1, none⟩ = some (int i64 fM) := by rw [kAC hb1]; rfl
 have a2 : W1.cell? ⟨w.heap.size, 2, none⟩ = some (int i64 mark) := by rw [kAC hb1]; rfl
 have hz1 : w.heap.size < W1.heap.size := by omega
 obtain ⟨i114, ii114, iz114, is114, ib114⟩ := info_parts kOo;clear ha hb1;go_enter func118, ntmps118
 go_wp2_with fail
 rw [← hW1];clear hW1
 go_loopw [5] (fun qq wr => ∃ k : Nat, k ≤ la.length ∧ qq = int i64 k ∧ Hid (∃ R, LdR w W1 fH fM mark la k wr R)) (fun qq _ => la.length - (intOf qq).toNat)
 case atStart =>
  refine ⟨0, jAH _, rfl, ⟨fH, fM, mark, 0, 0, [], .slice none 0 0⟩, ⟨⟨jAD _, ?_, jAS _ _ _ _, fun o ho => by simp at ho⟩, Fr.alloc [] _ _, ROf.nil fH fM mark _⟩⟩;have := heap_alloc_new W1 (.cells #[int i64 fH, int i64 fM, int i64 mark, int i64 0, int i64 0, .slice none 0 0] 99);rw [hS1] at this;exact this
 case round =>
  obtain ⟨k, hkn, rfl, hqq⟩ := hrel;obtain ⟨R, hw⟩ := hqq.out;have b0 := (hw.fr.block _ (kAB HB1.out) (by simp)).trans HB1.out;have e0 : wr.cell? ⟨w.heap.size, 0, none⟩ = some (int i64 fH) := by rw [kAC b0]; rfl
  have e1 : wr.cell? ⟨w.heap.size, 1, none⟩ = some (int i64 fM) := by rw [kAC b0]; rfl
  have e3 : wr.cell? ⟨w.heap.size, 3, none⟩ = some (.slice p la.length c) := by rw [kAC b0]; rfl
  have hz := kAB b0;have Fk := F1.out.trans hw.fr (by simp);have k1 := ng k
  by_cases hlt : k < la.length
  ·have k2 : (k : Int) < la.length := by omega
   have hAk := HA.out.fK Fk;obtain ⟨p', c', ee, hpa⟩ := hAk.at_
   injection ee with ee eeb eec
   subst ee;subst eec;clear eeb;obtain ⟨g, off, rfl, hca⟩ := hpa (by omega);obtain ⟨o, h0, x0, x1, x2, x3⟩ := hca k hlt;have x4 := hAk.fB o (jAn h0);obtain ⟨oo, oc, of_, os, ov⟩ := o;dsimp only at *;obtain ⟨p1, c1, rfl, -⟩ := x4.at_;have hgb : g < wr.heap.size := jAf wr _ x0;have hok := hw.of.ok (by omega);obtain ⟨W4, hW4⟩ := jex (wr.alloc (.cells #[int i64 oo, int i64 oc, int i64 of_, .slice p1 os.length c1] 139));have F4 : Fr [] wr W4 := by rw [hW4]; exact Fr.alloc [] _ _
   have hB4 : W4.heap[wr.heap.size]? = some (.cells #[int i64 oo, int i64 oc, int i64 of_, .slice p1 os.length c1] 139 (0, 0)) := by rw [hW4]; exact heap_alloc_new _ _
   have hR4 := hw.rep.fK F4;have FW4 : Hid (Fr [] w W4) := Fk.trans F4 (by simp);have y0 : W4.cell? ⟨wr.heap.size, 0, none⟩ = some (int i64 oo) := by rw [kAC hB4]; rfl
   have y1 : W4.cell? ⟨wr.heap.size, 1, none⟩ = some (int i64 oc) := by rw [kAC hB4]; rfl
   have y2 : W4.cell? ⟨wr.heap.size, 2, none⟩ = some (int i64 of_) := by rw [kAC hB4]; rfl
   have y3 : W4.cell? ⟨wr.heap.size, 3, none⟩ = some (.slice p1 os.length c1) := by rw [kAC hB4]; rfl
   have s0 := (F4.cell (p := ⟨w.heap.size, 0, none⟩) (by show w.heap.size < _; omega) (by simp)).trans e0;have s1 := (F4.cell (p := ⟨w.heap.size, 1, none⟩) (by show w.heap.size < _; omega) (by simp)).trans e1;have s3 := (F4.cell (p := ⟨w.heap.size, 3, none⟩) (by show w.heap.size < _; omega) (by simp)).trans e3;have HX4 := kAA (x4.fK F4);have HW := kAA hw;have HOK := kAA hok;have HF4 := kAA F4;have H0 := kAA h0;have HB4 := kAA hB4;have HR4 := kAA hR4;have HKs := kAA hw.of.keys;have hKd := kBY oc W4;have HKd := kAA hKd;clear hqq hw b0 Fk hAk hpa hca x4 hok F4 hB4 hR4 h0 hKd
   by_cases ht : kCB fH fM ((la.take k).map kAU) (oo, oc, of_, os) = true
   ·obtain ⟨t1, t2, t3, t4, t5, t6, t7, t8⟩ := kDr ht;have HFd := kAA (kKT oo _ _ R W4 HR4.out HOK.out.len (by rw [HKs.out]; exact t3));have HT := kAA ht;have HJ := kAA t7;have t1 : (1 : Int) ≤ oo := t1;have t2 : oo ≤ (fM : Int) := t2;have hk0 : (kAJ oc == 0) = false := by simpa [isW] using t4
    have hff : of_ = 0 ∨ of_ = 1 := by simpa [isF] using t5
    have hf0 : (0 : Int) ≤ of_ := by omega
    have hf1 : of_ ≤ 1 := by omega
    have t6 : (os.length : Int) ≤ 8192 := t6;have t9 : endK ((la.take k).map kAU) + kBd (os.length : Int) of_ ≤ (fH : Int) := t8;clear ht t3 t7 t4 t5 t8 hff;generalize kAJ oc = kz at *
    go_wp2_with fail
    rw [← hW4];clear hW4;refine HFd.out.mono ?_;rintro e w' ⟨rfl, hw'⟩;rw [hw'];clear hw' w' HFd
    go_wp2_with fail
    refine HKd.out.mono ?_;rintro e w' ⟨rfl, hw'⟩;rw [hw'];clear hw' w' HKd
    have HSlot : Hid (∀ V, Hid (∃ n, V = W4.drewN n) → V.cell? ⟨wr.heap.size, 2, none⟩ = some (int i64 of_) ∧ V.cell? ⟨wr.heap.size, 3, none⟩ = some (.slice p1 os.length c1) ∧ (0 < os.length → ∃ g off, p1 = some ⟨g, off, none⟩ ∧ ∀ i, i < os.length → V.cell? ⟨g, off + i, none⟩ = some (int i64 (os.getD i 0)))) := by
     intro V hV;obtain ⟨n, hn⟩ := hV.out;obtain ⟨p', c', ee, hh⟩ := HX4.out.at_
     injection ee with ee _ _
     subst ee;rw [hn];refine ⟨y2, y3, fun hp => ?_⟩;obtain ⟨g', off', g1, g2, g3⟩ := hh hp;exact ⟨g', off', g1, g3⟩
    have hWs : wr.heap.size < W4.heap.size := kAB HB4.out;generalize hX : wr.heap.size = X at *
    go_wp2_with fail
    go_loopw [7] (fun qq wv => ∃ i : Nat, i ≤ os.length ∧ qq = int i64 i ∧ Hid (∃ n, wv = W4.drewN n)) (fun qq _ => os.length - (intOf qq).toNat)
    case atStart => exact ⟨0, jAH _, rfl, 0, rfl⟩
    case round =>
     obtain ⟨i, hiJ, rfl, hv⟩ := hrel;obtain ⟨z2, z3, hrd⟩ := HSlot.out _ hv;have i1 := ng i
     by_cases hiE : i < os.length
     ·obtain ⟨g', off', rfl, hcc⟩ := hrd (by omega);have zi := hcc i (by omega);have i2 : (i : Int) < os.length := by omega
      have hmy := fun V => kDm (os.getD i 0) of_ V
      rw [HJ.out i (by omega)] at hmy;have HMy := kAA hmy;clear hmy hcc hrd y0 y1 y2 y3;generalize os.getD i 0 = xv at *
      go_wp2_with fail
      go_quiet ((go_at_call 107; exact Calls.quiet_of_same (HMy.out _)))
      go_wp2_with fail
      go_roundw
      case rel =>
       refine ⟨i + 1, by omega, by go_num, ?_⟩;obtain ⟨n, hn⟩ := hv.out;exact ⟨n + nq, by rw [hn]; simp [World.drewN, jBF]⟩
      case measure => simp [intOf]; omega
     ·have hie : i = os.length := by omega
      subst hie;obtain ⟨n, hn⟩ := hv.out;have hfv : Fr [] W4 wr := by rw [hn]; exact Fr.drewN [] _ _
      have s0v := (hfv.cell (p := ⟨w.heap.size, 0, none⟩) (by show w.heap.size < _; omega) (by simp)).trans s0
      have HEnd : Hid (∀ W, Hid (Fr [] W4 W) → Calls prog 99 #[.pointer (some ⟨w.heap.size + 1, 0, none⟩)] W fun e w' => e = .returned (int i64 (rEnd R.fE : Nat)) ∧ Hid (Fr [] W4 w')) := by
       intro W hW;refine Calls.mono (kCM _ _ R W (HR4.out.fK hW.out) HOK.out) ?_;rintro e w' ⟨rfl, hf⟩;exact ⟨rfl, hW.out.trans hf (by simp)⟩
      have F0 := kAA hfv;obtain ⟨fm, rfl⟩ : ∃ fm : Nat, of_ = (fm : Int) := ⟨of_.toNat, by omega⟩
      have HLn : Hid (∀ V, Calls prog 86 #[int i64 os.length, int i64 fm] V fun e w' => e = .returned (int i64 (lenN os.length fm : Nat)) ∧ w' = V) := fun V => kBr os.length fm V (by omega)
      have HCl : Hid (∀ V, Hid (Fr [] W4 V) → V.cell? ⟨X, 2, none⟩ = some (int i64 fm) ∧ V.cell? ⟨X, 3, none⟩ = some (.slice p1 os.length c1) ∧ V.cell? ⟨w.heap.size, 0, none⟩ = some (int i64 fH) ∧ Hid (Fr [] W4 V)) := by
       intro V hV;exact ⟨(hV.out.cell (p := ⟨X, 2, none⟩) hWs (by simp)).trans y2, (hV.out.cell (p := ⟨X, 3, none⟩) hWs (by simp)).trans y3, (hV.out.cell (p := ⟨w.heap.size, 0, none⟩) (by show w.heap.size < _; omega) (by simp)).trans s0, hV⟩
      have hfin := HW.out.of.fin;have hlo : kBd (os.length : Int) (fm : Int) = (lenN os.length fm : Nat) := kAt _ _
      have hbig : (rEnd R.fE : Int) + (lenN os.length fm : Int) ≤ (fH : Int) := by
       rw [hfin, ← hlo];exact t9
      have hEN : (rEnd R.fE : Int) ≤ (fH : Int) := by omega
      have hln := kFA os.length fm;have HOkk : Hid (∀ V5, Hid (Fr [] W4 V5) → ∃ ENs : Nat, True) := fun V5 _ => ⟨0, trivial⟩
      have HV : Hid (Fr [] W4 wr) := hfv;have HYs := kAA (And.intro y0 (And.intro y1 (And.intro y2 y3)));have hbn := HW.out.of.fL;have hen : Hid (rEnd R.fE = rEnd R.fE) := rfl;generalize hENd : rEnd R.fE = EN at *;have HENd := kAA hENd;generalize lenN os.length fm = LN at *;clear hlo t9 y2 y3 y0 y1 hrd hn hfin hENd hen HOkk hbn
      go_wp2_with fail
      have z9 : IntKind.i64.wrap ((EN : Int) + (LN : Int)) = (EN : Int) + (LN : Int) := by rw [kBp]; unfold wrap64; omega
      go_region_held3 (fun w' => w'.cell? ⟨X, 2, none⟩ = some (int i64 fm) ∧ w'.cell? ⟨X, 3, none⟩ = some (.slice p1 os.length c1) ∧ w'.cell? ⟨w.heap.size, 0, none⟩ = some (int i64 fH) ∧ Hid (Fr [] W4 w')) (exact HCl.out _ (by first | assumption | exact kAF (by assumption) | (go_split_ands; first | assumption | exact kAF (by assumption))))
       (first | (go_at_call 99; refine (HEnd.out _ (by first | assumption | (go_split_ands; first | assumption | exact kAF (by assumption)))).mono ?_; rintro e w' ⟨rfl, hf'⟩) | (go_at_call 86; refine (HLn.out _).mono ?_; rintro e w' ⟨rfl, rfl⟩))
      have F3 : Hid (Fr [] W4 w') := by assumption
      rename_i hheld
      clear hheld;generalize w' = V5 at *;have hR5 := HR4.out.fK F3.out;obtain ⟨po, co, hov⟩ := hR5.ovIs;have hbX5 := (F3.out.block _ (kAB HB4.out) (by simp)).trans HB4.out;have hbr5 := hR5.top;have hlr := kAB hbr5;have hlX := kAB hbX5;have hrn := hR5.ovNe
      have hXn : ∀ b, R.ov.ownBlock = some b → b ≠ X := fun b hb e => by
       rcases hR5.row.2 with ⟨q1, _⟩ | ⟨g1, cap1, cur1, q1, q2, q3, _⟩
       ·rw [q1] at hb; simp [Value.ownBlock] at hb
       ·rw [q1] at hb;have a1 : g1 = b := by simpa [Value.ownBlock] using hb
        rw [a1, e, hbX5] at q3
        simp at q3
      have HKS : Hid (∀ W : World, Hid (∀ b, b = X ∨ b = w.heap.size + 1 → W.heap[b]? = V5.heap[b]?) → W.cell? ⟨X, 0, none⟩ = some (int i64 oo) ∧ W.cell? ⟨X, 1, none⟩ = some (int i64 oc) ∧ W.cell? ⟨X, 2, none⟩ = some (int i64 fm) ∧ W.cell? ⟨X, 3, none⟩ = some (.slice p1 os.length c1) ∧ W.cell? ⟨w.heap.size + 1, 3, none⟩ = some (int i64 R.fL) ∧ W.cell? ⟨w.heap.size + 1, 5, none⟩ = some (.slice po R.fE.length co) ∧ W.frozen? ⟨w.heap.size + 1, 5, none⟩ = false ∧ W.frozen? ⟨w.heap.size + 1, 3, none⟩ = false) := by
       intro W hW;have x1 := (hW.out X (.inl rfl)).trans hbX5;have x2 := (hW.out (w.heap.size + 1) (.inr rfl)).trans hbr5;rw [← hov];exact ⟨by rw [kAC x1]; rfl, by rw [kAC x1]; rfl, by rw [kAC x1]; rfl, by rw [kAC x1]; rfl, by rw [kAC x2]; rfl, by rw [kAC x2]; rfl, kAD x2 5, kAD x2 3⟩
      have HEnd5 : Hid (Calls prog 99 #[.pointer (some ⟨w.heap.size + 1, 0, none⟩)] V5.drew fun e w' => e = .returned (int i64 EN) ∧ Hid (Fr [] V5 w')) := by
       refine Calls.mono (kCM _ _ R V5.drew (hR5.fK (Fr.drew [] _)) HOK.out) ?_;rintro e w' ⟨rfl, hf⟩;exact ⟨by rw [HENd.out], (Fr.drew [] _).trans hf (by simp)⟩
      have HCp : Hid (∀ w5 : World, Hid (Fr [] V5 w5) → ∃ p6 c6 w6, (Builtin.append_ #[35, 35] 35 #[.slice none 0 0, .slice p1 os.length c1]).run prog w5 = .ok (.slice p6 os.length c6) w6 ∧ Hid (w6.ownsRow w5.heap.size 41 1 (.slice p6 os.length c6) os.length (os.map (int i64)) ∧ Fr [] w5 w6)) := by
       intro w5 h5;obtain ⟨v6, w6, r1, r2, r3⟩ := kCi os (.slice p1 os.length c1) w5 (HX4.out.fK (F3.out.trans h5.out (by simp)));obtain ⟨p6, c6, e6, _⟩ := kCZ r2;subst e6;exact ⟨p6, c6, w6, r1, r2, r3⟩
      have HRow : Hid (∀ (w5 w6 : World) (ob : Obj) (v : Value), Hid (Fr [] V5 w5) → Hid (w6.ownsRow w5.heap.size 41 1 v os.length (os.map (int i64)) ∧ Fr [] w5 w6) → (w6.alloc ob).ownsRow (w.heap.size + 1) 143 6 (.slice po R.fE.length co) R.fE.length (kAH R.fE)) := by
       intro w5 w6 ob v h5 h6;have h56 := h5.out.trans h6.out.2 (by simp);rw [← hov];exact (kAE hR5.row fun g hg => h56.block g (hR5.row.lt g hg).2 (by simp)).alloc _
      have HSz : Hid (∀ (w5 w6 : World) (v : Value), Hid (Fr [] V5 w5) → Hid (w6.ownsRow w5.heap.size 41 1 v os.length (os.map (int i64)) ∧ Fr [] w5 w6) → w.heap.size + 1 ≤ w6.heap.size) := by
       intro w5 w6 v h5 h6;have := h5.out.size;have := h6.out.2.size;omega
      have HSy : Hid (∀ (w5 w6 : World) (v : Value), Hid (Fr [] V5 w5) → Hid (w6.ownsRow w5.heap.size 41 1 v os.length (os.map (int i64)) ∧ Fr [] w5 w6) → w.heap.size + 1 < w6.heap.size) := by
       intro w5 w6 v h5 h6;have := h5.out.size;have := h6.out.2.size;omega
      have HK0 : Hid (∀ b, b = X ∨ b = w.heap.size + 1 → V5.drew.heap[b]? = V5.heap[b]?) := fun b _ => rfl
      have HK5 : Hid (∀ w5 : World, Hid (Fr [] V5 w5) → Hid (∀ b, b = X ∨ b = w.heap.size + 1 → w5.heap[b]? = V5.heap[b]?)) := fun w5 h5 b hb => h5.out.block b (by rcases hb with e | e <;> rw [e] <;> assumption) (by simp)
      have HK6 : Hid (∀ (w5 w6 : World) (v : Value), Hid (Fr [] V5 w5) → Hid (w6.ownsRow w5.heap.size 41 1 v os.length (os.map (int i64)) ∧ Fr [] w5 w6) → Hid (∀ b, b = X ∨ b = w.heap.size + 1 → w6.heap[b]? = V5.heap[b]?)) := fun w5 w6 v h5 h6 b hb => (h5.out.trans h6.out.2 (by simp)).block b (by rcases hb with e | e <;> rw [e] <;> assumption) (by simp)
      have HKa : Hid (∀ (w5 w6 : World) (v : Value) (ob : Obj), Hid (Fr [] V5 w5) → Hid (w6.ownsRow w5.heap.size 41 1 v os.length (os.map (int i64)) ∧ Fr [] w5 w6) → Hid (∀ b, b = X ∨ b = w.heap.size + 1 → (w6.alloc ob).heap[b]? = V5.heap[b]?)) := fun w5 w6 v ob h5 h6 b hb => ((h5.out.trans h6.out.2 (by simp)).trans (Fr.alloc [] _ _) (by simp)).block b (by rcases hb with e | e <;> rw [e] <;> assumption) (by simp)
      have HK7 : Hid (∀ (w5 w6 : World) (v : Value) (ob : Obj) (w7 : World), Hid (Fr [] V5 w5) → Hid (w6.ownsRow w5.heap.size 41 1 v os.length (os.map (int i64)) ∧ Fr [] w5 w6) → (w6.alloc ob).grownBy w7 (Value.slice po R.fE.length co).ownBlock → Hid (∀ b, b = X ∨ b = w.heap.size + 1 → w7.heap[b]? = V5.heap[b]?)) := by
       intro w5 w6 v ob w7 h5 h6 hg b hb;have h56 := (h5.out.trans h6.out.2 (by simp)).trans (Fr.alloc [] w6 ob) (by simp);have hbl : b < V5.heap.size := by rcases hb with e | e <;> rw [e] <;> assumption
       have := h56.size
       rw [hg.block b (by omega) (fun e => by
        rw [← hov] at e;rcases hb with e2 | e2
        ·exact hXn b e.symm e2
        ·exact hrn b e.symm e2)]
       exact h56.block b hbl (by simp)
      have hnl : R.fE.length ≤ 1048576 := HOK.out.len;have hbs : (R.fL : Int) ≤ 1048576 := by have e1 := HW.out.of.fL; have e2 := HW.out.of.len; omega
      have HNx : Hid (∀ (w5 w6 : World) (p6 : Option Addr) (c6 g7 c7 : Nat) (w7 : World), Hid (Fr [] V5 w5) → Hid (w6.ownsRow w5.heap.size 41 1 (.slice p6 os.length c6) os.length (os.map (int i64)) ∧ Fr [] w5 w6) → (w6.alloc (.cells #[int i64 oo, int i64 fm, int i64 EN, int i64 R.fL, int i64 oc, .slice p6 os.length c6] 143)).grownBy w7 (Value.slice po R.fE.length co).ownBlock → w7.ownsRow (w.heap.size + 1) 143 6 (.slice (some ⟨g7, 0, none⟩) (R.fE.length + 1) c7) (R.fE.length + 1) (kAH R.fE ++ [int i64 oo, int i64 fm, int i64 EN, int i64 R.fL, int i64 oc, .slice p6 os.length c6]) → ((Value.slice po R.fE.length co).ownBlock = some g7 ∨ g7 = w6.heap.size + 1) → ∃ R', LdR w W1 fH fM mark la (k + 1) ((w7.setCell ⟨w.heap.size + 1, 5, none⟩ (.slice (some ⟨g7, 0, none⟩) (R.fE.length + 1) c7)).setCell ⟨w.heap.size + 1, 3, none⟩ (int i64 ((R.fL : Int) + 1))) R') := by
       intro w5 w6 p6 c6 g7 c7 w7 h5 h6 hg hown hat;obtain ⟨q, hq⟩ : ∃ q : Nat, oo = (q : Int) := ⟨oo.toNat, by omega⟩
       have h56 : Fr [] V5 w6 := h5.out.trans h6.out.2 (by simp);have hs56 := h5.out.size;rw [← hov] at hg hat;have hroom5 : w.heap.size + 1 ≤ V5.heap.size := by omega
       have hnx := hR5.next (o := ⟨q, fm, EN, R.fL, oc, os, .slice p6 os.length c6⟩) (v7 := .slice (some ⟨g7, 0, none⟩) (R.fE.length + 1) c7) (w7 := w7) (V := (w7.setCell ⟨w.heap.size + 1, 5, none⟩ (.slice (some ⟨g7, 0, none⟩) (R.fE.length + 1) c7)).setCell ⟨w.heap.size + 1, 3, none⟩ (int i64 ((R.fL : Int) + 1))) h56 (kAV h6.out.1 hs56) hroom5 hrn (by rw [hq] at hg; exact hg) (by rw [hq] at hown; exact hown) (fun b hb e => by
        have e1 : g7 = b := by simpa [Value.ownBlock] using hb
        rcases hat with h1 | h1
        ·exact hrn g7 h1 (by omega)
        ·have := h56.size;omega) ⟨rfl, rfl, rfl, rfl⟩
       have hkey : (la.take (k + 1)).map kAU = (la.take k).map kAU ++ [kAU ⟨oo, oc, (fm : Int), os, .slice p1 os.length c1⟩] := by
        have h0 := H0.out;rw [jAB hlt] at h0;have h0' := Option.some.inj h0;rw [jAO hlt, jAP, h0'];rfl
       refine ⟨_, hnx, ?_, ?_⟩
       ·have hlo : ∀ b, R.ov.ownBlock = some b → w.heap.size + 1 ≤ b := fun b hb => (hR5.row.lt b hb).1
        have hF5 : Fr [] W1 V5 := HW.out.fr.trans (HF4.out.trans F3.out (by simp)) (by simp);have h6a : Fr [] V5 (w6.alloc (.cells #[int i64 oo, int i64 fm, int i64 EN, int i64 R.fL, int i64 oc, .slice p6 os.length c6] 143)) := h56.trans (Fr.alloc [] _ _) (by simp)
        have hF7 : Fr [] W1 w7 := by
         refine ⟨hg.os.trans (h6a.os.trans hF5.os), hg.tape.trans (h6a.tape.trans hF5.tape), hg.output.trans (h6a.output.trans hF5.output), jAU hF5.size (jAU h6a.size hg.size), fun i hi hn => ?_⟩;have := hF5.size;have := h6a.size;rw [hg.block i (by omega) (fun e => by have := hlo _ e.symm; omega), h6a.block i (by omega) (by simp)];exact hF5.block i hi (by simp)
        exact (hF7.trans (Fr.setCell (S := [w.heap.size + 1]) _ _ _ (by simp)) (fun b hb => by simp at hb; right; omega)).trans (Fr.setCell (S := [w.heap.size + 1]) _ _ _ (by simp)) (fun b hb => by simp at hb; right; omega)
       ·rw [hkey];have := HW.out.of.snoc ⟨q, fm, EN, R.fL, oc, os, .slice p6 os.length c6⟩ (.slice (some ⟨g7, 0, none⟩) (R.fE.length + 1) c7) (by have h := HT.out; rw [hq] at h; exact h) HENd.out.symm rfl (fun x hx g hg e => by have h1 := (h6.out.1.lt g hg).1; have h2 := ((hR5.fB x hx).lt g e).2; omega);have e : kBU ⟨q, fm, EN, R.fL, oc, os, .slice p6 os.length c6⟩ = kAU ⟨oo, oc, (fm : Int), os, .slice p1 os.length c1⟩ := by simp [kBU, kAU, hq]
        rw [e] at this;exact this
      clear HSlot HCl HEnd HLn
      go_wp2_with fail
      refine kDN (L := 25) (S := fun w' => w'.cell? ⟨X, 0, none⟩ = some (int i64 oo) ∧ w'.cell? ⟨X, 1, none⟩ = some (int i64 oc) ∧ w'.cell? ⟨X, 2, none⟩ = some (int i64 fm) ∧ w'.cell? ⟨X, 3, none⟩ = some (.slice p1 os.length c1) ∧ w'.cell? ⟨w.heap.size + 1, 3, none⟩ = some (int i64 R.fL) ∧ w'.cell? ⟨w.heap.size + 1, 5, none⟩ = some (.slice po R.fE.length co) ∧ w'.frozen? ⟨w.heap.size + 1, 5, none⟩ = false ∧ w'.frozen? ⟨w.heap.size + 1, 3, none⟩ = false) (by kernel_rfl) (HKS.out _ HK0.out) (fun hHeld => ?_);refine kAL (i := 0) (v := ?_) rfl (by kernel_rfl) (by kernel_rfl) (by kernel_rfl) (by decide) (by kernel_rfl) (fun _ _ _ h => h) (Or.inl ⟨by rfl, ?_⟩) (by assumption) ?_
      rotate_left
      ·(intro w hSw; (try dsimp only at hSw); first | (go_simp; done) | (go_simp; with_reducible rfl))
      try simp only [Act.put, qT, qZ, qS, qB, qY, qX]
      refine kAL (i := 1) (v := ?_) rfl (by kernel_rfl) (by kernel_rfl) (by kernel_rfl) (by decide) (by kernel_rfl) (fun _ _ _ h => h) (Or.inl ⟨by rfl, ?_⟩) (by assumption) ?_
      rotate_left
      ·(intro w hSw; (try dsimp only at hSw); first | (go_simp; done) | (go_simp; with_reducible rfl))
      try simp only [Act.put, qT, qZ, qS, qB, qY, qX]
      refine kAL (i := 2) (v := ?_) rfl (by kernel_rfl) (by kernel_rfl) (by kernel_rfl) (by decide) (by kernel_rfl) (fun _ _ _ h => h) (Or.inl ⟨by rfl, ?_⟩) (by assumption) ?_
      rotate_left
      ·(intro w hSw; (try dsimp only at hSw); first | (go_simp; done) | (go_simp; with_reducible rfl))
      try simp only [Act.put, qT, qZ, qS, qB, qY, qX]
      refine kAL (i := 3) (v := ?_) rfl (by kernel_rfl) (by kernel_rfl) (by kernel_rfl) (by decide) (by kernel_rfl) (fun _ _ _ h => h) (Or.inl ⟨by rfl, ?_⟩) (by assumption) ?_
      rotate_left
      ·(intro w hSw; (try dsimp only at hSw); first | (go_simp; done) | (go_simp; with_reducible rfl))
      try simp only [Act.put, qT, qZ, qS, qB, qY, qX]
      refine kAL (i := 4) (v := ?_) rfl (by kernel_rfl) (by kernel_rfl) (by kernel_rfl) (by decide) (by kernel_rfl) (fun _ _ _ h => h) (Or.inl ⟨by rfl, ?_⟩) (by assumption) ?_
      rotate_left
      ·(intro w hSw; (try dsimp only at hSw); first | (go_simp; done) | (go_simp; with_reducible rfl))
      try simp only [Act.put, qT, qZ, qS, qB, qY, qX]
      refine kAL (i := 5) (v := ?_) rfl (by kernel_rfl) (by kernel_rfl) (by kernel_rfl) (by decide) (by kernel_rfl) (fun _ _ _ h => h) (Or.inl ⟨by rfl, ?_⟩) (by assumption) ?_
      rotate_left
      ·(intro w hSw; (try dsimp only at hSw); first | (go_simp; done) | (go_simp; with_reducible rfl))
      try simp only [Act.put, qT, qZ, qS, qB, qY, qX]
      refine kAL (i := 6) (v := ?_) rfl (by kernel_rfl) (by kernel_rfl) (by kernel_rfl) (by decide) (by kernel_rfl) (fun _ _ _ h => h) (Or.inl ⟨by rfl, ?_⟩) (by assumption) ?_
      rotate_left
      ·(intro w hSw; (try dsimp only at hSw); first | (go_simp; done) | (go_simp; with_reducible rfl))
      try simp only [Act.put, qT, qZ, qS, qB, qY, qX]
      refine kAL (i := 7) (v := ?_) rfl (by kernel_rfl) (by kernel_rfl) (by kernel_rfl) (by decide) (by kernel_rfl) (fun _ _ _ h => h) (Or.inl ⟨by rfl, ?_⟩) (by assumption) ?_
      rotate_left
      ·(intro w hSw; (try dsimp only at hSw); first | (go_simp; done) | (go_simp; with_reducible rfl))
      try simp only [Act.put, qT, qZ, qS, qB, qY, qX]
      refine kAL (i := 8) (v := ?_) rfl (by kernel_rfl) (by kernel_rfl) (by kernel_rfl) (by decide) (by kernel_rfl) (fun _ _ _ h => h) (Or.inl ⟨by rfl, ?_⟩) (by assumption) ?_
      rotate_left
      ·(intro w hSw; (try dsimp only at hSw); first | (go_simp; done) | (go_simp; with_reducible rfl))
      try simp only [Act.put, qT, qZ, qS, qB, qY, qX]
      refine kAL (i := 9) (v := ?_) rfl (by kernel_rfl) (by kernel_rfl) (by kernel_rfl) (by decide) (by kernel_rfl) (fun _ _ _ h => h) (Or.inl ⟨by rfl, ?_⟩) (by assumption) ?_
      rotate_left
      ·(intro w hSw; (try dsimp only at hSw); first | (go_simp; done) | (go_simp; with_reducible rfl))
      try simp only [Act.put, qT, qZ, qS, qB, qY, qX]
      refine kAL (i := 11) (v := ?_) rfl (by kernel_rfl) (by kernel_rfl) (by kernel_rfl) (by decide) (by kernel_rfl) (fun _ _ _ h => h) (Or.inl ⟨by rfl, ?_⟩) (by assumption) ?_
      rotate_left
      ·(intro w hSw; (try dsimp only at hSw); first | (go_simp; done) | (go_simp; with_reducible rfl))
      try simp only [Act.put, qT, qZ, qS, qB, qY, qX]
      refine kAL (i := 12) (v := ?_) rfl (by kernel_rfl) (by kernel_rfl) (by kernel_rfl) (by decide) (by kernel_rfl) (fun _ _ _ h => h) (Or.inl ⟨by rfl, ?_⟩) (by assumption) ?_
      rotate_left
      ·(intro w hSw; (try dsimp only at hSw); first | (go_simp; done) | (go_simp; with_reducible rfl))
      try simp only [Act.put, qT, qZ, qS, qB, qY, qX]
      refine kAL (i := 13) (v := ?_) rfl (by kernel_rfl) (by kernel_rfl) (by kernel_rfl) (by decide) (by kernel_rfl) (fun _ _ _ h => h) (Or.inl ⟨by rfl, ?_⟩) (by assumption) ?_
      rotate_left
      ·(intro w hSw; (try dsimp only at hSw); first | (go_simp; done) | (go_simp; with_reducible rfl))
      try simp only [Act.put, qT, qZ, qS, qB, qY, qX]
      refine kAL (i := 14) (v := ?_) rfl (by kernel_rfl) (by kernel_rfl) (by kernel_rfl) (by decide) (by kernel_rfl) (fun _ _ _ h => h) (Or.inl ⟨by rfl, ?_⟩) (by assumption) ?_
      rotate_left
      ·(intro w hSw; (try dsimp only at hSw); first | (go_simp; done) | (go_simp; with_reducible rfl))
      try simp only [Act.put, qT, qZ, qS, qB, qY, qX]
      refine kAL (i := 15) (v := ?_) rfl (by kernel_rfl) (by kernel_rfl) (by kernel_rfl) (by decide) (by kernel_rfl) (fun _ _ _ h => h) (Or.inl ⟨by rfl, ?_⟩) (by assumption) ?_
      rotate_left
      ·(intro w hSw; (try dsimp only at hSw); first | (go_simp; done) | (go_simp; with_reducible rfl))
      try simp only [Act.put, qT, qZ, qS, qB, qY, qX]
      refine kAL (i := 16) (v := ?_) rfl (by kernel_rfl) (by kernel_rfl) (by kernel_rfl) (by decide) (by kernel_rfl) (fun _ _ _ h => h) (Or.inl ⟨by rfl, ?_⟩) (by assumption) ?_
      rotate_left
      ·(intro w hSw; (try dsimp only at hSw); first | (go_simp; done) | (go_simp; with_reducible rfl))
      try simp only [Act.put, qT, qZ, qS, qB, qY, qX]
      refine kAL (i := 17) (v := ?_) rfl (by kernel_rfl) (by kernel_rfl) (by kernel_rfl) (by decide) (by kernel_rfl) (fun _ _ _ h => h) (Or.inl ⟨by rfl, ?_⟩) (by assumption) ?_
      rotate_left
      ·(intro w hSw; (try dsimp only at hSw); first | (go_simp; done) | (go_simp; with_reducible rfl))
      try simp only [Act.put, qT, qZ, qS, qB, qY, qX]
      refine kAL (i := 18) (v := ?_) rfl (by kernel_rfl) (by kernel_rfl) (by kernel_rfl) (by decide) (by kernel_rfl) (fun _ _ _ h => h) (Or.inl ⟨by rfl, ?_⟩) (by assumption) ?_
      rotate_left
      ·(intro w hSw; (try dsimp only at hSw); first | (go_simp; done) | (go_simp; with_reducible rfl))
      try simp only [Act.put, qT, qZ, qS, qB, qY, qX]
      refine kBH (i := 10) (by kernel_rfl) rfl (by decide) (fun K hK => ?_)
      go_simp
      go_wp2_with (go_at_call 99; refine HEnd5.out.mono ?_; rintro e w5 ⟨rfl, hf5⟩)
      refine hK.out _ _ (HKS.out _ (HK5.out w5 hf5)) (fun hHeld => ?_);clear hK K
      try simp only [Act.put, qT, qZ, qS, qB, qY, qX]
      refine kBH (i := 19) (by kernel_rfl) rfl (by decide) (fun K hK => ?_);obtain ⟨p6, c6, w6, hr6, hf6⟩ := HCp.out w5 hf5;refine kBj rfl (.const (.slice none 0 0)) (.tmp 141) 35 35 rfl (.slice none 0 0) (.slice p1 os.length c1) rfl (by simp [Act.eval, Act.put]) _ _ hr6 ?_;refine hK.out _ _ (HKS.out _ (HK6.out w5 w6 _ hf5 hf6)) (fun hHeld => ?_);clear hK K
      try simp only [Act.put, qT, qZ, qS, qB, qY, qX]
      refine kAL (i := 20) (v := ?_) rfl (by kernel_rfl) (by kernel_rfl) (by kernel_rfl) (by decide) (by kernel_rfl) (fun _ _ _ h => h) (Or.inl ⟨by rfl, ?_⟩) (by assumption) ?_
      rotate_left
      ·(intro w hSw; (try dsimp only at hSw); first | (go_simp; done) | (go_simp; with_reducible rfl))
      try simp only [Act.put, qT, qZ, qS, qB, qY, qX]
      refine kBH (i := 21) (by kernel_rfl) rfl (by decide) (fun K hK => ?_)
      go_simp
      refine hK.out _ _ (HKS.out _ (HKa.out w5 w6 _ _ hf5 hf6)) (fun hHeld => ?_);clear hK K
      try simp only [Act.put, qT, qZ, qS, qB, qY, qX]
      refine kBH (i := 22) (by kernel_rfl) rfl (by decide) (fun K hK => ?_);refine step_append_lies _ rfl (.tmp 127) (.tmp 144) 97 rfl (w.heap.size + 1) 143 i114 (.agg #[int i64 0, int i64 0, int i64 0, int i64 0, int i64 0, .slice none 0 0]) 6 64 underlying97 ii114 iz114 is114 ib114 rfl (by decide) (.slice po R.fE.length co) R.fE.length (kAH R.fE) (by simp [Act.eval]) (HRow.out w5 w6 _ _ hf5 hf6) ⟨w6.heap.size, 0, none⟩ 1 1 [int i64 oo, int i64 fm, int i64 EN, int i64 R.fL, int i64 oc, .slice p6 os.length c6] (by simp [Act.eval]) rfl (World.news_of_block (heap_alloc_new w6 _)) (by simp [Value.oneCell']) (by decide) (by unfold maxLen; omega) (by omega) (by have := HSz.out w5 w6 _ hf5 hf6; simp; omega) (w6.heap.size + 1) (by simp) ?_
      intro g7 c7 w7 hown7 hgrow7 hat7 hlt7;refine hK.out _ _ (HKS.out _ (HK7.out w5 w6 _ _ w7 hf5 hf6 hgrow7)) (fun hHeld => ?_);clear hK K
      try simp only [Act.put, qT, qZ, qS, qB, qY, qX]
      refine kBH (i := 23) (by kernel_rfl) rfl (by decide) (fun K hK => ?_)
      go_simp
      refine hK.out _ _ (HKS.out _ (HK7.out w5 w6 _ _ w7 hf5 hf6 hgrow7)) (fun hHeld => ?_);clear hK K
      try simp only [Act.put, qT, qZ, qS, qB, qY, qX]
      refine kBH (i := 24) (by kernel_rfl) rfl (by decide) (fun K hK => ?_)
      go_simp
      refine hK.out _ _ (HKS.out _ (HK7.out w5 w6 _ _ w7 hf5 hf6 hgrow7)) (fun hHeld => ?_);clear hK K
      try simp only [Act.put, qT, qZ, qS, qB, qY, qX]
      refine kFS (by kernel_rfl) rfl (by kernel_rfl) (fun K hK => ?_)
      go_simp
      refine hK.out _ _ ?_;clear hK K
      try simp only [Act.put, qT, qZ, qS, qB, qY, qX]
      have hS7 := HKS.out w7 (HK7.out w5 w6 _ _ w7 hf5 hf6 hgrow7);obtain ⟨-, -, -, -, d3, d5, f5, f3⟩ := hS7;have HNx2 := kAA (HNx.out w5 w6 p6 c6 g7 c7 w7 hf5 hf6 hgrow7 hown7 hat7)
      go_wp2_with fail
      go_roundw
      case rel => exact ⟨k + 1, by omega, by go_num, HNx2.out⟩
      case measure => simp [intOf]; omega
   ·have ht : kCB fH fM ((la.take k).map kAU) (oo, oc, of_, os) = false := Bool.eq_false_iff.2 ht;have HT := kAA ht;have HE : Hid (∀ V, Hid (Fr [] W4 V) → ∃ k o, Fr [] w V ∧ la[k]? = some o ∧ kCB fH fM ((la.take k).map kAU) (kAU o) = false) := fun V hV => ⟨k, _, FW4.out.trans hV.out (by simp), H0.out, HT.out⟩
    rcases kLG ht with t | ⟨t1, t⟩ | ⟨t1, t2, t⟩ | ⟨t1, t2, t3, t⟩
    ·clear ht;dsimp only at t
     go_wp2_with fail
     go_ret2
     obtain ⟨k', o', q1, q2, q3⟩ := HE.out W4 (Fr.refl _ _);rw [hW4] at q1;exact .inr ⟨k', o', rfl, q1, q2, q3⟩
    ·clear ht;dsimp only at t t1
     go_wp2_with fail
     go_ret2
     obtain ⟨k', o', q1, q2, q3⟩ := HE.out W4 (Fr.refl _ _);rw [hW4] at q1;exact .inr ⟨k', o', rfl, q1, q2, q3⟩
    ·clear ht;dsimp only at t t1 t2;have HFd := kAA (kMU oo _ _ R W4 HR4.out HOK.out.len (by rw [HKs.out]; exact t))
     go_wp2_with fail
     rw [← hW4];clear hW4;refine HFd.out.mono ?_;rintro e w' ⟨z, rfl, hw'⟩;rw [hw'];clear hw' w';have hz0 := ng z
     go_wp2_with fail
     go_ret2
     obtain ⟨k', o', q1, q2, q3⟩ := HE.out W4 (Fr.refl _ _);exact .inr ⟨k', o', rfl, q1, q2, q3⟩
    ·have HFd := kAA (kKT oo _ _ R W4 HR4.out HOK.out.len (by rw [HKs.out]; exact t3));clear ht;dsimp only at t t1 t2
     go_wp2_with fail
     rw [← hW4];clear hW4;refine HFd.out.mono ?_;rintro e w' ⟨rfl, hw'⟩;rw [hw'];clear hw' w' HFd t3;rcases t with t | ⟨t4, t⟩
     ·have hk0 : kAJ oc = 0 := by simpa [isW] using t
      rw [hk0] at HKd
      go_wp2_with (go_at_call 98; refine HKd.out.mono ?_; rintro e w' ⟨rfl, hw'⟩; rw [hw']; clear hw' w')
      go_ret2
      obtain ⟨k', o', q1, q2, q3⟩ := HE.out W4 (Fr.refl _ _);exact .inr ⟨k', o', rfl, q1, q2, q3⟩
     ·have hk0 : (kAJ oc == 0) = false := by simpa [isW] using t4
      generalize kAJ oc = kz at *
      go_wp2_with fail
      refine HKd.out.mono ?_;rintro e w' ⟨rfl, hw'⟩;rw [hw'];clear hw' w' HKd;rcases t with t | ⟨t5, t⟩ | ⟨t5, t6, t⟩
      ·go_wp2_with fail
       go_ret2
       obtain ⟨k', o', q1, q2, q3⟩ := HE.out W4 (Fr.refl _ _);exact .inr ⟨k', o', rfl, q1, q2, q3⟩
      ·go_wp2_with fail
       go_ret2
       obtain ⟨k', o', q1, q2, q3⟩ := HE.out W4 (Fr.refl _ _);exact .inr ⟨k', o', rfl, q1, q2, q3⟩
      ·rcases t with t | ⟨t7, t⟩
       ·go_wp2_with fail
        go_ret2
        obtain ⟨k', o', q1, q2, q3⟩ := HE.out W4 (Fr.refl _ _);exact .inr ⟨k', o', rfl, q1, q2, q3⟩
       ·have HSlot : Hid (∀ V, Hid (∃ n, V = W4.drewN n) → V.cell? ⟨wr.heap.size, 2, none⟩ = some (int i64 of_) ∧ V.cell? ⟨wr.heap.size, 3, none⟩ = some (.slice p1 os.length c1) ∧ (0 < os.length → ∃ g off, p1 = some ⟨g, off, none⟩ ∧ ∀ i, i < os.length → V.cell? ⟨g, off + i, none⟩ = some (int i64 (os.getD i 0)))) := by
         intro V hV;obtain ⟨n, hn⟩ := hV.out;obtain ⟨p', c', ee, hh⟩ := HX4.out.at_
         injection ee with ee _ _
         subst ee;rw [hn];refine ⟨y2, y3, fun hp => ?_⟩;obtain ⟨g', off', g1, g2, g3⟩ := hh hp;exact ⟨g', off', g1, g3⟩
        have hWs : wr.heap.size < W4.heap.size := kAB HB4.out;generalize hX : wr.heap.size = X at *;rcases t with ⟨J, j1, j2, j3⟩ | ⟨t8, t9⟩
        ·have HJ := kAA (And.intro j2 j3);clear j2 j3
         go_wp2_with fail
         go_loopw [7] (fun qq wv => ∃ i : Nat, i ≤ J ∧ qq = int i64 i ∧ Hid (∃ n, wv = W4.drewN n)) (fun qq _ => os.length - (intOf qq).toNat)
         case atStart => exact ⟨0, jAH _, rfl, 0, rfl⟩
         case round =>
          obtain ⟨i, hiJ, rfl, hv⟩ := hrel;obtain ⟨z2, z3, hrd⟩ := HSlot.out _ hv;obtain ⟨g', off', rfl, hcc⟩ := hrd (by omega);have zi := hcc i (by omega);have i1 := ng i;have i2 : (i : Int) < os.length := by omega
          have hmy := fun V => kDm (os.getD i 0) of_ V
          by_cases hiE : i = J
          ·subst hiE;rw [HJ.out.2] at hmy;have HMy := kAA hmy;clear hmy hcc hrd y0 y1 y2 y3;generalize os.getD i 0 = xv at *
           go_wp2_with fail
           go_quiet ((go_at_call 107; exact Calls.quiet_of_same (HMy.out _)))
           go_wp2_with fail
           go_ret2
           obtain ⟨n, hn⟩ := hv.out;obtain ⟨k', o', q1, q2, q3⟩ := HE.out ((W4.drewN n).drewN nq) ((Fr.drewN [] _ _).trans (Fr.drewN [] _ _) (by simp));refine .inr ⟨k', o', rfl, ?_, q2, q3⟩;rw [hn];exact q1
          ·rw [HJ.out.1 i (by omega)] at hmy;have HMy := kAA hmy;clear hmy hcc hrd y0 y1 y2 y3;generalize os.getD i 0 = xv at *
           go_wp2_with fail
           go_quiet ((go_at_call 107; exact Calls.quiet_of_same (HMy.out _)))
           go_wp2_with fail
           go_roundw
           case rel =>
            refine ⟨i + 1, by omega, by go_num, ?_⟩;obtain ⟨n, hn⟩ := hv.out;exact ⟨n + nq, by rw [hn]; simp [World.drewN, jBF]⟩
           case measure => simp [intOf]; omega
        ·have HJ := kAA t8;clear t8
         go_wp2_with fail
         go_loopw [7] (fun qq wv => ∃ i : Nat, i ≤ os.length ∧ qq = int i64 i ∧ Hid (∃ n, wv = W4.drewN n)) (fun qq _ => os.length - (intOf qq).toNat)
         case atStart => exact ⟨0, jAH _, rfl, 0, rfl⟩
         case round =>
          obtain ⟨i, hiJ, rfl, hv⟩ := hrel;obtain ⟨z2, z3, hrd⟩ := HSlot.out _ hv;have i1 := ng i
          by_cases hiE : i < os.length
          ·obtain ⟨g', off', rfl, hcc⟩ := hrd (by omega);have zi := hcc i (by omega);have i2 : (i : Int) < os.length := by omega
           have hmy := fun V => kDm (os.getD i 0) of_ V
           rw [HJ.out i (by omega)] at hmy;have HMy := kAA hmy;clear hmy hcc hrd y0 y1 y2 y3;generalize os.getD i 0 = xv at *
           go_wp2_with fail
           go_quiet ((go_at_call 107; exact Calls.quiet_of_same (HMy.out _)))
           go_wp2_with fail
           go_roundw
           case rel =>
            refine ⟨i + 1, by omega, by go_num, ?_⟩;obtain ⟨n, hn⟩ := hv.out;exact ⟨n + nq, by rw [hn]; simp [World.drewN, jBF]⟩
           case measure => simp [intOf]; omega
          ·have hie : i = os.length := by omega
           subst hie;obtain ⟨n, hn⟩ := hv.out;have hfv : Fr [] W4 wr := by rw [hn]; exact Fr.drewN [] _ _
           have s0v := (hfv.cell (p := ⟨w.heap.size, 0, none⟩) (by show w.heap.size < _; omega) (by simp)).trans s0
           have HEnd : Hid (∀ W, Hid (Fr [] W4 W) → Calls prog 99 #[.pointer (some ⟨w.heap.size + 1, 0, none⟩)] W fun e w' => e = .returned (int i64 (rEnd R.fE : Nat)) ∧ Hid (Fr [] W4 w')) := by
            intro W hW;refine Calls.mono (kCM _ _ R W (HR4.out.fK hW.out) HOK.out) ?_;rintro e w' ⟨rfl, hf⟩;exact ⟨rfl, hW.out.trans hf (by simp)⟩
           have F0 := kAA hfv;obtain ⟨fm, rfl⟩ : ∃ fm : Nat, of_ = (fm : Int) := ⟨of_.toNat, by omega⟩
           have HLn : Hid (∀ V, Calls prog 86 #[int i64 os.length, int i64 fm] V fun e w' => e = .returned (int i64 (lenN os.length fm : Nat)) ∧ w' = V) := fun V => kBr os.length fm V (by omega)
           have HCl : Hid (∀ V, Hid (Fr [] W4 V) → V.cell? ⟨X, 2, none⟩ = some (int i64 fm) ∧ V.cell? ⟨X, 3, none⟩ = some (.slice p1 os.length c1) ∧ V.cell? ⟨w.heap.size, 0, none⟩ = some (int i64 fH) ∧ Hid (Fr [] W4 V)) := by
            intro V hV;exact ⟨(hV.out.cell (p := ⟨X, 2, none⟩) hWs (by simp)).trans y2, (hV.out.cell (p := ⟨X, 3, none⟩) hWs (by simp)).trans y3, (hV.out.cell (p := ⟨w.heap.size, 0, none⟩) (by show w.heap.size < _; omega) (by simp)).trans s0, hV⟩
           have hfin := HW.out.of.fin;have hlo : kBd (os.length : Int) (fm : Int) = (lenN os.length fm : Nat) := kAt _ _
           have hbig : (fH : Int) < (rEnd R.fE : Int) + (lenN os.length fm : Int) := by
            skip
            rw [hfin, ← hlo];exact t9
           have hEN : (rEnd R.fE : Int) ≤ (fH : Int) := by rw [hfin]; exact HW.out.of.fits
           have hln := kFA os.length fm;generalize rEnd R.fE = EN at *;generalize lenN os.length fm = LN at *;clear hlo t9 y2 y3 y0 y1 hrd hn hfin
           go_wp2_with fail
           have z9 : IntKind.i64.wrap ((EN : Int) + (LN : Int)) = (EN : Int) + (LN : Int) := by rw [kBp]; unfold wrap64; omega
           go_region_held3 (fun w' => w'.cell? ⟨X, 2, none⟩ = some (int i64 fm) ∧ w'.cell? ⟨X, 3, none⟩ = some (.slice p1 os.length c1) ∧ w'.cell? ⟨w.heap.size, 0, none⟩ = some (int i64 fH) ∧ Hid (Fr [] W4 w')) (exact HCl.out _ (by first | assumption | exact kAF (by assumption) | (go_split_ands; first | assumption | exact kAF (by assumption))))
            (first | (go_at_call 99; refine (HEnd.out _ (by first | assumption | (go_split_ands; first | assumption | exact kAF (by assumption)))).mono ?_; rintro e w' ⟨rfl, hf'⟩) | (go_at_call 86; refine (HLn.out _).mono ?_; rintro e w' ⟨rfl, rfl⟩))
           have F3 : Hid (Fr [] W4 w') := by assumption
           go_wp2_with fail
           go_ret2
           obtain ⟨k', o', q1, q2, q3⟩ := HE.out w' F3;exact .inr ⟨k', o', rfl, q1, q2, q3⟩
  ·have hke : k = la.length := by omega
   subst hke;clear hqq;have HW := kAA hw;clear hw
   go_wp2_with fail
   go_ret2
   exact .inl ⟨R, rfl, ⟨HW.out.rep, F1.out.trans HW.out.fr (by simp), HW.out.of⟩⟩
end Go.Proofs.YtflgicdbbogllaaGreatDoor
