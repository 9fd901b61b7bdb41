import Derived.Test.YtpaekbghnejhoaaDoorEG07HInv
import Derived.Test.YtpaekbghnejhoaaDoorEG15HHandW
import Derived.Test.YtpaekbghnejhoaaDoorEHRefQ
import Derived.Test.YtpaekbghnejhoaaDoorEG14CBridge
import Derived.BigQuiet
import Derived.Test.YtpaekbghnejhoaaDoorEG11HRefN
namespace Go.Proofs.YtpaekbghnejhoaaDoor
open Go.RowKit
set_option linter.unusedVariables false
attribute [local go_sem ↓] Go.wp_at_zero Go.wp_at_succ
theorem infoRO : (Tryd.prog.info? 124).map (fun i => (i.zero, i.size, i.bytes)) = some (some (.agg #[.int .i64 0, .int .i64 0, .int .i64 0, .int .i64 0, .int .i64 0, .slice none 0 0]), 6, 64) := by kernel_rfl
/-- the heap behind a Keep -/
def rKept (R : RS) (js : List Nat) (v : Value) : RS := { R with objs := (kst js R.objs).1, ov := v, turn := R.turn + 1 }
theorem RRep.kept {w V V' : World} {B r : Nat} {R : RS} {js : List Nat} {v : Value} (h : RRep w B r R) (hf : Fr [] w V) (hown : V.ownsRow w.heap.size 124 6 v (kst js R.objs).1.length (roCells (kst js R.objs).1)) (he : Eqw ((V.setCell ⟨r, 5, none⟩ v).setCell ⟨r, 4, none⟩ (I (R.turn + 1))) V') : RRep V' B r (rKept R js v) ∧ Fr [r] w V' := by
  have hr := lt_of_heap h.top
  have hlo := h.lo
  have hV : ∀ i, i ≠ r → V'.heap[i]? = V.heap[i]? := fun i hi => by rw [he.2.2.2, set_else hi, set_else hi]
  have htop : V.heap[r]? = some (.cells (rcells R) 122 (0, 0)) := (hf.block r hr (by simp)).trans h.top
  refine ⟨⟨h.lo, ?_, ?_, fun o ho => ?_⟩, ?_⟩
  · rw [he.2.2.2, set_in (set_in htop 5 _) 4 _]
    rfl
  · have h2 : V'.ownsRow w.heap.size 124 6 v (kst js R.objs).1.length (roCells (kst js R.objs).1) := own_congr hown fun g hg => hV g (fun e => by have := (hown.lt g hg).1; omega)
    exact own_base h2 (by omega)
  · obtain ⟨x, x1, x2, x3, x4, x5, x6, x7, x8⟩ := kst_from js R.objs o ho
    rw [x5, x6]
    have hs := h.slots x x1
    refine own_congr hs fun g hg => ?_
    rw [hV g (fun e => ?_)]
    · exact hf.block g (hs.lt g hg).2 (by simp)
    · subst e
      have h2 := h.top
      rcases hs.2 with ⟨q1, _⟩ | ⟨g1, cap1, cur1, q1, q2, q3, _⟩
      · rw [q1] at hg; simp [Value.ownBlock] at hg
      · rw [q1] at hg
        have a1 : g1 = g := by simpa [Value.ownBlock] using hg
        subst a1
        rw [h2] at q3
        simp at q3
  · have h1 : Fr [r] w (V.setCell ⟨r, 5, none⟩ v) := (hf.mono (by simp)).trans (Fr.setCell V ⟨r, 5, none⟩ v (S := [r]) (by simp)) (by simp)
    have h2 := h1.trans (Fr.setCell (V.setCell ⟨r, 5, none⟩ v) ⟨r, 4, none⟩ (I (R.turn + 1)) (S := [r]) (by simp)) (by simp)
    exact h2.trans (he.fr [r]) (by simp)
theorem kst_take_le (js : List Nat) (l : List RO) (k : Nat) : (kst js (l.take k)).1.length ≤ l.length := by
  have := kst_len js (l.take k)
  simp at this
  omega
theorem endK_nn : ∀ ks : List Key, 0 ≤ endK ks
  | [] => by simp [endK]
  | k :: t => by
    have h1 := endK_nn t
    simp only [endK]
    have : 0 ≤ lenOf (k.2.2.2.length : Int) k.2.2.1 := by unfold lenOf; split <;> omega
    omega
theorem kst_take_end (js : List Nat) (l : List RO) (k : Nat) : ((kst js (l.take k)).2 : Int) ≤ endK (l.map roKey) := by
  have h1 := kst_le js (l.take k)
  have h2 : l.map roKey = (l.take k).map roKey ++ (l.drop k).map roKey := by rw [← List.map_append, List.take_append_drop]
  rw [h2, endK_append]
  have := endK_nn ((l.drop k).map roKey)
  omega
set_option maxRecDepth 20000 in
set_option maxHeartbeats 4000000 in
theorem rKeep_ok (js : List Nat) (p : Option Addr) (c : Nat) (B r : Nat) (R : RS) (w : World) (h : RRep w B r R) (ho : ROk R) (hj : Rd w (.slice p js.length c) (zs js)) (hin : ∀ j ∈ js, ¬ RNo R (j : Int)) (ht : R.turn ≤ 1000000000) (he : endK (R.objs.map roKey) ≤ 1048576) (hre : (rEnd R.objs : Int) ≤ 1048576) (hjl : js.length ≤ 1048576) :
    Calls Tryd.prog 72 #[.pointer (some ⟨r, 0, none⟩), .slice p js.length c] w fun e w' => ∃ v, e = .returned (.tuple #[.int .i64 ((R.objs.length : Int) - (kst js R.objs).1.length), .int .i64 ((rEnd R.objs : Int) - (kst js R.objs).2), .int .i64 0]) ∧ RRep w' B r (rKept R js v) ∧ Fr [r] w w' := by
  obtain ⟨i114, ii114, iz114, is114, ib114⟩ := info_parts infoRO
  have hrl := lt_of_heap h.top
  obtain ⟨po, co, hov⟩ := h.ovIs
  have hl := ho.len
  have HR := mkHid h
  have HO := mkHid ho
  have HJ := mkHid hj
  have HIn := mkHid hin
  have HC : Hid (∀ V, Fr [] w V → V.cell? ⟨r, 5, none⟩ = some (.slice po R.objs.length co) ∧ V.cell? ⟨r, 4, none⟩ = some (.int .i64 (R.turn : Int)) ∧ V.frozen? ⟨r, 5, none⟩ = false ∧ V.frozen? ⟨r, 4, none⟩ = false) := fun V hV => by
    have h1 := HR.out.idle hV
    exact ⟨by rw [h1.c, ← hov]; rfl, by rw [h1.c]; rfl, frozen_in h1.top 5, frozen_in h1.top 4⟩
  clear h ho hj hin
  go_enter Tryd.func72, Tryd.ntmps72
  go_wp2_with fail
  have hzl : (zs js).length = js.length := by simp [zs]
  go_loopw [7] (fun q wr => ∃ k : Nat, k ≤ js.length ∧ q = .int .i64 k ∧ Hid (wr = w)) (fun q _ => js.length - (intOf q).toNat)
  case atStart => exact ⟨0, Nat.zero_le _, rfl, mkHid rfl⟩
  case round =>
    obtain ⟨k, hkn, rfl, hw0⟩ := hrel
    rw [hw0.out]
    clear hw0
    by_cases hlt : k < js.length
    · obtain ⟨p', c', ep, hat⟩ := HJ.out.at_
      rw [hzl] at ep hat
      injection ep with ep1 _ ep2
      subst ep1 ep2
      obtain ⟨g, off, rfl, hg, hc⟩ := hat (by omega)
      have x1 := hc k hlt
      have e1 : (zs js).getD k 0 = ((js.getD k 0 : Nat) : Int) := by
        unfold zs
        rw [List.getD_eq_getElem?_getD, List.getD_eq_getElem?_getD, List.getElem?_map, List.getElem?_eq_getElem hlt]; rfl
      rw [e1] at x1
      have hm : js.getD k 0 ∈ js := by rw [List.getD_eq_getElem?_getD, List.getElem?_eq_getElem hlt]; exact List.getElem_mem hlt
      have HN := mkHid (HIn.out _ hm)
      have HF := mkHid (find_any ((js.getD k 0 : Nat) : Int) B r R w HR.out (by omega))
      generalize js.getD k 0 = z at *
      have k1 : (0 : Int) ≤ (k : Int) := by omega
      have k2 : (k : Int) < (js.length : Int) := by omega
      clear hat hc e1 hm
      go_wp2_with fail
      refine Calls.mono HF.out ?_
      rintro e w2 ⟨zz, rfl, hz, hw⟩
      rw [hw]
      clear hw w2 HF
      rcases hz with ⟨j, hj, rfl, hjo, -⟩ | ⟨rfl, hno⟩
      · have j1 : (0 : Int) ≤ (j : Int) := by omega
        clear hjo
        go_wp2_with fail
        go_roundw
        case rel => exact ⟨k + 1, by omega, by go_num, by first | exact mkHid rfl | exact mkHid trivial⟩
        case measure => simp [intOf]; omega
      · exact absurd hno HN.out
    · have hke : k = js.length := by omega
      subst hke
      obtain ⟨c5, c4, z5, z4⟩ := HC.out w (Fr.refl _ _)
      have HE := mkHid (rend_any B r R w HR.out HO.out)
      obtain ⟨E, hEE⟩ : ∃ E, E = rEnd R.objs := ⟨_, rfl⟩
      have HEE := mkHid hEE
      rw [← hEE] at HE hre
      clear hEE
      go_wp2_with fail
      refine Calls.mono HE.out ?_
      rintro e w3 ⟨rfl, hf3⟩
      have HF3 := mkHid hf3
      clear hf3 c5 c4 z5 z4 HE
      go_wp2_with fail
      have hkl0 := kst_take_le js R.objs
      have hke0 := kst_take_end js R.objs
      have HKL := mkHid hkl0
      have HKE := mkHid hke0
      clear hkl0 hke0
      go_loopw [10, 11, 12] (fun av v q wr => ∃ k : Nat, k ≤ R.objs.length ∧ q = .int .i64 k ∧ av = .int .i64 ((kst js (R.objs.take k)).2 : Nat) ∧ wr.ownsRow w.heap.size 124 6 v (kst js (R.objs.take k)).1.length (roCells (kst js (R.objs.take k)).1) ∧ Hid (Fr [] w wr)) (fun _ _ q _ => R.objs.length - (intOf q).toNat)
      case atStart => exact ⟨0, Nat.zero_le _, rfl, rfl, World.ownsRow_nil _ _ _ _, HF3⟩
      case round =>
        obtain ⟨k, hkn, rfl, rfl, hown, hfr⟩ := hrel
        obtain ⟨c5, c4, z5, z4⟩ := HC.out _ hfr.out
        have k1 : (0 : Int) ≤ (k : Int) := by omega
        by_cases hlt : k < R.objs.length
        · have k2 : (k : Int) < (R.objs.length : Int) := by omega
          have hRr := HR.out.idle hfr.out
          obtain ⟨g, c', hv1, hc⟩ := hRr.at_ (by omega)
          rw [hov] at hv1
          injection hv1 with e1 e2 e3
          subst e1
          subst e3
          clear e2
          obtain ⟨q0, q1, q2, q3, q4, q5⟩ := hc k hlt
          obtain ⟨p5, c5', hv5⟩ := hRr.vIs k hlt
          rw [hv5] at q5
          obtain ⟨o1, o2⟩ := HO.out.getD k hlt
          have hsn := kst_snoc js (R.objs.take k) (R.objs.getD k noRO)
          rw [← take_get R.objs noRO k hlt] at hsn
          have hle := HKL.out k
          have hen := HKE.out k
          simp only [I] at q0 q1 q2 q3
          generalize hoo : R.objs.getD k noRO = o at *
          clear hoo
          obtain ⟨oo, of_, opl, obn, oc, os, oov⟩ := o
          dsimp only at *
          subst hv5
          have HSn := mkHid hsn
          have HIn2 : Hid (∀ V, Fr [] w V → Calls Tryd.prog 97 #[.slice p js.length c, .int .i64 (oo : Int)] V fun e w' => e = .returned (.bool (decide (oo ∈ js))) ∧ w' = V) := fun V hV => by
            have := rIn2_ok (zs js) (oo : Int) (.slice p js.length c) V (HJ.out.idle hV)
            rw [show decide ((oo : Int) ∈ zs js) = decide (oo ∈ js) by rw [Bool.eq_iff_iff, decide_eq_true_eq, decide_eq_true_eq, mem_zs']] at this
            exact this
          generalize hKS : kst js (R.objs.take k) = KS at *
          clear hKS
          obtain ⟨kl, ke⟩ := KS
          dsimp only at *
          have hV5s : Hid (Fr [] _ (World.alloc _ (.cells #[.int .i64 (oo : Int), .int .i64 (of_ : Int), .int .i64 (opl : Int), .int .i64 (obn : Int), .int .i64 oc, .slice p5 os.length c5'] 124))) := Fr.alloc [] wr _
          have hbX5 : (wr.alloc (.cells #[.int .i64 (oo : Int), .int .i64 (of_ : Int), .int .i64 (opl : Int), .int .i64 (obn : Int), .int .i64 oc, .slice p5 os.length c5'] 124)).heap[wr.heap.size]? = some (.cells #[.int .i64 (oo : Int), .int .i64 (of_ : Int), .int .i64 (opl : Int), .int .i64 (obn : Int), .int .i64 oc, .slice p5 os.length c5'] 124 (0, 0)) := heap_alloc_new _ _
          clear hc hRr hsn
          go_wp2_with fail
          generalize wr.alloc (.cells #[.int .i64 (oo : Int), .int .i64 (of_ : Int), .int .i64 (opl : Int), .int .i64 (obn : Int), .int .i64 oc, .slice p5 os.length c5'] 124) = V5 at *
          generalize hX : wr.heap.size = X at *
          refine Calls.mono (HIn2.out V5 (hfr.out.trans hV5s.out (by simp))) ?_
          rintro e w' ⟨rfl, hw'⟩
          rw [hw']
          clear hw' w' q0 q1 q2 q3 q4 q5 c5 c4 z5 z4
          have hXl : X ≤ wr.heap.size := by omega
          have hXg : wr.heap.size ≤ X := by omega
          clear hX
          by_cases hy : oo ∈ js
          · have HSn2 := HSn.out
            rw [if_pos hy] at HSn2
            rw [decide_eq_true hy]
            have HS3 := mkHid HSn2
            have z6 : V5.frozen? ⟨X, 2, none⟩ = false := frozen_in hbX5 2
            have HB6 : Hid ((V5.setCell ⟨X, 2, none⟩ (.int .i64 (ke : Int))).heap[X]? = some (.cells #[.int .i64 (oo : Int), .int .i64 (of_ : Int), .int .i64 (ke : Int), .int .i64 (obn : Int), .int .i64 oc, .slice p5 os.length c5'] 124 (0, 0))) := set_in hbX5 2 _
            have HF6 : Hid (Fr [] wr (V5.setCell ⟨X, 2, none⟩ (.int .i64 (ke : Int)))) := hV5s.out.trans (Fr.setCell V5 ⟨X, 2, none⟩ _ (S := [X]) (by simp)) (by simp; omega)
            have y2 : V5.cell? ⟨X, 2, none⟩ = some (.int .i64 (opl : Int)) := by rw [cell_in hbX5]; rfl
            clear HSn2 HSn hy HIn2
            go_upto_region 18 with (fail)
            generalize V5.setCell ⟨X, 2, none⟩ (.int .i64 (ke : Int)) = V6 at *
            have x0 : V6.cell? ⟨X, 0, none⟩ = some (.int .i64 (oo : Int)) := by rw [cell_in HB6.out]; rfl
            have x1 : V6.cell? ⟨X, 1, none⟩ = some (.int .i64 (of_ : Int)) := by rw [cell_in HB6.out]; rfl
            have x2 : V6.cell? ⟨X, 2, none⟩ = some (.int .i64 (ke : Int)) := by rw [cell_in HB6.out]; rfl
            have x3 : V6.cell? ⟨X, 3, none⟩ = some (.int .i64 (obn : Int)) := by rw [cell_in HB6.out]; rfl
            have x4 : V6.cell? ⟨X, 4, none⟩ = some (.int .i64 oc) := by rw [cell_in HB6.out]; rfl
            have x5 : V6.cell? ⟨X, 5, none⟩ = some (.slice p5 os.length c5') := by rw [cell_in HB6.out]; rfl
            have hown6 : V6.ownsRow w.heap.size 124 6 _ kl.length (roCells kl) := own_congr hown fun g hg => HF6.out.block g (hown.lt g hg).2 (by simp)
            have hll := lenN_le os.length of_
            have HL := mkHid fun V => refLen_any os.length of_ V (by omega)
            clear y2 z6 hV5s hbX5 hown
            have hX2 : X ≤ V6.heap.size := by have := HF6.out.size; omega
            have hwX : w.heap.size ≤ X := by have := hfr.out.size; omega
            have hown2 := hown6.alloc (.cells #[.int .i64 (oo : Int), .int .i64 (of_ : Int), .int .i64 (ke : Int), .int .i64 (obn : Int), .int .i64 oc, .slice p5 os.length c5'] 124)
            have HF7 : Hid (Fr [] w (V6.alloc (.cells #[.int .i64 (oo : Int), .int .i64 (of_ : Int), .int .i64 (ke : Int), .int .i64 (obn : Int), .int .i64 oc, .slice p5 os.length c5'] 124))) := (hfr.out.trans HF6.out (by simp)).trans (Fr.alloc [] _ _) (by simp)
            clear hown6
            go_wp2_with (first
              | (at_builtin; refine wpList_append_own _ rfl (.tmp 66) (.tmp 68) 120 rfl w.heap.size 124 i114 (.agg #[.int .i64 0, .int .i64 0, .int .i64 0, .int .i64 0, .int .i64 0, .slice none 0 0]) 6 64 Tryd.underlying120 ii114 iz114 is114 ib114 rfl (by decide) _ _ _ rfl hown2 ⟨V6.heap.size, 0, none⟩ 1 1 [.int .i64 (oo : Int), .int .i64 (of_ : Int), .int .i64 (ke : Int), .int .i64 (obn : Int), .int .i64 oc, .slice p5 os.length c5'] rfl rfl ?d1 ?d2 ?d3 ?d4 ?d5 ?_)
              | (go_at_call 91; refine Calls.mono (HL.out _) ?_; rintro e w' ⟨rfl, hw'⟩; rw [hw']; clear hw' w')
              | go_in)
            case d1 =>
              have := World.news_of_block (heap_alloc_new V6 (.cells #[.int .i64 (oo : Int), .int .i64 (of_ : Int), .int .i64 (ke : Int), .int .i64 (obn : Int), .int .i64 oc, .slice p5 os.length c5'] 124))
              simpa using this
            case d2 => first | rfl | (intro u hu; simp at hu; rcases hu with rfl | rfl | rfl | rfl | rfl | rfl <;> rfl)
            case d3 => unfold maxLen; omega
            case d4 => omega
            case d5 => first | omega | (simp; omega)
            intro v' w1 hown' hgrow _
            have hrow : w1.ownsRow w.heap.size 124 6 v' (kst js (R.objs.take (k + 1))).1.length (roCells (kst js (R.objs.take (k + 1))).1) := by
              rw [HS3.out, List.length_append, roCells_append]
              exact hown'
            have hz2 : (kst js (R.objs.take (k + 1))).2 = ke + lenN os.length of_ := by rw [HS3.out]
            have HG : Hid (Fr [] w w1) := by
              refine ⟨hgrow.os.trans HF7.out.os, hgrow.tape.trans HF7.out.tape, hgrow.output.trans HF7.out.output, Nat.le_trans HF7.out.size hgrow.size, fun i hi hn => ?_⟩
              rw [hgrow.block i (Nat.lt_of_lt_of_le hi HF7.out.size) (fun e => ?_)]
              · exact HF7.out.block i hi hn
              · have := (hown2.lt i e.symm).1
                omega
            have HO3 := mkHid hrow
            have HZ2 := mkHid hz2
            clear hrow hz2 hown' hgrow hown2 HF7
            go_wp2
            go_roundw
            case rel => exact ⟨k + 1, by omega, by go_num, by rw [HZ2.out]; push_cast; first | rfl | (congr 1), HO3.out, HG⟩
            case measure => simp [intOf]; omega
          · have HSn2 := HSn.out
            rw [if_neg hy] at HSn2
            rw [decide_eq_false hy]
            have HS3 := mkHid HSn2
            have HO3 := mkHid (own_congr hown fun g hg => hV5s.out.block g (hown.lt g hg).2 (by simp))
            have HG : Hid (Fr [] w V5) := hfr.out.trans hV5s.out (by simp)
            clear HSn2 HSn hy HIn2 hown hV5s hbX5
            go_wp2_with fail
            go_roundw
            case rel => exact ⟨k + 1, by omega, by go_num, by rw [HS3.out], by rw [HS3.out]; exact HO3.out, HG⟩
            case measure => simp [intOf]; omega
        · have hke : k = R.objs.length := by omega
          subst hke
          rw [List.take_length] at hown ⊢
          have hle := kst_len js R.objs
          have hen := kst_le js R.objs
          obtain ⟨pv, cv, rfl⟩ := row_is hown
          have HK : Hid (∀ V', Eqw ((wr.setCell ⟨r, 5, none⟩ (.slice pv (kst js R.objs).1.length cv)).setCell ⟨r, 4, none⟩ (I (R.turn + 1))) V' → RRep V' B r (rKept R js (.slice pv (kst js R.objs).1.length cv)) ∧ Fr [r] w V') := fun V' hV => HR.out.kept hfr.out hown hV
          have s5 : (wr.setCell ⟨r, 5, none⟩ (.slice pv (kst js R.objs).1.length cv)).cell? ⟨r, 4, none⟩ = some (.int .i64 (R.turn : Int)) := by
            rw [cell_in (set_in (HR.out.idle hfr.out).top 5 _)]; rfl
          have s6 : (wr.setCell ⟨r, 5, none⟩ (.slice pv (kst js R.objs).1.length cv)).frozen? ⟨r, 4, none⟩ = false := frozen_in (set_in (HR.out.idle hfr.out).top 5 _) 4
          obtain ⟨KS, hKS⟩ : ∃ KS, KS = kst js R.objs := ⟨_, rfl⟩
          have HKS := mkHid hKS
          rw [← hKS] at hle hen HK s5 s6 ⊢
          clear hKS hown
          obtain ⟨kl, ke⟩ := KS
          dsimp only at *
          go_upto_region 21 with (fail)
          generalize hV7 : wr.setCell ⟨r, 5, none⟩ (.slice pv kl.length cv) = V7 at *
          clear hV7 c5 c4 z5 z4
          go_wp2_with fail
          refine bodyPost_ret (results_tmp3 rfl _ _ _) rfl ?_
          obtain ⟨h1, h2⟩ := HK.out _ ⟨rfl, rfl, rfl, rfl⟩
          refine ⟨_, ?_, h1, h2⟩
          rw [← HKS.out, ← HEE.out]
          rfl
end Go.Proofs.YtpaekbghnejhoaaDoor
namespace Go.Proofs.YtpaekbghnejhoaaDoor
open Go.RowKit
set_option linter.unusedVariables false
attribute [local go_sem ↓] Go.wp_at_zero Go.wp_at_succ
/-- a state is being loaded: what lies after k of its objects -/
structure LdW (w W1 : World) (A : Nat) (H0 : HS) (M0 : MS) (la : List OI) (k : Nat) (wr : World) (l : Lay) (H : HS) (M : MS) : Prop where
  rep : Rep wr A l H
  fr : Fr [] W1 wr
  new : ∀ b ∈ foot A l, W1.heap.size ≤ b
  lds : Lds H0 M0 ((la.take k).map oiKey) H M
set_option maxRecDepth 20000 in
set_option maxHeartbeats 1000000 in
theorem Load_any (words oops mark : Nat) (ov : Value) (la : List OI) (w : World) (ha : SAt w ov la) (hT : Tab w) (hT0 : 0 < w.heap.size) (h1 : (words : Int) ≤ 1048576) (h2 : (oops : Int) ≤ 65536) (hm : (mark : Int) ≤ 1073741824) :
    Calls Tryd.prog 7 #[.agg #[.int .i64 (words : Int), .int .i64 (oops : Int), .int .i64 (mark : Int), ov]] w fun e w' =>
      (∃ l H M, e = .returned (.tuple #[.pointer (some ⟨w.heap.size + 1, 0, none⟩), .int .i64 0]) ∧ LdW w w (w.heap.size + 1) { emptyH words oops with mark := mark } { emptyM words oops with mark := mark } la la.length w' l H M) ∨
      (∃ k o H M, e = .returned (.tuple #[.pointer none, .int .i64 27]) ∧ Fr [] w w' ∧ la[k]? = some o ∧ Lds { emptyH words oops with mark := mark } { emptyM words oops with mark := mark } ((la.take k).map oiKey) H M ∧ takesB H o.oop o.cls o.fmt o.slots = false) := by
  have HA := mkHid ha
  obtain ⟨p, c, rfl, -⟩ := ha.at_
  have hl := ha.short
  obtain ⟨W1, hW1⟩ : ∃ W1, W1 = w.alloc (.cells #[.int .i64 (words : Int), .int .i64 (oops : Int), .int .i64 (mark : Int), .slice p la.length c] 24) := ⟨_, rfl⟩
  have F1 : Hid (Fr [] w W1) := by rw [hW1]; exact Fr.alloc [] _ _
  have hS1 : W1.heap.size = w.heap.size + 1 := by rw [hW1]; simp
  have HB1 : Hid (W1.heap[w.heap.size]? = some (.cells #[.int .i64 (words : Int), .int .i64 (oops : Int), .int .i64 (mark : Int), .slice p la.length c] 24 (0, 0))) := by rw [Hid, hW1]; exact heap_alloc_new _ _
  have hN := New_in words oops W1 (by omega) h2
  rw [hS1] at hN
  have HN := mkHid hN
  have HI0 : Hid (Inv { emptyH words oops with mark := mark } { emptyM words oops with mark := mark }) := (inv_empty words oops h1 h2).setMark mark hm
  have HTb : Hid (∀ V, Hid (Fr [] w V) → Tab V) := fun V hV => hT.fr hV.out hT0
  have HS1 := mkHid hS1
  have hmk := fun V => isMark_any (mark : Int) V
  rw [show isM (mark : Int) = true from by simp [isM]; omega] at hmk
  have HMk := mkHid hmk
  clear ha hT hN hS1 hmk
  go_enter Tryd.func7, Tryd.ntmps7
  go_wp2_with fail
  rw [← hW1]
  clear hW1
  refine Calls.mono HN.out ?_
  rintro e w2 ⟨rfl, hr2, hf2, hs2⟩
  have f3 := hr2.frozen 3
  have c3 := hr2.c3
  have hb2 := (hf2.block _ (lt_of_heap HB1.out) (by simp)).trans HB1.out
  have e2 : w2.cell? ⟨w.heap.size, 2, none⟩ = some (.int .i64 (mark : Int)) := by rw [cell_in hb2]; rfl
  have e3 : w2.cell? ⟨w.heap.size, 3, none⟩ = some (.slice p la.length c) := by rw [cell_in hb2]; rfl
  have HR2 : Hid (∀ V, Eqw (w2.setCell ⟨w.heap.size + 1, 3, none⟩ (.int .i64 (mark : Int))) V → Rep V (w.heap.size + 1) nilLay { emptyH words oops with mark := mark } ∧ Fr [] W1 V) := fun V he => by
    refine ⟨(hr2.set (H' := { emptyH words oops with mark := mark }) 3 _ rfl rfl rfl rfl rfl).eqw he, ?_⟩
    have := HS1.out
    exact (hf2.trans (Fr.setCell (S := [w.heap.size + 1]) w2 ⟨w.heap.size + 1, 3, none⟩ _ (by simp)) (by simp; omega)).trans (he.fr []) (by simp)
  clear HN
  go_wp2_with (go_at_call 36; refine Calls.mono (HMk.out _) ?_; rintro e w' ⟨rfl, hw'⟩; rw [hw']; clear hw' w')
  generalize w2.setCell ⟨w.heap.size + 1, 3, none⟩ (.int .i64 (mark : Int)) = W3 at *
  go_loopw [32] (fun qq wr => ∃ k : Nat, k ≤ la.length ∧ qq = .int .i64 k ∧ Hid (∃ l H M, LdW w W1 (w.heap.size + 1) { emptyH words oops with mark := mark } { emptyM words oops with mark := mark } la k wr l H M)) (fun qq _ => la.length - (intOf qq).toNat)
  case atStart =>
    obtain ⟨r3, f3'⟩ := HR2.out W3 ⟨rfl, rfl, rfl, rfl⟩
    refine ⟨0, Nat.zero_le _, rfl, nilLay, _, { emptyM words oops with mark := mark }, ⟨r3, f3', fun b hb => ?_, ?_⟩⟩
    · have hs := HS1.out
      have hb' : b = w.heap.size + 1 := by simpa [foot, show nilLay.blocks = [] from rfl] using hb
      omega
    · exact Lds.nil
  case round =>
    obtain ⟨k, hkn, rfl, hqq⟩ := hrel
    obtain ⟨l, H, M, hw⟩ := hqq.out
    by_cases hlt : k < la.length
    · have Fk := F1.out.trans hw.fr (by simp)
      have hAk := HA.out.idle Fk
      obtain ⟨p', c', ee, hpa⟩ := hAk.at_
      injection ee with ee eeb eec
      subst ee
      subst eec
      clear eeb
      obtain ⟨g, off, rfl, hca⟩ := hpa (by omega)
      obtain ⟨o, h0, x0, x1, x2, x3⟩ := hca k hlt
      have x4 := hAk.slots o (List.mem_of_getElem? h0)
      obtain ⟨oo, oc, of_, os, ov⟩ := o
      dsimp only at *
      have k1 : (0 : Int) ≤ (k : Int) := by omega
      have k2 : (k : Int) < (la.length : Int) := by omega
      obtain ⟨p1, c1, rfl⟩ : ∃ p c, ov = .slice p os.length c := by
        obtain ⟨p, c, h, _⟩ := x4.at_
        exact ⟨p, c, h⟩
      have hI := hw.lds.inv HI0.out
      obtain ⟨W4, hW4⟩ : ∃ W4, W4 = wr.alloc (.cells #[.int .i64 oo, .int .i64 oc, .int .i64 of_, .slice p1 os.length c1] 44) := ⟨_, rfl⟩
      have F4 : Fr [] wr W4 := by rw [hW4]; exact Fr.alloc [] _ _
      have x5 := x4.idle F4
      have hB4 : W4.heap[wr.heap.size]? = some (.cells #[.int .i64 oo, .int .i64 oc, .int .i64 of_, .slice p1 os.length c1] 44 (0, 0)) := by rw [hW4]; exact heap_alloc_new _ _
      have HB4 := mkHid hB4
      have HF4 := mkHid F4
      have HTk := mkHid (takes_any oo oc of_ os (.slice p1 os.length c1) (w.heap.size + 1) l H W4 (hw.rep.keep F4 (by simp)) hI.safe.small (HTb.out W4 (Fk.trans F4 (by simp))) (by have := Fk.size; have := F4.size; omega) x5)
      have HX5 := mkHid x5
      have HW := mkHid hw
      have HI := mkHid hI
      have HFk := mkHid Fk
      have H0 := mkHid h0
      clear hqq hw hAk hpa hca x4 x5 Fk hI F4 hB4 h0
      by_cases ht : takesB H oo oc of_ os = true
      · obtain ⟨q, hq⟩ : ∃ q : Nat, oo = (q : Int) + 1 := ⟨(oo - 1).toNat, by have := (takesB_yes ht).2.1; omega⟩
        obtain ⟨fm, hfm⟩ : ∃ fm : Nat, of_ = (fm : Int) := ⟨of_.toNat, by have h5 := (takesB_yes ht).2.2.2.2.1; simp [isF] at h5; omega⟩
        have HLd : Hid (∀ V, Fr [] W4 V → Calls Tryd.prog 38 #[.pointer (some ⟨w.heap.size + 1, 0, none⟩), .agg #[.int .i64 oo, .int .i64 oc, .int .i64 of_, .slice p1 os.length c1]] V fun e w' => e = .returned (.tuple #[]) ∧ Hid (∃ l' H' M', LdW w W1 (w.heap.size + 1) { emptyH words oops with mark := mark } { emptyM words oops with mark := mark } la (k + 1) w' l' H' M')) := by
          intro V hV
          have hFV := HF4.out.trans hV (by simp)
          rw [hq, hfm] at ht ⊢
          have hmem := List.mem_of_getElem? H0.out
          have hsl := HA.out.slots _ hmem
          refine Calls.mono (load_taken q oc fm os (.slice p1 os.length c1) (w.heap.size + 1) l H M V (HW.out.rep.keep hFV (by simp)) HI.out ht (HX5.out.idle hV) (fun hp g hg hb => by
            have q1 := hsl.lt hp g hg
            have q2 := HW.out.new g hb
            have q3 := HS1.out
            omega)) ?_
          rintro e w' ⟨rfl, l', H', M', hr', hx', hl'⟩
          have hFV2 : Fr [] W1 V := HW.out.fr.trans hFV (by simp)
          refine ⟨rfl, l', H', M', hr', hFV2.trans hx'.1 (fun b hb => .inr (HW.out.new b hb)), fun b hb => ?_, ?_⟩
          · rcases hx'.2 b hb with h | h
            · exact HW.out.new b h
            · have := hFV2.size
              omega
          · have e : (la.take (k + 1)).map oiKey = (la.take k).map oiKey ++ [((q : Int) + 1, oc, (fm : Int), os)] := by
              have h0 := H0.out
              rw [List.getElem?_eq_getElem hlt] at h0
              have h0' := Option.some.inj h0
              rw [List.take_succ_eq_append_getElem hlt, List.map_append, h0', hq, hfm]
              rfl
            rw [e]
            exact Lds.snoc q oc fm os HW.out.lds ht hl'
        clear hq hfm
        rw [ht] at HTk
        have HT := mkHid ht
        clear ht
        generalize os.length = sn at *
        go_wp2_with fail
        rw [← hW4]
        clear hW4
        refine Calls.mono HTk.out ?_
        rintro e w5 ⟨rfl, hf5⟩
        have b5 := (hf5.block _ (lt_of_heap HB4.out) (by simp)).trans HB4.out
        have y0 : w5.cell? ⟨wr.heap.size, 0, none⟩ = some (.int .i64 oo) := by rw [cell_in b5]; rfl
        have y1 : w5.cell? ⟨wr.heap.size, 1, none⟩ = some (.int .i64 oc) := by rw [cell_in b5]; rfl
        have y2 : w5.cell? ⟨wr.heap.size, 2, none⟩ = some (.int .i64 of_) := by rw [cell_in b5]; rfl
        have y3 : w5.cell? ⟨wr.heap.size, 3, none⟩ = some (.slice p1 sn c1) := by rw [cell_in b5]; rfl
        have HL5 := mkHid (HLd.out w5 hf5)
        clear b5 x0 x1 x2 x3 HTk HLd HT HX5 HW HI HFk H0 HB4 hf5
        go_wp2_with (go_at_call 38; refine Calls.mono HL5.out ?_; rintro e w6 ⟨rfl, h6⟩)
        go_roundw
        case rel => exact ⟨k + 1, by omega, by go_num, h6⟩
        case measure => simp [intOf]; omega
      · have ht : takesB H oo oc of_ os = false := by simpa using ht
        rw [ht] at HTk
        have HT := mkHid ht
        clear ht
        generalize os.length = sn at *
        go_wp2_with fail
        rw [← hW4]
        clear hW4
        refine Calls.mono HTk.out ?_
        rintro e w5 ⟨rfl, hf5⟩
        have F5 : Hid (Fr [] w w5) := (HFk.out.trans HF4.out (by simp)).trans hf5 (by simp)
        clear hf5 HTk x0 x1 x2 x3
        go_wp2_with fail
        go_ret2
        exact .inr ⟨k, _, H, M, rfl, F5.out, H0.out, HW.out.lds, HT.out⟩
    · have hke : k = la.length := by omega
      subst hke
      clear hqq
      have HW := mkHid hw
      clear hw
      go_wp2_with fail
      go_ret2
      exact .inl ⟨rfl, l, H, M, ⟨HW.out.rep, F1.out.trans HW.out.fr (by simp), fun b hb => by have := HW.out.new b hb; have := HS1.out; omega, HW.out.lds⟩⟩
end Go.Proofs.YtpaekbghnejhoaaDoor


