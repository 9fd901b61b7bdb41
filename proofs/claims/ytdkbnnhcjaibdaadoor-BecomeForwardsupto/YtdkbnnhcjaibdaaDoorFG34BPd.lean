import Derived.Test.YtdkbnnhcjaibdaaDoorFG23BRefX
import Derived.Test.YtdkbnnhcjaibdaaDoorFG12HLoadP
import Derived.BigQuiet
import Derived.Test.YtdkbnnhcjaibdaaDoorFG08HMSet
import Derived.Test.YtdkbnnhcjaibdaaDoorFG16RReach
import Derived.Test.YtdkbnnhcjaibdaaDoorFG30BTrn
import Derived.Test.YtdkbnnhcjaibdaaDoorFG31BNil
import Derived.Test.YtdkbnnhcjaibdaaDoorFBRefS
import Derived.Test.YtdkbnnhcjaibdaaDoorFBSwap
namespace Go.Proofs.YtdkbnnhcjaibdaaDoor
open Go.RowKit
set_option linter.unusedVariables false
set_option linter.unusedSimpArgs false
attribute [local go_sem ↓] Go.wp_at_zero Go.wp_at_succ
theorem info137 : (Tryd.prog.info? 137).isSome = true := by kernel_rfl
set_option maxRecDepth 20000 in
set_option maxHeartbeats 1000000 in
theorem rPoint_ok (B r : Nat) (R : RS) (w : World) (h : RRep w B r R) :
    Calls Tryd.prog 44 #[.pointer (some ⟨r, 0, none⟩)] w fun e w' => e = .returned (.agg #[.pointer (some ⟨r, 0, none⟩), .int .i64 (R.born : Int), .int .i64 (R.turn : Int)]) ∧ Fr [] w w' := by
  have hal : r < w.heap.size := lt_of_heap h.top
  have c3 : w.cell? ⟨r, 3, none⟩ = some (.int .i64 (R.born : Int)) := by rw [h.c]; rfl
  have c4 : w.cell? ⟨r, 4, none⟩ = some (.int .i64 (R.turn : Int)) := by rw [h.c]; rfl
  have d3 := (World.cell?_alloc_lt w (.cells #[.pointer none, .int .i64 0, .int .i64 0] 94) ⟨r, 3, none⟩ hal).trans c3
  have d4 := (World.cell?_alloc_lt w (.cells #[.pointer none, .int .i64 0, .int .i64 0] 94) ⟨r, 4, none⟩ hal).trans c4
  clear h
  go_enter Tryd.func44, Tryd.ntmps44
  go_wp2_with fail
  go_region
  all_goals go_wp2_with fail
  all_goals
    refine bodyPost_ret (v := .agg #[.pointer (some ⟨r, 0, none⟩), .int .i64 (R.born : Int), .int .i64 (R.turn : Int)]) (by simp [results, Tryd.results44, go_sem]) rfl ⟨rfl, (Fr.alloc [] _ _).trans (Fr.drew [] _) (by simp)⟩
set_option maxRecDepth 20000 in
set_option maxHeartbeats 1000000 in
theorem rBack_no (bn tn : Int) (B r : Nat) (R : RS) (w : World) (h : RRep w B r R) (hne : (tn != (R.turn : Int)) = true) :
    Calls Tryd.prog 47 #[.pointer (some ⟨r, 0, none⟩), .agg #[.pointer (some ⟨r, 0, none⟩), .int .i64 bn, .int .i64 tn]] w fun e w' => e = .returned (.int .i64 25) ∧ Fr [] w w' := by
  have hal : r < w.heap.size := lt_of_heap h.top
  have c4 : w.cell? ⟨r, 4, none⟩ = some (.int .i64 (R.turn : Int)) := by rw [h.c]; rfl
  have d4 := (World.cell?_alloc_lt w (.cells #[.pointer (some ⟨r, 0, none⟩), .int .i64 bn, .int .i64 tn] 94) ⟨r, 4, none⟩ hal).trans c4
  have HE : Hid (∀ n, Fr [] w ((w.alloc (.cells #[.pointer (some ⟨r, 0, none⟩), .int .i64 bn, .int .i64 tn] 94)).drewN n)) := fun n => (Fr.alloc [] _ _).trans (Fr.drewN [] _ _) (by simp)
  obtain ⟨j, hj⟩ := Option.isSome_iff_exists.1 info137
  have hq := fun V => run_neq_ptr_same V ⟨r, 0, none⟩ Tryd.underlying51 hj
  clear h hj
  go_enter Tryd.func47, Tryd.ntmps47
  go_wp2_with fail
  go_region
  all_goals go_wp2_with fail
  all_goals
    go_ret
    exact ⟨rfl, HE.out _⟩
end Go.Proofs.YtdkbnnhcjaibdaaDoor
namespace Go.Proofs.YtdkbnnhcjaibdaaDoor
open Go.RowKit
set_option linter.unusedVariables false
set_option linter.unusedSimpArgs false
attribute [local go_sem ↓] Go.wp_at_zero Go.wp_at_succ
theorem row_is2 {w : World} {b : Nat} {e : TypeId} {s : Nat} {v : Value} {n : Nat} {xs : List Value} (h : w.ownsRow b e s v n xs) : ∃ p c, v = .slice p n c := by
  rcases h.2 with ⟨h2, h3⟩ | ⟨g, cap, cur, h2, h3⟩
  · exact ⟨none, 0, by rw [h2, h3]⟩
  · exact ⟨_, cap, h2⟩
theorem take_get2 {α : Type} (l : List α) (d : α) (k : Nat) (hk : k < l.length) : l.take (k + 1) = l.take k ++ [l.getD k d] := by
  rw [List.take_succ_eq_append_getElem hk, List.getD_eq_getElem?_getD, List.getElem?_eq_getElem hk]; rfl
theorem roD_mem2 {l : List RO} {k : Nat} (hk : k < l.length) : l.getD k noRO ∈ l := by rw [List.getD_eq_getElem?_getD, List.getElem?_eq_getElem hk]; exact List.getElem_mem hk
theorem infoRO2 : (Tryd.prog.info? 153).map (fun i => (i.zero, i.size, i.bytes)) = some (some (.agg #[.int .i64 0, .int .i64 0, .int .i64 0, .int .i64 0, .int .i64 0, .slice none 0 0]), 6, 64) := by kernel_rfl
theorem info137b : (Tryd.prog.info? 137).isSome = true := by kernel_rfl
/-- the document's heap behind a Back that takes nothing away -/
def rBacked (R : RS) (v : Value) : RS := { R with ov := v, turn := R.turn + 1 }
theorem RRep.backed {w V V' : World} {B r : Nat} {R : RS} {v : Value} (h : RRep w B r R) (hf : Fr [] w V) (hown : V.ownsRow w.heap.size 153 6 v R.objs.length (roCells R.objs)) (he : Eqw ((V.setCell ⟨r, 5, none⟩ v).setCell ⟨r, 4, none⟩ (I (R.turn + 1))) V') : RRep V' B r (rBacked R v) ∧ Fr [r] w V' := by
  have hr := lt_of_heap h.top
  have hlo := h.lo
  have hV : ∀ i, i ≠ r → V'.heap[i]? = V.heap[i]? := fun i hi => by rw [he.2.2.2, set_else hi, set_else hi]
  have htop : V.heap[r]? = some (.cells (rcells R) 137 (0, 0)) := (hf.block r hr (by simp)).trans h.top
  refine ⟨⟨h.lo, ?_, ?_, fun o ho => ?_⟩, ?_⟩
  · rw [he.2.2.2, set_in (set_in htop 5 _) 4 _]
    rfl
  · have h2 : V'.ownsRow w.heap.size 153 6 v R.objs.length (roCells R.objs) := own_congr hown fun g hg => hV g (fun e => by have := (hown.lt g hg).1; omega)
    exact own_base h2 (by omega)
  · have hs := h.slots o ho
    refine own_congr hs fun g hg => ?_
    rw [hV g (fun e => ?_)]
    · exact hf.block g (hs.lt g hg).2 (by simp)
    · subst e
      have h2 := h.top
      rcases hs.2 with ⟨q1, _⟩ | ⟨g1, cap1, cur1, q1, q2, q3, _⟩
      · rw [q1] at hg; simp [Value.ownBlock] at hg
      · rw [q1] at hg
        have a1 : g1 = g := by simpa [Value.ownBlock] using hg
        subst a1
        rw [h2] at q3
        simp at q3
  · have h1 : Fr [r] w (V.setCell ⟨r, 5, none⟩ v) := (hf.mono (by simp)).trans (Fr.setCell V ⟨r, 5, none⟩ v (S := [r]) (by simp)) (by simp)
    have h2 := h1.trans (Fr.setCell (V.setCell ⟨r, 5, none⟩ v) ⟨r, 4, none⟩ (I (R.turn + 1)) (S := [r]) (by simp)) (by simp)
    exact h2.trans (he.fr [r]) (by simp)
set_option maxRecDepth 20000 in
set_option maxHeartbeats 4000000 in
theorem rBack_ok (B r : Nat) (R : RS) (w : World) (h : RRep w B r R) (ho : ROk R) (ht : R.turn ≤ 1000000000) (hold : ∀ o ∈ R.objs, o.born < R.born) :
    Calls Tryd.prog 47 #[.pointer (some ⟨r, 0, none⟩), .agg #[.pointer (some ⟨r, 0, none⟩), .int .i64 (R.born : Int), .int .i64 (R.turn : Int)]] w fun e w' => ∃ v, e = .returned (.int .i64 0) ∧ RRep w' B r (rBacked R v) ∧ Fr [r] w w' := by
  obtain ⟨i114, ii114, iz114, is114, ib114⟩ := info_parts infoRO2
  have hrl := lt_of_heap h.top
  obtain ⟨po, co, hov⟩ := h.ovIs
  have hl := ho.len
  have c4 : w.cell? ⟨r, 4, none⟩ = some (.int .i64 (R.turn : Int)) := by rw [h.c]; rfl
  have d4 := (World.cell?_alloc_lt w (.cells #[.pointer (some ⟨r, 0, none⟩), .int .i64 (R.born : Int), .int .i64 (R.turn : Int)] 94) ⟨r, 4, none⟩ hrl).trans c4
  have HR := mkHid h
  have HO := mkHid ho
  have HOld := mkHid hold
  have HA : Hid (Fr [] w (w.alloc (.cells #[.pointer (some ⟨r, 0, none⟩), .int .i64 (R.born : Int), .int .i64 (R.turn : Int)] 94))) := Fr.alloc [] _ _
  have HP0 : Hid ((w.alloc (.cells #[.pointer (some ⟨r, 0, none⟩), .int .i64 (R.born : Int), .int .i64 (R.turn : Int)] 94)).heap[w.heap.size]? = some (.cells #[.pointer (some ⟨r, 0, none⟩), .int .i64 (R.born : Int), .int .i64 (R.turn : Int)] 94 (0, 0))) := heap_alloc_new _ _
  obtain ⟨j, hj⟩ := Option.isSome_iff_exists.1 info137b
  have hq := fun V => run_neq_ptr_same V ⟨r, 0, none⟩ Tryd.underlying51 hj
  clear h ho hold hj
  go_enter Tryd.func47, Tryd.ntmps47
  go_wp2_with fail
  go_region
  all_goals go_wp2_with fail
  have HC : Hid (∀ V, Fr [] w V → V.cell? ⟨r, 5, none⟩ = some (.slice po R.objs.length co) ∧ V.cell? ⟨r, 4, none⟩ = some (.int .i64 (R.turn : Int)) ∧ V.frozen? ⟨r, 5, none⟩ = false ∧ V.frozen? ⟨r, 4, none⟩ = false) := fun V hV => by
    have h1 := HR.out.idle hV
    exact ⟨by rw [h1.c, ← hov]; rfl, by rw [h1.c]; rfl, frozen_in h1.top 5, frozen_in h1.top 4⟩
  obtain ⟨W1, hW1⟩ : ∃ W1, W1 = (w.alloc (.cells #[.pointer (some ⟨r, 0, none⟩), .int .i64 (R.born : Int), .int .i64 (R.turn : Int)] 94)).drew := ⟨_, rfl⟩
  have F1 : Hid (Fr [] w W1) := by rw [hW1]; exact HA.out.trans (Fr.drew [] _) (by simp)
  have HP1 : Hid (W1.heap[w.heap.size]? = some (.cells #[.pointer (some ⟨r, 0, none⟩), .int .i64 (R.born : Int), .int .i64 (R.turn : Int)] 94 (0, 0))) := by rw [hW1]; exact HP0.out
  rw [← hW1]
  clear hW1 d4 c4 HA HP0 hq
  go_loopw [5, 6] (fun v q wr => ∃ k : Nat, k ≤ R.objs.length ∧ q = .int .i64 k ∧ wr.ownsRow W1.heap.size 153 6 v k (roCells (R.objs.take k)) ∧ Hid (Fr [] W1 wr)) (fun _ q _ => R.objs.length - (intOf q).toNat)
  case atStart => exact ⟨0, Nat.zero_le _, rfl, World.ownsRow_nil _ _ _ _, Fr.refl _ _⟩
  case round =>
    obtain ⟨k, hkn, rfl, hown, hfr⟩ := hrel
    have HFw : Hid (Fr [] w wr) := F1.out.trans hfr.out (by simp)
    have k1 : (0 : Int) ≤ (k : Int) := by omega
    by_cases hlt : k < R.objs.length
    · have k2 : (k : Int) < (R.objs.length : Int) := by omega
      have HCl : Hid (∀ V, Fr [] w V → ∃ g c', po = some ⟨g, 0, none⟩ ∧ (V.cell? ⟨g, k * 6, none⟩ = some (I (R.objs.getD k noRO).oop) ∧ V.cell? ⟨g, k * 6 + 1, none⟩ = some (I (R.objs.getD k noRO).fmt) ∧ V.cell? ⟨g, k * 6 + 2, none⟩ = some (I (R.objs.getD k noRO).place) ∧ V.cell? ⟨g, k * 6 + 3, none⟩ = some (I (R.objs.getD k noRO).born) ∧ V.cell? ⟨g, k * 6 + 4, none⟩ = some (.int .i64 (R.objs.getD k noRO).cls) ∧ V.cell? ⟨g, k * 6 + 5, none⟩ = some (R.objs.getD k noRO).v)) := fun V hV => by
        have hRr := HR.out.idle hV
        obtain ⟨g, c', hv1, hc⟩ := hRr.at_ (by omega)
        rw [hov] at hv1
        injection hv1 with e1 e2 e3
        exact ⟨g, c', e1, hc k hlt⟩
      obtain ⟨p5, c5', hv5⟩ := HR.out.vIs k hlt
      have hold := HOld.out _ (roD_mem2 hlt)
      have hsn := take_get2 R.objs noRO k hlt
      have hob := HO.out.getD k hlt
      generalize hoo : R.objs.getD k noRO = o at *
      clear hoo
      obtain ⟨oo, of_, opl, obn, oc, os, oov⟩ := o
      dsimp only at *
      subst hv5
      have HSn := mkHid hsn
      obtain ⟨c5, c4, z5, z4⟩ := HC.out _ HFw.out
      obtain ⟨g, c', rfl, q0, q1, q2, q3, q4, q5⟩ := HCl.out _ HFw.out
      have b1 : wr.cell? ⟨w.heap.size, 1, none⟩ = some (.int .i64 (R.born : Int)) := by rw [cell_in ((hfr.out.block _ (lt_of_heap HP1.out) (by simp)).trans HP1.out)]; rfl
      have hbn : (obn : Int) < (R.born : Int) := by omega
      simp only [I] at q0 q1 q2 q3
      clear hsn
      go_upto_region 9 with (fail)
      go_quiet (fail)
      have FV : Fr [] wr (wr.drewN nq) := Fr.drewN [] _ _
      generalize wr.drewN nq = V at *
      have hownV : V.ownsRow W1.heap.size 153 6 _ k (roCells (R.objs.take k)) := own_congr hown fun b hb => FV.block b (hown.lt b hb).2 (by simp)
      have HFV : Hid (Fr [] W1 V) := hfr.out.trans FV (by simp)
      clear c5 c4 z5 z4 q0 q1 q2 q3 q4 q5 b1 hown FV
      obtain ⟨c5, c4, z5, z4⟩ := HC.out _ (F1.out.trans HFV.out (by simp))
      obtain ⟨g2, c2', e2, q0, q1, q2, q3, q4, q5⟩ := HCl.out _ (F1.out.trans HFV.out (by simp))
      injection e2 with e2
      injection e2 with e2
      subst e2
      simp only [I] at q0 q1 q2 q3
      have hown2 := hownV.alloc (.cells #[.int .i64 (oo : Int), .int .i64 (of_ : Int), .int .i64 (opl : Int), .int .i64 (obn : Int), .int .i64 oc, .slice p5 os.length c5'] 153)
      have HF7 : Hid (Fr [] W1 (V.alloc (.cells #[.int .i64 (oo : Int), .int .i64 (of_ : Int), .int .i64 (opl : Int), .int .i64 (obn : Int), .int .i64 oc, .slice p5 os.length c5'] 153))) := HFV.out.trans (Fr.alloc [] _ _) (by simp)
      clear hownV
      go_wp2_with (first
        | (at_builtin; refine wpList_append_own _ rfl (.tmp 42) (.tmp 50) 135 rfl W1.heap.size 153 i114 (.agg #[.int .i64 0, .int .i64 0, .int .i64 0, .int .i64 0, .int .i64 0, .slice none 0 0]) 6 64 Tryd.underlying135 ii114 iz114 is114 ib114 rfl (by decide) _ _ _ rfl hown2 ⟨V.heap.size, 0, none⟩ 1 1 [.int .i64 (oo : Int), .int .i64 (of_ : Int), .int .i64 (opl : Int), .int .i64 (obn : Int), .int .i64 oc, .slice p5 os.length c5'] rfl rfl ?d1 ?d2 ?d3 ?d4 ?d5 ?_)
        | go_in)
      case d2 => exact ⟨rfl, rfl, rfl, rfl, rfl, rfl⟩
      case d3 => unfold maxLen; omega
      case d4 => omega
      case d5 => have := HFV.out.size; omega
      intro v' w1 hown' hgrow _
      have hrow : w1.ownsRow W1.heap.size 153 6 v' (k + 1) (roCells (R.objs.take (k + 1))) := by
        rw [HSn.out, roCells_append]
        exact hown'
      have HG : Hid (Fr [] W1 w1) := by
        refine ⟨hgrow.os.trans HF7.out.os, hgrow.tape.trans HF7.out.tape, hgrow.output.trans HF7.out.output, Nat.le_trans HF7.out.size hgrow.size, fun i hi hn => ?_⟩
        rw [hgrow.block i (Nat.lt_of_lt_of_le hi HF7.out.size) (fun e => ?_)]
        · exact HF7.out.block i hi hn
        · have := (hown2.lt i e.symm).1
          omega
      have HO3 := mkHid hrow
      clear hrow hown' hgrow hown2 HF7
      go_wp2
      go_roundw
      case rel => exact ⟨k + 1, by omega, by go_num, HO3.out, HG⟩
      case measure => simp [intOf]; omega
    · have hke : k = R.objs.length := by omega
      subst hke
      rw [List.take_length] at hown
      obtain ⟨pv, cv, rfl⟩ := row_is2 hown
      obtain ⟨c5, c4, z5, z4⟩ := HC.out _ HFw.out
      have hown0 : wr.ownsRow w.heap.size 153 6 (.slice pv R.objs.length cv) R.objs.length (roCells R.objs) := own_base hown (by have := F1.out.size; omega)
      have HK : Hid (∀ V', Eqw ((wr.setCell ⟨r, 5, none⟩ (.slice pv R.objs.length cv)).setCell ⟨r, 4, none⟩ (I (R.turn + 1))) V' → RRep V' B r (rBacked R (.slice pv R.objs.length cv)) ∧ Fr [r] w V') := fun V' hV => HR.out.backed HFw.out hown0 hV
      have s5 : (wr.setCell ⟨r, 5, none⟩ (.slice pv R.objs.length cv)).cell? ⟨r, 4, none⟩ = some (.int .i64 (R.turn : Int)) := by
        rw [cell_in (set_in (HR.out.idle HFw.out).top 5 _)]; rfl
      have s6 : (wr.setCell ⟨r, 5, none⟩ (.slice pv R.objs.length cv)).frozen? ⟨r, 4, none⟩ = false := frozen_in (set_in (HR.out.idle HFw.out).top 5 _) 4
      clear hown hown0
      go_upto_region 12 with (fail)
      generalize hV7 : wr.setCell ⟨r, 5, none⟩ (.slice pv R.objs.length cv) = V7 at *
      clear hV7 c5 c4 z5 z4
      go_wp2_with fail
      go_ret
      obtain ⟨h1, h2⟩ := HK.out _ ⟨rfl, rfl, rfl, rfl⟩
      exact ⟨_, rfl, h1, h2⟩
end Go.Proofs.YtdkbnnhcjaibdaaDoor
namespace Go.Proofs.YtdkbnnhcjaibdaaDoor
open Go.RowKit
set_option linter.unusedVariables false
theorem draw_same {H : HS} {M : MS} (h : Inv H M) : ∃ t e, DrawOk H t e ∧ drawH H t e = H := by
  obtain ⟨t, e, hd, hi⟩ := h.toInvV.draw
  refine ⟨t, e, hd, ?_⟩
  have h1 : (H.mem.take e).length = H.mem.length := hi.fin.trans h.fin.symm
  have h2 : t = H.order.length := by
    have h3 := hd.t1
    rcases Nat.lt_or_ge t H.order.length with h4 | h4
    · exact absurd (hd.t2 (H.order.length - 1) (by omega) (by omega)) (h.last (H.order.length - 1) (by omega))
    · omega
  unfold drawH
  rw [h2, List.take_length, List.take_of_length_le (by rw [List.length_take] at h1; omega)]
theorem Back_same {words oops mark : Nat} {ks : List Key} {H : HS} {M : MS} {a : Nat} {l : Lay} {w : World} (hR : Rep w a l H) (h : KA words oops mark ks H M) (hage : H.age ≤ 1000000000) :
    Calls Tryd.prog 46 #[.pointer (some ⟨a, 0, none⟩), .agg #[.pointer (some ⟨a, 0, none⟩), .int .i64 (H.age : Int), .int .i64 (H.order.length : Int)]] w fun e w' => e = .returned (.int .i64 0) ∧ Rep w' a l { H with age := H.age + 1 } ∧ KA words oops mark ks { H with age := H.age + 1 } M ∧ Nx a l l w w' := by
  obtain ⟨t, e, hd, hs⟩ := draw_same h.inv
  have hb : backTo H H.order.length (H.order.length - H.order.length) = H := by rw [Nat.sub_self]; rfl
  have hk : BackOk H H.order.length := ⟨Nat.le_refl _, fun j hj => by omega, by have := hd.r1; omega, by omega⟩
  refine (Back_ok H.order.length t e a l H w hR hk (by rw [hb]; exact hd)).mono ?_
  rintro e2 w' ⟨he, hr, hn⟩
  rw [hb, hs] at hr
  refine ⟨he, hr, ?_, hn⟩
  exact ⟨h.inv.aged _, h.words, h.oops, h.mark, h.order, h.mem, h.at_, h.only⟩
end Go.Proofs.YtdkbnnhcjaibdaaDoor
namespace Go.Proofs.YtdkbnnhcjaibdaaDoor
open Go.RowKit
set_option linter.unusedVariables false
set_option linter.unusedSimpArgs false
attribute [local go_sem ↓] Go.wp_at_zero Go.wp_at_succ
set_option maxRecDepth 20000 in
set_option maxHeartbeats 1000000 in
theorem loaded4_ok (x y z : Int) (ov : Value) (la : List OI) (w : World) (ha : SAt w ov la) (hT : Tab w) (hT0 : 0 < w.heap.size) :
    Calls Tryd.prog 37 #[.agg #[.int .i64 x, .int .i64 y, .int .i64 z, ov]] w fun e w' =>
      (e = .returned (.tuple #[.pointer none, .pointer none, .bool true]) ∧ Fr [] w w') ∨
      (∃ (xn yn zn a B r : Nat) (l : Lay) (H : HS) (M : MS) (R : RS), e = .returned (.tuple #[.pointer (some ⟨a, 0, none⟩), .pointer (some ⟨r, 0, none⟩), .bool true]) ∧ Twin w' a l B r w'.heap.size xn yn zn (la.map oiKey) H M R ∧ ROf xn yn zn (la.map oiKey) R ∧ Fr [] w w' ∧ (∀ g ∈ foot a l, w.heap.size ≤ g) ∧ w.heap.size ≤ B ∧ B ≤ w'.heap.size) := by
  obtain ⟨pa, ca, rfl, -⟩ := ha.at_
  obtain ⟨W1, hW1⟩ : ∃ W1, W1 = w.alloc (.cells #[.int .i64 x, .int .i64 y, .int .i64 z, .slice pa la.length ca] 45) := ⟨_, rfl⟩
  have F1 : Hid (Fr [] w W1) := by rw [hW1]; exact Fr.alloc [] _ _
  have hB : W1.heap[w.heap.size]? = some (.cells #[.int .i64 x, .int .i64 y, .int .i64 z, .slice pa la.length ca] 45 (0, 0)) := by rw [hW1]; exact heap_alloc_new _ _
  have HS : Hid (∀ V, Fr [] W1 V → V.cell? ⟨w.heap.size, 0, none⟩ = some (.int .i64 x) ∧ V.cell? ⟨w.heap.size, 1, none⟩ = some (.int .i64 y) ∧ V.cell? ⟨w.heap.size, 2, none⟩ = some (.int .i64 z) ∧ V.cell? ⟨w.heap.size, 3, none⟩ = some (.slice pa la.length ca)) := fun V hV => by
    have hb := (hV.block _ (lt_of_heap hB) (by simp)).trans hB
    exact ⟨by rw [cell_in hb]; rfl, by rw [cell_in hb]; rfl, by rw [cell_in hb]; rfl, by rw [cell_in hb]; rfl⟩
  have HA : Hid (∀ V, Fr [] W1 V → SAt V (.slice pa la.length ca) la) := fun V hV => ha.idle (F1.out.trans hV (by simp))
  have hs1 : w.heap.size < W1.heap.size := lt_of_heap hB
  have s1 := ha.short
  have HLd := mkHid (load_p x y z _ la W1 (HA.out W1 (Fr.refl _ _)) (hT.fr F1.out hT0) (by omega))
  have HRl : Hid (∀ V, Fr [] W1 V → _) := fun V hV => rload_p x y z _ la V (HA.out V hV)
  clear ha hT hT0 hB
  go_enter Tryd.func37, Tryd.ntmps37
  obtain ⟨c0, c1, c2, c3⟩ := HS.out W1 (Fr.refl _ _)
  go_wp2_with fail
  rw [← hW1]
  refine Calls.mono HLd.out ?_
  clear HLd hW1
  rintro e w1 (⟨n, hn1, hn2, hn3, rfl, hf⟩ | ⟨xn, yn, zn, l, H, M, hnb, rfl, rfl, rfl, hxn, hall, rfl, hrep, hk, hf1, hnew⟩)
  · have HR1 := mkHid (HRl.out w1 hf)
    have HF1 := mkHid hf
    have HN3 := mkHid hn3
    clear c0 c1 c2 c3
    obtain ⟨c0, c1, c2, c3⟩ := HS.out w1 hf
    clear hf hn3 HRl
    go_wp2_with fail
    refine Calls.mono HR1.out ?_
    rintro e w2 (⟨m, hm1, hm2, hm3, rfl, hf2⟩ | ⟨R, hnb, hall, rfl, hrep, hof, hf2⟩)
    · have e1 : m = n := by
        rcases HN3.out with ⟨a1, a2⟩ | ⟨a1, a2, a3⟩ <;> rcases hm3 with ⟨b1, b2⟩ | ⟨b1, b2, b3⟩
        · omega
        · exact absurd a1 b1
        · exact absurd b1 a1
        · omega
      subst e1
      have HF2 := mkHid ((F1.out.trans HF1.out (by simp)).trans hf2 (by simp))
      clear hm3 hf2 HN3
      go_wp2_with (go_at_call 29; refine Calls.mono (num4_any m w2) ?_; rintro e w' ⟨rfl, hw'⟩; rw [hw']; clear hw' w')
      refine bodyPost_ret (results_tmp3 rfl _ _ _) rfl ?_
      exact .inl ⟨rfl, HF2.out⟩
    · exfalso
      rcases HN3.out with ⟨a1, a2⟩ | ⟨a1, a2, a3⟩
      · exact hnb a1
      · exact a3 hall
  · have HR1 := mkHid (HRl.out w1 hf1)
    have HF1 := mkHid hf1
    have HRe := mkHid hrep
    have HK := mkHid hk
    have HNew := mkHid hnew
    have HAll := mkHid (And.intro hnb hall)
    generalize ha : W1.heap.size + 1 = a at *
    clear c0 c1 c2 c3
    obtain ⟨c0, c1, c2, c3⟩ := HS.out w1 hf1
    clear hf1 hrep hk hnew hnb hall HRl ha
    go_wp2_with fail
    refine Calls.mono HR1.out ?_
    rintro e w2 (⟨m, hm1, hm2, hm3, rfl, hf2⟩ | ⟨R, hnb, hall, rfl, hrep, hof, hf2⟩)
    · exfalso
      rcases hm3 with ⟨a1, a2⟩ | ⟨a1, a2, a3⟩
      · exact HAll.out.1 a1
      · exact a3 HAll.out.2
    · have HF2 := mkHid ((F1.out.trans HF1.out (by simp)).trans hf2 (by simp))
      have HTw : Hid (Twin w2 a l (w1.heap.size + 1) (w1.heap.size + 1) w2.heap.size xn yn zn (la.map oiKey) H M R) :=
        ⟨HRe.out.keep hf2 (by simp), HK.out.ka, hrep, hof.rk hrep (by omega), fun g hg => by have := HRe.out.lt g hg; omega, by rw [HK.out.age, hof.turn]; omega⟩
      have HT0 : Hid (ROf xn yn zn (la.map oiKey) R) := hof
      have hsz : W1.heap.size ≤ w1.heap.size := HF1.out.size
      have hszb : w1.heap.size + 1 < w2.heap.size := lt_of_heap hrep.top
      generalize hr : w1.heap.size + 1 = r at *
      clear hrep hof hf2 hnb hall
      go_wp2_with (go_at_call 29; refine Calls.mono (num4_any 0 w2) ?_; rintro e w' ⟨rfl, hw'⟩; rw [hw']; clear hw' w')
      refine bodyPost_ret (results_tmp3 rfl _ _ _) rfl ?_
      exact .inr ⟨xn, yn, zn, a, r, r, l, H, M, R, rfl, HTw.out, HT0.out, HF2.out, fun g hg => by have := HNew.out g hg; omega, by omega, by omega⟩
end Go.Proofs.YtdkbnnhcjaibdaaDoor
namespace Go.Proofs.YtdkbnnhcjaibdaaDoor
open Go.RowKit
set_option linter.unusedVariables false
set_option linter.unusedSimpArgs false
/-- what a heap holds -/
structure Ds where
  words : Nat
  oops : Nat
  mark : Nat
  ks : List Key
/-- what it says of itself, nil or not -/
def wordsD : Option Ds → Nat
  | none => 0
  | some d => d.words
def oopsD : Option Ds → Nat
  | none => 0
  | some d => d.oops
def markD : Option Ds → Nat
  | none => 0
  | some d => d.mark
def ksD : Option Ds → List Key
  | none => []
  | some d => d.ks
def hasL (ks : List Key) (q : Int) : Bool := ks.any fun x => x.1 == q
/-- what Swap answers -/
def swAns (d : Option Ds) (sa sb : List Int) : Int :=
  match d with
  | none => 2
  | some d => fitN (hasL d.ks) sa sb
/-- what it leaves -/
def swD (d : Option Ds) (sa sb : List Int) : Option Ds :=
  match d with
  | none => none
  | some d => if fitN (hasL d.ks) sa sb = 0 then some { d with ks := swapK (sa.zip sb) d.ks } else some d
/-- how many pairs it exchanges -/
def swN (d : Option Ds) (sa sb : List Int) : Nat :=
  match d with
  | none => 0
  | some d => if fitN (hasL d.ks) sa sb = 0 then sa.length else 0
/-- what Back answers to a point that was made so many turns ago -/
def bkAns (d : Option Ds) (same : Bool) : Int :=
  match d with
  | none => 2
  | some _ => if same then 0 else 25
def bkN (d : Option Ds) (same : Bool) : Nat :=
  match d with
  | none => 0
  | some _ => if same then 1 else 0
/-- the program's heap -/
def PS (S : List Nat) (d : Option Ds) (ag : Nat) (hv : Value) (w : World) : Prop :=
  match d with
  | none => hv = .pointer none ∧ ag = 0
  | some d => ∃ (a : Nat) (l : Lay) (H : HS) (M : MS), hv = .pointer (some ⟨a, 0, none⟩) ∧ S = foot a l ∧ Rep w a l H ∧ KA d.words d.oops d.mark d.ks H M ∧ H.age = ag
theorem PS.keep {S T : List Nat} {d : Option Ds} {ag : Nat} {hv : Value} {w w' : World} (h : PS S d ag hv w) (hf : Fr T w w') (hd : ∀ g ∈ S, g ∉ T) : PS S d ag hv w' := by
  cases d with
  | none => exact h
  | some d =>
    obtain ⟨a, l, H, M, h1, h2, h3, h4, h5⟩ := h
    subst h2
    exact ⟨a, l, H, M, h1, rfl, h3.keep hf hd, h4, h5⟩
theorem PS.idle {S : List Nat} {d : Option Ds} {ag : Nat} {hv : Value} {w w' : World} (h : PS S d ag hv w) (hf : Fr [] w w') : PS S d ag hv w' := h.keep hf (by simp)
theorem ka_hasL {words oops mark : Nat} {ks : List Key} {H : HS} {M : MS} (h : KA words oops mark ks H M) : has H = hasL ks := funext fun q => h.has q
theorem KA.ordLen {words oops mark : Nat} {ks : List Key} {H : HS} {M : MS} (h : KA words oops mark ks H M) : H.order.length = ks.length := by rw [h.order, List.length_map]
theorem p_point {S : List Nat} {d : Option Ds} {ag : Nat} {hv : Value} {w : World} (h : PS S d ag hv w) :
    Calls Tryd.prog 43 #[hv] w fun e w' => e = .returned (.agg #[hv, .int .i64 (ag : Int), .int .i64 ((ksD d).length : Int)]) ∧ Fr [] w w' := by
  cases d with
  | none =>
    obtain ⟨rfl, rfl⟩ := h
    exact Point_nil w
  | some d =>
    obtain ⟨a, l, H, M, rfl, h2, h3, h4, rfl⟩ := h
    have := Point_ok a l H w h3
    rw [h4.ordLen] at this
    exact this
theorem p_swap {S : List Nat} {d : Option Ds} {ag : Nat} {hv : Value} {w : World} (h : PS S d ag hv w) (sa sb : List Int) (va vb : Value) (ha : Rd w va sa) (hb : Rd w vb sb) (hfa : 0 < sa.length → ∀ g, va.ownBlock = some g → g ∉ S) (hage : ag ≤ 100000) :
    Calls Tryd.prog 32 #[hv, va, vb] w fun e w' => e = .returned (.int .i64 (swAns d sa sb)) ∧ PS S (swD d sa sb) (ag + swN d sa sb) hv w' ∧ Fr S w w' ∧ swN d sa sb ≤ 65538 := by
  cases d with
  | none =>
    obtain ⟨rfl, rfl⟩ := h
    exact (Swap_nil va vb w).mono fun e w' ⟨h1, h2⟩ => ⟨h1, ⟨rfl, rfl⟩, h2.mono (by simp), Nat.zero_le _⟩
  | some d =>
    obtain ⟨a, l, H, M, rfl, rfl, h3, h4, rfl⟩ := h
    refine (Swap_all sa sb va vb w h3 h4 ha hb hfa hage).mono ?_
    unfold swAns swD swN
    rw [ka_hasL h4]
    rintro e w' (⟨h5, h6, h7⟩ | ⟨h5, h6, H', M', h7, h8, h9, h10, h11, h12⟩)
    · simp only [if_neg h5]
      exact ⟨h6, ⟨a, l, H, M, rfl, rfl, h3.keep h7 (by simp), h4, rfl⟩, h7.mono (by simp), Nat.zero_le _⟩
    · simp only [if_pos h5]
      exact ⟨by rw [h6, h5], ⟨a, l, H', M', rfl, rfl, h7, h8, h9⟩, h12.1, h10⟩
theorem p_back {S : List Nat} {d : Option Ds} {ag : Nat} {hv : Value} {w : World} (h : PS S d ag hv w) (ag0 n0 : Nat) (hn : ag0 = ag → n0 = (ksD d).length) (hage : ag ≤ 1000000000) :
    Calls Tryd.prog 46 #[hv, .agg #[hv, .int .i64 (ag0 : Int), .int .i64 (n0 : Int)]] w fun e w' => e = .returned (.int .i64 (bkAns d (decide (ag0 = ag)))) ∧ PS S d (ag + bkN d (decide (ag0 = ag))) hv w' ∧ Fr S w w' := by
  cases d with
  | none =>
    obtain ⟨rfl, rfl⟩ := h
    exact (Back_nil _ _ _ w).mono fun e w' ⟨h1, h2⟩ => ⟨h1, ⟨rfl, rfl⟩, h2.mono (by simp)⟩
  | some d =>
    obtain ⟨a, l, H, M, rfl, rfl, h3, h4, rfl⟩ := h
    by_cases e : ag0 = H.age
    · subst e
      have hn := hn rfl
      subst hn
      have := Back_same h3 h4 hage
      rw [h4.ordLen] at this
      refine this.mono ?_
      rintro e w' ⟨h5, h6, h7, h8⟩
      simp only [bkAns, bkN, decide_true, if_true]
      exact ⟨h5, ⟨a, l, _, M, rfl, rfl, h6, h7, rfl⟩, h8.1⟩
    · refine (Back_no ag0 n0 a l H w h3 (by simp; omega)).mono ?_
      rintro e2 w' ⟨h5, h6⟩
      have e3 : decide (ag0 = H.age) = false := decide_eq_false e
      rw [e3]
      exact ⟨h5, ⟨a, l, H, M, rfl, rfl, h3.keep h6 (by simp), h4, rfl⟩, h6.mono (by simp)⟩
/-- a told state, that can be read -/
def Say (d : Option Ds) (w : World) (e : Ending) (w' : World) : Prop := ∃ ov ls, e = .returned (.agg #[.int .i64 (wordsD d : Int), .int .i64 (oopsD d : Int), .int .i64 (markD d : Int), ov]) ∧ SAt w' ov ls ∧ ls.map oiKey = ksD d ∧ Fr [] w w'
theorem p_state {S : List Nat} {d : Option Ds} {ag : Nat} {hv : Value} {w : World} (h : PS S d ag hv w) : Calls Tryd.prog 18 #[hv] w (Say d w) := by
  cases d with
  | none =>
    obtain ⟨rfl, rfl⟩ := h
    exact (State_nil w).mono fun e w' ⟨h1, h2⟩ => ⟨_, [], h1, sat_nil _, rfl, h2⟩
  | some d =>
    obtain ⟨a, l, H, M, rfl, h2, h3, h4, rfl⟩ := h
    exact (state_of h3 h4).mono fun e w' ⟨p, c, lo, h5, h6, h7⟩ => ⟨_, _, h5, h6.sat, h6.keys, h7⟩
end Go.Proofs.YtdkbnnhcjaibdaaDoor
namespace Go.Proofs.YtdkbnnhcjaibdaaDoor
open Go.RowKit
set_option linter.unusedVariables false
set_option linter.unusedSimpArgs false
/-- the document's heap; what is told behind 'fr' is known as long as nothing was exchanged -/
def RSd (B N : Nat) (d : Option Ds) (tn : Nat) (fr : Option Nat) (rv : Value) (w : World) : Prop :=
  match d with
  | none => rv = .pointer none ∧ tn = 0
  | some d => ∃ (r : Nat) (R : RS), rv = .pointer (some ⟨r, 0, none⟩) ∧ RRep w B r R ∧ RK d.words d.oops d.mark d.ks N R.bare ∧ (R.objs.map fun o => o.oop).Nodup ∧ R.turn = tn ∧ (∀ bn, fr = some bn → R.born = bn ∧ ∀ o ∈ R.objs, o.born < R.born)
/-- a block that a heap of the document has for itself -/
def RBl (B : Nat) (w : World) (T : List Nat) : Prop := ∀ g ∈ T, B ≤ g ∧ ∃ cur t, (t = 137 ∨ t = 153) ∧ w.heap[g]? = some (.cells cur t (0, 0))
theorem rbl_foot {w : World} {B r : Nat} {R : RS} (h : RRep w B r R) : RBl B w (rFoot r R) := fun g hg => by
  rcases mem_rFoot.1 hg with e | e
  · subst e
    exact ⟨h.lo, _, 137, .inl rfl, h.top⟩
  · obtain ⟨cur, hc⟩ := row_block h.row e
    exact ⟨(h.row.lt g e).1, cur, 153, .inr rfl, hc⟩
theorem RBl.nil (B : Nat) (w : World) : RBl B w [] := fun g hg => by simp at hg
/-- a list that lies ahead of B, or whose block holds numbers -/
def Apart (B : Nat) (w : World) (v : Value) : Prop := ∀ g, v.ownBlock = some g → g < B ∨ ∃ cur, w.heap[g]? = some (.cells cur 3 (0, 0))
theorem Apart.out {B : Nat} {w : World} {v : Value} {T : List Nat} (h : Apart B w v) (hT : RBl B w T) (g : Nat) (hg : v.ownBlock = some g) : g ∉ T := fun hm => by
  obtain ⟨h1, cur, t, h2, h3⟩ := hT g hm
  rcases h g hg with h4 | ⟨cur2, h4⟩
  · omega
  · rw [h4] at h3
    injection h3 with h3
    injection h3 with _ h3 _
    rcases h2 with h2 | h2 <;> rw [h2] at h3 <;> exact absurd h3 (by decide)
theorem RSd.keep {B N : Nat} {d : Option Ds} {tn : Nat} {fr : Option Nat} {rv : Value} {w w' : World} {S : List Nat} (h : RSd B N d tn fr rv w) (hf : Fr S w w') (hd : ∀ g ∈ S, g < B ∨ ∃ cur, w.heap[g]? = some (.cells cur 3 (0, 0))) : RSd B N d tn fr rv w' := by
  cases d with
  | none => exact h
  | some d =>
    obtain ⟨r, R, h1, h2, h3⟩ := h
    refine ⟨r, R, h1, ?_, h3⟩
    have key : ∀ {t : TypeId} {cur : Array Value} {g : Nat}, w.heap[g]? = some (.cells cur t (0, 0)) → B ≤ g → t ≠ 3 → w'.heap[g]? = w.heap[g]? := fun {t cur g} hg hB ht => hf.block g (lt_of_heap hg) (fun hm => by
      rcases hd g hm with h4 | ⟨cur2, h4⟩
      · omega
      · rw [h4] at hg
        injection hg with hg
        injection hg with _ hg _
        exact ht hg.symm)
    refine ⟨h2.lo, (key h2.top h2.lo (by decide)).trans h2.top, own_congr h2.row fun g hg => ?_, fun o ho => own_congr (h2.slots o ho) fun g hg => ?_⟩
    · obtain ⟨cur, hc⟩ := row_block h2.row hg
      exact key hc (h2.row.lt g hg).1 (by decide)
    · obtain ⟨cur, hc⟩ := row_block (h2.slots o ho) hg
      exact key hc ((h2.slots o ho).lt g hg).1 (by decide)
theorem RSd.idle {B N : Nat} {d : Option Ds} {tn : Nat} {fr : Option Nat} {rv : Value} {w w' : World} (h : RSd B N d tn fr rv w) (hf : Fr [] w w') : RSd B N d tn fr rv w' := h.keep hf (by simp)
/-- nothing is known any more of when its objects were born -/
theorem RSd.lose {B N : Nat} {d : Option Ds} {tn : Nat} {fr : Option Nat} {rv : Value} {w : World} (h : RSd B N d tn fr rv w) : RSd B N d tn none rv w := by
  cases d with
  | none => exact h
  | some d =>
    obtain ⟨r, R, h1, h2, h3, h4, h5, -⟩ := h
    exact ⟨r, R, h1, h2, h3, h4, h5, fun bn h => by cases h⟩
theorem r_point {B N : Nat} {d : Option Ds} {tn : Nat} {bn : Nat} {rv : Value} {w : World} (h : RSd B N d tn (some bn) rv w) (h0 : d = none → bn = 0) :
    Calls Tryd.prog 44 #[rv] w fun e w' => e = .returned (.agg #[rv, .int .i64 (bn : Int), .int .i64 (tn : Int)]) ∧ Fr [] w w' := by
  cases d with
  | none =>
    obtain ⟨rfl, rfl⟩ := h
    rw [h0 rfl]
    exact rPoint_nil w
  | some d =>
    obtain ⟨r, R, rfl, h2, h3, h4, rfl, h6⟩ := h
    obtain ⟨rfl, -⟩ := h6 bn rfl
    exact rPoint_ok B r R w h2
theorem rhas_keys {R : RS} {ks : List Key} (h : R.objs.map roKey = ks) : rhas R = hasL ks := funext fun q => by
  subst h
  unfold rhas hasL
  rw [List.any_map]
  congr 1
theorem RK.olen {words oops mark N : Nat} {ks : List Key} {R : RS} (h : RK words oops mark ks N R.bare) (hk : ks.length ≤ 65538) : R.objs.length ≤ 65538 := by
  have := h.len
  have e : R.bare.objs.length = R.objs.length := rfl
  omega
theorem r_swap {B N : Nat} {d : Option Ds} {tn : Nat} {fr : Option Nat} {rv : Value} {w : World} (h : RSd B N d tn fr rv w) (sa sb : List Int) (va vb : Value) (ha : Rd w va sa) (hb : Rd w vb sb) (hs : sa.length + sb.length ≤ 1048576) (oa : 0 < sa.length → Apart B w va) (ob : 0 < sb.length → Apart B w vb) (ht : tn ≤ 1000000) (hk : (ksD d).length ≤ 65538) :
    Calls Tryd.prog 45 #[rv, va, vb] w fun e w' => e = .returned (.int .i64 (swAns d sa sb)) ∧ RSd B N (swD d sa sb) (tn + swN d sa sb) (if swN d sa sb = 0 then fr else none) rv w' ∧ ∃ T, RBl B w T ∧ Fr T w w' := by
  cases d with
  | none =>
    obtain ⟨rfl, rfl⟩ := h
    exact (rSwap_nil va vb w).mono fun e w' ⟨h1, h2⟩ => ⟨h1, ⟨rfl, rfl⟩, [], RBl.nil _ _, h2⟩
  | some d =>
    obtain ⟨r, R, rfl, h2, h3, h4, rfl, h6⟩ := h
    have hm := rbl_foot h2
    refine (rSwap_ok sa sb va vb B r R w h2 h4 h3 (h3.olen hk) ht ha hb hs (fun h0 g hg => (oa h0).out hm g hg) (fun h0 g hg => (ob h0).out hm g hg)).mono ?_
    unfold swAns swD swN
    rw [rhas_keys (R := R) (ks := d.ks) h3.keys]
    rintro e w' (⟨h7, h8, h9⟩ | ⟨h7, h8, R', h9, h10⟩)
    · simp only [if_neg h7, if_true, Nat.add_zero]
      exact ⟨h8, ⟨r, R, rfl, h2.idle h9, h3, h4, rfl, h6⟩, [], RBl.nil _ _, h9⟩
    · simp only [if_pos h7]
      refine ⟨by rw [h8, h7], ⟨r, R', rfl, h9.rep, h9.rk, h9.nodup, h9.turn, fun bn hbn => ?_⟩, _, hm, h10⟩
      by_cases e0 : sa.length = 0
      · rw [if_pos e0] at hbn
        rw [h9.same e0]
        exact h6 bn hbn
      · rw [if_neg e0] at hbn
        cases hbn
theorem r_back {B N : Nat} {d : Option Ds} {tn : Nat} {bn : Nat} {fr : Option Nat} {rv : Value} {w : World} (h : RSd B N d tn fr rv w) (tn0 : Nat) (hfr : tn0 = tn → fr = some bn) (ht : tn ≤ 1000000000) (hk : (ksD d).length ≤ 65538) :
    Calls Tryd.prog 47 #[rv, .agg #[rv, .int .i64 (bn : Int), .int .i64 (tn0 : Int)]] w fun e w' => e = .returned (.int .i64 (bkAns d (decide (tn0 = tn)))) ∧ RSd B N d (tn + bkN d (decide (tn0 = tn))) none rv w' ∧ ∃ T, RBl B w T ∧ Fr T w w' := by
  cases d with
  | none =>
    obtain ⟨rfl, rfl⟩ := h
    exact (rBack_nil _ _ _ w).mono fun e w' ⟨h1, h2⟩ => ⟨h1, ⟨rfl, rfl⟩, [], RBl.nil _ _, h2⟩
  | some d =>
    obtain ⟨r, R, rfl, h2, h3, h4, rfl, h6⟩ := h
    by_cases e : tn0 = R.turn
    · subst e
      obtain ⟨rfl, hold⟩ := h6 bn (hfr rfl)
      have hro : ROk R := ⟨by have := h3.olen hk; omega, h3.slots⟩
      refine (rBack_ok B r R w h2 hro ht hold).mono ?_
      rintro e w' ⟨v, h7, h8, h9⟩
      simp only [bkAns, bkN, decide_true, if_true]
      refine ⟨h7, ⟨r, rBacked R v, rfl, h8, ?_, h4, rfl, fun bn h => by cases h⟩, [r], fun g hg => ?_, h9⟩
      · exact ⟨h3.words, h3.oops, h3.mark, h3.keys, h3.fin, h3.slots, h3.own, h3.turn⟩
      · have e : g = r := by simpa using hg
        subst e
        exact ⟨h2.lo, _, 137, .inl rfl, h2.top⟩
    · refine (rBack_no bn tn0 B r R w h2 (by simp; omega)).mono ?_
      rintro e2 w' ⟨h7, h8⟩
      have e3 : decide (tn0 = R.turn) = false := decide_eq_false e
      rw [e3]
      exact ⟨h7, ⟨r, R, rfl, h2.idle h8, h3, h4, rfl, fun bn h => by cases h⟩, [], RBl.nil _ _, h8⟩
theorem r_state {B N : Nat} {d : Option Ds} {tn : Nat} {fr : Option Nat} {rv : Value} {w : World} {S : List Nat} {ag : Nat} {hv : Value} {V : World} (h : RSd B N d tn fr rv w) (hp : PS S d ag hv V) : Calls Tryd.prog 27 #[rv] w (Say d w) := by
  cases d with
  | none =>
    obtain ⟨rfl, rfl⟩ := h
    exact (rState_nil w).mono fun e w' ⟨h1, h2⟩ => ⟨_, [], h1, sat_nil _, rfl, h2⟩
  | some d =>
    obtain ⟨r, R, rfl, h2, h3, h4, rfl, h6⟩ := h
    obtain ⟨a, l, H, M, -, -, -, p4, -⟩ := hp
    have h5 : ROk R := ⟨by have := h3.olen p4.klen; omega, h3.slots⟩
    refine (rState_ok B r R w h2 h5).mono ?_
    rintro e w' ⟨ov, ls, rfl, hs, hkk, hf⟩
    have hk2 : (ls.map toOI).map oiKey = d.ks := by
      rw [toOI_key, hkk, ← h3.keys, List.map_map]; rfl
    have ht : Tld w' w.heap.size ov ls d.ks := ⟨hs, hk2, p4.klen, p4.slots⟩
    refine ⟨ov, _, ?_, ht.sat, hk2, hf⟩
    have e1 : R.words = d.words := h3.words
    have e2 : R.oops = d.oops := h3.oops
    have e3 : R.mark = d.mark := h3.mark
    simp only [wordsD, oopsD, markD]
    rw [e1, e2, e3]
end Go.Proofs.YtdkbnnhcjaibdaaDoor
