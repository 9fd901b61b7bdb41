import Derived.Test.YtdkbnnhcjaibdaaDoorFG24BMap
import Derived.Test.YtdkbnnhcjaibdaaDoorFG23BRefX
import Derived.BigRegion
import Derived.Deep.RegionHeld3
import Derived.Test.YtdkbnnhcjaibdaaDoorFG07HRd
namespace Go.Proofs.YtdkbnnhcjaibdaaDoor
open Go.RowKit Go.Maps
set_option linter.unusedVariables false
set_option linter.unusedSimpArgs false
attribute [local go_sem ↓] Go.wp_at_zero Go.wp_at_succ
/-- a call of a Go function that is wanted, as one step of a region that draws -/
theorem step_callG {ops : Array Oper} {o : Oper} {a : Act} {w : World} {K : Act → World → Prop} {Q : Exit → Act → World → Prop} {E : Prop} (hw : Region.wanted o (yielded ops a.tmps) = true) (f : FuncId) (fn : Func) (hfn : Tryd.prog.funcs[f]? = some fn) (hnm : (fn.name == "runtime.NumGoroutine") = false) (hbd : fn.body.isSome = true) (xs : Array Operand) (ts : Array TypeId)
    (ho : o.op = .call { callee := .value (.func f), args := xs, argTypes := ts }) (vs : Array Value) (hvs : xs.map a.eval = vs) (R : Value → World → Prop) (hc : Calls Tryd.prog f vs w fun e w' => ∃ v, e = .returned v ∧ R v w')
    (h : ∀ v w', R v w' → K (a.put o.dst v) w') : if Region.wanted o (yielded ops a.tmps) = true then Oper.wp Tryd.prog o a w K Q else E := by
  rw [if_pos hw]
  unfold Oper.wp
  have e1 : (execOp a.eval o).run Tryd.prog w = .ok (.enter f vs) w := by
    have h1 : ¬ fn.name = "runtime.NumGoroutine" := by simpa using hnm
    have h2 : ¬ fn.body = none := by intro e; rw [e] at hbd; simp at hbd
    simp [execOp, ho, resolve, invoke, Act.eval, hvs, Deferred.ofValue, callFunc, hfn, h1, h2]
  rw [e1]
  show Calls Tryd.prog f vs w _
  exact hc.mono (fun e w' ⟨v, he, hr⟩ => by subst he; exact h v w' hr)
/-- just one may come up, S stands behind it -/
theorem wpH_one {P : Program} {md : Region.Mode} {ops : Array Oper} {Q : Exit → Act → World → Prop} {S : World → Prop} {i : Nat} {o : Oper} {fuel : Nat} {listed : Array Bool} {a : Act} {w : World} (hr : Region.ready md ops listed = [i]) (ho : ops[i]? = some o)
    (h : ∀ K' : Act → World → Prop, Hid (∀ a w, S w → (S w → wpAnyH P md ops Q S fuel (listed.setIfInBounds i true) a w) → K' a w) → if Region.wanted o (yielded ops a.tmps) = true then Oper.wp P o a w K' Q else K' (a.put o.dst undef) w) : wpAnyH P md ops Q S (fuel + 1) listed a w := by
  refine ⟨fun h0 => (by rw [hr] at h0; cases h0), fun j hj => ?_⟩
  rw [hr] at hj
  have e : j = i := by simpa using hj
  subst e
  exact wpOp_step ho (fun K' hK => h K' (fun a w hS hW => hK a w ⟨hS, hW hS⟩))
section
variable {words oops mark : Nat} {ks : List Key} {H : HS} {M : MS} {a : Nat} {l : Lay}
theorem has_key (h : KA words oops mark ks H M) {q : Int} (hh : has H q = true) : ∃ k ∈ ks, k.1 = q := by
  rw [h.has] at hh
  obtain ⟨k, k1, k2⟩ := List.any_eq_true.1 hh
  exact ⟨k, k1, by simpa using k2⟩
theorem class_has {w : World} (hR : Rep w a l H) (h : KA words oops mark ks H M) {q : Int} (hh : has H q = true) :
    Calls Tryd.prog 76 #[.pointer (some ⟨a, 0, none⟩), .int .i64 q] w fun e w' => (∃ c, e = .returned (.tuple #[.int .i64 c, .int .i64 0])) ∧ Fr [] w w' := by
  obtain ⟨k, hk, rfl⟩ := has_key h hh
  exact (class_at hR h hk).mono fun e w' ⟨he, hf⟩ => ⟨⟨_, he⟩, hf⟩
set_option maxRecDepth 20000 in
set_option maxHeartbeats 1000000 in
theorem objects_ok (ss : List Int) (v : Value) (w : World) (hR : Rep w a l H) (h : KA words oops mark ks H M) (hv : Rd w v ss) :
    Calls Tryd.prog 127 #[.pointer (some ⟨a, 0, none⟩), v] w fun e w' => e = .returned (.int .i64 (if ss.all (has H) then 0 else 20)) ∧ Fr [] w w' := by
  obtain ⟨p, c, rfl, hp⟩ := hv.at_
  have hl := hv.short
  have HP := mkHid hp
  have HR := mkHid hR
  have HK := mkHid h
  have HRes : Hid (∃ r : Int, r = if ss.all (has H) = true then 0 else 20) := ⟨_, rfl⟩
  obtain ⟨r, hr⟩ := HRes.out
  rw [← hr]
  have HRs := mkHid hr
  clear hv hp hR h HRes hr
  go_enter Tryd.func127, Tryd.ntmps127
  go_wp2_with fail
  go_loopw [11] (fun q wr => ∃ k : Nat, k ≤ ss.length ∧ q = .int .i64 k ∧ Hid (Fr [] w wr) ∧ Hid ((ss.take k).all (has H) = true)) (fun q _ => ss.length - (intOf q).toNat)
  case atStart => exact ⟨0, Nat.zero_le _, rfl, Fr.refl _ _, mkHid rfl⟩
  case round =>
    obtain ⟨k, hkn, rfl, hfr, hall⟩ := hrel
    have k1 : (0 : Int) ≤ (k : Int) := by omega
    by_cases hlt : k < ss.length
    · have k2 : (k : Int) < (ss.length : Int) := by omega
      obtain ⟨g, off, rfl, hg, hc⟩ := HP.out (by omega)
      have x1 := (hfr.out.cell (p := ⟨g, off + k, none⟩) hg (by simp)).trans (hc k hlt)
      have HT : Hid (ss.take (k + 1) = ss.take k ++ [ss.getD k 0]) := take_get ss 0 k hlt
      have HMm : Hid (ss.getD k 0 ∈ ss) := by
        show ss.getD k 0 ∈ ss
        rw [List.getD_eq_getElem?_getD, List.getElem?_eq_getElem hlt]; exact List.getElem_mem _
      generalize ss.getD k 0 = z at *
      clear hc
      cases hz : has H z with
      | true =>
        have HC := mkHid (class_has (HR.out.keep hfr.out (by simp)) HK.out hz)
        have HA : Hid ((ss.take (k + 1)).all (has H) = true) := by
          show (ss.take (k + 1)).all (has H) = true
          rw [HT.out, List.all_append, hall.out]; simpa using hz
        clear hz HT HMm
        go_wp2_with fail
        refine Calls.mono HC.out ?_
        rintro e w2 ⟨⟨cc, rfl⟩, hf2⟩
        have HF2 : Hid (Fr [] w w2) := hfr.out.trans hf2 (by simp)
        clear hf2
        go_wp2_with fail
        go_roundw
        case rel => exact ⟨k + 1, by omega, by go_num, HF2, HA⟩
        case measure => simp [intOf]; omega
      | false =>
        have HC := mkHid (class_not (HR.out.keep hfr.out (by simp)) z hz)
        have HRe : Hid (r = 20) := by
          show r = 20
          rw [HRs.out, if_neg]
          intro hc
          have := List.all_eq_true.1 hc z HMm.out
          rw [hz] at this
          cases this
        clear hz HT HMm
        go_wp2_with fail
        refine Calls.mono HC.out ?_
        rintro e w2 ⟨rfl, hf2⟩
        have HF2 : Hid (Fr [] w w2) := hfr.out.trans hf2 (by simp)
        clear hf2
        go_wp2_with fail
        go_ret
        exact ⟨by rw [HRe.out]; rfl, HF2.out⟩
    · have hke : k = ss.length := by omega
      subst hke
      have HRe : Hid (r = 0) := by
        show r = 0
        have := hall.out
        rw [List.take_length] at this
        rw [HRs.out, if_pos this]
      go_wp2_with fail
      go_ret
      exact ⟨by rw [HRe.out]; rfl, hfr.out⟩
/-- what becomes what -/
def pf : List (Int × Int) → List (Int × Int)
  | [] => []
  | p :: t => p :: (p.2, p.2) :: pf t
theorem pf_append (p : Int × Int) : ∀ ps : List (Int × Int), pf (ps ++ [p]) = (pf ps ++ [p]) ++ [(p.2, p.2)]
  | [] => rfl
  | x :: t => by
    show x :: (x.2, x.2) :: pf (t ++ [p]) = _
    rw [pf_append p t]
    rfl
theorem nums_append (p : Int × Int) : ∀ ps : List (Int × Int), nums (ps ++ [p]) = nums ps ++ [p.1, p.2]
  | [] => rfl
  | x :: t => by
    show x.1 :: x.2 :: nums (t ++ [p]) = _
    rw [nums_append p t]
    rfl
theorem inK_pf (q : Int) : ∀ ps : List (Int × Int), inK (pf ps) q = decide (q ∈ nums ps)
  | [] => rfl
  | x :: t => by
    show (decide (x.1 = q) || (decide (x.2 = q) || inK (pf t) q)) = decide (q ∈ x.1 :: x.2 :: nums t)
    rw [inK_pf q t, Bool.eq_iff_iff]
    simp only [Bool.or_eq_true, decide_eq_true_eq, List.mem_cons]
    constructor
    · rintro (h | h | h)
      · exact .inl h.symm
      · exact .inr (.inl h.symm)
      · exact .inr (.inr h)
    · rintro (h | h | h)
      · exact .inl h.symm
      · exact .inr (.inl h.symm)
      · exact .inr (.inr h)
theorem pf_len : ∀ ps : List (Int × Int), (pf ps).length = 2 * ps.length
  | [] => rfl
  | x :: t => by show (pf t).length + 1 + 1 = _; rw [pf_len t]; simp; omega
/-- may the two lists be exchanged: the error's number -/
def fitN (hs : Int → Bool) (sa sb : List Int) : Int := if sa.length ≠ sb.length then 26 else if (sa.all hs && sb.all hs) = false then 20 else if (nums (sa.zip sb)).Nodup then 0 else 26
theorem zip_get (sa sb : List Int) (hl : sa.length = sb.length) (k : Nat) (hk : k < sa.length) : (sa.zip sb).take (k + 1) = (sa.zip sb).take k ++ [(sa.getD k 0, sb.getD k 0)] := by
  have hz : k < (sa.zip sb).length := by rw [List.length_zip]; omega
  rw [List.take_succ_eq_append_getElem hz, List.getElem_zip, List.getD_eq_getElem?_getD, List.getElem?_eq_getElem hk, List.getD_eq_getElem?_getD, List.getElem?_eq_getElem (by omega)]
  rfl
theorem nodup_take {ps : List (Int × Int)} (k : Nat) (h : (nums ps).Nodup) : (nums (ps.take k)).Nodup := by
  have key : ∀ (ps : List (Int × Int)) (k : Nat), (nums (ps.take k)).Sublist (nums ps) := fun ps => by
    induction ps with
    | nil => intro k; simp [nums]
    | cons x t ih =>
      intro k
      cases k with
      | zero => simp [nums]
      | succ k =>
        show (x.1 :: x.2 :: nums (t.take k)).Sublist (x.1 :: x.2 :: nums t)
        exact ((ih k).cons_cons _).cons_cons _
  exact (key ps k).nodup h
set_option maxRecDepth 20000 in
set_option maxHeartbeats 4000000 in
theorem pairs_ok (sa sb : List Int) (va vb : Value) (w : World) (hR : Rep w a l H) (h : KA words oops mark ks H M) (ha : Rd w va sa) (hb : Rd w vb sb) :
    Calls Tryd.prog 98 #[.pointer (some ⟨a, 0, none⟩), va, vb] w fun e w' =>
      ((fitN (has H) sa sb ≠ 0 ∧ e = .returned (.tuple #[.map none, .int .i64 (fitN (has H) sa sb)])) ∨ (fitN (has H) sa sb = 0 ∧ ∃ b : Nat, e = .returned (.tuple #[.map (some b), .int .i64 0]) ∧ MapIs w' b (pf (sa.zip sb)) ∧ w.heap.size ≤ b)) ∧ Fr [] w w' := by
  obtain ⟨pa, ca, rfl, hpa⟩ := ha.at_
  obtain ⟨pb, cb, rfl, hpb⟩ := hb.at_
  have s1 := ha.short
  have s2 := hb.short
  by_cases hlen : sa.length = sb.length
  rotate_left
  · have hb0 : ((sa.length : Int) != (sb.length : Int)) = true := by rw [bne_iff_ne]; omega
    have HFt : Hid (fitN (has H) sa sb = 26) := by show fitN (has H) sa sb = 26; unfold fitN; rw [if_pos hlen]
    generalize fitN (has H) sa sb = F at *
    clear hR h ha hb hpa hpb hlen
    go_enter Tryd.func98, Tryd.ntmps98
    go_wp2_with fail
    go_ret2
    exact ⟨.inl ⟨by rw [HFt.out]; decide, by rw [HFt.out]; rfl⟩, Fr.refl _ _⟩
  · have hb0 : ((sa.length : Int) != (sb.length : Int)) = false := by rw [bne_eq_false_iff_eq]; omega
    have HL := mkHid hlen
    have HFt : Hid (fitN (has H) sa sb = if (sa.all (has H) && sb.all (has H)) = false then 20 else if (nums (sa.zip sb)).Nodup then 0 else 26) := by
      show fitN (has H) sa sb = _
      unfold fitN
      rw [if_neg (by simpa using hlen)]
    have hbd : ∀ q, has H q = true → -1000000000 ≤ q ∧ q ≤ 1000000000 := fun q hq => by
      have h1 := of_decide_eq_true hq
      have h2 := h.inv.told.seats
      omega
    have HBd := mkHid hbd
    have HObj : Hid (∀ V, Hid (Fr [] w V) → ∀ (v : Value) (ss : List Int), Rd w v ss → Calls Tryd.prog 127 #[.pointer (some ⟨a, 0, none⟩), v] V fun e w' => e = .returned (.int .i64 (if ss.all (has H) then 0 else 20)) ∧ Fr [] V w') := fun V hV v ss hv => objects_ok ss v V (hR.keep hV.out (by simp)) h (hv.idle hV.out)
    have HRa := mkHid ha
    have HRb := mkHid hb
    have hmm := @run_makeMap Tryd.prog
    obtain ⟨W1, hW1⟩ : ∃ W1, W1 = w.alloc (.cells #[.slice pa sa.length ca, .slice pb sb.length cb] 36) := ⟨_, rfl⟩
    have F1 : Hid (Fr [] w W1) := by rw [hW1]; exact Fr.alloc [] _ _
    have HB1 : Hid (W1.heap[w.heap.size]? = some (.cells #[.slice pa sa.length ca, .slice pb sb.length cb] 36 (0, 0))) := by rw [hW1]; exact heap_alloc_new _ _
    generalize fitN (has H) sa sb = F at *
    clear hR h ha hb hpa hpb hlen hbd
    go_enter Tryd.func98, Tryd.ntmps98
    go_wp2_with fail
    rw [← hW1]
    clear hW1
    go_loopw [25] (fun q wr => ∃ j : Nat, j ≤ 2 ∧ q = .int .i64 j ∧ Hid (Fr [] W1 wr) ∧ Hid ((1 ≤ j → sa.all (has H) = true) ∧ (2 ≤ j → sb.all (has H) = true))) (fun q _ => 2 - (intOf q).toNat)
    case atStart => exact ⟨0, by omega, rfl, Fr.refl _ _, mkHid ⟨fun h => by omega, fun h => by omega⟩⟩
    case round =>
      obtain ⟨j, hj, rfl, hfr, hst⟩ := hrel
      have j1 : (0 : Int) ≤ (j : Int) := by omega
      by_cases hlt : j < 2
      · have j2 : (j : Int) < 2 := by omega
        have hbk := (hfr.out.block _ (lt_of_heap HB1.out) (by simp)).trans HB1.out
        obtain ⟨pj, sj, cj, x1, hrj, hnext, hbad⟩ : ∃ (pj : Option Addr) (sj : List Int) (cj : Nat), wr.cell? ⟨w.heap.size, j, none⟩ = some (.slice pj sj.length cj) ∧ Rd w (.slice pj sj.length cj) sj ∧ (sj.all (has H) = true → (1 ≤ j + 1 → sa.all (has H) = true) ∧ (2 ≤ j + 1 → sb.all (has H) = true)) ∧ (sj.all (has H) = false → F = 20) := by
          have hc : j = 0 ∨ j = 1 := by omega
          rcases hc with rfl | rfl
          · refine ⟨pa, sa, ca, by rw [cell_in hbk]; rfl, HRa.out, fun h => ⟨fun _ => h, fun h2 => by omega⟩, fun h => ?_⟩
            rw [HFt.out, if_pos (by rw [h]; rfl)]
          · refine ⟨pb, sb, cb, by rw [cell_in hbk]; rfl, HRb.out, fun h => ⟨fun _ => hst.out.1 (by omega), fun h2 => h⟩, fun h => ?_⟩
            rw [HFt.out, if_pos (by rw [h, Bool.and_false])]
        have HC := mkHid (HObj.out wr (mkHid (F1.out.trans hfr.out (by simp))) _ sj hrj)
        have HNx := mkHid hnext
        have HBad := mkHid hbad
        have j3 : (j : Int) < ((2 : Nat) : Int) := by omega
        clear hbk hrj hnext hbad hst
        cases hal : sj.all (has H) with
        | true =>
          rw [hal] at HC
          have HN2 := mkHid (HNx.out hal)
          clear hal HNx HBad
          go_wp2_with fail
          refine Calls.mono HC.out ?_
          rintro e w2 ⟨he, hf2⟩
          obtain rfl : e = .returned (.int .i64 0) := by rw [he]; simp
          have HF2 : Hid (Fr [] W1 w2) := hfr.out.trans hf2 (by simp)
          clear he hf2
          go_wp2_with fail
          go_roundw
          case rel => exact ⟨j + 1, by omega, by go_num, HF2, HN2⟩
          case measure => simp [intOf]; omega
        | false =>
          rw [hal] at HC
          have HB2 := mkHid (HBad.out hal)
          clear hal HNx HBad
          go_wp2_with fail
          refine Calls.mono HC.out ?_
          rintro e w2 ⟨he, hf2⟩
          obtain rfl : e = .returned (.int .i64 20) := by rw [he]; simp
          have HF2 : Hid (Fr [] w w2) := (F1.out.trans hfr.out (by simp)).trans hf2 (by simp)
          clear he hf2
          go_wp2_with fail
          go_ret2
          exact ⟨.inl ⟨by rw [HB2.out]; decide, by rw [HB2.out]; rfl⟩, HF2.out⟩
      · have hje : j = 2 := by omega
        have j2 : ((2 : Int)) ≤ (j : Int) := by omega
        obtain ⟨q1, q2⟩ := hst.out
        have HAa := mkHid (q1 (by omega))
        have HAb := mkHid (q2 (by omega))
        have HFt2 : Hid (F = if (nums (sa.zip sb)).Nodup then 0 else 26) := by
          show F = _
          rw [HFt.out, if_neg (by rw [HAa.out, HAb.out]; simp)]
        clear q1 q2 hst hje
        have HFw : Hid (Fr [] w wr) := F1.out.trans hfr.out (by simp)
        go_wp2_with fail
        obtain ⟨W2, hW2⟩ : ∃ W2, W2 = wr.alloc (Obj.map #[] 0) := ⟨_, rfl⟩
        rw [← hW2]
        have F2 : Hid (Fr [] w W2) := by rw [hW2]; exact HFw.out.trans (Fr.alloc [] _ _) (by simp)
        have HM0 : Hid (MapIs W2 wr.heap.size []) := by
          show MapIs W2 wr.heap.size []
          rw [hW2]
          exact mapIs_made wr _ _ (World.ownsMap_made _ _ _ _)
        have hwb : w.heap.size ≤ wr.heap.size := HFw.out.size
        generalize hmb : wr.heap.size = mb at *
        obtain ⟨pa', ca', ea, hpa⟩ := HRa.out.at_
        injection ea with ea1 _ ea2
        subst ea1 ea2
        obtain ⟨pb', cb', eb, hpb⟩ := HRb.out.at_
        injection eb with eb1 _ eb2
        subst eb1 eb2
        have HPa := mkHid hpa
        have HPb := mkHid hpb
        clear hmb hW2 hpa hpb hfr HObj
        go_loopw [39] (fun q wr => ∃ k : Nat, k ≤ sa.length ∧ q = .int .i64 k ∧ Hid (MapIs wr mb (pf ((sa.zip sb).take k))) ∧ Hid (Fr [] w wr) ∧ Hid ((nums ((sa.zip sb).take k)).Nodup)) (fun q _ => sa.length - (intOf q).toNat)
        case atStart => exact ⟨0, Nat.zero_le _, rfl, HM0, F2, mkHid (by simp [nums])⟩
        case round =>
          obtain ⟨k, hkn, rfl, hmp, hfr, hnd⟩ := hrel
          have k1 : (0 : Int) ≤ (k : Int) := by omega
          by_cases hlt : k < sa.length
          · have k2 : (k : Int) < (sa.length : Int) := by omega
            have hltb : k < sb.length := by have := HL.out; omega
            have k3 : (k : Int) < (sb.length : Int) := by omega
            obtain ⟨ga, oa, rfl, hga, hca⟩ := HPa.out (by omega)
            obtain ⟨gb, ob, rfl, hgb, hcb⟩ := HPb.out (by omega)
            have x1 := (hfr.out.cell (p := ⟨ga, oa + k, none⟩) hga (by simp)).trans (hca k hlt)
            have x2 := (hfr.out.cell (p := ⟨gb, ob + k, none⟩) hgb (by simp)).trans (hcb k hltb)
            have hxa : has H (sa.getD k 0) = true := List.all_eq_true.1 HAa.out _ (by rw [List.getD_eq_getElem?_getD, List.getElem?_eq_getElem hlt]; exact List.getElem_mem hlt)
            have hyb : has H (sb.getD k 0) = true := List.all_eq_true.1 HAb.out _ (by rw [List.getD_eq_getElem?_getD, List.getElem?_eq_getElem hltb]; exact List.getElem_mem hltb)
            obtain ⟨a1, a2⟩ := HBd.out _ hxa
            obtain ⟨b1, b2⟩ := HBd.out _ hyb
            have htk := zip_get sa sb HL.out k hlt
            have hfl : (pf ((sa.zip sb).take k)).length ≤ 2 * sa.length := by rw [pf_len, List.length_take, List.length_zip]; omega
            have hbadN : ¬ (nums ((sa.zip sb).take (k + 1))).Nodup → F = 26 := fun hn => by
              rw [HFt2.out, if_neg (fun h => hn (nodup_take _ h))]
            have HBad := mkHid hbadN
            have hgb2 : gb ≠ mb := by omega
            generalize sa.getD k 0 = x at *
            generalize sb.getD k 0 = y at *
            rw [htk] at HBad
            have HTk := mkHid htk
            generalize (sa.zip sb).take k = ps at *
            clear hca hcb hxa hyb htk hbadN
            have hdr : MapIs wr.drew mb (pf ps) := hmp.out.congr rfl
            by_cases hx : x ∈ nums ps
            · have HC : Hid (Calls Tryd.prog 128 #[.map (some mb), .int .i64 x, .int .i64 y] wr.drew fun e w' => ∃ v, e = .returned v ∧ (v = .bool false ∧ w' = wr.drew)) := (add_old mb (pf ps) x y wr.drew hdr a1 a2 (by rw [inK_pf]; exact decide_eq_true hx)).mono (fun e w' ⟨h1, h2⟩ => ⟨_, h1, rfl, h2⟩)
              have HF26 := mkHid (HBad.out (by
                rw [nums_append]
                intro hn
                exact (List.nodup_append.1 hn).2.2 x hx x (by simp) rfl))
              clear hx hdr HBad
              go_upto_region 16 with (fail)
              refine wp_region_held_drew (S := fun V => V.cell? ⟨gb, ob + k, none⟩ = some (.int .i64 y)) (by kernel_rfl) x2 (fun hHeld => ?_)
              refine wpAnyH_take (i := 0) (v := ?_) rfl (by kernel_rfl) (by kernel_rfl) (by kernel_rfl) (fun _ _ _ h => h) (Or.inl ⟨by rfl, ?_⟩) (by assumption) ?_
              rotate_left
              · (intro w hSw; (try dsimp only at hSw); first | (go_simp; done) | (go_simp; with_reducible rfl))
              try simp only [Act.put, List.getElem_toArray, List.getElem_cons_zero, List.getElem_cons_succ, List.setIfInBounds_toArray, List.set_cons_zero, List.set_cons_succ]
              refine wpAnyH_take (i := 1) (v := ?_) rfl (by kernel_rfl) (by kernel_rfl) (by kernel_rfl) (fun _ _ _ h => h) (Or.inl ⟨by rfl, ?_⟩) (by assumption) ?_
              rotate_left
              · (intro w hSw; (try dsimp only at hSw); first | (go_simp; done) | (go_simp; with_reducible rfl))
              try simp only [Act.put, List.getElem_toArray, List.getElem_cons_zero, List.getElem_cons_succ, List.setIfInBounds_toArray, List.set_cons_zero, List.set_cons_succ]
              refine wpAnyH_take (i := 2) (v := ?_) rfl (by kernel_rfl) (by kernel_rfl) (by kernel_rfl) (fun _ _ _ h => h) (Or.inl ⟨by rfl, ?_⟩) (by assumption) ?_
              rotate_left
              · (intro w hSw; (try dsimp only at hSw); first | (go_simp; done) | (go_simp; with_reducible rfl))
              try simp only [Act.put, List.getElem_toArray, List.getElem_cons_zero, List.getElem_cons_succ, List.setIfInBounds_toArray, List.set_cons_zero, List.set_cons_succ]
              refine wpAnyH_take (i := 3) (v := ?_) rfl (by kernel_rfl) (by kernel_rfl) (by kernel_rfl) (fun _ _ _ h => h) (Or.inl ⟨by rfl, ?_⟩) (by assumption) ?_
              rotate_left
              · (intro w hSw; (try dsimp only at hSw); first | (go_simp; done) | (go_simp; with_reducible rfl))
              try simp only [Act.put, List.getElem_toArray, List.getElem_cons_zero, List.getElem_cons_succ, List.setIfInBounds_toArray, List.set_cons_zero, List.set_cons_succ]
              refine wpAnyH_take (i := 4) (v := ?_) rfl (by kernel_rfl) (by kernel_rfl) (by kernel_rfl) (fun _ _ _ h => h) (Or.inl ⟨by rfl, ?_⟩) (by assumption) ?_
              rotate_left
              · (intro w hSw; (try dsimp only at hSw); first | (go_simp; done) | (go_simp; with_reducible rfl))
              try simp only [Act.put, List.getElem_toArray, List.getElem_cons_zero, List.getElem_cons_succ, List.setIfInBounds_toArray, List.set_cons_zero, List.set_cons_succ]
              refine wpAnyH_take (i := 5) (v := ?_) rfl (by kernel_rfl) (by kernel_rfl) (by kernel_rfl) (fun _ _ _ h => h) (Or.inl ⟨by rfl, ?_⟩) (by assumption) ?_
              rotate_left
              · (intro w hSw; (try dsimp only at hSw); first | (go_simp; done) | (go_simp; with_reducible rfl))
              try simp only [Act.put, List.getElem_toArray, List.getElem_cons_zero, List.getElem_cons_succ, List.setIfInBounds_toArray, List.set_cons_zero, List.set_cons_succ]
              refine wpH_one (i := 6) (by kernel_rfl) rfl (fun K hK => ?_)
              refine step_callG (by rfl) 128 Tryd.f128 Tryd.func128 (by kernel_rfl) (by kernel_rfl) _ _ rfl _ (by simp [Act.eval]) _ HC.out ?_
              rintro _ w5 ⟨rfl, rfl⟩
              refine hK.out _ _ (hHeld) (fun hHeld => ?_)
              clear hK K
              try simp only [Act.put, List.getElem_toArray, List.getElem_cons_zero, List.getElem_cons_succ, List.setIfInBounds_toArray, List.set_cons_zero, List.set_cons_succ]
              refine wpAnyH_take (i := 7) (v := ?_) rfl (by kernel_rfl) (by kernel_rfl) (by kernel_rfl) (fun _ _ _ h => h) (Or.inl ⟨by rfl, ?_⟩) (by assumption) ?_
              rotate_left
              · (intro w hSw; (try dsimp only at hSw); first | (go_simp; done) | (go_simp; with_reducible rfl))
              try simp only [Act.put, List.getElem_toArray, List.getElem_cons_zero, List.getElem_cons_succ, List.setIfInBounds_toArray, List.set_cons_zero, List.set_cons_succ]
              refine wpAnyH_take (i := 8) (v := ?_) rfl (by kernel_rfl) (by kernel_rfl) (by kernel_rfl) (fun _ _ _ h => h) (Or.inl ⟨by rfl, ?_⟩) (by assumption) ?_
              rotate_left
              · (intro w hSw; (try dsimp only at hSw); first | (go_simp; done) | (go_simp; with_reducible rfl))
              try simp only [Act.put, List.getElem_toArray, List.getElem_cons_zero, List.getElem_cons_succ, List.setIfInBounds_toArray, List.set_cons_zero, List.set_cons_succ]
              refine wpAnyH_take (i := 9) (v := undef) rfl (by kernel_rfl) (by kernel_rfl) (by kernel_rfl) (fun _ _ _ h => h) (Or.inr ⟨by rfl, rfl⟩) (by assumption) ?_
              try simp only [Act.put, List.getElem_toArray, List.getElem_cons_zero, List.getElem_cons_succ, List.setIfInBounds_toArray, List.set_cons_zero, List.set_cons_succ]
              refine wpAnyH_take (i := 10) (v := undef) rfl (by kernel_rfl) (by kernel_rfl) (by kernel_rfl) (fun _ _ _ h => h) (Or.inr ⟨by rfl, rfl⟩) (by assumption) ?_
              try simp only [Act.put, List.getElem_toArray, List.getElem_cons_zero, List.getElem_cons_succ, List.setIfInBounds_toArray, List.set_cons_zero, List.set_cons_succ]
              refine wpAnyH_take (i := 11) (v := undef) rfl (by kernel_rfl) (by kernel_rfl) (by kernel_rfl) (fun _ _ _ h => h) (Or.inr ⟨by rfl, rfl⟩) (by assumption) ?_
              try simp only [Act.put, List.getElem_toArray, List.getElem_cons_zero, List.getElem_cons_succ, List.setIfInBounds_toArray, List.set_cons_zero, List.set_cons_succ]
              refine wpAnyH_take (i := 12) (v := undef) rfl (by kernel_rfl) (by kernel_rfl) (by kernel_rfl) (fun _ _ _ h => h) (Or.inr ⟨by rfl, rfl⟩) (by assumption) ?_
              try simp only [Act.put, List.getElem_toArray, List.getElem_cons_zero, List.getElem_cons_succ, List.setIfInBounds_toArray, List.set_cons_zero, List.set_cons_succ]
              refine wpAnyH_take (i := 13) (v := undef) rfl (by kernel_rfl) (by kernel_rfl) (by kernel_rfl) (fun _ _ _ h => h) (Or.inr ⟨by rfl, rfl⟩) (by assumption) ?_
              try simp only [Act.put, List.getElem_toArray, List.getElem_cons_zero, List.getElem_cons_succ, List.setIfInBounds_toArray, List.set_cons_zero, List.set_cons_succ]
              refine wpAnyH_take (i := 14) (v := undef) rfl (by kernel_rfl) (by kernel_rfl) (by kernel_rfl) (fun _ _ _ h => h) (Or.inr ⟨by rfl, rfl⟩) (by assumption) ?_
              try simp only [Act.put, List.getElem_toArray, List.getElem_cons_zero, List.getElem_cons_succ, List.setIfInBounds_toArray, List.set_cons_zero, List.set_cons_succ]
              refine wpAnyH_take (i := 15) (v := undef) rfl (by kernel_rfl) (by kernel_rfl) (by kernel_rfl) (fun _ _ _ h => h) (Or.inr ⟨by rfl, rfl⟩) (by assumption) ?_
              try simp only [Act.put, List.getElem_toArray, List.getElem_cons_zero, List.getElem_cons_succ, List.setIfInBounds_toArray, List.set_cons_zero, List.set_cons_succ]
              refine wpAnyH_take (i := 16) (v := undef) rfl (by kernel_rfl) (by kernel_rfl) (by kernel_rfl) (fun _ _ _ h => h) (Or.inr ⟨by rfl, rfl⟩) (by assumption) ?_
              try simp only [Act.put, List.getElem_toArray, List.getElem_cons_zero, List.getElem_cons_succ, List.setIfInBounds_toArray, List.set_cons_zero, List.set_cons_succ]
              refine wpAnyH_take (i := 17) (v := undef) rfl (by kernel_rfl) (by kernel_rfl) (by kernel_rfl) (fun _ _ _ h => h) (Or.inr ⟨by rfl, rfl⟩) (by assumption) ?_
              try simp only [Act.put, List.getElem_toArray, List.getElem_cons_zero, List.getElem_cons_succ, List.setIfInBounds_toArray, List.set_cons_zero, List.set_cons_succ]
              refine wpAnyH_take (i := 18) (v := undef) rfl (by kernel_rfl) (by kernel_rfl) (by kernel_rfl) (fun _ _ _ h => h) (Or.inr ⟨by rfl, rfl⟩) (by assumption) ?_
              try simp only [Act.put, List.getElem_toArray, List.getElem_cons_zero, List.getElem_cons_succ, List.setIfInBounds_toArray, List.set_cons_zero, List.set_cons_succ]
              refine wpAnyH_take (i := 19) (v := undef) rfl (by kernel_rfl) (by kernel_rfl) (by kernel_rfl) (fun _ _ _ h => h) (Or.inr ⟨by rfl, rfl⟩) (by assumption) ?_
              try simp only [Act.put, List.getElem_toArray, List.getElem_cons_zero, List.getElem_cons_succ, List.setIfInBounds_toArray, List.set_cons_zero, List.set_cons_succ]
              refine wpAnyH_take (i := 20) (v := ?_) rfl (by kernel_rfl) (by kernel_rfl) (by kernel_rfl) (fun _ _ _ h => h) (Or.inl ⟨by rfl, ?_⟩) (by assumption) ?_
              rotate_left
              · (intro w hSw; (try dsimp only at hSw); first | (go_simp; done) | (go_simp; with_reducible rfl))
              try simp only [Act.put, List.getElem_toArray, List.getElem_cons_zero, List.getElem_cons_succ, List.setIfInBounds_toArray, List.set_cons_zero, List.set_cons_succ]
              refine wpAnyH_done (by kernel_rfl) ?_ _
              all_goals go_wp2_with fail
              all_goals
                go_ret2
                exact ⟨.inl ⟨by rw [HF26.out]; decide, by rw [HF26.out]; rfl⟩, hfr.out.trans (Fr.drew [] _) (by simp)⟩
            · have HC : Hid (Calls Tryd.prog 128 #[.map (some mb), .int .i64 x, .int .i64 y] wr.drew fun e w' => ∃ v, e = .returned v ∧ (v = .bool true ∧ Hid (MapIs w' mb (pf ps ++ [(x, y)]) ∧ Fr [mb] wr.drew w'))) := (add_new mb (pf ps) x y wr.drew hdr a1 a2 b1 b2 (by omega) (by rw [inK_pf]; exact decide_eq_false hx)).mono (fun e w' ⟨h1, h2⟩ => ⟨_, h1, rfl, h2⟩)
              have HX2 : Hid (∀ V, Fr [mb] wr.drew V → V.cell? ⟨gb, ob + k, none⟩ = some (.int .i64 y)) := fun V hV => (hV.cell (p := ⟨gb, ob + k, none⟩) (World.block_lt_of_cell? wr _ x2) (by simpa using hgb2)).trans x2
              have hin2 : inK (pf ps ++ [(x, y)]) y = decide (y ∈ nums ps ∨ x = y) := by
                rw [inK_append, inK_pf, Bool.eq_iff_iff]; simp
              by_cases hy : y ∈ nums ps ∨ x = y
              · have HC2 : Hid (∀ V, Hid (MapIs V mb (pf ps ++ [(x, y)]) ∧ Fr [mb] wr.drew V) → Calls Tryd.prog 128 #[.map (some mb), .int .i64 y, .int .i64 y] V fun e w' => ∃ v, e = .returned v ∧ (v = .bool false ∧ w' = V)) := fun V hV => (add_old mb _ y y V hV.out.1 b1 b2 (by rw [hin2]; exact decide_eq_true hy)).mono (fun e w' ⟨h1, h2⟩ => ⟨_, h1, rfl, h2⟩)
                have HF26 := mkHid (HBad.out (by
                  rw [nums_append]
                  intro hn
                  rcases hy with hy | hy
                  · exact (List.nodup_append.1 hn).2.2 y hy y (by simp) rfl
                  · have := (List.nodup_append.1 hn).2.1
                    rw [hy] at this
                    simp at this))
                clear hx hy hin2 hdr HBad
                go_upto_region 16 with (fail)
                refine wp_region_held_drew (S := fun V => V.cell? ⟨gb, ob + k, none⟩ = some (.int .i64 y)) (by kernel_rfl) x2 (fun hHeld => ?_)
                refine wpAnyH_take (i := 0) (v := ?_) rfl (by kernel_rfl) (by kernel_rfl) (by kernel_rfl) (fun _ _ _ h => h) (Or.inl ⟨by rfl, ?_⟩) (by assumption) ?_
                rotate_left
                · (intro w hSw; (try dsimp only at hSw); first | (go_simp; done) | (go_simp; with_reducible rfl))
                try simp only [Act.put, List.getElem_toArray, List.getElem_cons_zero, List.getElem_cons_succ, List.setIfInBounds_toArray, List.set_cons_zero, List.set_cons_succ]
                refine wpAnyH_take (i := 1) (v := ?_) rfl (by kernel_rfl) (by kernel_rfl) (by kernel_rfl) (fun _ _ _ h => h) (Or.inl ⟨by rfl, ?_⟩) (by assumption) ?_
                rotate_left
                · (intro w hSw; (try dsimp only at hSw); first | (go_simp; done) | (go_simp; with_reducible rfl))
                try simp only [Act.put, List.getElem_toArray, List.getElem_cons_zero, List.getElem_cons_succ, List.setIfInBounds_toArray, List.set_cons_zero, List.set_cons_succ]
                refine wpAnyH_take (i := 2) (v := ?_) rfl (by kernel_rfl) (by kernel_rfl) (by kernel_rfl) (fun _ _ _ h => h) (Or.inl ⟨by rfl, ?_⟩) (by assumption) ?_
                rotate_left
                · (intro w hSw; (try dsimp only at hSw); first | (go_simp; done) | (go_simp; with_reducible rfl))
                try simp only [Act.put, List.getElem_toArray, List.getElem_cons_zero, List.getElem_cons_succ, List.setIfInBounds_toArray, List.set_cons_zero, List.set_cons_succ]
                refine wpAnyH_take (i := 3) (v := ?_) rfl (by kernel_rfl) (by kernel_rfl) (by kernel_rfl) (fun _ _ _ h => h) (Or.inl ⟨by rfl, ?_⟩) (by assumption) ?_
                rotate_left
                · (intro w hSw; (try dsimp only at hSw); first | (go_simp; done) | (go_simp; with_reducible rfl))
                try simp only [Act.put, List.getElem_toArray, List.getElem_cons_zero, List.getElem_cons_succ, List.setIfInBounds_toArray, List.set_cons_zero, List.set_cons_succ]
                refine wpAnyH_take (i := 4) (v := ?_) rfl (by kernel_rfl) (by kernel_rfl) (by kernel_rfl) (fun _ _ _ h => h) (Or.inl ⟨by rfl, ?_⟩) (by assumption) ?_
                rotate_left
                · (intro w hSw; (try dsimp only at hSw); first | (go_simp; done) | (go_simp; with_reducible rfl))
                try simp only [Act.put, List.getElem_toArray, List.getElem_cons_zero, List.getElem_cons_succ, List.setIfInBounds_toArray, List.set_cons_zero, List.set_cons_succ]
                refine wpAnyH_take (i := 5) (v := ?_) rfl (by kernel_rfl) (by kernel_rfl) (by kernel_rfl) (fun _ _ _ h => h) (Or.inl ⟨by rfl, ?_⟩) (by assumption) ?_
                rotate_left
                · (intro w hSw; (try dsimp only at hSw); first | (go_simp; done) | (go_simp; with_reducible rfl))
                try simp only [Act.put, List.getElem_toArray, List.getElem_cons_zero, List.getElem_cons_succ, List.setIfInBounds_toArray, List.set_cons_zero, List.set_cons_succ]
                refine wpH_one (i := 6) (by kernel_rfl) rfl (fun K hK => ?_)
                refine step_callG (by rfl) 128 Tryd.f128 Tryd.func128 (by kernel_rfl) (by kernel_rfl) _ _ rfl _ (by simp [Act.eval]) _ HC.out ?_
                rintro _ w5 ⟨rfl, h5⟩
                refine hK.out _ _ (HX2.out w5 h5.out.2) (fun hHeld => ?_)
                clear hK K
                try simp only [Act.put, List.getElem_toArray, List.getElem_cons_zero, List.getElem_cons_succ, List.setIfInBounds_toArray, List.set_cons_zero, List.set_cons_succ]
                refine wpAnyH_take (i := 7) (v := ?_) rfl (by kernel_rfl) (by kernel_rfl) (by kernel_rfl) (fun _ _ _ h => h) (Or.inl ⟨by rfl, ?_⟩) (by assumption) ?_
                rotate_left
                · (intro w hSw; (try dsimp only at hSw); first | (go_simp; done) | (go_simp; with_reducible rfl))
                try simp only [Act.put, List.getElem_toArray, List.getElem_cons_zero, List.getElem_cons_succ, List.setIfInBounds_toArray, List.set_cons_zero, List.set_cons_succ]
                refine wpAnyH_take (i := 8) (v := ?_) rfl (by kernel_rfl) (by kernel_rfl) (by kernel_rfl) (fun _ _ _ h => h) (Or.inl ⟨by rfl, ?_⟩) (by assumption) ?_
                rotate_left
                · (intro w hSw; (try dsimp only at hSw); first | (go_simp; done) | (go_simp; with_reducible rfl))
                try simp only [Act.put, List.getElem_toArray, List.getElem_cons_zero, List.getElem_cons_succ, List.setIfInBounds_toArray, List.set_cons_zero, List.set_cons_succ]
                refine wpAnyH_take (i := 9) (v := ?_) rfl (by kernel_rfl) (by kernel_rfl) (by kernel_rfl) (fun _ _ _ h => h) (Or.inl ⟨by rfl, ?_⟩) (by assumption) ?_
                rotate_left
                · (intro w hSw; (try dsimp only at hSw); first | (go_simp; done) | (go_simp; with_reducible rfl))
                try simp only [Act.put, List.getElem_toArray, List.getElem_cons_zero, List.getElem_cons_succ, List.setIfInBounds_toArray, List.set_cons_zero, List.set_cons_succ]
                refine wpAnyH_take (i := 10) (v := ?_) rfl (by kernel_rfl) (by kernel_rfl) (by kernel_rfl) (fun _ _ _ h => h) (Or.inl ⟨by rfl, ?_⟩) (by assumption) ?_
                rotate_left
                · (intro w hSw; (try dsimp only at hSw); first | (go_simp; done) | (go_simp; with_reducible rfl))
                try simp only [Act.put, List.getElem_toArray, List.getElem_cons_zero, List.getElem_cons_succ, List.setIfInBounds_toArray, List.set_cons_zero, List.set_cons_succ]
                refine wpAnyH_take (i := 11) (v := ?_) rfl (by kernel_rfl) (by kernel_rfl) (by kernel_rfl) (fun _ _ _ h => h) (Or.inl ⟨by rfl, ?_⟩) (by assumption) ?_
                rotate_left
                · (intro w hSw; (try dsimp only at hSw); first | (go_simp; done) | (go_simp; with_reducible rfl))
                try simp only [Act.put, List.getElem_toArray, List.getElem_cons_zero, List.getElem_cons_succ, List.setIfInBounds_toArray, List.set_cons_zero, List.set_cons_succ]
                refine wpAnyH_take (i := 12) (v := ?_) rfl (by kernel_rfl) (by kernel_rfl) (by kernel_rfl) (fun _ _ _ h => h) (Or.inl ⟨by rfl, ?_⟩) (by assumption) ?_
                rotate_left
                · (intro w hSw; (try dsimp only at hSw); first | (go_simp; done) | (go_simp; with_reducible rfl))
                try simp only [Act.put, List.getElem_toArray, List.getElem_cons_zero, List.getElem_cons_succ, List.setIfInBounds_toArray, List.set_cons_zero, List.set_cons_succ]
                refine wpAnyH_take (i := 13) (v := ?_) rfl (by kernel_rfl) (by kernel_rfl) (by kernel_rfl) (fun _ _ _ h => h) (Or.inl ⟨by rfl, ?_⟩) (by assumption) ?_
                rotate_left
                · (intro w hSw; (try dsimp only at hSw); first | (go_simp; done) | (go_simp; with_reducible rfl))
                try simp only [Act.put, List.getElem_toArray, List.getElem_cons_zero, List.getElem_cons_succ, List.setIfInBounds_toArray, List.set_cons_zero, List.set_cons_succ]
                refine wpAnyH_take (i := 14) (v := ?_) rfl (by kernel_rfl) (by kernel_rfl) (by kernel_rfl) (fun _ _ _ h => h) (Or.inl ⟨by rfl, ?_⟩) (by assumption) ?_
                rotate_left
                · (intro w hSw; (try dsimp only at hSw); first | (go_simp; done) | (go_simp; with_reducible rfl))
                try simp only [Act.put, List.getElem_toArray, List.getElem_cons_zero, List.getElem_cons_succ, List.setIfInBounds_toArray, List.set_cons_zero, List.set_cons_succ]
                refine wpAnyH_take (i := 15) (v := ?_) rfl (by kernel_rfl) (by kernel_rfl) (by kernel_rfl) (fun _ _ _ h => h) (Or.inl ⟨by rfl, ?_⟩) (by assumption) ?_
                rotate_left
                · (intro w hSw; (try dsimp only at hSw); first | (go_simp; done) | (go_simp; with_reducible rfl))
                try simp only [Act.put, List.getElem_toArray, List.getElem_cons_zero, List.getElem_cons_succ, List.setIfInBounds_toArray, List.set_cons_zero, List.set_cons_succ]
                refine wpAnyH_take (i := 16) (v := ?_) rfl (by kernel_rfl) (by kernel_rfl) (by kernel_rfl) (fun _ _ _ h => h) (Or.inl ⟨by rfl, ?_⟩) (by assumption) ?_
                rotate_left
                · (intro w hSw; (try dsimp only at hSw); first | (go_simp; done) | (go_simp; with_reducible rfl))
                try simp only [Act.put, List.getElem_toArray, List.getElem_cons_zero, List.getElem_cons_succ, List.setIfInBounds_toArray, List.set_cons_zero, List.set_cons_succ]
                refine wpAnyH_take (i := 17) (v := ?_) rfl (by kernel_rfl) (by kernel_rfl) (by kernel_rfl) (fun _ _ _ h => h) (Or.inl ⟨by rfl, ?_⟩) (by assumption) ?_
                rotate_left
                · (intro w hSw; (try dsimp only at hSw); first | (go_simp; done) | (go_simp; with_reducible rfl))
                try simp only [Act.put, List.getElem_toArray, List.getElem_cons_zero, List.getElem_cons_succ, List.setIfInBounds_toArray, List.set_cons_zero, List.set_cons_succ]
                refine wpH_one (i := 18) (by kernel_rfl) rfl (fun K hK => ?_)
                refine step_callG (by rfl) 128 Tryd.f128 Tryd.func128 (by kernel_rfl) (by kernel_rfl) _ _ rfl _ (by simp [Act.eval]) _ (HC2.out _ h5) ?_
                rintro _ w6 ⟨rfl, rfl⟩
                refine hK.out _ _ (hHeld) (fun hHeld => ?_)
                clear hK K
                try simp only [Act.put, List.getElem_toArray, List.getElem_cons_zero, List.getElem_cons_succ, List.setIfInBounds_toArray, List.set_cons_zero, List.set_cons_succ]
                refine wpAnyH_take (i := 19) (v := ?_) rfl (by kernel_rfl) (by kernel_rfl) (by kernel_rfl) (fun _ _ _ h => h) (Or.inl ⟨by rfl, ?_⟩) (by assumption) ?_
                rotate_left
                · (intro w hSw; (try dsimp only at hSw); first | (go_simp; done) | (go_simp; with_reducible rfl))
                try simp only [Act.put, List.getElem_toArray, List.getElem_cons_zero, List.getElem_cons_succ, List.setIfInBounds_toArray, List.set_cons_zero, List.set_cons_succ]
                refine wpAnyH_take (i := 20) (v := ?_) rfl (by kernel_rfl) (by kernel_rfl) (by kernel_rfl) (fun _ _ _ h => h) (Or.inl ⟨by rfl, ?_⟩) (by assumption) ?_
                rotate_left
                · (intro w hSw; (try dsimp only at hSw); first | (go_simp; done) | (go_simp; with_reducible rfl))
                try simp only [Act.put, List.getElem_toArray, List.getElem_cons_zero, List.getElem_cons_succ, List.setIfInBounds_toArray, List.set_cons_zero, List.set_cons_succ]
                refine wpAnyH_done (by kernel_rfl) ?_ _
                all_goals go_wp2_with fail
                all_goals
                  go_ret2
                  exact ⟨.inl ⟨by rw [HF26.out]; decide, by rw [HF26.out]; rfl⟩, (hfr.out.trans (Fr.drew [] _) (by simp)).trans h5.out.2 (fun b hb => .inr (by have e1 : b = mb := (by simpa using hb); omega))⟩
              · have HC2 : Hid (∀ V, Hid (MapIs V mb (pf ps ++ [(x, y)]) ∧ Fr [mb] wr.drew V) → Calls Tryd.prog 128 #[.map (some mb), .int .i64 y, .int .i64 y] V fun e w' => ∃ v, e = .returned v ∧ (v = .bool true ∧ Hid (MapIs w' mb (pf (ps ++ [(x, y)])) ∧ Fr [mb] wr.drew w'))) := fun V hV => (add_new mb _ y y V hV.out.1 b1 b2 b1 b2 (by rw [List.length_append]; simp; omega) (by rw [hin2]; exact decide_eq_false hy)).mono (fun e w' ⟨h1, h2, h3⟩ => ⟨_, h1, rfl, by rw [pf_append]; exact h2, hV.out.2.trans h3 (by simp)⟩)
                have HNd : Hid ((nums (ps ++ [(x, y)])).Nodup) := by
                  show (nums (ps ++ [(x, y)])).Nodup
                  rw [not_or] at hy
                  rw [nums_append, List.nodup_append]
                  refine ⟨hnd.out, by simp [hy.2], fun p hp q hq e => ?_⟩
                  subst e
                  simp at hq
                  rcases hq with rfl | rfl
                  · exact hx hp
                  · exact hy.1 hp
                clear hx hy hin2 hdr HBad
                go_upto_region 16 with (fail)
                refine wp_region_held_drew (S := fun V => V.cell? ⟨gb, ob + k, none⟩ = some (.int .i64 y)) (by kernel_rfl) x2 (fun hHeld => ?_)
                refine wpAnyH_take (i := 0) (v := ?_) rfl (by kernel_rfl) (by kernel_rfl) (by kernel_rfl) (fun _ _ _ h => h) (Or.inl ⟨by rfl, ?_⟩) (by assumption) ?_
                rotate_left
                · (intro w hSw; (try dsimp only at hSw); first | (go_simp; done) | (go_simp; with_reducible rfl))
                try simp only [Act.put, List.getElem_toArray, List.getElem_cons_zero, List.getElem_cons_succ, List.setIfInBounds_toArray, List.set_cons_zero, List.set_cons_succ]
                refine wpAnyH_take (i := 1) (v := ?_) rfl (by kernel_rfl) (by kernel_rfl) (by kernel_rfl) (fun _ _ _ h => h) (Or.inl ⟨by rfl, ?_⟩) (by assumption) ?_
                rotate_left
                · (intro w hSw; (try dsimp only at hSw); first | (go_simp; done) | (go_simp; with_reducible rfl))
                try simp only [Act.put, List.getElem_toArray, List.getElem_cons_zero, List.getElem_cons_succ, List.setIfInBounds_toArray, List.set_cons_zero, List.set_cons_succ]
                refine wpAnyH_take (i := 2) (v := ?_) rfl (by kernel_rfl) (by kernel_rfl) (by kernel_rfl) (fun _ _ _ h => h) (Or.inl ⟨by rfl, ?_⟩) (by assumption) ?_
                rotate_left
                · (intro w hSw; (try dsimp only at hSw); first | (go_simp; done) | (go_simp; with_reducible rfl))
                try simp only [Act.put, List.getElem_toArray, List.getElem_cons_zero, List.getElem_cons_succ, List.setIfInBounds_toArray, List.set_cons_zero, List.set_cons_succ]
                refine wpAnyH_take (i := 3) (v := ?_) rfl (by kernel_rfl) (by kernel_rfl) (by kernel_rfl) (fun _ _ _ h => h) (Or.inl ⟨by rfl, ?_⟩) (by assumption) ?_
                rotate_left
                · (intro w hSw; (try dsimp only at hSw); first | (go_simp; done) | (go_simp; with_reducible rfl))
                try simp only [Act.put, List.getElem_toArray, List.getElem_cons_zero, List.getElem_cons_succ, List.setIfInBounds_toArray, List.set_cons_zero, List.set_cons_succ]
                refine wpAnyH_take (i := 4) (v := ?_) rfl (by kernel_rfl) (by kernel_rfl) (by kernel_rfl) (fun _ _ _ h => h) (Or.inl ⟨by rfl, ?_⟩) (by assumption) ?_
                rotate_left
                · (intro w hSw; (try dsimp only at hSw); first | (go_simp; done) | (go_simp; with_reducible rfl))
                try simp only [Act.put, List.getElem_toArray, List.getElem_cons_zero, List.getElem_cons_succ, List.setIfInBounds_toArray, List.set_cons_zero, List.set_cons_succ]
                refine wpAnyH_take (i := 5) (v := ?_) rfl (by kernel_rfl) (by kernel_rfl) (by kernel_rfl) (fun _ _ _ h => h) (Or.inl ⟨by rfl, ?_⟩) (by assumption) ?_
                rotate_left
                · (intro w hSw; (try dsimp only at hSw); first | (go_simp; done) | (go_simp; with_reducible rfl))
                try simp only [Act.put, List.getElem_toArray, List.getElem_cons_zero, List.getElem_cons_succ, List.setIfInBounds_toArray, List.set_cons_zero, List.set_cons_succ]
                refine wpH_one (i := 6) (by kernel_rfl) rfl (fun K hK => ?_)
                refine step_callG (by rfl) 128 Tryd.f128 Tryd.func128 (by kernel_rfl) (by kernel_rfl) _ _ rfl _ (by simp [Act.eval]) _ HC.out ?_
                rintro _ w5 ⟨rfl, h5⟩
                refine hK.out _ _ (HX2.out w5 h5.out.2) (fun hHeld => ?_)
                clear hK K
                try simp only [Act.put, List.getElem_toArray, List.getElem_cons_zero, List.getElem_cons_succ, List.setIfInBounds_toArray, List.set_cons_zero, List.set_cons_succ]
                refine wpAnyH_take (i := 7) (v := ?_) rfl (by kernel_rfl) (by kernel_rfl) (by kernel_rfl) (fun _ _ _ h => h) (Or.inl ⟨by rfl, ?_⟩) (by assumption) ?_
                rotate_left
                · (intro w hSw; (try dsimp only at hSw); first | (go_simp; done) | (go_simp; with_reducible rfl))
                try simp only [Act.put, List.getElem_toArray, List.getElem_cons_zero, List.getElem_cons_succ, List.setIfInBounds_toArray, List.set_cons_zero, List.set_cons_succ]
                refine wpAnyH_take (i := 8) (v := ?_) rfl (by kernel_rfl) (by kernel_rfl) (by kernel_rfl) (fun _ _ _ h => h) (Or.inl ⟨by rfl, ?_⟩) (by assumption) ?_
                rotate_left
                · (intro w hSw; (try dsimp only at hSw); first | (go_simp; done) | (go_simp; with_reducible rfl))
                try simp only [Act.put, List.getElem_toArray, List.getElem_cons_zero, List.getElem_cons_succ, List.setIfInBounds_toArray, List.set_cons_zero, List.set_cons_succ]
                refine wpAnyH_take (i := 9) (v := ?_) rfl (by kernel_rfl) (by kernel_rfl) (by kernel_rfl) (fun _ _ _ h => h) (Or.inl ⟨by rfl, ?_⟩) (by assumption) ?_
                rotate_left
                · (intro w hSw; (try dsimp only at hSw); first | (go_simp; done) | (go_simp; with_reducible rfl))
                try simp only [Act.put, List.getElem_toArray, List.getElem_cons_zero, List.getElem_cons_succ, List.setIfInBounds_toArray, List.set_cons_zero, List.set_cons_succ]
                refine wpAnyH_take (i := 10) (v := ?_) rfl (by kernel_rfl) (by kernel_rfl) (by kernel_rfl) (fun _ _ _ h => h) (Or.inl ⟨by rfl, ?_⟩) (by assumption) ?_
                rotate_left
                · (intro w hSw; (try dsimp only at hSw); first | (go_simp; done) | (go_simp; with_reducible rfl))
                try simp only [Act.put, List.getElem_toArray, List.getElem_cons_zero, List.getElem_cons_succ, List.setIfInBounds_toArray, List.set_cons_zero, List.set_cons_succ]
                refine wpAnyH_take (i := 11) (v := ?_) rfl (by kernel_rfl) (by kernel_rfl) (by kernel_rfl) (fun _ _ _ h => h) (Or.inl ⟨by rfl, ?_⟩) (by assumption) ?_
                rotate_left
                · (intro w hSw; (try dsimp only at hSw); first | (go_simp; done) | (go_simp; with_reducible rfl))
                try simp only [Act.put, List.getElem_toArray, List.getElem_cons_zero, List.getElem_cons_succ, List.setIfInBounds_toArray, List.set_cons_zero, List.set_cons_succ]
                refine wpAnyH_take (i := 12) (v := ?_) rfl (by kernel_rfl) (by kernel_rfl) (by kernel_rfl) (fun _ _ _ h => h) (Or.inl ⟨by rfl, ?_⟩) (by assumption) ?_
                rotate_left
                · (intro w hSw; (try dsimp only at hSw); first | (go_simp; done) | (go_simp; with_reducible rfl))
                try simp only [Act.put, List.getElem_toArray, List.getElem_cons_zero, List.getElem_cons_succ, List.setIfInBounds_toArray, List.set_cons_zero, List.set_cons_succ]
                refine wpAnyH_take (i := 13) (v := ?_) rfl (by kernel_rfl) (by kernel_rfl) (by kernel_rfl) (fun _ _ _ h => h) (Or.inl ⟨by rfl, ?_⟩) (by assumption) ?_
                rotate_left
                · (intro w hSw; (try dsimp only at hSw); first | (go_simp; done) | (go_simp; with_reducible rfl))
                try simp only [Act.put, List.getElem_toArray, List.getElem_cons_zero, List.getElem_cons_succ, List.setIfInBounds_toArray, List.set_cons_zero, List.set_cons_succ]
                refine wpAnyH_take (i := 14) (v := ?_) rfl (by kernel_rfl) (by kernel_rfl) (by kernel_rfl) (fun _ _ _ h => h) (Or.inl ⟨by rfl, ?_⟩) (by assumption) ?_
                rotate_left
                · (intro w hSw; (try dsimp only at hSw); first | (go_simp; done) | (go_simp; with_reducible rfl))
                try simp only [Act.put, List.getElem_toArray, List.getElem_cons_zero, List.getElem_cons_succ, List.setIfInBounds_toArray, List.set_cons_zero, List.set_cons_succ]
                refine wpAnyH_take (i := 15) (v := ?_) rfl (by kernel_rfl) (by kernel_rfl) (by kernel_rfl) (fun _ _ _ h => h) (Or.inl ⟨by rfl, ?_⟩) (by assumption) ?_
                rotate_left
                · (intro w hSw; (try dsimp only at hSw); first | (go_simp; done) | (go_simp; with_reducible rfl))
                try simp only [Act.put, List.getElem_toArray, List.getElem_cons_zero, List.getElem_cons_succ, List.setIfInBounds_toArray, List.set_cons_zero, List.set_cons_succ]
                refine wpAnyH_take (i := 16) (v := ?_) rfl (by kernel_rfl) (by kernel_rfl) (by kernel_rfl) (fun _ _ _ h => h) (Or.inl ⟨by rfl, ?_⟩) (by assumption) ?_
                rotate_left
                · (intro w hSw; (try dsimp only at hSw); first | (go_simp; done) | (go_simp; with_reducible rfl))
                try simp only [Act.put, List.getElem_toArray, List.getElem_cons_zero, List.getElem_cons_succ, List.setIfInBounds_toArray, List.set_cons_zero, List.set_cons_succ]
                refine wpAnyH_take (i := 17) (v := ?_) rfl (by kernel_rfl) (by kernel_rfl) (by kernel_rfl) (fun _ _ _ h => h) (Or.inl ⟨by rfl, ?_⟩) (by assumption) ?_
                rotate_left
                · (intro w hSw; (try dsimp only at hSw); first | (go_simp; done) | (go_simp; with_reducible rfl))
                try simp only [Act.put, List.getElem_toArray, List.getElem_cons_zero, List.getElem_cons_succ, List.setIfInBounds_toArray, List.set_cons_zero, List.set_cons_succ]
                refine wpH_one (i := 18) (by kernel_rfl) rfl (fun K hK => ?_)
                refine step_callG (by rfl) 128 Tryd.f128 Tryd.func128 (by kernel_rfl) (by kernel_rfl) _ _ rfl _ (by simp [Act.eval]) _ (HC2.out _ h5) ?_
                rintro _ w6 ⟨rfl, h6⟩
                refine hK.out _ _ (HX2.out w6 h6.out.2) (fun hHeld => ?_)
                clear hK K
                try simp only [Act.put, List.getElem_toArray, List.getElem_cons_zero, List.getElem_cons_succ, List.setIfInBounds_toArray, List.set_cons_zero, List.set_cons_succ]
                refine wpAnyH_take (i := 19) (v := ?_) rfl (by kernel_rfl) (by kernel_rfl) (by kernel_rfl) (fun _ _ _ h => h) (Or.inl ⟨by rfl, ?_⟩) (by assumption) ?_
                rotate_left
                · (intro w hSw; (try dsimp only at hSw); first | (go_simp; done) | (go_simp; with_reducible rfl))
                try simp only [Act.put, List.getElem_toArray, List.getElem_cons_zero, List.getElem_cons_succ, List.setIfInBounds_toArray, List.set_cons_zero, List.set_cons_succ]
                refine wpAnyH_take (i := 20) (v := ?_) rfl (by kernel_rfl) (by kernel_rfl) (by kernel_rfl) (fun _ _ _ h => h) (Or.inl ⟨by rfl, ?_⟩) (by assumption) ?_
                rotate_left
                · (intro w hSw; (try dsimp only at hSw); first | (go_simp; done) | (go_simp; with_reducible rfl))
                try simp only [Act.put, List.getElem_toArray, List.getElem_cons_zero, List.getElem_cons_succ, List.setIfInBounds_toArray, List.set_cons_zero, List.set_cons_succ]
                refine wpAnyH_done (by kernel_rfl) ?_ _
                all_goals go_wp2_with fail
                all_goals
                  go_roundw
                  case rel => exact ⟨k + 1, by omega, by go_num, by rw [HTk.out]; exact mkHid h6.out.1, mkHid ((hfr.out.trans (Fr.drew [] _) (by simp)).trans h6.out.2 (fun b hb => .inr (by have e1 : b = mb := (by simpa using hb); omega))), by rw [HTk.out]; exact HNd⟩
                  case measure => simp [intOf]; omega
          · have hke : k = sa.length := by omega
            subst hke
            have hz : (sa.zip sb).take sa.length = sa.zip sb := List.take_of_length_le (by rw [List.length_zip]; omega)
            rw [hz] at hmp hnd
            have HF0 : Hid (F = 0) := by show F = 0; rw [HFt2.out, if_pos hnd.out]
            clear hz
            go_wp2_with fail
            go_ret2
            exact ⟨.inr ⟨HF0.out, mb, rfl, hmp.out, hwb⟩, hfr.out⟩
end
end Go.Proofs.YtdkbnnhcjaibdaaDoor
