import Derived.Test.YtpaekbghnejhoaaDoorRG21RLoaded
import Derived.Test.YtpaekbghnejhoaaDoorRG06HRd
import Derived.Deep.Quiet
import Derived.WalkKit
import Derived.OpenShut
import Derived.LaidMore
import Derived.SizedLaws
import Derived.Deep.Slices
import Derived.ChangeSlices
import Derived.FnData
namespace Go.Proofs.YtpaekbghnejhoaaDoor
open Go.RowKit
set_option linter.unusedVariables false
attribute [local go_sem ↓] Go.wp_at_zero Go.wp_at_succ
set_option maxHeartbeats 1000000 in
theorem rReach_nil (rv : Value) (w : World) : Calls Tryd.prog 28 #[.pointer none, rv] w fun e w' => e = .returned (.tuple #[.slice none 0 0, .int .i64 2]) ∧ w' = w := by
  go_enter Tryd.func28, Tryd.ntmps28
  go_wp2_with fail
  go_ret2
  exact ⟨rfl, rfl⟩
set_option maxHeartbeats 1000000 in
theorem rRun_nil (rv : Value) (w : World) : Calls Tryd.prog 33 #[.pointer none, rv] w fun e w' => e = .returned (.tuple #[.int .i64 0, .int .i64 0, .int .i64 2]) ∧ w' = w := by
  have HR := mkHid (rReach_nil rv w)
  go_enter Tryd.func33, Tryd.ntmps33
  go_wp2_with (go_at_call 28; refine Calls.mono HR.out ?_; rintro e w' ⟨rfl, hw'⟩; rw [hw']; clear hw' w')
  refine bodyPost_ret (results_tmp3 rfl _ _ _) rfl ?_
  exact ⟨rfl, rfl⟩
set_option maxHeartbeats 1000000 in
theorem Reach_nil (rv : Value) (w : World) : Calls Tryd.prog 19 #[.pointer none, rv] w fun e w' => e = .returned (.tuple #[.slice none 0 0, .int .i64 2]) ∧ Fr [] w w' := by
  go_enter Tryd.func19, Tryd.ntmps19
  go_wp2_with fail
  go_ret2
  exact ⟨rfl, Fr.alloc [] _ _⟩
set_option maxHeartbeats 1000000 in
theorem Run_nil (rv : Value) (w : World) : Calls Tryd.prog 10 #[.pointer none, rv] w fun e w' => e = .returned (.tuple #[.int .i64 0, .int .i64 0, .int .i64 2]) ∧ Fr [] w w' := by
  have HR := mkHid (Reach_nil rv w)
  go_enter Tryd.func10, Tryd.ntmps10
  go_wp2_with fail
  refine Calls.mono HR.out ?_
  rintro e w2 ⟨rfl, hf⟩
  have HF := mkHid hf
  clear hf
  go_wp2_with fail
  refine bodyPost_ret (results_tmp3 rfl _ _ _) rfl ?_
  exact ⟨rfl, HF.out⟩
/-- what the document's heap says of itself -/
theorem rState_of {words oops mark : Nat} {ks : List Key} {N : Nat} {H : HS} {M : MS} {R : RS} {B r : Nat} {w : World} (hr : RRep w B r R) (hk : RK words oops mark ks N R) (h : KA words oops mark ks H M) :
    Calls Tryd.prog 30 #[.pointer (some ⟨r, 0, none⟩)] w fun e w' => ∃ p c lo, e = .returned (.agg #[.int .i64 (words : Int), .int .i64 (oops : Int), .int .i64 (mark : Int), .slice p ks.length c]) ∧ Tld w' w.heap.size (.slice p ks.length c) lo ks ∧ Fr [] w w' := by
  refine (rState_ok B r R w hr (hk.ok h)).mono ?_
  rintro e w' ⟨ov, ls, rfl, hs, hkk, hf⟩
  have hk2 : (ls.map toOI).map oiKey = ks := by
    rw [toOI_key, hkk, ← hk.keys, List.map_map]; rfl
  have hll : ls.length = ks.length := by rw [← hk2]; simp
  have ht : Tld w' w.heap.size ov ls ks := ⟨hs, hk2, h.klen, h.slots⟩
  obtain ⟨p, c, e1, -⟩ := ht.sat.at_
  rw [List.length_map, hll] at e1
  subst e1
  exact ⟨p, c, ls, by rw [hk.words, hk.oops, hk.mark], ht, hf⟩
theorem rRoom_of {words oops mark : Nat} {ks : List Key} {N : Nat} {H : HS} {M : MS} {R : RS} {B r : Nat} {w : World} (hr : RRep w B r R) (hk : RK words oops mark ks N R) (h : KA words oops mark ks H M) :
    Calls Tryd.prog 34 #[.pointer (some ⟨r, 0, none⟩)] w fun e w' => e = .returned (.tuple #[.int .i64 ((words : Int) - endK ks), .int .i64 ((oops : Int) - (ks.length : Int))]) ∧ Fr [] w w' := by
  have hs := h.small
  refine (rRoom_ok B r R w hr (hk.ok h) (by rw [hk.words]; omega) (by rw [hk.oops]; omega) (by rw [hk.fin]; omega)).mono ?_
  rintro e w' ⟨rfl, hf⟩
  exact ⟨by rw [hk.words, hk.oops, hk.fin, hk.len], hf⟩
theorem room_of {words oops mark : Nat} {ks : List Key} {H : HS} {M : MS} {a : Nat} {l : Lay} {w : World} (hr : Rep w a l H) (h : KA words oops mark ks H M) :
    Calls Tryd.prog 18 #[.pointer (some ⟨a, 0, none⟩)] w fun e w' => e = .returned (.tuple #[.int .i64 ((words : Int) - endK ks), .int .i64 ((oops : Int) - (ks.length : Int))]) ∧ Fr [] w w' := by
  refine (Room_any a l H w hr h.inv.safe.small).mono ?_
  rintro e w' ⟨rfl, n, rfl⟩
  exact ⟨by rw [h.words, h.oops, h.mem, h.count], Fr.drewN [] _ _⟩
/-- two states told one after the other are the same -/
theorem told_same {words oops mark : Nat} {ks : List Key} {b1 b2 : Nat} {v1 v2 : Value} {l1 l2 : List OS} {w : World} (h1 : Tld w b1 v1 l1 ks) (h2 : Tld w b2 v2 l2 ks) :
    Calls Tryd.prog 25 #[.agg #[.int .i64 (words : Int), .int .i64 (oops : Int), .int .i64 (mark : Int), v1], .agg #[.int .i64 (words : Int), .int .i64 (oops : Int), .int .i64 (mark : Int), v2]] w fun e w' => e = .returned (.bool true) ∧ Fr [] w w' :=
  sameState_at words oops mark v1 v2 _ _ w h1.sat h2.sat (by rw [h1.keys, h2.keys])
/-- what was handed in is written, the document's heap stands -/
theorem RRep.beside {w w' : World} {B r N g : Nat} {R : RS} {cur : Array Value} (h : RRep w B r R) (hk : ∀ o ∈ R.objs, ∀ b, o.v.ownBlock = some b → b < N) (hg : w.heap[g]? = some (.cells cur 40 (0, 0))) (hN : N ≤ g) (hf : Fr [g] w w') : RRep w' B r R := by
  have key : ∀ b, b < w.heap.size → b ≠ g → w'.heap[b]? = w.heap[b]? := fun b hb hn => hf.block b hb (by simpa using hn)
  refine ⟨h.lo, (key r (lt_of_heap h.top) (fun e => ?_)).trans h.top, own_congr h.row fun b hb => key b (h.row.lt b hb).2 (fun e => ?_), fun o ho => own_congr (h.slots o ho) fun b hb => key b ((h.slots o ho).lt b hb).2 (fun e => ?_)⟩
  · rw [← e, h.top] at hg; simp at hg
  · rcases h.row.2 with ⟨q1, _⟩ | ⟨g1, cap1, cur1, q1, q2, q3, _⟩
    · rw [q1] at hb; simp [Value.ownBlock] at hb
    · rw [q1] at hb
      have a1 : g1 = b := by simpa [Value.ownBlock] using hb
      rw [a1, e, hg] at q3
      simp at q3
  · have := hk o ho b hb
    omega
end Go.Proofs.YtpaekbghnejhoaaDoor
namespace Go.Proofs.YtpaekbghnejhoaaDoor
open Go.RowKit
set_option linter.unusedVariables false
/-- the walk in the order of the text, shut -/
structure WQ (ops : Array Oper) (C : World → Prop) (Q : Act → Prop) (l : List Oper) (a : Act) : Prop where
  out : wpQuiet Tryd.prog ops C Q l a
section
variable {ops : Array Oper} {o : Oper} {rest : List Oper} {a : Act} {C : World → Prop} {Q : Act → Prop}
theorem wq_nil (h : Q a) : WQ ops C Q [] a := ⟨h⟩
/-- a step of a region that draws: an operation that is not wanted -/
theorem wq_skip (hw : Region.wanted o (yielded ops a.tmps) = false) (h : WQ ops C Q rest (a.put o.dst undef)) : WQ ops C Q (o :: rest) a :=
  ⟨by unfold wpQuiet; rw [hw]; exact h.out⟩
/-- one that yields a value and leaves the world -/
theorem wq_val {v : Value} (hw : Region.wanted o (yielded ops a.tmps) = true) (hv : ∀ V, C V → (execOp a.eval o).run Tryd.prog V = .ok (.value v) V) (h : WQ ops C Q rest (a.put o.dst v)) : WQ ops C Q (o :: rest) a :=
  ⟨by unfold wpQuiet; rw [if_pos hw]; exact ⟨v, fun V hV => by unfold Oper.quietAt; rw [hv V hV]; exact ⟨rfl, rfl⟩, h.out⟩⟩
/-- a call that hands back one value, and a world of the class -/
theorem wq_call (f : FuncId) (fn : Func) (hfn : Tryd.prog.funcs[f]? = some fn) (hnm : (fn.name == "runtime.NumGoroutine") = false) (hbd : fn.body.isSome = true) (xs : Array Operand) (ts : Array TypeId)
    (ho : o.op = .call { callee := .value (.func f), args := xs, argTypes := ts }) (hw : Region.wanted o (yielded ops a.tmps) = true) (vs : Array Value) (hvs : xs.map a.eval = vs) (v : Value)
    (hc : ∀ V, C V → Calls Tryd.prog f vs V fun e w' => e = .returned v ∧ C w') (h : WQ ops C Q rest (a.put o.dst v)) : WQ ops C Q (o :: rest) a := by
  refine ⟨?_⟩
  unfold wpQuiet
  rw [if_pos hw]
  refine ⟨v, fun V hV => ?_, h.out⟩
  unfold Oper.quietAt
  have e1 : (execOp a.eval o).run Tryd.prog V = .ok (.enter f vs) V := by
    have h1 : ¬ fn.name = "runtime.NumGoroutine" := by simpa using hnm
    have h2 : ¬ fn.body = none := by intro e; rw [e] at hbd; simp at hbd
    simp [execOp, ho, resolve, invoke, Act.eval, hvs, Deferred.ofValue, callFunc, hfn, h1, h2]
  rw [e1]
  exact ⟨rfl, hc V hV⟩
end
/-- a region that draws its order, walked once, where the calls may allocate -/
theorem region_quiet {W1 : World} {id : Nat} {l : List Oper} {Q : Exit → Act → World → Prop} {a : Act} {w : World} (hq : Hid (Fr [] W1 w)) (hm : Tryd.prog.follows .mixedOrders = true) (hB : Region.lexB .any l.toArray = true)
    (h : WQ l.toArray (fun V => Hid (Fr [] W1 V)) (fun a' => ∀ w', Hid (Fr [] W1 w') → Q .normal a' w') l a) : (Code.region id l.toArray true).wp Tryd.prog Q a w :=
  wp_region_quiet (C := fun V => Hid (Fr [] W1 V)) hm hB (show Hid (Fr [] W1 w.drew) from hid_drew hq) (by simpa using h.out)
theorem hid_alloc {S : List Nat} {w W : World} {o : Obj} (h : Hid (Fr S w W)) : Hid (Fr S w (W.alloc o)) := h.out.trans (Fr.alloc S W o) (fun b hb => .inl hb)
theorem hid_set4 {w W : World} {X : Nat} {a b c d : Value} (h : Hid (Fr [] w W)) (hX : w.heap.size ≤ X) : Hid (Fr [] w ((((W.setCell ⟨X, 0, none⟩ a).setCell ⟨X, 1, none⟩ b).setCell ⟨X, 2, none⟩ c).setCell ⟨X, 3, none⟩ d)) :=
  h.out.trans ((((Fr.setCell (S := [X]) W ⟨X, 0, none⟩ a (by simp)).trans (Fr.setCell (S := [X]) _ ⟨X, 1, none⟩ b (by simp)) (fun b hb => .inl hb)).trans (Fr.setCell (S := [X]) _ ⟨X, 2, none⟩ c (by simp)) (fun b hb => .inl hb)).trans (Fr.setCell (S := [X]) _ ⟨X, 3, none⟩ d (by simp)) (fun b hb => .inl hb)) (fun b hb => .inr (by simp at hb; omega))
theorem set4_at {W : World} {X : Nat} {a b c d a' b' c' d' : Value} {t : TypeId} (h : W.heap[X]? = some (.cells #[a', b', c', d'] t (0, 0))) : ((((W.setCell ⟨X, 0, none⟩ a).setCell ⟨X, 1, none⟩ b).setCell ⟨X, 2, none⟩ c).setCell ⟨X, 3, none⟩ d).heap[X]? = some (.cells #[a, b, c, d] t (0, 0)) := by
  rw [set_in (set_in (set_in (set_in h 0 _) 1 _) 2 _) 3 _]
  rfl
end Go.Proofs.YtpaekbghnejhoaaDoor
namespace Go.Proofs.YtpaekbghnejhoaaDoor
open Go.RowKit
set_option linter.unusedVariables false
attribute [local go_sem ↓] Go.wp_at_zero Go.wp_at_succ
/-- a list with all but its first number gone -/
def zeroTo (l : List Int) (i : Nat) : List Int := (List.range l.length).map fun k => if 1 ≤ k ∧ k < i then 0 else l.getD k 0
theorem zeroTo_len (l : List Int) (i : Nat) : (zeroTo l i).length = l.length := by simp [zeroTo]
theorem zeroTo_one (l : List Int) : zeroTo l 1 = l := by
  refine List.ext_getElem (by simp [zeroTo]) fun k h1 h2 => ?_
  have : ¬ (1 ≤ k ∧ k < 1) := by omega
  simp only [zeroTo, List.getElem_map, List.getElem_range]
  rw [if_neg this, List.getD_eq_getElem?_getD, List.getElem?_eq_getElem h2]
  rfl
theorem zeroTo_set (l : List Int) (i : Nat) (hi : 1 ≤ i) (m : List Int) : (zeroTo l i ++ m).set i 0 = if i < l.length then zeroTo l (i + 1) ++ m else (zeroTo l i ++ m).set i 0 := by
  by_cases h : i < l.length
  · rw [if_pos h, List.set_append_left _ _ (by rw [zeroTo_len]; exact h)]
    congr 1
    refine List.ext_getElem (by simp [zeroTo]) fun k h1 h2 => ?_
    rw [List.getElem_set]
    by_cases e : i = k
    · subst e
      simp [zeroTo, hi]
    · rw [if_neg e]
      simp only [zeroTo, List.getElem_map, List.getElem_range]
      by_cases c : 1 ≤ k ∧ k < i
      · rw [if_pos c, if_pos ⟨c.1, by omega⟩]
      · rw [if_neg c, if_neg (by omega)]
  · rw [if_neg h]
set_option maxRecDepth 20000 in
set_option maxHeartbeats 2000000 in
theorem runs_any (x y z : Int) (ov rv : Value) (la : List OI) (roots : List Int) (W : World) (ha : SAt W ov la) (hr : Rd W rv roots) (hT : Tab W) (hT0 : 0 < W.heap.size) :
    Calls Tryd.prog 6 #[.agg #[.int .i64 x, .int .i64 y, .int .i64 z, ov], rv] W fun e w' => e = .returned (.bool true) ∧ Fr [] W w' := by
  obtain ⟨pa, ca, rfl, -⟩ := ha.at_
  obtain ⟨pr, cr, rfl, -⟩ := hr.at_
  obtain ⟨W1, hW1⟩ : ∃ W1, W1 = W.alloc (.cells #[.int .i64 x, .int .i64 y, .int .i64 z, .slice pa la.length ca] 24) := ⟨_, rfl⟩
  have F1 : Hid (Fr [] W W1) := by rw [hW1]; exact Fr.alloc [] _ _
  have hB : W1.heap[W.heap.size]? = some (.cells #[.int .i64 x, .int .i64 y, .int .i64 z, .slice pa la.length ca] 24 (0, 0)) := by rw [hW1]; exact heap_alloc_new _ _
  have c0 : W1.cell? ⟨W.heap.size, 0, none⟩ = some (.int .i64 x) := by rw [cell_in hB]; rfl
  have c1 : W1.cell? ⟨W.heap.size, 1, none⟩ = some (.int .i64 y) := by rw [cell_in hB]; rfl
  have c2 : W1.cell? ⟨W.heap.size, 2, none⟩ = some (.int .i64 z) := by rw [cell_in hB]; rfl
  have c3 : W1.cell? ⟨W.heap.size, 3, none⟩ = some (.slice pa la.length ca) := by rw [cell_in hB]; rfl
  have HR : Hid (∀ V, Fr [] W1 V → Rd V (.slice pr roots.length cr) roots) := fun V hV => hr.idle (F1.out.trans hV (by simp))
  have HTb : Hid (∀ V, Fr [] W1 V → Tab V ∧ 0 < V.heap.size) := fun V hV => ⟨hT.fr (F1.out.trans hV (by simp)) hT0, Nat.lt_of_lt_of_le hT0 (F1.out.trans hV (by simp)).size⟩
  have s1 := ha.short
  have s2 := hr.short
  have HLd := mkHid (loaded_ok x y z _ la W1 (ha.idle F1.out) (HTb.out W1 (Fr.refl _ _)).1 (HTb.out W1 (Fr.refl _ _)).2)
  clear ha hr hT hT0 hB
  go_enter Tryd.func6, Tryd.ntmps6
  go_wp2_with fail
  rw [← hW1]
  refine Calls.mono HLd.out ?_
  clear HLd hW1 c0 c1 c2 c3
  rintro e w1 (⟨rfl, hf⟩ | ⟨xn, yn, zn, a, B, r, l, H, M, R, rfl, htw, hturn, hf, hnew, hWB, hBw⟩)
  · have HF1 := mkHid hf
    have HHd := mkHid (hand_ok roots _ w1 (HR.out w1 hf) s2)
    clear hf
    go_wp2_with fail
    refine Calls.mono HHd.out ?_
    rintro e w2 ⟨gv, rfl, hg⟩
    obtain ⟨g, cg, rfl, hgb, hgl⟩ := hg.own.form (by simp)
    have hcap : roots.length + 2 ≤ cg := by
      obtain ⟨-, h2⟩ := hg.own
      rcases h2 with ⟨h2, h3⟩ | ⟨g', cap, cur, h2, h3, h4, h5, h6⟩
      · cases h2
      · injection h2 with _ _ e; subst e; simpa using h5
    have HG2 := mkHid hg
    have hk1 : (0 : Int) ≤ (roots.length : Int) := by omega
    have hk2 : (roots.length : Int) ≤ (cg : Int) := by omega
    clear hg HHd
    go_wp2_with fail
    refine Calls.mono (Run_nil _ w2) ?_
    rintro e w3 ⟨rfl, hf3⟩
    have HE3 := mkHid hf3
    clear hf3
    go_wp2_with fail
    refine Calls.mono (rRun_nil _ w3) ?_
    rintro e w' ⟨rfl, hw'⟩
    rw [hw']
    clear hw' w'
    go_wp2_with fail
    refine Calls.mono (Room_nil w3) ?_
    rintro e w' ⟨rfl, hw'⟩
    rw [hw']
    clear hw' w'
    go_wp2_with fail
    refine Calls.mono (rRoom_nil w3) ?_
    rintro e w' ⟨rfl, hw'⟩
    rw [hw']
    clear hw' w'
    have hll : (roots ++ [-71, -72]).length = roots.length + 2 := by simp
    have HG3 := mkHid (HG2.out.idle HE3.out)
    have HG6 := mkHid HG3.out.own
    rw [hll] at HG6
    have HF3 : Hid (Fr [] W1 w3) := (HF1.out.trans HG2.out.fr (by simp)).trans HE3.out (by simp)
    clear hll
    go_wp2_with fail
    refine Calls.mono (num_any 2 w3 (by omega) (by omega)) ?_
    rintro e w' ⟨rfl, hw'⟩
    rw [hw']
    clear hw' w'
    go_wp2_with fail
    refine Calls.mono (left_ok roots g cg _ _ w3 HG6.out (HR.out w3 HF3.out) hcap) ?_
    rintro e w7 ⟨rfl, hf7⟩
    have HE7 := mkHid hf7
    clear hf7
    go_wp2_with fail
    refine Calls.mono (State_nil w7) ?_
    rintro e w8 ⟨rfl, hf8⟩
    have HE8 : Hid (Fr [] w3 w8) := HE7.out.trans hf8 (by simp)
    clear hf8 HE7
    go_wp2_with fail
    refine Calls.mono (rState_nil w8) ?_
    rintro e w9 ⟨rfl, hf9⟩
    have HE9 : Hid (Fr [] w3 w9) := HE8.out.trans hf9 (by simp)
    clear hf9 HE8
    go_wp2_with fail
    refine Calls.mono (sameState_at 0 0 0 _ _ [] [] w9 (sat_nil w9) (sat_nil w9) rfl) ?_
    rintro e w10 ⟨rfl, hf10⟩
    have HE10 : Hid (Fr [] w3 w10) := HE9.out.trans hf10 (by simp)
    have HG10 := mkHid (own_congr HG6.out fun b hb => HE10.out.block b (HG6.out.lt b hb).2 (by simp))
    have HF10 : Hid (Fr [] W1 w10) := HF3.out.trans HE10.out (by simp)
    have hg10 : w1.heap.size ≤ g ∧ g < w10.heap.size := HG10.out.lt g rfl
    clear hf10 HE9 HE10 HG6 HG3
    go_wp2_with fail
    go_loopw [19] (fun q wr => ∃ i : Nat, 1 ≤ i ∧ (i ≤ roots.length ∨ i = 1) ∧ q = .int .i64 i ∧ Hid (wr.ownsRow w1.heap.size 40 1 (.slice (some ⟨g, 0, none⟩) (roots.length + 2) cg) (roots.length + 2) ((zeroTo roots i ++ [-71, -72]).map (Value.int .i64))) ∧ Hid (Fr [g] w10 wr)) (fun q _ => roots.length - (intOf q).toNat)
    case atStart => exact ⟨1, Nat.le_refl _, .inr rfl, rfl, by rw [zeroTo_one]; exact HG10, Fr.refl _ _⟩
    case round =>
      obtain ⟨i, hi1, hi2, rfl, hown, hfr⟩ := hrel
      have i1 : (0 : Int) ≤ (i : Int) := by omega
      by_cases hlt : i < roots.length
      · have i2 : (i : Int) < (roots.length : Int) := by omega
        have i3 : (i : Int) < ((roots.length + 2 : Nat) : Int) := by omega
        have x1 := own_get hown.out i (by simp [zeroTo_len]; omega)
        obtain ⟨cur, hcur⟩ := own_blk hown.out g (by simp [blk])
        have z1 : wr.frozen? ⟨g, i, none⟩ = false := frozen_in hcur i
        have HO2 : Hid ((wr.setCell ⟨g, i, none⟩ (.int .i64 0)).ownsRow w1.heap.size 40 1 (.slice (some ⟨g, 0, none⟩) (roots.length + 2) cg) (roots.length + 2) ((zeroTo roots (i + 1) ++ [-71, -72]).map (Value.int .i64))) := by
          have h1 := (hown.out.stored i (.int .i64 0)).1
          have h2 := zeroTo_set roots i hi1 [-71, -72]
          rw [if_pos hlt] at h2
          rw [← List.map_set, h2] at h1
          exact h1
        have HF2 : Hid (Fr [g] w10 (wr.setCell ⟨g, i, none⟩ (.int .i64 0))) := hfr.out.trans (Fr.setCell wr ⟨g, i, none⟩ _ (S := [g]) (by simp)) (by simp)
        clear hown hcur
        go_wp2_with fail
        go_roundw
        case rel => exact ⟨i + 1, by omega, .inl (by omega), by go_num, HO2, HF2⟩
        case measure => simp [intOf]; omega
      · have i2 : (roots.length : Int) ≤ (i : Int) := by omega
        have HF11 : Hid (Fr [] W1 wr) := HF10.out.trans hfr.out (fun b hb => .inr (by have e1 : b = g := (by simpa using hb); have := HF1.out.size; omega))
        clear hown hfr
        go_wp2_with fail
        refine Calls.mono (rRun_nil _ wr) ?_
        rintro e w' ⟨rfl, hw'⟩
        rw [hw']
        clear hw' w'
        go_wp2_with fail
        refine Calls.mono (Run_nil _ wr) ?_
        rintro e w13 ⟨rfl, hf13⟩
        have HF13 : Hid (Fr [] W1 w13) := HF11.out.trans hf13 (by simp)
        clear hf13
        go_wp2_with fail
        refine Calls.mono (num_any 2 w13 (by omega) (by omega)) ?_
        rintro e w' ⟨rfl, hw'⟩
        rw [hw']
        clear hw' w'
        go_wp2_with fail
        refine Calls.mono (State_nil w13) ?_
        rintro e w14 ⟨rfl, hf8⟩
        have HE8 := mkHid hf8
        clear hf8
        go_wp2_with fail
        refine Calls.mono (rState_nil w14) ?_
        rintro e w15 ⟨rfl, hf9⟩
        have HE9 : Hid (Fr [] w13 w15) := HE8.out.trans hf9 (by simp)
        clear hf9 HE8
        go_wp2_with fail
        refine Calls.mono (sameState_at 0 0 0 _ _ [] [] w15 (sat_nil w15) (sat_nil w15) rfl) ?_
        rintro e w16 ⟨rfl, hf16⟩
        have HFz : Hid (Fr [] W w16) := ((F1.out.trans HF13.out (by simp)).trans HE9.out (by simp)).trans hf16 (by simp)
        clear hf16
        go_wp2_with fail
        go_ret
        exact ⟨rfl, HFz.out⟩
  · have HTw := mkHid htw
    have HF1 := mkHid hf
    have HNew := mkHid hnew
    have hage0 : H.age ≤ 0 := by have := htw.age; omega
    have hturn0 : R.turn ≤ 0 := by omega
    generalize hNN : w1.heap.size = N at *
    have hN1 : N ≤ w1.heap.size := by omega
    have hN2 : w1.heap.size ≤ N := by omega
    have HHd := mkHid (hand_ok roots _ w1 (HR.out w1 hf) s2)
    generalize hks : la.map oiKey = ks at *
    clear htw hf hnew hNN hturn hks
    go_wp2_with fail
    refine Calls.mono HHd.out ?_
    rintro e w2 ⟨gv, rfl, hg⟩
    obtain ⟨g, cg, rfl, hgb, hgl⟩ := hg.own.form (by simp)
    have hcap : roots.length + 2 ≤ cg := by
      obtain ⟨-, h2⟩ := hg.own
      rcases h2 with ⟨h2, h3⟩ | ⟨g', cap, cur, h2, h3, h4, h5, h6⟩
      · cases h2
      · injection h2 with _ _ e; subst e; simpa using h5
    have hF12 : Fr [] W1 w2 := HF1.out.trans hg.fr (by simp)
    have HRun := mkHid (run_tw (some ⟨g, 0, none⟩) cg roots (HTw.out.rep.keep hg.fr (by simp)) HTw.out.ka (by omega) (HTb.out w2 hF12).1 (own_front hg.own s2))
    have HG2 := mkHid hg
    have HRR2 := mkHid (HTw.out.rrep.idle hg.fr)
    have HF2 := mkHid hF12
    have hk1 : (0 : Int) ≤ (roots.length : Int) := by omega
    have hk2 : (roots.length : Int) ≤ (cg : Int) := by omega
    clear hg hF12 HHd
    go_wp2_with fail
    refine Calls.mono HRun.out ?_
    rintro e w3 ⟨st, H3, M3, hst, rfl, hrep3, hka3, hage3, hnx3⟩
    have HFo : Hid (∀ b ∈ foot a l, W1.heap.size ≤ b ∧ b < B) := fun b hb => ⟨HNew.out b hb, HTw.out.apart b hb⟩
    have HF3 : Hid (Fr [] W1 w3) := HF2.out.trans hnx3.1 (fun b hb => .inr (HFo.out b hb).1)
    have HG3 := mkHid (HG2.out.keep hnx3.1 (fun b hb => by have := (HFo.out b hb).2; omega))
    have HRR3 := mkHid (HRR2.out.keep hnx3.1 (fun b hb => .inl (HFo.out b hb).2))
    have HRRun := mkHid (rRun_tw pr cr roots HRR3.out HTw.out.ka HTw.out.rk (by omega) (HR.out w3 HF3.out))
    have HSt := mkHid hst
    have HRep3 := mkHid hrep3
    have HKa3 := mkHid hka3
    have hage3' : H3.age ≤ 1 := by omega
    clear hst hrep3 hka3 hage3 hnx3 HRun HG2 HRR2 HF2
    go_wp2_with fail
    refine Calls.mono HRRun.out ?_
    rintro e w4 ⟨st', R4, hst', rfl, hrr4, hrk4, ht4, hf4⟩
    have est := Sts.one hst' HSt.out
    subst est
    have hrB : B ≤ r := HRR3.out.lo
    have HF4 : Hid (Fr [] W1 w4) := HF3.out.trans hf4 (fun b hb => .inr (by have e1 : b = r := (by simpa using hb); omega))
    have HG4 : Hid (w4.ownsRow w1.heap.size 40 1 (.slice (some ⟨g, 0, none⟩) (roots ++ [-71, -72]).length cg) (roots ++ [-71, -72]).length ((roots ++ [-71, -72]).map (Value.int .i64))) := own_congr HG3.out fun b hb => hf4.block b (HG3.out.lt b hb).2 (fun hm => by
      have e1 : b = r := by simpa using hm
      have e2 := (HG3.out.lt b hb).1
      have e3 := lt_of_heap HTw.out.rrep.top
      omega)
    have HRep4 := mkHid (HRep3.out.keep hf4 (fun b hb hm => by have e1 : b = r := (by simpa using hm); have := (HFo.out b hb).2; omega))
    have HRR4 := mkHid hrr4
    have HRK4 := mkHid hrk4
    have hturn4 : R4.turn ≤ 1 := by omega
    clear hst' hrr4 hrk4 ht4 hf4 HRep3 HRR3 HG3 HRRun HF3
    generalize hkk : keepK ks st' = k2 at *
    clear hkk
    go_wp2_with fail
    refine Calls.mono (room_of HRep4.out HKa3.out) ?_
    rintro e w5 ⟨rfl, hf5⟩
    have HF5 := mkHid hf5
    have HRR5 := mkHid (HRR4.out.idle hf5)
    clear hf5
    go_wp2_with fail
    refine Calls.mono (rRoom_of HRR5.out HRK4.out HKa3.out) ?_
    rintro e w6 ⟨rfl, hf6⟩
    have HF6 : Hid (Fr [] w4 w6) := HF5.out.trans hf6 (by simp)
    have HRep6 := mkHid (HRep4.out.keep HF6.out (by simp))
    have HRR6 := mkHid (HRR4.out.idle HF6.out)
    have HF7 : Hid (Fr [] W1 w6) := HF4.out.trans HF6.out (by simp)
    have hll : (roots ++ [-71, -72]).length = roots.length + 2 := by simp
    have HG6 : Hid (w6.ownsRow w1.heap.size 40 1 (.slice (some ⟨g, 0, none⟩) (roots ++ [-71, -72]).length cg) (roots ++ [-71, -72]).length ((roots ++ [-71, -72]).map (Value.int .i64))) := own_congr HG4.out fun b hb => HF6.out.block b (HG4.out.lt b hb).2 (by simp)
    rw [hll] at HG6
    clear hf6 HF5 HRR5 HRep4 HRR4 HG4 HF4 HF6 hll
    generalize endK k2 = ek2 at *
    generalize endK ks = ek1 at *
    generalize k2.length = n2 at *
    generalize ks.length = n1 at *
    go_wp2_with fail
    refine Calls.mono (num_any 0 w6 (by omega) (by omega)) ?_
    rintro e w' ⟨rfl, hw'⟩
    rw [hw']
    clear hw' w'
    go_wp2_with fail
    refine Calls.mono (left_ok roots g cg _ _ w6 HG6.out (HR.out w6 HF7.out) hcap) ?_
    rintro e w7 ⟨rfl, hf7⟩
    have HE7 := mkHid hf7
    clear hf7
    go_wp2_with fail
    refine Calls.mono (state_of (HRep6.out.keep HE7.out (by simp)) HKa3.out) ?_
    rintro e w8 ⟨p8, c8, l8, rfl, ht8, hf8⟩
    have HE8 : Hid (Fr [] w6 w8) := HE7.out.trans hf8 (by simp)
    have HT8 := mkHid ht8
    clear hf8 ht8 HE7
    go_wp2_with fail
    refine Calls.mono (rState_of (HRR6.out.idle HE8.out) HRK4.out HKa3.out) ?_
    rintro e w9 ⟨p9, c9, l9, rfl, ht9, hf9⟩
    have HE9 : Hid (Fr [] w6 w9) := HE8.out.trans hf9 (by simp)
    have HSS := mkHid (told_same (words := xn) (oops := yn) (mark := zn) (HT8.out.fr hf9 (by simp)) ht9)
    clear hf9 ht9 HT8 HE8
    go_wp2_with fail
    refine Calls.mono HSS.out ?_
    rintro e w10 ⟨rfl, hf10⟩
    have HE10 : Hid (Fr [] w6 w10) := HE9.out.trans hf10 (by simp)
    have HRep10 := mkHid (HRep6.out.keep HE10.out (by simp))
    have HRR10 := mkHid (HRR6.out.idle HE10.out)
    have HG10 := mkHid (own_congr HG6.out fun b hb => HE10.out.block b (HG6.out.lt b hb).2 (by simp))
    have HF10 : Hid (Fr [] W1 w10) := HF7.out.trans HE10.out (by simp)
    have hg10 : w1.heap.size ≤ g ∧ g < w10.heap.size := HG10.out.lt g rfl
    clear hf10 HSS HE9 HE10 HRep6 HRR6 HG6 HF7
    go_wp2_with fail
    go_loopw [19] (fun q wr => ∃ i : Nat, 1 ≤ i ∧ (i ≤ roots.length ∨ i = 1) ∧ q = .int .i64 i ∧ Hid (wr.ownsRow w1.heap.size 40 1 (.slice (some ⟨g, 0, none⟩) (roots.length + 2) cg) (roots.length + 2) ((zeroTo roots i ++ [-71, -72]).map (Value.int .i64))) ∧ Hid (Fr [g] w10 wr)) (fun q _ => roots.length - (intOf q).toNat)
    case atStart => exact ⟨1, Nat.le_refl _, .inr rfl, rfl, by rw [zeroTo_one]; exact HG10, Fr.refl _ _⟩
    case round =>
      obtain ⟨i, hi1, hi2, rfl, hown, hfr⟩ := hrel
      have i1 : (0 : Int) ≤ (i : Int) := by omega
      by_cases hlt : i < roots.length
      · have i2 : (i : Int) < (roots.length : Int) := by omega
        have i3 : (i : Int) < ((roots.length + 2 : Nat) : Int) := by omega
        have x1 := own_get hown.out i (by simp [zeroTo_len]; omega)
        obtain ⟨cur, hcur⟩ := own_blk hown.out g (by simp [blk])
        have z1 : wr.frozen? ⟨g, i, none⟩ = false := frozen_in hcur i
        have HO2 : Hid ((wr.setCell ⟨g, i, none⟩ (.int .i64 0)).ownsRow w1.heap.size 40 1 (.slice (some ⟨g, 0, none⟩) (roots.length + 2) cg) (roots.length + 2) ((zeroTo roots (i + 1) ++ [-71, -72]).map (Value.int .i64))) := by
          have h1 := (hown.out.stored i (.int .i64 0)).1
          have h2 := zeroTo_set roots i hi1 [-71, -72]
          rw [if_pos hlt] at h2
          rw [← List.map_set, h2] at h1
          exact h1
        have HF2 : Hid (Fr [g] w10 (wr.setCell ⟨g, i, none⟩ (.int .i64 0))) := hfr.out.trans (Fr.setCell wr ⟨g, i, none⟩ _ (S := [g]) (by simp)) (by simp)
        clear hown hcur
        go_wp2_with fail
        go_roundw
        case rel => exact ⟨i + 1, by omega, .inl (by omega), by go_num, HO2, HF2⟩
        case measure => simp [intOf]; omega
      · have i2 : (roots.length : Int) ≤ (i : Int) := by omega
        obtain ⟨cur, hcur⟩ := own_blk hown.out g (by simp [blk])
        obtain ⟨cur0, hcur0⟩ := own_blk HG10.out g (by simp [blk])
        have hrr := HRR10.out.beside HRK4.out.own hcur0 (by omega) hfr.out
        have hrd := own_front hown.out (by rw [zeroTo_len]; exact s2)
        have hzl := zeroTo_len roots i
        generalize zeroTo roots i = roots2 at *
        rw [hzl] at hrd
        have hrd2 : Rd wr (.slice (some ⟨g, 0, none⟩) roots2.length cg) roots2 := by rw [hzl]; exact hrd
        have hRRun := rRun_tw (some ⟨g, 0, none⟩) cg roots2 hrr HKa3.out HRK4.out (by omega) hrd2
        rw [hzl] at hRRun
        have HRRun := mkHid hRRun
        have HRr := mkHid hrr
        have HRep11 := mkHid (HRep10.out.keep hfr.out (fun b hb hm => by have e1 : b = g := (by simpa using hm); have := (HFo.out b hb).2; omega))
        have HOw := mkHid hown.out
        have hsz11 : w10.heap.size ≤ wr.heap.size := hfr.out.size
        have HF11 : Hid (Fr [] W1 wr) := HF10.out.trans hfr.out (fun b hb => .inr (by have e1 : b = g := (by simpa using hb); have := HF1.out.size; omega))
        have HZL := mkHid hzl
        clear hrr hrd hrd2 hRRun hown hfr hcur hzl hcur0
        go_wp2_with fail
        refine Calls.mono HRRun.out ?_
        rintro e w12 ⟨st5, R5, hst5, rfl, hrr5, hrk5, ht5, hf12⟩
        have HRep12 := mkHid (HRep11.out.keep hf12 (fun b hb hm => by have e1 : b = r := (by simpa using hm); have := (HFo.out b hb).2; omega))
        have HF12 : Hid (Fr [] W1 w12) := HF11.out.trans hf12 (fun b hb => .inr (by have e1 : b = r := (by simpa using hb); omega))
        have hrd3 : Rd w12 (.slice (some ⟨g, 0, none⟩) roots2.length cg) roots2 := by
          refine own_front (b := w1.heap.size) (n := roots.length + 2) (ms := [-71, -72]) (own_congr HOw.out fun b hb => hf12.block b (HOw.out.lt b hb).2 (fun hm => ?_)) (by rw [HZL.out]; exact s2)
          have e1 : b = r := by simpa using hm
          have e2 := (HOw.out.lt b hb).1
          have e3 := lt_of_heap HTw.out.rrep.top
          omega
        have hRun := run_tw (some ⟨g, 0, none⟩) cg roots2 HRep12.out HKa3.out (by omega) (HTb.out w12 HF12.out).1 hrd3
        rw [HZL.out] at hRun
        have HRun := mkHid hRun
        have HSt5 := mkHid hst5
        have HRR5 := mkHid hrr5
        have HRK5 := mkHid hrk5
        clear hst5 hrr5 hrk5 ht5 hf12 hrd3 hRun HRRun HRep11 HOw
        go_wp2_with fail
        refine Calls.mono HRun.out ?_
        rintro e w13 ⟨st6, H6, M6, hst6, rfl, hrep6, hka6, hage6, hnx6⟩
        have est := Sts.one hst6 HSt5.out
        subst est
        have HF13 : Hid (Fr [] W1 w13) := HF12.out.trans hnx6.1 (fun b hb => .inr (HFo.out b hb).1)
        have HRR13 := mkHid (HRR5.out.keep hnx6.1 (fun b hb => .inl (HFo.out b hb).2))
        have HRep13 := mkHid hrep6
        have HKa6 := mkHid hka6
        clear hst6 hrep6 hka6 hage6 hnx6 HRun HRR5
        generalize keepK k2 st6 = k3 at *
        go_wp2_with fail
        refine Calls.mono (num_any 0 w13 (by omega) (by omega)) ?_
        rintro e w' ⟨rfl, hw'⟩
        rw [hw']
        clear hw' w'
        go_wp2_with fail
        refine Calls.mono (state_of HRep13.out HKa6.out) ?_
        rintro e w14 ⟨p8, c8, l8, rfl, ht8, hf8⟩
        have HE8 := mkHid hf8
        have HT8 := mkHid ht8
        clear hf8 ht8
        go_wp2_with fail
        refine Calls.mono (rState_of (HRR13.out.idle HE8.out) HRK5.out HKa6.out) ?_
        rintro e w15 ⟨p9, c9, l9, rfl, ht9, hf9⟩
        have HE9 : Hid (Fr [] w13 w15) := HE8.out.trans hf9 (by simp)
        have HSS := mkHid (told_same (words := xn) (oops := yn) (mark := zn) (HT8.out.fr hf9 (by simp)) ht9)
        clear hf9 ht9 HT8 HE8
        go_wp2_with fail
        refine Calls.mono HSS.out ?_
        rintro e w16 ⟨rfl, hf16⟩
        have HFz : Hid (Fr [] W w16) := ((F1.out.trans HF13.out (by simp)).trans HE9.out (by simp)).trans hf16 (by simp)
        clear hf16
        go_wp2_with fail
        go_ret
        exact ⟨rfl, HFz.out⟩
end Go.Proofs.YtpaekbghnejhoaaDoor
namespace Go.Proofs.YtpaekbghnejhoaaDoor
open Go.ChangeShapes Go.WideShapes Go.RowKit
set_option linter.unusedVariables false
theorem weightsAll_mem {H : Type} {P : Program} {e : TypeId} {d : DataW H} : ∀ {ds : List (DataW H)}, d ∈ ds → ∀ n ∈ d.weights P e, n ∈ DataW.weightsAll P e ds := by
  intro ds
  induction ds with
  | nil => intro h; simp at h
  | cons x ds ih =>
    intro h n hn
    unfold DataW.weightsAll
    rcases List.mem_cons.1 h with rfl | h
    · exact List.mem_append_left _ hn
    · exact List.mem_append_right _ (ih h n hn)
namespace OpenS
theorem c106 : Tryd.prog.cellsOf 44 = 4 := by kernel_rfl
theorem c3 : Tryd.prog.cellsOf 3 = 1 := by kernel_rfl
theorem c33 : Tryd.prog.cellsOf 40 = 1 := by kernel_rfl
theorem c36 : Tryd.prog.cellsOf 22 = 1 := by kernel_rfl
theorem c80 : Tryd.prog.cellsOf 25 = 1 := by kernel_rfl
theorem b33 : Tryd.prog.bytesOf 40 = 8 := by kernel_rfl
theorem b106 : Tryd.prog.bytesOf 44 = 48 := by kernel_rfl
end OpenS
section
variable {H : Type} {enc : TypeId × Value → H} {w : World} {spare : Nat → Bool} {held : Bool}
/-- a list of words, opened -/
theorem open_words {fuel : Nat} {u : Value} {y : DataW H × List MemPlace} (h : DataW.trod enc Tryd.prog w 0 spare held fuel 25 [u] = some y) (hz : ∀ n ∈ y.1.weights Tryd.prog 25, n ≤ reachBytes) :
    ∃ zs : List Int, Rd w u zs := by
  rcases open_ints Tryd.underlying25 Tryd.underlying40 OpenS.c33 h with ⟨hcs, _⟩ | ⟨a, len, cap, zs, hcs, _, hl, hm, hzl, hx, hc, _⟩
  · simp at hcs
    exact ⟨[], ⟨none, 0, hcs, fun h => by simp at h⟩, fun c hc => by rw [hcs] at hc; injection hc with _ _ e; exact e.symm, by simp⟩
  · simp at hcs
    have hlz : len ≤ zs.length := by rw [hzl]; split <;> omega
    have htl : (zs.take len).length = len := by simp; omega
    refine ⟨zs.take len, ⟨some a, cap, by rw [htl]; exact hcs, fun hpos => ?_⟩, fun c hc => (by rw [hcs] at hc; injection hc with e; cases e), ?_⟩
    · rw [htl] at hpos
      obtain ⟨b, off, spot⟩ := a
      have hspot : spot = none := by simpa [Addr.add] using World.cell?_spot (hc 0 (by omega))
      subst hspot
      have hcell : ∀ j, j < len → w.cell? ⟨b, off + j, none⟩ = some (.int .i64 (zs.getD j 0)) := fun j hj => by
        have := hc j (by omega)
        rwa [Addr.add_mid] at this
      refine ⟨b, off, rfl, World.block_lt_of_cell? w ⟨b, off + 0, none⟩ (hcell 0 hpos), fun j hj => ?_⟩
      rw [htl] at hj
      rw [hcell j hj, List.getD_eq_getElem?_getD, List.getD_eq_getElem?_getD, List.getElem?_take, if_pos hj]
    · rw [htl]
      have hw := hz (((lits (H := H) .i64 (zs.take len)).length + (lits (H := H) .i64 (zs.drop len)).length) * Tryd.prog.bytesOf 40) (by rw [hx]; simp [DataW.weights, Tryd.underlying25])
      have e1 : (lits (H := H) .i64 (zs.take len)).length = len := by simp [lits]; omega
      rw [e1, OpenS.b33] at hw
      unfold reachBytes at hw
      omega
set_option maxRecDepth 20000 in
/-- the objects of a state, opened -/
theorem open_objs {fuel : Nat} {u : Value} {x : DataW H × List MemPlace} (h : DataW.trod enc Tryd.prog w 0 spare held fuel 22 [u] = some x) (hz : ∀ n ∈ x.1.weights Tryd.prog 22, n ≤ reachBytes) :
    ∃ la : List OI, SAt w u la := by
  rcases Go.Deep.open_slice Tryd.underlying22 h with ⟨hcs, rfl⟩ | ⟨a, len, cap, m, n, D, Pl, hcs, _, hl, hm, hmm, rfl, hx⟩
  · simp at hcs
    exact ⟨[], ⟨none, 0, hcs, fun h => by simp at h⟩, by simp, by simp⟩
  · simp at hcs
    by_cases h0 : len = 0
    · subst h0
      exact ⟨[], ⟨some a, cap, hcs, fun h => by simp at h⟩, by simp, by simp⟩
    · have hlm : len ≤ m := by rw [hmm]; split <;> omega
      rw [OpenS.c106] at hx
      obtain ⟨b, off, spot⟩ := a
      have hspot : spot = none := by
        obtain ⟨cs', h1, h2⟩ := hx 0 (by omega)
        obtain ⟨_, hlen, hcell⟩ := World.cells?_some h1
        have := hcell 0 (by omega)
        rw [Go.Deep.add_add] at this
        match cs', hlen with
        | u :: _, _ => simpa [Addr.add] using World.cell?_spot this
      subst hspot
      have hstep : ∀ i, i < len → ∃ o : OI, w.cell? ⟨b, off + i * 4, none⟩ = some (.int .i64 o.oop) ∧ w.cell? ⟨b, off + i * 4 + 1, none⟩ = some (.int .i64 o.cls) ∧ w.cell? ⟨b, off + i * 4 + 2, none⟩ = some (.int .i64 o.fmt) ∧ w.cell? ⟨b, off + i * 4 + 3, none⟩ = some o.v ∧ Rd w o.v o.slots := fun i hi => by
        obtain ⟨cs', h1, h2⟩ := hx i (by omega)
        obtain ⟨_, hlen, hcell⟩ := World.cells?_some h1
        obtain ⟨xs, k, hk, hxy, _, hxl, hf⟩ := DataW.trod_struct Tryd.underlying44 h2
        match xs, hxl, cs', hlen with
        | [y0, y1, y2, y3], _, [t0, t1, t2, t3], _ =>
          have g0 := hf 0 _ rfl
          have g1 := hf 1 _ rfl
          have g2 := hf 2 _ rfl
          have g3 := hf 3 _ rfl
          simp [OpenS.c3, OpenS.c33, OpenS.c80] at g0 g1 g2 g3
          obtain ⟨A, e0, -, -⟩ := DataW.trod_int Tryd.underlying3 g0
          obtain ⟨B, e1, -, -⟩ := DataW.trod_int Tryd.underlying40 g1
          obtain ⟨C, e2, -, -⟩ := DataW.trod_int Tryd.underlying3 g2
          simp at e0 e1 e2
          obtain ⟨zs, hls⟩ := open_words g3 (fun n hn => by
            refine hz n ?_
            have hd : D i = .agg [y0.1, y1.1, y2.1, y3.1] := by simpa using congrArg Prod.fst hxy
            have h3 : n ∈ (D i).weights Tryd.prog 44 := by
              rw [hd]
              simp only [DataW.weights, Tryd.underlying44]
              exact DataW.weights_mem_each (j := 3) (t := 25) (d := y3.1) rfl rfl n hn
            simp only [DataW.weights, Tryd.underlying22]
            refine List.mem_cons_of_mem _ (List.mem_append_left _ (weightsAll_mem (d := D i) ?_ n h3))
            exact List.mem_map.2 ⟨i, List.mem_range.2 hi, rfl⟩)
          have m0 := hcell 0 (by omega)
          have m1 := hcell 1 (by omega)
          have m2 := hcell 2 (by omega)
          have m3 := hcell 3 (by omega)
          rw [Addr.add_mid, Addr.add_mid] at m0 m1 m2 m3
          simp at m0 m1 m2 m3
          subst e0 e1 e2
          exact ⟨⟨A, B, C, zs, t3⟩, m0, m1, m2, m3, hls⟩
      obtain ⟨f, hf⟩ : ∃ f : Nat → OI, ∀ i, i < len → w.cell? ⟨b, off + i * 4, none⟩ = some (.int .i64 (f i).oop) ∧ w.cell? ⟨b, off + i * 4 + 1, none⟩ = some (.int .i64 (f i).cls) ∧ w.cell? ⟨b, off + i * 4 + 2, none⟩ = some (.int .i64 (f i).fmt) ∧ w.cell? ⟨b, off + i * 4 + 3, none⟩ = some (f i).v ∧ Rd w (f i).v (f i).slots := by
        refine ⟨fun i => if hi : i < len then Classical.choose (hstep i hi) else ⟨0, 0, 0, [], .bool true⟩, fun i hi => ?_⟩
        simp only [dif_pos hi]
        exact Classical.choose_spec (hstep i hi)
      refine ⟨(List.range len).map f, ⟨some ⟨b, off, none⟩, cap, by simpa using hcs, fun _ => ⟨b, off, rfl, fun k hk => ?_⟩⟩, fun o ho => ?_, ?_⟩
      · have hk2 : k < len := by simpa using hk
        obtain ⟨a0, a1, a2, a3, _⟩ := hf k hk2
        exact ⟨f k, by rw [List.getElem?_map, List.getElem?_range hk2]; rfl, a0, a1, a2, a3⟩
      · obtain ⟨i, hi, rfl⟩ := List.mem_map.1 ho
        exact (hf i (List.mem_range.1 hi)).2.2.2.2
      · rw [List.length_map, List.length_range]
        have hw := hz ((((List.range len).map D).length + ((List.range (m - len)).map fun j => D (len + j)).length) * Tryd.prog.bytesOf 44) (by simp only [DataW.weights, Tryd.underlying22]; exact List.mem_cons_self ..)
        rw [List.length_map, List.length_range, List.length_map, List.length_range, OpenS.b106] at hw
        unfold reachBytes at hw
        have h5 : len * 48 ≤ (len + (m - len)) * 48 := Nat.mul_le_mul_right _ (by omega)
        omega
end
end Go.Proofs.YtpaekbghnejhoaaDoor

namespace Go.Proofs.YtpaekbghnejhoaaDoor
open Go.ChangeShapes Go.WideShapes
/-- a table of integers, cell by cell -/
theorem int_table {H : Type} {enc : TypeId × Value → H} {P : Program} {w : World} {base : Nat} {spare : Nat → Bool} {held : Bool} {fuel n : Nat} {t e : TypeId} {k : IntKind} {cs : List Value} {vals : List Int} {p : List MemPlace}
    (ht : P.underlying t = some (.array n e)) (he : P.underlying e = some (.int k)) (ce : P.cellsOf e = 1)
    (hd : DataW.trod enc P w base spare held fuel t cs = some (.agg (vals.map fun v => .lit (.int k v)), p)) (i : Nat) (hi : i < vals.length) :
    cs[i]? = some (.int k (vals.getD i 0)) := by
  obtain ⟨xs, m, _, hx, _, hn, hel⟩ := DataW.trod_array ht hd
  simp only [Prod.mk.injEq, DataW.agg.injEq] at hx
  have hlen : xs.length = vals.length := by
    have := congrArg List.length hx.1
    simpa using this.symm
  have h := hel i (by omega)
  rw [ce, Nat.mul_one] at h
  obtain ⟨x, hxi⟩ : ∃ x, xs[i]? = some x := ⟨xs[i]'(by omega), by rw [List.getElem?_eq_getElem (by omega)]⟩
  rw [hxi] at h
  obtain ⟨v, e1, e2, _⟩ := DataW.trod_int he h
  have hv : vals[i]? = some v := by
    have h3 := congrArg (fun l => l[i]?) hx.1
    simp only [List.getElem?_map, hxi, e2] at h3
    cases hvi : vals[i]? with
    | none => rw [hvi] at h3; simp at h3
    | some y => rw [hvi] at h3; simp at h3; rw [h3]
  have h4 : cs[i]? = some (.int k v) := by
    have h5 := congrArg (fun l => l[0]?) e1
    simpa [List.getElem?_take, List.getElem?_drop] using h5
  rw [h4, List.getD_eq_getElem?_getD, hv]
  rfl
end Go.Proofs.YtpaekbghnejhoaaDoor
