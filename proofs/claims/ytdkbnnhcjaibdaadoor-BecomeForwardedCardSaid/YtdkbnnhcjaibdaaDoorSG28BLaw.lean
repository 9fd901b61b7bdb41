import Derived.Test.YtdkbnnhcjaibdaaDoorSG07HSameS
import Derived.Deep.Quiet
import Derived.Test.YtdkbnnhcjaibdaaDoorSBForw
import Derived.Test.YtdkbnnhcjaibdaaDoorSG08HPutAll
namespace Go.Proofs.YtdkbnnhcjaibdaaDoor
open Go.RowKit
set_option linter.unusedVariables false
/-- the walk in the order of the text, shut -/
structure WQ (ops : Array Oper) (C : World → Prop) (Q : Act → Prop) (l : List Oper) (a : Act) : Prop where
  out : wpQuiet Tryd.prog ops C Q l a
section
variable {ops : Array Oper} {o : Oper} {rest : List Oper} {a : Act} {C : World → Prop} {Q : Act → Prop}
theorem wq_nil (h : Q a) : WQ ops C Q [] a := ⟨h⟩
/-- a step of a region that draws: an operation that is not wanted -/
theorem wq_skip (hw : Region.wanted o (yielded ops a.tmps) = false) (h : WQ ops C Q rest (a.put o.dst undef)) : WQ ops C Q (o :: rest) a :=
  ⟨by unfold wpQuiet; rw [hw]; exact h.out⟩
/-- one that yields a value and leaves the world -/
theorem wq_val {v : Value} (hw : Region.wanted o (yielded ops a.tmps) = true) (hv : ∀ V, C V → (execOp a.eval o).run Tryd.prog V = .ok (.value v) V) (h : WQ ops C Q rest (a.put o.dst v)) : WQ ops C Q (o :: rest) a :=
  ⟨by unfold wpQuiet; rw [if_pos hw]; exact ⟨v, fun V hV => by unfold Oper.quietAt; rw [hv V hV]; exact ⟨rfl, rfl⟩, h.out⟩⟩
/-- a call that hands back one value, and a world of the class -/
theorem wq_call (f : FuncId) (fn : Func) (hfn : Tryd.prog.funcs[f]? = some fn) (hnm : (fn.name == "runtime.NumGoroutine") = false) (hbd : fn.body.isSome = true) (xs : Array Operand) (ts : Array TypeId)
    (ho : o.op = .call { callee := .value (.func f), args := xs, argTypes := ts }) (hw : Region.wanted o (yielded ops a.tmps) = true) (vs : Array Value) (hvs : xs.map a.eval = vs) (v : Value)
    (hc : ∀ V, C V → Calls Tryd.prog f vs V fun e w' => e = .returned v ∧ C w') (h : WQ ops C Q rest (a.put o.dst v)) : WQ ops C Q (o :: rest) a := by
  refine ⟨?_⟩
  unfold wpQuiet
  rw [if_pos hw]
  refine ⟨v, fun V hV => ?_, h.out⟩
  unfold Oper.quietAt
  have e1 : (execOp a.eval o).run Tryd.prog V = .ok (.enter f vs) V := by
    have h1 : ¬ fn.name = "runtime.NumGoroutine" := by simpa using hnm
    have h2 : ¬ fn.body = none := by intro e; rw [e] at hbd; simp at hbd
    simp [execOp, ho, resolve, invoke, Act.eval, hvs, Deferred.ofValue, callFunc, hfn, h1, h2]
  rw [e1]
  exact ⟨rfl, hc V hV⟩
end
/-- a region that draws its order, walked once, where the calls may allocate -/
theorem region_quiet {W1 : World} {id : Nat} {l : List Oper} {Q : Exit → Act → World → Prop} {a : Act} {w : World} (hq : Hid (Fr [] W1 w)) (hm : Tryd.prog.follows .mixedOrders = true) (hB : Region.lexB .any l.toArray = true)
    (h : WQ l.toArray (fun V => Hid (Fr [] W1 V)) (fun a' => ∀ w', Hid (Fr [] W1 w') → Q .normal a' w') l a) : (Code.region id l.toArray true).wp Tryd.prog Q a w :=
  wp_region_quiet (C := fun V => Hid (Fr [] W1 V)) hm hB (show Hid (Fr [] W1 w.drew) from hid_drew hq) (by simpa using h.out)
theorem hid_alloc {S : List Nat} {w W : World} {o : Obj} (h : Hid (Fr S w W)) : Hid (Fr S w (W.alloc o)) := h.out.trans (Fr.alloc S W o) (fun b hb => .inl hb)
theorem hid_set4 {w W : World} {X : Nat} {a b c d : Value} (h : Hid (Fr [] w W)) (hX : w.heap.size ≤ X) : Hid (Fr [] w ((((W.setCell ⟨X, 0, none⟩ a).setCell ⟨X, 1, none⟩ b).setCell ⟨X, 2, none⟩ c).setCell ⟨X, 3, none⟩ d)) :=
  h.out.trans ((((Fr.setCell (S := [X]) W ⟨X, 0, none⟩ a (by simp)).trans (Fr.setCell (S := [X]) _ ⟨X, 1, none⟩ b (by simp)) (fun b hb => .inl hb)).trans (Fr.setCell (S := [X]) _ ⟨X, 2, none⟩ c (by simp)) (fun b hb => .inl hb)).trans (Fr.setCell (S := [X]) _ ⟨X, 3, none⟩ d (by simp)) (fun b hb => .inl hb)) (fun b hb => .inr (by simp at hb; omega))
theorem set4_at {W : World} {X : Nat} {a b c d a' b' c' d' : Value} {t : TypeId} (h : W.heap[X]? = some (.cells #[a', b', c', d'] t (0, 0))) : ((((W.setCell ⟨X, 0, none⟩ a).setCell ⟨X, 1, none⟩ b).setCell ⟨X, 2, none⟩ c).setCell ⟨X, 3, none⟩ d).heap[X]? = some (.cells #[a, b, c, d] t (0, 0)) := by
  rw [set_in (set_in (set_in (set_in h 0 _) 1 _) 2 _) 3 _]
  rfl
end Go.Proofs.YtdkbnnhcjaibdaaDoor

namespace Go.Proofs.YtdkbnnhcjaibdaaDoor
open Go.RowKit Go.Maps
set_option linter.unusedVariables false
set_option linter.unusedSimpArgs false
attribute [local go_sem ↓] Go.wp_at_zero Go.wp_at_succ
set_option maxHeartbeats 400000 in
theorem num4_any (n : Int) (w : World) : Calls Tryd.prog 29 #[.int .i64 n] w fun e w' => e = .returned (.int .i64 n) ∧ w' = w := by
  go_enter Tryd.func29, Tryd.ntmps29
  go_wp2
  go_ret
  exact ⟨rfl, rfl⟩
set_option maxRecDepth 20000 in
set_option maxHeartbeats 1000000 in
theorem partner_ok (q : Int) (sa sb : List Int) (va vb : Value) (w : World) (hl : sa.length = sb.length) (ha : Rd w va sa) (hb : Rd w vb sb) :
    Calls Tryd.prog 35 #[.int .i64 q, va, vb] w fun e w' => e = .returned (.int .i64 (partnerZ (sa.zip sb) q)) ∧ w' = w := by
  obtain ⟨pa, ca, rfl, hpa⟩ := ha.at_
  obtain ⟨pb, cb, rfl, hpb⟩ := hb.at_
  have s1 := ha.short
  have HPa := mkHid hpa
  have HPb := mkHid hpb
  have hll : (sb.length : Int) = (sa.length : Int) := by omega
  have HL := mkHid hl
  rw [← hl]
  clear ha hb hpa hpb hll hl
  go_enter Tryd.func35, Tryd.ntmps35
  go_wp2_with fail
  go_loopw [7] (fun i wr => ∃ k : Nat, k ≤ sa.length ∧ i = .int .i64 k ∧ Hid (wr = w) ∧ Hid (partnerZ (sa.zip sb) q = partnerZ ((sa.zip sb).drop k) q)) (fun i _ => sa.length - (intOf i).toNat)
  case atStart => exact ⟨0, Nat.zero_le _, rfl, mkHid rfl, mkHid rfl⟩
  case round =>
    obtain ⟨k, hkn, rfl, hw0, hp⟩ := hrel
    rw [hw0.out]
    clear hw0
    have k1 : (0 : Int) ≤ (k : Int) := by omega
    by_cases hlt : k < sa.length
    · have k2 : (k : Int) < (sa.length : Int) := by omega
      have hltb : k < sb.length := by have := HL.out; omega
      obtain ⟨ga, oa, rfl, hga, hca⟩ := HPa.out (by omega)
      obtain ⟨gb, ob, rfl, hgb, hcb⟩ := HPb.out (by omega)
      have x1 := hca k hlt
      have x2 := hcb k hltb
      have hz : k < (sa.zip sb).length := by rw [List.length_zip]; omega
      have hd : (sa.zip sb).drop k = (sa.getD k 0, sb.getD k 0) :: (sa.zip sb).drop (k + 1) := by
        rw [List.drop_eq_getElem_cons hz, List.getElem_zip, List.getD_eq_getElem?_getD, List.getElem?_eq_getElem hlt, List.getD_eq_getElem?_getD, List.getElem?_eq_getElem hltb]
        rfl
      have hp2 := hp.out
      rw [hd] at hp2
      have hp3 : partnerZ (sa.zip sb) q = if sa.getD k 0 = q then sb.getD k 0 else if sb.getD k 0 = q then sa.getD k 0 else partnerZ ((sa.zip sb).drop (k + 1)) q := hp2
      have HP3 := mkHid hp3
      generalize sa.getD k 0 = x at *
      generalize sb.getD k 0 = y at *
      clear hca hcb hd hp2 hp3 hp
      by_cases hx : x = q
      · have hbx : (x == q) = true := by simpa using hx
        have HR2 : Hid (partnerZ (sa.zip sb) q = y) := by show partnerZ (sa.zip sb) q = y; rw [HP3.out, if_pos hx]
        clear hx HP3
        go_wp2_with fail
        go_ret
        exact ⟨by rw [HR2.out]; rfl, rfl⟩
      · have hbx : (x == q) = false := by simpa using hx
        by_cases hy : y = q
        · have hby : (y == q) = true := by simpa using hy
          have HR2 : Hid (partnerZ (sa.zip sb) q = x) := by show partnerZ (sa.zip sb) q = x; rw [HP3.out, if_neg hx, if_pos hy]
          clear hx hy HP3
          go_wp2_with fail
          go_ret
          exact ⟨by rw [HR2.out]; rfl, rfl⟩
        · have hby : (y == q) = false := by simpa using hy
          have HR2 : Hid (partnerZ (sa.zip sb) q = partnerZ ((sa.zip sb).drop (k + 1)) q) := by show partnerZ (sa.zip sb) q = _; rw [HP3.out, if_neg hx, if_neg hy]
          clear hx hy HP3
          go_wp2_with fail
          go_roundw
          case rel => exact ⟨k + 1, by omega, by go_num, by first | exact mkHid rfl | exact mkHid trivial, HR2⟩
          case measure => simp [intOf]; omega
    · have hke : k = sa.length := by omega
      subst hke
      have HR2 : Hid (partnerZ (sa.zip sb) q = q) := by
        show partnerZ (sa.zip sb) q = q
        rw [hp.out, List.drop_eq_nil_of_le (by rw [List.length_zip]; omega)]
        rfl
      go_wp2_with fail
      go_ret
      exact ⟨by rw [HR2.out]; rfl, rfl⟩
set_option maxRecDepth 20000 in
set_option maxHeartbeats 1000000 in
theorem sameBody_ok (o1 o2 c f : Int) (ss : List Int) (v1 v2 : Value) (w : World) (h1 : Rd w v1 ss) (h2 : Rd w v2 ss) :
    Calls Tryd.prog 36 #[.agg #[.int .i64 o1, .int .i64 c, .int .i64 f, v1], .agg #[.int .i64 o2, .int .i64 c, .int .i64 f, v2]] w fun e w' => e = .returned (.bool true) ∧ Fr [] w w' := by
  obtain ⟨p1, c1, rfl, -⟩ := h1.at_
  obtain ⟨p2, c2, rfl, -⟩ := h2.at_
  obtain ⟨W1, hW1⟩ : ∃ W1, W1 = (w.alloc (.cells #[.int .i64 o1, .int .i64 c, .int .i64 f, .slice p1 ss.length c1] 76)).alloc (.cells #[.int .i64 o2, .int .i64 c, .int .i64 f, .slice p2 ss.length c2] 76) := ⟨_, rfl⟩
  have F1 : Hid (Fr [] w W1) := by rw [hW1]; exact (Fr.alloc [] _ _).trans (Fr.alloc [] _ _) (by simp)
  have HS := mkHid (sameWords_ok ss _ _ W1 (h1.idle F1.out) (h2.idle F1.out))
  clear h1 h2
  go_enter Tryd.func36, Tryd.ntmps36
  go_wp2_with fail
  rw [← hW1]
  refine Calls.mono HS.out ?_
  rintro e w2 ⟨rfl, n, hw⟩
  have HF2 : Hid (Fr [] w w2) := by rw [hw]; exact F1.out.trans (Fr.drewN [] _ _) (by simp)
  clear hw hW1
  go_wp2_with fail
  go_ret
  exact ⟨rfl, HF2.out⟩
end Go.Proofs.YtdkbnnhcjaibdaaDoor
