import Derived.Test.YtdkbnnhcjaibdaaDoorFG28BRfS
import Derived.Test.YtdkbnnhcjaibdaaDoorFBForw
import Derived.Test.YtdkbnnhcjaibdaaDoorFG07HRd
import Derived.Deep.Quiet
import Derived.Test.YtdkbnnhcjaibdaaDoorFG15CEn
import Derived.Test.YtdkbnnhcjaibdaaDoorFG08HMSet
import Derived.Test.YtdkbnnhcjaibdaaDoorFG23BRefX
namespace Go.Proofs.YtdkbnnhcjaibdaaDoor
open Go.RowKit
set_option linter.unusedVariables false
set_option linter.unusedSimpArgs false
/-- the blocks that a Forward of the document's heap writes -/
def fFoot (R : RS) : List Nat := R.ov.ownBlock.toList ++ R.objs.filterMap fun o => o.v.ownBlock
theorem mem_fFoot {R : RS} {g : Nat} : g ∈ fFoot R ↔ R.ov.ownBlock = some g ∨ ∃ o ∈ R.objs, o.v.ownBlock = some g := by
  unfold fFoot
  rw [List.mem_append, Option.mem_toList, List.mem_filterMap]
theorem Alk.foot {R R' : RS} (h : Alk R R') : fFoot R' = fFoot R := by
  unfold fFoot
  have e : ∀ l : List RO, (l.filterMap fun o => o.v.ownBlock) = (l.map RO.shape).filterMap fun s => s.2.2.2.2.2.ownBlock := fun l => by
    rw [List.filterMap_map]; rfl
  rw [h.ov, e, e, h.objs]
theorem is_one {R : RS} (hnd : (R.objs.map fun o => o.oop).Nodup) {q : Int} {m n : Nat} (hm : RIs R q m) (hn : RIs R q n) : m = n :=
  oop_one hnd hm.1 hn.1 (by have := hm.2; have := hn.2; omega)
theorem is_key {R : RS} (hnd : (R.objs.map fun o => o.oop).Nodup) {k : Key} {m : Nat} (hk : k ∈ R.objs.map roKey) (hm : RIs R k.1 m) : roKey (R.objs.getD m noRO) = k := by
  obtain ⟨o, o1, rfl⟩ := List.mem_map.1 hk
  obtain ⟨n, hn, e⟩ := List.getElem_of_mem o1
  have e2 : R.objs.getD n noRO = o := by rw [List.getD_eq_getElem?_getD, List.getElem?_eq_getElem hn, ← e]; rfl
  have : m = n := is_one hnd hm ⟨hn, by rw [e2]; rfl⟩
  rw [this, e2]
theorem key_is {R : RS} {k : Key} (hk : k ∈ R.objs.map roKey) : ∃ m, RIs R k.1 m := by
  obtain ⟨o, o1, rfl⟩ := List.mem_map.1 hk
  obtain ⟨n, hn, e⟩ := List.getElem_of_mem o1
  exact ⟨n, hn, by rw [List.getD_eq_getElem?_getD, List.getElem?_eq_getElem hn, ← e]; rfl⟩
theorem key_no {R : RS} {k : Key} (hk : k ∈ R.objs.map roKey) : ¬ RNo R k.1 := fun h => by
  obtain ⟨m, h1, h2⟩ := key_is hk
  exact h m h1 h2
theorem endK_like (g : Key → Key) (hg : ∀ k, (g k).2.2.1 = k.2.2.1 ∧ (g k).2.2.2.length = k.2.2.2.length) : ∀ ks : List Key, endK (ks.map g) = endK ks
  | [] => rfl
  | k :: t => by
    have ih := endK_like g hg t
    obtain ⟨h1, h2⟩ := hg k
    rw [List.map_cons]
    unfold endK
    rw [ih, h1, h2]
theorem endK_turn (f : List (Int × Int)) (ks : List Key) : endK (ks.map (turnKey f)) = endK ks :=
  endK_like (turnKey f) (fun k => ⟨rfl, by unfold turnKey; dsimp only; split; exact turnTo_len _ _ _; rfl⟩) ks
/-- a state of the document's heap within a Forward -/
structure RFs (B r : Nat) (R : RS) (w : World) (K : List Key) : Prop where
  ex : ∃ R', RRep w B r R' ∧ Alk R R' ∧ R'.objs.map roKey = K
theorem RFs.idle {B r : Nat} {R : RS} {w w' : World} {K : List Key} (h : RFs B r R w K) (hf : Fr [] w w') : RFs B r R w' K := by
  obtain ⟨R', h1, h2, h3⟩ := h.ex
  exact ⟨R', h1.idle hf, h2, h3⟩
section
variable {B r : Nat} {R : RS} {w : World} {K : List Key}
theorem rf_class (h : RFs B r R w K) (hl : R.objs.length ≤ 1048576) (hnd : (R.objs.map fun o => o.oop).Nodup) {k : Key} (hk : k ∈ K) :
    Calls Tryd.prog 81 #[.pointer (some ⟨r, 0, none⟩), .int .i64 k.1] w fun e w' => e = .returned (.tuple #[.int .i64 k.2.1, .int .i64 0]) ∧ Fr [] w w' := by
  obtain ⟨R', h1, h2, h3⟩ := h.ex
  subst h3
  refine (rClass_any k.1 B r R' w h1 (by rw [h2.len]; exact hl)).mono ?_
  rintro e w' ⟨⟨m, hm, rfl⟩ | ⟨hno, -⟩, hf⟩
  · have := is_key (h2.nodup hnd) hk hm
    refine ⟨?_, hf⟩
    rw [← this]
    rfl
  · exact absurd hno (key_no hk)
theorem rf_size (h : RFs B r R w K) (hl : R.objs.length ≤ 1048576) (hnd : (R.objs.map fun o => o.oop).Nodup) {k : Key} (hk : k ∈ K) :
    Calls Tryd.prog 83 #[.pointer (some ⟨r, 0, none⟩), .int .i64 k.1] w fun e w' => e = .returned (.tuple #[.int .i64 (k.2.2.2.length : Nat), .int .i64 k.2.2.1, .int .i64 0]) ∧ Fr [] w w' := by
  obtain ⟨R', h1, h2, h3⟩ := h.ex
  subst h3
  refine (rSize_yes k.1 B r R' w h1 (by rw [h2.len]; exact hl) (key_no hk)).mono ?_
  rintro e w' ⟨⟨m, hm, rfl⟩, hf⟩
  have := is_key (h2.nodup hnd) hk hm
  refine ⟨?_, hf⟩
  rw [← this]
  rfl
theorem rf_at (h : RFs B r R w K) (hl : R.objs.length ≤ 1048576) (hnd : (R.objs.map fun o => o.oop).Nodup) {k : Key} (hk : k ∈ K) (i : Nat) (hi : i < k.2.2.2.length) :
    Calls Tryd.prog 85 #[.pointer (some ⟨r, 0, none⟩), .int .i64 k.1, .int .i64 i] w fun e w' => e = .returned (.tuple #[.int .i64 (k.2.2.2.getD i 0), .int .i64 0]) ∧ Fr [] w w' := by
  obtain ⟨R', h1, h2, h3⟩ := h.ex
  subst h3
  have key : ∀ m, RIs R' k.1 m → roKey (R'.objs.getD m noRO) = k := fun m hm => is_key (h2.nodup hnd) hk hm
  refine (rAt_yes k.1 B r R' i w h1 (by rw [h2.len]; exact hl) (fun m hm => ?_) (key_no hk)).mono ?_
  · have := congrArg (fun k : Key => k.2.2.2.length) (key m hm)
    have : (R'.objs.getD m noRO).slots.length = k.2.2.2.length := this
    omega
  · rintro e w' ⟨⟨m, hm, rfl⟩, hf⟩
    have := key m hm
    refine ⟨?_, hf⟩
    rw [← this]
    rfl
end
end Go.Proofs.YtdkbnnhcjaibdaaDoor
namespace Go.Proofs.YtdkbnnhcjaibdaaDoor
open Go.RowKit
set_option linter.unusedVariables false
set_option linter.unusedSimpArgs false
section
variable {B r : Nat} {R : RS} {w : World} {K : List Key}
theorem rf_setClass (h : RFs B r R w K) (hl : R.objs.length ≤ 1048576) (hnd : (R.objs.map fun o => o.oop).Nodup) {k : Key} (hk : k ∈ K) (z : Int) (hz : isW z = true) :
    Calls Tryd.prog 84 #[.pointer (some ⟨r, 0, none⟩), .int .i64 k.1, .int .i64 z] w fun e w' => e = .returned (.int .i64 0) ∧ RFs B r R w' (K.map (updK (k.1, z, k.2.2.1, k.2.2.2))) ∧ Fr (fFoot R) w w' := by
  obtain ⟨R', h1, h2, h3⟩ := h.ex
  subst h3
  refine (rSetClass_ok k.1 z B r R' w h1 (by rw [h2.len]; exact hl) (key_no hk) hz).mono ?_
  rintro e w' ⟨rfl, m, g, hm, hg, hr, hf⟩
  have hkm := is_key (h2.nodup hnd) hk hm
  have e1 : ((R'.objs.getD m noRO).fmt : Int) = k.2.2.1 := congrArg (fun k : Key => k.2.2.1) hkm
  have e2 : (R'.objs.getD m noRO).slots = k.2.2.2 := congrArg (fun k : Key => k.2.2.2) hkm
  refine ⟨rfl, ⟨_, hr, h2.trans (Alk.upd R' m z _ rfl), ?_⟩, hf.mono fun b hb => ?_⟩
  · rw [upd_keys (h2.nodup hnd) rfl hm, e1, e2]
  · have : b = g := by simpa using hb
    rw [this, ← h2.foot]
    exact .inl (mem_fFoot.2 (.inl hg))
theorem rf_put (h : RFs B r R w K) (hln : Lone R) (hl : R.objs.length ≤ 1048576) (hnd : (R.objs.map fun o => o.oop).Nodup) {k : Key} (hk : k ∈ K) (i : Nat) (hi : i < k.2.2.2.length) (z : Int) (hz : mayB z k.2.2.1 = true) :
    Calls Tryd.prog 86 #[.pointer (some ⟨r, 0, none⟩), .int .i64 k.1, .int .i64 i, .int .i64 z] w fun e w' => e = .returned (.int .i64 0) ∧ RFs B r R w' (K.map (updK (k.1, k.2.1, k.2.2.1, k.2.2.2.set i z))) ∧ Fr (fFoot R) w w' := by
  obtain ⟨R', h1, h2, h3⟩ := h.ex
  subst h3
  have key : ∀ m, RIs R' k.1 m → roKey (R'.objs.getD m noRO) = k := fun m hm => is_key (h2.nodup hnd) hk hm
  refine (rPut_ok k.1 i z B r R' w h1 (h2.lone hln) (by rw [h2.len]; exact hl) (key_no hk) (fun m hm => ?_)).mono ?_
  · have hkm := key m hm
    have e1 : ((R'.objs.getD m noRO).fmt : Int) = k.2.2.1 := congrArg (fun k : Key => k.2.2.1) hkm
    have e2 : (R'.objs.getD m noRO).slots = k.2.2.2 := congrArg (fun k : Key => k.2.2.2) hkm
    rw [e1, e2]
    exact ⟨hi, hz⟩
  · rintro e w' ⟨rfl, m, g, hm, hg, hr, hf⟩
    have hkm := key m hm
    have e0 : (R'.objs.getD m noRO).cls = k.2.1 := congrArg (fun k : Key => k.2.1) hkm
    have e1 : ((R'.objs.getD m noRO).fmt : Int) = k.2.2.1 := congrArg (fun k : Key => k.2.2.1) hkm
    have e2 : (R'.objs.getD m noRO).slots = k.2.2.2 := congrArg (fun k : Key => k.2.2.2) hkm
    refine ⟨rfl, ⟨_, hr, h2.trans (Alk.upd R' m _ _ (by simp)), ?_⟩, hf.mono fun b hb => ?_⟩
    · rw [upd_keys (h2.nodup hnd) rfl hm, e0, e1, e2]
    · have : b = g := by simpa using hb
      rw [this, ← h2.foot]
      exact .inl (mem_fFoot.2 (.inr ⟨_, roD_mem hm.1, hg⟩))
end
end Go.Proofs.YtdkbnnhcjaibdaaDoor
namespace Go.Proofs.YtdkbnnhcjaibdaaDoor
open Go.RowKit
set_option linter.unusedVariables false
/-- the walk in the order of the text, shut -/
structure WQ (ops : Array Oper) (C : World → Prop) (Q : Act → Prop) (l : List Oper) (a : Act) : Prop where
  out : wpQuiet Tryd.prog ops C Q l a
section
variable {ops : Array Oper} {o : Oper} {rest : List Oper} {a : Act} {C : World → Prop} {Q : Act → Prop}
theorem wq_nil (h : Q a) : WQ ops C Q [] a := ⟨h⟩
/-- a step of a region that draws: an operation that is not wanted -/
theorem wq_skip (hw : Region.wanted o (yielded ops a.tmps) = false) (h : WQ ops C Q rest (a.put o.dst undef)) : WQ ops C Q (o :: rest) a :=
  ⟨by unfold wpQuiet; rw [hw]; exact h.out⟩
/-- one that yields a value and leaves the world -/
theorem wq_val {v : Value} (hw : Region.wanted o (yielded ops a.tmps) = true) (hv : ∀ V, C V → (execOp a.eval o).run Tryd.prog V = .ok (.value v) V) (h : WQ ops C Q rest (a.put o.dst v)) : WQ ops C Q (o :: rest) a :=
  ⟨by unfold wpQuiet; rw [if_pos hw]; exact ⟨v, fun V hV => by unfold Oper.quietAt; rw [hv V hV]; exact ⟨rfl, rfl⟩, h.out⟩⟩
/-- a call that hands back one value, and a world of the class -/
theorem wq_call (f : FuncId) (fn : Func) (hfn : Tryd.prog.funcs[f]? = some fn) (hnm : (fn.name == "runtime.NumGoroutine") = false) (hbd : fn.body.isSome = true) (xs : Array Operand) (ts : Array TypeId)
    (ho : o.op = .call { callee := .value (.func f), args := xs, argTypes := ts }) (hw : Region.wanted o (yielded ops a.tmps) = true) (vs : Array Value) (hvs : xs.map a.eval = vs) (v : Value)
    (hc : ∀ V, C V → Calls Tryd.prog f vs V fun e w' => e = .returned v ∧ C w') (h : WQ ops C Q rest (a.put o.dst v)) : WQ ops C Q (o :: rest) a := by
  refine ⟨?_⟩
  unfold wpQuiet
  rw [if_pos hw]
  refine ⟨v, fun V hV => ?_, h.out⟩
  unfold Oper.quietAt
  have e1 : (execOp a.eval o).run Tryd.prog V = .ok (.enter f vs) V := by
    have h1 : ¬ fn.name = "runtime.NumGoroutine" := by simpa using hnm
    have h2 : ¬ fn.body = none := by intro e; rw [e] at hbd; simp at hbd
    simp [execOp, ho, resolve, invoke, Act.eval, hvs, Deferred.ofValue, callFunc, hfn, h1, h2]
  rw [e1]
  exact ⟨rfl, hc V hV⟩
end
/-- a region that draws its order, walked once, where the calls may allocate -/
theorem region_quiet {W1 : World} {id : Nat} {l : List Oper} {Q : Exit → Act → World → Prop} {a : Act} {w : World} (hq : Hid (Fr [] W1 w)) (hm : Tryd.prog.follows .mixedOrders = true) (hB : Region.lexB .any l.toArray = true)
    (h : WQ l.toArray (fun V => Hid (Fr [] W1 V)) (fun a' => ∀ w', Hid (Fr [] W1 w') → Q .normal a' w') l a) : (Code.region id l.toArray true).wp Tryd.prog Q a w :=
  wp_region_quiet (C := fun V => Hid (Fr [] W1 V)) hm hB (show Hid (Fr [] W1 w.drew) from hid_drew hq) (by simpa using h.out)
theorem hid_alloc {S : List Nat} {w W : World} {o : Obj} (h : Hid (Fr S w W)) : Hid (Fr S w (W.alloc o)) := h.out.trans (Fr.alloc S W o) (fun b hb => .inl hb)
theorem hid_set4 {w W : World} {X : Nat} {a b c d : Value} (h : Hid (Fr [] w W)) (hX : w.heap.size ≤ X) : Hid (Fr [] w ((((W.setCell ⟨X, 0, none⟩ a).setCell ⟨X, 1, none⟩ b).setCell ⟨X, 2, none⟩ c).setCell ⟨X, 3, none⟩ d)) :=
  h.out.trans ((((Fr.setCell (S := [X]) W ⟨X, 0, none⟩ a (by simp)).trans (Fr.setCell (S := [X]) _ ⟨X, 1, none⟩ b (by simp)) (fun b hb => .inl hb)).trans (Fr.setCell (S := [X]) _ ⟨X, 2, none⟩ c (by simp)) (fun b hb => .inl hb)).trans (Fr.setCell (S := [X]) _ ⟨X, 3, none⟩ d (by simp)) (fun b hb => .inl hb)) (fun b hb => .inr (by simp at hb; omega))
theorem set4_at {W : World} {X : Nat} {a b c d a' b' c' d' : Value} {t : TypeId} (h : W.heap[X]? = some (.cells #[a', b', c', d'] t (0, 0))) : ((((W.setCell ⟨X, 0, none⟩ a).setCell ⟨X, 1, none⟩ b).setCell ⟨X, 2, none⟩ c).setCell ⟨X, 3, none⟩ d).heap[X]? = some (.cells #[a, b, c, d] t (0, 0)) := by
  rw [set_in (set_in (set_in (set_in h 0 _) 1 _) 2 _) 3 _]
  rfl
end Go.Proofs.YtdkbnnhcjaibdaaDoor

namespace Go.Proofs.YtdkbnnhcjaibdaaDoor
open Go.RowKit Go.Maps
set_option linter.unusedVariables false
set_option linter.unusedSimpArgs false
attribute [local go_sem ↓] Go.wp_at_zero Go.wp_at_succ
set_option maxHeartbeats 400000 in
theorem num4_any (n : Int) (w : World) : Calls Tryd.prog 29 #[.int .i64 n] w fun e w' => e = .returned (.int .i64 n) ∧ w' = w := by
  go_enter Tryd.func29, Tryd.ntmps29
  go_wp2
  go_ret
  exact ⟨rfl, rfl⟩
set_option maxRecDepth 20000 in
set_option maxHeartbeats 1000000 in
theorem partner_ok (q : Int) (sa sb : List Int) (va vb : Value) (w : World) (hl : sa.length = sb.length) (ha : Rd w va sa) (hb : Rd w vb sb) :
    Calls Tryd.prog 35 #[.int .i64 q, va, vb] w fun e w' => e = .returned (.int .i64 (partnerZ (sa.zip sb) q)) ∧ w' = w := by
  obtain ⟨pa, ca, rfl, hpa⟩ := ha.at_
  obtain ⟨pb, cb, rfl, hpb⟩ := hb.at_
  have s1 := ha.short
  have HPa := mkHid hpa
  have HPb := mkHid hpb
  have hll : (sb.length : Int) = (sa.length : Int) := by omega
  have HL := mkHid hl
  rw [← hl]
  clear ha hb hpa hpb hll hl
  go_enter Tryd.func35, Tryd.ntmps35
  go_wp2_with fail
  go_loopw [7] (fun i wr => ∃ k : Nat, k ≤ sa.length ∧ i = .int .i64 k ∧ Hid (wr = w) ∧ Hid (partnerZ (sa.zip sb) q = partnerZ ((sa.zip sb).drop k) q)) (fun i _ => sa.length - (intOf i).toNat)
  case atStart => exact ⟨0, Nat.zero_le _, rfl, mkHid rfl, mkHid rfl⟩
  case round =>
    obtain ⟨k, hkn, rfl, hw0, hp⟩ := hrel
    rw [hw0.out]
    clear hw0
    have k1 : (0 : Int) ≤ (k : Int) := by omega
    by_cases hlt : k < sa.length
    · have k2 : (k : Int) < (sa.length : Int) := by omega
      have hltb : k < sb.length := by have := HL.out; omega
      obtain ⟨ga, oa, rfl, hga, hca⟩ := HPa.out (by omega)
      obtain ⟨gb, ob, rfl, hgb, hcb⟩ := HPb.out (by omega)
      have x1 := hca k hlt
      have x2 := hcb k hltb
      have hz : k < (sa.zip sb).length := by rw [List.length_zip]; omega
      have hd : (sa.zip sb).drop k = (sa.getD k 0, sb.getD k 0) :: (sa.zip sb).drop (k + 1) := by
        rw [List.drop_eq_getElem_cons hz, List.getElem_zip, List.getD_eq_getElem?_getD, List.getElem?_eq_getElem hlt, List.getD_eq_getElem?_getD, List.getElem?_eq_getElem hltb]
        rfl
      have hp2 := hp.out
      rw [hd] at hp2
      have hp3 : partnerZ (sa.zip sb) q = if sa.getD k 0 = q then sb.getD k 0 else if sb.getD k 0 = q then sa.getD k 0 else partnerZ ((sa.zip sb).drop (k + 1)) q := hp2
      have HP3 := mkHid hp3
      generalize sa.getD k 0 = x at *
      generalize sb.getD k 0 = y at *
      clear hca hcb hd hp2 hp3 hp
      by_cases hx : x = q
      · have hbx : (x == q) = true := by simpa using hx
        have HR2 : Hid (partnerZ (sa.zip sb) q = y) := by show partnerZ (sa.zip sb) q = y; rw [HP3.out, if_pos hx]
        clear hx HP3
        go_wp2_with fail
        go_ret
        exact ⟨by rw [HR2.out]; rfl, rfl⟩
      · have hbx : (x == q) = false := by simpa using hx
        by_cases hy : y = q
        · have hby : (y == q) = true := by simpa using hy
          have HR2 : Hid (partnerZ (sa.zip sb) q = x) := by show partnerZ (sa.zip sb) q = x; rw [HP3.out, if_neg hx, if_pos hy]
          clear hx hy HP3
          go_wp2_with fail
          go_ret
          exact ⟨by rw [HR2.out]; rfl, rfl⟩
        · have hby : (y == q) = false := by simpa using hy
          have HR2 : Hid (partnerZ (sa.zip sb) q = partnerZ ((sa.zip sb).drop (k + 1)) q) := by show partnerZ (sa.zip sb) q = _; rw [HP3.out, if_neg hx, if_neg hy]
          clear hx hy HP3
          go_wp2_with fail
          go_roundw
          case rel => exact ⟨k + 1, by omega, by go_num, by first | exact mkHid rfl | exact mkHid trivial, HR2⟩
          case measure => simp [intOf]; omega
    · have hke : k = sa.length := by omega
      subst hke
      have HR2 : Hid (partnerZ (sa.zip sb) q = q) := by
        show partnerZ (sa.zip sb) q = q
        rw [hp.out, List.drop_eq_nil_of_le (by rw [List.length_zip]; omega)]
        rfl
      go_wp2_with fail
      go_ret
      exact ⟨by rw [HR2.out]; rfl, rfl⟩
set_option maxRecDepth 20000 in
set_option maxHeartbeats 1000000 in
theorem sameBody_ok (o1 o2 c f : Int) (ss : List Int) (v1 v2 : Value) (w : World) (h1 : Rd w v1 ss) (h2 : Rd w v2 ss) :
    Calls Tryd.prog 36 #[.agg #[.int .i64 o1, .int .i64 c, .int .i64 f, v1], .agg #[.int .i64 o2, .int .i64 c, .int .i64 f, v2]] w fun e w' => e = .returned (.bool true) ∧ Fr [] w w' := by
  obtain ⟨p1, c1, rfl, -⟩ := h1.at_
  obtain ⟨p2, c2, rfl, -⟩ := h2.at_
  obtain ⟨W1, hW1⟩ : ∃ W1, W1 = (w.alloc (.cells #[.int .i64 o1, .int .i64 c, .int .i64 f, .slice p1 ss.length c1] 76)).alloc (.cells #[.int .i64 o2, .int .i64 c, .int .i64 f, .slice p2 ss.length c2] 76) := ⟨_, rfl⟩
  have F1 : Hid (Fr [] w W1) := by rw [hW1]; exact (Fr.alloc [] _ _).trans (Fr.alloc [] _ _) (by simp)
  have HS := mkHid (sameWords_ok ss _ _ W1 (h1.idle F1.out) (h2.idle F1.out))
  clear h1 h2
  go_enter Tryd.func36, Tryd.ntmps36
  go_wp2_with fail
  rw [← hW1]
  refine Calls.mono HS.out ?_
  rintro e w2 ⟨rfl, n, hw⟩
  have HF2 : Hid (Fr [] w w2) := by rw [hw]; exact F1.out.trans (Fr.drewN [] _ _) (by simp)
  clear hw hW1
  go_wp2_with fail
  go_ret
  exact ⟨rfl, HF2.out⟩
end Go.Proofs.YtdkbnnhcjaibdaaDoor
namespace Go.Proofs.YtdkbnnhcjaibdaaDoor
open Go.RowKit
set_option linter.unusedVariables false
attribute [local go_sem ↓] Go.wp_at_zero Go.wp_at_succ
/-- a list of words of one's own, laid since w0 -/
structure Wds (w0 wr : World) (v : Value) (ls : List Int) : Prop where
  own : wr.ownsRow w0.heap.size 35 1 v ls.length (ls.map (Value.int .i64))
  fr : Fr [] w0 wr
theorem Wds.idle {w0 wr V : World} {v : Value} {ls : List Int} (h : Wds w0 wr v ls) (hf : Fr [] wr V) : Wds w0 V v ls :=
  ⟨own_congr h.own fun g hg => hf.block g (h.own.lt g hg).2 (by simp), h.fr.trans hf (by simp)⟩
/-- .. where something that lay there ahead of it is written -/
theorem Wds.keep {w0 wr V : World} {v : Value} {ls : List Int} {S : List Nat} (h : Wds w0 wr v ls) (hf : Fr S wr V) (hS : ∀ g ∈ S, g < w0.heap.size) : V.ownsRow w0.heap.size 35 1 v ls.length (ls.map (Value.int .i64)) :=
  own_congr h.own fun g hg => hf.block g (h.own.lt g hg).2 (fun hm => by have := hS g hm; have := (h.own.lt g hg).1; omega)
theorem run_copy_own (ss : List Int) (u : Value) (w : World) (h : Rd w u ss) : ∃ p c w', (Builtin.append_ #[61, 61] 61 #[.slice none 0 0, u]).run Tryd.prog w = .ok (.slice p ss.length c) w' ∧ Wds w w' (.slice p ss.length c) ss := by
  obtain ⟨v, w', h1, h2, h3⟩ := run_copy ss u w h
  obtain ⟨p, c, e⟩ := row_is h2
  subst e
  exact ⟨p, c, w', h1, h2, h3⟩
/-- what is handed in, read -/
theorem own_get {w : World} {b g n c : Nat} {t : TypeId} {ls : List Int} (h : w.ownsRow b t 1 (.slice (some ⟨g, 0, none⟩) n c) n (ls.map (Value.int .i64))) (k : Nat) (hk : k < ls.length) : w.cell? ⟨g, k, none⟩ = some (.int .i64 (ls.getD k 0)) := by
  have hl := h.1
  rw [List.length_map] at hl
  rw [h.cellAt k (by omega), List.getElem?_map, List.getD_eq_getElem?_getD, List.getElem?_eq_getElem hk]
  rfl
/-- the part of a list ahead of its marks -/
theorem own_front {w : World} {b g n c : Nat} {t : TypeId} {ls ms : List Int} (h : w.ownsRow b t 1 (.slice (some ⟨g, 0, none⟩) n c) n ((ls ++ ms).map (Value.int .i64))) (hl : ls.length ≤ 17592186043904) : Rd w (.slice (some ⟨g, 0, none⟩) ls.length c) ls := by
  refine ⟨⟨_, _, rfl, fun hp => ⟨g, 0, rfl, World.block_lt_of_cell? w ⟨g, 0, none⟩ (own_get h 0 (by simp; omega)), fun i hi => ?_⟩⟩, fun c' hc => (by injection hc with e; cases e), hl⟩
  rw [Nat.zero_add, own_get h i (by simp; omega), List.getD_eq_getElem?_getD, List.getElem?_append_left hi, ← List.getD_eq_getElem?_getD]
end Go.Proofs.YtdkbnnhcjaibdaaDoor

namespace Go.Proofs.YtdkbnnhcjaibdaaDoor
open Go.RowKit
set_option linter.unusedVariables false
attribute [local go_sem ↓] Go.wp_at_zero Go.wp_at_succ
/-- the two heaps beside one another -/
structure Twin (w : World) (a : Nat) (l : Lay) (B r N : Nat) (words oops mark : Nat) (ks : List Key) (H : HS) (M : MS) (R : RS) : Prop where
  rep : Rep w a l H
  ka : KA words oops mark ks H M
  rrep : RRep w B r R
  rk : RK words oops mark ks N R
  apart : ∀ g ∈ foot a l, g < B
  age : H.age ≤ R.turn
theorem ROf.rk {words oops mark : Nat} {ks : List Key} {R : RS} {w : World} {B r : Nat} (h : ROf words oops mark ks R) (hr : RRep w B r R) (hw : words ≤ 1048576) : RK words oops mark ks w.heap.size R :=
  ⟨h.eWords, h.eOops, h.eMark, h.keys, h.fin, fun o ho => ⟨by have := (h.slots o ho).1; omega, (h.slots o ho).2⟩, fun o ho g hg => ((hr.slots o ho).lt g hg).2, by rw [h.turn]; omega⟩
/-- each Load alone, as a pair -/
def LdP (x y z : Int) (la : List OI) (w : World) (e : Ending) (w' : World) : Prop :=
  (∃ n : Int, 0 ≤ n ∧ n ≤ 27 ∧ ((argBad x y z ∧ n = 1) ∨ (¬ argBad x y z ∧ n = 27 ∧ ¬ allK x.toNat y.toNat (la.map oiKey))) ∧ e = .returned (.tuple #[.pointer none, .int .i64 n]) ∧ Fr [] w w') ∨
  (∃ (xn yn zn : Nat) (l : Lay) (H : HS) (M : MS), ¬ argBad x y z ∧ x = (xn : Int) ∧ y = (yn : Int) ∧ z = (zn : Int) ∧ xn ≤ 1048576 ∧ allK xn yn (la.map oiKey) ∧ e = .returned (.tuple #[.pointer (some ⟨w.heap.size + 1, 0, none⟩), .int .i64 0]) ∧ Rep w' (w.heap.size + 1) l H ∧ KOf xn yn zn (la.map oiKey) H M ∧ Fr [] w w' ∧ ∀ g ∈ foot (w.heap.size + 1) l, w.heap.size ≤ g)
theorem load_p (x y z : Int) (ov : Value) (la : List OI) (w : World) (ha : SAt w ov la) (hT : Tab w) (hT0 : 0 < w.heap.size) :
    Calls Tryd.prog 17 #[.agg #[.int .i64 x, .int .i64 y, .int .i64 z, ov]] w (LdP x y z la w) := by
  by_cases hb : argBad x y z
  · refine Calls.mono (Load_bad x y z ov w hb) ?_
    rintro e w' ⟨rfl, hf⟩
    exact .inl ⟨1, by omega, by omega, .inl ⟨hb, rfl⟩, rfl, hf⟩
  · have hb' : 0 ≤ x ∧ x ≤ 1048576 ∧ 0 ≤ y ∧ y ≤ 65536 ∧ 0 ≤ z ∧ z ≤ 1073741824 := by unfold argBad at hb; omega
    obtain ⟨xn, rfl⟩ : ∃ n : Nat, x = (n : Int) := ⟨x.toNat, by omega⟩
    obtain ⟨yn, rfl⟩ : ∃ n : Nat, y = (n : Int) := ⟨y.toNat, by omega⟩
    obtain ⟨zn, rfl⟩ : ∃ n : Nat, z = (n : Int) := ⟨z.toNat, by omega⟩
    refine Calls.mono (Load_any xn yn zn ov la w ha hT hT0 (by omega) (by omega) (by omega)) ?_
    rintro e w' (⟨l, H, M, rfl, hw⟩ | ⟨k, o, H, M, rfl, hf, ho, hlds, ht⟩)
    · have hlds := hw.lds
      rw [List.take_length] at hlds
      exact .inr ⟨xn, yn, zn, l, H, M, hb, rfl, rfl, rfl, by omega, hlds.good (by omega) (by omega) (by omega), rfl, hw.rep, hlds.kOf (by omega) (by omega) (by omega), hw.fr, hw.new⟩
    · refine .inl ⟨27, by omega, by omega, .inr ⟨hb, rfl, fun hall => ?_⟩, rfl, hf⟩
      have hK := hlds.kOf (by omega) (by omega) (by omega)
      have h1 := hall k (oiKey o) (by rw [List.getElem?_map, ho]; rfl)
      rw [← List.map_take] at h1
      have h2 := hK.takes (oiKey o)
      have h3 : takesB H (oiKey o).1 (oiKey o).2.1 (oiKey o).2.2.1 (oiKey o).2.2.2 = false := ht
      rw [h3] at h2
      have h4 : takesK xn yn ((la.take k).map oiKey) (oiKey o) = true := by simpa using h1
      rw [← h2] at h4
      cases h4
theorem rload_p (x y z : Int) (ov : Value) (la : List OI) (w : World) (ha : SAt w ov la) :
    Calls Tryd.prog 99 #[.agg #[.int .i64 x, .int .i64 y, .int .i64 z, ov]] w fun e w' =>
      (∃ n : Int, 0 ≤ n ∧ n ≤ 27 ∧ ((argBad x y z ∧ n = 1) ∨ (¬ argBad x y z ∧ n = 27 ∧ ¬ allK x.toNat y.toNat (la.map oiKey))) ∧ e = .returned (.tuple #[.pointer none, .int .i64 n]) ∧ Fr [] w w') ∨
      (∃ (R : RS), ¬ argBad x y z ∧ allK x.toNat y.toNat (la.map oiKey) ∧ e = .returned (.tuple #[.pointer (some ⟨w.heap.size + 1, 0, none⟩), .int .i64 0]) ∧ RRep w' (w.heap.size + 1) (w.heap.size + 1) R ∧ ROf x.toNat y.toNat z.toNat (la.map oiKey) R ∧ Fr [] w w') := by
  by_cases hb : argBad x y z
  · refine Calls.mono (rLoad_bad x y z ov w hb) ?_
    rintro e w' ⟨rfl, hf⟩
    exact .inl ⟨1, by omega, by omega, .inl ⟨hb, rfl⟩, rfl, hf⟩
  · have hb' : 0 ≤ x ∧ x ≤ 1048576 ∧ 0 ≤ y ∧ y ≤ 65536 ∧ 0 ≤ z ∧ z ≤ 1073741824 := by unfold argBad at hb; omega
    obtain ⟨xn, rfl⟩ : ∃ n : Nat, x = (n : Int) := ⟨x.toNat, by omega⟩
    obtain ⟨yn, rfl⟩ : ∃ n : Nat, y = (n : Int) := ⟨y.toNat, by omega⟩
    obtain ⟨zn, rfl⟩ : ∃ n : Nat, z = (n : Int) := ⟨z.toNat, by omega⟩
    refine Calls.mono (rLoad_any xn yn zn ov la w ha (by omega) (by omega) (by omega)) ?_
    rintro e w' (⟨R, rfl, hw⟩ | ⟨k, o, rfl, hf, ho, ht⟩)
    · have hof := hw.of
      rw [List.take_length] at hof
      exact .inr ⟨R, hb, hof.good, rfl, hw.rep, hof, hw.fr⟩
    · refine .inl ⟨27, by omega, by omega, .inr ⟨hb, rfl, fun hall => ?_⟩, rfl, hf⟩
      have h1 := hall k (oiKey o) (by rw [List.getElem?_map, ho]; rfl)
      rw [← List.map_take] at h1
      have h4 : takesK xn yn ((la.take k).map oiKey) (oiKey o) = true := by simpa using h1
      rw [ht] at h4
      cases h4
end Go.Proofs.YtdkbnnhcjaibdaaDoor

namespace Go.Proofs.YtdkbnnhcjaibdaaDoor
open Go.RowKit
set_option linter.unusedVariables false
attribute [local go_sem ↓] Go.wp_at_zero Go.wp_at_succ
set_option maxHeartbeats 1000000 in
theorem Reach_nil (rv : Value) (w : World) : Calls Tryd.prog 105 #[.pointer none, rv] w fun e w' => e = .returned (.tuple #[.slice none 0 0, .int .i64 2]) ∧ Fr [] w w' := by
  go_enter Tryd.func105, Tryd.ntmps105
  go_wp2_with fail
  go_ret2
  exact ⟨rfl, Fr.alloc [] _ _⟩
/-- what the document's heap says of itself -/
theorem rState_of {words oops mark : Nat} {ks : List Key} {N : Nat} {H : HS} {M : MS} {R : RS} {B r : Nat} {w : World} (hr : RRep w B r R) (hk : RK words oops mark ks N R) (h : KA words oops mark ks H M) :
    Calls Tryd.prog 27 #[.pointer (some ⟨r, 0, none⟩)] w fun e w' => ∃ p c lo, e = .returned (.agg #[.int .i64 (words : Int), .int .i64 (oops : Int), .int .i64 (mark : Int), .slice p ks.length c]) ∧ Tld w' w.heap.size (.slice p ks.length c) lo ks ∧ Fr [] w w' := by
  refine (rState_ok B r R w hr (hk.ok h)).mono ?_
  rintro e w' ⟨ov, ls, rfl, hs, hkk, hf⟩
  have hk2 : (ls.map toOI).map oiKey = ks := by
    rw [toOI_key, hkk, ← hk.keys, List.map_map]; rfl
  have hll : ls.length = ks.length := by rw [← hk2]; simp
  have ht : Tld w' w.heap.size ov ls ks := ⟨hs, hk2, h.klen, h.slots⟩
  obtain ⟨p, c, e1, -⟩ := ht.sat.at_
  rw [List.length_map, hll] at e1
  subst e1
  exact ⟨p, c, ls, by rw [hk.words, hk.oops, hk.mark], ht, hf⟩
theorem rRoom_of {words oops mark : Nat} {ks : List Key} {N : Nat} {H : HS} {M : MS} {R : RS} {B r : Nat} {w : World} (hr : RRep w B r R) (hk : RK words oops mark ks N R) (h : KA words oops mark ks H M) :
    Calls Tryd.prog 89 #[.pointer (some ⟨r, 0, none⟩)] w fun e w' => e = .returned (.tuple #[.int .i64 ((words : Int) - endK ks), .int .i64 ((oops : Int) - (ks.length : Int))]) ∧ Fr [] w w' := by
  have hs := h.small
  refine (rRoom_ok B r R w hr (hk.ok h) (by rw [hk.words]; omega) (by rw [hk.oops]; omega) (by rw [hk.fin]; omega)).mono ?_
  rintro e w' ⟨rfl, hf⟩
  exact ⟨by rw [hk.words, hk.oops, hk.fin, hk.len], hf⟩
theorem room_of {words oops mark : Nat} {ks : List Key} {H : HS} {M : MS} {a : Nat} {l : Lay} {w : World} (hr : Rep w a l H) (h : KA words oops mark ks H M) :
    Calls Tryd.prog 31 #[.pointer (some ⟨a, 0, none⟩)] w fun e w' => e = .returned (.tuple #[.int .i64 ((words : Int) - endK ks), .int .i64 ((oops : Int) - (ks.length : Int))]) ∧ Fr [] w w' := by
  refine (Room_any a l H w hr h.inv.safe.small).mono ?_
  rintro e w' ⟨rfl, n, rfl⟩
  exact ⟨by rw [h.words, h.oops, h.mem, h.count], Fr.drewN [] _ _⟩
/-- two states told one after the other are the same -/
theorem told_same {words oops mark : Nat} {ks : List Key} {b1 b2 : Nat} {v1 v2 : Value} {l1 l2 : List OS} {w : World} (h1 : Tld w b1 v1 l1 ks) (h2 : Tld w b2 v2 l2 ks) :
    Calls Tryd.prog 19 #[.agg #[.int .i64 (words : Int), .int .i64 (oops : Int), .int .i64 (mark : Int), v1], .agg #[.int .i64 (words : Int), .int .i64 (oops : Int), .int .i64 (mark : Int), v2]] w fun e w' => e = .returned (.bool true) ∧ Fr [] w w' :=
  sameState_at words oops mark v1 v2 _ _ w h1.sat h2.sat (by rw [h1.keys, h2.keys])
/-- what was handed in is written, the document's heap stands -/
theorem RRep.beside {w w' : World} {B r N g : Nat} {R : RS} {cur : Array Value} (h : RRep w B r R) (hk : ∀ o ∈ R.objs, ∀ b, o.v.ownBlock = some b → b < N) (hg : w.heap[g]? = some (.cells cur 35 (0, 0))) (hN : N ≤ g) (hf : Fr [g] w w') : RRep w' B r R := by
  have key : ∀ b, b < w.heap.size → b ≠ g → w'.heap[b]? = w.heap[b]? := fun b hb hn => hf.block b hb (by simpa using hn)
  refine ⟨h.lo, (key r (lt_of_heap h.top) (fun e => ?_)).trans h.top, own_congr h.row fun b hb => key b (h.row.lt b hb).2 (fun e => ?_), fun o ho => own_congr (h.slots o ho) fun b hb => key b ((h.slots o ho).lt b hb).2 (fun e => ?_)⟩
  · rw [← e, h.top] at hg; simp at hg
  · rcases h.row.2 with ⟨q1, _⟩ | ⟨g1, cap1, cur1, q1, q2, q3, _⟩
    · rw [q1] at hb; simp [Value.ownBlock] at hb
    · rw [q1] at hb
      have a1 : g1 = b := by simpa [Value.ownBlock] using hb
      rw [a1, e, hg] at q3
      simp at q3
  · have := hk o ho b hb
    omega
end Go.Proofs.YtdkbnnhcjaibdaaDoor

namespace Go.Proofs.YtdkbnnhcjaibdaaDoor
open Go.RowKit Go.Maps
set_option linter.unusedVariables false
set_option linter.unusedSimpArgs false
/-- a copy of a list of ints: append to nil -/
theorem run_copyI (ss : List Int) (u : Value) (w : World) (h : Rd w u ss) : ∃ v' w', (Builtin.append_ #[36, 36] 36 #[.slice none 0 0, u]).run Tryd.prog w = .ok v' w' ∧ w'.ownsRow w.heap.size 3 1 v' ss.length (ss.map (Value.int .i64)) ∧ Fr [] w w' := by
  obtain ⟨p, c, rfl, h1⟩ := h.at_
  obtain ⟨i33, ii, iz, is, ib⟩ := info_parts info3
  have hown : w.ownsRow w.heap.size 3 1 (.slice none 0 0) 0 [] := World.ownsRow_nil _ _ _ _
  cases p with
  | none =>
    have h0 : ss.length = 0 := by
      rcases Nat.eq_zero_or_pos ss.length with h0 | h0
      · exact h0
      · obtain ⟨g, off, e2, _⟩ := h1 h0; cases e2
    have hs : ss = [] := List.length_eq_zero_iff.1 h0
    have hc := h.nil c rfl
    subst hs
    subst hc
    exact ⟨_, _, run_append_owned_none (P := Tryd.prog) (w := w) w.heap.size 36 36 3 i33 1 Tryd.underlying36 ii _ _ _ hown, hown, Fr.refl _ _⟩
  | some ad =>
    have hnews : ∀ j x, (ss.map (Value.int .i64))[j]? = some x → w.cell? (ad.add j) = some x := fun j x hx => by
      rw [List.getElem?_map] at hx
      cases hz : ss[j]? with
      | none => rw [hz] at hx; simp at hx
      | some z =>
        rw [hz] at hx
        simp at hx
        obtain ⟨hj, hjz⟩ := List.getElem?_eq_some_iff.1 hz
        obtain ⟨g, off, e2, h2, h3⟩ := h1 (by omega)
        rw [Option.some.inj e2, Addr.add_mid, h3 j hj, List.getD_eq_getElem?_getD, hz, ← hx]
        rfl
    have hsh := h.short
    obtain ⟨v', w', hr, h2, h3, _, h5⟩ := run_append_own_at (P := Tryd.prog) w w.heap.size 36 36 3 i33 (.int .i64 0) 1 8 Tryd.underlying36 ii iz is ib rfl (by decide) _ _ _ hown ad ss.length c (ss.map (Value.int .i64)) (by simp) hnews (fun x hx => by obtain ⟨z, _, rfl⟩ := List.mem_map.1 hx; rfl) (by unfold maxLen; omega) (by omega) (Nat.le_refl _)
    refine ⟨v', w', hr, ?_, Fr.grown h3 (fun k hk => by cases hk)⟩
    rw [Nat.zero_add] at h2
    exact h2
/-- the two lists copied, one after the other -/
theorem two_copies (sa sb : List Int) (va vb : Value) (w : World) (ha : Rd w va sa) (hb : Rd w vb sb) : ∃ pa ca pb cb V3 V4, (Builtin.append_ #[36, 36] 36 #[.slice none 0 0, va]).run Tryd.prog w = .ok (.slice pa sa.length ca) V3 ∧ (Builtin.append_ #[36, 36] 36 #[.slice none 0 0, vb]).run Tryd.prog V3 = .ok (.slice pb sb.length cb) V4 ∧
    Rd V4 (.slice pa sa.length ca) sa ∧ Rd V4 (.slice pb sb.length cb) sb ∧ (∀ g, (Value.slice pa sa.length ca).ownBlock = some g → w.heap.size ≤ g) ∧ Fr [] w V4 := by
  obtain ⟨v3, V3, hr3, ho3, hf3⟩ := run_copyI sa va w ha
  obtain ⟨v4, V4, hr4, ho4, hf4⟩ := run_copyI sb vb V3 (hb.idle hf3)
  have r3 := own_rd ho3 ha.short
  have r4 := own_rd ho4 hb.short
  obtain ⟨pa, ca, rfl, -⟩ := r3.at_
  obtain ⟨pb, cb, rfl, -⟩ := r4.at_
  exact ⟨pa, ca, pb, cb, V3, V4, hr3, hr4, r3.idle hf4, r4, fun g hg => (ho3.lt g hg).1, hf3.trans hf4 (by simp)⟩
section
variable {words oops mark : Nat} {ks : List Key} {H : HS} {M : MS}
theorem find_key (h : KA words oops mark ks H M) {lt : List OI} (hk : lt.map oiKey = ks) {k : Key} (hm : k ∈ ks) : ∃ o, o ∈ lt ∧ lt.find? (fun o => decide (o.oop = k.1)) = some o ∧ oiKey o = k := by
  rw [← hk] at hm
  obtain ⟨o0, h0, rfl⟩ := List.mem_map.1 hm
  cases hf : lt.find? (fun o => decide (o.oop = (oiKey o0).1)) with
  | none =>
    have := List.find?_eq_none.1 hf o0 h0
    exact absurd (decide_eq_true (p := o0.oop = (oiKey o0).1) rfl) (by simpa using this)
  | some o =>
    have hm2 := List.mem_of_find?_eq_some hf
    have e := List.find?_some hf
    refine ⟨o, hm2, rfl, ?_⟩
    exact h.uniq (k := oiKey o0) (x := oiKey o) (by rw [← hk]; exact List.mem_map.2 ⟨o0, h0, rfl⟩) (by rw [← hk]; exact List.mem_map.2 ⟨o, hm2, rfl⟩) (of_decide_eq_true e)
theorem nums_zip {sa sb : List Int} {q : Int} (h : q ∈ nums (sa.zip sb)) : q ∈ sa ∨ q ∈ sb := by
  obtain ⟨p, p1, p2⟩ := nums_mem h
  have := List.of_mem_zip p1
  rcases p2 with e | e
  · exact .inl (by rw [e]; exact this.1)
  · exact .inr (by rw [e]; exact this.2)
/-- lists that may be exchanged may be exchanged once more -/
theorem fit_again {H2 : HS} {M2 : MS} (h : KA words oops mark ks H M) {sa sb : List Int} (hf : fitN (has H) sa sb = 0) (h2 : KA words oops mark (swapK (sa.zip sb) ks) H2 M2) : fitN (has H2) sa sb = 0 := by
  obtain ⟨f1, f2, f3, f4⟩ := fit0 hf
  have key : ∀ q, has H q = true → has H2 q = true := fun q hq => by
    have hp : has H (partnerZ (sa.zip sb) q) = true := by
      by_cases hm : q ∈ nums (sa.zip sb)
      · rcases nums_zip (partner_mem _ q hm) with h1 | h1
        · exact f2 _ h1
        · exact f3 _ h1
      · rw [partner_out _ _ hm]; exact hq
    obtain ⟨k, k1, k2⟩ := has_key h hp
    have := h2.hasK (partnerZ (sa.zip sb) k.1, k.2) (List.mem_map.2 ⟨k, k1, rfl⟩)
    rw [k2, partner_twice _ f4] at this
    exact this
  unfold fitN
  rw [if_neg (by simpa using f1), if_neg, if_pos f4]
  rw [Bool.not_eq_false, Bool.and_eq_true, List.all_eq_true, List.all_eq_true]
  exact ⟨fun q hq => key q (f2 q hq), fun q hq => key q (f3 q hq)⟩
theorem swapK_end (ps : List (Int × Int)) : endK (swapK ps ks) = endK ks := endK_snd (fun k => (partnerZ ps k.1, k.2)) (fun _ => rfl) ks
end
theorem swapK_len (ps : List (Int × Int)) (ks : List Key) : (swapK ps ks).length = ks.length := by unfold swapK; simp
end Go.Proofs.YtdkbnnhcjaibdaaDoor
namespace Go.Proofs.YtdkbnnhcjaibdaaDoor
open Go.RowKit Go.Maps
set_option linter.unusedVariables false
set_option linter.unusedSimpArgs false
attribute [local go_sem ↓] Go.wp_at_zero Go.wp_at_succ
theorem perm_sum {l m : List Nat} (h : l.Perm m) : l.sum = m.sum := by
  induction h with
  | nil => rfl
  | cons x _ ih => simp only [List.sum_cons, ih]
  | swap x y l => simp only [List.sum_cons]; omega
  | trans _ _ i1 i2 => exact i1.trans i2
/-- as many are told as are changed -/
theorem cnt_sum {words oops mark : Nat} {ks : List Key} {H : HS} {M : MS} (h : KA words oops mark ks H M) (f : List (Int × Int)) : ((allTo H H.seats.length).map (cntQ f ks)).sum = (ks.map (cntKey f)).sum := by
  have hm : ∀ o, o ∈ allTo H H.seats.length ↔ o ∈ ks.map fun k => k.1.toNat := fun o => by
    rw [mem_all h.inv]
    constructor
    · rintro ⟨h1, h2⟩
      obtain ⟨k, k1, k2⟩ := h.only _ h2
      exact List.mem_map.2 ⟨k, k1, by omega⟩
    · intro ho
      obtain ⟨k, k1, rfl⟩ := List.mem_map.1 ho
      obtain ⟨b0, b1, -⟩ := h.at_ k k1
      exact ⟨by omega, b1⟩
  have hp := (List.perm_ext_iff_of_nodup (allTo_nodup H H.seats.length) h.nodup).2 hm
  rw [perm_sum (hp.map (cntQ f ks)), List.map_map]
  congr 1
  refine List.map_congr_left fun k hk => ?_
  obtain ⟨b0, -⟩ := h.at_ k hk
  show cntQ f ks k.1.toNat = _
  unfold cntQ
  cases hf : ks.find? (fun x => decide (x.1 = (k.1.toNat : Int))) with
  | none =>
    have := List.find?_eq_none.1 hf k hk
    simp at this
    omega
  | some x =>
    have e := List.find?_some hf
    rw [h.uniq hk (List.mem_of_find?_eq_some hf) (by simp at e; omega)]
    rfl
theorem rd_lit4 {w : World} {g : Nat} {ss : List Int} {t : TypeId} (h : w.heap[g]? = some (.cells (ss.map (Value.int .i64)).toArray t (0, 0))) (hs : ss.length ≤ 17592186043904) : Rd w (.slice (some ⟨g, 0, none⟩) ss.length ss.length) ss := by
  refine ⟨⟨some ⟨g, 0, none⟩, ss.length, rfl, fun hp => ⟨g, 0, rfl, lt_of_heap h, fun i hi => ?_⟩⟩, fun c hc => (by cases hc), hs⟩
  rw [Nat.zero_add, cell_in h]
  rw [List.getElem?_toArray, List.getElem?_map, List.getD_eq_getElem?_getD, List.getElem?_eq_getElem hi]
  rfl
/-- the fixed state of the laws -/
def bK : List Key := [(1, 4, 0, [8, 12]), (2, 8, 0, [4]), (3, 4, 0, [])]
def bL (b : Nat) : List OI := [⟨1, 4, 0, [8, 12], .slice (some ⟨b, 0, none⟩) 2 2⟩, ⟨2, 8, 0, [4], .slice (some ⟨b + 1, 0, none⟩) 1 1⟩, ⟨3, 4, 0, [], .slice none 0 0⟩]
theorem bK_takes : ∀ (k : Nat) (o : Key), bK[k]? = some o → takesK 20 4 (bK.take k) o = true := by
  intro k o h
  have hk : k < 3 := (List.getElem?_eq_some_iff.1 h).1
  have : k = 0 ∨ k = 1 ∨ k = 2 := by omega
  rcases this with rfl | rfl | rfl
  · obtain rfl := Option.some.inj h; decide
  · obtain rfl := Option.some.inj h; decide
  · obtain rfl := Option.some.inj h; decide
theorem bL_at (w : World) : SAt (((w.alloc (Obj.cells #[Value.int IntKind.i64 8, Value.int IntKind.i64 12] 35)).alloc (Obj.cells #[Value.int IntKind.i64 4] 35)).alloc (Obj.cells #[Value.int IntKind.i64 1, Value.int IntKind.i64 4, Value.int IntKind.i64 0, Value.slice (some { block := w.heap.size, off := 0 }) 2 2, Value.int IntKind.i64 2, Value.int IntKind.i64 8, Value.int IntKind.i64 0, Value.slice (some { block := w.heap.size + 1, off := 0 }) 1 1, Value.int IntKind.i64 3, Value.int IntKind.i64 4, Value.int IntKind.i64 0, Value.slice none 0 0] 76))
    (.slice (some ⟨w.heap.size + 1 + 1, 0, none⟩) 3 3) (bL w.heap.size) := by
  obtain ⟨A, hA⟩ : ∃ A, A = w.alloc (Obj.cells #[Value.int IntKind.i64 8, Value.int IntKind.i64 12] 35) := ⟨_, rfl⟩
  obtain ⟨B, hB⟩ : ∃ B, B = A.alloc (Obj.cells #[Value.int IntKind.i64 4] 35) := ⟨_, rfl⟩
  obtain ⟨D, hD⟩ : ∃ D, D = B.alloc (Obj.cells #[Value.int IntKind.i64 1, Value.int IntKind.i64 4, Value.int IntKind.i64 0, Value.slice (some { block := w.heap.size, off := 0 }) 2 2, Value.int IntKind.i64 2, Value.int IntKind.i64 8, Value.int IntKind.i64 0, Value.slice (some { block := w.heap.size + 1, off := 0 }) 1 1, Value.int IntKind.i64 3, Value.int IntKind.i64 4, Value.int IntKind.i64 0, Value.slice none 0 0] 76) := ⟨_, rfl⟩
  rw [← hA, ← hB, ← hD]
  have sA : A.heap.size = w.heap.size + 1 := by rw [hA]; simp
  have sB : B.heap.size = w.heap.size + 1 + 1 := by rw [hB]; simp [sA]
  have b0 : A.heap[w.heap.size]? = some (.cells #[Value.int IntKind.i64 8, Value.int IntKind.i64 12] 35 (0, 0)) := by rw [hA]; exact heap_alloc_new _ _
  have b1 : B.heap[w.heap.size + 1]? = some (.cells #[Value.int IntKind.i64 4] 35 (0, 0)) := by rw [hB, ← sA]; exact heap_alloc_new _ _
  have b3 := heap_alloc_new B (Obj.cells #[Value.int IntKind.i64 1, Value.int IntKind.i64 4, Value.int IntKind.i64 0, Value.slice (some { block := w.heap.size, off := 0 }) 2 2, Value.int IntKind.i64 2, Value.int IntKind.i64 8, Value.int IntKind.i64 0, Value.slice (some { block := w.heap.size + 1, off := 0 }) 1 1, Value.int IntKind.i64 3, Value.int IntKind.i64 4, Value.int IntKind.i64 0, Value.slice none 0 0] 76)
  rw [← hD, sB] at b3
  have fB : Fr [] A B := by rw [hB]; exact Fr.alloc [] _ _
  have fD : Fr [] B D := by rw [hD]; exact Fr.alloc [] _ _
  have r0 : Rd D (.slice (some ⟨w.heap.size, 0, none⟩) 2 2) [8, 12] := ((rd_lit4 (ss := [8, 12]) b0 (by simp)).idle fB).idle fD
  have r1 : Rd D (.slice (some ⟨w.heap.size + 1, 0, none⟩) 1 1) [4] := (rd_lit4 (ss := [4]) b1 (by simp)).idle fD
  have r2 : Rd D (.slice none 0 0) [] := ⟨⟨none, 0, rfl, fun hp => absurd hp (by simp)⟩, fun c hc => (by injection hc with _ _ e; exact e.symm), by simp⟩
  refine ⟨⟨some ⟨w.heap.size + 1 + 1, 0, none⟩, 3, rfl, fun _ => ⟨w.heap.size + 1 + 1, 0, rfl, fun k hk => ?_⟩⟩, fun o ho => ?_, by simp [bL]⟩
  · have hk' : k = 0 ∨ k = 1 ∨ k = 2 := by have : k < 3 := hk; omega
    rcases hk' with rfl | rfl | rfl
    · exact ⟨_, rfl, by rw [cell_in b3]; rfl, by rw [cell_in b3]; rfl, by rw [cell_in b3]; rfl, by rw [cell_in b3]; rfl⟩
    · exact ⟨_, rfl, by rw [cell_in b3]; rfl, by rw [cell_in b3]; rfl, by rw [cell_in b3]; rfl, by rw [cell_in b3]; rfl⟩
    · exact ⟨_, rfl, by rw [cell_in b3]; rfl, by rw [cell_in b3]; rfl, by rw [cell_in b3]; rfl, by rw [cell_in b3]; rfl⟩
  · have ho' : o = ⟨1, 4, 0, [8, 12], .slice (some ⟨w.heap.size, 0, none⟩) 2 2⟩ ∨ o = ⟨2, 8, 0, [4], .slice (some ⟨w.heap.size + 1, 0, none⟩) 1 1⟩ ∨ o = ⟨3, 4, 0, [], .slice none 0 0⟩ := by simpa [bL] using ho
    rcases ho' with rfl | rfl | rfl
    · exact r0
    · exact r1
    · exact r2
theorem bL_load (b : Nat) (ov : Value) (w : World) (ha : SAt w ov (bL b)) (hT : Tab w) (hT0 : 0 < w.heap.size) : Calls Tryd.prog 17 #[.agg #[.int .i64 20, .int .i64 4, .int .i64 0, ov]] w fun e w' =>
    ∃ l H M, e = .returned (.tuple #[.pointer (some ⟨w.heap.size + 1, 0, none⟩), .int .i64 0]) ∧ Rep w' (w.heap.size + 1) l H ∧ KOf 20 4 0 bK H M ∧ Fr [] w w' ∧ ∀ g ∈ foot (w.heap.size + 1) l, w.heap.size ≤ g := by
  refine (Load_any 20 4 0 ov (bL b) w ha hT hT0 (by decide) (by decide) (by decide)).mono ?_
  rintro e w' (⟨l, H, M, rfl, hl⟩ | ⟨k, o, H, M, rfl, hf, hk, hl, ht⟩)
  · have h1 := hl.lds
    rw [List.take_length] at h1
    exact ⟨l, H, M, rfl, hl.rep, h1.kOf (by decide) (by decide) (by decide), hl.fr, hl.new⟩
  · exfalso
    have h1 := hl.kOf (by decide) (by decide) (by decide)
    have h2 := h1.takes (oiKey o)
    have h3 : takesB H (oiKey o).1 (oiKey o).2.1 (oiKey o).2.2.1 (oiKey o).2.2.2 = false := ht
    rw [h3] at h2
    have h4 := bK_takes k (oiKey o) (by have : bK = (bL b).map oiKey := rfl; rw [this, List.getElem?_map, hk]; rfl)
    have h5 : bK.take k = ((bL b).take k).map oiKey := by rw [List.map_take]; rfl
    rw [h5, ← h2] at h4
    cases h4
theorem bK_swap : swapK ([1].zip [2]) bK = [(2, 4, 0, [8, 12]), (1, 8, 0, [4]), (3, 4, 0, [])] := by decide
theorem bK_turn : ([(2, 4, 0, [8, 12]), (1, 8, 0, [4]), (3, 4, 0, [])] : List Key).map (turnKey (pf ([2].zip [3]))) = [(2, 4, 0, [12, 12]), (1, 12, 0, [4]), (3, 4, 0, [])] := by decide
theorem bK_cnt : (([(2, 4, 0, [8, 12]), (1, 8, 0, [4]), (3, 4, 0, [])] : List Key).map (cntKey (pf ([2].zip [3])))).sum = 2 := by decide
theorem fit_one {words oops mark : Nat} {ks : List Key} {H : HS} {M : MS} (h : KA words oops mark ks H M) {p q : Int} (hp : (ks.any fun x => x.1 == p) = true) (hq : (ks.any fun x => x.1 == q) = true) (hn : p ≠ q) : fitN (has H) [p] [q] = 0 := by
  have h1 : has H p = true := by rw [h.has]; exact hp
  have h2 : has H q = true := by rw [h.has]; exact hq
  unfold fitN
  simp [h1, h2, nums, hn]
set_option maxRecDepth 20000 in
set_option maxHeartbeats 2000000 in
theorem alive4_ok (w : World) (hT : Tab w) (hT0 : 0 < w.heap.size) : Calls Tryd.prog 30 #[] w fun e w' => e = .returned (.bool true) ∧ Fr [] w w' := by
  obtain ⟨W0, hW0⟩ : ∃ W0, W0 = (((w.alloc (Obj.cells #[Value.int IntKind.i64 8, Value.int IntKind.i64 12] 35)).alloc (Obj.cells #[Value.int IntKind.i64 4] 35)).alloc (Obj.cells #[Value.int IntKind.i64 1, Value.int IntKind.i64 4, Value.int IntKind.i64 0, Value.slice (some { block := w.heap.size, off := 0 }) 2 2, Value.int IntKind.i64 2, Value.int IntKind.i64 8, Value.int IntKind.i64 0, Value.slice (some { block := w.heap.size + 1, off := 0 }) 1 1, Value.int IntKind.i64 3, Value.int IntKind.i64 4, Value.int IntKind.i64 0, Value.slice none 0 0] 76)).alloc (Obj.cells #[Value.int IntKind.i64 20, Value.int IntKind.i64 4, Value.int IntKind.i64 0, Value.slice (some { block := w.heap.size + 1 + 1, off := 0 }) 3 3] 45) := ⟨_, rfl⟩
  have F0 : Hid (Fr [] w W0) := by rw [hW0]; exact (((Fr.alloc [] _ _).trans (Fr.alloc [] _ _) (by simp)).trans (Fr.alloc [] _ _) (by simp)).trans (Fr.alloc [] _ _) (by simp)
  have hSA : SAt W0 (.slice (some ⟨w.heap.size + 1 + 1, 0, none⟩) 3 3) (bL w.heap.size) := by rw [hW0]; exact (bL_at w).idle (Fr.alloc [] _ _)
  have HLd := mkHid (bL_load w.heap.size _ W0 hSA (hT.fr F0.out hT0) (Nat.lt_of_lt_of_le hT0 F0.out.size))
  have HTb : Hid (∀ V, Fr [] W0 V → Tab V ∧ 0 < V.heap.size) := fun V hV => ⟨hT.fr (F0.out.trans hV (by simp)) hT0, Nat.lt_of_lt_of_le hT0 (F0.out.trans hV (by simp)).size⟩
  have HW0 : Hid (0 < W0.heap.size) := Nat.lt_of_lt_of_le hT0 F0.out.size
  clear hSA hT hT0
  go_enter Tryd.func30, Tryd.ntmps30
  go_wp2_with fail
  rw [← hW0]
  refine Calls.mono HLd.out ?_
  clear HLd hW0
  rintro e w1 ⟨l, H, M, rfl, hrep, hk, hf1, hnew⟩
  generalize ha : W0.heap.size + 1 = a at *
  have HK := mkHid hk.ka
  have HAge : Hid (H.age = 0) := hk.age
  have HRe := mkHid hrep
  have HF1 := mkHid hf1
  have HNw := mkHid hnew
  clear hk hrep hf1 hnew ha
  go_wp2_with fail
  refine Calls.mono (num4_any 0 w1) ?_
  rintro e w' ⟨rfl, hw'⟩
  rw [hw']
  clear hw' w'
  go_wp2_with fail
  have hRa : Rd ((w1.alloc (.cells #[.int .i64 1] 3)).alloc (.cells #[.int .i64 2] 3)) (.slice (some ⟨w1.heap.size, 0, none⟩) 1 1) [1] := (rd_lit4 (ss := [1]) (heap_alloc_new w1 _) (by simp)).idle (Fr.alloc [] _ _)
  have hRb : Rd ((w1.alloc (.cells #[.int .i64 1] 3)).alloc (.cells #[.int .i64 2] 3)) (.slice (some ⟨w1.heap.size + 1, 0, none⟩) 1 1) [2] := by
    have := rd_lit4 (ss := [2]) (heap_alloc_new (w1.alloc (.cells #[.int .i64 1] 3)) (.cells #[.int .i64 2] 3)) (by simp)
    simpa using this
  have hfb : 0 < ([1] : List Int).length → ∀ g, (Value.slice (some ⟨w1.heap.size, 0, none⟩) 1 1).ownBlock = some g → g ∉ foot a l := fun _ g hg hm => by
    have e : w1.heap.size = g := by simpa [Value.ownBlock] using hg
    have := HRe.out.lt g hm
    omega
  have hfit := fit_one HK.out (p := 1) (q := 2) (by decide) (by decide) (by decide)
  refine Calls.mono (Swap_ok [1] [2] _ _ _ ((HRe.out.alloc _).alloc _) HK.out hRa hRb hfb (by rw [HAge.out]; omega)) ?_
  rintro e w2 (⟨hn, -⟩ | ⟨-, rfl, H2, M2, hrep2, hk2, hage2, hnx2⟩)
  · exact absurd hfit hn
  rw [bK_swap] at hk2
  have HF2 : Hid (Fr [] W0 w2) := (HF1.out.trans ((Fr.alloc [] _ _).trans (Fr.alloc [] _ _) (by simp)) (by simp)).trans hnx2.1 (fun b hb => .inr (HNw.out b hb))
  have HR2 := mkHid hrep2
  have HK2 := mkHid hk2
  clear hRa hRb hfb hfit hrep2 hk2 hage2 hnx2 HRe HK HAge HF1
  go_wp2_with fail
  have hRa : Rd ((w2.alloc (.cells #[.int .i64 2] 3)).alloc (.cells #[.int .i64 3] 3)) (.slice (some ⟨w2.heap.size, 0, none⟩) 1 1) [2] := (rd_lit4 (ss := [2]) (heap_alloc_new w2 _) (by simp)).idle (Fr.alloc [] _ _)
  have hRb : Rd ((w2.alloc (.cells #[.int .i64 2] 3)).alloc (.cells #[.int .i64 3] 3)) (.slice (some ⟨w2.heap.size + 1, 0, none⟩) 1 1) [3] := by
    have := rd_lit4 (ss := [3]) (heap_alloc_new (w2.alloc (.cells #[.int .i64 2] 3)) (.cells #[.int .i64 3] 3)) (by simp)
    simpa using this
  have hfit := fit_one HK2.out (p := 2) (q := 3) (by decide) (by decide) (by decide)
  have hF3 : Fr [] W0 ((w2.alloc (.cells #[.int .i64 2] 3)).alloc (.cells #[.int .i64 3] 3)) := HF2.out.trans ((Fr.alloc [] _ _).trans (Fr.alloc [] _ _) (by simp)) (by simp)
  refine Calls.mono (Forward_ok [2] [3] _ _ _ ((HR2.out.alloc _).alloc _) HK2.out (by decide) hRa hRb (HTb.out _ hF3).1 (fun h0 => by have := HNw.out 0 h0; have := HW0.out; omega) (HTb.out _ hF3).2) ?_
  rintro e w3 (⟨hn, -⟩ | ⟨-, rfl, H3, M3, hrep3, hk3, hage3, hnx3⟩)
  · exact absurd hfit hn
  rw [cnt_sum HK2.out, bK_cnt]
  rw [bK_turn] at hk3
  have HF3 : Hid (Fr [] W0 w3) := hF3.trans hnx3.1 (fun b hb => .inr (HNw.out b hb))
  have HR3 := mkHid hrep3
  have HK3 := mkHid hk3
  clear hRa hRb hfit hF3 hrep3 hk3 hage3 hnx3 HR2 HK2 HF2
  go_wp2_with fail
  refine Calls.mono (at_w HR3.out HK3.out (k := (1, 12, 0, [4])) (by simp) rfl 0 (by simp)) ?_
  rintro e w4 ⟨rfl, hf4⟩
  have HF4 := mkHid hf4
  clear hf4
  go_wp2_with fail
  refine Calls.mono (at_w (HR3.out.keep HF4.out (by simp)) HK3.out (k := (2, 4, 0, [12, 12])) (by simp) rfl 0 (by simp)) ?_
  rintro e w5 ⟨rfl, hf5⟩
  have HF5 : Hid (Fr [] w w5) := ((F0.out.trans HF3.out (by simp)).trans HF4.out (by simp)).trans hf5 (by simp)
  clear hf5
  have e1 : (Value.int .i64 (([4] : List Int).getD 0 0)) = .int .i64 4 := rfl
  have e2 : (Value.int .i64 (([12, 12] : List Int).getD 0 0)) = .int .i64 12 := rfl
  simp only [e1, e2]
  go_wp2_with fail
  refine Calls.mono (num4_any 0 w5) ?_
  rintro e w' ⟨rfl, hw'⟩
  rw [hw']
  clear hw' w'
  go_wp2_with fail
  refine Calls.mono (num4_any 0 w5) ?_
  rintro e w' ⟨rfl, hw'⟩
  rw [hw']
  clear hw' w'
  go_wp2_with fail
  refine Calls.mono (num4_any 0 w5) ?_
  rintro e w' ⟨rfl, hw'⟩
  rw [hw']
  clear hw' w'
  go_wp2_with fail
  refine Calls.mono (num4_any 0 w5) ?_
  rintro e w' ⟨rfl, hw'⟩
  rw [hw']
  clear hw' w'
  go_wp2_with fail
  go_ret
  exact ⟨rfl, HF5.out⟩
end Go.Proofs.YtdkbnnhcjaibdaaDoor
namespace Go.Proofs.YtdkbnnhcjaibdaaDoor
open Go.RowKit Go.Maps
set_option linter.unusedVariables false
set_option linter.unusedSimpArgs false
attribute [local go_sem ↓] Go.wp_at_zero Go.wp_at_succ
/-- a word as it must be behind a Forward -/
def trnZ : List (Int × Int) → Int → Int
  | [], z => z
  | p :: t, z => if z = 4 * p.1 then 4 * p.2 else trnZ t z
theorem apart : ∀ {ps : List (Int × Int)}, (nums ps).Nodup → ∀ p ∈ ps, ∀ r ∈ ps, p.2 ≠ r.1
  | [], _, p, h, _, _ => by simp at h
  | x :: t, hd, p, hp, r, hr => by
    have hd' : (x.1 :: x.2 :: nums t).Nodup := hd
    obtain ⟨h1, h2⟩ := List.nodup_cons.1 hd'
    obtain ⟨h3, h4⟩ := List.nodup_cons.1 h2
    rw [List.mem_cons, not_or] at h1
    rcases List.mem_cons.1 hp with e1 | hp1
    · rcases List.mem_cons.1 hr with e2 | hr1
      · exact fun e => h1.1 (by rw [e1, e2] at e; exact e.symm)
      · exact fun e => h3 (by rw [← e1, e]; exact (mem_nums hr1).1)
    · rcases List.mem_cons.1 hr with e2 | hr1
      · exact fun e => h1.2 (by rw [← e2, ← e]; exact (mem_nums hp1).2)
      · exact apart h4 p hp1 r hr1
theorem trn_in : ∀ {ps : List (Int × Int)}, (nums ps).Nodup → ∀ p ∈ ps, trnZ ps (4 * p.1) = 4 * p.2
  | [], _, p, h => by simp at h
  | x :: t, hd, p, hp => by
    have hd' : (x.1 :: x.2 :: nums t).Nodup := hd
    obtain ⟨h1, h2⟩ := List.nodup_cons.1 hd'
    obtain ⟨h3, h4⟩ := List.nodup_cons.1 h2
    rw [List.mem_cons, not_or] at h1
    unfold trnZ
    rcases List.mem_cons.1 hp with rfl | hp
    · rw [if_pos rfl]
    · rw [if_neg (fun e => h1.2 (by have : x.1 = p.1 := by omega
                                    rw [this]; exact (mem_nums hp).1)), trn_in h4 p hp]
theorem trn_out : ∀ {ps : List (Int × Int)} {z : Int}, (∀ p ∈ ps, z ≠ 4 * p.1) → trnZ ps z = z
  | [], z, _ => rfl
  | x :: t, z, h => by
    unfold trnZ
    rw [if_neg (h x (by simp)), trn_out fun p hp => h p (by simp [hp])]
theorem trn_not {ps : List (Int × Int)} (hd : (nums ps).Nodup) (z : Int) : ∀ p ∈ ps, trnZ ps z ≠ 4 * p.1 := fun p hp e => by
  by_cases h : ∃ r ∈ ps, z = 4 * r.1
  · obtain ⟨r, hr, rfl⟩ := h
    rw [trn_in hd r hr] at e
    exact apart hd r hr p hp (by omega)
  · rw [trn_out fun r hr e2 => h ⟨r, hr, e2⟩] at e
    exact h ⟨p, hp, e⟩
theorem trn_turn {ps : List (Int × Int)} (hd : (nums ps).Nodup) (hb : ∀ p ∈ ps, 1 ≤ p.1 ∧ p.1 ≤ 65536) (z : Int) : turnZ (pf ps) z = trnZ ps z ∧ turnC (pf ps) z = if trnZ ps z = z then 0 else 1 := by
  by_cases h : ∃ r ∈ ps, z = 4 * r.1
  · obtain ⟨r, hr, rfl⟩ := h
    have hb' := hb r hr
    have e1 : (4 * r.1) / 4 = r.1 := by omega
    have hk : kindOf (4 * r.1) = 3 := by unfold kindOf; rw [if_neg (by omega), if_neg (by omega), if_pos (by omega)]
    have hne := apart hd r hr r hr
    have hw : turnW (pf ps) (4 * r.1) = some (4 * r.2) := by
      unfold turnW
      rw [e1, (look_pf ps hd r hr).1, if_pos ⟨hk, by rw [inK_pf]; exact decide_eq_true (mem_nums hr).1, hne⟩]
    unfold turnZ turnC
    rw [hw, trn_in hd r hr]
    exact ⟨rfl, by rw [if_neg (show ¬ 4 * r.2 = 4 * r.1 by omega)]; rfl⟩
  · have hw : turnW (pf ps) z = none := by
      unfold turnW
      rw [if_neg]
      rintro ⟨h1, h2, h3⟩
      rw [inK_pf, decide_eq_true_eq] at h2
      have hz : z % 4 = 0 := by unfold kindOf at h1; split at h1 <;> split at h1 <;> first | omega | (split at h1 <;> omega)
      obtain ⟨r, hr, e | e⟩ := nums_mem h2
      · exact h ⟨r, hr, by omega⟩
      · rw [e] at h3
        exact h3 (look_pf ps hd r hr).2
    have e := trn_out (ps := ps) (z := z) fun r hr e2 => h ⟨r, hr, e2⟩
    unfold turnZ turnC
    rw [hw, e]
    exact ⟨rfl, by rw [if_pos rfl]; rfl⟩
set_option maxRecDepth 20000 in
set_option maxHeartbeats 1000000 in
theorem turned_ok' (q : Int) (sa sb : List Int) (va vb : Value) (w : World) (hl : sa.length = sb.length) (ba : ∀ x ∈ sa, 0 ≤ x ∧ x ≤ 65536) (bb : ∀ x ∈ sb, 0 ≤ x ∧ x ≤ 65536) (ha : Rd w va sa) (hb : Rd w vb sb) :
    Calls Tryd.prog 48 #[.int .i64 q, va, vb] w fun e w' => e = .returned (.int .i64 (trnZ (sa.zip sb) q)) ∧ w' = w := by
  obtain ⟨pa, ca, rfl, hpa⟩ := ha.at_
  obtain ⟨pb, cb, rfl, hpb⟩ := hb.at_
  have s1 := ha.short
  have HPa := mkHid hpa
  have HPb := mkHid hpb
  have HBa := mkHid ba
  have HBb := mkHid bb
  have HL := mkHid hl
  rw [← hl]
  clear ha hb hpa hpb hl ba bb
  go_enter Tryd.func48, Tryd.ntmps48
  go_wp2_with fail
  go_loopw [7] (fun i wr => ∃ k : Nat, k ≤ sa.length ∧ i = .int .i64 k ∧ Hid (wr = w) ∧ Hid (trnZ (sa.zip sb) q = trnZ ((sa.zip sb).drop k) q)) (fun i _ => sa.length - (intOf i).toNat)
  case atStart => exact ⟨0, Nat.zero_le _, rfl, mkHid rfl, mkHid rfl⟩
  case round =>
    obtain ⟨k, hkn, rfl, hw0, hp⟩ := hrel
    rw [hw0.out]
    clear hw0
    have k1 : (0 : Int) ≤ (k : Int) := by omega
    by_cases hlt : k < sa.length
    · have k2 : (k : Int) < (sa.length : Int) := by omega
      have hltb : k < sb.length := by have := HL.out; omega
      obtain ⟨ga, oa, rfl, hga, hca⟩ := HPa.out (by omega)
      obtain ⟨gb, ob, rfl, hgb, hcb⟩ := HPb.out (by omega)
      have x1 := hca k hlt
      have x2 := hcb k hltb
      have hz : k < (sa.zip sb).length := by rw [List.length_zip]; omega
      have hd : (sa.zip sb).drop k = (sa.getD k 0, sb.getD k 0) :: (sa.zip sb).drop (k + 1) := by
        rw [List.drop_eq_getElem_cons hz, List.getElem_zip, List.getD_eq_getElem?_getD, List.getElem?_eq_getElem hlt, List.getD_eq_getElem?_getD, List.getElem?_eq_getElem hltb]
        rfl
      have hp2 := hp.out
      rw [hd] at hp2
      have hp3 : trnZ (sa.zip sb) q = if q = 4 * sa.getD k 0 then 4 * sb.getD k 0 else trnZ ((sa.zip sb).drop (k + 1)) q := hp2
      have HP3 := mkHid hp3
      have hbx := HBa.out (sa.getD k 0) (by rw [List.getD_eq_getElem?_getD, List.getElem?_eq_getElem hlt]; exact List.getElem_mem hlt)
      have hby := HBb.out (sb.getD k 0) (by rw [List.getD_eq_getElem?_getD, List.getElem?_eq_getElem hltb]; exact List.getElem_mem hltb)
      generalize sa.getD k 0 = x at *
      generalize sb.getD k 0 = y at *
      have wx : IntKind.i64.wrap (4 * x) = 4 * x := by rw [iwrap]; unfold wrap64; omega
      have wy : IntKind.i64.wrap (4 * y) = 4 * y := by rw [iwrap]; unfold wrap64; omega
      clear hca hcb hd hp2 hp3 hp
      by_cases hx : q = 4 * x
      · have hbq : (q == 4 * x) = true := by simpa using hx
        have HR2 : Hid (trnZ (sa.zip sb) q = 4 * y) := by show trnZ (sa.zip sb) q = _; rw [HP3.out, if_pos hx]
        clear hx HP3
        go_wp2_with fail
        go_ret
        exact ⟨by rw [HR2.out]; rfl, rfl⟩
      · have hbq : (q == 4 * x) = false := by simpa using hx
        have HR2 : Hid (trnZ (sa.zip sb) q = trnZ ((sa.zip sb).drop (k + 1)) q) := by show trnZ (sa.zip sb) q = _; rw [HP3.out, if_neg hx]
        clear hx HP3
        go_wp2_with fail
        go_roundw
        case rel => exact ⟨k + 1, by omega, by go_num, by first | exact mkHid rfl | exact mkHid trivial, HR2⟩
        case measure => simp [intOf]; omega
    · have hke : k = sa.length := by omega
      subst hke
      have HR2 : Hid (trnZ (sa.zip sb) q = q) := by
        show trnZ (sa.zip sb) q = q
        rw [hp.out, List.drop_eq_nil_of_le (by rw [List.length_zip]; omega)]
        rfl
      go_wp2_with fail
      go_ret
      exact ⟨by rw [HR2.out]; rfl, rfl⟩
section
variable {words oops mark : Nat} {ks : List Key} {H : HS} {M : MS}
/-- from roots that are turned none of the first list is found -/
theorem turn_unfound {ps : List (Int × Int)} (hd : (nums ps).Nodup) (hb : ∀ p ∈ ps, 1 ≤ p.1 ∧ p.1 ≤ 65536) (h : KA words oops mark (ks.map (turnKey (pf ps))) H M) (roots : List Int) {rs : List Nat} (hs : Sr H M (roots.map (trnZ ps)) (rs, [])) : ∀ q ∈ rs, ∀ p ∈ ps, (q : Int) ≠ p.1 := by
  have key : ∀ z, namesB H (trnZ ps z) = true → ((∀ p ∈ ps, (((trnZ ps z) / 4).toNat : Int) ≠ p.1) ∧ 1 ≤ ((trnZ ps z) / 4).toNat ∧ (M.things.getD (((trnZ ps z) / 4).toNat - 1) noTh).there = true) := fun z hn => by
    have hk : kindOf (trnZ ps z) = 3 := by unfold namesB at hn; simp only [Bool.and_eq_true, decide_eq_true_eq] at hn; exact hn.1
    have hz : (trnZ ps z) % 4 = 0 ∧ 4 ≤ trnZ ps z := by
      have := (kind3 _).1 hk
      omega
    obtain ⟨h1, h2⟩ := names_has hn
    obtain ⟨k, k1, k2⟩ := has_key h h1
    obtain ⟨b0, b1, -⟩ := h.at_ k k1
    refine ⟨fun p hp e => trn_not hd z p hp (by omega), by omega, ?_⟩
    have e : ((trnZ ps z) / 4).toNat = k.1.toNat := by omega
    rw [e]
    exact b1
  have hcl : Cl H M (roots.map (trnZ ps)) (fun q => (∀ p ∈ ps, (q : Int) ≠ p.1) ∧ 1 ≤ q ∧ (M.things.getD (q - 1) noTh).there = true) := by
    refine ⟨fun z hz hn => ?_, fun q hq z hz hn => ?_⟩
    · obtain ⟨r, -, rfl⟩ := List.mem_map.1 hz
      exact key r hn
    · obtain ⟨-, q1, q2⟩ := hq
      obtain ⟨k, k1, k2⟩ := h.only _ q2
      obtain ⟨b0, b1, b2, b3, b4⟩ := h.at_ k k1
      have e : k.1.toNat - 1 = q - 1 := by omega
      rw [e] at b2 b3 b4
      obtain ⟨k0, k3, rfl⟩ := List.mem_map.1 k1
      unfold lk leadsOf at hz
      rw [b2, b4] at hz
      have hzz : ∃ z0, z = trnZ ps z0 := by
        rcases List.mem_cons.1 hz with e1 | e1
        · exact ⟨k0.2.1, by rw [e1]; exact (trn_turn hd hb _).1⟩
        · by_cases hf : (M.things.getD (q - 1) noTh).fmt = 0
          · rw [if_pos hf] at e1
            have hf2 : k0.2.2.1 = 0 := by have : (turnKey (pf ps) k0).2.2.1 = k0.2.2.1 := rfl; omega
            have e2 : (turnKey (pf ps) k0).2.2.2 = turnTo (pf ps) k0.2.2.2 k0.2.2.2.length := by show (if k0.2.2.1 = 0 then _ else _) = _; rw [if_pos hf2]
            rw [e2] at e1
            unfold turnTo at e1
            rw [List.take_length, List.drop_length, List.append_nil] at e1
            obtain ⟨z0, -, rfl⟩ := List.mem_map.1 e1
            exact ⟨z0, (trn_turn hd hb _).1⟩
          · rw [if_neg hf] at e1; simp at e1
      obtain ⟨z0, rfl⟩ := hzz
      exact key z0 hn
  exact fun q hq => (hs.least _ hcl q hq).1
end
end Go.Proofs.YtdkbnnhcjaibdaaDoor
