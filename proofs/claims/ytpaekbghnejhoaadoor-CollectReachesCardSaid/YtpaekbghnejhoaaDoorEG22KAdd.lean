import Derived.Test.YtpaekbghnejhoaaDoorEG21RLoaded
import Derived.Test.YtpaekbghnejhoaaDoorEG06HRd
import Derived.Deep.Quiet
import Derived.Test.YtpaekbghnejhoaaDoorEG13CEn
import Derived.Test.YtpaekbghnejhoaaDoorEG02HKey
import Derived.Deep.DeepAppendWide
import Derived.Maps.AppendAt
import Derived.Test.YtpaekbghnejhoaaDoorEG14CBridge
import Derived.Test.YtpaekbghnejhoaaDoorEG08HInvF
namespace Go.Proofs.YtpaekbghnejhoaaDoor
open Go.RowKit
set_option linter.unusedVariables false
attribute [local go_sem ↓] Go.wp_at_zero Go.wp_at_succ
set_option maxHeartbeats 1000000 in
theorem rReach_nil (rv : Value) (w : World) : Calls Tryd.prog 28 #[.pointer none, rv] w fun e w' => e = .returned (.tuple #[.slice none 0 0, .int .i64 2]) ∧ w' = w := by
  go_enter Tryd.func28, Tryd.ntmps28
  go_wp2_with fail
  go_ret2
  exact ⟨rfl, rfl⟩
set_option maxHeartbeats 1000000 in
theorem rRun_nil (rv : Value) (w : World) : Calls Tryd.prog 33 #[.pointer none, rv] w fun e w' => e = .returned (.tuple #[.int .i64 0, .int .i64 0, .int .i64 2]) ∧ w' = w := by
  have HR := mkHid (rReach_nil rv w)
  go_enter Tryd.func33, Tryd.ntmps33
  go_wp2_with (go_at_call 28; refine Calls.mono HR.out ?_; rintro e w' ⟨rfl, hw'⟩; rw [hw']; clear hw' w')
  refine bodyPost_ret (results_tmp3 rfl _ _ _) rfl ?_
  exact ⟨rfl, rfl⟩
set_option maxHeartbeats 1000000 in
theorem Reach_nil (rv : Value) (w : World) : Calls Tryd.prog 19 #[.pointer none, rv] w fun e w' => e = .returned (.tuple #[.slice none 0 0, .int .i64 2]) ∧ Fr [] w w' := by
  go_enter Tryd.func19, Tryd.ntmps19
  go_wp2_with fail
  go_ret2
  exact ⟨rfl, Fr.alloc [] _ _⟩
set_option maxHeartbeats 1000000 in
theorem Run_nil (rv : Value) (w : World) : Calls Tryd.prog 10 #[.pointer none, rv] w fun e w' => e = .returned (.tuple #[.int .i64 0, .int .i64 0, .int .i64 2]) ∧ Fr [] w w' := by
  have HR := mkHid (Reach_nil rv w)
  go_enter Tryd.func10, Tryd.ntmps10
  go_wp2_with fail
  refine Calls.mono HR.out ?_
  rintro e w2 ⟨rfl, hf⟩
  have HF := mkHid hf
  clear hf
  go_wp2_with fail
  refine bodyPost_ret (results_tmp3 rfl _ _ _) rfl ?_
  exact ⟨rfl, HF.out⟩
/-- what the document's heap says of itself -/
theorem rState_of {words oops mark : Nat} {ks : List Key} {N : Nat} {H : HS} {M : MS} {R : RS} {B r : Nat} {w : World} (hr : RRep w B r R) (hk : RK words oops mark ks N R) (h : KA words oops mark ks H M) :
    Calls Tryd.prog 30 #[.pointer (some ⟨r, 0, none⟩)] w fun e w' => ∃ p c lo, e = .returned (.agg #[.int .i64 (words : Int), .int .i64 (oops : Int), .int .i64 (mark : Int), .slice p ks.length c]) ∧ Tld w' w.heap.size (.slice p ks.length c) lo ks ∧ Fr [] w w' := by
  refine (rState_ok B r R w hr (hk.ok h)).mono ?_
  rintro e w' ⟨ov, ls, rfl, hs, hkk, hf⟩
  have hk2 : (ls.map toOI).map oiKey = ks := by
    rw [toOI_key, hkk, ← hk.keys, List.map_map]; rfl
  have hll : ls.length = ks.length := by rw [← hk2]; simp
  have ht : Tld w' w.heap.size ov ls ks := ⟨hs, hk2, h.klen, h.slots⟩
  obtain ⟨p, c, e1, -⟩ := ht.sat.at_
  rw [List.length_map, hll] at e1
  subst e1
  exact ⟨p, c, ls, by rw [hk.words, hk.oops, hk.mark], ht, hf⟩
theorem rRoom_of {words oops mark : Nat} {ks : List Key} {N : Nat} {H : HS} {M : MS} {R : RS} {B r : Nat} {w : World} (hr : RRep w B r R) (hk : RK words oops mark ks N R) (h : KA words oops mark ks H M) :
    Calls Tryd.prog 34 #[.pointer (some ⟨r, 0, none⟩)] w fun e w' => e = .returned (.tuple #[.int .i64 ((words : Int) - endK ks), .int .i64 ((oops : Int) - (ks.length : Int))]) ∧ Fr [] w w' := by
  have hs := h.small
  refine (rRoom_ok B r R w hr (hk.ok h) (by rw [hk.words]; omega) (by rw [hk.oops]; omega) (by rw [hk.fin]; omega)).mono ?_
  rintro e w' ⟨rfl, hf⟩
  exact ⟨by rw [hk.words, hk.oops, hk.fin, hk.len], hf⟩
theorem room_of {words oops mark : Nat} {ks : List Key} {H : HS} {M : MS} {a : Nat} {l : Lay} {w : World} (hr : Rep w a l H) (h : KA words oops mark ks H M) :
    Calls Tryd.prog 18 #[.pointer (some ⟨a, 0, none⟩)] w fun e w' => e = .returned (.tuple #[.int .i64 ((words : Int) - endK ks), .int .i64 ((oops : Int) - (ks.length : Int))]) ∧ Fr [] w w' := by
  refine (Room_any a l H w hr h.inv.safe.small).mono ?_
  rintro e w' ⟨rfl, n, rfl⟩
  exact ⟨by rw [h.words, h.oops, h.mem, h.count], Fr.drewN [] _ _⟩
/-- two states told one after the other are the same -/
theorem told_same {words oops mark : Nat} {ks : List Key} {b1 b2 : Nat} {v1 v2 : Value} {l1 l2 : List OS} {w : World} (h1 : Tld w b1 v1 l1 ks) (h2 : Tld w b2 v2 l2 ks) :
    Calls Tryd.prog 25 #[.agg #[.int .i64 (words : Int), .int .i64 (oops : Int), .int .i64 (mark : Int), v1], .agg #[.int .i64 (words : Int), .int .i64 (oops : Int), .int .i64 (mark : Int), v2]] w fun e w' => e = .returned (.bool true) ∧ Fr [] w w' :=
  sameState_at words oops mark v1 v2 _ _ w h1.sat h2.sat (by rw [h1.keys, h2.keys])
/-- what was handed in is written, the document's heap stands -/
theorem RRep.beside {w w' : World} {B r N g : Nat} {R : RS} {cur : Array Value} (h : RRep w B r R) (hk : ∀ o ∈ R.objs, ∀ b, o.v.ownBlock = some b → b < N) (hg : w.heap[g]? = some (.cells cur 40 (0, 0))) (hN : N ≤ g) (hf : Fr [g] w w') : RRep w' B r R := by
  have key : ∀ b, b < w.heap.size → b ≠ g → w'.heap[b]? = w.heap[b]? := fun b hb hn => hf.block b hb (by simpa using hn)
  refine ⟨h.lo, (key r (lt_of_heap h.top) (fun e => ?_)).trans h.top, own_congr h.row fun b hb => key b (h.row.lt b hb).2 (fun e => ?_), fun o ho => own_congr (h.slots o ho) fun b hb => key b ((h.slots o ho).lt b hb).2 (fun e => ?_)⟩
  · rw [← e, h.top] at hg; simp at hg
  · rcases h.row.2 with ⟨q1, _⟩ | ⟨g1, cap1, cur1, q1, q2, q3, _⟩
    · rw [q1] at hb; simp [Value.ownBlock] at hb
    · rw [q1] at hb
      have a1 : g1 = b := by simpa [Value.ownBlock] using hb
      rw [a1, e, hg] at q3
      simp at q3
  · have := hk o ho b hb
    omega
end Go.Proofs.YtpaekbghnejhoaaDoor
namespace Go.Proofs.YtpaekbghnejhoaaDoor
open Go.RowKit
set_option linter.unusedVariables false
/-- the walk in the order of the text, shut -/
structure WQ (ops : Array Oper) (C : World → Prop) (Q : Act → Prop) (l : List Oper) (a : Act) : Prop where
  out : wpQuiet Tryd.prog ops C Q l a
section
variable {ops : Array Oper} {o : Oper} {rest : List Oper} {a : Act} {C : World → Prop} {Q : Act → Prop}
theorem wq_nil (h : Q a) : WQ ops C Q [] a := ⟨h⟩
/-- a step of a region that draws: an operation that is not wanted -/
theorem wq_skip (hw : Region.wanted o (yielded ops a.tmps) = false) (h : WQ ops C Q rest (a.put o.dst undef)) : WQ ops C Q (o :: rest) a :=
  ⟨by unfold wpQuiet; rw [hw]; exact h.out⟩
/-- one that yields a value and leaves the world -/
theorem wq_val {v : Value} (hw : Region.wanted o (yielded ops a.tmps) = true) (hv : ∀ V, C V → (execOp a.eval o).run Tryd.prog V = .ok (.value v) V) (h : WQ ops C Q rest (a.put o.dst v)) : WQ ops C Q (o :: rest) a :=
  ⟨by unfold wpQuiet; rw [if_pos hw]; exact ⟨v, fun V hV => by unfold Oper.quietAt; rw [hv V hV]; exact ⟨rfl, rfl⟩, h.out⟩⟩
/-- a call that hands back one value, and a world of the class -/
theorem wq_call (f : FuncId) (fn : Func) (hfn : Tryd.prog.funcs[f]? = some fn) (hnm : (fn.name == "runtime.NumGoroutine") = false) (hbd : fn.body.isSome = true) (xs : Array Operand) (ts : Array TypeId)
    (ho : o.op = .call { callee := .value (.func f), args := xs, argTypes := ts }) (hw : Region.wanted o (yielded ops a.tmps) = true) (vs : Array Value) (hvs : xs.map a.eval = vs) (v : Value)
    (hc : ∀ V, C V → Calls Tryd.prog f vs V fun e w' => e = .returned v ∧ C w') (h : WQ ops C Q rest (a.put o.dst v)) : WQ ops C Q (o :: rest) a := by
  refine ⟨?_⟩
  unfold wpQuiet
  rw [if_pos hw]
  refine ⟨v, fun V hV => ?_, h.out⟩
  unfold Oper.quietAt
  have e1 : (execOp a.eval o).run Tryd.prog V = .ok (.enter f vs) V := by
    have h1 : ¬ fn.name = "runtime.NumGoroutine" := by simpa using hnm
    have h2 : ¬ fn.body = none := by intro e; rw [e] at hbd; simp at hbd
    simp [execOp, ho, resolve, invoke, Act.eval, hvs, Deferred.ofValue, callFunc, hfn, h1, h2]
  rw [e1]
  exact ⟨rfl, hc V hV⟩
end
/-- a region that draws its order, walked once, where the calls may allocate -/
theorem region_quiet {W1 : World} {id : Nat} {l : List Oper} {Q : Exit → Act → World → Prop} {a : Act} {w : World} (hq : Hid (Fr [] W1 w)) (hm : Tryd.prog.follows .mixedOrders = true) (hB : Region.lexB .any l.toArray = true)
    (h : WQ l.toArray (fun V => Hid (Fr [] W1 V)) (fun a' => ∀ w', Hid (Fr [] W1 w') → Q .normal a' w') l a) : (Code.region id l.toArray true).wp Tryd.prog Q a w :=
  wp_region_quiet (C := fun V => Hid (Fr [] W1 V)) hm hB (show Hid (Fr [] W1 w.drew) from hid_drew hq) (by simpa using h.out)
theorem hid_alloc {S : List Nat} {w W : World} {o : Obj} (h : Hid (Fr S w W)) : Hid (Fr S w (W.alloc o)) := h.out.trans (Fr.alloc S W o) (fun b hb => .inl hb)
theorem hid_set4 {w W : World} {X : Nat} {a b c d : Value} (h : Hid (Fr [] w W)) (hX : w.heap.size ≤ X) : Hid (Fr [] w ((((W.setCell ⟨X, 0, none⟩ a).setCell ⟨X, 1, none⟩ b).setCell ⟨X, 2, none⟩ c).setCell ⟨X, 3, none⟩ d)) :=
  h.out.trans ((((Fr.setCell (S := [X]) W ⟨X, 0, none⟩ a (by simp)).trans (Fr.setCell (S := [X]) _ ⟨X, 1, none⟩ b (by simp)) (fun b hb => .inl hb)).trans (Fr.setCell (S := [X]) _ ⟨X, 2, none⟩ c (by simp)) (fun b hb => .inl hb)).trans (Fr.setCell (S := [X]) _ ⟨X, 3, none⟩ d (by simp)) (fun b hb => .inl hb)) (fun b hb => .inr (by simp at hb; omega))
theorem set4_at {W : World} {X : Nat} {a b c d a' b' c' d' : Value} {t : TypeId} (h : W.heap[X]? = some (.cells #[a', b', c', d'] t (0, 0))) : ((((W.setCell ⟨X, 0, none⟩ a).setCell ⟨X, 1, none⟩ b).setCell ⟨X, 2, none⟩ c).setCell ⟨X, 3, none⟩ d).heap[X]? = some (.cells #[a, b, c, d] t (0, 0)) := by
  rw [set_in (set_in (set_in (set_in h 0 _) 1 _) 2 _) 3 _]
  rfl
end Go.Proofs.YtpaekbghnejhoaaDoor
namespace Go.Proofs.YtpaekbghnejhoaaDoor
open Go.RowKit
set_option linter.unusedVariables false
attribute [local go_sem ↓] Go.wp_at_zero Go.wp_at_succ
set_option maxRecDepth 20000 in
set_option maxHeartbeats 600000 in
theorem sameInts_ok (ss : List Int) (va vb : Value) (w : World) (ha : Rd w va ss) (hb : Rd w vb ss) :
    Calls Tryd.prog 23 #[va, vb] w fun e w' => e = .returned (.bool true) ∧ ∃ n, w' = w.drewN n := by
  obtain ⟨pa, ca, rfl, hpa⟩ := ha.at_
  obtain ⟨pb, cb, rfl, hpb⟩ := hb.at_
  have hl := ha.short
  clear ha hb
  have HA := mkHid hpa
  have HB := mkHid hpb
  clear hpa hpb
  go_enter Tryd.func23, Tryd.ntmps23
  go_wp2_with fail
  go_loopw [5] (fun q wr => ∃ k : Nat, k ≤ ss.length ∧ q = .int .i64 k ∧ Hid (∃ n, wr = w.drewN n)) (fun q _ => ss.length - (intOf q).toNat)
  case atStart => exact ⟨0, Nat.zero_le _, rfl, 0, rfl⟩
  case round =>
    obtain ⟨k, hkn, rfl, hq⟩ := hrel
    by_cases hlt : k < ss.length
    · obtain ⟨ga, oa, rfl, -, hca⟩ := HA.out (by omega)
      obtain ⟨gb, ob, rfl, -, hcb⟩ := HB.out (by omega)
      obtain ⟨n, hn⟩ := hq.out
      have x1 : wr.cell? ⟨ga, oa + k, none⟩ = some (.int .i64 (ss.getD k 0)) := by rw [hn]; exact hca k hlt
      have x2 : wr.cell? ⟨gb, ob + k, none⟩ = some (.int .i64 (ss.getD k 0)) := by rw [hn]; exact hcb k hlt
      have k1 : (0 : Int) ≤ (k : Int) := by omega
      have k2 : (k : Int) < (ss.length : Int) := by omega
      have HD : Hid (∀ m, ∃ n, wr.drewN m = w.drewN n) := fun m => ⟨n + m, by rw [hn]; simp [World.drewN, Nat.add_assoc]⟩
      generalize ss.getD k 0 = z at *
      clear hca hcb hq hn HA HB
      go_wp2_with fail
      go_quiet (fail)
      go_wp2_with fail
      go_roundw
      case rel => exact ⟨k + 1, by omega, by go_num, HD.out _⟩
      case measure => simp [intOf]; omega
    · have hke : k = ss.length := by omega
      subst hke
      go_wp2_with fail
      go_ret
      exact ⟨rfl, hq.out⟩
end Go.Proofs.YtpaekbghnejhoaaDoor
namespace Go.Proofs.YtpaekbghnejhoaaDoor
open Go.RowKit Go.Maps Go.WideMaps
set_option linter.unusedVariables false
set_option linter.unusedSimpArgs false
/-- one more behind a row: in its own block, or in a new one and the old one stays -/
theorem push2 {t e : TypeId} {i : TypeInfo} {z : Value} {bytes : Nat} (ht : Tryd.prog.underlying t = some (.slice e)) (hi : Tryd.prog.info? e = some i) (hz : i.zero = some z) (hsize : i.size = 1) (hby : i.bytes = bytes) (hzs : z.cells.size = 1)
    (w : World) (base : Nat) (p : Option Addr) (c : Nat) (xs : List Value) (x : Value) (h : w.ownsRow base e 1 (.slice p xs.length c) xs.length xs) (hx : x.oneCell' = true) (h63 : xs.length + 1 ≤ maxLen) (hb : ((xs.length + 1) + (xs.length + 1) / 4 + 192) * bytes ≤ 281474976710656) (hB : base ≤ w.heap.size) :
    ∃ p' c' w', (Builtin.append_ #[t, t] t #[.slice p xs.length c, .slice (some ⟨w.heap.size, 0, none⟩) 1 1]).run Tryd.prog (w.alloc (.cells #[x] e)) = .ok (.slice p' (xs.length + 1) c') w' ∧
      w'.ownsRow base e 1 (.slice p' (xs.length + 1) c') (xs.length + 1) (xs ++ [x]) ∧ ((p' = p ∧ c' = c ∧ Fr (blk p) w w') ∨ (Fr [] w w' ∧ ∀ g ∈ blk p', w.heap.size ≤ g)) := by
  have hA : (w.alloc (.cells #[x] e)).heap.size = w.heap.size + 1 := by simp
  have hown : (w.alloc (.cells #[x] e)).ownsRow base e 1 (.slice p xs.length c) xs.length xs := own_congr h (fun g hg => Below.heap_alloc _ _ _ (h.lt g hg).2)
  have hnews := cell_one_new w x e
  have h1 : ∀ u ∈ [x], u.oneCell' = true := fun u hu => by simp at hu; subst hu; exact hx
  obtain ⟨v', w', hr, h2, h3, _⟩ := run_append_own_wide (P := Tryd.prog) (w.alloc (.cells #[x] e)) base t t e i z 1 bytes ht hi hz hsize hby hzs (by decide) _ _ _ hown ⟨w.heap.size, 0, none⟩ 1 1 [x] rfl hnews h1 h63 hb (by omega)
  rcases h.2 with ⟨e1, e2⟩ | ⟨g, c0, cur, e1, q1, q2, q3, q4, q5, q6⟩
  · injection e1 with e1 e3 e4
    subst e1
    subst e4
    have hnil : xs = [] := List.length_eq_zero_iff.1 e2
    subst hnil
    have hr2 := run_append_nil (P := Tryd.prog) (w.alloc (.cells #[x] e)) t t e i z ht hi hz ⟨w.heap.size, 0, none⟩ 1 1 [x] (by rw [hsize]; rfl) hnews (by decide) (by decide) (by rw [hby]; simp at hb; omega)
    have hr3 := hr
    rw [show (Value.slice none ([] : List Value).length 0) = .slice none 0 0 from rfl, hr2] at hr3
    injection hr3 with hv hw
    subst hv
    subst hw
    exact ⟨_, _, _, hr, h2, Or.inr ⟨(Fr.alloc [] w _).trans ((Fr.drew [] _).trans (Fr.alloc [] _ _) (by simp)) (by simp), fun g hg => by simp [blk] at hg; omega⟩⟩
  · injection e1 with e1 _ e4
    subst e1
    subst e4
    by_cases hroom : xs.length + 1 ≤ c
    · have hg : (w.alloc (.cells #[x] e)).heap[g]? = some (.cells cur e (0, 0)) := (Below.heap_alloc _ _ _ (lt_of_heap q2)).trans q2
      have hr2 := run_append_room (P := Tryd.prog) (w.alloc (.cells #[x] e)) t t e i ht hi g xs.length c cur hg ⟨w.heap.size, 0, none⟩ 1 1 [x] (by rw [hsize]; rfl) hnews h1 hroom (by rw [hsize, q5]; simp; omega)
      have hr3 := hr
      rw [hr2] at hr3
      injection hr3 with hv hw
      subst hv
      refine ⟨_, _, w', hr, h2, Or.inl ⟨rfl, rfl, (Fr.alloc (blk (some ⟨g, 0, none⟩)) w _).trans (Fr.grown (S := [g]) h3 (fun k hk => ?_)) (by simp [blk])⟩⟩
      simp [Value.ownBlock] at hk
      simp [hk]
    · have holds : ∀ j u, xs[j]? = some u → (w.alloc (.cells #[x] e)).cell? ((⟨g, 0, none⟩ : Addr).add j) = some u := hown.cells (g := g) rfl
      have hr2 := run_append_grow (P := Tryd.prog) (w.alloc (.cells #[x] e)) t t e i z ht hi hz ⟨g, 0, none⟩ xs.length c xs (by rw [hsize]; simp) holds ⟨w.heap.size, 0, none⟩ 1 1 [x] (by rw [hsize]; rfl) hnews (by omega) (by unfold maxLen at h63; omega) (by rw [hby]; exact growslice_fits_wide (by omega) hb)
      have hr3 := hr
      rw [hr2] at hr3
      injection hr3 with hv hw
      subst hv
      subst hw
      exact ⟨_, _, _, hr, h2, Or.inr ⟨(Fr.alloc [] w _).trans ((Fr.drew [] _).trans (Fr.alloc [] _ _) (by simp)) (by simp), fun g hg => by simp [blk] at hg; omega⟩⟩

/-- a number more behind a row of numbers -/
theorem push_int (w : World) (base : Nat) (p : Option Addr) (c : Nat) (ts : List Int) (s : Int) (h : w.ownsRow base 3 1 (.slice p ts.length c) ts.length (ts.map (Value.int .i64))) (hb : ts.length + 1 ≤ 8796093022208) (hB : base ≤ w.heap.size) :
    ∃ p' c' w', (Builtin.append_ #[26, 26] 26 #[.slice p ts.length c, .slice (some ⟨w.heap.size, 0, none⟩) 1 1]).run Tryd.prog (w.alloc (.cells #[.int .i64 s] 3)) = .ok (.slice p' (ts.length + 1) c') w' ∧
      w'.ownsRow base 3 1 (.slice p' (ts ++ [s]).length c') (ts ++ [s]).length ((ts ++ [s]).map (Value.int .i64)) ∧ ((p' = p ∧ c' = c ∧ Fr (blk p) w w') ∨ (Fr [] w w' ∧ ∀ g ∈ blk p', w.heap.size ≤ g)) := by
  obtain ⟨i3, ii, iz, is, ib⟩ := info_parts info3
  have := push2 Tryd.underlying26 ii iz is ib rfl w base p c (ts.map (Value.int .i64)) (.int .i64 s) (by rw [List.length_map]; exact h) rfl (by rw [List.length_map]; unfold maxLen; omega) (by rw [List.length_map]; omega) hB
  rw [List.length_map] at this
  obtain ⟨p', c', w', r1, r2, r3⟩ := this
  exact ⟨p', c', w', r1, by rw [List.length_append, List.map_append]; exact r2, r3⟩
theorem info36 : (Tryd.prog.info? 26).map (fun i => (i.zero, i.size, i.bytes)) = some (some (.slice none 0 0), 1, 24) := by kernel_rfl
/-- a list more behind a row of lists of numbers -/
theorem push_ints (w : World) (base : Nat) (p : Option Addr) (c : Nat) (xs : List Value) (x : Value) (h : w.ownsRow base 26 1 (.slice p xs.length c) xs.length xs) (hx : x.oneCell' = true) (hb : xs.length + 1 ≤ 8796093022208) (hB : base ≤ w.heap.size) :
    ∃ p' c' w', (Builtin.append_ #[66, 66] 66 #[.slice p xs.length c, .slice (some ⟨w.heap.size, 0, none⟩) 1 1]).run Tryd.prog (w.alloc (.cells #[x] 26)) = .ok (.slice p' (xs.length + 1) c') w' ∧
      w'.ownsRow base 26 1 (.slice p' (xs ++ [x]).length c') (xs ++ [x]).length (xs ++ [x]) ∧ ((p' = p ∧ c' = c ∧ Fr (blk p) w w') ∨ (Fr [] w w' ∧ ∀ g ∈ blk p', w.heap.size ≤ g)) := by
  obtain ⟨i36, ii, iz, is, ib⟩ := info_parts info36
  obtain ⟨p', c', w', r1, r2, r3⟩ := push2 Tryd.underlying66 ii iz is ib rfl w base p c xs x h hx (by unfold maxLen; omega) (by omega) hB
  exact ⟨p', c', w', r1, by rw [List.length_append]; exact r2, r3⟩
end Go.Proofs.YtpaekbghnejhoaaDoor

namespace Go.Proofs.YtpaekbghnejhoaaDoor
open Go.RowKit
set_option linter.unusedVariables false
theorem exch_order_map {H : HS} {M : MS} (h : Inv H M) (x y : Nat) (hx : x < M.things.length) (hy : y < M.things.length) (bx : (M.things.getD x noTh).there = true) (by_ : (M.things.getD y noTh).there = true) : (exchH H (x + 1) (y + 1)).order = H.order.map (sw1 x y) := by
  obtain ⟨a1, a2⟩ := h.turn x hx bx
  obtain ⟨b1, b2⟩ := h.turn y hy by_
  have hOl : (exchH H (x + 1) (y + 1)).order.length = H.order.length := by show ((H.order.set _ _).set _ _).length = _; rw [List.length_set, List.length_set]
  have hO : ∀ r, (exchH H (x + 1) (y + 1)).order.getD r 0 = sw1 x y (H.order.getD r 0) := fun r => by
    show ((H.order.set (H.seats.getD (y + 1) (0, 0, 0)).2.2 (x + 1)).set (H.seats.getD (x + 1) (0, 0, 0)).2.2 (y + 1)).getD r 0 = _
    rw [List.getD_eq_getElem?_getD, List.getElem?_set, List.getElem?_set, List.length_set]
    by_cases h1 : (H.seats.getD (x + 1) (0, 0, 0)).2.2 = r
    · rw [if_pos h1, if_pos (by omega), ← h1, a2]; unfold sw1; rw [if_pos rfl]; rfl
    · rw [if_neg h1]
      by_cases h2 : (H.seats.getD (y + 1) (0, 0, 0)).2.2 = r
      · rw [if_pos h2, if_pos (by omega), ← h2, b2]; unfold sw1
        split
        · rename_i e; rw [e]; rfl
        · rw [if_pos rfl]; rfl
      · rw [if_neg h2, ← List.getD_eq_getElem?_getD]
        by_cases h3 : r < H.order.length
        · by_cases h4 : H.order.getD r 0 = 0
          · rw [h4]; unfold sw1; rw [if_neg (by omega), if_neg (by omega)]
          · have hr := (h.order r h3 h4).2.2
            unfold sw1
            rw [if_neg (fun e => h1 (by rw [← e]; exact hr)), if_neg (fun e => h2 (by rw [← e]; exact hr))]
        · have e : H.order.getD r 0 = 0 := by rw [List.getD_eq_getElem?_getD, List.getElem?_eq_none (by omega)]; rfl
          rw [e]; unfold sw1; rw [if_neg (by omega), if_neg (by omega)]
  refine List.ext_getElem (by rw [hOl, List.length_map]) fun r h1 h2 => ?_
  have := hO r
  rw [List.getD_eq_getElem?_getD, List.getElem?_eq_getElem h1, List.getD_eq_getElem?_getD, List.getElem?_eq_getElem (by omega)] at this
  rw [List.getElem_map]
  exact this
/-- two numbers change places -/
def swz (x y q : Int) : Int := if q = x then y else if q = y then x else q
def swk (x y : Int) (k : Key) : Key := (swz x y k.1, k.2)
theorem endK_snd (f : Key → Key) (hf : ∀ k, (f k).2 = k.2) : ∀ ks : List Key, endK (ks.map f) = endK ks
  | [] => rfl
  | k :: t => by
    rw [List.map_cons]
    simp only [endK, hf]
    rw [endK_snd f hf t]
theorem swz_nat (x y o : Nat) : swz ((x : Int) + 1) ((y : Int) + 1) (o : Int) = (sw1 x y o : Nat) := by
  unfold swz sw1
  by_cases h1 : o = x + 1
  · rw [if_pos (by omega), if_pos h1]; omega
  · rw [if_neg (by omega), if_neg h1]
    by_cases h2 : o = y + 1
    · rw [if_pos (by omega), if_pos h2]; omega
    · rw [if_neg (by omega), if_neg h2]
theorem KA.exch {words oops mark : Nat} {ks : List Key} {H : HS} {M : MS} (h : KA words oops mark ks H M) (x y : Nat) (bx : (M.things.getD x noTh).there = true) (by_ : (M.things.getD y noTh).there = true) :
    KA words oops mark (ks.map (swk ((x : Int) + 1) ((y : Int) + 1))) (exchH H (x + 1) (y + 1)) { M with things := (M.things.set x (M.things.getD y noTh)).set y (M.things.getD x noTh) } := by
  have hx := there_lt bx
  have hy := there_lt by_
  have hpos : ∀ k ∈ ks, ∃ o : Nat, k.1 = (o : Int) ∧ 1 ≤ o := fun k hk => ⟨k.1.toNat, by have := (h.at_ k hk).1; omega, by have := (h.at_ k hk).1; omega⟩
  refine ⟨h.inv.exch x y hx hy bx by_, h.words, h.oops, h.mark, ?_, ?_, fun k hk => ?_, fun i hi => ?_⟩
  · rw [exch_order_map h.inv x y hx hy bx by_, h.order, List.map_map, List.map_map]
    refine List.map_congr_left fun k hk => ?_
    obtain ⟨o, ho, h1⟩ := hpos k hk
    show sw1 x y k.1.toNat = (swz ((x : Int) + 1) ((y : Int) + 1) k.1).toNat
    rw [ho, swz_nat]; rfl
  · rw [endK_snd (swk ((x : Int) + 1) ((y : Int) + 1)) (fun k => rfl)]
    exact h.mem
  · obtain ⟨k0, hk0, rfl⟩ := List.mem_map.1 hk
    obtain ⟨o, ho, h1⟩ := hpos k0 hk0
    obtain ⟨b0, b1, b2, b3, b4⟩ := h.at_ k0 hk0
    have e1 : (swk ((x : Int) + 1) ((y : Int) + 1) k0).1 = (sw1 x y o : Nat) := by
      show swz _ _ k0.1 = _
      rw [ho, swz_nat]
    have e0 : sw1 x y o = sw x y (o - 1) + 1 := by rw [← sw1_succ, Nat.sub_add_cancel h1]
    have e2 : ((M.things.set x (M.things.getD y noTh)).set y (M.things.getD x noTh)).getD ((swk ((x : Int) + 1) ((y : Int) + 1) k0).1.toNat - 1) noTh = M.things.getD (k0.1.toNat - 1) noTh := by
      rw [exch_th _ _ _ _ hx hy, e1, e0]
      show M.things.getD (sw x y (sw x y (o - 1) + 1 - 1)) noTh = _
      rw [Nat.add_sub_cancel, sw_sw, ho]; rfl
    refine ⟨by rw [e1, e0]; omega, ?_, ?_, ?_, ?_⟩
    · show (List.getD ((M.things.set x (M.things.getD y noTh)).set y (M.things.getD x noTh)) _ noTh).there = true
      rw [e2]; exact b1
    · show (List.getD ((M.things.set x (M.things.getD y noTh)).set y (M.things.getD x noTh)) _ noTh).cls = _
      rw [e2]; exact b2
    · show ((List.getD ((M.things.set x (M.things.getD y noTh)).set y (M.things.getD x noTh)) _ noTh).fmt : Int) = _
      rw [e2]; exact b3
    · show (List.getD ((M.things.set x (M.things.getD y noTh)).set y (M.things.getD x noTh)) _ noTh).slots = _
      rw [e2]; exact b4
  · have hi' : (M.things.getD (sw x y i) noTh).there = true := by
      rw [← exch_th _ _ _ _ hx hy]; exact hi
    obtain ⟨k, k1, k2⟩ := h.only _ hi'
    refine ⟨swk ((x : Int) + 1) ((y : Int) + 1) k, List.mem_map_of_mem k1, ?_⟩
    show swz _ _ k.1 = _
    rw [k2, show ((sw x y i : Nat) : Int) + 1 = ((sw x y i + 1 : Nat) : Int) from by omega, swz_nat, sw1_succ, sw_sw]
    omega
/-- what an oop changes places with -/
def partnerZ : List (Int × Int) → Int → Int
  | [], q => q
  | p :: t, q => if p.1 = q then p.2 else if p.2 = q then p.1 else partnerZ t q
/-- the numbers of a list of pairs, pair by pair -/
def nums : List (Int × Int) → List Int
  | [] => []
  | p :: t => p.1 :: p.2 :: nums t
theorem partner_out : ∀ (ps : List (Int × Int)) (q : Int), q ∉ nums ps → partnerZ ps q = q
  | [], q, _ => rfl
  | p :: t, q, h => by
    unfold nums at h
    rw [List.mem_cons, List.mem_cons, not_or, not_or] at h
    unfold partnerZ
    rw [if_neg (fun e => h.1 e.symm), if_neg (fun e => h.2.1 e.symm), partner_out t q h.2.2]
theorem partner_cons (p : Int × Int) (t : List (Int × Int)) (hd : (nums (p :: t)).Nodup) (q : Int) : partnerZ t (swz p.1 p.2 q) = partnerZ (p :: t) q := by
  unfold nums at hd
  obtain ⟨h1, h2⟩ := List.nodup_cons.1 hd
  obtain ⟨h3, h4⟩ := List.nodup_cons.1 h2
  rw [List.mem_cons, not_or] at h1
  show partnerZ t (swz p.1 p.2 q) = if p.1 = q then p.2 else if p.2 = q then p.1 else partnerZ t q
  unfold swz
  by_cases e1 : q = p.1
  · rw [if_pos e1, if_pos e1.symm, partner_out t _ h3]
  · rw [if_neg e1, if_neg (show ¬ p.1 = q from fun e => e1 e.symm)]
    by_cases e2 : q = p.2
    · rw [if_pos e2, if_pos e2.symm, partner_out t _ h1.2]
    · rw [if_neg e2, if_neg (show ¬ p.2 = q from fun e => e2 e.symm)]
def swapK (ps : List (Int × Int)) (ks : List Key) : List Key := ks.map fun k => (partnerZ ps k.1, k.2)
theorem swap_fold : ∀ (ps : List (Int × Int)) (ks : List Key), (nums ps).Nodup → ps.foldl (fun ks p => ks.map (swk p.1 p.2)) ks = swapK ps ks
  | [], ks, _ => by
    unfold swapK
    conv => lhs; rw [← List.map_id ks]
    rfl
  | p :: t, ks, hd => by
    have hd2 : (nums t).Nodup := (List.nodup_cons.1 (List.nodup_cons.1 hd).2).2
    rw [List.foldl_cons, swap_fold t _ hd2]
    unfold swapK
    rw [List.map_map]
    refine List.map_congr_left fun k hk => ?_
    show (partnerZ t (swz p.1 p.2 k.1), k.2) = _
    rw [partner_cons p t hd]
theorem partner_mem : ∀ (ps : List (Int × Int)) (q : Int), q ∈ nums ps → partnerZ ps q ∈ nums ps
  | [], q, h => by simp [nums] at h
  | p :: t, q, h => by
    unfold partnerZ
    unfold nums at h ⊢
    by_cases e1 : p.1 = q
    · rw [if_pos e1]; simp
    · rw [if_neg e1]
      by_cases e2 : p.2 = q
      · rw [if_pos e2]; simp
      · rw [if_neg e2]
        have h3 : q ∈ nums t := by
          rcases List.mem_cons.1 h with h | h
          · exact absurd h.symm e1
          · rcases List.mem_cons.1 h with h | h
            · exact absurd h.symm e2
            · exact h
        exact List.mem_cons_of_mem _ (List.mem_cons_of_mem _ (partner_mem t q h3))
theorem partner_twice : ∀ (ps : List (Int × Int)), (nums ps).Nodup → ∀ q, partnerZ ps (partnerZ ps q) = q
  | [], _, q => rfl
  | p :: t, hd, q => by
    have h0 : nums (p :: t) = p.1 :: p.2 :: nums t := rfl
    rw [h0] at hd
    obtain ⟨h1, h2⟩ := List.nodup_cons.1 hd
    obtain ⟨h3, h4⟩ := List.nodup_cons.1 h2
    rw [List.mem_cons, not_or] at h1
    by_cases e1 : p.1 = q
    · have : partnerZ (p :: t) q = p.2 := by show (if p.1 = q then p.2 else _) = _; rw [if_pos e1]
      rw [this]
      show (if p.1 = p.2 then p.2 else if p.2 = p.2 then p.1 else _) = _
      rw [if_neg h1.1, if_pos rfl, e1]
    · by_cases e2 : p.2 = q
      · have : partnerZ (p :: t) q = p.1 := by show (if p.1 = q then p.2 else if p.2 = q then p.1 else _) = _; rw [if_neg e1, if_pos e2]
        rw [this]
        show (if p.1 = p.1 then p.2 else _) = _
        rw [if_pos rfl, e2]
      · have e3 : partnerZ (p :: t) q = partnerZ t q := by show (if p.1 = q then p.2 else if p.2 = q then p.1 else _) = _; rw [if_neg e1, if_neg e2]
        rw [e3]
        by_cases hq : q ∈ nums t
        · have hm := partner_mem t q hq
          show (if p.1 = partnerZ t q then p.2 else if p.2 = partnerZ t q then p.1 else partnerZ t (partnerZ t q)) = _
          rw [if_neg (fun e => h1.2 (by rw [e]; exact hm)), if_neg (fun e => h3 (by rw [e]; exact hm)), partner_twice t h4 q]
        · rw [partner_out t q hq]
          show (if p.1 = q then p.2 else if p.2 = q then p.1 else partnerZ t q) = _
          rw [if_neg e1, if_neg e2, partner_out t q hq]
theorem swap_twice (ps : List (Int × Int)) (hd : (nums ps).Nodup) (ks : List Key) : swapK ps (swapK ps ks) = ks := by
  unfold swapK
  rw [List.map_map]
  conv => rhs; rw [← List.map_id ks]
  refine List.map_congr_left fun k hk => ?_
  show (partnerZ ps (partnerZ ps k.1), k.2) = k
  rw [partner_twice ps hd]
end Go.Proofs.YtpaekbghnejhoaaDoor

namespace Go.Proofs.YtpaekbghnejhoaaDoor
open Go.RowKit
set_option linter.unusedVariables false
set_option linter.unusedSimpArgs false
attribute [local go_sem ↓] Go.wp_at_zero Go.wp_at_succ
/-- an object of the document's heap under another oop -/
def RO.named (o : RO) (n : Nat) : RO := { o with oop := n }
theorem roCells_named (n : Nat) : ∀ (l : List RO) (k : Nat), k < l.length → roCells (l.set k ((l.getD k noRO).named n)) = (roCells l).set (k * 6) (I n)
  | [], k, h => by simp at h
  | o :: t, 0, _ => rfl
  | o :: t, k + 1, h => by
    have ih := roCells_named n t k (by simpa using h)
    have e : (o :: t).set (k + 1) (((o :: t).getD (k + 1) noRO).named n) = o :: t.set k ((t.getD k noRO).named n) := by simp
    rw [e]
    show ro6 o ++ roCells (t.set k ((t.getD k noRO).named n)) = (ro6 o ++ roCells t).set ((k + 1) * 6) (I n)
    rw [ih, List.set_append_right _ _ (by simp [ro6]; omega)]
    congr 2
    simp [ro6]; omega
theorem row_block {w : World} {B : Nat} {e : TypeId} {s n : Nat} {v : Value} {xs : List Value} (h : w.ownsRow B e s v n xs) {g : Nat} (hg : v.ownBlock = some g) : ∃ cur, w.heap[g]? = some (.cells cur e (0, 0)) := by
  rcases h.2 with ⟨h2, h3⟩ | ⟨g', cap, cur, h2, h3, h4⟩
  · rw [h2] at hg; simp [Value.ownBlock] at hg
  · rw [h2] at hg
    have e : g' = g := by simpa [Value.ownBlock] using hg
    subst e
    exact ⟨cur, h4.1⟩
theorem set_mem {l : List RO} {k : Nat} {o x : RO} (h : x ∈ l.set k o) : x ∈ l ∨ x = o := List.mem_or_eq_of_mem_set h
theorem RRep.setOop {w : World} {B r : Nat} {R : RS} (h : RRep w B r R) {g c : Nat} (hv : R.ov = .slice (some ⟨g, 0, none⟩) R.objs.length c) (k n : Nat) (hk : k < R.objs.length) :
    RRep (w.setCell ⟨g, k * 6, none⟩ (I n)) B r { R with objs := R.objs.set k ((R.objs.getD k noRO).named n) } := by
  have hb : R.ov.ownBlock = some g := by rw [hv]; rfl
  obtain ⟨cur, hcur⟩ := row_block h.row hb
  have hgr : g ≠ r := fun e => by rw [e, h.top] at hcur; injection hcur with hc; injection hc with _ ht _; exact absurd ht (by decide)
  have hko : R.objs.getD k noRO ∈ R.objs := by rw [List.getD_eq_getElem?_getD, List.getElem?_eq_getElem hk]; exact List.getElem_mem hk
  refine ⟨h.lo, ?_, ?_, fun o ho => ?_⟩
  · rw [Below.heap_setCell _ _ _ _ (fun e => hgr e.symm)]
    exact h.top
  · show (w.setCell ⟨g, k * 6, none⟩ (I n)).ownsRow B 124 6 R.ov (R.objs.set k _).length (roCells (R.objs.set k _))
    rw [roCells_named n _ k hk, List.length_set]
    have h2 := h.row
    rw [hv] at h2 ⊢
    exact (h2.stored (k * 6) (I n)).1
  · have key : ∀ x ∈ R.objs, (w.setCell ⟨g, k * 6, none⟩ (I n)).ownsRow B 40 1 x.v x.slots.length (x.slots.map (Value.int .i64)) := fun x hx => by
      refine own_congr (h.slots x hx) fun b hb2 => Below.heap_setCell _ _ _ _ (fun e => ?_)
      obtain ⟨cur2, hc2⟩ := row_block (h.slots x hx) hb2
      rw [e, hcur] at hc2
      injection hc2 with hc; injection hc with _ ht _; exact absurd ht (by decide)
    rcases set_mem ho with h1 | h1
    · exact key o h1
    · rw [h1]; exact key (R.objs.getD k noRO) hko
end Go.Proofs.YtpaekbghnejhoaaDoor
namespace Go.Proofs.YtpaekbghnejhoaaDoor
open Go.RowKit
set_option linter.unusedVariables false
set_option linter.unusedSimpArgs false
/-- a list that was handed out -/
structure Le where
  p : Option Addr
  n : Nat
  c : Nat
def Le.v (x : Le) : Value := .slice x.p x.n x.c
def noLe : Le := ⟨none, 0, 0⟩
def N0 : Value := .slice none 0 0
/-- all blocks of a list hold numbers -/
def Ty3 (w : World) (B : Nat) (x : Le) : Prop := ∀ g ∈ blk x.p, B ≤ g ∧ ∃ cur, w.heap[g]? = some (.cells cur 3 (0, 0))
/-- a list, full of one number -/
def Fl (w : World) (B : Nat) (x : Le) (m : Int) : Prop := Rd w x.v (List.replicate x.n m) ∧ Ty3 w B x
/-- a list that nobody else has -/
def Ow (w : World) (B : Nat) (x : Le) (m : Int) : Prop := w.ownsRow B 3 1 x.v x.n ((List.replicate x.n m).map (Value.int .i64))
/-- the book: the lists, those that have grown, the marks -/
structure Bk (w : World) (B b : Nat) (Is Ms : List Le) (Ks : List Int) (vI vM vK : Le) : Prop where
  lo : B ≤ b
  top : w.heap[b]? = some (.cells #[vI.v, vM.v, vK.v, N0, N0, N0, N0, N0, N0] 70 (0, 0))
  nI : vI.n = Is.length
  nM : vM.n = Ms.length
  nK : vK.n = Ks.length
  rI : w.ownsRow B 26 1 vI.v vI.n (Is.map Le.v)
  rM : w.ownsRow B 26 1 vM.v vM.n (Ms.map Le.v)
  rK : w.ownsRow B 3 1 vK.v vK.n (Ks.map (Value.int .i64))
  len : Is.length = Ks.length
  lem : Ms.length ≤ Ks.length
  ne : ∀ g ∈ blk vI.p, g ∉ blk vM.p
  ints : ∀ i, i < Ks.length → Fl w B (Is.getD i noLe) (Ks.getD i 0)
  more : ∀ i, i < Ms.length → Fl w B (Ms.getD i noLe) (Ks.getD i 0)
  neI : ∀ i, i < Ks.length → ∀ g ∈ blk (Is.getD i noLe).p, g ∉ blk vK.p
  neM : ∀ i, i < Ms.length → ∀ g ∈ blk (Ms.getD i noLe).p, g ∉ blk vK.p
  own : ∀ i, Ms.length ≤ i → i < Ks.length → Ow w B (Is.getD i noLe) (Ks.getD i 0)
  apI : ∀ i, Ms.length ≤ i → i < Ks.length → ∀ g ∈ blk (Is.getD i noLe).p, ∀ j, j ≠ i → j < Ks.length → g ∉ blk (Is.getD j noLe).p
  apM : ∀ i, Ms.length ≤ i → i < Ks.length → ∀ g ∈ blk (Is.getD i noLe).p, ∀ j, j < Ms.length → g ∉ blk (Ms.getD j noLe).p
theorem le_own {w : World} {B : Nat} {e : TypeId} {s n : Nat} {x : Le} {xs : List Value} (h : w.ownsRow B e s x.v n xs) {g : Nat} (hg : g ∈ blk x.p) : B ≤ g ∧ ∃ cur, w.heap[g]? = some (.cells cur e (0, 0)) := by
  obtain ⟨p, k, c⟩ := x
  cases p with
  | none => simp [blk] at hg
  | some a =>
    have e1 : g = a.block := by simpa [blk] using hg
    have e2 : (Le.v ⟨some a, k, c⟩).ownBlock = some g := by
      rcases h.2 with ⟨h2, h3⟩ | ⟨g', cap, cur, h2, h3⟩
      · cases h2
      · have h2' : Value.slice (some a) k c = .slice (some ⟨g', 0, none⟩) _ cap := h2
        injection h2' with h2 _ _
        injection h2 with h2
        subst h2
        show some g' = some g
        rw [e1]
    exact ⟨(h.lt g e2).1, row_block h e2⟩
theorem own_blk_mem {x : Le} {g : Nat} (h : x.v.ownBlock = some g) : g ∈ blk x.p := by
  obtain ⟨p, k, c⟩ := x
  cases p with
  | none => simp [Le.v, Value.ownBlock] at h
  | some a =>
    obtain ⟨b, off, sp⟩ := a
    simp [Le.v, Value.ownBlock] at h
    simp [blk]
    first | exact h.symm | exact h.2.symm | (rcases h with ⟨h1, h2⟩; exact h2.symm) | simp_all
/-- what is not written stays -/
theorem ow_keep {w w' : World} {B : Nat} {e : TypeId} {s n : Nat} {x : Le} {xs : List Value} {S : List Nat} (h : w.ownsRow B e s x.v n xs) (hf : Fr S w w') (hd : ∀ g ∈ blk x.p, g ∉ S) : w'.ownsRow B e s x.v n xs :=
  own_congr h fun g hg => hf.block g (h.lt g hg).2 (hd g (own_blk_mem hg))
theorem Ty3.keep {w w' : World} {B : Nat} {x : Le} {S : List Nat} (h : Ty3 w B x) (hf : Fr S w w') (hd : ∀ g ∈ blk x.p, g ∉ S) : Ty3 w' B x := fun g hg => by
  obtain ⟨h1, cur, h2⟩ := h g hg
  exact ⟨h1, cur, (hf.block g (lt_of_heap h2) (hd g hg)).trans h2⟩
theorem Fl.keep {w w' : World} {B : Nat} {x : Le} {m : Int} {S : List Nat} (h : Fl w B x m) (hf : Fr S w w') (hd : ∀ g ∈ blk x.p, g ∉ S) : Fl w' B x m :=
  ⟨h.1.keep hf fun _ g hg => hd g (own_blk_mem hg), h.2.keep hf hd⟩
theorem Ow.fl {w : World} {B : Nat} {x : Le} {m : Int} (h : Ow w B x m) (hs : x.n ≤ 17592186043904) : Fl w B x m := by
  refine ⟨?_, fun g hg => le_own h hg⟩
  have h2 : w.ownsRow B 3 1 x.v (List.replicate x.n m).length ((List.replicate x.n m).map (Value.int .i64)) := by rw [List.length_replicate]; exact h
  exact own_rd h2 (by rw [List.length_replicate]; exact hs)
theorem ty_ne {w : World} {g h : Nat} {c1 c2 : Array Value} {t1 t2 : TypeId} (h1 : w.heap[g]? = some (.cells c1 t1 (0, 0))) (h2 : w.heap[h]? = some (.cells c2 t2 (0, 0))) (hn : t1 ≠ t2) : g ≠ h := fun e => by
  subst e
  rw [h1] at h2
  injection h2 with h2
  injection h2 with _ h2 _
  exact hn h2
section
variable {w w' : World} {B b : Nat} {Is Ms : List Le} {Ks : List Int} {vI vM vK : Le}
/-- all blocks of the book -/
theorem Bk.tyI (h : Bk w B b Is Ms Ks vI vM vK) {g : Nat} (hg : g ∈ blk vI.p) : B ≤ g ∧ ∃ cur, w.heap[g]? = some (.cells cur 26 (0, 0)) := le_own h.rI hg
theorem Bk.tyM (h : Bk w B b Is Ms Ks vI vM vK) {g : Nat} (hg : g ∈ blk vM.p) : B ≤ g ∧ ∃ cur, w.heap[g]? = some (.cells cur 26 (0, 0)) := le_own h.rM hg
theorem Bk.tyK (h : Bk w B b Is Ms Ks vI vM vK) {g : Nat} (hg : g ∈ blk vK.p) : B ≤ g ∧ ∃ cur, w.heap[g]? = some (.cells cur 3 (0, 0)) := le_own h.rK hg
/-- other blocks are written -/
theorem Bk.keep {S : List Nat} (h : Bk w B b Is Ms Ks vI vM vK) (hf : Fr S w w') (hd : ∀ g ∈ S, g < B) : Bk w' B b Is Ms Ks vI vM vK := by
  have nb : ∀ g, B ≤ g → g ∉ S := fun g hg hm => by have := hd g hm; omega
  refine ⟨h.lo, (hf.block b (lt_of_heap h.top) (nb b h.lo)).trans h.top, h.nI, h.nM, h.nK, ow_keep h.rI hf fun g hg => nb g (h.tyI hg).1, ow_keep h.rM hf fun g hg => nb g (h.tyM hg).1, ow_keep h.rK hf fun g hg => nb g (h.tyK hg).1, h.len, h.lem, h.ne, fun i hi => (h.ints i hi).keep hf fun g hg => nb g ((h.ints i hi).2 g hg).1, fun i hi => (h.more i hi).keep hf fun g hg => nb g ((h.more i hi).2 g hg).1, h.neI, h.neM, fun i h1 h2 => ow_keep (h.own i h1 h2) hf fun g hg => nb g (le_own (h.own i h1 h2) hg).1, h.apI, h.apM⟩
end
end Go.Proofs.YtpaekbghnejhoaaDoor

namespace Go.Proofs.YtpaekbghnejhoaaDoor
open Go.RowKit
set_option linter.unusedVariables false
set_option linter.unusedSimpArgs false
/-- how a row has become longer: in its own block, or in a new one -/
def Mv (x y : Le) (w w' : World) : Prop := (y.p = x.p ∧ Fr (blk x.p) w w') ∨ (Fr [] w w' ∧ ∀ g ∈ blk y.p, w.heap.size ≤ g)
theorem Mv.fr {x y : Le} {w w' : World} (h : Mv x y w w') : Fr (blk x.p) w w' := by
  rcases h with ⟨-, h⟩ | ⟨h, -⟩
  · exact h
  · exact h.mono (by simp)
theorem Mv.mem {x y : Le} {w w' : World} (h : Mv x y w w') {g : Nat} (hg : g ∈ blk y.p) : g ∈ blk x.p ∨ w.heap.size ≤ g := by
  rcases h with ⟨e, -⟩ | ⟨-, h⟩
  · left; rw [← e]; exact hg
  · right; exact h g hg
section
variable {w : World} {B b : Nat} {Is Ms : List Le} {Ks : List Int} {vI vM vK : Le}
theorem getD_snoc {α : Type} (l : List α) (x d : α) (i : Nat) : (l ++ [x]).getD i d = if i < l.length then l.getD i d else if i = l.length then x else d := by
  by_cases h : i < l.length
  · rw [if_pos h, List.getD_eq_getElem?_getD, List.getElem?_append_left h, List.getD_eq_getElem?_getD]
  · rw [if_neg h, List.getD_eq_getElem?_getD, List.getElem?_append_right (by omega)]
    by_cases e : i = l.length
    · rw [if_pos e, e, Nat.sub_self]; rfl
    · rw [if_neg e]
      have : i - l.length ≠ 0 := by omega
      rw [List.getElem?_eq_none (by simp; omega)]; rfl
/-- a list joins the book -/
theorem Bk.add (h : Bk w B b Is Ms Ks vI vM vK) (x : Le) (m : Int) (xs : List Int) (hx : w.ownsRow B 3 1 x.v x.n (xs.map (Value.int .i64))) (hs : x.n ≤ 17592186043904)
    (aK : ∀ g ∈ blk x.p, g ∉ blk vK.p) (aI : ∀ g ∈ blk x.p, ∀ j, j < Ks.length → g ∉ blk (Is.getD j noLe).p) (aM : ∀ g ∈ blk x.p, ∀ j, j < Ms.length → g ∉ blk (Ms.getD j noLe).p)
    {w1 w2 w4 : World} {vI' vK' : Le} (f1 : Fr (blk x.p) w w1) (o1 : Ow w1 B x m) (o2 : w2.ownsRow B 26 1 vI'.v vI'.n ((Is ++ [x]).map Le.v)) (n2 : vI'.n = Is.length + 1) (m2 : Mv vI vI' w1 w2)
    (o4 : w4.ownsRow B 3 1 vK'.v vK'.n ((Ks ++ [m]).map (Value.int .i64))) (n4 : vK'.n = Ks.length + 1) (m4 : Mv vK vK' (w2.setCell ⟨b, 0, none⟩ vI'.v) w4) :
    Bk (w4.setCell ⟨b, 2, none⟩ vK'.v) B b (Is ++ [x]) Ms (Ks ++ [m]) vI' vM vK' ∧ Fr (blk x.p ++ b :: (blk vI.p ++ blk vK.p)) w (w4.setCell ⟨b, 2, none⟩ vK'.v) := by
  -- blocks of different kinds
  have xb : b ∉ blk x.p := fun hm => by obtain ⟨-, cur, hc⟩ := le_own hx hm; exact ty_ne hc h.top (by decide) rfl
  have xI : ∀ g ∈ blk x.p, g ∉ blk vI.p := fun g hg hm => by obtain ⟨-, cur, hc⟩ := le_own hx hg; obtain ⟨-, c2, h2⟩ := h.tyI hm; exact ty_ne hc h2 (by decide) rfl
  have xM : ∀ g ∈ blk x.p, g ∉ blk vM.p := fun g hg hm => by obtain ⟨-, cur, hc⟩ := le_own hx hg; obtain ⟨-, c2, h2⟩ := h.tyM hm; exact ty_ne hc h2 (by decide) rfl
  have bI : b ∉ blk vI.p := fun hm => by obtain ⟨-, c2, h2⟩ := h.tyI hm; exact ty_ne h.top h2 (by decide) rfl
  have bM : b ∉ blk vM.p := fun hm => by obtain ⟨-, c2, h2⟩ := h.tyM hm; exact ty_ne h.top h2 (by decide) rfl
  have bK : b ∉ blk vK.p := fun hm => by obtain ⟨-, c2, h2⟩ := h.tyK hm; exact ty_ne h.top h2 (by decide) rfl
  have IK : ∀ g ∈ blk vI.p, g ∉ blk vK.p := fun g hg hm => by obtain ⟨-, cur, hc⟩ := h.tyI hg; obtain ⟨-, c2, h2⟩ := h.tyK hm; exact ty_ne hc h2 (by decide) rfl
  have MK : ∀ g ∈ blk vM.p, g ∉ blk vK.p := fun g hg hm => by obtain ⟨-, cur, hc⟩ := h.tyM hg; obtain ⟨-, c2, h2⟩ := h.tyK hm; exact ty_ne hc h2 (by decide) rfl
  -- the frames
  have s0 := lt_of_heap h.top
  have s1 := f1.size
  have f2 := m2.fr
  have f3 : Fr [b] w2 (w2.setCell ⟨b, 0, none⟩ vI'.v) := Fr.setCell (S := [b]) w2 ⟨b, 0, none⟩ _ (by simp)
  have f4 := m4.fr
  have f5 : Fr [b] w4 (w4.setCell ⟨b, 2, none⟩ vK'.v) := Fr.setCell (S := [b]) w4 ⟨b, 2, none⟩ _ (by simp)
  have s2 := f2.size
  have s3 := f3.size
  have F : Fr (blk x.p ++ b :: (blk vI.p ++ blk vK.p)) w (w4.setCell ⟨b, 2, none⟩ vK'.v) := by
    refine Fr.trans (Fr.trans (Fr.trans (Fr.trans (f1.mono fun g hg => .inl ?_) f2 fun g hg => .inl ?_) f3 fun g hg => .inl ?_) f4 fun g hg => .inl ?_) f5 fun g hg => .inl ?_
    · exact List.mem_append.2 (.inl hg)
    · exact List.mem_append.2 (.inr (List.mem_cons.2 (.inr (List.mem_append.2 (.inl hg)))))
    · exact List.mem_append.2 (.inr (List.mem_cons.2 (.inl (by simpa using hg))))
    · exact List.mem_append.2 (.inr (List.mem_cons.2 (.inr (List.mem_append.2 (.inr hg)))))
    · exact List.mem_append.2 (.inr (List.mem_cons.2 (.inl (by simpa using hg))))
  have out : ∀ g, g ∉ blk x.p → g ≠ b → g ∉ blk vI.p → g ∉ blk vK.p → g ∉ blk x.p ++ b :: (blk vI.p ++ blk vK.p) := fun g h1 h2 h3 h4 hm => by
    rcases List.mem_append.1 hm with hm | hm
    · exact h1 hm
    · rcases List.mem_cons.1 hm with hm | hm
      · exact h2 hm
      · rcases List.mem_append.1 hm with hm | hm
        · exact h3 hm
        · exact h4 hm
  -- the book's block
  have t1 : w1.heap[b]? = some (.cells #[vI.v, vM.v, vK.v, N0, N0, N0, N0, N0, N0] 70 (0, 0)) := (f1.block b s0 xb).trans h.top
  have t2 : w2.heap[b]? = some (.cells #[vI.v, vM.v, vK.v, N0, N0, N0, N0, N0, N0] 70 (0, 0)) := (f2.block b (by omega) bI).trans t1
  have t3 : (w2.setCell ⟨b, 0, none⟩ vI'.v).heap[b]? = some (.cells #[vI'.v, vM.v, vK.v, N0, N0, N0, N0, N0, N0] 70 (0, 0)) := by rw [set_in t2 0 _]; rfl
  have t4 : w4.heap[b]? = some (.cells #[vI'.v, vM.v, vK.v, N0, N0, N0, N0, N0, N0] 70 (0, 0)) := (f4.block b (by omega) bK).trans t3
  have t5 : (w4.setCell ⟨b, 2, none⟩ vK'.v).heap[b]? = some (.cells #[vI'.v, vM.v, vK'.v, N0, N0, N0, N0, N0, N0] 70 (0, 0)) := by rw [set_in t4 2 _]; rfl
  have newI : ∀ g ∈ blk vI'.p, g ∈ blk vI.p ∨ w1.heap.size ≤ g := fun g hg => m2.mem hg
  have newK : ∀ g ∈ blk vK'.p, g ∈ blk vK.p ∨ w2.heap.size ≤ g := fun g hg => by
    rcases m4.mem hg with h1 | h1
    · exact .inl h1
    · exact .inr (by omega)
  -- an old list of numbers
  have lt_ : ∀ g, (∃ cur, w.heap[g]? = some (.cells cur 3 (0, 0))) → g < w.heap.size ∧ g ≠ b ∧ g ∉ blk vI.p := fun g ⟨cur, hc⟩ => ⟨lt_of_heap hc, fun e => ty_ne hc h.top (by decide) e, fun hm => by obtain ⟨-, c2, h2⟩ := h.tyI hm; exact ty_ne hc h2 (by decide) rfl⟩
  have oldF : ∀ (y : Le) (k : Int), Fl w B y k → (∀ g ∈ blk y.p, g ∉ blk x.p) → (∀ g ∈ blk y.p, g ∉ blk vK.p) → Fl (w4.setCell ⟨b, 2, none⟩ vK'.v) B y k := fun y k hy h1 h2 =>
    hy.keep F fun g hg => by
      obtain ⟨-, e2, e3⟩ := lt_ g (hy.2 g hg).2
      exact out g (h1 g hg) e2 e3 (h2 g hg)
  have oldK : ∀ (y : Le) (k : Int), Fl w B y k → (∀ g ∈ blk y.p, g ∉ blk vK.p) → ∀ g ∈ blk y.p, g ∉ blk vK'.p := fun y k hy h2 g hg hm => by
    have := lt_ g (hy.2 g hg).2
    rcases newK g hm with h3 | h3
    · exact h2 g hg h3
    · omega
  -- the new one
  have xF : ∀ g ∈ blk x.p, g < w.heap.size := fun g hg => by obtain ⟨-, cur, hc⟩ := le_own hx hg; exact lt_of_heap hc
  have xK' : ∀ g ∈ blk x.p, g ∉ blk vK'.p := fun g hg hm => by
    have := xF g hg
    rcases newK g hm with h3 | h3
    · exact aK g hg h3
    · omega
  have xB : ∀ g ∈ blk x.p, g ∉ [b] := fun g hg hm => by
    have e : g = b := by simpa using hm
    rw [e] at hg
    exact xb hg
  have xO : Ow (w4.setCell ⟨b, 2, none⟩ vK'.v) B x m := by
    have q2 : Ow w2 B x m := ow_keep o1 f2 xI
    have q3 : Ow (w2.setCell ⟨b, 0, none⟩ vI'.v) B x m := ow_keep q2 f3 xB
    have q4 : Ow w4 B x m := ow_keep q3 f4 aK
    exact ow_keep q4 f5 xB
  have hl : (Is ++ [x]).length = (Ks ++ [m]).length := by simp [h.len]
  have gI : ∀ i, i < Ks.length → (Is ++ [x]).getD i noLe = Is.getD i noLe := fun i hi => by rw [getD_snoc, if_pos (by rw [h.len]; exact hi)]
  have gK : ∀ i, i < Ks.length → (Ks ++ [m]).getD i 0 = Ks.getD i 0 := fun i hi => by rw [getD_snoc, if_pos hi]
  have gI' : (Is ++ [x]).getD Ks.length noLe = x := by rw [getD_snoc, h.len, if_neg (by omega), if_pos rfl]
  have gK' : (Ks ++ [m]).getD Ks.length 0 = m := by rw [getD_snoc, if_neg (by omega), if_pos rfl]
  have hlk : (Ks ++ [m]).length = Ks.length + 1 := by simp
  have old_x : ∀ i, i < Ks.length → ∀ g ∈ blk (Is.getD i noLe).p, g ∉ blk x.p := fun i hi g hg hm => aI g hm i hi hg
  have old_xM : ∀ i, i < Ms.length → ∀ g ∈ blk (Ms.getD i noLe).p, g ∉ blk x.p := fun i hi g hg hm => aM g hm i hi hg
  refine ⟨⟨h.lo, t5, by rw [n2]; simp, h.nM, by rw [n4]; simp, ?_, ?_, ?_, hl, by rw [hlk]; have := h.lem; omega, ?_, ?_, ?_, ?_, ?_, ?_, ?_, ?_⟩, F⟩
  · have q3 : (w2.setCell ⟨b, 0, none⟩ vI'.v).ownsRow B 26 1 vI'.v vI'.n ((Is ++ [x]).map Le.v) := ow_keep o2 f3 fun g hg hm => by
      have e : g = b := by simpa using hm
      rw [e] at hg
      rcases newI b hg with h1 | h1
      · exact bI h1
      · omega
    have q4 : w4.ownsRow B 26 1 vI'.v vI'.n ((Is ++ [x]).map Le.v) := ow_keep q3 f4 fun g hg hm => by
      rcases newI g hg with h1 | h1
      · exact IK g h1 hm
      · obtain ⟨-, cur, hc⟩ := h.tyK hm
        have := lt_of_heap hc
        omega
    exact ow_keep q4 f5 fun g hg hm => by
      have e : g = b := by simpa using hm
      rw [e] at hg
      rcases newI b hg with h1 | h1
      · exact bI h1
      · omega
  · exact ow_keep h.rM F fun g hg => out g (fun hm => xM g hm hg) (fun e => bM (e ▸ hg)) (fun hm => h.ne g hm hg) (MK g hg)
  · exact ow_keep o4 f5 fun g hg hm => by
      have e : g = b := by simpa using hm
      rw [e] at hg
      rcases newK b hg with h1 | h1
      · exact bK h1
      · omega
  · intro g hg hm
    rcases newI g hg with h1 | h1
    · exact h.ne g h1 hm
    · obtain ⟨-, cur, hc⟩ := h.tyM hm
      have := lt_of_heap hc
      omega
  · intro i hi
    rw [hlk] at hi
    by_cases e : i < Ks.length
    · rw [gI i e, gK i e]
      exact oldF _ _ (h.ints i e) (old_x i e) (h.neI i e)
    · have e : i = Ks.length := by omega
      subst e
      rw [gI', gK']
      exact xO.fl hs
  · intro i hi
    have := h.lem
    rw [gK i (by omega)]
    exact oldF _ _ (h.more i hi) (old_xM i hi) (h.neM i hi)
  · intro i hi
    rw [hlk] at hi
    by_cases e : i < Ks.length
    · rw [gI i e]
      exact oldK _ _ (h.ints i e) (h.neI i e)
    · have e : i = Ks.length := by omega
      subst e
      rw [gI']
      exact xK'
  · intro i hi
    exact oldK _ _ (h.more i hi) (h.neM i hi)
  · intro i h1 hi
    rw [hlk] at hi
    by_cases e : i < Ks.length
    · rw [gI i e, gK i e]
      exact ow_keep (h.own i h1 e) F fun g hg => by
        obtain ⟨-, e2, e3⟩ := lt_ g (le_own (h.own i h1 e) hg).2
        exact out g (old_x i e g hg) e2 e3 (h.neI i e g hg)
    · have e : i = Ks.length := by omega
      subst e
      rw [gI', gK']
      exact xO
  · intro i h1 hi g hg j hj hjl
    rw [hlk] at hi hjl
    by_cases e : i < Ks.length
    · rw [gI i e] at hg
      by_cases ej : j < Ks.length
      · rw [gI j ej]
        exact h.apI i h1 e g hg j hj ej
      · have ej : j = Ks.length := by omega
        subst ej
        rw [gI']
        exact old_x i e g hg
    · have e : i = Ks.length := by omega
      subst e
      rw [gI'] at hg
      by_cases ej : j < Ks.length
      · rw [gI j ej]
        exact aI g hg j ej
      · omega
  · intro i h1 hi g hg j hj
    rw [hlk] at hi
    by_cases e : i < Ks.length
    · rw [gI i e] at hg
      exact h.apM i h1 e g hg j hj
    · have e : i = Ks.length := by omega
      subst e
      rw [gI'] at hg
      exact aM g hg j hj
end
end Go.Proofs.YtpaekbghnejhoaaDoor

