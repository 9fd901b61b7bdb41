import Derived.Test.YtblbjgifhgfifaaPG01NFds
import Derived.Maps.OwnOps
import Derived.Maps.OwnSet
import Derived.Maps.Views
import Derived.BigQuiet
import Derived.Deep.QuietTactic
import Derived.Deep.DeepCutAuto
import Derived.Deep.RegionHeld3
import Derived.Shelf.Abstract
namespace Go.Proofs.Ytblbjgifhgfifaa
open Go.RowKit Go.Maps Go.WideMaps
set_option linter.unusedVariables false
set_option linter.unusedSimpArgs false
/-! the map of a table -/
def kS (s : ByteArray) : Lit := .string s.data.toList
theorem kS_ne {s t : ByteArray} (h : s ≠ t) : kS s ≠ kS t := fun e => h (by
  unfold kS at e
  injection e with e
  apply ByteArray.ext
  exact Array.toList_inj.1 e)
theorem isKey_s (s : ByteArray) : WideAt.IsKeyLit (kS s) := trivial
theorem mlaw : Keyed Try.prog 9 := string_keyed Try.underlying9
theorem mzero (w : World) : (zeroValue 3).run Try.prog w = .ok (.int .i64 0) w := by kernel_rfl
structure MapOf (w : World) (b : Nat) (f : ByteArray → Option Nat) (n : Nat) : Prop where
  at_ : ∃ D : DataW Unit, w.ownsMap Try.prog 9 (plainElem Try.prog 3) b n D ∧ (∀ s, Maps.has D (kS s) = (f s).isSome) ∧ (∀ s, D.atKey (kS s) (.lit (.int .i64 0)) = .lit (.int .i64 (((f s).getD 0 : Nat) : Int))) ∧ Maps.size D = n
theorem MapOf.congr {w w' : World} {b n : Nat} {f : ByteArray → Option Nat} (h : MapOf w b f n) (hb : w'.heap[b]? = w.heap[b]?) : MapOf w' b f n := by
  obtain ⟨D, ⟨es, clock, h1, h2⟩, h3⟩ := h.at_
  exact ⟨D, ⟨es, clock, hb.trans h1, h2⟩, h3⟩
theorem MapOf.lt {w : World} {b n : Nat} {f : ByteArray → Option Nat} (h : MapOf w b f n) : b < w.heap.size := by
  obtain ⟨D, ⟨es, clock, h1, h2⟩, h3⟩ := h.at_
  exact (Array.getElem?_eq_some_iff.1 h1).1
theorem MapOf.eqf {w : World} {b n : Nat} {f g : ByteArray → Option Nat} (h : MapOf w b f n) (e : ∀ s, f s = g s) : MapOf w b g n := by
  rw [← funext e]; exact h
theorem own_size {w : World} {b n : Nat} {D : DataW Unit} (h : w.ownsMap Try.prog 9 (plainElem Try.prog 3) b n D) : w.ownsMap Try.prog 9 (plainElem Try.prog 3) b (Maps.size D) D := by
  obtain ⟨es, clock, h1, h2, h3, h4⟩ := h
  refine ⟨es, clock, h1, h2, ?_, h4⟩
  rw [h4]
  simp [Maps.size, length_sorted]
theorem map_put {w w' : World} {b n : Nat} {f : ByteArray → Option Nat} {D : DataW Unit} (x : ByteArray) (v : Nat) (hown : w.ownsMap Try.prog 9 (plainElem Try.prog 3) b n D) (hh : ∀ s, Maps.has D (kS s) = (f s).isSome) (ha : ∀ s, D.atKey (kS s) (.lit (.int .i64 0)) = .lit (.int .i64 (((f s).getD 0 : Nat) : Int))) (hs : Maps.size D = n)
    (hx : f x = none) (h' : w'.ownsMap Try.prog 9 (plainElem Try.prog 3) b (n + 1) (D.put (kS x) (.lit (.int .i64 (v : Int))))) : MapOf w' b (fun s => if s = x then some v else f s) (n + 1) := by
  have hm := hown.isMap
  refine ⟨_, h', fun s => ?_, fun s => ?_, ?_⟩
  · by_cases e : s = x
    · subst e
      rw [has_put_same hm (isKey_s s), if_pos rfl]; rfl
    · rw [has_put_other (kS_ne e), hh, if_neg e]
  · by_cases e : s = x
    · subst e
      rw [atKey_put_same hm (isKey_s s), if_pos rfl]; rfl
    · rw [atKey_put_other (kS_ne e), ha, if_neg e]
  · rw [size_put (hown.tidy mlaw), hh, hx, hs]; rfl
/-- a number put anew -/
theorem map_over {w w' : World} {b n : Nat} {f : ByteArray → Option Nat} {D : DataW Unit} (x : ByteArray) (v : Nat) (hown : w.ownsMap Try.prog 9 (plainElem Try.prog 3) b n D) (hh : ∀ s, Maps.has D (kS s) = (f s).isSome) (ha : ∀ s, D.atKey (kS s) (.lit (.int .i64 0)) = .lit (.int .i64 (((f s).getD 0 : Nat) : Int))) (hs : Maps.size D = n)
    (m : Nat) (h' : w'.ownsMap Try.prog 9 (plainElem Try.prog 3) b m (D.put (kS x) (.lit (.int .i64 (v : Int))))) : ∃ m', m' ≤ n + 1 ∧ MapOf w' b (fun s => if s = x then some v else f s) m' := by
  have hm := hown.isMap
  refine ⟨Maps.size (D.put (kS x) (.lit (.int .i64 (v : Int)))), ?_, _, own_size h', fun s => ?_, fun s => ?_, rfl⟩
  · rw [size_put (hown.tidy mlaw), hs]; split <;> omega
  · by_cases e : s = x
    · subst e
      rw [has_put_same hm (isKey_s s), if_pos rfl]; rfl
    · rw [has_put_other (kS_ne e), hh, if_neg e]
  · by_cases e : s = x
    · subst e
      rw [atKey_put_same hm (isKey_s s), if_pos rfl]; rfl
    · rw [atKey_put_other (kS_ne e), ha, if_neg e]
end Go.Proofs.Ytblbjgifhgfifaa
namespace Go.Proofs.Ytblbjgifhgfifaa
open Go.RowKit Go.Maps Go.WideMaps
set_option linter.unusedVariables false
set_option linter.unusedSimpArgs false
/-- the function that finds: k its number, b its map's box, m the map -/
structure Fnd (w : World) (b m : Nat) (ns : List ByteArray) : Prop where
  box : w.heap[b]? = some (.cells #[.map (some m)] 85 (0, 0))
  map : ∃ n, MapOf w m (pos ns) n
theorem Fnd.lt {w : World} {b m : Nat} {ns : List ByteArray} (h : Fnd w b m ns) : b < w.heap.size ∧ m < w.heap.size := by
  obtain ⟨n, hn⟩ := h.map; exact ⟨lt_of_heap h.box, hn.lt⟩
theorem Fnd.keep {w w' : World} {b m : Nat} {ns : List ByteArray} {S : List Nat} (h : Fnd w b m ns) (hf : Fr S w w') (h1 : b ∉ S) (h2 : m ∉ S) : Fnd w' b m ns := by
  obtain ⟨n, hn⟩ := h.map
  exact ⟨(hf.block b h.lt.1 h1).trans h.box, n, hn.congr (hf.block m h.lt.2 h2)⟩
theorem Fnd.idle {w w' : World} {b m : Nat} {ns : List ByteArray} (h : Fnd w b m ns) (hf : Fr [] w w') : Fnd w' b m ns := h.keep hf (by simp) (by simp)
set_option maxRecDepth 20000 in
set_option maxHeartbeats 1000000 in
theorem find58 (s : ByteArray) (b m : Nat) (ns : List ByteArray) (w : World) (h : Fnd w b m ns) (hs : s.size ≤ maxLen) :
    Calls Try.prog 58 #[.string s, .pointer (some ⟨b, 0, none⟩)] w fun e w' => e = .returned (.int .i64 (amongZ ns s)) ∧ w' = w := by
  have c0 : w.cell? ⟨b, 0, none⟩ = some (.map (some m)) := by rw [cell_in h.box]; rfl
  obtain ⟨n, D, hown, hh, ha, hz⟩ := h.map
  have hkey : keyOf Try.prog 9 (.string s) = some (kS s) := keyOf_string_mk Try.underlying9 hs
  have hhq := hh s
  have haq := ha s
  have HZ : Hid (amongZ ns s = match pos ns s with | some k => (k : Int) | none => -1) := mkHid rfl
  clear h hh ha
  cases hp : pos ns s with
  | some k =>
    rw [hp] at hhq haq HZ
    go_enter Try.func58, Try.ntmps58
    go_wp2_with (at_lookup; refine wpList_lookup_own_ok_int _ rfl _ _ 85 rfl 9 3 .i64 mlaw Try.underlying85 Try.underlying3 (mzero _) m n _ rfl hown _ _ rfl hkey ?_; intro c hat hwc; rw [hhq]; have HC : Hid ((k : Int) = c) := (by rw [haq] at hat; injection hat with hat; injection hat); clear hat)
    go_ret
    exact ⟨by rw [HZ.out, HC.out]; rfl, rfl⟩
  | none =>
    rw [hp] at hhq haq HZ
    go_enter Try.func58, Try.ntmps58
    go_wp2_with (at_lookup; refine wpList_lookup_own_ok_int _ rfl _ _ 85 rfl 9 3 .i64 mlaw Try.underlying85 Try.underlying3 (mzero _) m n _ rfl hown _ _ rfl hkey ?_; intro c hat hwc; rw [hhq]; clear hat)
    go_ret
    exact ⟨by rw [HZ.out]; rfl, rfl⟩
set_option maxRecDepth 20000 in
set_option maxHeartbeats 1000000 in
theorem find60 (s : ByteArray) (b m : Nat) (ns : List ByteArray) (w : World) (h : Fnd w b m ns) (hs : s.size ≤ maxLen) :
    Calls Try.prog 60 #[.string s, .pointer (some ⟨b, 0, none⟩)] w fun e w' => e = .returned (.int .i64 (amongZ ns s)) ∧ w' = w := by
  have c0 : w.cell? ⟨b, 0, none⟩ = some (.map (some m)) := by rw [cell_in h.box]; rfl
  obtain ⟨n, D, hown, hh, ha, hz⟩ := h.map
  have hkey : keyOf Try.prog 9 (.string s) = some (kS s) := keyOf_string_mk Try.underlying9 hs
  have hhq := hh s
  have haq := ha s
  have HZ : Hid (amongZ ns s = match pos ns s with | some k => (k : Int) | none => -1) := mkHid rfl
  clear h hh ha
  cases hp : pos ns s with
  | some k =>
    rw [hp] at hhq haq HZ
    go_enter Try.func60, Try.ntmps60
    go_wp2_with (at_lookup; refine wpList_lookup_own_ok_int _ rfl _ _ 85 rfl 9 3 .i64 mlaw Try.underlying85 Try.underlying3 (mzero _) m n _ rfl hown _ _ rfl hkey ?_; intro c hat hwc; rw [hhq]; have HC : Hid ((k : Int) = c) := (by rw [haq] at hat; injection hat with hat; injection hat); clear hat)
    go_ret
    exact ⟨by rw [HZ.out, HC.out]; rfl, rfl⟩
  | none =>
    rw [hp] at hhq haq HZ
    go_enter Try.func60, Try.ntmps60
    go_wp2_with (at_lookup; refine wpList_lookup_own_ok_int _ rfl _ _ 85 rfl 9 3 .i64 mlaw Try.underlying85 Try.underlying3 (mzero _) m n _ rfl hown _ _ rfl hkey ?_; intro c hat hwc; rw [hhq]; clear hat)
    go_ret
    exact ⟨by rw [HZ.out]; rfl, rfl⟩
set_option maxHeartbeats 400000 in
theorem itself_ok (s : ByteArray) (w : World) : Calls Try.prog 52 #[.string s] w fun e w' => e = .returned (.string s) ∧ w' = w := by
  go_enter Try.func52, Try.ntmps52
  go_wp2
  go_ret
  exact ⟨rfl, rfl⟩
set_option maxHeartbeats 400000 in
theorem nameOf_ok (s t : ByteArray) (v : Value) (n : Int) (w : World) : Calls Try.prog 48 #[.agg #[.string s, .string t, v, .int .i64 n]] w fun e w' => e = .returned (.string s) ∧ w' = w.alloc (.cells #[.string s, .string t, v, .int .i64 n] 47) := by
  go_enter Try.func48, Try.ntmps48
  go_wp2
  go_ret
  exact ⟨rfl, rfl⟩
end Go.Proofs.Ytblbjgifhgfifaa
namespace Go.Proofs.Ytblbjgifhgfifaa
open Go.RowKit Go.Maps Go.WideMaps
set_option linter.unusedVariables false
set_option linter.unusedSimpArgs false
theorem hidD {S : List Nat} {w w' : World} (h : Hid (Fr S w w')) : Hid (Fr S w w'.drew) := mkHid (h.out.trans (Fr.drew S _) (fun b hb => Or.inl hb))
/-- a call of a function value in a drawn region -/
theorem stepV {ops : Array Oper} {o : Oper} {a : Act} {w : World} {K : Act → World → Prop} {Q : Exit → Act → World → Prop} {E : Prop} (hw : Region.wanted o (yielded ops a.tmps) = true) (f : FuncId) (fn : Func) (hfn : Try.prog.funcs[f]? = some fn) (hnm : (fn.name == "runtime.NumGoroutine") = false) (hbd : fn.body.isSome = true) (x : Operand) (xs : Array Operand) (ts : Array TypeId)
    (ho : o.op = .call { callee := .value x, args := xs, argTypes := ts }) (caps : Array Value) (hx : a.eval x = .func (.func f) #[] caps) (vs : Array Value) (hvs : xs.map a.eval = vs) (R : Value → World → Prop) (hc : Calls Try.prog f (vs ++ caps) w fun e w' => ∃ v, e = .returned v ∧ R v w')
    (h : ∀ v w', R v w' → K (a.put o.dst v) w') : if Region.wanted o (yielded ops a.tmps) = true then Oper.wp Try.prog o a w K Q else E := by
  rw [if_pos hw]
  unfold Oper.wp
  have e1 : (execOp a.eval o).run Try.prog w = .ok (.enter f (vs ++ caps)) w := by
    have h1 : ¬ fn.name = "runtime.NumGoroutine" := by simpa using hnm
    have h2 : ¬ fn.body = none := by intro e; rw [e] at hbd; simp at hbd
    simp [execOp, ho, resolve, invoke, hx, hvs, Deferred.ofValue, callFunc, hfn, h1, h2]
  rw [e1]
  show Calls Try.prog f (vs ++ caps) w _
  exact hc.mono (fun e w' ⟨v, he, hr⟩ => by subst he; exact h v w' hr)
theorem stepW {ops : Array Oper} {o : Oper} {a : Act} {w : World} {K : Act → World → Prop} {Q : Exit → Act → World → Prop} {E : Prop} (hw : Region.wanted o (yielded ops a.tmps) = true) (f : FuncId) (fn : Func) (hfn : Try.prog.funcs[f]? = some fn) (hnm : (fn.name == "runtime.NumGoroutine") = false) (hbd : fn.body.isSome = true) (x : Operand) (xs : Array Operand) (ts : Array TypeId)
    (ho : o.op = .call { callee := .value x, args := xs, argTypes := ts }) (caps : Array Value) (hx : a.eval x = .func (.func f) #[] caps) (all : Array Value) (hvs : xs.map a.eval ++ caps = all) (R : Value → World → Prop) (hc : Calls Try.prog f all w fun e w' => ∃ v, e = .returned v ∧ R v w')
    (h : ∀ v w', R v w' → K (a.put o.dst v) w') : if Region.wanted o (yielded ops a.tmps) = true then Oper.wp Try.prog o a w K Q else E :=
  stepV hw f fn hfn hnm hbd x xs ts ho caps hx _ rfl R (by rw [hvs]; exact hc) h
theorem stepG {ops : Array Oper} {o : Oper} {a : Act} {w : World} {K : Act → World → Prop} {Q : Exit → Act → World → Prop} {E : Prop} (hw : Region.wanted o (yielded ops a.tmps) = true) (f : FuncId) (fn : Func) (hfn : Try.prog.funcs[f]? = some fn) (hnm : (fn.name == "runtime.NumGoroutine") = false) (hbd : fn.body.isSome = true) (xs : Array Operand) (ts : Array TypeId)
    (ho : o.op = .call { callee := .value (.func f), args := xs, argTypes := ts }) (vs : Array Value) (hvs : xs.map a.eval = vs) (R : Value → World → Prop) (hc : Calls Try.prog f vs w fun e w' => ∃ v, e = .returned v ∧ R v w')
    (h : ∀ v w', R v w' → K (a.put o.dst v) w') : if Region.wanted o (yielded ops a.tmps) = true then Oper.wp Try.prog o a w K Q else E := by
  rw [if_pos hw]
  unfold Oper.wp
  have e1 : (execOp a.eval o).run Try.prog w = .ok (.enter f vs) w := by
    have h1 : ¬ fn.name = "runtime.NumGoroutine" := by simpa using hnm
    have h2 : ¬ fn.body = none := by intro e; rw [e] at hbd; simp at hbd
    simp [execOp, ho, resolve, invoke, Act.eval, hvs, Deferred.ofValue, callFunc, hfn, h1, h2]
  rw [e1]
  show Calls Try.prog f vs w _
  exact hc.mono (fun e w' ⟨v, he, hr⟩ => by subst he; exact h v w' hr)
/-- an entry put into a map in a drawn region -/
theorem stepM {ops : Array Oper} {o : Oper} {a : Act} {w : World} {K : Act → World → Prop} {Q : Exit → Act → World → Prop} {E : Prop} (hw : Region.wanted o (yielded ops a.tmps) = true) (m x v : Operand) (t : TypeId) (ho : o.op = .mapUpdate t m x v) (vm vx vv : Value) (hm : a.eval m = vm) (hx : a.eval x = vx) (hv : a.eval v = vv)
    (w' : World) (hr : (Instr.mapUpdate t vm vx vv).run Try.prog w = .ok () w') (h : K (a.put o.dst undef) w') : if Region.wanted o (yielded ops a.tmps) = true then Oper.wp Try.prog o a w K Q else E := by
  rw [if_pos hw]
  unfold Oper.wp
  simp [execOp, ho, hm, hx, hv, hr, Result.andThen]
  exact h
theorem oneH {P : Program} {md : Region.Mode} {ops : Array Oper} {Q : Exit → Act → World → Prop} {S : World → Prop} {i : Nat} {o : Oper} {fuel : Nat} {listed : Array Bool} {a : Act} {w : World} (hr : Region.ready md ops listed = [i]) (ho : ops[i]? = some o)
    (h : ∀ K' : Act → World → Prop, Hid (∀ a w, S w → (S w → wpAnyH P md ops Q S fuel (listed.setIfInBounds i true) a w) → K' a w) → if Region.wanted o (yielded ops a.tmps) = true then Oper.wp P o a w K' Q else K' (a.put o.dst undef) w) : wpAnyH P md ops Q S (fuel + 1) listed a w := by
  refine ⟨fun h0 => (by rw [hr] at h0; cases h0), fun j hj => ?_⟩
  rw [hr] at hj
  have e : j = i := by simpa using hj
  subst e
  exact wpOp_step ho (fun K' hK => h K' (fun a w hS hW => hK a w ⟨hS, hW hS⟩))
end Go.Proofs.Ytblbjgifhgfifaa
namespace Go.Proofs.Ytblbjgifhgfifaa
open Go.RowKit Go.Maps Go.WideMaps
set_option linter.unusedVariables false
set_option linter.unusedSimpArgs false
/-- the map being made: how many it has, too -/
structure Fdn (w : World) (b m : Nat) (ns : List ByteArray) : Prop where
  box : w.heap[b]? = some (.cells #[.map (some m)] 85 (0, 0))
  map : ∃ n, n ≤ ns.length ∧ MapOf w m (pos ns) n
theorem Fdn.fnd {w : World} {b m : Nat} {ns : List ByteArray} (h : Fdn w b m ns) : Fnd w b m ns := by
  obtain ⟨n, _, hn⟩ := h.map; exact ⟨h.box, n, hn⟩
theorem Fdn.idle {w w' : World} {b m : Nat} {ns : List ByteArray} (h : Fdn w b m ns) (hf : Fr [] w w') : Fdn w' b m ns := by
  obtain ⟨n, h1, hn⟩ := h.map
  exact ⟨(hf.block b h.fnd.lt.1 (by simp)).trans h.box, n, h1, hn.congr (hf.block m h.fnd.lt.2 (by simp))⟩
theorem Fdn.ne {w : World} {b m : Nat} {ns : List ByteArray} (h : Fdn w b m ns) : b ≠ m := fun e => by
  obtain ⟨n, _, D, ⟨es, clock, h1, _⟩, _⟩ := h.map
  have := h.box
  rw [e, h1] at this
  cases this
theorem Fdn.look {w : World} {b m : Nat} {ns : List ByteArray} (h : Fdn w b m ns) {s : ByteArray} (hs : s.size ≤ maxLen) :
    (Instr.lookup 85 (.map (some m)) (.string s) true).run Try.prog w = .ok (.tuple #[.int .i64 (((pos ns s).getD 0 : Nat) : Int), .bool (pos ns s).isSome]) w := by
  obtain ⟨n, _, D, hown, hh, ha, hz⟩ := h.map
  obtain ⟨v, ps, hrun, hv⟩ := hown.look_ok mlaw Try.underlying85 (mzero w) (plainElem_int Try.underlying3 (by decide)) (keyOf_string_mk Try.underlying9 hs)
  obtain ⟨c, rfl, hc, hwc⟩ := plainElem_int_inv Try.underlying3 hv
  have hc' := congrArg Prod.fst hc
  have e1 := ha s
  rw [show kS s = Lit.string s.data.toList from rfl] at e1
  simp only at hc'
  rw [hc'] at e1
  injection e1 with e1
  injection e1 with _ e1
  rw [hrun, e1]
  have := hh s
  rw [show kS s = Lit.string s.data.toList from rfl] at this
  rw [this]
theorem pos_old {ns : List ByteArray} {s : ByteArray} (h : (pos ns s).isSome = true) : ∀ x, pos (ns ++ [s]) x = pos ns x := fun x => by
  rw [pos_append]
  cases hx : pos ns x with
  | some k => rfl
  | none =>
    have hne : s ≠ x := fun e => by subst e; rw [hx] at h; cases h
    simp [pos, hne]
theorem pos_new {ns : List ByteArray} {s : ByteArray} (h : pos ns s = none) : ∀ x, (if x = s then some ns.length else pos ns x) = pos (ns ++ [s]) x := fun x => by
  rw [pos_append]
  by_cases e : x = s
  · subst e; rw [if_pos rfl, h]; simp [pos]
  · rw [if_neg e]
    cases hx : pos ns x with
    | some k => rfl
    | none => simp [pos, Ne.symm e]
theorem Fdn.old {w : World} {b m : Nat} {ns : List ByteArray} (h : Fdn w b m ns) {s : ByteArray} (hp : (pos ns s).isSome = true) : Fdn w b m (ns ++ [s]) := by
  obtain ⟨n, h1, hn⟩ := h.map
  exact ⟨h.box, n, by simp; omega, hn.eqf (fun x => (pos_old hp x).symm)⟩
theorem Fdn.put {w : World} {b m : Nat} {ns : List ByteArray} (h : Fdn w b m ns) {s : ByteArray} (hs : s.size ≤ maxLen) (hp : pos ns s = none) (hl : ns.length ≤ 8796093022208) :
    ∃ w', (Instr.mapUpdate 85 (.map (some m)) (.string s) (.int .i64 (ns.length : Int))).run Try.prog w = .ok () w' ∧ Fdn w' b m (ns ++ [s]) ∧ Fr [m] w w' := by
  obtain ⟨n, h1, D, hown, hh, ha, hz⟩ := h.map
  obtain ⟨w', hrun, r1, r2⟩ := hown.update mlaw Try.underlying85 (by unfold maxLen; omega) (keyOf_string_mk Try.underlying9 hs) (plainElem_int Try.underlying3 (WalkArith.wf_i64 (n := (ns.length : Int)) (by omega)))
  have f : Fr [m] w w' := Fr.grown r2 (fun k hk => by injection hk with hk; simp [hk])
  refine ⟨w', hrun, ⟨(f.block b h.fnd.lt.1 (by have := h.ne; simp [this])).trans h.box, n + 1, by simp; omega, ?_⟩, f⟩
  exact (map_put s ns.length hown hh ha hz hp r1).eqf (pos_new hp)
theorem run_makeMapN (w : World) (n : Int) : (Instr.makeMap 85 (some (.int .i64 n))).run Try.prog w = .ok (.map (some w.heap.size)) (w.alloc (.map #[] 0)) := by
  simp [Instr.makeMap, run_underlying Try.underlying85, asInt, asIntOf]
set_option maxRecDepth 20000 in
set_option maxHeartbeats 2000000 in
theorem finderS_ok (ns : List ByteArray) (v : Value) (w : World) (h : RdS w v ns) (hz : ∀ s ∈ ns, s.size ≤ maxLen) :
    Calls Try.prog 51 #[v, .func (.func 52) #[] #[]] w fun e w' => ∃ b m, e = .returned (.func (.func 60) #[] #[.pointer (some ⟨b, 0, none⟩)]) ∧ Fnd w' b m ns ∧ Fr [] w w' ∧ w.heap.size ≤ b ∧ w.heap.size ≤ m := by
  obtain ⟨p, c, rfl, h1⟩ := h.at_
  have s1 := h.short
  have H1 := mkHid h1
  have HZ := mkHid hz
  have hmm := run_makeMapN
  have e52 := enters_of Try.func52 (by kernel_rfl) rfl
  clear h h1 hz
  go_enter Try.func51, Try.ntmps51
  go_wp2_with fail
  clear hmm
  go_loopw [15] (fun q wr => ∃ i : Nat, i ≤ ns.length ∧ q = .int .i64 i ∧ Hid (Fdn wr (w.heap.size + 1) w.heap.size (ns.take i)) ∧ Hid (Fr [] w wr)) (fun q _ => ns.length - (intOf q).toNat)
  case atStart =>
    refine ⟨0, Nat.zero_le _, rfl, mkHid ?_, mkHid ?_⟩
    · rw [List.take_zero]
      refine ⟨?_, 0, Nat.zero_le _, ?_⟩
      · have hx := heap_alloc_new (w.alloc (.map #[] 0)) (.cells #[.map (some w.heap.size)] 85)
        have e1 : (w.alloc (.map #[] 0)).heap.size = w.heap.size + 1 := by simp
        rw [e1] at hx
        exact hx
      · have hx : (w.alloc (.map #[] 0)).ownsMap Try.prog 9 (plainElem (H := Unit) Try.prog 3) w.heap.size 0 (.map []) := World.ownsMap_made w _ _ _
        obtain ⟨es, clock, y1, y2⟩ := hx
        refine ⟨.map [], ⟨es, clock, ?_, y2⟩, fun s => rfl, fun s => rfl, rfl⟩
        rw [Below.heap_alloc _ _ _ (by simp)]
        exact y1
    · exact (Fr.alloc [] w _).trans (Fr.alloc [] _ _) (by simp)
  case round =>
    obtain ⟨i, hi, rfl, hfd, hfr⟩ := hrel
    have i1 : (0 : Int) ≤ (i : Int) := by omega
    by_cases hlt : i < ns.length
    · have i3 : (i : Int) < (ns.length : Int) := by omega
      obtain ⟨g, off, rfl, x1, x2⟩ := H1.out (by omega)
      have k1 := (hfr.out.cell (p := ⟨g, off + i, none⟩) x1 (by simp)).trans (x2 i hlt)
      have hsz := HZ.out (ns.getD i ⟨#[]⟩) (by rw [List.getD_eq_getElem?_getD, List.getElem?_eq_getElem hlt]; exact List.getElem_mem hlt)
      have HT : Hid (ns.take i ++ [ns.getD i ⟨#[]⟩] = ns.take (i + 1)) := mkHid (take_snoc hlt)
      have HL : Hid ((ns.take i).length = i) := mkHid (by simp; omega)
      generalize ns.getD i ⟨#[]⟩ = s at *
      generalize ns.take i = ts at *
      have HS : Hid (∀ V, Hid (Fr [] wr V) → V.cell? ⟨w.heap.size + 1, 0, none⟩ = some (.map (some w.heap.size)) ∧ (Instr.lookup 85 (.map (some w.heap.size)) (.string s) true).run Try.prog V = .ok (.tuple #[.int .i64 (((pos ts s).getD 0 : Nat) : Int), .bool (pos ts s).isSome]) V) := mkHid (fun V hV => by
        have hd := hfd.out.idle hV.out
        exact ⟨by rw [cell_in hd.box]; rfl, hd.look hsz⟩)
      have hR : Hid (Fr [] wr wr) := mkHid (Fr.refl _ _)
      cases hp : pos ts s with
      | some k =>
        have HN : Hid (∀ V, Fr [] wr V → Fdn V (w.heap.size + 1) w.heap.size (ns.take (i + 1))) := mkHid (fun V hV => by rw [← HT.out]; exact (hfd.out.idle hV).old (by rw [hp]; rfl))
        rw [hp] at HS
        clear hp x1 x2 hsz HT HL H1 HZ hfd
        go_wp2_with fail
        go_region_held3 (fun V => V.cell? ⟨w.heap.size + 1, 0, none⟩ = some (.map (some w.heap.size)) ∧ (Instr.lookup 85 (.map (some w.heap.size)) (.string s) true).run Try.prog V = .ok (.tuple #[.int .i64 (((some k).getD 0 : Nat) : Int), .bool (some k).isSome]) V)
          (first | exact HS.out _ (hidD hR) | exact HS.out _ hR | exact HS.out _ hg3)
          (first | (go_at_call 52; refine (itself_ok s _).mono ?_; rintro e w3 ⟨rfl, rfl⟩))
        go_wp2_with fail
        go_roundw
        case rel => exact ⟨i + 1, by omega, by go_num, mkHid (HN.out _ (Fr.drew [] _)), mkHid (hfr.out.trans (Fr.drew [] _) (by simp))⟩
        case measure => simp [intOf]; omega
      | none =>
        have HP : Hid (∀ V, Hid (Fr [] wr V) → ∃ w', (Instr.mapUpdate 85 (.map (some w.heap.size)) (.string s) (.int .i64 (i : Int))).run Try.prog V = .ok () w' ∧ Hid (Fdn w' (w.heap.size + 1) w.heap.size (ns.take (i + 1))) ∧ Hid (Fr [] w w')) := mkHid (fun V hV => by
          have := (hfd.out.idle hV.out).put hsz hp (by rw [HL.out]; omega)
          rw [HL.out, HT.out] at this
          obtain ⟨w', q1, q2, q3⟩ := this
          exact ⟨w', q1, mkHid q2, mkHid ((hfr.out.trans hV.out (by simp)).trans q3 (by simp))⟩)
        have HB : Hid (∀ V, Hid (Fdn V (w.heap.size + 1) w.heap.size (ns.take (i + 1))) → V.cell? ⟨w.heap.size + 1, 0, none⟩ = some (.map (some w.heap.size))) := mkHid (fun V hV => by rw [cell_in hV.out.box]; rfl)
        rw [hp] at HS
        clear hp x1 x2 hsz HT HL H1 HZ hfd
        go_wp2_with fail
        go_region_held3 (fun V => V.cell? ⟨w.heap.size + 1, 0, none⟩ = some (.map (some w.heap.size)) ∧ (Instr.lookup 85 (.map (some w.heap.size)) (.string s) true).run Try.prog V = .ok (.tuple #[.int .i64 (((none : Option Nat).getD 0 : Nat) : Int), .bool (none : Option Nat).isSome]) V)
          (first | exact HS.out _ (hidD hR) | exact HS.out _ hR | exact HS.out _ hg3)
          (first | (go_at_call 52; refine (itself_ok s _).mono ?_; rintro e w3 ⟨rfl, rfl⟩))
        go_wp2_with fail
        refine wp_region_held_drew (S := fun V => V.cell? ⟨w.heap.size + 1, 0, none⟩ = some (.map (some w.heap.size))) (by kernel_rfl) ((HS.out _ (hidD (hidD hR))).1) (fun hHeld => ?_)
        refine wpAnyH_take (i := 0) (v := ?_) rfl (by kernel_rfl) (by kernel_rfl) (by kernel_rfl) (fun _ _ _ h => h) (Or.inl ⟨by rfl, ?_⟩) (by assumption) ?_
        rotate_left
        · (intro w hSw; (try dsimp only at hSw); first | (go_simp; done) | (go_simp; with_reducible rfl))
        try simp only [Act.put, List.getElem_toArray, List.getElem_cons_zero, List.getElem_cons_succ, List.setIfInBounds_toArray, List.set_cons_zero, List.set_cons_succ]
        refine wpAnyH_take (i := 1) (v := ?_) rfl (by kernel_rfl) (by kernel_rfl) (by kernel_rfl) (fun _ _ _ h => h) (Or.inl ⟨by rfl, ?_⟩) (by assumption) ?_
        rotate_left
        · (intro w hSw; (try dsimp only at hSw); first | (go_simp; done) | (go_simp; with_reducible rfl))
        try simp only [Act.put, List.getElem_toArray, List.getElem_cons_zero, List.getElem_cons_succ, List.setIfInBounds_toArray, List.set_cons_zero, List.set_cons_succ]
        refine wpAnyH_take (i := 2) (v := ?_) rfl (by kernel_rfl) (by kernel_rfl) (by kernel_rfl) (fun _ _ _ h => h) (Or.inl ⟨by rfl, ?_⟩) (by assumption) ?_
        rotate_left
        · (intro w hSw; (try dsimp only at hSw); first | (go_simp; done) | (go_simp; with_reducible rfl))
        try simp only [Act.put, List.getElem_toArray, List.getElem_cons_zero, List.getElem_cons_succ, List.setIfInBounds_toArray, List.set_cons_zero, List.set_cons_succ]
        refine wpAnyH_take (i := 4) (v := ?_) rfl (by kernel_rfl) (by kernel_rfl) (by kernel_rfl) (fun _ _ _ h => h) (Or.inl ⟨by rfl, ?_⟩) (by assumption) ?_
        rotate_left
        · (intro w hSw; (try dsimp only at hSw); first | (go_simp; done) | (go_simp; with_reducible rfl))
        try simp only [Act.put, List.getElem_toArray, List.getElem_cons_zero, List.getElem_cons_succ, List.setIfInBounds_toArray, List.set_cons_zero, List.set_cons_succ]
        refine oneH (i := 3) (by kernel_rfl) rfl (fun K hK => ?_)
        refine stepV (by rfl) 52 Try.f52 Try.func52 (by kernel_rfl) (by kernel_rfl) _ _ _ rfl #[] rfl _ (by first | (simp [Act.eval]; done) | (simp [Act.eval]; rfl)) (fun v w2 => v = .string s ∧ Hid (Fr [] wr w2)) (Calls.mono (itself_ok s _) (fun e w2 hh => ⟨_, hh.1, rfl, hh.2 ▸ hidD (hidD hR)⟩)) ?_
        rintro _ w4 ⟨rfl, hg4⟩
        refine hK.out _ _ ((HS.out _ hg4).1) (fun hHeld => ?_)
        clear hK K
        try simp only [Act.put, List.getElem_toArray, List.getElem_cons_zero, List.getElem_cons_succ, List.setIfInBounds_toArray, List.set_cons_zero, List.set_cons_succ]
        obtain ⟨w5, q5, hd5, hf5⟩ := HP.out _ hg4
        refine oneH (i := 5) (by kernel_rfl) rfl (fun K hK => ?_)
        refine stepM (by rfl) _ _ _ _ rfl _ _ _ rfl rfl rfl _ q5 ?_
        refine hK.out _ _ (HB.out _ hd5) (fun hHeld => ?_)
        clear hK K
        try simp only [Act.put, List.getElem_toArray, List.getElem_cons_zero, List.getElem_cons_succ, List.setIfInBounds_toArray, List.set_cons_zero, List.set_cons_succ]
        refine wpAnyH_done (by kernel_rfl) ?_ _
        go_wp2_with fail
        go_roundw
        case rel => exact ⟨i + 1, by omega, by go_num, hd5, hf5⟩
        case measure => simp [intOf]; omega
    · have hie : i = ns.length := by omega
      subst hie
      rw [List.take_length] at hfd
      clear H1 HZ
      go_wp2_with fail
      go_ret
      exact ⟨_, _, rfl, hfd.out.fnd, hfr.out, by omega, by omega⟩
end Go.Proofs.Ytblbjgifhgfifaa
namespace Go.Proofs.Ytblbjgifhgfifaa
open Go.RowKit Go.Maps Go.WideMaps
set_option linter.unusedVariables false
set_option linter.unusedSimpArgs false
theorem names_take (l : List Cl) {i : Nat} (hi : i < l.length) : (names l).take i ++ [(clAt l i).name] = (names l).take (i + 1) := by
  rw [List.take_succ_eq_append_getElem (by unfold names; simpa using hi)]
  congr 2
  have := names_at hi
  rw [List.getElem?_eq_getElem (by unfold names; simpa using hi)] at this
  exact (Option.some.inj this).symm
set_option maxRecDepth 20000 in
set_option maxHeartbeats 2000000 in
theorem finderC_ok (l : List Cl) (v : Value) (w : World) (h : RdC w v l) (hz : ∀ k, k < l.length → (clAt l k).name.size ≤ maxLen) :
    Calls Try.prog 47 #[v, .func (.func 48) #[] #[]] w fun e w' => ∃ b m, e = .returned (.func (.func 58) #[] #[.pointer (some ⟨b, 0, none⟩)]) ∧ Fnd w' b m (names l) ∧ Fr [] w w' ∧ w.heap.size ≤ b ∧ w.heap.size ≤ m := by
  have HW : Hid (∀ d, d < l.length → ∃ pv nv cv, (clAt l d).v = .slice pv nv cv) := mkHid (fun d hd => by obtain ⟨pv, cv, e, _⟩ := (h.own d hd).at_; exact ⟨pv, _, cv, e⟩)
  obtain ⟨p, c, rfl, h1⟩ := h.at_
  have s1 := h.short
  have H1 := mkHid h1
  have HZ := mkHid hz
  have hmm := run_makeMapN
  clear h h1 hz
  go_enter Try.func47, Try.ntmps47
  go_wp2_with fail
  clear hmm
  go_loopw [15] (fun q wr => ∃ i : Nat, i ≤ l.length ∧ q = .int .i64 i ∧ Hid (Fdn wr (w.heap.size + 1) w.heap.size ((names l).take i)) ∧ Hid (Fr [] w wr)) (fun q _ => l.length - (intOf q).toNat)
  case atStart =>
    refine ⟨0, Nat.zero_le _, rfl, mkHid ?_, mkHid ?_⟩
    · rw [List.take_zero]
      refine ⟨?_, 0, Nat.zero_le _, ?_⟩
      · have hx := heap_alloc_new (w.alloc (.map #[] 0)) (.cells #[.map (some w.heap.size)] 85)
        have e1 : (w.alloc (.map #[] 0)).heap.size = w.heap.size + 1 := by simp
        rw [e1] at hx
        exact hx
      · have hx : (w.alloc (.map #[] 0)).ownsMap Try.prog 9 (plainElem (H := Unit) Try.prog 3) w.heap.size 0 (.map []) := World.ownsMap_made w _ _ _
        obtain ⟨es, clock, y1, y2⟩ := hx
        refine ⟨.map [], ⟨es, clock, ?_, y2⟩, fun s => rfl, fun s => rfl, rfl⟩
        rw [Below.heap_alloc _ _ _ (by simp)]
        exact y1
    · exact (Fr.alloc [] w _).trans (Fr.alloc [] _ _) (by simp)
  case round =>
    obtain ⟨i, hi, rfl, hfd, hfr⟩ := hrel
    have i1 : (0 : Int) ≤ (i : Int) := by omega
    by_cases hlt : i < l.length
    · have i3 : (i : Int) < (l.length : Int) := by omega
      obtain ⟨g, off, rfl, x1, x2⟩ := H1.out (by omega)
      obtain ⟨y0, y1, y2, y3⟩ := x2 i hlt
      have k0 := (hfr.out.cell (p := ⟨g, off + i * 4, none⟩) x1 (by simp)).trans y0
      have k1 := (hfr.out.cell (p := ⟨g, off + i * 4 + 1, none⟩) x1 (by simp)).trans y1
      have k2 := (hfr.out.cell (p := ⟨g, off + i * 4 + 2, none⟩) x1 (by simp)).trans y2
      have k3 := (hfr.out.cell (p := ⟨g, off + i * 4 + 3, none⟩) x1 (by simp)).trans y3
      obtain ⟨pv, nv, cv, ev⟩ := HW.out i hlt
      rw [ev] at k2
      have hsz := HZ.out i hlt
      have HT : Hid ((names l).take i ++ [(clAt l i).name] = (names l).take (i + 1)) := mkHid (names_take l hlt)
      have HL : Hid (((names l).take i).length = i) := mkHid (by simp [names]; omega)
      generalize (clAt l i).name = s at *
      generalize (clAt l i).sup = sp at *
      generalize (clAt l i).lay = ly at *
      generalize (names l).take i = ts at *
      clear ev x1 x2 y0 y1 y2 y3
      have F1 := Fr.alloc [] wr (.cells #[.string s, .string sp, .slice pv nv cv, .int .i64 ly] 47)
      have HS : Hid (∀ V, Hid (Fr [] (wr.alloc (.cells #[.string s, .string sp, .slice pv nv cv, .int .i64 ly] 47)) V) → V.cell? ⟨w.heap.size + 1, 0, none⟩ = some (.map (some w.heap.size)) ∧ (Instr.lookup 85 (.map (some w.heap.size)) (.string s) true).run Try.prog V = .ok (.tuple #[.int .i64 (((pos ts s : Option Nat).getD 0 : Nat) : Int), .bool (pos ts s : Option Nat).isSome]) V ∧ V.cell? ⟨wr.heap.size, 0, none⟩ = some (.string s) ∧ V.cell? ⟨wr.heap.size, 1, none⟩ = some (.string sp) ∧ V.cell? ⟨wr.heap.size, 2, none⟩ = some (.slice pv nv cv) ∧ V.cell? ⟨wr.heap.size, 3, none⟩ = some (.int .i64 ly)) := mkHid (fun V hV => by
        have hd := (hfd.out.idle F1).idle hV.out
        have hb := (hV.out.block wr.heap.size (by simp) (by simp)).trans (heap_alloc_new wr _)
        exact ⟨by rw [cell_in hd.box]; rfl, hd.look hsz, by rw [cell_in hb]; rfl, by rw [cell_in hb]; rfl, by rw [cell_in hb]; rfl, by rw [cell_in hb]; rfl⟩)
      have HN48 : Hid (∀ V, Hid (Fr [] (wr.alloc (.cells #[.string s, .string sp, .slice pv nv cv, .int .i64 ly] 47)) V) → Calls Try.prog 48 #[.agg #[.string s, .string sp, .slice pv nv cv, .int .i64 ly]] V fun e w' => e = .returned (.string s) ∧ Hid (Fr [] (wr.alloc (.cells #[.string s, .string sp, .slice pv nv cv, .int .i64 ly] 47)) w')) := mkHid (fun V hV => by
        refine Calls.mono (nameOf_ok s sp _ ly V) ?_
        rintro e w' ⟨rfl, rfl⟩
        exact ⟨rfl, mkHid (hV.out.trans (Fr.alloc [] _ _) (by simp))⟩)
      have hR : Hid (Fr [] (wr.alloc (.cells #[.string s, .string sp, .slice pv nv cv, .int .i64 ly] 47)) (wr.alloc (.cells #[.string s, .string sp, .slice pv nv cv, .int .i64 ly] 47))) := mkHid (Fr.refl _ _)
      cases hp : pos ts s with
      | some k =>
        have HN : Hid (∀ V, Hid (Fr [] (wr.alloc (.cells #[.string s, .string sp, .slice pv nv cv, .int .i64 ly] 47)) V) → Hid (Fdn V (w.heap.size + 1) w.heap.size ((names l).take (i + 1))) ∧ Hid (Fr [] w V)) := mkHid (fun V hV => ⟨mkHid (by rw [← HT.out]; exact ((hfd.out.idle F1).idle hV.out).old (by rw [hp]; rfl)), mkHid ((hfr.out.trans F1 (by simp)).trans hV.out (by simp))⟩)
        rw [hp] at HS
        clear hp hsz HT HL H1 HZ hfd F1 HW
        go_wp2_with fail
        go_region_held3 (fun V => V.cell? ⟨w.heap.size + 1, 0, none⟩ = some (.map (some w.heap.size)) ∧ (Instr.lookup 85 (.map (some w.heap.size)) (.string s) true).run Try.prog V = .ok (.tuple #[.int .i64 (((some k : Option Nat).getD 0 : Nat) : Int), .bool (some k : Option Nat).isSome]) V ∧ V.cell? ⟨wr.heap.size, 0, none⟩ = some (.string s) ∧ V.cell? ⟨wr.heap.size, 1, none⟩ = some (.string sp) ∧ V.cell? ⟨wr.heap.size, 2, none⟩ = some (.slice pv nv cv) ∧ V.cell? ⟨wr.heap.size, 3, none⟩ = some (.int .i64 ly))
          (first | exact HS.out _ hg3 | exact HS.out _ (hidD hR) | exact HS.out _ hR)
          (first | (go_at_call 48; refine (HN48.out _ (hidD hR)).mono ?_; rintro e w3 ⟨rfl, hg3⟩))
        obtain ⟨N1, N2⟩ := HN.out _ hg3
        go_wp2_with fail
        go_roundw
        case rel => exact ⟨i + 1, by omega, by go_num, N1, N2⟩
        case measure => simp [intOf]; omega
      | none =>
        have HP : Hid (∀ V, Hid (Fr [] (wr.alloc (.cells #[.string s, .string sp, .slice pv nv cv, .int .i64 ly] 47)) V) → ∃ w', (Instr.mapUpdate 85 (.map (some w.heap.size)) (.string s) (.int .i64 (i : Int))).run Try.prog V = .ok () w' ∧ Hid (Fdn w' (w.heap.size + 1) w.heap.size ((names l).take (i + 1))) ∧ Hid (Fr [] w w') ∧ (w'.cell? ⟨wr.heap.size, 0, none⟩ = some (.string s) ∧ w'.cell? ⟨wr.heap.size, 1, none⟩ = some (.string sp) ∧ w'.cell? ⟨wr.heap.size, 2, none⟩ = some (.slice pv nv cv) ∧ w'.cell? ⟨wr.heap.size, 3, none⟩ = some (.int .i64 ly))) := mkHid (fun V hV => by
          have := ((hfd.out.idle F1).idle hV.out).put hsz hp (by rw [HL.out]; omega)
          rw [HL.out, HT.out] at this
          obtain ⟨w', q1, q2, q3⟩ := this
          have hb := (hV.out.block wr.heap.size (by simp) (by simp)).trans (heap_alloc_new wr _)
          have hb2 := (q3.block wr.heap.size (lt_of_heap hb) (by have := hfd.out.fnd.lt.2; simp; omega)).trans hb
          exact ⟨w', q1, mkHid q2, mkHid (((hfr.out.trans F1 (by simp)).trans hV.out (by simp)).trans q3 (by simp)), by rw [cell_in hb2]; rfl, by rw [cell_in hb2]; rfl, by rw [cell_in hb2]; rfl, by rw [cell_in hb2]; rfl⟩)
        have HB : Hid (∀ V, Hid (Fdn V (w.heap.size + 1) w.heap.size ((names l).take (i + 1))) → V.cell? ⟨w.heap.size + 1, 0, none⟩ = some (.map (some w.heap.size))) := mkHid (fun V hV => by rw [cell_in hV.out.box]; rfl)
        rw [hp] at HS
        clear hp hsz HT HL H1 HZ hfd F1 HW
        go_wp2_with fail
        go_region_held3 (fun V => V.cell? ⟨w.heap.size + 1, 0, none⟩ = some (.map (some w.heap.size)) ∧ (Instr.lookup 85 (.map (some w.heap.size)) (.string s) true).run Try.prog V = .ok (.tuple #[.int .i64 (((none : Option Nat).getD 0 : Nat) : Int), .bool (none : Option Nat).isSome]) V ∧ V.cell? ⟨wr.heap.size, 0, none⟩ = some (.string s) ∧ V.cell? ⟨wr.heap.size, 1, none⟩ = some (.string sp) ∧ V.cell? ⟨wr.heap.size, 2, none⟩ = some (.slice pv nv cv) ∧ V.cell? ⟨wr.heap.size, 3, none⟩ = some (.int .i64 ly))
          (first | exact HS.out _ hg3 | exact HS.out _ (hidD hR) | exact HS.out _ hR)
          (first | (go_at_call 48; refine (HN48.out _ (hidD hR)).mono ?_; rintro e w3 ⟨rfl, hg3⟩))
        go_wp2_with fail
        refine wp_region_held_drew (S := fun V => V.cell? ⟨w.heap.size + 1, 0, none⟩ = some (.map (some w.heap.size)) ∧ V.cell? ⟨wr.heap.size, 0, none⟩ = some (.string s) ∧ V.cell? ⟨wr.heap.size, 1, none⟩ = some (.string sp) ∧ V.cell? ⟨wr.heap.size, 2, none⟩ = some (.slice pv nv cv) ∧ V.cell? ⟨wr.heap.size, 3, none⟩ = some (.int .i64 ly)) (by kernel_rfl) (⟨(HS.out _ (hidD hg3)).1, (HS.out _ (hidD hg3)).2.2⟩) (fun hHeld => ?_)
        refine wpAnyH_take (i := 0) (v := ?_) rfl (by kernel_rfl) (by kernel_rfl) (by kernel_rfl) (fun _ _ _ h => h) (Or.inl ⟨by rfl, ?_⟩) (by assumption) ?_
        rotate_left
        · (intro w hSw; (try dsimp only at hSw); first | (go_simp; done) | (go_simp; with_reducible rfl))
        try simp only [Act.put, List.getElem_toArray, List.getElem_cons_zero, List.getElem_cons_succ, List.setIfInBounds_toArray, List.set_cons_zero, List.set_cons_succ]
        refine wpAnyH_take (i := 1) (v := ?_) rfl (by kernel_rfl) (by kernel_rfl) (by kernel_rfl) (fun _ _ _ h => h) (Or.inl ⟨by rfl, ?_⟩) (by assumption) ?_
        rotate_left
        · (intro w hSw; (try dsimp only at hSw); first | (go_simp; done) | (go_simp; with_reducible rfl))
        try simp only [Act.put, List.getElem_toArray, List.getElem_cons_zero, List.getElem_cons_succ, List.setIfInBounds_toArray, List.set_cons_zero, List.set_cons_succ]
        refine wpAnyH_take (i := 2) (v := ?_) rfl (by kernel_rfl) (by kernel_rfl) (by kernel_rfl) (fun _ _ _ h => h) (Or.inl ⟨by rfl, ?_⟩) (by assumption) ?_
        rotate_left
        · (intro w hSw; (try dsimp only at hSw); first | (go_simp; done) | (go_simp; with_reducible rfl))
        try simp only [Act.put, List.getElem_toArray, List.getElem_cons_zero, List.getElem_cons_succ, List.setIfInBounds_toArray, List.set_cons_zero, List.set_cons_succ]
        refine wpAnyH_take (i := 4) (v := ?_) rfl (by kernel_rfl) (by kernel_rfl) (by kernel_rfl) (fun _ _ _ h => h) (Or.inl ⟨by rfl, ?_⟩) (by assumption) ?_
        rotate_left
        · (intro w hSw; (try dsimp only at hSw); first | (go_simp; done) | (go_simp; with_reducible rfl))
        try simp only [Act.put, List.getElem_toArray, List.getElem_cons_zero, List.getElem_cons_succ, List.setIfInBounds_toArray, List.set_cons_zero, List.set_cons_succ]
        refine oneH (i := 3) (by kernel_rfl) rfl (fun K hK => ?_)
        refine stepV (by rfl) 48 Try.f48 Try.func48 (by kernel_rfl) (by kernel_rfl) _ _ _ rfl #[] rfl _ (by first | (simp [Act.eval]; done) | (simp [Act.eval]; rfl)) (fun v w2 => v = .string s ∧ Hid (Fr [] (wr.alloc (.cells #[.string s, .string sp, .slice pv nv cv, .int .i64 ly] 47)) w2)) (Calls.mono (HN48.out _ (hidD hg3)) (fun e w2 hh => ⟨_, hh.1, rfl, hh.2⟩)) ?_
        rintro _ w4 ⟨rfl, hg4⟩
        refine hK.out _ _ (⟨(HS.out _ hg4).1, (HS.out _ hg4).2.2⟩) (fun hHeld => ?_)
        clear hK K
        try simp only [Act.put, List.getElem_toArray, List.getElem_cons_zero, List.getElem_cons_succ, List.setIfInBounds_toArray, List.set_cons_zero, List.set_cons_succ]
        obtain ⟨w5, q5, hd5, hf5, hc5⟩ := HP.out _ hg4
        refine oneH (i := 5) (by kernel_rfl) rfl (fun K hK => ?_)
        refine stepM (by rfl) _ _ _ _ rfl _ _ _ rfl rfl rfl _ q5 ?_
        refine hK.out _ _ (⟨HB.out _ hd5, hc5⟩) (fun hHeld => ?_)
        clear hK K
        try simp only [Act.put, List.getElem_toArray, List.getElem_cons_zero, List.getElem_cons_succ, List.setIfInBounds_toArray, List.set_cons_zero, List.set_cons_succ]
        refine wpAnyH_done (by kernel_rfl) ?_ _
        go_wp2_with fail
        go_roundw
        case rel => exact ⟨i + 1, by omega, by go_num, hd5, hf5⟩
        case measure => simp [intOf]; omega
    · have hie : i = l.length := by omega
      subst hie
      have hnl : (names l).take l.length = names l := by rw [show l.length = (names l).length by simp [names], List.take_length]
      rw [hnl] at hfd
      clear H1 HZ hnl HW
      go_wp2_with fail
      go_ret
      exact ⟨_, _, rfl, hfd.out.fnd, hfr.out, by omega, by omega⟩
end Go.Proofs.Ytblbjgifhgfifaa
