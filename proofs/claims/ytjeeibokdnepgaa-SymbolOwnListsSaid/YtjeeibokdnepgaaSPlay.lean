import Derived.Test.YtjeeibokdnepgaaSShelf
namespace Go.Proofs.Ytjeeibokdnepgaa
open Go.RowKit Go.Maps Go.WideMaps
set_option linter.unusedVariables false
set_option linter.unusedSimpArgs false
def jOf (n : Int) : Bool := decide (n % 2 ≠ 0)
def jn (j : Bool) : Nat := if j then 1 else 0
theorem tmod2 (n : Int) : n.tmod 2 = if 0 ≤ n then n % 2 else -((-n) % 2) := by
  by_cases h : 0 ≤ n
  · rw [if_pos h, Int.tmod_eq_emod_of_nonneg h]
  · rw [if_neg h, ← Int.tmod_eq_emod_of_nonneg (by omega : 0 ≤ -n), Int.neg_tmod, Int.neg_neg]
set_option maxHeartbeats 400000 in
theorem place_ok (n : Int) (w : World) (h0 : -9223372036854775808 ≤ n) (h1 : n ≤ 9223372036854775807) :
    Calls Try.prog 29 #[.int .i64 n] w fun e w' => e = .returned (.int .i64 (jn (jOf n) : Int)) ∧ w' = w := by
  have t1 : -1 ≤ n.tmod 2 ∧ n.tmod 2 ≤ 1 := by rw [tmod2]; split <;> omega
  have t2 : (n.tmod 2 + 2).tmod 2 = (jn (jOf n) : Int) := by
    rw [Int.tmod_eq_emod_of_nonneg (by omega), tmod2]
    unfold jn jOf
    by_cases c : n % 2 = 0
    · simp [c]; try (split <;> omega)
    · simp [c]; split <;> omega
  have t3 : 0 ≤ (jn (jOf n) : Int) ∧ (jn (jOf n) : Int) ≤ 1 := by unfold jn; split <;> simp
  have e1 : IntKind.i64.wrap (n.tmod 2) = n.tmod 2 := by rw [iwrap]; omega
  have e2 : IntKind.i64.wrap (n.tmod 2 + 2) = n.tmod 2 + 2 := by rw [iwrap]; omega
  have e3 : IntKind.i64.wrap (jn (jOf n) : Int) = (jn (jOf n) : Int) := by rw [iwrap]; omega
  clear t1 t3
  clear h0 h1
  go_enter Try.func29, Try.ntmps29
  go_wp2
  go_ret
  exact ⟨rfl, rfl⟩
def Even (c : Bool → Cont) : Prop := ∀ j x, c j = some x → x.2.1 = x.2.2
theorem Even.ts {c : Bool → Cont} (h : Even c) (j : Bool) : rTs (c j) = cTs (c j) := by
  cases hc : c j with
  | none => rfl
  | some x => exact (h j x hc).symm
theorem Even.n {c : Bool → Cont} (h : Even c) (j : Bool) (s : ByteArray) : rN (c j) s = cN (c j) s := by
  cases hc : c j with
  | none => rfl
  | some x => show addN x.1 x.2.2 s = addN x.1 x.2.1 s; rw [h j x hc]
theorem Even.e {c : Bool → Cont} (h : Even c) (j : Bool) (s : ByteArray) : rE (c j) s = cE (c j) s := by
  cases hc : c j with
  | none => rfl
  | some x => show addE x.1 x.2.2 s = addE x.1 x.2.1 s; rw [h j x hc]
/-- both turned alike -/
theorem Even.both {c : Bool → Cont} (h : Even c) (j : Bool) (f : Nat → List ByteArray → List ByteArray) : Even (updB c j ((c j).map fun x => (x.1, f x.1 x.2.1, f x.1 x.2.2))) := by
  intro i x hx
  unfold updB at hx
  by_cases e : i = j
  · rw [if_pos e] at hx
    cases hc : c j with
    | none => rw [hc] at hx; cases hx
    | some y =>
      rw [hc] at hx
      injection hx with hx
      subst hx
      show f y.1 y.2.1 = f y.1 y.2.2
      rw [h j y hc]
  · rw [if_neg e] at hx
    exact h i x hx
theorem upd_map2 {c : Bool → Cont} (j : Bool) (f g : Nat → List ByteArray → List ByteArray) :
    updB (updB c j ((c j).map fun x => (x.1, f x.1 x.2.1, x.2.2))) j (((updB c j ((c j).map fun x => (x.1, f x.1 x.2.1, x.2.2))) j).map fun x => (x.1, x.2.1, g x.1 x.2.2)) = updB c j ((c j).map fun x => (x.1, f x.1 x.2.1, g x.1 x.2.2)) := by
  rw [updB_at, updB_two]
  cases c j <;> rfl
section
variable {w0 w : World} {sh : Nat} {v : Bool → Option Addr × Option Addr} {c : Bool → Cont} {X : Nat → Obj → Prop}
theorem Sh.cells (h : Sh w0 w sh v c X) (j : Bool) : w.cell? ⟨sh, jn j, none⟩ = some (.pointer (v j).1) ∧ w.cell? ⟨sh, 2 + jn j, none⟩ = some (.pointer (v j).2) := by
  obtain ⟨o, h1, h2, h3⟩ := h.at_
  rw [h2 j, cell_in h1.top, cell_in h1.top]
  cases j <;> exact ⟨rfl, rfl⟩
theorem Sh.alloc (h : Sh w0 w sh v c X) (ob : Obj) : Sh w0 (w.alloc ob) sh v c (fun g o => X g o ∨ (g = w.heap.size ∧ o = ob)) := by
  obtain ⟨o, h1, h2, h3⟩ := h.at_
  have h4 := h1.idle (Fr.alloc [] w ob)
  refine ⟨o, ⟨h4.top, h4.ok, h4.apart, h4.shn, h4.base, h4.fr, fun g o' hx => ?_⟩, h2, h3⟩
  rcases hx with hx | ⟨rfl, rfl⟩
  · exact h4.rest g o' hx
  · refine ⟨heap_alloc_new _ _, fun e => ?_, fun j hj => ?_⟩
    · have := lt_of_heap h1.top; omega
    · have := h1.lt j _ hj; omega
theorem Sh.drop (h : Sh w0 w sh v c X) {Y : Nat → Obj → Prop} (hy : ∀ g ob, Y g ob → X g ob) : Sh w0 w sh v c Y := by
  obtain ⟨o, h1, h2, h3⟩ := h.at_
  exact ⟨o, ⟨h1.top, h1.ok, h1.apart, h1.shn, h1.base, h1.fr, fun g ob hx => h1.rest g ob (hy g ob hx)⟩, h2, h3⟩
theorem Sh.at (h : Sh w0 w sh v c X) {g : Nat} {ob : Obj} (hx : X g ob) : w.heap[g]? = some ob := by
  obtain ⟨o, h1, h2, h3⟩ := h.at_
  exact (h1.rest g ob hx).1
theorem Sh.lenT (h : Sh w0 w sh v c X) (j : Bool) : (cTs (c j)).length ≤ 4096 := by
  cases hc : c j with
  | none => simp [cTs]
  | some x =>
    obtain ⟨o, t, h1, h2, h3, ho, hk, hv, rfl⟩ := h.atSome hc
    exact Nat.le_trans hk.own.len hk.own.most
theorem Sh.lenR (h : Sh w0 w sh v c X) (j : Bool) : (rTs (c j)).length ≤ 4096 := by
  cases hc : c j with
  | none => simp [rTs]
  | some x =>
    obtain ⟨o, t, h1, h2, h3, ho, hk, hv, rfl⟩ := h.atSome hc
    exact Nat.le_trans hk.ref.len hk.ref.most
theorem cE_range (c : Cont) (s : ByteArray) : 0 ≤ cE c s ∧ cE c s ≤ 61 := by
  cases c with
  | none => simp [cE]
  | some x => exact addE_range _ _ _
theorem txtE_range (c : Cont) (l : List ByteArray) (n : Int) : 0 ≤ txtE c l n ∧ txtE c l n ≤ 61 := by
  unfold txtE
  split
  · omega
  · split <;> omega
theorem backE_range (c : Cont) (l : List ByteArray) (n : Int) : 0 ≤ backE c l n ∧ backE c l n ≤ 2 := by
  unfold backE
  split
  · omega
  · split <;> omega
end
def xob (k a n : Int) (s : ByteArray) : Obj := .cells #[.int .i64 k, .int .i64 a, .int .i64 n, .string s] 61
theorem beq_self_i (x : Int) : (x == x) = true := by simp
theorem beq_self_b (x : Bool) : (x == x) = true := by simp
theorem step_callG {ops : Array Oper} {o : Oper} {a : Act} {w : World} {K : Act → World → Prop} {Q : Exit → Act → World → Prop} {E : Prop} (hw : Region.wanted o (yielded ops a.tmps) = true) (f : FuncId) (fn : Func) (hfn : Try.prog.funcs[f]? = some fn) (hnm : (fn.name == "runtime.NumGoroutine") = false) (hbd : fn.body.isSome = true) (xs : Array Operand) (ts : Array TypeId)
    (ho : o.op = .call { callee := .value (.func f), args := xs, argTypes := ts }) (vs : Array Value) (hvs : xs.map a.eval = vs) (R : Value → World → Prop) (hc : Calls Try.prog f vs w fun e w' => ∃ v, e = .returned v ∧ R v w')
    (h : ∀ v w', R v w' → K (a.put o.dst v) w') : if Region.wanted o (yielded ops a.tmps) = true then Oper.wp Try.prog o a w K Q else E := by
  rw [if_pos hw]
  unfold Oper.wp
  have e1 : (execOp a.eval o).run Try.prog w = .ok (.enter f vs) w := by
    have h1 : ¬ fn.name = "runtime.NumGoroutine" := by simpa using hnm
    have h2 : ¬ fn.body = none := by intro e; rw [e] at hbd; simp at hbd
    simp [execOp, ho, resolve, invoke, Act.eval, hvs, Deferred.ofValue, callFunc, hfn, h1, h2]
  rw [e1]
  show Calls Try.prog f vs w _
  exact hc.mono (fun e w' ⟨v, he, hr⟩ => by subst he; exact h v w' hr)
theorem Load_err (ss : List ByteArray) (v : Value) (m E : Int) (w : World) (h : ArgS w v ss) (hE : loadE ss m = E) (h0 : E ≠ 0) :
    Calls Try.prog 21 #[v, .int .i64 m] w fun e w' => ∃ x, e = .returned x ∧ x = .tuple #[.pointer none, .int .i64 E] ∧ Fr [] w w' := by
  refine (Load_ok ss v m w h).mono ?_
  rintro e w' (⟨h1, rfl, h3⟩ | ⟨h1, _⟩)
  · exact ⟨_, rfl, by rw [hE], h3⟩
  · exact absurd (hE.symm.trans h1) h0
theorem Load_good (ss : List ByteArray) (v : Value) (m : Int) (w : World) (h : ArgS w v ss) (hE : loadE ss m = 0) :
    Calls Try.prog 21 #[v, .int .i64 m] w fun e w' => ∃ x, e = .returned x ∧ ∃ a l, x = .tuple #[.pointer (some ⟨a, 0, none⟩), .int .i64 0] ∧ TRep w' a l m.toNat ss ∧ Fr [] w w' ∧ (∀ g ∈ foot a l, w.heap.size ≤ g) := by
  refine (Load_ok ss v m w h).mono ?_
  rintro e w' (⟨h1, rfl, h3⟩ | ⟨h1, most, a, l, rfl, rfl, h4, h5, h6⟩)
  · exact absurd hE h1
  · exact ⟨_, rfl, a, l, rfl, h4, h5, h6⟩
theorem rLoad_err (ss : List ByteArray) (v : Value) (m E : Int) (w : World) (h : RdS w v ss) (hE : loadE ss m = E) (h0 : E ≠ 0) :
    Calls Try.prog 22 #[v, .int .i64 m] w fun e w' => ∃ x, e = .returned x ∧ x = .tuple #[.pointer none, .int .i64 E] ∧ Fr [] w w' := by
  refine (rLoad_ok ss v m w h).mono ?_
  rintro e w' (⟨h1, rfl, h3⟩ | ⟨h1, _⟩)
  · exact ⟨_, rfl, by rw [hE], h3⟩
  · exact absurd (hE.symm.trans h1) h0
theorem rLoad_good (ss : List ByteArray) (v : Value) (m : Int) (w : World) (h : RdS w v ss) (hE : loadE ss m = 0) :
    Calls Try.prog 22 #[v, .int .i64 m] w fun e w' => ∃ x, e = .returned x ∧ ∃ r p cap, x = .tuple #[.pointer (some ⟨r, 0, none⟩), .int .i64 0] ∧ RT w' r p cap m.toNat ss ∧ Fr [] w w' ∧ (∀ g ∈ foot2 r p, w.heap.size ≤ g) := by
  refine (rLoad_ok ss v m w h).mono ?_
  rintro e w' (⟨h1, rfl, h3⟩ | ⟨h1, most, r, p, cap, rfl, rfl, h4, h5, h6⟩)
  · exact absurd hE h1
  · exact ⟨_, rfl, r, p, cap, rfl, h4, h5, h6⟩
def Eqw (w w' : World) : Prop := w'.os = w.os ∧ w'.tape = w.tape ∧ w'.output = w.output ∧ w'.heap = w.heap
theorem Eqw.fr {w w' : World} (h : Eqw w w') (S : List Nat) : Fr S w w' := ⟨h.1, h.2.1, h.2.2.1, by rw [h.2.2.2]; exact Nat.le_refl _, fun _ _ _ => by rw [h.2.2.2]⟩
theorem Eqw.cell {w w' : World} (h : Eqw w w') (p : Addr) : w'.cell? p = w.cell? p := World.cell?_of_block (w := w) (by rw [h.2.2.2])
section
variable {w0 w : World} {sh : Nat} {v : Bool → Option Addr × Option Addr} {c : Bool → Cont} {X : Nat → Obj → Prop}
theorem sh_all' (h : Sh w0 w sh v c X) (j : Bool) : Calls Try.prog 14 #[.pointer (v j).1] w fun e w' => ∃ x, e = .returned x ∧ ∃ p k, x = .slice p (cTs (c j)).length k ∧ ArgS w' (.slice p (cTs (c j)).length k) (cTs (c j)) ∧ Fr [] w w' := by
  refine (sh_all h j).mono ?_
  rintro e w' ⟨p, k, rfl, o, f⟩
  refine ⟨_, rfl, p, k, rfl, ⟨own_rd o (by have := h.lenT j; omega), fun s hs => ?_⟩, f⟩
  cases hc : c j with
  | none => rw [hc] at hs; cases hs
  | some x =>
    obtain ⟨o, t, h1, h2, h3, ho, hk, hv, rfl⟩ := h.atSome hc
    rw [hc] at hs
    have := (hk.own.fit s hs).2
    omega
theorem sh_rall' (h : Sh w0 w sh v c X) (j : Bool) : Calls Try.prog 24 #[.pointer (v j).2] w fun e w' => ∃ x, e = .returned x ∧ ∃ p k, x = .slice p (rTs (c j)).length k ∧ RdS w' (.slice p (rTs (c j)).length k) (rTs (c j)) ∧ Fr [] w w' := by
  refine (sh_rall h j).mono ?_
  rintro e w' ⟨p, k, rfl, o, f⟩
  exact ⟨_, rfl, p, k, rfl, own_rd o (by have := h.lenR j; omega), f⟩
theorem Sh.top (h : Sh w0 w sh v c X) : ∃ C, w.heap[sh]? = some (.cells C 57 (0, 0)) ∧ C.size = 4 := by
  obtain ⟨o, h1, h2, h3⟩ := h.at_
  exact ⟨_, h1.top, rfl⟩
/-- a place of the shelf gets a new table -/
theorem sh_put {W W' : World} {a r : Nat} {l : Lay} {p : Option Addr} {cap most : Nat} {T : List ByteArray} (h : Sh w0 w sh v c X) (f : Fr [] w W) (ht : TRep W a l most T) (hr : RT W r p cap most T) (ga : ∀ g ∈ foot a l, w.heap.size ≤ g) (gr : ∀ g ∈ foot2 r p, w.heap.size ≤ g) (ap : ∀ g ∈ foot a l, g ∉ foot2 r p) (j : Bool)
    (f' : Fr [sh] W W') (c0 : W'.cell? ⟨sh, jn j, none⟩ = some (.pointer (some ⟨a, 0, none⟩))) (c1 : W'.cell? ⟨sh, 2 + jn j, none⟩ = some (.pointer (some ⟨r, 0, none⟩))) (c2 : W'.cell? ⟨sh, jn (!j), none⟩ = some (.pointer (v (!j)).1)) (c3 : W'.cell? ⟨sh, 2 + jn (!j), none⟩ = some (.pointer (v (!j)).2))
    (c4 : ∃ C, W'.heap[sh]? = some (.cells C 57 (0, 0)) ∧ C.size = 4) :
    Sh w0 W' sh (updB v j (some ⟨a, 0, none⟩, some ⟨r, 0, none⟩)) (updB c j (some (most, T, T))) X := by
  obtain ⟨o, h1, h2, h3⟩ := h.at_
  have h4 := h1.idle f
  have hsh := lt_of_heap h1.top
  obtain ⟨t, ht0⟩ : ∃ t : TS, t = ⟨a, l, r, p, cap, most, T, T⟩ := ⟨_, rfl⟩
  have hok : TOk W t := by rw [ht0]; exact ⟨ht, hr, ap⟩
  have hnew : ∀ g ∈ t.foot, w.heap.size ≤ g := fun g hg => by
    rw [ht0] at hg
    rcases List.mem_append.1 hg with h5 | h5
    · exact ga g h5
    · exact gr g h5
  have hot : ∀ i, i ≠ j → updB o j (some t) i = o i := fun i hi => by unfold updB; rw [if_neg hi]
  refine ⟨updB o j (some t), ⟨?_, fun i x hx => ?_, fun i g hi hni => ?_, fun i hi => ?_, ⟨h1.base.1, fun i g hi => ?_⟩, h4.fr.trans f' (fun g hg => by simp at hg; subst hg; exact Or.inr h1.base.1), fun g ob hx => ?_⟩, fun i => ?_, fun i => ?_⟩
  · obtain ⟨C, e1, e2⟩ := c4
    rw [e1]
    rw [cell_in e1] at c0 c1 c2 c3
    have hC : C = #[.pointer (vOwn (updB o j (some t) false)), .pointer (vOwn (updB o j (some t) true)), .pointer (vRef (updB o j (some t) false)), .pointer (vRef (updB o j (some t) true))] := by
      apply Array.ext
      · rw [e2]; rfl
      · intro i hi1 hi2
        have hi : i < 4 := by rw [e2] at hi1; exact hi1
        have hg : ∀ k x, C[k]? = some x → k = i → C[i] = x := fun k x hk e => by subst e; rw [Array.getElem?_eq_getElem hi1] at hk; injection hk
        have hvn : v (!j) = (vOwn (o !j), vRef (o !j)) := h2 _
        rw [hvn] at c2 c3
        cases j
        · have hv0 : updB o false (some t) false = some t := updB_at o false _
          have hv1 : updB o false (some t) true = o true := hot true (by simp)
          have q : i = 0 ∨ i = 1 ∨ i = 2 ∨ i = 3 := by omega
          rcases q with rfl | rfl | rfl | rfl
          · rw [hg _ _ c0 rfl, ht0]; rfl
          · rw [hg _ _ c2 rfl]; simp [hv1]
          · rw [hg _ _ c1 rfl, ht0]; rfl
          · rw [hg _ _ c3 rfl]; simp [hv1]
        · have hv0 : updB o true (some t) true = some t := updB_at o true _
          have hv1 : updB o true (some t) false = o false := hot false (by simp)
          have q : i = 0 ∨ i = 1 ∨ i = 2 ∨ i = 3 := by omega
          rcases q with rfl | rfl | rfl | rfl
          · rw [hg _ _ c2 rfl]; simp [hv1]
          · rw [hg _ _ c0 rfl, ht0]; rfl
          · rw [hg _ _ c3 rfl]; simp [hv1]
          · rw [hg _ _ c1 rfl, ht0]; rfl
    rw [hC]
  · by_cases e : i = j
    · subst e; rw [updB_at] at hx; injection hx with hx; subst hx
      exact hok.keep f' (fun g hg hm => by simp at hm; subst hm; have := hnew g hg; omega)
    · rw [hot i e] at hx
      refine (h4.ok i x hx).keep f' (fun g hg hm => ?_)
      simp at hm
      subst hm
      exact h1.shn i (by rw [hx]; exact hg)
  · by_cases e : i = j
    · subst e
      rw [updB_at] at hi
      rw [hot _ (by cases i <;> simp)] at hni
      have := hnew g hi
      have := h1.lt _ g hni
      omega
    · have e2 : i = !j := by cases i <;> cases j <;> simp_all
      rw [hot i e] at hi
      subst e2
      rw [Bool.not_not, updB_at] at hni
      have := hnew g hni
      have := h1.lt _ g hi
      omega
  · by_cases e : i = j
    · subst e
      rw [updB_at] at hi
      have := hnew sh hi
      omega
    · rw [hot i e] at hi
      exact h1.shn i hi
  · by_cases e : i = j
    · subst e
      rw [updB_at] at hi
      exact Nat.le_trans h1.fr.size (hnew g hi)
    · rw [hot i e] at hi
      exact h1.base.2 i g hi
  · obtain ⟨r1, r2, r3⟩ := h1.rest g ob hx
    have hgl := lt_of_heap r1
    refine ⟨((f'.block g (Nat.lt_of_lt_of_le hgl f.size) (by simpa using r2)).trans (f.block g hgl (by simp))).trans r1, r2, fun i hi => ?_⟩
    by_cases e : i = j
    · subst e
      rw [updB_at] at hi
      have := hnew g hi
      omega
    · rw [hot i e] at hi
      exact r3 i hi
  · unfold updB
    by_cases e : i = j
    · rw [if_pos e, if_pos e, ht0]; rfl
    · rw [if_neg e, if_neg e]; exact h2 i
  · unfold updB
    by_cases e : i = j
    · rw [if_pos e, if_pos e, ht0]; rfl
    · rw [if_neg e, if_neg e]; exact h3 i
end
theorem jn_ne (j : Bool) : jn (!j) ≠ jn j := by cases j <;> simp [jn]
theorem jn_lt (j : Bool) : jn j < 2 := by cases j <;> simp [jn]
theorem sh_puts {w0 w : World} {sh : Nat} {v : Bool → Option Addr × Option Addr} {c : Bool → Cont} {X : Nat → Obj → Prop} {W W' : World} {a r : Nat} {l : Lay} {p : Option Addr} {cap most : Nat} {T : List ByteArray} (h : Sh w0 w sh v c X) (f : Fr [] w W) (ht : TRep W a l most T) (hr : RT W r p cap most T) (ga : ∀ g ∈ foot a l, w.heap.size ≤ g) (gr : ∀ g ∈ foot2 r p, w.heap.size ≤ g) (ap : ∀ g ∈ foot a l, g ∉ foot2 r p) (j : Bool)
    (he : Eqw ((W.setCell ⟨sh, jn j, none⟩ (.pointer (some ⟨a, 0, none⟩))).setCell ⟨sh, 2 + jn j, none⟩ (.pointer (some ⟨r, 0, none⟩))) W') :
    Sh w0 W' sh (updB v j (some ⟨a, 0, none⟩, some ⟨r, 0, none⟩)) (updB c j (some (most, T, T))) X := by
  obtain ⟨C, e1, e2⟩ := (h.idle f).top
  have e3 := set_in e1 (jn j) (.pointer (some ⟨a, 0, none⟩))
  have e4 := set_in e3 (2 + jn j) (.pointer (some ⟨r, 0, none⟩))
  have n1 := jn_ne j
  have l1 := jn_lt j
  have l2 := jn_lt (!j)
  obtain ⟨o1, o2⟩ := (h.idle f).cells (!j)
  rw [cell_in e1] at o1 o2
  refine sh_put h f ht hr ga gr ap j (((Fr.setCell (S := [sh]) _ _ _ (by simp)).trans (Fr.setCell (S := [sh]) _ _ _ (by simp)) (fun b hb => Or.inl hb)).trans (he.fr []) (by simp)) ?_ ?_ ?_ ?_ ⟨_, by rw [he.2.2.2]; exact e4, by simp [e2]⟩
  · rw [he.cell, cell_in e4, Array.getElem?_setIfInBounds_ne (by omega), Array.getElem?_setIfInBounds_self_of_lt (by omega)]
  · rw [he.cell, cell_in e4, Array.getElem?_setIfInBounds_self_of_lt (by simp; omega)]
  · rw [he.cell, cell_in e4, Array.getElem?_setIfInBounds_ne (by omega), Array.getElem?_setIfInBounds_ne (by omega)]; exact o1
  · rw [he.cell, cell_in e4, Array.getElem?_setIfInBounds_ne (by omega), Array.getElem?_setIfInBounds_ne (by omega)]; exact o2
set_option maxRecDepth 20000 in
set_option maxHeartbeats 2000000 in
theorem plays_ok {w0 w : World} {sh : Nat} {v : Bool → Option Addr × Option Addr} {c : Bool → Cont} {X : Nat → Obj → Prop} (h : Sh w0 w sh v c X) (hE : Even c) (k a n : Int) (s : ByteArray) (a0 : -9223372036854775808 ≤ a) (a1 : a ≤ 9223372036854775807) (hs : s.size ≤ 140737488355328) :
    Calls Try.prog 28 #[.pointer (some ⟨sh, 0, none⟩), .agg #[.int .i64 k, .int .i64 a, .int .i64 n, .string s]] w fun e w' => e = .returned (.bool true) ∧ ∃ v' c', Sh w0 w' sh v' c' X ∧ Even c' := by
  obtain ⟨W1, hW1⟩ : ∃ W1, W1 = w.alloc (.cells #[.int .i64 k, .int .i64 a, .int .i64 n, .string s] 61) := ⟨_, rfl⟩
  have hS1 := h.alloc (xob k a n s)
  rw [show w.alloc (xob k a n s) = W1 from hW1.symm] at hS1
  have HX : Hid (∀ W c' v', Sh w0 W sh v' c' (fun g o => X g o ∨ (g = w.heap.size ∧ o = xob k a n s)) → W.heap[w.heap.size]? = some (xob k a n s)) := fun W c' v' hW => hW.at (Or.inr ⟨rfl, rfl⟩)
  have hx := HX.out _ _ _ hS1
  have x0 : W1.cell? ⟨w.heap.size, 0, none⟩ = some (.int .i64 k) := by rw [cell_in hx]; rfl
  have x1 : W1.cell? ⟨w.heap.size, 1, none⟩ = some (.int .i64 a) := by rw [cell_in hx]; rfl
  obtain ⟨y0, y1⟩ := hS1.cells (jOf a)
  have HP := mkHid (fun W => place_ok a W a0 a1)
  generalize hj : jOf a = j at *
  have hJ : (0 : Int) ≤ (jn j : Int) ∧ (jn j : Int) < 2 := by unfold jn; cases j <;> simp
  have HS1 := mkHid hS1
  have HE := mkHid hE
  obtain ⟨j0, j1⟩ := hJ
  have hxb : w.heap.size = w.heap.size := rfl
  clear h hS1 hE hx hj a0 a1 hxb
  go_enter Try.func28, Try.ntmps28
  go_wp2_with fail
  rw [← hW1]
  clear hW1
  go_quiet ((go_at_call 29; exact Calls.quiet_of_same (HP.out _)))
  obtain ⟨W2, hW2⟩ : ∃ W2, W2 = W1.drewN nq := ⟨_, rfl⟩
  have HS2 := mkHid (HS1.out.idle (Fr.drewN [] W1 nq))
  rw [← hW2] at HS2 ⊢
  have hx2 := HX.out _ _ _ HS2.out
  have z1 : W2.cell? ⟨w.heap.size, 1, none⟩ = some (.int .i64 a) := by rw [cell_in hx2]; rfl
  obtain ⟨-, z2⟩ := HS2.out.cells j
  clear hW2 x0 x1 y0 y1 hx2 HS1
  go_wp2_with fail
  go_quiet ((go_at_call 29; exact Calls.quiet_of_same (HP.out _)))
  obtain ⟨W3, hW3⟩ : ∃ W3, W3 = W2.drewN nq := ⟨_, rfl⟩
  have HS3 := mkHid (HS2.out.idle (Fr.drewN [] W2 nq))
  rw [← hW3] at HS3 ⊢
  have hx3 := HX.out _ _ _ HS3.out
  have x0 : W3.cell? ⟨w.heap.size, 0, none⟩ = some (.int .i64 k) := by rw [cell_in hx3]; rfl
  have x1 : W3.cell? ⟨w.heap.size, 1, none⟩ = some (.int .i64 a) := by rw [cell_in hx3]; rfl
  have x2 : W3.cell? ⟨w.heap.size, 2, none⟩ = some (.int .i64 n) := by rw [cell_in hx3]; rfl
  have x3 : W3.cell? ⟨w.heap.size, 3, none⟩ = some (.string s) := by rw [cell_in hx3]; rfl
  have HEnd : Hid (∀ W v' c', Sh w0 W sh v' c' (fun g o => X g o ∨ (g = w.heap.size ∧ o = xob k a n s)) → Even c' → ∃ v' c', Sh w0 W sh v' c' X ∧ Even c') := fun W v' c' hW hEv => ⟨v', c', hW.drop (fun g ob hx => Or.inl hx), hEv⟩
  have HX2 : Hid (∀ W c' v', Sh w0 W sh v' c' (fun g o => X g o ∨ (g = w.heap.size ∧ o = xob k a n s)) → W.cell? ⟨w.heap.size, 2, none⟩ = some (.int .i64 n) ∧ W.cell? ⟨w.heap.size, 3, none⟩ = some (.string s)) := fun W c' v' hW => by
    have := HX.out _ _ _ hW
    exact ⟨by rw [cell_in this]; rfl, by rw [cell_in this]; rfl⟩
  have HX3 : Hid (∀ W c' v', Sh w0 W sh v' c' (fun g o => X g o ∨ (g = w.heap.size ∧ o = xob k a n s)) → W.cell? ⟨w.heap.size, 1, none⟩ = some (.int .i64 a) ∧ w.heap.size ≠ sh) := fun W c' v' hW => by
    have h1 := HX.out _ _ _ hW
    refine ⟨by rw [cell_in h1]; rfl, ?_⟩
    obtain ⟨o, q1, q2, q3⟩ := hW.at_
    exact (q1.rest w.heap.size _ (Or.inr ⟨rfl, rfl⟩)).2.1
  have HP' : Hid (∀ W, Calls Try.prog 29 #[.int .i64 a] W fun e w' => ∃ x, e = .returned x ∧ x = .int .i64 (jn j : Int) ∧ w' = W) := fun W => (HP.out W).mono (fun e w' ⟨h1, h2⟩ => ⟨_, h1, rfl, h2⟩)
  clear hW3 z1 z2 hx3 HS2
  generalize hXX : (fun g o => X g o ∨ (g = w.heap.size ∧ o = xob k a n s)) = XX at *
  clear hXX
  by_cases k1 : k = 1
  · subst k1
    have HC1 := mkHid (sh_add HS3.out j s hs)
    have HC2 : Hid (∀ W, Sh w0 W sh v (updB c j ((c j).map fun x => (x.1, addT x.1 x.2.1 s, x.2.2))) XX → Calls Try.prog 25 #[.pointer (v j).2, .string s] W fun e w' => e = .returned (.tuple #[.int .i64 (cN (c j) s), .int .i64 (cE (c j) s)]) ∧ Sh w0 w' sh v (updB c j ((c j).map fun x => (x.1, addT x.1 x.2.1 s, addT x.1 x.2.2 s))) XX) := fun W hW => by
      refine (sh_radd hW j s).mono ?_
      rintro e w' ⟨rfl, h2⟩
      have e1 := upd_map2 (c := c) j (fun m l => addT m l s) (fun m l => addT m l s)
      refine ⟨?_, by rw [← e1]; exact h2⟩
      have e2 : rN (updB c j ((c j).map fun x => (x.1, addT x.1 x.2.1 s, x.2.2)) j) s = cN (c j) s := by
        rw [updB_at, ← HE.out.n]
        cases c j <;> rfl
      have e3 : rE (updB c j ((c j).map fun x => (x.1, addT x.1 x.2.1 s, x.2.2)) j) s = cE (c j) s := by
        rw [updB_at, ← HE.out.e]
        cases c j <;> rfl
      rw [e2, e3]
    have HEv := mkHid (HE.out.both j (fun m l => addT m l s))
    obtain ⟨r1, r2⟩ := cE_range (c j) s
    have b1 := beq_self_i (cN (c j) s)
    have b2 := beq_self_i (cE (c j) s)
    generalize cN (c j) s = N at *
    generalize cE (c j) s = E at *
    go_wp2_with (first
      | (go_at_call 25; refine (HC2.out _ HS5.out).mono ?_; rintro e w6 ⟨rfl, h6⟩; have HS6 := mkHid h6; clear h6)
      | (go_at_call 10; refine HC1.out.mono ?_; rintro e w5 ⟨rfl, h5⟩; have HS5 := mkHid h5; obtain ⟨q2, q3⟩ := HX2.out _ _ _ h5; clear h5)
      | (go_at_call 12; refine (num_any _ _ (by omega) (by omega)).mono ?_; rintro e w12 ⟨rfl, rfl⟩))
    go_ret
    exact ⟨rfl, HEnd.out _ _ _ HS6.out HEv.out⟩
  have b1 : (k == 1) = false := beq_eq_false_iff_ne.2 k1
  by_cases k2 : k = 2
  · subst k2
    have HC1 := mkHid (sh_find HS3.out j s hs)
    have HC2 := mkHid (sh_rfind HS3.out j s)
    rw [HE.out.ts] at HC2
    have b1 := beq_self_i (lookN (pos (cTs (c j)) s))
    have b2 := beq_self_b (pos (cTs (c j)) s).isSome
    generalize lookN (pos (cTs (c j)) s) = N at *
    generalize (pos (cTs (c j)) s).isSome = E at *
    go_wp2_with (first
      | (go_at_call 39; refine HC2.out.mono ?_; rintro e w6 ⟨rfl, rfl⟩)
      | (go_at_call 15; refine HC1.out.mono ?_; rintro e w5 ⟨rfl, rfl⟩))
    go_ret
    exact ⟨rfl, HEnd.out _ _ _ HS3.out HE.out⟩
  have b2 : (k == 2) = false := beq_eq_false_iff_ne.2 k2
  by_cases k3 : k = 3
  · subst k3
    have HC1 := mkHid (sh_text HS3.out j n)
    have HC2 := mkHid (sh_rtext HS3.out j n)
    rw [HE.out.ts] at HC2
    obtain ⟨r1, r2⟩ := txtE_range (c j) (cTs (c j)) n
    have b2 := beq_self_i (txtE (c j) (cTs (c j)) n)
    have b3 : ((txt (c j) (cTs (c j)) n).toList == (txt (c j) (cTs (c j)) n).toList) = true := by simp
    generalize txt (c j) (cTs (c j)) n = N at *
    generalize txtE (c j) (cTs (c j)) n = E at *
    go_wp2_with (first
      | (go_at_call 40; refine HC2.out.mono ?_; rintro e w6 ⟨rfl, rfl⟩)
      | (go_at_call 19; refine HC1.out.mono ?_; rintro e w5 ⟨rfl, rfl⟩)
      | (go_at_call 12; refine (num_any _ _ (by omega) (by omega)).mono ?_; rintro e w12 ⟨rfl, rfl⟩))
    go_ret
    exact ⟨rfl, HEnd.out _ _ _ HS3.out HE.out⟩
  have b3 : (k == 3) = false := beq_eq_false_iff_ne.2 k3
  by_cases k4 : k = 4
  · subst k4
    have HC1 := mkHid (sh_all HS3.out j)
    have HC2 : Hid (∀ W, Sh w0 W sh v c XX → _) := mkHid (fun W hW => sh_rall hW j)
    have HC3 : Hid (∀ W, Sh w0 W sh v c XX → _) := mkHid (fun W hW => sh_count hW j)
    have HC4 : Hid (∀ W, Sh w0 W sh v c XX → _) := mkHid (fun W hW => sh_rcount hW j)
    rw [HE.out.ts] at HC2 HC4
    have hl := HS3.out.lenT j
    generalize cTs (c j) = T at *
    have b2 := beq_self_i (T.length : Int)
    go_wp2_with (first
      | (go_at_call 24; refine (HC2.out _ HS5.out).mono ?_; rintro e w6 ⟨p6, c6, rfl, o6, f6⟩; have HD6 := mkHid (own_rd o6 (by omega)); have HD5' := mkHid (HD5.out.idle f6); have HS6 := mkHid (HS5.out.idle f6); clear o6 f6)
      | (go_at_call 14; refine HC1.out.mono ?_; rintro e w5 ⟨p5, c5, rfl, o5, f5⟩; have HD5 := mkHid (own_rd o5 (by omega)); have HS5 := mkHid (HS3.out.idle f5); clear o5 f5)
      | (go_at_call 13; refine (sameTexts_yes _ _ _ _ HD5'.out HD6.out).mono ?_; rintro e w7 ⟨rfl, f7⟩; have HS7 := mkHid (HS6.out.idle f7); clear f7)
      | (go_at_call 9; refine (HC3.out _ HS7.out).mono ?_; rintro e w8 ⟨rfl, rfl⟩)
      | (go_at_call 26; refine (HC4.out _ HS7.out).mono ?_; rintro e w8 ⟨rfl, rfl⟩))
    go_ret
    exact ⟨rfl, HEnd.out _ _ _ HS7.out HE.out⟩
  have b4 : (k == 4) = false := beq_eq_false_iff_ne.2 k4
  by_cases k5 : k = 5
  · subst k5
    have HC1 := mkHid (sh_back HS3.out j n)
    have HC2 : Hid (∀ W, Sh w0 W sh v (updB c j ((c j).map fun x => (x.1, backT x.2.1 n, x.2.2))) XX → Calls Try.prog 41 #[.pointer (v j).2, .int .i64 n] W fun e w' => e = .returned (.int .i64 (backE (c j) (cTs (c j)) n)) ∧ Sh w0 w' sh v (updB c j ((c j).map fun x => (x.1, backT x.2.1 n, backT x.2.2 n))) XX) := fun W hW => by
      refine (sh_rback hW j n).mono ?_
      rintro e w' ⟨rfl, h2⟩
      have e1 := upd_map2 (c := c) j (fun m l => backT l n) (fun m l => backT l n)
      refine ⟨?_, by rw [← e1]; exact h2⟩
      have e2 : backE (updB c j ((c j).map fun x => (x.1, backT x.2.1 n, x.2.2)) j) (rTs (updB c j ((c j).map fun x => (x.1, backT x.2.1 n, x.2.2)) j)) n = backE (c j) (cTs (c j)) n := by
        rw [updB_at, ← HE.out.ts]
        cases c j <;> rfl
      rw [e2]
    have HEv := mkHid (HE.out.both j (fun m l => backT l n))
    obtain ⟨r1, r2⟩ := backE_range (c j) (cTs (c j)) n
    have b2 := beq_self_i (backE (c j) (cTs (c j)) n)
    generalize backE (c j) (cTs (c j)) n = E at *
    go_wp2_with (first
      | (go_at_call 41; refine (HC2.out _ HS5.out).mono ?_; rintro e w6 ⟨rfl, h6⟩; have HS6 := mkHid h6; clear h6)
      | (go_at_call 11; refine HC1.out.mono ?_; rintro e w5 ⟨rfl, h5⟩; have HS5 := mkHid h5; obtain ⟨q2, q3⟩ := HX2.out _ _ _ h5; clear h5)
      | (go_at_call 12; refine (num_any _ _ (by omega) (by omega)).mono ?_; rintro e w12 ⟨rfl, rfl⟩))
    go_ret
    exact ⟨rfl, HEnd.out _ _ _ HS6.out HEv.out⟩
  have b5 : (k == 5) = false := beq_eq_false_iff_ne.2 k5
  by_cases k6 : k = 6
  rotate_left
  · have b6 : (k == 6) = false := beq_eq_false_iff_ne.2 k6
    go_wp2_with fail
    go_ret
    exact ⟨rfl, HEnd.out _ _ _ HS3.out HE.out⟩
  subst k6
  have HC1 : Hid (∀ W, Sh w0 W sh v c XX → _) := mkHid (fun W hW => sh_all' hW j)
  have HC2 : Hid (∀ W, Sh w0 W sh v c XX → _) := mkHid (fun W hW => sh_rall' hW j)
  rw [HE.out.ts] at HC2
  generalize hT : cTs (c j) = T at *
  clear hT
  by_cases hl : loadE T n = 0
  rotate_left
  · obtain ⟨r1, r2⟩ := loadE_range T n
    have HL1 : Hid (∀ W vv, ArgS W vv T → _) := mkHid (fun W vv hA => Load_err T vv n (loadE T n) W hA rfl hl)
    have HL2 : Hid (∀ W vv, RdS W vv T → _) := mkHid (fun W vv hA => rLoad_err T vv n (loadE T n) W hA rfl hl)
    have n1 := neq_self_i (loadE T n)
    generalize loadE T n = E at *
    have HD3 := mkHid (HS3.out.idle (Fr.drew [] W3))
    go_wp2_with fail
    go_region_law (first
      | (refine step_callG (by rfl) 21 Try.f21 Try.func21 (by kernel_rfl) (by kernel_rfl) _ _ rfl _ (by simp [Act.eval, Act.put]) _ (HL1.out _ _ HA5.out) ?_; rintro _ w6 ⟨rfl, f6⟩; have HS6 := mkHid (HS5.out.idle f6); clear f6)
      | (refine step_callG (by rfl) 14 Try.f14 Try.func14 (by kernel_rfl) (by kernel_rfl) _ _ rfl _ (by simp [Act.eval, Act.put]) _ (HC1.out _ HD3.out) ?_; rintro _ w5 ⟨p5, c5, rfl, a5, f5⟩; have HA5 := mkHid a5; have HS5 := mkHid (HD3.out.idle f5); obtain ⟨m2, m3⟩ := HX2.out _ _ _ HS5.out; clear a5 f5))
    all_goals
      have HD6 := mkHid (HS6.out.idle (Fr.drew [] w6))
      obtain ⟨m4, m5⟩ := HX2.out _ _ _ HS6.out
      go_wp2_with fail
      go_region_law (first
        | (refine step_callG (by rfl) 22 Try.f22 Try.func22 (by kernel_rfl) (by kernel_rfl) _ _ rfl _ (by simp [Act.eval, Act.put]) _ (HL2.out _ _ HA7.out) ?_; rintro _ w8 ⟨rfl, f8⟩; have HS8 := mkHid (HS7.out.idle f8); clear f8)
        | (refine step_callG (by rfl) 24 Try.f24 Try.func24 (by kernel_rfl) (by kernel_rfl) _ _ rfl _ (by simp [Act.eval, Act.put]) _ (HC2.out _ HD6.out) ?_; rintro _ w7 ⟨p7, c7, rfl, a7, f7⟩; have HA7 := mkHid a7; have HS7 := mkHid (HD6.out.idle f7); obtain ⟨m6, m7⟩ := HX2.out _ _ _ HS7.out; clear a7 f7))
      all_goals
        go_wp2_with (go_at_call 12; refine (num_any _ _ (by omega) (by omega)).mono ?_; rintro e w12 ⟨rfl, rfl⟩)
        go_ret
        exact ⟨rfl, HEnd.out _ _ _ HS8.out HE.out⟩
  · have HL1 : Hid (∀ W vv, ArgS W vv T → _) := mkHid (fun W vv hA => Load_good T vv n W hA hl)
    have HL2 : Hid (∀ W vv, RdS W vv T → _) := mkHid (fun W vv hA => rLoad_good T vv n W hA hl)
    clear hl
    have HD3 := mkHid (HS3.out.idle (Fr.drew [] W3))
    go_wp2_with fail
    go_region_law (first
      | (refine step_callG (by rfl) 21 Try.f21 Try.func21 (by kernel_rfl) (by kernel_rfl) _ _ rfl _ (by simp [Act.eval, Act.put]) _ (HL1.out _ _ HA5.out) ?_; rintro _ w6 ⟨a6, l6, rfl, t6, f6, g6⟩; have HS6 := mkHid (HS5.out.idle f6); have HF6 := mkHid (HF5.out.trans f6 (by simp)); have HT6 := mkHid t6; have HG6 := mkHid (fun g hg => Nat.le_trans HF5.out.size (g6 g hg)); clear f6 t6 g6)
      | (refine step_callG (by rfl) 14 Try.f14 Try.func14 (by kernel_rfl) (by kernel_rfl) _ _ rfl _ (by simp [Act.eval, Act.put]) _ (HC1.out _ HD3.out) ?_; rintro _ w5 ⟨p5, c5, rfl, a5, f5⟩; have HA5 := mkHid a5; have HS5 := mkHid (HD3.out.idle f5); have HF5 := mkHid ((Fr.drew [] W3).trans f5 (by simp)); obtain ⟨m2, m3⟩ := HX2.out _ _ _ HS5.out; clear a5 f5))
    all_goals
      have HD6 := mkHid (HS6.out.idle (Fr.drew [] w6))
      obtain ⟨m4, m5⟩ := HX2.out _ _ _ HS6.out
      go_wp2_with fail
      go_region_law (first
        | (refine step_callG (by rfl) 22 Try.f22 Try.func22 (by kernel_rfl) (by kernel_rfl) _ _ rfl _ (by simp [Act.eval, Act.put]) _ (HL2.out _ _ HA7.out) ?_; rintro _ w8 ⟨r8, p8, cap8, rfl, t8, f8, g8⟩; have HS8 := mkHid (HS7.out.idle f8); have HF8 := mkHid (HF7.out.trans f8 (by simp)); have HT8 := mkHid t8; have HG8 := mkHid (fun g hg => Nat.le_trans HF7.out.size (g8 g hg)); clear f8 t8 g8)
        | (refine step_callG (by rfl) 24 Try.f24 Try.func24 (by kernel_rfl) (by kernel_rfl) _ _ rfl _ (by simp [Act.eval, Act.put]) _ (HC2.out _ HD6.out) ?_; rintro _ w7 ⟨p7, c7, rfl, a7, f7⟩; have HA7 := mkHid a7; have HS7 := mkHid (HD6.out.idle f7); have HF7 := mkHid ((Fr.drew [] w6).trans f7 (by simp)); obtain ⟨m6, m7⟩ := HX2.out _ _ _ HS7.out; clear a7 f7))
      all_goals
        have HFin : Hid (∀ W', Eqw ((w8.setCell ⟨sh, jn j, none⟩ (.pointer (some ⟨a6, 0, none⟩))).setCell ⟨sh, 2 + jn j, none⟩ (.pointer (some ⟨r8, 0, none⟩))) W' → Sh w0 W' sh (updB v j (some ⟨a6, 0, none⟩, some ⟨r8, 0, none⟩)) (updB c j (some (n.toNat, T, T))) XX) := fun W' hW =>
          sh_puts HS3.out (HF6.out.trans HF8.out (by simp)) (HT6.out.idle HF8.out) HT8.out HG6.out (fun g hg => Nat.le_trans HF6.out.size (HG8.out g hg)) (fun g hg hm => by have := HT6.out.lt g hg; have := HG8.out g hm; omega) j hW
        have HEv : Hid (Even (updB c j (some (n.toNat, T, T)))) := fun i x hx => by
          unfold updB at hx
          by_cases e : i = j
          · rw [if_pos e] at hx; injection hx with hx; subst hx; rfl
          · rw [if_neg e] at hx; exact HE.out i x hx
        have hxb := HX3.out _ _ _ HS8.out
        obtain ⟨u0, u1⟩ := HS8.out.cells j
        obtain ⟨C8, h8, s8⟩ := HS8.out.top
        have z0 := frozen_in h8 (jn j)
        have z1 := frozen_in (set_in h8 (jn j) (.pointer (some ⟨a6, 0, none⟩))) (2 + jn j)
        have z2 : (w8.setCell ⟨sh, jn j, none⟩ (.pointer (some ⟨a6, 0, none⟩))).cell? ⟨sh, 2 + jn j, none⟩ = some (.pointer (v j).2) := by
          rw [cell_in (set_in h8 _ _), Array.getElem?_setIfInBounds_ne (by omega), ← cell_in h8]; exact u1
        have z3 : (w8.setCell ⟨sh, jn j, none⟩ (.pointer (some ⟨a6, 0, none⟩))).cell? ⟨w.heap.size, 1, none⟩ = some (.int .i64 a) := by
          rw [World.cell?_of_block (w := w8) (w' := w8.setCell ⟨sh, jn j, none⟩ (.pointer (some ⟨a6, 0, none⟩))) (a := ⟨w.heap.size, 1, none⟩) (Below.heap_setCell _ _ _ _ hxb.2)]; exact hxb.1
        obtain ⟨z4, -⟩ := hxb
        clear h8 s8
        go_wp2_with (go_at_call 12; refine (num_any _ _ (by omega) (by omega)).mono ?_; rintro e w12 ⟨rfl, rfl⟩)
        go_region_law (refine step_callG (by rfl) 29 Try.f29 Try.func29 (by kernel_rfl) (by kernel_rfl) _ _ rfl _ (by simp [Act.eval, Act.put]) _ (HP'.out _) ?_; rintro _ w9 ⟨rfl, rfl⟩)
        go_wp2_with fail
        go_region_law (refine step_callG (by rfl) 29 Try.f29 Try.func29 (by kernel_rfl) (by kernel_rfl) _ _ rfl _ (by simp [Act.eval, Act.put]) _ (HP'.out _) ?_; rintro _ w10 ⟨rfl, rfl⟩)
        go_wp2_with fail
        go_ret
        exact ⟨rfl, HEnd.out _ _ _ (HFin.out _ ⟨rfl, rfl, rfl, rfl⟩) HEv.out⟩
end Go.Proofs.Ytjeeibokdnepgaa
