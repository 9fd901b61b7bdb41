import Derived.Test.YtkmjimdaimbdfaaDoorSG07HRefB
import Derived.BigQuiet
import Derived.Test.YtkmjimdaimbdfaaDoorSG06HTold
import Derived.Deep.RegionLaw
namespace Go.Proofs.YtkmjimdaimbdfaaDoor
open Go.RowKit
set_option linter.unusedVariables false
/-- each of a list is taken beside those ahead of it -/
def allK (words oops : Nat) (ks : List Key) : Prop := ∀ (i : Nat) (o : Key), ks[i]? = some o → takesK words oops (ks.take i) o = true
theorem allK_snoc {words oops : Nat} {ks : List Key} {k : Key} (h : allK words oops ks) (hk : takesK words oops ks k = true) : allK words oops (ks ++ [k]) := by
  intro i o ho
  have hi := (List.getElem?_eq_some_iff.1 ho).1
  rw [List.length_append, List.length_singleton] at hi
  by_cases e : i < ks.length
  · rw [List.getElem?_append_left e] at ho
    rw [List.take_append_of_le_length (by omega)]
    exact h i o ho
  · have e2 : i = ks.length := by omega
    subst e2
    rw [List.getElem?_append_right (Nat.le_refl _), Nat.sub_self] at ho
    have : k = o := by simpa using ho
    subst this
    rw [List.take_append_of_le_length (Nat.le_refl _), List.take_length]
    exact hk
/-- the document's heap holds just these objects, one behind the other -/
structure ROf (words oops mark : Nat) (ks : List Key) (R : RS) : Prop where
  eWords : R.words = words
  eOops : R.oops = oops
  eMark : R.mark = mark
  born : R.born = ks.length
  turn : R.turn = 0
  keys : R.objs.map roKey = ks
  fin : (rEnd R.objs : Int) = endK ks
  fits : endK ks ≤ (words : Int)
  twice : 2 * (ks.length : Int) ≤ endK ks
  slots : ∀ o ∈ R.objs, o.place ≤ words ∧ o.slots.length ≤ 8192
  good : allK words oops ks
  old : ∀ o ∈ R.objs, o.born < R.born
  lone : R.objs.Pairwise fun x o => ∀ g, o.v.ownBlock = some g → x.v.ownBlock ≠ some g
theorem ROf.len {words oops mark : Nat} {ks : List Key} {R : RS} (h : ROf words oops mark ks R) : R.objs.length = ks.length := by rw [← h.keys, List.length_map]
theorem ROf.ok {words oops mark : Nat} {ks : List Key} {R : RS} (h : ROf words oops mark ks R) (hw : words ≤ 1048576) : ROk R :=
  ⟨by have := h.len; have := h.fits; have := h.twice; omega, fun o ho => ⟨by have := (h.slots o ho).1; omega, (h.slots o ho).2⟩⟩
theorem rEnd_snoc (l : List RO) (o : RO) : rEnd (l ++ [o]) = o.place + lenN o.slots.length o.fmt := by
  unfold rEnd
  rw [List.length_append, List.length_singleton, if_neg (by omega), Nat.add_sub_cancel]
  have : (l ++ [o]).getD l.length noRO = o := by rw [List.getD_eq_getElem?_getD, List.getElem?_append_right (Nat.le_refl _)]; simp
  rw [this]
theorem takesK_yes {words oops : Nat} {ks : List Key} {k : Key} (h : takesK words oops ks k = true) : 1 ≤ k.1 ∧ k.1 ≤ (oops : Int) ∧ (ks.any fun x => x.1 == k.1) = false ∧ isW k.2.1 = true ∧ isF k.2.2.1 = true ∧ (k.2.2.2.length : Int) ≤ 8192 ∧ (∀ j, j < k.2.2.2.length → mayB (k.2.2.2.getD j 0) k.2.2.1 = true) ∧ endK ks + lenOf (k.2.2.2.length : Int) k.2.2.1 ≤ (words : Int) := by
  unfold takesK at h
  simp only [Bool.and_eq_true, Bool.not_eq_true', decide_eq_true_eq] at h
  obtain ⟨⟨⟨⟨⟨⟨⟨h1, h2⟩, h3⟩, h4⟩, h5⟩, h6⟩, h7⟩, h8⟩ := h
  refine ⟨h1, h2, h3, h4, h5, h6, fun j hj => ?_, h8⟩
  rw [List.all_eq_true] at h7
  have e : k.2.2.2.getD j 0 = k.2.2.2[j] := by rw [List.getD_eq_getElem?_getD, List.getElem?_eq_getElem hj]; rfl
  rw [e]
  exact h7 _ (List.getElem_mem hj)
theorem ROf.nil (words oops mark : Nat) (ov : Value) : ROf words oops mark [] ⟨words, oops, mark, 0, 0, [], ov⟩ :=
  ⟨rfl, rfl, rfl, rfl, rfl, rfl, rfl, by simp [endK], by simp [endK], by simp, fun i o ho => (by simp at ho), by simp, List.Pairwise.nil⟩
theorem ROf.snoc {words oops mark : Nat} {ks : List Key} {R : RS} (h : ROf words oops mark ks R) (o : RO) (ov : Value) (ht : takesK words oops ks (roKey o) = true) (hp : o.place = rEnd R.objs) (hb : o.born = R.born) (hn : ∀ x ∈ R.objs, ∀ g, o.v.ownBlock = some g → x.v.ownBlock ≠ some g) : ROf words oops mark (ks ++ [roKey o]) { R with objs := R.objs ++ [o], born := R.born + 1, ov := ov } := by
  obtain ⟨t1, t2, t3, t4, t5, t6, t7, t8⟩ := takesK_yes ht
  have hl : lenOf (o.slots.length : Int) (o.fmt : Int) = (lenN o.slots.length o.fmt : Nat) := lenOf_nat _ _
  have h2 := lenN_two o.slots.length o.fmt
  have e : endK (ks ++ [roKey o]) = endK ks + (lenN o.slots.length o.fmt : Nat) := by rw [endK_append]; simp only [endK, roKey]; omega
  have hf := h.fin
  simp only [roKey] at t8 t6
  refine ⟨h.eWords, h.eOops, h.eMark, by show R.born + 1 = _; rw [h.born, List.length_append]; rfl, h.turn, by show (R.objs ++ [o]).map roKey = _; rw [List.map_append, h.keys]; rfl, ?_, ?_, ?_, fun x hx => ?_, allK_snoc h.good ht, fun x hx => ?_, List.pairwise_append.2 ⟨h.lone, List.pairwise_singleton _ _, fun x hx y hy => by rw [List.mem_singleton.1 hy]; exact hn x hx⟩⟩
  · show (rEnd (R.objs ++ [o]) : Int) = _
    rw [rEnd_snoc, e, hp]
    omega
  · rw [e]; omega
  · rw [e, List.length_append, List.length_singleton]
    have := h.twice
    omega
  · rcases List.mem_append.1 hx with h1 | h1
    · exact h.slots x h1
    · have : x = o := by simpa using h1
      rw [this]
      exact ⟨by omega, by omega⟩
  · show x.born < R.born + 1
    rcases List.mem_append.1 hx with h1 | h1
    · have := h.old x h1
      omega
    · have : x = o := by simpa using h1
      rw [this, hb]
      omega
theorem all_badK (f : Int → Bool) : ∀ ss : List Int, (ss.all f) = false → ∃ j, j < ss.length ∧ (∀ i, i < j → f (ss.getD i 0) = true) ∧ f (ss.getD j 0) = false
  | [], h => by simp at h
  | x :: t, h => by
    by_cases hx : f x = true
    · have ht : t.all f = false := by simpa [hx] using h
      obtain ⟨j, hj, hg, hb⟩ := all_badK f t ht
      refine ⟨j + 1, by simpa using hj, fun i hi => ?_, by simpa using hb⟩
      rcases i with _ | i
      · simpa using hx
      · simpa using hg i (by omega)
    · exact ⟨0, by simp, fun i hi => absurd hi (by omega), by simpa using hx⟩
theorem takesK_no {words oops : Nat} {ks : List Key} {k : Key} (h : takesK words oops ks k = false) :
    k.1 < 1 ∨ (1 ≤ k.1 ∧ (oops : Int) < k.1) ∨ (1 ≤ k.1 ∧ k.1 ≤ (oops : Int) ∧ (ks.any fun x => x.1 == k.1) = true) ∨
    (1 ≤ k.1 ∧ k.1 ≤ (oops : Int) ∧ (ks.any fun x => x.1 == k.1) = false ∧ (isW k.2.1 = false ∨ (isW k.2.1 = true ∧ (k.2.2.1 < 0 ∨ (0 ≤ k.2.2.1 ∧ 1 < k.2.2.1) ∨ (0 ≤ k.2.2.1 ∧ k.2.2.1 ≤ 1 ∧ (8192 < (k.2.2.2.length : Int) ∨ ((k.2.2.2.length : Int) ≤ 8192 ∧
      ((∃ j, j < k.2.2.2.length ∧ (∀ i, i < j → mayB (k.2.2.2.getD i 0) k.2.2.1 = true) ∧ mayB (k.2.2.2.getD j 0) k.2.2.1 = false) ∨ ((∀ j, j < k.2.2.2.length → mayB (k.2.2.2.getD j 0) k.2.2.1 = true) ∧ (words : Int) < endK ks + lenOf (k.2.2.2.length : Int) k.2.2.1))))))))) := by
  by_cases h1 : 1 ≤ k.1
  rotate_left
  · left; omega
  right
  by_cases h2 : k.1 ≤ (oops : Int)
  rotate_left
  · left; omega
  right
  by_cases h3 : (ks.any fun x => x.1 == k.1) = true
  · left; exact ⟨h1, h2, h3⟩
  right
  have h3 : (ks.any fun x => x.1 == k.1) = false := Bool.eq_false_iff.2 h3
  refine ⟨h1, h2, h3, ?_⟩
  by_cases h4 : isW k.2.1 = true
  rotate_left
  · left; simpa using h4
  right
  refine ⟨h4, ?_⟩
  by_cases h5 : 0 ≤ k.2.2.1
  rotate_left
  · left; omega
  right
  by_cases h6 : k.2.2.1 ≤ 1
  rotate_left
  · left; omega
  right
  refine ⟨h5, h6, ?_⟩
  by_cases h7 : (k.2.2.2.length : Int) ≤ 8192
  rotate_left
  · left; omega
  right
  refine ⟨h7, ?_⟩
  by_cases h8 : (k.2.2.2.all fun x => mayB x k.2.2.1) = true
  · right
    have hj : ∀ j, j < k.2.2.2.length → mayB (k.2.2.2.getD j 0) k.2.2.1 = true := fun j hj => by
      rw [List.all_eq_true] at h8
      have e : k.2.2.2.getD j 0 = k.2.2.2[j] := by rw [List.getD_eq_getElem?_getD, List.getElem?_eq_getElem hj]; rfl
      rw [e]
      exact h8 _ (List.getElem_mem hj)
    refine ⟨hj, ?_⟩
    by_cases h9 : endK ks + lenOf (k.2.2.2.length : Int) k.2.2.1 ≤ (words : Int)
    · exfalso
      have : takesK words oops ks k = true := by
        unfold takesK
        have h5' : isF k.2.2.1 = true := by unfold isF; simp; omega
        rw [decide_eq_true h1, decide_eq_true h2, h3, h4, h5', decide_eq_true h7, h8, decide_eq_true h9]
        rfl
      rw [h] at this
      simp at this
    · omega
  · left
    have h8 : (k.2.2.2.all fun x => mayB x k.2.2.1) = false := by simpa using h8
    exact all_badK _ _ h8
end Go.Proofs.YtkmjimdaimbdfaaDoor



namespace Go.Proofs.YtkmjimdaimbdfaaDoor
open Go.RowKit
set_option linter.unusedVariables false
/-- the objects that stay, slid together, and the place behind them -/
def kst (js : List Nat) (l : List RO) : List RO × Nat := l.foldl (fun s o => if o.oop ∈ js then (s.1 ++ [{ o with place := s.2 }], s.2 + lenN o.slots.length o.fmt) else s) ([], 0)
theorem kst_snoc (js : List Nat) (l : List RO) (o : RO) : kst js (l ++ [o]) = if o.oop ∈ js then ((kst js l).1 ++ [{ o with place := (kst js l).2 }], (kst js l).2 + lenN o.slots.length o.fmt) else kst js l := by
  unfold kst
  rw [List.foldl_append]
  rfl
/-- induction along a list, from its front on -/
theorem snoc_ind {α : Type} {P : List α → Prop} (h0 : P []) (h1 : ∀ l x, P l → P (l ++ [x])) : ∀ l, P l := fun l => by
  have : ∀ n (l : List α), l.length = n → P l := fun n => by
    induction n with
    | zero => intro l hl; rw [List.length_eq_zero_iff.1 hl]; exact h0
    | succ n ih =>
      intro l hl
      have hne : l ≠ [] := fun e => by rw [e] at hl; simp at hl
      rw [← List.dropLast_concat_getLast hne]
      exact h1 _ _ (ih _ (by simp [hl]))
  exact this _ l rfl
theorem kst_keys (js : List Nat) (l : List RO) : (kst js l).1.map roKey = (l.map roKey).filter fun k => decide (k.1.toNat ∈ js) := by
  induction l using snoc_ind with
  | h0 => rfl
  | h1 l o ih =>
    rw [kst_snoc, List.map_append, List.filter_append]
    by_cases h : o.oop ∈ js
    · rw [if_pos h, List.map_append, ih]
      congr 1
      have e : List.filter (fun k : Key => decide (k.1.toNat ∈ js)) [roKey o] = [roKey o] := by
        rw [List.filter_cons, show decide ((roKey o).1.toNat ∈ js) = true from decide_eq_true h]; rfl
      rw [List.map_singleton, List.map_singleton, e]
      rfl
    · rw [if_neg h, ih]
      have e : List.filter (fun k : Key => decide (k.1.toNat ∈ js)) [roKey o] = [] := by
        rw [List.filter_cons, show decide ((roKey o).1.toNat ∈ js) = false from decide_eq_false h]; rfl
      rw [List.map_singleton, e, List.append_nil]
theorem kst_end (js : List Nat) (l : List RO) : rEnd (kst js l).1 = (kst js l).2 := by
  induction l using snoc_ind with
  | h0 => rfl
  | h1 l o ih =>
    rw [kst_snoc]
    by_cases h : o.oop ∈ js
    · rw [if_pos h, rEnd_snoc]
    · rw [if_neg h, ih]
theorem kst_endK (js : List Nat) (l : List RO) : ((kst js l).2 : Int) = endK ((kst js l).1.map roKey) := by
  induction l using snoc_ind with
  | h0 => rfl
  | h1 l o ih =>
    rw [kst_snoc]
    by_cases h : o.oop ∈ js
    · rw [if_pos h, List.map_append, endK_append]
      have := lenOf_nat o.slots.length o.fmt
      simp only [List.map_cons, List.map_nil, endK, roKey] at this ⊢
      omega
    · rw [if_neg h, ih]
/-- each of those that stay is one of those that were there, but for its place -/
theorem kst_from (js : List Nat) (l : List RO) : ∀ o ∈ (kst js l).1, ∃ x ∈ l, o.oop = x.oop ∧ o.fmt = x.fmt ∧ o.cls = x.cls ∧ o.slots = x.slots ∧ o.v = x.v ∧ x.oop ∈ js ∧ o.place ≤ (kst js l).2 := by
  induction l using snoc_ind with
  | h0 => intro o ho; simp [kst] at ho
  | h1 l o ih =>
    rw [kst_snoc]
    by_cases h : o.oop ∈ js
    · rw [if_pos h]
      intro x hx
      rcases List.mem_append.1 hx with h1 | h1
      · obtain ⟨y, y1, y2, y3, y4, y5, y6, y7, y8⟩ := ih x h1
        exact ⟨y, List.mem_append_left _ y1, y2, y3, y4, y5, y6, y7, by show x.place ≤ _ + _; omega⟩
      · have e : x = { o with place := (kst js l).2 } := by simpa using h1
        subst e
        exact ⟨o, by simp, rfl, rfl, rfl, rfl, rfl, h, by show (kst js l).2 ≤ _ + _; omega⟩
    · rw [if_neg h]
      intro x hx
      obtain ⟨y, y1, y2⟩ := ih x hx
      exact ⟨y, List.mem_append_left _ y1, y2⟩
theorem kst_len (js : List Nat) (l : List RO) : (kst js l).1.length ≤ l.length := by
  have := congrArg List.length (kst_keys js l)
  rw [List.length_map] at this
  rw [this]
  refine Nat.le_trans (List.length_filter_le _ _) (by simp)
theorem kst_le (js : List Nat) (l : List RO) : ((kst js l).2 : Int) ≤ endK (l.map roKey) := by
  induction l using snoc_ind with
  | h0 => simp [kst, endK]
  | h1 l o ih =>
    have hl := lenOf_nat o.slots.length o.fmt
    rw [List.map_append, endK_append, kst_snoc]
    by_cases h : o.oop ∈ js
    · rw [if_pos h]
      simp only [List.map_cons, List.map_nil, endK, roKey] at hl ⊢
      omega
    · rw [if_neg h]
      simp only [List.map_cons, List.map_nil, endK, roKey] at hl ⊢
      omega
end Go.Proofs.YtkmjimdaimbdfaaDoor


namespace Go.Proofs.YtkmjimdaimbdfaaDoor
open Go.RowKit
set_option linter.unusedVariables false
attribute [local go_sem ↓] Go.wp_at_zero Go.wp_at_succ
set_option maxRecDepth 20000 in
set_option maxHeartbeats 600000 in
theorem sameWords_ok (ss : List Int) (va vb : Value) (w : World) (ha : Rd w va ss) (hb : Rd w vb ss) :
    Calls Tryd.prog 24 #[va, vb] w fun e w' => e = .returned (.bool true) ∧ ∃ n, w' = w.drewN n := by
  obtain ⟨pa, ca, rfl, hpa⟩ := ha.at_
  obtain ⟨pb, cb, rfl, hpb⟩ := hb.at_
  have hl := ha.short
  clear ha hb
  have HA := mkHid hpa
  have HB := mkHid hpb
  clear hpa hpb
  go_enter Tryd.func24, Tryd.ntmps24
  go_wp2_with fail
  go_loopw [5] (fun q wr => ∃ k : Nat, k ≤ ss.length ∧ q = .int .i64 k ∧ Hid (∃ n, wr = w.drewN n)) (fun q _ => ss.length - (intOf q).toNat)
  case atStart => exact ⟨0, Nat.zero_le _, rfl, 0, rfl⟩
  case round =>
    obtain ⟨k, hkn, rfl, hq⟩ := hrel
    by_cases hlt : k < ss.length
    · obtain ⟨ga, oa, rfl, -, hca⟩ := HA.out (by omega)
      obtain ⟨gb, ob, rfl, -, hcb⟩ := HB.out (by omega)
      obtain ⟨n, hn⟩ := hq.out
      have x1 : wr.cell? ⟨ga, oa + k, none⟩ = some (.int .i64 (ss.getD k 0)) := by rw [hn]; exact hca k hlt
      have x2 : wr.cell? ⟨gb, ob + k, none⟩ = some (.int .i64 (ss.getD k 0)) := by rw [hn]; exact hcb k hlt
      have k1 : (0 : Int) ≤ (k : Int) := by omega
      have k2 : (k : Int) < (ss.length : Int) := by omega
      have HD : Hid (∀ m, ∃ n, wr.drewN m = w.drewN n) := fun m => ⟨n + m, by rw [hn]; simp [World.drewN, Nat.add_assoc]⟩
      generalize ss.getD k 0 = z at *
      clear hca hcb hq hn HA HB
      go_wp2_with fail
      go_quiet (fail)
      go_wp2_with fail
      go_roundw
      case rel => exact ⟨k + 1, by omega, by go_num, HD.out _⟩
      case measure => simp [intOf]; omega
    · have hke : k = ss.length := by omega
      subst hke
      go_wp2_with fail
      go_ret
      exact ⟨rfl, hq.out⟩
end Go.Proofs.YtkmjimdaimbdfaaDoor



namespace Go.Proofs.YtkmjimdaimbdfaaDoor
open Go.RowKit
set_option linter.unusedVariables false
attribute [local go_sem ↓] Go.wp_at_zero Go.wp_at_succ
set_option maxRecDepth 20000 in
set_option maxHeartbeats 1000000 in
theorem sameState_at (x y z : Int) (oa ob : Value) (la lb : List OI) (w : World) (ha : SAt w oa la) (hb : SAt w ob lb) (hk : la.map oiKey = lb.map oiKey) :
    Calls Tryd.prog 23 #[.agg #[.int .i64 x, .int .i64 y, .int .i64 z, oa], .agg #[.int .i64 x, .int .i64 y, .int .i64 z, ob]] w fun e w' => e = .returned (.bool true) ∧ Fr [] w w' := by
  have hll : lb.length = la.length := by have := congrArg List.length hk; simpa using this.symm
  have HA := mkHid ha
  have HB := mkHid hb
  have HK := mkHid hk
  have hl := ha.short
  obtain ⟨pa, ca, rfl, -⟩ := ha.at_
  obtain ⟨pb, cb, rfl, -⟩ := hb.at_
  rw [hll] at HB ⊢
  clear ha hb hk
  obtain ⟨W1, hW1⟩ : ∃ W1, W1 = (w.alloc (.cells #[.int .i64 x, .int .i64 y, .int .i64 z, .slice pa la.length ca] 44)).alloc (.cells #[.int .i64 x, .int .i64 y, .int .i64 z, .slice pb la.length cb] 44) := ⟨_, rfl⟩
  have F1 : Hid (Fr [] w W1) := by rw [hW1]; exact (Fr.alloc [] _ _).trans (Fr.alloc [] _ _) (by simp)
  have HC : Hid (W1.heap[w.heap.size]? = some (.cells #[.int .i64 x, .int .i64 y, .int .i64 z, .slice pa la.length ca] 44 (0, 0)) ∧ W1.heap[w.heap.size + 1]? = some (.cells #[.int .i64 x, .int .i64 y, .int .i64 z, .slice pb la.length cb] 44 (0, 0))) := by
    rw [hW1]
    refine ⟨?_, ?_⟩
    · rw [Below.heap_alloc _ _ _ (by simp)]; exact heap_alloc_new _ _
    · have := heap_alloc_new (w.alloc (.cells #[.int .i64 x, .int .i64 y, .int .i64 z, .slice pa la.length ca] 44)) (.cells #[.int .i64 x, .int .i64 y, .int .i64 z, .slice pb la.length cb] 44)
      simpa using this
  go_enter Tryd.func23, Tryd.ntmps23
  go_wp2_with fail
  rw [← hW1]
  clear hW1
  go_loopw [5] (fun q wr => ∃ k : Nat, k ≤ la.length ∧ q = .int .i64 k ∧ Hid (Fr [] W1 wr)) (fun q _ => la.length - (intOf q).toNat)
  case atStart => exact ⟨0, Nat.zero_le _, rfl, Fr.refl _ _⟩
  case round =>
    obtain ⟨k, hkn, rfl, hf⟩ := hrel
    have b0 := (hf.out.block _ (lt_of_heap HC.out.1) (by simp)).trans HC.out.1
    have b1 := (hf.out.block _ (lt_of_heap HC.out.2) (by simp)).trans HC.out.2
    have e0 : wr.cell? ⟨w.heap.size, 3, none⟩ = some (.slice pa la.length ca) := by rw [cell_in b0]; rfl
    have e1 : wr.cell? ⟨w.heap.size + 1, 3, none⟩ = some (.slice pb la.length cb) := by rw [cell_in b1]; rfl
    have hB1 := lt_of_heap b1
    by_cases hlt : k < la.length
    · have Fk := F1.out.trans hf.out (by simp)
      have hAk := HA.out.idle Fk
      have hBk := HB.out.idle Fk
      obtain ⟨pa', ca', e2, hpa⟩ := hAk.at_
      injection e2 with e2 e2b e2c
      subst e2
      subst e2c
      clear e2b
      obtain ⟨pb', cb', e3, hpb⟩ := hBk.at_
      injection e3 with e3 e3b e3c
      subst e3
      subst e3c
      clear e3b
      obtain ⟨ga, fa, rfl, hca⟩ := hpa (by omega)
      obtain ⟨gb, fb, rfl, hcb⟩ := hpb (by omega)
      obtain ⟨o, h0, x0, x1, x2, x3⟩ := hca k hlt
      have x4 := hAk.slots o (List.mem_of_getElem? h0)
      obtain ⟨o', h0', y0, y1, y2, y3⟩ := hcb k (by omega)
      have y4 := hBk.slots o' (List.mem_of_getElem? h0')
      have hkey : oiKey o = oiKey o' := by
        have := congrArg (fun l => l[k]?) HK.out
        simp only [List.getElem?_map, h0, h0'] at this
        simpa using this
      have hgl : ga < wr.heap.size := World.block_lt_of_cell? wr ⟨ga, fa + k * 4, none⟩ x0
      have hgl2 : gb < wr.heap.size := World.block_lt_of_cell? wr ⟨gb, fb + k * 4, none⟩ y0
      obtain ⟨oo, oc, of_, os, ov⟩ := o
      obtain ⟨oo', oc', of', os', ov'⟩ := o'
      simp only [oiKey, Prod.mk.injEq] at hkey
      obtain ⟨rfl, rfl, rfl, rfl⟩ := hkey
      dsimp only at *
      have HSW : Hid (∀ V, Hid (Fr [] wr V) → Calls Tryd.prog 24 #[ov, ov'] V fun e w' => e = .returned (.bool true) ∧ Hid (Fr [] wr w')) := by
        intro V hV
        refine Calls.mono (sameWords_ok os ov ov' V (x4.idle hV.out) (y4.idle hV.out)) ?_
        rintro e w' ⟨rfl, n, rfl⟩
        exact ⟨rfl, hV.out.trans (Fr.drewN [] _ _) (by simp)⟩
      obtain ⟨p1, c1, rfl⟩ : ∃ p c, ov = .slice p os.length c := by
        obtain ⟨p, c, h, _⟩ := x4.at_
        exact ⟨p, c, h⟩
      obtain ⟨p2, c2, rfl⟩ : ∃ p c, ov' = .slice p os.length c := by
        obtain ⟨p, c, h, _⟩ := y4.at_
        exact ⟨p, c, h⟩
      have k1 : (0 : Int) ≤ (k : Int) := by omega
      have k2 : (k : Int) < (la.length : Int) := by omega
      have HS2 := mkHid (HSW.out ((wr.alloc (.cells #[.int .i64 oo, .int .i64 oc, .int .i64 of_, .slice p1 os.length c1] 90)).alloc (.cells #[.int .i64 oo, .int .i64 oc, .int .i64 of_, .slice p2 os.length c2] 90)) ((Fr.alloc [] _ _).trans (Fr.alloc [] _ _) (by simp)))
      generalize os.length = sn at *
      clear hAk hBk hca hcb hpa hpb x4 y4 b0 b1 HSW HK HA HB h0 h0' Fk hll
      go_wp2_with (go_at_call 24; refine Calls.mono HS2.out ?_; rintro e w5 ⟨rfl, hf5⟩)
      go_roundw
      case rel => exact ⟨k + 1, by omega, by go_num, hf.out.trans hf5.out (by simp)⟩
      case measure => simp [intOf]; omega
    · have hke : k = la.length := by omega
      subst hke
      go_wp2_with fail
      go_ret
      exact ⟨rfl, F1.out.trans hf.out (by simp)⟩
theorem sameState_ok (x y z : Nat) (oa ob : Value) (la lb : List OS) (ba bb : Nat) (w : World) (ha : SRep w ba oa la) (hb : SRep w bb ob lb) (hk : la.map osKey = lb.map osKey) (hl : la.length ≤ 1048576) (hsl : ∀ o ∈ la, o.slots.length ≤ 8192) :
    Calls Tryd.prog 23 #[.agg #[.int .i64 (x : Int), .int .i64 (y : Int), .int .i64 (z : Int), oa], .agg #[.int .i64 (x : Int), .int .i64 (y : Int), .int .i64 (z : Int), ob]] w fun e w' => e = .returned (.bool true) ∧ Fr [] w w' := by
  have hll : lb.length = la.length := by have := congrArg List.length hk; simpa using this.symm
  have hsb : ∀ o ∈ lb, o.slots.length ≤ 8192 := fun o ho => by
    have h1 : osKey o ∈ la.map osKey := by rw [hk]; exact List.mem_map_of_mem ho
    obtain ⟨u, hu, he⟩ := List.mem_map.1 h1
    have e2 : u.slots = o.slots := by simp only [osKey, Prod.mk.injEq] at he; exact he.2.2.2
    rw [← e2]; exact hsl u hu
  refine sameState_at x y z oa ob (la.map toOI) (lb.map toOI) w (ha.sat (by omega) (fun o ho => by have := hsl o ho; omega)) (hb.sat (by omega) (fun o ho => by have := hsb o ho; omega)) ?_
  have e : oiKey ∘ toOI = (fun k : Nat × Int × Nat × List Int => ((k.1 : Int), k.2.1, (k.2.2.1 : Int), k.2.2.2)) ∘ osKey := rfl
  rw [List.map_map, List.map_map, e, ← List.map_map, ← List.map_map, hk]
end Go.Proofs.YtkmjimdaimbdfaaDoor



namespace Go.Proofs.YtkmjimdaimbdfaaDoor
open Go.RowKit
set_option linter.unusedVariables false
attribute [local go_sem ↓] Go.wp_at_zero Go.wp_at_succ
end Go.Proofs.YtkmjimdaimbdfaaDoor


namespace Go.Proofs.YtkmjimdaimbdfaaDoor
open Go.RowKit
set_option linter.unusedVariables false
attribute [local go_sem ↓] Go.wp_at_zero Go.wp_at_succ
def th5 (t : Th) : List Value := [.bool t.there, .int .i64 t.cls, I t.fmt, I t.place, .slice t.p t.slots.length t.c]
theorem thCells_cons (s : Th) (S : List Th) : thCells (s :: S) = th5 s ++ thCells S := by simp [thCells, th5]
theorem th5_len (t : Th) : (th5 t).length = 5 := rfl
theorem thCells_get (S : List Th) : ∀ i, (thCells S)[i]? = (S[i / 5]?).bind fun t => (th5 t)[i % 5]? := by
  induction S with
  | nil => intro i; simp [thCells]
  | cons s S ih =>
    intro i
    rw [thCells_cons]
    by_cases h : i < 5
    · rw [List.getElem?_append_left (by rw [th5_len]; exact h), show i / 5 = 0 from by omega, show i % 5 = i from by omega]; rfl
    · rw [List.getElem?_append_right (by rw [th5_len]; omega), ih, th5_len, show i / 5 = (i - 5) / 5 + 1 from by omega, show (i - 5) % 5 = i % 5 from by omega]
      rfl
theorem thCells_set1 (S : List Th) (k j : Nat) (v : Value) (t' : Th) (hk : k < S.length) (hj : j < 5) (h5 : th5 t' = (th5 (S.getD k noTh)).set j v) : thCells (S.set k t') = (thCells S).set (k * 5 + j) v := by
  apply List.ext_getElem?
  intro i
  rw [thCells_get, List.getElem?_set, List.getElem?_set, thCells_len]
  by_cases h1 : i / 5 = k
  · rw [if_pos h1.symm, if_pos (by omega)]
    simp only [Option.bind_some]
    rw [h5, List.getElem?_set]
    by_cases h2 : j = i % 5
    · rw [if_pos h2, if_pos (by rw [th5_len]; exact hj), if_pos (by omega), if_pos (by omega)]
    · rw [if_neg h2, if_neg (by omega), thCells_get, h1, List.getD_eq_getElem?_getD, List.getElem?_eq_getElem hk]
      rfl
  · rw [if_neg (fun e => h1 e.symm), if_neg (by omega), thCells_get]
theorem getD_set (S : List Th) (k i : Nat) (t : Th) (hk : k < S.length) : (S.set k t).getD i noTh = if i = k then t else S.getD i noTh := by
  rw [List.getD_eq_getElem?_getD, List.getD_eq_getElem?_getD, List.getElem?_set]
  by_cases h : k = i
  · rw [if_pos h, if_pos h.symm, if_pos (by omega)]; rfl
  · rw [if_neg h, if_neg (fun e => h e.symm)]
theorem getD_mem (S : List Th) (k : Nat) (hk : k < S.length) : S.getD k noTh ∈ S := by
  rw [List.getD_eq_getElem?_getD, List.getElem?_eq_getElem hk]; exact List.getElem_mem hk
theorem mem_set {S : List Th} {k : Nat} {t u : Th} (h : u ∈ S.set k t) : u = t ∨ u ∈ S := by
  rcases List.mem_or_eq_of_mem_set h with h | h
  · exact .inr h
  · exact .inl h
end Go.Proofs.YtkmjimdaimbdfaaDoor



namespace Go.Proofs.YtkmjimdaimbdfaaDoor
open Go.RowKit
set_option linter.unusedVariables false
attribute [local go_sem ↓] Go.wp_at_zero Go.wp_at_succ
/-- the first thing of the first i that lies lowest, of those that lie at A or above -/
def pickTo (S : List Th) (A : Nat) : Nat → Option Nat
  | 0 => none
  | i + 1 => match pickTo S A i with
    | none => if (S.getD i noTh).there = true ∧ A ≤ (S.getD i noTh).place then some i else none
    | some b => if (S.getD i noTh).there = true ∧ A ≤ (S.getD i noTh).place ∧ (S.getD i noTh).place < (S.getD b noTh).place then some i else some b
theorem pickTo_none (S : List Th) (A i : Nat) (h : pickTo S A i = none) : pickTo S A (i + 1) = if (S.getD i noTh).there = true ∧ A ≤ (S.getD i noTh).place then some i else none := by
  conv => lhs; unfold pickTo
  rw [h]
theorem pickTo_some (S : List Th) (A i b : Nat) (h : pickTo S A i = some b) : pickTo S A (i + 1) = if (S.getD i noTh).there = true ∧ A ≤ (S.getD i noTh).place ∧ (S.getD i noTh).place < (S.getD b noTh).place then some i else some b := by
  conv => lhs; unfold pickTo
  rw [h]
theorem pickTo_lt (S : List Th) (A : Nat) : ∀ i b, pickTo S A i = some b → b < i ∧ (S.getD b noTh).there = true ∧ A ≤ (S.getD b noTh).place := by
  intro i
  induction i with
  | zero => intro b h; simp [pickTo] at h
  | succ i ih =>
    intro b h
    cases hp : pickTo S A i with
    | none =>
      rw [pickTo_none S A i hp] at h
      split at h
      · rename_i hc; injection h with h; subst h; exact ⟨by omega, hc⟩
      · simp at h
    | some c =>
      rw [pickTo_some S A i c hp] at h
      split at h
      · rename_i hc; injection h with h; subst h; exact ⟨by omega, hc.1, hc.2.1⟩
      · injection h with h; subst h
        have := ih _ hp
        exact ⟨by omega, this.2⟩
def pv : Option Nat → Int
  | none => -1
  | some b => b
def placed (t : Th) (A : Nat) : Th := { t with place := A }
/-- n of them slide, from A on -/
def slidN (S : List Th) (A : Nat) : Nat → List Th
  | 0 => S
  | n + 1 => match pickTo S A S.length with
    | none => S
    | some k => slidN (S.set k (placed (S.getD k noTh) A)) (A + lenN (S.getD k noTh).slots.length (S.getD k noTh).fmt) n
theorem slidN_none (S : List Th) (A n : Nat) (h : pickTo S A S.length = none) : slidN S A (n + 1) = S := by conv => lhs; unfold slidN; rw [h]
theorem slidN_some (S : List Th) (A n k : Nat) (h : pickTo S A S.length = some k) : slidN S A (n + 1) = slidN (S.set k (placed (S.getD k noTh) A)) (A + lenN (S.getD k noTh).slots.length (S.getD k noTh).fmt) n := by
  conv => lhs; unfold slidN
  rw [h]
/-- two lists of things that differ in their places alone -/
structure Alike (S T : List Th) : Prop where
  len : S.length = T.length
  at_ : ∀ i, (S.getD i noTh).there = (T.getD i noTh).there ∧ (S.getD i noTh).slots = (T.getD i noTh).slots ∧ (S.getD i noTh).fmt = (T.getD i noTh).fmt ∧ (S.getD i noTh).cls = (T.getD i noTh).cls ∧ (S.getD i noTh).p = (T.getD i noTh).p ∧ (S.getD i noTh).c = (T.getD i noTh).c
theorem Alike.refl (S : List Th) : Alike S S := ⟨rfl, fun _ => ⟨rfl, rfl, rfl, rfl, rfl, rfl⟩⟩
theorem Alike.place {S T : List Th} (h : Alike S T) (k A : Nat) (hk : k < S.length) : Alike (S.set k (placed (S.getD k noTh) A)) T := by
  refine ⟨by rw [List.length_set]; exact h.len, fun i => ?_⟩
  rw [getD_set S k i _ hk]
  split
  · rename_i e; subst e; exact h.at_ i
  · exact h.at_ i
theorem Alike.there {S T : List Th} (h : Alike S T) : ∀ k, k ≤ S.length → thereTo S k = thereTo T k := by
  intro k
  induction k with
  | zero => intro _; rfl
  | succ k ih =>
    intro hk
    rw [thereTo_succ S k (by omega), thereTo_succ T k (by have := h.len; omega), ih (by omega), (h.at_ k).1]
end Go.Proofs.YtkmjimdaimbdfaaDoor



namespace Go.Proofs.YtkmjimdaimbdfaaDoor
open Go.RowKit
set_option linter.unusedVariables false
attribute [local go_sem ↓] Go.wp_at_zero Go.wp_at_succ
def newX (f : Nat) : Int := if f = 1 then 0 else 4
end Go.Proofs.YtkmjimdaimbdfaaDoor



namespace Go.Proofs.YtkmjimdaimbdfaaDoor
open Go.RowKit
set_option linter.unusedVariables false
attribute [local go_sem ↓] Go.wp_at_zero Go.wp_at_succ
def putTh (S : List Th) (k : Nat) (t : Th) : List Th := if k < S.length then S.set k t else S ++ [t]
theorem putTh_at (S : List Th) (k : Nat) (t : Th) (hk : k ≤ S.length) : ∀ i, i < (putTh S k t).length → (putTh S k t).getD i noTh = if i = k then t else S.getD i noTh := by
  intro i hi
  unfold putTh at hi ⊢
  by_cases h : k < S.length
  · rw [if_pos h] at hi ⊢
    exact getD_set S k i t h
  · rw [if_neg h] at hi ⊢
    have hke : k = S.length := by omega
    simp at hi
    by_cases e : i = k
    · rw [if_pos e, e, hke, List.getD_eq_getElem?_getD, List.getElem?_append_right (by omega)]; simp
    · rw [if_neg e, List.getD_eq_getElem?_getD, List.getD_eq_getElem?_getD, List.getElem?_append_left (by omega)]
theorem putTh_len (S : List Th) (k : Nat) (t : Th) (hk : k ≤ S.length) : k < (putTh S k t).length ∧ ∀ i, i < (putTh S k t).length → i ≠ k → i < S.length := by
  unfold putTh
  by_cases h : k < S.length
  · rw [if_pos h]; simp; exact ⟨h, fun i hi _ => hi⟩
  · rw [if_neg h]; simp; exact ⟨by omega, fun i hi hne => by omega⟩
theorem thCells_append (S : List Th) (t : Th) : thCells (S ++ [t]) = thCells S ++ th5 t := by simp [thCells, th5]
/-- a whole thing is written -/
theorem thCells_setAll (S : List Th) (k : Nat) (t : Th) (hk : k < S.length) : thCells (S.set k t) = (((((thCells S).set (k * 5) (.bool t.there)).set (k * 5 + 1) (.int .i64 t.cls)).set (k * 5 + 2) (I t.fmt)).set (k * 5 + 3) (I t.place)).set (k * 5 + 4) (.slice t.p t.slots.length t.c) := by
  apply List.ext_getElem?
  intro i
  rw [thCells_get, List.getElem?_set, List.getElem?_set, List.getElem?_set, List.getElem?_set, List.getElem?_set, List.getElem?_set]
  simp only [List.length_set, thCells_len]
  by_cases h1 : i / 5 = k
  · rw [if_pos h1.symm, if_pos (by omega)]
    simp only [Option.bind_some]
    have h5 : i = k * 5 ∨ i = k * 5 + 1 ∨ i = k * 5 + 2 ∨ i = k * 5 + 3 ∨ i = k * 5 + 4 := by omega
    rcases h5 with e | e | e | e | e
    · rw [if_neg (by omega), if_neg (by omega), if_neg (by omega), if_neg (by omega), if_pos (by omega), if_pos (by omega), show i % 5 = 0 from by omega]; rfl
    · rw [if_neg (by omega), if_neg (by omega), if_neg (by omega), if_pos (by omega), if_pos (by omega), show i % 5 = 1 from by omega]; rfl
    · rw [if_neg (by omega), if_neg (by omega), if_pos (by omega), if_pos (by omega), show i % 5 = 2 from by omega]; rfl
    · rw [if_neg (by omega), if_pos (by omega), if_pos (by omega), show i % 5 = 3 from by omega]; rfl
    · rw [if_pos (by omega), if_pos (by omega), show i % 5 = 4 from by omega]; rfl
  · rw [if_neg (fun e => h1 e.symm), if_neg (by omega), if_neg (by omega), if_neg (by omega), if_neg (by omega), if_neg (by omega), thCells_get]
end Go.Proofs.YtkmjimdaimbdfaaDoor



namespace Go.Proofs.YtkmjimdaimbdfaaDoor
open Go.RowKit
set_option linter.unusedVariables false
attribute [local go_sem ↓] Go.wp_at_zero Go.wp_at_succ
def setTh (w : World) (g q : Nat) (t : Th) : World :=
  ((((w.setCell ⟨g, q * 5, none⟩ (.bool t.there)).setCell ⟨g, q * 5 + 1, none⟩ (.int .i64 t.cls)).setCell ⟨g, q * 5 + 2, none⟩ (.int .i64 t.fmt)).setCell ⟨g, q * 5 + 3, none⟩ (.int .i64 t.place)).setCell ⟨g, q * 5 + 4, none⟩ (.slice t.p t.slots.length t.c)
theorem setTh_else {w : World} {g q : Nat} {t : Th} {i : Nat} (h : i ≠ g) : (setTh w g q t).heap[i]? = w.heap[i]? := by
  unfold setTh
  rw [set_else h, set_else h, set_else h, set_else h, set_else h]
theorem setTh_fr (w : World) (g q : Nat) (t : Th) (S : List Nat) (h : g ∈ S) : Fr S w (setTh w g q t) := by
  unfold setTh
  exact ((((Fr.setCell w _ _ h).trans (Fr.setCell (S := S) _ _ _ h) (fun b hb => .inl hb)).trans (Fr.setCell (S := S) _ _ _ h) (fun b hb => .inl hb)).trans (Fr.setCell (S := S) _ _ _ h) (fun b hb => .inl hb)).trans (Fr.setCell (S := S) _ _ _ h) (fun b hb => .inl hb)
end Go.Proofs.YtkmjimdaimbdfaaDoor



namespace Go.Proofs.YtkmjimdaimbdfaaDoor
open Go.RowKit
set_option linter.unusedVariables false
attribute [local go_sem ↓] Go.wp_at_zero Go.wp_at_succ
end Go.Proofs.YtkmjimdaimbdfaaDoor



namespace Go.Proofs.YtkmjimdaimbdfaaDoor
open Go.RowKit
set_option linter.unusedVariables false
/-- the heap and the model say the same, but for words that may lie idle at the end -/
structure InvV (H : HS) (M : MS) : Prop where
  safe : Safe H
  words : H.words = M.words
  oops : H.oops = M.oops
  mark : H.mark = M.mark
  len : H.seats.length ≤ M.things.length + 1
  seat0 : (H.seats.getD 0 (0, 0, 0)).2.1 = 0
  there : ∀ k, k < M.things.length → ((M.things.getD k noTh).there = true ↔ (H.seats.getD (k + 1) (0, 0, 0)).2.1 ≠ 0)
  seat : ∀ k, k < M.things.length → (M.things.getD k noTh).there = true → (H.seats.getD (k + 1) (0, 0, 0)).1 = (M.things.getD k noTh).place ∧ (H.seats.getD (k + 1) (0, 0, 0)).2.1 = lenN (M.things.getD k noTh).slots.length (M.things.getD k noTh).fmt
  is : ∀ k, k < M.things.length → (M.things.getD k noTh).there = true → Is H (k + 1) (M.things.getD k noTh)
  count : H.count = thereTo M.things M.things.length
  turn : ∀ k, k < M.things.length → (M.things.getD k noTh).there = true → (H.seats.getD (k + 1) (0, 0, 0)).2.2 < H.order.length ∧ H.order.getD (H.seats.getD (k + 1) (0, 0, 0)).2.2 0 = k + 1
  order : ∀ j, j < H.order.length → H.order.getD j 0 ≠ 0 → H.order.getD j 0 ≤ M.things.length ∧ (M.things.getD (H.order.getD j 0 - 1) noTh).there = true ∧ (H.seats.getD (H.order.getD j 0) (0, 0, 0)).2.2 = j
  rise : ∀ i j, i < j → j < H.order.length → H.order.getD i 0 ≠ 0 → H.order.getD j 0 ≠ 0 → (H.seats.getD (H.order.getD i 0) (0, 0, 0)).1 + (H.seats.getD (H.order.getD i 0) (0, 0, 0)).2.1 ≤ (H.seats.getD (H.order.getD j 0) (0, 0, 0)).1
  gaps : ∀ p, p < H.mem.length → (∀ k, k < M.things.length → (M.things.getD k noTh).there = true → p < (M.things.getD k noTh).place ∨ (M.things.getD k noTh).place + lenN (M.things.getD k noTh).slots.length (M.things.getD k noTh).fmt ≤ p) → H.mem.getD p 0 = 0
  bit : ∀ k, (H.bits.getD (k / 64) 0).testBit (k % 64) = (M.things.getD k noTh).there
  low : ∀ i, i < H.low → H.bits.getD i 0 = full
  model : MOk M
  deep : ∀ j, j < H.order.length → H.order.getD j 0 ≠ 0 → 2 * j ≤ (H.seats.getD (H.order.getD j 0) (0, 0, 0)).1
  most : M.things.length ≤ M.oops
  room : (H.words : Int) ≤ 1048576
/-- the heap and the model say the same: what every step keeps -/
structure Inv (H : HS) (M : MS) : Prop extends InvV H M where
  fin : H.mem.length = endTo M.things M.things.length
  last : ∀ j, H.order.length = j + 1 → H.order.getD j 0 ≠ 0
theorem Inv.allLen {H : HS} {M : MS} (h : Inv H M) : ∀ k, k ≤ M.things.length → (allTo H (k + 1)).length = thereTo M.things k := by
  intro k
  induction k with
  | zero =>
    intro _
    rw [allTo_succ, h.seat0]
    rfl
  | succ k ih =>
    intro hk
    rw [allTo_succ, List.length_append, ih (by omega), thereTo_succ M.things k (by omega)]
    have ht := h.there k (by omega)
    cases hb : (M.things.getD k noTh).there with
    | true => rw [if_pos (by have := ht.1 hb; omega)]; rfl
    | false =>
      have : ¬ 0 < (H.seats.getD (k + 1) (0, 0, 0)).2.1 := fun hp => by
        have := ht.2 (by omega)
        rw [hb] at this
        simp at this
      rw [if_neg this]; rfl
theorem Inv.allAt {H : HS} {M : MS} (h : Inv H M) (k : Nat) (hb : (M.things.getD k noTh).there = true) : ∀ n, k < n → n ≤ M.things.length → (allTo H (n + 1))[thereTo M.things k]? = some (k + 1) := by
  intro n
  induction n with
  | zero => intro h1; omega
  | succ n ih =>
    intro h1 h2
    by_cases e : k = n
    · subst e
      have hl := h.allLen k (by omega)
      rw [allTo_succ, if_pos (by have := (h.there k (by omega)).1 hb; omega), List.getElem?_append_right (by omega), hl, Nat.sub_self]
      rfl
    · have := ih (by omega) (by omega)
      rw [allTo_succ, List.getElem?_append_left ?_]
      · exact this
      · exact (List.getElem?_eq_some_iff.1 this).1
theorem allTo_out (H : HS) : ∀ n, allTo H (H.seats.length + n) = allTo H H.seats.length
  | 0 => rfl
  | n + 1 => by
    rw [← Nat.add_assoc, allTo_succ, allTo_out H n, List.getD_eq_getElem?_getD, List.getElem?_eq_none (by omega)]
    simp
theorem Inv.allEnd {H : HS} {M : MS} (h : Inv H M) : allTo H H.seats.length = allTo H (M.things.length + 1) := by
  have hl := h.len
  have := allTo_out H (M.things.length + 1 - H.seats.length)
  rw [Nat.add_sub_cancel' hl] at this
  exact this.symm
theorem InvV.seatIn {H : HS} {M : MS} (h : InvV H M) (k : Nat) (hk : k < M.things.length) (hb : (M.things.getD k noTh).there = true) : k + 1 < H.seats.length := by
  have h1 := (h.there k hk).1 hb
  by_cases hc : k + 1 < H.seats.length
  · exact hc
  · rw [List.getD_eq_getElem?_getD, List.getElem?_eq_none (by omega)] at h1
    exact absurd rfl h1
theorem Inv.has {H : HS} {M : MS} (h : Inv H M) (k : Nat) (hk : k < M.things.length) : has H ((k : Int) + 1) = (M.things.getD k noTh).there := by
  have e : ((k : Int) + 1).toNat = k + 1 := by omega
  cases hb : (M.things.getD k noTh).there with
  | true => exact decide_eq_true ⟨by omega, by have := h.seatIn k hk hb; omega, by rw [e]; exact (h.there k hk).1 hb⟩
  | false =>
    refine decide_eq_false (fun hc => ?_)
    rw [e] at hc
    have := (h.there k hk).2 hc.2.2
    rw [hb] at this
    simp at this
theorem Inv.told {H : HS} {M : MS} (h : Inv H M) : Told H M where
  small := h.safe.small
  words := h.words
  oops := h.oops
  mark := h.mark
  fin := h.fin
  cnt := h.count
  is := h.is
  none := fun k hk hb => by rw [h.has k hk, hb]
  all := fun k hk hb => by rw [h.allEnd]; exact h.allAt k hb _ hk (Nat.le_refl _)
  allLen := by rw [h.allEnd]; exact h.allLen _ (Nat.le_refl _)
  seats := h.safe.seats
/-- no other object is there -/
theorem Inv.hasM {H : HS} {M : MS} (h : Inv H M) (oop : Int) : Go.Proofs.YtkmjimdaimbdfaaDoor.has H oop = mhas M oop := by
  by_cases h1 : 1 ≤ oop ∧ oop ≤ M.things.length
  · obtain ⟨k, rfl⟩ : ∃ k : Nat, oop = (k : Int) + 1 := ⟨oop.toNat - 1, by omega⟩
    rw [h.has k (by omega)]
    cases hb : (M.things.getD k noTh).there with
    | true => exact (mhas_of k (by omega) hb).symm
    | false => exact (decide_eq_false (by rw [show ((k : Int) + 1).toNat - 1 = k from by omega, hb]; simp)).symm
  · have e1 : mhas M oop = false := decide_eq_false (by omega)
    rw [e1]
    refine decide_eq_false (fun hc => ?_)
    have hl := h.len
    omega
end Go.Proofs.YtkmjimdaimbdfaaDoor



namespace Go.Proofs.YtkmjimdaimbdfaaDoor
open Go.RowKit
set_option linter.unusedVariables false
theorem ctz_bits (x : Nat) (h0 : x ≠ 0) (hx : x < 18446744073709551616) : x.testBit (Lib.ctz 64 x) = true ∧ ∀ i, i < Lib.ctz 64 x → x.testBit i = false := by
  have e : Lib.ctz 64 x = Lib.ctzFrom 64 x := by unfold Lib.ctz; rw [if_neg h0]
  obtain ⟨m, h1, h2⟩ := Lib.ctzFrom_spec 64 x (by omega) hx
  rw [e]
  generalize Lib.ctzFrom 64 x = c at *
  rw [h1]
  refine ⟨?_, fun i hi => ?_⟩
  · rw [Nat.testBit_two_pow_mul]; simp
  · rw [Nat.testBit_two_pow_mul]; simp; omega
theorem not_bits (b i : Nat) (hb : b ≤ full) (hi : i < 64) : (full - b).testBit i = !b.testBit i := by
  unfold full at *
  rw [show (18446744073709551615 - b : Nat) = 2 ^ 64 - (b + 1) from by omega, Nat.testBit_two_pow_sub_succ (by omega)]
  simp [hi]
theorem full_bits (i : Nat) (hi : i < 64) : full.testBit i = true := by
  unfold full
  rw [show (18446744073709551615 : Nat) = 2 ^ 64 - 1 from rfl, Nat.testBit_two_pow_sub_one]
  simpa using hi
/-- the lowest free bit is the model's lowest free oop -/
theorem Inv.lowest {H : HS} {M : MS} (h : Inv H M) (k : Nat) (hk : LowTo H.bits H.low k) (hkf : k < H.bits.length → H.bits.getD k 0 ≠ full) : oopN H.bits k = lowTo M.things := by
  obtain ⟨x, hx⟩ : ∃ x, oopN H.bits k = x + 1 ∧ k * 64 ≤ x ∧ x < k * 64 + 64 ∧ (∀ j, k * 64 ≤ j → j < x → (H.bits.getD k 0).testBit (j % 64) = true) ∧ (H.bits.getD k 0).testBit (x % 64) = false := by
    unfold oopN
    by_cases e : k = H.bits.length
    · rw [if_pos e]
      refine ⟨k * 64, rfl, by omega, by omega, fun j h1 h2 => by omega, ?_⟩
      rw [List.getD_eq_getElem?_getD, List.getElem?_eq_none (by omega)]
      simp
    · rw [if_neg e]
      have hl : k < H.bits.length := by have := hk.le; omega
      have hb := h.safe.bits k
      have hne := hkf hl
      have h0 : full - H.bits.getD k 0 ≠ 0 := by omega
      have h1 : full - H.bits.getD k 0 < 18446744073709551616 := by unfold full; omega
      have hc := ctz_lt _ h0 h1
      obtain ⟨b1, b2⟩ := ctz_bits _ h0 h1
      generalize Lib.ctz 64 (full - H.bits.getD k 0) = c at *
      refine ⟨k * 64 + c, rfl, by omega, by omega, fun j h1 h2 => ?_, ?_⟩
      · have := b2 (j % 64) (by omega)
        rw [not_bits _ _ hb (by omega)] at this
        simpa using this
      · rw [not_bits _ _ hb hc] at b1
        rw [show (k * 64 + c) % 64 = c from by omega]
        simpa using b1
  obtain ⟨e1, e2, e3, e4, e5⟩ := hx
  rw [e1]
  have hup : ∀ j, j < x → (M.things.getD j noTh).there = true := by
    intro j hj
    rw [← h.bit j]
    by_cases hjk : j < k * 64
    · have hw : H.bits.getD (j / 64) 0 = full := by
        by_cases hl : j / 64 < H.low
        · exact h.low _ hl
        · exact hk.ful _ (by omega) (by omega)
      rw [hw]
      exact full_bits _ (by omega)
    · rw [show j / 64 = k from by omega]
      exact e4 j (by omega) hj
  have hno : (M.things.getD x noTh).there = false := by
    rw [← h.bit x, show x / 64 = k from by omega]
    exact e5
  have hin : ∀ j, (M.things.getD j noTh).there = true → j < M.things.length := by
    intro j hj
    by_cases hl : j < M.things.length
    · exact hl
    · rw [List.getD_eq_getElem?_getD, List.getElem?_eq_none (by omega)] at hj
      simp [noTh] at hj
  by_cases hxl : x < M.things.length
  · exact (lowTo_at M.things x hxl hup hno).symm
  · have hxe : x = M.things.length := by
      by_cases h0 : x = 0
      · omega
      · have := hin (x - 1) (hup _ (by omega))
        omega
    rw [lowTo_full M.things (fun j hj => hup j (by omega)), hxe]
theorem lowTo_le (S : List Th) : lowTo S ≤ S.length + 1 ∧ 1 ≤ lowTo S := by
  unfold lowTo
  have := List.IsPrefix.length_le (List.takeWhile_prefix (p := fun t : Th => t.there) (l := S))
  omega
end Go.Proofs.YtkmjimdaimbdfaaDoor



namespace Go.Proofs.YtkmjimdaimbdfaaDoor
open Go.RowKit
set_option linter.unusedVariables false
def emptyM (words oops : Nat) : MS := ⟨words, oops, 0, [], none, 0⟩
theorem inv_empty (words oops : Nat) (h1 : (words : Int) ≤ 1048576) (h2 : (oops : Int) ≤ 65536) : Inv (emptyH words oops) (emptyM words oops) where
  safe := ⟨⟨by show (words : Int) ≤ _; omega, h2, by show ((0 : Nat) : Int) ≤ (words : Int); omega, by show ((0 : Nat) : Int) ≤ (oops : Int); omega, by show ((0 : Nat) : Int) ≤ _; omega⟩, Nat.le_refl _, by show ((0 : Nat) : Int) ≤ _; omega, fun k => by simp [emptyH, full], by show ((0 : Nat) : Int) ≤ _; omega, by show ((0 : Nat) : Int) ≤ _; omega⟩
  words := rfl
  oops := rfl
  mark := rfl
  len := Nat.zero_le _
  seat0 := rfl
  there := fun k hk => by simp [emptyM] at hk
  seat := fun k hk => by simp [emptyM] at hk
  is := fun k hk => by simp [emptyM] at hk
  count := rfl
  fin := rfl
  turn := fun k hk => by simp [emptyM] at hk
  order := fun j hj => by simp [emptyH] at hj
  rise := fun i j _ hj => by simp [emptyH] at hj
  last := fun j hj => by simp [emptyH] at hj
  gaps := fun p hp => by simp [emptyH] at hp
  bit := fun k => by simp [emptyH, emptyM, noTh]
  low := fun i hi => by simp [emptyH] at hi
  model := ⟨by show ((0 : Nat) : Int) ≤ _; omega, fun k hk => by simp [emptyM] at hk, fun k hk => by simp [emptyM] at hk⟩
  deep := fun j hj => by simp [emptyH] at hj
  most := Nat.zero_le _
  room := h1
/-- the order is no longer than half the memory -/
theorem Inv.short {H : HS} {M : MS} (h : Inv H M) : 2 * H.order.length ≤ H.mem.length := by
  cases hl : H.order.length with
  | zero => omega
  | succ j =>
    have hn := h.last j hl
    have hd := h.deep j (by omega) hn
    obtain ⟨o1, o2, o3⟩ := h.order j (by omega) hn
    have hi := h.is (H.order.getD j 0 - 1) (by omega) o2
    have hr := hi.room
    rw [show H.order.getD j 0 - 1 + 1 = H.order.getD j 0 from by omega] at hr
    have := lenN_two (M.things.getD (H.order.getD j 0 - 1) noTh).slots.length (M.things.getD (H.order.getD j 0 - 1) noTh).fmt
    omega
theorem th_in {S : List Th} {j : Nat} (hj : (S.getD j noTh).there = true) : j < S.length := by
  by_cases hl : j < S.length
  · exact hl
  · rw [List.getD_eq_getElem?_getD, List.getElem?_eq_none (by omega)] at hj
    simp [noTh] at hj
theorem lowTo_free (S : List Th) : (S.getD (lowTo S - 1) noTh).there = false ∧ ∀ j, j < lowTo S - 1 → (S.getD j noTh).there = true := by
  unfold lowTo
  induction S with
  | nil => simp [noTh]
  | cons s S ih =>
    by_cases hs : s.there = true
    · rw [List.takeWhile_cons_of_pos hs]
      simp only [List.length_cons, Nat.add_sub_cancel] at ih ⊢
      refine ⟨by simpa using ih.1, fun j hj => ?_⟩
      cases j with
      | zero => simpa using hs
      | succ j => simpa using ih.2 j (by simpa using hj)
    · rw [List.takeWhile_cons_of_neg hs]
      simp
      simpa using hs
/-- where the first ones are all there, as many are there -/
theorem thereTo_all (S : List Th) : ∀ k, k ≤ S.length → (∀ j, j < k → (S.getD j noTh).there = true) → thereTo S k = k := by
  intro k
  induction k with
  | zero => intro _ _; rfl
  | succ k ih =>
    intro h1 h2
    rw [thereTo_succ S k (by omega), ih (by omega) (fun j hj => h2 j (by omega)), if_pos (h2 k (by omega))]
theorem thereTo_mono (S : List Th) : ∀ n k, k ≤ n → n ≤ S.length → thereTo S k ≤ thereTo S n := by
  intro n
  induction n with
  | zero => intro k h1 _; rw [show k = 0 from by omega]; exact Nat.le_refl _
  | succ n ih =>
    intro k h1 h2
    by_cases e : k = n + 1
    · rw [e]; exact Nat.le_refl _
    · have := ih k (by omega) (by omega)
      have := thereTo_succ S n (by omega)
      omega
theorem Inv.low_le {H : HS} {M : MS} (h : Inv H M) : lowTo M.things - 1 ≤ H.count := by
  have hf := lowTo_free M.things
  have hl := lowTo_le M.things
  have h1 := thereTo_all M.things (lowTo M.things - 1) (by omega) hf.2
  have h2 := thereTo_mono M.things M.things.length (lowTo M.things - 1) (by omega) (Nat.le_refl _)
  rw [h.count]
  omega
theorem getD_pad (S : List (Nat × Nat × Nat)) (n i : Nat) : (padSeats S n).getD i (0, 0, 0) = S.getD i (0, 0, 0) := by
  unfold padSeats
  rw [List.getD_eq_getElem?_getD, List.getD_eq_getElem?_getD]
  by_cases h : i < S.length
  · rw [List.getElem?_append_left h]
  · rw [List.getElem?_append_right (by omega), List.getElem?_eq_none (l := S) (by omega), List.getElem?_replicate]
    split <;> rfl
theorem laySeat (S : List (Nat × Nat × Nat)) (o i : Nat) (s : Nat × Nat × Nat) : ((padSeats S (o + 1)).set o s).getD i (0, 0, 0) = if i = o then s else S.getD i (0, 0, 0) := by
  rw [List.getD_eq_getElem?_getD, List.getElem?_set]
  by_cases h : o = i
  · rw [if_pos h, if_pos h.symm, if_pos (by unfold padSeats; simp; omega)]; rfl
  · rw [if_neg h, if_neg (fun e => h e.symm), ← List.getD_eq_getElem?_getD, getD_pad]
end Go.Proofs.YtkmjimdaimbdfaaDoor



