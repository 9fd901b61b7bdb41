import Derived.Test.YtdkbnnhcjaibdaaDoorSG08HPutAll
import Derived.Test.YtdkbnnhcjaibdaaDoorSG07HRd
import Derived.BigQuiet
import Derived.Test.YtdkbnnhcjaibdaaDoorSG13BNil
import Derived.Test.YtdkbnnhcjaibdaaDoorSG02HKey
import Derived.Test.YtdkbnnhcjaibdaaDoorSG05HAll
namespace Go.Proofs.YtdkbnnhcjaibdaaDoor
open Go.RowKit
set_option linter.unusedVariables false
/-- each of a list is taken beside those ahead of it -/
def allK (words oops : Nat) (ks : List Key) : Prop := ∀ (i : Nat) (o : Key), ks[i]? = some o → takesK words oops (ks.take i) o = true
theorem allK_snoc {words oops : Nat} {ks : List Key} {k : Key} (h : allK words oops ks) (hk : takesK words oops ks k = true) : allK words oops (ks ++ [k]) := by
  intro i o ho
  have hi := (List.getElem?_eq_some_iff.1 ho).1
  rw [List.length_append, List.length_singleton] at hi
  by_cases e : i < ks.length
  · rw [List.getElem?_append_left e] at ho
    rw [List.take_append_of_le_length (by omega)]
    exact h i o ho
  · have e2 : i = ks.length := by omega
    subst e2
    rw [List.getElem?_append_right (Nat.le_refl _), Nat.sub_self] at ho
    have : k = o := by simpa using ho
    subst this
    rw [List.take_append_of_le_length (Nat.le_refl _), List.take_length]
    exact hk
/-- the document's heap holds just these objects, one behind the other -/
structure ROf (words oops mark : Nat) (ks : List Key) (R : RS) : Prop where
  eWords : R.words = words
  eOops : R.oops = oops
  eMark : R.mark = mark
  born : R.born = ks.length
  turn : R.turn = 0
  keys : R.objs.map roKey = ks
  fin : (rEnd R.objs : Int) = endK ks
  fits : endK ks ≤ (words : Int)
  twice : 2 * (ks.length : Int) ≤ endK ks
  slots : ∀ o ∈ R.objs, o.place ≤ words ∧ o.slots.length ≤ 8192
  good : allK words oops ks
  old : ∀ o ∈ R.objs, o.born < R.born
  lone : R.objs.Pairwise fun x o => ∀ g, o.v.ownBlock = some g → x.v.ownBlock ≠ some g
theorem ROf.len {words oops mark : Nat} {ks : List Key} {R : RS} (h : ROf words oops mark ks R) : R.objs.length = ks.length := by rw [← h.keys, List.length_map]
theorem ROf.ok {words oops mark : Nat} {ks : List Key} {R : RS} (h : ROf words oops mark ks R) (hw : words ≤ 1048576) : ROk R :=
  ⟨by have := h.len; have := h.fits; have := h.twice; omega, fun o ho => ⟨by have := (h.slots o ho).1; omega, (h.slots o ho).2⟩⟩
theorem rEnd_snoc (l : List RO) (o : RO) : rEnd (l ++ [o]) = o.place + lenN o.slots.length o.fmt := by
  unfold rEnd
  rw [List.length_append, List.length_singleton, if_neg (by omega), Nat.add_sub_cancel]
  have : (l ++ [o]).getD l.length noRO = o := by rw [List.getD_eq_getElem?_getD, List.getElem?_append_right (Nat.le_refl _)]; simp
  rw [this]
theorem takesK_yes {words oops : Nat} {ks : List Key} {k : Key} (h : takesK words oops ks k = true) : 1 ≤ k.1 ∧ k.1 ≤ (oops : Int) ∧ (ks.any fun x => x.1 == k.1) = false ∧ isW k.2.1 = true ∧ isF k.2.2.1 = true ∧ (k.2.2.2.length : Int) ≤ 8192 ∧ (∀ j, j < k.2.2.2.length → mayB (k.2.2.2.getD j 0) k.2.2.1 = true) ∧ endK ks + lenOf (k.2.2.2.length : Int) k.2.2.1 ≤ (words : Int) := by
  unfold takesK at h
  simp only [Bool.and_eq_true, Bool.not_eq_true', decide_eq_true_eq] at h
  obtain ⟨⟨⟨⟨⟨⟨⟨h1, h2⟩, h3⟩, h4⟩, h5⟩, h6⟩, h7⟩, h8⟩ := h
  refine ⟨h1, h2, h3, h4, h5, h6, fun j hj => ?_, h8⟩
  rw [List.all_eq_true] at h7
  have e : k.2.2.2.getD j 0 = k.2.2.2[j] := by rw [List.getD_eq_getElem?_getD, List.getElem?_eq_getElem hj]; rfl
  rw [e]
  exact h7 _ (List.getElem_mem hj)
theorem ROf.nil (words oops mark : Nat) (ov : Value) : ROf words oops mark [] ⟨words, oops, mark, 0, 0, [], ov⟩ :=
  ⟨rfl, rfl, rfl, rfl, rfl, rfl, rfl, by simp [endK], by simp [endK], by simp, fun i o ho => (by simp at ho), by simp, List.Pairwise.nil⟩
theorem ROf.snoc {words oops mark : Nat} {ks : List Key} {R : RS} (h : ROf words oops mark ks R) (o : RO) (ov : Value) (ht : takesK words oops ks (roKey o) = true) (hp : o.place = rEnd R.objs) (hb : o.born = R.born) (hn : ∀ x ∈ R.objs, ∀ g, o.v.ownBlock = some g → x.v.ownBlock ≠ some g) : ROf words oops mark (ks ++ [roKey o]) { R with objs := R.objs ++ [o], born := R.born + 1, ov := ov } := by
  obtain ⟨t1, t2, t3, t4, t5, t6, t7, t8⟩ := takesK_yes ht
  have hl : lenOf (o.slots.length : Int) (o.fmt : Int) = (lenN o.slots.length o.fmt : Nat) := lenOf_nat _ _
  have h2 := lenN_two o.slots.length o.fmt
  have e : endK (ks ++ [roKey o]) = endK ks + (lenN o.slots.length o.fmt : Nat) := by rw [endK_append]; simp only [endK, roKey]; omega
  have hf := h.fin
  simp only [roKey] at t8 t6
  refine ⟨h.eWords, h.eOops, h.eMark, by show R.born + 1 = _; rw [h.born, List.length_append]; rfl, h.turn, by show (R.objs ++ [o]).map roKey = _; rw [List.map_append, h.keys]; rfl, ?_, ?_, ?_, fun x hx => ?_, allK_snoc h.good ht, fun x hx => ?_, List.pairwise_append.2 ⟨h.lone, List.pairwise_singleton _ _, fun x hx y hy => by rw [List.mem_singleton.1 hy]; exact hn x hx⟩⟩
  · show (rEnd (R.objs ++ [o]) : Int) = _
    rw [rEnd_snoc, e, hp]
    omega
  · rw [e]; omega
  · rw [e, List.length_append, List.length_singleton]
    have := h.twice
    omega
  · rcases List.mem_append.1 hx with h1 | h1
    · exact h.slots x h1
    · have : x = o := by simpa using h1
      rw [this]
      exact ⟨by omega, by omega⟩
  · show x.born < R.born + 1
    rcases List.mem_append.1 hx with h1 | h1
    · have := h.old x h1
      omega
    · have : x = o := by simpa using h1
      rw [this, hb]
      omega
theorem all_badK (f : Int → Bool) : ∀ ss : List Int, (ss.all f) = false → ∃ j, j < ss.length ∧ (∀ i, i < j → f (ss.getD i 0) = true) ∧ f (ss.getD j 0) = false
  | [], h => by simp at h
  | x :: t, h => by
    by_cases hx : f x = true
    · have ht : t.all f = false := by simpa [hx] using h
      obtain ⟨j, hj, hg, hb⟩ := all_badK f t ht
      refine ⟨j + 1, by simpa using hj, fun i hi => ?_, by simpa using hb⟩
      rcases i with _ | i
      · simpa using hx
      · simpa using hg i (by omega)
    · exact ⟨0, by simp, fun i hi => absurd hi (by omega), by simpa using hx⟩
theorem takesK_no {words oops : Nat} {ks : List Key} {k : Key} (h : takesK words oops ks k = false) :
    k.1 < 1 ∨ (1 ≤ k.1 ∧ (oops : Int) < k.1) ∨ (1 ≤ k.1 ∧ k.1 ≤ (oops : Int) ∧ (ks.any fun x => x.1 == k.1) = true) ∨
    (1 ≤ k.1 ∧ k.1 ≤ (oops : Int) ∧ (ks.any fun x => x.1 == k.1) = false ∧ (isW k.2.1 = false ∨ (isW k.2.1 = true ∧ (k.2.2.1 < 0 ∨ (0 ≤ k.2.2.1 ∧ 1 < k.2.2.1) ∨ (0 ≤ k.2.2.1 ∧ k.2.2.1 ≤ 1 ∧ (8192 < (k.2.2.2.length : Int) ∨ ((k.2.2.2.length : Int) ≤ 8192 ∧
      ((∃ j, j < k.2.2.2.length ∧ (∀ i, i < j → mayB (k.2.2.2.getD i 0) k.2.2.1 = true) ∧ mayB (k.2.2.2.getD j 0) k.2.2.1 = false) ∨ ((∀ j, j < k.2.2.2.length → mayB (k.2.2.2.getD j 0) k.2.2.1 = true) ∧ (words : Int) < endK ks + lenOf (k.2.2.2.length : Int) k.2.2.1))))))))) := by
  by_cases h1 : 1 ≤ k.1
  rotate_left
  · left; omega
  right
  by_cases h2 : k.1 ≤ (oops : Int)
  rotate_left
  · left; omega
  right
  by_cases h3 : (ks.any fun x => x.1 == k.1) = true
  · left; exact ⟨h1, h2, h3⟩
  right
  have h3 : (ks.any fun x => x.1 == k.1) = false := Bool.eq_false_iff.2 h3
  refine ⟨h1, h2, h3, ?_⟩
  by_cases h4 : isW k.2.1 = true
  rotate_left
  · left; simpa using h4
  right
  refine ⟨h4, ?_⟩
  by_cases h5 : 0 ≤ k.2.2.1
  rotate_left
  · left; omega
  right
  by_cases h6 : k.2.2.1 ≤ 1
  rotate_left
  · left; omega
  right
  refine ⟨h5, h6, ?_⟩
  by_cases h7 : (k.2.2.2.length : Int) ≤ 8192
  rotate_left
  · left; omega
  right
  refine ⟨h7, ?_⟩
  by_cases h8 : (k.2.2.2.all fun x => mayB x k.2.2.1) = true
  · right
    have hj : ∀ j, j < k.2.2.2.length → mayB (k.2.2.2.getD j 0) k.2.2.1 = true := fun j hj => by
      rw [List.all_eq_true] at h8
      have e : k.2.2.2.getD j 0 = k.2.2.2[j] := by rw [List.getD_eq_getElem?_getD, List.getElem?_eq_getElem hj]; rfl
      rw [e]
      exact h8 _ (List.getElem_mem hj)
    refine ⟨hj, ?_⟩
    by_cases h9 : endK ks + lenOf (k.2.2.2.length : Int) k.2.2.1 ≤ (words : Int)
    · exfalso
      have : takesK words oops ks k = true := by
        unfold takesK
        have h5' : isF k.2.2.1 = true := by unfold isF; simp; omega
        rw [decide_eq_true h1, decide_eq_true h2, h3, h4, h5', decide_eq_true h7, h8, decide_eq_true h9]
        rfl
      rw [h] at this
      simp at this
    · omega
  · left
    have h8 : (k.2.2.2.all fun x => mayB x k.2.2.1) = false := by simpa using h8
    exact all_badK _ _ h8
end Go.Proofs.YtdkbnnhcjaibdaaDoor

namespace Go.Proofs.YtdkbnnhcjaibdaaDoor
open Go.RowKit
set_option linter.unusedVariables false
/-- the objects that stay, slid together, and the place behind them -/
def kst (js : List Nat) (l : List RO) : List RO × Nat := l.foldl (fun s o => if o.oop ∈ js then (s.1 ++ [{ o with place := s.2 }], s.2 + lenN o.slots.length o.fmt) else s) ([], 0)
theorem kst_snoc (js : List Nat) (l : List RO) (o : RO) : kst js (l ++ [o]) = if o.oop ∈ js then ((kst js l).1 ++ [{ o with place := (kst js l).2 }], (kst js l).2 + lenN o.slots.length o.fmt) else kst js l := by
  unfold kst
  rw [List.foldl_append]
  rfl
/-- induction along a list, from its front on -/
theorem snoc_ind {α : Type} {P : List α → Prop} (h0 : P []) (h1 : ∀ l x, P l → P (l ++ [x])) : ∀ l, P l := fun l => by
  have : ∀ n (l : List α), l.length = n → P l := fun n => by
    induction n with
    | zero => intro l hl; rw [List.length_eq_zero_iff.1 hl]; exact h0
    | succ n ih =>
      intro l hl
      have hne : l ≠ [] := fun e => by rw [e] at hl; simp at hl
      rw [← List.dropLast_concat_getLast hne]
      exact h1 _ _ (ih _ (by simp [hl]))
  exact this _ l rfl
theorem kst_keys (js : List Nat) (l : List RO) : (kst js l).1.map roKey = (l.map roKey).filter fun k => decide (k.1.toNat ∈ js) := by
  induction l using snoc_ind with
  | h0 => rfl
  | h1 l o ih =>
    rw [kst_snoc, List.map_append, List.filter_append]
    by_cases h : o.oop ∈ js
    · rw [if_pos h, List.map_append, ih]
      congr 1
      have e : List.filter (fun k : Key => decide (k.1.toNat ∈ js)) [roKey o] = [roKey o] := by
        rw [List.filter_cons, show decide ((roKey o).1.toNat ∈ js) = true from decide_eq_true h]; rfl
      rw [List.map_singleton, List.map_singleton, e]
      rfl
    · rw [if_neg h, ih]
      have e : List.filter (fun k : Key => decide (k.1.toNat ∈ js)) [roKey o] = [] := by
        rw [List.filter_cons, show decide ((roKey o).1.toNat ∈ js) = false from decide_eq_false h]; rfl
      rw [List.map_singleton, e, List.append_nil]
theorem kst_end (js : List Nat) (l : List RO) : rEnd (kst js l).1 = (kst js l).2 := by
  induction l using snoc_ind with
  | h0 => rfl
  | h1 l o ih =>
    rw [kst_snoc]
    by_cases h : o.oop ∈ js
    · rw [if_pos h, rEnd_snoc]
    · rw [if_neg h, ih]
theorem kst_endK (js : List Nat) (l : List RO) : ((kst js l).2 : Int) = endK ((kst js l).1.map roKey) := by
  induction l using snoc_ind with
  | h0 => rfl
  | h1 l o ih =>
    rw [kst_snoc]
    by_cases h : o.oop ∈ js
    · rw [if_pos h, List.map_append, endK_append]
      have := lenOf_nat o.slots.length o.fmt
      simp only [List.map_cons, List.map_nil, endK, roKey] at this ⊢
      omega
    · rw [if_neg h, ih]
/-- each of those that stay is one of those that were there, but for its place -/
theorem kst_from (js : List Nat) (l : List RO) : ∀ o ∈ (kst js l).1, ∃ x ∈ l, o.oop = x.oop ∧ o.fmt = x.fmt ∧ o.cls = x.cls ∧ o.slots = x.slots ∧ o.v = x.v ∧ x.oop ∈ js ∧ o.place ≤ (kst js l).2 := by
  induction l using snoc_ind with
  | h0 => intro o ho; simp [kst] at ho
  | h1 l o ih =>
    rw [kst_snoc]
    by_cases h : o.oop ∈ js
    · rw [if_pos h]
      intro x hx
      rcases List.mem_append.1 hx with h1 | h1
      · obtain ⟨y, y1, y2, y3, y4, y5, y6, y7, y8⟩ := ih x h1
        exact ⟨y, List.mem_append_left _ y1, y2, y3, y4, y5, y6, y7, by show x.place ≤ _ + _; omega⟩
      · have e : x = { o with place := (kst js l).2 } := by simpa using h1
        subst e
        exact ⟨o, by simp, rfl, rfl, rfl, rfl, rfl, h, by show (kst js l).2 ≤ _ + _; omega⟩
    · rw [if_neg h]
      intro x hx
      obtain ⟨y, y1, y2⟩ := ih x hx
      exact ⟨y, List.mem_append_left _ y1, y2⟩
theorem kst_len (js : List Nat) (l : List RO) : (kst js l).1.length ≤ l.length := by
  have := congrArg List.length (kst_keys js l)
  rw [List.length_map] at this
  rw [this]
  refine Nat.le_trans (List.length_filter_le _ _) (by simp)
theorem kst_le (js : List Nat) (l : List RO) : ((kst js l).2 : Int) ≤ endK (l.map roKey) := by
  induction l using snoc_ind with
  | h0 => simp [kst, endK]
  | h1 l o ih =>
    have hl := lenOf_nat o.slots.length o.fmt
    rw [List.map_append, endK_append, kst_snoc]
    by_cases h : o.oop ∈ js
    · rw [if_pos h]
      simp only [List.map_cons, List.map_nil, endK, roKey] at hl ⊢
      omega
    · rw [if_neg h]
      simp only [List.map_cons, List.map_nil, endK, roKey] at hl ⊢
      omega
end Go.Proofs.YtdkbnnhcjaibdaaDoor

namespace Go.Proofs.YtdkbnnhcjaibdaaDoor
open Go.RowKit
set_option linter.unusedVariables false
attribute [local go_sem ↓] Go.wp_at_zero Go.wp_at_succ
set_option maxRecDepth 20000 in
set_option maxHeartbeats 600000 in
theorem sameWords_ok (ss : List Int) (va vb : Value) (w : World) (ha : Rd w va ss) (hb : Rd w vb ss) :
    Calls Tryd.prog 73 #[va, vb] w fun e w' => e = .returned (.bool true) ∧ ∃ n, w' = w.drewN n := by
  obtain ⟨pa, ca, rfl, hpa⟩ := ha.at_
  obtain ⟨pb, cb, rfl, hpb⟩ := hb.at_
  have hl := ha.short
  clear ha hb
  have HA := mkHid hpa
  have HB := mkHid hpb
  clear hpa hpb
  go_enter Tryd.func73, Tryd.ntmps73
  go_wp2_with fail
  go_loopw [5] (fun q wr => ∃ k : Nat, k ≤ ss.length ∧ q = .int .i64 k ∧ Hid (∃ n, wr = w.drewN n)) (fun q _ => ss.length - (intOf q).toNat)
  case atStart => exact ⟨0, Nat.zero_le _, rfl, 0, rfl⟩
  case round =>
    obtain ⟨k, hkn, rfl, hq⟩ := hrel
    by_cases hlt : k < ss.length
    · obtain ⟨ga, oa, rfl, -, hca⟩ := HA.out (by omega)
      obtain ⟨gb, ob, rfl, -, hcb⟩ := HB.out (by omega)
      obtain ⟨n, hn⟩ := hq.out
      have x1 : wr.cell? ⟨ga, oa + k, none⟩ = some (.int .i64 (ss.getD k 0)) := by rw [hn]; exact hca k hlt
      have x2 : wr.cell? ⟨gb, ob + k, none⟩ = some (.int .i64 (ss.getD k 0)) := by rw [hn]; exact hcb k hlt
      have k1 : (0 : Int) ≤ (k : Int) := by omega
      have k2 : (k : Int) < (ss.length : Int) := by omega
      have HD : Hid (∀ m, ∃ n, wr.drewN m = w.drewN n) := fun m => ⟨n + m, by rw [hn]; simp [World.drewN, Nat.add_assoc]⟩
      generalize ss.getD k 0 = z at *
      clear hca hcb hq hn HA HB
      go_wp2_with fail
      go_quiet (fail)
      go_wp2_with fail
      go_roundw
      case rel => exact ⟨k + 1, by omega, by go_num, HD.out _⟩
      case measure => simp [intOf]; omega
    · have hke : k = ss.length := by omega
      subst hke
      go_wp2_with fail
      go_ret
      exact ⟨rfl, hq.out⟩
end Go.Proofs.YtdkbnnhcjaibdaaDoor

namespace Go.Proofs.YtdkbnnhcjaibdaaDoor
open Go.RowKit
set_option linter.unusedVariables false
attribute [local go_sem ↓] Go.wp_at_zero Go.wp_at_succ
set_option maxRecDepth 20000 in
set_option maxHeartbeats 1000000 in
theorem sameState_at (x y z : Int) (oa ob : Value) (la lb : List OI) (w : World) (ha : SAt w oa la) (hb : SAt w ob lb) (hk : la.map oiKey = lb.map oiKey) :
    Calls Tryd.prog 19 #[.agg #[.int .i64 x, .int .i64 y, .int .i64 z, oa], .agg #[.int .i64 x, .int .i64 y, .int .i64 z, ob]] w fun e w' => e = .returned (.bool true) ∧ Fr [] w w' := by
  have hll : lb.length = la.length := by have := congrArg List.length hk; simpa using this.symm
  have HA := mkHid ha
  have HB := mkHid hb
  have HK := mkHid hk
  have hl := ha.short
  obtain ⟨pa, ca, rfl, -⟩ := ha.at_
  obtain ⟨pb, cb, rfl, -⟩ := hb.at_
  rw [hll] at HB ⊢
  clear ha hb hk
  obtain ⟨W1, hW1⟩ : ∃ W1, W1 = (w.alloc (.cells #[.int .i64 x, .int .i64 y, .int .i64 z, .slice pa la.length ca] 45)).alloc (.cells #[.int .i64 x, .int .i64 y, .int .i64 z, .slice pb la.length cb] 45) := ⟨_, rfl⟩
  have F1 : Hid (Fr [] w W1) := by rw [hW1]; exact (Fr.alloc [] _ _).trans (Fr.alloc [] _ _) (by simp)
  have HC : Hid (W1.heap[w.heap.size]? = some (.cells #[.int .i64 x, .int .i64 y, .int .i64 z, .slice pa la.length ca] 45 (0, 0)) ∧ W1.heap[w.heap.size + 1]? = some (.cells #[.int .i64 x, .int .i64 y, .int .i64 z, .slice pb la.length cb] 45 (0, 0))) := by
    rw [hW1]
    refine ⟨?_, ?_⟩
    · rw [Below.heap_alloc _ _ _ (by simp)]; exact heap_alloc_new _ _
    · have := heap_alloc_new (w.alloc (.cells #[.int .i64 x, .int .i64 y, .int .i64 z, .slice pa la.length ca] 45)) (.cells #[.int .i64 x, .int .i64 y, .int .i64 z, .slice pb la.length cb] 45)
      simpa using this
  go_enter Tryd.func19, Tryd.ntmps19
  go_wp2_with fail
  rw [← hW1]
  clear hW1
  go_loopw [5] (fun q wr => ∃ k : Nat, k ≤ la.length ∧ q = .int .i64 k ∧ Hid (Fr [] W1 wr)) (fun q _ => la.length - (intOf q).toNat)
  case atStart => exact ⟨0, Nat.zero_le _, rfl, Fr.refl _ _⟩
  case round =>
    obtain ⟨k, hkn, rfl, hf⟩ := hrel
    have b0 := (hf.out.block _ (lt_of_heap HC.out.1) (by simp)).trans HC.out.1
    have b1 := (hf.out.block _ (lt_of_heap HC.out.2) (by simp)).trans HC.out.2
    have e0 : wr.cell? ⟨w.heap.size, 3, none⟩ = some (.slice pa la.length ca) := by rw [cell_in b0]; rfl
    have e1 : wr.cell? ⟨w.heap.size + 1, 3, none⟩ = some (.slice pb la.length cb) := by rw [cell_in b1]; rfl
    have hB1 := lt_of_heap b1
    by_cases hlt : k < la.length
    · have Fk := F1.out.trans hf.out (by simp)
      have hAk := HA.out.idle Fk
      have hBk := HB.out.idle Fk
      obtain ⟨pa', ca', e2, hpa⟩ := hAk.at_
      injection e2 with e2 e2b e2c
      subst e2
      subst e2c
      clear e2b
      obtain ⟨pb', cb', e3, hpb⟩ := hBk.at_
      injection e3 with e3 e3b e3c
      subst e3
      subst e3c
      clear e3b
      obtain ⟨ga, fa, rfl, hca⟩ := hpa (by omega)
      obtain ⟨gb, fb, rfl, hcb⟩ := hpb (by omega)
      obtain ⟨o, h0, x0, x1, x2, x3⟩ := hca k hlt
      have x4 := hAk.slots o (List.mem_of_getElem? h0)
      obtain ⟨o', h0', y0, y1, y2, y3⟩ := hcb k (by omega)
      have y4 := hBk.slots o' (List.mem_of_getElem? h0')
      have hkey : oiKey o = oiKey o' := by
        have := congrArg (fun l => l[k]?) HK.out
        simp only [List.getElem?_map, h0, h0'] at this
        simpa using this
      have hgl : ga < wr.heap.size := World.block_lt_of_cell? wr ⟨ga, fa + k * 4, none⟩ x0
      have hgl2 : gb < wr.heap.size := World.block_lt_of_cell? wr ⟨gb, fb + k * 4, none⟩ y0
      obtain ⟨oo, oc, of_, os, ov⟩ := o
      obtain ⟨oo', oc', of', os', ov'⟩ := o'
      simp only [oiKey, Prod.mk.injEq] at hkey
      obtain ⟨rfl, rfl, rfl, rfl⟩ := hkey
      dsimp only at *
      have HSW : Hid (∀ V, Hid (Fr [] wr V) → Calls Tryd.prog 73 #[ov, ov'] V fun e w' => e = .returned (.bool true) ∧ Hid (Fr [] wr w')) := by
        intro V hV
        refine Calls.mono (sameWords_ok os ov ov' V (x4.idle hV.out) (y4.idle hV.out)) ?_
        rintro e w' ⟨rfl, n, rfl⟩
        exact ⟨rfl, hV.out.trans (Fr.drewN [] _ _) (by simp)⟩
      obtain ⟨p1, c1, rfl⟩ : ∃ p c, ov = .slice p os.length c := by
        obtain ⟨p, c, h, _⟩ := x4.at_
        exact ⟨p, c, h⟩
      obtain ⟨p2, c2, rfl⟩ : ∃ p c, ov' = .slice p os.length c := by
        obtain ⟨p, c, h, _⟩ := y4.at_
        exact ⟨p, c, h⟩
      have k1 : (0 : Int) ≤ (k : Int) := by omega
      have k2 : (k : Int) < (la.length : Int) := by omega
      have HS2 := mkHid (HSW.out ((wr.alloc (.cells #[.int .i64 oo, .int .i64 oc, .int .i64 of_, .slice p1 os.length c1] 76)).alloc (.cells #[.int .i64 oo, .int .i64 oc, .int .i64 of_, .slice p2 os.length c2] 76)) ((Fr.alloc [] _ _).trans (Fr.alloc [] _ _) (by simp)))
      generalize os.length = sn at *
      clear hAk hBk hca hcb hpa hpb x4 y4 b0 b1 HSW HK HA HB h0 h0' Fk hll
      go_wp2_with (go_at_call 73; refine Calls.mono HS2.out ?_; rintro e w5 ⟨rfl, hf5⟩)
      go_roundw
      case rel => exact ⟨k + 1, by omega, by go_num, hf.out.trans hf5.out (by simp)⟩
      case measure => simp [intOf]; omega
    · have hke : k = la.length := by omega
      subst hke
      go_wp2_with fail
      go_ret
      exact ⟨rfl, F1.out.trans hf.out (by simp)⟩
theorem sameState_ok (x y z : Nat) (oa ob : Value) (la lb : List OS) (ba bb : Nat) (w : World) (ha : SRep w ba oa la) (hb : SRep w bb ob lb) (hk : la.map osKey = lb.map osKey) (hl : la.length ≤ 1048576) (hsl : ∀ o ∈ la, o.slots.length ≤ 8192) :
    Calls Tryd.prog 19 #[.agg #[.int .i64 (x : Int), .int .i64 (y : Int), .int .i64 (z : Int), oa], .agg #[.int .i64 (x : Int), .int .i64 (y : Int), .int .i64 (z : Int), ob]] w fun e w' => e = .returned (.bool true) ∧ Fr [] w w' := by
  have hll : lb.length = la.length := by have := congrArg List.length hk; simpa using this.symm
  have hsb : ∀ o ∈ lb, o.slots.length ≤ 8192 := fun o ho => by
    have h1 : osKey o ∈ la.map osKey := by rw [hk]; exact List.mem_map_of_mem ho
    obtain ⟨u, hu, he⟩ := List.mem_map.1 h1
    have e2 : u.slots = o.slots := by simp only [osKey, Prod.mk.injEq] at he; exact he.2.2.2
    rw [← e2]; exact hsl u hu
  refine sameState_at x y z oa ob (la.map toOI) (lb.map toOI) w (ha.sat (by omega) (fun o ho => by have := hsl o ho; omega)) (hb.sat (by omega) (fun o ho => by have := hsb o ho; omega)) ?_
  have e : oiKey ∘ toOI = (fun k : Nat × Int × Nat × List Int => ((k.1 : Int), k.2.1, (k.2.2.1 : Int), k.2.2.2)) ∘ osKey := rfl
  rw [List.map_map, List.map_map, e, ← List.map_map, ← List.map_map, hk]
end Go.Proofs.YtdkbnnhcjaibdaaDoor

namespace Go.Proofs.YtdkbnnhcjaibdaaDoor
open Go.RowKit
set_option linter.unusedVariables false
attribute [local go_sem ↓] Go.wp_at_zero Go.wp_at_succ
set_option maxRecDepth 20000 in
set_option maxHeartbeats 1000000 in
theorem rIn2_ok (ss : List Int) (z : Int) (va : Value) (w : World) (ha : Rd w va ss) :
    Calls Tryd.prog 143 #[va, .int .i64 z] w fun e w' => e = .returned (.bool (decide (z ∈ ss))) ∧ w' = w := by
  obtain ⟨pa, ca, rfl, hpa⟩ := ha.at_
  have hl := ha.short
  clear ha
  have HA := mkHid hpa
  clear hpa
  go_enter Tryd.func143, Tryd.ntmps143
  go_wp2_with fail
  go_loopw [5] (fun q wr => ∃ k : Nat, k ≤ ss.length ∧ q = .int .i64 k ∧ wr = w ∧ Hid (z ∉ ss.take k)) (fun q _ => ss.length - (intOf q).toNat)
  case atStart => exact ⟨0, Nat.zero_le _, rfl, rfl, mkHid (by simp)⟩
  case round =>
    obtain ⟨k, hkn, rfl, rfl, HZ⟩ := hrel
    by_cases hlt : k < ss.length
    · obtain ⟨ga, oa, rfl, -, hca⟩ := HA.out (by omega)
      have x1 := hca k hlt
      have k1 : (0 : Int) ≤ (k : Int) := by omega
      have k2 : (k : Int) < (ss.length : Int) := by omega
      have HT : Hid (ss.take (k + 1) = ss.take k ++ [ss.getD k 0]) := by
        show ss.take (k + 1) = ss.take k ++ [ss.getD k 0]
        rw [List.take_succ_eq_append_getElem hlt, List.getD_eq_getElem?_getD, List.getElem?_eq_getElem hlt]; rfl
      have HM : Hid (ss.getD k 0 ∈ ss) := by
        show ss.getD k 0 ∈ ss
        rw [List.getD_eq_getElem?_getD, List.getElem?_eq_getElem hlt]; exact List.getElem_mem _
      generalize ss.getD k 0 = y at *
      clear hca HA
      by_cases he : y = z
      · subst he
        have HD : Hid (decide (y ∈ ss) = true) := decide_eq_true HM.out
        clear HM HT HZ
        go_wp2_with fail
        go_ret
        exact ⟨by rw [HD.out]; rfl, rfl⟩
      · have hb : (y == z) = false := by simpa using he
        have HN : Hid (z ∉ ss.take (k + 1)) := by
          show z ∉ ss.take (k + 1)
          rw [HT.out, List.mem_append]
          rintro (h1 | h1)
          · exact HZ.out h1
          · simp at h1; exact he h1.symm
        clear HT HM HZ he
        go_wp2_with fail
        go_roundw
        case rel => exact ⟨k + 1, by omega, by go_num, trivial, HN⟩
        case measure => simp [intOf]; omega
    · have hke : k = ss.length := by omega
      subst hke
      have HD : Hid (decide (z ∈ ss) = false) := decide_eq_false (by have := HZ.out; rwa [List.take_length] at this)
      go_wp2_with fail
      go_ret
      exact ⟨by rw [HD.out]; rfl, rfl⟩
end Go.Proofs.YtdkbnnhcjaibdaaDoor

namespace Go.Proofs.YtdkbnnhcjaibdaaDoor
open Go.RowKit
set_option linter.unusedVariables false
attribute [local go_sem ↓] Go.wp_at_zero Go.wp_at_succ
/-- the object of an oop, in the document's heap -/
def RIs (R : RS) (oop : Int) (k : Nat) : Prop := k < R.objs.length ∧ ((R.objs.getD k noRO).oop : Int) = oop
def RNo (R : RS) (oop : Int) : Prop := ∀ j, j < R.objs.length → ((R.objs.getD j noRO).oop : Int) ≠ oop
set_option maxHeartbeats 1000000 in
theorem rClass_any (oop : Int) (B r : Nat) (R : RS) (w : World) (h : RRep w B r R) (hl : R.objs.length ≤ 1048576) :
    Calls Tryd.prog 81 #[.pointer (some ⟨r, 0, none⟩), .int .i64 oop] w fun e w' =>
      ((∃ k, RIs R oop k ∧ e = .returned (.tuple #[.int .i64 (R.objs.getD k noRO).cls, .int .i64 0])) ∨ (RNo R oop ∧ e = .returned (.tuple #[.int .i64 0, .int .i64 20]))) ∧ Fr [] w w' := by
  obtain ⟨p, c, hov⟩ := h.ovIs
  have c5 : w.cell? ⟨r, 5, none⟩ = some (.slice p R.objs.length c) := by rw [h.c, ← hov]; rfl
  have HF := mkHid (find_any oop B r R w h hl)
  have HR := mkHid h
  clear h
  go_enter Tryd.func81, Tryd.ntmps81
  go_wp2_with fail
  refine Calls.mono HF.out ?_
  rintro e w2 ⟨z, rfl, hz, hw⟩
  rw [hw]
  clear hw w2
  rcases hz with ⟨k, hk, rfl, ho, -⟩ | ⟨rfl, hno⟩
  · obtain ⟨g, c', hv, hc⟩ := HR.out.at_ (by omega)
    rw [hov] at hv
    injection hv with e1 e2 e3
    subst e1
    obtain ⟨-, -, -, -, q4, -⟩ := hc k hk
    have k1 : (0 : Int) ≤ (k : Int) := by omega
    have k2 : (k : Int) < (R.objs.length : Int) := by omega
    have HIs : Hid (RIs R oop k) := ⟨hk, ho⟩
    obtain ⟨cz, hcz⟩ : ∃ cz, cz = (R.objs.getD k noRO).cls := ⟨_, rfl⟩
    rw [← hcz] at q4
    have HCz := mkHid hcz
    clear hcz hc ho e2 e3 HF
    go_wp2_with fail
    go_ret2
    exact ⟨.inl ⟨k, HIs.out, by rw [HCz.out]; rfl⟩, Fr.refl _ _⟩
  · have HNo := mkHid hno
    clear hno
    go_wp2_with fail
    go_ret2
    exact ⟨.inr ⟨HNo.out, rfl⟩, Fr.refl _ _⟩
set_option maxHeartbeats 1000000 in
theorem rSize_yes (oop : Int) (B r : Nat) (R : RS) (w : World) (h : RRep w B r R) (hl : R.objs.length ≤ 1048576) (hy : ¬ RNo R oop) :
    Calls Tryd.prog 83 #[.pointer (some ⟨r, 0, none⟩), .int .i64 oop] w fun e w' =>
      (∃ k, RIs R oop k ∧ e = .returned (.tuple #[.int .i64 (R.objs.getD k noRO).slots.length, .int .i64 (R.objs.getD k noRO).fmt, .int .i64 0])) ∧ Fr [] w w' := by
  obtain ⟨p, c, hov⟩ := h.ovIs
  have c5 : w.cell? ⟨r, 5, none⟩ = some (.slice p R.objs.length c) := by rw [h.c, ← hov]; rfl
  have HF := mkHid (find_any oop B r R w h hl)
  have HR := mkHid h
  have HY := mkHid hy
  clear h hy
  go_enter Tryd.func83, Tryd.ntmps83
  go_wp2_with fail
  refine Calls.mono HF.out ?_
  rintro e w2 ⟨z, rfl, hz, hw⟩
  rw [hw]
  clear hw w2
  rcases hz with ⟨k, hk, rfl, ho, -⟩ | ⟨rfl, hno⟩
  · obtain ⟨g, c', hv, hc⟩ := HR.out.at_ (by omega)
    rw [hov] at hv
    injection hv with e1 e2 e3
    subst e1
    obtain ⟨-, q1, -, -, -, q5⟩ := hc k hk
    obtain ⟨p5, c5', hv5⟩ := HR.out.vIs k hk
    rw [hv5] at q5
    have k1 : (0 : Int) ≤ (k : Int) := by omega
    have k2 : (k : Int) < (R.objs.length : Int) := by omega
    have HIs : Hid (RIs R oop k) := ⟨hk, ho⟩
    obtain ⟨cz, hcz⟩ : ∃ cz, cz = (R.objs.getD k noRO).slots.length := ⟨_, rfl⟩
    obtain ⟨fz, hfz⟩ : ∃ fz, fz = (R.objs.getD k noRO).fmt := ⟨_, rfl⟩
    rw [← hcz] at q5
    rw [← hfz] at q1
    simp only [I] at q1
    have HCz := mkHid (And.intro hcz hfz)
    clear hcz hfz hc ho e2 e3 HF hv5
    go_wp2_with fail
    all_goals try (go_quiet (fail); go_wp2_with fail)
    all_goals
      refine bodyPost_ret (results_tmp3 rfl _ _ _) rfl ?_
      exact ⟨⟨k, HIs.out, by rw [← HCz.out.1, ← HCz.out.2]; rfl⟩, by first | exact Fr.refl _ _ | exact Fr.drew [] _ | exact Fr.drewN [] _ _⟩
  · exact absurd hno HY.out
set_option maxHeartbeats 1000000 in
theorem rAt_yes (oop : Int) (B r : Nat) (R : RS) (i : Nat) (w : World) (h : RRep w B r R) (hl : R.objs.length ≤ 1048576) (hy : ∀ k, RIs R oop k → i < (R.objs.getD k noRO).slots.length) (hn : ¬ RNo R oop) :
    Calls Tryd.prog 85 #[.pointer (some ⟨r, 0, none⟩), .int .i64 oop, .int .i64 i] w fun e w' =>
      (∃ k, RIs R oop k ∧ e = .returned (.tuple #[.int .i64 ((R.objs.getD k noRO).slots.getD i 0), .int .i64 0])) ∧ Fr [] w w' := by
  obtain ⟨p, c, hov⟩ := h.ovIs
  have c5 : w.cell? ⟨r, 5, none⟩ = some (.slice p R.objs.length c) := by rw [h.c, ← hov]; rfl
  have HF := mkHid (find_any oop B r R w h hl)
  have HR := mkHid h
  have HY := mkHid hy
  have HN := mkHid hn
  clear h hy hn
  go_enter Tryd.func85, Tryd.ntmps85
  go_wp2_with fail
  refine Calls.mono HF.out ?_
  rintro e w2 ⟨z, rfl, hz, hw⟩
  rw [hw]
  clear hw w2
  rcases hz with ⟨k, hk, rfl, ho, -⟩ | ⟨rfl, hno⟩
  · obtain ⟨g, c', hv, hc⟩ := HR.out.at_ (by omega)
    rw [hov] at hv
    injection hv with e1 e2 e3
    subst e1
    obtain ⟨-, q1, -, -, -, q5⟩ := hc k hk
    have hi := HY.out k ⟨hk, ho⟩
    have hm : R.objs.getD k noRO ∈ R.objs := by rw [List.getD_eq_getElem?_getD, List.getElem?_eq_getElem hk]; exact List.getElem_mem hk
    obtain ⟨p5, c5', hv5, hs5⟩ := own_slot (HR.out.slots _ hm)
    obtain ⟨g5, rfl, hc5⟩ := hs5 (by omega)
    have q6 := hc5 i hi
    rw [hv5] at q5
    have k1 : (0 : Int) ≤ (k : Int) := by omega
    have k2 : (k : Int) < (R.objs.length : Int) := by omega
    have HIs : Hid (RIs R oop k) := ⟨hk, ho⟩
    obtain ⟨cz, hcz⟩ : ∃ cz, cz = (R.objs.getD k noRO).slots.length := ⟨_, rfl⟩
    obtain ⟨fz, hfz⟩ : ∃ fz, fz = (R.objs.getD k noRO).slots.getD i 0 := ⟨_, rfl⟩
    rw [← hcz] at q5 hi
    rw [← hfz] at q6
    have i1 : (0 : Int) ≤ (i : Int) := by omega
    have i2 : (i : Int) < (cz : Int) := by omega
    have HFz := mkHid hfz
    clear hcz hfz hc hc5 ho e2 e3 HF hv5 HY
    go_wp2_with fail
    all_goals try (go_quiet (fail); go_wp2_with fail)
    all_goals
      go_ret2
      exact ⟨⟨k, HIs.out, by rw [← HFz.out]; rfl⟩, by first | exact Fr.refl _ _ | exact Fr.drew [] _ | exact Fr.drewN [] _ _⟩
  · exact absurd hno HN.out
end Go.Proofs.YtdkbnnhcjaibdaaDoor

namespace Go.Proofs.YtdkbnnhcjaibdaaDoor
open Go.RowKit
set_option linter.unusedVariables false
/-- what a list of loaded objects is in a heap -/
structure KOf (words oops mark : Nat) (ks : List Key) (H : HS) (M : MS) : Prop where
  inv : Inv H M
  words : H.words = words
  oops : H.oops = oops
  mark : H.mark = mark
  age : H.age = 0
  order : H.order = ks.map fun k => k.1.toNat
  mem : (H.mem.length : Int) = endK ks
  count : H.count = ks.length
  at_ : ∀ k ∈ ks, 1 ≤ k.1 ∧ (M.things.getD (k.1.toNat - 1) noTh).there = true ∧ (M.things.getD (k.1.toNat - 1) noTh).cls = k.2.1 ∧ ((M.things.getD (k.1.toNat - 1) noTh).fmt : Int) = k.2.2.1 ∧ (M.things.getD (k.1.toNat - 1) noTh).slots = k.2.2.2
  only : ∀ i, (M.things.getD i noTh).there = true → ∃ k ∈ ks, k.1 = (i : Int) + 1
theorem ext_getD {a b : List Int} (h1 : a.length = b.length) (h2 : ∀ j, j < b.length → a.getD j 0 = b.getD j 0) : a = b := by
  refine List.ext_getElem h1 fun i u1 u2 => ?_
  have := h2 i u2
  rw [List.getD_eq_getElem?_getD, List.getD_eq_getElem?_getD, List.getElem?_eq_getElem u1, List.getElem?_eq_getElem u2] at this
  exact this
theorem Lds.kOf {words oops mark : Nat} {ks : List Key} {H : HS} {M : MS} (h1 : (words : Int) ≤ 1048576) (h2 : (oops : Int) ≤ 65536) (hm : (mark : Int) ≤ 1073741824) (h : Lds { emptyH words oops with mark := mark } { emptyM words oops with mark := mark } ks H M) : KOf words oops mark ks H M := by
  refine Lds.ind (C := fun ks H M => KOf words oops mark ks H M) ?_ ?_ h
  · exact ⟨(inv_empty words oops h1 h2).setMark mark hm, rfl, rfl, rfl, rfl, rfl, rfl, rfl, by simp, fun i hi => by simp [emptyM, noTh] at hi⟩
  · rintro ks H H' M M' q cls fmt ss h ht hl ih
    obtain ⟨a1, a2, a3, a4, a5⟩ := hl.at_
    have hq : ((q : Int) + 1).toNat - 1 = q := by omega
    have hnew := (takesB_yes ht).1
    have hnt := not_there ih.inv q hnew
    refine ⟨hl.inv, hl.words.trans ih.words, hl.oops.trans ih.oops, hl.mark.trans ih.mark, hl.age.trans ih.age, ?_, ?_, ?_, fun k hk => ?_, fun i hi => ?_⟩
    · rw [hl.order, ih.order, List.map_append]
      simp
    · rw [hl.mem, endK_append]
      have := ih.mem
      simp only [endK]
      rw [lenOf_nat]
      omega
    · rw [hl.count, ih.count, List.length_append]; rfl
    · rcases List.mem_append.1 hk with h3 | h3
      · obtain ⟨b0, b1, b2, b3, b4⟩ := ih.at_ k h3
        have hne : k.1.toNat - 1 ≠ q := fun e => by rw [e, hnt] at b1; simp at b1
        rw [hl.rest _ hne]
        exact ⟨b0, b1, b2, b3, b4⟩
      · have e : k = ((q : Int) + 1, cls, (fmt : Int), ss) := by simpa using h3
        rw [e]
        dsimp only
        rw [hq]
        refine ⟨by omega, a1, a2, by rw [a3], ?_⟩
        exact ext_getD a4 a5
    · by_cases e : i = q
      · exact ⟨((q : Int) + 1, cls, (fmt : Int), ss), by simp, by dsimp only; omega⟩
      · rw [hl.rest i e] at hi
        obtain ⟨k, k1, k2⟩ := ih.only i hi
        exact ⟨k, List.mem_append_left _ k1, k2⟩
theorem KOf.has {words oops mark : Nat} {ks : List Key} {H : HS} {M : MS} (h : KOf words oops mark ks H M) (oop : Int) : has H oop = ks.any fun x => x.1 == oop := by
  rw [h.inv.hasM]
  cases hb : ks.any (fun x => x.1 == oop) with
  | true =>
    obtain ⟨k, k1, k2⟩ := List.any_eq_true.1 hb
    have e : k.1 = oop := by simpa using k2
    obtain ⟨b0, b1, b2⟩ := h.at_ k k1
    rw [e] at b0 b1
    have := mhas_of (M := M) (oop.toNat - 1) (th_in b1) b1
    rwa [show ((oop.toNat - 1 : Nat) : Int) + 1 = oop from by omega] at this
  | false =>
    refine decide_eq_false (fun hc => ?_)
    obtain ⟨k, k1, k2⟩ := h.only (oop.toNat - 1) hc.2.2
    have : ks.any (fun x => x.1 == oop) = true := List.any_eq_true.2 ⟨k, k1, by rw [beq_iff_eq]; omega⟩
    rw [hb] at this
    simp at this
theorem KOf.takes {words oops mark : Nat} {ks : List Key} {H : HS} {M : MS} (h : KOf words oops mark ks H M) (k : Key) : takesB H k.1 k.2.1 k.2.2.1 k.2.2.2 = takesK words oops ks k := by
  unfold takesB takesK
  rw [h.has, h.words, h.oops, h.mem]
  rw [Bool.eq_iff_iff]
  simp only [Bool.and_eq_true, decide_eq_true_eq]
  constructor
  · rintro ⟨⟨⟨⟨⟨⟨⟨h1, h2⟩, h3⟩, h4⟩, h5⟩, h6⟩, h7⟩, h8⟩
    exact ⟨⟨⟨⟨⟨⟨⟨h2, h3⟩, h1⟩, h4⟩, h5⟩, h6⟩, h8⟩, by omega⟩
  · rintro ⟨⟨⟨⟨⟨⟨⟨h2, h3⟩, h1⟩, h4⟩, h5⟩, h6⟩, h8⟩, h7⟩
    exact ⟨⟨⟨⟨⟨⟨⟨h1, h2⟩, h3⟩, h4⟩, h5⟩, h6⟩, by omega⟩, h8⟩
/-- what the state tells of a heap that was loaded -/
theorem KOf.st {words oops mark : Nat} {ks : List Key} {H : HS} {M : MS} (h : KOf words oops mark ks H M) : (stKeys H M.things H.order.length).map (fun k : Nat × Int × Nat × List Int => ((k.1 : Int), k.2.1, (k.2.2.1 : Int), k.2.2.2)) = ks := by
  unfold stKeys
  rw [List.take_length, h.order]
  have hf : (ks.map fun k => k.1.toNat).filter (fun o => o != 0) = ks.map fun k => k.1.toNat := by
    rw [List.filter_eq_self]
    intro a ha
    obtain ⟨k, k1, k2⟩ := List.mem_map.1 ha
    have := (h.at_ k k1).1
    simp
    omega
  rw [hf, List.map_map, List.map_map]
  conv => rhs; rw [← List.map_id ks]
  refine List.map_congr_left fun k hk => ?_
  obtain ⟨b0, b1, b2, b3, b4⟩ := h.at_ k hk
  simp only [Function.comp]
  rw [b2, b3, b4]
  obtain ⟨k1, k2, k3, k4⟩ := k
  simp only [id]
  rw [show ((k1.toNat : Nat) : Int) = k1 from by dsimp only at b0; omega]
/-- how many of a list of objects are taken, one after the other -/
def goodK (words oops : Nat) (la : List Key) (k : Nat) : Prop := ∀ i o, i < k → la[i]? = some o → takesK words oops (la.take i) o = true
end Go.Proofs.YtdkbnnhcjaibdaaDoor

namespace Go.Proofs.YtdkbnnhcjaibdaaDoor
open Go.RowKit
set_option linter.unusedVariables false
attribute [local go_sem ↓] Go.wp_at_zero Go.wp_at_succ
set_option maxHeartbeats 1000000 in
theorem Oop_yes (n : Int) (w : World) (hT : Tab w) (hk : kindOf n = 3) : Calls Tryd.prog 145 #[.int .i64 n] w fun e w' => e = .returned (.tuple #[.int .i64 (n / 4), .int .i64 0]) ∧ w' = w := by
  have hK := kind_any n w hT
  rw [hk] at hK
  obtain ⟨h1, h2, h3⟩ := (kind3 n).1 hk
  have hd : n.tdiv 4 = n / 4 := Int.tdiv_eq_ediv_of_nonneg (by omega)
  have HK := mkHid hK
  clear hK hT hk
  go_enter Tryd.func145, Tryd.ntmps145
  go_wp2_with (go_at_call 135; refine Calls.mono HK.out ?_; rintro e w' ⟨rfl, hw'⟩; rw [hw']; clear hw' w')
  go_ret2
  refine ⟨?_, rfl⟩
  first | rfl | (rw [hd]) | (congr 4)
set_option maxHeartbeats 1000000 in
theorem Oop_no (n : Int) (w : World) (hT : Tab w) (hk : kindOf n ≠ 3) : Calls Tryd.prog 145 #[.int .i64 n] w fun e w' => e = .returned (.tuple #[.int .i64 0, .int .i64 10]) ∧ w' = w := by
  have hK := kind_any n w hT
  have hb : (kindOf n == 3) = false := by simpa using hk
  have HK := mkHid hK
  generalize kindOf n = kz at *
  clear hK hT hk
  go_enter Tryd.func145, Tryd.ntmps145
  go_wp2_with (go_at_call 135; refine Calls.mono HK.out ?_; rintro e w' ⟨rfl, hw'⟩; rw [hw']; clear hw' w')
  go_ret2
  exact ⟨rfl, rfl⟩
/-- does a word name an object of the heap? -/
def namesB (H : HS) (n : Int) : Bool := decide (kindOf n = 3) && has H (n / 4)
set_option maxHeartbeats 1000000 in
theorem named_yes (n : Int) (a : Nat) (l : Lay) (H : HS) (M : MS) (w : World) (h : Rep w a l H) (hi : Inv H M) (hT : Tab w) (hn : namesB H n = true) :
    Calls Tryd.prog 132 #[.pointer (some ⟨a, 0, none⟩), .int .i64 n] w fun e w' => e = .returned (.tuple #[.int .i64 (n / 4), .bool true]) ∧ Fr [] w w' := by
  unfold namesB at hn
  simp only [Bool.and_eq_true, decide_eq_true_eq] at hn
  obtain ⟨hk, hh⟩ := hn
  have hm : mhas M (n / 4) = true := by rw [← hi.hasM]; exact hh
  have hm2 := of_decide_eq_true hm
  obtain ⟨q, hq⟩ : ∃ q : Nat, n / 4 = (q : Int) + 1 := ⟨(n / 4).toNat - 1, by omega⟩
  have hb : (M.things.getD q noTh).there = true := by have := hm2.2.2; rwa [show (n / 4).toNat - 1 = q from by omega] at this
  have hI := hi.is q (th_in hb) hb
  have hmem : (H.mem.length : Int) ≤ 1048576 := by have := hi.safe.small.mem; have := hi.safe.small.words; omega
  have hr := hI.room
  have h22 := lenN_two (M.things.getD q noTh).slots.length (M.things.getD q noTh).fmt
  have HC := mkHid (Class_ok (q + 1) a l H w h hI.has (by omega) hmem)
  have HO := mkHid (Oop_yes n w hT hk)
  rw [hq] at HO ⊢
  generalize H.mem.getD (H.seats.getD (q + 1) (0, 0, 0)).1 0 = cz at *
  rw [show ((q + 1 : Nat) : Int) = (q : Int) + 1 from by omega] at HC
  clear hh hk hm hm2 hb hI hq h hi hT
  go_enter Tryd.func132, Tryd.ntmps132
  go_wp2_with (go_at_call 145; refine Calls.mono HO.out ?_; rintro e w' ⟨rfl, hw'⟩; rw [hw']; clear hw' w')
  refine Calls.mono HC.out ?_
  rintro e w2 ⟨rfl, hf2⟩
  go_wp2_with fail
  go_ret2
  exact ⟨rfl, hf2⟩
set_option maxHeartbeats 1000000 in
theorem named_no (n : Int) (a : Nat) (l : Lay) (H : HS) (w : World) (h : Rep w a l H) (hT : Tab w) (hn : namesB H n = false) :
    Calls Tryd.prog 132 #[.pointer (some ⟨a, 0, none⟩), .int .i64 n] w fun e w' => e = .returned (.tuple #[.int .i64 0, .bool false]) ∧ Fr [] w w' := by
  by_cases hk : kindOf n = 3
  · have hh : has H (n / 4) = false := by unfold namesB at hn; rw [decide_eq_true hk] at hn; simpa using hn
    have HC := mkHid (Class_no (n / 4) a l H w h hh)
    have HO := mkHid (Oop_yes n w hT hk)
    generalize n / 4 = q at *
    clear hh hk h hT hn
    go_enter Tryd.func132, Tryd.ntmps132
    go_wp2_with (go_at_call 145; refine Calls.mono HO.out ?_; rintro e w' ⟨rfl, hw'⟩; rw [hw']; clear hw' w')
    refine Calls.mono HC.out ?_
    rintro e w2 ⟨rfl, hf2⟩
    go_wp2_with fail
    go_ret2
    exact ⟨rfl, hf2⟩
  · have HO := mkHid (Oop_no n w hT hk)
    clear hk h hT hn
    go_enter Tryd.func132, Tryd.ntmps132
    go_wp2_with (go_at_call 145; refine Calls.mono HO.out ?_; rintro e w' ⟨rfl, hw'⟩; rw [hw']; clear hw' w')
    go_ret2
    exact ⟨rfl, Fr.refl _ _⟩
end Go.Proofs.YtdkbnnhcjaibdaaDoor

namespace Go.Proofs.YtdkbnnhcjaibdaaDoor
open Go.RowKit
set_option linter.unusedVariables false
attribute [local go_sem ↓] Go.wp_at_zero Go.wp_at_succ
set_option maxHeartbeats 1000000 in
theorem marks_nil (p : Option Addr) (c : Nat) (w : World) : Calls Tryd.prog 130 #[.slice p 0 c] w fun e w' => e = .returned (.slice none 0 0) ∧ w' = w := by
  go_enter Tryd.func130, Tryd.ntmps130
  go_wp2_with fail
  go_ret
  exact ⟨rfl, rfl⟩
set_option maxRecDepth 20000 in
set_option maxHeartbeats 1000000 in
theorem marks_ok (g : Nat) (c : Nat) (n z : Nat) (w : World) (hn : 0 < n) (hl : n ≤ 1048576) (hz : z < 1048576) (hc : w.cell? ⟨g, n - 1, none⟩ = some (.int .i64 (z : Int))) :
    Calls Tryd.prog 130 #[.slice (some ⟨g, 0, none⟩) n c] w fun e w' => e = .returned (.slice (some ⟨w.heap.size, 0, none⟩) (z + 1) (z + 1)) ∧ w' = w.alloc (.cells (keptL (z + 1) []).toArray 4) := by
  have k0 : ((n : Int) == 0) = false := by simpa using (by omega : ¬ (n : Int) = 0)
  have k1 : (0 : Int) ≤ (n : Int) - 1 := by omega
  have k2 : (n : Int) - 1 < (n : Int) := by omega
  have hmk := make_bools (z + 1) (by omega) w
  rw [show ((z + 1 : Nat) : Int) = (z : Int) + 1 from by omega] at hmk
  go_enter Tryd.func130, Tryd.ntmps130
  go_wp2_with fail
  go_ret
  exact ⟨rfl, rfl⟩
end Go.Proofs.YtdkbnnhcjaibdaaDoor

namespace Go.Proofs.YtdkbnnhcjaibdaaDoor
open Go.RowKit
set_option linter.unusedVariables false
attribute [local go_sem ↓] Go.wp_at_zero Go.wp_at_succ
/-- those of the first k that are marked -/
def markedTo (ks rs : List Nat) (k : Nat) : List Nat := (ks.take k).filter fun x => decide (x ∈ rs)
theorem markedTo_succ (ks rs : List Nat) (k : Nat) (hk : k < ks.length) : markedTo ks rs (k + 1) = markedTo ks rs k ++ (if ks.getD k 0 ∈ rs then [ks.getD k 0] else []) := by
  unfold markedTo
  have e : ks.getD k 0 = ks[k] := by rw [List.getD_eq_getElem?_getD, List.getElem?_eq_getElem hk]; rfl
  rw [List.take_succ_eq_append_getElem hk, List.filter_append, e]
  congr 1
  by_cases h : ks[k] ∈ rs
  · rw [if_pos h, List.filter_cons_of_pos (by simpa using h)]; rfl
  · rw [if_neg h, List.filter_cons_of_neg (by simpa using h)]; rfl
theorem markedTo_len (ks rs : List Nat) (k : Nat) : (markedTo ks rs k).length ≤ k := by
  have := List.length_filter_le (fun x => decide (x ∈ rs)) (ks.take k)
  unfold markedTo
  have h2 : (ks.take k).length ≤ k := by simp; omega
  omega
set_option maxRecDepth 20000 in
set_option maxHeartbeats 2000000 in
theorem marked_ok (ks rs : List Nat) (n : Nat) (p : Option Addr) (c : Nat) (ps : Option Addr) (sc : Nat) (w : World) (hr : Rd w (.slice p ks.length c) (ks.map fun x : Nat => (x : Int))) (hs : 0 < ks.length → ∃ sb, ps = some ⟨sb, 0, none⟩ ∧ sb < w.heap.size ∧ ∀ i, i < n → w.cell? ⟨sb, i, none⟩ = some (.bool (decide (i ∈ rs)))) (hlt : ∀ k ∈ ks, k < n) (hl : ks.length ≤ 1048576) (hn : n ≤ 1048576) :
    Calls Tryd.prog 134 #[.slice p ks.length c, .slice ps n sc] w fun e w' => ∃ v, e = .returned v ∧ w'.ownsRow w.heap.size 3 1 v (ks.filter fun x => decide (x ∈ rs)).length ((ks.filter fun x => decide (x ∈ rs)).map I) ∧ Fr [] w w' := by
  obtain ⟨j0, ji, jz0, jz1, jz2⟩ := info_parts info3
  have HRd := mkHid hr
  have HS := mkHid hs
  have HLt := mkHid hlt
  clear hr hs hlt
  go_enter Tryd.func134, Tryd.ntmps134
  go_wp2_with fail
  go_loopw [5, 10] (fun v q wr => ∃ k : Nat, k ≤ ks.length ∧ q = .int .i64 k ∧ wr.ownsRow w.heap.size 3 1 v (markedTo ks rs k).length ((markedTo ks rs k).map I) ∧ Hid (Fr [] w wr)) (fun _ q _ => ks.length - (intOf q).toNat)
  case atStart => exact ⟨0, Nat.zero_le _, rfl, World.ownsRow_nil _ _ _ _, Fr.refl _ _⟩
  case round =>
    obtain ⟨k, hkn, rfl, hown, hfr⟩ := hrel
    by_cases hk : k < ks.length
    · have hz := hfr.out.size
      obtain ⟨p', c', ee, hrow⟩ := (HRd.out.idle hfr.out).at_
      rw [List.length_map] at ee hrow
      injection ee with ee _ eec
      subst ee
      subst eec
      obtain ⟨g, off, rfl, hgl, hc⟩ := hrow (by omega)
      have q0 := hc k hk
      have hm : ks.getD k 0 ∈ ks := by rw [List.getD_eq_getElem?_getD, List.getElem?_eq_getElem hk]; exact List.getElem_mem hk
      have e1 : (ks.map fun x : Nat => (x : Int)).getD k 0 = ((ks.getD k 0 : Nat) : Int) := by
        rw [List.getD_eq_getElem?_getD, List.getD_eq_getElem?_getD, List.getElem?_map, List.getElem?_eq_getElem hk]; rfl
      rw [e1] at q0
      obtain ⟨sb, rfl, hsl, hsc⟩ := HS.out (by omega)
      have q1 := (hfr.out.cell (p := ⟨sb, ks.getD k 0, none⟩) hsl (by simp)).trans (hsc _ (HLt.out _ hm))
      have hx := HLt.out _ hm
      have hsu := markedTo_succ ks rs k hk
      have hle := markedTo_len ks rs k
      have k1 : (0 : Int) ≤ (k : Int) := by omega
      have k2 : (k : Int) < (ks.length : Int) := by omega
      have HSU := mkHid hsu
      clear hsu hrow hc e1 hm hsc
      generalize ks.getD k 0 = z at *
      have k3 : (0 : Int) ≤ (z : Int) := by omega
      have k4 : (z : Int) < (n : Int) := by omega
      generalize hX : markedTo ks rs k = X at *
      clear hX
      by_cases hy : z ∈ rs
      · rw [decide_eq_true hy] at q1
        have HS2 := HSU.out
        rw [if_pos hy] at HS2
        have HS3 := mkHid HS2
        clear HS2 HSU hy
        have hown2 := hown.alloc (.cells #[.int .i64 (z : Int)] 3)
        have HFA : Hid (Fr [] w (wr.alloc (.cells #[.int .i64 (z : Int)] 3))) := hfr.out.trans (Fr.alloc [] _ _) (by simp)
        clear hown
        go_wp2_with (first
          | (at_builtin; refine wpList_append_own _ rfl (.tmp 18) (.tmp 20) 36 rfl w.heap.size 3 j0 (.int .i64 0) 1 8 Tryd.underlying36 ji jz0 jz1 jz2 rfl (by decide) _ _ _ rfl hown2 ⟨wr.heap.size, 0, none⟩ 1 1 [.int .i64 (z : Int)] rfl rfl ?c1 ?c2 ?c3 ?c4 ?c5 ?_)
          | go_in)
        case c2 => first | rfl | (intro u hu; simp at hu; subst hu; rfl)
        case c3 => unfold maxLen; omega
        case c4 => omega
        case c5 => first | omega | (simp; omega)
        intro v' w1 hown' hgrow _
        have HG : Hid (Fr [] w w1) := by
          refine ⟨hgrow.os.trans HFA.out.os, hgrow.tape.trans HFA.out.tape, hgrow.output.trans HFA.out.output, Nat.le_trans HFA.out.size hgrow.size, fun i hi hn => ?_⟩
          rw [hgrow.block i (Nat.lt_of_lt_of_le hi HFA.out.size) (fun e => ?_)]
          · exact HFA.out.block i hi hn
          · have := (hown2.lt i e.symm).1
            omega
        have HO := mkHid hown'
        clear hown' hgrow hown2 HFA
        go_wp2
        go_roundw
        case rel => exact ⟨k + 1, by omega, by go_num, by rw [HS3.out]; simpa [I] using HO.out, HG⟩
        case measure => simp [intOf]; omega
      · rw [decide_eq_false hy] at q1
        have HS2 := HSU.out
        rw [if_neg hy, List.append_nil] at HS2
        have HS3 := mkHid HS2
        have HO := mkHid hown
        clear HS2 HSU hy hown
        go_wp2
        go_roundw
        case rel => exact ⟨k + 1, by omega, by go_num, by rw [HS3.out]; exact HO.out, hfr⟩
        case measure => simp [intOf]; omega
    · have hke : k = ks.length := by omega
      subst hke
      unfold markedTo at hown
      rw [List.take_length] at hown
      have HO := mkHid hown
      clear hown
      go_wp2
      go_ret
      exact ⟨_, rfl, HO.out, hfr.out⟩
end Go.Proofs.YtdkbnnhcjaibdaaDoor

