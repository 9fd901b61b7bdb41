import Derived.Test.YtblbjgifhgfifaaPQKp1
namespace Go.Proofs.Ytblbjgifhgfifaa
open Go.RowKit Go.Maps Go.WideMaps
set_option linter.unusedVariables false
set_option linter.unusedSimpArgs false
/-! rows that are written full -/
theorem own_rdF {w : World} {B : Nat} {e : TypeId} {v : Value} {n : Nat} {xs : List Value} {f : Nat → Value} (h : w.ownsRow B e 1 v n xs) (hf : ∀ j, j < n → xs[j]? = some (f j)) : RdF w v n f := by
  rcases h.2 with ⟨h2, h3⟩ | ⟨g, cap, cur, h2, h3, h4, h5⟩
  · exact ⟨none, 0, by rw [h2, h3], fun hp => by omega⟩
  · refine ⟨some ⟨g, 0, none⟩, cap, h2, fun hp => ⟨g, 0, rfl, lt_of_heap h4, fun i hi => ?_⟩⟩
    rw [h2] at h
    rw [Nat.zero_add, h.cellAt i (by omega)]
    exact hf i hi
theorem own_prefix {w : World} {B : Nat} {e : TypeId} {p : Option Addr} {c n m : Nat} {xs ys : List Value} (h : w.ownsRow B e 1 (.slice p (n + m) c) (n + m) (xs ++ ys)) (hx : xs.length = n) : w.ownsRow B e 1 (.slice p n c) n xs := by
  refine ⟨by rw [hx, Nat.mul_one], ?_⟩
  rcases h.2 with ⟨h2, h3⟩ | ⟨g, cap, cur, h2, h3, h4, h5, h6, h7, h8⟩
  · injection h2 with e1 e2 e3
    exact Or.inl ⟨by rw [e1, e3, show n = 0 by omega], by omega⟩
  · injection h2 with e1 e2 e3
    subst e1
    subst e3
    refine Or.inr ⟨g, c, cur, rfl, h3, h4, by omega, h6, h7, ?_⟩
    have := congrArg (List.take n) h8
    rw [List.take_left' hx, List.take_take, Nat.mul_one, Nat.min_eq_left (by omega)] at this
    rw [Nat.mul_one]; exact this
/-- a cell of a row is written over -/
theorem own_put {w : World} {B : Nat} {e : TypeId} {g c n : Nat} {xs : List Value} (h : w.ownsRow B e 1 (.slice (some ⟨g, 0, none⟩) n c) n xs) (i : Nat) (v : Value) :
    (w.setCell ⟨g, i, none⟩ v).ownsRow B e 1 (.slice (some ⟨g, 0, none⟩) n c) n (xs.set i v) := by
  refine ⟨by rw [List.length_set]; exact h.1, Or.inr ?_⟩
  rcases h.2 with ⟨e, _⟩ | ⟨g', c', cur, e, q1, q2, q3, q4, q5, q6⟩
  · cases e
  · injection e with e _ e3
    injection e with e
    injection e with e
    subst e
    subst e3
    refine ⟨g, c, cur.setIfInBounds i v, rfl, q1, set_in q2 i _, q3, q4, by simpa using q5, ?_⟩
    rw [← q6, Nat.mul_one, Array.toList_setIfInBounds, List.take_set]
theorem own_some {w : World} {B : Nat} {e : TypeId} {p : Option Addr} {c n : Nat} {xs : List Value} (h : w.ownsRow B e 1 (.slice p n c) n xs) (hn : 0 < n) : ∃ g, p = some ⟨g, 0, none⟩ ∧ B ≤ g ∧ g < w.heap.size ∧ (∀ j, j < n → w.cell? ⟨g, j, none⟩ = xs[j]?) ∧ ∀ j, w.frozen? ⟨g, j, none⟩ = false := by
  have h' := h
  rcases h.2 with ⟨e, e2⟩ | ⟨g, c', cur, e, q1, q2, q3, q4, q5, q6⟩
  · omega
  · injection e with e1 e2 e3
    subst e1
    exact ⟨g, rfl, q1, lt_of_heap q2, fun j hj => h'.cellAt j (by omega), fun j => frozen_in q2 j⟩
theorem fill_set {m : Value} {r : List Value} {j : Nat} (hj : j < r.length) : (List.replicate j m ++ r.drop j).set j m = List.replicate (j + 1) m ++ r.drop (j + 1) := by
  rw [List.set_append_right _ _ (by simp), List.length_replicate, Nat.sub_self, List.drop_eq_getElem_cons hj, List.set_cons_zero, List.replicate_succ', List.append_assoc]
  rfl
/-- rows apart from one another -/
structure Rws (wr : World) (B : Nat) (e : TypeId) (N : Nat) (V : Nat → Value) (L : Nat → Nat) (C : Nat → List Value) : Prop where
  row : ∀ k, k < N → wr.ownsRow B e 1 (V k) (L k) (C k)
  ap : ∀ j k, j < N → k < N → j ≠ k → Apv (V j) (V k)
  sh : ∀ k, k < N → ∃ p c, V k = .slice p (L k) c
theorem Rws.upd {wr wr' : World} {B : Nat} {e : TypeId} {N : Nat} {V : Nat → Value} {L : Nat → Nat} {C : Nat → List Value} {S : List Nat} (h : Rws wr B e N V L C) {k : Nat} (hk : k < N) {ck : List Value} (hr : wr'.ownsRow B e 1 (V k) (L k) ck) (hf : Fr S wr wr') (hS : ∀ g ∈ S, (V k).ownBlock = some g ∨ wr.heap.size ≤ g) : Rws wr' B e N V L (fun j => if j = k then ck else C j) := by
  refine ⟨fun j hj => ?_, h.ap, h.sh⟩
  by_cases x : j = k
  · rw [if_pos x, x]; exact hr
  · rw [if_neg x]
    refine own_congr (h.row j hj) (fun g hg => hf.block g (own_lt (h.row j hj) g hg).2 (fun hm => ?_))
    rcases hS g hm with h1 | h1
    · exact h.ap j k hj hk x g hg h1
    · have := (own_lt (h.row j hj) g hg).2; omega
theorem Rws.keep {wr wr' : World} {B : Nat} {e : TypeId} {N : Nat} {V : Nat → Value} {L : Nat → Nat} {C : Nat → List Value} {S : List Nat} (h : Rws wr B e N V L C) (hf : Fr S wr wr') (hS : ∀ g ∈ S, ∀ k, k < N → (V k).ownBlock ≠ some g) : Rws wr' B e N V L C :=
  ⟨fun j hj => own_congr (h.row j hj) (fun g hg => hf.block g (own_lt (h.row j hj) g hg).2 (fun hm => hS g hm j hj hg)), h.ap, h.sh⟩
theorem Rws.eqc {wr : World} {B : Nat} {e : TypeId} {N : Nat} {V : Nat → Value} {L : Nat → Nat} {C C' : Nat → List Value} (h : Rws wr B e N V L C) (hc : ∀ k, k < N → C k = C' k) : Rws wr B e N V L C' :=
  ⟨fun j hj => by rw [← hc j hj]; exact h.row j hj, h.ap, h.sh⟩
/-- a row's block, by its type -/
theorem own_type {w : World} {B B' : Nat} {e e' : TypeId} {s s' : Nat} {v v' : Value} {n n' : Nat} {xs xs' : List Value} (h : w.ownsRow B e s v n xs) (h' : w.ownsRow B' e' s' v' n' xs') (he : e ≠ e') (g : Nat) (hg : v.ownBlock = some g) : v'.ownBlock ≠ some g := fun hg' => by
  rcases h.2 with ⟨rfl, _⟩ | ⟨g1, c1, cur1, rfl, _, q1, _⟩
  · cases hg
  rcases h'.2 with ⟨rfl, _⟩ | ⟨g2, c2, cur2, rfl, _, q2, _⟩
  · cases hg'
  have e1 : g1 = g := by simpa [Value.ownBlock] using hg
  have e2 : g2 = g := by simpa [Value.ownBlock] using hg'
  subst e1
  subst e2
  rw [q1] at q2
  injection q2 with q2
  injection q2 with _ q2
  exact he q2
/-- the lists of a list of changes, by numbers -/
def tv (xs : List Cg) (k : Nat) : Value := if k % 2 = 0 then (cgAt xs (k / 2)).vo else (cgAt xs (k / 2)).vn
def tt (xs : List Cg) (k : Nat) : List ByteArray := if k % 2 = 0 then (cgAt xs (k / 2)).c.old else (cgAt xs (k / 2)).c.new
def tln (xs : List Cg) (k : Nat) : Nat := (tt xs k).length
def fv (xs : List Cg) (k : Nat) : Value := (cgAt xs k).vf
def fln (xs : List Cg) (k : Nat) : Nat := (cgAt xs k).c.frm.length
def blkV (v : Value) : List Nat := match v.ownBlock with | some g => [g] | none => []
theorem mem_blkV {v : Value} {g : Nat} : g ∈ blkV v ↔ v.ownBlock = some g := by
  unfold blkV
  cases v.ownBlock with
  | none => simp
  | some x => simp [eq_comm]
def rb (xs : List Cg) : List Nat := xs.flatMap (fun x => blkV x.vo ++ blkV x.vn ++ blkV x.vf)
theorem mem_rb {xs : List Cg} {g : Nat} : g ∈ rb xs ↔ ∃ x ∈ xs, x.vo.ownBlock = some g ∨ x.vn.ownBlock = some g ∨ x.vf.ownBlock = some g := by
  unfold rb
  rw [List.mem_flatMap]
  simp only [List.mem_append, mem_blkV, or_assoc]
theorem tv_mem {xs : List Cg} {k : Nat} (hk : k < 2 * xs.length) : cgAt xs (k / 2) ∈ xs := by
  have : k / 2 < xs.length := by omega
  exact List.mem_of_getElem? (cgAt_eq this)
theorem flat_at (xs : List Cg) : ∀ k, k < 2 * xs.length → (xs.flatMap (fun x => [x.vo, x.vn]))[k]? = some (tv xs k) := by
  induction xs with
  | nil => intro k h; simp at h
  | cons x xs ih =>
    intro k hk
    rw [List.flatMap_cons]
    match k with
    | 0 => rfl
    | 1 => rfl
    | k + 2 =>
      show (xs.flatMap (fun x => [x.vo, x.vn]))[k]? = _
      rw [ih k (by simp at hk; omega)]
      unfold tv
      have e1 : (k + 2) % 2 = k % 2 := by omega
      have e2 : (k + 2) / 2 = k / 2 + 1 := by omega
      rw [e1, e2]
      rfl
theorem flat_len (xs : List Cg) : (xs.flatMap (fun x => [x.vo, x.vn])).length = 2 * xs.length := by
  induction xs with
  | nil => rfl
  | cons x xs ih =>
    rw [List.flatMap_cons, List.length_append, ih]
    simp only [List.length_cons, List.length_nil]
    omega
/-- what is in hand: the program's changes, whose lists are rows of their own -/
structure Kp (w1 w3 wr : World) (xs : List Cg) (vc : Value) (CT CI : Nat → List Value) : Prop where
  txt : Rws wr w1.heap.size 9 (2 * xs.length) (tv xs) (tln xs) CT
  int : Rws wr w1.heap.size 3 xs.length (fv xs) (fln xs) CI
  row : wr.ownsRow w1.heap.size 36 4 vc xs.length (cgs xs)
  fr : Fr (rb xs) w3 wr
  lt : ∀ g ∈ rb xs, w1.heap.size ≤ g ∧ g < w3.heap.size
  le : w1.heap.size ≤ w3.heap.size
theorem tv_rb {xs : List Cg} {k g : Nat} (hk : k < 2 * xs.length) (hg : (tv xs k).ownBlock = some g) : g ∈ rb xs := by
  rw [mem_rb]
  refine ⟨_, tv_mem hk, ?_⟩
  unfold tv at hg
  split at hg
  · exact .inl hg
  · exact .inr (.inl hg)
theorem fv_rb {xs : List Cg} {k g : Nat} (hk : k < xs.length) (hg : (fv xs k).ownBlock = some g) : g ∈ rb xs := by
  rw [mem_rb]
  exact ⟨_, List.mem_of_getElem? (cgAt_eq hk), .inr (.inr hg)⟩
theorem Kp.start {w1 w2 w3 : World} {xs : List Cg} {vc : Value} (hc : Cgs w1 w2 xs) (hr : w2.ownsRow w1.heap.size 36 4 vc xs.length (cgs xs)) (h12 : w1.heap.size ≤ w2.heap.size) (h : Fr [] w2 w3) :
    Kp w1 w3 w3 xs vc (fun k => (tt xs k).map Value.string) (fun k => ints (cgAt xs k).c.frm) := by
  have hc3 := hc.idle h
  have hsz := h.size
  refine ⟨⟨fun k hk => ?_, fun j k hj hk hne => ?_, fun k hk => ?_⟩, ⟨fun k hk => ?_, fun j k hj hk hne => ?_, fun k hk => ?_⟩, own_congr hr (fun g hg => h.block g (own_lt hr g hg).2 (by simp)), Fr.refl _ _, fun g hg => ?_, by omega⟩
  · unfold tv tln tt
    split
    · exact (hc3.old _ (tv_mem hk)).2
    · exact (hc3.new _ (tv_mem hk)).2
  · have hp := List.pairwise_iff_getElem.1 hc.txt
    have hlen := flat_len xs
    have ej : (xs.flatMap (fun x => [x.vo, x.vn]))[j]'(by omega) = tv xs j := by
      have := flat_at xs j hj; rw [List.getElem?_eq_getElem (by omega)] at this; exact Option.some.inj this
    have ek : (xs.flatMap (fun x => [x.vo, x.vn]))[k]'(by omega) = tv xs k := by
      have := flat_at xs k hk; rw [List.getElem?_eq_getElem (by omega)] at this; exact Option.some.inj this
    rcases Nat.lt_or_gt_of_ne hne with h1 | h1
    · have := hp j k (by omega) (by omega) h1
      rw [ej, ek] at this
      exact this
    · have := hp k j (by omega) (by omega) h1
      rw [ej, ek] at this
      exact fun g hg hg2 => this g hg2 hg
  · unfold tv tln tt
    split
    · exact (hc3.old _ (tv_mem hk)).1
    · exact (hc3.new _ (tv_mem hk)).1
  · exact (hc3.frm _ (List.mem_of_getElem? (cgAt_eq hk))).2
  · have hp := List.pairwise_iff_getElem.1 hc.int
    have ev : ∀ i (hi : i < xs.length), (xs.map Cg.vf)[i]'(by simpa using hi) = fv xs i := fun i hi => by
      have := cgAt_eq hi
      rw [List.getElem?_eq_getElem hi] at this
      rw [List.getElem_map]
      unfold fv
      rw [← Option.some.inj this]
    rcases Nat.lt_or_gt_of_ne hne with h1 | h1
    · have := hp j k (by simpa using hj) (by simpa using hk) h1
      rw [ev j hj, ev k hk] at this
      exact this
    · have := hp k j (by simpa using hk) (by simpa using hj) h1
      rw [ev j hj, ev k hk] at this
      exact fun g hg hg2 => this g hg2 hg
  · exact (hc3.frm _ (List.mem_of_getElem? (cgAt_eq hk))).1
  · obtain ⟨x, hx, h1⟩ := mem_rb.1 hg
    rcases h1 with h1 | h1 | h1
    · have := own_lt (hc.old x hx).2 g h1; omega
    · have := own_lt (hc.new x hx).2 g h1; omega
    · have := own_lt (hc.frm x hx).2 g h1; omega
section
variable {w1 w3 wr wr' : World} {xs : List Cg} {vc : Value} {CT CI : Nat → List Value}
/-- what is written elsewhere -/
theorem Kp.new {S : List Nat} (h : Kp w1 w3 wr xs vc CT CI) (hf : Fr S wr wr') (hS : ∀ g ∈ S, w3.heap.size ≤ g ∧ vc.ownBlock ≠ some g) : Kp w1 w3 wr' xs vc CT CI := by
  have hno : ∀ g ∈ S, g ∉ rb xs := fun g hg hm => by have := (hS g hg).1; have := (h.lt g hm).2; omega
  exact ⟨h.txt.keep hf (fun g hg k hk e => hno g hg (tv_rb hk e)), h.int.keep hf (fun g hg k hk e => hno g hg (fv_rb hk e)), own_congr h.row (fun g hg => hf.block g (own_lt h.row g hg).2 (fun hm => (hS g hm).2 hg)), h.fr.trans hf (fun g hg => .inr (hS g hg).1), h.lt, h.le⟩
theorem Kp.idle (h : Kp w1 w3 wr xs vc CT CI) (hf : Fr [] wr wr') : Kp w1 w3 wr' xs vc CT CI := h.new hf (by simp)
/-- a text of a list, or what lies behind it -/
theorem Kp.text {S : List Nat} (h : Kp w1 w3 wr xs vc CT CI) {k : Nat} (hk : k < 2 * xs.length) {ck : List Value} (hr : wr'.ownsRow w1.heap.size 9 1 (tv xs k) (tln xs k) ck) (hf : Fr S wr wr') (hS : ∀ g ∈ S, (tv xs k).ownBlock = some g ∨ wr.heap.size ≤ g) : Kp w1 w3 wr' xs vc (fun j => if j = k then ck else CT j) CI := by
  have h3 := h.fr.size
  refine ⟨h.txt.upd hk hr hf hS, h.int.keep hf (fun g hg j hj e => ?_), own_congr h.row (fun g hg => hf.block g (own_lt h.row g hg).2 (fun hm => ?_)), h.fr.trans hf (fun g hg => ?_), h.lt, h.le⟩
  · rcases hS g hg with h1 | h1
    · exact own_type (h.txt.row k hk) (h.int.row j hj) (by decide) g h1 e
    · have := (own_lt (h.int.row j hj) g e).2; omega
  · rcases hS g hm with h1 | h1
    · exact own_type (h.txt.row k hk) h.row (by decide) g h1 hg
    · have := (own_lt h.row g hg).2; omega
  · rcases hS g hg with h1 | h1
    · exact .inl (tv_rb hk h1)
    · exact .inr (by omega)
theorem Kp.num {S : List Nat} (h : Kp w1 w3 wr xs vc CT CI) {k : Nat} (hk : k < xs.length) {ck : List Value} (hr : wr'.ownsRow w1.heap.size 3 1 (fv xs k) (fln xs k) ck) (hf : Fr S wr wr') (hS : ∀ g ∈ S, (fv xs k).ownBlock = some g ∨ wr.heap.size ≤ g) : Kp w1 w3 wr' xs vc CT (fun j => if j = k then ck else CI j) := by
  have h3 := h.fr.size
  refine ⟨h.txt.keep hf (fun g hg j hj e => ?_), h.int.upd hk hr hf hS, own_congr h.row (fun g hg => hf.block g (own_lt h.row g hg).2 (fun hm => ?_)), h.fr.trans hf (fun g hg => ?_), h.lt, h.le⟩
  · rcases hS g hg with h1 | h1
    · exact own_type (h.int.row k hk) (h.txt.row j hj) (by decide) g h1 e
    · have := (own_lt (h.txt.row j hj) g e).2; omega
  · rcases hS g hm with h1 | h1
    · exact own_type (h.int.row k hk) h.row (by decide) g h1 hg
    · have := (own_lt h.row g hg).2; omega
  · rcases hS g hg with h1 | h1
    · exact .inl (fv_rb hk h1)
    · exact .inr (by omega)
theorem Kp.eqT {CT' : Nat → List Value} (h : Kp w1 w3 wr xs vc CT CI) (e : ∀ k, k < 2 * xs.length → CT k = CT' k) : Kp w1 w3 wr xs vc CT' CI := ⟨h.txt.eqc e, h.int, h.row, h.fr, h.lt, h.le⟩
theorem Kp.eqI {CI' : Nat → List Value} (h : Kp w1 w3 wr xs vc CT CI) (e : ∀ k, k < xs.length → CI k = CI' k) : Kp w1 w3 wr xs vc CT CI' := ⟨h.txt, h.int.eqc e, h.row, h.fr, h.lt, h.le⟩
/-- the cells of the list of changes -/
theorem Kp.cells {p : Option Addr} {n d : Nat} (h : Kp w1 w3 wr xs (.slice p n d) CT CI) {i : Nat} (hi : i < xs.length) : ∃ g, p = some ⟨g, 0, none⟩ ∧ wr.cell? ⟨g, i * 4 + 1, none⟩ = some (cgAt xs i).vo ∧ wr.cell? ⟨g, i * 4 + 2, none⟩ = some (cgAt xs i).vn ∧ wr.cell? ⟨g, i * 4 + 3, none⟩ = some (cgAt xs i).vf ∧ g < wr.heap.size := by
  have hr := h.row
  rcases hr.2 with ⟨e, e2⟩ | ⟨g, c', cur, e, q1, q2, q3, q4, q5, q6⟩
  · omega
  · injection e with e1 e2 e3
    subst e1
    subst e2
    obtain ⟨_, b1, b2, b3⟩ := cgs_at xs i _ (cgAt_eq hi)
    exact ⟨g, rfl, by rw [hr.cellAt _ (by omega)]; exact b1, by rw [hr.cellAt _ (by omega)]; exact b2, by rw [hr.cellAt _ (by omega)]; exact b3, lt_of_heap q2⟩
end
end Go.Proofs.Ytblbjgifhgfifaa
