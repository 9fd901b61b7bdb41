import Derived.Test.YtdkbnnhcjaibdaaDoorFG16RReach
import Derived.Test.YtdkbnnhcjaibdaaDoorFG14CMeet
import Derived.Test.YtdkbnnhcjaibdaaDoorFG08HMSet
import Derived.Test.YtdkbnnhcjaibdaaDoorFG07HRd
namespace Go.Proofs.YtdkbnnhcjaibdaaDoor
open Go.RowKit
set_option linter.unusedVariables false
theorem nam_yes {H : HS} {z : Int} (h : namesB H z = true) : namN H z = (z / 4).toNat ∧ namN H z ≠ 0 := by
  have h1 := names_has h
  unfold namN
  rw [if_pos h]
  refine ⟨rfl, fun e => ?_⟩
  unfold namesB at h
  rw [Bool.and_eq_true, decide_eq_true_eq] at h
  have := (kind3 z).1 h.1
  omega
theorem seen_add (H : HS) (rs : List Nat) (t : Nat) (ht : t ≤ rs.length) (z : Int) : seen1 H (rs, rs.drop t) z = (addL rs (namN H z), (addL rs (namN H z)).drop t) := by
  unfold seen1 addL
  by_cases hn : namesB H z = true
  · obtain ⟨e1, e2⟩ := nam_yes hn
    rw [e1] at e2 ⊢
    by_cases hm : (z / 4).toNat ∈ rs
    · rw [if_neg (fun h => h.2 hm), if_pos (.inr hm)]
    · rw [if_pos ⟨hn, hm⟩, if_neg (fun h => by rcases h with h | h; exact e2 h; exact hm h)]
      rw [List.drop_append_of_le_length ht]
  · have e : namN H z = 0 := by unfold namN; rw [if_neg hn]
    rw [if_neg (fun h => hn h.1), e, if_pos (.inl rfl)]
/-- words met one after the other -/
def adds (H : HS) (rs : List Nat) (l : List Int) : List Nat := l.foldl (fun s z => addL s (namN H z)) rs
theorem addL_len (rs : List Nat) (m : Nat) : rs.length ≤ (addL rs m).length := by unfold addL; split <;> simp
theorem addL_get (rs : List Nat) (m t : Nat) (ht : t < rs.length) : (addL rs m).getD t 0 = rs.getD t 0 := by
  unfold addL
  split
  · rfl
  · rw [List.getD_eq_getElem?_getD, List.getElem?_append_left ht, ← List.getD_eq_getElem?_getD]
theorem fold_add (H : HS) (t : Nat) : ∀ (l : List Int) (rs : List Nat), t ≤ rs.length → l.foldl (seen1 H) (rs, rs.drop t) = (adds H rs l, (adds H rs l).drop t)
  | [], rs, _ => rfl
  | z :: l, rs, ht => by
    rw [List.foldl_cons, seen_add H rs t ht z]
    have := addL_len rs (namN H z)
    rw [fold_add H t l _ (by omega)]
    rfl
theorem adds_len (H : HS) : ∀ (l : List Int) (rs : List Nat), rs.length ≤ (adds H rs l).length
  | [], rs => Nat.le_refl _
  | z :: l, rs => Nat.le_trans (addL_len rs (namN H z)) (adds_len H l _)
theorem adds_get (H : HS) (t : Nat) : ∀ (l : List Int) (rs : List Nat), t < rs.length → (adds H rs l).getD t 0 = rs.getD t 0
  | [], rs, _ => rfl
  | z :: l, rs, ht => by
    have := addL_len rs (namN H z)
    show (adds H (addL rs (namN H z)) l).getD t 0 = _
    rw [adds_get H t l _ (by omega), addL_get rs _ t ht]
theorem adds_snoc (H : HS) (rs : List Nat) (l : List Int) (z : Int) : adds H rs (l ++ [z]) = addL (adds H rs l) (namN H z) := by
  unfold adds
  rw [List.foldl_append]
  rfl
theorem adds_cons (H : HS) (rs : List Nat) (l : List Int) (z : Int) : adds H rs (z :: l) = adds H (addL rs (namN H z)) l := rfl
/-- oops that are there, each once -/
structure Fnd (H : HS) (rs : List Nat) : Prop where
  nd : rs.Nodup
  th : ∀ q ∈ rs, has H (q : Int) = true
theorem Fnd.nil (H : HS) : Fnd H [] := ⟨by simp, by simp⟩
theorem Fnd.len {H : HS} {rs : List Nat} (h : Fnd H rs) : rs.length ≤ H.seats.length :=
  nodup_len _ _ h.nd fun q hq => by
    have := of_decide_eq_true (h.th q hq)
    omega
theorem Fnd.add {H : HS} {rs : List Nat} (h : Fnd H rs) (z : Int) : Fnd H (addL rs (namN H z)) := by
  unfold addL
  split
  · exact h
  · rename_i hc
    have hn : namesB H z = true := Classical.byContradiction fun hn => hc (.inl (by unfold namN; rw [if_neg hn]))
    obtain ⟨e1, e2⟩ := nam_yes hn
    refine ⟨nodup_snoc h.nd (fun hm => hc (.inr hm)), fun q hq => ?_⟩
    rcases List.mem_append.1 hq with h1 | h1
    · exact h.th q h1
    · rw [List.mem_singleton.1 h1, e1]
      exact (names_has hn).1
theorem Fnd.adds {H : HS} : ∀ (l : List Int) {rs : List Nat}, Fnd H rs → Fnd H (adds H rs l)
  | [], _, h => h
  | z :: l, _, h => Fnd.adds l (h.add z)
/-- the search, the first of those ahead taken -/
theorem Sr.pop {H : HS} {M : MS} {roots : List Int} {rs ah : List Nat} {q : Nat} (h : Sr H M roots (rs, q :: ah)) (hq : q ∈ rs) : Sr H M roots ((lk M q).foldl (seen1 H) (rs, ah)) := by
  obtain ⟨a1, a2, a3, a4⟩ := fold_all H (lk M q) (rs, ah)
  refine ⟨fun p hp => ?_, fun z hz hn => a1 _ (h.root z hz hn), fun p hp => ?_, fun X hX p hp => ?_⟩
  · rcases a3 p hp with h1 | ⟨_, z, _, h1, h2⟩
    · exact h.there p h1
    · rw [h2]; exact (names_has h1).1
  · rcases a3 p hp with h1 | ⟨h1, _⟩
    · by_cases e : p = q
      · right; intro z hz hn; rw [e] at hz; exact a4 z hz hn
      · rcases h.on p h1 with h2 | h2
        · left
          rcases List.mem_cons.1 h2 with h3 | h3
          · exact absurd h3 e
          · exact a2 p h3
        · right; intro z hz hn; exact a1 _ (h2 z hz hn)
    · exact .inl h1
  · rcases a3 p hp with h1 | ⟨_, z, hz, h1, h2⟩
    · exact h.least X hX p h1
    · rw [h2]; exact hX.on q (h.least X hX q hq) z hz h1
theorem sr_start (H : HS) (M : MS) (roots : List Int) : Sr H M roots (adds H [] roots, (adds H [] roots).drop 0) := by
  have := Sr.start H M roots
  have e := fold_add H 0 roots [] (Nat.le_refl _)
  rw [List.drop_zero] at e
  rw [e] at this
  exact this
theorem sr_step {H : HS} {M : MS} {roots : List Int} {rs : List Nat} {t : Nat} (ht : t < rs.length) (h : Sr H M roots (rs, rs.drop t)) : Sr H M roots (adds H rs (lk M (rs.getD t 0)), (adds H rs (lk M (rs.getD t 0))).drop (t + 1)) := by
  have e1 : rs.getD t 0 = rs[t] := by rw [List.getD_eq_getElem?_getD, List.getElem?_eq_getElem ht]; rfl
  rw [List.drop_eq_getElem_cons ht] at h
  have := h.pop (List.getElem_mem ht)
  rw [fold_add H (t + 1) _ rs ht] at this
  rw [e1]
  exact this
end Go.Proofs.YtdkbnnhcjaibdaaDoor

namespace Go.Proofs.YtdkbnnhcjaibdaaDoor
open Go.RowKit
set_option linter.unusedVariables false
attribute [local go_sem ↓] Go.wp_at_zero Go.wp_at_succ
theorem take_get {α : Type} (l : List α) (d : α) (k : Nat) (hk : k < l.length) : l.take (k + 1) = l.take k ++ [l.getD k d] := by
  rw [List.take_succ_eq_append_getElem hk, List.getD_eq_getElem?_getD, List.getElem?_eq_getElem hk]; rfl
end Go.Proofs.YtdkbnnhcjaibdaaDoor

namespace Go.Proofs.YtdkbnnhcjaibdaaDoor
open Go.RowKit
set_option linter.unusedVariables false
/-- an object of a state in memory of its own, marks behind its slots -/
structure HG where
  oop : Int
  cls : Int
  fmt : Int
  slots : List Int
  g : Nat
  cap : Nat
def hg4 (x : HG) : List Value := [.int .i64 x.oop, .int .i64 x.cls, .int .i64 x.fmt, .slice (some ⟨x.g, 0, none⟩) x.slots.length x.cap]
def hgCells (l : List HG) : List Value := l.flatMap hg4
def hgKey (x : HG) : Int × Int × Int × List Int := (x.oop, x.cls, x.fmt, x.slots)
theorem hgCells_append (l : List HG) (o : HG) : hgCells (l ++ [o]) = hgCells l ++ hg4 o := by simp [hgCells]
theorem hgCells_len (l : List HG) : (hgCells l).length = l.length * 4 := by
  induction l with
  | nil => rfl
  | cons x l ih =>
    show (hg4 x ++ hgCells l).length = _
    rw [List.length_append, ih]
    simp [hg4]; omega
def hgTail (x : HG) : List Value := (x.slots ++ [-77, -78]).map (Value.int .i64)
/-- a copy of the first objects of a state is being made -/
structure Hd (w W : World) (lv : Value) (gs : List HG) : Prop where
  fr : Fr [] w W
  row : W.ownsRow (w.heap.size + 2) 76 4 lv gs.length (hgCells gs)
  slots : ∀ x ∈ gs, W.ownsRow (w.heap.size + 2) 35 1 (.slice (some ⟨x.g, 0, none⟩) (x.slots.length + 2) x.cap) (x.slots.length + 2) (hgTail x)
  apart : (gs.map HG.g).Nodup
theorem Hd.idle {w W V : World} {lv : Value} {gs : List HG} (h : Hd w W lv gs) (hf : Fr [] W V) : Hd w V lv gs :=
  ⟨h.fr.trans hf (by simp), own_congr h.row fun g hg => hf.block g (h.row.lt g hg).2 (by simp), fun x hx => own_congr (h.slots x hx) fun g hg => hf.block g ((h.slots x hx).lt g hg).2 (by simp), h.apart⟩
theorem own_type {w : World} {b1 b2 : Nat} {t1 t2 : TypeId} {s1 s2 : Nat} {v1 v2 : Value} {n1 n2 : Nat} {x1 x2 : List Value} (h1 : w.ownsRow b1 t1 s1 v1 n1 x1) (h2 : w.ownsRow b2 t2 s2 v2 n2 x2) (ht : t1 ≠ t2) {g : Nat} (e1 : v1.ownBlock = some g) (e2 : v2.ownBlock = some g) : False := by
  rcases h1.2 with ⟨q1, _⟩ | ⟨g1, cap1, cur1, q1, q2, q3, _⟩
  · rw [q1] at e1; simp [Value.ownBlock] at e1
  · rcases h2.2 with ⟨r1, _⟩ | ⟨g2, cap2, cur2, r1, r2, r3, _⟩
    · rw [r1] at e2; simp [Value.ownBlock] at e2
    · rw [q1] at e1
      rw [r1] at e2
      have a1 : g1 = g := by simpa [Value.ownBlock] using e1
      have a2 : g2 = g := by simpa [Value.ownBlock] using e2
      subst a1
      subst a2
      rw [q3] at r3
      simp at r3
      exact ht r3.2
/-- one object more -/
theorem Hd.next {w W V W2 : World} {lv lv' : Value} {gs : List HG} {x : HG} (h : Hd w W lv gs) (hV : Fr [] W V) (ho : V.ownsRow W.heap.size 35 1 (.slice (some ⟨x.g, 0, none⟩) (x.slots.length + 2) x.cap) (x.slots.length + 2) (hgTail x)) (hW : w.heap.size + 2 ≤ W.heap.size)
    (hg : V.grownBy W2 lv.ownBlock) (hown : W2.ownsRow (w.heap.size + 2) 76 4 lv' (gs.length + 1) (hgCells gs ++ hg4 x)) : Hd w W2 lv' (gs ++ [x]) := by
  have h1 := h.idle hV
  have hb : ∀ b, lv.ownBlock = some b → w.heap.size + 2 ≤ b := fun b hb => (h.row.lt b hb).1
  have hsl : ∀ y : HG, V.ownsRow (w.heap.size + 2) 35 1 (.slice (some ⟨y.g, 0, none⟩) (y.slots.length + 2) y.cap) (y.slots.length + 2) (hgTail y) → W2.ownsRow (w.heap.size + 2) 35 1 (.slice (some ⟨y.g, 0, none⟩) (y.slots.length + 2) y.cap) (y.slots.length + 2) (hgTail y) := fun y hy =>
    own_congr hy fun g hgg => hg.block g (hy.lt g hgg).2 (fun e => own_type hy h1.row (by decide) hgg e.symm)
  have ho' := own_base ho (show w.heap.size + 2 ≤ W.heap.size from hW)
  refine ⟨?_, by rw [List.length_append, hgCells_append]; exact hown, fun y hy => ?_, ?_⟩
  · exact (h1.fr).trans (Fr.grown (S := (lv.ownBlock).toList) hg (fun k hk => by rw [hk]; simp)) (fun b hb' => by
      right
      have : lv.ownBlock = some b := by
        cases hl : lv.ownBlock with
        | none => rw [hl] at hb'; simp at hb'
        | some z => rw [hl] at hb'; simp at hb'; rw [hb']
      have := hb b this
      omega)
  · rcases List.mem_append.1 hy with h2 | h2
    · exact hsl y (h1.slots y h2)
    · have e : y = x := by simpa using h2
      rw [e]
      exact hsl x ho'
  · rw [List.map_append, List.nodup_append]
    refine ⟨h.apart, by simp, fun a ha b hb2 => ?_⟩
    have e : b = x.g := by simpa using hb2
    obtain ⟨y, hy, rfl⟩ := List.mem_map.1 ha
    have h3 := ((h.slots y hy).lt y.g rfl).2
    have h4 := (ho.lt x.g rfl).1
    omega
end Go.Proofs.YtdkbnnhcjaibdaaDoor

