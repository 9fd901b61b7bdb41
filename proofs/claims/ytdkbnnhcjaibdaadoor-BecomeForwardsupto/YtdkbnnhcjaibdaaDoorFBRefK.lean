import Derived.Test.YtdkbnnhcjaibdaaDoorFG23BRefX
import Derived.Test.YtdkbnnhcjaibdaaDoorFBPairs
namespace Go.Proofs.YtdkbnnhcjaibdaaDoor
open Go.RowKit
set_option linter.unusedVariables false
set_option linter.unusedSimpArgs false
section
variable {words oops mark : Nat} {ks : List Key} {N : Nat} {R : RS} {H : HS} {M : MS}
/-- the document's heap with its count of turns left out -/
def RS.bare (R : RS) : RS := { R with turn := 0 }
theorem get_key (hk : R.objs.map roKey = ks) (m : Nat) (hm : m < R.objs.length) : ks[m]? = some (roKey (R.objs.getD m noRO)) := by
  rw [← hk, List.getElem?_map, List.getElem?_eq_getElem hm, List.getD_eq_getElem?_getD, List.getElem?_eq_getElem hm]
  rfl
theorem set_get (l : List RO) (k m : Nat) (o : RO) : (l.set k o).getD m noRO = if k = m ∧ m < l.length then o else l.getD m noRO := by
  rw [List.getD_eq_getElem?_getD, List.getElem?_set, List.getD_eq_getElem?_getD]
  by_cases e : k = m
  · subst e
    by_cases h : k < l.length
    · simp [h]
    · simp [h]
  · simp [e]
theorem exch_get (R : RS) {i j x y m : Nat} (hi : i < R.objs.length) (hj : j < R.objs.length) (hij : i ≠ j) (hm : m < R.objs.length) : (rExchR R i j x y).objs.getD m noRO = if m = j then (R.objs.getD j noRO).named x else if m = i then (R.objs.getD i noRO).named y else R.objs.getD m noRO := by
  show (((R.objs.set i _).set j _).getD m noRO) = _
  rw [set_get, List.length_set, set_get, set_get]
  by_cases e1 : m = j
  · subst e1
    rw [if_pos ⟨rfl, hm⟩, if_pos rfl, if_neg (fun h => hij h.1)]
  · rw [if_neg (fun h => e1 h.1.symm), if_neg e1]
    by_cases e2 : m = i
    · subst e2
      rw [if_pos ⟨rfl, hm⟩, if_pos rfl]
    · rw [if_neg (fun h => e2 h.1.symm), if_neg e2]
theorem oop_one (hnd : (R.objs.map fun o => o.oop).Nodup) {m n : Nat} (hm : m < R.objs.length) (hn : n < R.objs.length) (e : (R.objs.getD m noRO).oop = (R.objs.getD n noRO).oop) : m = n := by
  have g1 : ∀ q, q < R.objs.length → (R.objs.map fun o => o.oop)[q]? = some (R.objs.getD q noRO).oop := fun q hq => by
    rw [List.getElem?_map, List.getElem?_eq_getElem hq, List.getD_eq_getElem?_getD, List.getElem?_eq_getElem hq]; rfl
  exact (List.getElem?_inj (by simpa using hm) hnd).1 (by rw [g1 m hm, g1 n hn, e])
theorem ka_oops (h : KA words oops mark ks H M) (hk : R.objs.map roKey = ks) : (R.objs.map fun o => o.oop).Nodup := by
  have hnd := h.nodup
  rw [← hk, List.map_map] at hnd
  have e : (R.objs.map ((fun k : Key => k.1.toNat) ∘ roKey)) = R.objs.map fun o => o.oop := List.map_congr_left fun o _ => by show ((o.oop : Int)).toNat = o.oop; rw [Int.toNat_natCast]
  rw [e] at hnd
  exact hnd
theorem exch_oops (hnd : (R.objs.map fun o => o.oop).Nodup) {R' : RS} {x y : Nat} (hk : R'.objs.map roKey = (R.objs.map roKey).map (swk x y)) : (R'.objs.map fun o => o.oop).Nodup := by
  have e1 : (R'.objs.map fun o => o.oop) = R.objs.map fun o => (swz x y (o.oop : Int)).toNat := by
    have h1 := congrArg (List.map fun k : Key => k.1.toNat) hk
    rw [List.map_map, List.map_map, List.map_map] at h1
    have e : (R'.objs.map ((fun k : Key => k.1.toNat) ∘ roKey)) = R'.objs.map fun o => o.oop := List.map_congr_left fun o _ => by show ((o.oop : Int)).toNat = o.oop; rw [Int.toNat_natCast]
    rw [e] at h1
    rw [h1]
    rfl
  rw [e1]
  unfold List.Nodup at hnd ⊢
  rw [List.pairwise_map] at hnd ⊢
  refine hnd.imp fun {a b} hab e => hab ?_
  unfold swz at e
  split at e <;> split at e <;> (try split at e) <;> (try split at e) <;> omega
theorem exch_rk (hnd : (R.objs.map fun o => o.oop).Nodup) (hr : RK words oops mark ks N R.bare) {x y i j : Nat} (hi : RIs R x i) (hj : RIs R y j) (hxy : x ≠ y) : RK words oops mark (ks.map (swk x y)) N (rExchR R i j x y).bare := by
  have hk : R.objs.map roKey = ks := hr.keys
  obtain ⟨i1, i2⟩ := hi
  obtain ⟨j1, j2⟩ := hj
  have hij : i ≠ j := fun e => hxy (by rw [e] at i2; omega)
  have hlen : (rExchR R i j x y).objs.length = R.objs.length := by show ((R.objs.set i _).set j _).length = _; simp
  have hsame : ∀ m, m < R.objs.length → ((rExchR R i j x y).objs.getD m noRO).slots = (R.objs.getD m noRO).slots ∧ ((rExchR R i j x y).objs.getD m noRO).place = (R.objs.getD m noRO).place ∧ ((rExchR R i j x y).objs.getD m noRO).fmt = (R.objs.getD m noRO).fmt ∧ ((rExchR R i j x y).objs.getD m noRO).v = (R.objs.getD m noRO).v ∧ ((rExchR R i j x y).objs.getD m noRO).cls = (R.objs.getD m noRO).cls := fun m hm => by
    rw [exch_get R i1 j1 hij hm]
    by_cases e1 : m = j
    · rw [if_pos e1, e1]; exact ⟨rfl, rfl, rfl, rfl, rfl⟩
    · rw [if_neg e1]
      by_cases e2 : m = i
      · rw [if_pos e2, e2]; exact ⟨rfl, rfl, rfl, rfl, rfl⟩
      · rw [if_neg e2]; exact ⟨rfl, rfl, rfl, rfl, rfl⟩
  have hall : ∀ o ∈ (rExchR R i j x y).objs, ∃ p ∈ R.objs, o.slots = p.slots ∧ o.place = p.place ∧ o.v = p.v := fun o ho => by
    obtain ⟨m, hm, e⟩ := List.getElem_of_mem ho
    have hm2 : m < R.objs.length := by rw [← hlen]; exact hm
    have e2 : (rExchR R i j x y).objs.getD m noRO = o := by rw [List.getD_eq_getElem?_getD, List.getElem?_eq_getElem hm, ← e]; rfl
    obtain ⟨s1, s2, s3, s4, s5⟩ := hsame m hm2
    rw [e2] at s1 s2 s4
    exact ⟨_, by rw [List.getD_eq_getElem?_getD, List.getElem?_eq_getElem hm2]; exact List.getElem_mem hm2, s1, s2, s4⟩
  have hkeys : (rExchR R i j x y).objs.map roKey = ks.map (swk x y) := by
    rw [← hk, List.map_map]
    refine List.ext_getElem? fun m => ?_
    rw [List.getElem?_map, List.getElem?_map]
    by_cases hm : m < R.objs.length
    · have g1 : (rExchR R i j x y).objs[m]? = some ((rExchR R i j x y).objs.getD m noRO) := by
        rw [List.getElem?_eq_getElem (by rw [hlen]; exact hm), List.getD_eq_getElem?_getD, List.getElem?_eq_getElem (by rw [hlen]; exact hm)]; rfl
      have g2 : R.objs[m]? = some (R.objs.getD m noRO) := by rw [List.getElem?_eq_getElem hm, List.getD_eq_getElem?_getD, List.getElem?_eq_getElem hm]; rfl
      rw [g1, g2]
      show some (roKey _) = some (swk x y (roKey _))
      congr 1
      rw [exch_get R i1 j1 hij hm]
      have hoi : (R.objs.getD i noRO).oop = x := by omega
      have hoj : (R.objs.getD j noRO).oop = y := by omega
      by_cases e1 : m = j
      · rw [if_pos e1, e1]
        show ((x : Int), _) = (swz x y ((R.objs.getD j noRO).oop : Int), _)
        rw [hoj]
        unfold swz
        rw [if_neg (by omega), if_pos rfl]
        rfl
      · rw [if_neg e1]
        by_cases e2 : m = i
        · rw [if_pos e2, e2]
          show ((y : Int), _) = (swz x y ((R.objs.getD i noRO).oop : Int), _)
          rw [hoi]
          unfold swz
          rw [if_pos rfl]
          rfl
        · rw [if_neg e2]
          show (((R.objs.getD m noRO).oop : Int), _) = (swz x y ((R.objs.getD m noRO).oop : Int), _)
          have n1 : (R.objs.getD m noRO).oop ≠ x := fun e => e2 (oop_one hnd hm i1 (by rw [e, hoi]))
          have n2 : (R.objs.getD m noRO).oop ≠ y := fun e => e1 (oop_one hnd hm j1 (by rw [e, hoj]))
          unfold swz
          rw [if_neg (by omega), if_neg (by omega)]
          rfl
    · rw [List.getElem?_eq_none (by rw [hlen]; omega), List.getElem?_eq_none (by omega)]
      rfl
  refine ⟨hr.words, hr.oops, hr.mark, hkeys, ?_, fun o ho => ?_, fun o ho g hg => ?_, by show (0 : Nat) ≤ 1000; omega⟩
  · have e : rEnd (rExchR R i j x y).objs = rEnd R.objs := by
      unfold rEnd
      rw [hlen]
      split
      · rfl
      · obtain ⟨s1, s2, s3, -⟩ := hsame (R.objs.length - 1) (by omega)
        rw [s1, s2, s3]
    show ((rEnd (rExchR R i j x y).objs : Nat) : Int) = _
    rw [e, endK_snd (swk x y) (fun _ => rfl)]
    exact hr.fin
  · obtain ⟨p, p1, p2, p3, -⟩ := hall o ho
    rw [p2, p3]
    exact hr.slots p p1
  · obtain ⟨p, p1, -, -, p4⟩ := hall o ho
    rw [p4] at hg
    exact hr.own p p1 g hg
/-- the exchange takes no oop away -/
theorem exch_has (hnd : (R.objs.map fun o => o.oop).Nodup) {x y i j : Nat} (hi : RIs R x i) (hj : RIs R y j) (hxy : x ≠ y) {q : Int} (h : ¬ RNo R q) : ¬ RNo (rExchR R i j x y) q := by
  obtain ⟨i1, i2⟩ := hi
  obtain ⟨j1, j2⟩ := hj
  have hij : i ≠ j := fun e => hxy (by rw [e] at i2; omega)
  have hlen : (rExchR R i j x y).objs.length = R.objs.length := by show ((R.objs.set i _).set j _).length = _; simp
  intro hn
  refine h fun m hm e => ?_
  have key : ∀ n, n < R.objs.length → (((rExchR R i j x y).objs.getD n noRO).oop : Int) ≠ q := fun n hn2 => hn n (by rw [hlen]; exact hn2)
  by_cases e1 : m = i
  · have := key j j1
    rw [exch_get R i1 j1 hij j1, if_pos rfl] at this
    exact this (by show ((x : Nat) : Int) = q; rw [← e, e1, i2])
  · by_cases e2 : m = j
    · have := key i i1
      rw [exch_get R i1 j1 hij i1, if_neg hij, if_pos rfl] at this
      exact this (by show ((y : Nat) : Int) = q; rw [← e, e2, j2])
    · have := key m hm
      rw [exch_get R i1 j1 hij hm, if_neg e2, if_neg e1] at this
      exact this e
end
end Go.Proofs.YtdkbnnhcjaibdaaDoor
