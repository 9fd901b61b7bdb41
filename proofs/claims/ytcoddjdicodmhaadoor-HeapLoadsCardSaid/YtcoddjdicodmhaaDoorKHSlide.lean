import Derived.Test.YtcoddjdicodmhaaDoorKHVacM
import Derived.Deep.MidRow
namespace Go.Proofs.YtcoddjdicodmhaaDoor
open Go.RowKit
set_option linter.unusedVariables false
attribute [local go_sem ↓] Go.wp_at_zero Go.wp_at_succ
theorem step_copy {ops : Array Oper} {o : Oper} {a : Act} {w : World} {K : Act → World → Prop} {Q : Exit → Act → World → Prop} {E : Prop} (hgd : o.guard = none) (d s : Operand)
    (ho : o.op = .call { callee := .builtin .copy, args := #[d, s], argTypes := #[80, 80] }) (g off p dLen dCap L sCap : Nat) (hd : a.eval d = .slice (some ⟨g, off, none⟩) dLen dCap) (hs : a.eval s = .slice (some ⟨g, p, none⟩) L sCap)
    (C : Array Value) (hg : w.heap[g]? = some (.cells C 33 (0, 0))) (hL : L ≤ dLen) (hp : p + L ≤ C.size) (ho2 : off + L ≤ C.size) (h1 : ∀ v ∈ C.toList, v.oneCell' = true)
    (h : ∀ w', w'.heap[g]? = some (.cells (splice C.toList off ((C.toList.drop p).take L)).toArray 33 (0, 0)) → Fr [g] w w' → w'.heap.size = w.heap.size → K (a.put o.dst (goInt L)) w') :
    if Region.wanted o (yielded ops a.tmps) = true then Oper.wp Tryd.prog o a w K Q else E := by
  have hw : Region.wanted o (yielded ops a.tmps) = true := by simp [Region.wanted, hgd]
  rw [if_pos hw]
  have hcl : ((C.toList.drop p).take L).length = L := by simp; omega
  have hsz : (Tryd.prog.info? 33).map (·.size) = some 1 := by
    obtain ⟨i0, hi, hz0, hz1, hz2⟩ := info_parts info33
    rw [hi]; simp [hz1]
  have hrun := run_copy_row (P := Tryd.prog) w 80 80 o.type 33 g off dLen dCap ⟨g, p, none⟩ L sCap C 33 ((C.toList.drop p).take L) Tryd.underlying80 hsz hg (by rw [hcl]; exact (Nat.min_eq_left hL).symm)
    (fun j v hv => by
      rw [Addr.add_mid, cell_in hg]
      rw [List.getElem?_take] at hv
      split at hv
      · simpa using hv
      · cases hv) (by rw [hcl]; exact ho2) (fun v hv => h1 v (List.mem_of_mem_drop (List.mem_of_mem_take hv)))
  unfold Oper.wp
  simp [execOp, ho, resolve, invoke, builtin, hd, hs, hrun, Result.andThen]
  have hh := h _ (setRow_heap w g C (splice C.toList off ((C.toList.drop p).take L)).toArray 33 _ hg) (Fr.setRow w g _ (by simp)) (by simp)
  simp only [splice, hcl] at hh
  have e1 : min L (C.size - p) = L := by omega
  rw [e1]
  exact hh
structure Sl where
  H : HS
  turns : Nat
  en : Nat
def slideStep (x : Sl) (k : Nat) : Sl :=
  if x.H.order.getD k 0 = 0 then x else
    { H := { x.H with mem := splice x.H.mem x.en ((x.H.mem.drop (x.H.seats.getD (x.H.order.getD k 0) (0, 0, 0)).1).take (x.H.seats.getD (x.H.order.getD k 0) (0, 0, 0)).2.1),
                      seats := x.H.seats.set (x.H.order.getD k 0) (x.en, (x.H.seats.getD (x.H.order.getD k 0) (0, 0, 0)).2.1, x.turns),
                      order := x.H.order.set x.turns (x.H.order.getD k 0) }
      turns := x.turns + 1
      en := x.en + (x.H.seats.getD (x.H.order.getD k 0) (0, 0, 0)).2.1 }
def slideTo (H : HS) : Nat → Sl
  | 0 => ⟨H, 0, 0⟩
  | k + 1 => slideStep (slideTo H k) k
structure StepOk (x : Sl) (oop : Nat) : Prop where
  o : oop < x.H.seats.length
  s1 : 1 ≤ (x.H.seats.getD oop (0, 0, 0)).2.1
  s2 : (x.H.seats.getD oop (0, 0, 0)).1 + (x.H.seats.getD oop (0, 0, 0)).2.1 ≤ x.H.mem.length
  s3 : x.en + (x.H.seats.getD oop (0, 0, 0)).2.1 ≤ x.H.mem.length
structure SlideOk (H : HS) : Prop where
  step : ∀ k, k < H.order.length → (slideTo H k).H.order.getD k 0 ≠ 0 → StepOk (slideTo H k) ((slideTo H k).H.order.getD k 0)
  m1 : H.mem.length ≤ 1048576
  r1 : H.order.length ≤ 1048576
  t1 : H.seats.length ≤ 65538
theorem slideTo_len (H : HS) (hk : SlideOk H) : ∀ k, k ≤ H.order.length → (slideTo H k).H.mem.length = H.mem.length ∧ (slideTo H k).H.order.length = H.order.length ∧ (slideTo H k).H.seats.length = H.seats.length ∧ (slideTo H k).turns ≤ k ∧ (slideTo H k).en ≤ H.mem.length := by
  intro k
  induction k with
  | zero => intro _; exact ⟨rfl, rfl, rfl, Nat.le_refl _, Nat.zero_le _⟩
  | succ k ih =>
    intro hle
    obtain ⟨h1, h2, h3, h4, h5⟩ := ih (by omega)
    have hs := hk.step k (by omega)
    show (slideStep (slideTo H k) k).H.mem.length = _ ∧ (slideStep (slideTo H k) k).H.order.length = _ ∧ (slideStep (slideTo H k) k).H.seats.length = _ ∧ (slideStep (slideTo H k) k).turns ≤ _ ∧ (slideStep (slideTo H k) k).en ≤ _
    unfold slideStep
    split
    · exact ⟨h1, h2, h3, by omega, h5⟩
    · rename_i hne
      have hq := hs hne
      have := hq.s2
      have := hq.s3
      refine ⟨?_, by simpa using h2, by simpa using h3, by dsimp only; omega, by dsimp only; omega⟩
      dsimp only
      rw [length_splice _ _ _ (by rw [List.length_take, List.length_drop]; omega)]
      exact h1
theorem own_prefix {w : World} {e : TypeId} {ao : Option Addr} {n c k : Nat} {xs : List Value} (h : w.ownsRow 0 e 1 (.slice ao n c) n xs) (hk : k ≤ n) : w.ownsRow 0 e 1 (.slice ao k c) k (xs.take k) := by
  have hl := h.1
  refine ⟨by simp; omega, ?_⟩
  rcases h.2 with ⟨h2, h3⟩ | ⟨g, cap, cur, h2, h3, h4, h5, h6, h7, h8⟩
  · injection h2 with q1 q2 q3
    subst q1
    subst q3
    exact .inl ⟨by rw [show k = 0 from by omega], by omega⟩
  · injection h2 with q1 q2 q3
    subst q1
    subst q3
    refine .inr ⟨g, c, cur, rfl, h3, h4, by omega, h6, h7, ?_⟩
    rw [← h8, List.take_take]
    congr 1
    omega
/-- both lists are cut -/
theorem Rep.cut {w : World} {a : Nat} {l : Lay} {H : HS} {tn en : Nat} (h : Rep w a l H) (ht : tn ≤ H.order.length) (hen : en ≤ H.mem.length) (hz : H.mem = H.mem.take en ++ List.replicate (H.mem.length - en) 0) (W : World)
    (he : Eqw ((w.setCell ⟨a, 6, none⟩ (.slice l.po tn l.co)).setCell ⟨a, 4, none⟩ (.slice l.pm en l.cm)) W) : Rep W a l { H with mem := H.mem.take en, order := H.order.take tn } ∧ Nx a l l w W := by
  have ho := own_prefix h.order ht
  rw [← List.map_take] at ho
  have hol : (H.order.take tn).length = tn := by simp; omega
  have K1 := h.putOrder (po := l.po) (co := l.co) (os := H.order.take tn) (fun _ _ => rfl) (by rw [hol]; exact ho)
  rw [hol] at K1
  have hml := h.ml
  have hmt : (H.mem.take en).length = en := by simp; omega
  have e : H.mem.take en ++ List.replicate (l.cm - (H.mem.take en).length) (0 : Int) = H.mem ++ List.replicate (l.cm - H.mem.length) 0 := by
    rw [hmt]
    conv => rhs; rw [hz]
    rw [List.append_assoc, List.replicate_append_replicate]
    congr 2
    simp
    omega
  have K2 := K1.putMem (pm := l.pm) (cm := l.cm) (ms := H.mem.take en) (by rw [hmt]; omega) (fun _ _ => rfl) (by rw [e]; exact K1.mem)
  rw [hmt] at K2
  exact ⟨K2.eqw he, (Nx.frw ((Fr.setCell (S := foot a l) _ _ _ (by simp [foot])).trans (Fr.setCell (S := foot a l) _ _ _ (by simp [foot])) (fun b hb => .inl hb))).eqw he⟩
theorem set_comm (w : World) (a i j : Nat) (u v : Value) (h : i ≠ j) : (w.setCell ⟨a, i, none⟩ u).setCell ⟨a, j, none⟩ v = (w.setCell ⟨a, j, none⟩ v).setCell ⟨a, i, none⟩ u := by
  simp only [World.setCell]
  congr 1
  apply Array.ext_getElem?
  intro k
  rw [Array.getElem?_modify, Array.getElem?_modify, Array.getElem?_modify, Array.getElem?_modify]
  by_cases hk : a = k
  · subst hk
    simp only [if_true]
    cases hq : w.heap[a]? with
    | none => rfl
    | some x =>
      cases x with
      | cells c t f =>
        simp
        apply Array.ext_getElem?
        intro q
        simp only [Array.getElem?_setIfInBounds]
        by_cases h1 : i = q <;> by_cases h2 : j = q <;> simp_all
      | _ => simp
  · simp [hk]
def slideH (H : HS) : HS := { (slideTo H H.order.length).H with mem := (slideTo H H.order.length).H.mem.take (slideTo H H.order.length).en, order := (slideTo H H.order.length).H.order.take (slideTo H H.order.length).turns }
end Go.Proofs.YtcoddjdicodmhaaDoor
