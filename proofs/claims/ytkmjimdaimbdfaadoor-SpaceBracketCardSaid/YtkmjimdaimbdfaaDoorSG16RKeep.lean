import Derived.Test.YtkmjimdaimbdfaaDoorSG15CRun
import Derived.Test.YtkmjimdaimbdfaaDoorSG13HKeys
import Derived.Test.YtkmjimdaimbdfaaDoorSG14CRise
import Derived.Test.YtkmjimdaimbdfaaDoorSG08HInvE
import Derived.Test.YtkmjimdaimbdfaaDoorSG07HRefB
import Derived.BigQuiet
namespace Go.Proofs.YtkmjimdaimbdfaaDoor
open Go.RowKit
set_option linter.unusedVariables false
theorem take_set_snoc (l : List Nat) (t v : Nat) (ht : t < l.length) : (l.set t v).take (t + 1) = l.take t ++ [v] := by
  rw [List.take_succ_eq_append_getElem (by simpa using ht)]
  congr 1
  · rw [List.take_set, List.set_eq_of_length_le (by simp; omega)]
  · simp
/-- what the slide makes of the order, and how far the words reach -/
theorem slide_at (H : HS) : ∀ k, k ≤ H.order.length → (slideTo H k).turns ≤ k ∧ (slideTo H k).H.order.length = H.order.length ∧ (slideTo H k).H.order.take (slideTo H k).turns = (H.order.take k).filter (fun o => o != 0) ∧
    (∀ r, k ≤ r → (slideTo H k).H.order.getD r 0 = H.order.getD r 0) ∧ (∀ o, ((slideTo H k).H.seats.getD o (0, 0, 0)).2.1 = (H.seats.getD o (0, 0, 0)).2.1) ∧ (slideTo H k).en = (((H.order.take k).filter (fun o => o != 0)).map (fun o => (H.seats.getD o (0, 0, 0)).2.1)).sum ∧ (slideTo H k).H.seats.length = H.seats.length := by
  intro k
  induction k with
  | zero => intro _; exact ⟨Nat.le_refl _, rfl, rfl, fun _ _ => rfl, fun _ => rfl, rfl, rfl⟩
  | succ k ih =>
    intro hk
    obtain ⟨h1, h2, h3, h4, h5, h6, h7⟩ := ih (by omega)
    have ho := h4 k (Nat.le_refl _)
    have hg : H.order.getD k 0 = H.order[k] := by rw [List.getD_eq_getElem?_getD, List.getElem?_eq_getElem (by omega)]; rfl
    have ht : H.order.take (k + 1) = H.order.take k ++ [H.order.getD k 0] := by rw [List.take_succ_eq_append_getElem (by omega), hg]
    rw [ht, List.filter_append]
    show (slideStep (slideTo H k) k).turns ≤ _ ∧ (slideStep (slideTo H k) k).H.order.length = _ ∧ (slideStep (slideTo H k) k).H.order.take (slideStep (slideTo H k) k).turns = _ ∧ (∀ r, k + 1 ≤ r → (slideStep (slideTo H k) k).H.order.getD r 0 = _) ∧ (∀ o, ((slideStep (slideTo H k) k).H.seats.getD o (0, 0, 0)).2.1 = _) ∧ (slideStep (slideTo H k) k).en = _ ∧ (slideStep (slideTo H k) k).H.seats.length = _
    generalize slideTo H k = x at *
    unfold slideStep
    rw [ho]
    by_cases hz : H.order.getD k 0 = 0
    · rw [if_pos hz, hz]
      refine ⟨by omega, h2, by rw [h3]; simp, fun r hr => h4 r (by omega), h5, by rw [h6]; simp, h7⟩
    · rw [if_neg hz]
      have hf : List.filter (fun o => o != 0) [H.order.getD k 0] = [H.order.getD k 0] := by rw [List.filter_cons_of_pos (by simpa using hz)]; rfl
      rw [hf]
      generalize H.order.getD k 0 = v at *
      dsimp only
      refine ⟨by omega, by simpa using h2, ?_, fun r hr => ?_, fun o => ?_, ?_, by simpa using h7⟩
      · rw [take_set_snoc _ _ _ (by omega), h3]
      · rw [← h4 r (by omega), List.getD_eq_getElem?_getD, List.getElem?_set_ne (by omega), List.getD_eq_getElem?_getD]
      · by_cases hv : v < x.H.seats.length
        · rw [List.getD_eq_getElem?_getD, List.getElem?_set]
          by_cases e : v = o
          · rw [if_pos e, if_pos hv, ← e]; exact h5 v
          · rw [if_neg e, ← List.getD_eq_getElem?_getD]; exact h5 o
        · rw [List.set_eq_of_length_le (by omega)]; exact h5 o
      · rw [h6, h5 v]; simp
/-- what taking away makes of the order -/
theorem vac_at {H : HS} {M : MS} (hv : InvV H M) (ks : List Nat) : ∀ k, k ≤ H.order.length → (∀ j, (vacTo H ks k).order.getD j 0 = if j < k ∧ H.order.getD j 0 ∉ ks then 0 else H.order.getD j 0) ∧ (∀ o ∈ ks, (vacTo H ks k).seats.getD o (0, 0, 0) = H.seats.getD o (0, 0, 0)) := by
  intro k
  induction k with
  | zero => intro _; exact ⟨fun j => by rw [if_neg (by omega)]; rfl, fun _ _ => rfl⟩
  | succ k ih =>
    intro hk
    obtain ⟨h1, h2⟩ := ih (by omega)
    obtain ⟨T, q1, q2, q3, q4, q5, q6⟩ := hv.vacs ks k (by omega)
    have ho := q5 k (Nat.le_refl _)
    have hu : vacTo H ks (k + 1) = if (vacTo H ks k).order.getD k 0 ≠ 0 ∧ (vacTo H ks k).order.getD k 0 ∉ ks then vacH (vacTo H ks k) ((vacTo H ks k).order.getD k 0) else vacTo H ks k := rfl
    rw [hu, ho]
    have hr := q1.order k (by omega)
    rw [ho] at hr
    generalize vacTo H ks k = x at *
    by_cases hc : H.order.getD k 0 ≠ 0 ∧ H.order.getD k 0 ∉ ks
    · rw [if_pos hc]
      obtain ⟨-, -, r3⟩ := hr hc.1
      refine ⟨fun j => ?_, fun o ho2 => ?_⟩
      · show (x.order.set (x.seats.getD (H.order.getD k 0) (0, 0, 0)).2.2 0).getD j 0 = _
        rw [r3, getD_nat x.order k j 0 (by omega), h1 j]
        by_cases e : j = k
        · rw [if_pos e, e, if_pos ⟨by omega, hc.2⟩]
        · rw [if_neg e]
          by_cases c2 : j < k ∧ H.order.getD j 0 ∉ ks
          · rw [if_pos c2, if_pos ⟨by omega, c2.2⟩]
          · rw [if_neg c2, if_neg (fun c3 => c2 ⟨by omega, c3.2⟩)]
      · show (x.seats.set (H.order.getD k 0) (0, 0, 0)).getD o (0, 0, 0) = _
        rw [← h2 o ho2, List.getD_eq_getElem?_getD, List.getElem?_set_ne (fun e => hc.2 (by rw [e]; exact ho2)), List.getD_eq_getElem?_getD]
    · rw [if_neg hc]
      refine ⟨fun j => ?_, h2⟩
      rw [h1 j]
      by_cases e : j = k
      · subst e
        rw [if_neg (by omega)]
        by_cases c2 : H.order.getD j 0 ∉ ks
        · rw [if_pos ⟨by omega, c2⟩]
          exact Classical.byContradiction fun c3 => hc ⟨c3, c2⟩
        · rw [if_neg (fun c3 => c2 c3.2)]
      · by_cases c2 : j < k ∧ H.order.getD j 0 ∉ ks
        · rw [if_pos c2, if_pos ⟨by omega, c2.2⟩]
        · rw [if_neg c2, if_neg (fun c3 => c2 ⟨by omega, c3.2⟩)]
theorem filter_zero (ks : List Nat) : ∀ l : List Nat, (l.map fun o => if o ∈ ks then o else 0).filter (fun o => o != 0) = l.filter fun o => o != 0 && decide (o ∈ ks)
  | [] => rfl
  | x :: l => by
    rw [List.map_cons, List.filter_cons, List.filter_cons, filter_zero ks l]
    by_cases h : x ∈ ks
    · simp [h]
    · simp [h]
theorem vac_order {H : HS} {M : MS} (hv : InvV H M) (ks : List Nat) : (vacTo H ks H.order.length).order = H.order.map fun o => if o ∈ ks then o else 0 := by
  obtain ⟨T, q1, q2, q3, q4, q5, q6⟩ := hv.vacs ks H.order.length (Nat.le_refl _)
  have h1 := (vac_at hv ks H.order.length (Nat.le_refl _)).1
  refine List.ext_getElem (by rw [q4]; simp) fun j u1 u2 => ?_
  have := h1 j
  rw [List.getD_eq_getElem?_getD, List.getElem?_eq_getElem u1] at this
  rw [List.getElem_map]
  have hj : H.order.getD j 0 = H.order[j]'(by simpa using u2) := by rw [List.getD_eq_getElem?_getD, List.getElem?_eq_getElem (by simpa using u2)]; rfl
  rw [hj] at this
  simp only [Option.getD_some] at this
  rw [this]
  have : j < H.order.length := by simpa using u2
  by_cases c : H.order[j] ∈ ks
  · simp [c]
  · simp [c, this]
theorem keep_order {H : HS} {M : MS} (hv : InvV H M) (ks : List Nat) : (keepH H ks).order = H.order.filter fun o => o != 0 && decide (o ∈ ks) := by
  have h1 := (slide_at (vacTo H ks H.order.length) _ (Nat.le_refl _)).2.2.1
  rw [List.take_length, vac_order hv ks, filter_zero] at h1
  rw [← vac_order hv ks] at h1
  exact h1
theorem keep_mem {H : HS} {M : MS} (hv : InvV H M) (ks : List Nat) (hk : KeepOk H ks) : (keepH H ks).mem.length = ((H.order.filter fun o => o != 0 && decide (o ∈ ks)).map fun o => (H.seats.getD o (0, 0, 0)).2.1).sum := by
  have h1 := slide_at (vacTo H ks H.order.length) _ (Nat.le_refl _)
  have h2 := (slideTo_len _ hk.sl _ (Nat.le_refl _))
  have h3 := h1.2.2.2.2.2.1
  rw [List.take_length] at h3
  have h4 : (vacTo H ks H.order.length).order.filter (fun o => o != 0) = H.order.filter fun o => o != 0 && decide (o ∈ ks) := by rw [vac_order hv ks, filter_zero]
  rw [h4] at h3
  have h5 : (keepH H ks).mem.length = (slideTo (vacTo H ks H.order.length) (vacTo H ks H.order.length).order.length).en := by
    show ((slideTo (vacTo H ks H.order.length) (vacTo H ks H.order.length).order.length).H.mem.take (slideTo (vacTo H ks H.order.length) (vacTo H ks H.order.length).order.length).en).length = _
    rw [List.length_take]
    have := h2.1
    have := h2.2.2.2.2
    omega
  rw [h5, h3]
  congr 1
  refine List.map_congr_left fun o ho => ?_
  have := (List.mem_filter.1 ho).2
  simp only [Bool.and_eq_true, decide_eq_true_eq] at this
  rw [(vac_at hv ks H.order.length (Nat.le_refl _)).2 o this.2]
theorem keep_seats {H : HS} {M : MS} (hv : InvV H M) (ks : List Nat) : (keepH H ks).seats.length = H.seats.length := by
  obtain ⟨T, q1, q2, q3, q4, q5, q6⟩ := hv.vacs ks H.order.length (Nat.le_refl _)
  exact (slide_at (vacTo H ks H.order.length) _ (Nat.le_refl _)).2.2.2.2.2.2.trans q6
theorem slidN_alike : ∀ (n : Nat) (S : List Th) (A : Nat) (T : List Th), Alike S T → Alike (slidN S A n) T
  | 0, S, A, T, h => h
  | n + 1, S, A, T, h => by
    cases hp : pickTo S A S.length with
    | none => rw [slidN_none S A n hp]; exact h
    | some k => rw [slidN_some S A n k hp]; exact slidN_alike n _ _ T (h.place k A (pickTo_lt S A _ k hp).1)
/-- what a kept thing is -/
theorem kept_at (S : List Th) (ks : List Nat) (i : Nat) : ((keptTh S ks).getD i noTh).there = ((S.getD i noTh).there && decide (i + 1 ∈ ks)) ∧ ((keptTh S ks).getD i noTh).slots = (S.getD i noTh).slots ∧ ((keptTh S ks).getD i noTh).fmt = (S.getD i noTh).fmt ∧ ((keptTh S ks).getD i noTh).cls = (S.getD i noTh).cls := by
  have h1 := (slidN_alike (thereTo (stayTo S ks S.length) S.length) (stayTo S ks S.length) 0 _ (Alike.refl _)).at_ i
  have h2 := stayTo_at S ks S.length (Nat.le_refl _) i
  rw [h2] at h1
  have hk : keptTh S ks = slidN (stayTo S ks S.length) 0 (thereTo (stayTo S ks S.length) S.length) := rfl
  rw [← hk] at h1
  by_cases hi : i < S.length
  · rw [if_pos hi] at h1
    exact ⟨h1.1, h1.2.1, h1.2.2.1, h1.2.2.2.1⟩
  · rw [if_neg hi] at h1
    have hn : S.getD i noTh = noTh := by rw [List.getD_eq_getElem?_getD, List.getElem?_eq_none (by omega)]; rfl
    rw [hn] at h1 ⊢
    exact ⟨by rw [h1.1]; rfl, h1.2.1, h1.2.2.1, h1.2.2.2.1⟩
end Go.Proofs.YtkmjimdaimbdfaaDoor


namespace Go.Proofs.YtkmjimdaimbdfaaDoor
open Go.RowKit
set_option linter.unusedVariables false
/-- what a list of objects is in a heap that has no idle word -/
structure KA (words oops mark : Nat) (ks : List Key) (H : HS) (M : MS) : Prop where
  inv : Inv H M
  words : H.words = words
  oops : H.oops = oops
  mark : H.mark = mark
  order : H.order = ks.map fun k => k.1.toNat
  mem : (H.mem.length : Int) = endK ks
  at_ : ∀ k ∈ ks, 1 ≤ k.1 ∧ (M.things.getD (k.1.toNat - 1) noTh).there = true ∧ (M.things.getD (k.1.toNat - 1) noTh).cls = k.2.1 ∧ ((M.things.getD (k.1.toNat - 1) noTh).fmt : Int) = k.2.2.1 ∧ (M.things.getD (k.1.toNat - 1) noTh).slots = k.2.2.2
  only : ∀ i, (M.things.getD i noTh).there = true → ∃ k ∈ ks, k.1 = (i : Int) + 1
theorem KOf.ka {words oops mark : Nat} {ks : List Key} {H : HS} {M : MS} (h : KOf words oops mark ks H M) : KA words oops mark ks H M :=
  ⟨h.inv, h.words, h.oops, h.mark, h.order, h.mem, h.at_, h.only⟩
theorem there_lt {S : List Th} {i : Nat} (h : (S.getD i noTh).there = true) : i < S.length :=
  Classical.byContradiction fun hn => by rw [List.getD_eq_getElem?_getD, List.getElem?_eq_none (by omega)] at h; simp [noTh] at h
theorem KA.st {words oops mark : Nat} {ks : List Key} {H : HS} {M : MS} (h : KA words oops mark ks H M) : (stKeys H M.things H.order.length).map (fun k : Nat × Int × Nat × List Int => ((k.1 : Int), k.2.1, (k.2.2.1 : Int), k.2.2.2)) = ks := by
  unfold stKeys
  rw [List.take_length, h.order, List.filter_eq_self.2 ?_, List.map_map, List.map_map]
  · conv => rhs; rw [← List.map_id ks]
    refine List.map_congr_left fun k hk => ?_
    obtain ⟨b0, b1, b2, b3, b4⟩ := h.at_ k hk
    obtain ⟨k1, k2, k3, k4⟩ := k
    dsimp only at *
    simp only [Function.comp, id_eq]
    rw [b2, b3, b4, Int.toNat_of_nonneg (by omega)]
  · intro o ho
    obtain ⟨k, hk, rfl⟩ := List.mem_map.1 ho
    have := (h.at_ k hk).1
    simp
    omega
theorem KA.seat {words oops mark : Nat} {ks : List Key} {H : HS} {M : MS} (h : KA words oops mark ks H M) (k : Key) (hk : k ∈ ks) : (((H.seats.getD k.1.toNat (0, 0, 0)).2.1 : Nat) : Int) = lenOf (k.2.2.2.length : Int) k.2.2.1 := by
  obtain ⟨b0, b1, b2, b3, b4⟩ := h.at_ k hk
  have h1 := (h.inv.seat (k.1.toNat - 1) (there_lt b1) b1).2
  rw [show k.1.toNat - 1 + 1 = k.1.toNat from by omega] at h1
  rw [h1, b4, ← b3, lenOf_nat]
theorem endK_sum (f : Key → Nat) : ∀ ks : List Key, (∀ k ∈ ks, ((f k : Nat) : Int) = lenOf (k.2.2.2.length : Int) k.2.2.1) → (((ks.map f).sum : Nat) : Int) = endK ks
  | [], _ => rfl
  | k :: t, h => by
    have h1 := endK_sum f t fun x hx => h x (by simp [hx])
    have h2 := h k (by simp)
    simp only [List.map_cons, List.sum_cons, endK]
    omega
theorem KA.keep {words oops mark : Nat} {ks : List Key} {H : HS} {M : MS} (h : KA words oops mark ks H M) (js : List Nat) (hjs : ∀ j ∈ js, mhas M (j : Int) = true) (ha : H.age ≤ 1000000000) :
    KA words oops mark (ks.filter fun k => decide (k.1.toNat ∈ js)) (keepH H js) { M with things := keptTh M.things js } := by
  obtain ⟨hK, hI⟩ := h.inv.keep js hjs ha
  have hf : H.order.filter (fun o => o != 0 && decide (o ∈ js)) = (ks.filter fun k => decide (k.1.toNat ∈ js)).map fun k => k.1.toNat := by
    rw [h.order, List.filter_map]
    congr 1
    refine List.filter_congr fun k hk => ?_
    have := (h.at_ k hk).1
    have hz : (k.1.toNat != 0) = true := by simp; omega
    simp only [Function.comp, hz, Bool.true_and]
  refine ⟨hI, ?_, ?_, ?_, (keep_order h.inv.toInvV js).trans hf, ?_, fun k hk => ?_, fun i hi => ?_⟩
  · have e1 := hI.words; have e2 := h.inv.words; rw [e1]; show M.words = _; rw [← e2, h.words]
  · have e1 := hI.oops; have e2 := h.inv.oops; rw [e1]; show M.oops = _; rw [← e2, h.oops]
  · have e1 := hI.mark; have e2 := h.inv.mark; rw [e1]; show M.mark = _; rw [← e2, h.mark]
  · rw [keep_mem h.inv.toInvV js hK, hf, List.map_map]
    exact endK_sum _ _ fun k hk => h.seat k (List.mem_filter.1 hk).1
  · obtain ⟨k1, k2⟩ := List.mem_filter.1 hk
    obtain ⟨b0, b1, b2, b3, b4⟩ := h.at_ k k1
    obtain ⟨c1, c2, c3, c4⟩ := kept_at M.things js (k.1.toNat - 1)
    rw [show k.1.toNat - 1 + 1 = k.1.toNat from by omega] at c1
    refine ⟨b0, ?_, ?_, ?_, ?_⟩
    · show ((keptTh M.things js).getD _ noTh).there = true
      rw [c1, b1]; exact k2
    · show ((keptTh M.things js).getD _ noTh).cls = _
      rw [c4]; exact b2
    · show (((keptTh M.things js).getD _ noTh).fmt : Int) = _
      rw [c3]; exact b3
    · show ((keptTh M.things js).getD _ noTh).slots = _
      rw [c2]; exact b4
  · obtain ⟨c1, -⟩ := kept_at M.things js i
    have hi' : ((keptTh M.things js).getD i noTh).there = true := hi
    rw [c1, Bool.and_eq_true, decide_eq_true_eq] at hi'
    obtain ⟨k, k1, k2⟩ := h.only i hi'.1
    exact ⟨k, List.mem_filter.2 ⟨k1, by rw [k2, decide_eq_true_eq, show ((i : Int) + 1).toNat = i + 1 from by omega]; exact hi'.2⟩, k2⟩
/-- which oops there are -/
theorem Inv.seatAt {H : HS} {M : MS} (h : Inv H M) (o : Nat) (ho : o < H.seats.length) : 0 < (H.seats.getD o (0, 0, 0)).2.1 ↔ 1 ≤ o ∧ (M.things.getD (o - 1) noTh).there = true := by
  cases o with
  | zero => rw [h.seat0]; simp
  | succ o =>
    rw [Nat.add_sub_cancel, h.there o (by have := h.len; omega)]
    omega
theorem keep_all {H : HS} {M : MS} (h : Inv H M) (js : List Nat) (hI : Inv (keepH H js) { M with things := keptTh M.things js }) : allTo (keepH H js) (keepH H js).seats.length = (allTo H H.seats.length).filter fun x => decide (x ∈ js) := by
  have hs := keep_seats h.toInvV js
  rw [hs]
  unfold allTo
  rw [List.filter_filter]
  refine List.filter_congr fun o ho => ?_
  have ho' : o < H.seats.length := List.mem_range.1 ho
  have e1 := hI.seatAt o (by omega)
  have e2 := h.seatAt o ho'
  have e3 := (kept_at M.things js (o - 1)).1
  have e4 : (({ M with things := keptTh M.things js } : MS).things.getD (o - 1) noTh).there = ((M.things.getD (o - 1) noTh).there && decide (o - 1 + 1 ∈ js)) := e3
  rw [e4] at e1
  rw [Bool.eq_iff_iff, Bool.and_eq_true, decide_eq_true_eq, decide_eq_true_eq, decide_eq_true_eq, e1, e2, Bool.and_eq_true, decide_eq_true_eq]
  constructor
  · rintro ⟨a, b, c⟩
    rw [show o - 1 + 1 = o from by omega] at c
    exact ⟨c, a, b⟩
  · rintro ⟨c, a, b⟩
    rw [show o - 1 + 1 = o from by omega]
    exact ⟨a, b, c⟩
/-- there are as many objects as are told -/
theorem Inv.countAll {H : HS} {M : MS} (h : Inv H M) : (allTo H H.seats.length).length = H.count := by
  have h1 := h.allLen M.things.length (Nat.le_refl _)
  have h2 := h.len
  rw [show M.things.length + 1 = H.seats.length + (M.things.length + 1 - H.seats.length) from by omega, allTo_out] at h1
  rw [h1, h.count]
theorem nodup_sub : ∀ (l m : List Nat), l.Nodup → (∀ x ∈ l, x ∈ m) → l.length ≤ m.length
  | [], m, _, _ => by simp
  | x :: l, m, hd, h => by
    have hx := h x (by simp)
    have h1 := nodup_sub l (m.erase x) (List.nodup_cons.1 hd).2 (fun y hy => (List.mem_erase_of_ne (fun e => (List.nodup_cons.1 hd).1 (by rw [← e]; exact hy))).2 (h y (by simp [hy])))
    rw [List.length_erase_of_mem hx] at h1
    have := List.length_pos_of_mem hx
    simp only [List.length_cons]
    omega
theorem allTo_nodup (H : HS) (n : Nat) : (allTo H n).Nodup := List.Pairwise.filter _ List.nodup_range
theorem mem_all {H : HS} {M : MS} (h : Inv H M) (o : Nat) : o ∈ allTo H H.seats.length ↔ 1 ≤ o ∧ (M.things.getD (o - 1) noTh).there = true := by
  unfold allTo
  rw [List.mem_filter, List.mem_range, decide_eq_true_eq]
  constructor
  · rintro ⟨h1, h2⟩; exact (h.seatAt o h1).1 h2
  · rintro ⟨h1, h2⟩
    have h3 := h.seatIn (o - 1) (there_lt h2) h2
    rw [show o - 1 + 1 = o from by omega] at h3
    exact ⟨h3, (h.seatAt o h3).2 ⟨h1, h2⟩⟩
theorem KA.nodup {words oops mark : Nat} {ks : List Key} {H : HS} {M : MS} (h : KA words oops mark ks H M) : (ks.map fun k => k.1.toNat).Nodup := by
  rw [← h.order]
  refine List.pairwise_iff_getElem.2 fun i j hi hj hij e => ?_
  have hz : ∀ r (hr : r < H.order.length), H.order.getD r 0 ≠ 0 := fun r hr => by
    have hm : H.order.getD r 0 ∈ H.order := by rw [List.getD_eq_getElem?_getD, List.getElem?_eq_getElem hr]; exact List.getElem_mem _
    rw [h.order] at hm
    obtain ⟨k, k1, k2⟩ := List.mem_map.1 hm
    have := (h.at_ k k1).1
    rw [h.order]
    omega
  have a1 := (h.inv.order i (by omega) (hz i (by omega))).2.2
  have a2 := (h.inv.order j hj (hz j hj)).2.2
  have e2 : H.order.getD i 0 = H.order.getD j 0 := by rw [List.getD_eq_getElem?_getD, List.getElem?_eq_getElem hi, e, List.getD_eq_getElem?_getD, List.getElem?_eq_getElem hj]
  rw [e2] at a1
  omega
theorem KA.count {words oops mark : Nat} {ks : List Key} {H : HS} {M : MS} (h : KA words oops mark ks H M) : H.count = ks.length := by
  rw [← h.inv.countAll]
  have hm : ∀ o, o ∈ allTo H H.seats.length ↔ o ∈ ks.map fun k => k.1.toNat := fun o => by
    rw [mem_all h.inv]
    constructor
    · rintro ⟨h1, h2⟩
      obtain ⟨k, k1, k2⟩ := h.only _ h2
      exact List.mem_map.2 ⟨k, k1, by omega⟩
    · intro ho
      obtain ⟨k, k1, rfl⟩ := List.mem_map.1 ho
      obtain ⟨b0, b1, -⟩ := h.at_ k k1
      exact ⟨by omega, b1⟩
  have h1 := nodup_sub _ _ (allTo_nodup H H.seats.length) fun x hx => (hm x).1 hx
  have h2 := nodup_sub _ _ h.nodup fun x hx => (hm x).2 hx
  simp only [List.length_map] at h1 h2
  omega
end Go.Proofs.YtkmjimdaimbdfaaDoor


namespace Go.Proofs.YtkmjimdaimbdfaaDoor
open Go.RowKit
set_option linter.unusedVariables false
/-- the list of oops holds what a word names -/
def inside (l : List OI) (ls : List Int) (z : Int) : Prop := namesS l z = true → z / 4 ∈ ls
/-- whether an object of a list holds a word -/
def hitB (l : List OI) (v p : Int) : Bool := match l.find? (fun o => decide (o.oop = p)) with
  | some o => decide (o.cls = v) || (decide (o.fmt = 0) && decide (v ∈ o.slots))
  | none => decide (0 = v)
/-- the law's named -/
def namedB (l : List OI) (q : Int) (found roots : List Int) : Bool := decide (4 * q ∈ roots) || found.any (hitB l (4 * q))
end Go.Proofs.YtkmjimdaimbdfaaDoor


namespace Go.Proofs.YtkmjimdaimbdfaaDoor
open Go.RowKit
set_option linter.unusedVariables false
def zs (l : List Nat) : List Int := l.map fun x : Nat => (x : Int)
theorem mem_zs {l : List Nat} {z : Int} : z ∈ zs l ↔ ∃ q ∈ l, (q : Int) = z := by unfold zs; exact List.mem_map
theorem mem_zs' {l : List Nat} {q : Nat} : ((q : Int)) ∈ zs l ↔ q ∈ l := by
  rw [mem_zs]
  exact ⟨fun ⟨p, h, e⟩ => by rw [show q = p from by omega]; exact h, fun h => ⟨q, h, rfl⟩⟩
theorem mem_stays {H : HS} {M : MS} (hi : Inv H M) {rs : List Nat} (hr : ∀ q ∈ rs, has H (q : Int) = true) (q : Nat) : q ∈ stays H rs ↔ q ∈ rs := by
  unfold stays
  rw [List.mem_filter, decide_eq_true_eq]
  refine ⟨fun h => h.2, fun h => ⟨?_, h⟩⟩
  have h1 := hr q h
  unfold has at h1
  have h2 := of_decide_eq_true h1
  unfold allTo
  rw [List.mem_filter, List.mem_range, decide_eq_true_eq]
  rw [show ((q : Int)).toNat = q from by omega] at h2
  exact ⟨by omega, by omega⟩
theorem KA.find {words oops mark : Nat} {l : List OI} {H : HS} {M : MS} (h : KA words oops mark (l.map oiKey) H M) (q : Nat) (hq : (M.things.getD (q - 1) noTh).there = true) (h1 : 1 ≤ q) :
    ∃ o, l.find? (fun o => decide (o.oop = (q : Int))) = some o ∧ o ∈ l ∧ o.oop = (q : Int) ∧ lk M q = o.cls :: (if o.fmt = 0 then o.slots else []) := by
  obtain ⟨k, k1, k2⟩ := h.only _ hq
  obtain ⟨o1, ho1, rfl⟩ := List.mem_map.1 k1
  have k3 : o1.oop = (q : Int) := by have : o1.oop = ((q - 1 : Nat) : Int) + 1 := k2; omega
  cases hf : l.find? (fun o => decide (o.oop = (q : Int))) with
  | none => exact absurd k3 (by simpa using List.find?_eq_none.1 hf o1 ho1)
  | some o =>
    have hm := List.mem_of_find?_eq_some hf
    have he : o.oop = (q : Int) := by simpa using List.find?_some hf
    refine ⟨o, rfl, hm, he, ?_⟩
    obtain ⟨-, b1, b2, b3, b4⟩ := h.at_ (oiKey o) (List.mem_map.2 ⟨o, hm, rfl⟩)
    have e : (oiKey o).1.toNat = q := by show o.oop.toNat = q; omega
    rw [e] at b1 b2 b3 b4
    unfold lk leadsOf
    rw [b2, b4]
    have b3' : ((M.things.getD (q - 1) noTh).fmt : Int) = o.fmt := b3
    by_cases hz : o.fmt = 0
    · rw [if_pos hz, if_pos (by omega)]; rfl
    · rw [if_neg hz, if_neg (by omega)]; rfl
theorem KA.hasK {words oops mark : Nat} {ks : List Key} {H : HS} {M : MS} (h : KA words oops mark ks H M) (k : Key) (hk : k ∈ ks) : has H k.1 = true := by
  obtain ⟨b0, b1, -⟩ := h.at_ k hk
  rw [h.inv.hasM, show k.1 = ((k.1.toNat - 1 : Nat) : Int) + 1 from by omega]
  exact mhas_of _ (there_lt b1) b1
theorem names_B {words oops mark : Nat} {l : List OI} {H : HS} {M : MS} (h : KA words oops mark (l.map oiKey) H M) {z : Int} (hz : namesS l z = true) : namesB H z = true := by
  unfold namesS at hz
  rw [Bool.and_eq_true, decide_eq_true_eq] at hz
  obtain ⟨⟨a1, a2, a3⟩, hf⟩ := hz
  obtain ⟨o, ho⟩ := Option.isSome_iff_exists.1 hf
  have hm := List.mem_of_find?_eq_some ho
  have he : o.oop = z / 4 := by simpa using List.find?_some ho
  unfold namesB
  rw [Bool.and_eq_true, decide_eq_true_eq]
  refine ⟨(kind3 z).2 ⟨a2, a1, a3⟩, ?_⟩
  rw [← he]
  exact h.hasK (oiKey o) (List.mem_map.2 ⟨o, hm, rfl⟩)
theorem sr_there {H : HS} {M : MS} (hi : Inv H M) {roots : List Int} {rs : List Nat} (hs : Sr H M roots (rs, [])) {q : Nat} (hq : q ∈ rs) : 1 ≤ q ∧ (M.things.getD (q - 1) noTh).there = true := by
  have h1 := hs.there q hq
  rw [hi.hasM] at h1
  obtain ⟨k, k1, k2, k3⟩ := mhas_yes h1
  have e : q = k + 1 := by omega
  subst e
  exact ⟨by omega, k3⟩
/-- the two halves of what closed asks -/
theorem closed_root {words oops mark : Nat} {l : List OI} {H : HS} {M : MS} (h : KA words oops mark (l.map oiKey) H M) {roots : List Int} {rs : List Nat} (hs : Sr H M roots (rs, [])) : ∀ z ∈ roots, inside l (zs (stays H rs)) z := fun z hz hn => by
  have hb := names_B h hn
  have h1 := hs.root z hz hb
  have h2 := (names_has hb).2
  rw [mem_zs]
  exact ⟨(z / 4).toNat, (mem_stays h.inv hs.there _).2 h1, by omega⟩
theorem closed_on {words oops mark : Nat} {l : List OI} {H : HS} {M : MS} (h : KA words oops mark (l.map oiKey) H M) {roots : List Int} {rs : List Nat} (hs : Sr H M roots (rs, [])) :
    ∀ q ∈ zs (stays H rs), ∃ o, l.find? (fun o => decide (o.oop = q)) = some o ∧ inside l (zs (stays H rs)) o.cls ∧ (o.fmt = 0 → ∀ z ∈ o.slots, inside l (zs (stays H rs)) z) := by
  intro q hq
  obtain ⟨n, hn, rfl⟩ := mem_zs.1 hq
  have hr := (mem_stays h.inv hs.there n).1 hn
  obtain ⟨t1, t2⟩ := sr_there h.inv hs hr
  obtain ⟨o, o1, o2, o3, o4⟩ := h.find n t2 t1
  have hon : ∀ z ∈ lk M n, namesB H z = true → (z / 4).toNat ∈ rs := by
    rcases hs.on n hr with h1 | h1
    · simp at h1
    · exact h1
  rw [o4] at hon
  have hin : ∀ z ∈ o.cls :: (if o.fmt = 0 then o.slots else []), inside l (zs (stays H rs)) z := fun z hz hnz => by
    have hb := names_B h hnz
    have h2 := (names_has hb).2
    rw [mem_zs]
    exact ⟨(z / 4).toNat, (mem_stays h.inv hs.there _).2 (hon z hz hb), by omega⟩
  exact ⟨o, o1, hin _ (by simp), fun hz z hm => hin z (by rw [if_pos hz]; simp [hm])⟩
/-- what led asks -/
theorem led_least {words oops mark : Nat} {l : List OI} {H : HS} {M : MS} (h : KA words oops mark (l.map oiKey) H M) {roots : List Int} {rs : List Nat} (hs : Sr H M roots (rs, [])) (fs : List Int) (hf : ∀ q ∈ fs, q ∈ zs (stays H rs))
    (hn : ∀ q ∈ zs (stays H rs), q ∉ fs → namedB l q fs roots = false) : ∀ q ∈ zs (stays H rs), q ∈ fs := by
  have key : ∀ z : Int, namesB H z = true → (z / 4).toNat ∈ rs → (z ∈ roots ∨ ∃ p ∈ fs, hitB l z p = true) → (((z / 4).toNat : Nat) : Int) ∈ fs := fun z hb hr hw => by
    refine Classical.byContradiction fun hno => ?_
    have h1 := hn _ (mem_zs'.2 ((mem_stays h.inv hs.there _).2 hr)) hno
    have h2 := (names_has hb).2
    unfold namesB at hb
    rw [Bool.and_eq_true, decide_eq_true_eq] at hb
    have h3 := (kind3 z).1 hb.1
    unfold namedB at h1
    rw [show 4 * (((z / 4).toNat : Nat) : Int) = z from by omega, Bool.or_eq_false_iff] at h1
    rcases hw with hw | ⟨p, p1, p2⟩
    · exact (of_decide_eq_false h1.1) hw
    · have := List.any_eq_false.1 h1.2 p p1
      exact this p2
  intro q hq
  obtain ⟨n, hn2, rfl⟩ := mem_zs.1 hq
  refine hs.least (fun q => ((q : Nat) : Int) ∈ fs) ⟨fun z hz hb => key z hb (hs.root z hz hb) (.inl hz), fun q hqf z hz hb => ?_⟩ n ((mem_stays h.inv hs.there n).1 hn2)
  have hqr := (mem_stays h.inv hs.there q).1 (mem_zs'.1 (hf _ hqf))
  obtain ⟨t1, t2⟩ := sr_there h.inv hs hqr
  obtain ⟨o, o1, o2, o3, o4⟩ := h.find q t2 t1
  have hon : (z / 4).toNat ∈ rs := by
    rcases hs.on q hqr with h1 | h1
    · simp at h1
    · exact h1 z hz hb
  refine key z hb hon (.inr ⟨(q : Int), hqf, ?_⟩)
  unfold hitB
  rw [o1]
  rw [o4] at hz
  rcases List.mem_cons.1 hz with e | hz
  · simp [e]
  · by_cases hfm : o.fmt = 0
    · rw [if_pos hfm] at hz; simp [hfm, hz]
    · rw [if_neg hfm] at hz; simp at hz
/-- behind a Run all that is there is led to -/
theorem again_all {H : HS} {M : MS} (hi : Inv H M) {roots : List Int} {rs rs2 : List Nat} (hs : Sr H M roots (rs, [])) (hI : Inv (keepH H (stays H rs)) { M with things := keptTh M.things (stays H rs) })
    (h2 : Sr (keepH H (stays H rs)) { M with things := keptTh M.things (stays H rs) } roots (rs2, [])) : stays (keepH H (stays H rs)) rs2 = allTo (keepH H (stays H rs)) (keepH H (stays H rs)).seats.length := by
  have hth : ∀ q : Nat, (({ M with things := keptTh M.things (stays H rs) } : MS).things.getD (q - 1) noTh).there = ((M.things.getD (q - 1) noTh).there && decide (q - 1 + 1 ∈ stays H rs)) := fun q => (kept_at M.things (stays H rs) (q - 1)).1
  have hhas : ∀ q : Nat, has (keepH H (stays H rs)) (q : Int) = true ↔ q ∈ rs := fun q => by
    rw [hI.hasM]
    constructor
    · intro hm
      obtain ⟨k, k1, k2, k3⟩ := mhas_yes hm
      have e : q = k + 1 := by omega
      subst e
      have := hth (k + 1)
      rw [Nat.add_sub_cancel] at this
      rw [this, Bool.and_eq_true, decide_eq_true_eq] at k3
      exact (mem_stays hi hs.there _).1 k3.2
    · intro hq
      obtain ⟨t1, t2⟩ := sr_there hi hs hq
      have := hth q
      rw [t2, show q - 1 + 1 = q from by omega, decide_eq_true ((mem_stays hi hs.there q).2 hq)] at this
      have h3 := mhas_of (M := { M with things := keptTh M.things (stays H rs) }) (q - 1) (there_lt this) this
      rw [show (((q - 1 : Nat)) : Int) + 1 = (q : Int) from by omega] at h3
      exact h3
  have hnm : ∀ z, namesB H z = true → (z / 4).toNat ∈ rs → namesB (keepH H (stays H rs)) z = true := fun z hz hr => by
    have h3 := (names_has hz).2
    unfold namesB at hz ⊢
    rw [Bool.and_eq_true] at hz ⊢
    refine ⟨hz.1, ?_⟩
    have := (hhas (z / 4).toNat).2 hr
    rw [show (((z / 4).toNat : Nat) : Int) = z / 4 from by omega] at this
    exact this
  have hall : ∀ q ∈ rs, q ∈ rs2 := hs.least (fun q => q ∈ rs2) ⟨fun z hz hb => h2.root z hz (hnm z hb (hs.root z hz hb)), fun q hq z hz hb => by
    have hqr : q ∈ rs := (hhas q).1 (h2.there q hq)
    have hzr : (z / 4).toNat ∈ rs := by
      rcases hs.on q hqr with h1 | h1
      · simp at h1
      · exact h1 z hz hb
    have hlk : lk { M with things := keptTh M.things (stays H rs) } q = lk M q := by
      obtain ⟨-, c2, c3, c4⟩ := kept_at M.things (stays H rs) (q - 1)
      unfold lk leadsOf
      show ((keptTh M.things (stays H rs)).getD (q - 1) noTh).cls :: (if ((keptTh M.things (stays H rs)).getD (q - 1) noTh).fmt = 0 then ((keptTh M.things (stays H rs)).getD (q - 1) noTh).slots else []) = _
      rw [c2, c3, c4]
    rcases h2.on q hq with h1 | h1
    · simp at h1
    · exact h1 z (by rw [hlk]; exact hz) (hnm z hb hzr)⟩
  unfold stays
  rw [List.filter_eq_self]
  intro q hq
  have h3 := all_has hI hq
  exact decide_eq_true (hall q ((hhas q).1 h3))
/-- what a Run leaves -/
theorem run_all {H : HS} {M : MS} (hi : Inv H M) (rs : List Nat) (hI : Inv (keepH H (stays H rs)) { M with things := keptTh M.things (stays H rs) }) : allTo (keepH H (stays H rs)) (keepH H (stays H rs)).seats.length = stays H rs := by
  rw [keep_all hi _ hI]
  unfold stays
  refine List.filter_congr fun q hq => ?_
  rw [Bool.eq_iff_iff, decide_eq_true_eq, decide_eq_true_eq, List.mem_filter, decide_eq_true_eq]
  exact ⟨fun h => h.2, fun h => ⟨hq, h⟩⟩
theorem keep_all_keys {words oops mark : Nat} {ks : List Key} {H : HS} {M : MS} (h : KA words oops mark ks H M) : (ks.filter fun k => decide (k.1.toNat ∈ allTo H H.seats.length)) = ks := by
  rw [List.filter_eq_self]
  intro k hk
  obtain ⟨b0, b1, -⟩ := h.at_ k hk
  exact decide_eq_true ((mem_all h.inv _).2 ⟨by omega, b1⟩)
theorem rise_filter (p : Nat → Bool) (n : Nat) : ∀ k, 0 < k → k < ((List.range n).filter p).length → ((List.range n).filter p).getD (k - 1) 0 < ((List.range n).filter p).getD k 0 := by
  intro k h0 hk
  have hp : ((List.range n).filter p).Pairwise (· < ·) := List.Pairwise.filter _ List.pairwise_lt_range
  have := List.pairwise_iff_getElem.1 hp (k - 1) k (by omega) hk (by omega)
  rw [List.getD_eq_getElem?_getD, List.getElem?_eq_getElem (by omega), List.getD_eq_getElem?_getD, List.getElem?_eq_getElem hk]
  exact this
theorem stays_eq (H : HS) (rs : List Nat) : stays H rs = (List.range H.seats.length).filter (fun o => decide (o ∈ rs) && decide (0 < (H.seats.getD o (0, 0, 0)).2.1)) := by
  unfold stays allTo
  rw [List.filter_filter]
theorem stays_rise (H : HS) (rs : List Nat) : ∀ k, 0 < k → k < (zs (stays H rs)).length → (zs (stays H rs)).getD (k - 1) 0 < (zs (stays H rs)).getD k 0 := by
  intro k h0 hk
  unfold zs at hk ⊢
  rw [List.length_map] at hk
  have h1 := rise_filter (fun o => decide (o ∈ rs) && decide (0 < (H.seats.getD o (0, 0, 0)).2.1)) H.seats.length k h0 (by rw [← stays_eq]; exact hk)
  rw [← stays_eq] at h1
  rw [List.getD_eq_getElem?_getD, List.getElem?_map, List.getElem?_eq_getElem (by omega), List.getD_eq_getElem?_getD, List.getElem?_map, List.getElem?_eq_getElem hk]
  rw [List.getD_eq_getElem?_getD, List.getElem?_eq_getElem (by omega), List.getD_eq_getElem?_getD, List.getElem?_eq_getElem hk] at h1
  simp only [Option.getD_some, Option.map_some] at h1 ⊢
  omega
theorem stays_nodup (H : HS) (rs : List Nat) : (stays H rs).Nodup := List.Pairwise.filter _ (allTo_nodup H _)
end Go.Proofs.YtkmjimdaimbdfaaDoor


namespace Go.Proofs.YtkmjimdaimbdfaaDoor
open Go.RowKit
set_option linter.unusedVariables false
attribute [local go_sem ↓] Go.wp_at_zero Go.wp_at_succ
/-- a list of oops of one's own, laid since w0 -/
structure Mine (w0 wr : World) (v : Value) (ls : List Nat) : Prop where
  own : wr.ownsRow w0.heap.size 3 1 v ls.length (ls.map I)
  fr : Fr [] w0 wr
theorem Mine.nil (w : World) : Mine w w (.slice none 0 0) [] := ⟨World.ownsRow_nil _ _ _ _, Fr.refl _ _⟩
theorem Mine.idle {w0 wr V : World} {v : Value} {ls : List Nat} (h : Mine w0 wr v ls) (hf : Fr [] wr V) : Mine w0 V v ls :=
  ⟨own_congr h.own fun g hg => hf.block g (h.own.lt g hg).2 (by simp), h.fr.trans hf (by simp)⟩
theorem Mine.grow {w0 wr w1 : World} {v v' : Value} {ls : List Nat} {m : Nat} {o : Obj} (h : Mine w0 wr v ls) (hown : w1.ownsRow w0.heap.size 3 1 v' (ls.length + 1) (ls.map I ++ [I m])) (hg : (wr.alloc o).grownBy w1 v.ownBlock) : Mine w0 w1 v' (ls ++ [m]) := by
  refine ⟨by simpa using hown, ?_⟩
  have h1 : Fr [] w0 (wr.alloc o) := h.fr.trans (Fr.alloc [] _ _) (by simp)
  refine ⟨hg.os.trans h1.os, hg.tape.trans h1.tape, hg.output.trans h1.output, Nat.le_trans h1.size hg.size, fun i hi hni => ?_⟩
  rw [hg.block i (Nat.lt_of_lt_of_le hi h1.size) (fun e => by have := (h.own.lt i e.symm).1; omega)]
  exact h1.block i hi hni
theorem Mine.is {w0 wr : World} {v : Value} {ls : List Nat} (h : Mine w0 wr v ls) : ∃ p c, v = .slice p ls.length c := by
  rcases h.own.2 with ⟨h2, h3⟩ | ⟨g, cap, cur, h2, h3⟩
  · exact ⟨none, 0, by rw [h2, h3]⟩
  · exact ⟨_, cap, h2⟩
theorem I_map (ls : List Nat) : ls.map I = (ls.map fun x : Nat => (x : Int)).map (Value.int .i64) := by rw [List.map_map]; rfl
theorem Mine.rd {w0 wr : World} {v : Value} {ls : List Nat} (h : Mine w0 wr v ls) (hl : ls.length ≤ 1048576) : Rd wr v (zs ls) := by
  have h1 := h.own
  rw [I_map] at h1
  have e : (zs ls).length = ls.length := by simp [zs]
  have h2 : wr.ownsRow w0.heap.size 3 1 v (zs ls).length ((zs ls).map (Value.int .i64)) := by rw [e]; exact h1
  exact own_rd h2 (by omega)
theorem Mine.cell {w0 wr : World} {v : Value} {ls : List Nat} (h : Mine w0 wr v ls) (k : Nat) (hk : k < ls.length) : ∃ g c, v = .slice (some ⟨g, 0, none⟩) ls.length c ∧ wr.cell? ⟨g, k, none⟩ = some (.int .i64 (ls.getD k 0 : Nat)) := by
  rcases h.own.2 with ⟨h2, h3⟩ | ⟨g, cap, cur, h2, h3⟩
  · omega
  · refine ⟨g, cap, h2, ?_⟩
    have h1 := h.own
    rw [h2] at h1
    rw [h1.cellAt k (by omega), List.getElem?_map, List.getD_eq_getElem?_getD, List.getElem?_eq_getElem hk]
    rfl
def addL (ls : List Nat) (m : Nat) : List Nat := if m = 0 ∨ m ∈ ls then ls else ls ++ [m]
end Go.Proofs.YtkmjimdaimbdfaaDoor


namespace Go.Proofs.YtkmjimdaimbdfaaDoor
open Go.RowKit
set_option linter.unusedVariables false
theorem nam_yes {H : HS} {z : Int} (h : namesB H z = true) : namN H z = (z / 4).toNat ∧ namN H z ≠ 0 := by
  have h1 := names_has h
  unfold namN
  rw [if_pos h]
  refine ⟨rfl, fun e => ?_⟩
  unfold namesB at h
  rw [Bool.and_eq_true, decide_eq_true_eq] at h
  have := (kind3 z).1 h.1
  omega
theorem seen_add (H : HS) (rs : List Nat) (t : Nat) (ht : t ≤ rs.length) (z : Int) : seen1 H (rs, rs.drop t) z = (addL rs (namN H z), (addL rs (namN H z)).drop t) := by
  unfold seen1 addL
  by_cases hn : namesB H z = true
  · obtain ⟨e1, e2⟩ := nam_yes hn
    rw [e1] at e2 ⊢
    by_cases hm : (z / 4).toNat ∈ rs
    · rw [if_neg (fun h => h.2 hm), if_pos (.inr hm)]
    · rw [if_pos ⟨hn, hm⟩, if_neg (fun h => by rcases h with h | h; exact e2 h; exact hm h)]
      rw [List.drop_append_of_le_length ht]
  · have e : namN H z = 0 := by unfold namN; rw [if_neg hn]
    rw [if_neg (fun h => hn h.1), e, if_pos (.inl rfl)]
/-- words met one after the other -/
def adds (H : HS) (rs : List Nat) (l : List Int) : List Nat := l.foldl (fun s z => addL s (namN H z)) rs
theorem addL_len (rs : List Nat) (m : Nat) : rs.length ≤ (addL rs m).length := by unfold addL; split <;> simp
theorem addL_get (rs : List Nat) (m t : Nat) (ht : t < rs.length) : (addL rs m).getD t 0 = rs.getD t 0 := by
  unfold addL
  split
  · rfl
  · rw [List.getD_eq_getElem?_getD, List.getElem?_append_left ht, ← List.getD_eq_getElem?_getD]
theorem fold_add (H : HS) (t : Nat) : ∀ (l : List Int) (rs : List Nat), t ≤ rs.length → l.foldl (seen1 H) (rs, rs.drop t) = (adds H rs l, (adds H rs l).drop t)
  | [], rs, _ => rfl
  | z :: l, rs, ht => by
    rw [List.foldl_cons, seen_add H rs t ht z]
    have := addL_len rs (namN H z)
    rw [fold_add H t l _ (by omega)]
    rfl
theorem adds_len (H : HS) : ∀ (l : List Int) (rs : List Nat), rs.length ≤ (adds H rs l).length
  | [], rs => Nat.le_refl _
  | z :: l, rs => Nat.le_trans (addL_len rs (namN H z)) (adds_len H l _)
theorem adds_get (H : HS) (t : Nat) : ∀ (l : List Int) (rs : List Nat), t < rs.length → (adds H rs l).getD t 0 = rs.getD t 0
  | [], rs, _ => rfl
  | z :: l, rs, ht => by
    have := addL_len rs (namN H z)
    show (adds H (addL rs (namN H z)) l).getD t 0 = _
    rw [adds_get H t l _ (by omega), addL_get rs _ t ht]
theorem adds_snoc (H : HS) (rs : List Nat) (l : List Int) (z : Int) : adds H rs (l ++ [z]) = addL (adds H rs l) (namN H z) := by
  unfold adds
  rw [List.foldl_append]
  rfl
theorem adds_cons (H : HS) (rs : List Nat) (l : List Int) (z : Int) : adds H rs (z :: l) = adds H (addL rs (namN H z)) l := rfl
/-- oops that are there, each once -/
structure Fnd (H : HS) (rs : List Nat) : Prop where
  nd : rs.Nodup
  th : ∀ q ∈ rs, has H (q : Int) = true
theorem Fnd.nil (H : HS) : Fnd H [] := ⟨by simp, by simp⟩
theorem Fnd.len {H : HS} {rs : List Nat} (h : Fnd H rs) : rs.length ≤ H.seats.length :=
  nodup_len _ _ h.nd fun q hq => by
    have := of_decide_eq_true (h.th q hq)
    omega
theorem Fnd.add {H : HS} {rs : List Nat} (h : Fnd H rs) (z : Int) : Fnd H (addL rs (namN H z)) := by
  unfold addL
  split
  · exact h
  · rename_i hc
    have hn : namesB H z = true := Classical.byContradiction fun hn => hc (.inl (by unfold namN; rw [if_neg hn]))
    obtain ⟨e1, e2⟩ := nam_yes hn
    refine ⟨nodup_snoc h.nd (fun hm => hc (.inr hm)), fun q hq => ?_⟩
    rcases List.mem_append.1 hq with h1 | h1
    · exact h.th q h1
    · rw [List.mem_singleton.1 h1, e1]
      exact (names_has hn).1
theorem Fnd.adds {H : HS} : ∀ (l : List Int) {rs : List Nat}, Fnd H rs → Fnd H (adds H rs l)
  | [], _, h => h
  | z :: l, _, h => Fnd.adds l (h.add z)
/-- the search, the first of those ahead taken -/
theorem Sr.pop {H : HS} {M : MS} {roots : List Int} {rs ah : List Nat} {q : Nat} (h : Sr H M roots (rs, q :: ah)) (hq : q ∈ rs) : Sr H M roots ((lk M q).foldl (seen1 H) (rs, ah)) := by
  obtain ⟨a1, a2, a3, a4⟩ := fold_all H (lk M q) (rs, ah)
  refine ⟨fun p hp => ?_, fun z hz hn => a1 _ (h.root z hz hn), fun p hp => ?_, fun X hX p hp => ?_⟩
  · rcases a3 p hp with h1 | ⟨_, z, _, h1, h2⟩
    · exact h.there p h1
    · rw [h2]; exact (names_has h1).1
  · rcases a3 p hp with h1 | ⟨h1, _⟩
    · by_cases e : p = q
      · right; intro z hz hn; rw [e] at hz; exact a4 z hz hn
      · rcases h.on p h1 with h2 | h2
        · left
          rcases List.mem_cons.1 h2 with h3 | h3
          · exact absurd h3 e
          · exact a2 p h3
        · right; intro z hz hn; exact a1 _ (h2 z hz hn)
    · exact .inl h1
  · rcases a3 p hp with h1 | ⟨_, z, hz, h1, h2⟩
    · exact h.least X hX p h1
    · rw [h2]; exact hX.on q (h.least X hX q hq) z hz h1
theorem sr_start (H : HS) (M : MS) (roots : List Int) : Sr H M roots (adds H [] roots, (adds H [] roots).drop 0) := by
  have := Sr.start H M roots
  have e := fold_add H 0 roots [] (Nat.le_refl _)
  rw [List.drop_zero] at e
  rw [e] at this
  exact this
theorem sr_step {H : HS} {M : MS} {roots : List Int} {rs : List Nat} {t : Nat} (ht : t < rs.length) (h : Sr H M roots (rs, rs.drop t)) : Sr H M roots (adds H rs (lk M (rs.getD t 0)), (adds H rs (lk M (rs.getD t 0))).drop (t + 1)) := by
  have e1 : rs.getD t 0 = rs[t] := by rw [List.getD_eq_getElem?_getD, List.getElem?_eq_getElem ht]; rfl
  rw [List.drop_eq_getElem_cons ht] at h
  have := h.pop (List.getElem_mem ht)
  rw [fold_add H (t + 1) _ rs ht] at this
  rw [e1]
  exact this
end Go.Proofs.YtkmjimdaimbdfaaDoor


namespace Go.Proofs.YtkmjimdaimbdfaaDoor
open Go.RowKit
set_option linter.unusedVariables false
attribute [local go_sem ↓] Go.wp_at_zero Go.wp_at_succ
theorem take_get {α : Type} (l : List α) (d : α) (k : Nat) (hk : k < l.length) : l.take (k + 1) = l.take k ++ [l.getD k d] := by
  rw [List.take_succ_eq_append_getElem hk, List.getD_eq_getElem?_getD, List.getElem?_eq_getElem hk]; rfl
end Go.Proofs.YtkmjimdaimbdfaaDoor


namespace Go.Proofs.YtkmjimdaimbdfaaDoor
open Go.RowKit
set_option linter.unusedVariables false
/-- an object of a state in memory of its own, marks behind its slots -/
structure HG where
  oop : Int
  cls : Int
  fmt : Int
  slots : List Int
  g : Nat
  cap : Nat
def hg4 (x : HG) : List Value := [.int .i64 x.oop, .int .i64 x.cls, .int .i64 x.fmt, .slice (some ⟨x.g, 0, none⟩) x.slots.length x.cap]
def hgCells (l : List HG) : List Value := l.flatMap hg4
def hgKey (x : HG) : Int × Int × Int × List Int := (x.oop, x.cls, x.fmt, x.slots)
theorem hgCells_append (l : List HG) (o : HG) : hgCells (l ++ [o]) = hgCells l ++ hg4 o := by simp [hgCells]
theorem hgCells_len (l : List HG) : (hgCells l).length = l.length * 4 := by
  induction l with
  | nil => rfl
  | cons x l ih =>
    show (hg4 x ++ hgCells l).length = _
    rw [List.length_append, ih]
    simp [hg4]; omega
def hgTail (x : HG) : List Value := (x.slots ++ [-77, -78]).map (Value.int .i64)
/-- a copy of the first objects of a state is being made -/
structure Hd (w W : World) (lv : Value) (gs : List HG) : Prop where
  fr : Fr [] w W
  row : W.ownsRow (w.heap.size + 2) 90 4 lv gs.length (hgCells gs)
  slots : ∀ x ∈ gs, W.ownsRow (w.heap.size + 2) 28 1 (.slice (some ⟨x.g, 0, none⟩) (x.slots.length + 2) x.cap) (x.slots.length + 2) (hgTail x)
  apart : (gs.map HG.g).Nodup
theorem Hd.idle {w W V : World} {lv : Value} {gs : List HG} (h : Hd w W lv gs) (hf : Fr [] W V) : Hd w V lv gs :=
  ⟨h.fr.trans hf (by simp), own_congr h.row fun g hg => hf.block g (h.row.lt g hg).2 (by simp), fun x hx => own_congr (h.slots x hx) fun g hg => hf.block g ((h.slots x hx).lt g hg).2 (by simp), h.apart⟩
theorem own_type {w : World} {b1 b2 : Nat} {t1 t2 : TypeId} {s1 s2 : Nat} {v1 v2 : Value} {n1 n2 : Nat} {x1 x2 : List Value} (h1 : w.ownsRow b1 t1 s1 v1 n1 x1) (h2 : w.ownsRow b2 t2 s2 v2 n2 x2) (ht : t1 ≠ t2) {g : Nat} (e1 : v1.ownBlock = some g) (e2 : v2.ownBlock = some g) : False := by
  rcases h1.2 with ⟨q1, _⟩ | ⟨g1, cap1, cur1, q1, q2, q3, _⟩
  · rw [q1] at e1; simp [Value.ownBlock] at e1
  · rcases h2.2 with ⟨r1, _⟩ | ⟨g2, cap2, cur2, r1, r2, r3, _⟩
    · rw [r1] at e2; simp [Value.ownBlock] at e2
    · rw [q1] at e1
      rw [r1] at e2
      have a1 : g1 = g := by simpa [Value.ownBlock] using e1
      have a2 : g2 = g := by simpa [Value.ownBlock] using e2
      subst a1
      subst a2
      rw [q3] at r3
      simp at r3
      exact ht r3.2
/-- one object more -/
theorem Hd.next {w W V W2 : World} {lv lv' : Value} {gs : List HG} {x : HG} (h : Hd w W lv gs) (hV : Fr [] W V) (ho : V.ownsRow W.heap.size 28 1 (.slice (some ⟨x.g, 0, none⟩) (x.slots.length + 2) x.cap) (x.slots.length + 2) (hgTail x)) (hW : w.heap.size + 2 ≤ W.heap.size)
    (hg : V.grownBy W2 lv.ownBlock) (hown : W2.ownsRow (w.heap.size + 2) 90 4 lv' (gs.length + 1) (hgCells gs ++ hg4 x)) : Hd w W2 lv' (gs ++ [x]) := by
  have h1 := h.idle hV
  have hb : ∀ b, lv.ownBlock = some b → w.heap.size + 2 ≤ b := fun b hb => (h.row.lt b hb).1
  have hsl : ∀ y : HG, V.ownsRow (w.heap.size + 2) 28 1 (.slice (some ⟨y.g, 0, none⟩) (y.slots.length + 2) y.cap) (y.slots.length + 2) (hgTail y) → W2.ownsRow (w.heap.size + 2) 28 1 (.slice (some ⟨y.g, 0, none⟩) (y.slots.length + 2) y.cap) (y.slots.length + 2) (hgTail y) := fun y hy =>
    own_congr hy fun g hgg => hg.block g (hy.lt g hgg).2 (fun e => own_type hy h1.row (by decide) hgg e.symm)
  have ho' := own_base ho (show w.heap.size + 2 ≤ W.heap.size from hW)
  refine ⟨?_, by rw [List.length_append, hgCells_append]; exact hown, fun y hy => ?_, ?_⟩
  · exact (h1.fr).trans (Fr.grown (S := (lv.ownBlock).toList) hg (fun k hk => by rw [hk]; simp)) (fun b hb' => by
      right
      have : lv.ownBlock = some b := by
        cases hl : lv.ownBlock with
        | none => rw [hl] at hb'; simp at hb'
        | some z => rw [hl] at hb'; simp at hb'; rw [hb']
      have := hb b this
      omega)
  · rcases List.mem_append.1 hy with h2 | h2
    · exact hsl y (h1.slots y h2)
    · have e : y = x := by simpa using h2
      rw [e]
      exact hsl x ho'
  · rw [List.map_append, List.nodup_append]
    refine ⟨h.apart, by simp, fun a ha b hb2 => ?_⟩
    have e : b = x.g := by simpa using hb2
    obtain ⟨y, hy, rfl⟩ := List.mem_map.1 ha
    have h3 := ((h.slots y hy).lt y.g rfl).2
    have h4 := (ho.lt x.g rfl).1
    omega
end Go.Proofs.YtkmjimdaimbdfaaDoor



namespace Go.Proofs.YtkmjimdaimbdfaaDoor
open Go.RowKit
set_option linter.unusedVariables false
/-- an append whose run is known, as one step of a region that draws -/
theorem step_append_run {P : Program} {ops : Array Oper} {o : Oper} {a : Act} {w : World} {K : Act → World → Prop} {Q : Exit → Act → World → Prop} {E : Prop}
    (hg : o.guard = none) (s x : Operand) (t tn : TypeId) (ho : o.op = .call { callee := .builtin .append, args := #[s, x], argTypes := #[t, tn] }) (vs vx : Value) (hs : a.eval s = vs) (hx : a.eval x = vx)
    (v' : Value) (w' : World) (hr : (Builtin.append_ #[t, tn] o.type #[vs, vx]).run P w = .ok v' w') (h : K (a.put o.dst v') w') : if Region.wanted o (yielded ops a.tmps) = true then Oper.wp P o a w K Q else E := by
  have hw : Region.wanted o (yielded ops a.tmps) = true := by simp [Region.wanted, hg]
  rw [if_pos hw]
  exact Lib.wp_append_run w s x t tn ho vs vx hs hx v' w' hr h
end Go.Proofs.YtkmjimdaimbdfaaDoor



namespace Go.Proofs.YtkmjimdaimbdfaaDoor
open Go.RowKit
set_option linter.unusedVariables false
attribute [local go_sem ↓] Go.wp_at_zero Go.wp_at_succ
/-- the heap behind a Keep -/
def rKept (R : RS) (js : List Nat) (v : Value) : RS := { R with objs := (kst js R.objs).1, ov := v, turn := R.turn + 1 }
theorem kst_take_le (js : List Nat) (l : List RO) (k : Nat) : (kst js (l.take k)).1.length ≤ l.length := by
  have := kst_len js (l.take k)
  simp at this
  omega
theorem endK_nn : ∀ ks : List Key, 0 ≤ endK ks
  | [] => by simp [endK]
  | k :: t => by
    have h1 := endK_nn t
    simp only [endK]
    have : 0 ≤ lenOf (k.2.2.2.length : Int) k.2.2.1 := by unfold lenOf; split <;> omega
    omega
theorem kst_take_end (js : List Nat) (l : List RO) (k : Nat) : ((kst js (l.take k)).2 : Int) ≤ endK (l.map roKey) := by
  have h1 := kst_le js (l.take k)
  have h2 : l.map roKey = (l.take k).map roKey ++ (l.drop k).map roKey := by rw [← List.map_append, List.take_append_drop]
  rw [h2, endK_append]
  have := endK_nn ((l.drop k).map roKey)
  omega
end Go.Proofs.YtkmjimdaimbdfaaDoor


