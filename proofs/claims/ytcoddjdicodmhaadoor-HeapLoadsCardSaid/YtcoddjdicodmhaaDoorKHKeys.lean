import Derived.Test.YtcoddjdicodmhaaDoorKHLdR
import Derived.Test.YtcoddjdicodmhaaDoorKHKey
namespace Go.Proofs.YtcoddjdicodmhaaDoor
open Go.RowKit
set_option linter.unusedVariables false
/-- what a list of loaded objects is in a heap -/
structure KOf (words oops mark : Nat) (ks : List Key) (H : HS) (M : MS) : Prop where
  inv : Inv H M
  words : H.words = words
  oops : H.oops = oops
  mark : H.mark = mark
  age : H.age = 0
  order : H.order = ks.map fun k => k.1.toNat
  mem : (H.mem.length : Int) = endK ks
  count : H.count = ks.length
  at_ : ∀ k ∈ ks, 1 ≤ k.1 ∧ (M.things.getD (k.1.toNat - 1) noTh).there = true ∧ (M.things.getD (k.1.toNat - 1) noTh).cls = k.2.1 ∧ ((M.things.getD (k.1.toNat - 1) noTh).fmt : Int) = k.2.2.1 ∧ (M.things.getD (k.1.toNat - 1) noTh).slots = k.2.2.2
  only : ∀ i, (M.things.getD i noTh).there = true → ∃ k ∈ ks, k.1 = (i : Int) + 1
theorem ext_getD {a b : List Int} (h1 : a.length = b.length) (h2 : ∀ j, j < b.length → a.getD j 0 = b.getD j 0) : a = b := by
  refine List.ext_getElem h1 fun i u1 u2 => ?_
  have := h2 i u2
  rw [List.getD_eq_getElem?_getD, List.getD_eq_getElem?_getD, List.getElem?_eq_getElem u1, List.getElem?_eq_getElem u2] at this
  exact this
theorem Lds.kOf {words oops mark : Nat} {ks : List Key} {H : HS} {M : MS} (h1 : (words : Int) ≤ 1048576) (h2 : (oops : Int) ≤ 65536) (hm : (mark : Int) ≤ 1073741824) (h : Lds { emptyH words oops with mark := mark } { emptyM words oops with mark := mark } ks H M) : KOf words oops mark ks H M := by
  refine Lds.ind (C := fun ks H M => KOf words oops mark ks H M) ?_ ?_ h
  · exact ⟨(inv_empty words oops h1 h2).setMark mark hm, rfl, rfl, rfl, rfl, rfl, rfl, rfl, by simp, fun i hi => by simp [emptyM, noTh] at hi⟩
  · rintro ks H H' M M' q cls fmt ss h ht hl ih
    obtain ⟨a1, a2, a3, a4, a5⟩ := hl.at_
    have hq : ((q : Int) + 1).toNat - 1 = q := by omega
    have hnew := (takesB_yes ht).1
    have hnt := not_there ih.inv q hnew
    refine ⟨hl.inv, hl.words.trans ih.words, hl.oops.trans ih.oops, hl.mark.trans ih.mark, hl.age.trans ih.age, ?_, ?_, ?_, fun k hk => ?_, fun i hi => ?_⟩
    · rw [hl.order, ih.order, List.map_append]
      simp
    · rw [hl.mem, endK_append]
      have := ih.mem
      simp only [endK]
      rw [lenOf_nat]
      omega
    · rw [hl.count, ih.count, List.length_append]; rfl
    · rcases List.mem_append.1 hk with h3 | h3
      · obtain ⟨b0, b1, b2, b3, b4⟩ := ih.at_ k h3
        have hne : k.1.toNat - 1 ≠ q := fun e => by rw [e, hnt] at b1; simp at b1
        rw [hl.rest _ hne]
        exact ⟨b0, b1, b2, b3, b4⟩
      · have e : k = ((q : Int) + 1, cls, (fmt : Int), ss) := by simpa using h3
        rw [e]
        dsimp only
        rw [hq]
        refine ⟨by omega, a1, a2, by rw [a3], ?_⟩
        exact ext_getD a4 a5
    · by_cases e : i = q
      · exact ⟨((q : Int) + 1, cls, (fmt : Int), ss), by simp, by dsimp only; omega⟩
      · rw [hl.rest i e] at hi
        obtain ⟨k, k1, k2⟩ := ih.only i hi
        exact ⟨k, List.mem_append_left _ k1, k2⟩
theorem KOf.has {words oops mark : Nat} {ks : List Key} {H : HS} {M : MS} (h : KOf words oops mark ks H M) (oop : Int) : has H oop = ks.any fun x => x.1 == oop := by
  rw [h.inv.hasM]
  cases hb : ks.any (fun x => x.1 == oop) with
  | true =>
    obtain ⟨k, k1, k2⟩ := List.any_eq_true.1 hb
    have e : k.1 = oop := by simpa using k2
    obtain ⟨b0, b1, b2⟩ := h.at_ k k1
    rw [e] at b0 b1
    have := mhas_of (M := M) (oop.toNat - 1) (th_in b1) b1
    rwa [show ((oop.toNat - 1 : Nat) : Int) + 1 = oop from by omega] at this
  | false =>
    refine decide_eq_false (fun hc => ?_)
    obtain ⟨k, k1, k2⟩ := h.only (oop.toNat - 1) hc.2.2
    have : ks.any (fun x => x.1 == oop) = true := List.any_eq_true.2 ⟨k, k1, by rw [beq_iff_eq]; omega⟩
    rw [hb] at this
    simp at this
theorem KOf.takes {words oops mark : Nat} {ks : List Key} {H : HS} {M : MS} (h : KOf words oops mark ks H M) (k : Key) : takesB H k.1 k.2.1 k.2.2.1 k.2.2.2 = takesK words oops ks k := by
  unfold takesB takesK
  rw [h.has, h.words, h.oops, h.mem]
  rw [Bool.eq_iff_iff]
  simp only [Bool.and_eq_true, decide_eq_true_eq]
  constructor
  · rintro ⟨⟨⟨⟨⟨⟨⟨h1, h2⟩, h3⟩, h4⟩, h5⟩, h6⟩, h7⟩, h8⟩
    exact ⟨⟨⟨⟨⟨⟨⟨h2, h3⟩, h1⟩, h4⟩, h5⟩, h6⟩, h8⟩, by omega⟩
  · rintro ⟨⟨⟨⟨⟨⟨⟨h2, h3⟩, h1⟩, h4⟩, h5⟩, h6⟩, h8⟩, h7⟩
    exact ⟨⟨⟨⟨⟨⟨⟨h1, h2⟩, h3⟩, h4⟩, h5⟩, h6⟩, by omega⟩, h8⟩
/-- what the state tells of a heap that was loaded -/
theorem KOf.st {words oops mark : Nat} {ks : List Key} {H : HS} {M : MS} (h : KOf words oops mark ks H M) : (stKeys H M.things H.order.length).map (fun k : Nat × Int × Nat × List Int => ((k.1 : Int), k.2.1, (k.2.2.1 : Int), k.2.2.2)) = ks := by
  unfold stKeys
  rw [List.take_length, h.order]
  have hf : (ks.map fun k => k.1.toNat).filter (fun o => o != 0) = ks.map fun k => k.1.toNat := by
    rw [List.filter_eq_self]
    intro a ha
    obtain ⟨k, k1, k2⟩ := List.mem_map.1 ha
    have := (h.at_ k k1).1
    simp
    omega
  rw [hf, List.map_map, List.map_map]
  conv => rhs; rw [← List.map_id ks]
  refine List.map_congr_left fun k hk => ?_
  obtain ⟨b0, b1, b2, b3, b4⟩ := h.at_ k hk
  simp only [Function.comp]
  rw [b2, b3, b4]
  obtain ⟨k1, k2, k3, k4⟩ := k
  simp only [id]
  rw [show ((k1.toNat : Nat) : Int) = k1 from by dsimp only at b0; omega]
/-- how many of a list of objects are taken, one after the other -/
def goodK (words oops : Nat) (la : List Key) (k : Nat) : Prop := ∀ i o, i < k → la[i]? = some o → takesK words oops (la.take i) o = true
end Go.Proofs.YtcoddjdicodmhaaDoor
