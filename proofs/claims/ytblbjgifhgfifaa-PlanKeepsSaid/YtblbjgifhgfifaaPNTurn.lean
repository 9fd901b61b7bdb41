import Derived.Test.YtblbjgifhgfifaaPNFixed
namespace Go.Proofs.Ytblbjgifhgfifaa
open Go.RowKit
set_option linter.unusedVariables false
set_option linter.unusedSimpArgs false
theorem chain_le (l : List Cl) : ∀ c, ∀ d ∈ chain l c, d ≤ c := by
  intro c
  induction c using Nat.strongRecOn with
  | ind c ih =>
    intro d hd
    rw [chain_eq] at hd
    rcases List.mem_cons.1 hd with rfl | hd
    · exact Nat.le_refl _
    · cases h : upN l c with
      | none => rw [h] at hd; simp [chO] at hd
      | some e =>
        rw [h] at hd
        have := ih e (upN_lt h) d hd
        have := upN_lt h
        omega
theorem under_chain (l : List Cl) (top : Nat) : ∀ c, under l c top = true ↔ top ∈ chain l c := by
  intro c
  induction c using Nat.strongRecOn with
  | ind c ih =>
    rw [under_eq, chain_eq, List.mem_cons]
    by_cases h1 : top < c
    · rw [if_pos h1]
      cases h : upN l c with
      | none =>
        constructor
        · intro h; cases h
        · rintro (h | h)
          · omega
          · simp [chO] at h
      | some d =>
        show under l d top = true ↔ _
        rw [ih d (upN_lt h)]
        constructor
        · intro h; exact Or.inr h
        · rintro (h | h)
          · omega
          · exact h
    · rw [if_neg h1, decide_eq_true_eq]
      constructor
      · intro h; exact Or.inl h.symm
      · rintro (h | h)
        · exact h.symm
        · cases hu : upN l c with
          | none => rw [hu] at h; simp [chO] at h
          | some d => rw [hu] at h; have := chain_le l d top h; have := upN_lt hu; omega
theorem fields_out {l : List Cl} {top : Nat} {own : List ByteArray} {c : Nat} (h : top ∉ chain l c) : fields l (some top) own c = fields l none [] c := by
  unfold fields
  congr 1
  apply List.map_congr_left
  intro d hd
  unfold ownOf
  rw [if_neg (fun e => h (by injection e with e; rw [e]; exact List.mem_reverse.1 hd)), if_neg (by simp)]
theorem fields_sub (l : List Cl) (top : Nat) (own : List ByteArray) (c : Nat) (x : ByteArray) (h : x ∈ fields l (some top) own c) : x ∈ own ∨ x ∈ fields l none [] c := by
  unfold fields at h ⊢
  rw [List.mem_flatten] at h
  obtain ⟨s, hs, hx⟩ := h
  obtain ⟨d, hd, rfl⟩ := List.mem_map.1 hs
  by_cases e : some top = some d
  · left; unfold ownOf at hx; rw [if_pos e] at hx; exact hx
  · right
    rw [List.mem_flatten]
    refine ⟨ownOf l none [] d, List.mem_map.2 ⟨d, hd, rfl⟩, ?_⟩
    unfold ownOf at hx ⊢
    rw [if_neg e] at hx
    rw [if_neg (by simp)]
    exact hx
theorem fields_old (l : List Cl) (top c : Nat) : fields l (some top) (clAt l top).own c = fields l none [] c := by
  unfold fields
  congr 1
  apply List.map_congr_left
  intro d _
  unfold ownOf
  rw [if_neg (by simp : ¬ (none : Option Nat) = some d)]
  split
  · next e => injection e with e; rw [e]
  · rfl
theorem listedZ_zero {inh : List ByteArray} : ∀ (r pre : List ByteArray), listedZ inh pre r = 0 → r.Nodup ∧ ∀ x ∈ r, x ∉ pre ∧ x ∉ inh
  | [], pre, _ => ⟨List.nodup_nil, by simp⟩
  | x :: r, pre, h => by
    rw [listedZ_step] at h
    by_cases h1 : fieldB x = false
    · rw [if_pos h1] at h; cases h
    rw [if_neg h1] at h
    by_cases h2 : inB pre x = true
    · rw [if_pos h2] at h; cases h
    rw [if_neg h2] at h
    by_cases h3 : inB inh x = true
    · rw [if_pos h3] at h; cases h
    rw [if_neg h3] at h
    obtain ⟨k1, k2⟩ := listedZ_zero r (pre ++ [x]) h
    refine ⟨List.nodup_cons.2 ⟨fun hx => (k2 x hx).1 (by simp), k1⟩, fun y hy => ?_⟩
    rcases List.mem_cons.1 hy with rfl | hy
    · exact ⟨fun hm => h2 (inB_iff.2 hm), fun hm => h3 (inB_iff.2 hm)⟩
    · exact ⟨fun hm => (k2 y hy).1 (by simp [hm]), (k2 y hy).2⟩
/-- a reshape that may be -/
structure May (l : List Cl) (top : Nat) (own : List ByteArray) : Prop where
  made : madeB l = true
  tl : top < l.length
  listed : listedZ (inherited l top) [] own = 0
  below : belowZ l top own = 0
theorem made_nodup {l : List Cl} (h : madeB l = true) {c : Nat} (hc : c < l.length) : (fields l none [] c).Nodup := by
  unfold madeB at h
  rw [Bool.and_eq_true, List.all_eq_true, List.all_eq_true] at h
  exact of_decide_eq_true (h.2 c (List.mem_range.2 hc))
theorem made_named {l : List Cl} (h : madeB l = true) {c : Nat} (hc : c < l.length) : named1 l c = true := by
  unfold madeB at h
  rw [Bool.and_eq_true, List.all_eq_true] at h
  exact h.1 c (List.mem_range.2 hc)
theorem below_zero {l : List Cl} {top : Nat} {own : List ByteArray} (h : belowZ l top own = 0) : (∀ c, top < c → c < l.length → below1 l top own c = false) ∧ ∀ c, top ≤ c → c < l.length → below2 l top own c = false := by
  unfold belowZ at h
  by_cases h1 : (List.range' (top + 1) (l.length - (top + 1))).any (below1 l top own) = true
  · rw [if_pos h1] at h; cases h
  rw [if_neg h1] at h
  by_cases h2 : (List.range' top (l.length - top)).any (below2 l top own) = true
  · rw [if_pos h2] at h; cases h
  rw [List.any_eq_true] at h1 h2
  refine ⟨fun c a b => ?_, fun c a b => ?_⟩
  · rw [Bool.eq_false_iff]; exact fun hb => h1 ⟨c, by rw [List.mem_range'_1]; omega, hb⟩
  · rw [Bool.eq_false_iff]; exact fun hb => h2 ⟨c, by rw [List.mem_range'_1]; omega, hb⟩
theorem May.nodup {l : List Cl} {top : Nat} {own : List ByteArray} (h : May l top own) : ∀ c, c < l.length → (fields l (some top) own c).Nodup := by
  intro c
  induction c using Nat.strongRecOn with
  | ind c ih =>
    intro hc
    cases hu : under l c top with
    | false => rw [fields_out (fun hm => by rw [(under_chain l top c).2 hm] at hu; cases hu)]; exact made_nodup h.made hc
    | true =>
      have hold := made_nodup h.made hc
      have hlist := listedZ_zero own [] h.listed
      rw [fields_eq] at hold ⊢
      by_cases e : c = top
      · subst e
        have h1 : fieldsO l (some c) own (upN l c) = fieldsO l none [] (upN l c) := by
          cases hup : upN l c with
          | none => rfl
          | some d => exact fields_out (fun hm => by have := chain_le l d c hm; have := upN_lt hup; omega)
        have h2 : ownOf l (some c) own c = own := by unfold ownOf; rw [if_pos rfl]
        rw [h1, h2, List.nodup_append]
        refine ⟨(List.nodup_append.1 hold).1, hlist.1, fun a ha b hb e => ?_⟩
        subst e
        exact (hlist.2 a hb).2 ha
      · have hlt : top < c := by
          have := chain_le l c top ((under_chain l top c).1 hu); omega
        have h2 : ownOf l (some top) own c = (clAt l c).own := by unfold ownOf; rw [if_neg (fun k => e (by injection k with k; exact k.symm))]
        have h3 : ownOf l none [] c = (clAt l c).own := by unfold ownOf; rw [if_neg (by simp)]
        rw [h3] at hold
        rw [h2]
        cases hup : upN l c with
        | none => rw [hup] at hold; exact hold
        | some d =>
          rw [hup] at hold
          have hold' : (fields l none [] d ++ (clAt l c).own).Nodup := hold
          show (fields l (some top) own d ++ (clAt l c).own).Nodup
          rw [List.nodup_append] at hold' ⊢
          refine ⟨ih d (upN_lt hup) (upN_len hup), hold'.2.1, fun a ha b hb e => ?_⟩
          subst e
          rcases fields_sub l top own d a ha with hx | hx
          · have hb1 := (below_zero h.below).1 c hlt hc
            unfold below1 at hb1
            rw [hu, Bool.true_and, Bool.eq_false_iff] at hb1
            exact hb1 (List.any_eq_true.2 ⟨a, hb, inB_iff.2 hx⟩)
          · exact hold'.2.2 a hx a hb rfl
/-- the classes behind a reshape -/
structure Trn (l k : List Cl) (top : Nat) (own : List ByteArray) : Prop where
  len : k.length = l.length
  name : ∀ i, (clAt k i).name = (clAt l i).name
  sup : ∀ i, (clAt k i).sup = (clAt l i).sup
  own_ : ∀ i, (clAt k i).own = if i = top then own else (clAt l i).own
namespace Trn
variable {l k : List Cl} {top : Nat} {own : List ByteArray}
theorem names (h : Trn l k top own) : Ytblbjgifhgfifaa.names k = Ytblbjgifhgfifaa.names l := by
  apply List.ext_getElem?
  intro i
  by_cases hi : i < l.length
  · rw [names_at hi, names_at (by rw [h.len]; exact hi), h.name i]
  · unfold Ytblbjgifhgfifaa.names
    rw [List.getElem?_map, List.getElem?_map, List.getElem?_eq_none (by rw [h.len]; omega), List.getElem?_eq_none (by omega)]
theorem atN (h : Trn l k top own) (n : Nat) (s : ByteArray) : Ytblbjgifhgfifaa.atN k n s = Ytblbjgifhgfifaa.atN l n s := by unfold Ytblbjgifhgfifaa.atN; rw [h.names]
theorem upN (h : Trn l k top own) (c : Nat) : Ytblbjgifhgfifaa.upN k c = Ytblbjgifhgfifaa.upN l c := by unfold Ytblbjgifhgfifaa.upN; rw [h.atN, h.sup c]
theorem chainF (h : Trn l k top own) : ∀ f c, Ytblbjgifhgfifaa.chainF k f c = Ytblbjgifhgfifaa.chainF l f c := by
  intro f
  induction f with
  | zero => intro c; rfl
  | succ f ih =>
    intro c
    unfold Ytblbjgifhgfifaa.chainF
    rw [h.upN]
    cases Ytblbjgifhgfifaa.upN l c with
    | none => rfl
    | some d => simp only; rw [ih]
theorem chain (h : Trn l k top own) (c : Nat) : Ytblbjgifhgfifaa.chain k c = Ytblbjgifhgfifaa.chain l c := h.chainF _ _
theorem under (h : Trn l k top own) (c t : Nat) : Ytblbjgifhgfifaa.under k c t = Ytblbjgifhgfifaa.under l c t := by
  rw [Bool.eq_iff_iff, under_chain, under_chain, h.chain]
theorem affected (h : Trn l k top own) (t n : Nat) : Ytblbjgifhgfifaa.affected k t n = Ytblbjgifhgfifaa.affected l t n := by
  have e : (fun c => Ytblbjgifhgfifaa.under k c t) = fun c => Ytblbjgifhgfifaa.under l c t := by funext c; exact h.under c t
  unfold Ytblbjgifhgfifaa.affected
  rw [e]
theorem fnew (h : Trn l k top own) (c : Nat) : fields k none [] c = fields l (some top) own c := by
  unfold fields
  rw [h.chain]
  congr 1
  apply List.map_congr_left
  intro d _
  unfold ownOf
  rw [if_neg (by simp : ¬ (none : Option Nat) = some d), h.own_ d]
  by_cases e : d = top
  · rw [if_pos e, if_pos (by rw [e])]
  · rw [if_neg e, if_neg (fun q => e (by injection q with q; exact q.symm))]
theorem fany (h : Trn l k top own) (o : List ByteArray) (c : Nat) : fields k (some top) o c = fields l (some top) o c := by
  unfold fields
  rw [h.chain]
  congr 1
  apply List.map_congr_left
  intro d _
  unfold ownOf
  by_cases e : some top = some d
  · rw [if_pos e, if_pos e]
  · rw [if_neg e, if_neg e, h.own_ d, if_neg (fun q => e (by rw [q]))]
theorem inherited (h : Trn l k top own) : Ytblbjgifhgfifaa.inherited k top = Ytblbjgifhgfifaa.inherited l top := by
  unfold Ytblbjgifhgfifaa.inherited fieldsO
  rw [h.upN]
  cases hu : Ytblbjgifhgfifaa.upN l top with
  | none => rfl
  | some d =>
    show fields k none [] d = fields l none [] d
    rw [h.fnew]
    exact fields_out (fun hm => by have := chain_le l d top hm; have := upN_lt hu; omega)
theorem made (h : Trn l k top own) (hm : May l top own) : madeB k = true := by
  unfold madeB
  rw [h.len, Bool.and_eq_true, List.all_eq_true, List.all_eq_true]
  refine ⟨fun i hi => ?_, fun i hi => ?_⟩
  · have := made_named hm.made (List.mem_range.1 hi)
    unfold named1 at this ⊢
    rw [h.atN, h.upN, h.name i, h.sup i]
    exact this
  · rw [h.fnew]; exact decide_eq_true (hm.nodup i (List.mem_range.1 hi))
theorem below (h : Trn l k top own) (o : List ByteArray) : belowZ k top o = belowZ l top o := by
  have e2 : below2 k top o = below2 l top o := by funext c; unfold below2; rw [h.under, h.fany]
  have e1 : (List.range' (top + 1) (l.length - (top + 1))).any (below1 k top o) = (List.range' (top + 1) (l.length - (top + 1))).any (below1 l top o) := by
    rw [Bool.eq_iff_iff, List.any_eq_true, List.any_eq_true]
    have key : ∀ c ∈ List.range' (top + 1) (l.length - (top + 1)), below1 k top o c = below1 l top o c := fun c hc => by
      rw [List.mem_range'_1] at hc
      unfold below1
      rw [h.under, h.own_ c, if_neg (by omega)]
    constructor
    · rintro ⟨c, hc, hb⟩; exact ⟨c, hc, by rw [← key c hc]; exact hb⟩
    · rintro ⟨c, hc, hb⟩; exact ⟨c, hc, by rw [key c hc]; exact hb⟩
  unfold belowZ
  rw [h.len, e1, e2]
/-- once more it changes nothing -/
theorem again (h : Trn l k top own) (hm : May l top own) {kernel : Int} {name : ByteArray} (hk : ¬ kernel < 0) (hk2 : ¬ (l.length : Int) < kernel) (ha : Ytblbjgifhgfifaa.atN l l.length name = some top) (hk3 : ¬ (top : Int) < kernel) : makeP k kernel name own = ([], 0) := by
  rw [makeP_go (h.made hm) hk (by rw [h.len]; exact hk2) (by rw [h.atN, h.len]; exact ha) hk3, h.inherited, hm.listed, if_neg (by simp), h.below, hm.below, if_neg (by simp), if_pos (by rw [h.own_ top, if_pos rfl])]
/-- made back it exchanges old and new -/
theorem back (h : Trn l k top own) (hm : May l top own) {kernel : Int} {name : ByteArray} (hk : ¬ kernel < 0) (hk2 : ¬ (l.length : Int) < kernel) (ha : Ytblbjgifhgfifaa.atN l l.length name = some top) (hk3 : ¬ (top : Int) < kernel) (hne : own ≠ (clAt l top).own) (hz : (makeP k kernel name (clAt l top).own).2 = 0) :
    (makeP k kernel name (clAt l top).own).1 = (Ytblbjgifhgfifaa.affected l top l.length).map (fun (c : Nat) => (⟨(c : Int) + 1, fields l (some top) own c, fields l none [] c, (fields l none [] c).map (amongZ (fields l (some top) own c))⟩ : Ch)) := by
  have hg := makeP_go (own := (clAt l top).own) (h.made hm) hk (by rw [h.len]; exact hk2) (by rw [h.atN, h.len]; exact ha) hk3
  rw [hg] at hz ⊢
  by_cases h1 : listedZ (Ytblbjgifhgfifaa.inherited k top) [] (clAt l top).own = 0
  rotate_left
  · rw [if_pos h1] at hz; exact absurd hz h1
  rw [if_neg (by simp [h1])] at hz ⊢
  by_cases h2 : belowZ k top (clAt l top).own = 0
  rotate_left
  · rw [if_pos h2] at hz; exact absurd hz h2
  rw [if_neg (by simp [h2])] at hz ⊢
  have h3 : ¬ (clAt l top).own = (clAt k top).own := by rw [h.own_ top, if_pos rfl]; exact fun e => hne e.symm
  rw [if_neg h3] at hz ⊢
  by_cases h4 : (Ytblbjgifhgfifaa.affected k top k.length).any (full k) = true
  · rw [if_pos h4] at hz; cases hz
  rw [if_neg h4]
  show changes k top (clAt l top).own = _
  unfold changes
  rw [h.affected, h.len]
  apply List.map_congr_left
  intro c _
  unfold change
  rw [h.fnew, h.fany, fields_old]
end Trn
/-- what a change says by itself -/
theorem change_right {l : List Cl} {top : Nat} {own : List ByteArray} (h : May l top own) {c : Nat} (hc : c ∈ affected l top l.length) :
    c < l.length ∧ (change l top own c).new.Nodup ∧ (c = top ∨ ∃ m, (change l top own c).new = m ++ (clAt l c).own) := by
  obtain ⟨⟨h1, h2⟩, hu⟩ := affected_mem.1 hc
  have htop := h.tl
  have hcl : c < l.length := by omega
  refine ⟨hcl, h.nodup c hcl, ?_⟩
  by_cases e : c = top
  · exact Or.inl e
  · right
    refine ⟨fieldsO l (some top) own (upN l c), ?_⟩
    show fields l (some top) own c = _
    rw [fields_eq]
    congr 1
    unfold ownOf
    rw [if_neg (fun q => e (by injection q with q; exact q.symm))]
theorem makeP_some {l : List Cl} {kernel : Int} {name : ByteArray} {own : List ByteArray} (hz : (makeP l kernel name own).2 = 0) (hn : (makeP l kernel name own).1 ≠ []) :
    ∃ top, May l top own ∧ ¬ kernel < 0 ∧ ¬ (l.length : Int) < kernel ∧ atN l l.length name = some top ∧ ¬ (top : Int) < kernel ∧ own ≠ (clAt l top).own ∧ (∀ m ∈ affected l top l.length, full l m = false) ∧ makeP l kernel name own = (changes l top own, 0) := by
  cases hm : madeB l with
  | false => unfold makeP at hz; rw [if_pos (Or.inl hm)] at hz; cases hz
  | true =>
    by_cases hk : kernel < 0
    · unfold makeP at hz; rw [if_pos (Or.inr (Or.inl hk))] at hz; cases hz
    by_cases hk2 : (l.length : Int) < kernel
    · unfold makeP at hz; rw [if_pos (Or.inr (Or.inr hk2))] at hz; cases hz
    cases ha : atN l l.length name with
    | none => unfold makeP at hz; rw [if_neg (by rw [hm]; simp [hk, hk2]), ha] at hz; cases hz
    | some top =>
      by_cases hk3 : (top : Int) < kernel
      · unfold makeP at hz
        rw [if_neg (by rw [hm]; simp [hk, hk2]), ha] at hz
        simp only at hz
        rw [if_pos hk3] at hz; cases hz
      have hg := makeP_go (own := own) hm hk hk2 ha hk3
      rw [hg] at hz hn
      by_cases h1 : listedZ (inherited l top) [] own = 0
      rotate_left
      · rw [if_pos h1] at hz; exact absurd hz h1
      rw [if_neg (by simp [h1])] at hz hn hg
      by_cases h2 : belowZ l top own = 0
      rotate_left
      · rw [if_pos h2] at hz; exact absurd hz h2
      rw [if_neg (by simp [h2])] at hz hn hg
      by_cases h3 : own = (clAt l top).own
      · rw [if_pos h3] at hn; exact absurd rfl hn
      rw [if_neg h3] at hz hn hg
      by_cases h4 : (affected l top l.length).any (full l) = true
      · rw [if_pos h4] at hz; cases hz
      rw [if_neg h4] at hg
      refine ⟨top, ⟨hm, (atN_lt ha).2.1, h1, h2⟩, hk, hk2, rfl, hk3, h3, fun m hm => ?_, hg⟩
      rw [Bool.eq_false_iff]
      exact fun hf => h4 (List.any_eq_true.2 ⟨m, hm, hf⟩)
end Go.Proofs.Ytblbjgifhgfifaa
