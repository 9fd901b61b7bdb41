import Derived.Test.YtjeeibokdnepgaaSNil
namespace Go.Proofs.Ytjeeibokdnepgaa
open Go.RowKit Go.Maps Go.WideMaps
set_option linter.unusedVariables false
set_option linter.unusedSimpArgs false
/-- what Load of a list says -/
def Fits (ss : List ByteArray) : Prop := (∀ s ∈ ss, 1 ≤ s.size ∧ s.size ≤ 96) ∧ ss.Nodup
open Classical in
noncomputable def loadE (ss : List ByteArray) (m : Int) : Int := if m < 0 ∨ 4096 < m then 1 else if m < (ss.length : Int) then 60 else if Fits ss then 0 else 61
theorem loadE_arg {ss : List ByteArray} {m : Int} (h : m < 0 ∨ 4096 < m) : loadE ss m = 1 := by unfold loadE; rw [if_pos h]
theorem loadE_most {ss : List ByteArray} {m : Int} (h : ¬ (m < 0 ∨ 4096 < m)) (h2 : m < (ss.length : Int)) : loadE ss m = 60 := by unfold loadE; rw [if_neg h, if_pos h2]
theorem loadE_bad {ss : List ByteArray} {m : Int} (h : ¬ (m < 0 ∨ 4096 < m)) (h2 : ¬ m < (ss.length : Int)) (h3 : ¬ Fits ss) : loadE ss m = 61 := by unfold loadE; rw [if_neg h, if_neg h2, if_neg h3]
theorem loadE_ok {ss : List ByteArray} {m : Int} (h : ¬ (m < 0 ∨ 4096 < m)) (h2 : ¬ m < (ss.length : Int)) (h3 : Fits ss) : loadE ss m = 0 := by unfold loadE; rw [if_neg h, if_neg h2, if_pos h3]
theorem loadE_range (ss : List ByteArray) (m : Int) : 0 ≤ loadE ss m ∧ loadE ss m ≤ 61 := by
  unfold loadE
  split
  · omega
  · split
    · omega
    · split <;> omega
theorem notFits_fit {ss : List ByteArray} {i : Nat} (hi : i < ss.length) (h : ¬ (1 ≤ (ss.getD i ⟨#[]⟩).size ∧ (ss.getD i ⟨#[]⟩).size ≤ 96)) : ¬ Fits ss := fun hf => h (hf.1 _ (by
  rw [List.getD_eq_getElem?_getD, List.getElem?_eq_getElem hi]
  exact List.getElem_mem hi))
theorem notFits_two {ss : List ByteArray} {i k : Nat} (hi : i < ss.length) (h : pos (ss.take i) (ss.getD i ⟨#[]⟩) = some k) : ¬ Fits ss ∧ k < i := by
  have h1 := pos_some h
  have hk : k < i := by have := h1.1; simp at this; omega
  refine ⟨fun hf => ?_, hk⟩
  have h2 : ss[k]? = some (ss.getD i ⟨#[]⟩) := by rw [← h1.2, List.getElem?_take, if_pos hk]
  have h3 : ss[i]? = some (ss.getD i ⟨#[]⟩) := by rw [List.getD_eq_getElem?_getD, List.getElem?_eq_getElem hi]; rfl
  have := (List.getElem?_inj (by omega : k < ss.length) hf.2).1 (h2.trans h3.symm)
  omega
theorem take_snoc {ss : List ByteArray} {i : Nat} (hi : i < ss.length) : ss.take i ++ [ss.getD i ⟨#[]⟩] = ss.take (i + 1) := by
  rw [List.take_succ_eq_append_getElem hi, List.getD_eq_getElem?_getD, List.getElem?_eq_getElem hi]; rfl
/-- what Load leaves: a table of just these, or none -/
def Loaded (w w' : World) (ss : List ByteArray) (m : Int) (e : Ending) : Prop :=
  (loadE ss m ≠ 0 ∧ e = .returned (.tuple #[.pointer none, .int .i64 (loadE ss m)]) ∧ Fr [] w w') ∨
  (loadE ss m = 0 ∧ ∃ (most : Nat) (a : Nat) (l : Lay), m = (most : Int) ∧ e = .returned (.tuple #[.pointer (some ⟨a, 0, none⟩), .int .i64 0]) ∧ TRep w' a l most ss ∧ Fr [] w w' ∧ (∀ g ∈ foot a l, w.heap.size ≤ g))
set_option maxRecDepth 20000 in
set_option maxHeartbeats 1000000 in
theorem Load_ok (ss : List ByteArray) (v : Value) (m : Int) (w : World) (h : ArgS w v ss) :
    Calls Try.prog 21 #[v, .int .i64 m] w fun e w' => Loaded w w' ss m e := by
  obtain ⟨p, c, rfl, h1⟩ := h.rd.at_
  have H1 := mkHid h1
  have HA := mkHid h
  have s1 := h.rd.short
  clear h h1
  by_cases hm : m < 0 ∨ 4096 < m
  · have HE := mkHid (loadE_arg (ss := ss) hm)
    have HN := mkHid (New_no m w hm)
    clear H1 HA hm
    go_enter Try.func21, Try.ntmps21
    go_wp2_with (go_at_call 16; refine HN.out.mono ?_; rintro e w1 ⟨rfl, rfl⟩)
    go_ret2
    exact Or.inl ⟨by rw [HE.out]; decide, by rw [HE.out]; rfl, Fr.refl _ _⟩
  obtain ⟨most, rfl⟩ : ∃ most : Nat, m = (most : Int) := ⟨m.toNat, by omega⟩
  have HN := mkHid (New_in most w (by omega))
  by_cases hl : (most : Int) < (ss.length : Int)
  · have HE := mkHid (loadE_most hm hl)
    clear H1 HA hm
    go_enter Try.func21, Try.ntmps21
    go_wp2_with (go_at_call 16; refine HN.out.mono ?_; rintro e w1 ⟨a, l, rfl, R1, F1, G1⟩; have HF1 := mkHid F1; clear R1 F1 G1)
    go_ret2
    exact Or.inl ⟨by rw [HE.out]; decide, by rw [HE.out]; rfl, HF1.out⟩
  have hl2 : (ss.length : Int) ≤ (most : Int) := by omega
  have hd1 : decide (most < ss.length) = false := decide_eq_false (by omega)
  have HB := mkHid (fun h3 => loadE_bad (ss := ss) hm hl h3)
  have HK := mkHid (fun h3 => loadE_ok (ss := ss) hm hl h3)
  clear hm hl
  go_enter Try.func21, Try.ntmps21
  go_wp2_with (go_at_call 16; refine HN.out.mono ?_; rintro e w1 ⟨a, l, rfl, R1, F1, G1⟩; have HR1 := mkHid R1; have HF1 := mkHid F1; have HG1 := mkHid G1; clear R1 F1 G1)
  go_loopw [26] (fun q wr => ∃ i : Nat, i ≤ ss.length ∧ q = .int .i64 i ∧ Hid (∃ l', TRep wr a l' most (ss.take i) ∧ (∀ g ∈ foot a l', w.heap.size ≤ g)) ∧ Hid (Fr [] w wr)) (fun q _ => ss.length - (intOf q).toNat)
  case atStart => exact ⟨0, Nat.zero_le _, rfl, mkHid ⟨l, HR1.out, HG1.out⟩, HF1⟩
  case round =>
    obtain ⟨i, hi, rfl, hst, hfr⟩ := hrel
    have i1 : (0 : Int) ≤ (i : Int) := by omega
    clear HR1 HF1 HG1 HN
    by_cases hlt : i < ss.length
    · have i2 : (i : Int) < (ss.length : Int) := by omega
      obtain ⟨g, off, rfl, x1, x2⟩ := H1.out (by omega)
      have k1 := (hfr.out.cell (p := ⟨g, off + i, none⟩) x1 (by simp)).trans (x2 i hlt)
      obtain ⟨l', r1, r2⟩ := hst.out
      have hti : (ss.take i).length = i := by simp; omega
      have HC := mkHid (Add_ok (ss.getD i ⟨#[]⟩) a l' most _ wr r1 (HA.out.get hlt))
      have HR2 := mkHid r2
      by_cases hf : 1 ≤ (ss.getD i ⟨#[]⟩).size ∧ (ss.getD i ⟨#[]⟩).size ≤ 96
      rotate_left
      · have hx : (ss.getD i ⟨#[]⟩).size = 0 ∨ 96 < (ss.getD i ⟨#[]⟩).size := by omega
        have e1 : addN most (ss.take i) (ss.getD i ⟨#[]⟩) = 0 := by unfold addN; rw [if_pos hx]
        have e2 : addE most (ss.take i) (ss.getD i ⟨#[]⟩) = 61 := by unfold addE; rw [if_pos hx]
        have HE := mkHid (HB.out (notFits_fit hlt hf))
        rw [e1, e2] at HC
        generalize ss.getD i ⟨#[]⟩ = x at *
        clear x1 x2 r1 r2 hst HA H1 HB HK hx hf e1 e2 hti
        go_wp2_with (go_at_call 10; refine HC.out.mono ?_; rintro e w3 ⟨rfl, l3, r3, n3⟩; have HN3 := mkHid n3; clear n3 r3)
        go_ret2
        exact Or.inl ⟨by rw [HE.out]; decide, by rw [HE.out]; rfl, hfr.out.trans HN3.out.fr (fun g hg => Or.inr (HR2.out g hg))⟩
      have hnx : ¬ ((ss.getD i ⟨#[]⟩).size = 0 ∨ 96 < (ss.getD i ⟨#[]⟩).size) := by omega
      cases hp : pos (ss.take i) (ss.getD i ⟨#[]⟩) with
      | some k =>
        obtain ⟨z1, z2⟩ := notFits_two hlt hp
        have e1 : addN most (ss.take i) (ss.getD i ⟨#[]⟩) = (k : Int) := by unfold addN; rw [if_neg hnx, hp]
        have e2 : addE most (ss.take i) (ss.getD i ⟨#[]⟩) = 0 := by unfold addE; rw [if_neg hnx, hp]
        have HE := mkHid (HB.out z1)
        have hb : ((k : Int) != (i : Int)) = true := by rw [bne_iff_ne]; omega
        rw [e1, e2] at HC
        generalize ss.getD i ⟨#[]⟩ = x at *
        clear x1 x2 r1 r2 hst HA H1 HB HK hnx hf e1 e2 hti hp z1 z2
        go_wp2_with (go_at_call 10; refine HC.out.mono ?_; rintro e w3 ⟨rfl, l3, r3, n3⟩; have HN3 := mkHid n3; clear n3 r3)
        go_ret2
        exact Or.inl ⟨by rw [HE.out]; decide, by rw [HE.out]; rfl, hfr.out.trans HN3.out.fr (fun g hg => Or.inr (HR2.out g hg))⟩
      | none =>
        have hm : ¬ most ≤ (ss.take i).length := by omega
        have e1 : addN most (ss.take i) (ss.getD i ⟨#[]⟩) = (i : Int) := by unfold addN; rw [if_neg hnx, hp]; show (if most ≤ (ss.take i).length then (0 : Int) else _) = _; rw [if_neg hm, hti]
        have e2 : addE most (ss.take i) (ss.getD i ⟨#[]⟩) = 0 := by unfold addE; rw [if_neg hnx, hp]; show (if most ≤ (ss.take i).length then (60 : Int) else _) = 0; rw [if_neg hm]
        have e3 : addT most (ss.take i) (ss.getD i ⟨#[]⟩) = ss.take (i + 1) := by unfold addT; rw [if_neg hnx, hp]; show (if most ≤ (ss.take i).length then _ else _) = _; rw [if_neg hm, take_snoc hlt]
        have hb : ((i : Int) != (i : Int)) = false := by simp
        rw [e1, e2, e3] at HC
        generalize ss.getD i ⟨#[]⟩ = x at *
        clear x1 x2 r1 r2 hst HA H1 HB HK hnx hf e1 e2 e3 hti hp hm
        go_wp2_with (go_at_call 10; refine HC.out.mono ?_; rintro e w3 ⟨rfl, l3, r3, n3⟩; have HN3 := mkHid n3; have HT3 := mkHid r3; clear n3 r3)
        go_roundw
        case rel =>
          refine ⟨i + 1, by omega, by go_num, mkHid ⟨l3, HT3.out, fun g hg => ?_⟩, mkHid (hfr.out.trans HN3.out.fr (fun g hg => Or.inr (HR2.out g hg)))⟩
          rcases HN3.out.foot g hg with h | h
          · exact HR2.out g h
          · exact Nat.le_trans hfr.out.size h
        case measure => simp [intOf]; omega
    · have hie : i = ss.length := by omega
      subst hie
      obtain ⟨l', r1, r2⟩ := hst.out
      rw [List.take_length] at r1
      have HE := mkHid (HK.out ⟨r1.fit, r1.nodup⟩)
      have HR1 := mkHid r1
      have HR2 := mkHid r2
      clear r1 r2 hst H1 HA HB HK
      go_wp2_with fail
      go_ret2
      exact Or.inr ⟨HE.out, most, a, l', rfl, rfl, HR1.out, hfr.out, HR2.out⟩
end Go.Proofs.Ytjeeibokdnepgaa
