import Derived.Test.YtblbjgifhgfifaaPQMak
import Derived.Test.YtblbjgifhgfifaaPG09NEqv
import Derived.Test.YtblbjgifhgfifaaPNRMk2
namespace Go.Proofs.Ytblbjgifhgfifaa
open Go.RowKit Go.Maps Go.WideMaps
set_option linter.unusedVariables false
set_option linter.unusedSimpArgs false
/-- the program's Make, with rows of its own -/
theorem pMake_ok (l : List Cl) (kernel : Int) (name : ByteArray) (own : List ByteArray) (v ov : Value) (w : World) (h : RdC w v l) (ho : RdS w ov own) (ha : Ask l own) (hx : Txs l name own) :
    Calls Try.prog 13 #[v, .int .i64 kernel, .string name, ov] w fun e w' => ∃ vr, e = .returned (.tuple #[vr, .int .i64 (makeP l kernel name own).2]) ∧ PrOut w w' vr (makeP l kernel name own).1 := by
  have few := ha.few
  have hT : Txt l := fun k => ⟨(hx.cl k).1, (hx.cl k).2.1, ha.len k, (hx.cl k).2.2⟩
  obtain ⟨p, c, rfl, h1⟩ := h.at_
  obtain ⟨po, no, co, rfl⟩ : ∃ po no co, ov = .slice po no co := by obtain ⟨pv, cv, e, _⟩ := ho.at_; exact ⟨pv, _, cv, e⟩
  have nilc : ∀ (z : Int), makeP l kernel name own = ([], z) → (Calls Try.prog 13 #[.slice p l.length c, .int .i64 kernel, .string name, .slice po no co] w fun e w' => e = .returned (.tuple #[.slice none 0 0, .int .i64 z]) ∧ Fr [] w w') → Calls Try.prog 13 #[.slice p l.length c, .int .i64 kernel, .string name, .slice po no co] w fun e w' => ∃ vr, e = .returned (.tuple #[vr, .int .i64 (makeP l kernel name own).2]) ∧ PrOut w w' vr (makeP l kernel name own).1 := fun z hz hc => by
    rw [hz]
    refine Calls.mono hc ?_
    rintro e w' ⟨rfl, hf⟩
    exact ⟨_, rfl, prOut_nil hf⟩
  cases hm : madeB l with
  | false => exact nilc 1 (by unfold makeP; rw [if_pos (.inl hm)]) (pMake_bad l kernel name p c po no co w (mkHid (lineageOf_ok l _ w h few (fun k hk => (hT k).2.2) (fun k hk => ⟨(hT k).1, (hT k).2.1⟩))) hm)
  | true =>
    have HC := mkHid (mkC l name own _ _ w h ho ha hT hx.own hx.name hm)
    by_cases hk : kernel < 0
    · exact nilc 1 (by unfold makeP; rw [if_pos (.inr (.inl hk))]) (pMake_neg l kernel name own p c po no co w HC hk)
    by_cases hk2 : (l.length : Int) < kernel
    · exact nilc 1 (by unfold makeP; rw [if_pos (.inr (.inr hk2))]) (pMake_great l kernel name own p c po no co w HC hk hk2)
    cases hat : atN l l.length name with
    | none => exact nilc 130 (by unfold makeP; rw [if_neg (by rw [hm]; simp [hk, hk2]), hat]) (pMake_none l kernel name own p c po no co w HC hk hk2 hat)
    | some top =>
      have ht : top < l.length := (atN_lt hat).1
      obtain ⟨gc, oc, rfl, x1, x2⟩ := h1 (by omega)
      by_cases hk3 : (top : Int) < kernel
      · exact nilc 132 (by
          unfold makeP
          rw [if_neg (by rw [hm]; simp [hk, hk2]), hat]
          show (if (top : Int) < kernel then _ else _) = _
          rw [if_pos hk3]) (pMake_kern l kernel name own gc oc c po no co w HC hk hk2 top hat ht hk3)
      have hP := makeP_go (own := own) hm hk hk2 hat hk3
      by_cases hl : listedZ (inherited l top) [] own = 0
      rotate_left
      · rw [if_pos hl] at hP
        exact nilc _ hP (pMake_listed l kernel name own gc oc c po no co w HC hk hk2 top hat ht hk3 _ rfl (by simpa using hl))
      rw [if_neg (by rw [hl]; simp)] at hP
      by_cases hb : belowZ l top own = 0
      rotate_left
      · rw [if_pos hb] at hP
        exact nilc _ hP (pMake_below l kernel name own gc oc c po no co w HC hk hk2 top hat ht hk3 hl _ rfl (by simpa using hb))
      rw [if_neg (by rw [hb]; simp)] at hP
      obtain ⟨pv, nv, cv, hv⟩ : ∃ pv nv cv, (clAt l top).v = .slice pv nv cv := by obtain ⟨pv, cv, e, _⟩ := (h.own top ht).at_; exact ⟨pv, _, cv, e⟩
      by_cases hsm : own = (clAt l top).own
      · rw [if_pos hsm] at hP
        exact nilc 0 hP (pMake_same l kernel name own gc oc c po no co w HC hk hk2 top hat ht hk3 hl hb pv nv cv hv (decide_eq_true hsm))
      rw [if_neg hsm] at hP
      by_cases hc : (affected l top l.length).any (full l) = true
      · rw [if_pos hc] at hP
        exact nilc 138 hP (pMake_count l kernel name own gc oc c po no co w HC hk hk2 top hat ht hk3 hl hb pv nv cv hv (decide_eq_false hsm) (by rw [if_pos hc]))
      · rw [if_neg hc] at hP
        rw [hP]
        exact pMake_chg l kernel name own gc oc c po no co w HC hk hk2 top hat ht hk3 hl hb pv nv cv hv (decide_eq_false hsm) (by rw [if_neg hc])
theorem prog : ProgMake := fun l kernel name own v ov w h ho ha hx => by
  refine Calls.mono (pMake_ok l kernel name own v ov w h ho ha hx) ?_
  rintro e w' ⟨vr, rfl, hp⟩
  exact ⟨vr, rfl, hp.mk⟩
end Go.Proofs.Ytblbjgifhgfifaa
