import Derived.Test.YtalcnihagnnkaaaDoorKHStepA
namespace Go.Proofs.YtalcnihagnnkaaaDoor
open Go.RowKit
set_option linter.unusedVariables false
attribute [local go_sem ↓] Go.wp_at_zero Go.wp_at_succ
theorem fits_may (n : Int) (f : Nat) (hf : f ≤ 1) : mfits n f = mayB n (f : Int) := by
  unfold mfits mayB
  rcases (show f = 0 ∨ f = 1 from by omega) with rfl | rfl
  · simp
  · rw [if_neg (by omega), if_pos (by omega)]
    have e : (0 ≤ n ∧ n < 256) ↔ (0 ≤ n ∧ n ≤ 255) := by omega
    simp only [e]
    simp
theorem slot_val (L : List Int) (i : Nat) (h : i < L.length) : (L.map (Value.int .i64))[i]? = some (.int .i64 (L.getD i 0)) := by
  rw [List.getElem?_map, List.getD_eq_getElem?_getD, List.getElem?_eq_getElem h]
  rfl
theorem first_bad (p : Int → Bool) : ∀ zs : List Int, zs.all p = false → ∃ j0, j0 < zs.length ∧ (∀ j, j < j0 → p (zs.getD j 0) = true) ∧ p (zs.getD j0 0) = false := by
  intro zs
  induction zs with
  | nil => intro h; simp at h
  | cons z zs ih =>
    intro h
    cases hz : p z with
    | false => exact ⟨0, by simp, fun j hj => by omega, by simpa using hz⟩
    | true =>
      have h2 : zs.all p = false := by simpa [hz] using h
      obtain ⟨j0, h3, h4, h5⟩ := ih h2
      refine ⟨j0 + 1, by simp; omega, fun j hj => ?_, by simpa using h5⟩
      cases j with
      | zero => simpa using hz
      | succ j => have := h4 j (by omega); simpa using this
theorem all_nat (M : MS) : ∀ zs : List Int, zs.all (mhas M) = true → ∃ ks : List Nat, zs = ks.map (fun n : Nat => (n : Int)) ∧ ∀ j ∈ ks, mhas M (j : Int) = true := by
  intro zs
  induction zs with
  | nil => intro _; exact ⟨[], rfl, by simp⟩
  | cons z zs ih =>
    intro h
    rw [List.all_cons, Bool.and_eq_true] at h
    obtain ⟨ks, h1, h2⟩ := ih h.2
    obtain ⟨k, k1, k2, k3⟩ := mhas_yes h.1
    refine ⟨(k + 1) :: ks, ?_, ?_⟩
    · rw [h1, k1]; simp
    · intro j hj
      rcases List.mem_cons.1 hj with rfl | hj
      · have := h.1; rw [k1] at this; simpa using this
      · exact h2 j hj
theorem all_take_succ (p : Int → Bool) (zs : List Int) (k : Nat) (hk : k < zs.length) : (zs.take (k + 1)).all p = ((zs.take k).all p && p (zs.getD k 0)) := by
  rw [List.take_succ_eq_append_getElem hk, List.all_append, List.getD_eq_getElem?_getD, List.getElem?_eq_getElem hk]
  simp
theorem mem_take_succ (zs : List Int) (z : Int) (k : Nat) (hk : k < zs.length) : decide (z ∈ zs.take (k + 1)) = (decide (z ∈ zs.take k) || (zs.getD k 0 == z)) := by
  rw [List.take_succ_eq_append_getElem hk, List.getD_eq_getElem?_getD, List.getElem?_eq_getElem hk]
  simp only [List.mem_append, List.mem_singleton, Option.getD_some]
  by_cases h1 : z ∈ zs.take k
  · simp [h1]
  · by_cases h2 : z = zs[k]
    · simp [h2]
    · have h3 : ¬ zs[k] = z := fun e => h2 e.symm
      simp [h1, h2, h3]
/-- a list of numbers that lies in old memory -/
structure LsAt (w0 : World) (ao : Option Addr) (c : Nat) (zs : List Int) : Prop where
  nil : ao = none → zs = [] ∧ c = 0
  row : zs ≠ [] → ∃ b off, ao = some ⟨b, off, none⟩ ∧ b < w0.heap.size ∧ ∀ j, j < zs.length → w0.cell? ⟨b, off + j, none⟩ = some (.int .i64 (zs.getD j 0))
  short : zs.length ≤ 17592186044416
end Go.Proofs.YtalcnihagnnkaaaDoor
