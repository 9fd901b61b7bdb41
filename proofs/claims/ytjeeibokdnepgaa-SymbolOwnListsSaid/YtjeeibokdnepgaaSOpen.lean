import Derived.Test.YtjeeibokdnepgaaSPair
import Derived.OpenShut
import Derived.LaidMore
import Derived.SizedLaws
import Derived.Deep.Slices
import Derived.Deep.Strs
import Derived.ChangeSlices
namespace Go.Proofs.Ytjeeibokdnepgaa
open Go.ChangeShapes Go.WideShapes Go.RowKit
set_option linter.unusedVariables false
theorem weightsAll_mem {H : Type} {P : Program} {e : TypeId} {d : DataW H} : ∀ {ds : List (DataW H)}, d ∈ ds → ∀ n ∈ d.weights P e, n ∈ DataW.weightsAll P e ds := by
  intro ds
  induction ds with
  | nil => intro h; simp at h
  | cons x ds ih =>
    intro h n hn
    unfold DataW.weightsAll
    rcases List.mem_cons.1 h with rfl | h
    · exact List.mem_append_left _ hn
    · exact List.mem_append_right _ (ih h n hn)
theorem cells9 : Try.prog.cellsOf 9 = 1 := by kernel_rfl
theorem bytes9 : Try.prog.bytesOf 9 = 16 := by kernel_rfl
section
variable {H : Type} {enc : TypeId × Value → H} {w : World} {spare : Nat → Bool} {held : Bool}
/-- a list of texts, opened -/
theorem open_texts {fuel : Nat} {u : Value} {y : DataW H × List MemPlace} (h : DataW.trod enc Try.prog w 0 spare held fuel 22 [u] = some y) (hz : ∀ n ∈ y.1.weights Try.prog 22, n ≤ reachBytes) :
    ∃ zs : List ByteArray, ArgS w u zs := by
  rcases Go.Deep.open_strs Try.underlying22 Try.underlying9 cells9 h with ⟨hcs, _⟩ | ⟨a, len, cap, m, Sx, hcs, _, hl, hm, hmm, hx, hc⟩
  · simp at hcs
    exact ⟨[], ⟨⟨none, 0, hcs, fun h => by simp at h⟩, fun c hc => by rw [hcs] at hc; injection hc with _ _ e; exact e.symm, by simp⟩, by simp⟩
  · simp at hcs
    have hlm : len ≤ m := by rw [hmm]; split <;> omega
    have hgd : ∀ j, j < len → ((List.range len).map Sx).getD j ⟨#[]⟩ = Sx j := fun j hj => by
      rw [List.getD_eq_getElem?_getD, List.getElem?_map, List.getElem?_range hj]; rfl
    refine ⟨(List.range len).map Sx, ⟨⟨some a, cap, by simpa using hcs, fun hpos => ?_⟩, fun c hc => (by rw [hcs] at hc; injection hc with e; cases e), ?_⟩, fun s hs => ?_⟩
    · have hpos' : 0 < len := by simpa using hpos
      obtain ⟨b, off, spot⟩ := a
      have hspot : spot = none := by simpa [Addr.add] using World.cell?_spot (hc 0 (by omega)).1
      subst hspot
      have hcell : ∀ j, j < len → w.cell? ⟨b, off + j, none⟩ = some (.string (Sx j)) := fun j hj => by
        have := (hc j (by omega)).1
        rwa [Addr.add_lit] at this
      refine ⟨b, off, rfl, World.block_lt_of_cell? w ⟨b, off + 0, none⟩ (hcell 0 hpos'), fun j hj => ?_⟩
      have hj' : j < len := by simpa using hj
      rw [hcell j hj', hgd j hj']
    · have hw := hz ((len + (m - len)) * Try.prog.bytesOf 9) (by rw [hx]; simp [DataW.weights, Try.underlying22])
      rw [bytes9] at hw
      unfold reachBytes at hw
      simp
      omega
    · obtain ⟨j, hj, rfl⟩ := List.mem_map.1 hs
      have hw := hz (Sx j).data.toList.length (by
        rw [hx]
        simp only [DataW.weights, Try.underlying22]
        refine List.mem_cons_of_mem _ (List.mem_append_left _ (weightsAll_mem (d := .lit (.string (Sx j).data.toList)) (List.mem_map.2 ⟨j, hj, rfl⟩) _ (by simp [DataW.weights])))
        )
      rw [Lib.size_eq]
      unfold reachBytes at hw
      omega
end
end Go.Proofs.Ytjeeibokdnepgaa
