import Derived.Test.YtjbacibicnfaeaaDoorLAgree
import Derived.Test.YtjbacibicnfaeaaDoorLPieces
namespace Go.Proofs.YtjbacibicnfaeaaDoor
open Go.RowKit Go.Maps
set_option linter.unusedVariables false
set_option linter.unusedSimpArgs false
theorem good_lex {zs : List Z} (g : goodZ zs) (h0 : 0 < zs.length) : ∃ us, Lx 0 (prZ zs) us none ∧ us.length + 1 = zs.length ∧ ∀ p, AgreeZ zs ((us ++ [(stopT, p)]).map zOf) := by
  have hg : ∀ j, j < zs.length - 1 → canB (tokOf (zs.getD j noZ)) ∧ ((tokOf (zs.getD j noZ)).kind : Int) = (zs.getD j noZ).1 ∧ ((tokOf (zs.getD j noZ)).num : Int) = (zs.getD j noZ).2.2.1 ∧ (tokOf (zs.getD j noZ)).text = (zs.getD j noZ).2.1 := fun j hj => by
    obtain ⟨hc, h18⟩ := g j (by omega)
    exact tok_can hc fun e => by have := h18.1 e; omega
  have hget : ∀ j (h : j < zs.length), zs.getD j noZ = zs[j] := fun j h => by rw [List.getD_eq_getElem?_getD, List.getElem?_eq_getElem h]; rfl
  obtain ⟨us, h1, h2⟩ := pr_lx ((zs.take (zs.length - 1)).map tokOf) 0 (fun t ht => by
    obtain ⟨z, hz, rfl⟩ := List.mem_map.1 ht
    obtain ⟨j, hj, rfl⟩ := List.getElem_of_mem hz
    rw [List.length_take] at hj
    rw [List.getElem_take, ← hget j (by omega)]
    exact (hg j (by omega)).1)
  have hlen : us.length = zs.length - 1 := by
    have := congrArg List.length h2
    rw [List.length_map, List.length_map, List.length_take] at this
    omega
  refine ⟨us, h1, by omega, fun p => ⟨by simp; omega, fun j hj => ?_⟩⟩
  rw [zOf_get _ (by simp; omega)]
  by_cases hl : j < us.length
  · rw [getD_mid us _ hl]
    have e : us[j].1 = tokOf (zs.getD j noZ) := by
      have e2 := congrArg (fun l => l[j]?) h2
      simp only [List.getElem?_map, List.getElem?_eq_getElem hl, List.getElem?_take, Option.map_some] at e2
      rw [if_pos (by omega), List.getElem?_eq_getElem hj] at e2
      rw [hget j hj]
      exact Option.some.inj e2
    obtain ⟨_, c2, c3, c4⟩ := hg j (by omega)
    unfold zOf
    rw [e]
    exact ⟨c2, c4, c3⟩
  · have hj2 : j = us.length := by omega
    rw [hj2, getD_last]
    obtain ⟨⟨hm, hc⟩, h18⟩ := g j hj
    have hk := h18.2 (by omega)
    rw [hj2] at hk hm hc
    have hm' := hm (by omega)
    have hx : (zs.getD us.length noZ).2.1 = [] := by
      rcases hc with ⟨h | h, _⟩ | ⟨h, _⟩ | ⟨h, _⟩ | ⟨h, _⟩ | h | ⟨_, _, h⟩
      · omega
      · omega
      · omega
      · omega
      · omega
      · omega
      · exact h
    rw [hk, hm', hx]
    exact ⟨rfl, rfl, rfl⟩
end Go.Proofs.YtjbacibicnfaeaaDoor
