import Derived.Test.YtheolmnjedbjmaaDoorSN2
namespace Go.Proofs.YtheolmnjedbjmaaDoor
open Go.RowKit
set_option linter.unusedVariables false
set_option linter.unusedSimpArgs false
attribute [local go_sem ↓] Go.wp_at_zero Go.wp_at_succ
/-- no field says anything -/
def AK.bare (a : AK) : Bool := decide (a.name = ⟨#[]⟩) && decide (a.other = ⟨#[]⟩) && decide (a.names.length = 0) && decide (a.text = ⟨#[]⟩) && decide (a.num = 0) && decide (a.fuel = 0)
set_option maxRecDepth 100000 in
set_option maxHeartbeats 8000000 in
theorem isBare_ok (W : World) (a : AK) (p : Option Addr) (c : Nat) (hl : a.names.length ≤ 4611686018427387904) : Calls Tryd.prog 24 #[a.v p c] W fun e w' => e = .returned (.bool a.bare) ∧ Bl W w' := by
  obtain ⟨k, n, o, l, t, x, y⟩ := a
  simp only [AK.v] at *
  have HBL : Hid (∀ ob, Bl W (W.alloc ob)) := fun ob => Bl.alloc W _
  by_cases hn : n = ⟨#[]⟩
  rotate_left
  · have hD : AK.bare ⟨k, n, o, l, t, x, y⟩ = false := by unfold AK.bare; simp [hn]
    have hns := ba_ne hn
    have hnz : ¬ n.toList = [] := fun e => hns (by rw [e, toList_data])
    go_enter Tryd.func24, Tryd.ntmps24
    go_wp2_with fail
    go_ret
    exact ⟨by rw [hD]; rfl, HBL.out _⟩
  subst hn
  by_cases ho : o = ⟨#[]⟩
  rotate_left
  · have hD : AK.bare ⟨k, ⟨#[]⟩, o, l, t, x, y⟩ = false := by unfold AK.bare; simp [ho]
    have hos := ba_ne ho
    have hoz : ¬ o.toList = [] := fun e => hos (by rw [e, toList_data])
    go_enter Tryd.func24, Tryd.ntmps24
    go_wp2_with fail
    go_ret
    exact ⟨by rw [hD]; rfl, HBL.out _⟩
  subst ho
  by_cases hl2 : l = []
  rotate_left
  · have hD : AK.bare ⟨k, ⟨#[]⟩, ⟨#[]⟩, l, t, x, y⟩ = false := by unfold AK.bare; simp [hl2]
    have hlz : l.length ≠ 0 := fun e => hl2 (List.length_eq_zero_iff.1 e)
    have hli : ¬ (l.length : Int) = 0 := by omega
    go_enter Tryd.func24, Tryd.ntmps24
    go_wp2_with fail
    go_ret
    exact ⟨by rw [hD]; rfl, HBL.out _⟩
  subst hl2
  by_cases ht : t = ⟨#[]⟩
  rotate_left
  · have hD : AK.bare ⟨k, ⟨#[]⟩, ⟨#[]⟩, [], t, x, y⟩ = false := by unfold AK.bare; simp [ht]
    have hts := ba_ne ht
    have htz : ¬ t.toList = [] := fun e => hts (by rw [e, toList_data])
    go_enter Tryd.func24, Tryd.ntmps24
    go_wp2_with fail
    go_ret
    exact ⟨by rw [hD]; rfl, HBL.out _⟩
  subst ht
  by_cases hx : x = 0
  rotate_left
  · have hD : AK.bare ⟨k, ⟨#[]⟩, ⟨#[]⟩, [], ⟨#[]⟩, x, y⟩ = false := by unfold AK.bare; simp [hx]
    go_enter Tryd.func24, Tryd.ntmps24
    go_wp2_with fail
    go_ret
    exact ⟨by rw [hD]; rfl, HBL.out _⟩
  subst hx
  by_cases hy : y = 0
  rotate_left
  · have hD : AK.bare ⟨k, ⟨#[]⟩, ⟨#[]⟩, [], ⟨#[]⟩, 0, y⟩ = false := by unfold AK.bare; simp [hy]
    go_enter Tryd.func24, Tryd.ntmps24
    go_wp2_with fail
    go_ret
    exact ⟨by rw [hD, ← (show (y == 0) = false by simpa using hy)]; rfl, HBL.out _⟩
  subst hy
  have hD : AK.bare ⟨k, ⟨#[]⟩, ⟨#[]⟩, [], ⟨#[]⟩, 0, 0⟩ = true := by unfold AK.bare; simp
  go_enter Tryd.func24, Tryd.ntmps24
  go_wp2_with fail
  go_ret
  exact ⟨by rw [hD]; rfl, HBL.out _⟩
end Go.Proofs.YtheolmnjedbjmaaDoor
