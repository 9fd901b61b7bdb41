import Derived.Test.YtjbacibicnfaeaaDoorLRefE
namespace Go.Proofs.YtjbacibicnfaeaaDoor
open Go.RowKit Go.Maps
set_option linter.unusedVariables false
set_option linter.unusedSimpArgs false
set_option maxHeartbeats 8000000 in
set_option maxRecDepth 1000000 in
theorem words_any (s : ByteArray) (w : World) (hT : Tab w) (h1 : s.size ≤ 140737488355328) :
    Calls Tryd.prog 7 #[.string s] w fun e w' => e = .returned (.bool true) ∧ Bl w w' := by
  have HK := mkHid (fun W hW => known_ok W hW)
  have h12 := fun w => sel_ok s w h1
  have h16 := fun w => rSel_ok s w h1
  have h14 := fun w => vari_ok s w h1
  have h17 := fun w => rVari_ok s w h1
  generalize sel (lst s) = x at *
  generalize vari (lst s) = v at *
  obtain ⟨x1, x2⟩ := x
  dsimp only at h12 h16
  go_enter Tryd.func7, Tryd.ntmps7
  go_wp2_with (first
    | (go_at_call 12; refine (h12 _).mono ?_; rintro e w1 ⟨rfl, b1⟩)
    | (go_at_call 16; refine (h16 _).mono ?_; rintro e w2 ⟨rfl, b2⟩)
    | (go_at_call 14; refine (h14 _).mono ?_; rintro e w3 ⟨rfl, b3⟩)
    | (go_at_call 17; refine (h17 _).mono ?_; rintro e w4 ⟨rfl, b4⟩)
    | (go_at_call 9; refine (HK.out _ (hT.mono (((b1.trans b2).trans b3).trans b4))).mono ?_; rintro e w5 ⟨rfl, b5⟩)
    | (go_at_call 13; go_in))
  go_ret
  exact ⟨rfl, (((b1.trans b2).trans b3).trans b4).trans b5⟩
end Go.Proofs.YtjbacibicnfaeaaDoor
