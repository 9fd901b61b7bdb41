import Derived.Test.YtkmjimdaimbdfaaDoorSVBracketProof
import Derived.Test.YtkmjimdaimbdfaaDoorCards
import Derived.Test.YtkmjimdaimbdfaaDoorTie
import Derived.SevenTiedAt
namespace Go.Proofs.YtkmjimdaimbdfaaDoor
open Go
theorem spaceBracket_card_holds : Rows.SpaceBracketCardSaid :=
  Claim7.holds_tied_plain_at .later [] [.data, .data] true (true, "ef0c3ab90468cd5773bf0d6c2f4f58a6ea143175321426007bf19880d006d302") false
    spaceBracket.proved (fun _ h => by cases h) (by kernel_rfl) (fun _ h => by cases h) spaceBracket_row_tie rfl ⟨rfl, rfl⟩ (by kernel_rfl) rfl
    (fun f fn hf hfn => by
      obtain rfl : f = 4 := Option.some.inj ((show Tryd.prog.funcNamed "kiln/kilnlaw5.SpaceBracket" = some 4 by kernel_rfl).symm.trans hf) |>.symm
      obtain rfl : fn = Tryd.f4 := (Option.some.inj (Tryd.func4.symm.trans hfn)).symm
      exact ⟨by kernel_rfl, fun j t ht => by
        rw [Tryd.params4] at ht
        have hm : t ∈ [3, 3, 22, 22, 3, 4] := by simpa using Array.mem_of_getElem? ht
        have hall : ([3, 3, 22, 22, 3, 4].all fun u => !Tryd.prog.wantsStandIn u) = true := by kernel_rfl
        exact (show Tryd.prog.wantsStandIn t = false by simpa using List.all_eq_true.1 hall t hm)⟩)
    (by kernel_rfl)
end Go.Proofs.YtkmjimdaimbdfaaDoor
