import Derived.Test.YtdflpoldlokijaaDoorCSyProof
import Derived.Test.YtdflpoldlokijaaDoorCards
import Derived.Test.YtdflpoldlokijaaDoorTie
import Derived.SevenTiedAt
namespace Go.Proofs.YtdflpoldlokijaaDoor
open Go
theorem checkSays_card_holds : Rows.CheckSaysCardSaid :=
  Claim7.holds_tied_plain_at .later [] [.data] true (true, "6705b0894790ab898084b976169707efc39c37c9ff057571360e5da90e5f4388") false
    checkSays.proved (fun _ h => by cases h) (by kernel_rfl) (fun _ h => by cases h) checkSays_row_tie rfl ⟨rfl, rfl⟩ (by kernel_rfl) rfl
    (fun f fn hf hfn => by
      obtain rfl : f = 4 := Option.some.inj ((show Tryd.prog.funcNamed "kiln/kilnlaw11.CheckSays" = some 4 by kernel_rfl).symm.trans hf) |>.symm
      obtain rfl : fn = Tryd.f4 := (Option.some.inj (Tryd.func4.symm.trans hfn)).symm
      exact ⟨by kernel_rfl, fun j t ht => by
        rw [Tryd.params4] at ht
        have hm : t ∈ [25, 27] := by simpa using Array.mem_of_getElem? ht
        have hall : ([25, 27].all fun u => !Tryd.prog.wantsStandIn u) = true := by kernel_rfl
        exact (show Tryd.prog.wantsStandIn t = false by simpa using List.all_eq_true.1 hall t hm)⟩)
    (by kernel_rfl)
end Go.Proofs.YtdflpoldlokijaaDoor
