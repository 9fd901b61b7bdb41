import Derived.Test.YtblbjgifhgfifaaPQKp2
namespace Go.Proofs.Ytblbjgifhgfifaa
open Go.RowKit Go.Maps Go.WideMaps
set_option linter.unusedVariables false
set_option linter.unusedSimpArgs false
set_option maxRecDepth 20000 in
set_option maxHeartbeats 2000000 in
/-- asked once more -/
theorem asked_ok (l : List Cl) (kernel : Int) (name : ByteArray) (own : List ByteArray) (v ov vw : Value) (zs : List Cg) (w : World) (h : RdC w v l) (ho : RdS w ov own) (ha : Ask l own) (hx : Txs l name own) (hw : RdH w vw zs) (hz : zs.map Cg.c = (makeP l kernel name own).1) :
    Calls Try.prog 16 #[v, .int .i64 kernel, .string name, ov, vw] w fun e w' => e = .returned (.bool true) ∧ Fr [] w w' := by
  have HM : Hid (Calls Try.prog 13 #[v, .int .i64 kernel, .string name, ov] w fun e w' => ∃ p n c z, e = .returned (.tuple #[.slice p n c, .int .i64 z]) ∧ Hid (∃ xs, RdH w' (.slice p n c) xs ∧ xs.map Cg.c = zs.map Cg.c) ∧ Hid (Fr [] w w')) := mkHid (by
    refine Calls.mono (prog l kernel name own v ov w h ho ha hx) ?_
    rintro e w' ⟨vr, rfl, xs, q1, q2, q3, _⟩
    obtain ⟨p, c, rfl, _⟩ := id q1.at_
    exact ⟨p, _, c, _, rfl, mkHid ⟨xs, q1, q2.trans hz.symm⟩, mkHid q3⟩)
  have HW := mkHid hw
  have HFx : Hid (∀ W, Calls Try.prog 18 #[] W fun e w' => e = .returned (.bool true) ∧ Fr [] W w') := mkHid (fun W => lFixed_ok prog W)
  clear h ho ha hx hw hz
  go_enter Try.func16, Try.ntmps16
  go_wp2_with (first
    | (go_at_call 13
       refine HM.out.mono ?_
       rintro e w3 ⟨p, n, c, z, rfl, hq, hf⟩
       have HSC : Hid (Calls Try.prog 14 #[.slice p n c, vw] w3 fun e w' => e = .returned (.bool true) ∧ Fr [] w3 w') := (by
         obtain ⟨xs, q1, q2⟩ := hq.out
         refine mkHid (Calls.mono (lSameC_ok xs zs _ _ w3 q1 (HW.out.idle hf.out)) ?_)
         rintro e w' ⟨rfl, f⟩
         exact ⟨by rw [decide_eq_true q2], f⟩)
       clear hq)
    | (go_at_call 14; refine HSC.out.mono ?_; rintro e w4 ⟨rfl, hf4⟩; have HF4 := mkHid hf4; clear hf4)
    | (go_at_call 18; refine (HFx.out _).mono ?_; rintro e w5 ⟨rfl, hf5⟩))
  go_ret
  exact ⟨rfl, (hf.out.trans HF4.out (by simp)).trans hf5 (by simp)⟩
end Go.Proofs.Ytblbjgifhgfifaa
