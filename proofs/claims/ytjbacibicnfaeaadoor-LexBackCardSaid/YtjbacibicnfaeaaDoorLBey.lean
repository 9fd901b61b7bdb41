import Derived.Test.YtjbacibicnfaeaaDoorLPrtW
namespace Go.Proofs.YtjbacibicnfaeaaDoor
open Go.RowKit Go.Maps
set_option linter.unusedVariables false
set_option linter.unusedSimpArgs false
/-- how much a list of tokens weighs (the bound of DOC.md) -/
def wt (zs : List Z) : Nat := (zs.map fun z => 24 + z.2.1.length).sum
theorem wt_step {zs : List Z} {i : Nat} (h : i < zs.length) : wt (zs.take (i + 1)) = wt (zs.take i) + 24 + (zs.getD i noZ).2.1.length := by
  have e : zs.take (i + 1) = zs.take i ++ [zs.getD i noZ] := by
    rw [List.take_succ_eq_append_getElem h, List.getD_eq_getElem?_getD, List.getElem?_eq_getElem h]
    rfl
  rw [e]
  unfold wt
  simp
  omega
theorem beyond_nil (p : Option Addr) (c : Nat) (w : World) : Calls Tryd.prog 18 #[.slice p 0 c] w fun e w' => e = .returned (.bool false) ∧ w' = w := by
  go_enter Tryd.func18, Tryd.ntmps18
  go_wp2
  go_loopw [4] (fun q wr => q = .int .i64 0 ∧ wr = w) (fun q _ => 0)
  case atStart => exact ⟨rfl, rfl⟩
  case round =>
    obtain ⟨rfl, rfl⟩ := hrel
    go_wp2
    go_wp2
    go_ret
    exact ⟨rfl, rfl⟩
set_option maxHeartbeats 8000000 in
set_option maxRecDepth 1000000 in
theorem beyond_ok (g off c : Nat) (zs : List Z) (w : World) (hr : RdZ w g off zs) (hn : zs.length ≤ 140737488355328) (hs : ∀ i, i < zs.length → (zs.getD i noZ).2.1.length ≤ 140737488355328) :
    Calls Tryd.prog 18 #[.slice (some ⟨g, off, none⟩) zs.length c] w fun e w' => (e = .returned (.bool true) ∨ (e = .returned (.bool false) ∧ wt zs ≤ 268435456)) ∧ Bl w w' := by
  obtain ⟨n, hn'⟩ : ∃ n, zs.length = n := ⟨_, rfl⟩
  have HR := mkHid hr
  have HX := mkHid hs
  rw [hn'] at hn HX ⊢
  have HN := mkHid hn'
  clear hr hs hn'
  go_enter Tryd.func18, Tryd.ntmps18
  go_wp2_with fail
  go_loopw [3, 4] (fun t q wr => ∃ i u : Nat, i ≤ n ∧ q = .int .i64 i ∧ t = .int .i64 u ∧ u ≤ 268435456 ∧ Hid (wt (zs.take i) = u) ∧ Hid (Bl w wr)) (fun _ q _ => n - (intOf q).toNat)
  case atStart => exact ⟨0, 0, Nat.zero_le _, rfl, rfl, Nat.zero_le _, rfl, Bl.refl _⟩
  case round =>
    obtain ⟨i, u, hi, rfl, rfl, hu, hw, hbl⟩ := hrel
    by_cases hin : i < n
    · have hii : (i : Int) < n := by omega
      have r1 := mkHid (HR.out.keep hbl.out)
      obtain ⟨x0, x1, x2, x3⟩ := r1.out.2 i (by rw [HN.out]; exact hin)
      have hgl := r1.out.1
      have hst := mkHid (wt_step (zs := zs) (i := i) (by rw [HN.out]; exact hin))
      have hxl := HX.out i hin
      generalize zs.getD i noZ = z at *
      obtain ⟨k, x, m, a⟩ := z
      dsimp only at *
      have hxs : (ba x).size = x.length := by rw [← lst_len, lst_ba]
      have v1 : IntKind.i64.wrap ((u : Int) + 24) = (u : Int) + 24 := wrap_id _ (by omega) (by omega)
      by_cases ha : (268435456 : Int) < (u : Int) + 24
      · go_wp2_with fail
        go_ret
        exact ⟨Or.inl rfl, hbl.out⟩
      · have v2 : IntKind.i64.wrap (268435456 - ((u : Int) + 24)) = 268435456 - ((u : Int) + 24) := wrap_id _ (by omega) (by omega)
        by_cases hb : 268435456 - ((u : Int) + 24) < ((ba x).size : Int)
        · have db : decide (268435456 - ((u : Int) + 24) < ((ba x).size : Int)) = true := decide_eq_true hb
          clear hxs
          have hb' := mkHid hb
          clear hb
          go_wp2_with fail
          go_ret
          exact ⟨Or.inl rfl, hbl.out⟩
        · have db : decide (268435456 - ((u : Int) + 24) < ((ba x).size : Int)) = false := decide_eq_false hb
          have v3 : IntKind.i64.wrap ((u : Int) + 24 + ((ba x).size : Int)) = (u : Int) + 24 + ((ba x).size : Int) := wrap_id _ (by omega) (by omega)
          have hxs' := mkHid hxs
          clear hxs
          go_wp2_with fail
          go_roundw
          case rel => exact ⟨i + 1, u + 24 + x.length, by omega, by simp, by simp [hxs'.out], (by rw [hxs'.out] at hb; omega), (by unfold Hid; rw [hst.out, hw.out]), hbl⟩
          case measure => simp [intOf]; omega
    · have hie : ¬ (i : Int) < n := by omega
      have hwn : Hid (wt zs = u) := mkHid (by rw [← hw.out, show i = zs.length by rw [HN.out]; omega, List.take_length])
      go_wp2_with fail
      go_wp2_with fail
      go_ret
      exact ⟨Or.inr ⟨rfl, by rw [hwn.out]; exact hu⟩, hbl.out⟩
end Go.Proofs.YtjbacibicnfaeaaDoor
