import Derived.Test.YtheolmnjedbjmaaGreatDoorSPt
namespace Go.Proofs.YtheolmnjedbjmaaGreatDoor
open Go.RowKit
set_option linter.unusedVariables false
set_option linter.unusedSimpArgs false
attribute [local go_sem ↓] Go.wp_at_zero Go.wp_at_succ

/-- is the line too long? -/
def isL (long : Bool) (bs : Bs) : Bool := long || decide (262144 < bs.length)
/-- the writer's box -/
structure Wb (W : World) (B wb : Nat) (v : Value) (bs : Bs) (long : Bool) : Prop where
  box : W.heap[wb]? = some (.cells #[v, .bool long] 97 (0, 0))
  page : Pv W B v bs
theorem Wb.bl {W W' : World} {B wb : Nat} {v : Value} {bs : Bs} {long : Bool} (h : Wb W B wb v bs long) (k : Bl W W') : Wb W' B wb v bs long := ⟨(k.block _ (lt_of_heap h.box)).trans h.box, h.page.bl k⟩
set_option maxHeartbeats 2000000 in
theorem isLong_ok (W : World) (wb : Nat) (p : Option Addr) (n c : Nat) (long : Bool) (hn : n ≤ 9223372036854775807) (h : W.heap[wb]? = some (.cells #[.slice p n c, .bool long] 97 (0, 0))) : Calls Tryz.prog 45 #[.pointer (some ⟨wb, 0, none⟩)] W fun e w' => e = .returned (.bool (long || decide (262144 < n))) ∧ Bl W w' := by
  have h0 := cell_in h 0
  have h1 := cell_in h 1
  simp at h0 h1
  clear h
  cases long
  · by_cases hg : 262144 < n
    · have hg1 : (262144 : Int) < (n : Int) := by omega
      have hg2 : decide (262144 < n) = true := by simpa using hg
      go_enter Tryz.func45, Tryz.ntmps45
      go_wp2_with fail
      go_ret
      exact ⟨by simp [hg], Bl.refl _⟩
    · have hg1 : ¬ (262144 : Int) < (n : Int) := by omega
      go_enter Tryz.func45, Tryz.ntmps45
      go_wp2_with fail
      go_ret
      exact ⟨by simp [hg], Bl.refl _⟩
  · go_enter Tryz.func45, Tryz.ntmps45
    go_wp2_with fail
    go_ret
    exact ⟨by simp, Bl.refl _⟩
end Go.Proofs.YtheolmnjedbjmaaGreatDoor

