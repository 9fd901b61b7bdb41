import Derived.Test.YtimlomobbnnehaaGreatDoorG10LAllC
import Derived.Test.YtimlomobbnnehaaGreatDoorG03LMark
namespace Go.Proofs.YtimlomobbnnehaaGreatDoor
open Go.RowKit Go.Maps
set_option linter.unusedVariables false
set_option linter.unusedSimpArgs false
def tv (k : Nat) (t : Bs) (n a m : Nat) : Value := .tuple #[.agg #[.int .i64 k, .string (ba t), .int .i64 n, .int .i64 a], .int .i64 m]
theorem ret4a {f : Func} {V w : World} {B : Nat} {tm : Array Value} (k : Nat) (t : Bs) (n a m : Nat) (hres : f.results = #[.cell 4 28, .tmp 5])
    (hVb : V.heap[B]? = some (.cells #[.int .i64 k, .string (ba t), .int .i64 n, .int .i64 a] 28 (0, 0))) (hVl : Bl w V)
    (h2 : tm.getD 4 undef = .pointer (some ⟨B, 0, none⟩)) (h3 : tm.getD 5 undef = .int .i64 m) :
    bodyPost Tryz.prog f (fun e w' => e = .returned (tv k t n a m) ∧ Bl w w') .ret ⟨tm, []⟩ V := by
  have x0 : V.cell? ⟨B, 0, none⟩ = some (.int .i64 k) := by rw [cell_in hVb]; rfl
  have x1 : V.cell? ⟨B, 1, none⟩ = some (.string (ba t)) := by rw [cell_in hVb]; rfl
  have x2 : V.cell? ⟨B, 2, none⟩ = some (.int .i64 n) := by rw [cell_in hVb]; rfl
  have x3 : V.cell? ⟨B, 3, none⟩ = some (.int .i64 a) := by rw [cell_in hVb]; rfl
  have h2' : tm[4]?.getD undef = .pointer (some ⟨B, 0, none⟩) := by simpa using h2
  have h3' : tm[5]?.getD undef = .int .i64 m := by simpa using h3
  refine bodyPost_ret (v := tv k t n a m) (by simp [results, hres, go_sem, h2, h3, h2', h3', x0, x1, x2, x3, tv]) rfl ⟨rfl, hVl⟩
theorem ret4b {f : Func} {W w : World} {B : Nat} {tm : Array Value} (k : Nat) (t : Bs) (n a m : Nat) {v0 v1 v2 v3 : Value} (hres : f.results = #[.cell 4 28, .tmp 5]) (hr : W.heap[B]? = some z4) (hb : Bl w W) (hB : w.heap.size ≤ B)
    (h2 : tm.getD 4 undef = .pointer (some ⟨B, 0, none⟩)) (h3 : tm.getD 5 undef = .int .i64 m) (e0 : v0 = .int .i64 k) (e1 : v1 = .string (ba t)) (e2 : v2 = .int .i64 n) (e3 : v3 = .int .i64 a) :
    bodyPost Tryz.prog f (fun e w' => e = .returned (tv k t n a m) ∧ Bl w w') .ret ⟨tm, []⟩ ((((W.setCell ⟨B, 0, none⟩ v0).setCell ⟨B, 1, none⟩ v1).setCell ⟨B, 2, none⟩ v2).setCell ⟨B, 3, none⟩ v3) := by
  subst e0 e1 e2 e3
  refine ret4a k t n a m hres ?_ (set_bl (set_bl (set_bl (set_bl hb hB 0 _) hB 1 _) hB 2 _) hB 3 _) h2 h3
  rw [set_in (set_in (set_in (set_in hr 0 _) 1 _) 2 _) 3 _]
  rfl
def kdM (i : Nat) : Nat := ([8, 9, 10, 11, 12, 13, 15, 16, 17] : List Nat).getD i 0
def mkB (i : Nat) : Nat := ([40, 41, 91, 93, 124, 58, 94, 46, 59] : List Nat).getD i 999
theorem nine {P : Nat → Prop} (h0 : P 0) (h1 : P 1) (h2 : P 2) (h3 : P 3) (h4 : P 4) (h5 : P 5) (h6 : P 6) (h7 : P 7) (h8 : P 8) : ∀ k, k < 9 → P k := by
  intro k hk
  have : k = 0 ∨ k = 1 ∨ k = 2 ∨ k = 3 ∨ k = 4 ∨ k = 5 ∨ k = 6 ∨ k = 7 ∨ k = 8 := by omega
  rcases this with rfl | rfl | rfl | rfl | rfl | rfl | rfl | rfl | rfl <;> assumption
theorem mkB_kd : ∀ k, k < 9 → markK (mkB k) = kdM k := nine rfl rfl rfl rfl rfl rfl rfl rfl rfl
theorem mkB_no (n : Nat) (h : ∀ k, k < 9 → mkB k ≠ n) : markK n = 0 := by
  have h0 := h 0 (by omega); have h1 := h 1 (by omega); have h2 := h 2 (by omega); have h3 := h 3 (by omega); have h4 := h 4 (by omega)
  have h5 := h 5 (by omega); have h6 := h 6 (by omega); have h7 := h 7 (by omega); have h8 := h 8 (by omega)
  simp [mkB] at h0 h1 h2 h3 h4 h5 h6 h7 h8
  unfold markK
  rw [if_neg (by omega), if_neg (by omega), if_neg (by omega), if_neg (by omega), if_neg (by omega), if_neg (by omega), if_neg (by omega), if_neg (by omega), if_neg (by omega)]
theorem mkG : ∀ k (hk : k < (⟨#[40, 41, 91, 93, 124, 58, 94, 46, 59]⟩ : ByteArray).size), ((⟨#[40, 41, 91, 93, 124, 58, 94, 46, 59]⟩ : ByteArray)[k]'hk).toNat = mkB k := by
  intro k hk
  have : k < 9 := hk
  have : k = 0 ∨ k = 1 ∨ k = 2 ∨ k = 3 ∨ k = 4 ∨ k = 5 ∨ k = 6 ∨ k = 7 ∨ k = 8 := by omega
  rcases this with h | h | h | h | h | h | h | h | h <;> subst h <;> rfl
set_option maxHeartbeats 8000000 in
set_option maxRecDepth 1000000 in
theorem rKinds_ok (i : Nat) (w : World) (h : i < 9) : Calls Tryz.prog 36 #[.int .i64 i] w fun e w' => e = .returned (.int .i64 (kdM i)) ∧ Bl w w' := by
  revert i
  refine nine ?_ ?_ ?_ ?_ ?_ ?_ ?_ ?_ ?_
  all_goals
    go_enter Tryz.func36, Tryz.ntmps36
    go_wp2
    go_ret
    exact ⟨rfl, by first | exact Bl.refl _ | exact Bl.alloc _ _⟩
end Go.Proofs.YtimlomobbnnehaaGreatDoor

