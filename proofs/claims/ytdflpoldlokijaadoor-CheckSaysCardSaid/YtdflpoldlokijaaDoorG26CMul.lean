import Derived.Test.YtdflpoldlokijaaDoorG13CTwin
namespace Go.Proofs.YtdflpoldlokijaaDoor
open Go.RowKit
set_option linter.unusedVariables false
set_option linter.unusedSimpArgs false
attribute [local go_sem ↓] Go.wp_at_zero Go.wp_at_succ
set_option maxRecDepth 100000 in
set_option maxHeartbeats 2000000 in
theorem max_ok (ds : List Int) (v : Value) (w : World) (h : Rd w v ds) (h1 : 1 ≤ ds.length) (h2 : ds.length ≤ 4096) :
    Calls Tryd.prog 50 #[v] w fun e w' => e = .returned (.int .i64 (ds.foldl max (ds.getD 0 0))) ∧ w' = w := by
  obtain ⟨p, c, rfl, hp⟩ := h.at_
  obtain ⟨g, off, rfl, hg, hc⟩ := hp (by omega)
  have x0 := hc 0 (by omega)
  rw [Nat.add_zero] at x0
  have l1 : (1 : Int) ≤ (ds.length : Int) := by omega
  have HC := mkHid hc
  have HE : Hid (∀ k, k < ds.length → (ds.take (k + 1)).foldl max (ds.getD 0 0) = max ((ds.take k).foldl max (ds.getD 0 0)) (ds.getD k 0)) := fun k hk => by
    rw [List.take_succ_eq_append_getElem hk, List.foldl_append, List.getD_eq_getElem?_getD (i := k), List.getElem?_eq_getElem hk]; rfl
  have HZ : Hid ((ds.take 1).foldl max (ds.getD 0 0) = ds.getD 0 0) := by
    show (ds.take 1).foldl max (ds.getD 0 0) = ds.getD 0 0
    cases ds with
    | nil => simp at h1
    | cons a t => simp
  clear h hp hc
  go_enter Tryd.func50, Tryd.ntmps50
  go_wp2_with fail
  go_loopw [3, 4] (fun m q wr => ∃ k : Nat, 1 ≤ k ∧ k ≤ ds.length ∧ q = .int .i64 k ∧ m = .int .i64 ((ds.take k).foldl max (ds.getD 0 0)) ∧ Hid (wr = w)) (fun _ q _ => ds.length - (intOf q).toNat)
  case atStart => exact ⟨1, Nat.le_refl _, h1, rfl, by rw [HZ.out, List.getD_eq_getElem?_getD], mkHid rfl⟩
  case round =>
    obtain ⟨k, hk1, hkn, rfl, rfl, hw0⟩ := hrel
    rw [hw0.out]
    clear hw0 x0
    by_cases hlt : k < ds.length
    · have x1 := HC.out k hlt
      have k0 : (0 : Int) ≤ (k : Int) := by omega
      have k2 : (k : Int) < (ds.length : Int) := by omega
      have HEk := mkHid (HE.out k hlt)
      generalize hM : (ds.take k).foldl max (ds.getD 0 0) = M at *
      generalize ds.getD k 0 = z at *
      by_cases hz : M ≤ z
      · have HMx : Hid (max M z = z) := mkHid (by omega)
        go_wp2_with fail
        go_roundw
        case rel => exact ⟨k + 1, by omega, by omega, by go_num, by rw [HEk.out]; congr 1; split <;> omega, by first | exact mkHid rfl | exact mkHid trivial⟩
        case measure => simp [intOf]; omega
      · have HMx : Hid (max M z = M) := mkHid (by omega)
        go_wp2_with fail
        go_roundw
        case rel => exact ⟨k + 1, by omega, by omega, by go_num, by rw [HEk.out]; congr 1; split <;> omega, by first | exact mkHid rfl | exact mkHid trivial⟩
        case measure => simp [intOf]; omega
    · have hke : k = ds.length := by omega
      subst hke
      have HT : Hid ((ds.take ds.length).foldl max (ds.getD 0 0) = ds.foldl max (ds.getD 0 0)) := by show List.foldl _ _ _ = _; rw [List.take_length]
      go_wp2_with fail
      go_ret
      exact ⟨by rw [← HT.out]; rfl, rfl⟩
end Go.Proofs.YtdflpoldlokijaaDoor
namespace Go.Proofs.YtdflpoldlokijaaDoor
open Go.RowKit
set_option linter.unusedVariables false
set_option linter.unusedSimpArgs false
attribute [local go_sem ↓] Go.wp_at_zero Go.wp_at_succ
theorem and32 (n : Nat) (h : n ≤ 4096) : bits .and .u64 (n : Int) 4294967295 = (n : Int) := by
  unfold bits
  simp only [BitVec.toNat_and, BitVec.toNat_ofInt]
  have e : ((4294967295 : Int) % ((2 ^ IntKind.u64.bits : Nat) : Int)).toNat = 2 ^ 32 - 1 := by decide
  rw [e, Nat.and_two_pow_sub_one_eq_mod]
  have e2 : ((2 ^ IntKind.u64.bits : Nat) : Int) = 18446744073709551616 := by decide
  rw [e2]
  simp only [IntKind.wrap, IntKind.signed, IntKind.bits]
  simp
  omega
set_option maxHeartbeats 1000000 in
theorem mul64_ok (n : Nat) (h : n ≤ 4096) (w : World) : Calls Tryd.prog 75 #[.int .u64 1, .int .u64 n] w fun e w' => e = .returned (.tuple #[.int .u64 0, .int .u64 n]) ∧ w' = w := by
  have a1 := and32 n h
  have a0 : bits .and .u64 1 4294967295 = 1 := by decide
  have az : bits .and .u64 0 4294967295 = 0 := by decide
  have n1 : (0 : Int) ≤ (n : Int) := by omega
  have n2 : (n : Int) ≤ 4096 := by omega
  have hq : (n : Int) / 4294967296 = 0 := by omega
  clear h
  go_enter Tryd.func75, Tryd.ntmps75
  go_wp2_with fail
  go_ret2
  exact ⟨by first | rfl | simp, rfl⟩
set_option maxHeartbeats 1000000 in
theorem mul_ok (n : Nat) (h : n ≤ 4096) (w : World) : Calls Tryd.prog 66 #[.int .u64 1, .int .u64 n] w fun e w' => e = .returned (.tuple #[.int .u64 0, .int .u64 n]) ∧ w' = w := by
  have HM := mkHid (mul64_ok n h w)
  go_enter Tryd.func66, Tryd.ntmps66
  go_wp2_with (go_at_call 75; refine Calls.mono HM.out ?_; rintro e w' ⟨rfl, hw'⟩; rw [hw']; clear hw' w')
  go_ret2
  exact ⟨rfl, rfl⟩
end Go.Proofs.YtdflpoldlokijaaDoor
