import Derived.Test.YtookbbephlllmaaRows
import Derived.Test.YtookbbephlllmaaBase
import Derived.WalkKit
import Derived.ProofKit
import Derived.OpenShut
import Derived.ShutString
import Derived.ChangeOld
import Derived.Below
import Derived.Deep.SlicePairs
namespace Go.Proofs.Ytookbbephlllmaa.wordModular
open Go.ChangeShapes Go.WideShapes Go.ChangeAt Go.RowKit
set_option linter.unusedVariables false

theorem own : ownKnob Try.prog.godebug = none := by kernel_rfl
theorem laidOut : laidOutB Try.prog = true := by kernel_rfl

/-- what the walk is told of the line of steps -/
def IsLine (w : World) (a : Option Addr) (len : Nat) (K B : Nat → Int) : Prop :=
  len ≤ 9223372036854775807 ∧ (len = 0 ∨
  ∃ b off, a = some ⟨b, off, none⟩ ∧ ∀ i, i < len → w.cell? ⟨b, off + i * 2, none⟩ = some (.int .i64 (K i)) ∧ w.cell? ⟨b, off + i * 2 + 1, none⟩ = some (.int .i64 (B i)) ∧ -9223372036854775808 ≤ B i ∧ B i ≤ 9223372036854775807)

theorem step_add (x wh b : Int) (h : x = wr wh) : (wr (x + b) != wr (wrap64 (wh + b))) = false := by
  rw [wr_w64, h, wr_add]; simp
theorem step_sub (x wh b : Int) (h : x = wr wh) : (wr (x - b) != wr (wrap64 (wh - b))) = false := by
  rw [wr_w64, h, wr_sub]; simp
theorem step_mul (x wh b : Int) (h : x = wr wh) : (wr (x * b) != wr (wrap64 (wh * b))) = false := by
  rw [wr_w64, h, wr_mul]; simp
theorem at_end (x wh : Int) (h : x = wr wh) : ((wrap64 (wh - x)).tmod 2147483648 == 0) = true := by
  have h1 : (2147483648 : Int) ∣ wrap64 (wh - x) := by
    rw [h]; unfold wrap64 wr; omega
  have := (dvd_tm (wrap64 (wh - x)) 2147483648).1 h1
  simpa using this
theorem w64_bd (n : Int) : -9223372036854775808 ≤ wrap64 n ∧ wrap64 n ≤ 9223372036854775807 := by unfold wrap64; omega
theorem wr3 : wr (1 + 2) = 3 := by decide

set_option maxRecDepth 100000 in
set_option maxHeartbeats 4000000 in
theorem walk_some (a0 : Int) (b off len cap : Nat) (K B : Nat → Int) (w : World) (w0 : (Lit.int .i64 a0).wf = true) (hlen : len ≤ 9223372036854775807)
    (hc : ∀ i, i < len → w.cell? ⟨b, off + i * 2, none⟩ = some (.int .i64 (K i)) ∧ w.cell? ⟨b, off + i * 2 + 1, none⟩ = some (.int .i64 (B i)) ∧ -9223372036854775808 ≤ B i ∧ B i ≤ 9223372036854775807) :
    Calls Try.prog 4 #[.int .i64 a0, .slice (some ⟨b, off, none⟩) len cap] w fun e w' => e = .returned (.bool true) ∧ w' = w := by
  have ⟨x0, x1⟩ := bounds_i64 w0
  clear w0
  have HC : Hid (∀ i, i < len → w.cell? ⟨b, off + i * 2, none⟩ = some (.int .i64 (K i)) ∧ w.cell? ⟨b, off + i * 2 + 1, none⟩ = some (.int .i64 (B i)) ∧ -9223372036854775808 ≤ B i ∧ B i ≤ 9223372036854775807) := hc
  clear hc
  go_enter Try.func4, Try.ntmps4
  go_wp2_with fail
  refine (ranged_any _ _ x0 x1).mono ?_
  rintro e w' ⟨⟨a, rfl, ha0, ha1⟩, rfl⟩
  go_wp2_with fail
  go_loop [5, 6, 7] (fun t u i => ∃ (k : Nat) (x wh : Int), k ≤ len ∧ x = wr wh ∧ (-9223372036854775808 ≤ wh ∧ wh ≤ 9223372036854775807) ∧ i = .int .i64 k ∧ t = .int .i64 x ∧ u = .int .i64 wh) (fun _ _ i => len - (intOf i).toNat)
  case atStart => exact ⟨0, a, a, by omega, (wr_of a ha0 ha1).symm, by omega, rfl, rfl, rfl⟩
  case round =>
    obtain ⟨k, x, wh, hk, hx, ⟨wh0, wh1⟩, rfl, rfl, rfl⟩ := hrel
    have g0 : -1073741824 ≤ x := by rw [hx]; exact wr_lo _
    have g1 : x ≤ 1073741823 := by rw [hx]; exact wr_hi _
    have HX : Hid (x = wr wh) := hx
    clear hx x0 x1
    by_cases hlt : k < len
    · obtain ⟨c0, c1, c2, c3⟩ := HC.out k hlt
      clear HC
      generalize K k = kk at *
      generalize B k = bb at *
      go_wp2_with fail
      refine (ranged_any _ _ c2 c3).mono ?_
      rintro e w' ⟨⟨z, rfl, hz0, hz1⟩, rfl⟩
      clear c2 c3
      have s1 := step_add x wh z HX.out
      have s2 := step_sub x wh z HX.out
      have s3 := step_mul x wh z HX.out
      have b1 := w64_bd (wh + z)
      have b2 := w64_bd (wh - z)
      have b3 := w64_bd (wh * z)
      by_cases k0 : kk = 0
      · subst k0
        clear s2 s3 b2 b3
        go_wp2_with (first
          | (go_at_call 11; refine (num_any _ _ (by omega) (by omega)).mono ?_; rintro e w' ⟨rfl, rfl⟩)
          | (go_at_call 12; refine (wrap_any _ _).mono ?_; rintro e w' ⟨rfl, rfl⟩)
          | (go_at_call 13; refine (add_in _ _ _ g0 g1 hz0 hz1).mono ?_; rintro e w' ⟨rfl, rfl⟩))
        go_round
        case rel => exact ⟨k + 1, wr (x + z), wrap64 (wh + z), by omega, by simpa using s1, b1, by go_num, rfl, rfl⟩
        case measure => simp [intOf]; omega
      · have n0 : (kk == 0) = false := by simpa using k0
        by_cases k1 : kk = 1
        · subst k1
          clear s1 s3 b1 b3 n0
          go_wp2_with (first
            | (go_at_call 11; refine (num_any _ _ (by omega) (by omega)).mono ?_; rintro e w' ⟨rfl, rfl⟩)
            | (go_at_call 12; refine (wrap_any _ _).mono ?_; rintro e w' ⟨rfl, rfl⟩)
            | (go_at_call 14; refine (sub_in _ _ _ g0 g1 hz0 hz1).mono ?_; rintro e w' ⟨rfl, rfl⟩))
          go_round
          case rel => exact ⟨k + 1, wr (x - z), wrap64 (wh - z), by omega, by simpa using s2, b2, by go_num, rfl, rfl⟩
          case measure => simp [intOf]; omega
        · have n1 : (kk == 1) = false := by simpa using k1
          by_cases k2 : kk = 2
          · subst k2
            clear s1 s2 b1 b2 n0 n1
            go_wp2_with (first
              | (go_at_call 11; refine (num_any _ _ (by omega) (by omega)).mono ?_; rintro e w' ⟨rfl, rfl⟩)
              | (go_at_call 12; refine (wrap_any _ _).mono ?_; rintro e w' ⟨rfl, rfl⟩)
              | (go_at_call 15; refine (mul_in _ _ _ g0 g1 hz0 hz1).mono ?_; rintro e w' ⟨rfl, rfl⟩))
            go_round
            case rel => exact ⟨k + 1, wr (x * z), wrap64 (wh * z), by omega, by simpa using s3, b3, by go_num, rfl, rfl⟩
            case measure => simp [intOf]; omega
          · have n2 : (kk == 2) = false := by simpa using k2
            have s4 : (x != wr wh) = false := by rw [← HX.out]; simp
            clear s1 s2 s3 b1 b2 b3
            go_wp2_with (first
              | (go_at_call 11; refine (num_any _ _ (by omega) (by omega)).mono ?_; rintro e w' ⟨rfl, rfl⟩)
              | (go_at_call 12; refine (wrap_any _ _).mono ?_; rintro e w' ⟨rfl, rfl⟩))
            go_round
            case rel => exact ⟨k + 1, x, wh, by omega, HX.out, ⟨wh0, wh1⟩, by go_num, rfl, rfl⟩
            case measure => simp [intOf]; omega
    · clear HC
      have s4 : (wr wh == x) = true := by rw [← HX.out]; simp
      have s5 := at_end x wh HX.out
      go_wp2_with fail
      refine (add_in _ _ _ (by omega) (by omega) (by omega) (by omega)).mono ?_
      rintro e w' ⟨rfl, rfl⟩
      rw [wr3]
      go_wp2_with (first
        | (go_at_call 11; refine (num_any _ _ (by omega) (by omega)).mono ?_; rintro e w' ⟨rfl, rfl⟩)
        | (go_at_call 12; refine (wrap_any _ _).mono ?_; rintro e w' ⟨rfl, rfl⟩))
      go_ret
      exact ⟨rfl, rfl⟩
set_option maxRecDepth 100000 in
set_option maxHeartbeats 4000000 in
theorem walk_none (a0 : Int) (a1 : Option Addr) (cap : Nat) (w : World) (w0 : (Lit.int .i64 a0).wf = true) :
    Calls Try.prog 4 #[.int .i64 a0, .slice a1 0 cap] w fun e w' => e = .returned (.bool true) ∧ w' = w := by
  have ⟨x0, x1⟩ := bounds_i64 w0
  clear w0
  go_enter Try.func4, Try.ntmps4
  go_wp2_with fail
  refine (ranged_any _ _ x0 x1).mono ?_
  rintro e w' ⟨⟨a, rfl, ha0, ha1⟩, rfl⟩
  clear x0 x1
  go_wp2_with fail
  go_loop [5, 6, 7] (fun t u i => i = .int .i64 0 ∧ t = .int .i64 a ∧ u = .int .i64 a) (fun _ _ i => 0)
  case atStart => exact ⟨rfl, rfl, rfl⟩
  case round =>
    obtain ⟨rfl, rfl, rfl⟩ := hrel
    have s4 : (wr a == a) = true := by rw [wr_of a ha0 ha1]; simp
    go_wp2_with fail
    refine (add_in _ _ _ (by omega) (by omega) (by omega) (by omega)).mono ?_
    rintro e w' ⟨rfl, rfl⟩
    rw [wr3]
    go_wp2_with (first
      | (go_at_call 11; refine (num_any _ _ (by omega) (by omega)).mono ?_; rintro e w' ⟨rfl, rfl⟩)
      | (go_at_call 12; refine (wrap_any _ _).mono ?_; rintro e w' ⟨rfl, rfl⟩))
    go_ret
    exact ⟨rfl, rfl⟩

theorem walk (a0 : Int) (a1 : Option Addr) (len cap : Nat) (K B : Nat → Int) (w : World) (w0 : (Lit.int .i64 a0).wf = true) (w1 : IsLine w a1 len K B) :
    Calls Try.prog 4 #[.int .i64 a0, .slice a1 len cap] w fun e w' => e = .returned (.bool true) ∧ Below w.heap.size w w' := by
  obtain ⟨hl, rfl | ⟨b, off, rfl, hc⟩⟩ := w1
  · refine (walk_none a0 a1 cap w w0).mono ?_
    rintro e w' ⟨rfl, rfl⟩
    exact ⟨rfl, Below.refl _ _⟩
  · refine (walk_some a0 b off len cap K B w w0 hl hc).mono ?_
    rintro e w' ⟨rfl, rfl⟩
    exact ⟨rfl, Below.refl _ _⟩

theorem cells30 : Try.prog.cellsOf 30 = 2 := by kernel_rfl
theorem cells3 : Try.prog.cellsOf 3 = 1 := by kernel_rfl

set_option maxRecDepth 100000 in
theorem lifted (os : Os) (started : os.Started) (H : Type) (enc : TypeId × Value → H) :
    ReturnsInHanded {} Try.checked os 4 .any (Rows.wordModularSpec.pre6 enc Try.prog Try.f4 Rows.wordModularRow.domain false) (Rows.wordModularSpec.post enc Try.prog Try.f4 false true false false) := by
  refine returnsInHanded_of_change (C := Try.checked) own started (by kernel_rfl) Try.func4
    (ChangeSpec.witness6 (enc := enc) (C := Try.checked) false ⟨#[], #[.int .i64 0, .slice none 0 0], []⟩ 8 (by kernel_rfl) (by kernel_rfl) (by kernel_rfl) (by kernel_rfl)) ?_
  intro W base args ds gs before hval0 hW hcnd _
  have hval : ∀ (j : Nat) t v, Try.f4.params[j]? = some t → args[j]? = some v → Value.okWide Try.prog W .any base t v := hval0
  have hW' := hW
  obtain ⟨p, q, hA0, hV, rfl, hfz, hnd⟩ := hW
  have hA : DataW.TrodAll enc Try.prog W 0 (fun _ => true) true Try.f4.params.toList args.toList ds p := hA0
  rw [Try.params4] at hA hval
  obtain ⟨v0, vs0, d0, ds0, p0, q0, hargs, rfl, rfl, h0, r0⟩ := trodAll_cons hA
  obtain ⟨v1, vs1, d1, ds1, p1, q1, rfl, rfl, rfl, h1, r1⟩ := trodAll_cons r0
  obtain ⟨rfl, rfl, rfl⟩ := trodAll_nil r1
  obtain rfl : args = #[v0, v1] := by cases args; simp_all
  obtain ⟨rfl, rfl⟩ := trodVars_none hV
  obtain ⟨a0, rfl, rfl, rfl, w0⟩ := open_int Try.underlying3 (hval 0 3 v0 rfl rfl) h0
  obtain ⟨a1, len1, cap1, rfl⟩ := okWide_slice Try.underlying28 (hval 1 28 v1 rfl rfl)
  have k1 := h1
  have lt1 : ∀ x ∈ p1, x.block < W.heap.size := by obtain ⟨m, hm⟩ := k1; exact DataW.trod_lt m _ _ _ hm
  obtain ⟨K, B, w1⟩ : ∃ K B, IsLine W a1 len1 K B := by
    obtain ⟨fuel, hf⟩ := h1
    rcases Go.Deep.open_slice_pairs Try.underlying28 Try.underlying30 cells30 rfl rfl cells3 cells3 hf with ⟨hcs, _⟩ | ⟨a, l, c, m, n, V0, V1, D0, D1, P0, P1, hcs, _, hl, hm, hmm, _, hx⟩
    · simp [Value.cells] at hcs
      obtain ⟨rfl, rfl, rfl⟩ := hcs
      exact ⟨fun _ => 0, fun _ => 0, by omega, .inl rfl⟩
    · simp [Value.cells] at hcs
      obtain ⟨rfl, rfl, rfl⟩ := hcs
      unfold maxLen at hm
      by_cases hz : len1 = 0
      · exact ⟨fun _ => 0, fun _ => 0, by omega, .inl hz⟩
      · have hm1 : len1 ≤ m := by rw [hmm]; simp; omega
        obtain ⟨b, off, spot⟩ := a
        have hspot : spot = none := by simpa [Addr.add] using World.cell?_spot (hx 0 (by omega)).1
        subst hspot
        have each : ∀ i, i < len1 → ∃ q : Int × Int, W.cell? ⟨b, off + i * 2, none⟩ = some (.int .i64 q.1) ∧ W.cell? ⟨b, off + i * 2 + 1, none⟩ = some (.int .i64 q.2) ∧ -9223372036854775808 ≤ q.2 ∧ q.2 ≤ 9223372036854775807 := by
          intro i hi
          obtain ⟨g0, g1, g2, g3⟩ := hx i (by omega)
          obtain ⟨x, e0, _, _⟩ := DataW.trod_int Try.underlying3 g2
          obtain ⟨y, e1, _, wy⟩ := DataW.trod_int Try.underlying3 g3
          simp at e0 e1
          rw [e0] at g0
          rw [e1] at g1
          exact ⟨(x, y), by rw [← add_plain]; exact g0, by rw [Nat.add_assoc, ← add_plain]; exact g1, bounds_i64 wy⟩
        obtain ⟨f, hf⟩ := Go.Deep.choose_lt each
        exact ⟨fun i => (f i).1, fun i => (f i).2, by omega, .inr ⟨b, off, rfl, hf⟩⟩
  clear hA0 hval0
  refine (walk a0 a1 len1 cap1 K B W w0 w1).mono fun e W' ⟨he, bel⟩ => ?_
  subst he
  exact ⟨_, rfl, _, _, _, [], _, [], hW', trodAll_mk1 (shut_bool Try.underlying4 _), (trodAll_cons_mk (shut_int Try.underlying3 w0) (trodAll_cons_mk (Below.trod laidOut (by kernel_rfl) (of_decide_eq_true (by kernel_rfl)) k1 bel lt1) trodAll_mk0)), rfl, bel.frame _, fun h => by cases h⟩

theorem over : Rows.wordModularRow.holds Try.pinned (OpenSpec.ofChange Rows.wordModularSpec) :=
  OpenClaim.holds_of_wide 4 Try.f4 rfl rfl rfl rfl rfl rfl rfl ⟨rfl, rfl, rfl, rfl, rfl⟩ rfl rfl rfl rfl rfl (by kernel_rfl) Try.func4 (by kernel_rfl)
    (of_decide_eq_true (by kernel_rfl)) (by unfold Func.isWrapper; first | (rw [if_pos (by decide +kernel)]; kernel_rfl) | (rw [if_neg (by decide +kernel)]; exact ⟨rfl, rfl⟩))
    (fun os started H enc _ => lifted os started H enc)

theorem proved : Rows.WordModularSaid := over
#print axioms proved
end Go.Proofs.Ytookbbephlllmaa.wordModular
namespace Go.Proofs.Ytookbbephlllmaa
theorem wordModular_holds : Rows.WordModularSaid := wordModular.proved
end Go.Proofs.Ytookbbephlllmaa
