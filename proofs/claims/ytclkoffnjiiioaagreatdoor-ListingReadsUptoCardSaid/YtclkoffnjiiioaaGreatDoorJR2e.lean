import Derived.Test.YtclkoffnjiiioaaGreatDoorG21IRa
import Derived.Test.YtclkoffnjiiioaaGreatDoorG03JRd3
import Derived.Test.YtclkoffnjiiioaaGreatDoorG09JRdD
namespace Go.Proofs.YtclkoffnjiiioaaGreatDoor
open Go.RowKit
set_option linter.unusedVariables false
set_option linter.unusedSimpArgs false
attribute [local go_sem ↓] Go.wp_at_zero Go.wp_at_succ
set_option maxRecDepth 100000 in
set_option maxHeartbeats 8000000 in
theorem itoa0 : Lib.itoa 0 = [48] := by
  unfold Lib.itoa
  rw [if_neg (by decide), show (0 : Int).toNat = 0 from rfl, Lib.decDigits]
  rfl
set_option maxRecDepth 100000 in
set_option maxHeartbeats 4000000 in
theorem qJR2e (W : World) (r : Nat) (S : Bs) (a d : Nat) (bad : Bool) (h : QB W r S a d bad) (hP : Pw W) (hno : ∀ b, S[a]? = some b → b ≠ 45 ∧ dgB b = false) : Calls Tryz.prog 40 #[pt r] W fun e w' => NuR W r S a d bad e w' := by
  have hsz := h.small.1
  have hle := h.le
  have hss : (bA S).size = S.length := bA_size S
  have HB : Hid (∀ V, Fr [] W V → QB V r S a d bad) := fun V f => h.fr f (by simp)
  have c0 : W.cell? ⟨r, 0, none⟩ = some (.string (bA S)) := h.cl 0
  have c1 : W.cell? ⟨r, 1, none⟩ = some (.int .i64 (a : Int)) := h.cl 1
  clear h
  have a0 : (0 : Int) ≤ (a : Int) := by omega
  have HQ : Hid (numQ (S.drop a) = none) := by
    have hp : pieceQ (S.drop a) = [] := by
      cases hr : S.drop a with
      | nil => rfl
      | cons c t =>
        have hc : S[a]? = some c := by
          have h0 : S[a]? = (S.drop a)[0]? := by rw [List.getElem?_drop]; rfl
          rw [h0, hr]; rfl
        rw [piece_cons, if_neg (hno c hc).1, List.takeWhile_cons_of_neg (by rw [(hno c hc).2]; exact Bool.false_ne_true)]
    show numQ (S.drop a) = none
    unfold numQ
    rw [hp, show valQ [] = 0 from rfl, itoa0]
    rfl
  have hor0 : (decide ((a : Int) < (S.length : Int)) = false ∧ ¬ (a : Int) < (S.length : Int)) ∨ ∃ b, ∃ hi : a < (bA S).size, (bA S)[a] = b ∧ decide ((a : Int) < (S.length : Int)) = true ∧ (a : Int) < (S.length : Int) ∧ ((b.toNat : Int) == 45) = false ∧ (decide ((b.toNat : Int) ≥ 48) = false ∨ (decide ((b.toNat : Int) ≥ 48) = true ∧ decide ((b.toNat : Int) ≤ 57) = false)) := by
    by_cases hl : a < S.length
    · right
      obtain ⟨hi, hb⟩ := byte_at S a S[a] (List.getElem?_eq_getElem hl)
      obtain ⟨n1, n2⟩ := hno S[a] (List.getElem?_eq_getElem hl)
      refine ⟨S[a], hi, hb, decide_eq_true (by omega), by omega, ?_, ?_⟩
      · have h2 : ¬ ((S[a]).toNat : Int) = 45 := fun q => n1 (UInt8.toNat_inj.1 (show (S[a]).toNat = 45 by omega))
        simpa using h2
      · by_cases q : 48 ≤ (S[a]).toNat
        · right
          refine ⟨decide_eq_true (by omega), decide_eq_false ?_⟩
          unfold dgB at n2
          rw [decide_eq_true q, Bool.true_and] at n2
          have := of_decide_eq_false n2
          omega
        · left; exact decide_eq_false (by omega)
    · left
      exact ⟨decide_eq_false (by omega), by omega⟩
  have HIt : Hid (∀ V, Fr [] W V → Calls Tryz.prog 46 #[.int .i64 0] V fun e w' => e = .returned (.string (bA (Lib.itoa 0))) ∧ Fr [] V w') := fun V fV => itoa_ok 0 r64_0 V (hP.idle fV)
  have HFin : Hid (∀ V, Fr [] W V → V.cell? ⟨r, 0, none⟩ = some (.string (bA S)) ∧ V.cell? ⟨r, 1, none⟩ = some (.int .i64 (a : Int)) ∧ V.cell? ⟨r, 3, none⟩ = some (.bool bad) ∧ V.frozen? ⟨r, 3, none⟩ = false ∧ NuR W r S a d bad (.returned (.int .i64 0)) (V.setCell ⟨r, 3, none⟩ (.bool true))) := fun V fV => by
    have hq := HB.out V fV
    refine ⟨hq.cl 0, hq.cl 1, hq.cl 3, hq.fz 3, ?_⟩
    refine ⟨(fV.mono (S' := [r]) (by simp)).trans (fr_set V r 3 _) (by simp), ?_⟩
    rw [HQ.out]
    exact ⟨rfl, hq.setBad true⟩
  have hlt : decide ((a : Int) < (a : Int)) = false := by simp
  have hbb : (bA (Lib.itoa 0)).toList.isEmpty = false := by
    rw [itoa0, bA_tl]
    rfl
  have hae : (a : Int) ≤ (a : Int) := Int.le_refl _
  have hel2 : (a : Int) ≤ (S.length : Int) := by omega
  have HBB := mkHid hbb
  clear hno HB hP hle HQ hbb
  rcases hor0 with ⟨hd0, hd00⟩ | ⟨b, hi, hb, hd0, hd00, hd01, hd2 | ⟨hd2, hd3⟩⟩
  all_goals
    go_enter Tryz.func40, Tryz.ntmps40
    go_wp2_with fail
    go_loopw [3] (fun q wr => W = wr ∧ q = .int .i64 (a : Int)) (fun _ _ => 0)
    case atStart => exact ⟨rfl, rfl⟩
    obtain ⟨rfl, rfl⟩ := hrel
    go_wp2_with fail
    go_loopw [4, 5] (fun nv q wr => W = wr ∧ q = .int .i64 (a : Int) ∧ nv = .int .i64 0) (fun _ _ _ => 0)
    case atStart => exact ⟨rfl, rfl, rfl⟩
    obtain ⟨rfl, rfl, rfl⟩ := hrel
    go_wp2_with fail
    have HS0 : Hid (W.drew.cell? ⟨r, 0, none⟩ = some (.string (bA S)) ∧ W.drew.cell? ⟨r, 1, none⟩ = some (.int .i64 (a : Int))) := ⟨c0, c1⟩
    refine wp_region_h (S := fun V => V.cell? ⟨r, 0, none⟩ = some (.string (bA S)) ∧ V.cell? ⟨r, 1, none⟩ = some (.int .i64 (a : Int))) (by kernel_rfl) HS0.out (fun hHeld => ?_)
    refine wpAnyH_take (i := 0) (v := ?_) rfl (by kernel_rfl) (by kernel_rfl) (by kernel_rfl) (fun _ _ _ h => h) (Or.inl ⟨by rfl, ?_⟩) (by assumption) ?_
    rotate_left
    · (intro w hSw; (try dsimp only at hSw); first | (go_simp; done) | (go_simp; with_reducible rfl))
    try simp only [Act.put, qT, qZ, qS, qB, qY, qX]
    refine wpAnyH_take (i := 1) (v := ?_) rfl (by kernel_rfl) (by kernel_rfl) (by kernel_rfl) (fun _ _ _ h => h) (Or.inl ⟨by rfl, ?_⟩) (by assumption) ?_
    rotate_left
    · (intro w hSw; (try dsimp only at hSw); first | (go_simp; done) | (go_simp; with_reducible rfl))
    try simp only [Act.put, qT, qZ, qS, qB, qY, qX]
    refine wpAnyH_take (i := 2) (v := ?_) rfl (by kernel_rfl) (by kernel_rfl) (by kernel_rfl) (fun _ _ _ h => h) (Or.inl ⟨by rfl, ?_⟩) (by assumption) ?_
    rotate_left
    · (intro w hSw; (try dsimp only at hSw); first | (go_simp; done) | (go_simp; with_reducible rfl))
    try simp only [Act.put, qT, qZ, qS, qB, qY, qX]
    refine wpAnyH_take (i := 3) (v := ?_) rfl (by kernel_rfl) (by kernel_rfl) (by kernel_rfl) (fun _ _ _ h => h) (Or.inl ⟨by rfl, ?_⟩) (by assumption) ?_
    rotate_left
    · (intro w hSw; (try dsimp only at hSw); first | (go_simp; done) | (go_simp; with_reducible rfl))
    try simp only [Act.put, qT, qZ, qS, qB, qY, qX]
    refine wpAnyH_take (i := 4) (v := ?_) rfl (by kernel_rfl) (by kernel_rfl) (by kernel_rfl) (fun _ _ _ h => h) (Or.inl ⟨by rfl, ?_⟩) (by assumption) ?_
    rotate_left
    · (intro w hSw; (try dsimp only at hSw); first | (go_simp; done) | (go_simp; with_reducible rfl))
    try simp only [Act.put, qT, qZ, qS, qB, qY, qX]
    refine wpAnyH_take (i := 5) (v := .bool false) rfl (by kernel_rfl) (by kernel_rfl) (by kernel_rfl) (fun _ _ _ h => h) (Or.inl ⟨by rfl, ?_⟩) (by assumption) ?_
    · (intro w hSw; (try dsimp only at hSw); first | (go_simp; done) | (go_simp; with_reducible rfl))
    try simp only [Act.put, qT, qZ, qS, qB, qY, qX]
    refine wpAnyH_take (i := 6) (v := .bool false) rfl (by kernel_rfl) (by kernel_rfl) (by kernel_rfl) (fun _ _ _ h => h) (Or.inl ⟨by rfl, ?_⟩) (by assumption) ?_
    · (intro w hSw; (try dsimp only at hSw); first | (go_simp; done) | (go_simp; with_reducible rfl))
    try simp only [Act.put, qT, qZ, qS, qB, qY, qX]
    refine wpAnyH_take (i := 7) (v := undef) rfl (by kernel_rfl) (by kernel_rfl) (by kernel_rfl) (fun _ _ _ h => h) (Or.inr ⟨by rfl, rfl⟩) (by assumption) ?_
    try simp only [Act.put, qT, qZ, qS, qB, qY, qX]
    refine wpAnyH_take (i := 8) (v := undef) rfl (by kernel_rfl) (by kernel_rfl) (by kernel_rfl) (fun _ _ _ h => h) (Or.inr ⟨by rfl, rfl⟩) (by assumption) ?_
    try simp only [Act.put, qT, qZ, qS, qB, qY, qX]
    refine wpAnyH_take (i := 9) (v := undef) rfl (by kernel_rfl) (by kernel_rfl) (by kernel_rfl) (fun _ _ _ h => h) (Or.inr ⟨by rfl, rfl⟩) (by assumption) ?_
    try simp only [Act.put, qT, qZ, qS, qB, qY, qX]
    refine wpAnyH_take (i := 10) (v := undef) rfl (by kernel_rfl) (by kernel_rfl) (by kernel_rfl) (fun _ _ _ h => h) (Or.inr ⟨by rfl, rfl⟩) (by assumption) ?_
    try simp only [Act.put, qT, qZ, qS, qB, qY, qX]
    refine wpAnyH_take (i := 11) (v := undef) rfl (by kernel_rfl) (by kernel_rfl) (by kernel_rfl) (fun _ _ _ h => h) (Or.inr ⟨by rfl, rfl⟩) (by assumption) ?_
    try simp only [Act.put, qT, qZ, qS, qB, qY, qX]
    refine wpAnyH_take (i := 12) (v := undef) rfl (by kernel_rfl) (by kernel_rfl) (by kernel_rfl) (fun _ _ _ h => h) (Or.inr ⟨by rfl, rfl⟩) (by assumption) ?_
    try simp only [Act.put, qT, qZ, qS, qB, qY, qX]
    refine wpAnyH_take (i := 13) (v := undef) rfl (by kernel_rfl) (by kernel_rfl) (by kernel_rfl) (fun _ _ _ h => h) (Or.inr ⟨by rfl, rfl⟩) (by assumption) ?_
    try simp only [Act.put, qT, qZ, qS, qB, qY, qX]
    refine wpAnyH_take (i := 14) (v := undef) rfl (by kernel_rfl) (by kernel_rfl) (by kernel_rfl) (fun _ _ _ h => h) (Or.inr ⟨by rfl, rfl⟩) (by assumption) ?_
    try simp only [Act.put, qT, qZ, qS, qB, qY, qX]
    refine wpAnyH_take (i := 15) (v := undef) rfl (by kernel_rfl) (by kernel_rfl) (by kernel_rfl) (fun _ _ _ h => h) (Or.inr ⟨by rfl, rfl⟩) (by assumption) ?_
    try simp only [Act.put, qT, qZ, qS, qB, qY, qX]
    refine wpAnyH_take (i := 16) (v := undef) rfl (by kernel_rfl) (by kernel_rfl) (by kernel_rfl) (fun _ _ _ h => h) (Or.inr ⟨by rfl, rfl⟩) (by assumption) ?_
    try simp only [Act.put, qT, qZ, qS, qB, qY, qX]
    refine wpAnyH_take (i := 17) (v := .bool false) rfl (by kernel_rfl) (by kernel_rfl) (by kernel_rfl) (fun _ _ _ h => h) (Or.inl ⟨by rfl, ?_⟩) (by assumption) ?_
    · (intro w hSw; (try dsimp only at hSw); first | (go_simp; done) | (go_simp; with_reducible rfl))
    try simp only [Act.put, qT, qZ, qS, qB, qY, qX]
    refine wpAnyH_done (by kernel_rfl) ?_ _
    clear hHeld HS0
    go_wp2_with fail
    have f2 : Fr [] W W.drew.drew := (Fr.drew [] W).tr0 (Fr.drew [] _)
    have HS0 : Hid (W.drew.drew.cell? ⟨r, 0, none⟩ = some (.string (bA S)) ∧ W.drew.drew.cell? ⟨r, 1, none⟩ = some (.int .i64 (a : Int)) ∧ Hid (Fr [] W W.drew.drew)) := ⟨c0, c1, f2⟩
    clear f2
    refine wp_region_h (S := fun V => V.cell? ⟨r, 0, none⟩ = some (.string (bA S)) ∧ V.cell? ⟨r, 1, none⟩ = some (.int .i64 (a : Int)) ∧ Hid (Fr [] W V)) (by kernel_rfl) HS0.out (fun hHeld => ?_)
    refine wpAnyH_take (i := 0) (v := ?_) rfl (by kernel_rfl) (by kernel_rfl) (by kernel_rfl) (fun _ _ _ h => h) (Or.inl ⟨by rfl, ?_⟩) (by assumption) ?_
    rotate_left
    · (intro w hSw; (try dsimp only at hSw); first | (go_simp; done) | (go_simp; with_reducible rfl))
    try simp only [Act.put, qT, qZ, qS, qB, qY, qX]
    refine wpAnyH_take (i := 2) (v := ?_) rfl (by kernel_rfl) (by kernel_rfl) (by kernel_rfl) (fun _ _ _ h => h) (Or.inl ⟨by rfl, ?_⟩) (by assumption) ?_
    rotate_left
    · (intro w hSw; (try dsimp only at hSw); first | (go_simp; done) | (go_simp; with_reducible rfl))
    try simp only [Act.put, qT, qZ, qS, qB, qY, qX]
    refine wpAnyH_take (i := 3) (v := ?_) rfl (by kernel_rfl) (by kernel_rfl) (by kernel_rfl) (fun _ _ _ h => h) (Or.inl ⟨by rfl, ?_⟩) (by assumption) ?_
    rotate_left
    · (intro w hSw; (try dsimp only at hSw); first | (go_simp; done) | (go_simp; with_reducible rfl))
    try simp only [Act.put, qT, qZ, qS, qB, qY, qX]
    refine wpAnyH_take (i := 4) (v := ?_) rfl (by kernel_rfl) (by kernel_rfl) (by kernel_rfl) (fun _ _ _ h => h) (Or.inl ⟨by rfl, ?_⟩) (by assumption) ?_
    rotate_left
    · (intro w hSw; (try dsimp only at hSw); first | (go_simp; done) | (go_simp; with_reducible rfl))
    try simp only [Act.put, qT, qZ, qS, qB, qY, qX]
    refine wpAnyH_take (i := 5) (v := ?_) rfl (by kernel_rfl) (by kernel_rfl) (by kernel_rfl) (fun _ _ _ h => h) (Or.inl ⟨by rfl, ?_⟩) (by assumption) ?_
    rotate_left
    · (intro w hSw; (try dsimp only at hSw); first | (go_simp; done) | (go_simp; with_reducible rfl))
    try simp only [Act.put, qT, qZ, qS, qB, qY, qX]
    refine wpAnyH_take (i := 6) (v := ?_) rfl (by kernel_rfl) (by kernel_rfl) (by kernel_rfl) (fun _ _ _ h => h) (Or.inl ⟨by rfl, ?_⟩) (by assumption) ?_
    rotate_left
    · (intro w hSw; (try dsimp only at hSw); first | (go_simp; done) | (go_simp; with_reducible rfl))
    try simp only [Act.put, qT, qZ, qS, qB, qY, qX]
    refine wpAnyH_take (i := 7) (v := ?_) rfl (by kernel_rfl) (by kernel_rfl) (by kernel_rfl) (fun _ _ _ h => h) (Or.inl ⟨by rfl, ?_⟩) (by assumption) ?_
    rotate_left
    · (intro w hSw; (try dsimp only at hSw); first | (go_simp; done) | (go_simp; with_reducible rfl))
    try simp only [Act.put, qT, qZ, qS, qB, qY, qX]
    refine wpAnyH_take (i := 8) (v := ?_) rfl (by kernel_rfl) (by kernel_rfl) (by kernel_rfl) (fun _ _ _ h => h) (Or.inl ⟨by rfl, ?_⟩) (by assumption) ?_
    rotate_left
    · (intro w hSw; (try dsimp only at hSw); first | (go_simp; done) | (go_simp; with_reducible rfl))
    try simp only [Act.put, qT, qZ, qS, qB, qY, qX]
    refine wpAnyH_take (i := 9) (v := ?_) rfl (by kernel_rfl) (by kernel_rfl) (by kernel_rfl) (fun _ _ _ h => h) (Or.inl ⟨by rfl, ?_⟩) (by assumption) ?_
    rotate_left
    · (intro w hSw; (try dsimp only at hSw); first | (go_simp; done) | (go_simp; with_reducible rfl))
    try simp only [Act.put, qT, qZ, qS, qB, qY, qX]
    refine wpAnyH_take (i := 10) (v := ?_) rfl (by kernel_rfl) (by kernel_rfl) (by kernel_rfl) (fun _ _ _ h => h) (Or.inl ⟨by rfl, ?_⟩) (by assumption) ?_
    rotate_left
    · (intro w hSw; (try dsimp only at hSw); first | (go_simp; done) | (go_simp; with_reducible rfl))
    try simp only [Act.put, qT, qZ, qS, qB, qY, qX]
    refine wpAnyH_take (i := 11) (v := ?_) rfl (by kernel_rfl) (by kernel_rfl) (by kernel_rfl) (fun _ _ _ h => h) (Or.inl ⟨by rfl, ?_⟩) (by assumption) ?_
    rotate_left
    · (intro w hSw; (try dsimp only at hSw); first | (go_simp; done) | (go_simp; with_reducible rfl))
    try simp only [Act.put, qT, qZ, qS, qB, qY, qX]
    refine wpH_one (i := 1) (by kernel_rfl) rfl (fun K hK => ?_)
    go_simp
    refine (HIt.out _ ?_).mono ?_
    · exact HS0.out.2.2.out
    rintro e w1 ⟨rfl, f1'⟩
    have f1 : Fr [] W w1 := HS0.out.2.2.out.tr0 f1'
    obtain ⟨y0, y1, y3, z3, hF2⟩ := HFin.out w1 f1
    have HF2 := mkHid hF2
    have HF := mkHid f1
    clear f1 f1' hF2 c0 c1 HFin HIt HS0 hHeld
    try go_wp2_with fail
    refine hK.out _ _ ⟨y0, y1, HF⟩ (fun hHeld => ?_)
    clear hK K
    try simp only [Act.put, qT, qZ, qS, qB, qY, qX]
    have hbb := HBB.out
    refine wpAnyH_take (i := 12) (v := ?_) rfl (by kernel_rfl) (by kernel_rfl) (by kernel_rfl) (fun _ _ _ h => h) (Or.inl ⟨by rfl, ?_⟩) (by assumption) ?_
    rotate_left
    · (intro w hSw; (try dsimp only at hSw); first | (go_simp; done) | (go_simp; with_reducible rfl))
    try simp only [Act.put, qT, qZ, qS, qB, qY, qX]
    refine wpAnyH_done (by kernel_rfl) ?_ _
    go_wp2_with fail
    go_ret
    exact HF2.out
end Go.Proofs.YtclkoffnjiiioaaGreatDoor
