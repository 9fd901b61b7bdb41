import Derived.Test.YtfhkhmgodkheaaaGreatDoorNG36TKn
set_option linter.unusedSimpArgs false
set_option linter.unusedVariables false
namespace Go.Proofs.YtfhkhmgodkheaaaGreatDoor
open Go.RowKit Go.Maps
def nestL (bl : Bool) : Nat → Bs
 | 0 => [120]
 | i + 1 => (if bl = true then 91 else 40) :: (nestL bl i ++ [if bl = true then 93 else 41])
def nestN (bl : Bool) : Nat → Nat → Nd
 | 0, p => .mk 6 [120] 0 p [] [] []
 | r + 1, p => if bl = true then .mk 12 [] 0 p [] [] [nestN bl r (p + 1)] else nestN bl r (p + 1)
def nestS (bl : Bool) (k : Nat) : Src := ⟨[], 0, 0, [], [], [nestN bl k 0]⟩
def nestU (bl : Bool) (k : Nat) : Ts := match lexF 200 0 (nestL bl k) with | some (ts, _) => ts | none => []
def nestT (bl : Bool) (k : Nat) : Ts := nestU bl k ++ [(stopT, (nestL bl k).length)]
theorem nest_lex : ∀ k : Fin 40, ∀ bl : Bool, lexF 200 0 (nestL bl k) = some (nestU bl k, none) ∧ (nestL bl k).length ≤ 4096 := by decide +kernel
theorem nr_false_0 : readP (nestT false 0) (wholeP false (nestT false 0)) (fuelT (nestT false 0)) = some (some (nestS false 0), 0, 0) := by kernel_rfl
theorem nr_false_1 : readP (nestT false 1) (wholeP false (nestT false 1)) (fuelT (nestT false 1)) = some (some (nestS false 1), 0, 0) := by kernel_rfl
theorem nr_false_2 : readP (nestT false 2) (wholeP false (nestT false 2)) (fuelT (nestT false 2)) = some (some (nestS false 2), 0, 0) := by kernel_rfl
theorem nr_false_3 : readP (nestT false 3) (wholeP false (nestT false 3)) (fuelT (nestT false 3)) = some (some (nestS false 3), 0, 0) := by kernel_rfl
theorem nr_false_4 : readP (nestT false 4) (wholeP false (nestT false 4)) (fuelT (nestT false 4)) = some (some (nestS false 4), 0, 0) := by kernel_rfl
theorem nr_false_5 : readP (nestT false 5) (wholeP false (nestT false 5)) (fuelT (nestT false 5)) = some (some (nestS false 5), 0, 0) := by kernel_rfl
theorem nr_false_6 : readP (nestT false 6) (wholeP false (nestT false 6)) (fuelT (nestT false 6)) = some (some (nestS false 6), 0, 0) := by kernel_rfl
theorem nr_false_7 : readP (nestT false 7) (wholeP false (nestT false 7)) (fuelT (nestT false 7)) = some (some (nestS false 7), 0, 0) := by kernel_rfl
theorem nr_false_8 : readP (nestT false 8) (wholeP false (nestT false 8)) (fuelT (nestT false 8)) = some (some (nestS false 8), 0, 0) := by kernel_rfl
theorem nr_false_9 : readP (nestT false 9) (wholeP false (nestT false 9)) (fuelT (nestT false 9)) = some (some (nestS false 9), 0, 0) := by kernel_rfl
theorem nr_false_10 : readP (nestT false 10) (wholeP false (nestT false 10)) (fuelT (nestT false 10)) = some (some (nestS false 10), 0, 0) := by kernel_rfl
theorem nr_false_11 : readP (nestT false 11) (wholeP false (nestT false 11)) (fuelT (nestT false 11)) = some (some (nestS false 11), 0, 0) := by kernel_rfl
theorem nr_false_12 : readP (nestT false 12) (wholeP false (nestT false 12)) (fuelT (nestT false 12)) = some (some (nestS false 12), 0, 0) := by kernel_rfl
theorem nr_false_13 : readP (nestT false 13) (wholeP false (nestT false 13)) (fuelT (nestT false 13)) = some (some (nestS false 13), 0, 0) := by kernel_rfl
theorem nr_false_14 : readP (nestT false 14) (wholeP false (nestT false 14)) (fuelT (nestT false 14)) = some (some (nestS false 14), 0, 0) := by kernel_rfl
theorem nr_false_15 : readP (nestT false 15) (wholeP false (nestT false 15)) (fuelT (nestT false 15)) = some (some (nestS false 15), 0, 0) := by kernel_rfl
theorem nr_false_16 : readP (nestT false 16) (wholeP false (nestT false 16)) (fuelT (nestT false 16)) = some (some (nestS false 16), 0, 0) := by kernel_rfl
theorem nr_false_17 : readP (nestT false 17) (wholeP false (nestT false 17)) (fuelT (nestT false 17)) = some (some (nestS false 17), 0, 0) := by kernel_rfl
theorem nr_false_18 : readP (nestT false 18) (wholeP false (nestT false 18)) (fuelT (nestT false 18)) = some (some (nestS false 18), 0, 0) := by kernel_rfl
theorem nr_false_19 : readP (nestT false 19) (wholeP false (nestT false 19)) (fuelT (nestT false 19)) = some (some (nestS false 19), 0, 0) := by kernel_rfl
theorem nr_false_20 : readP (nestT false 20) (wholeP false (nestT false 20)) (fuelT (nestT false 20)) = some (some (nestS false 20), 0, 0) := by kernel_rfl
theorem nr_false_21 : readP (nestT false 21) (wholeP false (nestT false 21)) (fuelT (nestT false 21)) = some (some (nestS false 21), 0, 0) := by kernel_rfl
theorem nr_false_22 : readP (nestT false 22) (wholeP false (nestT false 22)) (fuelT (nestT false 22)) = some (some (nestS false 22), 0, 0) := by kernel_rfl
theorem nr_false_23 : readP (nestT false 23) (wholeP false (nestT false 23)) (fuelT (nestT false 23)) = some (some (nestS false 23), 0, 0) := by kernel_rfl
theorem nr_false_24 : readP (nestT false 24) (wholeP false (nestT false 24)) (fuelT (nestT false 24)) = some (some (nestS false 24), 0, 0) := by kernel_rfl
theorem nr_false_25 : readP (nestT false 25) (wholeP false (nestT false 25)) (fuelT (nestT false 25)) = some (none, 72, 24) := by kernel_rfl
theorem nr_false_26 : readP (nestT false 26) (wholeP false (nestT false 26)) (fuelT (nestT false 26)) = some (none, 72, 24) := by kernel_rfl
theorem nr_false_27 : readP (nestT false 27) (wholeP false (nestT false 27)) (fuelT (nestT false 27)) = some (none, 72, 24) := by kernel_rfl
theorem nr_false_28 : readP (nestT false 28) (wholeP false (nestT false 28)) (fuelT (nestT false 28)) = some (none, 72, 24) := by kernel_rfl
theorem nr_false_29 : readP (nestT false 29) (wholeP false (nestT false 29)) (fuelT (nestT false 29)) = some (none, 72, 24) := by kernel_rfl
theorem nr_false_30 : readP (nestT false 30) (wholeP false (nestT false 30)) (fuelT (nestT false 30)) = some (none, 72, 24) := by kernel_rfl
theorem nr_false_31 : readP (nestT false 31) (wholeP false (nestT false 31)) (fuelT (nestT false 31)) = some (none, 72, 24) := by kernel_rfl
theorem nr_false_32 : readP (nestT false 32) (wholeP false (nestT false 32)) (fuelT (nestT false 32)) = some (none, 72, 24) := by kernel_rfl
theorem nr_false_33 : readP (nestT false 33) (wholeP false (nestT false 33)) (fuelT (nestT false 33)) = some (none, 72, 24) := by kernel_rfl
theorem nr_false_34 : readP (nestT false 34) (wholeP false (nestT false 34)) (fuelT (nestT false 34)) = some (none, 72, 24) := by kernel_rfl
theorem nr_false_35 : readP (nestT false 35) (wholeP false (nestT false 35)) (fuelT (nestT false 35)) = some (none, 72, 24) := by kernel_rfl
theorem nr_false_36 : readP (nestT false 36) (wholeP false (nestT false 36)) (fuelT (nestT false 36)) = some (none, 72, 24) := by kernel_rfl
theorem nr_false_37 : readP (nestT false 37) (wholeP false (nestT false 37)) (fuelT (nestT false 37)) = some (none, 72, 24) := by kernel_rfl
theorem nr_false_38 : readP (nestT false 38) (wholeP false (nestT false 38)) (fuelT (nestT false 38)) = some (none, 72, 24) := by kernel_rfl
theorem nr_false_39 : readP (nestT false 39) (wholeP false (nestT false 39)) (fuelT (nestT false 39)) = some (none, 72, 24) := by kernel_rfl
theorem nr_true_0 : readP (nestT true 0) (wholeP false (nestT true 0)) (fuelT (nestT true 0)) = some (some (nestS true 0), 0, 0) := by kernel_rfl
theorem nr_true_1 : readP (nestT true 1) (wholeP false (nestT true 1)) (fuelT (nestT true 1)) = some (some (nestS true 1), 0, 0) := by kernel_rfl
theorem nr_true_2 : readP (nestT true 2) (wholeP false (nestT true 2)) (fuelT (nestT true 2)) = some (some (nestS true 2), 0, 0) := by kernel_rfl
theorem nr_true_3 : readP (nestT true 3) (wholeP false (nestT true 3)) (fuelT (nestT true 3)) = some (some (nestS true 3), 0, 0) := by kernel_rfl
theorem nr_true_4 : readP (nestT true 4) (wholeP false (nestT true 4)) (fuelT (nestT true 4)) = some (some (nestS true 4), 0, 0) := by kernel_rfl
theorem nr_true_5 : readP (nestT true 5) (wholeP false (nestT true 5)) (fuelT (nestT true 5)) = some (some (nestS true 5), 0, 0) := by kernel_rfl
theorem nr_true_6 : readP (nestT true 6) (wholeP false (nestT true 6)) (fuelT (nestT true 6)) = some (some (nestS true 6), 0, 0) := by kernel_rfl
theorem nr_true_7 : readP (nestT true 7) (wholeP false (nestT true 7)) (fuelT (nestT true 7)) = some (some (nestS true 7), 0, 0) := by kernel_rfl
theorem nr_true_8 : readP (nestT true 8) (wholeP false (nestT true 8)) (fuelT (nestT true 8)) = some (some (nestS true 8), 0, 0) := by kernel_rfl
theorem nr_true_9 : readP (nestT true 9) (wholeP false (nestT true 9)) (fuelT (nestT true 9)) = some (some (nestS true 9), 0, 0) := by kernel_rfl
theorem nr_true_10 : readP (nestT true 10) (wholeP false (nestT true 10)) (fuelT (nestT true 10)) = some (some (nestS true 10), 0, 0) := by kernel_rfl
theorem nr_true_11 : readP (nestT true 11) (wholeP false (nestT true 11)) (fuelT (nestT true 11)) = some (some (nestS true 11), 0, 0) := by kernel_rfl
theorem nr_true_12 : readP (nestT true 12) (wholeP false (nestT true 12)) (fuelT (nestT true 12)) = some (some (nestS true 12), 0, 0) := by kernel_rfl
theorem nr_true_13 : readP (nestT true 13) (wholeP false (nestT true 13)) (fuelT (nestT true 13)) = some (some (nestS true 13), 0, 0) := by kernel_rfl
theorem nr_true_14 : readP (nestT true 14) (wholeP false (nestT true 14)) (fuelT (nestT true 14)) = some (some (nestS true 14), 0, 0) := by kernel_rfl
theorem nr_true_15 : readP (nestT true 15) (wholeP false (nestT true 15)) (fuelT (nestT true 15)) = some (some (nestS true 15), 0, 0) := by kernel_rfl
theorem nr_true_16 : readP (nestT true 16) (wholeP false (nestT true 16)) (fuelT (nestT true 16)) = some (some (nestS true 16), 0, 0) := by kernel_rfl
theorem nr_true_17 : readP (nestT true 17) (wholeP false (nestT true 17)) (fuelT (nestT true 17)) = some (some (nestS true 17), 0, 0) := by kernel_rfl
theorem nr_true_18 : readP (nestT true 18) (wholeP false (nestT true 18)) (fuelT (nestT true 18)) = some (some (nestS true 18), 0, 0) := by kernel_rfl
theorem nr_true_19 : readP (nestT true 19) (wholeP false (nestT true 19)) (fuelT (nestT true 19)) = some (some (nestS true 19), 0, 0) := by kernel_rfl
theorem nr_true_20 : readP (nestT true 20) (wholeP false (nestT true 20)) (fuelT (nestT true 20)) = some (some (nestS true 20), 0, 0) := by kernel_rfl
theorem nr_true_21 : readP (nestT true 21) (wholeP false (nestT true 21)) (fuelT (nestT true 21)) = some (some (nestS true 21), 0, 0) := by kernel_rfl
theorem nr_true_22 : readP (nestT true 22) (wholeP false (nestT true 22)) (fuelT (nestT true 22)) = some (some (nestS true 22), 0, 0) := by kernel_rfl
theorem nr_true_23 : readP (nestT true 23) (wholeP false (nestT true 23)) (fuelT (nestT true 23)) = some (some (nestS true 23), 0, 0) := by kernel_rfl
theorem nr_true_24 : readP (nestT true 24) (wholeP false (nestT true 24)) (fuelT (nestT true 24)) = some (some (nestS true 24), 0, 0) := by kernel_rfl
theorem nr_true_25 : readP (nestT true 25) (wholeP false (nestT true 25)) (fuelT (nestT true 25)) = some (none, 72, 24) := by kernel_rfl
theorem nr_true_26 : readP (nestT true 26) (wholeP false (nestT true 26)) (fuelT (nestT true 26)) = some (none, 72, 24) := by kernel_rfl
theorem nr_true_27 : readP (nestT true 27) (wholeP false (nestT true 27)) (fuelT (nestT true 27)) = some (none, 72, 24) := by kernel_rfl
theorem nr_true_28 : readP (nestT true 28) (wholeP false (nestT true 28)) (fuelT (nestT true 28)) = some (none, 72, 24) := by kernel_rfl
theorem nr_true_29 : readP (nestT true 29) (wholeP false (nestT true 29)) (fuelT (nestT true 29)) = some (none, 72, 24) := by kernel_rfl
theorem nr_true_30 : readP (nestT true 30) (wholeP false (nestT true 30)) (fuelT (nestT true 30)) = some (none, 72, 24) := by kernel_rfl
theorem nr_true_31 : readP (nestT true 31) (wholeP false (nestT true 31)) (fuelT (nestT true 31)) = some (none, 72, 24) := by kernel_rfl
theorem nr_true_32 : readP (nestT true 32) (wholeP false (nestT true 32)) (fuelT (nestT true 32)) = some (none, 72, 24) := by kernel_rfl
theorem nr_true_33 : readP (nestT true 33) (wholeP false (nestT true 33)) (fuelT (nestT true 33)) = some (none, 72, 24) := by kernel_rfl
theorem nr_true_34 : readP (nestT true 34) (wholeP false (nestT true 34)) (fuelT (nestT true 34)) = some (none, 72, 24) := by kernel_rfl
theorem nr_true_35 : readP (nestT true 35) (wholeP false (nestT true 35)) (fuelT (nestT true 35)) = some (none, 72, 24) := by kernel_rfl
theorem nr_true_36 : readP (nestT true 36) (wholeP false (nestT true 36)) (fuelT (nestT true 36)) = some (none, 72, 24) := by kernel_rfl
theorem nr_true_37 : readP (nestT true 37) (wholeP false (nestT true 37)) (fuelT (nestT true 37)) = some (none, 72, 24) := by kernel_rfl
theorem nr_true_38 : readP (nestT true 38) (wholeP false (nestT true 38)) (fuelT (nestT true 38)) = some (none, 72, 24) := by kernel_rfl
theorem nr_true_39 : readP (nestT true 39) (wholeP false (nestT true 39)) (fuelT (nestT true 39)) = some (none, 72, 24) := by kernel_rfl
theorem nest_false (k : Nat) (hk : k < 40) : readP (nestT false k) (wholeP false (nestT false k)) (fuelT (nestT false k)) = if k ≤ 24 then some (some (nestS false k), 0, 0) else some (none, 72, 24) := by
 match k, hk with
 | 0, _ => exact nr_false_0
 | 1, _ => exact nr_false_1
 | 2, _ => exact nr_false_2
 | 3, _ => exact nr_false_3
 | 4, _ => exact nr_false_4
 | 5, _ => exact nr_false_5
 | 6, _ => exact nr_false_6
 | 7, _ => exact nr_false_7
 | 8, _ => exact nr_false_8
 | 9, _ => exact nr_false_9
 | 10, _ => exact nr_false_10
 | 11, _ => exact nr_false_11
 | 12, _ => exact nr_false_12
 | 13, _ => exact nr_false_13
 | 14, _ => exact nr_false_14
 | 15, _ => exact nr_false_15
 | 16, _ => exact nr_false_16
 | 17, _ => exact nr_false_17
 | 18, _ => exact nr_false_18
 | 19, _ => exact nr_false_19
 | 20, _ => exact nr_false_20
 | 21, _ => exact nr_false_21
 | 22, _ => exact nr_false_22
 | 23, _ => exact nr_false_23
 | 24, _ => exact nr_false_24
 | 25, _ => exact nr_false_25
 | 26, _ => exact nr_false_26
 | 27, _ => exact nr_false_27
 | 28, _ => exact nr_false_28
 | 29, _ => exact nr_false_29
 | 30, _ => exact nr_false_30
 | 31, _ => exact nr_false_31
 | 32, _ => exact nr_false_32
 | 33, _ => exact nr_false_33
 | 34, _ => exact nr_false_34
 | 35, _ => exact nr_false_35
 | 36, _ => exact nr_false_36
 | 37, _ => exact nr_false_37
 | 38, _ => exact nr_false_38
 | 39, _ => exact nr_false_39
 | n + 40, h => omega
theorem nest_true (k : Nat) (hk : k < 40) : readP (nestT true k) (wholeP false (nestT true k)) (fuelT (nestT true k)) = if k ≤ 24 then some (some (nestS true k), 0, 0) else some (none, 72, 24) := by
 match k, hk with
 | 0, _ => exact nr_true_0
 | 1, _ => exact nr_true_1
 | 2, _ => exact nr_true_2
 | 3, _ => exact nr_true_3
 | 4, _ => exact nr_true_4
 | 5, _ => exact nr_true_5
 | 6, _ => exact nr_true_6
 | 7, _ => exact nr_true_7
 | 8, _ => exact nr_true_8
 | 9, _ => exact nr_true_9
 | 10, _ => exact nr_true_10
 | 11, _ => exact nr_true_11
 | 12, _ => exact nr_true_12
 | 13, _ => exact nr_true_13
 | 14, _ => exact nr_true_14
 | 15, _ => exact nr_true_15
 | 16, _ => exact nr_true_16
 | 17, _ => exact nr_true_17
 | 18, _ => exact nr_true_18
 | 19, _ => exact nr_true_19
 | 20, _ => exact nr_true_20
 | 21, _ => exact nr_true_21
 | 22, _ => exact nr_true_22
 | 23, _ => exact nr_true_23
 | 24, _ => exact nr_true_24
 | 25, _ => exact nr_true_25
 | 26, _ => exact nr_true_26
 | 27, _ => exact nr_true_27
 | 28, _ => exact nr_true_28
 | 29, _ => exact nr_true_29
 | 30, _ => exact nr_true_30
 | 31, _ => exact nr_true_31
 | 32, _ => exact nr_true_32
 | 33, _ => exact nr_true_33
 | 34, _ => exact nr_true_34
 | 35, _ => exact nr_true_35
 | 36, _ => exact nr_true_36
 | 37, _ => exact nr_true_37
 | 38, _ => exact nr_true_38
 | 39, _ => exact nr_true_39
 | n + 40, h => omega
theorem nest_lexR (bl : Bool) (k : Nat) (hk : k < 40) : LexR (nestL bl k) (nestT bl k) 0 0 := by
 obtain ⟨h1, h2⟩ := nest_lex ⟨k, hk⟩ bl
 exact Or.inr ⟨h2, nestU bl k, none, lx_of 200 0 _ _ _ h1, Or.inl ⟨rfl, rfl, rfl, rfl⟩⟩
theorem nest_good (bl : Bool) (k : Nat) (hk : k ≤ 24) : Reads false (nestL bl k) (some (nestS bl k)) 0 0 := by
 refine ⟨_, 0, 0, nest_lexR bl k (by omega), Or.inr ⟨rfl, ?_⟩⟩
 cases bl
 ·rw [nest_false k (by omega), if_pos hk]
 ·rw [nest_true k (by omega), if_pos hk]
theorem nest_deep (bl : Bool) (k : Nat) (hk : 24 < k) (hk2 : k < 40) : Reads false (nestL bl k) none 72 24 := by
 refine ⟨_, 0, 0, nest_lexR bl k hk2, Or.inr ⟨rfl, ?_⟩⟩
 cases bl
 ·rw [nest_false k hk2, if_neg (by omega)]
 ·rw [nest_true k hk2, if_neg (by omega)]
theorem nestL_step (bl : Bool) (i : Nat) : nestL bl (i + 1) = (if bl = true then 91 else 40) :: (nestL bl i ++ [if bl = true then 93 else 41]) := rfl
theorem nestL_len (bl : Bool) : ∀ i, (nestL bl i).length = 2 * i + 1 := by
 intro i
 induction i with
 | zero => rfl
 | succ i ih => rw [nestL_step]; simp [ih]; omega
set_option maxHeartbeats 8000000 in
set_option maxRecDepth 1000000 in
theorem nd_false_p (n : Int) (k : Nat) (hm : n.tmod 40 = (k : Int)) (hk : 24 < k) (hk2 : k < 40) (w : World) (hE : Env w) : Calls Tryz.prog 3 #[.int .i64 n, .bool false] w fun e w' => e = .returned (.bool true) ∧ Bl w w' := by
 have HK := mkHid (pknown_ok w hE)
 have HD := mkHid (fun V (bl : Bl w V) => doit_top (ba (nestL false k)) none 72 24 V (hE.mono bl).tab (by rw [← lst_len, lst_ba, nestL_len]; omega) (by rw [lst_ba]; exact nest_deep false k hk hk2))
 have HSt : Hid (∀ i, (⟨#[40]⟩ : ByteArray) ++ ba (nestL false i) ++ ⟨#[41]⟩ = ba (nestL false (i + 1))) := mkHid (fun i => by
  rw [show (⟨#[40]⟩ : ByteArray) = ba [40] from rfl, show (⟨#[41]⟩ : ByteArray) = ba [41] from rfl, ba_app, ba_app]
  rfl)
 have HSz : Hid (∀ i, (ba (nestL false i)).size = 2 * i + 1) := mkHid (fun i => by rw [← lst_len, lst_ba, nestL_len])
 have q1 : ¬ (k : Int) < 0 := by omega
 have v1 : IntKind.i64.wrap ((k : Int) - 40 + 40) = (k : Int) := by rw [wrap_id _ (by omega) (by omega)]; omega
 have v2 : IntKind.i64.wrap ((k : Int) - 40) = (k : Int) - 40 := wrap_id _ (by omega) (by omega)
 have v3 : IntKind.i64.wrap (k : Int) = (k : Int) := wrap_id _ (by omega) (by omega)
 have hk3 : (24 : Int) < k := by omega
 clear hE
 go_enter Tryz.func3, Tryz.ntmps3
 go_wp2_with (go_at_call 9; refine HK.out.mono ?_; rintro e w1 ⟨rfl, b1⟩)
 go_loopw [9, 10] (fun s q wr => ∃ i : Nat, i ≤ k ∧ s = .string (ba (nestL false i)) ∧ q = .int .i64 i ∧ wr = w1) (fun _ q _ => k - (intOf q).toNat)
 case atStart => exact ⟨0, Nat.zero_le _, rfl, rfl, rfl⟩
 case round =>
  obtain ⟨i, hi, rfl, rfl, hwr⟩ := hrel
  have hwr2 := hwr.symm
  subst hwr2
  by_cases hin : i < k
  ·have hii : (i : Int) < k := by omega
   have hst := HSt.out i
   have hs1 := HSz.out i
   have hs2 : ((⟨#[40]⟩ : ByteArray) ++ ba (nestL false i)).size = 2 * i + 2 := by rw [ByteArray.size_append, hs1]; show 1 + _ = _; omega
   clear HSt HSz HK HD
   go_wp2_with fail
   all_goals first
    | (exfalso; omega)
    | (
     go_roundw
     case rel => exact ⟨i + 1, by omega, by first | rfl | rw [hst], by go_num, by first | rfl | trivial⟩
     case measure => simp [intOf]; omega)
  ·have hie : ¬ (i : Int) < k := by omega
   have hi2 : i = k := by omega
   subst hi2
   have HD1 := mkHid (HD.out w1 b1)
   clear HSt HSz HK HD
   have HNs : Hid (noSrc = .agg #[.string ⟨#[]⟩, .int .i64 0, .int .i64 0, .slice none 0 0, .slice none 0 0, .slice none 0 0]) := mkHid rfl
   go_wp2_with (first
    | (
     go_at_call 10; refine HD1.out.mono ?_; rintro e w2 ⟨b2, hr⟩
     dsimp only at hr
     rw [HNs.out] at hr
     subst hr
     obtain ⟨W7, hW7⟩ : ∃ X, (w2.alloc (.cells #[.string ⟨#[]⟩, .int .i64 0, .int .i64 0, .slice none 0 0, .slice none 0 0, .slice none 0 0] 27)).alloc (.cells #[.int .i64 0, .int .i64 0] 30) = X := ⟨_, rfl⟩
     obtain ⟨b7, s7, h0, h1⟩ := two_boxes hW7
     have H0 : Hid (W7.heap[w2.heap.size]? = some (.cells #[.string ⟨#[]⟩, .int .i64 0, .int .i64 0, .slice none 0 0, .slice none 0 0, .slice none 0 0] 27 (0, 0))) := mkHid h0
     obtain ⟨W8, hW8⟩ : ∃ X, W7.setRow w2.heap.size #[.string ⟨#[]⟩, .int .i64 0, .int .i64 0, .slice none 0 0, .slice none 0 0, .slice none 0 0] = X := ⟨_, rfl⟩
     have f8 : Fr [w2.heap.size] W7 W8 := hW8 ▸ row_fr _ _ _
     have H1 : Hid (W8.heap[w2.heap.size + 1]? = some (.cells #[.int .i64 0, .int .i64 0] 30 (0, 0))) := mkHid ((f8.block _ (lt_of_heap h1) (by simp)).trans h1)
     have k8 : W8.heap[w2.heap.size]? = some (.cells #[.string ⟨#[]⟩, .int .i64 0, .int .i64 0, .slice none 0 0, .slice none 0 0, .slice none 0 0] 27 (0, 0)) := hW8 ▸ setRow_heap _ _ _ _ 27 (0, 0) H0.out
     obtain ⟨W9, hW9⟩ : ∃ X, W8.setRow (w2.heap.size + 1) #[.int .i64 72, .int .i64 24] = X := ⟨_, rfl⟩
     have f9 : Fr [w2.heap.size + 1] W8 W9 := hW9 ▸ row_fr _ _ _
     have n1 : W9.heap[w2.heap.size + 1]? = some (.cells #[.int .i64 72, .int .i64 24] 30 (0, 0)) := hW9 ▸ setRow_heap _ _ _ _ 30 (0, 0) H1.out
     have n0 := (f9.block _ (lt_of_heap k8) (by simp)).trans k8
     have B9 : Bl w2 W9 := ((((Fr.ofBl b7 []).trans f8 (by simp)).trans f9 (by simp)).bl (by simp))
     have y0 : W9.cell? ⟨w2.heap.size + 1, 0, none⟩ = some (.int .i64 72) := by (rw [cell_in n1]; rfl)
     have y1 : W9.cell? ⟨w2.heap.size + 1, 1, none⟩ = some (.int .i64 24) := by (rw [cell_in n1]; rfl)
     have y3 : W9.cell? ⟨w2.heap.size, 5, none⟩ = some (.slice none 0 0) := by (rw [cell_in n0]; rfl)
     have BZ := mkHid (b1.trans (b2.trans B9))
     clear b7 s7 h0 h1 f8 f9 n1 n0 k8 B9 b2)
    | (refine wpList_store_row rfl 27 _ _ rfl w2.heap.size #[.string ⟨#[]⟩, .int .i64 0, .int .i64 0, .slice none 0 0, .slice none 0 0, .slice none 0 0] rfl rfl 27 _ H0.out (by kernel_rfl) rfl (by kernel_rfl) ?_; rw [hW8])
    | (refine wpList_store_row rfl 30 _ _ rfl (w2.heap.size + 1) #[.int .i64 72, .int .i64 24] rfl rfl 30 _ H1.out (by kernel_rfl) rfl (by kernel_rfl) ?_; rw [hW9]))
   go_ret
   exact ⟨rfl, BZ.out⟩
set_option maxHeartbeats 8000000 in
set_option maxRecDepth 1000000 in
theorem nd_false_n (n : Int) (k : Nat) (hm : n.tmod 40 = (k : Int) - 40) (hk : 24 < k) (hk2 : k < 40) (w : World) (hE : Env w) : Calls Tryz.prog 3 #[.int .i64 n, .bool false] w fun e w' => e = .returned (.bool true) ∧ Bl w w' := by
 have HK := mkHid (pknown_ok w hE)
 have HD := mkHid (fun V (bl : Bl w V) => doit_top (ba (nestL false k)) none 72 24 V (hE.mono bl).tab (by rw [← lst_len, lst_ba, nestL_len]; omega) (by rw [lst_ba]; exact nest_deep false k hk hk2))
 have HSt : Hid (∀ i, (⟨#[40]⟩ : ByteArray) ++ ba (nestL false i) ++ ⟨#[41]⟩ = ba (nestL false (i + 1))) := mkHid (fun i => by
  rw [show (⟨#[40]⟩ : ByteArray) = ba [40] from rfl, show (⟨#[41]⟩ : ByteArray) = ba [41] from rfl, ba_app, ba_app]
  rfl)
 have HSz : Hid (∀ i, (ba (nestL false i)).size = 2 * i + 1) := mkHid (fun i => by rw [← lst_len, lst_ba, nestL_len])
 have q1 : (k : Int) - 40 < 0 := by omega
 have v1 : IntKind.i64.wrap ((k : Int) - 40 + 40) = (k : Int) := by rw [wrap_id _ (by omega) (by omega)]; omega
 have v2 : IntKind.i64.wrap ((k : Int) - 40) = (k : Int) - 40 := wrap_id _ (by omega) (by omega)
 have v3 : IntKind.i64.wrap (k : Int) = (k : Int) := wrap_id _ (by omega) (by omega)
 have hk3 : (24 : Int) < k := by omega
 clear hE
 go_enter Tryz.func3, Tryz.ntmps3
 go_wp2_with (go_at_call 9; refine HK.out.mono ?_; rintro e w1 ⟨rfl, b1⟩)
 go_loopw [9, 10] (fun s q wr => ∃ i : Nat, i ≤ k ∧ s = .string (ba (nestL false i)) ∧ q = .int .i64 i ∧ wr = w1) (fun _ q _ => k - (intOf q).toNat)
 case atStart => exact ⟨0, Nat.zero_le _, rfl, rfl, rfl⟩
 case round =>
  obtain ⟨i, hi, rfl, rfl, hwr⟩ := hrel
  have hwr2 := hwr.symm
  subst hwr2
  by_cases hin : i < k
  ·have hii : (i : Int) < k := by omega
   have hst := HSt.out i
   have hs1 := HSz.out i
   have hs2 : ((⟨#[40]⟩ : ByteArray) ++ ba (nestL false i)).size = 2 * i + 2 := by rw [ByteArray.size_append, hs1]; show 1 + _ = _; omega
   clear HSt HSz HK HD
   go_wp2_with fail
   all_goals first
    | (exfalso; omega)
    | (
     go_roundw
     case rel => exact ⟨i + 1, by omega, by first | rfl | rw [hst], by go_num, by first | rfl | trivial⟩
     case measure => simp [intOf]; omega)
  ·have hie : ¬ (i : Int) < k := by omega
   have hi2 : i = k := by omega
   subst hi2
   have HD1 := mkHid (HD.out w1 b1)
   clear HSt HSz HK HD
   have HNs : Hid (noSrc = .agg #[.string ⟨#[]⟩, .int .i64 0, .int .i64 0, .slice none 0 0, .slice none 0 0, .slice none 0 0]) := mkHid rfl
   go_wp2_with (first
    | (
     go_at_call 10; refine HD1.out.mono ?_; rintro e w2 ⟨b2, hr⟩
     dsimp only at hr
     rw [HNs.out] at hr
     subst hr
     obtain ⟨W7, hW7⟩ : ∃ X, (w2.alloc (.cells #[.string ⟨#[]⟩, .int .i64 0, .int .i64 0, .slice none 0 0, .slice none 0 0, .slice none 0 0] 27)).alloc (.cells #[.int .i64 0, .int .i64 0] 30) = X := ⟨_, rfl⟩
     obtain ⟨b7, s7, h0, h1⟩ := two_boxes hW7
     have H0 : Hid (W7.heap[w2.heap.size]? = some (.cells #[.string ⟨#[]⟩, .int .i64 0, .int .i64 0, .slice none 0 0, .slice none 0 0, .slice none 0 0] 27 (0, 0))) := mkHid h0
     obtain ⟨W8, hW8⟩ : ∃ X, W7.setRow w2.heap.size #[.string ⟨#[]⟩, .int .i64 0, .int .i64 0, .slice none 0 0, .slice none 0 0, .slice none 0 0] = X := ⟨_, rfl⟩
     have f8 : Fr [w2.heap.size] W7 W8 := hW8 ▸ row_fr _ _ _
     have H1 : Hid (W8.heap[w2.heap.size + 1]? = some (.cells #[.int .i64 0, .int .i64 0] 30 (0, 0))) := mkHid ((f8.block _ (lt_of_heap h1) (by simp)).trans h1)
     have k8 : W8.heap[w2.heap.size]? = some (.cells #[.string ⟨#[]⟩, .int .i64 0, .int .i64 0, .slice none 0 0, .slice none 0 0, .slice none 0 0] 27 (0, 0)) := hW8 ▸ setRow_heap _ _ _ _ 27 (0, 0) H0.out
     obtain ⟨W9, hW9⟩ : ∃ X, W8.setRow (w2.heap.size + 1) #[.int .i64 72, .int .i64 24] = X := ⟨_, rfl⟩
     have f9 : Fr [w2.heap.size + 1] W8 W9 := hW9 ▸ row_fr _ _ _
     have n1 : W9.heap[w2.heap.size + 1]? = some (.cells #[.int .i64 72, .int .i64 24] 30 (0, 0)) := hW9 ▸ setRow_heap _ _ _ _ 30 (0, 0) H1.out
     have n0 := (f9.block _ (lt_of_heap k8) (by simp)).trans k8
     have B9 : Bl w2 W9 := ((((Fr.ofBl b7 []).trans f8 (by simp)).trans f9 (by simp)).bl (by simp))
     have y0 : W9.cell? ⟨w2.heap.size + 1, 0, none⟩ = some (.int .i64 72) := by (rw [cell_in n1]; rfl)
     have y1 : W9.cell? ⟨w2.heap.size + 1, 1, none⟩ = some (.int .i64 24) := by (rw [cell_in n1]; rfl)
     have y3 : W9.cell? ⟨w2.heap.size, 5, none⟩ = some (.slice none 0 0) := by (rw [cell_in n0]; rfl)
     have BZ := mkHid (b1.trans (b2.trans B9))
     clear b7 s7 h0 h1 f8 f9 n1 n0 k8 B9 b2)
    | (refine wpList_store_row rfl 27 _ _ rfl w2.heap.size #[.string ⟨#[]⟩, .int .i64 0, .int .i64 0, .slice none 0 0, .slice none 0 0, .slice none 0 0] rfl rfl 27 _ H0.out (by kernel_rfl) rfl (by kernel_rfl) ?_; rw [hW8])
    | (refine wpList_store_row rfl 30 _ _ rfl (w2.heap.size + 1) #[.int .i64 72, .int .i64 24] rfl rfl 30 _ H1.out (by kernel_rfl) rfl (by kernel_rfl) ?_; rw [hW9]))
   go_ret
   exact ⟨rfl, BZ.out⟩
set_option maxHeartbeats 8000000 in
set_option maxRecDepth 1000000 in
theorem nd_true_p (n : Int) (k : Nat) (hm : n.tmod 40 = (k : Int)) (hk : 24 < k) (hk2 : k < 40) (w : World) (hE : Env w) : Calls Tryz.prog 3 #[.int .i64 n, .bool true] w fun e w' => e = .returned (.bool true) ∧ Bl w w' := by
 have HK := mkHid (pknown_ok w hE)
 have HD := mkHid (fun V (bl : Bl w V) => doit_top (ba (nestL true k)) none 72 24 V (hE.mono bl).tab (by rw [← lst_len, lst_ba, nestL_len]; omega) (by rw [lst_ba]; exact nest_deep true k hk hk2))
 have HSt : Hid (∀ i, (⟨#[91]⟩ : ByteArray) ++ ba (nestL true i) ++ ⟨#[93]⟩ = ba (nestL true (i + 1))) := mkHid (fun i => by
  rw [show (⟨#[91]⟩ : ByteArray) = ba [91] from rfl, show (⟨#[93]⟩ : ByteArray) = ba [93] from rfl, ba_app, ba_app]
  rfl)
 have HSz : Hid (∀ i, (ba (nestL true i)).size = 2 * i + 1) := mkHid (fun i => by rw [← lst_len, lst_ba, nestL_len])
 have q1 : ¬ (k : Int) < 0 := by omega
 have v1 : IntKind.i64.wrap ((k : Int) - 40 + 40) = (k : Int) := by rw [wrap_id _ (by omega) (by omega)]; omega
 have v2 : IntKind.i64.wrap ((k : Int) - 40) = (k : Int) - 40 := wrap_id _ (by omega) (by omega)
 have v3 : IntKind.i64.wrap (k : Int) = (k : Int) := wrap_id _ (by omega) (by omega)
 have hk3 : (24 : Int) < k := by omega
 clear hE
 go_enter Tryz.func3, Tryz.ntmps3
 go_wp2_with (go_at_call 9; refine HK.out.mono ?_; rintro e w1 ⟨rfl, b1⟩)
 go_loopw [9, 10] (fun s q wr => ∃ i : Nat, i ≤ k ∧ s = .string (ba (nestL true i)) ∧ q = .int .i64 i ∧ wr = w1) (fun _ q _ => k - (intOf q).toNat)
 case atStart => exact ⟨0, Nat.zero_le _, rfl, rfl, rfl⟩
 case round =>
  obtain ⟨i, hi, rfl, rfl, hwr⟩ := hrel
  have hwr2 := hwr.symm
  subst hwr2
  by_cases hin : i < k
  ·have hii : (i : Int) < k := by omega
   have hst := HSt.out i
   have hs1 := HSz.out i
   have hs2 : ((⟨#[91]⟩ : ByteArray) ++ ba (nestL true i)).size = 2 * i + 2 := by rw [ByteArray.size_append, hs1]; show 1 + _ = _; omega
   clear HSt HSz HK HD
   go_wp2_with fail
   all_goals first
    | (exfalso; omega)
    | (
     go_roundw
     case rel => exact ⟨i + 1, by omega, by first | rfl | rw [hst], by go_num, by first | rfl | trivial⟩
     case measure => simp [intOf]; omega)
  ·have hie : ¬ (i : Int) < k := by omega
   have hi2 : i = k := by omega
   subst hi2
   have HD1 := mkHid (HD.out w1 b1)
   clear HSt HSz HK HD
   have HNs : Hid (noSrc = .agg #[.string ⟨#[]⟩, .int .i64 0, .int .i64 0, .slice none 0 0, .slice none 0 0, .slice none 0 0]) := mkHid rfl
   go_wp2_with (first
    | (
     go_at_call 10; refine HD1.out.mono ?_; rintro e w2 ⟨b2, hr⟩
     dsimp only at hr
     rw [HNs.out] at hr
     subst hr
     obtain ⟨W7, hW7⟩ : ∃ X, (w2.alloc (.cells #[.string ⟨#[]⟩, .int .i64 0, .int .i64 0, .slice none 0 0, .slice none 0 0, .slice none 0 0] 27)).alloc (.cells #[.int .i64 0, .int .i64 0] 30) = X := ⟨_, rfl⟩
     obtain ⟨b7, s7, h0, h1⟩ := two_boxes hW7
     have H0 : Hid (W7.heap[w2.heap.size]? = some (.cells #[.string ⟨#[]⟩, .int .i64 0, .int .i64 0, .slice none 0 0, .slice none 0 0, .slice none 0 0] 27 (0, 0))) := mkHid h0
     obtain ⟨W8, hW8⟩ : ∃ X, W7.setRow w2.heap.size #[.string ⟨#[]⟩, .int .i64 0, .int .i64 0, .slice none 0 0, .slice none 0 0, .slice none 0 0] = X := ⟨_, rfl⟩
     have f8 : Fr [w2.heap.size] W7 W8 := hW8 ▸ row_fr _ _ _
     have H1 : Hid (W8.heap[w2.heap.size + 1]? = some (.cells #[.int .i64 0, .int .i64 0] 30 (0, 0))) := mkHid ((f8.block _ (lt_of_heap h1) (by simp)).trans h1)
     have k8 : W8.heap[w2.heap.size]? = some (.cells #[.string ⟨#[]⟩, .int .i64 0, .int .i64 0, .slice none 0 0, .slice none 0 0, .slice none 0 0] 27 (0, 0)) := hW8 ▸ setRow_heap _ _ _ _ 27 (0, 0) H0.out
     obtain ⟨W9, hW9⟩ : ∃ X, W8.setRow (w2.heap.size + 1) #[.int .i64 72, .int .i64 24] = X := ⟨_, rfl⟩
     have f9 : Fr [w2.heap.size + 1] W8 W9 := hW9 ▸ row_fr _ _ _
     have n1 : W9.heap[w2.heap.size + 1]? = some (.cells #[.int .i64 72, .int .i64 24] 30 (0, 0)) := hW9 ▸ setRow_heap _ _ _ _ 30 (0, 0) H1.out
     have n0 := (f9.block _ (lt_of_heap k8) (by simp)).trans k8
     have B9 : Bl w2 W9 := ((((Fr.ofBl b7 []).trans f8 (by simp)).trans f9 (by simp)).bl (by simp))
     have y0 : W9.cell? ⟨w2.heap.size + 1, 0, none⟩ = some (.int .i64 72) := by (rw [cell_in n1]; rfl)
     have y1 : W9.cell? ⟨w2.heap.size + 1, 1, none⟩ = some (.int .i64 24) := by (rw [cell_in n1]; rfl)
     have y3 : W9.cell? ⟨w2.heap.size, 5, none⟩ = some (.slice none 0 0) := by (rw [cell_in n0]; rfl)
     have BZ := mkHid (b1.trans (b2.trans B9))
     clear b7 s7 h0 h1 f8 f9 n1 n0 k8 B9 b2)
    | (refine wpList_store_row rfl 27 _ _ rfl w2.heap.size #[.string ⟨#[]⟩, .int .i64 0, .int .i64 0, .slice none 0 0, .slice none 0 0, .slice none 0 0] rfl rfl 27 _ H0.out (by kernel_rfl) rfl (by kernel_rfl) ?_; rw [hW8])
    | (refine wpList_store_row rfl 30 _ _ rfl (w2.heap.size + 1) #[.int .i64 72, .int .i64 24] rfl rfl 30 _ H1.out (by kernel_rfl) rfl (by kernel_rfl) ?_; rw [hW9]))
   go_ret
   exact ⟨rfl, BZ.out⟩
set_option maxHeartbeats 8000000 in
set_option maxRecDepth 1000000 in
theorem nd_true_n (n : Int) (k : Nat) (hm : n.tmod 40 = (k : Int) - 40) (hk : 24 < k) (hk2 : k < 40) (w : World) (hE : Env w) : Calls Tryz.prog 3 #[.int .i64 n, .bool true] w fun e w' => e = .returned (.bool true) ∧ Bl w w' := by
 have HK := mkHid (pknown_ok w hE)
 have HD := mkHid (fun V (bl : Bl w V) => doit_top (ba (nestL true k)) none 72 24 V (hE.mono bl).tab (by rw [← lst_len, lst_ba, nestL_len]; omega) (by rw [lst_ba]; exact nest_deep true k hk hk2))
 have HSt : Hid (∀ i, (⟨#[91]⟩ : ByteArray) ++ ba (nestL true i) ++ ⟨#[93]⟩ = ba (nestL true (i + 1))) := mkHid (fun i => by
  rw [show (⟨#[91]⟩ : ByteArray) = ba [91] from rfl, show (⟨#[93]⟩ : ByteArray) = ba [93] from rfl, ba_app, ba_app]
  rfl)
 have HSz : Hid (∀ i, (ba (nestL true i)).size = 2 * i + 1) := mkHid (fun i => by rw [← lst_len, lst_ba, nestL_len])
 have q1 : (k : Int) - 40 < 0 := by omega
 have v1 : IntKind.i64.wrap ((k : Int) - 40 + 40) = (k : Int) := by rw [wrap_id _ (by omega) (by omega)]; omega
 have v2 : IntKind.i64.wrap ((k : Int) - 40) = (k : Int) - 40 := wrap_id _ (by omega) (by omega)
 have v3 : IntKind.i64.wrap (k : Int) = (k : Int) := wrap_id _ (by omega) (by omega)
 have hk3 : (24 : Int) < k := by omega
 clear hE
 go_enter Tryz.func3, Tryz.ntmps3
 go_wp2_with (go_at_call 9; refine HK.out.mono ?_; rintro e w1 ⟨rfl, b1⟩)
 go_loopw [9, 10] (fun s q wr => ∃ i : Nat, i ≤ k ∧ s = .string (ba (nestL true i)) ∧ q = .int .i64 i ∧ wr = w1) (fun _ q _ => k - (intOf q).toNat)
 case atStart => exact ⟨0, Nat.zero_le _, rfl, rfl, rfl⟩
 case round =>
  obtain ⟨i, hi, rfl, rfl, hwr⟩ := hrel
  have hwr2 := hwr.symm
  subst hwr2
  by_cases hin : i < k
  ·have hii : (i : Int) < k := by omega
   have hst := HSt.out i
   have hs1 := HSz.out i
   have hs2 : ((⟨#[91]⟩ : ByteArray) ++ ba (nestL true i)).size = 2 * i + 2 := by rw [ByteArray.size_append, hs1]; show 1 + _ = _; omega
   clear HSt HSz HK HD
   go_wp2_with fail
   all_goals first
    | (exfalso; omega)
    | (
     go_roundw
     case rel => exact ⟨i + 1, by omega, by first | rfl | rw [hst], by go_num, by first | rfl | trivial⟩
     case measure => simp [intOf]; omega)
  ·have hie : ¬ (i : Int) < k := by omega
   have hi2 : i = k := by omega
   subst hi2
   have HD1 := mkHid (HD.out w1 b1)
   clear HSt HSz HK HD
   have HNs : Hid (noSrc = .agg #[.string ⟨#[]⟩, .int .i64 0, .int .i64 0, .slice none 0 0, .slice none 0 0, .slice none 0 0]) := mkHid rfl
   go_wp2_with (first
    | (
     go_at_call 10; refine HD1.out.mono ?_; rintro e w2 ⟨b2, hr⟩
     dsimp only at hr
     rw [HNs.out] at hr
     subst hr
     obtain ⟨W7, hW7⟩ : ∃ X, (w2.alloc (.cells #[.string ⟨#[]⟩, .int .i64 0, .int .i64 0, .slice none 0 0, .slice none 0 0, .slice none 0 0] 27)).alloc (.cells #[.int .i64 0, .int .i64 0] 30) = X := ⟨_, rfl⟩
     obtain ⟨b7, s7, h0, h1⟩ := two_boxes hW7
     have H0 : Hid (W7.heap[w2.heap.size]? = some (.cells #[.string ⟨#[]⟩, .int .i64 0, .int .i64 0, .slice none 0 0, .slice none 0 0, .slice none 0 0] 27 (0, 0))) := mkHid h0
     obtain ⟨W8, hW8⟩ : ∃ X, W7.setRow w2.heap.size #[.string ⟨#[]⟩, .int .i64 0, .int .i64 0, .slice none 0 0, .slice none 0 0, .slice none 0 0] = X := ⟨_, rfl⟩
     have f8 : Fr [w2.heap.size] W7 W8 := hW8 ▸ row_fr _ _ _
     have H1 : Hid (W8.heap[w2.heap.size + 1]? = some (.cells #[.int .i64 0, .int .i64 0] 30 (0, 0))) := mkHid ((f8.block _ (lt_of_heap h1) (by simp)).trans h1)
     have k8 : W8.heap[w2.heap.size]? = some (.cells #[.string ⟨#[]⟩, .int .i64 0, .int .i64 0, .slice none 0 0, .slice none 0 0, .slice none 0 0] 27 (0, 0)) := hW8 ▸ setRow_heap _ _ _ _ 27 (0, 0) H0.out
     obtain ⟨W9, hW9⟩ : ∃ X, W8.setRow (w2.heap.size + 1) #[.int .i64 72, .int .i64 24] = X := ⟨_, rfl⟩
     have f9 : Fr [w2.heap.size + 1] W8 W9 := hW9 ▸ row_fr _ _ _
     have n1 : W9.heap[w2.heap.size + 1]? = some (.cells #[.int .i64 72, .int .i64 24] 30 (0, 0)) := hW9 ▸ setRow_heap _ _ _ _ 30 (0, 0) H1.out
     have n0 := (f9.block _ (lt_of_heap k8) (by simp)).trans k8
     have B9 : Bl w2 W9 := ((((Fr.ofBl b7 []).trans f8 (by simp)).trans f9 (by simp)).bl (by simp))
     have y0 : W9.cell? ⟨w2.heap.size + 1, 0, none⟩ = some (.int .i64 72) := by (rw [cell_in n1]; rfl)
     have y1 : W9.cell? ⟨w2.heap.size + 1, 1, none⟩ = some (.int .i64 24) := by (rw [cell_in n1]; rfl)
     have y3 : W9.cell? ⟨w2.heap.size, 5, none⟩ = some (.slice none 0 0) := by (rw [cell_in n0]; rfl)
     have BZ := mkHid (b1.trans (b2.trans B9))
     clear b7 s7 h0 h1 f8 f9 n1 n0 k8 B9 b2)
    | (refine wpList_store_row rfl 27 _ _ rfl w2.heap.size #[.string ⟨#[]⟩, .int .i64 0, .int .i64 0, .slice none 0 0, .slice none 0 0, .slice none 0 0] rfl rfl 27 _ H0.out (by kernel_rfl) rfl (by kernel_rfl) ?_; rw [hW8])
    | (refine wpList_store_row rfl 30 _ _ rfl (w2.heap.size + 1) #[.int .i64 72, .int .i64 24] rfl rfl 30 _ H1.out (by kernel_rfl) rfl (by kernel_rfl) ?_; rw [hW9]))
   go_ret
   exact ⟨rfl, BZ.out⟩
end Go.Proofs.YtfhkhmgodkheaaaGreatDoor
