import Derived.Test.YtclkoffnjiiioaaDoorINum
namespace Go.Proofs.YtclkoffnjiiioaaDoor
open Go.RowKit
set_option linter.unusedVariables false
set_option linter.unusedSimpArgs false
attribute [local go_sem ↓] Go.wp_at_zero Go.wp_at_succ
def nmT : List ByteArray := [⟨#[]⟩, ⟨#[115, 101, 108, 102]⟩, ⟨#[110, 105, 108]⟩, ⟨#[116, 114, 117, 101]⟩, ⟨#[102, 97, 108, 115, 101]⟩, ⟨#[105, 110, 116]⟩, ⟨#[108, 105, 116]⟩, ⟨#[115, 121, 109]⟩, ⟨#[99, 108, 97, 115, 115]⟩, ⟨#[102, 105, 101, 108, 100]⟩, ⟨#[116, 101, 109, 112]⟩, ⟨#[103, 108, 111, 98, 97, 108]⟩, ⟨#[115, 116, 111, 114, 101, 102, 105, 101, 108, 100]⟩, ⟨#[115, 116, 111, 114, 101, 116, 101, 109, 112]⟩, ⟨#[115, 116, 111, 114, 101, 103, 108, 111, 98, 97, 108]⟩, ⟨#[112, 111, 112]⟩, ⟨#[100, 117, 112]⟩, ⟨#[115, 101, 110, 100]⟩, ⟨#[115, 117, 112, 101, 114]⟩, ⟨#[98, 108, 111, 99, 107]⟩, ⟨#[114, 101, 116, 117, 114, 110]⟩, ⟨#[104, 111, 109, 101, 114, 101, 116, 117, 114, 110]⟩, ⟨#[98, 108, 111, 99, 107, 114, 101, 116, 117, 114, 110]⟩, ⟨#[106, 117, 109, 112]⟩, ⟨#[105, 102, 116, 114, 117, 101]⟩, ⟨#[105, 102, 102, 97, 108, 115, 101]⟩, ⟨#[98, 97, 99, 107]⟩, ⟨#[102, 105, 114, 115, 116]⟩, ⟨#[110, 101, 120, 116]⟩]
def opT : List Nat := [0, 0, 0, 0, 0, 1, 1, 1, 1, 1, 2, 1, 1, 2, 1, 0, 0, 2, 2, 3, 0, 0, 0, 1, 1, 1, 1, 2, 2]
def nmB (i : Nat) : ByteArray := nmT.getD i ⟨#[]⟩
def opd (i : Nat) : Nat := opT.getD i 0
theorem opd_le (i : Nat) : opd i ≤ 3 := by
  unfold opd opT
  by_cases h : i < 29
  · have : ∀ i, i < 29 → ([0, 0, 0, 0, 0, 1, 1, 1, 1, 1, 2, 1, 1, 2, 1, 0, 0, 2, 2, 3, 0, 0, 0, 1, 1, 1, 1, 2, 2] : List Nat).getD i 0 ≤ 3 := by decide
    exact this i h
  · rw [List.getD_eq_getElem?_getD, List.getElem?_eq_none (by simp; omega)]; simp
theorem nmB_le (i : Nat) : (nmB i).size ≤ 20 := by
  by_cases h : i < 29
  · have : ∀ i, i < 29 → (nmB i).size ≤ 20 := by decide
    exact this i h
  · unfold nmB
    rw [List.getD_eq_getElem?_getD, List.getElem?_eq_none (by show 29 ≤ i; omega)]
    decide
/-- the table of operations -/
def Tb (W : World) : Prop := ∀ i, i < 29 → W.cell? ⟨0, i * 2, none⟩ = some (.string (nmB i)) ∧ W.cell? ⟨0, i * 2 + 1, none⟩ = some (.int .i64 (opd i : Int))
theorem Tb.pos {W : World} (h : Tb W) : 0 < W.heap.size := World.block_lt_of_cell? W ⟨0, 0, none⟩ (h 0 (by decide)).1
theorem Tb.low {B : Nat} {W W' : World} (h : Tb W) (hb : Below B W W') (hB : 0 < B) : Tb W' := fun i hi => by
  have h1 : W'.heap[0]? = W.heap[0]? := hb.block 0 hB
  exact ⟨(World.cell?_of_block (w := W) (a := ⟨0, i * 2, none⟩) h1).trans (h i hi).1, (World.cell?_of_block (w := W) (a := ⟨0, i * 2 + 1, none⟩) h1).trans (h i hi).2⟩
theorem Tb.idle {W W' : World} (h : Tb W) (hf : Fr [] W W') : Tb W' := h.low (hf.below (B := W.heap.size) (Nat.le_refl _) (by simp)) h.pos
def isOp (o : Int) : Bool := decide (1 ≤ o) && decide (o ≤ 28)
/-- an instruction's line -/
def insW (at_ o : Nat) (ns : List Int) : List UInt8 := Lib.itoa (at_ : Int) ++ [32] ++ (nmB o).data.toList ++ numsW ns ++ [10]
/-- the lines of whole instructions -/
def lnW (ws : List Int) : Nat → Nat → Option (List UInt8)
  | 0, _ => none
  | f + 1, a => if a < ws.length then (if isOp (ws.getD a 0) = true ∧ a + 1 + opd (ws.getD a 0).toNat ≤ ws.length then (lnW ws f (a + 1 + opd (ws.getD a 0).toNat)).map (insW a (ws.getD a 0).toNat ((ws.drop (a + 1)).take (opd (ws.getD a 0).toNat)) ++ ·) else none) else some []
set_option maxHeartbeats 1000000 in
theorem isOperation_ok (o : Int) (w : World) : Calls Tryd.prog 25 #[.int .i64 o] w fun e w' => e = .returned (.bool (isOp o)) ∧ w' = w := by
  have HO : Hid (isOp o = (decide (1 ≤ o) && decide (o ≤ 28))) := rfl
  rw [HO.out]
  by_cases h1 : 1 ≤ o
  · by_cases h2 : o ≤ 28
    all_goals
      go_enter Tryd.func25, Tryd.ntmps25
      go_wp2_with fail
      all_goals
        go_ret
        exact ⟨by simp [h1, h2], rfl⟩
  · have q1 : decide (1 ≤ o) = false := decide_eq_false h1
    go_enter Tryd.func25, Tryd.ntmps25
    go_wp2_with fail
    all_goals
      go_ret
      exact ⟨by simp [h1], rfl⟩
set_option maxRecDepth 100000 in
set_option maxHeartbeats 4000000 in
theorem areWhole_ok (ws : List Int) (p : Option Addr) (c : Nat) (W : World) (h : Rd W (.slice p ws.length c) ws) (hn : ws.length ≤ 100000) (ht : Tb W) : Calls Tryd.prog 14 #[.slice p ws.length c] W fun e w' => e = .returned (.bool (lnW ws (ws.length + 1) 0).isSome) ∧ w' = W := by
  have hat : 0 < ws.length → ∃ g off, p = some ⟨g, off, none⟩ ∧ ∀ i, i < ws.length → W.cell? ⟨g, off + i, none⟩ = some (.int .i64 (ws.getD i 0)) := fun hp => by
    obtain ⟨p', c', e, hh⟩ := h.at_
    injection e with e1 _ _
    subst e1
    obtain ⟨g, off, e2, -, hc⟩ := hh hp
    exact ⟨g, off, e2, hc⟩
  obtain ⟨R, hR⟩ : ∃ R, (lnW ws (ws.length + 1) 0).isSome = R := ⟨_, rfl⟩
  rw [hR]
  have HAt := mkHid hat
  have HT := mkHid ht
  have HR0 := mkHid hR
  have HO := mkHid isOperation_ok
  clear h hat ht hR
  go_enter Tryd.func14, Tryd.ntmps14
  go_wp2_with fail
  go_loopw [3] (fun q wr => wr = W ∧ ∃ a : Nat, q = .int .i64 (a : Int) ∧ a ≤ ws.length + 4 ∧ Hid ((a ≤ ws.length ∧ ∃ f, ws.length < a + f ∧ (lnW ws f a).isSome = R) ∨ (ws.length < a ∧ R = false))) (fun q _ => ws.length + 4 - (intOf q).toNat)
  case atStart => exact ⟨rfl, 0, rfl, by omega, .inl ⟨by omega, ws.length + 1, by omega, HR0.out⟩⟩
  case round =>
    clear HR0
    obtain ⟨rfl, a, rfl, ha, hst⟩ := hrel
    have a0 : (0 : Int) ≤ (a : Int) := by omega
    by_cases hlt : a < ws.length
    · have a1 : (a : Int) < (ws.length : Int) := by omega
      obtain ⟨f, hf, hR⟩ : ∃ f, ws.length < a + f ∧ (lnW ws f a).isSome = R := by
        rcases hst.out with ⟨-, h⟩ | ⟨h, -⟩
        · exact h
        · omega
      obtain ⟨g, off, rfl, hcs⟩ := HAt.out (by omega)
      have c0 := hcs a hlt
      cases f with
      | zero => omega
      | succ f =>
      have hR2 := hR
      unfold lnW at hR2
      rw [if_pos hlt] at hR2
      obtain ⟨o, ho⟩ : ∃ o, ws.getD a 0 = o := ⟨_, rfl⟩
      rw [ho] at hR2 c0
      have HOp := mkHid (HO.out o wr)
      by_cases hop : isOp o = true
      · have hop1 : 1 ≤ o ∧ o ≤ 28 := by unfold isOp at hop; simpa using hop
        rw [hop] at HOp
        obtain ⟨m, rfl⟩ : ∃ m : Nat, o = (m : Int) := ⟨o.toNat, by omega⟩
        have htb := (HT.out m (by omega)).2
        have hod := opd_le m
        rw [Int.toNat_natCast] at hR2
        have HN : Hid ((a + (1 + opd m) ≤ ws.length ∧ ∃ f, ws.length < a + (1 + opd m) + f ∧ (lnW ws f (a + (1 + opd m))).isSome = R) ∨ (ws.length < a + (1 + opd m) ∧ R = false)) := by
          by_cases hle : a + 1 + opd m ≤ ws.length
          · rw [if_pos ⟨hop, hle⟩] at hR2
            refine .inl ⟨by omega, f, by omega, ?_⟩
            rw [show a + (1 + opd m) = a + 1 + opd m by omega]
            simpa using hR2
          · rw [if_neg (fun hh => hle hh.2)] at hR2
            exact .inr ⟨by omega, by simpa using hR2.symm⟩
        have m0 : (0 : Int) ≤ (m : Int) := by omega
        have m1 : (m : Int) < 29 := by omega
        clear hst hR hR2 hcs ho hop hop1
        generalize opd m = od at *
        go_wp2_with (go_at_call 25; refine HOp.out.mono ?_; rintro e w1 ⟨rfl, hw1⟩; rw [hw1]; clear hw1 w1)
        go_roundw
        case rel => exact ⟨trivial, a + (1 + od), by go_num, by omega, HN.out⟩
        case measure => simp [intOf]; omega
      · rw [if_neg (fun hh => hop hh.1)] at hR2
        have hRf : R = false := by simpa using hR2.symm
        have hop' : isOp o = false := by simpa using hop
        rw [hop'] at HOp
        subst hRf
        clear hst hR hR2 hcs ho hop hop'
        go_wp2_with (go_at_call 25; refine HOp.out.mono ?_; rintro e w1 ⟨rfl, hw1⟩; rw [hw1]; clear hw1 w1)
        go_ret
        exact ⟨rfl, rfl⟩
    · have q1 : decide ((a : Int) < (ws.length : Int)) = false := decide_eq_false (by omega)
      have HRe : Hid (R = ((a : Int) == (ws.length : Int))) := by
        rcases hst.out with ⟨h1, f, hf, hR⟩ | ⟨h1, h2⟩
        · cases f with
          | zero => omega
          | succ f =>
            unfold lnW at hR
            rw [if_neg hlt] at hR
            have : a = ws.length := by omega
            show R = _
            rw [← hR, this]
            simp
        · show R = _
          rw [h2]
          exact (beq_eq_false_iff_ne.2 (by omega)).symm
      clear hst
      go_wp2_with fail
      all_goals
        go_ret
        exact ⟨by rw [HRe.out]; rfl, rfl⟩
end Go.Proofs.YtclkoffnjiiioaaDoor
