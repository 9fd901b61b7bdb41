import Derived.Test.YtclkoffnjiiioaaDoorIPg
namespace Go.Proofs.YtclkoffnjiiioaaDoor
open Go.RowKit
set_option linter.unusedVariables false
set_option linter.unusedSimpArgs false
attribute [local go_sem ↓] Go.wp_at_zero Go.wp_at_succ
set_option maxRecDepth 100000 in
set_option maxHeartbeats 1000000 in
theorem number_ok {W : World} {B : Nat} {v : Value} {bs : List UInt8} (h : Pg W B v bs) (i : Int) (h0 : -9223372036854775808 ≤ i) (h1 : i ≤ 9223372036854775807) (hl : bs.length + 21 ≤ 140737488355328) : Calls Tryd.prog 65 #[.int .i64 i, v] W fun e w' => WrP W B bs (Lib.itoa i) e w' := by
  have HN := mkHid (h.num i h0 h1 hl)
  clear h
  go_enter Tryd.func65, Tryd.ntmps65
  go_wp2_with (go_at_call 28; refine HN.out.mono ?_; rintro e w1 ⟨v', rfl, hp, hf⟩; have H1 := mkHid (And.intro hp hf); clear hp hf)
  go_ret
  exact ⟨v', rfl, H1.out.1, H1.out.2⟩
set_option maxRecDepth 100000 in
set_option maxHeartbeats 1000000 in
theorem endLine_ok {W : World} {B : Nat} {v : Value} {bs : List UInt8} (h : Pg W B v bs) (hl : bs.length + 21 ≤ 140737488355328) : Calls Tryd.prog 26 #[v] W fun e w' => WrP W B bs [10] e w' := by
  obtain ⟨v1, w1, hr, hp, hf⟩ := h.push [10] (by simp; omega)
  have HR := mkHid hr
  have H1 := mkHid (And.intro hp hf)
  clear h hr hp hf
  go_enter Tryd.func26, Tryd.ntmps26
  go_wp2_with (at_builtin; refine Lib.wpList_append_run _ rfl (.tmp 3) (.tmp 4) 47 47 rfl _ _ rfl rfl _ _ HR.out ?_)
  go_ret
  exact ⟨v1, rfl, H1.out.1, H1.out.2⟩
set_option maxRecDepth 100000 in
set_option maxHeartbeats 1000000 in
theorem symbol_ok {W : World} {B : Nat} {v : Value} {bs : List UInt8} (h : Pg W B v bs) (i : Int) (h0 : -9223372036854775808 ≤ i) (h1 : i ≤ 9223372036854775807) (hl : bs.length + 22 ≤ 140737488355328) : Calls Tryd.prog 70 #[.int .i64 i, v] W fun e w' => WrP W B bs (35 :: Lib.itoa i) e w' := by
  obtain ⟨v1, w1, hr, hp, hf⟩ := h.push [35] (by simp; omega)
  have HR := mkHid hr
  have HN := mkHid (number_ok hp i h0 h1 (by simp; omega))
  have HF := mkHid hf
  clear h hr hp hf
  go_enter Tryd.func70, Tryd.ntmps70
  go_wp2_with (first
    | (at_builtin; refine Lib.wpList_append_run _ rfl (.tmp 6) (.tmp 7) 47 47 rfl _ _ rfl rfl _ _ HR.out ?_)
    | (go_at_call 65; refine HN.out.mono ?_; rintro e w2 ⟨v', rfl, hp, hf⟩; have H1 := mkHid (And.intro hp hf); clear hp hf))
  go_ret
  exact ⟨v', rfl, by have := H1.out.1; rwa [List.append_assoc] at this, HF.out.trans H1.out.2⟩
set_option maxRecDepth 100000 in
set_option maxHeartbeats 1000000 in
theorem nothing_ok {W : World} {B : Nat} {v : Value} {bs : List UInt8} (h : Pg W B v bs) (hl : bs.length + 21 ≤ 140737488355328) : Calls Tryd.prog 71 #[.agg #[], v] W fun e w' => WrP W B bs [110, 105, 108] e w' := by
  obtain ⟨v1, w1, hr, hp, hf⟩ := (h.al (.cells #[] 81)).str ⟨#[110, 105, 108]⟩ (by show bs.length + 3 ≤ _; omega)
  have HR := mkHid hr
  have H1 := mkHid (And.intro hp (((Pf.refl B W).alloc h.low _).trans hf))
  clear h hr hp hf
  go_enter Tryd.func71, Tryd.ntmps71
  go_wp2_with (at_builtin; refine Lib.wpList_append_run _ rfl (.tmp 5) (.const (.string ⟨#[110, 105, 108]⟩)) 47 9 rfl _ _ rfl rfl _ _ HR.out ?_)
  go_ret
  exact ⟨v1, rfl, H1.out.1, H1.out.2⟩
set_option maxRecDepth 100000 in
set_option maxHeartbeats 1000000 in
theorem yes_ok {W : World} {B : Nat} {v : Value} {bs : List UInt8} (h : Pg W B v bs) (hl : bs.length + 21 ≤ 140737488355328) : Calls Tryd.prog 72 #[.agg #[], v] W fun e w' => WrP W B bs [116, 114, 117, 101] e w' := by
  obtain ⟨v1, w1, hr, hp, hf⟩ := (h.al (.cells #[] 82)).str ⟨#[116, 114, 117, 101]⟩ (by show bs.length + 4 ≤ _; omega)
  have HR := mkHid hr
  have H1 := mkHid (And.intro hp (((Pf.refl B W).alloc h.low _).trans hf))
  clear h hr hp hf
  go_enter Tryd.func72, Tryd.ntmps72
  go_wp2_with (at_builtin; refine Lib.wpList_append_run _ rfl (.tmp 5) (.const (.string ⟨#[116, 114, 117, 101]⟩)) 47 9 rfl _ _ rfl rfl _ _ HR.out ?_)
  go_ret
  exact ⟨v1, rfl, H1.out.1, H1.out.2⟩
set_option maxRecDepth 100000 in
set_option maxHeartbeats 1000000 in
theorem no_ok {W : World} {B : Nat} {v : Value} {bs : List UInt8} (h : Pg W B v bs) (hl : bs.length + 21 ≤ 140737488355328) : Calls Tryd.prog 73 #[.agg #[], v] W fun e w' => WrP W B bs [102, 97, 108, 115, 101] e w' := by
  obtain ⟨v1, w1, hr, hp, hf⟩ := (h.al (.cells #[] 83)).str ⟨#[102, 97, 108, 115, 101]⟩ (by show bs.length + 5 ≤ _; omega)
  have HR := mkHid hr
  have H1 := mkHid (And.intro hp (((Pf.refl B W).alloc h.low _).trans hf))
  clear h hr hp hf
  go_enter Tryd.func73, Tryd.ntmps73
  go_wp2_with (at_builtin; refine Lib.wpList_append_run _ rfl (.tmp 5) (.const (.string ⟨#[102, 97, 108, 115, 101]⟩)) 47 9 rfl _ _ rfl rfl _ _ HR.out ?_)
  go_ret
  exact ⟨v1, rfl, H1.out.1, H1.out.2⟩
/-- does a byte mean something else in a written text? -/
def mkB (c : UInt8) : Bool := decide (c = 39 ∨ c = 92)
theorem u8_eq (c : UInt8) (k : Nat) (hk : k < 256) : ((c.toNat : Int) == (k : Int)) = decide (c = UInt8.ofNat k) := by
  by_cases h : c = UInt8.ofNat k
  · subst h
    have : (UInt8.ofNat k).toNat = k := by simp [UInt8.toNat_ofNat]; omega
    simp [this]
  · have h2 : ¬ c.toNat = k := fun e => h (by rw [← e]; simp)
    rw [decide_eq_false h]
    simpa using (by omega : ¬ (c.toNat : Int) = (k : Int))
set_option maxHeartbeats 1000000 in
theorem isMark_ok (c : UInt8) (w : World) : Calls Tryd.prog 69 #[.int .u8 (c.toNat : Int)] w fun e w' => e = .returned (.bool (mkB c)) ∧ w' = w := by
  have h1 := u8_eq c 39 (by decide)
  have h2 := u8_eq c 92 (by decide)
  have HM : Hid (mkB c = (((c.toNat : Int) == (39 : Nat)) || ((c.toNat : Int) == (92 : Nat)))) := by
    show mkB c = _
    rw [h1, h2]
    unfold mkB
    simp
  rw [HM.out]
  clear HM h1 h2
  generalize (c.toNat : Int) = z
  cases h1 : (z == 39)
  · cases h2 : (z == 92)
    all_goals
      go_enter Tryd.func69, Tryd.ntmps69
      go_wp2_with fail
      go_ret
      exact ⟨by simp [h1, h2], rfl⟩
  · go_enter Tryd.func69, Tryd.ntmps69
    go_wp2_with fail
    go_ret
    exact ⟨by simp [h1], rfl⟩
set_option maxHeartbeats 1000000 in
theorem isPlain_ok (c : UInt8) (w : World) : Calls Tryd.prog 68 #[.int .u8 (c.toNat : Int)] w fun e w' => e = .returned (.bool (decide (32 ≤ c.toNat) && decide (c.toNat ≤ 126) && !mkB c)) ∧ w' = w := by
  have HM := mkHid (isMark_ok c w)
  generalize mkB c = mb at *
  have hz0 : 0 ≤ (c.toNat : Int) := by omega
  by_cases h1 : 32 ≤ c.toNat
  · have q1 : decide (32 ≤ (c.toNat : Int)) = true := decide_eq_true (by omega)
    by_cases h2 : c.toNat ≤ 126
    · have q2 : decide ((c.toNat : Int) ≤ 126) = true := decide_eq_true (by omega)
      have HE : Hid ((decide (32 ≤ c.toNat) && decide (c.toNat ≤ 126) && !mb) = !mb) := by show _ = _; simp [h1, h2]
      rw [HE.out]
      clear h1 h2 HE
      generalize (c.toNat : Int) = z at *
      go_enter Tryd.func68, Tryd.ntmps68
      go_wp2_with (go_at_call 69; refine HM.out.mono ?_; rintro e w1 ⟨rfl, rfl⟩)
      go_ret
      exact ⟨rfl, rfl⟩
    · have q2 : decide ((c.toNat : Int) ≤ 126) = false := decide_eq_false (by omega)
      have HE : Hid ((decide (32 ≤ c.toNat) && decide (c.toNat ≤ 126) && !mb) = false) := by show _ = _; simp [h2]
      rw [HE.out]
      clear h1 h2 HE HM
      generalize (c.toNat : Int) = z at *
      go_enter Tryd.func68, Tryd.ntmps68
      go_wp2_with fail
      go_ret
      exact ⟨rfl, rfl⟩
  · have q1 : decide (32 ≤ (c.toNat : Int)) = false := decide_eq_false (by omega)
    have HE : Hid ((decide (32 ≤ c.toNat) && decide (c.toNat ≤ 126) && !mb) = false) := by show _ = _; simp [h1]
    rw [HE.out]
    clear h1 HE HM
    generalize (c.toNat : Int) = z at *
    go_enter Tryd.func68, Tryd.ntmps68
    go_wp2_with fail
    go_ret
    exact ⟨rfl, rfl⟩
end Go.Proofs.YtclkoffnjiiioaaDoor
