import Derived.Test.YtclkoffnjiiioaaDoorIEsc
namespace Go.Proofs.YtclkoffnjiiioaaDoor
open Go.RowKit
set_option linter.unusedVariables false
set_option linter.unusedSimpArgs false
attribute [local go_sem ↓] Go.wp_at_zero Go.wp_at_succ
theorem escB_len (c : UInt8) : (escB c).length ≤ 4 := by
  unfold escB
  split
  · simp
  · split <;> simp
theorem esc_len (l : List UInt8) : (l.flatMap escB).length ≤ 4 * l.length := by
  induction l with
  | nil => simp
  | cons a l ih => rw [List.flatMap_cons, List.length_append, List.length_cons]; have := escB_len a; omega
set_option maxRecDepth 100000 in
set_option maxHeartbeats 4000000 in
theorem text_ok {W : World} {B : Nat} {v : Value} {bs : List UInt8} (h : Pg W B v bs) (s : ByteArray) (hs : s.size ≤ 100000) (hl : bs.length ≤ 70368744177664) : Calls Tryd.prog 66 #[.string s, v] W fun e w' => WrP W B bs (textW s) e w' := by
  have HB : Hid (∀ i (hi : i < s.size), (s.data.toList.take (i + 1)).flatMap escB = (s.data.toList.take i).flatMap escB ++ escB s[i]) := fun i hi => by
    have hi2 : i < s.data.toList.length := by rw [Array.length_toList]; exact hi
    rw [List.take_succ_eq_append_getElem hi2, List.flatMap_append]
    congr 1
    simp [List.flatMap_cons]
    rfl
  have HT : Hid ((s.data.toList.take s.size) = s.data.toList) := by
    show _ = _
    rw [List.take_of_length_le]
    rw [Array.length_toList]
    exact Nat.le_refl _
  have HLn : Hid (∀ i, i ≤ s.size → ((s.data.toList.take i).flatMap escB).length ≤ 400000) := fun i hi => by
    have := esc_len (s.data.toList.take i)
    rw [List.length_take] at this
    omega
  obtain ⟨v1, w1, hr, hp, hf⟩ := h.push [39] (by simp; omega)
  have HR := mkHid hr
  have H1 := mkHid (And.intro hp hf)
  clear h hr hp hf
  go_enter Tryd.func66, Tryd.ntmps66
  go_wp2_with (at_builtin; refine Lib.wpList_append_run _ rfl (.tmp 6) (.tmp 7) 47 47 rfl _ _ rfl rfl _ _ HR.out ?_)
  go_loopw [1, 11] (fun pg q wr => ∃ i : Nat, i ≤ s.size ∧ q = .int .i64 (i : Int) ∧ Hid (Pg wr B pg (bs ++ [39] ++ (s.data.toList.take i).flatMap escB) ∧ Pf B W wr)) (fun _ q _ => s.size - (intOf q).toNat)
  case atStart => exact ⟨0, Nat.zero_le _, rfl, by simpa using H1.out.1, H1.out.2⟩
  case round =>
    clear HR H1
    obtain ⟨i, hi, rfl, hst⟩ := hrel
    have i0 : (0 : Int) ≤ (i : Int) := by omega
    obtain ⟨hp, hf⟩ := hst.out
    by_cases hlt : i < s.size
    · have i1 : (i : Int) < (s.size : Int) := by omega
      have HW := mkHid (writeByte_ok hp s[i] (by have := HLn.out i hi; simp only [List.length_append, List.length_singleton]; omega))
      have HE : Hid (∀ v' w', Pg w' B v' (bs ++ [39] ++ (s.data.toList.take i).flatMap escB ++ escB s[i]) → Pf B wr w' → Pg w' B v' (bs ++ [39] ++ (s.data.toList.take (i + 1)).flatMap escB) ∧ Pf B W w') := fun v' w' h1 h2 => ⟨by rw [HB.out i hlt, ← List.append_assoc]; exact h1, hf.trans h2⟩
      clear hst hp hf
      go_wp2_with fail
      refine HW.out.mono ?_
      rintro e w2 ⟨v', rfl, h1, h2⟩
      have HX := mkHid (HE.out v' w2 h1 h2)
      clear h1 h2
      go_wp2_with fail
      go_roundw
      case rel => exact ⟨i + 1, by omega, by go_num, HX.out⟩
      case measure => simp [intOf]; omega
    · have hie : i = s.size := by omega
      subst hie
      obtain ⟨v2, w2, hr, hp2, hf2⟩ := hp.push [39] (by have := HLn.out _ hi; simp only [List.length_append, List.length_singleton]; omega)
      have HR := mkHid hr
      have HX : Hid (WrP W B bs (textW s) (.returned v2) w2) := by
        refine ⟨v2, rfl, ?_, hf.trans hf2⟩
        rw [HT.out] at hp2
        unfold textW
        have e : bs ++ [39] ++ List.flatMap escB s.data.toList ++ [39] = bs ++ 39 :: (s.data.toList.flatMap escB ++ [39]) := by simp
        rw [← e]
        exact hp2
      clear hst hp hf hr hp2 hf2
      go_wp2_with (at_builtin; refine Lib.wpList_append_run _ rfl (.tmp 20) (.tmp 21) 47 47 rfl _ _ rfl rfl _ _ HR.out ?_)
      go_ret
      exact HX.out
end Go.Proofs.YtclkoffnjiiioaaDoor
