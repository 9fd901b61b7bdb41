import Derived.Test.YtheolmnjedbjmaaDoorSL6
import Derived.Test.YtheolmnjedbjmaaDoorSL7
namespace Go.Proofs.YtheolmnjedbjmaaDoor
open Go.RowKit
set_option linter.unusedVariables false
set_option linter.unusedSimpArgs false
attribute [local go_sem ↓] Go.wp_at_zero Go.wp_at_succ
theorem ext_list (s : ByteArray) (a b : Nat) : (s.extract a b).data.toList = (s.data.toList.drop a).take (b - a) := by
  rw [ByteArray.data_extract, Array.toList_extract]
theorem drop_cut (s : ByteArray) (a i : Nat) (ha : a ≤ i) (hi : i < s.size) : s.data.toList.drop a = (s.extract a i).data.toList ++ s[i] :: s.data.toList.drop (i + 1) := by
  have hl : s.data.toList.length = s.size := Array.length_toList
  rw [ext_list]
  have e : s.data.toList.drop a = (s.data.toList.drop a).take (i - a) ++ (s.data.toList.drop a).drop (i - a) := (List.take_append_drop _ _).symm
  have e2 : (s.data.toList.drop a).drop (i - a) = s[i] :: s.data.toList.drop (i + 1) := by
    rw [List.drop_drop]
    have : a + (i - a) = i := by omega
    rw [this, List.drop_eq_getElem_cons (by rw [hl]; exact hi)]
    congr 1
  rw [← e2]
  exact e
theorem ext_ten (s : ByteArray) (a b : Nat) (h : ∀ (j : Nat) (hj : j < s.size), a ≤ j → j < b → s[j]'hj ≠ 10) : (10 : UInt8) ∉ (s.extract a b).data.toList := fun hm => ext_mem s a b (fun c => c ≠ 10) h 10 hm rfl
theorem u8_ten (b : UInt8) : ((b.toNat : Int) == 10) = decide (b = 10) := by
  by_cases h : b = 10
  · subst h; rfl
  · rw [decide_eq_false h, beq_eq_false_iff_ne]
    intro e
    apply h
    have : b.toNat = 10 := by omega
    rw [← UInt8.ofNat_toNat (x := b), this]
    rfl
set_option maxRecDepth 100000 in
set_option maxHeartbeats 8000000 in
theorem rlines_ok' (s : ByteArray) (hs : s.size ≤ 4398046511104) (w : World) : Calls Tryd.prog 19 #[.string s] w fun e w' => ∃ p c, e = .returned (.slice p (linesB s.data.toList).length c) ∧ Mine w w' p c ((linesB s.data.toList).map ba) := by
  have H0 := mkHid (mine_nil w)
  go_enter Tryd.func19, Tryd.ntmps19
  go_wp2_with fail
  go_loopw [3, 4, 5] (fun o a q wr => ∃ (i at_ : Nat) (acc : List Bs) (p : Option Addr) (c : Nat), o = .slice p acc.length c ∧ a = .int .i64 (at_ : Int) ∧ q = .int .i64 (i : Int) ∧ Hid (at_ ≤ i ∧ i ≤ s.size ∧ acc.length ≤ at_ ∧ (∀ (j : Nat) (hj : j < s.size), at_ ≤ j → j < i → s[j]'hj ≠ 10) ∧ acc ++ linesB (s.data.toList.drop at_) = linesB s.data.toList ∧ Mine w wr p c (acc.map ba))) (fun _ _ q _ => s.size - (intOf q).toNat)
  case atStart => exact ⟨0, 0, [], none, 0, rfl, rfl, rfl, Nat.le_refl _, Nat.zero_le _, Nat.le_refl _, fun j _ _ h => by omega, by simp, H0.out⟩
  case round =>
    clear H0
    obtain ⟨i, at_, acc, p, c, rfl, rfl, rfl, hst⟩ := hrel
    obtain ⟨h1, h2, h3, h4, h5, h6⟩ := hst.out
    have i0 : (0 : Int) ≤ (i : Int) := by omega
    have a0 : (0 : Int) ≤ (at_ : Int) := by omega
    by_cases hlt : i < s.size
    · have i1 : (i : Int) < (s.size : Int) := by omega
      have i2 : (i : Int) ≤ (s.size : Int) := by omega
      have i3 : (at_ : Int) ≤ (i : Int) := by omega
      obtain ⟨b, hb⟩ : ∃ b, s[i] = b := ⟨_, rfl⟩
      have hbi : s[i] = b := hb
      have ht := u8_ten b
      by_cases hb10 : b = 10
      · have ht1 : ((b.toNat : Int) == 10) = true := by rw [ht]; simp [hb10]
        have hcut := drop_cut s at_ i h1 hlt
        rw [hb, hb10] at hcut
        have hno := ext_ten s at_ i h4
        obtain ⟨p', c', w', r1, r2⟩ := mine_push h6 (s.extract at_ i) (by simp; omega)
        rw [List.length_map] at r1
        have HR := mkHid r1
        have HX : Hid ((acc ++ [(s.extract at_ i).data.toList]) ++ linesB (s.data.toList.drop (i + 1)) = linesB s.data.toList ∧ Mine w w' p' c' ((acc ++ [(s.extract at_ i).data.toList]).map ba)) := mkHid (by
          refine ⟨by rw [← h5, hcut, linesB_nl _ _ hno]; simp, ?_⟩
          have : (acc ++ [(s.extract at_ i).data.toList]).map ba = acc.map ba ++ [s.extract at_ i] := by rw [List.map_append, List.map_cons, List.map_nil, ba_of]
          rw [this]
          exact r2)
        have hal : Hid (acc.length ≤ at_) := mkHid h3
        clear hst h2 h3 h4 h5 h6 ht hb10 hcut hno r1 r2 hb
        go_wp2_with (at_builtin; refine Lib.wpList_append_run _ rfl (.tmp 16) (.tmp 21) 36 36 rfl _ _ rfl rfl _ _ HR.out ?_)
        go_roundw
        case rel => exact ⟨i + 1, i + 1, _, p', c', by rw [List.length_append]; rfl, by go_num, by go_num, Nat.le_refl _, by omega, by have := hal.out; simp; omega, fun j _ _ h => by omega, HX.out.1, HX.out.2⟩
        case measure => simp [intOf]; omega
      · have ht1 : ((b.toNat : Int) == 10) = false := by rw [ht]; simp [hb10]
        have HX : Hid (acc.length ≤ at_ ∧ (∀ (j : Nat) (hj : j < s.size), at_ ≤ j → j < i + 1 → s[j]'hj ≠ 10) ∧ acc ++ linesB (s.data.toList.drop at_) = linesB s.data.toList ∧ Mine w wr p c (acc.map ba)) := mkHid ⟨h3, fun j hj q1 q2 => by
          by_cases e : j = i
          · subst e; rw [hb]; exact hb10
          · exact h4 j hj q1 (by omega), h5, h6⟩
        clear hst h2 h3 h4 h5 h6 ht hb10 hb
        go_wp2_with fail
        go_roundw
        case rel => exact ⟨i + 1, at_, acc, p, c, rfl, rfl, by go_num, by omega, by omega, HX.out⟩
        case measure => simp [intOf]; omega
    · have hie : i = s.size := by omega
      subst hie
      by_cases hat : at_ < s.size
      · have i1 : (at_ : Int) < (s.size : Int) := by omega
        have i2 : (at_ : Int) ≤ (s.size : Int) := by omega
        have hno := ext_ten s at_ s.size h4
        have hall : s.data.toList.drop at_ = (s.extract at_ s.size).data.toList := by
          rw [ext_list, List.take_of_length_le]
          rw [List.length_drop, Array.length_toList]
          exact Nat.le_refl _
        have hne : (s.extract at_ s.size).data.toList ≠ [] := by
          rw [← hall]
          intro e
          have := congrArg List.length e
          rw [List.length_drop, Array.length_toList] at this
          have hs2 : s.data.size = s.size := rfl
          simp at this
          omega
        obtain ⟨p', c', w', r1, r2⟩ := mine_push h6 (s.extract at_ s.size) (by simp; omega)
        rw [List.length_map] at r1
        have HR := mkHid r1
        have HX : Hid (acc.length + 1 = (linesB s.data.toList).length ∧ Mine w w' p' c' ((linesB s.data.toList).map ba)) := mkHid (by
          have e : linesB s.data.toList = acc ++ [(s.extract at_ s.size).data.toList] := by rw [← h5, hall, linesB_last _ hno hne]
          have e2 : (acc ++ [(s.extract at_ s.size).data.toList]).map ba = acc.map ba ++ [s.extract at_ s.size] := by rw [List.map_append, List.map_cons, List.map_nil, ba_of]
          rw [e, e2]
          exact ⟨by simp, r2⟩)
        clear hst h1 h2 h3 h4 h5 h6 hno hall hne r1 r2
        go_wp2_with (at_builtin; refine Lib.wpList_append_run _ rfl (.tmp 29) (.tmp 33) 36 36 rfl _ _ rfl rfl _ _ HR.out ?_)
        go_ret
        exact ⟨p', c', by rw [HX.out.1]; rfl, HX.out.2⟩
      · have hae : at_ = s.size := by omega
        have HX : Hid (acc.length = (linesB s.data.toList).length ∧ Mine w wr p c ((linesB s.data.toList).map ba)) := mkHid (by
          have e : s.data.toList.drop at_ = [] := List.drop_eq_nil_of_le (by rw [Array.length_toList]; have hs2 : s.data.size = s.size := rfl; omega)
          rw [e] at h5
          have e2 : linesB s.data.toList = acc := by rw [← h5]; simp [linesB, linesT]
          rw [e2]
          exact ⟨rfl, h6⟩)
        clear hst h1 h2 h3 h4 h5 h6
        subst hae
        have i1 : ¬ ((s.size : Int) < (s.size : Int)) := by omega
        go_wp2_with fail
        go_ret
        exact ⟨p, c, by rw [HX.out.1]; rfl, HX.out.2⟩
theorem rlines_ok (t : Bs) (hs : t.length ≤ 4398046511104) (w : World) : Calls Tryd.prog 19 #[.string (ba t)] w fun e w' => ∃ p c, e = .returned (.slice p (linesB t).length c) ∧ Mine w w' p c ((linesB t).map ba) := by
  have := rlines_ok' (ba t) (by rw [ba_size]; exact hs) w
  rwa [ba_data] at this
end Go.Proofs.YtheolmnjedbjmaaDoor
