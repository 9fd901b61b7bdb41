import Derived.Test.YtblbjgifhgfifaaPG00NPure
namespace Go.Proofs.Ytblbjgifhgfifaa
open Go.RowKit
set_option linter.unusedVariables false
set_option linter.unusedSimpArgs false
theorem letB_iff (n : Nat) : letB n = true ↔ (97 ≤ n ∧ n ≤ 122) ∨ (65 ≤ n ∧ n ≤ 90) := by simp [letB]
theorem alnB_iff (n : Nat) : alnB n = true ↔ ((97 ≤ n ∧ n ≤ 122) ∨ (65 ≤ n ∧ n ≤ 90)) ∨ (48 ≤ n ∧ n ≤ 57) := by simp [alnB, letB]
theorem rLetter_ok (n : Nat) (w : World) : Calls Try.prog 46 #[.int .u8 n] w fun e w' => e = .returned (.bool (letB n)) ∧ w' = w := by
  go_enter Try.func46, Try.ntmps46
  go_wp2
  all_goals (go_ret; exact ⟨congrArg (fun b => Ending.returned (Value.bool b)) (by rw [Bool.eq_iff_iff, letB_iff]; simp <;> omega), rfl⟩)
set_option maxHeartbeats 1000000 in
set_option maxRecDepth 20000 in
theorem rPlain_ok (s : ByteArray) (w : World) : Calls Try.prog 27 #[.string s] w fun e w' => e = .returned (.bool (plainB s)) ∧ w' = w := by
  by_cases h1 : 1 ≤ s.size
  rotate_left
  · have hp : plainB s = false := by simp [plainB, h1]
    have h2 : (s.size : Int) < 1 := by omega
    rw [hp]
    go_enter Try.func27, Try.ntmps27
    go_wp2
    go_ret
    exact ⟨rfl, rfl⟩
  by_cases h3 : s.size ≤ 32
  rotate_left
  · have hp : plainB s = false := by simp [plainB, h3]
    have h2 : ¬ (s.size : Int) < 1 := by omega
    have h4 : (32 : Int) < (s.size : Int) := by omega
    rw [hp]
    go_enter Try.func27, Try.ntmps27
    go_wp2
    go_ret
    exact ⟨rfl, rfl⟩
  have h2 : ¬ (s.size : Int) < 1 := by omega
  have h4 : ¬ (32 : Int) < (s.size : Int) := by omega
  have h0 : 0 < s.size := by omega
  have h0i : (0 : Int) < (s.size : Int) := by omega
  have L0 := rLetter_ok (s[0]'h0).toNat
  have e0 := bAt_eq h0
  cases hb : letB (bAt s 0) with
  | false =>
    have hp : plainB s = false := by simp [plainB, hb]
    rw [hp]
    rw [← e0, hb] at L0
    rw [e0] at L0
    go_enter Try.func27, Try.ntmps27
    go_wp2_with (go_at_call 46; refine (L0 _).mono ?_; rintro e w1 ⟨rfl, rfl⟩)
    go_ret
    exact ⟨rfl, rfl⟩
  | true =>
    have HP : Hid (plainB s = (List.range s.size).all (fun i => alnB (bAt s i))) := mkHid (by unfold plainB; rw [hb]; simp [h1, h3])
    rw [← e0, hb] at L0
    rw [e0] at L0
    clear hb
    go_enter Try.func27, Try.ntmps27
    go_wp2_with (go_at_call 46; refine (L0 _).mono ?_; rintro e w1 ⟨rfl, rfl⟩)
    go_loopw [3] (fun q wr => ∃ i : Nat, i ≤ s.size ∧ q = .int .i64 i ∧ wr = w1 ∧ Hid (∀ j, j < i → alnB (bAt s j) = true)) (fun q _ => s.size - (intOf q).toNat)
    case atStart => exact ⟨0, by omega, rfl, rfl, mkHid (fun j h => by omega)⟩
    case round =>
      obtain ⟨i, hi, rfl, rfl, hj⟩ := hrel
      by_cases hlt : i < s.size
      · have hil : (i : Int) < (s.size : Int) := by omega
        have i0 : (0 : Int) ≤ (i : Int) := by omega
        have e1 := bAt_eq hlt
        have L1 := rLetter_ok (s[i]'hlt).toNat
        have HN : Hid (alnB (bAt s i) = true → ∀ j, j < i + 1 → alnB (bAt s j) = true) := fun h j hj1 => by
          by_cases hji : j < i
          · exact hj.out j hji
          · have : j = i := by omega
            subst this; exact h
        have HB : Hid (alnB (bAt s i) = false → plainB s = false) := fun h => by
          rw [HP.out, Bool.eq_false_iff]
          intro ha
          rw [List.all_eq_true] at ha
          rw [ha i (List.mem_range.2 hlt)] at h
          cases h
        have ha : alnB (bAt s i) = (letB (bAt s i) || (decide (48 ≤ bAt s i) && decide (bAt s i ≤ 57))) := rfl
        cases hb : letB (bAt s i) with
        | true =>
          have HN2 := mkHid (HN.out (by rw [ha, hb]; rfl))
          rw [← e1, hb] at L1
          rw [e1] at L1
          clear hb HB HN ha e1 L0 e0
          go_wp2_with (go_at_call 46; refine (L1 _).mono ?_; rintro e w1 ⟨rfl, rfl⟩)
          go_roundw
          case rel => exact ⟨i + 1, by omega, by go_num, by simp, HN2⟩
          case measure => simp [intOf]; omega
        | false =>
          rw [← e1, hb] at L1
          rw [e1] at L1
          by_cases hd : 48 ≤ bAt s i ∧ bAt s i ≤ 57
          · have HN2 := mkHid (HN.out (by rw [ha, hb]; simp [hd.1, hd.2]))
            have d1 : ¬ ((s[i]'hlt).toNat : Int) < 48 := by rw [← e1]; omega
            have d2 : ¬ (57 : Int) < ((s[i]'hlt).toNat : Int) := by rw [← e1]; omega
            clear hb HB HN ha e1 L0 e0 hd
            go_wp2_with (go_at_call 46; refine (L1 _).mono ?_; rintro e w1 ⟨rfl, rfl⟩)
            go_roundw
            case rel => exact ⟨i + 1, by omega, by go_num, by simp, HN2⟩
            case measure => simp [intOf]; omega
          · have HB2 := mkHid (HB.out (by rw [ha, hb]; simp; omega))
            have d1 : ((s[i]'hlt).toNat : Int) < 48 ∨ (57 : Int) < ((s[i]'hlt).toNat : Int) := by rw [← e1]; omega
            clear hb HB HN ha e1 L0 e0 hd
            rcases d1 with d1 | d1
            · go_wp2_with (go_at_call 46; refine (L1 _).mono ?_; rintro e w1 ⟨rfl, rfl⟩)
              go_ret
              exact ⟨by rw [HB2.out]; rfl, rfl⟩
            · have d2 : ¬ ((s[i]'hlt).toNat : Int) < 48 := by omega
              go_wp2_with (go_at_call 46; refine (L1 _).mono ?_; rintro e w1 ⟨rfl, rfl⟩)
              go_ret
              exact ⟨by rw [HB2.out]; rfl, rfl⟩
      · have hie : i = s.size := by omega
        subst hie
        have HE : Hid (plainB s = true) := by
          rw [HP.out, List.all_eq_true]
          intro j hj1
          exact hj.out j (List.mem_range.1 hj1)
        clear L0 e0
        go_wp2_with fail
        go_ret
        exact ⟨by rw [HE.out]; rfl, rfl⟩
theorem ne_lit (s c : ByteArray) (L : List UInt8) (hL : c.data.toList = L) : decide (s ≠ c) = !(s.toList == L) := by
  have := tl_eq s c
  rw [toList_data c, hL] at this
  rw [this]
  by_cases e : s = c <;> simp [e]
theorem plainB_size {s : ByteArray} (h : plainB s = true) : 0 < s.size := by
  unfold plainB at h
  simp only [Bool.and_eq_true, decide_eq_true_eq] at h
  omega
set_option maxHeartbeats 1000000 in
set_option maxRecDepth 20000 in
theorem rClass_ok (s : ByteArray) (w : World) : Calls Try.prog 10 #[.string s] w fun e w' => e = .returned (.bool (classB s)) ∧ w' = w := by
  have HP := rPlain_ok s w
  cases hp : plainB s with
  | false =>
    have hc : classB s = false := by simp [classB, hp]
    rw [hp] at HP
    rw [hc]
    go_enter Try.func10, Try.ntmps10
    go_wp2_with (go_at_call 27; refine HP.mono ?_; rintro e w1 ⟨rfl, rfl⟩)
    go_ret
    exact ⟨rfl, rfl⟩
  | true =>
    have h0 := plainB_size hp
    have hc : classB s = decide ((s[0]'h0).toNat ≤ 90) := by simp [classB, hp, bAt_eq h0]
    rw [hp] at HP
    rw [hc]
    have h0i : (0 : Int) < (s.size : Int) := by omega
    go_enter Try.func10, Try.ntmps10
    go_wp2_with (go_at_call 27; refine HP.mono ?_; rintro e w1 ⟨rfl, rfl⟩)
    all_goals (go_ret; exact ⟨congrArg (fun b => Ending.returned (Value.bool b)) (by rw [Bool.eq_iff_iff]; simp <;> omega), rfl⟩)
set_option maxHeartbeats 1000000 in
set_option maxRecDepth 20000 in
theorem rField_ok (s : ByteArray) (w : World) : Calls Try.prog 8 #[.string s] w fun e w' => e = .returned (.bool (fieldB s)) ∧ w' = w := by
  have HP := rPlain_ok s w
  cases hp : plainB s with
  | false =>
    have hc : fieldB s = false := by simp [fieldB, hp]
    rw [hp] at HP
    rw [hc]
    go_enter Try.func8, Try.ntmps8
    go_wp2_with (go_at_call 27; refine HP.mono ?_; rintro e w1 ⟨rfl, rfl⟩)
    go_ret
    exact ⟨rfl, rfl⟩
  | true =>
    have h0 := plainB_size hp
    rw [hp] at HP
    have h0i : (0 : Int) < (s.size : Int) := by omega
    have e0 := bAt_eq h0
    by_cases ha : 97 ≤ bAt s 0
    rotate_left
    · have hc : fieldB s = false := by simp [fieldB, ha]
      rw [hc]
      have hb : ¬ (97 : Int) ≤ ((s[0]'h0).toNat : Int) := by rw [← e0]; omega
      clear ha e0
      go_enter Try.func8, Try.ntmps8
      go_wp2_with (go_at_call 27; refine HP.mono ?_; rintro e w1 ⟨rfl, rfl⟩)
      go_ret
      exact ⟨rfl, rfl⟩
    have hb : (97 : Int) ≤ ((s[0]'h0).toNat : Int) := by rw [← e0]; omega
    have hc : fieldB s = (decide (s ≠ sSelf) && decide (s ≠ sSuper) && decide (s ≠ sNil) && decide (s ≠ sTrue) && decide (s ≠ sFalse)) := by simp [fieldB, hp, ha]
    rw [hc, ne_lit s sSelf [115, 101, 108, 102] rfl, ne_lit s sSuper [115, 117, 112, 101, 114] rfl, ne_lit s sNil [110, 105, 108] rfl, ne_lit s sTrue [116, 114, 117, 101] rfl, ne_lit s sFalse [102, 97, 108, 115, 101] rfl]
    clear hc ha e0 hp
    go_enter Try.func8, Try.ntmps8
    go_wp2_with (go_at_call 27; refine HP.mono ?_; rintro e w1 ⟨rfl, rfl⟩)
    all_goals (go_ret; exact ⟨congrArg (fun b => Ending.returned (Value.bool b)) (by simp_all), rfl⟩)
end Go.Proofs.Ytblbjgifhgfifaa
namespace Go.Proofs.Ytblbjgifhgfifaa
open Go.RowKit
set_option linter.unusedVariables false
set_option linter.unusedSimpArgs false
/-- a list of classes that can be read, wherever it lies -/
structure RdC (w : World) (v : Value) (l : List Cl) : Prop where
  at_ : ∃ p c, v = .slice p l.length c ∧ (0 < l.length → ∃ g off, p = some ⟨g, off, none⟩ ∧ g < w.heap.size ∧ ∀ k, k < l.length → w.cell? ⟨g, off + k * 4, none⟩ = some (.string (clAt l k).name) ∧ w.cell? ⟨g, off + k * 4 + 1, none⟩ = some (.string (clAt l k).sup) ∧ w.cell? ⟨g, off + k * 4 + 2, none⟩ = some (clAt l k).v ∧ w.cell? ⟨g, off + k * 4 + 3, none⟩ = some (.int .i64 (clAt l k).lay))
  own : ∀ k, k < l.length → RdS w (clAt l k).v (clAt l k).own
  short : l.length ≤ 8796093022208
def clBlks (l : List Cl) (g : Nat) : Prop := ∃ k, k < l.length ∧ 0 < (clAt l k).own.length ∧ (clAt l k).v.ownBlock = some g
theorem RdC.keep {w w' : World} {v : Value} {l : List Cl} {S : List Nat} (h : RdC w v l) (hf : Fr S w w') (hd : 0 < l.length → ∀ g, v.ownBlock = some g → g ∉ S) (ho : ∀ g, clBlks l g → g ∉ S) : RdC w' v l := by
  obtain ⟨p, c, e, h1⟩ := h.at_
  refine ⟨⟨p, c, e, fun hp => ?_⟩, fun k hk => (h.own k hk).keep hf (fun hp g hg => ho g ⟨k, hk, hp, hg⟩), h.short⟩
  obtain ⟨g, off, e2, h2, h3⟩ := h1 hp
  have hn := hd hp g (by rw [e, e2]; rfl)
  refine ⟨g, off, e2, by have := hf.size; omega, fun k hk => ?_⟩
  obtain ⟨a0, a1, a2, a3⟩ := h3 k hk
  exact ⟨(hf.cell (p := ⟨g, off + k * 4, none⟩) h2 hn).trans a0, (hf.cell (p := ⟨g, off + k * 4 + 1, none⟩) h2 hn).trans a1, (hf.cell (p := ⟨g, off + k * 4 + 2, none⟩) h2 hn).trans a2, (hf.cell (p := ⟨g, off + k * 4 + 3, none⟩) h2 hn).trans a3⟩
theorem RdC.idle {w w' : World} {v : Value} {l : List Cl} (h : RdC w v l) (hf : Fr [] w w') : RdC w' v l := h.keep hf (by simp) (by simp)
set_option maxRecDepth 20000 in
set_option maxHeartbeats 1000000 in
theorem rAt_ok (l : List Cl) (n : Nat) (s : ByteArray) (v : Value) (w : World) (h : RdC w v l) (hn : n ≤ l.length) :
    Calls Try.prog 30 #[v, .int .i64 n, .string s] w fun e w' => e = .returned (.int .i64 (atZ l n s)) ∧ w' = w := by
  obtain ⟨p, c, rfl, h1⟩ := h.at_
  have s1 := h.short
  have H1 := mkHid h1
  clear h h1
  go_enter Try.func30, Try.ntmps30
  go_wp2_with fail
  go_loopw [7] (fun q wr => ∃ i : Nat, i ≤ n ∧ q = .int .i64 i ∧ Hid (∀ m, m < i → (clAt l m).name ≠ s) ∧ wr = w) (fun q _ => n - (intOf q).toNat)
  case atStart => exact ⟨0, Nat.zero_le _, rfl, mkHid (fun m hm => by omega), rfl⟩
  case round =>
    obtain ⟨i, hi, rfl, hst, rfl⟩ := hrel
    have i1 : (0 : Int) ≤ (i : Int) := by omega
    by_cases hlt : i < n
    · have i2 : (i : Int) < (n : Int) := by omega
      have i3 : (i : Int) < (l.length : Int) := by omega
      obtain ⟨g, off, rfl, x1, x2⟩ := H1.out (by omega)
      have k1 := (x2 i (by omega)).1
      have HNx : Hid ((clAt l i).name ≠ s → ∀ m, m < i + 1 → (clAt l m).name ≠ s) := fun hh m hm => by
        by_cases e : m = i
        · rw [e]; exact hh
        · exact hst.out m (by omega)
      have HE : Hid ((clAt l i).name = s → atZ l n s = (i : Int)) := fun hh => by
        unfold atZ; rw [atZ_some hlt (by omega) hh hst.out]; rfl
      generalize (clAt l i).name = x at *
      clear x1 x2 hst
      by_cases he : x = s
      · have HE2 := mkHid (HE.out he)
        have hb : (x.toList == s.toList) = true := by rw [tl_eq]; exact decide_eq_true he
        clear HE HNx he
        go_wp2_with fail
        go_ret
        exact ⟨by rw [HE2.out]; rfl, rfl⟩
      · have hb : (x.toList == s.toList) = false := by rw [tl_eq]; exact decide_eq_false he
        have HN2 := mkHid (HNx.out he)
        clear HE HNx he
        go_wp2_with fail
        go_roundw
        case rel => exact ⟨i + 1, by omega, by go_num, HN2, by simp⟩
        case measure => simp [intOf]; omega
    · have hie : i = n := by omega
      subst hie
      have HE : Hid (atZ l i s = -1) := mkHid (by unfold atZ; rw [atZ_none (fun m h1 h2 => hst.out m h1)]; rfl)
      clear H1 hst
      go_wp2_with fail
      go_ret
      exact ⟨by rw [HE.out]; rfl, rfl⟩
set_option maxRecDepth 20000 in
set_option maxHeartbeats 1000000 in
theorem rAmong_ok (l : List ByteArray) (s : ByteArray) (v : Value) (w : World) (h : RdS w v l) :
    Calls Try.prog 36 #[v, .string s] w fun e w' => e = .returned (.int .i64 (amongZ l s)) ∧ w' = w := by
  obtain ⟨p, c, rfl, h1⟩ := h.at_
  have s1 := h.short
  have H1 := mkHid h1
  clear h h1
  go_enter Try.func36, Try.ntmps36
  go_wp2_with fail
  go_loopw [5] (fun q wr => ∃ i : Nat, i ≤ l.length ∧ q = .int .i64 i ∧ Hid (s ∉ l.take i) ∧ wr = w) (fun q _ => l.length - (intOf q).toNat)
  case atStart => exact ⟨0, Nat.zero_le _, rfl, mkHid (by simp), rfl⟩
  case round =>
    obtain ⟨i, hi, rfl, hst, rfl⟩ := hrel
    have i1 : (0 : Int) ≤ (i : Int) := by omega
    by_cases hlt : i < l.length
    · have i3 : (i : Int) < (l.length : Int) := by omega
      obtain ⟨g, off, rfl, x1, x2⟩ := H1.out (by omega)
      have k1 := x2 i (by omega)
      have hx : l[i]? = some (l.getD i ⟨#[]⟩) := by rw [List.getD_eq_getElem?_getD, List.getElem?_eq_getElem hlt]; rfl
      have HNx : Hid (l.getD i ⟨#[]⟩ ≠ s → s ∉ l.take (i + 1)) := fun hh hm => by
        rw [← take_snoc hlt, List.mem_append] at hm
        rcases hm with hm | hm
        · exact hst.out hm
        · exact hh (List.mem_singleton.1 hm).symm
      have HE : Hid (l.getD i ⟨#[]⟩ = s → amongZ l s = (i : Int)) := fun hh => amongZ_some (by rw [hx, hh]) hst.out
      clear hx
      generalize l.getD i ⟨#[]⟩ = x at *
      clear x1 x2 hst
      by_cases he : x = s
      · have HE2 := mkHid (HE.out he)
        have hb : (x.toList == s.toList) = true := by rw [tl_eq]; exact decide_eq_true he
        clear HE HNx he
        go_wp2_with fail
        go_ret
        exact ⟨by rw [HE2.out]; rfl, rfl⟩
      · have hb : (x.toList == s.toList) = false := by rw [tl_eq]; exact decide_eq_false he
        have HN2 := mkHid (HNx.out he)
        clear HE HNx he
        go_wp2_with fail
        go_roundw
        case rel => exact ⟨i + 1, by omega, by go_num, HN2, by simp⟩
        case measure => simp [intOf]; omega
    · have hie : i = l.length := by omega
      subst hie
      have HE : Hid (amongZ l s = -1) := mkHid (amongZ_none (by have := hst.out; rwa [List.take_length] at this))
      clear H1 hst
      go_wp2_with fail
      go_ret
      exact ⟨by rw [HE.out]; rfl, rfl⟩
set_option maxRecDepth 20000 in
set_option maxHeartbeats 1000000 in
theorem lWhere_ok (l : List ByteArray) (s : ByteArray) (v : Value) (w : World) (h : RdS w v l) :
    Calls Try.prog 44 #[v, .string s] w fun e w' => e = .returned (.int .i64 (amongZ l s)) ∧ w' = w := by
  obtain ⟨p, c, rfl, h1⟩ := h.at_
  have s1 := h.short
  have H1 := mkHid h1
  clear h h1
  go_enter Try.func44, Try.ntmps44
  go_wp2_with fail
  go_loopw [5] (fun q wr => ∃ i : Nat, i ≤ l.length ∧ q = .int .i64 i ∧ Hid (s ∉ l.take i) ∧ wr = w) (fun q _ => l.length - (intOf q).toNat)
  case atStart => exact ⟨0, Nat.zero_le _, rfl, mkHid (by simp), rfl⟩
  case round =>
    obtain ⟨i, hi, rfl, hst, rfl⟩ := hrel
    have i1 : (0 : Int) ≤ (i : Int) := by omega
    by_cases hlt : i < l.length
    · have i3 : (i : Int) < (l.length : Int) := by omega
      obtain ⟨g, off, rfl, x1, x2⟩ := H1.out (by omega)
      have k1 := x2 i (by omega)
      have hx : l[i]? = some (l.getD i ⟨#[]⟩) := by rw [List.getD_eq_getElem?_getD, List.getElem?_eq_getElem hlt]; rfl
      have HNx : Hid (l.getD i ⟨#[]⟩ ≠ s → s ∉ l.take (i + 1)) := fun hh hm => by
        rw [← take_snoc hlt, List.mem_append] at hm
        rcases hm with hm | hm
        · exact hst.out hm
        · exact hh (List.mem_singleton.1 hm).symm
      have HE : Hid (l.getD i ⟨#[]⟩ = s → amongZ l s = (i : Int)) := fun hh => amongZ_some (by rw [hx, hh]) hst.out
      clear hx
      generalize l.getD i ⟨#[]⟩ = x at *
      clear x1 x2 hst
      by_cases he : x = s
      · have HE2 := mkHid (HE.out he)
        have hb : (x.toList == s.toList) = true := by rw [tl_eq]; exact decide_eq_true he
        clear HE HNx he
        go_wp2_with fail
        go_ret
        exact ⟨by rw [HE2.out]; rfl, rfl⟩
      · have hb : (x.toList == s.toList) = false := by rw [tl_eq]; exact decide_eq_false he
        have HN2 := mkHid (HNx.out he)
        clear HE HNx he
        go_wp2_with fail
        go_roundw
        case rel => exact ⟨i + 1, by omega, by go_num, HN2, by simp⟩
        case measure => simp [intOf]; omega
    · have hie : i = l.length := by omega
      subst hie
      have HE : Hid (amongZ l s = -1) := mkHid (amongZ_none (by have := hst.out; rwa [List.take_length] at this))
      clear H1 hst
      go_wp2_with fail
      go_ret
      exact ⟨by rw [HE.out]; rfl, rfl⟩
end Go.Proofs.Ytblbjgifhgfifaa
namespace Go.Proofs.Ytblbjgifhgfifaa
open Go.RowKit
set_option linter.unusedVariables false
set_option linter.unusedSimpArgs false
set_option maxRecDepth 20000 in
set_option maxHeartbeats 1000000 in
/-- two lists of texts -/
theorem rSame_ok (ss ts : List ByteArray) (v u : Value) (w : World) (hs : RdS w v ss) (ht : RdS w u ts) :
    Calls Try.prog 34 #[v, u] w fun e w' => e = .returned (.bool (decide (ss = ts))) ∧ ∃ m, w' = w.drewN m := by
  obtain ⟨p, c, rfl, h1⟩ := hs.at_
  obtain ⟨q, d, rfl, h2⟩ := ht.at_
  have s1 := hs.short
  have s2 := ht.short
  by_cases hl : ss.length = ts.length
  rotate_left
  · have hb0 : ((ss.length : Int) != (ts.length : Int)) = true := by rw [bne_iff_ne]; omega
    have hr : decide (ss = ts) = false := decide_eq_false (fun e => hl (by rw [e]))
    rw [hr]
    clear hs ht h1 h2 hl hr
    go_enter Try.func34, Try.ntmps34
    go_wp2_with fail
    go_ret
    exact ⟨rfl, 0, rfl⟩
  · have hb0 : ((ss.length : Int) != (ts.length : Int)) = false := by rw [bne_eq_false_iff_eq]; omega
    have H1 := mkHid h1
    have H2 := mkHid h2
    have hl2 : (ss.length : Int) = (ts.length : Int) := by omega
    have HL := mkHid hl
    clear hs ht h1 h2 hl hl2
    go_enter Try.func34, Try.ntmps34
    go_wp2_with fail
    go_loopw [5] (fun q wr => ∃ i : Nat, i ≤ ss.length ∧ q = .int .i64 i ∧ Hid (∀ m, m < i → ss.getD m ⟨#[]⟩ = ts.getD m ⟨#[]⟩) ∧ ∃ m, wr = w.drewN m) (fun q _ => ss.length - (intOf q).toNat)
    case atStart => exact ⟨0, Nat.zero_le _, rfl, mkHid (fun m hm => by omega), 0, rfl⟩
    case round =>
      obtain ⟨i, hi, rfl, hst, nd, rfl⟩ := hrel
      have i1 : (0 : Int) ≤ (i : Int) := by omega
      by_cases hlt : i < ss.length
      · have i2 : (i : Int) < (ss.length : Int) := by omega
        have i3 : (i : Int) < (ts.length : Int) := by have := HL.out; omega
        obtain ⟨g, off, rfl, x1, x2⟩ := H1.out (by omega)
        obtain ⟨g', off', rfl, y1, y2⟩ := H2.out (by have := HL.out; omega)
        have k1 := x2 i hlt
        have k2 := y2 i (by have := HL.out; omega)
        have HNx : Hid (ss.getD i ⟨#[]⟩ = ts.getD i ⟨#[]⟩ → ∀ m, m < i + 1 → ss.getD m ⟨#[]⟩ = ts.getD m ⟨#[]⟩) := fun hh m hm => by
          by_cases e : m = i
          · rw [e]; exact hh
          · exact hst.out m (by omega)
        have HBad : Hid (ss.getD i ⟨#[]⟩ ≠ ts.getD i ⟨#[]⟩ → decide (ss = ts) = false) := fun hh => decide_eq_false (fun e => hh (by rw [e]))
        generalize ss.getD i ⟨#[]⟩ = x at *
        generalize ts.getD i ⟨#[]⟩ = y at *
        clear x1 x2 y1 y2
        by_cases he : x = y
        · subst he
          have HN2 := mkHid (HNx.out rfl)
          clear HBad HNx
          go_wp2_with fail
          go_quiet (fail)
          go_wp2_with fail
          go_roundw
          case rel => exact ⟨i + 1, by omega, by go_num, HN2, _, rfl⟩
          case measure => simp [intOf]; omega
        · have hb : (x.toList == y.toList) = false := by rw [tl_eq]; exact decide_eq_false he
          have HB2 := mkHid (HBad.out he)
          clear HBad HNx he
          go_wp2_with fail
          go_quiet (fail)
          go_wp2_with fail
          go_ret
          exact ⟨by rw [HB2.out]; rfl, _, World.drewN_drewN _ _ _⟩
      · have hie : i = ss.length := by omega
        subst hie
        have HE : Hid (decide (ss = ts) = true) := decide_eq_true (by
          apply List.ext_getElem HL.out
          intro m h1 h2
          have := hst.out m h1
          rw [List.getD_eq_getElem?_getD, List.getElem?_eq_getElem h1, List.getD_eq_getElem?_getD, List.getElem?_eq_getElem h2] at this
          exact this)
        clear H1 H2
        go_wp2_with fail
        go_ret
        exact ⟨by rw [HE.out]; rfl, _, rfl⟩
set_option maxRecDepth 20000 in
set_option maxHeartbeats 1000000 in
/-- two lists of texts -/
theorem lSame_ok (ss ts : List ByteArray) (v u : Value) (w : World) (hs : RdS w v ss) (ht : RdS w u ts) :
    Calls Try.prog 21 #[v, u] w fun e w' => e = .returned (.bool (decide (ss = ts))) ∧ ∃ m, w' = w.drewN m := by
  obtain ⟨p, c, rfl, h1⟩ := hs.at_
  obtain ⟨q, d, rfl, h2⟩ := ht.at_
  have s1 := hs.short
  have s2 := ht.short
  by_cases hl : ss.length = ts.length
  rotate_left
  · have hb0 : ((ss.length : Int) != (ts.length : Int)) = true := by rw [bne_iff_ne]; omega
    have hr : decide (ss = ts) = false := decide_eq_false (fun e => hl (by rw [e]))
    rw [hr]
    clear hs ht h1 h2 hl hr
    go_enter Try.func21, Try.ntmps21
    go_wp2_with fail
    go_ret
    exact ⟨rfl, 0, rfl⟩
  · have hb0 : ((ss.length : Int) != (ts.length : Int)) = false := by rw [bne_eq_false_iff_eq]; omega
    have H1 := mkHid h1
    have H2 := mkHid h2
    have hl2 : (ss.length : Int) = (ts.length : Int) := by omega
    have HL := mkHid hl
    clear hs ht h1 h2 hl hl2
    go_enter Try.func21, Try.ntmps21
    go_wp2_with fail
    go_loopw [5] (fun q wr => ∃ i : Nat, i ≤ ss.length ∧ q = .int .i64 i ∧ Hid (∀ m, m < i → ss.getD m ⟨#[]⟩ = ts.getD m ⟨#[]⟩) ∧ ∃ m, wr = w.drewN m) (fun q _ => ss.length - (intOf q).toNat)
    case atStart => exact ⟨0, Nat.zero_le _, rfl, mkHid (fun m hm => by omega), 0, rfl⟩
    case round =>
      obtain ⟨i, hi, rfl, hst, nd, rfl⟩ := hrel
      have i1 : (0 : Int) ≤ (i : Int) := by omega
      by_cases hlt : i < ss.length
      · have i2 : (i : Int) < (ss.length : Int) := by omega
        have i3 : (i : Int) < (ts.length : Int) := by have := HL.out; omega
        obtain ⟨g, off, rfl, x1, x2⟩ := H1.out (by omega)
        obtain ⟨g', off', rfl, y1, y2⟩ := H2.out (by have := HL.out; omega)
        have k1 := x2 i hlt
        have k2 := y2 i (by have := HL.out; omega)
        have HNx : Hid (ss.getD i ⟨#[]⟩ = ts.getD i ⟨#[]⟩ → ∀ m, m < i + 1 → ss.getD m ⟨#[]⟩ = ts.getD m ⟨#[]⟩) := fun hh m hm => by
          by_cases e : m = i
          · rw [e]; exact hh
          · exact hst.out m (by omega)
        have HBad : Hid (ss.getD i ⟨#[]⟩ ≠ ts.getD i ⟨#[]⟩ → decide (ss = ts) = false) := fun hh => decide_eq_false (fun e => hh (by rw [e]))
        generalize ss.getD i ⟨#[]⟩ = x at *
        generalize ts.getD i ⟨#[]⟩ = y at *
        clear x1 x2 y1 y2
        by_cases he : x = y
        · subst he
          have HN2 := mkHid (HNx.out rfl)
          clear HBad HNx
          go_wp2_with fail
          go_quiet (fail)
          go_wp2_with fail
          go_roundw
          case rel => exact ⟨i + 1, by omega, by go_num, HN2, _, rfl⟩
          case measure => simp [intOf]; omega
        · have hb : (x.toList == y.toList) = false := by rw [tl_eq]; exact decide_eq_false he
          have HB2 := mkHid (HBad.out he)
          clear HBad HNx he
          go_wp2_with fail
          go_quiet (fail)
          go_wp2_with fail
          go_ret
          exact ⟨by rw [HB2.out]; rfl, _, World.drewN_drewN _ _ _⟩
      · have hie : i = ss.length := by omega
        subst hie
        have HE : Hid (decide (ss = ts) = true) := decide_eq_true (by
          apply List.ext_getElem HL.out
          intro m h1 h2
          have := hst.out m h1
          rw [List.getD_eq_getElem?_getD, List.getElem?_eq_getElem h1, List.getD_eq_getElem?_getD, List.getElem?_eq_getElem h2] at this
          exact this)
        clear H1 H2
        go_wp2_with fail
        go_ret
        exact ⟨by rw [HE.out]; rfl, _, rfl⟩
end Go.Proofs.Ytblbjgifhgfifaa
namespace Go.Proofs.Ytblbjgifhgfifaa
open Go.RowKit
set_option linter.unusedVariables false
set_option linter.unusedSimpArgs false
theorem upZ (l : List Cl) (c : Nat) : atZ l c (clAt l c).sup = zO (upN l c) := rfl
def undO (l : List Cl) (top : Nat) (k : Option Nat) : Bool := match k with | some d => under l d top | none => false
set_option maxRecDepth 20000 in
set_option maxHeartbeats 1000000 in
theorem rUnder_ok (l : List Cl) (c top : Nat) (v : Value) (w : World) (h : RdC w v l) (hc : c < l.length) (ht : top < l.length) :
    Calls Try.prog 35 #[v, .int .i64 c, .int .i64 top] w fun e w' => e = .returned (.bool (under l c top)) ∧ w' = w := by
  have HAt : Hid (∀ (n : Nat) (s : ByteArray), n ≤ l.length → Calls Try.prog 30 #[v, .int .i64 n, .string s] w fun e w' => e = .returned (.int .i64 (atZ l n s)) ∧ w' = w) := mkHid (fun n s hn => rAt_ok l n s v w h hn)
  obtain ⟨p, c0, rfl, h1⟩ := h.at_
  have s1 := h.short
  have H1 := mkHid h1
  clear h h1
  go_enter Try.func35, Try.ntmps35
  go_wp2_with fail
  go_loopw [1] (fun q wr => ∃ k : Option Nat, q = .int .i64 (zO k) ∧ (∀ d, k = some d → d < l.length) ∧ Hid (under l c top = undO l top k) ∧ wr = w) (fun q _ => (intOf q + 1).toNat)
  case atStart => exact ⟨some c, rfl, fun d hd => by cases hd; exact hc, mkHid rfl, rfl⟩
  case round =>
    obtain ⟨k, rfl, hk, hu, rfl⟩ := hrel
    cases k with
    | none =>
      have HE : Hid (under l c top = false) := mkHid hu.out
      rw [show zO none = -1 from rfl] at *
      have b1 : ¬ (top : Int) < (-1 : Int) := by omega
      have b2 : ¬ (-1 : Int) = (top : Int) := by omega
      clear H1 hu HAt
      go_wp2_with fail
      go_ret
      exact ⟨by rw [HE.out]; rfl, rfl⟩
    | some d =>
      have hd := hk d rfl
      rw [show zO (some d) = (d : Int) from rfl] at *
      by_cases hlt : top < d
      · have b1 : (top : Int) < (d : Int) := by omega
        have d0 : (0 : Int) ≤ (d : Int) := by omega
        have d1 : (d : Int) < (l.length : Int) := by omega
        obtain ⟨g, off, rfl, x1, x2⟩ := H1.out (by omega)
        have k1 := (x2 d hd).2.1
        have HC := mkHid (HAt.out d (clAt l d).sup (by omega))
        rw [upZ] at HC
        have HU : Hid (under l c top = undO l top (upN l d)) := mkHid (by
          rw [hu.out]; show under l d top = _; rw [under_eq, if_pos hlt]; rfl)
        have HL : Hid (∀ e, upN l d = some e → e < d) := mkHid (fun e he => upN_lt he)
        clear x1 x2 hu HAt
        generalize upN l d = u at *
        generalize (clAt l d).sup = s at *
        go_wp2_with (go_at_call 30; refine HC.out.mono ?_; rintro e w1 ⟨rfl, rfl⟩)
        go_roundw
        case rel => exact ⟨u, rfl, fun e he => by have := HL.out e he; omega, HU, by simp⟩
        case measure =>
          cases u with
          | none => simp [intOf, zO]; try omega
          | some e => have := HL.out e rfl; simp [intOf, zO]; omega
      · have b1 : ¬ (top : Int) < (d : Int) := by omega
        have HE : Hid (under l c top = decide (d = top)) := mkHid (by rw [hu.out]; show under l d top = _; rw [under_eq, if_neg hlt])
        clear H1 hu HAt
        go_wp2_with fail
        go_ret
        exact ⟨by rw [HE.out]; exact congrArg (fun b => Ending.returned (Value.bool b)) (by rw [Bool.eq_iff_iff]; simp; try omega), rfl⟩
end Go.Proofs.Ytblbjgifhgfifaa
namespace Go.Proofs.Ytblbjgifhgfifaa
open Go.RowKit
set_option linter.unusedVariables false
set_option linter.unusedSimpArgs false
/-- where the own names of a class lie, where one has others -/
def valOf (l : List Cl) (t : Option Nat) (ov : Value) (c : Nat) : Value := if t = some c then ov else (clAt l c).v
theorem valOf_rd {w : World} {v : Value} {l : List Cl} {t : Option Nat} {ov : Value} {own : List ByteArray} (h : RdC w v l) (ho : RdS w ov own) (c : Nat) (hc : c < l.length) : RdS w (valOf l t ov c) (ownOf l t own c) := by
  unfold valOf ownOf
  split
  · exact ho
  · exact h.own c hc
theorem RdS.one {w : World} {v : Value} {ss : List ByteArray} (h : RdS w v ss) : v.oneCell' = true := by
  obtain ⟨p, c, rfl, _⟩ := h.at_; rfl
def outs (l : List Cl) (t : Option Nat) (own : List ByteArray) (D : List Nat) (m : Nat) : List ByteArray := ((D.drop m).reverse.map (ownOf l t own)).flatten
theorem outs_step (l : List Cl) (t : Option Nat) (own : List ByteArray) (D : List Nat) (m : Nat) (hm : m < D.length) : outs l t own D m = outs l t own D (m + 1) ++ ownOf l t own (D.getD m 0) := by
  unfold outs
  rw [List.drop_eq_getElem_cons hm, List.getD_eq_getElem?_getD, List.getElem?_eq_getElem hm, List.reverse_cons, List.map_append, List.flatten_append]
  simp only [List.map_cons, List.map_nil, List.flatten_cons, List.flatten_nil, List.append_nil, Option.getD_some]
theorem outs_end (l : List Cl) (t : Option Nat) (own : List ByteArray) (D : List Nat) : outs l t own D D.length = [] := by unfold outs; simp
theorem outs_le (l : List Cl) (t : Option Nat) (own : List ByteArray) (D : List Nat) : ∀ n m, n ≤ m → (outs l t own D m).length ≤ (outs l t own D n).length := by
  intro n m h
  induction m with
  | zero => have : n = 0 := by omega
            subst this; exact Nat.le_refl _
  | succ m ih =>
    by_cases e : n = m + 1
    · subst e; exact Nat.le_refl _
    · have h1 := ih (by omega)
      by_cases hm : m < D.length
      · have := outs_step l t own D m hm
        rw [this, List.length_append] at h1
        omega
      · have e1 : outs l t own D m = [] := by unfold outs; rw [List.drop_eq_nil_of_le (by omega)]; rfl
        have e2 : outs l t own D (m + 1) = [] := by unfold outs; rw [List.drop_eq_nil_of_le (by omega)]; rfl
        rw [e2]; simp
theorem list_cells {w : World} {p : Option Addr} {cap base n : Nat} {xs : List Value} (h : w.ownsRow base 24 1 (.slice p n cap) n xs) (hp : 0 < n) :
    n = xs.length ∧ ∃ g, p = some ⟨g, 0, none⟩ ∧ (∀ (i : Nat) x, xs[i]? = some x → w.cell? ⟨g, i, none⟩ = some x) ∧ g < w.heap.size := by
  have hn : n = xs.length := by have := h.1; simpa using this.symm
  refine ⟨hn, ?_⟩
  rcases h.2 with ⟨h2, h3⟩ | ⟨g, cap', cur, h2, h3, h4, h5, h6⟩
  · omega
  · injection h2 with h2 h2' h2''
    subst h2
    refine ⟨g, rfl, fun i x hx => ?_, lt_of_heap h4⟩
    have hi := (List.getElem?_eq_some_iff.1 hx).1
    rw [h.cellAt i (by omega)]; exact hx
theorem own_down {w : World} {base b0 : Nat} {e : TypeId} {size : Nat} {v : Value} {n : Nat} {xs : List Value} (h : w.ownsRow base e size v n xs) (hb : b0 ≤ base) : w.ownsRow b0 e size v n xs := by
  refine ⟨h.1, ?_⟩
  rcases h.2 with h2 | ⟨g, cap, cur, e1, h1, h2⟩
  · exact Or.inl h2
  · exact Or.inr ⟨g, cap, cur, e1, Nat.le_trans hb h1, h2⟩
theorem own_base {w0 w1 w2 : World} {p : Option Addr} {c : Nat} {ts : List ByteArray} (h : Mine w1 w2 p c ts) (f : Fr [] w0 w1) : Mine w0 w2 p c ts := ⟨own_down h.row f.size, f.trans h.fr (by simp)⟩
set_option maxRecDepth 20000 in
set_option maxHeartbeats 2000000 in
theorem rFields_ok (l : List Cl) (c : Nat) (t : Option Nat) (own : List ByteArray) (v ov : Value) (w : World) (h : RdC w v l) (ho : RdS w ov own) (hc : c < l.length) (hz : (fields l t own c).length ≤ 8796093022208) :
    Calls Try.prog 31 #[v, .int .i64 c, .int .i64 (zO t), ov] w fun e w' => ∃ p d, e = .returned (.slice p (fields l t own c).length d) ∧ Mine w w' p d (fields l t own c) := by
  have HW : Hid (∀ d, d < l.length → ∃ pv nv cv, (clAt l d).v = .slice pv nv cv) := mkHid (fun d hd => by obtain ⟨pv, cv, e, _⟩ := (h.own d hd).at_; exact ⟨pv, _, cv, e⟩)
  obtain ⟨po, no, co, rfl⟩ : ∃ po no co, ov = .slice po no co := by obtain ⟨pv, cv, e, _⟩ := ho.at_; exact ⟨pv, _, cv, e⟩
  have HAt : Hid (∀ (W : World), Fr [] w W → ∀ (n : Nat) (s : ByteArray), n ≤ l.length → Calls Try.prog 30 #[v, .int .i64 n, .string s] W fun e w' => e = .returned (.int .i64 (atZ l n s)) ∧ w' = W) := mkHid (fun W hW n s hn => rAt_ok l n s v W (h.idle hW) hn)
  have HV : Hid (∀ d, d < l.length → RdS w (valOf l t (.slice po no co) d) (ownOf l t own d)) := mkHid (fun d hd => valOf_rd h ho d hd)
  have HD : Hid (∀ d ∈ chain l c, d < l.length) := mkHid (chain_lt l c hc)
  have HZ : Hid (fields l t own c = outs l t own (chain l c) 0) := mkHid rfl
  have HCL := chain_len l c
  obtain ⟨p, c0, rfl, h1⟩ := h.at_
  have s1 := h.short
  have H1 := mkHid h1
  clear h h1 ho
  go_enter Try.func31, Try.ntmps31
  go_wp2_with fail
  go_loopw [1, 9] (fun q u wr => ∃ (dn : List Nat) (k : Option Nat) (p9 : Option Addr) (c9 : Nat), q = .int .i64 (zO k) ∧ u = .slice p9 dn.length c9 ∧ (∀ d, k = some d → d < l.length) ∧ Hid (chain l c = dn ++ chO l k) ∧ Hid (wr.ownsRow w.heap.size 24 1 (.slice p9 dn.length c9) dn.length (dn.map (valOf l t (.slice po no co)))) ∧ Hid (Fr [] w wr)) (fun q _ _ => (intOf q + 1).toNat)
  case atStart => exact ⟨[], some c, none, 0, rfl, rfl, fun d hd => by cases hd; exact hc, mkHid rfl, mkHid (World.ownsRow_nil _ _ _ _), mkHid (Fr.refl _ _)⟩
  case round =>
    obtain ⟨dn, k, p9, c9, rfl, rfl, hk, hch, hrow, hfr⟩ := hrel
    cases k with
    | some d =>
      have hd := hk d rfl
      rw [show zO (some d) = (d : Int) from rfl] at *
      have d0 : (0 : Int) ≤ (d : Int) := by omega
      have d1 : (d : Int) < (l.length : Int) := by omega
      obtain ⟨g, off, rfl, x1, x2⟩ := H1.out (by omega)
      have k1 := (hfr.out.cell (p := ⟨g, off + d * 4 + 1, none⟩) x1 (by simp)).trans (x2 d hd).2.1
      have k2 := (hfr.out.cell (p := ⟨g, off + d * 4 + 2, none⟩) x1 (by simp)).trans (x2 d hd).2.2.1
      have hlen : dn.length + 1 ≤ c + 1 := by
        have := congrArg List.length hch.out
        rw [show chO l (some d) = chain l d from rfl, chain_eq l d, List.length_append, List.length_cons] at this
        omega
      have hpush := push_list wr w.heap.size p9 c9 (dn.map (valOf l t (.slice po no co))) (valOf l t (.slice po no co) d) (by rw [List.length_map]; exact hrow.out) (HV.out d hd).one (by rw [List.length_map]; omega) hfr.out.size
      rw [List.length_map] at hpush
      obtain ⟨p5, c5, w5, r5, o5, f5⟩ := hpush
      have HR5 := mkHid r5
      have HF5 : Hid (Fr [] w w5) := mkHid (by
        rcases f5 with ⟨_, _, f⟩ | ⟨f, _⟩
        · exact hfr.out.trans f (fun b hb => Or.inr (own_lt hrow.out b ((blk_own _ _ _ _).2 hb)).1)
        · exact hfr.out.trans f (by simp))
      have HO5 : Hid (w5.ownsRow w.heap.size 24 1 (.slice p5 (dn ++ [d]).length c5) (dn ++ [d]).length ((dn ++ [d]).map (valOf l t (.slice po no co)))) := mkHid (by
        rw [List.map_append, List.length_append]
        rw [List.length_append, List.length_map] at o5
        exact o5)
      have HC5 : Hid (chain l c = (dn ++ [d]) ++ chO l (upN l d)) := mkHid (by
        rw [hch.out, show chO l (some d) = chain l d from rfl, chain_eq l d, List.append_assoc]; rfl)
      have k1' := (Fr.cell (p := ⟨g, off + d * 4 + 1, none⟩) HF5.out x1 (by simp)).trans (x2 d hd).2.1
      have HC := mkHid (HAt.out w5 HF5.out d (clAt l d).sup (by omega))
      rw [upZ] at HC
      have HL : Hid (∀ e, upN l d = some e → e < d) := mkHid (fun e he => upN_lt he)
      by_cases ht : t = some d
      · have b1 : ((d : Int) == zO t) = true := by rw [ht, beq_iff_eq]; rfl
        have hvo : valOf l t (.slice po no co) d = .slice po no co := by unfold valOf; rw [if_pos ht]
        rw [hvo] at HR5
        clear x1 x2 r5 o5 f5 hch hrow HAt ht hvo k1 k2 hlen HV HZ HD HW
        generalize upN l d = u at *
        generalize (clAt l d).sup = s at *
        go_wp2_with (first
          | (at_builtin; refine Lib.wpList_append_run _ rfl (.tmp 18) (.tmp 20) 33 33 rfl _ _ rfl rfl _ _ HR5.out ?_)
          | (go_at_call 30; refine HC.out.mono ?_; rintro e w1 ⟨rfl, rfl⟩))
        go_roundw
        case rel => exact ⟨dn ++ [d], u, p5, c5, rfl, by simp, fun e he => by have := HL.out e he; omega, HC5, HO5, HF5⟩
        case measure =>
          cases u with
          | none => simp [intOf, zO]; try omega
          | some e => have := HL.out e rfl; simp [intOf, zO]; omega
      · have b1 : ¬ (d : Int) = zO t := by
          intro e
          cases t with
          | none => rw [show zO none = -1 from rfl] at e; omega
          | some x => rw [show zO (some x) = (x : Int) from rfl] at e; exact ht (by congr 1; omega)
        have hvo : valOf l t (.slice po no co) d = (clAt l d).v := by unfold valOf; rw [if_neg ht]
        obtain ⟨pv, nv, cv, ev⟩ := HW.out d hd
        rw [hvo, ev] at HR5
        rw [ev] at k2
        clear x1 x2 r5 o5 f5 hch hrow HAt ht hvo hlen HV HZ HD k1 HW ev
        generalize upN l d = u at *
        generalize (clAt l d).sup = s at *
        go_wp2_with (first
          | (at_builtin; refine Lib.wpList_append_run _ rfl (.tmp 22) (.tmp 28) 33 33 rfl _ _ rfl rfl _ _ HR5.out ?_)
          | (go_at_call 30; refine HC.out.mono ?_; rintro e w1 ⟨rfl, rfl⟩))
        go_roundw
        case rel => exact ⟨dn ++ [d], u, p5, c5, rfl, by simp, fun e he => by have := HL.out e he; omega, HC5, HO5, HF5⟩
        case measure =>
          cases u with
          | none => simp [intOf, zO]; try omega
          | some e => have := HL.out e rfl; simp [intOf, zO]; omega
    | none =>
      rw [show zO none = -1 from rfl] at *
      have hch2 : chain l c = dn := by have := hch.out; rwa [show chO l none = [] from rfl, List.append_nil] at this
      generalize hD : chain l c = D at *
      subst hch2
      have HPos : Hid (0 < D.length) := mkHid (by rw [← hD, chain_eq]; simp)
      obtain ⟨junk, g9, rfl, y1, y2⟩ := list_cells hrow.out HPos.out
      clear junk
      have HVal : Hid (∀ i, i < D.length → ∃ pX cX, wr.cell? ⟨g9, i, none⟩ = some (.slice pX (ownOf l t own (D.getD i 0)).length cX) ∧ (0 < (ownOf l t own (D.getD i 0)).length → ∃ g off, pX = some ⟨g, off, none⟩ ∧ g < wr.heap.size ∧ ∀ j, j < (ownOf l t own (D.getD i 0)).length → wr.cell? ⟨g, off + j, none⟩ = some (.string ((ownOf l t own (D.getD i 0)).getD j ⟨#[]⟩)))) := mkHid (fun i hi => by
        have hg : D[i]? = some (D.getD i 0) := by rw [List.getD_eq_getElem?_getD, List.getElem?_eq_getElem hi]; rfl
        have hl := HD.out (D.getD i 0) (List.mem_of_getElem? hg)
        have hcell := y1 i (valOf l t (.slice po no co) (D.getD i 0)) (by rw [List.getElem?_map, hg]; rfl)
        obtain ⟨pX, cX, e, hr⟩ := ((HV.out _ hl).idle hfr.out).at_
        exact ⟨pX, cX, by rw [hcell, e], hr⟩)
      have HFr0 := mkHid hfr.out
      have hDl : D.length ≤ c + 1 := HCL
      have HB : Hid (∀ m, (outs l t own D m).length ≤ 8796093022208) := mkHid (fun m => by
        have := outs_le l t own D 0 m (Nat.zero_le _)
        rw [HZ.out] at hz; omega)
      have HSt := mkHid (outs_step l t own D)
      have HEn := mkHid (outs_end l t own D)
      clear HAt HV HD hch hrow hfr y1 y2 hk H1 HCL hD
      obtain ⟨w1, rfl⟩ : ∃ x, x = wr := ⟨_, rfl⟩
      generalize hO : outs l t own D = O at *
      clear hO
      generalize hX : (fun i => ownOf l t own (D.getD i 0)) = X at *
      have HVal2 : Hid (∀ i, i < D.length → ∃ pX cX, w1.cell? ⟨g9, i, none⟩ = some (.slice pX (X i).length cX) ∧ (0 < (X i).length → ∃ g off, pX = some ⟨g, off, none⟩ ∧ g < w1.heap.size ∧ ∀ j, j < (X i).length → w1.cell? ⟨g, off + j, none⟩ = some (.string ((X i).getD j ⟨#[]⟩)))) := mkHid (by subst hX; exact HVal.out)
      have HSt2 : Hid (∀ m, m < D.length → O m = O (m + 1) ++ X m) := mkHid (by subst hX; exact HSt.out)
      have HG9 : Hid (g9 < w1.heap.size) := mkHid (by
        obtain ⟨pX, cX, e, _⟩ := HVal2.out 0 HPos.out
        exact World.block_lt_of_cell? w1 _ e)
      clear HVal HSt hX
      go_wp2_with fail
      go_loopw [10, 11] (fun u q wq => ∃ (m : Nat) (z : Int) (p' : Option Addr) (c' : Nat), m ≤ D.length ∧ q = .int .i64 z ∧ z = (m : Int) - 1 ∧ u = .slice p' (O m).length c' ∧ Hid (Mine w1 wq p' c' (O m))) (fun _ q _ => (intOf q + 1).toNat)
      case atStart => exact ⟨D.length, (D.length : Int) - 1, none, 0, Nat.le_refl _, by go_num, rfl, by rw [HEn.out]; rfl, mkHid (by rw [HEn.out]; exact mine_nil _)⟩
      case round =>
        obtain ⟨m, z, p', c', hm, rfl, hz1, rfl, hmi⟩ := hrel
        cases m with
        | zero =>
          have b1 : ¬ (0 : Int) ≤ z := by omega
          clear HVal2 HSt2 HB HEn HPos
          go_wp2_with fail
          go_ret
          exact ⟨p', c', by rw [HZ.out]; rfl, by rw [HZ.out]; exact own_base hmi.out HFr0.out⟩
        | succ m =>
          obtain rfl : z = (m : Int) := by omega
          clear hz1
          have b1 : (0 : Int) ≤ (m : Int) := by omega
          have hml : m < D.length := by omega
          have b2 : (m : Int) < (D.length : Int) := by omega
          obtain ⟨pX, cX, hcX, hX⟩ := HVal2.out m hml
          have HcX := mkHid hcX
          have HX := mkHid hX
          have HBm : Hid ((O (m + 1)).length + (X m).length ≤ 8796093022208) := mkHid (by
            have := HB.out m; rw [HSt2.out m hml, List.length_append] at this; exact this)
          have hBm := HBm.out
          have HOm := mkHid (HSt2.out m hml)
          clear HVal2 HSt2 HB HEn HPos hcX hX HBm
          go_wp2_with fail
          go_loopw [10, 12] (fun u q wq => ∃ (j : Nat) (p' : Option Addr) (c' : Nat), j ≤ (X m).length ∧ q = .int .i64 j ∧ u = .slice p' ((O (m + 1)).length + j) c' ∧ Hid (Mine w1 wq p' c' (O (m + 1) ++ (X m).take j))) (fun _ q _ => (X m).length - (intOf q).toNat)
          case atStart => exact ⟨0, p', c', Nat.zero_le _, rfl, rfl, mkHid (by rw [List.take_zero, List.append_nil]; exact hmi.out)⟩
          case round =>
            obtain ⟨j, p2, c2, hj, rfl, rfl, hmj⟩ := hrel
            have kc := (hmj.out.fr.cell (p := ⟨g9, m, none⟩) HG9.out (by simp)).trans HcX.out
            have j0 : (0 : Int) ≤ (j : Int) := by omega
            by_cases hlt : j < (X m).length
            · have j1 : (j : Int) < ((X m).length : Int) := by omega
              obtain ⟨gX, offX, rfl, z1, z2⟩ := HX.out (by omega)
              have kx := (hmj.out.fr.cell (p := ⟨gX, offX + j, none⟩) z1 (by simp)).trans (z2 j hlt)
              have hlen : (O (m + 1) ++ (X m).take j).length = (O (m + 1)).length + j := by simp; omega
              obtain ⟨p5, c5, w5, r5, h5⟩ := mine_push hmj.out ((X m).getD j ⟨#[]⟩) (by rw [hlen]; omega)
              rw [hlen] at r5
              rw [List.append_assoc, take_snoc hlt] at h5
              have HR5 := mkHid r5
              have HS5 := mkHid h5
              clear r5 h5 hmj z1 z2 hlen HX
              generalize (X m).getD j ⟨#[]⟩ = x at *
              go_wp2_with (at_builtin; refine Lib.wpList_append_run _ rfl (.tmp 54) (.tmp 62) 24 24 rfl _ _ rfl rfl _ _ HR5.out ?_)
              go_roundw
              case rel => exact ⟨j + 1, p5, c5, by omega, by go_num, rfl, HS5⟩
              case measure => simp [intOf]; omega
            · have hje : j = (X m).length := by omega
              subst hje
              have hmj2 := hmj.out
              rw [List.take_length, ← HOm.out] at hmj2
              have HM2 := mkHid hmj2
              have hlen : (O (m + 1)).length + (X m).length = (O m).length := by rw [HOm.out, List.length_append]
              clear hmj hmj2 HX
              go_wp2_with fail
              go_roundw
              case rel => exact ⟨m, (m : Int) - 1, p2, c2, by omega, by go_num, rfl, by rw [hlen], HM2⟩
              case measure => simp [intOf]; try omega
end Go.Proofs.Ytblbjgifhgfifaa
