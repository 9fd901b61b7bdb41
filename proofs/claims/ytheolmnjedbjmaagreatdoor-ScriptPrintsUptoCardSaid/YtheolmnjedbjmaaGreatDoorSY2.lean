import Derived.Test.YtheolmnjedbjmaaGreatDoorSY1
namespace Go.Proofs.YtheolmnjedbjmaaGreatDoor
open Go.RowKit
set_option linter.unusedVariables false
set_option linter.unusedSimpArgs false
attribute [local go_sem ↓] Go.wp_at_zero Go.wp_at_succ
/-- the line behind i letters -/
def xsL (a : AK) (kn i : Nat) : Bs × AK := ((shK kn).take i).foldl (stepL a) (wdK kn, ⟨a.kind, ⟨#[]⟩, ⟨#[]⟩, [], ⟨#[]⟩, 0, 0⟩)
theorem xsL_succ (a : AK) (kn i : Nat) (hi : i < (ba (shK kn)).size) : xsL a kn (i + 1) = stepL a (xsL a kn i) (ba (shK kn))[i] := by
  have hi2 : i < (shK kn).length := by rw [← ba_size]; exact hi
  unfold xsL
  rw [List.take_succ_eq_append_getElem hi2, List.foldl_append]
  rfl
theorem xsL_all (a : AK) (kn : Nat) (hk : a.kind = (kn : Int)) : xsL a kn (ba (shK kn)).size = lineK a := by
  unfold xsL lineK
  rw [ba_size, List.take_of_length_le (Nat.le_refl _), hk]
  rfl
theorem xsL_len (a : AK) (ha : Ak2 a) (kn i : Nat) : (xsL a kn i).1.length ≤ 20000000 := by
  have h1 := foldL_len a ha ((shK kn).take i) (wdK kn, ⟨a.kind, ⟨#[]⟩, ⟨#[]⟩, [], ⟨#[]⟩, 0, 0⟩)
  have h2 : ∀ k, (wdK k).length ≤ 10 := fun k => by unfold wdK; split <;> simp
  have h3 : ∀ k, (shK k).length ≤ 3 := fun k => by unfold shK; split <;> simp
  have h4 : ((shK kn).take i).length ≤ 3 := by rw [List.length_take]; have := h3 kn; omega
  have h5 := h2 kn
  have h6 : ((shK kn).take i).length * 4000000 ≤ 12000000 := by omega
  unfold xsL
  simp only at h1
  omega
theorem acts_at (kn : Nat) (h : 1 ≤ kn ∧ kn ≤ 12) : actsC[kn]? = some (.string (ba (wdK kn))) ∧ shapesC[kn]? = some (.string (ba (shK kn))) := by
  have hk : kn = 1 ∨ kn = 2 ∨ kn = 3 ∨ kn = 4 ∨ kn = 5 ∨ kn = 6 ∨ kn = 7 ∨ kn = 8 ∨ kn = 9 ∨ kn = 10 ∨ kn = 11 ∨ kn = 12 := by omega
  rcases hk with rfl | rfl | rfl | rfl | rfl | rfl | rfl | rfl | rfl | rfl | rfl | rfl
  all_goals exact ⟨rfl, rfl⟩
theorem akC_all (a : AK) (p : Option Addr) (c : Nat) : (akC a p c).all (·.oneCell') = true := by
  unfold akC
  simp [Value.oneCell']
abbrev act0 : Array Value := #[.int .i64 0, .string ⟨#[]⟩, .string ⟨#[]⟩, .slice none 0 0, .string ⟨#[]⟩, .int .i64 0, .int .i64 0]
set_option maxRecDepth 100000 in
set_option maxHeartbeats 16000000 in
theorem rline_ok (W : World) (hp : Pw W) (a : AK) (p : Option Addr) (c kn : Nat) (hk : a.kind = (kn : Int)) (h1 : 1 ≤ kn) (h12 : kn ≤ 12) (hr : Rs W p a.names) (ha : Ak2 a) : Calls Tryz.prog 47 #[a.v p c] W fun e w' => ∃ p' c', e = .returned (.tuple #[.string (ba (lineK a).1), (lineK a).2.v p' c']) ∧ ((lineK a).2.names = [] ∨ p' = p) ∧ Bl W w' := by
  obtain ⟨cA, cS⟩ := acts_at kn ⟨h1, h12⟩
  -- the worlds ahead of the page
  obtain ⟨w0, hw0⟩ : ∃ X, (W.alloc (.cells (akC a p c) 40)).alloc (.cells act0 40) = X := ⟨_, rfl⟩
  obtain ⟨w1, hw1⟩ : ∃ X, w0.alloc (.cells actsC 9) = X := ⟨_, rfl⟩
  obtain ⟨w2, hw2⟩ : ∃ X, w1.alloc (.cells shapesC 9) = X := ⟨_, rfl⟩
  have z0 : w0.heap.size = W.heap.size + 2 := by rw [← hw0]; simp
  have z1 : w1.heap.size = W.heap.size + 3 := by rw [← hw1]; simp; omega
  have z2 : w2.heap.size = W.heap.size + 4 := by rw [← hw2]; simp; omega
  have b0 : Bl W w0 := by rw [← hw0]; exact (Bl.alloc _ _).trans (Bl.alloc _ _)
  have b01 : Bl w0 w1 := by rw [← hw1]; exact Bl.alloc _ _
  have b12 : Bl w1 w2 := by rw [← hw2]; exact Bl.alloc _ _
  have hzA : (W.alloc (.cells (akC a p c) 40)).heap.size = W.heap.size + 1 := by simp
  have qa : w0.heap[W.heap.size]? = some (.cells (akC a p c) 40 (0, 0)) := by
    rw [← hw0]
    exact (Below.heap_alloc _ _ _ (by simp)).trans (heap_alloc_new W _)
  have qr : w0.heap[W.heap.size + 1]? = some (.cells act0 40 (0, 0)) := by
    rw [← hw0, ← hzA]
    exact heap_alloc_new _ _
  have qA : w1.heap[W.heap.size + 2]? = some (.cells actsC 9 (0, 0)) := by
    rw [← hw1, ← z0]
    exact heap_alloc_new _ _
  have qS : w2.heap[W.heap.size + 3]? = some (.cells shapesC 9 (0, 0)) := by
    rw [← hw2, ← z1]
    exact heap_alloc_new _ _
  have HA : Hid (Calls Tryz.prog 56 #[] w0 fun e w' => e = .returned (.slice (some ⟨W.heap.size + 2, 0, none⟩) 13 13) ∧ w' = w1) := (racts_ok w0).mono (by
    rintro e w' ⟨rfl, rfl⟩
    exact ⟨by rw [z0], hw1⟩)
  have HB : Hid (Calls Tryz.prog 57 #[] w1 fun e w' => e = .returned (.slice (some ⟨W.heap.size + 3, 0, none⟩) 13 13) ∧ w' = w2) := (rshapes_ok w1).mono (by
    rintro e w' ⟨rfl, rfl⟩
    exact ⟨by rw [z1], hw2⟩)
  have b02 := b01.trans b12
  have qa2 := (b02.block _ (lt_of_heap qa)).trans qa
  have qr2 := (b02.block _ (lt_of_heap qr)).trans qr
  have qA2 := (b12.block _ (lt_of_heap qA)).trans qA
  obtain ⟨pv0, w5, hcv, hpz, hb5⟩ := conv_new w2 (hp.bl (b0.trans b02)) (wdK kn) (by
    have : ∀ k, (wdK k).length ≤ 1000 := fun k => by unfold wdK; split <;> simp
    have := this kn
    omega)
  have hpz2 := hpz.lower (b0.trans b02).size ((Pw.tab hp (Nat.le_refl _)).on ((b0.trans b02).trans hb5))
  obtain ⟨pv, pc, rfl⟩ := hpz2.pv.slice
  have bW5 := (b0.trans b02).trans hb5
  have b6 : Bl w2 (w5.alloc (.cells #[.int .i64 (kn : Int), .string ⟨#[]⟩, .string ⟨#[]⟩, .slice none 0 0, .string ⟨#[]⟩, .int .i64 0, .int .i64 0] 40)) := hb5.trans (Bl.alloc _ _)
  have HY : Hid (Ly W (w5.alloc (.cells #[.int .i64 (kn : Int), .string ⟨#[]⟩, .string ⟨#[]⟩, .slice none 0 0, .string ⟨#[]⟩, .int .i64 0, .int .i64 0] 40)) w5.heap.size a p c) := ⟨(b0.trans b02).trans b6, (b6.block _ (lt_of_heap qa2)).trans qa2, (b6.block _ (lt_of_heap qr2)).trans qr2, by have := hb5.size; omega⟩
  have H0 : Hid (Lx W (w5.alloc (.cells #[.int .i64 (kn : Int), .string ⟨#[]⟩, .string ⟨#[]⟩, .slice none 0 0, .string ⟨#[]⟩, .int .i64 0, .int .i64 0] 40)) (w5.alloc (.cells #[.int .i64 (kn : Int), .string ⟨#[]⟩, .string ⟨#[]⟩, .slice none 0 0, .string ⟨#[]⟩, .int .i64 0, .int .i64 0] 40)) w5.heap.size a p c (.slice pv (wdK kn).length pc) (xsL a kn 0)) := by
    refine ⟨hpz2.bl (Bl.alloc _ _), ⟨none, 0, ?_, Or.inl rfl⟩, Wf.refl _ _ _⟩
    have e : akC (xsL a kn 0).2 none 0 = #[.int .i64 (kn : Int), .string ⟨#[]⟩, .string ⟨#[]⟩, .slice none 0 0, .string ⟨#[]⟩, .int .i64 0, .int .i64 0] := by
      show #[Value.int .i64 a.kind, _, _, _, _, _, _] = _
      rw [hk]
      rfl
    rw [e]
    exact heap_alloc_new w5 _
  have e0 : (akC a p c)[0]? = some (.int .i64 (kn : Int)) := by rw [← hk]; rfl
  have c20 := lit_in qa2 0 _ e0
  have c2A := lit_in qA2 _ _ cA
  have c50 := lit_in ((hb5.block _ (lt_of_heap qa2)).trans qa2) 0 _ e0
  have c60 := lit_in ((b6.block _ (lt_of_heap qa2)).trans qa2) 0 _ e0
  have c6S := lit_in ((b6.block _ (lt_of_heap qS)).trans qS) _ _ cS
  have HSc := mkHid (xsL_succ a kn)
  have HAl := mkHid (xsL_all a kn hk)
  have HLn := mkHid (xsL_len a ha kn)
  have HPW := mkHid hp
  have HRS := mkHid hr
  have HAK := mkHid ha
  have hnl := ha.len
  have hs3 : (ba (shK kn)).size ≤ 3 := by
    rw [ba_size]
    unfold shK
    split <;> simp
  obtain ⟨s, hs⟩ : ∃ s, ba (shK kn) = s := ⟨_, rfl⟩
  rw [hs] at c6S HSc HAl hs3
  have k0 : (0 : Int) ≤ (kn : Int) := by omega
  have k13 : (kn : Int) < 13 := by omega
  have hv : a.v p c = .agg (akC a p c) := rfl
  rw [hv]
  have hac : akC a p c = #[.int .i64 (kn : Int), .string a.name, .string a.other, .slice p a.names.length c, .string a.text, .int .i64 a.num, .int .i64 a.fuel] := by
    rw [← hk]
    rfl
  rw [hac] at hw0 ⊢
  clear hpz hpz2 qa qr qA qS qa2 qr2 qA2 b0 b01 b12 b02 hw1 hw2 cA cS e0 hb5 b6 hp hr ha z0 z1 z2 hzA bW5
  generalize (wdK kn).length = n0 at *
  go_enter Tryz.func47, Tryz.ntmps47
  go_wp2_with (first
    | (go_at_call 56; refine HA.out.mono ?_; rintro e wx ⟨rfl, hwx⟩; rw [hwx]; clear hwx)
    | (go_at_call 57; refine HB.out.mono ?_; rintro e wx ⟨rfl, hwx⟩; rw [hwx]; clear hwx))
  clear HA HB hcv c20 c2A c50 c60 c6S hw0
  go_loopw [6, 9] (fun pg q wr => ∃ i : Nat, i ≤ s.size ∧ q = .int .i64 (i : Int) ∧ Hid (Lx W (w5.alloc (.cells #[.int .i64 (kn : Int), .string ⟨#[]⟩, .string ⟨#[]⟩, .slice none 0 0, .string ⟨#[]⟩, .int .i64 0, .int .i64 0] 40)) wr w5.heap.size a p c pg (xsL a kn i))) (fun _ q _ => s.size - (intOf q).toNat)
  case atStart => exact ⟨0, Nat.zero_le _, rfl, H0⟩
  case round =>
    clear H0
    obtain ⟨i, hi, rfl, hst⟩ := hrel
    have i0 : (0 : Int) ≤ (i : Int) := by omega
    generalize (w5.alloc (.cells #[.int .i64 (kn : Int), .string ⟨#[]⟩, .string ⟨#[]⟩, .slice none 0 0, .string ⟨#[]⟩, .int .i64 0, .int .i64 0] 40)) = w6 at *
    generalize w5.heap.size = nb at *
    by_cases hlt : i < s.size
    · have i1 : (i : Int) < (s.size : Int) := by omega
      have hln := HLn.out i
      have hsc := HSc.out i hlt
      obtain ⟨b, hb⟩ : ∃ b, s[i] = b := ⟨_, rfl⟩
      rw [hb] at hsc
      have hbi : s[i] = b := hb
      generalize xsL a kn i = x at *
      have HSX := mkHid hsc
      clear hsc hb
      have HRel : Hid (∀ wr' pg', Hid (Lx W w6 wr' nb a p c pg' (stepL a x b)) → Lx W w6 wr' nb a p c pg' (xsL a kn (i + 1))) := fun wr' pg' h => by rw [HSX.out]; exact h.out
      have hpw : Pw wr := HPW.out.bl (hst.out.blW HY.out)
      by_cases q110 : (b.toNat : Int) = 110
      · have hbb : b = 110 := UInt8.toNat_inj.1 (by have : (110 : UInt8).toNat = 110 := rfl; omega)
        have hle : (wordB a.name.data.toList).length ≤ 100000000 := by have := word_le _ HAK.out.name; omega
        have hstep : stepL a x b = (x.1 ++ 32 :: wordB a.name.data.toList, {x.2 with name := a.name}) := by
          unfold stepL
          rw [hbb]
          rfl
        have HX := mkHid (hst.out.put HY.out (32 :: wordB a.name.data.toList) 1 (.string a.name) {x.2 with name := a.name} (fun _ _ => rfl) rfl (by omega) rfl (by simp only [List.length_cons]; omega))
        rw [← hstep] at HX
        have d0 := lit_in (hst.out.act HY.out) 1 (.string a.name) rfl
        have HC := mkHid (written_ok' a.name (by have := HAK.out.name; omega) wr hpw)
        have hbl := blank (wordB a.name.data.toList)
        have hcat : ¬ 9223372036854775807 < 1 + (ba (wordB a.name.data.toList)).size := by rw [ba_size]; omega
        clear hst hstep hbb hpw hle
        generalize wordB a.name.data.toList = wd at *
        go_wp2_with (first
          | (go_at_call 68; refine HC.out.mono ?_; rintro e w7 ⟨rfl, hb7⟩; obtain ⟨v3, w3, hr3, d1, ⟨y3, d2⟩, d3, W4, hW4, HL4⟩ := HX.out w7 hb7; subst hW4; clear hb7)
          | (at_builtin; refine Lib.wpList_append_run _ rfl (.tmp 38) (.tmp 42) 54 9 rfl _ _ rfl rfl _ _ hr3 ?_))
        go_roundw
        case rel => exact ⟨i + 1, by omega, by go_num, HRel.out _ _ HL4⟩
        case measure => simp [intOf]; omega
      by_cases q111 : (b.toNat : Int) = 111
      · have hbb : b = 111 := UInt8.toNat_inj.1 (by have : (111 : UInt8).toNat = 111 := rfl; omega)
        have hle : (wordB a.other.data.toList).length ≤ 100000000 := by have := word_le _ HAK.out.other; omega
        have hstep : stepL a x b = (x.1 ++ 32 :: wordB a.other.data.toList, {x.2 with other := a.other}) := by
          unfold stepL
          rw [hbb]
          rfl
        have HX := mkHid (hst.out.put HY.out (32 :: wordB a.other.data.toList) 2 (.string a.other) {x.2 with other := a.other} (fun _ _ => rfl) rfl (by omega) rfl (by simp only [List.length_cons]; omega))
        rw [← hstep] at HX
        have d0 := lit_in (hst.out.act HY.out) 2 (.string a.other) rfl
        have HC := mkHid (written_ok' a.other (by have := HAK.out.other; omega) wr hpw)
        have hbl := blank (wordB a.other.data.toList)
        have hcat : ¬ 9223372036854775807 < 1 + (ba (wordB a.other.data.toList)).size := by rw [ba_size]; omega
        clear hst hstep hbb hpw hle
        generalize wordB a.other.data.toList = wd at *
        go_wp2_with (first
          | (go_at_call 68; refine HC.out.mono ?_; rintro e w7 ⟨rfl, hb7⟩; obtain ⟨v3, w3, hr3, d1, ⟨y3, d2⟩, d3, W4, hW4, HL4⟩ := HX.out w7 hb7; subst hW4; clear hb7)
          | (at_builtin; refine Lib.wpList_append_run _ rfl (.tmp 49) (.tmp 53) 54 9 rfl _ _ rfl rfl _ _ hr3 ?_))
        go_roundw
        case rel => exact ⟨i + 1, by omega, by go_num, HRel.out _ _ HL4⟩
        case measure => simp [intOf]; omega
      by_cases q116 : (b.toNat : Int) = 116
      · have hbb : b = 116 := UInt8.toNat_inj.1 (by have : (116 : UInt8).toNat = 116 := rfl; omega)
        have hle : (wordB a.text.data.toList).length ≤ 100000000 := by have := word_le _ HAK.out.text; omega
        have hstep : stepL a x b = (x.1 ++ 32 :: wordB a.text.data.toList, {x.2 with text := a.text}) := by
          unfold stepL
          rw [hbb]
          rfl
        have HX := mkHid (hst.out.put HY.out (32 :: wordB a.text.data.toList) 4 (.string a.text) {x.2 with text := a.text} (fun _ _ => rfl) rfl (by omega) rfl (by simp only [List.length_cons]; omega))
        rw [← hstep] at HX
        have d0 := lit_in (hst.out.act HY.out) 4 (.string a.text) rfl
        have HC := mkHid (written_ok' a.text (by have := HAK.out.text; omega) wr hpw)
        have hbl := blank (wordB a.text.data.toList)
        have hcat : ¬ 9223372036854775807 < 1 + (ba (wordB a.text.data.toList)).size := by rw [ba_size]; omega
        clear hst hstep hbb hpw hle
        generalize wordB a.text.data.toList = wd at *
        go_wp2_with (first
          | (go_at_call 68; refine HC.out.mono ?_; rintro e w7 ⟨rfl, hb7⟩; obtain ⟨v3, w3, hr3, d1, ⟨y3, d2⟩, d3, W4, hW4, HL4⟩ := HX.out w7 hb7; subst hW4; clear hb7)
          | (at_builtin; refine Lib.wpList_append_run _ rfl (.tmp 60) (.tmp 64) 54 9 rfl _ _ rfl rfl _ _ hr3 ?_))
        go_roundw
        case rel => exact ⟨i + 1, by omega, by go_num, HRel.out _ _ HL4⟩
        case measure => simp [intOf]; omega
      by_cases q35 : (b.toNat : Int) = 35
      · have hbb : b = 35 := UInt8.toNat_inj.1 (by have : (35 : UInt8).toNat = 35 := rfl; omega)
        have hle : (Lib.itoa a.num).length ≤ 100000000 := by have := itoa_le _ HAK.out.num; omega
        have hstep : stepL a x b = (x.1 ++ 32 :: Lib.itoa a.num, {x.2 with num := a.num}) := by
          unfold stepL
          rw [hbb]
          rfl
        have HX := mkHid (hst.out.put HY.out (32 :: Lib.itoa a.num) 5 (.int .i64 a.num) {x.2 with num := a.num} (fun _ _ => rfl) rfl (by omega) rfl (by simp only [List.length_cons]; omega))
        rw [← hstep] at HX
        have d0 := lit_in (hst.out.act HY.out) 5 (.int .i64 a.num) rfl
        have HC := mkHid (rnum_ok a.num HAK.out.num.1 HAK.out.num.2 wr hpw)
        have hbl := blank (Lib.itoa a.num)
        have hcat : ¬ 9223372036854775807 < 1 + (ba (Lib.itoa a.num)).size := by rw [ba_size]; omega
        clear hst hstep hbb hpw hle
        generalize Lib.itoa a.num = wd at *
        go_wp2_with (first
          | (go_at_call 27; refine HC.out.mono ?_; rintro e w7 ⟨rfl, hb7⟩; obtain ⟨v3, w3, hr3, d1, ⟨y3, d2⟩, d3, W4, hW4, HL4⟩ := HX.out w7 hb7; subst hW4; clear hb7)
          | (at_builtin; refine Lib.wpList_append_run _ rfl (.tmp 71) (.tmp 75) 54 9 rfl _ _ rfl rfl _ _ hr3 ?_))
        go_roundw
        case rel => exact ⟨i + 1, by omega, by go_num, HRel.out _ _ HL4⟩
        case measure => simp [intOf]; omega
      by_cases q102 : (b.toNat : Int) = 102
      · have hbb : b = 102 := UInt8.toNat_inj.1 (by have : (102 : UInt8).toNat = 102 := rfl; omega)
        have hle : (Lib.itoa a.fuel).length ≤ 100000000 := by have := itoa_le _ HAK.out.fuel; omega
        have hstep : stepL a x b = (x.1 ++ 32 :: Lib.itoa a.fuel, {x.2 with fuel := a.fuel}) := by
          unfold stepL
          rw [hbb]
          rfl
        have HX := mkHid (hst.out.put HY.out (32 :: Lib.itoa a.fuel) 6 (.int .i64 a.fuel) {x.2 with fuel := a.fuel} (fun _ _ => rfl) rfl (by omega) rfl (by simp only [List.length_cons]; omega))
        rw [← hstep] at HX
        have d0 := lit_in (hst.out.act HY.out) 6 (.int .i64 a.fuel) rfl
        have HC := mkHid (rnum_ok a.fuel HAK.out.fuel.1 HAK.out.fuel.2 wr hpw)
        have hbl := blank (Lib.itoa a.fuel)
        have hcat : ¬ 9223372036854775807 < 1 + (ba (Lib.itoa a.fuel)).size := by rw [ba_size]; omega
        clear hst hstep hbb hpw hle
        generalize Lib.itoa a.fuel = wd at *
        go_wp2_with (first
          | (go_at_call 27; refine HC.out.mono ?_; rintro e w7 ⟨rfl, hb7⟩; obtain ⟨v3, w3, hr3, d1, ⟨y3, d2⟩, d3, W4, hW4, HL4⟩ := HX.out w7 hb7; subst hW4; clear hb7)
          | (at_builtin; refine Lib.wpList_append_run _ rfl (.tmp 82) (.tmp 86) 54 9 rfl _ _ rfl rfl _ _ hr3 ?_))
        go_roundw
        case rel => exact ⟨i + 1, by omega, by go_num, HRel.out _ _ HL4⟩
        case measure => simp [intOf]; omega
      by_cases q42 : (b.toNat : Int) = 42
      · have hbb : b = 42 := UInt8.toNat_inj.1 (by have : (42 : UInt8).toNat = 42 := rfl; omega)
        have hstep : stepL a x b = (starF x.1 a.names, {x.2 with names := a.names}) := by
          unfold stepL
          rw [hbb]
          rfl
        rw [hstep] at HRel
        have H1 : Hid (Lx W w6 wr nb a p c u6 (starF x.1 (a.names.take 0), x.2)) := hst.out
        clear hst hstep hbb hpw
        go_wp2_with fail
        go_loopw [6, 10] (fun pg q wr => ∃ j : Nat, j ≤ a.names.length ∧ q = .int .i64 (j : Int) ∧ Hid (Lx W w6 wr nb a p c pg (starF x.1 (a.names.take j), x.2))) (fun _ q _ => a.names.length - (intOf q).toNat)
        case atStart => exact ⟨0, Nat.zero_le _, rfl, H1⟩
        case round =>
          clear H1
          obtain ⟨j, hj, rfl, hst⟩ := hrel
          have j0 : (0 : Int) ≤ (j : Int) := by omega
          obtain ⟨pp, cc, hpg⟩ := hst.out.page.pv.slice
          subst hpg
          have d0 := lit_in (hst.out.act HY.out) 3 (.slice p a.names.length c) rfl
          have HLi := mkHid (hst.out.list HY.out)
          by_cases hjl : j < a.names.length
          · have j1 : (j : Int) < (a.names.length : Int) := by omega
            by_cases hsh : (starF x.1 (a.names.take j)).length ≤ 262144
            · have hsi : ((starF x.1 (a.names.take j)).length : Int) ≤ 262144 := by omega
              have hpw := HPW.out.bl (hst.out.blW HY.out)
              obtain ⟨g, off, rfl, d1⟩ := (HRS.out.bl (hst.out.blW HY.out)) j hjl
              have hsz := HAK.out.names _ (List.getElem_mem hjl)
              have htk := starF_take x.1 a.names j hjl hsh
              have hle := word_le a.names[j] hsz
              have HX := mkHid (hst.out.word HY.out (32 :: wordB a.names[j].data.toList) (by simp only [List.length_cons]; omega))
              have e4 : (starF x.1 (a.names.take j), x.2).1 = starF x.1 (a.names.take j) := rfl
              rw [e4, ← htk] at HX
              clear e4
              have HC := mkHid (written_ok' a.names[j] (by omega) wr hpw)
              have hbl := blank (wordB a.names[j].data.toList)
              have hcat : ¬ 9223372036854775807 < 1 + (ba (wordB a.names[j].data.toList)).size := by rw [ba_size]; omega
              clear hst hpw hsz htk hle HLi
              generalize (starF x.1 (a.names.take j)).length = nn at *
              generalize a.names[j] = sj at *
              generalize wordB sj.data.toList = wd at *
              go_wp2_with (first
                | (go_at_call 68; refine HC.out.mono ?_; rintro e w7 ⟨rfl, hb7⟩; obtain ⟨v3, w3, hr3, HL4⟩ := HX.out w7 hb7; clear hb7)
                | (at_builtin; refine Lib.wpList_append_run _ rfl (.tmp 105) (.tmp 112) 54 9 rfl _ _ rfl rfl _ _ hr3 ?_))
              go_roundw
              case rel => exact ⟨j + 1, by omega, by go_num, HL4⟩
              case measure => simp [intOf]; omega
            · have hsi : ¬ ((starF x.1 (a.names.take j)).length : Int) ≤ 262144 := by omega
              have hall := starF_split x.1 a.names j (by omega)
              rw [hall] at HRel
              clear hst hall
              generalize (starF x.1 (a.names.take j)).length = nn at *
              obtain ⟨d1, ⟨y3, d2⟩, d3, W4, hW4, HL4⟩ := HLi.out
              subst hW4
              go_wp2_with fail
              go_roundw
              case rel => exact ⟨i + 1, by omega, by go_num, HRel.out _ _ HL4⟩
              case measure => simp [intOf]; omega
          · have hje : j = a.names.length := by omega
            subst hje
            have hall : starF x.1 (a.names.take a.names.length) = starF x.1 a.names := by rw [List.take_of_length_le (Nat.le_refl _)]
            rw [← hall] at HRel
            clear hst hall
            generalize (starF x.1 (a.names.take a.names.length)).length = nn at *
            obtain ⟨d1, ⟨y3, d2⟩, d3, W4, hW4, HL4⟩ := HLi.out
            subst hW4
            go_wp2_with fail
            go_roundw
            case rel => exact ⟨i + 1, by omega, by go_num, HRel.out _ _ HL4⟩
            case measure => simp [intOf]; omega
      have hstep : stepL a x b = x := by
        have key : ∀ m : UInt8, ¬ (b.toNat : Int) = (m.toNat : Int) → ¬ b = m := fun m h e => h (by rw [e])
        unfold stepL
        rw [if_neg (key 110 q110), if_neg (key 111 q111), if_neg (key 116 q116), if_neg (key 35 q35), if_neg (key 102 q102), if_neg (key 42 q42)]
      rw [hstep] at HRel
      have HL4 := hst
      clear hst hstep hpw
      go_wp2_with fail
      go_roundw
      case rel => exact ⟨i + 1, by omega, by go_num, HRel.out _ _ HL4⟩
      case measure => simp [intOf]; omega
    · have hie : i = s.size := by omega
      subst hie
      rw [HAl.out] at hst
      obtain ⟨p', c', hbx, hpp⟩ := hst.out.box
      have hbd : wr.drew.heap[nb]? = some (.cells (akC (lineK a).2 p' c') 40 (0, 0)) := hbx
      have hres := hst.out.res HY.out
      have hresd : wr.drew.heap[W.heap.size + 1]? = some (.cells act0 40 (0, 0)) := hres
      have HSS : Hid ((convert 54 9 u6).run Tryz.prog wr.drew = .ok (.string (ba (lineK a).1)) wr.drew ∧ wr.drew.cell? ⟨nb, 0, none⟩ = some (.int .i64 (lineK a).2.kind) ∧ wr.drew.cell? ⟨nb, 1, none⟩ = some (.string (lineK a).2.name) ∧ wr.drew.cell? ⟨nb, 2, none⟩ = some (.string (lineK a).2.other) ∧ wr.drew.cell? ⟨nb, 3, none⟩ = some (.slice p' (lineK a).2.names.length c') ∧ wr.drew.cell? ⟨nb, 4, none⟩ = some (.string (lineK a).2.text) ∧ wr.drew.cell? ⟨nb, 5, none⟩ = some (.int .i64 (lineK a).2.num) ∧ wr.drew.cell? ⟨nb, 6, none⟩ = some (.int .i64 (lineK a).2.fuel)) :=
        ⟨(hst.out.page.bl (bl_drew wr)).conv, lit_in hbd 0 _ rfl, lit_in hbd 1 _ rfl, lit_in hbd 2 _ rfl, lit_in hbd 3 _ rfl, lit_in hbd 4 _ rfl, lit_in hbd 5 _ rfl, lit_in hbd 6 _ rfl⟩
      obtain ⟨W4, hW4⟩ : ∃ X, wr.drew.setRow (W.heap.size + 1) (akC (lineK a).2 p' c') = X := ⟨_, rfl⟩
      have HF : Hid (W4.heap[W.heap.size + 1]? = some (.cells (akC (lineK a).2 p' c') 40 (0, 0)) ∧ Bl W W4) := by
        subst hW4
        exact ⟨setRow_heap _ _ _ _ _ _ hresd, bl_setRow ((hst.out.blW HY.out).trans (bl_drew wr)) _ _ (by omega)⟩
      have HPP := mkHid hpp
      have HRD := mkHid hresd
      clear hst hbx hbd hres hresd hpp
      go_upto_region 31 with fail
      refine wp_region_last (L := 4) (S := fun U => (convert 54 9 u6).run Tryz.prog U = .ok (.string (ba (lineK a).1)) U ∧ U.cell? ⟨nb, 0, none⟩ = some (.int .i64 (lineK a).2.kind) ∧ U.cell? ⟨nb, 1, none⟩ = some (.string (lineK a).2.name) ∧ U.cell? ⟨nb, 2, none⟩ = some (.string (lineK a).2.other) ∧ U.cell? ⟨nb, 3, none⟩ = some (.slice p' (lineK a).2.names.length c') ∧ U.cell? ⟨nb, 4, none⟩ = some (.string (lineK a).2.text) ∧ U.cell? ⟨nb, 5, none⟩ = some (.int .i64 (lineK a).2.num) ∧ U.cell? ⟨nb, 6, none⟩ = some (.int .i64 (lineK a).2.fuel)) (by kernel_rfl) (HSS.out) (fun hHeld => ?_)
      refine wpLast_take (i := 0) (v := ?_) rfl (by kernel_rfl) (by kernel_rfl) (by kernel_rfl) (by decide) (by kernel_rfl) (fun _ _ _ h => h) (Or.inl ⟨by rfl, ?_⟩) (by assumption) ?_
      rotate_left
      · (intro w hSw; (try dsimp only at hSw); (try go_split_ands); first | (go_simp; done) | (go_simp; with_reducible rfl))
      try simp only [Act.put, List.getElem_toArray, List.getElem_cons_zero, List.getElem_cons_succ, List.setIfInBounds_toArray, List.set_cons_zero, List.set_cons_succ]
      refine wpLast_take (i := 1) (v := ?_) rfl (by kernel_rfl) (by kernel_rfl) (by kernel_rfl) (by decide) (by kernel_rfl) (fun _ _ _ h => h) (Or.inl ⟨by rfl, ?_⟩) (by assumption) ?_
      rotate_left
      · (intro w hSw; (try dsimp only at hSw); (try go_split_ands); first | (go_simp; done) | (go_simp; with_reducible rfl))
      try simp only [Act.put, List.getElem_toArray, List.getElem_cons_zero, List.getElem_cons_succ, List.setIfInBounds_toArray, List.set_cons_zero, List.set_cons_succ]
      refine wpLast_take (i := 2) (v := ?_) rfl (by kernel_rfl) (by kernel_rfl) (by kernel_rfl) (by decide) (by kernel_rfl) (fun _ _ _ h => h) (Or.inl ⟨by rfl, ?_⟩) (by assumption) ?_
      rotate_left
      · (intro w hSw; (try dsimp only at hSw); (try go_split_ands); first | (go_simp; done) | (go_simp; with_reducible rfl))
      try simp only [Act.put, List.getElem_toArray, List.getElem_cons_zero, List.getElem_cons_succ, List.setIfInBounds_toArray, List.set_cons_zero, List.set_cons_succ]
      refine wpLast_take (i := 3) (v := ?_) rfl (by kernel_rfl) (by kernel_rfl) (by kernel_rfl) (by decide) (by kernel_rfl) (fun _ _ _ h => h) (Or.inl ⟨by rfl, ?_⟩) (by assumption) ?_
      rotate_left
      · (intro w hSw; (try dsimp only at hSw); (try go_split_ands); first | (go_simp; done) | (go_simp; with_reducible rfl))
      try simp only [Act.put, List.getElem_toArray, List.getElem_cons_zero, List.getElem_cons_succ, List.setIfInBounds_toArray, List.set_cons_zero, List.set_cons_succ]
      refine wpLast_end (by kernel_rfl) rfl (by kernel_rfl) (fun K hK => ?_)
      refine stepR (by rfl) 40 _ _ rfl (W.heap.size + 1) (akC (lineK a).2 p' c') (by simp [Act.eval]) (by simp [Act.eval, akC]) 40 _ HRD.out (by kernel_rfl) rfl (akC_all _ _ _) ?_
      rw [hW4]
      refine hK.out _ _ ?_
      clear hK K
      try simp only [Act.put, List.getElem_toArray, List.getElem_cons_zero, List.getElem_cons_succ, List.setIfInBounds_toArray, List.set_cons_zero, List.set_cons_succ]
      go_wp2_with fail
      refine bodyPost_ret (v := .tuple #[.string (ba (lineK a).1), .agg (akC (lineK a).2 p' c')]) (results_tc Tryz.results47 _ _ (W.heap.size + 1) 40 _ (0, 0) _ rfl HF.out.1 Tryz.underlying40 rfl (by kernel_rfl)) rfl ?_
      exact ⟨p', c', rfl, HPP.out, HF.out.2⟩
end Go.Proofs.YtheolmnjedbjmaaGreatDoor

