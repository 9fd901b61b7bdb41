import Derived.Test.YtimlomobbnnehaaGreatDoorG13LRepl
import Derived.Test.YtimlomobbnnehaaGreatDoorG03LMark
import Derived.Lib.LaidTab
import Derived.Deep.RegionHeld3
import Derived.Deep.RegionHeldLaw
import Derived.Test.YtimlomobbnnehaaGreatDoorG08LRefA
import Derived.Test.YtimlomobbnnehaaGreatDoorG02LCut
import Derived.Test.YtimlomobbnnehaaGreatDoorG01LBase
import Derived.Shelf.Strings.Builder1
import Derived.Shelf.Strings.Builder2
import Derived.Shelf.Strings.BuilderK
namespace Go.Proofs.YtimlomobbnnehaaGreatDoor
open Go.RowKit Go.Maps
set_option linter.unusedVariables false
set_option linter.unusedSimpArgs false
/-- the library's table of powers of ten lies there -/
abbrev Pw (w : World) : Prop := Lib.TabIs Tryz.prog w "internal/strconv.uint64pow10" .u64 Lib.pow10Tab
theorem Pw.mono {w w' : World} (h : Pw w) (b : Bl w w') : Pw w' := by
  unfold Pw Lib.TabIs World.var? at h ⊢
  cases hg : Tryz.prog.globalNamed "internal/strconv.uint64pow10" with
  | none => rw [hg] at h; cases h
  | some g =>
  rw [hg] at h
  simp only [Option.bind_some] at h ⊢
  have hlt : g < w.heap.size := by
    rcases Nat.lt_or_ge g w.heap.size with h1 | h1
    · exact h1
    · rw [Array.getElem?_eq_none h1] at h
      cases h
  rw [b.block g hlt]
  exact h
theorem itoa_ok (n : Nat) (w : World) (hn : n ≤ 1073741824) (hP : Pw w) : Calls Tryz.prog 32 #[.int .i64 n] w fun e w' => e = .returned (.string (ba (Lib.decDigits n))) ∧ Bl w w' := by
  have HI := mkHid (Tryz.internal_strconv_Itoa n (by omega) (by omega) w hP)
  have e : Lib.itoa (n : Int) = Lib.decDigits n := by unfold Lib.itoa; rw [if_neg (by omega)]; simp
  rw [e] at HI
  go_enter Tryz.func32, Tryz.ntmps32
  go_wp2_with (go_at_call 55; refine HI.out.mono ?_; rintro e w1 ⟨rfl, k, os, rfl⟩)
  go_ret
  refine ⟨rfl, rfl, rfl, rfl, ?_, fun j hj => ?_⟩
  · show w.heap.size ≤ (w.heap ++ os).size
    simp
  · show (w.heap ++ os)[j]? = w.heap[j]?
    rw [Array.getElem?_append_left hj]
theorem ba_app (a b : Bs) : ba a ++ ba b = ba (a ++ b) := by
  have h : lst (ba a ++ ba b) = a ++ b := by unfold lst; simp [ba]
  rw [← ba_lst (ba a ++ ba b), h]
theorem kinds_in {k : Nat} (h1 : 7 ≤ k) (h2 : k ≤ 17) : ∃ j, j < 11 ∧ kdAt j = k := by
  have : k = 7 ∨ k = 8 ∨ k = 9 ∨ k = 10 ∨ k = 11 ∨ k = 12 ∨ k = 13 ∨ k = 14 ∨ k = 15 ∨ k = 16 ∨ k = 17 := by omega
  rcases this with rfl | rfl | rfl | rfl | rfl | rfl | rfl | rfl | rfl | rfl | rfl
  · exact ⟨0, by omega, rfl⟩
  · exact ⟨2, by omega, rfl⟩
  · exact ⟨3, by omega, rfl⟩
  · exact ⟨4, by omega, rfl⟩
  · exact ⟨5, by omega, rfl⟩
  · exact ⟨6, by omega, rfl⟩
  · exact ⟨7, by omega, rfl⟩
  · exact ⟨1, by omega, rfl⟩
  · exact ⟨8, by omega, rfl⟩
  · exact ⟨9, by omega, rfl⟩
  · exact ⟨10, by omega, rfl⟩
theorem txAt_mark {j : Nat} (h : j < 11) : txAt j = markT (kdAt j) := by
  have : j = 0 ∨ j = 1 ∨ j = 2 ∨ j = 3 ∨ j = 4 ∨ j = 5 ∨ j = 6 ∨ j = 7 ∨ j = 8 ∨ j = 9 ∨ j = 10 := by omega
  rcases this with rfl | rfl | rfl | rfl | rfl | rfl | rfl | rfl | rfl | rfl | rfl <;> rfl
set_option maxHeartbeats 8000000 in
set_option maxRecDepth 1000000 in
theorem writtenMark (k : Nat) (x : ByteArray) (a : Int) (w : World) (hT : Tab w) (h1 : 7 ≤ k) (h2 : k ≤ 17) : Calls Tryz.prog 18 #[.agg #[.int .i64 k, .string x, .int .i64 0, .int .i64 a]] w fun e w' => e = .returned (.string (ba (markT k))) ∧ Bl w w' := by
  obtain ⟨MV, hMV⟩ : ∃ MV : Value, MV = .agg marksC.toArray := ⟨_, rfl⟩
  have hlv : ∀ o, (loadVar 68 ⟨0, 0, none⟩).run Tryz.prog (w.alloc o) = .ok MV (w.alloc o) := fun o => by rw [hMV]; exact load_marks (hT.mono (Bl.alloc w o))
  have hix : ∀ j : Nat, j < 11 → ∀ W, (Instr.index 68 MV (.int .i64 j)).run Tryz.prog W = .ok (.agg #[.int .i64 (kdAt j), .string (ba (txAt j))]) W := fun j hj W => by rw [hMV]; exact index_marks hj
  clear hMV hT
  have b1 : ((k : Int) == 1) = false := by simp; omega
  have b2 : ((k : Int) == 2) = false := by simp; omega
  have b3 : ((k : Int) == 3) = false := by simp; omega
  have b4 : ((k : Int) == 4) = false := by simp; omega
  have b5 : ((k : Int) == 5) = false := by simp; omega
  have b6 : ((k : Int) == 6) = false := by simp; omega
  have c1 : ¬ (k : Int) = 1 := by omega
  have c2 : ¬ (k : Int) = 2 := by omega
  have c3 : ¬ (k : Int) = 3 := by omega
  have c4 : ¬ (k : Int) = 4 := by omega
  have c5 : ¬ (k : Int) = 5 := by omega
  have c6 : ¬ (k : Int) = 6 := by omega
  go_enter Tryz.func18, Tryz.ntmps18
  go_wp2_with (refine wpList_loadV rfl 68 _ rfl ⟨0, 0, none⟩ rfl (hlv _) ?_)
  clear hlv
  go_loopw [35] (fun q wr => ∃ j : Nat, j ≤ 11 ∧ q = .int .i64 j ∧ Hid ((∀ i, i < j → kdAt i ≠ k) ∧ wr.heap[w.heap.size]? = some (.cells #[.int .i64 k, .string x, .int .i64 0, .int .i64 a] 28 (0, 0)) ∧ Bl w wr)) (fun q _ => 11 - (intOf q).toNat)
  case atStart => exact ⟨0, by omega, rfl, fun i hi => by omega, heap_alloc_new w _, Bl.alloc w _⟩
  case round =>
    obtain ⟨j, hj, rfl, hH⟩ := hrel
    have r0 : wr.cell? ⟨w.heap.size, 0, none⟩ = some (.int .i64 k) := by rw [cell_in hH.out.2.1]; rfl
    have hlt := lt_of_heap hH.out.2.1
    by_cases hj11 : j < 11
    · have hx := hix j hj11
      have hji : (j : Int) < 11 := by omega
      clear hix
      by_cases hk : kdAt j = k
      · have hV : txAt j = markT k := by rw [txAt_mark hj11, hk]
        rw [hk, hV] at hx
        have HV := mkHid hV
        clear hV hk
        obtain ⟨tx, htx⟩ : ∃ tx, tx = markT k := ⟨_, rfl⟩
        rw [← htx] at hx
        have HX := mkHid htx
        clear htx
        go_wp2_with fail
        go_ret
        exact ⟨by rw [← HX.out]; rfl, hH.out.2.2.trans (Bl.alloc _ _)⟩
      · have hb : ((kdAt j : Int) == (k : Int)) = false := by simp; omega
        have hbb : ¬ (kdAt j : Int) = (k : Int) := by omega
        have HV := mkHid hk
        clear hk
        generalize hkd : kdAt j = kd at *
        generalize txAt j = tx at *
        have hkd' := mkHid hkd
        clear hkd
        go_wp2_with fail
        go_roundw
        case rel => exact ⟨j + 1, by omega, by simp, fun i hi => (by
          by_cases he : i = j
          · subst he; rw [hkd'.out]; exact HV.out
          · exact hH.out.1 i (by omega)), (Below.heap_alloc _ _ _ hlt).trans hH.out.2.1, hH.out.2.2.trans (Bl.alloc _ _)⟩
        case measure => simp [intOf]; omega
    · exfalso
      obtain ⟨i, hi, he⟩ := kinds_in h1 h2
      exact hH.out.1 i (by omega) he
set_option maxHeartbeats 8000000 in
set_option maxRecDepth 1000000 in
theorem written_ok (t : Tok) (a : Int) (w : World) (hT : Tab w) (hP : Pw w) (hc : canB t) (hs : t.text.length ≤ 268435456) : Calls Tryz.prog 18 #[.agg #[.int .i64 t.kind, .string (ba t.text), .int .i64 t.num, .int .i64 a]] w fun e w' => e = .returned (.string (ba (wr t))) ∧ Bl w w' := by
  obtain ⟨k, x, m⟩ := t
  obtain ⟨h0, h⟩ := hc
  simp only at h0 h hs ⊢
  have hxs : (ba x).size = x.length := by rw [← lst_len, lst_ba]
  rcases h with ⟨h1 | h1, h2⟩ | ⟨h1, h2⟩ | ⟨h1, h2, h3⟩ | ⟨h1, h2⟩ | h1 | ⟨h1, h2, h3⟩
  · subst h1
    go_enter Tryz.func18, Tryz.ntmps18
    go_wp2
    go_ret
    exact ⟨rfl, Bl.alloc _ _⟩
  · subst h1
    have e : wr ⟨2, x, m⟩ = x ++ [58] := rfl
    rw [e, ← ba_app]
    have hq : (ba x).size + 1 ≤ 9223372036854775807 := by omega
    go_enter Tryz.func18, Tryz.ntmps18
    go_wp2
    go_ret
    exact ⟨rfl, Bl.alloc _ _⟩
  · subst h1
    go_enter Tryz.func18, Tryz.ntmps18
    go_wp2
    go_ret
    exact ⟨rfl, Bl.alloc _ _⟩
  · subst h1
    have e : wr ⟨4, x, m⟩ = Lib.decDigits m := rfl
    rw [e]
    have HI := mkHid (fun W (hW : Bl w W) => itoa_ok m W h3 (hP.mono hW))
    go_enter Tryz.func18, Tryz.ntmps18
    go_wp2_with (go_at_call 32; refine (HI.out _ (Bl.alloc _ _)).mono ?_; rintro e w1 ⟨rfl, b1⟩)
    go_ret
    exact ⟨rfl, (Bl.alloc _ _).trans b1⟩
  · subst h1
    have e : wr ⟨5, x, m⟩ = [35] ++ x := rfl
    rw [e, ← ba_app]
    have hq : 1 + (ba x).size ≤ 9223372036854775807 := by omega
    go_enter Tryz.func18, Tryz.ntmps18
    go_wp2
    go_ret
    exact ⟨rfl, Bl.alloc _ _⟩
  · subst h1
    have e : wr ⟨6, x, m⟩ = [39] ++ qt x ++ [39] := rfl
    rw [e, ← ba_app, ← ba_app]
    have hql := qt_len x
    have hqs : (ba (qt x)).size = (qt x).length := by rw [← lst_len, lst_ba]
    have hq1 : 1 + (ba (qt x)).size ≤ 9223372036854775807 := by omega
    have hq2 : (ba [39] ++ ba (qt x)).size + 1 ≤ 9223372036854775807 := by rw [ByteArray.size_append, hqs]; show 1 + _ + 1 ≤ _; omega
    have HR : Hid (∀ W, Bl w W → Calls Tryz.prog 33 #[.string (ba x), .string ⟨#[39]⟩, .string ⟨#[39, 39]⟩] W fun e w' => e = .returned (.string (ba (qt x))) ∧ Bl W w') := mkHid fun W hW => by
      obtain ⟨mm, hmm⟩ := (hT.mono hW).max
      have hcl := Lib.count_le x [39]
      have := Tryz.strings_ReplaceAll (ba x) ⟨#[39]⟩ ⟨#[39, 39]⟩ mm W (by omega) hmm (by decide) (by
        have e2 : Lib.countB (ba x) ⟨#[39]⟩ = Lib.count x [39] := by unfold Lib.countB; rw [show (ba x).data.toList = x from lst_ba x]
        rw [e2, hxs]
        show x.length + Lib.count x [39] * 2 ≤ _
        omega)
      rw [show (ba x).data.toList = x from lst_ba x] at this
      have e3 : Lib.replaceAll x [39] [39, 39] = qt x := replaceAll_qt x
      refine this.mono ?_
      rintro e w1 ⟨rfl, b1⟩
      exact ⟨by show Ending.returned (Value.string (ba (Lib.replaceAll x [39] [39, 39]))) = _; rw [e3], b1⟩
    go_enter Tryz.func18, Tryz.ntmps18
    go_wp2_with (go_at_call 33; refine (HR.out _ (Bl.alloc _ _)).mono ?_; rintro e w1 ⟨rfl, b1⟩)
    go_ret
    exact ⟨rfl, (Bl.alloc _ _).trans b1⟩
  · obtain rfl := h0 (by omega)
    have e : wr ⟨k, x, 0⟩ = markT k := by
      unfold wr
      simp only
      rw [if_neg (by omega), if_neg (by omega), if_neg (by omega), if_neg (by omega), if_neg (by omega)]
    rw [e]
    exact writtenMark k (ba x) a w hT h1 h2
end Go.Proofs.YtimlomobbnnehaaGreatDoor

namespace Go.Proofs.YtimlomobbnnehaaGreatDoor
open Go.RowKit Go.Maps
set_option linter.unusedVariables false
set_option linter.unusedSimpArgs false
theorem BO.one (w : World) (c : UInt8) : BO w [c] (.slice (some ⟨w.heap.size, 0, none⟩) 1 1) (w.alloc (.cells #[.int .u8 (c.toNat : Int)] 5)) where
  own := ⟨rfl, Or.inr ⟨w.heap.size, 1, _, rfl, Nat.le_refl _, heap_alloc_new w _, Nat.le_refl _, by unfold maxLen; decide, rfl, rfl⟩⟩
  bl := Bl.alloc _ _
theorem qt_take {l : Bs} {i : Nat} (h : i < l.length) : qt (l.take (i + 1)) = qt (l.take i) ++ (if (l[i]).toNat = 39 then [l[i], l[i]] else [l[i]]) := by
  unfold qt
  rw [List.take_succ_eq_append_getElem h, List.flatMap_append]
  congr 1
  simp
set_option maxHeartbeats 8000000 in
set_option maxRecDepth 1000000 in
theorem rQuoted_ok (s : ByteArray) (w : World) (hs : s.size ≤ 4294967296) : Calls Tryz.prog 35 #[.string s] w fun e w' => e = .returned (.string (ba (39 :: qt (lst s) ++ [39]))) ∧ Bl w w' := by
  obtain ⟨i0, hi, hz0, hz1, hz2⟩ := info_parts info5
  have H0 := mkHid (BO.one w 39)
  go_enter Tryz.func35, Tryz.ntmps35
  go_wp2
  go_loopw [3, 4] (fun v q wr => ∃ (i : Nat) (b : Bs), q = .int .i64 i ∧ i ≤ s.size ∧ b.length ≤ 2 * i + 1 ∧ Hid (b = 39 :: qt ((lst s).take i)) ∧ Hid (BO w b v wr)) (fun _ q _ => s.size - (intOf q).toNat)
  case atStart => exact ⟨0, [39], rfl, Nat.zero_le _, by simp, rfl, H0⟩
  case round =>
    obtain ⟨i, b, rfl, hi1, hbl, HE, hH⟩ := hrel
    by_cases hlt : i < s.size
    · have hli : (i : Int) < s.size := by omega
      have hown := hH.out.own
      have hwr := hH.out.bl.size
      have hq := qt_take (l := lst s) (i := i) (by rw [lst_len]; exact hlt)
      have hle : (lst s)[i]'(by rw [lst_len]; exact hlt) = s[i]'hlt := rfl
      rw [hle] at hq
      by_cases h39 : (s[i]'hlt).toNat = 39
      · have h39i : ((s[i]'hlt).toNat : Int) = 39 := by omega
        have h9 : s[i]'hlt = 39 := UInt8.toNat_inj.1 h39
        have HN : Hid (b ++ [39] ++ [39] = 39 :: qt ((lst s).take (i + 1))) := by
          unfold Hid
          rw [hq, if_pos h39, h9, HE.out]
          simp
        clear hq h39 hle
        go_wp2_with (at_builtin; refine wpList_append_lies _ rfl (.tmp 16) (.tmp 17) 45 rfl w.heap.size 5 i0 (.int .u8 0) 1 1 Tryz.underlying45 hi hz0 hz1 hz2 rfl (by decide) _ _ _ rfl (hown.alloc _) ⟨wr.heap.size, 0, none⟩ 1 1 [.int .u8 39] rfl rfl ?c1 ?c2 (by omega) ?c3 ?c4 ?c5 (wr.heap.size + 1) (by simp) ?_)
        case c1 => exact World.news_of_block (heap_alloc_new wr _)
        case c2 => intro u hu; simp at hu; rcases hu with rfl; rfl
        case c3 => unfold maxLen; omega
        case c4 => omega
        case c5 => simp; omega
        intro g3 cap w5 hown' hgrow hat hlt5
        have HT5 := mkHid (BO.append (c := 39) hH.out hgrow hown')
        clear hown' hgrow hown hat
        have hown := HT5.out.own
        have hwr5 := HT5.out.bl.size
        rw [List.length_append, List.length_singleton] at hown
        go_wp2_with (at_builtin; refine wpList_append_lies _ rfl (.tmp 19) (.tmp 23) 45 rfl w.heap.size 5 i0 (.int .u8 0) 1 1 Tryz.underlying45 hi hz0 hz1 hz2 rfl (by decide) _ _ _ rfl (hown.alloc _) ⟨w5.heap.size, 0, none⟩ 1 1 [.int .u8 39] rfl rfl ?c1 ?c2 (by omega) ?c3 ?c4 ?c5 (w5.heap.size + 1) (by simp) ?_)
        case c1 => exact World.news_of_block (heap_alloc_new w5 _)
        case c2 => intro u hu; simp at hu; rcases hu with rfl; rfl
        case c3 => unfold maxLen; omega
        case c4 => omega
        case c5 => simp; omega
        intro g4 cap4 w6 hown' hgrow hat hlt6
        have HT6 := mkHid (BO.append (c := 39) HT5.out hgrow (by rw [List.length_append, List.length_singleton]; exact hown'))
        clear hown' hgrow hown hat
        go_wp2_with fail
        go_roundw
        case rel => exact ⟨i + 1, b ++ [39] ++ [39], by simp, by omega, by simp; omega, HN, HT6.out⟩
        case measure => simp [intOf]; omega
      · have h39i : ¬ ((s[i]'hlt).toNat : Int) = 39 := by omega
        have HN : Hid (b ++ [s[i]'hlt] = 39 :: qt ((lst s).take (i + 1))) := by
          unfold Hid
          rw [hq, if_neg h39, HE.out]
          simp
        clear hq h39 hle
        go_wp2_with (at_builtin; refine wpList_append_lies _ rfl (.tmp 19) (.tmp 23) 45 rfl w.heap.size 5 i0 (.int .u8 0) 1 1 Tryz.underlying45 hi hz0 hz1 hz2 rfl (by decide) _ _ _ rfl (hown.alloc _) ⟨wr.heap.size, 0, none⟩ 1 1 [.int .u8 ((s[i]'hlt).toNat : Int)] rfl rfl ?c1 ?c2 (by omega) ?c3 ?c4 ?c5 (wr.heap.size + 1) (by simp) ?_)
        case c1 => exact World.news_of_block (heap_alloc_new wr _)
        case c2 => intro u hu; simp at hu; rcases hu with rfl; rfl
        case c3 => unfold maxLen; omega
        case c4 => omega
        case c5 => simp; omega
        intro g3 cap w5 hown' hgrow hat hlt5
        have HT5 := mkHid (BO.append hH.out hgrow hown')
        clear hown' hgrow hown hat
        go_wp2_with fail
        go_roundw
        case rel => exact ⟨i + 1, b ++ [s[i]'hlt], by simp, by omega, by simp; omega, HN, HT5.out⟩
        case measure => simp [intOf]; omega
    · have hie : i = s.size := by omega
      have hli : ¬ (i : Int) < s.size := by omega
      have hown := hH.out.own
      have hwr := hH.out.bl.size
      have HN : Hid (b ++ [39] = 39 :: qt (lst s) ++ [39]) := by
        unfold Hid
        rw [HE.out, hie, List.take_of_length_le (by rw [lst_len]; exact Nat.le_refl _)]
      clear hie
      go_wp2_with (at_builtin; refine wpList_append_lies _ rfl (.tmp 25) (.tmp 26) 45 rfl w.heap.size 5 i0 (.int .u8 0) 1 1 Tryz.underlying45 hi hz0 hz1 hz2 rfl (by decide) _ _ _ rfl (hown.alloc _) ⟨wr.heap.size, 0, none⟩ 1 1 [.int .u8 39] rfl rfl ?d1 ?d2 (by omega) ?d3 ?d4 ?d5 (wr.heap.size + 1) (by simp) ?_)
      case d2 => rfl
      case d3 => unfold maxLen; omega
      case d4 => omega
      case d5 => omega
      intro g3 cap w5 hown' hgrow hat hlt5
      have HT5 := mkHid (BO.append (c := 39) hH.out hgrow hown')
      have hcv := HT5.out.conv
      rw [HN.out] at hcv
      clear hown' hgrow hown hat
      go_wp2_with fail
      go_ret
      exact ⟨rfl, HT5.out.bl⟩
end Go.Proofs.YtimlomobbnnehaaGreatDoor
namespace Go.Proofs.YtimlomobbnnehaaGreatDoor
open Go.RowKit Go.Maps
set_option linter.unusedVariables false
set_option linter.unusedSimpArgs false
/-- what shown says of a token as Go has it -/
def shw (k : Int) (x : Bs) (m : Int) : Bs := if k = 1 ∨ k = 3 then x else if k = 2 then x ++ [58] else if k = 4 then Lib.itoa m else if k = 5 then 35 :: x else if k = 6 then 39 :: qt x ++ [39] else if k = 7 then [35, 40] else if k = 14 then [58, 61]
  else if k = 8 then [40] else if k = 9 then [41] else if k = 10 then [91] else if k = 11 then [93] else if k = 12 then [124] else if k = 13 then [58] else if k = 15 then [94] else if k = 16 then [46] else if k = 17 then [59] else []
theorem itoa_any (n : Int) (w : World) (h0 : -9223372036854775808 ≤ n) (h1 : n ≤ 9223372036854775807) (hP : Pw w) : Calls Tryz.prog 32 #[.int .i64 n] w fun e w' => e = .returned (.string (ba (Lib.itoa n))) ∧ Bl w w' := by
  have HI := mkHid (Tryz.internal_strconv_Itoa n h0 h1 w hP)
  go_enter Tryz.func32, Tryz.ntmps32
  go_wp2_with (go_at_call 55; refine HI.out.mono ?_; rintro e w1 ⟨rfl, k, os, rfl⟩)
  go_ret
  refine ⟨rfl, rfl, rfl, rfl, ?_, fun j hj => ?_⟩
  · show w.heap.size ≤ (w.heap ++ os).size
    simp
  · show (w.heap ++ os)[j]? = w.heap[j]?
    rw [Array.getElem?_append_left hj]
theorem bl_drew (w : World) : Bl w w.drew := ⟨rfl, rfl, rfl, Nat.le_refl _, fun _ _ => rfl⟩
def mkC (j : Nat) : UInt8 := ([40, 41, 91, 93, 124, 58, 94, 46, 59] : List UInt8).getD j 0
theorem mkC_ext : ∀ j, j < 9 → (⟨#[40, 41, 91, 93, 124, 58, 94, 46, 59]⟩ : ByteArray).extract j (j + 1) = ba [mkC j] := nine (by decide) (by decide) (by decide) (by decide) (by decide) (by decide) (by decide) (by decide) (by decide)
theorem shw_mark (x : Bs) (m : Int) : ∀ j, j < 9 → shw (kdM j : Nat) x m = [mkC j] := nine rfl rfl rfl rfl rfl rfl rfl rfl rfl
theorem shw_none (k : Int) (x : Bs) (m : Int) (h1 : k ≠ 1) (h2 : k ≠ 2) (h3 : k ≠ 3) (h4 : k ≠ 4) (h5 : k ≠ 5) (h6 : k ≠ 6) (h7 : k ≠ 7) (h14 : k ≠ 14) (h : ∀ j, j < 9 → ((kdM j : Nat) : Int) ≠ k) : shw k x m = [] := by
  have e0 := h 0 (by omega); have e1 := h 1 (by omega); have e2 := h 2 (by omega); have e3 := h 3 (by omega); have e4 := h 4 (by omega)
  have e5 := h 5 (by omega); have e6 := h 6 (by omega); have e7 := h 7 (by omega); have e8 := h 8 (by omega)
  simp [kdM] at e0 e1 e2 e3 e4 e5 e6 e7 e8
  unfold shw
  rw [if_neg (by omega), if_neg (by omega), if_neg (by omega), if_neg (by omega), if_neg (by omega), if_neg (by omega), if_neg (by omega), if_neg (by omega), if_neg (by omega), if_neg (by omega), if_neg (by omega), if_neg (by omega), if_neg (by omega), if_neg (by omega), if_neg (by omega), if_neg (by omega)]
theorem ba_cat1 (x : Bs) : ba x ++ (⟨#[58]⟩ : ByteArray) = ba (x ++ [58]) := ba_app x [58]
theorem ba_cat2 (x : Bs) : (⟨#[35]⟩ : ByteArray) ++ ba x = ba (35 :: x) := ba_app [35] x
set_option maxHeartbeats 16000000 in
set_option maxRecDepth 1000000 in
theorem rShown_lit (k : Int) (x : Bs) (m a : Int) (w : World) (hP : Pw w) (hx : x.length ≤ 2147483648) (h0 : -9223372036854775808 ≤ m) (h1 : m ≤ 9223372036854775807) (hk : k = 1 ∨ k = 3 ∨ k = 2 ∨ k = 4 ∨ k = 5 ∨ k = 6 ∨ k = 7 ∨ k = 14) :
    Calls Tryz.prog 21 #[.agg #[.int .i64 k, .string (ba x), .int .i64 m, .int .i64 a]] w fun e w' => e = .returned (.string (ba (shw k x m))) ∧ Bl w w' := by
  have HI := mkHid (fun W (b : Bl w W) => itoa_any m W h0 h1 (hP.mono b))
  have hbs : (ba x).size = x.length := by rw [← lst_len, lst_ba]
  have HQ := mkHid (fun W => rQuoted_ok (ba x) W (by omega))
  rw [lst_ba] at HQ
  have hbs := mkHid hbs
  have c1 := mkHid (ba_cat1 x)
  have c2 := mkHid (ba_cat2 x)
  clear hP
  rcases hk with rfl | rfl | rfl | rfl | rfl | rfl | rfl | rfl
  all_goals
    go_enter Tryz.func21, Tryz.ntmps21
    go_wp2_with (first | (go_at_call 32; refine (HI.out _ (Bl.alloc _ _)).mono ?_; rintro e w1 ⟨rfl, b1⟩) | (go_at_call 35; refine (HQ.out _).mono ?_; rintro e w1 ⟨rfl, b1⟩))
    go_ret
    first
      | exact ⟨rfl, Bl.alloc _ _⟩
      | exact ⟨congrArg (fun s => Ending.returned (Value.string s)) c1.out, Bl.alloc _ _⟩
      | exact ⟨congrArg (fun s => Ending.returned (Value.string s)) c2.out, Bl.alloc _ _⟩
      | exact ⟨rfl, (Bl.alloc _ _).trans b1⟩
set_option maxHeartbeats 16000000 in
set_option maxRecDepth 1000000 in
theorem rShown_mark (k : Int) (x : Bs) (m a : Int) (w : World) (h1 : k ≠ 1) (h2 : k ≠ 2) (h3 : k ≠ 3) (h4 : k ≠ 4) (h5 : k ≠ 5) (h6 : k ≠ 6) (h7 : k ≠ 7) (h14 : k ≠ 14) :
    Calls Tryz.prog 21 #[.agg #[.int .i64 k, .string (ba x), .int .i64 m, .int .i64 a]] w fun e w' => e = .returned (.string (ba (shw k x m))) ∧ Bl w w' := by
  have HN := mkHid (shw_none k x m h1 h2 h3 h4 h5 h6 h7 h14)
  have HM := mkHid (shw_mark x m)
  have q1 : (k == 1) = false := beq_eq_false_iff_ne.2 h1
  have q2 : (k == 2) = false := beq_eq_false_iff_ne.2 h2
  have q3 : (k == 3) = false := beq_eq_false_iff_ne.2 h3
  have q4 : (k == 4) = false := beq_eq_false_iff_ne.2 h4
  have q5 : (k == 5) = false := beq_eq_false_iff_ne.2 h5
  have q6 : (k == 6) = false := beq_eq_false_iff_ne.2 h6
  have q7 : (k == 7) = false := beq_eq_false_iff_ne.2 h7
  have q14 : (k == 14) = false := beq_eq_false_iff_ne.2 h14
  clear h1 h2 h3 h4 h5 h6 h7 h14
  obtain ⟨T, hT⟩ : ∃ T, T = ba (shw k x m) := ⟨_, rfl⟩
  rw [← hT]
  have hT := mkHid hT
  obtain ⟨W, hW⟩ : ∃ W, W = w.alloc (.cells #[.int .i64 k, .string (ba x), .int .i64 m, .int .i64 a] 28) := ⟨_, rfl⟩
  have HB : Hid (Bl w W) := by rw [hW]; exact Bl.alloc _ _
  have HC : Hid (∀ V, Bl W V → V.cell? ⟨w.heap.size, 0, none⟩ = some (.int .i64 k) ∧ Hid (Bl W V)) := mkHid fun V b => by
    refine ⟨?_, b⟩
    have : V.heap[w.heap.size]? = some (.cells #[.int .i64 k, .string (ba x), .int .i64 m, .int .i64 a] 28 (0, 0)) := by
      rw [b.block _ (by rw [hW]; simp), hW]
      exact heap_alloc_new w _
    rw [cell_in this]
    rfl
  go_enter Tryz.func21, Tryz.ntmps21
  go_wp2_with fail
  rw [← hW]
  clear hW
  go_loopw [3] (fun q wr => ∃ j : Nat, j ≤ 9 ∧ q = .int .i64 j ∧ Hid (Bl W wr) ∧ Hid (∀ i, i < j → ((kdM i : Nat) : Int) ≠ k)) (fun q _ => 9 - (intOf q).toNat)
  case atStart => exact ⟨0, by omega, rfl, Bl.refl _, fun j h => by omega⟩
  case round =>
    obtain ⟨j, hj, rfl, hbl, hne⟩ := hrel
    by_cases hlt : j < 9
    · have hji : (j : Int) < 9 := by omega
      have hsl := fun V => slice_at (⟨#[40, 41, 91, 93, 124, 58, 94, 46, 59]⟩ : ByteArray) (j : Int) ((j : Int) + 1) j (j + 1) rfl (by omega) (by omega) (by show j + 1 ≤ 9; omega) V
      rw [mkC_ext j hlt] at hsl
      obtain ⟨x0, -⟩ := HC.out wr hbl.out
      have HK := mkHid (fun V => rKinds_ok j V hlt)
      by_cases he : ((kdM j : Nat) : Int) = k
      · have HE : Hid (T = ba [mkC j]) := by unfold Hid; rw [hT.out, ← he, HM.out j hlt]
        have hei : ((((kdM j : Nat) : Int)) == k) = true := by rw [beq_iff_eq]; exact he
        clear he
        generalize ((kdM j : Nat) : Int) = K at *
        go_wp2_with fail
        go_region_held3 (fun V => V.cell? ⟨w.heap.size, 0, none⟩ = some (.int .i64 k) ∧ Hid (Bl W V))
          (first
            | exact HC.out _ hbl.out
            | exact HC.out _ (hbl.out.trans (bl_drew _))
            | exact HC.out _ hb'.out)
          (first | (go_at_call 36; refine (HK.out _).mono ?_; rintro e w' ⟨rfl, b'⟩; have hb' := mkHid ((hbl.out.trans (bl_drew _)).trans b'); clear b'))
        all_goals go_wp2_with fail
        all_goals
          go_ret
          exact ⟨by rw [HE.out]; rfl, HB.out.trans hb'.out⟩
      · have hei : ((((kdM j : Nat) : Int)) == k) = false := by rw [beq_eq_false_iff_ne]; exact he
        have HNx : Hid (∀ i, i < j + 1 → ((kdM i : Nat) : Int) ≠ k) := mkHid fun i hi => by
          by_cases hij : i < j
          · exact hne.out i hij
          · have : i = j := by omega
            subst this
            exact he
        clear he hne
        generalize ((kdM j : Nat) : Int) = K at *
        go_wp2_with fail
        go_region_held3 (fun V => V.cell? ⟨w.heap.size, 0, none⟩ = some (.int .i64 k) ∧ Hid (Bl W V))
          (first
            | exact HC.out _ hbl.out
            | exact HC.out _ (hbl.out.trans (bl_drew _))
            | exact HC.out _ hb'.out)
          (first | (go_at_call 36; refine (HK.out _).mono ?_; rintro e w' ⟨rfl, b'⟩; have hb' := mkHid ((hbl.out.trans (bl_drew _)).trans b'); clear b'))
        all_goals go_wp2_with fail
        all_goals
          go_roundw
          case rel => exact ⟨j + 1, by omega, by simp, hb', HNx.out⟩
          case measure => simp [intOf]; omega
    · have hje : j = 9 := by omega
      subst hje
      have HE : Hid (T = ba []) := by unfold Hid; rw [hT.out, HN.out hne.out]
      go_wp2_with fail
      go_wp2_with fail
      go_ret
      exact ⟨by rw [HE.out]; rfl, HB.out.trans hbl.out⟩
theorem rShown_ok (k : Int) (x : Bs) (m a : Int) (w : World) (hP : Pw w) (hx : x.length ≤ 2147483648) (h0 : -9223372036854775808 ≤ m) (h1 : m ≤ 9223372036854775807) :
    Calls Tryz.prog 21 #[.agg #[.int .i64 k, .string (ba x), .int .i64 m, .int .i64 a]] w fun e w' => e = .returned (.string (ba (shw k x m))) ∧ Bl w w' := by
  by_cases hk : k = 1 ∨ k = 3 ∨ k = 2 ∨ k = 4 ∨ k = 5 ∨ k = 6 ∨ k = 7 ∨ k = 14
  · exact rShown_lit k x m a w hP hx h0 h1 hk
  · exact rShown_mark k x m a w (by omega) (by omega) (by omega) (by omega) (by omega) (by omega) (by omega) (by omega)
end Go.Proofs.YtimlomobbnnehaaGreatDoor
namespace Go.Proofs.YtimlomobbnnehaaGreatDoor
open Go.RowKit Go.Maps
set_option linter.unusedVariables false
set_option linter.unusedSimpArgs false
/-- whether a token (as Go has it) can be, the stop among them -/
def canZ (k : Int) (x : Bs) (m : Int) : Prop := (k ≠ 4 → m = 0) ∧ ((k = 1 ∨ k = 2) ∧ nameB x = true ∨ k = 3 ∧ opB x = true ∨ k = 4 ∧ x = [] ∧ 0 ≤ m ∧ m ≤ 1073741824 ∨ k = 5 ∧ symB x = true ∨ k = 6 ∨ 7 ≤ k ∧ k ≤ 18 ∧ x = [])
instance (k : Int) (x : Bs) (m : Int) : Decidable (canZ k x m) := by unfold canZ; infer_instance
set_option maxHeartbeats 8000000 in
set_option maxRecDepth 1000000 in
theorem canBe_ok (k : Int) (s : ByteArray) (m a : Int) (w : World) (hs : s.size ≤ 140737488355328) : Calls Tryz.prog 15 #[.agg #[.int .i64 k, .string s, .int .i64 m, .int .i64 a]] w fun e w' => e = .returned (.bool (decide (canZ k (lst s) m))) ∧ Bl w w' := by
  have HN := mkHid (fun W => isName_ok s W hs)
  have HO := mkHid (fun W => isOp_ok s W hs)
  have HS := mkHid (fun W => isSym_ok s W hs)
  by_cases h4 : k = 4
  · have b4 : (k == 4) = true := by simpa using h4
    have n4 : (k != 4) = false := by simpa using h4
    have b1 : (k == 1) = false := by simp; omega
    have b2 : (k == 2) = false := by simp; omega
    have b3 : (k == 3) = false := by simp; omega
    have c1 : ¬ k = 1 := by omega
    have c2 : ¬ k = 2 := by omega
    have c3 : ¬ k = 3 := by omega
    by_cases h0 : s.size = 0
    · have hE : s.toList.isEmpty = true := isEmpty_of h0
      have hx : lst s = [] := lst_nil.2 h0
      by_cases hm : 0 ≤ m
      · by_cases hm2 : m ≤ 1073741824
        · have d1 : decide (m ≤ 1073741824) = true := decide_eq_true hm2
          have e : decide (canZ k (lst s) m) = true := decide_eq_true (by unfold canZ; simp [hx]; omega)
          rw [e]
          clear e
          go_enter Tryz.func15, Tryz.ntmps15
          go_wp2
          go_ret
          exact ⟨rfl, Bl.alloc _ _⟩
        · have d1 : decide (m ≤ 1073741824) = false := decide_eq_false hm2
          have e : decide (canZ k (lst s) m) = false := decide_eq_false (fun h => by unfold canZ at h; first | omega | (simp [hx] at h; omega) | (simp [hx] at h))
          rw [e]
          clear e
          go_enter Tryz.func15, Tryz.ntmps15
          go_wp2
          go_ret
          exact ⟨rfl, Bl.alloc _ _⟩
      · have d1 : decide (0 ≤ m) = false := decide_eq_false hm
        have e : decide (canZ k (lst s) m) = false := decide_eq_false (fun h => by unfold canZ at h; first | omega | (simp [hx] at h; omega) | (simp [hx] at h))
        rw [e]
        clear e
        go_enter Tryz.func15, Tryz.ntmps15
        go_wp2
        go_ret
        exact ⟨rfl, Bl.alloc _ _⟩
    · have hE : s.toList.isEmpty = false := not_empty_of h0
      have hx : ¬ lst s = [] := fun h => h0 (lst_nil.1 h)
      have e : decide (canZ k (lst s) m) = false := decide_eq_false (fun h => by unfold canZ at h; first | omega | (simp [hx] at h; omega) | (simp [hx] at h))
      rw [e]
      clear e
      go_enter Tryz.func15, Tryz.ntmps15
      go_wp2
      go_ret
      exact ⟨rfl, Bl.alloc _ _⟩
  · by_cases hm : m = 0
    · subst hm
      by_cases h1 : k = 1
      · subst h1
        have e : decide (canZ 1 (lst s) 0) = nameB (lst s) := by
          rw [Bool.eq_iff_iff]
          simp [canZ]
        rw [e]
        clear e
        go_enter Tryz.func15, Tryz.ntmps15
        go_wp2_with (go_at_call 25; refine (HN.out _).mono ?_; rintro e1 w1 ⟨rfl, b1⟩)
        go_ret
        exact ⟨rfl, (Bl.alloc _ _).trans b1⟩
      by_cases h2 : k = 2
      · subst h2
        have e : decide (canZ 2 (lst s) 0) = nameB (lst s) := by
          rw [Bool.eq_iff_iff]
          simp [canZ]
        rw [e]
        clear e
        go_enter Tryz.func15, Tryz.ntmps15
        go_wp2_with (go_at_call 25; refine (HN.out _).mono ?_; rintro e1 w1 ⟨rfl, b1⟩)
        go_ret
        exact ⟨rfl, (Bl.alloc _ _).trans b1⟩
      by_cases h3 : k = 3
      · subst h3
        have e : decide (canZ 3 (lst s) 0) = opB (lst s) := by
          rw [Bool.eq_iff_iff]
          simp [canZ]
        rw [e]
        clear e
        go_enter Tryz.func15, Tryz.ntmps15
        go_wp2_with (go_at_call 28; refine (HO.out _).mono ?_; rintro e1 w1 ⟨rfl, rfl⟩)
        go_ret
        exact ⟨rfl, Bl.alloc _ _⟩
      by_cases h5 : k = 5
      · subst h5
        have e : decide (canZ 5 (lst s) 0) = symB (lst s) := by
          rw [Bool.eq_iff_iff]
          simp [canZ]
        rw [e]
        clear e
        go_enter Tryz.func15, Tryz.ntmps15
        go_wp2_with (go_at_call 30; refine (HS.out _).mono ?_; rintro e1 w1 ⟨rfl, b1⟩)
        go_ret
        exact ⟨rfl, (Bl.alloc _ _).trans b1⟩
      by_cases h6 : k = 6
      · subst h6
        have e : decide (canZ 6 (lst s) 0) = true := by simp [canZ]
        rw [e]
        clear e
        go_enter Tryz.func15, Tryz.ntmps15
        go_wp2
        go_ret
        exact ⟨rfl, Bl.alloc _ _⟩
      by_cases h0 : s.size = 0
      · have hE : s.toList.isEmpty = true := isEmpty_of h0
        have hx : lst s = [] := lst_nil.2 h0
        by_cases h7 : 7 ≤ k
        · by_cases h8 : k ≤ 18
          · have d1 : decide (k ≤ 18) = true := decide_eq_true h8
            have d2 : decide (7 ≤ k) = true := decide_eq_true h7
            have e : decide (canZ k (lst s) 0) = true := decide_eq_true (by unfold canZ; simp [hx]; omega)
            rw [e]
            clear e
            go_enter Tryz.func15, Tryz.ntmps15
            go_wp2
            go_ret
            exact ⟨rfl, Bl.alloc _ _⟩
          · have d1 : decide (k ≤ 18) = false := decide_eq_false h8
            have d2 : decide (7 ≤ k) = true := decide_eq_true h7
            have e : decide (canZ k (lst s) 0) = false := decide_eq_false (fun h => by unfold canZ at h; first | omega | (simp [hx] at h; omega) | (simp [hx] at h))
            rw [e]
            clear e
            go_enter Tryz.func15, Tryz.ntmps15
            go_wp2
            go_ret
            exact ⟨rfl, Bl.alloc _ _⟩
        · have d2 : decide (7 ≤ k) = false := decide_eq_false h7
          have e : decide (canZ k (lst s) 0) = false := decide_eq_false (fun h => by unfold canZ at h; first | omega | (simp [hx] at h; omega) | (simp [hx] at h))
          rw [e]
          clear e
          go_enter Tryz.func15, Tryz.ntmps15
          go_wp2
          go_ret
          exact ⟨rfl, Bl.alloc _ _⟩
      · have hE : s.toList.isEmpty = false := not_empty_of h0
        have hx : ¬ lst s = [] := fun h => h0 (lst_nil.1 h)
        have e : decide (canZ k (lst s) 0) = false := decide_eq_false (fun h => by unfold canZ at h; first | omega | (simp [hx] at h; omega) | (simp [hx] at h))
        rw [e]
        clear e
        go_enter Tryz.func15, Tryz.ntmps15
        go_wp2
        go_ret
        exact ⟨rfl, Bl.alloc _ _⟩
    · have n4 : (k != 4) = true := by simpa using h4
      have nm : (m != 0) = true := by simpa using hm
      have e : decide (canZ k (lst s) m) = false := decide_eq_false (fun h => hm (h.1 h4))
      rw [e]
      clear e
      go_enter Tryz.func15, Tryz.ntmps15
      go_wp2
      go_ret
      exact ⟨rfl, Bl.alloc _ _⟩
end Go.Proofs.YtimlomobbnnehaaGreatDoor

namespace Go.Proofs.YtimlomobbnnehaaGreatDoor
open Go Go.Shelf Go.RowKit
set_option linter.unusedVariables false
theorem bl166 : Lays.n166 Tryz.prog Tryz.lays155_ren := { Tryz.lays155 with }
theorem bl169 : Lays.n169 Tryz.prog Tryz.lays155_ren := { Tryz.lays155 with }
def ren167 : Go.Shelf.Ren := ⟨fun | 167 => 16 | n => Tryz.lays155_ren.f n, Tryz.lays155_ren.t, Tryz.lays155_ren.g⟩
theorem bl167 : Lays.n167 Tryz.prog ren167 := {
  mixed := Tryz.lays155.mixed
  f167 := Tryz.func16.trans (congrArg some (by kernel_rfl))
  f240 := Tryz.func31.trans (congrArg some (by kernel_rfl))
  f276 := Tryz.func54.trans (congrArg some (by kernel_rfl))
  t0 := Tryz.lays155.t0, a0 := Tryz.lays155.a0, z0 := Tryz.lays155.z0, v0 := Tryz.lays155.v0
  t4 := Tryz.lays155.t4, a4 := Tryz.lays155.a4, z4 := Tryz.lays155.z4, v4 := Tryz.lays155.v4
  t5 := Tryz.underlying5, a5 := Tryz.isAgg5, z5 := Tryz.sizeOf5, v5 := Tryz.zeroValue5
  t9 := Tryz.lays155.t9, a9 := Tryz.lays155.a9, z9 := Tryz.lays155.z9, v9 := Tryz.lays155.v9
  t20 := Tryz.lays155.t20, a20 := Tryz.lays155.a20, z20 := Tryz.lays155.z20, v20 := Tryz.lays155.v20
  t37 := Tryz.lays155.t37, a37 := Tryz.lays155.a37, z37 := Tryz.lays155.z37, v37 := Tryz.lays155.v37
  t70 := Tryz.lays155.t70, a70 := Tryz.lays155.a70, z70 := Tryz.lays155.z70, v70 := Tryz.lays155.v70
  t72 := Tryz.lays155.t72, a72 := Tryz.lays155.a72, z72 := Tryz.lays155.z72, v72 := Tryz.lays155.v72
  t75 := Tryz.lays155.t75, a75 := Tryz.lays155.a75, z75 := Tryz.lays155.z75, v75 := Tryz.lays155.v75
  t164 := Tryz.lays155.t164, a164 := Tryz.lays155.a164, z164 := Tryz.lays155.z164, v164 := Tryz.lays155.v164 }
theorem ex167 : Builder.Extra Tryz.prog ren167 := {
  sizeBuilder := by kernel_rfl
  liesBuilder := by kernel_rfl
  t5 := Tryz.underlying5
  a5 := Tryz.isAgg5
  z5 := Tryz.sizeOf5
  v5 := Tryz.zeroValue5
  infoByte := by kernel_rfl
  cellsByte := by kernel_rfl
  sizeByte := by kernel_rfl
  neB5 := by decide }
theorem WriteByte_ok (B b : Nat) (bs : List Value) (c : Int) (w : World) (h : Lib.IsBuilder 47 5 B b bs w) (hlen : bs.length + 1 ≤ 140737488355328) (hBw : B ≤ w.heap.size) :
    Calls Tryz.prog 16 #[.pointer (some ⟨b, 0, none⟩), .int .u8 c] w fun e w' => e = .returned .nilIface ∧ (Lib.BuilderAt 47 5 B b (.pointer (some ⟨b, 0, none⟩)) (bs ++ [.int .u8 c]) w' ∧ Below B w w') := Any.Builder_WriteByte bl167 ex167 B b bs c w h hlen hBw
theorem WriteString_ok (B b : Nat) (bs : List Value) (s : ByteArray) (w : World) (h : Lib.IsBuilder 47 5 B b bs w) (hlen : bs.length + s.size ≤ 140737488355328) (hBw : B ≤ w.heap.size) :
    Calls Tryz.prog 17 #[.pointer (some ⟨b, 0, none⟩), .string s] w fun e w' => e = .returned (.tuple #[.int .i64 s.size, .nilIface]) ∧ (Lib.BuilderAt 47 5 B b (.pointer (some ⟨b, 0, none⟩)) (bs ++ Lib.strCells s) w' ∧ Below B w w') := Any.Builder_WriteString bl166 Tryz.Builder_Extra_155 B b bs s w h hlen hBw
theorem String_ok (B b : Nat) (l : List UInt8) (w : World) (h : Lib.IsBuilder 47 5 B b (Lib.byteCells l) w) (hBw : B ≤ w.heap.size) :
    Calls Tryz.prog 19 #[.pointer (some ⟨b, 0, none⟩)] w fun e w' => e = .returned (.string ⟨l.toArray⟩) ∧ Below B w w' := Any.Builder_String_any bl169 Tryz.Builder_Extra_155 B b l w h hBw
theorem WriteByte_k (B b : Nat) (bs : List Value) (c : Int) (w : World) (h : Lib.IsBuilderF 47 5 B b bs w) (hlen : bs.length + 1 ≤ 140737488355328) (hBw : B ≤ w.heap.size) :
    Calls Tryz.prog 16 #[.pointer (some ⟨b, 0, none⟩), .int .u8 c] w fun e w' => e = .returned .nilIface ∧ (Lib.BuilderAtF 47 5 B b (.pointer (some ⟨b, 0, none⟩)) (bs ++ [.int .u8 c]) w' ∧ Below B w w' ∧ Lib.OthersKept 5 (some b) w w') := Any.Builder_WriteByte_k bl167 ex167 B b bs c w h hlen hBw
theorem WriteString_k (B b : Nat) (bs : List Value) (s : ByteArray) (w : World) (h : Lib.IsBuilderF 47 5 B b bs w) (hlen : bs.length + s.size ≤ 140737488355328) (hBw : B ≤ w.heap.size) :
    Calls Tryz.prog 17 #[.pointer (some ⟨b, 0, none⟩), .string s] w fun e w' => e = .returned (.tuple #[.int .i64 s.size, .nilIface]) ∧ (Lib.BuilderAtF 47 5 B b (.pointer (some ⟨b, 0, none⟩)) (bs ++ Lib.strCells s) w' ∧ Below B w w' ∧ Lib.OthersKept 5 (some b) w w') := Any.Builder_WriteString_k bl166 Tryz.Builder_Extra_155 B b bs s w h hlen hBw
theorem String_k (B b : Nat) (l : List UInt8) (w : World) (h : Lib.IsBuilderF 47 5 B b (Lib.byteCells l) w) (hBw : B ≤ w.heap.size) :
    Calls Tryz.prog 19 #[.pointer (some ⟨b, 0, none⟩)] w fun e w' => e = .returned (.string ⟨l.toArray⟩) ∧ (Lib.IsBuilderF 47 5 B b (Lib.byteCells l) w' ∧ Below B w w' ∧ Lib.OthersKept 5 (some b) w w') := Any.Builder_String_any_k bl169 Tryz.Builder_Extra_155 B b l w h hBw
end Go.Proofs.YtimlomobbnnehaaGreatDoor

