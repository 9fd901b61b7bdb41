import Derived.Test.YtjbacibicnfaeaaDoorLItoa0
import Derived.Test.YtjbacibicnfaeaaDoorLRepl
import Derived.Test.YtjbacibicnfaeaaDoorLMark
import Derived.Lib.LaidTab
namespace Go.Proofs.YtjbacibicnfaeaaDoor
open Go.RowKit Go.Maps
set_option linter.unusedVariables false
set_option linter.unusedSimpArgs false
/-- the library's table of powers of ten lies there -/
abbrev Pw (w : World) : Prop := Lib.TabIs Tryd.prog w "internal/strconv.uint64pow10" .u64 Lib.pow10Tab
theorem Pw.mono {w w' : World} (h : Pw w) (b : Bl w w') : Pw w' := by
  unfold Pw Lib.TabIs World.var? at h ⊢
  cases hg : Tryd.prog.globalNamed "internal/strconv.uint64pow10" with
  | none => rw [hg] at h; cases h
  | some g =>
  rw [hg] at h
  simp only [Option.bind_some] at h ⊢
  have hlt : g < w.heap.size := by
    rcases Nat.lt_or_ge g w.heap.size with h1 | h1
    · exact h1
    · rw [Array.getElem?_eq_none h1] at h
      cases h
  rw [b.block g hlt]
  exact h
theorem itoa_ok (n : Nat) (w : World) (hn : n ≤ 1073741824) (hP : Pw w) : Calls Tryd.prog 59 #[.int .i64 n] w fun e w' => e = .returned (.string (ba (Lib.decDigits n))) ∧ Bl w w' := by
  have HI := mkHid (Tryd.internal_strconv_Itoa n (by omega) (by omega) w hP)
  have e : Lib.itoa (n : Int) = Lib.decDigits n := by unfold Lib.itoa; rw [if_neg (by omega)]; simp
  rw [e] at HI
  go_enter Tryd.func59, Tryd.ntmps59
  go_wp2_with (go_at_call 66; refine HI.out.mono ?_; rintro e w1 ⟨rfl, k, os, rfl⟩)
  go_ret
  refine ⟨rfl, rfl, rfl, rfl, ?_, fun j hj => ?_⟩
  · show w.heap.size ≤ (w.heap ++ os).size
    simp
  · show (w.heap ++ os)[j]? = w.heap[j]?
    rw [Array.getElem?_append_left hj]
theorem ba_app (a b : Bs) : ba a ++ ba b = ba (a ++ b) := by
  have h : lst (ba a ++ ba b) = a ++ b := by unfold lst; simp [ba]
  rw [← ba_lst (ba a ++ ba b), h]
theorem kinds_in {k : Nat} (h1 : 7 ≤ k) (h2 : k ≤ 17) : ∃ j, j < 11 ∧ kdAt j = k := by
  have : k = 7 ∨ k = 8 ∨ k = 9 ∨ k = 10 ∨ k = 11 ∨ k = 12 ∨ k = 13 ∨ k = 14 ∨ k = 15 ∨ k = 16 ∨ k = 17 := by omega
  rcases this with rfl | rfl | rfl | rfl | rfl | rfl | rfl | rfl | rfl | rfl | rfl
  · exact ⟨0, by omega, rfl⟩
  · exact ⟨2, by omega, rfl⟩
  · exact ⟨3, by omega, rfl⟩
  · exact ⟨4, by omega, rfl⟩
  · exact ⟨5, by omega, rfl⟩
  · exact ⟨6, by omega, rfl⟩
  · exact ⟨7, by omega, rfl⟩
  · exact ⟨1, by omega, rfl⟩
  · exact ⟨8, by omega, rfl⟩
  · exact ⟨9, by omega, rfl⟩
  · exact ⟨10, by omega, rfl⟩
theorem txAt_mark {j : Nat} (h : j < 11) : txAt j = markT (kdAt j) := by
  have : j = 0 ∨ j = 1 ∨ j = 2 ∨ j = 3 ∨ j = 4 ∨ j = 5 ∨ j = 6 ∨ j = 7 ∨ j = 8 ∨ j = 9 ∨ j = 10 := by omega
  rcases this with rfl | rfl | rfl | rfl | rfl | rfl | rfl | rfl | rfl | rfl | rfl <;> rfl
set_option maxHeartbeats 8000000 in
set_option maxRecDepth 1000000 in
theorem writtenMark (k : Nat) (x : ByteArray) (a : Int) (w : World) (hT : Tab w) (h1 : 7 ≤ k) (h2 : k ≤ 17) : Calls Tryd.prog 37 #[.agg #[.int .i64 k, .string x, .int .i64 0, .int .i64 a]] w fun e w' => e = .returned (.string (ba (markT k))) ∧ Bl w w' := by
  obtain ⟨MV, hMV⟩ : ∃ MV : Value, MV = .agg marksC.toArray := ⟨_, rfl⟩
  have hlv : ∀ o, (loadVar 76 ⟨0, 0, none⟩).run Tryd.prog (w.alloc o) = .ok MV (w.alloc o) := fun o => by rw [hMV]; exact load_marks (hT.mono (Bl.alloc w o))
  have hix : ∀ j : Nat, j < 11 → ∀ W, (Instr.index 76 MV (.int .i64 j)).run Tryd.prog W = .ok (.agg #[.int .i64 (kdAt j), .string (ba (txAt j))]) W := fun j hj W => by rw [hMV]; exact index_marks hj
  clear hMV hT
  have b1 : ((k : Int) == 1) = false := by simp; omega
  have b2 : ((k : Int) == 2) = false := by simp; omega
  have b3 : ((k : Int) == 3) = false := by simp; omega
  have b4 : ((k : Int) == 4) = false := by simp; omega
  have b5 : ((k : Int) == 5) = false := by simp; omega
  have b6 : ((k : Int) == 6) = false := by simp; omega
  have c1 : ¬ (k : Int) = 1 := by omega
  have c2 : ¬ (k : Int) = 2 := by omega
  have c3 : ¬ (k : Int) = 3 := by omega
  have c4 : ¬ (k : Int) = 4 := by omega
  have c5 : ¬ (k : Int) = 5 := by omega
  have c6 : ¬ (k : Int) = 6 := by omega
  go_enter Tryd.func37, Tryd.ntmps37
  go_wp2_with (refine wpList_loadV rfl 76 _ rfl ⟨0, 0, none⟩ rfl (hlv _) ?_)
  clear hlv
  go_loopw [35] (fun q wr => ∃ j : Nat, j ≤ 11 ∧ q = .int .i64 j ∧ Hid ((∀ i, i < j → kdAt i ≠ k) ∧ wr.heap[w.heap.size]? = some (.cells #[.int .i64 k, .string x, .int .i64 0, .int .i64 a] 30 (0, 0)) ∧ Bl w wr)) (fun q _ => 11 - (intOf q).toNat)
  case atStart => exact ⟨0, by omega, rfl, fun i hi => by omega, heap_alloc_new w _, Bl.alloc w _⟩
  case round =>
    obtain ⟨j, hj, rfl, hH⟩ := hrel
    have r0 : wr.cell? ⟨w.heap.size, 0, none⟩ = some (.int .i64 k) := by rw [cell_in hH.out.2.1]; rfl
    have hlt := lt_of_heap hH.out.2.1
    by_cases hj11 : j < 11
    · have hx := hix j hj11
      have hji : (j : Int) < 11 := by omega
      clear hix
      by_cases hk : kdAt j = k
      · have hV : txAt j = markT k := by rw [txAt_mark hj11, hk]
        rw [hk, hV] at hx
        have HV := mkHid hV
        clear hV hk
        obtain ⟨tx, htx⟩ : ∃ tx, tx = markT k := ⟨_, rfl⟩
        rw [← htx] at hx
        have HX := mkHid htx
        clear htx
        go_wp2_with fail
        go_ret
        exact ⟨by rw [← HX.out]; rfl, hH.out.2.2.trans (Bl.alloc _ _)⟩
      · have hb : ((kdAt j : Int) == (k : Int)) = false := by simp; omega
        have hbb : ¬ (kdAt j : Int) = (k : Int) := by omega
        have HV := mkHid hk
        clear hk
        generalize hkd : kdAt j = kd at *
        generalize txAt j = tx at *
        have hkd' := mkHid hkd
        clear hkd
        go_wp2_with fail
        go_roundw
        case rel => exact ⟨j + 1, by omega, by simp, fun i hi => (by
          by_cases he : i = j
          · subst he; rw [hkd'.out]; exact HV.out
          · exact hH.out.1 i (by omega)), (Below.heap_alloc _ _ _ hlt).trans hH.out.2.1, hH.out.2.2.trans (Bl.alloc _ _)⟩
        case measure => simp [intOf]; omega
    · exfalso
      obtain ⟨i, hi, he⟩ := kinds_in h1 h2
      exact hH.out.1 i (by omega) he
set_option maxHeartbeats 8000000 in
set_option maxRecDepth 1000000 in
theorem written_ok (t : Tok) (a : Int) (w : World) (hT : Tab w) (hP : Pw w) (hc : canB t) (hs : t.text.length ≤ 268435456) : Calls Tryd.prog 37 #[.agg #[.int .i64 t.kind, .string (ba t.text), .int .i64 t.num, .int .i64 a]] w fun e w' => e = .returned (.string (ba (wr t))) ∧ Bl w w' := by
  obtain ⟨k, x, m⟩ := t
  obtain ⟨h0, h⟩ := hc
  simp only at h0 h hs ⊢
  have hxs : (ba x).size = x.length := by rw [← lst_len, lst_ba]
  rcases h with ⟨h1 | h1, h2⟩ | ⟨h1, h2⟩ | ⟨h1, h2, h3⟩ | ⟨h1, h2⟩ | h1 | ⟨h1, h2, h3⟩
  · subst h1
    go_enter Tryd.func37, Tryd.ntmps37
    go_wp2
    go_ret
    exact ⟨rfl, Bl.alloc _ _⟩
  · subst h1
    have e : wr ⟨2, x, m⟩ = x ++ [58] := rfl
    rw [e, ← ba_app]
    have hq : (ba x).size + 1 ≤ 9223372036854775807 := by omega
    go_enter Tryd.func37, Tryd.ntmps37
    go_wp2
    go_ret
    exact ⟨rfl, Bl.alloc _ _⟩
  · subst h1
    go_enter Tryd.func37, Tryd.ntmps37
    go_wp2
    go_ret
    exact ⟨rfl, Bl.alloc _ _⟩
  · subst h1
    have e : wr ⟨4, x, m⟩ = Lib.decDigits m := rfl
    rw [e]
    have HI := mkHid (fun W (hW : Bl w W) => itoa_ok m W h3 (hP.mono hW))
    go_enter Tryd.func37, Tryd.ntmps37
    go_wp2_with (go_at_call 59; refine (HI.out _ (Bl.alloc _ _)).mono ?_; rintro e w1 ⟨rfl, b1⟩)
    go_ret
    exact ⟨rfl, (Bl.alloc _ _).trans b1⟩
  · subst h1
    have e : wr ⟨5, x, m⟩ = [35] ++ x := rfl
    rw [e, ← ba_app]
    have hq : 1 + (ba x).size ≤ 9223372036854775807 := by omega
    go_enter Tryd.func37, Tryd.ntmps37
    go_wp2
    go_ret
    exact ⟨rfl, Bl.alloc _ _⟩
  · subst h1
    have e : wr ⟨6, x, m⟩ = [39] ++ qt x ++ [39] := rfl
    rw [e, ← ba_app, ← ba_app]
    have hql := qt_len x
    have hqs : (ba (qt x)).size = (qt x).length := by rw [← lst_len, lst_ba]
    have hq1 : 1 + (ba (qt x)).size ≤ 9223372036854775807 := by omega
    have hq2 : (ba [39] ++ ba (qt x)).size + 1 ≤ 9223372036854775807 := by rw [ByteArray.size_append, hqs]; show 1 + _ + 1 ≤ _; omega
    have HR : Hid (∀ W, Bl w W → Calls Tryd.prog 60 #[.string (ba x), .string ⟨#[39]⟩, .string ⟨#[39, 39]⟩] W fun e w' => e = .returned (.string (ba (qt x))) ∧ Bl W w') := mkHid fun W hW => by
      obtain ⟨mm, hmm⟩ := (hT.mono hW).max
      have hcl := Lib.count_le x [39]
      have := Tryd.strings_ReplaceAll (ba x) ⟨#[39]⟩ ⟨#[39, 39]⟩ mm W (by omega) hmm (by decide) (by
        have e2 : Lib.countB (ba x) ⟨#[39]⟩ = Lib.count x [39] := by unfold Lib.countB; rw [show (ba x).data.toList = x from lst_ba x]
        rw [e2, hxs]
        show x.length + Lib.count x [39] * 2 ≤ _
        omega)
      rw [show (ba x).data.toList = x from lst_ba x] at this
      have e3 : Lib.replaceAll x [39] [39, 39] = qt x := replaceAll_qt x
      refine this.mono ?_
      rintro e w1 ⟨rfl, b1⟩
      exact ⟨by show Ending.returned (Value.string (ba (Lib.replaceAll x [39] [39, 39]))) = _; rw [e3], b1⟩
    go_enter Tryd.func37, Tryd.ntmps37
    go_wp2_with (go_at_call 60; refine (HR.out _ (Bl.alloc _ _)).mono ?_; rintro e w1 ⟨rfl, b1⟩)
    go_ret
    exact ⟨rfl, (Bl.alloc _ _).trans b1⟩
  · obtain rfl := h0 (by omega)
    have e : wr ⟨k, x, 0⟩ = markT k := by
      unfold wr
      simp only
      rw [if_neg (by omega), if_neg (by omega), if_neg (by omega), if_neg (by omega), if_neg (by omega)]
    rw [e]
    exact writtenMark k (ba x) a w hT h1 h2
end Go.Proofs.YtjbacibicnfaeaaDoor
