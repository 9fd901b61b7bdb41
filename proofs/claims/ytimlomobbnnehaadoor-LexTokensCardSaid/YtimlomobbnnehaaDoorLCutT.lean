import Derived.Test.YtimlomobbnnehaaDoorLCutX
namespace Go.Proofs.YtimlomobbnnehaaDoor
open Go.RowKit
set_option linter.unusedVariables false
set_option linter.unusedSimpArgs false
theorem replaceAll_b (s old new : ByteArray) (p : Bs) (w : World) (hT : Tab w) (hs : s.size < 4294967281) (h1 : 1 ≤ old.size) (hlen : s.size + Lib.countB s old * new.size ≤ 140737488355328) (hp : Lib.replaceAll s.data.toList old.data.toList new.data.toList = p) :
    Calls Tryd.prog 55 #[.string s, .string old, .string new] w fun e w' => e = .returned (.string (ba p)) ∧ Bl w w' := by
  subst hp
  obtain ⟨m, hm⟩ := hT.max
  exact Tryd.strings_ReplaceAll s old new m w hs hm h1 hlen
set_option maxHeartbeats 8000000 in
set_option maxRecDepth 1000000 in
theorem cutText_ok (s : ByteArray) (w : World) (hT : Tab w) (hs : s.size ≤ 4096) (h : hd (lst s) = 39) : Calls Tryd.prog 26 #[.string s] w fun e w' => e = .returned (cv (cutQ (lst s))) ∧ Bl w w' := by
  have hq := mkHid (cutQ_text h)
  have hp := hd_lt h (by omega)
  rw [lst_len] at hp
  have HT := mkHid (fun o => hT.mono (Bl.alloc w o))
  clear h hT
  go_enter Tryd.func26, Tryd.ntmps26
  go_wp2
  go_loopw [4] (fun q wr => ∃ i : Nat, 1 ≤ i ∧ i ≤ s.size ∧ q = .int .i64 i ∧ wr = w.alloc (.cells #[.int .i64 0, .string ⟨#[]⟩, .int .i64 0, .int .i64 0] 41) ∧ Hid (∃ pre, Pd (((lst s).drop 1).take (i - 1)) pre ∧ txt ((lst s).drop 1) = (txt ((lst s).drop i)).map (fun x => (pre ++ x.1, x.2 + (i - 1))))) (fun q _ => s.size - (intOf q).toNat)
  case atStart => exact ⟨1, Nat.le_refl _, hp, rfl, rfl, [], .nil, by simp⟩
  case round =>
    obtain ⟨i, hi1, hi2, rfl, rfl, hH⟩ := hrel
    obtain ⟨pre, hPd, htx⟩ := hH.out
    by_cases hlt : i < s.size
    · have hli : (i : Int) < s.size := by omega
      have hb := get_lst s i hlt
      have hdr : (lst s).drop i = s[i]'hlt :: (lst s).drop (i + 1) := List.drop_eq_getElem_cons (by rw [lst_len]; exact hlt)
      have htk : ((lst s).drop 1).take i = ((lst s).drop 1).take (i - 1) ++ [s[i]'hlt] := by
        have h1 : i - 1 < ((lst s).drop 1).length := by rw [List.length_drop, lst_len]; omega
        have h2 := List.take_succ_eq_append_getElem h1
        rw [show i - 1 + 1 = i by omega] at h2
        rw [h2]
        congr 2
        rw [List.getElem_drop]
        simp only [show 1 + (i - 1) = i by omega]
        rfl
      by_cases c39 : (s[i]'hlt).toNat = 39
      · have c39' : ((s[i]'hlt).toNat : Int) = 39 := by omega
        by_cases hend : i + 1 = s.size
        · have hie : (i : Int) + 1 = s.size := by omega
          have hnx : hd ((lst s).drop (i + 1)) ≠ 39 := by rw [hd_drop_end (by rw [lst_len]; omega)]; omega
          have hQ : cutQ (lst s) = (6, pre, 0, i + 1) := by
            rw [hq.out, htx, hdr, txt_end c39 hnx]
            simp
            omega
          have HQ := mkHid hQ
          have hrep : Lib.replaceAll (s.extract 1 i).data.toList (⟨#[39, 39]⟩ : ByteArray).data.toList (⟨#[39]⟩ : ByteArray).data.toList = pre := by
            rw [show (s.extract 1 i).data.toList = ((lst s).drop 1).take (i - 1) from lst_mid s 1 i]
            exact hPd.says
          have hsz : (s.extract 1 i).size ≤ 4096 := by rw [← lst_len, lst_mid, List.length_take, List.length_drop, lst_len]; omega
          have hcl : (s.extract 1 i).size + Lib.countB (s.extract 1 i) ⟨#[39, 39]⟩ * (⟨#[39]⟩ : ByteArray).size ≤ 140737488355328 := by
            have h6 := Lib.count_le (s.extract 1 i).data.toList (⟨#[39, 39]⟩ : ByteArray).data.toList
            have h7 : (s.extract 1 i).data.toList.length = (s.extract 1 i).size := rfl
            have h8 : (⟨#[39]⟩ : ByteArray).size = 1 := rfl
            unfold Lib.countB
            rw [h8]
            omega
          have hsl : ∀ W, (Instr.slice 9 (.string s) (some (.int .i64 1)) (some (.int .i64 (i : Int))) none).run Tryd.prog W = .ok (.string (s.extract 1 i)) W := fun W => by
            have h5 := run_slice_string (P := Tryd.prog) W 9 s .i64 .i64 1 (i : Int) Tryd.underlying9 (by omega) (by omega) (by omega)
            rw [h5]
            rfl
          clear hQ hdr htk hH hPd htx hb c39 hnx
          go_wp2_with (go_at_call 55; refine (replaceAll_b (s.extract 1 i) ⟨#[39, 39]⟩ ⟨#[39]⟩ pre _ (HT.out _) (by omega) (by decide) hcl hrep).mono ?_; rintro e w1 ⟨rfl, b1⟩; obtain ⟨hr1, bb1, lt1⟩ := res_in b1; obtain ⟨r0, r1, r2, r3, y0, y1, y2, y3⟩ := resF hr1)
          rw [HQ.out]
          exact ret4 (6, pre, 0, i + 1) Tryd.results26 hr1 bb1 (Nat.le_refl _) rfl (by show Value.int .i64 (s.size : Int) = .int .i64 ((i + 1 : Nat) : Int); congr 1; omega) rfl rfl rfl rfl
        · have hlt2 : i + 1 < s.size := by omega
          have hie : (i : Int) + 1 < s.size := by omega
          have hb2 := get_lst s (i + 1) hlt2
          by_cases d39 : (s[i + 1]'hlt2).toNat = 39
          · have d39' : ((s[i + 1]'hlt2).toNat : Int) = 39 := by omega
            have hdr2 : (lst s).drop (i + 1) = s[i + 1]'hlt2 :: (lst s).drop (i + 2) := List.drop_eq_getElem_cons (by rw [lst_len]; exact hlt2)
            have e39 : ∀ c : UInt8, c.toNat = 39 → c = 39 := fun c hc => UInt8.toNat_inj.1 hc
            have hH2 : Hid (∃ pre, Pd (((lst s).drop 1).take (i + 2 - 1)) pre ∧ txt ((lst s).drop 1) = (txt ((lst s).drop (i + 2))).map (fun x => (pre ++ x.1, x.2 + (i + 2 - 1)))) := by
              refine ⟨pre ++ [39], ?_, ?_⟩
              · have h1 : i < ((lst s).drop 1).length := by rw [List.length_drop, lst_len]; omega
                have h2 := List.take_succ_eq_append_getElem h1
                rw [show i + 2 - 1 = i + 1 by omega, h2, htk, List.append_assoc]
                have h3 : ((lst s).drop 1)[i] = 39 := by
                  rw [List.getElem_drop]
                  simp only [show 1 + i = i + 1 by omega]
                  exact e39 _ d39
                rw [h3, e39 _ c39]
                exact hPd.append (.two _ _ .nil)
              · rw [htx, hdr, hdr2, txt_two _ _ _ c39 d39, Option.map_map, e39 _ c39]
                congr 1
                funext x
                simp
                omega
            clear hdr hdr2 htk hH hPd htx hb hb2 c39 d39
            go_wp2_with fail
            go_roundw
            case rel => exact ⟨i + 2, by omega, by omega, by simp; omega, by simp, hH2.out⟩
            case measure => simp [intOf]; omega
          · have d39' : ((((s[i + 1]'hlt2).toNat : Int)) != 39) = true := by rw [bne_iff_ne]; omega
            have hieb : ((i : Int) + 1 == (s.size : Int)) = false := by rw [beq_eq_false_iff_ne]; omega
            have hnx : hd ((lst s).drop (i + 1)) ≠ 39 := by rw [hb2]; exact d39
            clear hb2 d39
            have hQ : cutQ (lst s) = (6, pre, 0, i + 1) := by
              rw [hq.out, htx, hdr, txt_end c39 hnx]
              simp
              omega
            have HQ := mkHid hQ
            have hrep : Lib.replaceAll (s.extract 1 i).data.toList (⟨#[39, 39]⟩ : ByteArray).data.toList (⟨#[39]⟩ : ByteArray).data.toList = pre := by
              rw [show (s.extract 1 i).data.toList = ((lst s).drop 1).take (i - 1) from lst_mid s 1 i]
              exact hPd.says
            have hsz : (s.extract 1 i).size ≤ 4096 := by rw [← lst_len, lst_mid, List.length_take, List.length_drop, lst_len]; omega
            have hcl : (s.extract 1 i).size + Lib.countB (s.extract 1 i) ⟨#[39, 39]⟩ * (⟨#[39]⟩ : ByteArray).size ≤ 140737488355328 := by
              have h6 := Lib.count_le (s.extract 1 i).data.toList (⟨#[39, 39]⟩ : ByteArray).data.toList
              have h7 : (s.extract 1 i).data.toList.length = (s.extract 1 i).size := rfl
              have h8 : (⟨#[39]⟩ : ByteArray).size = 1 := rfl
              unfold Lib.countB
              rw [h8]
              omega
            have hsl : ∀ W, (Instr.slice 9 (.string s) (some (.int .i64 1)) (some (.int .i64 (i : Int))) none).run Tryd.prog W = .ok (.string (s.extract 1 i)) W := fun W => by
              have h5 := run_slice_string (P := Tryd.prog) W 9 s .i64 .i64 1 (i : Int) Tryd.underlying9 (by omega) (by omega) (by omega)
              rw [h5]
              rfl
            clear hQ hdr htk hH hPd htx hb c39 hnx
            go_wp2_with (go_at_call 55; refine (replaceAll_b (s.extract 1 i) ⟨#[39, 39]⟩ ⟨#[39]⟩ pre _ (HT.out _) (by omega) (by decide) hcl hrep).mono ?_; rintro e w1 ⟨rfl, b1⟩; obtain ⟨hr1, bb1, lt1⟩ := res_in b1; obtain ⟨r0, r1, r2, r3, y0, y1, y2, y3⟩ := resF hr1)
            rw [HQ.out]
            exact ret4 (6, pre, 0, i + 1) Tryd.results26 hr1 bb1 (Nat.le_refl _) rfl rfl rfl rfl rfl rfl
      · have c39' : ¬ ((s[i]'hlt).toNat : Int) = 39 := by omega
        have hH2 : Hid (∃ pre, Pd (((lst s).drop 1).take (i + 1 - 1)) pre ∧ txt ((lst s).drop 1) = (txt ((lst s).drop (i + 1))).map (fun x => (pre ++ x.1, x.2 + (i + 1 - 1)))) := by
          refine ⟨pre ++ [s[i]'hlt], ?_, ?_⟩
          · rw [show i + 1 - 1 = i by omega, htk]
            exact hPd.append (.one _ _ _ c39 .nil)
          · rw [htx, hdr, txt_one c39, Option.map_map]
            congr 1
            funext x
            simp
            omega
        clear hdr htk hH hPd htx hb c39
        go_wp2_with fail
        go_roundw
        case rel => exact ⟨i + 1, by omega, by omega, by simp, by simp, hH2.out⟩
        case measure => simp [intOf]; omega
    · have hi3 : i = s.size := by omega
      have hQ : cutQ (lst s) = (0, [], 0, 0) := by
        rw [hq.out, htx, hi3, List.drop_eq_nil_of_le (by rw [lst_len]; exact Nat.le_refl _)]
        rfl
      have HQ := mkHid hQ
      clear hQ hH hPd htx hlt
      subst hi3
      go_wp2_with (go_at_call 19; fail)
      go_wp2_with (go_at_call 19; refine (cutNothing_v s _).mono ?_; rintro e w2 ⟨rfl, rfl⟩)
      rw [HQ.out]
      refine bodyPost_ret (v := cv (0, [], 0, 0)) (by simp [results, Tryd.results26, go_sem, cv, ba]) rfl ⟨rfl, Bl.alloc2 _ _ _⟩
end Go.Proofs.YtimlomobbnnehaaDoor

