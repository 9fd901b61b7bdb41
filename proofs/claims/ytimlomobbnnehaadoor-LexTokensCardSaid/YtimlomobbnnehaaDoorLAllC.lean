import Derived.OwnWalk
import Derived.Test.YtimlomobbnnehaaDoorLAllBm
import Derived.Test.YtimlomobbnnehaaDoorLCmt
namespace Go.Proofs.YtimlomobbnnehaaDoor
open Go.RowKit Go.Maps
set_option linter.unusedVariables false
set_option linter.unusedSimpArgs false
/-- what text answers -/
def txtR (a : Nat) (o : Option (Bs × Nat)) : Value := match o with
  | none => .tuple #[.string ⟨#[]⟩, .int .i64 0, .bool false]
  | some x => .tuple #[.string (ba x.1), .int .i64 ((a + 1 + x.2 : Nat)), .bool true]
set_option maxHeartbeats 8000000 in
set_option maxRecDepth 1000000 in
theorem rText_ok (s : ByteArray) (a : Nat) (w : World) (ha : a < s.size) (hs : s.size ≤ 140737488355328) : Calls Tryd.prog 47 #[.string s, .int .i64 a] w fun e w' =>
    e = .returned (txtR a (txt ((lst s).drop (a + 1)))) ∧ Bl w w' := by
  obtain ⟨i0, hi, hz0, hz1, hz2⟩ := info_parts info5
  go_enter Tryd.func47, Tryd.ntmps47
  go_wp2
  go_loopw [7, 8] (fun v q wr => ∃ (b : Bs) (i : Nat), q = .int .i64 i ∧ a + 1 ≤ i ∧ i ≤ s.size ∧ b.length ≤ i ∧ Hid (txt ((lst s).drop (a + 1)) = (txt ((lst s).drop i)).map (fun x => (b ++ x.1, x.2 + (i - (a + 1))))) ∧ Hid (BO w b v wr)) (fun _ q _ => s.size - (intOf q).toNat)
  case atStart => exact ⟨[], a + 1, by simp, Nat.le_refl _, by omega, Nat.zero_le _, (by unfold Hid; cases txt ((lst s).drop (a + 1)) <;> simp), ⟨World.ownsRow_nil _ _ _ _, Bl.refl _⟩⟩
  case round =>
    obtain ⟨b, i, rfl, hi0, hi1, hbl, HX, hH⟩ := hrel
    by_cases hlt : i < s.size
    · have hli : (i : Int) < s.size := by omega
      have hown := hH.out.own
      have hwr := hH.out.bl.size
      have hdr : (lst s).drop i = (s[i]'hlt) :: (lst s).drop (i + 1) := List.drop_eq_getElem_cons (by rw [lst_len]; exact hlt)
      by_cases h39 : (s[i]'hlt).toNat = 39
      · have h39i : (((s[i]'hlt).toNat : Int) != 39) = false := by rw [bne_eq_false_iff_eq]; omega
        have his := fun w => rIs_ok s (i + 1) 39 w hs (by omega)
        by_cases hnx : hd ((lst s).drop (i + 1)) = 39
        · rw [decide_eq_true hnx] at his
          have his : ∀ w, Calls Tryd.prog 43 #[.string s, .int .i64 ((i : Int) + 1), .int .u8 39] w fun e w' => e = .returned (.bool true) ∧ w' = w := his
          have hlt2 : i + 1 < s.size := by
            have := hd_lt hnx (by omega)
            rw [List.length_drop, lst_len] at this
            omega
          have hdr2 : (lst s).drop (i + 1) = (s[i + 1]'hlt2) :: (lst s).drop (i + 2) := List.drop_eq_getElem_cons (by rw [lst_len]; exact hlt2)
          have HN : Hid (txt ((lst s).drop (a + 1)) = (txt ((lst s).drop (i + 2))).map (fun x => ((b ++ [39]) ++ x.1, x.2 + (i + 2 - (a + 1))))) := by
            unfold Hid
            have h9 : s[i]'hlt = 39 := UInt8.toNat_inj.1 h39
            rw [hdr2] at hnx
            rw [HX.out, hdr, hdr2, txt_two _ _ _ h39 hnx, h9]
            cases txt ((lst s).drop (i + 2)) with
            | none => rfl
            | some x => simp; omega
          clear hdr hdr2 hnx h39
          go_wp2_with (first | (go_at_call 43; refine (his _).mono ?_; rintro e w1 ⟨rfl, h2⟩; have h3 := h2.symm; subst h3) | (at_builtin; refine wpList_append_lies _ rfl (.tmp 36) (.tmp 37) 66 rfl w.heap.size 5 i0 (.int .u8 0) 1 1 Tryd.underlying66 hi hz0 hz1 hz2 rfl (by decide) _ _ _ rfl (hown.alloc _) ⟨wr.heap.size, 0, none⟩ 1 1 [.int .u8 39] rfl rfl ?c1 ?c2 (by omega) ?c3 ?c4 ?c5 (wr.heap.size + 1) (by simp) ?_))
          case c1 => exact World.news_of_block (heap_alloc_new wr _)
          case c2 => intro u hu; simp at hu; rcases hu with rfl; rfl
          case c3 => unfold maxLen; omega
          case c4 => omega
          case c5 => simp; omega
          intro g3 cap w5 hown' hgrow hat hlt5
          have HT5 := mkHid (BO.append (c := 39) hH.out hgrow hown')
          clear hown' hgrow hown hat
          go_wp2_with fail
          go_roundw
          case rel => exact ⟨b ++ [39], i + 2, by simp, by omega, by omega, by simp; omega, HN.out, HT5.out⟩
          case measure => simp [intOf]; omega
        · rw [decide_eq_false hnx] at his
          have his : ∀ w, Calls Tryd.prog 43 #[.string s, .int .i64 ((i : Int) + 1), .int .u8 39] w fun e w' => e = .returned (.bool false) ∧ w' = w := his
          have HN : Hid (txt ((lst s).drop (a + 1)) = some (b, 1 + (i - (a + 1)))) := by
            unfold Hid
            rw [HX.out, hdr, txt_end h39 hnx]
            simp
          have hcv := hH.out.conv
          clear hdr hnx h39
          go_wp2_with (first | (go_at_call 43; refine (his _).mono ?_; rintro e w1 ⟨rfl, h2⟩; have h3 := h2.symm; subst h3))
          go_ret3
          refine ⟨?_, hH.out.bl⟩
          rw [HN.out]
          unfold txtR
          simp
          omega
      · have h39i : (((s[i]'hlt).toNat : Int) != 39) = true := by rw [bne_iff_ne]; omega
        have HN : Hid (txt ((lst s).drop (a + 1)) = (txt ((lst s).drop (i + 1))).map (fun x => ((b ++ [s[i]'hlt]) ++ x.1, x.2 + (i + 1 - (a + 1))))) := by
          unfold Hid
          rw [HX.out, hdr, txt_one h39]
          cases txt ((lst s).drop (i + 1)) with
          | none => rfl
          | some x => simp; omega
        clear hdr h39
        go_wp2_with (at_builtin; refine wpList_append_lies _ rfl (.tmp 19) (.tmp 23) 66 rfl w.heap.size 5 i0 (.int .u8 0) 1 1 Tryd.underlying66 hi hz0 hz1 hz2 rfl (by decide) _ _ _ rfl (hown.alloc _) ⟨wr.heap.size, 0, none⟩ 1 1 [.int .u8 ((s[i]'hlt).toNat : Int)] rfl rfl ?c1 ?c2 (by omega) ?c3 ?c4 ?c5 (wr.heap.size + 1) (by simp) ?_)
        case c1 => exact World.news_of_block (heap_alloc_new wr _)
        case c2 => intro u hu; simp at hu; rcases hu with rfl; rfl
        case c3 => unfold maxLen; omega
        case c4 => omega
        case c5 => simp; omega
        intro g3 cap w5 hown' hgrow hat hlt5
        have HT5 := mkHid (BO.append hH.out hgrow hown')
        clear hown' hgrow hown hat
        go_wp2_with fail
        go_roundw
        case rel => exact ⟨b ++ [s[i]'hlt], i + 1, by simp, by omega, by omega, by simp; omega, HN.out, HT5.out⟩
        case measure => simp [intOf]; omega
    · have hie : i = s.size := by omega
      have HN : Hid (txt ((lst s).drop (a + 1)) = none) := by
        unfold Hid
        rw [HX.out, List.drop_eq_nil_of_le (by rw [lst_len]; omega)]
        rfl
      subst hie
      go_wp2_with fail
      go_wp2_with fail
      go_ret3
      exact ⟨by rw [HN.out]; rfl, hH.out.bl⟩
end Go.Proofs.YtimlomobbnnehaaDoor
