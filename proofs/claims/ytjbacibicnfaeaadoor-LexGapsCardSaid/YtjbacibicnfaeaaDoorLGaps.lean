import Derived.Test.YtjbacibicnfaeaaDoorLCmt
import Derived.Test.YtjbacibicnfaeaaDoorLPieces
import Derived.Deep.DeepCutAuto
namespace Go.Proofs.YtjbacibicnfaeaaDoor
open Go.RowKit Go.Maps
set_option linter.unusedVariables false
set_option linter.unusedSimpArgs false
theorem rem_place (z : Int) (n : Nat) (hn : n ≤ 4096) : ∃ r : Int, IntKind.i64.wrap (z.tmod ((n : Int) + 1)) = r ∧ z.tmod ((n : Int) + 1) = r ∧ ((r < 0 ∧ ∃ k : Nat, IntKind.i64.wrap (r + ((n : Int) + 1)) = k ∧ r + ((n : Int) + 1) = k ∧ k ≤ n) ∨ ∃ k : Nat, r = k ∧ k ≤ n) := by
  have h1 := Int.tmod_lt_of_pos z (show (0 : Int) < (n : Int) + 1 by omega)
  have h2 : -((n : Int) + 1) < z.tmod ((n : Int) + 1) := by
    have := Int.tmod_lt_of_pos (-z) (show (0 : Int) < (n : Int) + 1 by omega)
    rw [Int.neg_tmod] at this
    omega
  refine ⟨z.tmod ((n : Int) + 1), wrap_id _ (by omega) (by omega), rfl, ?_⟩
  by_cases h0 : z.tmod ((n : Int) + 1) < 0
  · exact Or.inl ⟨h0, (z.tmod ((n : Int) + 1) + ((n : Int) + 1)).toNat, by rw [wrap_id _ (by omega) (by omega)]; omega, by omega, by omega⟩
  · exact Or.inr ⟨(z.tmod ((n : Int) + 1)).toNat, by omega, by omega⟩
set_option maxHeartbeats 8000000 in
set_option maxRecDepth 1000000 in
theorem gaps_any (s : ByteArray) (z : Int) (ws : ByteArray) (bk : Bool) (w : World) (hT : Tab w) (h1 : s.size ≤ 140737488355328) (h2 : ws.size ≤ 140737488355328) :
    Calls Tryd.prog 6 #[.string s, .int .i64 z, .string ws, .bool bk] w fun e w' => e = .returned (.bool true) ∧ Bl w w' := by
  obtain ⟨ta, ca, aa, hla, hza⟩ := LexR.total (lst s)
  have HK := mkHid (fun W hW => known_ok W hW)
  have HA := mkHid (fun W hW => tokens_v hla h1 W hW)
  have HM := mkHid (fun W => comment_ok ws bk W h2)
  by_cases ca0 : ca = 0
  · subst ca0
    obtain ⟨rfl, hl4, us, hua, rfl⟩ := hla.good
    have ela : (us ++ [(stopT, (lst s).length)]).length = us.length + 1 := by simp
    rw [ela] at HA
    have hul := hua.places.2.1
    rw [lst_len] at hul hl4
    have HU := mkHid hua
    obtain ⟨ta, hta'⟩ : ∃ ta, ta = us ++ [(stopT, (lst s).length)] := ⟨_, rfl⟩
    rw [← hta'] at HA
    have elt : ta.length = us.length + 1 := by rw [hta']; simp
    have hta := mkHid hta'
    clear hta' hza hla hua ela
    obtain ⟨n, hn'⟩ : ∃ n, us.length = n := ⟨_, rfl⟩
    rw [hn'] at HA hul elt
    have hn := mkHid hn'
    clear hn'
    obtain ⟨r, hr1, hr2, hr3⟩ := rem_place z n (by omega)
    have hn0 : ((n : Int) + 1 == 0) = false := by rw [beq_eq_false_iff_ne]; omega
    rcases hr3 with ⟨hneg, k, hk1, hk2, hkn⟩ | ⟨k, hk1, hkn⟩
    · have hrl : r < 0 := hneg
      have hkl : (k : Int) < (n : Int) + 1 := by omega
      obtain ⟨p, hp'⟩ : ∃ p, p = (ta.getD k noT).2 := ⟨_, rfl⟩
      have hpl : p ≤ s.size := by
        have := (HU.out.gapped (Or.inl rfl : Gap [32, 9, 10, 13, 32]) (k := k) (by rw [hn.out]; exact hkn)).1
        rw [← hta.out, ← hp', lst_len] at this
        exact this
      have hp := mkHid hp'
      clear hp'
      have hpi : ¬ (s.size : Int) < p := by omega
      have hpz : ¬ (p : Int) < 0 := by omega
      go_enter Tryd.func6, Tryd.ntmps6
      go_wp2_with (first
        | (go_at_call 9; refine (HK.out _ hT).mono ?_; rintro e w1 ⟨rfl, b1⟩)
        | (go_at_call 10; refine (HA.out _ (hT.mono b1)).mono ?_; rintro e w2 ⟨pa, ka, rfl, ra, qa, na, ma, b2⟩
           obtain ⟨g, rfl⟩ := qa (by omega)
           have hg := ra.lt (by omega)
           have hkm : ka ≤ 9223372036854775807 := ma
           have x1 := (ra.cells k (by omega)).2.2.2
           rw [← hp.out] at x1)
        | (go_at_call 15; refine (HM.out _).mono ?_; rintro e w3 ⟨gg, rfl, hgap, hgs, b3⟩
           have HGap := mkHid hgap; clear hgap
           obtain ⟨d, hd'⟩ : ∃ d, gg.size = d := ⟨_, rfl⟩
           have hd1 : gg.size ≤ 140737488355400 := hgs
           rw [hd'] at hgs
           have hwd : IntKind.i64.wrap ((s.size : Int) + (gg.size : Int)) = (s.size : Int) + (d : Int) := by rw [hd']; exact wrap_id _ (by omega) (by omega)
           have HD := mkHid hd'; clear hd'))

      · go_ret
        exact ⟨rfl, ((b1.trans b2).trans (Bl.alloc _ _)).trans b3⟩
      · have hsm' : (s.size : Int) + d ≤ 4096 := by assumption
        have hsm : s.size + d ≤ 4096 := by omega
        have B3 : Hid (Bl w w3) := ((b1.trans b2).trans (Bl.alloc _ _)).trans b3
        have rA : Hid (RdT w3 (.slice (some ⟨g, 0, none⟩) (n + 1) ka) ta) := ra.keep ((Bl.alloc _ _).trans b3)
        have HP : Hid (∀ j, j ≤ n → (ta.getD j noT).2 ≤ s.size) := mkHid fun j hj => by
          have := (HU.out.gapped (Or.inl rfl : Gap [32, 9, 10, 13, 32]) (k := j) (by rw [hn.out]; exact hj)).1
          rw [← hta.out, lst_len] at this
          exact this
        obtain ⟨_, vs, hvs, hvl, hvj⟩ := HU.out.gapped HGap.out (k := k) (by rw [hn.out]; exact hkn)
        rw [← hta.out, ← hp.out] at hvs
        rw [← hta.out] at hvj
        rw [hn.out] at hvl hvj
        rw [lst_len, lst_len, HD.out] at hvj
        have e1 : lst (s.extract 0 p ++ gg ++ s.extract p s.size) = (lst s).take p ++ (lst gg ++ (lst s).drop p) := by
          rw [append_lst, append_lst, lst_mid, lst_from, List.append_assoc]
          rfl
        have e2 : (s.extract 0 p ++ gg ++ s.extract p s.size).size = s.size + d := by
          rw [← lst_len, e1, List.length_append, List.length_append, List.length_take, List.length_drop, lst_len, lst_len, HD.out]
          omega
        rw [← e1] at hvs
        have hlr := LexR.mk (by rw [lst_len, e2]; omega) hvs
        rw [lst_len, e2] at hlr
        obtain ⟨tm, htm'⟩ : ∃ tm, tm = vs ++ [(stopT, s.size + d)] := ⟨_, rfl⟩
        have elm : tm.length = n + 1 := by rw [htm']; simp [hvl]
        rw [← htm'] at hlr hvj
        have HV := mkHid hvj
        have hxs : (s.extract p s.size).size = s.size - p := size_from s p
        have hxp : (s.extract 0 p).size = p := by rw [← lst_len, lst_mid, List.length_take, List.length_drop, lst_len]; omega
        have hxm : (s.extract 0 p ++ gg).size = p + d := by rw [ByteArray.size_append, hxp, HD.out]
        have HC : Hid (∀ V, Bl w3 V → Calls Tryd.prog 10 #[.string (s.extract 0 p ++ gg ++ s.extract p s.size)] V fun e w' => ∃ g cap, e = .returned (.tuple #[.slice (some ⟨g, 0, none⟩) (n + 1) cap, .agg #[.int .i64 0, .int .i64 0]]) ∧ RdT w' (.slice (some ⟨g, 0, none⟩) (n + 1) cap) tm ∧ V.heap.size ≤ g ∧ n + 1 ≤ cap ∧ cap ≤ maxLen ∧ Bl V w') := mkHid fun V hV => by
          have := tokens_w hlr (by rw [e2]; omega) (by omega) V (hT.mono (B3.out.trans hV))
          rw [elm] at this
          exact this
        have hs1 : ∀ W, (Instr.slice 9 (.string s) none (some (.int .i64 (p : Int))) none).run Tryd.prog W = .ok (.string (s.extract 0 p)) W := fun W => by
          rw [run_slice_string_to_if W 9 s .i64 (p : Int) Tryd.underlying9, if_pos ⟨by omega, by omega⟩]
          rfl
        have hs2 : ∀ W, (Instr.slice 9 (.string s) (some (.int .i64 (p : Int))) none none).run Tryd.prog W = .ok (.string (s.extract p s.size)) W := fun W => by
          rw [run_slice_string_from_if W 9 s .i64 (p : Int) Tryd.underlying9, if_pos ⟨by omega, by omega⟩]
          rfl
        have d1 : decide ((p : Int) < 0) = false := decide_eq_false (by omega)
        have d3 : decide ((s.size : Int) < (p : Int)) = false := decide_eq_false (by omega)
        have d5 : decide (s.size < p) = false := decide_eq_false (by omega)
        have hq1 : (s.extract 0 p).size + gg.size ≤ 9223372036854775807 := by omega
        have hq2 : (s.extract 0 p ++ gg).size + (s.extract p s.size).size ≤ 9223372036854775807 := by omega
        clear hlr e1 hvs hvj htm' x1 ra qa HA HK HM b3 hxs hxp hxm e2
        go_cut [15, 16] (fun v f V => ∃ g2 cap B, v = .slice (some ⟨g2, 0, none⟩) (n + 1) cap ∧ f = .pointer (some ⟨B, 0, none⟩) ∧ Hid (V.heap[B]? = some (.cells #[.int .i64 0, .int .i64 0] 26 (0, 0)) ∧ RdT V (.slice (some ⟨g2, 0, none⟩) (n + 1) cap) tm ∧ n + 1 ≤ cap ∧ cap ≤ maxLen ∧ Bl w3 V))
        case first =>
          go_region_with (first
            | (go_at_call 10; refine (HC.out _ ((Bl.alloc w3 _).trans (Bl.drew _))).mono ?_; rintro e w5 ⟨g5, k5, rfl, r5, q5, n5, m5, b5⟩; have hz := zz_in b5
               have c0 : w5.cell? ⟨w3.heap.size, 0, none⟩ = some (.int .i64 0) := by rw [cell_in hz]; rfl
               have c1 : w5.cell? ⟨w3.heap.size, 1, none⟩ = some (.int .i64 0) := by rw [cell_in hz]; rfl
               have f0 := frozen_in hz 0
               have f1 := frozen_in hz 1)
            | (go_at_call 10; refine (HC.out _ (Bl.drew _)).mono ?_; rintro e w5 ⟨g5, k5, rfl, r5, q5, n5, m5, b5⟩))
          all_goals go_wp2_with fail
          all_goals
            go_meet
            case rel =>
              first
                | exact ⟨g5, k5, w3.heap.size, rfl, rfl, (by rw [set_in (set_in hz 0 _) 1 _]; rfl), (r5.set (by have h9 : (w3.heap.push (.cells #[.int .i64 0, .int .i64 0] 26)).size ≤ g5 := q5; simp at h9; omega)).set (by have h9 : (w3.heap.push (.cells #[.int .i64 0, .int .i64 0] 26)).size ≤ g5 := q5; simp at h9; omega), n5, m5, set_bl (set_bl (((Bl.alloc w3 _).trans (Bl.drew _)).trans b5) (Nat.le_refl _) 0 _) (Nat.le_refl _) 1 _⟩
                | exact ⟨g5, k5, w5.heap.size, rfl, rfl, heap_alloc_new _ _, r5.keep (Bl.alloc _ _), n5, m5, ((Bl.drew _).trans b5).trans (Bl.alloc _ _)⟩
        case rest =>
          obtain ⟨g2, cap, B, rfl, rfl, hq⟩ := hcut
          obtain ⟨V, hV⟩ : ∃ V, V = wc := ⟨_, rfl⟩
          subst hV
          obtain ⟨q1, q2, q3, q4, q5⟩ := hq.out
          have x0 : V.cell? ⟨B, 0, none⟩ = some (.int .i64 0) := by rw [cell_in q1]; rfl
          have rV := mkHid (rA.out.keep q5)
          have rM := mkHid q2
          have hcm : cap ≤ 9223372036854775807 := q4
          have BV := mkHid (B3.out.trans q5)
          have HS := mkHid (same_ok _ _ tm ta false V rM.out rV.out ⟨by omega, fun j hj => ⟨(HV.out j (by omega)).1.symm, fun h => by cases h⟩⟩ (by omega))
          clear q1 q2 q5 hq HC hs1 hs2
          go_wp2_with (go_at_call 11; refine HS.out.mono ?_; rintro e w5 ⟨rfl, b5⟩; have c5 := mkHid b5; clear b5)
          have r1 := mkHid (rV.out.keep c5.out)
          have r2 := mkHid (rM.out.keep c5.out)
          have B5 := mkHid (BV.out.trans c5.out)
          clear HS rV rM BV x0
          go_loopw [17] (fun q wr => ∃ i : Nat, i ≤ n + 1 ∧ q = .int .i64 i ∧ Hid (Bl w5 wr)) (fun q _ => n + 1 - (intOf q).toNat)
          case atStart => exact ⟨0, Nat.zero_le _, rfl, Bl.refl _⟩
          case round =>
            obtain ⟨i, hi, rfl, hbl⟩ := hrel
            by_cases hin : i < n + 1
            · have hii : (i : Int) < (n : Int) + 1 := by omega
              have r3 := mkHid (r1.out.keep hbl.out)
              have r4 := mkHid (r2.out.keep hbl.out)
              have y1 := (r3.out.cells i (by omega)).2.2.2
              have y2 := (r4.out.cells i (by omega)).2.2.2
              have hgl := r3.out.lt (by omega)
              have hgm := r4.out.lt (by omega)
              have ha := HP.out i (by omega)
              have hv := (HV.out i (by omega)).2
              generalize (ta.getD i noT).2 = a at *
              generalize (tm.getD i noT).2 = a2 at *
              by_cases hkk : k ≤ i
              · rw [if_pos hkk] at hv
                have hwa : IntKind.i64.wrap ((a : Int) + (gg.size : Int)) = (a2 : Int) := by rw [HD.out, hv, wrap_id _ (by omega) (by omega)]; omega
                have hv' := mkHid hv
                clear hv
                have hki2 : (k : Int) ≤ (i : Int) := by omega
                go_wp2_with fail
                go_roundw
                case rel => exact ⟨i + 1, by omega, by simp, hbl⟩
                case measure => simp [intOf]; omega
              · rw [if_neg hkk, Nat.add_zero] at hv
                subst hv
                have hki2 : ¬ (k : Int) ≤ (i : Int) := by omega
                go_wp2_with fail
                go_roundw
                case rel => exact ⟨i + 1, by omega, by simp, hbl⟩
                case measure => simp [intOf]; omega
            · have hie : i = n + 1 := by omega
              subst hie
              go_wp2_with fail
              go_ret
              exact ⟨rfl, B5.out.trans hbl.out⟩
    · subst hk1
      have hki : ¬ (k : Int) < 0 := by omega
      have hkl : (k : Int) < (n : Int) + 1 := by omega
      obtain ⟨p, hp'⟩ : ∃ p, p = (ta.getD k noT).2 := ⟨_, rfl⟩
      have hpl : p ≤ s.size := by
        have := (HU.out.gapped (Or.inl rfl : Gap [32, 9, 10, 13, 32]) (k := k) (by rw [hn.out]; exact hkn)).1
        rw [← hta.out, ← hp', lst_len] at this
        exact this
      have hp := mkHid hp'
      clear hp'
      have hpi : ¬ (s.size : Int) < p := by omega
      have hpz : ¬ (p : Int) < 0 := by omega
      go_enter Tryd.func6, Tryd.ntmps6
      go_wp2_with (first
        | (go_at_call 9; refine (HK.out _ hT).mono ?_; rintro e w1 ⟨rfl, b1⟩)
        | (go_at_call 10; refine (HA.out _ (hT.mono b1)).mono ?_; rintro e w2 ⟨pa, ka, rfl, ra, qa, na, ma, b2⟩
           obtain ⟨g, rfl⟩ := qa (by omega)
           have hg := ra.lt (by omega)
           have hkm : ka ≤ 9223372036854775807 := ma
           have x1 := (ra.cells k (by omega)).2.2.2
           rw [← hp.out] at x1)
        | (go_at_call 15; refine (HM.out _).mono ?_; rintro e w3 ⟨gg, rfl, hgap, hgs, b3⟩
           have HGap := mkHid hgap; clear hgap
           obtain ⟨d, hd'⟩ : ∃ d, gg.size = d := ⟨_, rfl⟩
           have hd1 : gg.size ≤ 140737488355400 := hgs
           rw [hd'] at hgs
           have hwd : IntKind.i64.wrap ((s.size : Int) + (gg.size : Int)) = (s.size : Int) + (d : Int) := by rw [hd']; exact wrap_id _ (by omega) (by omega)
           have HD := mkHid hd'; clear hd'))

      · go_ret
        exact ⟨rfl, ((b1.trans b2).trans (Bl.alloc _ _)).trans b3⟩
      · have hsm' : (s.size : Int) + d ≤ 4096 := by assumption
        have hsm : s.size + d ≤ 4096 := by omega
        have B3 : Hid (Bl w w3) := ((b1.trans b2).trans (Bl.alloc _ _)).trans b3
        have rA : Hid (RdT w3 (.slice (some ⟨g, 0, none⟩) (n + 1) ka) ta) := ra.keep ((Bl.alloc _ _).trans b3)
        have HP : Hid (∀ j, j ≤ n → (ta.getD j noT).2 ≤ s.size) := mkHid fun j hj => by
          have := (HU.out.gapped (Or.inl rfl : Gap [32, 9, 10, 13, 32]) (k := j) (by rw [hn.out]; exact hj)).1
          rw [← hta.out, lst_len] at this
          exact this
        obtain ⟨_, vs, hvs, hvl, hvj⟩ := HU.out.gapped HGap.out (k := k) (by rw [hn.out]; exact hkn)
        rw [← hta.out, ← hp.out] at hvs
        rw [← hta.out] at hvj
        rw [hn.out] at hvl hvj
        rw [lst_len, lst_len, HD.out] at hvj
        have e1 : lst (s.extract 0 p ++ gg ++ s.extract p s.size) = (lst s).take p ++ (lst gg ++ (lst s).drop p) := by
          rw [append_lst, append_lst, lst_mid, lst_from, List.append_assoc]
          rfl
        have e2 : (s.extract 0 p ++ gg ++ s.extract p s.size).size = s.size + d := by
          rw [← lst_len, e1, List.length_append, List.length_append, List.length_take, List.length_drop, lst_len, lst_len, HD.out]
          omega
        rw [← e1] at hvs
        have hlr := LexR.mk (by rw [lst_len, e2]; omega) hvs
        rw [lst_len, e2] at hlr
        obtain ⟨tm, htm'⟩ : ∃ tm, tm = vs ++ [(stopT, s.size + d)] := ⟨_, rfl⟩
        have elm : tm.length = n + 1 := by rw [htm']; simp [hvl]
        rw [← htm'] at hlr hvj
        have HV := mkHid hvj
        have hxs : (s.extract p s.size).size = s.size - p := size_from s p
        have hxp : (s.extract 0 p).size = p := by rw [← lst_len, lst_mid, List.length_take, List.length_drop, lst_len]; omega
        have hxm : (s.extract 0 p ++ gg).size = p + d := by rw [ByteArray.size_append, hxp, HD.out]
        have HC : Hid (∀ V, Bl w3 V → Calls Tryd.prog 10 #[.string (s.extract 0 p ++ gg ++ s.extract p s.size)] V fun e w' => ∃ g cap, e = .returned (.tuple #[.slice (some ⟨g, 0, none⟩) (n + 1) cap, .agg #[.int .i64 0, .int .i64 0]]) ∧ RdT w' (.slice (some ⟨g, 0, none⟩) (n + 1) cap) tm ∧ V.heap.size ≤ g ∧ n + 1 ≤ cap ∧ cap ≤ maxLen ∧ Bl V w') := mkHid fun V hV => by
          have := tokens_w hlr (by rw [e2]; omega) (by omega) V (hT.mono (B3.out.trans hV))
          rw [elm] at this
          exact this
        have hs1 : ∀ W, (Instr.slice 9 (.string s) none (some (.int .i64 (p : Int))) none).run Tryd.prog W = .ok (.string (s.extract 0 p)) W := fun W => by
          rw [run_slice_string_to_if W 9 s .i64 (p : Int) Tryd.underlying9, if_pos ⟨by omega, by omega⟩]
          rfl
        have hs2 : ∀ W, (Instr.slice 9 (.string s) (some (.int .i64 (p : Int))) none none).run Tryd.prog W = .ok (.string (s.extract p s.size)) W := fun W => by
          rw [run_slice_string_from_if W 9 s .i64 (p : Int) Tryd.underlying9, if_pos ⟨by omega, by omega⟩]
          rfl
        have d1 : decide ((p : Int) < 0) = false := decide_eq_false (by omega)
        have d3 : decide ((s.size : Int) < (p : Int)) = false := decide_eq_false (by omega)
        have d5 : decide (s.size < p) = false := decide_eq_false (by omega)
        have hq1 : (s.extract 0 p).size + gg.size ≤ 9223372036854775807 := by omega
        have hq2 : (s.extract 0 p ++ gg).size + (s.extract p s.size).size ≤ 9223372036854775807 := by omega
        clear hlr e1 hvs hvj htm' x1 ra qa HA HK HM b3 hxs hxp hxm e2
        go_cut [15, 16] (fun v f V => ∃ g2 cap B, v = .slice (some ⟨g2, 0, none⟩) (n + 1) cap ∧ f = .pointer (some ⟨B, 0, none⟩) ∧ Hid (V.heap[B]? = some (.cells #[.int .i64 0, .int .i64 0] 26 (0, 0)) ∧ RdT V (.slice (some ⟨g2, 0, none⟩) (n + 1) cap) tm ∧ n + 1 ≤ cap ∧ cap ≤ maxLen ∧ Bl w3 V))
        case first =>
          go_region_with (first
            | (go_at_call 10; refine (HC.out _ ((Bl.alloc w3 _).trans (Bl.drew _))).mono ?_; rintro e w5 ⟨g5, k5, rfl, r5, q5, n5, m5, b5⟩; have hz := zz_in b5
               have c0 : w5.cell? ⟨w3.heap.size, 0, none⟩ = some (.int .i64 0) := by rw [cell_in hz]; rfl
               have c1 : w5.cell? ⟨w3.heap.size, 1, none⟩ = some (.int .i64 0) := by rw [cell_in hz]; rfl
               have f0 := frozen_in hz 0
               have f1 := frozen_in hz 1)
            | (go_at_call 10; refine (HC.out _ (Bl.drew _)).mono ?_; rintro e w5 ⟨g5, k5, rfl, r5, q5, n5, m5, b5⟩))
          all_goals go_wp2_with fail
          all_goals
            go_meet
            case rel =>
              first
                | exact ⟨g5, k5, w3.heap.size, rfl, rfl, (by rw [set_in (set_in hz 0 _) 1 _]; rfl), (r5.set (by have h9 : (w3.heap.push (.cells #[.int .i64 0, .int .i64 0] 26)).size ≤ g5 := q5; simp at h9; omega)).set (by have h9 : (w3.heap.push (.cells #[.int .i64 0, .int .i64 0] 26)).size ≤ g5 := q5; simp at h9; omega), n5, m5, set_bl (set_bl (((Bl.alloc w3 _).trans (Bl.drew _)).trans b5) (Nat.le_refl _) 0 _) (Nat.le_refl _) 1 _⟩
                | exact ⟨g5, k5, w5.heap.size, rfl, rfl, heap_alloc_new _ _, r5.keep (Bl.alloc _ _), n5, m5, ((Bl.drew _).trans b5).trans (Bl.alloc _ _)⟩
        case rest =>
          obtain ⟨g2, cap, B, rfl, rfl, hq⟩ := hcut
          obtain ⟨V, hV⟩ : ∃ V, V = wc := ⟨_, rfl⟩
          subst hV
          obtain ⟨q1, q2, q3, q4, q5⟩ := hq.out
          have x0 : V.cell? ⟨B, 0, none⟩ = some (.int .i64 0) := by rw [cell_in q1]; rfl
          have rV := mkHid (rA.out.keep q5)
          have rM := mkHid q2
          have hcm : cap ≤ 9223372036854775807 := q4
          have BV := mkHid (B3.out.trans q5)
          have HS := mkHid (same_ok _ _ tm ta false V rM.out rV.out ⟨by omega, fun j hj => ⟨(HV.out j (by omega)).1.symm, fun h => by cases h⟩⟩ (by omega))
          clear q1 q2 q5 hq HC hs1 hs2
          go_wp2_with (go_at_call 11; refine HS.out.mono ?_; rintro e w5 ⟨rfl, b5⟩; have c5 := mkHid b5; clear b5)
          have r1 := mkHid (rV.out.keep c5.out)
          have r2 := mkHid (rM.out.keep c5.out)
          have B5 := mkHid (BV.out.trans c5.out)
          clear HS rV rM BV x0
          go_loopw [17] (fun q wr => ∃ i : Nat, i ≤ n + 1 ∧ q = .int .i64 i ∧ Hid (Bl w5 wr)) (fun q _ => n + 1 - (intOf q).toNat)
          case atStart => exact ⟨0, Nat.zero_le _, rfl, Bl.refl _⟩
          case round =>
            obtain ⟨i, hi, rfl, hbl⟩ := hrel
            by_cases hin : i < n + 1
            · have hii : (i : Int) < (n : Int) + 1 := by omega
              have r3 := mkHid (r1.out.keep hbl.out)
              have r4 := mkHid (r2.out.keep hbl.out)
              have y1 := (r3.out.cells i (by omega)).2.2.2
              have y2 := (r4.out.cells i (by omega)).2.2.2
              have hgl := r3.out.lt (by omega)
              have hgm := r4.out.lt (by omega)
              have ha := HP.out i (by omega)
              have hv := (HV.out i (by omega)).2
              generalize (ta.getD i noT).2 = a at *
              generalize (tm.getD i noT).2 = a2 at *
              by_cases hkk : k ≤ i
              · rw [if_pos hkk] at hv
                have hwa : IntKind.i64.wrap ((a : Int) + (gg.size : Int)) = (a2 : Int) := by rw [HD.out, hv, wrap_id _ (by omega) (by omega)]; omega
                have hv' := mkHid hv
                clear hv
                have hki2 : (k : Int) ≤ (i : Int) := by omega
                go_wp2_with fail
                go_roundw
                case rel => exact ⟨i + 1, by omega, by simp, hbl⟩
                case measure => simp [intOf]; omega
              · rw [if_neg hkk, Nat.add_zero] at hv
                subst hv
                have hki2 : ¬ (k : Int) ≤ (i : Int) := by omega
                go_wp2_with fail
                go_roundw
                case rel => exact ⟨i + 1, by omega, by simp, hbl⟩
                case measure => simp [intOf]; omega
            · have hie : i = n + 1 := by omega
              subst hie
              go_wp2_with fail
              go_ret
              exact ⟨rfl, B5.out.trans hbl.out⟩
  · obtain ⟨rfl, hca⟩ : ta = [] ∧ ca ≠ 0 := by rcases hza with h | h; exact absurd h ca0; exact h
    have cai : ¬ (ca : Int) = 0 := by omega
    have cab : ((ca : Int) != 0) = true := by rw [bne_iff_ne]; omega
    clear hza hla
    go_enter Tryd.func6, Tryd.ntmps6
    go_wp2_with (first
      | (go_at_call 9; refine (HK.out _ hT).mono ?_; rintro e w1 ⟨rfl, b1⟩)
      | (go_at_call 10; refine (HA.out _ (hT.mono b1)).mono ?_; rintro e w2 ⟨pa, ka, rfl, ra, qa, na, ma, b2⟩))
    go_ret
    exact ⟨rfl, (b1.trans b2).trans (Bl.alloc _ _)⟩
end Go.Proofs.YtjbacibicnfaeaaDoor
