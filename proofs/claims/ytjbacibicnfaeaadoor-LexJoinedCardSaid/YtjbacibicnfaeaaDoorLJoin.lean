import Derived.Test.YtjbacibicnfaeaaDoorLLaw
namespace Go.Proofs.YtjbacibicnfaeaaDoor
open Go.RowKit Go.Maps
set_option linter.unusedVariables false
set_option linter.unusedSimpArgs false
set_option maxHeartbeats 8000000 in
set_option maxRecDepth 1000000 in
theorem joined_any (one two : ByteArray) (w : World) (hT : Tab w) (h1 : one.size ≤ 140737488355328) (h2 : two.size ≤ 140737488355328) :
    Calls Tryd.prog 5 #[.string one, .string two] w fun e w' => e = .returned (.bool true) ∧ Bl w w' := by
  obtain ⟨ta, ca, aa, hla, hza⟩ := LexR.total (lst one)
  obtain ⟨tb, cb, ab, hlb, hzb⟩ := LexR.total (lst two)
  have HK := mkHid (fun W hW => known_ok W hW)
  have HA := mkHid (fun W hW => tokens_v hla h1 W hW)
  have HB := mkHid (fun W hW => tokens_v hlb h2 W hW)
  by_cases ca0 : ca = 0
  · by_cases cb0 : cb = 0
    · subst ca0 cb0
      obtain ⟨rfl, hl4, us, hua, rfl⟩ := hla.good
      obtain ⟨rfl, hm4, vs, hvb, rfl⟩ := hlb.good
      rw [lst_len] at hl4 hm4
      by_cases hbig : 4096 < one.size + 1 + two.size
      · have hbi : (4096 : Int) < (one.size : Int) + 1 + two.size := by omega
        have hal : (us ++ [(stopT, (lst one).length)]).length = us.length + 1 := by simp
        rw [hal] at HA
        have hul := hua.places.2.1
        rw [lst_len] at hul
        clear hza hzb hla hlb hua hvb hal
        go_enter Tryd.func5, Tryd.ntmps5
        go_wp2_with (first
          | (go_at_call 9; refine (HK.out _ hT).mono ?_; rintro e w1 ⟨rfl, b1⟩)
          | (go_at_call 10; have hh := M1; refine (HB.out _ (hT.mono ((b1.trans b2).trans (Bl.alloc _ _)))).mono ?_; rintro e w3 ⟨pb, kb, rfl, rb, qb, nb, mb, b3⟩
             have hF := mkHid (blk_in b3)
             have c0 : w3.cell? ⟨w2.heap.size, 0, none⟩ = some (.int .i64 0) := by rw [cell_in hF.out]; rfl
             have hlt := lt_of_heap hF.out
             have B3 := mkHid (((b1.trans b2).trans (Bl.alloc _ _)).trans b3))
          | (go_at_call 10; (fail_if_success (have hh := M1)); refine (HA.out _ (hT.mono b1)).mono ?_; rintro e w2 ⟨pa, ka, rfl, ra, qa, na, ma, b2⟩; have M1 := trivial))
        go_ret
        exact ⟨rfl, B3.out.trans (Bl.alloc _ _)⟩
      · have hbi : ¬ (4096 : Int) < (one.size : Int) + 1 + two.size := by omega
        have hj := LexR.joined hua hvb
        have hcl : lst (one ++ ⟨#[32]⟩ ++ two) = lst one ++ 32 :: lst two := by
          rw [append_lst, append_lst, List.append_assoc]
          rfl
        have hsz : (one ++ ⟨#[32]⟩ ++ two).size = one.size + 1 + two.size := by
          rw [← lst_len, hcl, List.length_append, List.length_cons, lst_len, lst_len]; omega
        rw [← hcl] at hj
        have hlc := LexR.mk (by rw [lst_len]; omega) hj
        have HC := mkHid (fun W hW => tokens_v hlc (by omega) W hW)
        obtain ⟨tl, htl⟩ : ∃ tl, tl = us ++ Lx.sh ((lst one).length + 1) vs ++ [(stopT, (lst (one ++ ⟨#[32]⟩ ++ two)).length)] := ⟨_, rfl⟩
        obtain ⟨ta, hta⟩ : ∃ ta, ta = us ++ [(stopT, (lst one).length)] := ⟨_, rfl⟩
        obtain ⟨tb, htb⟩ : ∃ tb, tb = vs ++ [(stopT, (lst two).length)] := ⟨_, rfl⟩
        rw [← htl] at HC
        rw [← hta] at HA
        rw [← htb] at HB
        have ela : ta.length = us.length + 1 := by rw [hta]; simp
        have elb : tb.length = vs.length + 1 := by rw [htb]; simp
        have ell : tl.length = us.length + (vs.length + 1) := by rw [htl]; simp [Lx.sh]
        have hul := hua.places.2.1
        have hvl := hvb.places.2.1
        rw [lst_len] at hul hvl
        have etl : tl = us ++ (tb.map fun x => (x.1, x.2 + (one.size + 1))) := by
          rw [htl, htb, List.map_append, List.append_assoc, lst_len, lst_len, lst_len, hsz]
          unfold Lx.sh
          congr 2
          simp
          omega
        have G1 : Hid (AgreeT true ((tl.drop 0).take us.length) ((ta.drop 0).take us.length)) := by
          unfold Hid
          rw [List.drop_zero, List.drop_zero, etl, hta, List.take_left, List.take_left]
          exact ⟨rfl, fun j hj => ⟨rfl, fun _ => rfl⟩⟩
        have G2 : Hid (AgreeT false ((tl.drop us.length).take (vs.length + 1)) tb) := by
          unfold Hid
          rw [etl, List.drop_left, List.take_of_length_le (by rw [List.length_map]; omega)]
          refine ⟨by simp, fun j hj => ⟨?_, fun h => by cases h⟩⟩
          rw [List.length_map] at hj
          rw [List.getD_eq_getElem?_getD, List.getD_eq_getElem?_getD, List.getElem?_map, List.getElem?_eq_getElem hj]
          rfl
        have G3 : Hid (∀ j, j < tb.length → (tl.getD (us.length + j) noT).2 = (tb.getD j noT).2 + (one.size + 1)) := by
          intro j hj
          rw [etl, List.getD_eq_getElem?_getD, List.getD_eq_getElem?_getD, List.getElem?_append_right (by omega), show us.length + j - us.length = j by omega, List.getElem?_map, List.getElem?_eq_getElem hj]
          rfl
        have G4 : Hid (∀ j, j < tb.length → (tb.getD j noT).2 ≤ two.size) := by
          intro j hj
          have hpl := hvb.places.1
          rw [Nat.zero_add, lst_len] at hpl
          rw [htb] at hj ⊢
          rw [List.getD_eq_getElem?_getD]
          by_cases hjv : j < vs.length
          · rw [List.getElem?_append_left hjv, List.getElem?_eq_getElem hjv]
            exact Nat.le_of_lt (hpl _ (List.getElem_mem hjv)).2
          · have : j = vs.length := by simp at hj; omega
            subst this
            simp [lst_len]
        clear hza hzb hla hlb hua hvb hj hlc htl hta htb etl hcl
        rw [ela] at HA
        rw [elb] at HB
        rw [ell] at HC
        generalize us.length = n at *
        generalize vs.length = m at *
        have hnm : n + m ≤ 8192 := by omega
        have hn0 : ((n : Int) + 1 == 0) = false := by rw [beq_eq_false_iff_ne]; omega
        go_enter Tryd.func5, Tryd.ntmps5
        go_wp2_with (first
          | (go_at_call 10; have hh := M2; refine (HC.out _ (hT.mono (B3.out.trans (Bl.alloc _ _)))).mono ?_; rintro e w4 ⟨pc, kc, rfl, rc, qc, nc, mc, b4⟩)
          | (go_at_call 9; refine (HK.out _ hT).mono ?_; rintro e w1 ⟨rfl, b1⟩)
          | (go_at_call 10; have hh := M1; (fail_if_success (have hh := M2)); refine (HB.out _ (hT.mono ((b1.trans b2).trans (Bl.alloc _ _)))).mono ?_; rintro e w3 ⟨pb, kb, rfl, rb, qb, nb, mb, b3⟩
             have hF := mkHid (blk_in b3)
             have c0 : w3.cell? ⟨w2.heap.size, 0, none⟩ = some (.int .i64 0) := by rw [cell_in hF.out]; rfl
             have hlt := lt_of_heap hF.out
             have B3 := mkHid (((b1.trans b2).trans (Bl.alloc _ _)).trans b3); have M2 := trivial)
          | (go_at_call 10; (fail_if_success (have hh := M1)); refine (HA.out _ (hT.mono b1)).mono ?_; rintro e w2 ⟨pa, ka, rfl, ra, qa, na, ma, b2⟩; have M1 := trivial))
        obtain ⟨gc, rfl⟩ := qc (by omega)
        obtain ⟨ga, rfl⟩ := qa (by omega)
        obtain ⟨gb, rfl⟩ := qb (by omega)
        have B4 := mkHid ((B3.out.trans (Bl.alloc _ _)).trans b4)
        obtain ⟨W5, hW5⟩ : ∃ W5, W5 = w4.alloc (.cells #[.int .i64 0, .int .i64 0] 26) := ⟨_, rfl⟩
        have b5 : Bl w4 W5 := by rw [hW5]; exact Bl.alloc _ _
        have x0 : W5.cell? ⟨w4.heap.size, 0, none⟩ = some (.int .i64 0) := by rw [hW5, cell_in (heap_alloc_new w4 _)]; rfl
        rw [← hW5]
        have b45 := mkHid ((Bl.alloc w3 _).trans (b4.trans b5))
        have rA := mkHid ((ra.keep ((Bl.alloc w2 _).trans b3)).keep b45.out)
        have rB := mkHid (rb.keep b45.out)
        have rC := mkHid (rc.keep b5)
        have B5 := mkHid (B4.out.trans b5)
        have hmx : kc ≤ 9223372036854775807 := mc
        have hmy : ka ≤ 9223372036854775807 := ma
        clear hW5 b5 ra rb rc c0 qa qb qc B4 b45 HA HB HC HK b4 b3 b2 b1
        have R1 : Hid (∀ k, RdT (W5.drewN k) (.slice (some ⟨gc, 0, none⟩) n kc) ((tl.drop 0).take n)) := mkHid fun k => by
          have := RdT.part (p := none) (i := 0) (k := n) (c' := kc) (rC.out.keep (Bl.drewN _ k)) (by omega)
          simpa using this
        have R2 : Hid (∀ k, RdT (W5.drewN k) (.slice (some ⟨ga, 0, none⟩) n ka) ((ta.drop 0).take n)) := mkHid fun k => by
          have := RdT.part (p := none) (i := 0) (k := n) (c' := ka) (rA.out.keep (Bl.drewN _ k)) (by omega)
          simpa using this
        have hw1 : IntKind.i64.wrap ((n : Int) + ((m : Int) + 1)) = (n : Int) + ((m : Int) + 1) := wrap_id _ (by omega) (by omega)
        have hk1 : (n : Int) ≤ kc := by omega
        have hk2 : (n : Int) ≤ ka := by omega
        have hk3 : (n : Int) + ((m : Int) + 1) ≤ kc := by omega
        have HS1 : Hid (∀ k, Calls Tryd.prog 11 #[.slice (some ⟨gc, 0, none⟩) n kc, .slice (some ⟨ga, 0, none⟩) n ka, .bool true] (W5.drewN k) fun e w' => e = .returned (.bool true) ∧ ∃ z, w' = W5.drewN z) := mkHid fun k => by
          refine (same_q _ _ _ _ true _ (R1.out k) (R2.out k) G1.out (by simp; omega)).mono ?_
          rintro e w' ⟨rfl, kk, rfl⟩
          exact ⟨rfl, k + kk, by simp [World.drewN, Nat.add_assoc]⟩
        have HS2 : Hid (∀ k, Calls Tryd.prog 11 #[.slice (some ⟨gc, n * 4, none⟩) (m + 1) (kc - n), .slice (some ⟨gb, 0, none⟩) (m + 1) kb, .bool false] (W5.drewN k) fun e w' => e = .returned (.bool true) ∧ ∃ z, w' = W5.drewN z) := mkHid fun k => by
          have r1 := RdT.part (p := none) (i := n) (k := m + 1) (c' := kc - n) (rC.out.keep (Bl.drewN _ k)) (by omega)
          rw [Nat.zero_add] at r1
          refine (same_q _ _ _ _ false _ r1 (rB.out.keep (Bl.drewN _ k)) G2.out (by simp; omega)).mono ?_
          rintro e w' ⟨rfl, kk, rfl⟩
          exact ⟨rfl, k + kk, by simp [World.drewN, Nat.add_assoc]⟩
        have HS : Hid (∀ k x y z, (x = .slice (some ⟨gc, 0, none⟩) n kc ∧ y = .slice (some ⟨ga, 0, none⟩) n ka ∧ z = .bool true) ∨ (x = .slice (some ⟨gc, n * 4, none⟩) (m + 1) (kc - n) ∧ y = .slice (some ⟨gb, 0, none⟩) (m + 1) kb ∧ z = .bool false) → Calls Tryd.prog 11 #[x, y, z] (W5.drewN k) fun e w' => e = .returned (.bool true) ∧ ∃ z, w' = W5.drewN z) := mkHid fun k x y z h => by
          rcases h with ⟨rfl, rfl, rfl⟩ | ⟨rfl, rfl, rfl⟩
          · exact HS1.out k
          · exact HS2.out k
        go_quiet ((go_at_call 11; exact HS.out _ _ _ _ (by first | exact Or.inl ⟨rfl, rfl, rfl⟩ | exact Or.inr ⟨rfl, rfl, rfl⟩)))
        clear HS HS1 HS2 R1 R2 G1 G2
        go_wp2_with fail
        go_loopw [13] (fun q wr => ∃ k : Nat, k ≤ m + 1 ∧ q = .int .i64 k ∧ Hid (Bl W5 wr)) (fun q _ => m + 1 - (intOf q).toNat)
        case atStart => exact ⟨0, Nat.zero_le _, rfl, Bl.drewN _ _⟩
        case round =>
          obtain ⟨k, hk, rfl, hbl⟩ := hrel
          by_cases hkm : k < m + 1
          · have hki : (k : Int) < (m : Int) + 1 := by omega
            have y1 := ((rC.out.keep hbl.out).cells (n + k) (by omega)).2.2.2
            have y2 := ((rB.out.keep hbl.out).cells k (by omega)).2.2.2
            rw [G3.out k (by omega)] at y1
            have hp := G4.out k (by omega)
            generalize (tb.getD k noT).2 = P at *
            have v1 : IntKind.i64.wrap ((n : Int) + (k : Int)) = (n : Int) + (k : Int) := wrap_id _ (by omega) (by omega)
            have v2 : IntKind.i64.wrap ((P : Int) + (one.size : Int)) = (P : Int) + (one.size : Int) := wrap_id _ (by omega) (by omega)
            have v3 : IntKind.i64.wrap ((P : Int) + (one.size : Int) + 1) = (P : Int) + (one.size : Int) + 1 := wrap_id _ (by omega) (by omega)
            have hnk : (n : Int) + (k : Int) < (n : Int) + ((m : Int) + 1) := by omega
            have v4 : (((P : Int) + ((one.size : Int) + 1)) != (P : Int) + (one.size : Int) + 1) = false := by rw [bne_eq_false_iff_eq]; omega
            go_wp2_with fail
            go_quiet (fail)
            go_wp2_with fail
            go_roundw
            case rel => exact ⟨k + 1, by omega, by simp, hbl.out.trans (Bl.drewN _ _)⟩
            case measure => simp [intOf]; omega
          · have hke : k = m + 1 := by omega
            subst hke
            go_wp2_with fail
            go_wp2_with fail
            go_ret
            exact ⟨rfl, B5.out.trans hbl.out⟩
    · obtain ⟨rfl, hcb⟩ : tb = [] ∧ cb ≠ 0 := by rcases hzb with h | h; exact absurd h cb0; exact h
      subst ca0
      have cbi : ¬ (cb : Int) = 0 := by omega
      clear hza hzb hla hlb
      go_enter Tryd.func5, Tryd.ntmps5
      go_wp2_with (first
        | (go_at_call 9; refine (HK.out _ hT).mono ?_; rintro e w1 ⟨rfl, b1⟩)
        | (go_at_call 10; have hh := M1; refine (HB.out _ (hT.mono ((b1.trans b2).trans (Bl.alloc _ _)))).mono ?_; rintro e w3 ⟨pb, kb, rfl, rb, qb, nb, mb, b3⟩
           have hF := mkHid (blk_in b3)
           have c0 : w3.cell? ⟨w2.heap.size, 0, none⟩ = some (.int .i64 0) := by rw [cell_in hF.out]; rfl
           have hlt := lt_of_heap hF.out
           have B3 := mkHid (((b1.trans b2).trans (Bl.alloc _ _)).trans b3))
        | (go_at_call 10; (fail_if_success (have hh := M1)); refine (HA.out _ (hT.mono b1)).mono ?_; rintro e w2 ⟨pa, ka, rfl, ra, qa, na, ma, b2⟩; have M1 := trivial))
      go_ret
      exact ⟨rfl, B3.out.trans (Bl.alloc _ _)⟩
  · obtain ⟨rfl, hca⟩ : ta = [] ∧ ca ≠ 0 := by rcases hza with h | h; exact absurd h ca0; exact h
    have cai : ¬ (ca : Int) = 0 := by omega
    clear hza hzb hla hlb
    go_enter Tryd.func5, Tryd.ntmps5
    go_wp2_with (first
      | (go_at_call 9; refine (HK.out _ hT).mono ?_; rintro e w1 ⟨rfl, b1⟩)
      | (go_at_call 10; have hh := M1; refine (HB.out _ (hT.mono ((b1.trans b2).trans (Bl.alloc _ _)))).mono ?_; rintro e w3 ⟨pb, kb, rfl, rb, qb, nb, mb, b3⟩
         have hF := mkHid (blk_in b3)
         have c0 : w3.cell? ⟨w2.heap.size, 0, none⟩ = some (.int .i64 ca) := by rw [cell_in hF.out]; rfl
         have hlt := lt_of_heap hF.out
         have B3 := mkHid (((b1.trans b2).trans (Bl.alloc _ _)).trans b3))
      | (go_at_call 10; (fail_if_success (have hh := M1)); refine (HA.out _ (hT.mono b1)).mono ?_; rintro e w2 ⟨pa, ka, rfl, ra, qa, na, ma, b2⟩; have M1 := trivial))
    go_ret
    exact ⟨rfl, B3.out.trans (Bl.alloc _ _)⟩
end Go.Proofs.YtjbacibicnfaeaaDoor
