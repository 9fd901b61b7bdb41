import Derived.Test.YtklfnjlenbgmoaaDoorAG18HPutAll
import Derived.Deep.RegionLaw
namespace Go.Proofs.YtklfnjlenbgmoaaDoor
open Go.RowKit
set_option linter.unusedVariables false
attribute [local go_sem ↓] Go.wp_at_zero Go.wp_at_succ
theorem info119 : (Tryd.prog.info? 119).map (fun i => (i.zero, i.size, i.bytes)) = some (some (.agg #[.bool false, .int .i64 0, .int .i64 0, .int .i64 0, .slice none 0 0]), 5, 56) := by kernel_rfl
set_option maxRecDepth 20000 in
set_option maxHeartbeats 4000000 in
theorem made_ok (q : Nat) (cl : Int) (n f : Nat) (m : Nat) (M : MS) (w : World) (h : MRep w m M) (ho : MOk M) (hf : f ≤ 1) (hn : (n : Int) ≤ 8192) (h2 : q ≤ M.things.length) :
    Calls Tryd.prog 106 #[.pointer (some ⟨m, 0, none⟩), .int .i64 ((q : Int) + 1), .int .i64 cl, .int .i64 n, .int .i64 f] w fun e w' => e = .returned (.tuple #[]) ∧ ∃ p c pt ct,
      MRep w' m { M with things := putTh M.things q ⟨true, cl, f, endTo M.things M.things.length, List.replicate n (newX f), p, c⟩, pt := pt, ct := ct } ∧ Fr (m :: blk M.pt) w w' ∧ (∀ g ∈ blk p, w.heap.size ≤ g) ∧ (∀ g ∈ blk pt, g ∈ blk M.pt ∨ w.heap.size ≤ g) := by
  have hml := h.lt m (by simp [mfoot])
  have hlen := ho.len
  have HEnd := mkHid (end_ok m M w h ho)
  have HM := mkHid h
  obtain ⟨j0, ji, jz0, jz1, jz2⟩ := info_parts info33
  clear h ho
  generalize endTo M.things M.things.length = E at *
  go_enter Tryd.func106, Tryd.ntmps106
  go_wp2_with fail
  refine Calls.mono HEnd.out ?_
  rintro e w1 ⟨rfl, hf1⟩
  have F1 := mkHid hf1
  have hs1 := hf1.size
  clear hf1 HEnd
  simp only [I]
  go_wp2_with fail
  have HW0 : Hid (Way w (w1.alloc (.cells #[.bool true, .int .i64 cl, .int .i64 f, .int .i64 E, .slice none 0 0] 119)) w1.heap.size cl f E 0) :=
    ⟨F1.out.trans (Fr.alloc [] _ _) (by simp), hs1, _, heap_alloc_new _ _, World.ownsRow_nil _ _ _ _⟩
  go_loopw [11] (fun q wr => ∃ k : Nat, k ≤ n ∧ q = .int .i64 k ∧ Hid (Way w wr w1.heap.size cl f E k)) (fun q _ => n - (intOf q).toNat)
  case atStart => exact ⟨0, Nat.zero_le _, rfl, HW0⟩
  case round =>
    obtain ⟨k, hkn, rfl, hw⟩ := hrel
    by_cases hlt : k < n
    · have k2 : (k : Int) < (n : Int) := by omega
      obtain ⟨v, hv, hown⟩ := hw.out.at_
      have hBl := lt_of_heap hv
      have d4 : wr.cell? ⟨w1.heap.size, 4, none⟩ = some v := by unfold thObj at hv; rw [cell_in hv]; rfl
      rcases (show f = 1 ∨ f = 0 from by omega) with hfe | hfe
      · have hfb : ((f : Int) == 1) = true := by rw [hfe]; rfl
        have HX : Hid (newX f = 0) := by rw [hfe]; rfl
        clear hfe
        have hown2 := hown.alloc (.cells #[.int .i64 0] 33)
        have HN := mkHid (fun w2 v' (hg : (wr.alloc (.cells #[.int .i64 0] 33)).grownBy w2 v.ownBlock) => hw.out.next (v' := v') hv hown hg)
        have hBo : ∀ b, v.ownBlock = some b → w1.heap.size + 1 ≤ b := fun b hb => (hown.lt b hb).1
        have HV := mkHid hv
        clear hown hv hw HW0
        go_wp2_with (first
          | (at_builtin; refine wpList_append_own _ rfl (.tmp 25) (.tmp 26) 80 rfl (w1.heap.size + 1) 33 j0 (.int .i64 0) 1 8 Tryd.underlying80 ji jz0 jz1 jz2 rfl (by decide) _ _ _ rfl hown2 ⟨wr.heap.size, 0, none⟩ 1 1 [.int .i64 0] rfl rfl ?c1 ?c2 ?c3 ?c4 ?c5 ?_)
          | go_in)
        case c1 => exact World.news_of_block (heap_alloc_new wr (.cells #[.int .i64 0] 33))
        case c2 => intro u hu; simp at hu; subst hu; rfl
        case c3 => unfold maxLen; omega
        case c4 => omega
        case c5 => simp; omega
        intro v' w2 hown' hgrow _
        have hB2 : w2.heap[w1.heap.size]? = some (thObj cl f E v) := by
          rw [hgrow.block _ (by simp; omega) (fun e => by have := hBo _ e.symm; omega), Below.heap_alloc _ _ _ hBl]
          exact HV.out
        unfold thObj at hB2
        have fz := frozen_in hB2 4
        have cz := cell_in hB2 4
        simp at cz
        have HNx := mkHid (HN.out w2 v' hgrow (by have hx := hown'; have e := HX.out; rw [e] at hx ⊢; simpa using hx))
        obtain ⟨gv, cv, hv', _, _⟩ := hown'.form (by omega)
        subst hv'
        clear hown' hgrow hown2 HN hB2 HV hBo
        go_wp2
        go_roundw
        case rel => exact ⟨k + 1, by omega, by go_num, HNx⟩
        case measure => simp [intOf]; omega
      · have hfb : ((f : Int) == 1) = false := by rw [hfe]; rfl
        have HX : Hid (newX f = 4) := by rw [hfe]; rfl
        clear hfe
        have hown2 := hown.alloc (.cells #[.int .i64 4] 33)
        have HN := mkHid (fun w2 v' (hg : (wr.alloc (.cells #[.int .i64 4] 33)).grownBy w2 v.ownBlock) => hw.out.next (v' := v') hv hown hg)
        have hBo : ∀ b, v.ownBlock = some b → w1.heap.size + 1 ≤ b := fun b hb => (hown.lt b hb).1
        have HV := mkHid hv
        clear hown hv hw HW0
        go_wp2_with (first
          | (at_builtin; refine wpList_append_own _ rfl (.tmp 30) (.tmp 31) 80 rfl (w1.heap.size + 1) 33 j0 (.int .i64 0) 1 8 Tryd.underlying80 ji jz0 jz1 jz2 rfl (by decide) _ _ _ rfl hown2 ⟨wr.heap.size, 0, none⟩ 1 1 [.int .i64 4] rfl rfl ?c1 ?c2 ?c3 ?c4 ?c5 ?_)
          | go_in)
        case c1 => exact World.news_of_block (heap_alloc_new wr (.cells #[.int .i64 4] 33))
        case c2 => intro u hu; simp at hu; subst hu; rfl
        case c3 => unfold maxLen; omega
        case c4 => omega
        case c5 => simp; omega
        intro v' w2 hown' hgrow _
        have hB2 : w2.heap[w1.heap.size]? = some (thObj cl f E v) := by
          rw [hgrow.block _ (by simp; omega) (fun e => by have := hBo _ e.symm; omega), Below.heap_alloc _ _ _ hBl]
          exact HV.out
        unfold thObj at hB2
        have fz := frozen_in hB2 4
        have cz := cell_in hB2 4
        simp at cz
        have HNx := mkHid (HN.out w2 v' hgrow (by have hx := hown'; have e := HX.out; rw [e] at hx ⊢; simpa using hx))
        obtain ⟨gv, cv, hv', _, _⟩ := hown'.form (by omega)
        subst hv'
        clear hown' hgrow hown2 HN hB2 HV hBo
        go_wp2
        go_roundw
        case rel => exact ⟨k + 1, by omega, by go_num, HNx⟩
        case measure => simp [intOf]; omega
    · have hke : k = n := by omega
      subst hke
      obtain ⟨v, hv, hown⟩ := hw.out.at_
      obtain ⟨p, c, hvs⟩ : ∃ p c, v = .slice p k c := by
        rcases hown.2 with ⟨h2, h3⟩ | ⟨g, cap, cur, h2, _⟩
        · exact ⟨none, 0, by rw [h2, h3]⟩
        · exact ⟨_, cap, h2⟩
      subst hvs
      have hBl := lt_of_heap hv
      have hmr := HM.out.keep hw.out.fr (by simp)
      have hmw := hmr.lt m (by simp [mfoot])
      have c3 := hmr.c3
      have hmB : m ≠ w1.heap.size := by omega
      unfold thObj at hv
      have b0 := cell_in hv 0
      have b1 := cell_in hv 1
      have b2 := cell_in hv 2
      have b3 := cell_in hv 3
      have b4 := cell_in hv 4
      simp at b0 b1 b2 b3 b4
      have HMr := mkHid hmr
      have HWy := mkHid hw.out
      have HOw := mkHid hown
      have HV := mkHid hv
      clear hmr hw hown hv HW0
      by_cases hq : q < M.things.length
      · obtain ⟨g, hg, hc, hfz, hgl⟩ := HMr.out.thAt (by omega)
        obtain ⟨y0, y1, y2, y3, y4⟩ := hc q hq
        rw [hg] at c3
        have hgm := (HMr.out.pt_ne hg).1
        have hgB : g ≠ w1.heap.size := by
          have := HM.out.lt g (by simp [mfoot, hg, blk])
          omega
        have k1 : (0 : Int) ≤ (q : Int) := by omega
        have k2 : (q : Int) < (M.things.length : Int) := by omega
        have k3 : (q : Int) + 1 ≤ (M.things.length : Int) := by omega
        have z0 := hfz (q * 5)
        have z1 := hfz (q * 5 + 1)
        have z2 := hfz (q * 5 + 2)
        have z3 := hfz (q * 5 + 3)
        have z4 := hfz (q * 5 + 4)
        have HG := mkHid hg
        have wq : IntKind.i64.wrap (q : Int) = (q : Int) := by rw [iwrap]; unfold wrap64; omega
        clear hc hfz hg
        go_wp2
        go_region_held3 (fun w' => w'.cell? ⟨m, 3, none⟩ = some (.slice (some ⟨g, 0, none⟩) M.things.length M.ct) ∧ w'.cell? ⟨w1.heap.size, 0, none⟩ = some (.bool true) ∧ w'.cell? ⟨w1.heap.size, 1, none⟩ = some (.int .i64 cl) ∧ w'.cell? ⟨w1.heap.size, 2, none⟩ = some (.int .i64 (f : Int)) ∧ w'.cell? ⟨w1.heap.size, 3, none⟩ = some (.int .i64 (E : Int)) ∧ w'.cell? ⟨w1.heap.size, 4, none⟩ = some (.slice p k c)) (go_keep) (fail)
        go_end0
        have hlow : ∀ b ∈ blk p, w.heap.size ≤ b := fun b hb => by
          have := (HOw.out.lt b ((blk_own _ _ _ _).2 hb)).1
          omega
        have hnw : wr.ownsRow 0 33 1 (.slice p k c) k ((List.replicate k (newX f)).map (Value.int .i64)) := ⟨HOw.out.1, by
          rcases HOw.out.2 with h2 | ⟨g2, cap, cur, e1, e2, e3⟩
          · exact .inl h2
          · exact .inr ⟨g2, cap, cur, e1, Nat.zero_le _, e3⟩⟩
        have hput := HMr.out.putAll HG.out q hq ⟨true, cl, f, E, List.replicate k (newX f), p, c⟩ (by simpa using hnw) (fun b hb hm => by
          have h1 := hlow b hb
          have h2 := HM.out.lt b (by simp [mfoot, hm])
          omega)
        refine ⟨rfl, p, c, M.pt, M.ct, ?_, ?_, hlow, fun b hb => .inl hb⟩
        · have e : putTh M.things q ⟨true, cl, f, E, List.replicate k (newX f), p, c⟩ = M.things.set q ⟨true, cl, f, E, List.replicate k (newX f), p, c⟩ := if_pos hq
          rw [e]
          have hp2 := hput.drew
          unfold setTh at hp2
          simpa using hp2
        · have hgp : g ∈ m :: blk M.pt := by rw [HG.out]; simp [blk]
          have hx := ((HWy.out.fr.mono (by simp)).trans (setTh_fr wr g q ⟨true, cl, f, E, List.replicate k (newX f), p, c⟩ (m :: blk M.pt) hgp) (fun b hb => .inl hb)).trans (Fr.drew (m :: blk M.pt) _) (fun b hb => .inl hb)
          unfold setTh at hx
          simpa using hx
      · have hqe : q = M.things.length := by omega
        subst hqe
        obtain ⟨i0, hi, hz0, hz1, hz2⟩ := info_parts info119
        have HRow := mkHid ((own_congr HMr.out.row fun _ _ => rfl : wr.drew.ownsRow 0 119 5 (.slice M.pt M.things.length M.ct) M.things.length (thCells M.things)).alloc (.cells #[.bool true, .int .i64 cl, .int .i64 f, .int .i64 E, .slice p k c] 119))
        have HNews := mkHid (World.news_of_block (heap_alloc_new wr.drew (.cells #[.bool true, .int .i64 cl, .int .i64 f, .int .i64 E, .slice p k c] 119)))
        have hne : ∀ b, (Value.slice M.pt M.things.length M.ct).ownBlock = some b → b ≠ m ∧ b ≠ w1.heap.size := fun b hb => by
          have hb2 := (blk_own _ _ _ _).1 hb
          have h1 := HM.out.lt b (by simp [mfoot, hb2])
          refine ⟨fun e => ?_, by omega⟩
          obtain ⟨c1, hc1⟩ := own_blk HM.out.row b hb2
          have ht := HM.out.top
          rw [← e, hc1] at ht
          simp at ht
        have KS : Hid (∀ w2, (wr.drew.alloc (.cells #[.bool true, .int .i64 cl, .int .i64 f, .int .i64 E, .slice p k c] 119)).grownBy w2 (Value.slice M.pt M.things.length M.ct).ownBlock → w2.cell? ⟨m, 3, none⟩ = some (.slice M.pt M.things.length M.ct) ∧ w2.cell? ⟨w1.heap.size, 0, none⟩ = some (.bool true) ∧ w2.cell? ⟨w1.heap.size, 1, none⟩ = some (.int .i64 cl) ∧ w2.cell? ⟨w1.heap.size, 2, none⟩ = some (.int .i64 (f : Int)) ∧ w2.cell? ⟨w1.heap.size, 3, none⟩ = some (.int .i64 (E : Int)) ∧ w2.cell? ⟨w1.heap.size, 4, none⟩ = some (.slice p k c)) := by
          intro w2 hg
          have em : w2.heap[m]? = wr.heap[m]? := by
            rw [hg.block m (by simp; exact Nat.lt_succ_of_lt hmw) (fun e => (hne m e.symm).1 rfl)]
            exact Below.heap_alloc _ _ _ hmw
          have eB : w2.heap[w1.heap.size]? = wr.heap[w1.heap.size]? := by
            rw [hg.block _ (by simp; exact Nat.lt_succ_of_lt hBl) (fun e => (hne _ e.symm).2 rfl)]
            exact Below.heap_alloc _ _ _ hBl
          exact ⟨(World.cell?_of_block (w := wr) (a := ⟨m, 3, none⟩) em).trans c3, (World.cell?_of_block (w := wr) (a := ⟨w1.heap.size, 0, none⟩) eB).trans b0, (World.cell?_of_block (w := wr) (a := ⟨w1.heap.size, 1, none⟩) eB).trans b1, (World.cell?_of_block (w := wr) (a := ⟨w1.heap.size, 2, none⟩) eB).trans b2, (World.cell?_of_block (w := wr) (a := ⟨w1.heap.size, 3, none⟩) eB).trans b3, (World.cell?_of_block (w := wr) (a := ⟨w1.heap.size, 4, none⟩) eB).trans b4⟩
        have KF : Hid (∀ w2, (wr.drew.alloc (.cells #[.bool true, .int .i64 cl, .int .i64 f, .int .i64 E, .slice p k c] 119)).grownBy w2 (Value.slice M.pt M.things.length M.ct).ownBlock → w2.heap[m]? = wr.heap[m]? ∧ w2.frozen? ⟨m, 3, none⟩ = false) := by
          intro w2 hg
          have em : w2.heap[m]? = wr.heap[m]? := by
            rw [hg.block m (by simp; exact Nat.lt_succ_of_lt hmw) (fun e => (hne m e.symm).1 rfl)]
            exact Below.heap_alloc _ _ _ hmw
          exact ⟨em, frozen_in (em.trans HMr.out.top) 3⟩
        have HFin : Hid (∀ g2 cap w2, w2.ownsRow 0 119 5 (.slice (some ⟨g2, 0, none⟩) (M.things.length + 1) cap) (M.things.length + 1) (thCells M.things ++ [.bool true, .int .i64 cl, .int .i64 f, .int .i64 E, .slice p k c]) →
            (wr.drew.alloc (.cells #[.bool true, .int .i64 cl, .int .i64 f, .int .i64 E, .slice p k c] 119)).grownBy w2 (Value.slice M.pt M.things.length M.ct).ownBlock → ((Value.slice M.pt M.things.length M.ct).ownBlock = some g2 ∨ g2 = (wr.drew.alloc (.cells #[.bool true, .int .i64 cl, .int .i64 f, .int .i64 E, .slice p k c] 119)).heap.size) →
            ∃ p c pt ct, MRep (w2.setCell ⟨m, 3, none⟩ (.slice (some ⟨g2, 0, none⟩) (M.things.length + 1) cap)) m { M with things := putTh M.things M.things.length ⟨true, cl, f, E, List.replicate k (newX f), p, c⟩, pt := pt, ct := ct } ∧ Fr (m :: blk M.pt) w (w2.setCell ⟨m, 3, none⟩ (.slice (some ⟨g2, 0, none⟩) (M.things.length + 1) cap)) ∧ (∀ g ∈ blk p, w.heap.size ≤ g) ∧ (∀ g ∈ blk pt, g ∈ blk M.pt ∨ w.heap.size ≤ g)) := by
          intro g2 cap w2 hown2 hgrow hat
          have hsz : (wr.drew.alloc (.cells #[.bool true, .int .i64 cl, .int .i64 f, .int .i64 E, .slice p k c] 119)).heap.size = wr.heap.size + 1 := by simp
          rw [hsz] at hat
          have hwz := HWy.out.fr.size
          have hlow : ∀ b ∈ blk p, w1.heap.size + 1 ≤ b ∧ b < wr.heap.size := fun b hb => HOw.out.lt b ((blk_own _ _ _ _).2 hb)
          have hown1 : ∀ b, (Value.slice M.pt M.things.length M.ct).ownBlock = some b → b < w.heap.size ∧ b ∉ mslots M := fun b hb => by
            have hb2 := (blk_own _ _ _ _).1 hb
            refine ⟨HM.out.lt b (by simp [mfoot, hb2]), fun hm => ?_⟩
            obtain ⟨t, ht, hbt⟩ := List.mem_flatMap.1 hm
            obtain ⟨c1, hc1⟩ := own_blk HM.out.row b hb2
            obtain ⟨c2, hc2⟩ := own_blk (HM.out.slots t ht) b hbt
            rw [hc1] at hc2
            simp at hc2
          have hsame : ∀ b, b < wr.heap.size → (∀ o, (Value.slice M.pt M.things.length M.ct).ownBlock = some o → b ≠ o) → b ≠ m → (w2.setCell ⟨m, 3, none⟩ (.slice (some ⟨g2, 0, none⟩) (M.things.length + 1) cap)).heap[b]? = wr.heap[b]? := fun b hb ho hm => by
            rw [set_else hm, hgrow.block b (by rw [hsz]; omega) (fun e => ho b e.symm rfl)]
            exact Below.heap_alloc _ _ _ hb
          have em : w2.heap[m]? = wr.heap[m]? := by
            rw [hgrow.block m (by rw [hsz]; omega) (fun e => (hne m e.symm).1 rfl)]
            exact Below.heap_alloc _ _ _ hmw
          have hg2 : g2 ≠ m := by
            rcases hat with h1 | h1
            · exact (hne g2 h1).1
            · omega
          have hmsl : ∀ b ∈ mslots M, b < w.heap.size ∧ b ≠ m := fun b hb => by
            refine ⟨HM.out.lt b (by simp [mfoot, hb]), fun e => ?_⟩
            obtain ⟨t, ht, hbt⟩ := List.mem_flatMap.1 hb
            obtain ⟨c2, hc2⟩ := own_blk (HM.out.slots t ht) b hbt
            have ht2 := HM.out.top
            rw [← e, hc2] at ht2
            simp at ht2
          have hnw : wr.ownsRow 0 33 1 (.slice p k c) k ((List.replicate k (newX f)).map (Value.int .i64)) := ⟨HOw.out.1, by
            rcases HOw.out.2 with h2 | ⟨g2, cap, cur, e1, e2, e3⟩
            · exact .inl h2
            · exact .inr ⟨g2, cap, cur, e1, Nat.zero_le _, e3⟩⟩
          have epl : (putTh M.things M.things.length ⟨true, cl, f, E, List.replicate k (newX f), p, c⟩).length = M.things.length + 1 := by unfold putTh; rw [if_neg (by omega)]; simp
          refine ⟨p, c, some ⟨g2, 0, none⟩, cap, ?_, ?_, fun b hb => by have := hlow b hb; omega, fun b hb => ?_⟩
          · refine HMr.out.renew _ (some ⟨g2, 0, none⟩) cap ⟨true, cl, f, E, List.replicate k (newX f), p, c⟩ M.things.length (putTh_len M.things _ _ (Nat.le_refl _)).1 (putTh_at M.things _ _ (Nat.le_refl _)) (putTh_len M.things _ _ (Nat.le_refl _)).2 ?_ ?_ ?_ ?_ ?_
            · rw [set_in (em.trans HMr.out.top)]
              simp only [mcells, epl]
              rfl
            · rw [epl]
              have e : thCells (putTh M.things M.things.length ⟨true, cl, f, E, List.replicate k (newX f), p, c⟩) = thCells M.things ++ [.bool true, .int .i64 cl, .int .i64 f, .int .i64 E, .slice p k c] := by
                unfold putTh
                rw [if_neg (by omega), thCells_append]
                simp [th5, I]
              rw [e]
              exact own_congr hown2 fun b hb => set_else (by simp [Value.ownBlock] at hb; rw [← hb]; exact hg2)
            · intro b hb
              exact hsame b (by have := (hmsl b hb).1; omega) (fun o ho e => (hown1 o ho).2 (e ▸ hb)) (hmsl b hb).2
            · have hnw2 : wr.ownsRow 0 33 1 (.slice p (List.replicate k (newX f)).length c) (List.replicate k (newX f)).length ((List.replicate k (newX f)).map (Value.int .i64)) := by rw [List.length_replicate]; exact hnw
              exact own_congr hnw2 fun b hb => by
                have h1 := hlow b ((blk_own _ _ _ _).1 hb)
                exact hsame b h1.2 (fun o ho e => by have := (hown1 o ho).1; omega) (by omega)
            · intro b hb hm
              have h1 := hlow b hb
              have h2 := (hmsl b hm).1
              omega
          · have F2 : Fr (m :: blk M.pt) w w2 := by
              refine ⟨hgrow.os.trans HWy.out.fr.os, hgrow.tape.trans HWy.out.fr.tape, hgrow.output.trans HWy.out.fr.output, Nat.le_trans hwz (Nat.le_trans (by rw [hsz]; omega) hgrow.size), fun i hi hn => ?_⟩
              rw [hgrow.block i (by rw [hsz]; omega) (fun e => hn (List.mem_cons_of_mem _ ((blk_own _ _ _ _).1 e.symm)))]
              exact (Below.heap_alloc _ _ _ (by exact Nat.lt_of_lt_of_le hi hwz)).trans (HWy.out.fr.block i hi (by simp))
            exact F2.trans (Fr.setCell (S := m :: blk M.pt) w2 ⟨m, 3, none⟩ _ (by simp)) (fun b hb => .inl hb)
          · simp [blk] at hb
            subst hb
            rcases hat with h1 | h1
            · exact .inl ((blk_own _ _ _ _).1 h1)
            · exact .inr (by omega)
        clear hne
        have wq : IntKind.i64.wrap ((M.things.length : Int) + 1) = (M.things.length : Int) + 1 := by rw [iwrap]; unfold wrap64; omega
        go_wp2
        go_region_law
          (first
            | (refine step_append_lies _ rfl (.tmp 45) (.tmp 47) 53 rfl 0 119 i0 (.agg #[.bool false, .int .i64 0, .int .i64 0, .int .i64 0, .slice none 0 0]) 5 56 Tryd.underlying53 hi hz0 hz1 hz2 rfl (by decide) (.slice M.pt M.things.length M.ct) M.things.length (thCells M.things) (by simp [Act.eval]) HRow.out ⟨wr.heap.size, 0, none⟩ 1 1 [.bool true, .int .i64 cl, .int .i64 f, .int .i64 E, .slice p k c] (by simp [Act.eval]) rfl HNews.out (by simp [Value.oneCell']) (by decide) (by unfold maxLen; omega) (by omega) (by simp) _ rfl ?_; intro g2 cap w2 hown2 hgrow hat hlt2; have fz3 := (KF.out _ hgrow).2; have cz3 := (KS.out _ hgrow).1))
        all_goals
          go_end0
          exact ⟨rfl, HFin.out g2 cap w2 hown2 hgrow hat⟩
end Go.Proofs.YtklfnjlenbgmoaaDoor
