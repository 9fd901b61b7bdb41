import Derived.Test.YtdkbnnhcjaibdaaDoorSG08HPutAll
import Derived.Deep.RegionLaw
namespace Go.Proofs.YtdkbnnhcjaibdaaDoor
open Go.RowKit
set_option linter.unusedVariables false
attribute [local go_sem ↓] Go.wp_at_zero Go.wp_at_succ
theorem info119 : (Tryd.prog.info? 116).map (fun i => (i.zero, i.size, i.bytes)) = some (some (.agg #[.bool false, .int .i64 0, .int .i64 0, .int .i64 0, .slice none 0 0]), 5, 56) := by kernel_rfl
set_option maxRecDepth 20000 in
set_option maxHeartbeats 4000000 in
theorem made_ok (q : Nat) (cl : Int) (n f : Nat) (m : Nat) (M : MS) (w : World) (h : MRep w m M) (ho : MOk M) (hf : f ≤ 1) (hn : (n : Int) ≤ 8192) (h2 : q ≤ M.things.length) :
    Calls Tryd.prog 116 #[.pointer (some ⟨m, 0, none⟩), .int .i64 ((q : Int) + 1), .int .i64 cl, .int .i64 n, .int .i64 f] w fun e w' => e = .returned (.tuple #[]) ∧ ∃ p c pt ct,
      MRep w' m { M with things := putTh M.things q ⟨true, cl, f, endTo M.things M.things.length, List.replicate n (newX f), p, c⟩, pt := pt, ct := ct } ∧ Fr (m :: blk M.pt) w w' ∧ (∀ g ∈ blk p, w.heap.size ≤ g) ∧ (∀ g ∈ blk pt, g ∈ blk M.pt ∨ w.heap.size ≤ g) := by
  have hml := h.lt m (by simp [mfoot])
  have hlen := ho.len
  have HEnd := mkHid (end_ok m M w h ho)
  have HM := mkHid h
  obtain ⟨j0, ji, jz0, jz1, jz2⟩ := info_parts info33
  clear h ho
  generalize endTo M.things M.things.length = E at *
  go_enter Tryd.func116, Tryd.ntmps116
  go_wp2_with fail
  refine Calls.mono HEnd.out ?_
  rintro e w1 ⟨rfl, hf1⟩
  have F1 := mkHid hf1
  have hs1 := hf1.size
  clear hf1 HEnd
  simp only [I]
  go_wp2_with fail
  have HW0 : Hid (Way w (w1.alloc (.cells #[.bool true, .int .i64 cl, .int .i64 f, .int .i64 E, .slice none 0 0] 116)) w1.heap.size cl f E 0) :=
    ⟨F1.out.trans (Fr.alloc [] _ _) (by simp), hs1, _, heap_alloc_new _ _, World.ownsRow_nil _ _ _ _⟩
  go_loopw [11] (fun q wr => ∃ k : Nat, k ≤ n ∧ q = .int .i64 k ∧ Hid (Way w wr w1.heap.size cl f E k)) (fun q _ => n - (intOf q).toNat)
  case atStart => exact ⟨0, Nat.zero_le _, rfl, HW0⟩
  case round =>
    obtain ⟨k, hkn, rfl, hw⟩ := hrel
    by_cases hlt : k < n
    · have k2 : (k : Int) < (n : Int) := by omega
      obtain ⟨v, hv, hown⟩ := hw.out.at_
      have hBl := lt_of_heap hv
      have d4 : wr.cell? ⟨w1.heap.size, 4, none⟩ = some v := by unfold thObj at hv; rw [cell_in hv]; rfl
      rcases (show f = 1 ∨ f = 0 from by omega) with hfe | hfe
      · have hfb : ((f : Int) == 1) = true := by rw [hfe]; rfl
        have HX : Hid (newX f = 0) := by rw [hfe]; rfl
        clear hfe
        have hown2 := hown.alloc (.cells #[.int .i64 0] 35)
        have HN := mkHid (fun w2 v' (hg : (wr.alloc (.cells #[.int .i64 0] 35)).grownBy w2 v.ownBlock) => hw.out.next (v' := v') hv hown hg)
        have hBo : ∀ b, v.ownBlock = some b → w1.heap.size + 1 ≤ b := fun b hb => (hown.lt b hb).1
        have HV := mkHid hv
        clear hown hv hw HW0
        go_wp2_with (first
          | (at_builtin; refine wpList_append_own _ rfl (.tmp 25) (.tmp 26) 61 rfl (w1.heap.size + 1) 35 j0 (.int .i64 0) 1 8 Tryd.underlying61 ji jz0 jz1 jz2 rfl (by decide) _ _ _ rfl hown2 ⟨wr.heap.size, 0, none⟩ 1 1 [.int .i64 0] rfl rfl ?c1 ?c2 ?c3 ?c4 ?c5 ?_)
          | go_in)
        case c1 => exact World.news_of_block (heap_alloc_new wr (.cells #[.int .i64 0] 35))
        case c2 => intro u hu; simp at hu; subst hu; rfl
        case c3 => unfold maxLen; omega
        case c4 => omega
        case c5 => simp; omega
        intro v' w2 hown' hgrow _
        have hB2 : w2.heap[w1.heap.size]? = some (thObj cl f E v) := by
          rw [hgrow.block _ (by simp; omega) (fun e => by have := hBo _ e.symm; omega), Below.heap_alloc _ _ _ hBl]
          exact HV.out
        unfold thObj at hB2
        have fz := frozen_in hB2 4
        have cz := cell_in hB2 4
        simp at cz
        have HNx := mkHid (HN.out w2 v' hgrow (by have hx := hown'; have e := HX.out; rw [e] at hx ⊢; simpa using hx))
        obtain ⟨gv, cv, hv', _, _⟩ := hown'.form (by omega)
        subst hv'
        clear hown' hgrow hown2 HN hB2 HV hBo
        go_wp2
        go_roundw
        case rel => exact ⟨k + 1, by omega, by go_num, HNx⟩
        case measure => simp [intOf]; omega
      · have hfb : ((f : Int) == 1) = false := by rw [hfe]; rfl
        have HX : Hid (newX f = 4) := by rw [hfe]; rfl
        clear hfe
        have hown2 := hown.alloc (.cells #[.int .i64 4] 35)
        have HN := mkHid (fun w2 v' (hg : (wr.alloc (.cells #[.int .i64 4] 35)).grownBy w2 v.ownBlock) => hw.out.next (v' := v') hv hown hg)
        have hBo : ∀ b, v.ownBlock = some b → w1.heap.size + 1 ≤ b := fun b hb => (hown.lt b hb).1
        have HV := mkHid hv
        clear hown hv hw HW0
        go_wp2_with (first
          | (at_builtin; refine wpList_append_own _ rfl (.tmp 30) (.tmp 31) 61 rfl (w1.heap.size + 1) 35 j0 (.int .i64 0) 1 8 Tryd.underlying61 ji jz0 jz1 jz2 rfl (by decide) _ _ _ rfl hown2 ⟨wr.heap.size, 0, none⟩ 1 1 [.int .i64 4] rfl rfl ?c1 ?c2 ?c3 ?c4 ?c5 ?_)
          | go_in)
        case c1 => exact World.news_of_block (heap_alloc_new wr (.cells #[.int .i64 4] 35))
        case c2 => intro u hu; simp at hu; subst hu; rfl
        case c3 => unfold maxLen; omega
        case c4 => omega
        case c5 => simp; omega
        intro v' w2 hown' hgrow _
        have hB2 : w2.heap[w1.heap.size]? = some (thObj cl f E v) := by
          rw [hgrow.block _ (by simp; omega) (fun e => by have := hBo _ e.symm; omega), Below.heap_alloc _ _ _ hBl]
          exact HV.out
        unfold thObj at hB2
        have fz := frozen_in hB2 4
        have cz := cell_in hB2 4
        simp at cz
        have HNx := mkHid (HN.out w2 v' hgrow (by have hx := hown'; have e := HX.out; rw [e] at hx ⊢; simpa using hx))
        obtain ⟨gv, cv, hv', _, _⟩ := hown'.form (by omega)
        subst hv'
        clear hown' hgrow hown2 HN hB2 HV hBo
        go_wp2
        go_roundw
        case rel => exact ⟨k + 1, by omega, by go_num, HNx⟩
        case measure => simp [intOf]; omega
    · have hke : k = n := by omega
      subst hke
      obtain ⟨v, hv, hown⟩ := hw.out.at_
      obtain ⟨p, c, hvs⟩ : ∃ p c, v = .slice p k c := by
        rcases hown.2 with ⟨h2, h3⟩ | ⟨g, cap, cur, h2, _⟩
        · exact ⟨none, 0, by rw [h2, h3]⟩
        · exact ⟨_, cap, h2⟩
      subst hvs
      have hBl := lt_of_heap hv
      have hmr := HM.out.keep hw.out.fr (by simp)
      have hmw := hmr.lt m (by simp [mfoot])
      have c3 := hmr.c3
      have hmB : m ≠ w1.heap.size := by omega
      unfold thObj at hv
      have b0 := cell_in hv 0
      have b1 := cell_in hv 1
      have b2 := cell_in hv 2
      have b3 := cell_in hv 3
      have b4 := cell_in hv 4
      simp at b0 b1 b2 b3 b4
      have HMr := mkHid hmr
      have HWy := mkHid hw.out
      have HOw := mkHid hown
      have HV := mkHid hv
      clear hmr hw hown hv HW0
      by_cases hq : q < M.things.length
      · obtain ⟨g, hg, hc, hfz, hgl⟩ := HMr.out.thAt (by omega)
        obtain ⟨y0, y1, y2, y3, y4⟩ := hc q hq
        rw [hg] at c3
        have hgm := (HMr.out.pt_ne hg).1
        have hgB : g ≠ w1.heap.size := by
          have := HM.out.lt g (by simp [mfoot, hg, blk])
          omega
        have k1 : (0 : Int) ≤ (q : Int) := by omega
        have k2 : (q : Int) < (M.things.length : Int) := by omega
        have k3 : (q : Int) + 1 ≤ (M.things.length : Int) := by omega
        have z0 := hfz (q * 5)
        have z1 := hfz (q * 5 + 1)
        have z2 := hfz (q * 5 + 2)
        have z3 := hfz (q * 5 + 3)
        have z4 := hfz (q * 5 + 4)
        have HG := mkHid hg
        have wq : IntKind.i64.wrap (q : Int) = (q : Int) := by rw [iwrap]; unfold wrap64; omega
        clear hc hfz hg
        go_wp2
        go_region_held3 (fun w' => w'.cell? ⟨m, 3, none⟩ = some (.slice (some ⟨g, 0, none⟩) M.things.length M.ct) ∧ w'.cell? ⟨w1.heap.size, 0, none⟩ = some (.bool true) ∧ w'.cell? ⟨w1.heap.size, 1, none⟩ = some (.int .i64 cl) ∧ w'.cell? ⟨w1.heap.size, 2, none⟩ = some (.int .i64 (f : Int)) ∧ w'.cell? ⟨w1.heap.size, 3, none⟩ = some (.int .i64 (E : Int)) ∧ w'.cell? ⟨w1.heap.size, 4, none⟩ = some (.slice p k c)) (go_keep) (fail)
        go_end0
        have hlow : ∀ b ∈ blk p, w.heap.size ≤ b := fun b hb => by
          have := (HOw.out.lt b ((blk_own _ _ _ _).2 hb)).1
          omega
        have hnw : wr.ownsRow 0 35 1 (.slice p k c) k ((List.replicate k (newX f)).map (Value.int .i64)) := ⟨HOw.out.1, by
          rcases HOw.out.2 with h2 | ⟨g2, cap, cur, e1, e2, e3⟩
          · exact .inl h2
          · exact .inr ⟨g2, cap, cur, e1, Nat.zero_le _, e3⟩⟩
        have hput := HMr.out.putAll HG.out q hq ⟨true, cl, f, E, List.replicate k (newX f), p, c⟩ (by simpa using hnw) (fun b hb hm => by
          have h1 := hlow b hb
          have h2 := HM.out.lt b (by simp [mfoot, hm])
          omega)
        refine ⟨rfl, p, c, M.pt, M.ct, ?_, ?_, hlow, fun b hb => .inl hb⟩
        · have e : putTh M.things q ⟨true, cl, f, E, List.replicate k (newX f), p, c⟩ = M.things.set q ⟨true, cl, f, E, List.replicate k (newX f), p, c⟩ := if_pos hq
          rw [e]
          have hp2 := hput.drew
          unfold setTh at hp2
          simpa using hp2
        · have hgp : g ∈ m :: blk M.pt := by rw [HG.out]; simp [blk]
          have hx := ((HWy.out.fr.mono (by simp)).trans (setTh_fr wr g q ⟨true, cl, f, E, List.replicate k (newX f), p, c⟩ (m :: blk M.pt) hgp) (fun b hb => .inl hb)).trans (Fr.drew (m :: blk M.pt) _) (fun b hb => .inl hb)
          unfold setTh at hx
          simpa using hx
      · have hqe : q = M.things.length := by omega
        subst hqe
        obtain ⟨i0, hi, hz0, hz1, hz2⟩ := info_parts info119
        have HRow := mkHid ((own_congr HMr.out.row fun _ _ => rfl : wr.drew.ownsRow 0 116 5 (.slice M.pt M.things.length M.ct) M.things.length (thCells M.things)).alloc (.cells #[.bool true, .int .i64 cl, .int .i64 f, .int .i64 E, .slice p k c] 116))
        have HNews := mkHid (World.news_of_block (heap_alloc_new wr.drew (.cells #[.bool true, .int .i64 cl, .int .i64 f, .int .i64 E, .slice p k c] 116)))
        have hne : ∀ b, (Value.slice M.pt M.things.length M.ct).ownBlock = some b → b ≠ m ∧ b ≠ w1.heap.size := fun b hb => by
          have hb2 := (blk_own _ _ _ _).1 hb
          have h1 := HM.out.lt b (by simp [mfoot, hb2])
          refine ⟨fun e => ?_, by omega⟩
          obtain ⟨c1, hc1⟩ := own_blk HM.out.row b hb2
          have ht := HM.out.top
          rw [← e, hc1] at ht
          simp at ht
        have KS : Hid (∀ w2, (wr.drew.alloc (.cells #[.bool true, .int .i64 cl, .int .i64 f, .int .i64 E, .slice p k c] 116)).grownBy w2 (Value.slice M.pt M.things.length M.ct).ownBlock → w2.cell? ⟨m, 3, none⟩ = some (.slice M.pt M.things.length M.ct) ∧ w2.cell? ⟨w1.heap.size, 0, none⟩ = some (.bool true) ∧ w2.cell? ⟨w1.heap.size, 1, none⟩ = some (.int .i64 cl) ∧ w2.cell? ⟨w1.heap.size, 2, none⟩ = some (.int .i64 (f : Int)) ∧ w2.cell? ⟨w1.heap.size, 3, none⟩ = some (.int .i64 (E : Int)) ∧ w2.cell? ⟨w1.heap.size, 4, none⟩ = some (.slice p k c)) := by
          intro w2 hg
          have em : w2.heap[m]? = wr.heap[m]? := by
            rw [hg.block m (by simp; exact Nat.lt_succ_of_lt hmw) (fun e => (hne m e.symm).1 rfl)]
            exact Below.heap_alloc _ _ _ hmw
          have eB : w2.heap[w1.heap.size]? = wr.heap[w1.heap.size]? := by
            rw [hg.block _ (by simp; exact Nat.lt_succ_of_lt hBl) (fun e => (hne _ e.symm).2 rfl)]
            exact Below.heap_alloc _ _ _ hBl
          exact ⟨(World.cell?_of_block (w := wr) (a := ⟨m, 3, none⟩) em).trans c3, (World.cell?_of_block (w := wr) (a := ⟨w1.heap.size, 0, none⟩) eB).trans b0, (World.cell?_of_block (w := wr) (a := ⟨w1.heap.size, 1, none⟩) eB).trans b1, (World.cell?_of_block (w := wr) (a := ⟨w1.heap.size, 2, none⟩) eB).trans b2, (World.cell?_of_block (w := wr) (a := ⟨w1.heap.size, 3, none⟩) eB).trans b3, (World.cell?_of_block (w := wr) (a := ⟨w1.heap.size, 4, none⟩) eB).trans b4⟩
        have KF : Hid (∀ w2, (wr.drew.alloc (.cells #[.bool true, .int .i64 cl, .int .i64 f, .int .i64 E, .slice p k c] 116)).grownBy w2 (Value.slice M.pt M.things.length M.ct).ownBlock → w2.heap[m]? = wr.heap[m]? ∧ w2.frozen? ⟨m, 3, none⟩ = false) := by
          intro w2 hg
          have em : w2.heap[m]? = wr.heap[m]? := by
            rw [hg.block m (by simp; exact Nat.lt_succ_of_lt hmw) (fun e => (hne m e.symm).1 rfl)]
            exact Below.heap_alloc _ _ _ hmw
          exact ⟨em, frozen_in (em.trans HMr.out.top) 3⟩
        have HFin : Hid (∀ g2 cap w2, w2.ownsRow 0 116 5 (.slice (some ⟨g2, 0, none⟩) (M.things.length + 1) cap) (M.things.length + 1) (thCells M.things ++ [.bool true, .int .i64 cl, .int .i64 f, .int .i64 E, .slice p k c]) →
            (wr.drew.alloc (.cells #[.bool true, .int .i64 cl, .int .i64 f, .int .i64 E, .slice p k c] 116)).grownBy w2 (Value.slice M.pt M.things.length M.ct).ownBlock → ((Value.slice M.pt M.things.length M.ct).ownBlock = some g2 ∨ g2 = (wr.drew.alloc (.cells #[.bool true, .int .i64 cl, .int .i64 f, .int .i64 E, .slice p k c] 116)).heap.size) →
            ∃ p c pt ct, MRep (w2.setCell ⟨m, 3, none⟩ (.slice (some ⟨g2, 0, none⟩) (M.things.length + 1) cap)) m { M with things := putTh M.things M.things.length ⟨true, cl, f, E, List.replicate k (newX f), p, c⟩, pt := pt, ct := ct } ∧ Fr (m :: blk M.pt) w (w2.setCell ⟨m, 3, none⟩ (.slice (some ⟨g2, 0, none⟩) (M.things.length + 1) cap)) ∧ (∀ g ∈ blk p, w.heap.size ≤ g) ∧ (∀ g ∈ blk pt, g ∈ blk M.pt ∨ w.heap.size ≤ g)) := by
          intro g2 cap w2 hown2 hgrow hat
          have hsz : (wr.drew.alloc (.cells #[.bool true, .int .i64 cl, .int .i64 f, .int .i64 E, .slice p k c] 116)).heap.size = wr.heap.size + 1 := by simp
          rw [hsz] at hat
          have hwz := HWy.out.fr.size
          have hlow : ∀ b ∈ blk p, w1.heap.size + 1 ≤ b ∧ b < wr.heap.size := fun b hb => HOw.out.lt b ((blk_own _ _ _ _).2 hb)
          have hown1 : ∀ b, (Value.slice M.pt M.things.length M.ct).ownBlock = some b → b < w.heap.size ∧ b ∉ mslots M := fun b hb => by
            have hb2 := (blk_own _ _ _ _).1 hb
            refine ⟨HM.out.lt b (by simp [mfoot, hb2]), fun hm => ?_⟩
            obtain ⟨t, ht, hbt⟩ := List.mem_flatMap.1 hm
            obtain ⟨c1, hc1⟩ := own_blk HM.out.row b hb2
            obtain ⟨c2, hc2⟩ := own_blk (HM.out.slots t ht) b hbt
            rw [hc1] at hc2
            simp at hc2
          have hsame : ∀ b, b < wr.heap.size → (∀ o, (Value.slice M.pt M.things.length M.ct).ownBlock = some o → b ≠ o) → b ≠ m → (w2.setCell ⟨m, 3, none⟩ (.slice (some ⟨g2, 0, none⟩) (M.things.length + 1) cap)).heap[b]? = wr.heap[b]? := fun b hb ho hm => by
            rw [set_else hm, hgrow.block b (by rw [hsz]; omega) (fun e => ho b e.symm rfl)]
            exact Below.heap_alloc _ _ _ hb
          have em : w2.heap[m]? = wr.heap[m]? := by
            rw [hgrow.block m (by rw [hsz]; omega) (fun e => (hne m e.symm).1 rfl)]
            exact Below.heap_alloc _ _ _ hmw
          have hg2 : g2 ≠ m := by
            rcases hat with h1 | h1
            · exact (hne g2 h1).1
            · omega
          have hmsl : ∀ b ∈ mslots M, b < w.heap.size ∧ b ≠ m := fun b hb => by
            refine ⟨HM.out.lt b (by simp [mfoot, hb]), fun e => ?_⟩
            obtain ⟨t, ht, hbt⟩ := List.mem_flatMap.1 hb
            obtain ⟨c2, hc2⟩ := own_blk (HM.out.slots t ht) b hbt
            have ht2 := HM.out.top
            rw [← e, hc2] at ht2
            simp at ht2
          have hnw : wr.ownsRow 0 35 1 (.slice p k c) k ((List.replicate k (newX f)).map (Value.int .i64)) := ⟨HOw.out.1, by
            rcases HOw.out.2 with h2 | ⟨g2, cap, cur, e1, e2, e3⟩
            · exact .inl h2
            · exact .inr ⟨g2, cap, cur, e1, Nat.zero_le _, e3⟩⟩
          have epl : (putTh M.things M.things.length ⟨true, cl, f, E, List.replicate k (newX f), p, c⟩).length = M.things.length + 1 := by unfold putTh; rw [if_neg (by omega)]; simp
          refine ⟨p, c, some ⟨g2, 0, none⟩, cap, ?_, ?_, fun b hb => by have := hlow b hb; omega, fun b hb => ?_⟩
          · refine HMr.out.renew _ (some ⟨g2, 0, none⟩) cap ⟨true, cl, f, E, List.replicate k (newX f), p, c⟩ M.things.length (putTh_len M.things _ _ (Nat.le_refl _)).1 (putTh_at M.things _ _ (Nat.le_refl _)) (putTh_len M.things _ _ (Nat.le_refl _)).2 ?_ ?_ ?_ ?_ ?_
            · rw [set_in (em.trans HMr.out.top)]
              simp only [mcells, epl]
              rfl
            · rw [epl]
              have e : thCells (putTh M.things M.things.length ⟨true, cl, f, E, List.replicate k (newX f), p, c⟩) = thCells M.things ++ [.bool true, .int .i64 cl, .int .i64 f, .int .i64 E, .slice p k c] := by
                unfold putTh
                rw [if_neg (by omega), thCells_append]
                simp [th5, I]
              rw [e]
              exact own_congr hown2 fun b hb => set_else (by simp [Value.ownBlock] at hb; rw [← hb]; exact hg2)
            · intro b hb
              exact hsame b (by have := (hmsl b hb).1; omega) (fun o ho e => (hown1 o ho).2 (e ▸ hb)) (hmsl b hb).2
            · have hnw2 : wr.ownsRow 0 35 1 (.slice p (List.replicate k (newX f)).length c) (List.replicate k (newX f)).length ((List.replicate k (newX f)).map (Value.int .i64)) := by rw [List.length_replicate]; exact hnw
              exact own_congr hnw2 fun b hb => by
                have h1 := hlow b ((blk_own _ _ _ _).1 hb)
                exact hsame b h1.2 (fun o ho e => by have := (hown1 o ho).1; omega) (by omega)
            · intro b hb hm
              have h1 := hlow b hb
              have h2 := (hmsl b hm).1
              omega
          · have F2 : Fr (m :: blk M.pt) w w2 := by
              refine ⟨hgrow.os.trans HWy.out.fr.os, hgrow.tape.trans HWy.out.fr.tape, hgrow.output.trans HWy.out.fr.output, Nat.le_trans hwz (Nat.le_trans (by rw [hsz]; omega) hgrow.size), fun i hi hn => ?_⟩
              rw [hgrow.block i (by rw [hsz]; omega) (fun e => hn (List.mem_cons_of_mem _ ((blk_own _ _ _ _).1 e.symm)))]
              exact (Below.heap_alloc _ _ _ (by exact Nat.lt_of_lt_of_le hi hwz)).trans (HWy.out.fr.block i hi (by simp))
            exact F2.trans (Fr.setCell (S := m :: blk M.pt) w2 ⟨m, 3, none⟩ _ (by simp)) (fun b hb => .inl hb)
          · simp [blk] at hb
            subst hb
            rcases hat with h1 | h1
            · exact .inl ((blk_own _ _ _ _).1 h1)
            · exact .inr (by omega)
        clear hne
        have wq : IntKind.i64.wrap ((M.things.length : Int) + 1) = (M.things.length : Int) + 1 := by rw [iwrap]; unfold wrap64; omega
        go_wp2
        go_region_law
          (first
            | (refine step_append_lies _ rfl (.tmp 45) (.tmp 47) 31 rfl 0 116 i0 (.agg #[.bool false, .int .i64 0, .int .i64 0, .int .i64 0, .slice none 0 0]) 5 56 Tryd.underlying31 hi hz0 hz1 hz2 rfl (by decide) (.slice M.pt M.things.length M.ct) M.things.length (thCells M.things) (by simp [Act.eval]) HRow.out ⟨wr.heap.size, 0, none⟩ 1 1 [.bool true, .int .i64 cl, .int .i64 f, .int .i64 E, .slice p k c] (by simp [Act.eval]) rfl HNews.out (by simp [Value.oneCell']) (by decide) (by unfold maxLen; omega) (by omega) (by simp) _ rfl ?_; intro g2 cap w2 hown2 hgrow hat hlt2; have fz3 := (KF.out _ hgrow).2; have cz3 := (KS.out _ hgrow).1))
        all_goals
          go_end0
          exact ⟨rfl, HFin.out g2 cap w2 hown2 hgrow hat⟩
end Go.Proofs.YtdkbnnhcjaibdaaDoor

namespace Go.Proofs.YtdkbnnhcjaibdaaDoor
open Go.RowKit
set_option linter.unusedVariables false
/-- the heap and the model say the same, but for words that may lie idle at the end -/
structure InvV (H : HS) (M : MS) : Prop where
  safe : Safe H
  words : H.words = M.words
  oops : H.oops = M.oops
  mark : H.mark = M.mark
  len : H.seats.length ≤ M.things.length + 1
  seat0 : (H.seats.getD 0 (0, 0, 0)).2.1 = 0
  there : ∀ k, k < M.things.length → ((M.things.getD k noTh).there = true ↔ (H.seats.getD (k + 1) (0, 0, 0)).2.1 ≠ 0)
  seat : ∀ k, k < M.things.length → (M.things.getD k noTh).there = true → (H.seats.getD (k + 1) (0, 0, 0)).1 = (M.things.getD k noTh).place ∧ (H.seats.getD (k + 1) (0, 0, 0)).2.1 = lenN (M.things.getD k noTh).slots.length (M.things.getD k noTh).fmt
  is : ∀ k, k < M.things.length → (M.things.getD k noTh).there = true → Is H (k + 1) (M.things.getD k noTh)
  count : H.count = thereTo M.things M.things.length
  turn : ∀ k, k < M.things.length → (M.things.getD k noTh).there = true → (H.seats.getD (k + 1) (0, 0, 0)).2.2 < H.order.length ∧ H.order.getD (H.seats.getD (k + 1) (0, 0, 0)).2.2 0 = k + 1
  order : ∀ j, j < H.order.length → H.order.getD j 0 ≠ 0 → H.order.getD j 0 ≤ M.things.length ∧ (M.things.getD (H.order.getD j 0 - 1) noTh).there = true ∧ (H.seats.getD (H.order.getD j 0) (0, 0, 0)).2.2 = j
  rise : ∀ i j, i < j → j < H.order.length → H.order.getD i 0 ≠ 0 → H.order.getD j 0 ≠ 0 → (H.seats.getD (H.order.getD i 0) (0, 0, 0)).1 + (H.seats.getD (H.order.getD i 0) (0, 0, 0)).2.1 ≤ (H.seats.getD (H.order.getD j 0) (0, 0, 0)).1
  gaps : ∀ p, p < H.mem.length → (∀ k, k < M.things.length → (M.things.getD k noTh).there = true → p < (M.things.getD k noTh).place ∨ (M.things.getD k noTh).place + lenN (M.things.getD k noTh).slots.length (M.things.getD k noTh).fmt ≤ p) → H.mem.getD p 0 = 0
  bit : ∀ k, (H.bits.getD (k / 64) 0).testBit (k % 64) = (M.things.getD k noTh).there
  low : ∀ i, i < H.low → H.bits.getD i 0 = full
  model : MOk M
  deep : ∀ j, j < H.order.length → H.order.getD j 0 ≠ 0 → 2 * j ≤ (H.seats.getD (H.order.getD j 0) (0, 0, 0)).1
  most : M.things.length ≤ M.oops
  room : (H.words : Int) ≤ 1048576
/-- the heap and the model say the same: what every step keeps -/
structure Inv (H : HS) (M : MS) : Prop extends InvV H M where
  fin : H.mem.length = endTo M.things M.things.length
  last : ∀ j, H.order.length = j + 1 → H.order.getD j 0 ≠ 0
theorem Inv.allLen {H : HS} {M : MS} (h : Inv H M) : ∀ k, k ≤ M.things.length → (allTo H (k + 1)).length = thereTo M.things k := by
  intro k
  induction k with
  | zero =>
    intro _
    rw [allTo_succ, h.seat0]
    rfl
  | succ k ih =>
    intro hk
    rw [allTo_succ, List.length_append, ih (by omega), thereTo_succ M.things k (by omega)]
    have ht := h.there k (by omega)
    cases hb : (M.things.getD k noTh).there with
    | true => rw [if_pos (by have := ht.1 hb; omega)]; rfl
    | false =>
      have : ¬ 0 < (H.seats.getD (k + 1) (0, 0, 0)).2.1 := fun hp => by
        have := ht.2 (by omega)
        rw [hb] at this
        simp at this
      rw [if_neg this]; rfl
theorem Inv.allAt {H : HS} {M : MS} (h : Inv H M) (k : Nat) (hb : (M.things.getD k noTh).there = true) : ∀ n, k < n → n ≤ M.things.length → (allTo H (n + 1))[thereTo M.things k]? = some (k + 1) := by
  intro n
  induction n with
  | zero => intro h1; omega
  | succ n ih =>
    intro h1 h2
    by_cases e : k = n
    · subst e
      have hl := h.allLen k (by omega)
      rw [allTo_succ, if_pos (by have := (h.there k (by omega)).1 hb; omega), List.getElem?_append_right (by omega), hl, Nat.sub_self]
      rfl
    · have := ih (by omega) (by omega)
      rw [allTo_succ, List.getElem?_append_left ?_]
      · exact this
      · exact (List.getElem?_eq_some_iff.1 this).1
theorem allTo_out (H : HS) : ∀ n, allTo H (H.seats.length + n) = allTo H H.seats.length
  | 0 => rfl
  | n + 1 => by
    rw [← Nat.add_assoc, allTo_succ, allTo_out H n, List.getD_eq_getElem?_getD, List.getElem?_eq_none (by omega)]
    simp
theorem Inv.allEnd {H : HS} {M : MS} (h : Inv H M) : allTo H H.seats.length = allTo H (M.things.length + 1) := by
  have hl := h.len
  have := allTo_out H (M.things.length + 1 - H.seats.length)
  rw [Nat.add_sub_cancel' hl] at this
  exact this.symm
theorem InvV.seatIn {H : HS} {M : MS} (h : InvV H M) (k : Nat) (hk : k < M.things.length) (hb : (M.things.getD k noTh).there = true) : k + 1 < H.seats.length := by
  have h1 := (h.there k hk).1 hb
  by_cases hc : k + 1 < H.seats.length
  · exact hc
  · rw [List.getD_eq_getElem?_getD, List.getElem?_eq_none (by omega)] at h1
    exact absurd rfl h1
theorem Inv.has {H : HS} {M : MS} (h : Inv H M) (k : Nat) (hk : k < M.things.length) : has H ((k : Int) + 1) = (M.things.getD k noTh).there := by
  have e : ((k : Int) + 1).toNat = k + 1 := by omega
  cases hb : (M.things.getD k noTh).there with
  | true => exact decide_eq_true ⟨by omega, by have := h.seatIn k hk hb; omega, by rw [e]; exact (h.there k hk).1 hb⟩
  | false =>
    refine decide_eq_false (fun hc => ?_)
    rw [e] at hc
    have := (h.there k hk).2 hc.2.2
    rw [hb] at this
    simp at this
theorem Inv.told {H : HS} {M : MS} (h : Inv H M) : Told H M where
  small := h.safe.small
  words := h.words
  oops := h.oops
  mark := h.mark
  fin := h.fin
  cnt := h.count
  is := h.is
  none := fun k hk hb => by rw [h.has k hk, hb]
  all := fun k hk hb => by rw [h.allEnd]; exact h.allAt k hb _ hk (Nat.le_refl _)
  allLen := by rw [h.allEnd]; exact h.allLen _ (Nat.le_refl _)
  seats := h.safe.seats
/-- no other object is there -/
theorem Inv.hasM {H : HS} {M : MS} (h : Inv H M) (oop : Int) : Go.Proofs.YtdkbnnhcjaibdaaDoor.has H oop = mhas M oop := by
  by_cases h1 : 1 ≤ oop ∧ oop ≤ M.things.length
  · obtain ⟨k, rfl⟩ : ∃ k : Nat, oop = (k : Int) + 1 := ⟨oop.toNat - 1, by omega⟩
    rw [h.has k (by omega)]
    cases hb : (M.things.getD k noTh).there with
    | true => exact (mhas_of k (by omega) hb).symm
    | false => exact (decide_eq_false (by rw [show ((k : Int) + 1).toNat - 1 = k from by omega, hb]; simp)).symm
  · have e1 : mhas M oop = false := decide_eq_false (by omega)
    rw [e1]
    refine decide_eq_false (fun hc => ?_)
    have hl := h.len
    omega
end Go.Proofs.YtdkbnnhcjaibdaaDoor

namespace Go.Proofs.YtdkbnnhcjaibdaaDoor
open Go.RowKit
set_option linter.unusedVariables false
theorem ctz_bits (x : Nat) (h0 : x ≠ 0) (hx : x < 18446744073709551616) : x.testBit (Lib.ctz 64 x) = true ∧ ∀ i, i < Lib.ctz 64 x → x.testBit i = false := by
  have e : Lib.ctz 64 x = Lib.ctzFrom 64 x := by unfold Lib.ctz; rw [if_neg h0]
  obtain ⟨m, h1, h2⟩ := Lib.ctzFrom_spec 64 x (by omega) hx
  rw [e]
  generalize Lib.ctzFrom 64 x = c at *
  rw [h1]
  refine ⟨?_, fun i hi => ?_⟩
  · rw [Nat.testBit_two_pow_mul]; simp
  · rw [Nat.testBit_two_pow_mul]; simp; omega
theorem not_bits (b i : Nat) (hb : b ≤ full) (hi : i < 64) : (full - b).testBit i = !b.testBit i := by
  unfold full at *
  rw [show (18446744073709551615 - b : Nat) = 2 ^ 64 - (b + 1) from by omega, Nat.testBit_two_pow_sub_succ (by omega)]
  simp [hi]
theorem full_bits (i : Nat) (hi : i < 64) : full.testBit i = true := by
  unfold full
  rw [show (18446744073709551615 : Nat) = 2 ^ 64 - 1 from rfl, Nat.testBit_two_pow_sub_one]
  simpa using hi
/-- the lowest free bit is the model's lowest free oop -/
theorem Inv.lowest {H : HS} {M : MS} (h : Inv H M) (k : Nat) (hk : LowTo H.bits H.low k) (hkf : k < H.bits.length → H.bits.getD k 0 ≠ full) : oopN H.bits k = lowTo M.things := by
  obtain ⟨x, hx⟩ : ∃ x, oopN H.bits k = x + 1 ∧ k * 64 ≤ x ∧ x < k * 64 + 64 ∧ (∀ j, k * 64 ≤ j → j < x → (H.bits.getD k 0).testBit (j % 64) = true) ∧ (H.bits.getD k 0).testBit (x % 64) = false := by
    unfold oopN
    by_cases e : k = H.bits.length
    · rw [if_pos e]
      refine ⟨k * 64, rfl, by omega, by omega, fun j h1 h2 => by omega, ?_⟩
      rw [List.getD_eq_getElem?_getD, List.getElem?_eq_none (by omega)]
      simp
    · rw [if_neg e]
      have hl : k < H.bits.length := by have := hk.le; omega
      have hb := h.safe.bits k
      have hne := hkf hl
      have h0 : full - H.bits.getD k 0 ≠ 0 := by omega
      have h1 : full - H.bits.getD k 0 < 18446744073709551616 := by unfold full; omega
      have hc := ctz_lt _ h0 h1
      obtain ⟨b1, b2⟩ := ctz_bits _ h0 h1
      generalize Lib.ctz 64 (full - H.bits.getD k 0) = c at *
      refine ⟨k * 64 + c, rfl, by omega, by omega, fun j h1 h2 => ?_, ?_⟩
      · have := b2 (j % 64) (by omega)
        rw [not_bits _ _ hb (by omega)] at this
        simpa using this
      · rw [not_bits _ _ hb hc] at b1
        rw [show (k * 64 + c) % 64 = c from by omega]
        simpa using b1
  obtain ⟨e1, e2, e3, e4, e5⟩ := hx
  rw [e1]
  have hup : ∀ j, j < x → (M.things.getD j noTh).there = true := by
    intro j hj
    rw [← h.bit j]
    by_cases hjk : j < k * 64
    · have hw : H.bits.getD (j / 64) 0 = full := by
        by_cases hl : j / 64 < H.low
        · exact h.low _ hl
        · exact hk.ful _ (by omega) (by omega)
      rw [hw]
      exact full_bits _ (by omega)
    · rw [show j / 64 = k from by omega]
      exact e4 j (by omega) hj
  have hno : (M.things.getD x noTh).there = false := by
    rw [← h.bit x, show x / 64 = k from by omega]
    exact e5
  have hin : ∀ j, (M.things.getD j noTh).there = true → j < M.things.length := by
    intro j hj
    by_cases hl : j < M.things.length
    · exact hl
    · rw [List.getD_eq_getElem?_getD, List.getElem?_eq_none (by omega)] at hj
      simp [noTh] at hj
  by_cases hxl : x < M.things.length
  · exact (lowTo_at M.things x hxl hup hno).symm
  · have hxe : x = M.things.length := by
      by_cases h0 : x = 0
      · omega
      · have := hin (x - 1) (hup _ (by omega))
        omega
    rw [lowTo_full M.things (fun j hj => hup j (by omega)), hxe]
theorem lowTo_le (S : List Th) : lowTo S ≤ S.length + 1 ∧ 1 ≤ lowTo S := by
  unfold lowTo
  have := List.IsPrefix.length_le (List.takeWhile_prefix (p := fun t : Th => t.there) (l := S))
  omega
end Go.Proofs.YtdkbnnhcjaibdaaDoor

namespace Go.Proofs.YtdkbnnhcjaibdaaDoor
open Go.RowKit
set_option linter.unusedVariables false
def emptyM (words oops : Nat) : MS := ⟨words, oops, 0, [], none, 0⟩
theorem inv_empty (words oops : Nat) (h1 : (words : Int) ≤ 1048576) (h2 : (oops : Int) ≤ 65536) : Inv (emptyH words oops) (emptyM words oops) where
  safe := ⟨⟨by show (words : Int) ≤ _; omega, h2, by show ((0 : Nat) : Int) ≤ (words : Int); omega, by show ((0 : Nat) : Int) ≤ (oops : Int); omega, by show ((0 : Nat) : Int) ≤ _; omega⟩, Nat.le_refl _, by show ((0 : Nat) : Int) ≤ _; omega, fun k => by simp [emptyH, full], by show ((0 : Nat) : Int) ≤ _; omega, by show ((0 : Nat) : Int) ≤ _; omega⟩
  words := rfl
  oops := rfl
  mark := rfl
  len := Nat.zero_le _
  seat0 := rfl
  there := fun k hk => by simp [emptyM] at hk
  seat := fun k hk => by simp [emptyM] at hk
  is := fun k hk => by simp [emptyM] at hk
  count := rfl
  fin := rfl
  turn := fun k hk => by simp [emptyM] at hk
  order := fun j hj => by simp [emptyH] at hj
  rise := fun i j _ hj => by simp [emptyH] at hj
  last := fun j hj => by simp [emptyH] at hj
  gaps := fun p hp => by simp [emptyH] at hp
  bit := fun k => by simp [emptyH, emptyM, noTh]
  low := fun i hi => by simp [emptyH] at hi
  model := ⟨by show ((0 : Nat) : Int) ≤ _; omega, fun k hk => by simp [emptyM] at hk, fun k hk => by simp [emptyM] at hk⟩
  deep := fun j hj => by simp [emptyH] at hj
  most := Nat.zero_le _
  room := h1
/-- the order is no longer than half the memory -/
theorem Inv.short {H : HS} {M : MS} (h : Inv H M) : 2 * H.order.length ≤ H.mem.length := by
  cases hl : H.order.length with
  | zero => omega
  | succ j =>
    have hn := h.last j hl
    have hd := h.deep j (by omega) hn
    obtain ⟨o1, o2, o3⟩ := h.order j (by omega) hn
    have hi := h.is (H.order.getD j 0 - 1) (by omega) o2
    have hr := hi.room
    rw [show H.order.getD j 0 - 1 + 1 = H.order.getD j 0 from by omega] at hr
    have := lenN_two (M.things.getD (H.order.getD j 0 - 1) noTh).slots.length (M.things.getD (H.order.getD j 0 - 1) noTh).fmt
    omega
theorem th_in {S : List Th} {j : Nat} (hj : (S.getD j noTh).there = true) : j < S.length := by
  by_cases hl : j < S.length
  · exact hl
  · rw [List.getD_eq_getElem?_getD, List.getElem?_eq_none (by omega)] at hj
    simp [noTh] at hj
theorem lowTo_free (S : List Th) : (S.getD (lowTo S - 1) noTh).there = false ∧ ∀ j, j < lowTo S - 1 → (S.getD j noTh).there = true := by
  unfold lowTo
  induction S with
  | nil => simp [noTh]
  | cons s S ih =>
    by_cases hs : s.there = true
    · rw [List.takeWhile_cons_of_pos hs]
      simp only [List.length_cons, Nat.add_sub_cancel] at ih ⊢
      refine ⟨by simpa using ih.1, fun j hj => ?_⟩
      cases j with
      | zero => simpa using hs
      | succ j => simpa using ih.2 j (by simpa using hj)
    · rw [List.takeWhile_cons_of_neg hs]
      simp
      simpa using hs
/-- where the first ones are all there, as many are there -/
theorem thereTo_all (S : List Th) : ∀ k, k ≤ S.length → (∀ j, j < k → (S.getD j noTh).there = true) → thereTo S k = k := by
  intro k
  induction k with
  | zero => intro _ _; rfl
  | succ k ih =>
    intro h1 h2
    rw [thereTo_succ S k (by omega), ih (by omega) (fun j hj => h2 j (by omega)), if_pos (h2 k (by omega))]
theorem thereTo_mono (S : List Th) : ∀ n k, k ≤ n → n ≤ S.length → thereTo S k ≤ thereTo S n := by
  intro n
  induction n with
  | zero => intro k h1 _; rw [show k = 0 from by omega]; exact Nat.le_refl _
  | succ n ih =>
    intro k h1 h2
    by_cases e : k = n + 1
    · rw [e]; exact Nat.le_refl _
    · have := ih k (by omega) (by omega)
      have := thereTo_succ S n (by omega)
      omega
theorem Inv.low_le {H : HS} {M : MS} (h : Inv H M) : lowTo M.things - 1 ≤ H.count := by
  have hf := lowTo_free M.things
  have hl := lowTo_le M.things
  have h1 := thereTo_all M.things (lowTo M.things - 1) (by omega) hf.2
  have h2 := thereTo_mono M.things M.things.length (lowTo M.things - 1) (by omega) (Nat.le_refl _)
  rw [h.count]
  omega
theorem getD_pad (S : List (Nat × Nat × Nat)) (n i : Nat) : (padSeats S n).getD i (0, 0, 0) = S.getD i (0, 0, 0) := by
  unfold padSeats
  rw [List.getD_eq_getElem?_getD, List.getD_eq_getElem?_getD]
  by_cases h : i < S.length
  · rw [List.getElem?_append_left h]
  · rw [List.getElem?_append_right (by omega), List.getElem?_eq_none (l := S) (by omega), List.getElem?_replicate]
    split <;> rfl
theorem laySeat (S : List (Nat × Nat × Nat)) (o i : Nat) (s : Nat × Nat × Nat) : ((padSeats S (o + 1)).set o s).getD i (0, 0, 0) = if i = o then s else S.getD i (0, 0, 0) := by
  rw [List.getD_eq_getElem?_getD, List.getElem?_set]
  by_cases h : o = i
  · rw [if_pos h, if_pos h.symm, if_pos (by unfold padSeats; simp; omega)]; rfl
  · rw [if_neg h, if_neg (fun e => h e.symm), ← List.getD_eq_getElem?_getD, getD_pad]
end Go.Proofs.YtdkbnnhcjaibdaaDoor

namespace Go.Proofs.YtdkbnnhcjaibdaaDoor
open Go.RowKit
set_option linter.unusedVariables false
theorem padTo_len (bits : List Nat) (n : Nat) : (padTo bits n).length = max bits.length n := by unfold padTo; simp; omega
theorem padTo_getD (bits : List Nat) (n i : Nat) : (padTo bits n).getD i 0 = bits.getD i 0 := by
  unfold padTo
  rw [List.getD_eq_getElem?_getD, List.getD_eq_getElem?_getD]
  by_cases h : i < bits.length
  · rw [List.getElem?_append_left h]
  · rw [List.getElem?_append_right (by omega), List.getElem?_eq_none (l := bits) (by omega), List.getElem?_replicate]
    split <;> rfl
theorem addBits_len (bits : List Nat) (k : Nat) : (addBits bits k).length = max bits.length ((k - 1) / 64 + 1) := by unfold addBits; rw [List.length_set, padTo_len]
theorem addBits_getD (bits : List Nat) (k i : Nat) : (addBits bits k).getD i 0 = if i = (k - 1) / 64 then bits.getD i 0 ||| 2 ^ ((k - 1) % 64) else bits.getD i 0 := by
  unfold addBits
  rw [List.getD_eq_getElem?_getD, List.getElem?_set]
  by_cases h : (k - 1) / 64 = i
  · rw [if_pos h, if_pos h.symm, if_pos (by rw [padTo_len]; omega), padTo_getD, h]; rfl
  · rw [if_neg h, if_neg (fun e => h e.symm), ← List.getD_eq_getElem?_getD, padTo_getD]
theorem addBits_le (bits : List Nat) (k : Nat) (hb : ∀ i, bits.getD i 0 ≤ full) (i : Nat) : (addBits bits k).getD i 0 ≤ full := by
  rw [addBits_getD]
  split
  · have h1 := hb i
    have h2 : bits.getD i 0 ||| 2 ^ ((k - 1) % 64) < 2 ^ 64 := Nat.or_lt_two_pow (by unfold full at h1; omega) (Nat.pow_lt_pow_right (by omega) (by omega))
    unfold full
    omega
  · exact hb i
theorem addBits_bit (bits : List Nat) (k j : Nat) (hk : 1 ≤ k) : ((addBits bits k).getD (j / 64) 0).testBit (j % 64) = (if j = k - 1 then true else (bits.getD (j / 64) 0).testBit (j % 64)) := by
  rw [addBits_getD]
  by_cases h : j / 64 = (k - 1) / 64
  · rw [if_pos h, Nat.testBit_or, Nat.testBit_two_pow]
    by_cases e : j = k - 1
    · rw [if_pos e, e]; simp
    · rw [if_neg e]
      have : ¬ (k - 1) % 64 = j % 64 := by omega
      simp [this]
  · rw [if_neg h, if_neg (fun e => h (by rw [e]))]
theorem objCells_len (cl : Int) (n f : Nat) (hf : f ≤ 1) : (objCells cl n f).length = lenN n f := by
  unfold objCells lenN
  rcases (show f = 0 ∨ f = 1 from by omega) with rfl | rfl <;> simp <;> omega
theorem putTh_get (S : List Th) (q i : Nat) (t : Th) (hq : q ≤ S.length) : (putTh S q t).getD i noTh = if i = q then t else S.getD i noTh := by
  by_cases hi : i < (putTh S q t).length
  · exact putTh_at S q t hq i hi
  · have h1 := (putTh_len S q t hq).1
    rw [if_neg (by omega), List.getD_eq_getElem?_getD, List.getElem?_eq_none (by omega), List.getD_eq_getElem?_getD, List.getElem?_eq_none ?_]
    unfold putTh at hi
    split at hi
    · simp at hi; omega
    · simp at hi; omega
theorem putTh_length (S : List Th) (q : Nat) (t : Th) (hq : q ≤ S.length) : (putTh S q t).length = max S.length (q + 1) := by
  unfold putTh
  split
  · simp; omega
  · simp; omega
theorem endTo_ge (S : List Th) : ∀ k j, j < k → (S.getD j noTh).there = true → (S.getD j noTh).place + lenN (S.getD j noTh).slots.length (S.getD j noTh).fmt ≤ endTo S k := by
  intro k
  induction k with
  | zero => intro j h; omega
  | succ k ih =>
    intro j h hb
    rw [endTo_succ]
    by_cases e : j = k
    · subst e
      split
      · exact Nat.le_refl _
      · rename_i hc
        simp only [hb, true_and] at hc
        omega
    · have := ih j (by omega) hb
      split <;> omega
/-- the end of the things: the one number above all and met by one, or zero -/
theorem endTo_is (S : List Th) (E : Nat) : ∀ k, (∀ j, j < k → (S.getD j noTh).there = true → (S.getD j noTh).place + lenN (S.getD j noTh).slots.length (S.getD j noTh).fmt ≤ E) → (E = 0 ∨ ∃ j, j < k ∧ (S.getD j noTh).there = true ∧ (S.getD j noTh).place + lenN (S.getD j noTh).slots.length (S.getD j noTh).fmt = E) → endTo S k = E := by
  intro k h1 h2
  have hle : ∀ k, (∀ j, j < k → (S.getD j noTh).there = true → (S.getD j noTh).place + lenN (S.getD j noTh).slots.length (S.getD j noTh).fmt ≤ E) → endTo S k ≤ E := by
    intro k
    induction k with
    | zero => intro _; exact Nat.zero_le _
    | succ k ih =>
      intro h
      rw [endTo_succ]
      split
      · rename_i hc; exact h k (by omega) hc.1
      · exact ih fun j hj => h j (by omega)
  have h3 := hle k h1
  rcases h2 with h2 | ⟨j, j1, j2, j3⟩
  · omega
  · have := endTo_ge S k j j1 j2
    omega
end Go.Proofs.YtdkbnnhcjaibdaaDoor

namespace Go.Proofs.YtdkbnnhcjaibdaaDoor
open Go.RowKit
set_option linter.unusedVariables false
/-- a thing hangs on its seat and its own words alone -/
theorem Is.same {H H' : HS} {oop : Nat} {t : Th} (h : Is H oop t) (hs : H'.seats.getD oop (0, 0, 0) = H.seats.getD oop (0, 0, 0)) (hl : oop < H'.seats.length) (hr : (H.seats.getD oop (0, 0, 0)).1 + lenN t.slots.length t.fmt ≤ H'.mem.length)
    (hm : ∀ p, (H.seats.getD oop (0, 0, 0)).1 ≤ p → p < (H.seats.getD oop (0, 0, 0)).1 + lenN t.slots.length t.fmt → H'.mem.getD p 0 = H.mem.getD p 0) : Is H' oop t := by
  have h2 := lenN_two t.slots.length t.fmt
  obtain ⟨a1, a2, a3⟩ := has_yes h.has
  refine ⟨?_, by rw [hs]; exact hr, ?_, ?_, h.fmt, h.len, ?_, ?_⟩
  · exact decide_eq_true ⟨a1, by omega, by simp only [Int.toNat_natCast]; rw [hs]; exact a3⟩
  · rw [hs, hm _ (by omega) (by omega)]; exact h.cls
  · rw [hs, hm _ (by omega) (by omega)]; exact h.shape
  · intro hf i hi
    have := lenN_word t.slots.length i t.fmt hf hi
    rw [hs, hm _ (by omega) (by omega)]
    exact h.word hf i hi
  · intro hf i hi
    have := lenN_byte t.slots.length i hi
    rw [← hf] at this
    rw [hs, hm _ (by omega) (by omega)]
    exact h.byte hf i hi
theorem getD_left (A B : List Int) (p : Nat) (h : p < A.length) : (A ++ B).getD p 0 = A.getD p 0 := by
  rw [List.getD_eq_getElem?_getD, List.getD_eq_getElem?_getD, List.getElem?_append_left h]
theorem getD_right (A B : List Int) (i : Nat) : (A ++ B).getD (A.length + i) 0 = B.getD i 0 := by
  rw [List.getD_eq_getElem?_getD, List.getD_eq_getElem?_getD, List.getElem?_append_right (by omega), show A.length + i - A.length = i from by omega]
theorem getD_rep (n i : Nat) (x : Int) (h : i < n) : (List.replicate n x).getD i 0 = x := by
  rw [List.getD_eq_getElem?_getD, List.getElem?_replicate, if_pos h]; rfl
/-- what is laid is what it must be -/
theorem is_laid (H : HS) (q : Nat) (cl : Int) (n f : Nat) (t : Th) (hf : f ≤ 1) (hn : n ≤ 8192) (h1 : t.cls = cl) (h2 : t.fmt = f) (h3 : t.slots = List.replicate n (newX f)) : Is (layH H (q + 1) cl n f) (q + 1) t := by
  have hs : (layH H (q + 1) cl n f).seats.getD (q + 1) (0, 0, 0) = (H.mem.length, lenN n f, H.order.length) := by show ((padSeats H.seats (q + 1 + 1)).set (q + 1) _).getD (q + 1) (0, 0, 0) = _; rw [laySeat, if_pos rfl]
  have hl2 := lenN_two n f
  have hsl : t.slots.length = n := by rw [h3]; simp
  have hm : (layH H (q + 1) cl n f).mem = H.mem ++ objCells cl n f := rfl
  refine ⟨?_, ?_, ?_, ?_, by omega, by omega, ?_, ?_⟩
  · refine decide_eq_true ⟨by omega, ?_, ?_⟩
    · show ((q + 1 : Nat) : Int) < ((padSeats H.seats (q + 1 + 1)).set (q + 1) _).length
      unfold padSeats
      simp
      omega
    · simp only [Int.toNat_natCast]
      rw [hs]
      show lenN n f ≠ 0
      omega
  · rw [hs, hm, List.length_append, objCells_len cl n f hf, hsl, h2]; exact Nat.le_refl _
  · rw [hs, hm]
    rw [h1]
    exact getD_right H.mem (objCells cl n f) 0
  · rw [hs, hm, getD_right H.mem (objCells cl n f) 1, hsl, h2]
    rfl
  · intro hf0 i hi
    rw [hsl] at hi
    have hf1 : f = 0 := by omega
    rw [hs, hm]
    show (H.mem ++ objCells cl n f).getD (H.mem.length + 2 + i) 0 = _
    rw [show H.mem.length + 2 + i = H.mem.length + (2 + i) from by omega, getD_right, h3, getD_rep n i _ hi]
    subst hf1
    unfold objCells
    rw [if_pos rfl, show (2 + i) = [cl, ((2 * n + 0 : Nat) : Int)].length + i from rfl, getD_right, getD_rep n i _ hi]
    rfl
  · intro hf1 i hi
    rw [hsl] at hi
    have hf1 : f = 1 := by omega
    refine ⟨0, ?_, by omega, ?_⟩
    · rw [hs, hm]
      show (H.mem ++ objCells cl n f).getD (H.mem.length + 2 + i / 4) 0 = _
      rw [show H.mem.length + 2 + i / 4 = H.mem.length + (2 + i / 4) from by omega, getD_right]
      subst hf1
      unfold objCells
      rw [if_neg (by omega), show (2 + i / 4) = [cl, ((2 * n + 1 : Nat) : Int)].length + i / 4 from rfl, getD_right, getD_rep _ _ _ (by omega)]
      rfl
    · rw [h3, getD_rep n i _ hi, hf1]
      simp [newX, getB]
end Go.Proofs.YtdkbnnhcjaibdaaDoor

namespace Go.Proofs.YtdkbnnhcjaibdaaDoor
open Go.RowKit
set_option linter.unusedVariables false
theorem thereTo_congr (S T : List Th) (k : Nat) (h : ∀ j, j < k → (S.getD j noTh).there = (T.getD j noTh).there) (hs : k ≤ S.length) (ht : k ≤ T.length) : thereTo S k = thereTo T k := by
  induction k with
  | zero => rfl
  | succ k ih => rw [thereTo_succ S k (by omega), thereTo_succ T k (by omega), ih (fun j hj => h j (by omega)) (by omega) (by omega), h k (by omega)]
/-- one more is there -/
theorem thereTo_put (S : List Th) (q : Nat) (t : Th) (hq : q ≤ S.length) (hf : (S.getD q noTh).there = false) (ht : t.there = true) : thereTo (putTh S q t) (putTh S q t).length = thereTo S S.length + 1 := by
  have hg := fun i => putTh_get S q i t hq
  have hl := putTh_length S q t hq
  have hlow : ∀ k, k ≤ q → k ≤ S.length → thereTo (putTh S q t) k = thereTo S k := fun k h1 h2 => thereTo_congr _ _ k (fun j hj => by rw [hg j, if_neg (by omega)]) (by omega) h2
  by_cases hlt : q < S.length
  · have hup : ∀ k, q + 1 ≤ k → k ≤ S.length → thereTo (putTh S q t) k = thereTo S k + 1 := by
      intro k
      induction k with
      | zero => intro h; omega
      | succ k ih =>
        intro h1 h2
        rw [thereTo_succ S k (by omega), thereTo_succ (putTh S q t) k (by omega), hg k]
        by_cases e : k = q
        · rw [if_pos e, ht, hlow k (by omega) (by omega), e, hf]; simp
        · rw [if_neg e, ih (by omega) (by omega)]; omega
    rw [show (putTh S q t).length = S.length from by omega]
    exact hup S.length (by omega) (Nat.le_refl _)
  · have hqe : q = S.length := by omega
    rw [show (putTh S q t).length = S.length + 1 from by omega, thereTo_succ _ _ (by omega), hlow S.length (by omega) (Nat.le_refl _), hg, if_pos hqe.symm, ht]
    simp
theorem Inv.lay {H : HS} {M : MS} (h : Inv H M) (k : Nat) (hk : LowTo H.bits H.low k) (cl : Int) (n f : Nat) (p pt : Option Addr) (c ct : Nat) (hf : f ≤ 1) (hn : n ≤ 8192) (hr1 : H.count < H.oops) (hr2 : H.mem.length + lenN n f ≤ H.words) :
    Inv (layH { H with mark := H.mark - 1, low := k } (lowTo M.things) cl n f) { M with mark := M.mark - 1, things := putTh M.things (lowTo M.things - 1) ⟨true, cl, f, endTo M.things M.things.length, List.replicate n (newX f), p, c⟩, pt := pt, ct := ct } := by
  have hlow := lowTo_le M.things
  have hfree := lowTo_free M.things
  have hq1 := h.low_le
  obtain ⟨q, hq⟩ : ∃ q, lowTo M.things = q + 1 := ⟨lowTo M.things - 1, by omega⟩
  rw [hq] at hfree hq1 hlow ⊢
  rw [Nat.add_sub_cancel] at hfree hq1 ⊢
  rw [← h.fin]
  generalize ht : (⟨true, cl, f, H.mem.length, List.replicate n (newX f), p, c⟩ : Th) = t
  have t1 : t.there = true := by rw [← ht]
  have t2 : t.cls = cl := by rw [← ht]
  have t3 : t.fmt = f := by rw [← ht]
  have t4 : t.place = H.mem.length := by rw [← ht]
  have t5 : t.slots = List.replicate n (newX f) := by rw [← ht]
  have t6 : t.slots.length = n := by rw [t5]; simp
  have hqs : q ≤ M.things.length := by omega
  have hg := fun i => putTh_get M.things q i t hqs
  have hgl := putTh_length M.things q t hqs
  have hS : ∀ i, (layH { H with mark := H.mark - 1, low := k } (q + 1) cl n f).seats.getD i (0, 0, 0) = if i = q + 1 then (H.mem.length, lenN n f, H.order.length) else H.seats.getD i (0, 0, 0) := fun i => laySeat H.seats (q + 1) i _
  have hSl : (layH { H with mark := H.mark - 1, low := k } (q + 1) cl n f).seats.length = max H.seats.length (q + 2) := by
    show ((padSeats H.seats (q + 1 + 1)).set (q + 1) _).length = _
    unfold padSeats
    simp
    omega
  have hM : (layH { H with mark := H.mark - 1, low := k } (q + 1) cl n f).mem = H.mem ++ objCells cl n f := rfl
  have hMl : (H.mem ++ objCells cl n f).length = H.mem.length + lenN n f := by rw [List.length_append, objCells_len cl n f hf]
  have hO : (layH { H with mark := H.mark - 1, low := k } (q + 1) cl n f).order = H.order ++ [q + 1] := rfl
  have hOg : ∀ j, (H.order ++ [q + 1]).getD j 0 = if j = H.order.length then q + 1 else H.order.getD j 0 := fun j => by
    rw [List.getD_eq_getElem?_getD, List.getD_eq_getElem?_getD]
    by_cases e : j = H.order.length
    · rw [if_pos e, e, List.getElem?_append_right (Nat.le_refl _)]; simp
    · rw [if_neg e]
      by_cases hl : j < H.order.length
      · rw [List.getElem?_append_left hl]
      · rw [List.getElem?_eq_none (by simp; omega), List.getElem?_eq_none (by omega)]
  have hin : ∀ i, i < (putTh M.things q t).length → i ≠ q → i < M.things.length := fun i h1 h2 => (putTh_len M.things q t hqs).2 i h1 h2
  have hL := h.len
  have hsm := h.safe.small
  have ho := hsm.oops
  have hw := hsm.words
  have hshort := h.short
  have hl2 := lenN_two n f
  have hmost := h.most
  have hoo := h.oops
  have hend : ∀ i, i < M.things.length → (M.things.getD i noTh).there = true → (M.things.getD i noTh).place + lenN (M.things.getD i noTh).slots.length (M.things.getD i noTh).fmt ≤ H.mem.length := fun i h1 h2 => by rw [h.fin]; exact endTo_ge M.things _ i h1 h2
  exact {
    safe := ⟨⟨hw, ho, by rw [hM, hMl]; show ((H.mem.length + lenN n f : Nat) : Int) ≤ (H.words : Int); omega, by show ((H.count + 1 : Nat) : Int) ≤ (H.oops : Int); omega, by show ((H.mark - 1 : Nat) : Int) ≤ _; have := hsm.mark; omega⟩,
      by show k ≤ (addBits H.bits (q + 1)).length; rw [addBits_len]; have := hk.le; omega,
      by show ((addBits H.bits (q + 1)).length : Int) ≤ 1024; rw [addBits_len]; have := h.safe.bl; omega,
      fun i => addBits_le H.bits (q + 1) h.safe.bits i, by rw [hSl]; have := h.safe.seats; omega,
      by rw [hO]; simp only [List.length_append, List.length_singleton]; omega⟩
    words := h.words
    oops := h.oops
    mark := by show H.mark - 1 = M.mark - 1; rw [h.mark]
    len := by
      rw [hSl]
      show max H.seats.length (q + 2) ≤ (putTh M.things q t).length + 1
      rw [hgl]
      omega
    seat0 := by rw [hS, if_neg (by omega)]; exact h.seat0
    there := fun i hi => by
      show (((putTh M.things q t).getD i noTh).there = true ↔ _)
      rw [hg i, hS (i + 1)]
      by_cases e : i = q
      · rw [if_pos e, if_pos (by omega)]; simp only [t1, true_iff]; show lenN n f ≠ 0; omega
      · rw [if_neg e, if_neg (by omega)]; exact h.there i (hin i hi e)
    seat := fun i hi hb => by
      have hb2 : ((putTh M.things q t).getD i noTh).there = true := hb
      show _ = ((putTh M.things q t).getD i noTh).place ∧ _ = lenN ((putTh M.things q t).getD i noTh).slots.length ((putTh M.things q t).getD i noTh).fmt
      rw [hg i] at hb2 ⊢
      rw [hS (i + 1)]
      by_cases e : i = q
      · rw [if_pos e, if_pos (by omega), t4, t6, t3]; exact ⟨rfl, rfl⟩
      · rw [if_neg e] at hb2 ⊢; rw [if_neg (by omega)]; exact h.seat i (hin i hi e) hb2
    is := fun i hi hb => by
      have hb2 : ((putTh M.things q t).getD i noTh).there = true := hb
      show Is _ (i + 1) ((putTh M.things q t).getD i noTh)
      rw [hg i] at hb2 ⊢
      by_cases e : i = q
      · rw [if_pos e, e]; exact is_laid _ q cl n f t hf hn t2 t3 t5
      · rw [if_neg e] at hb2 ⊢
        have hi2 := hin i hi e
        have hI := h.is i hi2 hb2
        have hr := hI.room
        refine hI.same (by rw [hS, if_neg (by omega)]) (by rw [hSl]; have := (has_yes hI.has).2.1; omega) (by rw [hM, hMl]; omega) (fun x h1 h2 => by rw [hM]; exact getD_left _ _ x (by omega))
    count := by show H.count + 1 = thereTo (putTh M.things q t) (putTh M.things q t).length; rw [thereTo_put M.things q t hqs hfree.1 t1, h.count]
    fin := by
      rw [hM, hMl]
      show _ = endTo (putTh M.things q t) (putTh M.things q t).length
      refine (endTo_is _ _ _ (fun j hj hb => ?_) (.inr ⟨q, by omega, by rw [hg, if_pos rfl]; exact t1, by rw [hg, if_pos rfl, t4, t6, t3]⟩)).symm
      rw [hg j] at hb ⊢
      by_cases e : j = q
      · rw [if_pos e, t4, t6, t3]; exact Nat.le_refl _
      · rw [if_neg e] at hb ⊢
        have := hend j (hin j hj e) hb
        omega
    turn := fun i hi hb => by
      have hb2 : ((putTh M.things q t).getD i noTh).there = true := hb
      rw [hg i] at hb2
      rw [hS (i + 1), hO, hOg]
      by_cases e : i = q
      · rw [if_pos (by omega)]; simp; omega
      · rw [if_neg e] at hb2
        rw [if_neg (by omega)]
        have := h.turn i (hin i hi e) hb2
        rw [if_neg (by omega)]
        exact ⟨by rw [List.length_append, List.length_singleton]; omega, this.2⟩
    order := fun j hj hne => by
      rw [hO] at hj hne ⊢
      show _ ≤ (putTh M.things q t).length ∧ ((putTh M.things q t).getD _ noTh).there = true ∧ _
      rw [hOg] at hne ⊢
      by_cases e : j = H.order.length
      · rw [if_pos e, hS, if_pos rfl, hg, if_pos (by omega)]
        exact ⟨by omega, t1, e.symm⟩
      · rw [if_neg e] at hne ⊢
        simp at hj
        obtain ⟨o1, o2, o3⟩ := h.order j (by omega) hne
        have hne2 : H.order.getD j 0 ≠ q + 1 := fun e2 => by
          rw [e2, Nat.add_sub_cancel, hfree.1] at o2
          simp at o2
        rw [hS, if_neg hne2, hg, if_neg (by omega)]
        exact ⟨by omega, o2, o3⟩
    rise := fun i j hij hj hi0 hj0 => by
      rw [hO] at hj hi0 hj0 ⊢
      rw [hOg] at hi0 hj0 ⊢
      rw [hOg j]
      simp at hj
      rw [if_neg (by omega)] at hi0 ⊢
      obtain ⟨o1, o2, o3⟩ := h.order i (by omega) hi0
      have hne2 : H.order.getD i 0 ≠ q + 1 := fun e2 => by
        rw [e2, Nat.add_sub_cancel, hfree.1] at o2
        simp at o2
      rw [hS, if_neg hne2, hS]
      by_cases e : j = H.order.length
      · rw [if_pos e, if_pos rfl]
        have hI := h.seat (H.order.getD i 0 - 1) (by omega) o2
        have := hend (H.order.getD i 0 - 1) (by omega) o2
        rw [show H.order.getD i 0 - 1 + 1 = H.order.getD i 0 from by omega] at hI
        show _ ≤ H.mem.length
        omega
      · rw [if_neg e] at hj0 ⊢
        obtain ⟨p1, p2, p3⟩ := h.order j (by omega) hj0
        have hne3 : H.order.getD j 0 ≠ q + 1 := fun e2 => by
          rw [e2, Nat.add_sub_cancel, hfree.1] at p2
          simp at p2
        rw [if_neg hne3]
        exact h.rise i j hij (by omega) hi0 hj0
    last := fun j hj => by
      rw [hO] at hj ⊢
      simp at hj
      rw [hOg, if_pos (by omega)]
      omega
    gaps := fun x hx hc => by
      rw [hM] at hx ⊢
      rw [hMl] at hx
      by_cases hlt : x < H.mem.length
      · rw [getD_left _ _ x hlt]
        refine h.gaps x hlt (fun i hi hb => ?_)
        have hiq : i ≠ q := fun e => by rw [e, hfree.1] at hb; simp at hb
        have := hc i (by show i < (putTh M.things q t).length; omega) (by show ((putTh M.things q t).getD i noTh).there = true; rw [hg, if_neg hiq]; exact hb)
        have h3 : x < ((putTh M.things q t).getD i noTh).place ∨ ((putTh M.things q t).getD i noTh).place + lenN ((putTh M.things q t).getD i noTh).slots.length ((putTh M.things q t).getD i noTh).fmt ≤ x := this
        rw [hg, if_neg hiq] at h3
        exact h3
      · have := hc q (by show q < (putTh M.things q t).length; omega) (by show ((putTh M.things q t).getD q noTh).there = true; rw [hg, if_pos rfl]; exact t1)
        have h3 : x < ((putTh M.things q t).getD q noTh).place ∨ ((putTh M.things q t).getD q noTh).place + lenN ((putTh M.things q t).getD q noTh).slots.length ((putTh M.things q t).getD q noTh).fmt ≤ x := this
        rw [hg, if_pos rfl, t4, t6, t3] at h3
        omega
    bit := fun j => by
      show ((addBits H.bits (q + 1)).getD (j / 64) 0).testBit (j % 64) = ((putTh M.things q t).getD j noTh).there
      rw [addBits_bit H.bits (q + 1) j (by omega), hg, Nat.add_sub_cancel]
      split
      · exact t1.symm
      · exact h.bit j
    low := fun i hi => by
      have hi2 : i < k := hi
      show (addBits H.bits (q + 1)).getD i 0 = full
      have hb : H.bits.getD i 0 = full := by
        by_cases hl : i < H.low
        · exact h.low i hl
        · exact hk.ful i (by omega) hi2
      have h1 := addBits_le H.bits (q + 1) h.safe.bits i
      rw [addBits_getD] at h1 ⊢
      split
      · rw [if_pos (by assumption)] at h1
        have := Nat.left_le_or (n := H.bits.getD i 0) (m := 2 ^ ((q + 1 - 1) % 64))
        omega
      · exact hb
    model := ⟨by show ((putTh M.things q t).length : Int) ≤ 65538; have := h.model.len; omega, fun i hi => by
        show (((putTh M.things q t).getD i noTh).slots.length : Int) ≤ 8192
        rw [hg]
        split
        · rw [t6]; omega
        · rename_i e; exact h.model.slots i (hin i hi e), fun i hi => by
        show (((putTh M.things q t).getD i noTh).place : Int) ≤ 1048576
        rw [hg]
        split
        · rw [t4]; have := h.room; omega
        · rename_i e; exact h.model.place i (hin i hi e)⟩
    deep := fun j hj hne => by
      rw [hO] at hj hne ⊢
      rw [hOg] at hne ⊢
      by_cases e : j = H.order.length
      · rw [if_pos e, hS, if_pos rfl]
        show 2 * j ≤ H.mem.length
        omega
      · rw [if_neg e] at hne ⊢
        simp at hj
        obtain ⟨o1, o2, o3⟩ := h.order j (by omega) hne
        have hne2 : H.order.getD j 0 ≠ q + 1 := fun e2 => by
          rw [e2, Nat.add_sub_cancel, hfree.1] at o2
          simp at o2
        rw [hS, if_neg hne2]
        exact h.deep j (by omega) hne
    most := by show (putTh M.things q t).length ≤ M.oops; omega
    room := h.room }
end Go.Proofs.YtdkbnnhcjaibdaaDoor

