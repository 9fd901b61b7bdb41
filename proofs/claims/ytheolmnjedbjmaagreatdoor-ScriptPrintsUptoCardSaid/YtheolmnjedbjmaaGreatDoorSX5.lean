import Derived.Test.YtheolmnjedbjmaaGreatDoorGF
namespace Go.Proofs.YtheolmnjedbjmaaGreatDoor
open Go.RowKit
set_option linter.unusedVariables false
set_option linter.unusedSimpArgs false
attribute [local go_sem ↓] Go.wp_at_zero Go.wp_at_succ
theorem Wf.below {B : Nat} {S : List Nat} {w w' : World} (h : Wf B S w w') (hB : B ≤ w.heap.size) (hS : ∀ b ∈ S, B ≤ b) : Below B w w' :=
  ⟨h.os, h.tape, h.output, h.size, fun k hk => by
    obtain ⟨o, ho⟩ : ∃ o, w.heap[k]? = some o := ⟨w.heap[k], by rw [Array.getElem?_eq_getElem (by omega)]⟩
    rw [ho]
    exact h.block k o ho (fun hm => by have := hS k hm; omega) (Or.inl hk)⟩
theorem Pz.lower {W : World} {B B' : Nat} {v : Value} {bs : Bs} (h : Pz W B v bs) (hB : B' ≤ B) (ht : Lib.TabBelow Tryz.prog B' W "internal/strconv.uint64pow10" .u64 Lib.pow10Tab) : Pz W B' v bs := by
  rcases h with h | h
  · refine Or.inl ⟨⟨h.row.1, ?_⟩, Nat.le_trans hB h.low, ht⟩
    rcases h.row.2 with h1 | ⟨g, cap, cur, e, hg, r⟩
    · exact Or.inl h1
    · exact Or.inr ⟨g, cap, cur, e, Nat.le_trans hB hg, r⟩
  · obtain ⟨g, cap, cur, fz, e, hg, r⟩ := h.at_
    exact Or.inr ⟨⟨g, cap, cur, fz, e, Nat.le_trans hB hg, r⟩, Nat.le_trans hB h.low, ht⟩
theorem restK_kind (a : AK) (h : 1 ≤ a.kind ∧ a.kind ≤ 12) : (restK a).names.length ≤ a.names.length := by
  obtain ⟨k, n, o, l, t, x, y⟩ := a
  rcases kinds h with rfl | rfl | rfl | rfl | rfl | rfl | rfl | rfl | rfl | rfl | rfl | rfl
  all_goals first | exact Nat.le_refl _ | exact Nat.zero_le _
theorem stK_len (a : AK) (hk : 1 ≤ a.kind ∧ a.kind ≤ 12) (ha : Ak1 a) : (stK a).2.length ≤ 1100100 := by
  have hcs : ∀ k, (wdK k).length ≤ 1000000 := fun k => by
    unfold wdK
    split <;> simp
  have h0 : ∀ k, ((false, wdK k) : Bool × Bs).2.length ≤ 1100000 := fun k => Nat.le_trans (hcs k) (by omega)
  obtain ⟨k, n, o, l, t, x, y⟩ := a
  have hx := itoa_le x ha.num
  have hy := itoa_le y ha.fuel
  rcases kinds hk with rfl | rfl | rfl | rfl | rfl | rfl | rfl | rfl | rfl | rfl | rfl | rfl
  · exact Nat.le_trans (show _ ≤ 1100000 from txsF_len _ _ (txF_len _ _ _ (txF_len _ _ _ (h0 1)))) (by omega)
  · exact Nat.le_trans (show _ ≤ 1100000 from txF_len _ _ _ (txF_len _ _ _ (h0 2))) (by omega)
  · exact Nat.le_trans (show _ ≤ 1100000 from txF_len _ _ _ (txF_len _ _ _ (h0 3))) (by omega)
  · exact Nat.le_trans (show _ ≤ 1100000 from txF_len _ _ _ (h0 4)) (by omega)
  · exact Nat.le_trans (show _ ≤ 1100000 from txF_len _ _ _ (h0 5)) (by omega)
  · show ((wdK 6 ++ 32 :: Lib.itoa x) ++ 32 :: Lib.itoa y).length ≤ _
    have := hcs 6
    simp only [List.length_append, List.length_cons]
    omega
  · exact Nat.le_trans (show _ ≤ 1100000 from txsF_len _ _ (txF_len _ _ _ (h0 7))) (by omega)
  · exact Nat.le_trans (show _ ≤ 1100000 from h0 8) (by omega)
  · exact Nat.le_trans (show _ ≤ 1100000 from h0 9) (by omega)
  · show (wdK 10 ++ 32 :: Lib.itoa x).length ≤ _
    have := hcs 10
    simp only [List.length_append, List.length_cons]
    omega
  · exact Nat.le_trans (show _ ≤ 1100000 from h0 11) (by omega)
  · exact Nat.le_trans (show _ ≤ 1100000 from txF_len _ _ _ (h0 12)) (by omega)
theorem akC_box (a : AK) (p : Option Addr) (c : Nat) : AK.v a p c = .agg (akC a p c) := rfl
/-- the world with the step's box and the writer's page -/
structure Pr (W w3 : World) (v : Value) (bs : Bs) (a : AK) (p : Option Addr) (c : Nat) : Prop where
  page : Pz w3 W.heap.size v bs
  bl : Bl W w3
  act : w3.heap[W.heap.size]? = some (.cells (akC a p c) 40 (0, 0))
set_option maxRecDepth 100000 in
set_option maxHeartbeats 8000000 in
theorem printAct_ok (W : World) (hp : Pw W) (a : AK) (p : Option Addr) (c : Nat) (hr : Rs W p a.names) (ha : Ak1 a) : Calls Tryz.prog 23 #[a.v p c] W fun e w' => e = .returned (.tuple #[.string (paP a).1, .int .i64 (paP a).2]) ∧ Bl W w' := by
  have HBA : Hid (Bl W (W.alloc (.cells (akC a p c) 40))) := Bl.alloc W _
  have HA : Hid ((W.alloc (.cells (akC a p c) 40)).heap[W.heap.size]? = some (.cells (akC a p c) 40 (0, 0))) := heap_alloc_new W _
  have HST := mkHid (stepOf_ok (W.alloc (.cells (akC a p c) 40)) a.kind)
  by_cases hk : 1 ≤ a.kind ∧ a.kind ≤ 12
  rotate_left
  · have HP : Hid (paP a = (⟨#[]⟩, 242)) := by
      show _ = _
      unfold paP
      rw [if_pos (by omega)]
    rw [decide_eq_false hk] at HST
    rw [HP.out]
    have HSB : Hid (∀ w1 cs, cs.size = 6 → cs.all (·.oneCell') = true → Bl (W.alloc (.cells (akC a p c) 40)) w1 → ∃ W2, (w1.alloc (.cells step0 92)).setRow w1.heap.size cs = W2 ∧ Hid (Bl W W2)) := fun w1 cs h1 h2 hb => ⟨_, rfl, bl_setRow ((HBA.out.trans hb).trans (Bl.alloc _ _)) _ _ (HBA.out.trans hb).size⟩
    clear HP HA HBA ha hr
    simp only [AK.v, akC] at *
    go_enter Tryz.func23, Tryz.ntmps23
    go_wp2_with (first
      | (go_at_call 43; refine HST.out.mono ?_; rintro e w1 ⟨⟨cs, rfl, h6, h1, -⟩, hb⟩; obtain ⟨W2, hW2, HB2⟩ := HSB.out w1 cs h6 h1 hb; have H6 := mkHid (And.intro h6 h1); clear h6 h1 hb)
      | (refine wpList_store_row rfl 92 _ _ rfl w1.heap.size cs rfl rfl 92 _ (heap_alloc_new w1 _) (by rw [H6.out.1]; exact size65) (by rw [H6.out.1]; rfl) H6.out.2 ?_; rw [hW2]))
    go_ret2
    exact ⟨rfl, HB2.out⟩
  · rw [decide_eq_true hk] at HST
    obtain ⟨f, hf⟩ : ∃ f, sF a.kind.toNat = f := ⟨_, rfl⟩
    have ef := sF_enters a.kind hk
    rw [hf] at ef
    have hs1 : (stepV a.kind.toNat).size = 6 := rfl
    -- the step in its box
    have HSB : Hid (∀ w1, Bl (W.alloc (.cells (akC a p c) 40)) w1 → ∃ W2, (w1.alloc (.cells step0 92)).setRow w1.heap.size (stepV a.kind.toNat) = W2 ∧ W2.cell? ⟨w1.heap.size, 1, none⟩ = some (.string (ba (wdK a.kind.toNat))) ∧ Hid (W.heap.size < w1.heap.size ∧ Bl W W2 ∧ W2.heap[W.heap.size]? = some (.cells (akC a p c) 40 (0, 0)) ∧ W2.heap[w1.heap.size]? = some (.cells (stepV a.kind.toNat) 92 (0, 0)))) := fun w1 hb => by
      have h2 := setRow_heap (w1.alloc (.cells step0 92)) w1.heap.size _ (stepV a.kind.toNat) 92 _ (heap_alloc_new w1 _)
      have hlt : W.heap.size < w1.heap.size := by have := hb.size; simp at this; omega
      refine ⟨_, rfl, lit_in h2 1 _ rfl, hlt, bl_setRow ((HBA.out.trans hb).trans (Bl.alloc _ _)) _ _ (HBA.out.trans hb).size, ?_, h2⟩
      rw [setRow_other _ _ _ _ (by omega)]
      exact ((hb.trans (Bl.alloc _ _)).block _ (lt_of_heap HA.out)).trans HA.out
    -- the page and the writer's box
    have HCV : Hid (∀ (W2 : World) (s : Nat), W.heap.size < s → Bl W W2 → W2.heap[W.heap.size]? = some (.cells (akC a p c) 40 (0, 0)) → W2.heap[s]? = some (.cells (stepV a.kind.toNat) 92 (0, 0)) → ∃ pv n pc w3, (convert 9 54 (.string (ba (wdK a.kind.toNat)))).run Tryz.prog W2 = .ok (.slice pv n pc) w3 ∧ (w3.alloc (.cells #[.slice pv n pc, .bool false] 97)).cell? ⟨s, 4, none⟩ = some (.func (.func f) #[] #[]) ∧ Hid (Sj (w3.alloc (.cells #[.slice pv n pc, .bool false] 97)) (w3.alloc (.cells #[.slice pv n pc, .bool false] 97)) W.heap.size w3.heap.size W.heap.size (akC a p c) 40 (false, wdK a.kind.toNat)) ∧ Hid (Bl W (w3.alloc (.cells #[.slice pv n pc, .bool false] 97))) ∧ Hid (W.heap.size < w3.heap.size)) := fun W2 s hs hb h1 h2 => by
      obtain ⟨v, w3, hcv, hpz, hb3⟩ := conv_new W2 (hp.bl hb) (wdK a.kind.toNat) (by
        have : ∀ k, (wdK k).length ≤ 1000 := fun k => by unfold wdK; split <;> simp
        have := this a.kind.toNat
        omega)
      have ht3 : Lib.TabBelow Tryz.prog W.heap.size w3 "internal/strconv.uint64pow10" .u64 Lib.pow10Tab := (Pw.tab hp (Nat.le_refl _)).on (hb.trans hb3)
      have hpz2 := hpz.lower hb.size ht3
      obtain ⟨pv, pc, rfl⟩ := hpz2.pv.slice
      have hb4 : Bl W2 (w3.alloc (.cells #[.slice pv (wdK a.kind.toNat).length pc, .bool false] 97)) := hb3.trans (Bl.alloc _ _)
      refine ⟨pv, _, pc, w3, hcv, ?_, ⟨⟨pv, pc, heap_alloc_new w3 _, (hpz2.pv).al _⟩, (hb4.block _ (lt_of_heap h1)).trans h1, Wf.refl _ _ _⟩, hb.trans hb4, ?_⟩
      · rw [← hf]
        exact lit_in ((hb4.block _ (lt_of_heap h2)).trans h2) 4 _ rfl
      · have := hb3.size
        have := lt_of_heap h2
        show W.heap.size < w3.heap.size
        omega
    have HWR : Hid (∀ (w4 : World) (wb : Nat), W.heap.size < wb → Bl W w4 → Sj w4 w4 W.heap.size wb W.heap.size (akC a p c) 40 (false, wdK a.kind.toNat) → Calls Tryz.prog f #[.pointer (some ⟨wb, 0, none⟩), .pointer (some ⟨W.heap.size, 0, none⟩)] w4 fun e w' => (∃ u, e = .returned u) ∧ ∃ p' c', Hid (Sj w4 w' W.heap.size wb W.heap.size (akC (restK a) p' c') 40 (stK a))) := fun w4 wb hwb hb hS => by
      rw [← hf]
      refine write_ok a hk ha hS (by omega) (Nat.le_refl _) (by omega) (fun U hU => hr.bl (Below.trans hb (hU.below hb.size (by intro b hb; simp at hb; omega))))
    have hrl : (restK a).names.length ≤ 4611686018427387904 := by have := restK_kind a hk; have := ha.len; omega
    have HIB : Hid (∀ (U : World) (p' : Option Addr) (c' : Nat), Calls Tryz.prog 44 #[.agg (akC (restK a) p' c')] U fun e w' => e = .returned (.bool (restK a).bare) ∧ Bl U w') := fun U p' c' => isBare_ok U (restK a) p' c' hrl
    have HX : Hid (∀ (w4 w5 : World) (wb : Nat) (p' : Option Addr) (c' : Nat), W.heap.size < wb → Bl W w4 → Hid (Sj w4 w5 W.heap.size wb W.heap.size (akC (restK a) p' c') 40 (stK a)) → w5.cell? ⟨W.heap.size, 0, none⟩ = some (.int .i64 (restK a).kind) ∧ w5.cell? ⟨W.heap.size, 1, none⟩ = some (.string (restK a).name) ∧ w5.cell? ⟨W.heap.size, 2, none⟩ = some (.string (restK a).other) ∧ w5.cell? ⟨W.heap.size, 3, none⟩ = some (.slice p' (restK a).names.length c') ∧ w5.cell? ⟨W.heap.size, 4, none⟩ = some (.string (restK a).text) ∧ w5.cell? ⟨W.heap.size, 5, none⟩ = some (.int .i64 (restK a).num) ∧ w5.cell? ⟨W.heap.size, 6, none⟩ = some (.int .i64 (restK a).fuel) ∧ Hid (∀ w6, Bl w5 w6 → Bl W w6 ∧ Calls Tryz.prog 45 #[.pointer (some ⟨wb, 0, none⟩)] w6 fun e w' => e = .returned (.bool (isL (stK a).1 (stK a).2)) ∧ ∃ n pc pv, w'.cell? ⟨wb, 0, none⟩ = some (.slice pv n pc) ∧ (convert 54 9 (.slice pv n pc)).run Tryz.prog w' = .ok (.string (ba (stK a).2)) w' ∧ Hid (Bl W w'))) := fun w4 w5 wb p' c' hwb hb hS => by
      obtain ⟨pv, pc, hw⟩ := hS.out.box
      have hf5 := hS.out.hf
      have hbW : Bl W w5 := Below.trans hb (hS.out.ch.below hb.size (by intro b hb; simp at hb; omega))
      refine ⟨lit_in hf5 0 _ rfl, lit_in hf5 1 _ rfl, lit_in hf5 2 _ rfl, lit_in hf5 3 _ rfl, lit_in hf5 4 _ rfl, lit_in hf5 5 _ rfl, lit_in hf5 6 _ rfl, fun w6 h6 => ⟨hbW.trans h6, ?_⟩⟩
      have hn := stK_len a hk ha
      refine (isLong_ok w6 wb pv (stK a).2.length pc (stK a).1 (by omega) ((h6.block _ (lt_of_heap hw.box)).trans hw.box)).mono ?_
      rintro e w' ⟨rfl, h7⟩
      have hw7 := hw.bl (h6.trans h7)
      exact ⟨rfl, _, pc, pv, cell_in hw7.box 0, hw7.page.conv, (hbW.trans h6).trans h7⟩
    have HPB : Hid ((restK a).bare = false → paP a = (⟨#[]⟩, 245)) := fun h => by
      unfold paP
      rw [if_neg (by omega), if_pos h]
    have HPL : Hid ((restK a).bare = true → isL (stK a).1 (stK a).2 = true → paP a = (⟨#[]⟩, 241)) := fun h h2 => by
      unfold paP
      rw [if_neg (by omega), if_neg (by simp [h]), if_pos h2]
    have HPO : Hid ((restK a).bare = true → isL (stK a).1 (stK a).2 = false → paP a = (ba (stK a).2, 0)) := fun h h2 => by
      unfold paP
      rw [if_neg (by omega), if_neg (by simp [h]), if_neg (by simp [h2])]
    clear ha HBA HA hp hr
    simp only [AK.v, akC] at *
    cases hbare : (restK a).bare
    · rw [HPB.out hbare]
      go_enter Tryz.func23, Tryz.ntmps23
      go_wp2_with (first
        | (go_at_call 43; refine HST.out.mono ?_; rintro e w1 ⟨⟨cs, rfl, -, -, hcs⟩, hb⟩; obtain rfl := hcs hk; obtain ⟨W2, hW2, hw1, HS2⟩ := HSB.out w1 hb; clear hb)
        | (refine wpList_store_row rfl 92 _ _ rfl w1.heap.size (stepV a.kind.toNat) rfl rfl 92 _ (heap_alloc_new w1 _) (by rw [hs1]; exact size65) (by rw [hs1]; rfl) (step_all _ _ _ _ _ _) ?_; rw [hW2]; obtain ⟨hlt, hb2, h2a, h2s⟩ := HS2.out; obtain ⟨pv, n, pc, w3, hcv, hfn, HSj, HB4, HLT⟩ := HCV.out W2 w1.heap.size hlt hb2 h2a h2s; clear hlt hb2 h2a h2s HS2)
        | (go_at_fn f; refine (HWR.out _ w3.heap.size HLT.out HB4.out HSj.out).mono ?_; rintro e w5 ⟨⟨u, rfl⟩, p', c', hS5⟩; obtain ⟨a0, a1, a2, a3, a4, a5, a6, H6⟩ := HX.out _ w5 w3.heap.size p' c' HLT.out HB4.out hS5)
        | (go_at_call 44; refine (HIB.out _ p' c').mono ?_; rw [hbare]; rintro e w6 ⟨rfl, hb6⟩; obtain ⟨hB6, HL⟩ := H6.out w6 hb6; have HB6 := mkHid hB6; have HLL := mkHid HL; clear hb6 hB6 HL)
        | (go_at_call 45; refine HLL.out.mono ?_; rintro e w7 ⟨rfl, n7, pc7, pv7, hc7, hv7, HB7⟩))
      go_ret2
      exact ⟨rfl, HB6.out⟩
    · cases hlong : isL (stK a).1 (stK a).2
      · rw [HPO.out hbare hlong]
        go_enter Tryz.func23, Tryz.ntmps23
        go_wp2_with (first
          | (go_at_call 43; refine HST.out.mono ?_; rintro e w1 ⟨⟨cs, rfl, -, -, hcs⟩, hb⟩; obtain rfl := hcs hk; obtain ⟨W2, hW2, hw1, HS2⟩ := HSB.out w1 hb; clear hb)
          | (refine wpList_store_row rfl 92 _ _ rfl w1.heap.size (stepV a.kind.toNat) rfl rfl 92 _ (heap_alloc_new w1 _) (by rw [hs1]; exact size65) (by rw [hs1]; rfl) (step_all _ _ _ _ _ _) ?_; rw [hW2]; obtain ⟨hlt, hb2, h2a, h2s⟩ := HS2.out; obtain ⟨pv, n, pc, w3, hcv, hfn, HSj, HB4, HLT⟩ := HCV.out W2 w1.heap.size hlt hb2 h2a h2s; clear hlt hb2 h2a h2s HS2)
          | (go_at_fn f; refine (HWR.out _ w3.heap.size HLT.out HB4.out HSj.out).mono ?_; rintro e w5 ⟨⟨u, rfl⟩, p', c', hS5⟩; obtain ⟨a0, a1, a2, a3, a4, a5, a6, H6⟩ := HX.out _ w5 w3.heap.size p' c' HLT.out HB4.out hS5)
          | (go_at_call 44; refine (HIB.out _ p' c').mono ?_; rw [hbare]; rintro e w6 ⟨rfl, hb6⟩; obtain ⟨hB6, HL⟩ := H6.out w6 hb6; have HB6 := mkHid hB6; have HLL := mkHid HL; clear hb6 hB6 HL)
          | (go_at_call 45; refine HLL.out.mono ?_; rw [hlong]; rintro e w7 ⟨rfl, n7, pc7, pv7, hc7, hv7, HB7⟩))
        go_ret2
        exact ⟨rfl, HB7.out⟩
      · rw [HPL.out hbare hlong]
        go_enter Tryz.func23, Tryz.ntmps23
        go_wp2_with (first
          | (go_at_call 43; refine HST.out.mono ?_; rintro e w1 ⟨⟨cs, rfl, -, -, hcs⟩, hb⟩; obtain rfl := hcs hk; obtain ⟨W2, hW2, hw1, HS2⟩ := HSB.out w1 hb; clear hb)
          | (refine wpList_store_row rfl 92 _ _ rfl w1.heap.size (stepV a.kind.toNat) rfl rfl 92 _ (heap_alloc_new w1 _) (by rw [hs1]; exact size65) (by rw [hs1]; rfl) (step_all _ _ _ _ _ _) ?_; rw [hW2]; obtain ⟨hlt, hb2, h2a, h2s⟩ := HS2.out; obtain ⟨pv, n, pc, w3, hcv, hfn, HSj, HB4, HLT⟩ := HCV.out W2 w1.heap.size hlt hb2 h2a h2s; clear hlt hb2 h2a h2s HS2)
          | (go_at_fn f; refine (HWR.out _ w3.heap.size HLT.out HB4.out HSj.out).mono ?_; rintro e w5 ⟨⟨u, rfl⟩, p', c', hS5⟩; obtain ⟨a0, a1, a2, a3, a4, a5, a6, H6⟩ := HX.out _ w5 w3.heap.size p' c' HLT.out HB4.out hS5)
          | (go_at_call 44; refine (HIB.out _ p' c').mono ?_; rw [hbare]; rintro e w6 ⟨rfl, hb6⟩; obtain ⟨hB6, HL⟩ := H6.out w6 hb6; have HB6 := mkHid hB6; have HLL := mkHid HL; clear hb6 hB6 HL)
          | (go_at_call 45; refine HLL.out.mono ?_; rw [hlong]; rintro e w7 ⟨rfl, n7, pc7, pv7, hc7, hv7, HB7⟩))
        go_ret2
        exact ⟨rfl, HB7.out⟩
end Go.Proofs.YtheolmnjedbjmaaGreatDoor

