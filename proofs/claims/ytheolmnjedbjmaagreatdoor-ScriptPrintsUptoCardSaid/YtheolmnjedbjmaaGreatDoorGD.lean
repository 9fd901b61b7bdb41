import Derived.Test.YtheolmnjedbjmaaGreatDoorSM3
namespace Go.Proofs.YtheolmnjedbjmaaGreatDoor
open Go.RowKit
set_option linter.unusedVariables false
set_option linter.unusedSimpArgs false
attribute [local go_sem ↓] Go.wp_at_zero Go.wp_at_succ
/-- a list of texts that can be read -/
def Rs (W : World) (p : Option Addr) (l : List ByteArray) : Prop := ∀ j (hj : j < l.length), ∃ g off, p = some ⟨g, off, none⟩ ∧ W.cell? ⟨g, off + j, none⟩ = some (.string l[j])
theorem take_eq_succ (la lb : List ByteArray) (i : Nat) (ha : i < la.length) (hb : i < lb.length) (h : la.take i = lb.take i) (he : la[i] = lb[i]) : la.take (i + 1) = lb.take (i + 1) := by
  rw [List.take_succ_eq_append_getElem ha, List.take_succ_eq_append_getElem hb, h, he]
set_option maxRecDepth 100000 in
set_option maxHeartbeats 4000000 in
theorem sameNames_ok (W : World) (p q : Option Addr) (la lb : List ByteArray) (ca cb : Nat) (ha : Rs W p la) (hb : Rs W q lb) (hla : la.length ≤ 4611686018427387904) (hlb : lb.length ≤ 4611686018427387904) : Calls Tryz.prog 48 #[.slice p la.length ca, .slice q lb.length cb] W fun e w' => e = .returned (.bool (decide (la = lb))) ∧ Bl W w' := by
  have HA := mkHid ha
  have HB := mkHid hb
  clear ha hb
  by_cases hne : la.length = lb.length
  · have hne1 : ¬ (la.length : Int) ≠ (lb.length : Int) := by omega
    have hne2 : (la.length : Int) = (lb.length : Int) := by omega
    go_enter Tryz.func48, Tryz.ntmps48
    go_wp2_with fail
    go_loopw [5] (fun x wr => ∃ j : Nat, j ≤ la.length ∧ x = .int .i64 (j : Int) ∧ Hid (la.take j = lb.take j ∧ ∃ k, wr = W.drewN k)) (fun x _ => la.length - (intOf x).toNat)
    case atStart => exact ⟨0, Nat.zero_le _, rfl, by simp, 0, rfl⟩
    case round =>
      obtain ⟨j, hj, rfl, hst⟩ := hrel
      have j0 : (0 : Int) ≤ (j : Int) := by omega
      obtain ⟨htk, k, rfl⟩ := hst.out
      by_cases hlt : j < la.length
      · have j1 : (j : Int) < (la.length : Int) := by omega
        have j2 : (j : Int) < (lb.length : Int) := by omega
        obtain ⟨g1, o1, rfl, c1⟩ := HA.out j hlt
        obtain ⟨g2, o2, rfl, c2⟩ := HB.out j (by omega)
        have HTk := mkHid (take_eq_succ la lb j hlt (by omega) htk)
        have HNe : Hid (la[j] ≠ lb[j]'(by omega) → decide (la = lb) = false) := mkHid (fun h => decide_eq_false (fun e => h (by subst e; rfl)))
        clear hst htk HA HB
        have hlb2 : j < lb.length := by omega
        by_cases he : la[j] = lb[j]'hlb2
        · have hq := HTk.out he
          generalize la[j] = x1 at *
          generalize lb[j]'hlb2 = x2 at *
          subst he
          have HQ := mkHid hq
          clear hq HTk HNe
          go_upto_region 6 with fail
          refine wp_region_held_drew (S := fun U => U.cell? ⟨g1, o1 + j, none⟩ = some (.string x1) ∧ U.cell? ⟨g2, o2 + j, none⟩ = some (.string x1)) (by kernel_rfl) (⟨c1, c2⟩) (fun hHeld => ?_)
          refine wpAnyH_take (i := 0) (v := ?_) rfl (by kernel_rfl) (by kernel_rfl) (by kernel_rfl) (fun _ _ _ h => h) (Or.inl ⟨by rfl, ?_⟩) (by assumption) ?_
          rotate_left
          · (intro w hSw; (try dsimp only at hSw); (try go_split_ands); first | (go_simp; done) | (go_simp; with_reducible rfl))
          try simp only [Act.put, List.getElem_toArray, List.getElem_cons_zero, List.getElem_cons_succ, List.setIfInBounds_toArray, List.set_cons_zero, List.set_cons_succ]
          refine wpAnyH_take (i := 1) (v := ?_) rfl (by kernel_rfl) (by kernel_rfl) (by kernel_rfl) (fun _ _ _ h => h) (Or.inl ⟨by rfl, ?_⟩) (by assumption) ?_
          rotate_left
          · (intro w hSw; (try dsimp only at hSw); (try go_split_ands); first | (go_simp; done) | (go_simp; with_reducible rfl))
          try simp only [Act.put, List.getElem_toArray, List.getElem_cons_zero, List.getElem_cons_succ, List.setIfInBounds_toArray, List.set_cons_zero, List.set_cons_succ]
          refine wpAnyH_take (i := 2) (v := ?_) rfl (by kernel_rfl) (by kernel_rfl) (by kernel_rfl) (fun _ _ _ h => h) (Or.inl ⟨by rfl, ?_⟩) (by assumption) ?_
          rotate_left
          · (intro w hSw; (try dsimp only at hSw); (try go_split_ands); first | (go_simp; done) | (go_simp; with_reducible rfl))
          try simp only [Act.put, List.getElem_toArray, List.getElem_cons_zero, List.getElem_cons_succ, List.setIfInBounds_toArray, List.set_cons_zero, List.set_cons_succ]
          refine wpAnyH_take (i := 3) (v := ?_) rfl (by kernel_rfl) (by kernel_rfl) (by kernel_rfl) (fun _ _ _ h => h) (Or.inl ⟨by rfl, ?_⟩) (by assumption) ?_
          rotate_left
          · (intro w hSw; (try dsimp only at hSw); (try go_split_ands); first | (go_simp; done) | (go_simp; with_reducible rfl))
          try simp only [Act.put, List.getElem_toArray, List.getElem_cons_zero, List.getElem_cons_succ, List.setIfInBounds_toArray, List.set_cons_zero, List.set_cons_succ]
          refine wpAnyH_take (i := 4) (v := ?_) rfl (by kernel_rfl) (by kernel_rfl) (by kernel_rfl) (fun _ _ _ h => h) (Or.inl ⟨by rfl, ?_⟩) (by assumption) ?_
          rotate_left
          · (intro w hSw; (try dsimp only at hSw); (try go_split_ands); first | (go_simp; done) | (go_simp; with_reducible rfl))
          try simp only [Act.put, List.getElem_toArray, List.getElem_cons_zero, List.getElem_cons_succ, List.setIfInBounds_toArray, List.set_cons_zero, List.set_cons_succ]
          refine wpAnyH_take (i := 5) (v := ?_) rfl (by kernel_rfl) (by kernel_rfl) (by kernel_rfl) (fun _ _ _ h => h) (Or.inl ⟨by rfl, ?_⟩) (by assumption) ?_
          rotate_left
          · (intro w hSw; (try dsimp only at hSw); (try go_split_ands); first | (go_simp; done) | (go_simp; with_reducible rfl))
          try simp only [Act.put, List.getElem_toArray, List.getElem_cons_zero, List.getElem_cons_succ, List.setIfInBounds_toArray, List.set_cons_zero, List.set_cons_succ]
          refine wpAnyH_take (i := 6) (v := ?_) rfl (by kernel_rfl) (by kernel_rfl) (by kernel_rfl) (fun _ _ _ h => h) (Or.inl ⟨by rfl, ?_⟩) (by assumption) ?_
          rotate_left
          · (intro w hSw; (try dsimp only at hSw); (try go_split_ands); first | (go_simp; done) | (go_simp; with_reducible rfl))
          try simp only [Act.put, List.getElem_toArray, List.getElem_cons_zero, List.getElem_cons_succ, List.setIfInBounds_toArray, List.set_cons_zero, List.set_cons_succ]
          refine wpAnyH_take (i := 7) (v := ?_) rfl (by kernel_rfl) (by kernel_rfl) (by kernel_rfl) (fun _ _ _ h => h) (Or.inl ⟨by rfl, ?_⟩) (by assumption) ?_
          rotate_left
          · (intro w hSw; (try dsimp only at hSw); (try go_split_ands); first | (go_simp; done) | (go_simp; with_reducible rfl))
          try simp only [Act.put, List.getElem_toArray, List.getElem_cons_zero, List.getElem_cons_succ, List.setIfInBounds_toArray, List.set_cons_zero, List.set_cons_succ]
          refine wpAnyH_take (i := 8) (v := .bool false) rfl (by kernel_rfl) (by kernel_rfl) (by kernel_rfl) (fun _ _ _ h => h) (Or.inl ⟨by rfl, ?_⟩) (by assumption) ?_
          · (intro w hSw; (try dsimp only at hSw); (try go_split_ands); go_simp; try first | rfl | (simp; done))
          try simp only [Act.put, List.getElem_toArray, List.getElem_cons_zero, List.getElem_cons_succ, List.setIfInBounds_toArray, List.set_cons_zero, List.set_cons_succ]
          refine wpAnyH_done (by kernel_rfl) ?_ _
          go_wp2_with fail
          go_roundw
          case rel => exact ⟨j + 1, by omega, by go_num, HQ.out, k + 1, rfl⟩
          case measure => simp [intOf]; omega
        · have hq := HNe.out he
          have hq2 : ¬ (la[j].toList = (lb[j]'hlb2).toList) := fun e => he (by
            have e2 : la[j].data.toList = (lb[j]'hlb2).data.toList := by rw [← toList_data, ← toList_data]; exact e
            exact ByteArray.ext (Array.toList_inj.1 e2))
          generalize la[j] = x1 at *
          generalize lb[j]'hlb2 = x2 at *
          clear HTk HNe
          go_upto_region 6 with fail
          refine wp_region_held_drew (S := fun U => U.cell? ⟨g1, o1 + j, none⟩ = some (.string x1) ∧ U.cell? ⟨g2, o2 + j, none⟩ = some (.string x2)) (by kernel_rfl) (⟨c1, c2⟩) (fun hHeld => ?_)
          refine wpAnyH_take (i := 0) (v := ?_) rfl (by kernel_rfl) (by kernel_rfl) (by kernel_rfl) (fun _ _ _ h => h) (Or.inl ⟨by rfl, ?_⟩) (by assumption) ?_
          rotate_left
          · (intro w hSw; (try dsimp only at hSw); (try go_split_ands); first | (go_simp; done) | (go_simp; with_reducible rfl))
          try simp only [Act.put, List.getElem_toArray, List.getElem_cons_zero, List.getElem_cons_succ, List.setIfInBounds_toArray, List.set_cons_zero, List.set_cons_succ]
          refine wpAnyH_take (i := 1) (v := ?_) rfl (by kernel_rfl) (by kernel_rfl) (by kernel_rfl) (fun _ _ _ h => h) (Or.inl ⟨by rfl, ?_⟩) (by assumption) ?_
          rotate_left
          · (intro w hSw; (try dsimp only at hSw); (try go_split_ands); first | (go_simp; done) | (go_simp; with_reducible rfl))
          try simp only [Act.put, List.getElem_toArray, List.getElem_cons_zero, List.getElem_cons_succ, List.setIfInBounds_toArray, List.set_cons_zero, List.set_cons_succ]
          refine wpAnyH_take (i := 2) (v := ?_) rfl (by kernel_rfl) (by kernel_rfl) (by kernel_rfl) (fun _ _ _ h => h) (Or.inl ⟨by rfl, ?_⟩) (by assumption) ?_
          rotate_left
          · (intro w hSw; (try dsimp only at hSw); (try go_split_ands); first | (go_simp; done) | (go_simp; with_reducible rfl))
          try simp only [Act.put, List.getElem_toArray, List.getElem_cons_zero, List.getElem_cons_succ, List.setIfInBounds_toArray, List.set_cons_zero, List.set_cons_succ]
          refine wpAnyH_take (i := 3) (v := ?_) rfl (by kernel_rfl) (by kernel_rfl) (by kernel_rfl) (fun _ _ _ h => h) (Or.inl ⟨by rfl, ?_⟩) (by assumption) ?_
          rotate_left
          · (intro w hSw; (try dsimp only at hSw); (try go_split_ands); first | (go_simp; done) | (go_simp; with_reducible rfl))
          try simp only [Act.put, List.getElem_toArray, List.getElem_cons_zero, List.getElem_cons_succ, List.setIfInBounds_toArray, List.set_cons_zero, List.set_cons_succ]
          refine wpAnyH_take (i := 4) (v := ?_) rfl (by kernel_rfl) (by kernel_rfl) (by kernel_rfl) (fun _ _ _ h => h) (Or.inl ⟨by rfl, ?_⟩) (by assumption) ?_
          rotate_left
          · (intro w hSw; (try dsimp only at hSw); (try go_split_ands); first | (go_simp; done) | (go_simp; with_reducible rfl))
          try simp only [Act.put, List.getElem_toArray, List.getElem_cons_zero, List.getElem_cons_succ, List.setIfInBounds_toArray, List.set_cons_zero, List.set_cons_succ]
          refine wpAnyH_take (i := 5) (v := ?_) rfl (by kernel_rfl) (by kernel_rfl) (by kernel_rfl) (fun _ _ _ h => h) (Or.inl ⟨by rfl, ?_⟩) (by assumption) ?_
          rotate_left
          · (intro w hSw; (try dsimp only at hSw); (try go_split_ands); first | (go_simp; done) | (go_simp; with_reducible rfl))
          try simp only [Act.put, List.getElem_toArray, List.getElem_cons_zero, List.getElem_cons_succ, List.setIfInBounds_toArray, List.set_cons_zero, List.set_cons_succ]
          refine wpAnyH_take (i := 6) (v := ?_) rfl (by kernel_rfl) (by kernel_rfl) (by kernel_rfl) (fun _ _ _ h => h) (Or.inl ⟨by rfl, ?_⟩) (by assumption) ?_
          rotate_left
          · (intro w hSw; (try dsimp only at hSw); (try go_split_ands); first | (go_simp; done) | (go_simp; with_reducible rfl))
          try simp only [Act.put, List.getElem_toArray, List.getElem_cons_zero, List.getElem_cons_succ, List.setIfInBounds_toArray, List.set_cons_zero, List.set_cons_succ]
          refine wpAnyH_take (i := 7) (v := ?_) rfl (by kernel_rfl) (by kernel_rfl) (by kernel_rfl) (fun _ _ _ h => h) (Or.inl ⟨by rfl, ?_⟩) (by assumption) ?_
          rotate_left
          · (intro w hSw; (try dsimp only at hSw); (try go_split_ands); first | (go_simp; done) | (go_simp; with_reducible rfl))
          try simp only [Act.put, List.getElem_toArray, List.getElem_cons_zero, List.getElem_cons_succ, List.setIfInBounds_toArray, List.set_cons_zero, List.set_cons_succ]
          refine wpAnyH_take (i := 8) (v := .bool true) rfl (by kernel_rfl) (by kernel_rfl) (by kernel_rfl) (fun _ _ _ h => h) (Or.inl ⟨by rfl, ?_⟩) (by assumption) ?_
          · (intro w hSw; (try dsimp only at hSw); (try go_split_ands); go_simp; try first | rfl | (simp [hq2]; done))
          try simp only [Act.put, List.getElem_toArray, List.getElem_cons_zero, List.getElem_cons_succ, List.setIfInBounds_toArray, List.set_cons_zero, List.set_cons_succ]
          refine wpAnyH_done (by kernel_rfl) ?_ _
          go_wp2_with fail
          go_ret
          exact ⟨by rw [hq]; rfl, (bl_drewN W k).trans (bl_drew _)⟩
      · have hje : j = la.length := by omega
        subst hje
        have hq : la = lb := by
          rw [List.take_of_length_le (Nat.le_refl _)] at htk
          rw [htk, hne, List.take_of_length_le (Nat.le_refl _)]
        clear hst htk HA HB
        go_wp2_with fail
        go_ret
        exact ⟨by rw [decide_eq_true hq]; rfl, bl_drewN W k⟩
  · have hne1 : (la.length : Int) ≠ (lb.length : Int) := by omega
    have hne2 : decide (la = lb) = false := decide_eq_false (fun e => hne (by rw [e]))
    go_enter Tryz.func48, Tryz.ntmps48
    go_wp2_with fail
    go_ret
    exact ⟨by rw [hne2]; rfl, Bl.refl _⟩
end Go.Proofs.YtheolmnjedbjmaaGreatDoor

namespace Go.Proofs.YtheolmnjedbjmaaGreatDoor
open Go.RowKit
set_option linter.unusedVariables false
set_option linter.unusedSimpArgs false
attribute [local go_sem ↓] Go.wp_at_zero Go.wp_at_succ
/-- an act, with its list of names apart -/
structure AK where
  kind : Int
  name : ByteArray
  other : ByteArray
  names : List ByteArray
  text : ByteArray
  num : Int
  fuel : Int
deriving DecidableEq
def AK.v (a : AK) (p : Option Addr) (c : Nat) : Value := .agg #[.int .i64 a.kind, .string a.name, .string a.other, .slice p a.names.length c, .string a.text, .int .i64 a.num, .int .i64 a.fuel]
theorem ba_ne {x y : ByteArray} (h : ¬ x = y) : ¬ x.toList = y.toList := fun e => h (by
  have e2 : x.data.toList = y.data.toList := by rw [← toList_data, ← toList_data]; exact e
  exact ByteArray.ext (Array.toList_inj.1 e2))
theorem Rs.bl {W W' : World} {p : Option Addr} {l : List ByteArray} (h : Rs W p l) (k : Bl W W') : Rs W' p l := fun j hj => by
  obtain ⟨g, off, e, hc⟩ := h j hj
  refine ⟨g, off, e, ?_⟩
  have hlt : g < W.heap.size := by
    rcases Nat.lt_or_ge g W.heap.size with h1 | h1
    · exact h1
    · simp [World.cell?, Array.getElem?_eq_none h1] at hc
  rw [World.cell?_of_block (w := W) (k.block g hlt)]
  exact hc
set_option maxRecDepth 100000 in
set_option maxHeartbeats 8000000 in
theorem same_ok (W : World) (a b : AK) (p q : Option Addr) (ca cb : Nat) (ha : Rs W p a.names) (hb : Rs W q b.names) (hla : a.names.length ≤ 4611686018427387904) (hlb : b.names.length ≤ 4611686018427387904) : Calls Tryz.prog 29 #[a.v p ca, b.v q cb] W fun e w' => e = .returned (.bool (decide (a = b))) ∧ Bl W w' := by
  obtain ⟨k1, n1, o1, l1, t1, x1, y1⟩ := a
  obtain ⟨k2, n2, o2, l2, t2, x2, y2⟩ := b
  simp only [AK.v] at *
  have HSm : Hid (∀ U, Bl W U → Calls Tryz.prog 48 #[.slice p l1.length ca, .slice q l2.length cb] U fun e w' => e = .returned (.bool (decide (l1 = l2))) ∧ Bl U w') := fun U hU => sameNames_ok U p q l1 l2 ca cb (ha.bl hU) (hb.bl hU) hla hlb
  clear ha hb hla hlb
  obtain ⟨o1x, hbx1⟩ : ∃ o : Obj, o = .cells #[.int .i64 k1, .string n1, .string o1, .slice p l1.length ca, .string t1, .int .i64 x1, .int .i64 y1] 40 := ⟨_, rfl⟩
  obtain ⟨o2x, hbx2⟩ : ∃ o : Obj, o = .cells #[.int .i64 k2, .string n2, .string o2, .slice q l2.length cb, .string t2, .int .i64 x2, .int .i64 y2] 40 := ⟨_, rfl⟩
  have HBL : Hid (Bl W ((W.alloc o1x).alloc o2x)) := (Bl.alloc W _).trans (Bl.alloc _ _)
  have HSm2 := mkHid (HSm.out _ HBL.out)
  subst hbx1 hbx2
  clear HSm
  by_cases hk : k1 = k2
  rotate_left
  · have hD : decide ((⟨k1, n1, o1, l1, t1, x1, y1⟩ : AK) = ⟨k2, n2, o2, l2, t2, x2, y2⟩) = false := decide_eq_false (fun e => hk (by injection e))
    clear HSm2
    go_enter Tryz.func29, Tryz.ntmps29
    go_wp2_with fail
    go_ret
    exact ⟨by rw [hD]; rfl, HBL.out⟩
  subst hk
  by_cases hn : n1 = n2
  rotate_left
  · have hD : decide ((⟨k1, n1, o1, l1, t1, x1, y1⟩ : AK) = ⟨k1, n2, o2, l2, t2, x2, y2⟩) = false := decide_eq_false (fun e => hn (by injection e))
    have hns := ba_ne hn
    clear HSm2
    go_enter Tryz.func29, Tryz.ntmps29
    go_wp2_with fail
    go_ret
    exact ⟨by rw [hD]; rfl, HBL.out⟩
  subst hn
  by_cases ho : o1 = o2
  rotate_left
  · have hD : decide ((⟨k1, n1, o1, l1, t1, x1, y1⟩ : AK) = ⟨k1, n1, o2, l2, t2, x2, y2⟩) = false := decide_eq_false (fun e => ho (by injection e))
    have hos := ba_ne ho
    clear HSm2
    go_enter Tryz.func29, Tryz.ntmps29
    go_wp2_with fail
    go_ret
    exact ⟨by rw [hD]; rfl, HBL.out⟩
  subst ho
  by_cases ht : t1 = t2
  rotate_left
  · have hD : decide ((⟨k1, n1, o1, l1, t1, x1, y1⟩ : AK) = ⟨k1, n1, o1, l2, t2, x2, y2⟩) = false := decide_eq_false (fun e => ht (by injection e))
    have hts := ba_ne ht
    clear HSm2
    go_enter Tryz.func29, Tryz.ntmps29
    go_wp2_with fail
    go_ret
    exact ⟨by rw [hD]; rfl, HBL.out⟩
  subst ht
  by_cases hx : x1 = x2
  rotate_left
  · have hD : decide ((⟨k1, n1, o1, l1, t1, x1, y1⟩ : AK) = ⟨k1, n1, o1, l2, t1, x2, y2⟩) = false := decide_eq_false (fun e => hx (by injection e))
    clear HSm2
    go_enter Tryz.func29, Tryz.ntmps29
    go_wp2_with fail
    go_ret
    exact ⟨by rw [hD]; rfl, HBL.out⟩
  subst hx
  by_cases hy : y1 = y2
  rotate_left
  · have hD : decide ((⟨k1, n1, o1, l1, t1, x1, y1⟩ : AK) = ⟨k1, n1, o1, l2, t1, x1, y2⟩) = false := decide_eq_false (fun e => hy (by injection e))
    clear HSm2
    go_enter Tryz.func29, Tryz.ntmps29
    go_wp2_with fail
    go_ret
    exact ⟨by rw [hD]; rfl, HBL.out⟩
  subst hy
  have hD : decide ((⟨k1, n1, o1, l1, t1, x1, y1⟩ : AK) = ⟨k1, n1, o1, l2, t1, x1, y1⟩) = decide (l1 = l2) := by
    by_cases h : l1 = l2
    · subst h; simp
    · rw [decide_eq_false h]; exact decide_eq_false (fun e => h (by injection e))
  go_enter Tryz.func29, Tryz.ntmps29
  go_wp2_with (go_at_call 48; refine HSm2.out.mono ?_; rintro e w3 ⟨rfl, b3⟩; have B3 := mkHid b3; clear b3)
  go_ret
  exact ⟨by rw [hD]; rfl, HBL.out.trans B3.out⟩
end Go.Proofs.YtheolmnjedbjmaaGreatDoor

namespace Go.Proofs.YtheolmnjedbjmaaGreatDoor
open Go.RowKit
set_option linter.unusedVariables false
set_option linter.unusedSimpArgs false
attribute [local go_sem ↓] Go.wp_at_zero Go.wp_at_succ
/-- no field says anything -/
def AK.bare (a : AK) : Bool := decide (a.name = ⟨#[]⟩) && decide (a.other = ⟨#[]⟩) && decide (a.names.length = 0) && decide (a.text = ⟨#[]⟩) && decide (a.num = 0) && decide (a.fuel = 0)
set_option maxRecDepth 100000 in
set_option maxHeartbeats 8000000 in
theorem isBare_ok (W : World) (a : AK) (p : Option Addr) (c : Nat) (hl : a.names.length ≤ 4611686018427387904) : Calls Tryz.prog 44 #[a.v p c] W fun e w' => e = .returned (.bool a.bare) ∧ Bl W w' := by
  obtain ⟨k, n, o, l, t, x, y⟩ := a
  simp only [AK.v] at *
  have HBL : Hid (∀ ob, Bl W (W.alloc ob)) := fun ob => Bl.alloc W _
  by_cases hn : n = ⟨#[]⟩
  rotate_left
  · have hD : AK.bare ⟨k, n, o, l, t, x, y⟩ = false := by unfold AK.bare; simp [hn]
    have hns := ba_ne hn
    have hnz : ¬ n.toList = [] := fun e => hns (by rw [e, toList_data])
    go_enter Tryz.func44, Tryz.ntmps44
    go_wp2_with fail
    go_ret
    exact ⟨by rw [hD]; rfl, HBL.out _⟩
  subst hn
  by_cases ho : o = ⟨#[]⟩
  rotate_left
  · have hD : AK.bare ⟨k, ⟨#[]⟩, o, l, t, x, y⟩ = false := by unfold AK.bare; simp [ho]
    have hos := ba_ne ho
    have hoz : ¬ o.toList = [] := fun e => hos (by rw [e, toList_data])
    go_enter Tryz.func44, Tryz.ntmps44
    go_wp2_with fail
    go_ret
    exact ⟨by rw [hD]; rfl, HBL.out _⟩
  subst ho
  by_cases hl2 : l = []
  rotate_left
  · have hD : AK.bare ⟨k, ⟨#[]⟩, ⟨#[]⟩, l, t, x, y⟩ = false := by unfold AK.bare; simp [hl2]
    have hlz : l.length ≠ 0 := fun e => hl2 (List.length_eq_zero_iff.1 e)
    have hli : ¬ (l.length : Int) = 0 := by omega
    go_enter Tryz.func44, Tryz.ntmps44
    go_wp2_with fail
    go_ret
    exact ⟨by rw [hD]; rfl, HBL.out _⟩
  subst hl2
  by_cases ht : t = ⟨#[]⟩
  rotate_left
  · have hD : AK.bare ⟨k, ⟨#[]⟩, ⟨#[]⟩, [], t, x, y⟩ = false := by unfold AK.bare; simp [ht]
    have hts := ba_ne ht
    have htz : ¬ t.toList = [] := fun e => hts (by rw [e, toList_data])
    go_enter Tryz.func44, Tryz.ntmps44
    go_wp2_with fail
    go_ret
    exact ⟨by rw [hD]; rfl, HBL.out _⟩
  subst ht
  by_cases hx : x = 0
  rotate_left
  · have hD : AK.bare ⟨k, ⟨#[]⟩, ⟨#[]⟩, [], ⟨#[]⟩, x, y⟩ = false := by unfold AK.bare; simp [hx]
    go_enter Tryz.func44, Tryz.ntmps44
    go_wp2_with fail
    go_ret
    exact ⟨by rw [hD]; rfl, HBL.out _⟩
  subst hx
  by_cases hy : y = 0
  rotate_left
  · have hD : AK.bare ⟨k, ⟨#[]⟩, ⟨#[]⟩, [], ⟨#[]⟩, 0, y⟩ = false := by unfold AK.bare; simp [hy]
    go_enter Tryz.func44, Tryz.ntmps44
    go_wp2_with fail
    go_ret
    exact ⟨by rw [hD, ← (show (y == 0) = false by simpa using hy)]; rfl, HBL.out _⟩
  subst hy
  have hD : AK.bare ⟨k, ⟨#[]⟩, ⟨#[]⟩, [], ⟨#[]⟩, 0, 0⟩ = true := by unfold AK.bare; simp
  go_enter Tryz.func44, Tryz.ntmps44
  go_wp2_with fail
  go_ret
  exact ⟨by rw [hD]; rfl, HBL.out _⟩
end Go.Proofs.YtheolmnjedbjmaaGreatDoor

namespace Go.Proofs.YtheolmnjedbjmaaGreatDoor
open Go.RowKit
set_option linter.unusedVariables false
set_option linter.unusedSimpArgs false
attribute [local go_sem ↓] Go.wp_at_zero Go.wp_at_succ
def actsC : Array Value := #[.string ⟨#[]⟩, .string ⟨#[99, 108, 97, 115, 115]⟩, .string ⟨#[109, 101, 116, 104, 111, 100]⟩, .string ⟨#[114, 101, 109, 111, 118, 101]⟩, .string ⟨#[103, 108, 111, 98, 97, 108]⟩, .string ⟨#[115, 112, 97, 119, 110]⟩, .string ⟨#[114, 117, 110]⟩, .string ⟨#[114, 101, 115, 104, 97, 112, 101]⟩, .string ⟨#[99, 111, 108, 108, 101, 99, 116]⟩, .string ⟨#[105, 110, 115, 112, 101, 99, 116]⟩, .string ⟨#[109, 97, 114, 107]⟩, .string ⟨#[115, 97, 118, 101]⟩, .string ⟨#[108, 111, 97, 100]⟩]
def shapesC : Array Value := #[.string ⟨#[]⟩, .string ⟨#[110, 111, 42]⟩, .string ⟨#[110, 116]⟩, .string ⟨#[110, 111]⟩, .string ⟨#[110]⟩, .string ⟨#[116]⟩, .string ⟨#[35, 102]⟩, .string ⟨#[110, 42]⟩, .string ⟨#[]⟩, .string ⟨#[]⟩, .string ⟨#[35]⟩, .string ⟨#[]⟩, .string ⟨#[116]⟩]
theorem num_ok (W : World) (n : Int) : Calls Tryz.prog 10 #[.int .i64 n] W fun e w' => e = .returned (.int .i64 n) ∧ Bl W w' := by
  go_enter Tryz.func10, Tryz.ntmps10
  go_wp2_with fail
  go_ret
  exact ⟨rfl, Bl.refl _⟩
set_option maxRecDepth 100000 in
theorem racts_ok (W : World) : Calls Tryz.prog 56 #[] W fun e w' => e = .returned (.slice (some ⟨W.heap.size, 0, none⟩) 13 13) ∧ w' = W.alloc (.cells actsC 9) := by
  go_enter Tryz.func56, Tryz.ntmps56
  go_wp2_with fail
  go_ret
  exact ⟨rfl, rfl⟩
set_option maxRecDepth 100000 in
theorem rshapes_ok (W : World) : Calls Tryz.prog 57 #[] W fun e w' => e = .returned (.slice (some ⟨W.heap.size, 0, none⟩) 13 13) ∧ w' = W.alloc (.cells shapesC 9) := by
  go_enter Tryz.func57, Tryz.ntmps57
  go_wp2_with fail
  go_ret
  exact ⟨rfl, rfl⟩
end Go.Proofs.YtheolmnjedbjmaaGreatDoor

