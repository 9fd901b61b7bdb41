import Derived.Test.YtkmjimdaimbdfaaDoorSG24VRoom
import Derived.Deep.RegionHeld3
namespace Go.Proofs.YtkmjimdaimbdfaaDoor
open Go.RowKit Go.Maps
set_option linter.unusedVariables false
set_option linter.unusedSimpArgs false
attribute [local go_sem ↓] Go.wp_at_zero Go.wp_at_succ
/-- the words that are followed -/
def rts (root : Int) (st : List Int) : List Int := (if root = 0 then [] else [4 * root]) ++ st
/-- behind a word of the object under way -/
def LvI (ks : List Key) (roots : List Int) (l : List Nat) (n : Nat) (zs : List Int) : Prop := if zs = [] then Lv ks roots l [] (n + 1) [] else Lv ks roots l [] n zs
theorem Lv.go {ks : List Key} {roots : List Int} {l : List Nat} {n : Nat} {z : Int} {zs : List Int} (h : Lv ks roots l [] n (z :: zs)) : LvI ks roots (addP l (nmK ks z)) n zs := by
  unfold LvI
  by_cases hz : zs = []
  · subst hz
    rw [if_pos rfl]
    exact h.last
  · rw [if_neg hz]
    exact h.step hz
theorem addP_len {ks : List Key} {roots : List Int} {l : List Nat} {rz : List Int} {n : Nat} {zs : List Int} (h : Lv ks roots l rz n zs) (hk : ks.length ≤ 65538) : l.length ≤ 65538 := by
  have := h.len
  omega
/-- the first word -/
theorem Lv.first (ks : List Key) (root : Int) (st : List Int) (hr : (root = 0 ∧ atK ks root = none) ∨ (1 ≤ root ∧ root ≤ 65536)) : Lv ks (rts root st) (addP [] (atK ks root)) st 0 [] := by
  have hb := Lv.begin ks (rts root st)
  rcases hr with ⟨h1, h2⟩ | h1
  · rw [h2]
    unfold rts at hb ⊢
    rw [if_pos h1, List.nil_append] at hb ⊢
    exact hb
  · unfold rts at hb ⊢
    rw [if_neg (by omega)] at hb ⊢
    have h3 := Lv.rootStep (z := 4 * root) (rz := st) hb
    have e : nmK ks (4 * root) = atK ks root := by
      unfold nmK
      rw [if_pos ((kind3 _).2 ⟨by omega, by omega, by omega⟩), show 4 * root / 4 = root from by omega]
    rw [e] at h3
    exact h3
/-- all that the walk over the stack has in hand -/
structure Wk1 (V : World) (B : Nat) (ks : List Key) (roots : List Int) (rz : List Int) (n : Nat) (zs : List Int) (v : Value) (l : List Nat) (w : World) : Prop where
  row : Pls w B v l
  lv : Lv ks roots l rz n zs
  fr : Fr [] V w
/-- all that the walk over an object's words has in hand; bx: the object's own copy -/
structure Wk3 (V U : World) (bx : Nat) (ks : List Key) (roots : List Int) (n : Nat) (zs : List Int) (v : Value) (l : List Nat) (w : World) : Prop where
  row : Pls w V.heap.size v l
  lv : LvI ks roots l n zs
  fr : Fr [] V w
  box : w.heap[bx]? = U.heap[bx]?
  apart : v.ownBlock ≠ some bx
  size : U.heap.size ≤ w.heap.size
theorem LvI.cons {ks : List Key} {roots : List Int} {l : List Nat} {n : Nat} {z : Int} {zs : List Int} (h : LvI ks roots l n (z :: zs)) : Lv ks roots l [] n (z :: zs) := by
  unfold LvI at h
  rwa [if_neg (by simp)] at h
theorem Wk3.idle {V U : World} {bx : Nat} {ks : List Key} {roots : List Int} {n : Nat} {zs : List Int} {v : Value} {l : List Nat} {w w' : World} (h : Wk3 V U bx ks roots n zs v l w) (hf : Fr [] w w') (hb : bx < U.heap.size := by omega) : Wk3 V U bx ks roots n zs v l w' :=
  ⟨h.row.idle hf, h.lv, h.fr.trans hf (by simp), (hf.block bx (Nat.lt_of_lt_of_le hb h.size) (by simp)).trans h.box, h.apart, Nat.le_trans h.size hf.size⟩
theorem Wk3.add {V U : World} {bx : Nat} {ks : List Key} {roots : List Int} {n : Nat} {z : Int} {zs : List Int} {v v' : Value} {l : List Nat} {w w' : World} (h : Wk3 V U bx ks roots n (z :: zs) v l w) (hb : bx < U.heap.size) (hp : Pls w' V.heap.size v' (addP l (nmK ks z))) (hf : Fr (ob v) w w') (hn : ∀ g, v'.ownBlock = some g → v.ownBlock = some g ∨ w.heap.size ≤ g) : Wk3 V U bx ks roots n zs v' (addP l (nmK ks z)) w' := by
  have hbw := Nat.lt_of_lt_of_le hb h.size
  refine ⟨hp, h.lv.cons.go, h.fr.trans hf (fun b hb => .inr ?_), (hf.block bx hbw (fun hm => ?_)).trans h.box, fun e => ?_, Nat.le_trans h.size hf.size⟩
  · have hbb : v.ownBlock = some b := by simpa [ob] using hb
    exact (World.ownsRow.lt h.row b hbb).1
  · exact h.apart (by simpa [ob] using hm)
  · rcases hn bx e with h1 | h1
    · exact h.apart h1
    · omega
theorem Wk3.cells {V U : World} {bx : Nat} {ks : List Key} {roots : List Int} {n : Nat} {zs : List Int} {v : Value} {l : List Nat} {w : World} {y0 y1 y2 : Int} {sv : Value} (h : Wk3 V U bx ks roots n zs v l w) (hb : U.heap[bx]? = some (.cells #[.int .i64 y0, .int .i64 y1, .int .i64 y2, sv] 90 (0, 0))) : w.cell? ⟨bx, 1, none⟩ = some (.int .i64 y1) ∧ w.cell? ⟨bx, 2, none⟩ = some (.int .i64 y2) ∧ w.cell? ⟨bx, 3, none⟩ = some sv := by
  have hb2 := h.box.trans hb
  refine ⟨?_, ?_, ?_⟩ <;> (rw [cell_in hb2]; rfl)
set_option maxRecDepth 20000 in
set_option maxHeartbeats 4000000 in
theorem live_k (ks : List Key) (root x1 x2 x3 : Int) (ov kv : Value) (st : List Int) (w : World) (ha : Sat w ov ks) (hk : Rd w kv st) (hr : (root = 0 ∧ atK ks root = none) ∨ (1 ≤ root ∧ root ≤ 65536)) :
    Calls Tryd.prog 27 #[.agg #[.int .i64 x1, .int .i64 x2, .int .i64 x3, ov], .int .i64 root, kv] w fun e w' => ∃ v l, e = .returned v ∧ LvE ks (rts root st) l ∧ Pls w' w.heap.size v l ∧ Fr [] w w' := by
  have HS := mkHid ha
  have HK := mkHid hk
  have HFst := mkHid (Lv.first ks root st hr)
  obtain ⟨pa, ca, rfl, -⟩ := ha.at_
  obtain ⟨pk, ck, rfl, -⟩ := hk.at_
  have hks := ha.short
  have hst := hk.short
  have hat : ∀ i, atK ks root = some i → i ≤ 65538 := fun i hi => by have := (atK_some hi).1; omega
  have HAt := mkHid hat
  clear ha hk hr hat
  go_enter Tryd.func27, Tryd.ntmps27
  go_wp2_with fail
  obtain ⟨V, hV⟩ : ∃ V, (w.alloc (.cells #[.int .i64 x1, .int .i64 x2, .int .i64 x3, .slice pa ks.length ca] 44)) = V := ⟨_, rfl⟩
  rw [hV]
  have hfV : Fr [] w V := by rw [← hV]; exact (Fr.alloc [] _ _)
  have hsz : V.heap.size = w.heap.size + 1 := by rw [← hV]; simp
  have hb1 : V.heap[w.heap.size]? = some (.cells #[.int .i64 x1, .int .i64 x2, .int .i64 x3, .slice pa ks.length ca] 44 (0, 0)) := by
    rw [← hV]; exact heap_alloc_new _ _
  have HSV := mkHid (HS.out.idle hfV)
  have HKV := mkHid (HK.out.idle hfV)
  have HF := mkHid hfV
  have HCl : Hid (∀ W, Hid (Fr [] V W) → W.cell? ⟨w.heap.size, 0, none⟩ = some (.int .i64 x1) ∧ W.cell? ⟨w.heap.size, 1, none⟩ = some (.int .i64 x2) ∧ W.cell? ⟨w.heap.size, 2, none⟩ = some (.int .i64 x3) ∧ W.cell? ⟨w.heap.size, 3, none⟩ = some (.slice pa ks.length ca)) := fun W hW => by
    have hb2 := (hW.out.block _ (lt_of_heap hb1) (by simp)).trans hb1
    refine ⟨?_, ?_, ?_, ?_⟩ <;> (rw [cell_in hb2]; rfl)
  obtain ⟨b0, hb0⟩ : ∃ b0, w.heap.size = b0 := ⟨_, rfl⟩
  have HA0 := mkHid (at_k ks root x1 x2 x3 (.slice pa ks.length ca) V HSV.out)
  clear hfV hV HS HK hb1
  rw [hb0] at HCl hsz ⊢
  have HB0 := mkHid hb0
  clear hb0
  go_wp2_with fail
  refine Calls.mono HA0.out ?_
  rintro e w2 ⟨rfl, hf2⟩
  have HF2 := mkHid hf2
  have HAd := mkHid (added_k V.heap.size [] (atK ks root) (.slice none 0 0) w2 (World.ownsRow_nil _ _ _ _) hf2.size (by simp) HAt.out)
  clear hf2 HA0 HAt
  go_wp2_with fail
  refine Calls.mono HAd.out ?_
  rintro e w3 ⟨v3, rfl, hrow, hf3, hnew⟩
  have HW3 : Hid (Wk1 V V.heap.size ks (rts root st) st 0 [] v3 (addP [] (atK ks root)) w3) := ⟨hrow, HFst.out, HF2.out.trans hf3 (fun b hb => by simp [ob, Value.ownBlock] at hb)⟩
  obtain ⟨p3, c3, rfl⟩ := row_is hrow
  generalize addP [] (atK ks root) = l3 at *
  clear hrow hf3 hnew HAd HF2 HFst
  go_wp2_with fail
  go_loopw [7, 8] (fun v q wr => ∃ k : Nat, k ≤ st.length ∧ q = .int .i64 k ∧ ∃ l p c, v = .slice p l.length c ∧ Hid (Wk1 V V.heap.size ks (rts root st) (st.drop k) 0 [] (.slice p l.length c) l wr)) (fun _ q _ => st.length - (intOf q).toNat)
  case atStart => exact ⟨0, Nat.zero_le _, rfl, l3, p3, c3, rfl, HW3⟩
  case round =>
    obtain ⟨k, hkn, rfl, l, p, c, rfl, hW⟩ := hrel
    by_cases hlt : k < st.length
    · obtain ⟨pk', ck', e3, hpk⟩ := HKV.out.at_
      cases e3
      obtain ⟨gk, ok, rfl, hgl, hck⟩ := hpk (by omega)
      have x0 := hck k hlt
      have HCk : Hid (∀ W, Hid (Fr [] V W) → W.cell? ⟨gk, ok + k, none⟩ = some (.int .i64 (st.getD k 0))) := fun W hW => (hW.out.cell (p := ⟨gk, ok + k, none⟩) hgl (by simp)).trans x0
      have HDr : Hid (st.drop k = st.getD k 0 :: st.drop (k + 1)) := by
        show st.drop k = _
        rw [List.drop_eq_getElem_cons hlt, List.getD_eq_getElem?_getD, List.getElem?_eq_getElem hlt]; rfl
      have HNx : Hid (∀ v' w', Pls w' V.heap.size v' (addP l (nmK ks (st.getD k 0))) → Fr [] V w' → Wk1 V V.heap.size ks (rts root st) (st.drop (k + 1)) 0 [] v' (addP l (nmK ks (st.getD k 0))) w') := fun v' w' h1 h2 => by
        have h3 := hW.out.lv
        rw [HDr.out] at h3
        exact ⟨h1, h3.rootStep, h2⟩
      have hll := addP_len hW.out.lv hks
      have HNm : Hid (∀ W, Hid (Fr [] V W) → Calls Tryd.prog 59 #[.agg #[.int .i64 x1, .int .i64 x2, .int .i64 x3, .slice pa ks.length ca], .int .i64 (st.getD k 0)] W fun e w' => e = .returned (.int .i64 (plN (nmK ks (st.getD k 0)))) ∧ Hid (Fr [] V w') ∧ Hid (Pls W V.heap.size (.slice p l.length c) l → Pls w' V.heap.size (.slice p l.length c) l)) := fun W hW => by
        refine (named_k ks (st.getD k 0) x1 x2 x3 (.slice pa ks.length ca) W (HSV.out.idle hW.out)).mono ?_
        rintro e w' ⟨rfl, hf⟩
        exact ⟨rfl, hW.out.trans hf (by simp), fun h => h.idle hf⟩
      have HAd : Hid (∀ W, Hid (Fr [] V W) → Hid (Pls W V.heap.size (.slice p l.length c) l) → Calls Tryd.prog 58 #[.slice p l.length c, .int .i64 (plN (nmK ks (st.getD k 0)))] W fun e w' => ∃ p' c', e = .returned (.slice p' (addP l (nmK ks (st.getD k 0))).length c') ∧ Hid (Fr [] V w') ∧ Hid (Pls w' V.heap.size (.slice p' (addP l (nmK ks (st.getD k 0))).length c') (addP l (nmK ks (st.getD k 0))))) := fun W hW hp => by
        refine (added_k V.heap.size l (nmK ks (st.getD k 0)) (.slice p l.length c) W hp.out hW.out.size hll (fun i hi => by have := nmK_lt hi; omega)).mono ?_
        rintro e w' ⟨v', rfl, hp', hf', hn'⟩
        obtain ⟨p', c', rfl⟩ := row_is hp'
        refine ⟨p', c', rfl, hW.out.trans hf' (fun b hb => .inr ?_), hp'⟩
        have hbb : (Value.slice p l.length c).ownBlock = some b := by simpa [ob] using hb
        exact (World.ownsRow.lt hp.out b hbb).1
      have hR : Hid (Fr [] V wr) := hW.out.fr
      have hP : Hid (Pls wr V.heap.size (.slice p l.length c) l) := hW.out.row
      have hPd : Hid (Pls wr.drew V.heap.size (.slice p l.length c) l) := hP.out.idle (Fr.drew _ _)
      have k1 : (0 : Int) ≤ (k : Int) := by omega
      have k2 : (k : Int) < (st.length : Int) := by omega
      clear hpk hck x0 HDr hW
      generalize st.getD k 0 = z at *
      generalize addP l (nmK ks z) = l' at *
      generalize plN (nmK ks z) = pz at *
      go_wp2_with fail
      go_region_held3 (fun W => (W.cell? ⟨b0, 0, none⟩ = some (.int .i64 x1) ∧ W.cell? ⟨b0, 1, none⟩ = some (.int .i64 x2) ∧ W.cell? ⟨b0, 2, none⟩ = some (.int .i64 x3) ∧ W.cell? ⟨b0, 3, none⟩ = some (.slice pa ks.length ca)) ∧ W.cell? ⟨gk, ok + k, none⟩ = some (.int .i64 z))
        (first
          | exact ⟨HCl.out _ (hid_drew hR), HCk.out _ (hid_drew hR)⟩
          | exact ⟨HCl.out _ hR, HCk.out _ hR⟩
          | exact ⟨HCl.out _ hg2, HCk.out _ hg2⟩
          | exact ⟨HCl.out _ hg1, HCk.out _ hg1⟩)
        (first
          | (go_at_call 58; refine (HAd.out _ hg1 (hi1.out hPd.out)).mono ?_; rintro e wb ⟨p', c', rfl, hg2, hp2⟩)
          | (go_at_call 59; refine (HNm.out _ (hid_drew hR)).mono ?_; rintro e wa ⟨rfl, hg1, hi1⟩))
      all_goals go_wp2_with fail
      all_goals
        go_roundw
        case rel => exact ⟨k + 1, by omega, by go_num, l', p', c', rfl, HNx.out _ _ hp2.out hg2.out⟩
        case measure => simp [intOf]; omega
    · have hke : k = st.length := by omega
      subst hke
      have HWe : Hid (Wk1 V V.heap.size ks (rts root st) [] 0 [] (.slice p l.length c) l wr) := by
        have := hW.out
        rw [List.drop_length] at this
        exact this
      clear hW hlt
      generalize wr = wo at *
      go_wp2_with fail
      go_loopw [7, 9] (fun v q wr => ∃ n : Nat, ∃ l p c, n ≤ l.length ∧ q = .int .i64 n ∧ v = .slice p l.length c ∧ Hid (Wk1 V V.heap.size ks (rts root st) [] n [] (.slice p l.length c) l wr)) (fun _ q _ => 65540 - (intOf q).toNat)
      case atStart => exact ⟨0, l, p, c, Nat.zero_le _, rfl, rfl, HWe⟩
      case round =>
        clear HWe
        obtain ⟨n, l, p, c, hnl, rfl, rfl, hW⟩ := hrel
        by_cases hlt : n < l.length
        · have hmem := getD_in l n hlt
          have hj := hW.out.lv.lt _ hmem
          have hll := addP_len hW.out.lv hks
          have hfr := hW.out.fr
          have hlv := hW.out.lv.next hlt
          obtain ⟨pa', ca', e2, hpa⟩ := HSV.out.at_
          cases e2
          obtain ⟨ga, oa, rfl, hca⟩ := hpa (by omega)
          obtain ⟨pv, cv, o0, o1, o2, o3, hrd⟩ := hca _ hj
          have hgV : ga < V.heap.size := World.block_lt_of_cell? V _ o0
          have o0 := (hfr.cell (p := ⟨ga, oa + l.getD n 0 * 4, none⟩) hgV (by simp)).trans o0
          have o1 := (hfr.cell (p := ⟨ga, oa + l.getD n 0 * 4 + 1, none⟩) hgV (by simp)).trans o1
          have o2 := (hfr.cell (p := ⟨ga, oa + l.getD n 0 * 4 + 2, none⟩) hgV (by simp)).trans o2
          have o3 := (hfr.cell (p := ⟨ga, oa + l.getD n 0 * 4 + 3, none⟩) hgV (by simp)).trans o3
          obtain ⟨p', c', e3, hpl⟩ := hW.out.row.slot
          cases e3
          obtain ⟨gl, rfl, hcl⟩ := hpl (by omega)
          have x0 := hcl n hlt
          have hsl := HSV.out.slots _ (keyD_mem hj)
          have HLv := mkHid hlv
          have HRd := mkHid hrd
          obtain ⟨q0, q1, q2, q3⟩ := HCl.out wr hfr
          have HR := mkHid hfr
          have HP := mkHid hW.out.row
          clear hca hpa hpl hcl hlv hrd hfr hW hmem
          generalize l.getD n 0 = j at *
          obtain ⟨K, hK⟩ : ∃ K, ks.getD j noK = K := ⟨_, rfl⟩
          rw [hK] at o0 o1 o2 o3 hsl HLv HRd
          clear hK
          obtain ⟨y0, y1, y2, ys⟩ := K
          dsimp only at o0 o1 o2 o3 hsl HRd
          have k1 : (0 : Int) ≤ (n : Int) := by omega
          have k2 : (n : Int) < (l.length : Int) := by omega
          have j1 : (0 : Int) ≤ (j : Int) := by omega
          have j2 : (j : Int) < (ks.length : Int) := by omega
          have hga : ga < wr.heap.size := World.block_lt_of_cell? wr ⟨ga, oa + j * 4, none⟩ o0
          have hgl : gl < wr.heap.size := World.block_lt_of_cell? wr ⟨gl, n, none⟩ x0
          have hb0 : b0 < wr.heap.size := World.block_lt_of_cell? wr ⟨b0, 0, none⟩ q0
          go_wp2_with fail
          go_region
          obtain ⟨U, hU⟩ : ∃ U, (wr.alloc (.cells #[.int .i64 y0, .int .i64 y1, .int .i64 y2, .slice pv ys.length cv] 90)).drew = U := ⟨_, rfl⟩
          rw [hU]
          have F1 : Fr [] wr U := by rw [← hU]; exact (Fr.alloc [] _ _).trans (Fr.drew [] _) (by simp)
          have hUb : U.heap[wr.heap.size]? = some (.cells #[.int .i64 y0, .int .i64 y1, .int .i64 y2, .slice pv ys.length cv] 90 (0, 0)) := by
            rw [← hU]; exact heap_alloc_new _ _
          obtain ⟨bx, hbx⟩ : ∃ bx, wr.heap.size = bx := ⟨_, rfl⟩
          rw [hbx] at hUb ⊢
          have HVU := mkHid (HR.out.trans F1 (by simp))
          have HPU := mkHid (HP.out.idle F1)
          have hne : (Value.slice (some ⟨gl, 0, none⟩) l.length c).ownBlock ≠ some bx := by
            simp [Value.ownBlock]; omega
          obtain ⟨q0', q1', q2', q3'⟩ := HCl.out U HVU
          have z1 : U.cell? ⟨bx, 1, none⟩ = some (.int .i64 y1) := by rw [cell_in hUb]; rfl
          have HNm : Hid (∀ z W, Hid (Fr [] V W) → Calls Tryd.prog 59 #[.agg #[.int .i64 x1, .int .i64 x2, .int .i64 x3, .slice (some ⟨ga, oa, none⟩) ks.length ca], .int .i64 z] W fun e w' => e = .returned (.int .i64 (plN (nmK ks z))) ∧ Hid (Fr [] V w') ∧ Hid (Fr [] W w')) := fun z W hW => by
            refine (named_k ks z x1 x2 x3 (.slice (some ⟨ga, oa, none⟩) ks.length ca) W (HSV.out.idle hW.out)).mono ?_
            rintro e w' ⟨rfl, hf⟩
            exact ⟨rfl, hW.out.trans hf (by simp), hf⟩
          have HAd : Hid (∀ z (v : Value) (m : List Nat) W n' zs', Hid (Wk3 V U bx ks (rts root st) n' (z :: zs') v m W) → Calls Tryd.prog 58 #[v, .int .i64 (plN (nmK ks z))] W fun e w' => ∃ p' c', e = .returned (.slice p' (addP m (nmK ks z)).length c') ∧ Hid (Wk3 V U bx ks (rts root st) n' zs' (.slice p' (addP m (nmK ks z)).length c') (addP m (nmK ks z)) w')) := fun z v m W n' zs' h => by
            have hm : m.length ≤ 65538 := addP_len (h.out.lv.cons) hks
            refine (added_k V.heap.size m (nmK ks z) v W h.out.row h.out.fr.size hm (fun i hi => by have := nmK_lt hi; omega)).mono ?_
            rintro e w' ⟨v', rfl, hp', hf', hn'⟩
            obtain ⟨p', c', rfl⟩ := row_is hp'
            exact ⟨p', c', rfl, h.out.add (lt_of_heap hUb) hp' hf' hn'⟩
          have HW0 : Hid (Wk3 V U bx ks (rts root st) n (y1 :: (if y2 = 0 then ys else [])) (.slice (some ⟨gl, 0, none⟩) l.length c) l U) := ⟨HPU.out, by unfold LvI; rw [if_neg (by simp)]; exact HLv.out, HVU.out, rfl, hne, Nat.le_refl _⟩
          have HUb := mkHid hUb
          have hbU := lt_of_heap hUb
          clear F1 hUb hU HR HP HLv HPU hne o0 o1 o2 o3 x0 q0 q1 q2 q3
          go_wp2_with fail
          refine Calls.mono (HNm.out y1 U HVU) ?_
          rintro e w5 ⟨rfl, hg5, hf5⟩
          have HW5 := mkHid (HW0.out.idle hf5.out)
          have HA5 := mkHid (HAd.out y1 _ l w5 n _ HW5)
          clear HW0 HW5 hg5 hf5
          go_wp2_with fail
          refine Calls.mono HA5.out ?_
          rintro e w6 ⟨p6, c6, rfl, hW6⟩
          clear HA5
          generalize addP l (nmK ks y1) = l6 at *
          generalize plN (nmK ks y1) = m6 at *
          generalize wr = wo2 at *
          go_wp2_with fail
          go_loopw [7, 11] (fun v q wr => ∃ k : Nat, ∃ l p c, k ≤ ys.length ∧ q = .int .i64 k ∧ v = .slice p l.length c ∧ Hid (Wk3 V U bx ks (rts root st) n (if y2 = 0 then ys.drop k else []) (.slice p l.length c) l wr)) (fun _ q _ => ys.length - (intOf q).toNat)
          case atStart => exact ⟨0, l6, p6, c6, Nat.zero_le _, rfl, rfl, hW6⟩
          case round =>
            clear hW6
            obtain ⟨k, l7, p7, c7, hk7, rfl, rfl, hW⟩ := hrel
            obtain ⟨b1, b2, b3⟩ := hW.out.cells HUb.out
            by_cases hc : k < ys.length
            · have k3 : (0 : Int) ≤ (k : Int) := by omega
              have k4 : (k : Int) < (ys.length : Int) := by omega
              by_cases hy : y2 = 0
              · have hy2 : (y2 == 0) = true := by simpa using hy
                have HDr : Hid (ys.drop k = ys.getD k 0 :: ys.drop (k + 1)) := by
                  show ys.drop k = _
                  rw [List.drop_eq_getElem_cons hc, List.getD_eq_getElem?_getD, List.getElem?_eq_getElem hc]; rfl
                have HE : Hid ((if y2 = 0 then ys.drop (k + 1) else []) = ys.drop (k + 1)) := if_pos hy
                have HW1 : Hid (Wk3 V U bx ks (rts root st) n (ys.getD k 0 :: ys.drop (k + 1)) (.slice p7 l7.length c7) l7 wr) := by
                  have := hW.out
                  rw [if_pos hy, HDr.out] at this
                  exact this
                have HWd := mkHid (HW1.out.idle (Fr.drew [] wr) hbU)
                obtain ⟨pv', cv', e5, hpv⟩ := HRd.out.at_
                cases e5
                obtain ⟨gv, ov, rfl, hgv, hcv⟩ := hpv (by omega)
                have v0 := hcv k hc
                have HCw : Hid (∀ W l v zs, Hid (Wk3 V U bx ks (rts root st) n zs v l W) → (W.cell? ⟨b0, 0, none⟩ = some (.int .i64 x1) ∧ W.cell? ⟨b0, 1, none⟩ = some (.int .i64 x2) ∧ W.cell? ⟨b0, 2, none⟩ = some (.int .i64 x3) ∧ W.cell? ⟨b0, 3, none⟩ = some (.slice (some ⟨ga, oa, none⟩) ks.length ca)) ∧ W.cell? ⟨bx, 3, none⟩ = some (.slice (some ⟨gv, ov, none⟩) ys.length cv) ∧ W.cell? ⟨gv, ov + k, none⟩ = some (.int .i64 (ys.getD k 0))) := fun W l v zs h => ⟨HCl.out W h.out.fr, (h.out.cells HUb.out).2.2, (h.out.fr.cell (p := ⟨gv, ov + k, none⟩) hgv (by simp)).trans v0⟩
                have hR : Hid (Fr [] V wr) := HW1.out.fr
                clear hpv hcv v0 HDr hW hy b1 b2 b3
                generalize ys.getD k 0 = z at *
                obtain ⟨b4, b5, b6⟩ := HW1.out.cells HUb.out
                go_wp2_with fail
                go_region_held3 (fun W => (W.cell? ⟨b0, 0, none⟩ = some (.int .i64 x1) ∧ W.cell? ⟨b0, 1, none⟩ = some (.int .i64 x2) ∧ W.cell? ⟨b0, 2, none⟩ = some (.int .i64 x3) ∧ W.cell? ⟨b0, 3, none⟩ = some (.slice (some ⟨ga, oa, none⟩) ks.length ca)) ∧ W.cell? ⟨bx, 3, none⟩ = some (.slice (some ⟨gv, ov, none⟩) ys.length cv) ∧ W.cell? ⟨gv, ov + k, none⟩ = some (.int .i64 z))
                  (first
                    | exact HCw.out _ _ _ _ HWd
                    | exact HCw.out _ _ _ _ HW1
                    | exact HCw.out _ _ _ _ hW2
                    | exact HCw.out _ _ _ _ hi1)
                  (first
                    | (go_at_call 58; refine (HAd.out z _ l7 _ n _ hi1).mono ?_; rintro e wb ⟨p', c', rfl, hW2⟩)
                    | (go_at_call 59; refine (HNm.out z _ (hid_drew hR)).mono ?_; rintro e wa ⟨rfl, hg1, hf1⟩; have hi1 := mkHid (HWd.out.idle hf1.out hbU)))
                all_goals go_wp2_with fail
                all_goals
                  go_roundw
                  case rel => exact ⟨k + 1, _, p', c', by omega, by go_num, rfl, by rw [HE.out]; exact hW2⟩
                  case measure => simp [intOf]; omega
              · have hy2 : (y2 == 0) = false := by simpa using hy
                have HW1 : Hid (Wk1 V V.heap.size ks (rts root st) [] (n + 1) [] (.slice p7 l7.length c7) l7 wr) := by
                  have h := hW.out
                  rw [if_neg hy] at h
                  exact ⟨h.row, by have := h.lv; unfold LvI at this; rwa [if_pos rfl] at this, h.fr⟩
                have hle := HW1.out.lv.le
                have hl7 := addP_len HW1.out.lv hks
                clear hW hy b1
                go_wp2_with fail
                go_roundw
                case rel => exact ⟨n + 1, l7, p7, c7, hle, by go_num, rfl, HW1⟩
                case measure => simp [intOf]; omega
            · have hke : k = ys.length := by omega
              have HW1 : Hid (Wk1 V V.heap.size ks (rts root st) [] (n + 1) [] (.slice p7 l7.length c7) l7 wr) := by
                have h := hW.out
                have e : (if y2 = 0 then ys.drop k else []) = [] := by
                  rw [hke, List.drop_length]; split <;> rfl
                rw [e] at h
                exact ⟨h.row, by have := h.lv; unfold LvI at this; rwa [if_pos rfl] at this, h.fr⟩
              have hle := HW1.out.lv.le
              have hl7 := addP_len HW1.out.lv hks
              have k5 : (ys.length : Int) ≤ (k : Int) := by omega
              clear hW hc hke b1
              go_wp2_with fail
              go_roundw
              case rel => exact ⟨n + 1, l7, p7, c7, hle, by go_num, rfl, HW1⟩
              case measure => simp [intOf]; omega
        · have hne : n = l.length := by omega
          subst hne
          have HZ : Hid (LvE ks (rts root st) l ∧ Pls wr V.heap.size (.slice p l.length c) l ∧ Fr [] w wr) := ⟨hW.out.lv, hW.out.row, HF.out.trans hW.out.fr (by simp)⟩
          clear hW hlt
          go_wp2_with fail
          go_ret
          exact ⟨_, l, rfl, HZ.out.1, own_base HZ.out.2.1 (by rw [HB0.out]; omega), HZ.out.2.2⟩
end Go.Proofs.YtkmjimdaimbdfaaDoor
