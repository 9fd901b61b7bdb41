import Derived.Test.YtheolmnjedbjmaaGreatDoorSHa
import Derived.Test.YtheolmnjedbjmaaGreatDoorSTi
namespace Go.Proofs.YtheolmnjedbjmaaGreatDoor
open Go.RowKit
set_option linter.unusedVariables false
set_option linter.unusedSimpArgs false
attribute [local go_sem ↓] Go.wp_at_zero Go.wp_at_succ
theorem namesN_nil (acts : List AQ) : namesN acts [] = [] := by
  unfold namesN
  simp
theorem actsN_nil (acts : List AQ) : actsN acts [] ++ marksN 0 = [] := by
  unfold actsN marksN
  simp
theorem slice_n22 (gb L c n : Nat) (hn : n ≤ c) (W : World) : (Instr.slice 22 (.slice (some ⟨gb, 0, none⟩) L c) none (some (.int .i64 (n : Int))) none).run Tryz.prog W = .ok (.slice (some ⟨gb, 0, none⟩) n c) W := by
  have hs : ∀ W, (sizeOf (Tryz.prog.elem 22)).run Tryz.prog W = .ok 7 W := fun W => by kernel_rfl
  rw [run_slice_h (t := 22) (ht := elem29) (kh := .i64) (h := (n : Int)) (h0 := by omega) (h2 := by omega)]
  rw [hs]
  simp [Result.andThen, sliced, Addr.add]
set_option maxRecDepth 100000 in
set_option maxHeartbeats 16000000 in
theorem handN_ok (W : World) (ws os : Int) (g off cc n : Nat) (p : Option Addr) (acts : List AQ) (hl : acts.length = n) (hn : n ≤ 1048576) (hpA : 0 < n → p = some ⟨g, off, none⟩) (hA : ∀ i (hi : i < acts.length), Aw W g (off + i * 7) acts[i].1 acts[i].2.1 acts[i].2.2) (hS : ∀ x ∈ acts, Ak2 x.1) : Calls Tryz.prog 7 #[.agg #[.int .i64 ws, .int .i64 os, .slice p n cc]] W fun e w' => e = .returned (.pointer (some ⟨W.heap.size + 1, 0, none⟩)) ∧ ∃ ts gb cF vN, ts.length = n ∧ Hn W w' W.heap.size (plN ws os p n cc) (W.heap.size + 1) ws os acts ts (.slice (some ⟨gb, 0, none⟩) n cF) (.slice (some ⟨gb, 0, none⟩) (n + 8) cF) vN 8 := by
  obtain ⟨W1, hW1⟩ : ∃ X, (W.alloc (.cells (plN ws os p n cc) 24)).alloc (.cells (hdN ws os p n cc) 32) = X := ⟨_, rfl⟩
  have z0 : (W.alloc (.cells (plN ws os p n cc) 24)).heap.size = W.heap.size + 1 := by simp
  have b1 : Bl W W1 := by rw [← hW1]; exact (Bl.alloc _ _).trans (Bl.alloc _ _)
  have qp : W1.heap[W.heap.size]? = some (.cells (plN ws os p n cc) 24 (0, 0)) := by
    rw [← hW1]
    exact (Below.heap_alloc _ _ _ (by simp)).trans (heap_alloc_new W _)
  have qh : W1.heap[W.heap.size + 1]? = some (.cells (hdN ws os p n cc) 32 (0, 0)) := by
    rw [← hW1, ← z0]
    exact heap_alloc_new _ _
  have H1 : Hid (∃ ts pN nN cN pF nF cF, ts.length = 0 ∧ Hn W W1 W.heap.size (plN ws os p n cc) (W.heap.size + 1) ws os acts ts (.slice p n cc) (.slice pF nF cF) (.slice pN nN cN) 0) := ⟨[], none, 0, 0, none, 0, 0, rfl, qp, qh, fun k hk => absurd hk (by simp), by rw [namesN_nil]; exact own_nil _ _ _ _, by rw [actsN_nil]; exact own_nil _ _ _ _, b1, by omega⟩
  have HA := mkHid hA
  have HS := mkHid hS
  have HPA := mkHid hpA
  clear hA hS hpA qp qh z0 b1
  go_enter Tryz.func7, Tryz.ntmps7
  go_wp2_with fail
  go_loopw [4] (fun x wr => ∃ i : Nat, i ≤ n ∧ x = .int .i64 (i : Int) ∧ Hid (∃ ts pN nN cN pF nF cF, ts.length = i ∧ Hn W wr W.heap.size (plN ws os p n cc) (W.heap.size + 1) ws os acts ts (.slice p n cc) (.slice pF nF cF) (.slice pN nN cN) 0)) (fun x _ => n - (intOf x).toNat)
  case atStart => exact ⟨0, Nat.zero_le _, rfl, H1.out⟩
  case round =>
    clear H1 hW1
    obtain ⟨i, hi, rfl, hst⟩ := hrel
    have i0 : (0 : Int) ≤ (i : Int) := by omega
    obtain ⟨ts, pN, nN, cN, pF, nF, cF, hti, hH⟩ := hst.out
    have d2 := lit_in hH.pbx 2 (.slice p n cc) rfl
    by_cases hlt : i < n
    · have i1 : (i : Int) < (n : Int) := by omega
      obtain ⟨wo, rfl⟩ : ∃ V, V = wr := ⟨wr, rfl⟩
      obtain rfl := HPA.out (by omega)
      have hA := HA.out i (by omega)
      have hS := HS.out acts[i] (List.getElem_mem (by omega))
      obtain ⟨⟨a, q, c⟩, hacts⟩ : ∃ x, acts[i]'(by omega) = x := ⟨_, rfl⟩
      rw [hacts] at hA hS
      simp only at hA hS
      have hnl := hS.len
      have h1 := hA.bl hH.bl
      have c0 := h1.cells 0 (.int .i64 a.kind) rfl
      have c1 := h1.cells 1 (.string a.name) rfl
      have c2 := h1.cells 2 (.string a.other) rfl
      have c3 := h1.cells 3 (.slice q a.names.length c) rfl
      have c4 := h1.cells 4 (.string a.text) rfl
      have c5 := h1.cells 5 (.int .i64 a.num) rfl
      have c6 := h1.cells 6 (.int .i64 a.fuel) rfl
      rw [Nat.add_zero] at c0
      obtain ⟨ab, hab⟩ : ∃ ab, wo.heap.size = ab := ⟨_, rfl⟩
      obtain ⟨W2, hW2⟩ : ∃ X, wo.alloc (.cells (akC a q c) 40) = X := ⟨_, rfl⟩
      have b2 : Bl wo W2 := by rw [← hW2]; exact Bl.alloc _ _
      have qa : W2.heap[ab]? = some (.cells (akC a q c) 40 (0, 0)) := by rw [← hW2, ← hab]; exact heap_alloc_new _ _
      have n3 := lit_in qa 3 (.slice q a.names.length c) rfl
      have hWh := hH.bl.size
      have habh : W.heap.size + 1 < ab := by have := lt_of_heap hH.box; omega
      have HTW : Hid (Calls Tryz.prog 19 #[.slice q a.names.length c] W2 fun e w3 => ∃ tb cT, e = .returned (.slice (some ⟨tb, 0, none⟩) (a.names.length + 8) cT) ∧ w3.cell? ⟨W.heap.size + 1, 4, none⟩ = some (.slice pN nN cN) ∧ ∃ pN' nN' cN' w4, (Builtin.append_ #[30, 30] 30 #[.slice pN nN cN, .slice (some ⟨w3.heap.size, 0, none⟩) 1 1]).run Tryz.prog (w3.alloc (.cells #[.slice (some ⟨tb, 0, none⟩) (a.names.length + 8) cT] 38)) = .ok (.slice pN' nN' cN') w4 ∧ w4.cell? ⟨W.heap.size + 1, 4, none⟩ = some (.slice pN nN cN) ∧ w4.frozen? ⟨W.heap.size + 1, 4, none⟩ = false ∧ ∃ W5, w4.setCell ⟨W.heap.size + 1, 4, none⟩ (.slice pN' nN' cN') = W5 ∧ W5.cell? ⟨ab, 3, none⟩ = some (.slice q a.names.length c) ∧ W5.frozen? ⟨ab, 3, none⟩ = false ∧ (∀ U, (Instr.slice 38 (.slice (some ⟨tb, 0, none⟩) (a.names.length + 8) cT) none (some (.int .i64 (a.names.length : Int))) none).run Tryz.prog U = .ok (.slice (some ⟨tb, 0, none⟩) a.names.length cT) U) ∧ ∃ W6, W5.setCell ⟨ab, 3, none⟩ (.slice (some ⟨tb, 0, none⟩) a.names.length cT) = W6 ∧ Hid (∀ U, Bl W6.drew U → U.cell? ⟨W.heap.size + 1, 3, none⟩ = some (.slice pF nF cF) ∧ U.frozen? ⟨W.heap.size + 1, 3, none⟩ = false ∧ U.cell? ⟨ab, 0, none⟩ = some (.int .i64 a.kind) ∧ U.cell? ⟨ab, 1, none⟩ = some (.string a.name) ∧ U.cell? ⟨ab, 2, none⟩ = some (.string a.other) ∧ U.cell? ⟨ab, 3, none⟩ = some (.slice (some ⟨tb, 0, none⟩) a.names.length cT) ∧ U.cell? ⟨ab, 4, none⟩ = some (.string a.text) ∧ U.cell? ⟨ab, 5, none⟩ = some (.int .i64 a.num) ∧ U.cell? ⟨ab, 6, none⟩ = some (.int .i64 a.fuel)) ∧ ∃ pF' nF' cF' w7, (Builtin.append_ #[22, 22] 22 #[.slice pF nF cF, .slice (some ⟨W6.heap.size, 0, none⟩) 1 1]).run Tryz.prog (W6.drew.alloc (.cells #[.int .i64 a.kind, .string a.name, .string a.other, .slice (some ⟨tb, 0, none⟩) a.names.length cT, .string a.text, .int .i64 a.num, .int .i64 a.fuel] 40)) = .ok (.slice pF' nF' cF') w7 ∧ Hid (w7.cell? ⟨W.heap.size + 1, 3, none⟩ = some (.slice pF nF cF) ∧ w7.frozen? ⟨W.heap.size + 1, 3, none⟩ = false ∧ w7.cell? ⟨ab, 0, none⟩ = some (.int .i64 a.kind) ∧ w7.cell? ⟨ab, 1, none⟩ = some (.string a.name) ∧ w7.cell? ⟨ab, 2, none⟩ = some (.string a.other) ∧ w7.cell? ⟨ab, 3, none⟩ = some (.slice (some ⟨tb, 0, none⟩) a.names.length cT) ∧ w7.cell? ⟨ab, 4, none⟩ = some (.string a.text) ∧ w7.cell? ⟨ab, 5, none⟩ = some (.int .i64 a.num) ∧ w7.cell? ⟨ab, 6, none⟩ = some (.int .i64 a.fuel)) ∧ ∃ W8, w7.setCell ⟨W.heap.size + 1, 3, none⟩ (.slice pF' nF' cF') = W8 ∧ Hid (∃ ts' : List (Nat × Nat), ts'.length = i + 1 ∧ Hn W W8 W.heap.size (plN ws os (some ⟨g, off, none⟩) n cc) (W.heap.size + 1) ws os acts ts' (.slice (some ⟨g, off, none⟩) n cc) (.slice pF' nF' cF') (.slice pN' nN' cN') 0)) := by
        refine (twin_ok W2 q a.names c ((h1.bl b2).names) (by omega)).mono ?_
        rintro e w3 ⟨v, rfl, ho, hb3⟩
        obtain ⟨tb, cT, cur, rfl, htb, hcur, hcT, -, -, -⟩ := own_cells ho (by omega)
        have b23 := b2.trans hb3
        have hW3 : Bl W w3 := hH.bl.trans b23
        have qh3 := (b23.block _ (lt_of_heap hH.box)).trans hH.box
        have qp3 := (b23.block _ (lt_of_heap hH.pbx)).trans hH.pbx
        have qa3 := (hb3.block _ (lt_of_heap qa)).trans qa
        have ho3 := ow_lower (B' := W.heap.size) ho (hH.bl.trans b2).size
        have tw3 := fun k hk hk2 => b23.ow (hH.tw k hk hk2)
        have fl3 := b23.ow hH.fl
        have hflb : ∀ x, (Value.slice pF nF cF).ownBlock = some x → x < ab := fun x hx => by rw [← hab]; exact (own_lt hH.fl x hx).2
        obtain ⟨vN, w4, hr4, ho4, hp4, hf4⟩ := push_lstN (b23.ow hH.nm) hW3.size (some ⟨tb, 0, none⟩) (a.names.length + 8) cT (by omega)
        obtain ⟨pN', cN', rfl⟩ := own_slice ho4
        have bW4 : Bl W w4 := Below.trans hW3 hp4.below
        have qh4 := hp4.hb qh3 (fun c fz e => by cases e)
        have qp4 := hp4.hb qp3 (fun c fz e => by cases e)
        have qa4 := hp4.hb qa3 (fun c fz e => by cases e)
        have ho4t := hp4.ow (by decide) ho3
        have tw4 := fun k hk hk2 => hp4.ow (by decide) (tw3 k hk hk2)
        have fl4 := hp4.ow (by decide) fl3
        -- h.Names
        obtain ⟨vy, hvy⟩ : ∃ vy : Value, vy = .slice pN' (ts.length + 1) cN' := ⟨_, rfl⟩
        have qh5 := set_in qh4 4 vy
        have qp5 := set_box (i := 4) (y := vy) qh4 qp4 (by decide)
        have qa5 := set_box (i := 4) (y := vy) qh4 qa4 (by decide)
        have ho5t := ow_set (i := 4) (y := vy) ho4t qh4 (by decide)
        have ho5n := ow_set (i := 4) (y := vy) ho4 qh4 (by decide)
        have tw5 := fun k hk hk2 => ow_set (i := 4) (y := vy) (tw4 k hk hk2) qh4 (by decide)
        have fl5 := ow_set (i := 4) (y := vy) fl4 qh4 (by decide)
        have bW5 := bl_setCell bW4 (W.heap.size + 1) 4 vy (by omega)
        obtain ⟨W5, hW5⟩ : ∃ X, w4.setCell ⟨W.heap.size + 1, 4, none⟩ vy = X := ⟨_, rfl⟩
        rw [hW5] at qh5 qp5 qa5 ho5t ho5n bW5 fl5
        simp only [hW5] at tw5
        -- a.Names
        obtain ⟨vz, hvz⟩ : ∃ vz : Value, vz = .slice (some ⟨tb, 0, none⟩) a.names.length cT := ⟨_, rfl⟩
        have qa6 := set_in qa5 3 vz
        have qh6 := set_box (i := 3) (y := vz) qa5 qh5 (by decide)
        have qp6 := set_box (i := 3) (y := vz) qa5 qp5 (by decide)
        have ho6t := ow_set (i := 3) (y := vz) ho5t qa5 (by decide)
        have ho6n := ow_set (i := 3) (y := vz) ho5n qa5 (by decide)
        have tw6 := fun k hk hk2 => ow_set (i := 3) (y := vz) (tw5 k hk hk2) qa5 (by decide)
        have fl6 := Fr.ow (Fr.setCell (S := [ab]) W5 ⟨ab, 3, none⟩ vz (by simp)) fl5 (fun x hx => by have := hflb x hx; simp; omega)
        have bW6 := bl_setCell bW5 ab 3 vz (by omega)
        obtain ⟨W6, hW6⟩ : ∃ X, W5.setCell ⟨ab, 3, none⟩ vz = X := ⟨_, rfl⟩
        rw [hW6] at qh6 qp6 qa6 ho6t ho6n bW6 fl6
        simp only [hW6] at tw6
        subst hvy hvz
        -- h.Full
        obtain ⟨vF, w7, hr7, ho7, hp7, hf7⟩ := push_actN (show W6.drew.ownsRow _ _ _ _ _ _ from fl6) bW6.size a (some ⟨tb, 0, none⟩) cT (by omega)
        obtain ⟨pF', cF', rfl⟩ := own_slice ho7
        have HS : ∀ U, Bl W6.drew U → U.cell? ⟨W.heap.size + 1, 3, none⟩ = some (.slice pF nF cF) ∧ U.frozen? ⟨W.heap.size + 1, 3, none⟩ = false ∧ U.cell? ⟨ab, 0, none⟩ = some (.int .i64 a.kind) ∧ U.cell? ⟨ab, 1, none⟩ = some (.string a.name) ∧ U.cell? ⟨ab, 2, none⟩ = some (.string a.other) ∧ U.cell? ⟨ab, 3, none⟩ = some (.slice (some ⟨tb, 0, none⟩) a.names.length cT) ∧ U.cell? ⟨ab, 4, none⟩ = some (.string a.text) ∧ U.cell? ⟨ab, 5, none⟩ = some (.int .i64 a.num) ∧ U.cell? ⟨ab, 6, none⟩ = some (.int .i64 a.fuel) := fun U hU => by
          have e1 := (hU.block _ (lt_of_heap (w := W6.drew) qh6)).trans (show W6.drew.heap[W.heap.size + 1]? = _ from qh6)
          have e2 := (hU.block _ (lt_of_heap (w := W6.drew) qa6)).trans (show W6.drew.heap[ab]? = _ from qa6)
          exact ⟨lit_in e1 3 _ rfl, frozen_in e1 3, lit_in e2 0 _ rfl, lit_in e2 1 _ rfl, lit_in e2 2 _ rfl, lit_in e2 3 _ rfl, lit_in e2 4 _ rfl, lit_in e2 5 _ rfl, lit_in e2 6 _ rfl⟩
        have qh7 := hp7.hb (show W6.drew.heap[W.heap.size + 1]? = _ from qh6) (fun c fz e => by cases e)
        have qp7 := hp7.hb (show W6.drew.heap[W.heap.size]? = _ from qp6) (fun c fz e => by cases e)
        have qa7 := (hf7.block ab (lt_of_heap (w := W6.drew) qa6) (fun hm => by
          have := hflb ab (by simpa using hm)
          omega)).trans (show W6.drew.heap[ab]? = _ from qa6)
        have ho7t := hp7.ow (by decide) (show W6.drew.ownsRow _ _ _ _ _ _ from ho6t)
        have ho7n := hp7.ow (by decide) (show W6.drew.ownsRow _ _ _ _ _ _ from ho6n)
        have tw7 := fun k hk hk2 => hp7.ow (by decide) (show W6.drew.ownsRow _ _ _ _ _ _ from tw6 k hk hk2)
        refine ⟨tb, cT, rfl, lit_in qh3 4 _ rfl, pN', _, cN', w4, hr4, lit_in qh4 4 _ rfl, frozen_in qh4 4, W5, hW5, lit_in qa5 3 _ rfl, frozen_in qa5 3, fun U => slice_h36 tb _ cT _ (by omega) U, W6, hW6, HS, pF', _, cF', w7, hr7, ⟨lit_in qh7 3 _ rfl, frozen_in qh7 3, lit_in qa7 0 _ rfl, lit_in qa7 1 _ rfl, lit_in qa7 2 _ rfl, lit_in qa7 3 _ rfl, lit_in qa7 4 _ rfl, lit_in qa7 5 _ rfl, lit_in qa7 6 _ rfl⟩, _, rfl, ts ++ [(tb, cT)], by simp [hti], ?_⟩
        have ea : ∀ h, (acts[ts.length]'h).1 = a := fun h => by
          have : acts[ts.length]'h = acts[i]'(by omega) := by congr 1
          rw [this, hacts]
        refine ⟨set_box qh7 qp7 (by decide), set_in qh7 3 _, fun k hk hk2 => ?_, ?_, ?_, bl_setCell (Below.trans bW6 (Below.trans (bl_drew W6 |>.mono bW6.size) hp7.below)) _ _ _ (by omega), by omega⟩
        · rw [List.length_append, List.length_singleton] at hk
          rcases Nat.lt_or_ge k ts.length with hk3 | hk3
          · rw [List.getElem_append_left hk3]
            exact ow_set (tw7 k hk3 hk2) qh7 (by decide)
          · have hke : k = ts.length := by omega
            subst hke
            have e2 : (ts ++ [(tb, cT)])[ts.length]'(by simp) = (tb, cT) := by simp
            rw [e2, ea hk2]
            exact ow_set ho7t qh7 (by decide)
        · rw [List.length_append, List.length_singleton, namesN_snoc acts ts _ (by omega), ea]
          exact ow_set ho7n qh7 (by decide)
        · rw [List.length_append, List.length_singleton, actsN_snoc acts ts _ (by omega), ea]
          have em : marksN 0 = [] := rfl
          rw [em, List.append_nil]
          rw [em, List.append_nil] at ho7
          exact ow_set ho7 qh7 (by decide)
      have d3 := lit_in hH.box 3 (.slice pF nF cF) rfl
      clear h1 b2 qa hH hA hS hst hacts hnl
      simp only [akC] at hW2
      go_upto_region 9 with (first
        | (go_at_call 19; refine HTW.out.mono ?_; rintro e w3 ⟨tb, cT, rfl, n4, pN', nN', cN', w4, hr4, m4, f4, W5, hW5, a5, g5, hsl, W6, hW6, HS9, pF', nF', cF', w7, hr7, HS7, W8, hW8, HH⟩)
        | (at_builtin; refine Lib.wpList_append_run _ rfl (.tmp 30) (.tmp 32) 30 30 rfl _ _ rfl rfl _ _ hr4 ?_))
      refine wp_region_last (L := 10) (S := fun U => U.cell? ⟨W.heap.size + 1, 3, none⟩ = some (.slice pF nF cF) ∧ U.frozen? ⟨W.heap.size + 1, 3, none⟩ = false ∧ U.cell? ⟨ab, 0, none⟩ = some (.int .i64 a.kind) ∧ U.cell? ⟨ab, 1, none⟩ = some (.string a.name) ∧ U.cell? ⟨ab, 2, none⟩ = some (.string a.other) ∧ U.cell? ⟨ab, 3, none⟩ = some (.slice (some ⟨tb, 0, none⟩) a.names.length cT) ∧ U.cell? ⟨ab, 4, none⟩ = some (.string a.text) ∧ U.cell? ⟨ab, 5, none⟩ = some (.int .i64 a.num) ∧ U.cell? ⟨ab, 6, none⟩ = some (.int .i64 a.fuel)) (by kernel_rfl) (HS9.out _ (Bl.refl _)) (fun hHeld => ?_)
      refine wpLast_take (i := 0) (v := ?_) rfl (by kernel_rfl) (by kernel_rfl) (by kernel_rfl) (by decide) (by kernel_rfl) (fun _ _ _ h => h) (Or.inl ⟨by rfl, ?_⟩) (by assumption) ?_
      rotate_left
      · (intro w hSw; (try dsimp only at hSw); (try go_split_ands); first | (go_simp; done) | (go_simp; with_reducible rfl))
      try simp only [Act.put, List.getElem_toArray, List.getElem_cons_zero, List.getElem_cons_succ, List.setIfInBounds_toArray, List.set_cons_zero, List.set_cons_succ]
      refine wpLast_take (i := 1) (v := ?_) rfl (by kernel_rfl) (by kernel_rfl) (by kernel_rfl) (by decide) (by kernel_rfl) (fun _ _ _ h => h) (Or.inl ⟨by rfl, ?_⟩) (by assumption) ?_
      rotate_left
      · (intro w hSw; (try dsimp only at hSw); (try go_split_ands); first | (go_simp; done) | (go_simp; with_reducible rfl))
      try simp only [Act.put, List.getElem_toArray, List.getElem_cons_zero, List.getElem_cons_succ, List.setIfInBounds_toArray, List.set_cons_zero, List.set_cons_succ]
      refine wpLast_take (i := 2) (v := ?_) rfl (by kernel_rfl) (by kernel_rfl) (by kernel_rfl) (by decide) (by kernel_rfl) (fun _ _ _ h => h) (Or.inl ⟨by rfl, ?_⟩) (by assumption) ?_
      rotate_left
      · (intro w hSw; (try dsimp only at hSw); (try go_split_ands); first | (go_simp; done) | (go_simp; with_reducible rfl))
      try simp only [Act.put, List.getElem_toArray, List.getElem_cons_zero, List.getElem_cons_succ, List.setIfInBounds_toArray, List.set_cons_zero, List.set_cons_succ]
      refine wpLast_take (i := 3) (v := ?_) rfl (by kernel_rfl) (by kernel_rfl) (by kernel_rfl) (by decide) (by kernel_rfl) (fun _ _ _ h => h) (Or.inl ⟨by rfl, ?_⟩) (by assumption) ?_
      rotate_left
      · (intro w hSw; (try dsimp only at hSw); (try go_split_ands); first | (go_simp; done) | (go_simp; with_reducible rfl))
      try simp only [Act.put, List.getElem_toArray, List.getElem_cons_zero, List.getElem_cons_succ, List.setIfInBounds_toArray, List.set_cons_zero, List.set_cons_succ]
      refine wpLast_take (i := 4) (v := ?_) rfl (by kernel_rfl) (by kernel_rfl) (by kernel_rfl) (by decide) (by kernel_rfl) (fun _ _ _ h => h) (Or.inl ⟨by rfl, ?_⟩) (by assumption) ?_
      rotate_left
      · (intro w hSw; (try dsimp only at hSw); (try go_split_ands); first | (go_simp; done) | (go_simp; with_reducible rfl))
      try simp only [Act.put, List.getElem_toArray, List.getElem_cons_zero, List.getElem_cons_succ, List.setIfInBounds_toArray, List.set_cons_zero, List.set_cons_succ]
      refine wpLast_take (i := 5) (v := ?_) rfl (by kernel_rfl) (by kernel_rfl) (by kernel_rfl) (by decide) (by kernel_rfl) (fun _ _ _ h => h) (Or.inl ⟨by rfl, ?_⟩) (by assumption) ?_
      rotate_left
      · (intro w hSw; (try dsimp only at hSw); (try go_split_ands); first | (go_simp; done) | (go_simp; with_reducible rfl))
      try simp only [Act.put, List.getElem_toArray, List.getElem_cons_zero, List.getElem_cons_succ, List.setIfInBounds_toArray, List.set_cons_zero, List.set_cons_succ]
      refine wpLast_one (i := 6) (by kernel_rfl) rfl (by decide) (fun K hK => ?_)
      go_simp
      refine hK.out _ _ (HS9.out _ (Bl.alloc _ _)) (fun hHeld => ?_)
      clear hK K
      try simp only [Act.put, List.getElem_toArray, List.getElem_cons_zero, List.getElem_cons_succ, List.setIfInBounds_toArray, List.set_cons_zero, List.set_cons_succ]
      refine wpLast_one (i := 7) (by kernel_rfl) rfl (by decide) (fun K hK => ?_)
      refine step_append_run rfl (.tmp 46) (.tmp 48) 22 22 rfl _ _ (by simp [Act.eval]) (by simp [Act.eval]) _ _ hr7 ?_
      refine hK.out _ _ (HS7.out) (fun hHeld => ?_)
      clear hK K
      try simp only [Act.put, List.getElem_toArray, List.getElem_cons_zero, List.getElem_cons_succ, List.setIfInBounds_toArray, List.set_cons_zero, List.set_cons_succ]
      refine wpLast_one (i := 8) (by kernel_rfl) rfl (by decide) (fun K hK => ?_)
      go_simp
      refine hK.out _ _ (by assumption) (fun hHeld => ?_)
      clear hK K
      try simp only [Act.put, List.getElem_toArray, List.getElem_cons_zero, List.getElem_cons_succ, List.setIfInBounds_toArray, List.set_cons_zero, List.set_cons_succ]
      refine wpLast_take (i := 9) (v := ?_) rfl (by kernel_rfl) (by kernel_rfl) (by kernel_rfl) (by decide) (by kernel_rfl) (fun _ _ _ h => h) (Or.inl ⟨by rfl, ?_⟩) (by assumption) ?_
      rotate_left
      · (intro w hSw; (try dsimp only at hSw); (try go_split_ands); first | (go_simp; done) | (go_simp; with_reducible rfl))
      try simp only [Act.put, List.getElem_toArray, List.getElem_cons_zero, List.getElem_cons_succ, List.setIfInBounds_toArray, List.set_cons_zero, List.set_cons_succ]
      refine wpLast_end (by kernel_rfl) rfl (by kernel_rfl) (fun K hK => ?_)
      (try go_split_ands); go_simp
      refine hK.out _ _ ?_
      clear hK K
      try simp only [Act.put, List.getElem_toArray, List.getElem_cons_zero, List.getElem_cons_succ, List.setIfInBounds_toArray, List.set_cons_zero, List.set_cons_succ]
      go_wp2_with fail
      go_roundw
      case rel =>
        obtain ⟨ts', e1, e2⟩ := HH.out
        exact ⟨i + 1, by omega, by go_num, ts', pN', nN', cN', pF', nF', cF', e1, e2⟩
      case measure => simp [intOf]; omega
    · have hie : i = n := by omega
      subst hie
      have H0 : Hid (∃ pF nF cF, Hn W wr W.heap.size (plN ws os p i cc) (W.heap.size + 1) ws os acts ts (.slice p i cc) (.slice pF nF cF) (.slice pN nN cN) 0) := ⟨_, _, _, hH⟩
      clear hH hst HA HS HPA
      go_wp2_with fail
      clear d2
      go_loopw [7] (fun x wr => ∃ j : Nat, j ≤ 8 ∧ x = .int .i64 (j : Int) ∧ Hid (∃ pF nF cF, Hn W wr W.heap.size (plN ws os p i cc) (W.heap.size + 1) ws os acts ts (.slice p i cc) (.slice pF nF cF) (.slice pN nN cN) j)) (fun x _ => 8 - (intOf x).toNat)
      case atStart => exact ⟨0, Nat.zero_le _, rfl, H0.out⟩
      case round =>
        clear H0
        obtain ⟨j, hj, rfl, hst⟩ := hrel
        have j0 : (0 : Int) ≤ (j : Int) := by omega
        obtain ⟨pF, nF, cF, hS⟩ := hst.out
        by_cases hlt : j < 8
        · have j1 : (j : Int) < 8 := by omega
          have d3 := lit_in hS.box 3 (.slice pF nF cF) rfl
          obtain ⟨v', w', hr, k1, k2, p2, n2, cc2, rfl, W4, hW4, HH⟩ := hS.push (by omega)
          have hr2 : (Builtin.append_ #[22, 22] 22 #[.slice pF nF cF, .slice (some ⟨wr.heap.size, 0, none⟩) 1 1]).run Tryz.prog (wr.alloc (.cells #[.int .i64 77, .string ⟨#[]⟩, .string ⟨#[]⟩, .slice none 0 0, .string ⟨#[]⟩, .int .i64 0, .int .i64 0] 40)) = .ok (.slice p2 n2 cc2) w' := hr
          clear hS hst hr
          go_wp2_with (at_builtin; refine Lib.wpList_append_run _ rfl (.tmp 60) (.tmp 62) 22 22 rfl _ _ rfl rfl _ _ hr2 ?_)
          go_roundw
          case rel => exact ⟨j + 1, by omega, by go_num, p2, n2, cc2, HH.out⟩
          case measure => simp [intOf]; omega
        · have hje : j = 8 := by omega
          subst hje
          obtain ⟨gb, capF, cur, hvF, hgb, hcur, hcF, -, -, -⟩ := own_cells hS.fl (by omega)
          injection hvF with e1 e2 e3
          subst e1 e2 e3
          rw [hti] at hcF
          have hsl : ∀ U, (Instr.slice 22 (.slice (some ⟨gb, 0, none⟩) (i + 8) cF) none (some (.int .i64 (i : Int))) none).run Tryz.prog U = .ok (.slice (some ⟨gb, 0, none⟩) i cF) U := fun U => slice_n22 gb (i + 8) cF i (by omega) U
          rw [hti] at hS
          have HS14 : Hid (wr.drew.cell? ⟨W.heap.size + 1, 3, none⟩ = some (.slice (some ⟨gb, 0, none⟩) (i + 8) cF) ∧ wr.drew.cell? ⟨W.heap.size, 2, none⟩ = some (.slice p i cc) ∧ wr.drew.cell? ⟨W.heap.size + 1, 2, none⟩ = some (.slice p i cc) ∧ wr.drew.frozen? ⟨W.heap.size + 1, 2, none⟩ = false) := by
            have e1 : wr.drew.heap[W.heap.size + 1]? = _ := hS.box
            have e2 : wr.drew.heap[W.heap.size]? = _ := hS.pbx
            exact ⟨lit_in e1 3 _ rfl, lit_in e2 2 _ rfl, lit_in e1 2 _ rfl, frozen_in e1 2⟩
          have HZ : Hid (Hn W (wr.drew.setCell ⟨W.heap.size + 1, 2, none⟩ (.slice (some ⟨gb, 0, none⟩) i cF)) W.heap.size (plN ws os p i cc) (W.heap.size + 1) ws os acts ts (.slice (some ⟨gb, 0, none⟩) i cF) (.slice (some ⟨gb, 0, none⟩) (i + 8) cF) (.slice pN nN cN) 8) := by
            have e1 : wr.drew.heap[W.heap.size + 1]? = _ := hS.box
            have e2 : wr.drew.heap[W.heap.size]? = _ := hS.pbx
            exact ⟨set_box e1 e2 (by decide), set_in e1 2 _, fun k hk hk2 => ow_set (show wr.drew.ownsRow _ _ _ _ _ _ from hS.tw k hk hk2) e1 (by decide), ow_set (show wr.drew.ownsRow _ _ _ _ _ _ from hS.nm) e1 (by decide), ow_set (show wr.drew.ownsRow _ _ _ _ _ _ from hS.fl) e1 (by decide), bl_setCell (hS.bl.trans (bl_drew wr)) _ _ _ hS.hbW, hS.hbW⟩
          clear hS hst hcur
          go_upto_region 14 with fail
          refine wp_region_last (L := 12) (S := fun U => U.cell? ⟨W.heap.size + 1, 3, none⟩ = some (.slice (some ⟨gb, 0, none⟩) (i + 8) cF) ∧ U.cell? ⟨W.heap.size, 2, none⟩ = some (.slice p i cc) ∧ U.cell? ⟨W.heap.size + 1, 2, none⟩ = some (.slice p i cc) ∧ U.frozen? ⟨W.heap.size + 1, 2, none⟩ = false) (by kernel_rfl) (HS14.out) (fun hHeld => ?_)
          refine wpLast_take (i := 0) (v := ?_) rfl (by kernel_rfl) (by kernel_rfl) (by kernel_rfl) (by decide) (by kernel_rfl) (fun _ _ _ h => h) (Or.inl ⟨by rfl, ?_⟩) (by assumption) ?_
          rotate_left
          · (intro w hSw; (try dsimp only at hSw); (try go_split_ands); first | (go_simp; done) | (go_simp; with_reducible rfl))
          try simp only [Act.put, List.getElem_toArray, List.getElem_cons_zero, List.getElem_cons_succ, List.setIfInBounds_toArray, List.set_cons_zero, List.set_cons_succ]
          refine wpLast_take (i := 1) (v := ?_) rfl (by kernel_rfl) (by kernel_rfl) (by kernel_rfl) (by decide) (by kernel_rfl) (fun _ _ _ h => h) (Or.inl ⟨by rfl, ?_⟩) (by assumption) ?_
          rotate_left
          · (intro w hSw; (try dsimp only at hSw); (try go_split_ands); first | (go_simp; done) | (go_simp; with_reducible rfl))
          try simp only [Act.put, List.getElem_toArray, List.getElem_cons_zero, List.getElem_cons_succ, List.setIfInBounds_toArray, List.set_cons_zero, List.set_cons_succ]
          refine wpLast_take (i := 2) (v := ?_) rfl (by kernel_rfl) (by kernel_rfl) (by kernel_rfl) (by decide) (by kernel_rfl) (fun _ _ _ h => h) (Or.inl ⟨by rfl, ?_⟩) (by assumption) ?_
          rotate_left
          · (intro w hSw; (try dsimp only at hSw); (try go_split_ands); first | (go_simp; done) | (go_simp; with_reducible rfl))
          try simp only [Act.put, List.getElem_toArray, List.getElem_cons_zero, List.getElem_cons_succ, List.setIfInBounds_toArray, List.set_cons_zero, List.set_cons_succ]
          refine wpLast_take (i := 3) (v := ?_) rfl (by kernel_rfl) (by kernel_rfl) (by kernel_rfl) (by decide) (by kernel_rfl) (fun _ _ _ h => h) (Or.inl ⟨by rfl, ?_⟩) (by assumption) ?_
          rotate_left
          · (intro w hSw; (try dsimp only at hSw); (try go_split_ands); first | (go_simp; done) | (go_simp; with_reducible rfl))
          try simp only [Act.put, List.getElem_toArray, List.getElem_cons_zero, List.getElem_cons_succ, List.setIfInBounds_toArray, List.set_cons_zero, List.set_cons_succ]
          refine wpLast_take (i := 4) (v := ?_) rfl (by kernel_rfl) (by kernel_rfl) (by kernel_rfl) (by decide) (by kernel_rfl) (fun _ _ _ h => h) (Or.inl ⟨by rfl, ?_⟩) (by assumption) ?_
          rotate_left
          · (intro w hSw; (try dsimp only at hSw); (try go_split_ands); first | (go_simp; done) | (go_simp; with_reducible rfl))
          try simp only [Act.put, List.getElem_toArray, List.getElem_cons_zero, List.getElem_cons_succ, List.setIfInBounds_toArray, List.set_cons_zero, List.set_cons_succ]
          refine wpLast_take (i := 5) (v := ?_) rfl (by kernel_rfl) (by kernel_rfl) (by kernel_rfl) (by decide) (by kernel_rfl) (fun _ _ _ h => h) (Or.inl ⟨by rfl, ?_⟩) (by assumption) ?_
          rotate_left
          · (intro w hSw; (try dsimp only at hSw); (try go_split_ands); first | (go_simp; done) | (go_simp; with_reducible rfl))
          try simp only [Act.put, List.getElem_toArray, List.getElem_cons_zero, List.getElem_cons_succ, List.setIfInBounds_toArray, List.set_cons_zero, List.set_cons_succ]
          refine wpLast_take (i := 6) (v := ?_) rfl (by kernel_rfl) (by kernel_rfl) (by kernel_rfl) (by decide) (by kernel_rfl) (fun _ _ _ h => h) (Or.inl ⟨by rfl, ?_⟩) (by assumption) ?_
          rotate_left
          · (intro w hSw; (try dsimp only at hSw); (try go_split_ands); first | (go_simp; done) | (go_simp; with_reducible rfl))
          try simp only [Act.put, List.getElem_toArray, List.getElem_cons_zero, List.getElem_cons_succ, List.setIfInBounds_toArray, List.set_cons_zero, List.set_cons_succ]
          refine wpLast_take (i := 7) (v := ?_) rfl (by kernel_rfl) (by kernel_rfl) (by kernel_rfl) (by decide) (by kernel_rfl) (fun _ _ _ h => h) (Or.inl ⟨by rfl, ?_⟩) (by assumption) ?_
          rotate_left
          · (intro w hSw; (try dsimp only at hSw); (try go_split_ands); first | (go_simp; done) | (go_simp; with_reducible rfl))
          try simp only [Act.put, List.getElem_toArray, List.getElem_cons_zero, List.getElem_cons_succ, List.setIfInBounds_toArray, List.set_cons_zero, List.set_cons_succ]
          refine wpLast_take (i := 8) (v := ?_) rfl (by kernel_rfl) (by kernel_rfl) (by kernel_rfl) (by decide) (by kernel_rfl) (fun _ _ _ h => h) (Or.inl ⟨by rfl, ?_⟩) (by assumption) ?_
          rotate_left
          · (intro w hSw; (try dsimp only at hSw); (try go_split_ands); first | (go_simp; done) | (go_simp; with_reducible rfl))
          try simp only [Act.put, List.getElem_toArray, List.getElem_cons_zero, List.getElem_cons_succ, List.setIfInBounds_toArray, List.set_cons_zero, List.set_cons_succ]
          refine wpLast_one (i := 9) (by kernel_rfl) rfl (by decide) (fun K hK => ?_)
          go_simp
          refine hK.out _ _ (by assumption) (fun hHeld => ?_)
          clear hK K
          try simp only [Act.put, List.getElem_toArray, List.getElem_cons_zero, List.getElem_cons_succ, List.setIfInBounds_toArray, List.set_cons_zero, List.set_cons_succ]
          refine wpLast_one (i := 10) (by kernel_rfl) rfl (by decide) (fun K hK => ?_)
          go_simp
          refine hK.out _ _ (by assumption) (fun hHeld => ?_)
          clear hK K
          try simp only [Act.put, List.getElem_toArray, List.getElem_cons_zero, List.getElem_cons_succ, List.setIfInBounds_toArray, List.set_cons_zero, List.set_cons_succ]
          refine wpLast_take (i := 11) (v := ?_) rfl (by kernel_rfl) (by kernel_rfl) (by kernel_rfl) (by decide) (by kernel_rfl) (fun _ _ _ h => h) (Or.inl ⟨by rfl, ?_⟩) (by assumption) ?_
          rotate_left
          · (intro w hSw; (try dsimp only at hSw); (try go_split_ands); first | (go_simp; done) | (go_simp; with_reducible rfl))
          try simp only [Act.put, List.getElem_toArray, List.getElem_cons_zero, List.getElem_cons_succ, List.setIfInBounds_toArray, List.set_cons_zero, List.set_cons_succ]
          refine wpLast_end (by kernel_rfl) rfl (by kernel_rfl) (fun K hK => ?_)
          (try go_split_ands); go_simp
          refine hK.out _ _ ?_
          clear hK K
          try simp only [Act.put, List.getElem_toArray, List.getElem_cons_zero, List.getElem_cons_succ, List.setIfInBounds_toArray, List.set_cons_zero, List.set_cons_succ]
          go_wp2_with fail
          go_ret
          exact ⟨rfl, ts, gb, cF, _, hti, HZ.out⟩
end Go.Proofs.YtheolmnjedbjmaaGreatDoor
