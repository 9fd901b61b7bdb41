import Derived.Test.YtheolmnjedbjmaaGreatDoorSHc
import Derived.Test.YtheolmnjedbjmaaGreatDoorSHf
namespace Go.Proofs.YtheolmnjedbjmaaGreatDoor
open Go.RowKit
set_option linter.unusedVariables false
set_option linter.unusedSimpArgs false
attribute [local go_sem ↓] Go.wp_at_zero Go.wp_at_succ
set_option maxRecDepth 100000 in
set_option maxHeartbeats 1000000 in
theorem endLine_v {W : World} {B : Nat} {v : Value} {bs : List UInt8} (h : Pv W B v bs) (hl : bs.length + 21 ≤ 140737488355328) : Calls Tryz.prog 21 #[v] W fun e w' => WrZ W B bs [10] e w' := by
  obtain ⟨v1, w1, hr, hp, hf⟩ := h.pushz [10] (by simp) (by simp; omega)
  have HR := mkHid hr
  have H1 := mkHid (And.intro hp hf)
  clear h hr hp hf
  go_enter Tryz.func21, Tryz.ntmps21
  go_wp2_with (at_builtin; refine Lib.wpList_append_run _ rfl (.tmp 3) (.tmp 4) 54 54 rfl _ _ rfl rfl _ _ HR.out ?_)
  go_ret
  exact ⟨v1, rfl, H1.out.1, H1.out.2⟩
theorem bAt_bl {w w' : World} {B b : Nat} {p : Value} {bs : List Value} (h : Lib.BuilderAt 56 5 B b p bs w) (k : Bl w w') : Lib.BuilderAt 56 5 B b p bs w' := by
  obtain ⟨hB, v, hb, ho, hne⟩ := h
  exact ⟨hB, v, (k.block _ (lt_of_heap hb)).trans hb, k.ow ho, hne⟩
theorem strs_bytes (s : ByteArray) : Lib.strCells s = Lib.byteCells s.data.toList := by simp [Lib.strCells, Lib.byteCells]
abbrev bl0 : Array Value := #[.pointer none, .slice none 0 0]
set_option maxRecDepth 100000 in
set_option maxHeartbeats 16000000 in
theorem print_ok (W : World) (hp : Pw W) (ws os : Int) (hw : -9223372036854775808 ≤ ws ∧ ws ≤ 9223372036854775807) (ho : -9223372036854775808 ≤ os ∧ os ≤ 9223372036854775807) (g off cc n : Nat) (p : Option Addr) (acts : List AQ) (hl : acts.length = n) (hn : n ≤ 1048576) (hpA : 0 < n → p = some ⟨g, off, none⟩) (hA : ∀ i (hi : i < acts.length), Aw W g (off + i * 7) acts[i].1 acts[i].2.1 acts[i].2.2) (hS : ∀ x ∈ acts, Ak2 x.1) : Calls Tryz.prog 8 #[.agg #[.int .i64 ws, .int .i64 os, .slice p n cc]] W fun e w' => e = .returned (.tuple #[.string (printP ws os (acts.map (·.1))).1, .int .i64 (printP ws os (acts.map (·.1))).2]) ∧ Bl W w' := by
  obtain ⟨W2, hW2⟩ : ∃ X, (W.alloc (.cells (plN ws os p n cc) 24)).alloc (.cells bl0 56) = X := ⟨_, rfl⟩
  have z0 : (W.alloc (.cells (plN ws os p n cc) 24)).heap.size = W.heap.size + 1 := by simp
  have z2 : W2.heap.size = W.heap.size + 2 := by rw [← hW2]; simp
  have b2 : Bl W W2 := by rw [← hW2]; exact (Bl.alloc _ _).trans (Bl.alloc _ _)
  have qp : W2.heap[W.heap.size]? = some (.cells (plN ws os p n cc) 24 (0, 0)) := by
    rw [← hW2]
    exact (Below.heap_alloc _ _ _ (by simp)).trans (heap_alloc_new W _)
  have qb : W2.heap[W.heap.size + 1]? = some (.cells bl0 56 (0, 0)) := by
    rw [← hW2, ← z0]
    exact heap_alloc_new _ _
  have p0 := lit_in qp 0 (.int .i64 ws) rfl
  have p1 := lit_in qp 1 (.int .i64 os) rfl
  have p2 := lit_in qp 2 (.slice p n cc) rfl
  have l1 := itoa_le ws hw
  have l2 := itoa_le os ho
  -- the page's beginning
  have HL : (convert 54 54 (.slice (some ⟨W2.heap.size, 0, none⟩) 4 4)).run Tryz.prog (W2.alloc (.cells #[.int .u8 114, .int .u8 111, .int .u8 111, .int .u8 109] 5)) = .ok (.slice (some ⟨W2.heap.size, 0, none⟩) 4 4) (W2.alloc (.cells #[.int .u8 114, .int .u8 111, .int .u8 111, .int .u8 109] 5 (4, 5))) := conv_lit W2 [114, 111, 111, 109]
  obtain ⟨W3, hW3⟩ : ∃ X, W2.alloc (.cells #[.int .u8 114, .int .u8 111, .int .u8 111, .int .u8 109] 5 (4, 5)) = X := ⟨_, rfl⟩
  rw [hW3] at HL
  have b3 : Bl W2 W3 := by rw [← hW3]; exact Bl.alloc _ _
  have z3 : W3.heap.size = W2.heap.size + 1 := by rw [← hW3]; simp
  have hpg : Pv W3 W2.heap.size (.slice (some ⟨W2.heap.size, 0, none⟩) 4 4) [114, 111, 111, 109] := by
    rw [← hW3]
    exact Or.inl (Or.inr (Lt.new (hp.bl b2) [114, 111, 111, 109]))
  have qp3 := (b3.block _ (lt_of_heap qp)).trans qp
  have qb3 := (b3.block _ (lt_of_heap qb)).trans qb
  have p30 := lit_in qp3 0 (.int .i64 ws) rfl
  have p31 := lit_in qp3 1 (.int .i64 os) rfl
  have HN : Hid (Calls Tryz.prog 22 #[.slice (some ⟨W2.heap.size, 0, none⟩) 4 4, .slice (some ⟨W3.heap.size, 0, none⟩) 2 2] (W3.alloc (.cells #[.int .i64 ws, .int .i64 os] 3)) fun e w4 => ∃ p4 n4 c4, e = .returned (.slice p4 n4 c4) ∧ Hid (Calls Tryz.prog 21 #[.slice p4 n4 c4] w4 fun e w5 => ∃ p5 n5 c5, e = .returned (.slice p5 n5 c5) ∧ Hid (Calls Tryz.prog 20 #[.pointer (some ⟨W.heap.size + 1, 0, none⟩), .slice p5 n5 c5] w5 fun e w6 => (∃ x, e = .returned x) ∧ w6.cell? ⟨W.heap.size, 2, none⟩ = some (.slice p n cc) ∧ Hid (Lib.BuilderAt 56 5 (W.heap.size + 1) (W.heap.size + 1) (.pointer (some ⟨W.heap.size + 1, 0, none⟩)) (Lib.byteCells (roomB ws os)) w6 ∧ w6.heap[W.heap.size]? = some (.cells (plN ws os p n cc) 24 (0, 0)) ∧ Bl W w6)))) := by
    have hnum := numbers_v ((hpg.al (.cells #[.int .i64 ws, .int .i64 os] 3))) [ws, os] (some ⟨W3.heap.size, 0, none⟩) 2 (fun z hz => by simp at hz; rcases hz with rfl | rfl; exact hw; exact ho) (by simp) (by simp) (fun U hU _ => ⟨W3.heap.size, 0, rfl, fun j hj => by
      have hb := hU.hb (heap_alloc_new W3 (.cells #[.int .i64 ws, .int .i64 os] 3)) (fun c fz e => by cases e)
      have hj2 : j = 0 ∨ j = 1 := by simp at hj; omega
      rcases hj2 with rfl | rfl
      · exact cell_in hb 0
      · exact cell_in hb 1⟩)
    refine hnum.mono ?_
    rintro e w4 ⟨v4, rfl, hp4, hf4⟩
    obtain ⟨p4, c4, rfl⟩ := hp4.slice
    refine ⟨p4, _, c4, rfl, ?_⟩
    have hlen : ([114, 111, 111, 109] ++ numsW [ws, os]).length ≤ 100 := by
      simp only [numsW, List.flatMap_cons, List.flatMap_nil, List.length_append, List.length_cons, List.length_nil]
      omega
    refine (endLine_v hp4 (by omega)).mono ?_
    rintro e w5 ⟨v5, rfl, hp5, hf5⟩
    obtain ⟨p5, c5, rfl⟩ := hp5.pv.slice
    refine ⟨p5, _, c5, rfl, ?_⟩
    have hroom : [114, 111, 111, 109] ++ numsW [ws, os] ++ [10] = roomB ws os := by
      unfold roomB numsW
      simp
    rw [hroom] at hp5 ⊢
    have hb0 : Bl W3 (W3.alloc (.cells #[.int .i64 ws, .int .i64 os] 3)) := Bl.alloc _ _
    have qp5 := hf5.hb (hf4.hb ((hb0.block _ (lt_of_heap qp3)).trans qp3) (fun c fz e => by cases e)) (fun c fz e => by cases e)
    have qb5 := hf5.hb (hf4.hb ((hb0.block _ (lt_of_heap qb3)).trans qb3) (fun c fz e => by cases e)) (fun c fz e => by cases e)
    have bl5 : Bl W w5 := Below.trans ((b2.trans b3).trans hb0) (Below.mono (Below.trans hf4.below hf5.below) b2.size)
    have hsz5 := bl5.size
    have hne : roomB ws os ≠ [] := by unfold roomB; simp
    have hrl : (roomB ws os).length ≤ 200 := by
      unfold roomB
      simp only [List.length_append, List.length_cons, List.length_nil]
      omega
    refine (Write_fresh w5 (W.heap.size + 1) (W.heap.size + 1) W2.heap.size (Nat.le_refl _) (by have := lt_of_heap qb5; omega) qb5 _ (roomB ws os) hp5 hne (by omega)).mono ?_
    rintro e w6 ⟨hx, hB6, hb6⟩
    have qp6 := (hb6.block _ (by omega)).trans qp5
    exact ⟨hx, lit_in qp6 2 _ rfl, hB6, qp6, Below.trans bl5 (Below.mono hb6 (by omega))⟩
  have HW := mkHid hp
  have HA := mkHid hA
  have HSz := mkHid hS
  have HPA := mkHid hpA
  have HLe := mkHid (pageP_len ws os hw ho (acts.map (·.1)))
  have hlm : (acts.map (·.1)).length = n := by simp [hl]
  clear hp hA hS hpA qp qb b2 b3 z0 z2 z3 hpg qp3 qb3 l1 l2
  obtain ⟨fb, hfb⟩ : ∃ fb, decide (1 + (n : Int) ≤ 20000) = fb := ⟨_, rfl⟩
  go_enter Tryz.func8, Tryz.ntmps8
  go_wp2_with (first
    | (go_at_call 22; refine HN.out.mono ?_; rintro e w4 ⟨p4, n4, c4, rfl, H21⟩)
    | (go_at_call 21; refine H21.out.mono ?_; rintro e w5 ⟨p5, n5, c5, rfl, H20⟩)
    | (go_at_call 20; refine H20.out.mono ?_; rintro e w6 ⟨⟨x6, rfl⟩, p62, HB6⟩))
  clear HN H21 H20 HL p0 p1 p2 p30 p31 hW2 hW3 p62
  replace hfb := mkHid hfb
  go_loopw [28] (fun x wr => ∃ i : Nat, i ≤ n ∧ x = .int .i64 (i : Int) ∧ Hid (errP ((acts.map (·.1)).take i) = none ∧ Lib.BuilderAt 56 5 (W.heap.size + 1) (W.heap.size + 1) (.pointer (some ⟨W.heap.size + 1, 0, none⟩)) (Lib.byteCells (pageP ws os (acts.map (·.1)) i)) wr ∧ Bl W wr)) (fun x _ => n - (intOf x).toNat)
  case atStart => exact ⟨0, Nat.zero_le _, rfl, rfl, by unfold pageP textP; simpa using HB6.out.1, HB6.out.2.2⟩
  case round =>
    clear HB6
    obtain ⟨i, hi, rfl, hst⟩ := hrel
    have i0 : (0 : Int) ≤ (i : Int) := by omega
    obtain ⟨wo, rfl⟩ : ∃ V, V = wr := ⟨wr, rfl⟩
    obtain ⟨he, hz, hbl⟩ := hst.out
    by_cases hlt : i < n
    · have i1 : (i : Int) < (n : Int) := by omega
      obtain rfl := HPA.out (by omega)
      have hA := HA.out i (by omega)
      have hS := HSz.out acts[i] (List.getElem_mem (by omega))
      obtain ⟨⟨a, q, c⟩, hacts⟩ : ∃ x, acts[i]'(by omega) = x := ⟨_, rfl⟩
      rw [hacts] at hA hS
      simp only at hA hS
      have hget : (acts.map (·.1))[i]'(by omega) = a := by
        rw [List.getElem_map, hacts]
      have h1 := hA.bl hbl
      have c0 := h1.cells 0 (.int .i64 a.kind) rfl
      have c1 := h1.cells 1 (.string a.name) rfl
      have c2 := h1.cells 2 (.string a.other) rfl
      have c3 := h1.cells 3 (.slice q a.names.length c) rfl
      have c4 := h1.cells 4 (.string a.text) rfl
      have c5 := h1.cells 5 (.int .i64 a.num) rfl
      have c6 := h1.cells 6 (.int .i64 a.fuel) rfl
      rw [Nat.add_zero] at c0
      have hb7 : Bl wo (wo.alloc (.cells #[.int .i64 a.kind, .string a.name, .string a.other, .slice q a.names.length c, .string a.text, .int .i64 a.num, .int .i64 a.fuel] 40)) := Bl.alloc _ _
      have HC : Hid (Calls Tryz.prog 23 #[.agg #[.int .i64 a.kind, .string a.name, .string a.other, .slice q a.names.length c, .string a.text, .int .i64 a.num, .int .i64 a.fuel]] (wo.alloc (.cells #[.int .i64 a.kind, .string a.name, .string a.other, .slice q a.names.length c, .string a.text, .int .i64 a.num, .int .i64 a.fuel] 40)) fun e w' => e = .returned (.tuple #[.string (paP a).1, .int .i64 (paP a).2]) ∧ Hid (Bl wo w')) := by
        refine (printAct_ok _ ((HW.out.bl hbl).bl hb7) a q c (h1.bl hb7).names hS.one).mono ?_
        rintro e w' ⟨rfl, hb⟩
        exact ⟨rfl, hb7.trans hb⟩
      by_cases h0 : (paP a).2 = 0
      · have HE : Hid (errP ((acts.map (·.1)).take (i + 1)) = none) := errP_step _ i (by omega) he (by rw [hget]; exact h0)
        rw [h0] at HC
        have hll := lineP_len a
        cases fb
        rotate_left
        · have hf : n + 1 ≤ 20000 := by have := of_decide_eq_true hfb.out; omega
          have hpl := HLe.out i
          have hst2 : pageP ws os (acts.map (·.1)) (i + 1) = pageP ws os (acts.map (·.1)) i ++ lineP a := by
            unfold pageP
            rw [hlm, if_pos hf, if_pos hf, textP_step _ i (by omega), hget, List.append_assoc]
          have HX : Hid (∀ w2, Hid (Bl wo w2) → Calls Tryz.prog 24 #[.pointer (some ⟨W.heap.size + 1, 0, none⟩), .string (paP a).1] w2 fun e w3 => (∃ x, e = .returned x) ∧ Hid (Calls Tryz.prog 25 #[.pointer (some ⟨W.heap.size + 1, 0, none⟩), .int .u8 10] w3 fun e w4 => (∃ x, e = .returned x) ∧ Hid (Lib.BuilderAt 56 5 (W.heap.size + 1) (W.heap.size + 1) (.pointer (some ⟨W.heap.size + 1, 0, none⟩)) (Lib.byteCells (pageP ws os (acts.map (·.1)) (i + 1))) w4 ∧ Bl W w4))) := fun w2 hb => by
            have hz2 := bAt_bl hz hb.out
            have bW2 := hbl.trans hb.out
            have hsz : W.heap.size + 1 ≤ w2.heap.size := by
              obtain ⟨_, v, hbx, _⟩ := hz2
              have := lt_of_heap hbx
              omega
            have hlz : (Lib.byteCells (pageP ws os (acts.map (·.1)) i)).length = (pageP ws os (acts.map (·.1)) i).length := Lib.byteCells_length _
            have hps : (paP a).1.size = (paP a).1.data.toList.length := by rw [Array.length_toList]; rfl
            have hpz := paP_len a
            refine (WriteString_ok (W.heap.size + 1) (W.heap.size + 1) _ (paP a).1 w2 (Or.inr hz2) (by rw [hlz, hps]; omega) hsz).mono ?_
            rintro e w3 ⟨rfl, h3, hb3⟩
            refine ⟨⟨_, rfl⟩, ?_⟩
            have hsz3 : W.heap.size + 1 ≤ w3.heap.size := Nat.le_trans hsz hb3.size
            rw [strs_bytes] at h3
            refine (WriteByte_ok (W.heap.size + 1) (W.heap.size + 1) _ 10 w3 (Or.inr h3) (by rw [List.length_append, hlz, Lib.byteCells_length]; omega) hsz3).mono ?_
            rintro e w4 ⟨rfl, h4, hb4⟩
            have e4 : Lib.byteCells (pageP ws os (acts.map (·.1)) i) ++ Lib.byteCells (paP a).1.data.toList ++ [.int .u8 10] = Lib.byteCells (pageP ws os (acts.map (·.1)) (i + 1)) := by
              rw [hst2]
              unfold lineP
              rw [Lib.byteCells_append, Lib.byteCells_append, ← List.append_assoc]
              rfl
            rw [e4] at h4
            exact ⟨⟨_, rfl⟩, h4, Below.trans bW2 (Below.mono (Below.trans hb3 hb4) (by omega))⟩
          clear hst he hz hbl hA hS h1 hget hacts h0 hll hpl hst2 HA HSz HPA hb7
          generalize (paP a).1 = ps at *
          go_wp2_with (first
            | (go_at_call 23; refine HC.out.mono ?_; rintro e w2 ⟨rfl, hb2⟩; have HY := HX.out w2 hb2; clear c0 c1 c2 c3 c4 c5 c6)
            | (go_at_call 24; refine HY.mono ?_; rintro e w3 ⟨⟨x3, rfl⟩, HZ⟩)
            | (go_at_call 25; refine HZ.out.mono ?_; rintro e w4 ⟨⟨x4, rfl⟩, HR⟩))
          go_roundw
          case rel => exact ⟨i + 1, by omega, by go_num, HE.out, HR.out⟩
          case measure => simp [intOf]; omega
        · have hf : ¬ n + 1 ≤ 20000 := by have := of_decide_eq_false hfb.out; omega
          have hst2 : pageP ws os (acts.map (·.1)) (i + 1) = pageP ws os (acts.map (·.1)) i := by
            unfold pageP
            rw [hlm, if_neg hf, if_neg hf]
          have HX : Hid (∀ w2, Hid (Bl wo w2) → Lib.BuilderAt 56 5 (W.heap.size + 1) (W.heap.size + 1) (.pointer (some ⟨W.heap.size + 1, 0, none⟩)) (Lib.byteCells (pageP ws os (acts.map (·.1)) (i + 1))) w2 ∧ Bl W w2) := fun w2 hb => by
            rw [hst2]
            exact ⟨bAt_bl hz hb.out, hbl.trans hb.out⟩
          clear hst he hz hbl hA hS h1 hget hacts h0 hll hst2 HA HSz HPA hb7
          generalize (paP a).1 = ps at *
          go_wp2_with (go_at_call 23; refine HC.out.mono ?_; rintro e w2 ⟨rfl, hb2⟩; have HR := mkHid (HX.out w2 hb2); clear c0 c1 c2 c3 c4 c5 c6)
          go_roundw
          case rel => exact ⟨i + 1, by omega, by go_num, HE.out, HR.out⟩
          case measure => simp [intOf]; omega
      · have HE : Hid (printP ws os (acts.map (·.1)) = (⟨#[]⟩, (paP a).2)) := by
          have := errP_stop _ i (by omega) he (by rw [hget]; exact h0)
          rw [hget] at this
          show _ = _
          unfold printP
          rw [this]
        have HBW : Hid (∀ w2, Hid (Bl wo w2) → Bl W w2) := fun w2 hb => hbl.trans hb.out
        clear hst he hz hbl hA hS h1 hget hacts HA HSz HPA hb7
        generalize (paP a).1 = ps at *
        generalize (paP a).2 = pn at *
        go_wp2_with (go_at_call 23; refine HC.out.mono ?_; rintro e w2 ⟨rfl, hb2⟩; clear c0 c1 c2 c3 c4 c5 c6)
        go_ret2
        exact ⟨by rw [HE.out]; rfl, HBW.out _ hb2⟩
    · have hie : i = n := by omega
      subst hie
      have hall : (acts.map (·.1)).take i = acts.map (·.1) := List.take_of_length_le (by omega)
      rw [hall] at he
      have HBW := mkHid hbl
      cases fb
      · have hf : 20000 < i + 1 := by have := of_decide_eq_false hfb.out; omega
        have HE : Hid (printP ws os (acts.map (·.1)) = (⟨#[]⟩, 246)) := by
          show _ = _
          unfold printP
          rw [he, hlm]
          simp only
          rw [if_pos hf]
        clear hst he hz hbl HA HSz HPA hall
        go_wp2_with fail
        go_ret2
        exact ⟨by rw [HE.out]; rfl, HBW.out⟩
      · have hf : ¬ 20000 < i + 1 := by have := of_decide_eq_true hfb.out; omega
        have hpe : pageP ws os (acts.map (·.1)) i = roomB ws os ++ textP (acts.map (·.1)) := by
          unfold pageP
          rw [hlm, if_pos (by omega), hall]
        have HE : Hid (printP ws os (acts.map (·.1)) = (⟨(roomB ws os ++ textP (acts.map (·.1))).toArray⟩, 0)) := by
          show _ = _
          unfold printP
          rw [he, hlm]
          simp only
          rw [if_neg hf]
          rfl
        rw [hpe] at hz
        have HSt : Hid (Calls Tryz.prog 26 #[.pointer (some ⟨W.heap.size + 1, 0, none⟩)] wo fun e w' => e = .returned (.string ⟨(roomB ws os ++ textP (acts.map (·.1))).toArray⟩) ∧ Hid (Bl W w')) := by
          have hsz : W.heap.size + 1 ≤ wo.heap.size := by
            obtain ⟨_, v, hbx, _⟩ := hz
            have := lt_of_heap hbx
            omega
          refine (String_ok (W.heap.size + 1) (W.heap.size + 1) _ wo (Or.inr hz) hsz).mono ?_
          rintro e w' ⟨rfl, hb⟩
          exact ⟨rfl, Below.trans hbl (Below.mono hb (by omega))⟩
        clear hst he hz hbl HA HSz HPA hall hpe
        generalize (roomB ws os ++ textP (acts.map (·.1))).toArray = tx at *
        go_wp2_with (go_at_call 26; refine HSt.out.mono ?_; rintro e w2 ⟨rfl, HB7⟩)
        go_ret2
        exact ⟨by rw [HE.out]; rfl, HB7.out⟩
end Go.Proofs.YtheolmnjedbjmaaGreatDoor
