import Derived.Test.YtheolmnjedbjmaaGreatDoorSPh
import Derived.Shelf.Strconv.AppendIntPublic10
namespace Go.Proofs.YtheolmnjedbjmaaGreatDoor
open Go.RowKit
set_option linter.unusedVariables false
set_option linter.unusedSimpArgs false
attribute [local go_sem ↓] Go.wp_at_zero Go.wp_at_succ
theorem Lg.pushA {W : World} {B : Nat} {v : Value} {bs : Bs} (h : Lg W B v bs) (news : Bs) (a : Addr) (c : Nat) (hnews : ∀ j u, (Lib.byteCells news)[j]? = some u → W.cell? (a.add j) = some u) (hl : bs.length + news.length ≤ 140737488355328) :
    ∃ v' w', (Builtin.append_ #[54, 54] 54 #[v, .slice (some a) news.length c]).run Tryz.prog W = .ok v' w' ∧ Pz w' B v' (bs ++ news) ∧ Pf B W w' := by
  obtain ⟨i5, ii, iz, is, ib⟩ := info_parts info5x
  obtain ⟨g, cap, cur, fz, rfl, hg, hb, h1, h2, h3, h4, h5⟩ := h.at_
  have hlow := h.low
  have hpa : Pf B W W := Pf.refl B W
  have hb2 := hb
  by_cases hroom : bs.length + news.length ≤ cap
  · have hr := run_append_roomB (P := Tryz.prog) W 54 54 5 i5 Tryz.underlying54 ii is g bs.length cap cur fz hb2 a news.length c (Lib.byteCells news) (Lib.byteCells_length _) hnews (byteCells_one news) (by omega) hroom (by omega)
    have hlow1 : B ≤ W.heap.size := by omega
    have hgb : W.grownBy (W.setRow g (cur.toList.take bs.length ++ Lib.byteCells news ++ cur.toList.drop (bs.length + news.length)).toArray) (some g) := ⟨rfl, rfl, rfl, by simp, fun k _ hk => setRow_other W g k _ (fun e => hk (by simp [e]))⟩
    have hpf : Pf B W (W.setRow g (cur.toList.take bs.length ++ Lib.byteCells news ++ cur.toList.drop (bs.length + news.length)).toArray) :=
      hpa.trans ⟨(Fr.grown (S := [g]) hgb (fun k hk => by simp at hk; simp [hk])).below hlow1 (fun b hb => by simp at hb; omega), (Lib.OthersKept.refl 5 none W).grown hgb (fun k hk => by
        have : k = g := by simpa using hk.symm
        subst this
        exact ⟨_, _, hb2⟩)⟩
    refine ⟨_, _, hr, Or.inr ⟨⟨g, cap, _, fz, by rw [List.length_append], hg, setRow_heap W g cur _ 5 _ hb2, h1, by rw [List.length_append]; exact hroom, h3, ?_, ?_⟩, Nat.le_trans hlow hpf.below.size, h.tab.on hpf.below⟩, hpf⟩
    · simp only [List.size_toArray, List.length_append, List.length_take, List.length_drop, Array.length_toList, Lib.byteCells_length]
      omega
    · rw [h5]
      have hl2 : (bs ++ news).length = (Lib.byteCells bs ++ Lib.byteCells news).length := by simp [Lib.byteCells]
      rw [hl2, Lib.byteCells_append]
      simp only [List.append_assoc]
      rw [← List.append_assoc, List.take_left]
  · have holds : ∀ j u, (Lib.byteCells bs)[j]? = some u → W.cell? ((⟨g, 0, none⟩ : Addr).add j) = some u := fun j u hu => by
      have : (⟨g, 0, none⟩ : Addr).add j = ⟨g, j, none⟩ := by rw [Addr.add_mid]; simp
      rw [this, cell_inF hb2 j, ← Array.getElem?_toList]
      rw [← h5, List.getElem?_take] at hu
      split at hu
      · exact hu
      · cases hu
    have hr := run_append_grow (P := Tryz.prog) W 54 54 5 i5 (.int .u8 0) Tryz.underlying54 ii iz ⟨g, 0, none⟩ bs.length cap (Lib.byteCells bs) (by rw [is, Lib.byteCells_length]; omega) holds a news.length c (Lib.byteCells news) (by rw [is, Lib.byteCells_length]; omega) hnews (by omega) (by omega) (by rw [ib]; exact growslice_fits (by omega) (by omega))
    have hlow1 : B ≤ W.heap.size := by omega
    have hge := grownCap_ge W (bs.length + news.length) cap 5
    have hcm := grownCap_le_maxLen W (bs.length + news.length) cap 5 (by unfold maxLen; omega)
    have hf : Fr [] W (W.drew.alloc (.cells ((Lib.byteCells bs).toArray ++ (Lib.byteCells news).toArray ++ Builtin.zeroCells (Value.int .u8 0).cells (grownCap W (bs.length + news.length) cap 5 - (bs.length + news.length))) 5)) :=
      (Fr.drew [] W).trans (Fr.alloc [] _ _) (by simp)
    have hpf : Pf B W _ := hpa.trans ⟨hf.below hlow1 (by simp), ((Lib.OthersKept.refl 5 none W).drew).alloc _⟩
    refine ⟨_, _, hr, Or.inl ⟨?_, Nat.le_trans hlow hpf.below.size, h.tab.on hpf.below⟩, hpf⟩
    · rw [List.length_append]
      refine ⟨by rw [Lib.byteCells_length, List.length_append, Nat.mul_one], .inr ⟨_, _, _, rfl, ?_, heap_alloc_new _ _, hge, hcm, ?_, ?_⟩⟩
      · exact hlow1
      · simp only [Array.size_append, List.size_toArray, size_zeroCells, Lib.byteCells_length]
        simp [Value.cells]
        omega
      · have hl2 : (bs.length + news.length) * 1 = (Lib.byteCells bs ++ Lib.byteCells news).length := by simp [Lib.byteCells]
        simp only [Array.toList_append, Lib.byteCells_append]
        rw [hl2, List.take_left]
def WrZ (W : World) (B : Nat) (bs news : Bs) (e : Ending) (w' : World) : Prop := ∃ v', e = .returned v' ∧ Pz w' B v' (bs ++ news) ∧ Pf B W w'
theorem tabN {W : World} {B : Nat} (h : Lib.TabBelow Tryz.prog B W "internal/strconv.uint64pow10" .u64 Lib.pow10Tab) : Lib.TabIs Tryz.prog W "internal/strconv.uint64pow10" .u64 Lib.pow10Tab := h.here
theorem dec_le20 (u : Nat) (h : u < 18446744073709551616) : (Lib.decDigits u).length ≤ 20 := by
  rw [Lib.decDigits_length]
  by_cases h1 : 1 ≤ u
  · have := Lib.numDigits_eq u h1 h; split at this <;> omega
  · have : u = 0 := by omega
    subst this
    rw [Lib.nDigits_small (by omega)]; omega
set_option maxRecDepth 100000 in
set_option maxHeartbeats 4000000 in
theorem Lg.small {W : World} {B : Nat} {v : Value} {bs : Bs} (h : Lg W B v bs) (u : Nat) (hu : u < 100) (hl : bs.length + 20 ≤ 140737488355328) : Calls Tryz.prog 79 #[v, .int .u64 u, .int .i64 10] W fun e w' => WrZ W B bs (Lib.decDigits u) e w' := by
  have hd := dec_le20 u (by omega)
  obtain ⟨v1, w1, hr, hp, hf⟩ := h.str (Lib.decDigits u) (by omega)
  have HR := mkHid hr
  have HX : Hid (WrZ W B bs (Lib.decDigits u) (.returned v1) w1) := ⟨v1, rfl, hp, hf⟩
  have HS : Hid (∀ U, Calls Tryz.prog 90 #[.int .i64 (u : Int)] U fun e w' => e = .returned (.string (ba (Lib.decDigits u))) ∧ w' = U) := fun U => Any.internal_strconv_small { Tryz.laysM176 with } u hu U
  clear h hr hp hf
  have hu0 : (u : Int) < 100 := by omega
  go_enter Tryz.func79, Tryz.ntmps79
  go_wp2_with (first
    | (go_at_call 90; refine (HS.out _).mono ?_; rintro e w' ⟨rfl, rfl⟩)
    | (at_builtin; refine Lib.wpList_append_run _ rfl _ _ 54 9 rfl _ _ rfl rfl _ _ HR.out ?_))
  go_ret
  exact HX.out
set_option maxRecDepth 100000 in
set_option maxHeartbeats 12800000 in
theorem Lg.great {W : World} {B : Nat} {v : Value} {bs : Bs} (h : Lg W B v bs) (u : Nat) (hu : 100 ≤ u) (hu64 : u < 18446744073709551616) (hl : bs.length + 20 ≤ 140737488355328) : Calls Tryz.prog 79 #[v, .int .u64 u, .int .i64 10] W fun e w' => WrZ W B bs (Lib.decDigits u) e w' := by
  have hd := dec_le20 u hu64
  have hu1 : 1 ≤ u := by omega
  have hnd20 : Lib.nDigits u ≤ 20 := by rw [← Lib.decDigits_length]; exact hd
  have hal : Tryz.prog.arrayLen 161 = 24 := by kernel_rfl
  have hsl : ∀ U, (Instr.sliceAt 161 (.pointer (some ⟨W.heap.size, 0, none⟩)) none (some (.int .i64 (Lib.nDigits u : Int))) none).run Tryz.prog U = .ok (.slice (some ⟨W.heap.size, 0, none⟩) (Lib.nDigits u) 24) U := fun U => by
    rw [run_sliceAt_array_h U 161 ⟨W.heap.size, 0, none⟩ (by kernel_rfl) .i64 (Lib.nDigits u : Int) (by omega) (by rw [hal]; omega)]
    go_simp
  have hH0 := Lib.holds_zero0 W 161 (Lib.nDigits u) (by omega)
  have HND : Hid (∀ U, Below B W U → Calls Tryz.prog 91 #[.int .u64 (u : Int)] U fun e w' => e = .returned (.int .i64 (Lib.nDigits u : Int)) ∧ w' = U) := fun U hU => Any.internal_strconv_numDigits { Tryz.laysM176 with } u hu1 hu64 U (h.tab U hU)
  have HF : Hid (Calls Tryz.prog 92 #[.slice (some ⟨W.heap.size, 0, none⟩) (Lib.nDigits u) 24, .int .u64 (u : Int)] (W.alloc (.cells Lib.zeros24 161)) fun e w' => e = .returned (.tuple #[]) ∧ ∃ v' W2, WrZ W B bs (Lib.decDigits u) (.returned v') W2 ∧ (Builtin.append_ #[54, 54] 54 #[v, .slice (some ⟨W.heap.size, 0, none⟩) (Lib.nDigits u) 24]).run Tryz.prog w' = .ok v' W2) := by
    have hfmt := Any.internal_strconv_formatBase10 { Tryz.laysM176 with } W.heap.size 0 24 u (Array.replicate (Lib.nDigits u) 0) (W.alloc (.cells Lib.zeros24 161)) hH0 (by rw [Array.size_replicate]; exact Lib.lt_pow_nDigits u) hu64 (by rw [Array.size_replicate]; omega)
    rw [Array.size_replicate] at hfmt
    refine hfmt.mono ?_
    rintro e w' ⟨rfl, k, v', dk, rfl, hF⟩
    refine ⟨rfl, ?_⟩
    have hcells : ∀ j u', (Lib.byteCells (Lib.decDigits u))[j]? = some u' → ((Go.Sort.putRow (fun (b : UInt8) => Value.int .u8 (b.toNat : Int)) (W.alloc (.cells Lib.zeros24 161)) W.heap.size 0 dk).drewN k).cell? ((⟨W.heap.size, 0, none⟩ : Addr).add j) = some u' := by
      intro j u' hj
      have hjl : j < (Lib.decDigits u).length := by
        have h5 := (List.getElem?_eq_some_iff.1 hj).1
        rwa [Lib.byteCells_length] at h5
      have e5 : (Lib.byteCells (Lib.decDigits u))[j]? = some (Value.int .u8 ((Lib.decDigits u)[j].toNat : Int)) := by simp [Lib.byteCells, hjl]
      rw [e5] at hj
      cases hj
      rw [Lib.row_is_numeral hF j hjl, Lib.add_plain, World.cell?_drewN]
      exact Go.Sort.cell?_putRow (fun (b : UInt8) => Value.int .u8 (b.toNat : Int)) _ W.heap.size 0 _ dk hH0 (by rw [hF.size, Array.size_replicate]) j (by rw [hF.size]; rw [Lib.decDigits_length] at hjl; exact hjl)
    obtain ⟨os, eo⟩ := Lib.fin_at W (.cells Lib.zeros24 161) dk k 0
    have hbl : Bl W ((Go.Sort.putRow (fun (b : UInt8) => Value.int .u8 (b.toNat : Int)) (W.alloc (.cells Lib.zeros24 161)) W.heap.size 0 dk).drewN k) := by rw [eo]; exact Lib.below_grow W.heap.size W (Nat.le_refl _) k os
    have hok : Lib.OthersKept 5 none W ((Go.Sort.putRow (fun (b : UInt8) => Value.int .u8 (b.toNat : Int)) (W.alloc (.cells Lib.zeros24 161)) W.heap.size 0 dk).drewN k) := by rw [eo]; exact (Lib.OthersKept.refl _ _ W).below (Lib.below_grow W.heap.size W (Nat.le_refl _) k os)
    generalize (Go.Sort.putRow (fun (b : UInt8) => Value.int .u8 (b.toNat : Int)) (W.alloc (.cells Lib.zeros24 161)) W.heap.size 0 dk).drewN k = W2 at hcells hbl hok ⊢
    have h2 : Lg W2 B v bs := by
      rcases (Pz.bl (Or.inr h : Pz W B v bs) hbl) with q | q
      · obtain ⟨g, cap, cur, fz, e, hg, hb, r⟩ := h.at_
        exact ⟨⟨g, cap, cur, fz, e, hg, (hbl.block g (lt_of_heap hb)).trans hb, r⟩, Nat.le_trans h.low hbl.size, h.tab.on (Below.mono hbl h.low)⟩
      · exact q
    obtain ⟨v2, w3, hr, hp, hf⟩ := h2.pushA (Lib.decDigits u) ⟨W.heap.size, 0, none⟩ 24 hcells (by omega)
    rw [Lib.decDigits_length] at hr
    exact ⟨v2, w3, ⟨v2, rfl, hp, Pf.trans ⟨Below.mono hbl h.low, hok⟩ hf⟩, hr⟩
  have HB : Hid (Below B W (W.alloc (.cells Lib.zeros24 161))) := (Bl.alloc W _).mono h.low
  clear h hH0 hal
  have iu : (100 : Int) ≤ (u : Int) := by omega
  go_enter Tryz.func79, Tryz.ntmps79
  go_wp2_with (first
    | (go_at_call 91; refine (HND.out _ HB.out).mono ?_; rintro e w' ⟨rfl, rfl⟩)
    | (go_at_call 92; refine HF.out.mono ?_; rintro e w2 ⟨rfl, v', W2, hx, hr⟩; have HX := mkHid hx; have HR := mkHid hr; clear hx hr)
    | (at_builtin; refine Lib.wpList_append_run _ rfl _ _ 54 54 rfl _ _ rfl rfl _ _ HR.out ?_))
  go_ret
  exact HX.out
theorem Pz.uint {W : World} {B : Nat} {v : Value} {bs : Bs} (h : Pz W B v bs) (u : Nat) (hu64 : u < 18446744073709551616) (hl : bs.length + 20 ≤ 140737488355328) : Calls Tryz.prog 79 #[v, .int .u64 u, .int .i64 10] W fun e w' => WrZ W B bs (Lib.decDigits u) e w' := by
  rcases h with h | h
  · refine (Any.internal_strconv_AppendUint_10 { Tryz.laysM176 with } B bs.length u hu64 v (Lib.byteCells bs) W h.row h.low hl h.tab.here).mono ?_
    rintro e w' ⟨v', rfl, ho, hb, hk⟩
    exact ⟨v', rfl, Or.inl ⟨by rw [List.length_append, Lib.byteCells_append]; exact ho, Nat.le_trans h.low hb.size, h.tab.on hb⟩, hb, hk⟩
  · by_cases hu : u < 100
    · exact h.small u hu hl
    · exact h.great u (by omega) hu64 hl
set_option maxRecDepth 100000 in
set_option maxHeartbeats 6400000 in
theorem Lg.int {W : World} {B : Nat} {v : Value} {bs : Bs} (h : Lg W B v bs) (i : Int) (h0 : -9223372036854775808 ≤ i) (h1 : i ≤ 9223372036854775807) (hl : bs.length + 21 ≤ 140737488355328) : Calls Tryz.prog 64 #[v, .int .i64 i, .int .i64 10] W fun e w' => WrZ W B bs (Lib.itoa i) e w' := by
  by_cases hneg : i < 0
  · obtain ⟨u, rfl⟩ : ∃ u : Nat, i = -(u : Int) := ⟨i.natAbs, by omega⟩
    have hu1 : 1 ≤ u := by omega
    have hu64 : u < 18446744073709551616 := by omega
    have hwr : IntKind.u64.wrap (-IntKind.u64.wrap (-(u : Int))) = (u : Int) := by rw [IntKind.wrap_u64, IntKind.wrap_u64]; omega
    rw [Lib.itoa_neg u hu1]
    obtain ⟨v1, w1, hr, hp, hf⟩ := h.push [45] (by simp; omega)
    have HR := mkHid hr
    have HU : Hid (Calls Tryz.prog 79 #[v1, .int .u64 u, .int .i64 10] w1 fun e w' => WrZ W B bs (45 :: Lib.decDigits u) e w') := (hp.uint u hu64 (by simp; omega)).mono (by
      rintro e w' ⟨v', rfl, q, k⟩
      rw [List.append_assoc] at q
      exact ⟨v', rfl, q, hf.trans k⟩)
    clear h hr hp hf
    go_enter Tryz.func64, Tryz.ntmps64
    go_wp2_with (first
      | (at_builtin; refine Lib.wpList_append_run _ rfl _ _ 54 54 rfl _ _ rfl rfl _ _ HR.out ?_)
      | (go_at_call 79; refine HU.out.mono ?_; rintro e w' ⟨v', rfl, q, k⟩; have HX := mkHid (And.intro q k); clear q k))
    go_ret
    exact ⟨v', rfl, HX.out.1, HX.out.2⟩
  · obtain ⟨u, rfl⟩ : ∃ u : Nat, i = u := ⟨i.toNat, by omega⟩
    have hu64 : u < 18446744073709551616 := by omega
    rw [Lib.itoa_nonneg]
    have HU : Hid (Calls Tryz.prog 79 #[v, .int .u64 u, .int .i64 10] W fun e w' => WrZ W B bs (Lib.decDigits u) e w') := Pz.uint (Or.inr h) u hu64 (by omega)
    clear h
    go_enter Tryz.func64, Tryz.ntmps64
    go_wp2_with (go_at_call 79; refine HU.out.mono ?_; rintro e w' ⟨v', rfl, q, k⟩; have HX := mkHid (And.intro q k); clear q k)
    go_ret
    exact ⟨v', rfl, HX.out.1, HX.out.2⟩
set_option maxRecDepth 100000 in
/-- a number more on a page of any kind -/
theorem Pz.num {W : World} {B : Nat} {v : Value} {bs : Bs} (h : Pz W B v bs) (i : Int) (h0 : -9223372036854775808 ≤ i) (h1 : i ≤ 9223372036854775807) (hl : bs.length + 21 ≤ 140737488355328) : Calls Tryz.prog 42 #[v, .int .i64 i, .int .i64 10] W fun e w' => WrZ W B bs (Lib.itoa i) e w' := by
  rcases h with h | h
  · refine (h.num i h0 h1 hl).mono ?_
    rintro e w' ⟨v', rfl, q, k⟩
    exact ⟨v', rfl, Or.inl q, k⟩
  · have HU := mkHid (h.int i h0 h1 hl)
    clear h
    go_enter Tryz.func42, Tryz.ntmps42
    go_wp2_with (go_at_call 64; refine HU.out.mono ?_; rintro e w' ⟨v', rfl, q, k⟩; have HX := mkHid (And.intro q k); clear q k)
    go_ret
    exact ⟨v', rfl, HX.out.1, HX.out.2⟩
end Go.Proofs.YtheolmnjedbjmaaGreatDoor

