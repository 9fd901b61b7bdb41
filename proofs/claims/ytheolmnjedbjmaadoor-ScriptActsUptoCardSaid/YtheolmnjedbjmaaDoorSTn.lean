import Derived.Test.YtheolmnjedbjmaaDoorSTm
namespace Go.Proofs.YtheolmnjedbjmaaDoor
open Go.RowKit
set_option linter.unusedVariables false
set_option linter.unusedSimpArgs false
attribute [local go_sem ↓] Go.wp_at_zero Go.wp_at_succ
theorem Aw.zero {V : World} {g oi : Nat} {a : AK} {q : Option Addr} {c : Nat} (h : Aw V g oi a q c) : V.cell? ⟨g, oi, none⟩ = some (.int .i64 a.kind) ∧ V.cell? ⟨g, oi + 1, none⟩ = some (.string a.name) ∧ V.cell? ⟨g, oi + 2, none⟩ = some (.string a.other) ∧ V.cell? ⟨g, oi + 3, none⟩ = some (.slice q a.names.length c) ∧ V.cell? ⟨g, oi + 4, none⟩ = some (.string a.text) ∧ V.cell? ⟨g, oi + 5, none⟩ = some (.int .i64 a.num) ∧ V.cell? ⟨g, oi + 6, none⟩ = some (.int .i64 a.fuel) := by
  have h0 := h.cells 0 _ rfl
  rw [Nat.add_zero] at h0
  exact ⟨h0, h.cells 1 _ rfl, h.cells 2 _ rfl, h.cells 3 _ rfl, h.cells 4 _ rfl, h.cells 5 _ rfl, h.cells 6 _ rfl⟩
theorem Hg.acts {V : World} {hb gb nb tb : Nat} {a : AK} {cF cN cT : Nat} {curF curN : Array Value} (h : Hg V hb gb nb tb a cF cN cT curF curN) : V.cell? ⟨hb, 2, none⟩ = some (.slice (some ⟨gb, 0, none⟩) 1 cF) ∧ V.cell? ⟨gb, 0, none⟩ = some (.int .i64 a.kind) ∧ V.cell? ⟨gb, 1, none⟩ = some (.string a.name) ∧ V.cell? ⟨gb, 2, none⟩ = some (.string a.other) ∧ V.cell? ⟨gb, 3, none⟩ = some (.slice (some ⟨tb, 0, none⟩) a.names.length cT) ∧ V.cell? ⟨gb, 4, none⟩ = some (.string a.text) ∧ V.cell? ⟨gb, 5, none⟩ = some (.int .i64 a.num) ∧ V.cell? ⟨gb, 6, none⟩ = some (.int .i64 a.fuel) :=
  ⟨lit_in h.box 2 _ rfl, lit_in h.full 0 _ (h.cF_ 0 _ rfl), lit_in h.full 1 _ (h.cF_ 1 _ rfl), lit_in h.full 2 _ (h.cF_ 2 _ rfl), lit_in h.full 3 _ (h.cF_ 3 _ rfl), lit_in h.full 4 _ (h.cF_ 4 _ rfl), lit_in h.full 5 _ (h.cF_ 5 _ rfl), lit_in h.full 6 _ (h.cF_ 6 _ rfl)⟩
theorem DD.cells {W V : World} {pb g oi cc : Nat} {a : AK} {q : Option Addr} {c hb gb nb tb cF cN cT : Nat} {curF curN curT : Array Value} (h : DD W V pb g oi cc a q c hb gb nb tb cF cN cT curF curN curT) : V.cell? ⟨g, oi, none⟩ = some (.int .i64 a.kind) ∧ V.cell? ⟨g, oi + 1, none⟩ = some (.string a.name) ∧ V.cell? ⟨g, oi + 2, none⟩ = some (.string a.other) ∧ V.cell? ⟨g, oi + 3, none⟩ = some (.slice q a.names.length c) ∧ V.cell? ⟨g, oi + 4, none⟩ = some (.string a.text) ∧ V.cell? ⟨g, oi + 5, none⟩ = some (.int .i64 a.num) ∧ V.cell? ⟨g, oi + 6, none⟩ = some (.int .i64 a.fuel) ∧ V.cell? ⟨hb, 2, none⟩ = some (.slice (some ⟨gb, 0, none⟩) 1 cF) ∧ V.cell? ⟨gb, 0, none⟩ = some (.int .i64 a.kind) ∧ V.cell? ⟨gb, 1, none⟩ = some (.string a.name) ∧ V.cell? ⟨gb, 2, none⟩ = some (.string a.other) ∧ V.cell? ⟨gb, 3, none⟩ = some (.slice (some ⟨tb, 0, none⟩) a.names.length cT) ∧ V.cell? ⟨gb, 4, none⟩ = some (.string a.text) ∧ V.cell? ⟨gb, 5, none⟩ = some (.int .i64 a.num) ∧ V.cell? ⟨gb, 6, none⟩ = some (.int .i64 a.fuel) ∧ V.cell? ⟨pb, 0, none⟩ = some (.int .i64 0) ∧ V.cell? ⟨pb, 1, none⟩ = some (.int .i64 0) ∧ V.cell? ⟨pb, 2, none⟩ = some (.slice (some ⟨g, oi, none⟩) 1 cc) := by
  obtain ⟨x0, x1, x2, x3, x4, x5, x6⟩ := h.aw.zero
  obtain ⟨z2, y0, y1, y2, y3, y4, y5, y6⟩ := h.hg.acts
  exact ⟨x0, x1, x2, x3, x4, x5, x6, z2, y0, y1, y2, y3, y4, y5, y6, lit_in h.pbx 0 _ rfl, lit_in h.pbx 1 _ rfl, lit_in h.pbx 2 _ rfl⟩
theorem DE.cells {W V : World} {hb gb nb tb ab : Nat} {a : AK} {cF cN cT : Nat} {curF curN : Array Value} {pv : Option Addr} {cv : Nat} (h : DE W V hb gb nb tb ab a cF cN cT curF curN pv cv) : V.cell? ⟨ab, 0, none⟩ = some (.int .i64 a.kind) ∧ V.cell? ⟨ab, 1, none⟩ = some (.string a.name) ∧ V.cell? ⟨ab, 2, none⟩ = some (.string a.other) ∧ V.cell? ⟨ab, 3, none⟩ = some (.slice pv a.names.length cv) ∧ V.cell? ⟨ab, 4, none⟩ = some (.string a.text) ∧ V.cell? ⟨ab, 5, none⟩ = some (.int .i64 a.num) ∧ V.cell? ⟨ab, 6, none⟩ = some (.int .i64 a.fuel) ∧ V.cell? ⟨hb, 2, none⟩ = some (.slice (some ⟨gb, 0, none⟩) 1 cF) ∧ V.cell? ⟨gb, 0, none⟩ = some (.int .i64 a.kind) ∧ V.cell? ⟨gb, 1, none⟩ = some (.string a.name) ∧ V.cell? ⟨gb, 2, none⟩ = some (.string a.other) ∧ V.cell? ⟨gb, 3, none⟩ = some (.slice (some ⟨tb, 0, none⟩) a.names.length cT) ∧ V.cell? ⟨gb, 4, none⟩ = some (.string a.text) ∧ V.cell? ⟨gb, 5, none⟩ = some (.int .i64 a.num) ∧ V.cell? ⟨gb, 6, none⟩ = some (.int .i64 a.fuel) := by
  obtain ⟨z2, y0, y1, y2, y3, y4, y5, y6⟩ := h.hg.acts
  exact ⟨lit_in h.abx 0 _ rfl, lit_in h.abx 1 _ rfl, lit_in h.abx 2 _ rfl, lit_in h.abx 3 _ rfl, lit_in h.abx 4 _ rfl, lit_in h.abx 5 _ rfl, lit_in h.abx 6 _ rfl, z2, y0, y1, y2, y3, y4, y5, y6⟩
theorem bl_fr {W V5 V7 U : World} {ab : Nat} (h : Bl W V5) (k : Bl V5 V7) (f : Fr [ab] V7 U) (hab : V5.heap.size ≤ ab) : Bl W U :=
  Below.trans (h.trans k) (f.below (h.trans k).size (by intro b hb; have := h.size; simp at hb; omega))
theorem rev_v (a : AK) (p : Option Addr) (c : Nat) : (revA a).v p c = .agg #[.int .i64 a.kind, .string a.name, .string a.other, .slice p a.names.length c, .string a.text, .int .i64 a.num, .int .i64 a.fuel] := by
  unfold revA AK.v
  simp
def act8 : AK := ⟨8, ⟨#[]⟩, ⟨#[]⟩, [], ⟨#[]⟩, 0, 0⟩
theorem pa8 : paP act8 = (⟨#[99, 111, 108, 108, 101, 99, 116]⟩, 0) := by decide +kernel
set_option maxRecDepth 100000 in
set_option maxHeartbeats 32000000 in
theorem acts_any (W : World) (hp : Pw W) (p : Option Addr) (g off n C : Nat) (acts : List (AK × Option Addr × Nat)) (hl : acts.length = n) (hn : n ≤ 1048576) (hC : n ≤ C) (hpA : 0 < n → p = some ⟨g, off, none⟩) (hA : ∀ i (hi : i < acts.length), Aw W g (off + i * 7) acts[i].1 acts[i].2.1 acts[i].2.2) (hS : ∀ x ∈ acts, Ak2 x.1) : Calls Tryd.prog 4 #[.slice p n C] W fun e w' => e = .returned (.bool true) ∧ Bl W w' := by
  have HP := mkHid hp
  have HA := mkHid hA
  have HS := mkHid hS
  have HPA := mkHid hpA
  clear hp hA hS hpA
  go_enter Tryd.func4, Tryd.ntmps4
  go_wp2_with fail
  go_loopw [3] (fun x wr => ∃ i : Nat, i ≤ n ∧ x = .int .i64 (i : Int) ∧ Hid (Bl W wr)) (fun x _ => n - (intOf x).toNat)
  case atStart => exact ⟨0, Nat.zero_le _, rfl, Bl.refl _⟩
  case round =>
    obtain ⟨i, hi, rfl, hst⟩ := hrel
    have i0 : (0 : Int) ≤ (i : Int) := by omega
    by_cases hlt : i < n
    · have i1 : (i : Int) < (n : Int) := by omega
      obtain ⟨wo, rfl⟩ : ∃ V, V = wr := ⟨wr, rfl⟩
      obtain rfl := HPA.out (by omega)
      have hA := HA.out i (by omega)
      have hS := HS.out acts[i] (List.getElem_mem (by omega))
      obtain ⟨⟨a, q, c⟩, hacts⟩ : ∃ x, acts[i]'(by omega) = x := ⟨_, rfl⟩
      rw [hacts] at hA hS
      simp only at hA hS
      clear hacts
      have hwI : IntKind.i64.wrap ((i : Int) + 1) = (i : Int) + 1 := wrap_id _ (by omega) (by omega)
      have hsl := slice_lh29 g off n C i hlt hC
      have hAr := hA.bl hst.out
      obtain ⟨x0, x1, x2, x3, x4, x5, x6⟩ := hAr.zero
      have H7 : Hid (Calls Tryd.prog 7 #[.agg #[.int .i64 0, .int .i64 0, .slice (some ⟨g, off + i * 7, none⟩) 1 (C - i)]] (wo.alloc (.cells #[.int .i64 0, .int .i64 0, .slice (some ⟨g, off + i * 7, none⟩) 1 (C - i)] 31)) fun e w' => ∃ hb gb nb tb cF cN cT curF curN curT, e = .returned (.pointer (some ⟨hb, 0, none⟩)) ∧ Hid (DD W w' wo.heap.size g (off + i * 7) (C - i) a q c hb gb nb tb cF cN cT curF curN curT)) := by
        refine (hand_ok _ g _ (C - i) a q c (hAr.bl (Bl.alloc _ _)) hS).mono ?_
        rintro e w' ⟨rfl, tb, cT, gb, cF, vN, hs⟩
        obtain ⟨nb, cN, curF, curN, curT, hd⟩ := DD.of hst.out hA hs
        exact ⟨_, gb, nb, tb, cF, cN, cT, curF, curN, curT, rfl, hd⟩
      have H8 : Hid (∀ V hb gb nb tb cF cN cT curF curN curT, Hid (DD W V wo.heap.size g (off + i * 7) (C - i) a q c hb gb nb tb cF cN cT curF curN curT) → Calls Tryd.prog 8 #[.agg #[.int .i64 a.kind, .string a.name, .string a.other, .slice q a.names.length c, .string a.text, .int .i64 a.num, .int .i64 a.fuel]] V fun e w' => e = .returned (.tuple #[.string (paP a).1, .int .i64 (paP a).2]) ∧ Hid (DD W w' wo.heap.size g (off + i * 7) (C - i) a q c hb gb nb tb cF cN cT curF curN curT)) := fun V hb gb nb tb cF cN cT curF curN curT hd => by
        refine (rprintAct_ok V (HP.out.bl hd.out.blW) a q c hd.out.aw.names hS).mono ?_
        rintro e w' ⟨rfl, hb⟩
        exact ⟨by rw [pa_eq], hd.out.bl hb⟩
      have H9 : Hid (∀ V hb gb nb tb cF cN cT curF curN curT, Hid (DD W V wo.heap.size g (off + i * 7) (C - i) a q c hb gb nb tb cF cN cT curF curN curT) → Calls Tryd.prog 9 #[.agg #[.int .i64 a.kind, .string a.name, .string a.other, .slice (some ⟨tb, 0, none⟩) a.names.length cT, .string a.text, .int .i64 a.num, .int .i64 a.fuel]] V fun e w' => e = .returned (.tuple #[.string (paP a).1, .int .i64 (paP a).2]) ∧ Hid (DD W w' wo.heap.size g (off + i * 7) (C - i) a q c hb gb nb tb cF cN cT curF curN curT)) := fun V hb gb nb tb cF cN cT curF curN curT hd => by
        refine (printAct_ok V (HP.out.bl hd.out.blW) a (some ⟨tb, 0, none⟩) cT hd.out.hf.act.names hS.one).mono ?_
        rintro e w' ⟨rfl, hb⟩
        exact ⟨rfl, hd.out.bl hb⟩
      have H10 : Hid (∀ V hb gb nb tb cF cN cT curF curN curT k, Hid (DD W V wo.heap.size g (off + i * 7) (C - i) a q c hb gb nb tb cF cN cT curF curN curT) → Calls Tryd.prog 10 #[.int .i64 k] V fun e w' => e = .returned (.int .i64 k) ∧ Hid (DD W w' wo.heap.size g (off + i * 7) (C - i) a q c hb gb nb tb cF cN cT curF curN curT)) := fun V hb gb nb tb cF cN cT curF curN curT k hd => (num_ok V k).mono (by
        rintro e w' ⟨rfl, hb⟩
        exact ⟨rfl, hd.out.bl hb⟩)
      have H11 : Hid (∀ V hb gb nb tb cF cN cT curF curN curT, Hid (DD W V wo.heap.size g (off + i * 7) (C - i) a q c hb gb nb tb cF cN cT curF curN curT) → Calls Tryd.prog 11 #[.pointer (some ⟨hb, 0, none⟩), .agg #[.int .i64 0, .int .i64 0, .slice (some ⟨g, off + i * 7, none⟩) 1 (C - i)]] V fun e w' => e = .returned (.bool true) ∧ Hid (DD W w' wo.heap.size g (off + i * 7) (C - i) a q c hb gb nb tb cF cN cT curF curN curT) ∧ ∃ V7 ab, w'.heap.size = ab ∧ w'.alloc (.cells #[.int .i64 a.kind, .string a.name, .string a.other, .slice none 0 0, .string a.text, .int .i64 a.num, .int .i64 a.fuel] 38) = V7 ∧ Hid (L2 V7 V7 ab a none 0 0 ∧ Bl w' V7)) := fun V hb gb nb tb cF cN cT curF curN curT hd => by
        refine (left_ok V g _ (C - i) hb gb nb tb cF cN cT a q c hd.out.hf hd.out.aw hS.len).mono ?_
        rintro e w' ⟨rfl, hb⟩
        exact ⟨rfl, hd.out.bl hb, _, _, rfl, rfl, ⟨heap_alloc_new w' _, own_nil _ _ _ _, Fr.refl _ _, by simp⟩, Bl.alloc _ _⟩
      have HAW := mkHid hA
      have hnl := hS.len
      have HSz := mkHid hS
      clear hA hS hAr hst
      go_wp2_with (first
        | (go_at_call 7; refine H7.out.mono ?_; rintro e V1 ⟨hb, gb, nb, tb, cF, cN, cT, curF, curN, curT, rfl, HD1⟩; clear x0 x1 x2 x3 x4 x5 x6 H7; obtain ⟨x0, x1, x2, x3, x4, x5, x6, z2, y0, y1, y2, y3, y4, y5, y6, p0, p1, p2⟩ := DD.cells HD1.out)
        | (go_at_call 8; refine (H8.out _ _ _ _ _ _ _ _ _ _ _ HD1).mono ?_; rintro e V2 ⟨rfl, HD2⟩; clear x0 x1 x2 x3 x4 x5 x6 z2 y0 y1 y2 y3 y4 y5 y6 p0 p1 p2 H8 HD1; obtain ⟨x0, x1, x2, x3, x4, x5, x6, z2, y0, y1, y2, y3, y4, y5, y6, p0, p1, p2⟩ := DD.cells HD2.out)
        | (go_at_call 9; refine (H9.out _ _ _ _ _ _ _ _ _ _ _ HD2).mono ?_; rintro e V3 ⟨rfl, HD3⟩; clear x0 x1 x2 x3 x4 x5 x6 z2 y0 y1 y2 y3 y4 y5 y6 p0 p1 p2 H9 HD2; obtain ⟨x0, x1, x2, x3, x4, x5, x6, z2, y0, y1, y2, y3, y4, y5, y6, p0, p1, p2⟩ := DD.cells HD3.out)
        | (go_at_call 10; refine (H10.out _ _ _ _ _ _ _ _ _ _ _ _ HD3).mono ?_; rintro e V4 ⟨rfl, HD4⟩; clear x0 x1 x2 x3 x4 x5 x6 z2 y0 y1 y2 y3 y4 y5 y6 p0 p1 p2 H10 HD3; obtain ⟨x0, x1, x2, x3, x4, x5, x6, z2, y0, y1, y2, y3, y4, y5, y6, p0, p1, p2⟩ := DD.cells HD4.out)
        | (go_at_call 11; refine (H11.out _ _ _ _ _ _ _ _ _ _ _ HD4).mono ?_; rintro e V5 ⟨rfl, HD5, V7, ab, hab, hV7, HL0⟩; clear x0 x1 x2 x3 x4 x5 x6 z2 y0 y1 y2 y3 y4 y5 y6 p0 p1 p2 H11 HD4; obtain ⟨x0, x1, x2, x3, x4, x5, x6, z2, y0, y1, y2, y3, y4, y5, y6, p0, p1, p2⟩ := DD.cells HD5.out))
      clear x0 x1 x2 x3 x4 x5 x6 z2 y0 y1 y2 y3 y4 y5 y6 p0 p1 p2 hsl
      go_loopw [12] (fun x wr => ∃ j : Nat, j ≤ a.names.length ∧ x = .int .i64 (j : Int) ∧ Hid (∃ pv cv, L2 V7 wr ab a pv cv j)) (fun x _ => a.names.length - (intOf x).toNat)
      case atStart => exact ⟨0, Nat.zero_le _, rfl, none, 0, HL0.out.1⟩
      case round =>
        obtain ⟨j, hj, rfl, hst⟩ := hrel
        have j0 : (0 : Int) ≤ (j : Int) := by omega
        obtain ⟨pv, cv, hL⟩ := hst.out
        by_cases hjl : j < a.names.length
        · have j1 : (j : Int) < (a.names.length : Int) := by omega
          obtain ⟨m, hm⟩ : ∃ m, m = a.names.length - 1 - j := ⟨_, rfl⟩
          have hml : m < a.names.length := by omega
          have hmi : (m : Int) = (a.names.length : Int) - 1 - (j : Int) := by omega
          have hw1 : IntKind.i64.wrap ((a.names.length : Int) - 1) = (a.names.length : Int) - 1 := wrap_id _ (by omega) (by omega)
          have hw2 : IntKind.i64.wrap ((a.names.length : Int) - 1 - (j : Int)) = (m : Int) := by rw [hmi]; exact wrap_id _ (by omega) (by omega)
          have m0 : (0 : Int) ≤ (m : Int) := by omega
          have m1 : (m : Int) < (a.names.length : Int) := by omega
          obtain ⟨p2, c2, w6, hr6, HFr, d3, f3, W4, hW4, HL4⟩ := hL.push hjl hnl m hm
          obtain ⟨qg, qo, rfl, hqm⟩ := HAW.out.names m hml
          have HQ : Hid (∀ U, Fr [ab] V7 U → U.cell? ⟨g, off + i * 7 + 3, none⟩ = some (.slice (some ⟨qg, qo, none⟩) a.names.length c) ∧ U.cell? ⟨qg, qo + m, none⟩ = some (.string a.names[m])) := fun U hU => by
            have hbU := bl_fr HD5.out.blW HL0.out.2 hU (by omega)
            have hu := HAW.out.bl hbU
            obtain ⟨qg2, qo2, e, hq2⟩ := hu.names m hml
            injection e with e
            injection e with e1 e2
            subst e1 e2
            exact ⟨hu.cells 3 _ rfl, hq2⟩
          generalize a.names[m] = s at *
          have HS16 : Hid ((wr.drew.cell? ⟨ab, 3, none⟩ = some (.slice pv j cv) ∧ wr.drew.frozen? ⟨ab, 3, none⟩ = false ∧ wr.drew.cell? ⟨g, off + i * 7 + 3, none⟩ = some (.slice (some ⟨qg, qo, none⟩) a.names.length c) ∧ wr.drew.cell? ⟨qg, qo + m, none⟩ = some (.string s)) ∧ ((wr.drew.alloc (.cells #[.string s] 9)).cell? ⟨ab, 3, none⟩ = some (.slice pv j cv) ∧ (wr.drew.alloc (.cells #[.string s] 9)).frozen? ⟨ab, 3, none⟩ = false ∧ (wr.drew.alloc (.cells #[.string s] 9)).cell? ⟨g, off + i * 7 + 3, none⟩ = some (.slice (some ⟨qg, qo, none⟩) a.names.length c) ∧ (wr.drew.alloc (.cells #[.string s] 9)).cell? ⟨qg, qo + m, none⟩ = some (.string s)) ∧ (w6.cell? ⟨ab, 3, none⟩ = some (.slice pv j cv) ∧ w6.frozen? ⟨ab, 3, none⟩ = false ∧ w6.cell? ⟨g, off + i * 7 + 3, none⟩ = some (.slice (some ⟨qg, qo, none⟩) a.names.length c) ∧ w6.cell? ⟨qg, qo + m, none⟩ = some (.string s))) := by
            have e1 : wr.drew.heap[ab]? = _ := hL.box
            have e2 := (Below.heap_alloc wr.drew (.cells #[.string s] 9) ab (lt_of_heap e1)).trans e1
            have fr1 : Fr [ab] V7 wr.drew := hL.fr.trans (Fr.drew [] wr) (by simp)
            have fr2 : Fr [ab] V7 (wr.drew.alloc (.cells #[.string s] 9)) := fr1.trans (Fr.alloc [] _ _) (by simp)
            have q1 := HQ.out _ fr1
            have q2 := HQ.out _ fr2
            have q3 := HQ.out _ HFr.out
            exact ⟨⟨lit_in e1 3 _ rfl, frozen_in e1 3, q1.1, q1.2⟩, ⟨lit_in e2 3 _ rfl, frozen_in e2 3, q2.1, q2.2⟩, ⟨d3, f3, q3.1, q3.2⟩⟩
          clear hst hL hqm HQ HFr hm hmi
          go_upto_region 16 with fail
          refine wp_region_last (L := 16) (S := fun U => U.cell? ⟨ab, 3, none⟩ = some (.slice pv j cv) ∧ U.frozen? ⟨ab, 3, none⟩ = false ∧ U.cell? ⟨g, off + i * 7 + 3, none⟩ = some (.slice (some ⟨qg, qo, none⟩) a.names.length c) ∧ U.cell? ⟨qg, qo + m, none⟩ = some (.string s)) (by kernel_rfl) (HS16.out.1) (fun hHeld => ?_)
          refine wpLast_take (i := 0) (v := ?_) rfl (by kernel_rfl) (by kernel_rfl) (by kernel_rfl) (by decide) (by kernel_rfl) (fun _ _ _ h => h) (Or.inl ⟨by rfl, ?_⟩) (by assumption) ?_
          rotate_left
          · (intro w hSw; (try dsimp only at hSw); (try go_split_ands); first | (go_simp; done) | (go_simp; with_reducible rfl))
          try simp only [Act.put, List.getElem_toArray, List.getElem_cons_zero, List.getElem_cons_succ, List.setIfInBounds_toArray, List.set_cons_zero, List.set_cons_succ]
          refine wpLast_take (i := 1) (v := ?_) rfl (by kernel_rfl) (by kernel_rfl) (by kernel_rfl) (by decide) (by kernel_rfl) (fun _ _ _ h => h) (Or.inl ⟨by rfl, ?_⟩) (by assumption) ?_
          rotate_left
          · (intro w hSw; (try dsimp only at hSw); (try go_split_ands); first | (go_simp; done) | (go_simp; with_reducible rfl))
          try simp only [Act.put, List.getElem_toArray, List.getElem_cons_zero, List.getElem_cons_succ, List.setIfInBounds_toArray, List.set_cons_zero, List.set_cons_succ]
          refine wpLast_take (i := 2) (v := ?_) rfl (by kernel_rfl) (by kernel_rfl) (by kernel_rfl) (by decide) (by kernel_rfl) (fun _ _ _ h => h) (Or.inl ⟨by rfl, ?_⟩) (by assumption) ?_
          rotate_left
          · (intro w hSw; (try dsimp only at hSw); (try go_split_ands); first | (go_simp; done) | (go_simp; with_reducible rfl))
          try simp only [Act.put, List.getElem_toArray, List.getElem_cons_zero, List.getElem_cons_succ, List.setIfInBounds_toArray, List.set_cons_zero, List.set_cons_succ]
          refine wpLast_take (i := 3) (v := ?_) rfl (by kernel_rfl) (by kernel_rfl) (by kernel_rfl) (by decide) (by kernel_rfl) (fun _ _ _ h => h) (Or.inl ⟨by rfl, ?_⟩) (by assumption) ?_
          rotate_left
          · (intro w hSw; (try dsimp only at hSw); (try go_split_ands); first | (go_simp; done) | (go_simp; with_reducible rfl))
          try simp only [Act.put, List.getElem_toArray, List.getElem_cons_zero, List.getElem_cons_succ, List.setIfInBounds_toArray, List.set_cons_zero, List.set_cons_succ]
          refine wpLast_take (i := 4) (v := ?_) rfl (by kernel_rfl) (by kernel_rfl) (by kernel_rfl) (by decide) (by kernel_rfl) (fun _ _ _ h => h) (Or.inl ⟨by rfl, ?_⟩) (by assumption) ?_
          rotate_left
          · (intro w hSw; (try dsimp only at hSw); (try go_split_ands); first | (go_simp; done) | (go_simp; with_reducible rfl))
          try simp only [Act.put, List.getElem_toArray, List.getElem_cons_zero, List.getElem_cons_succ, List.setIfInBounds_toArray, List.set_cons_zero, List.set_cons_succ]
          refine wpLast_take (i := 5) (v := ?_) rfl (by kernel_rfl) (by kernel_rfl) (by kernel_rfl) (by decide) (by kernel_rfl) (fun _ _ _ h => h) (Or.inl ⟨by rfl, ?_⟩) (by assumption) ?_
          rotate_left
          · (intro w hSw; (try dsimp only at hSw); (try go_split_ands); first | (go_simp; done) | (go_simp; with_reducible rfl))
          try simp only [Act.put, List.getElem_toArray, List.getElem_cons_zero, List.getElem_cons_succ, List.setIfInBounds_toArray, List.set_cons_zero, List.set_cons_succ]
          refine wpLast_take (i := 6) (v := ?_) rfl (by kernel_rfl) (by kernel_rfl) (by kernel_rfl) (by decide) (by kernel_rfl) (fun _ _ _ h => h) (Or.inl ⟨by rfl, ?_⟩) (by assumption) ?_
          rotate_left
          · (intro w hSw; (try dsimp only at hSw); (try go_split_ands); first | (go_simp; done) | (go_simp; with_reducible rfl))
          try simp only [Act.put, List.getElem_toArray, List.getElem_cons_zero, List.getElem_cons_succ, List.setIfInBounds_toArray, List.set_cons_zero, List.set_cons_succ]
          refine wpLast_take (i := 7) (v := ?_) rfl (by kernel_rfl) (by kernel_rfl) (by kernel_rfl) (by decide) (by kernel_rfl) (fun _ _ _ h => h) (Or.inl ⟨by rfl, ?_⟩) (by assumption) ?_
          rotate_left
          · (intro w hSw; (try dsimp only at hSw); (try go_split_ands); first | (go_simp; done) | (go_simp; with_reducible rfl))
          try simp only [Act.put, List.getElem_toArray, List.getElem_cons_zero, List.getElem_cons_succ, List.setIfInBounds_toArray, List.set_cons_zero, List.set_cons_succ]
          refine wpLast_take (i := 8) (v := .int .i64 ((a.names.length : Int) - 1)) rfl (by kernel_rfl) (by kernel_rfl) (by kernel_rfl) (by decide) (by kernel_rfl) (fun _ _ _ h => h) (Or.inl ⟨by rfl, ?_⟩) (by assumption) ?_
          · (intro w hSw; (try dsimp only at hSw); (try go_split_ands); go_simp; try first | done | omega)
          try simp only [Act.put, List.getElem_toArray, List.getElem_cons_zero, List.getElem_cons_succ, List.setIfInBounds_toArray, List.set_cons_zero, List.set_cons_succ]
          refine wpLast_take (i := 9) (v := ?_) rfl (by kernel_rfl) (by kernel_rfl) (by kernel_rfl) (by decide) (by kernel_rfl) (fun _ _ _ h => h) (Or.inl ⟨by rfl, ?_⟩) (by assumption) ?_
          rotate_left
          · (intro w hSw; (try dsimp only at hSw); (try go_split_ands); first | (go_simp; done) | (go_simp; with_reducible rfl))
          try simp only [Act.put, List.getElem_toArray, List.getElem_cons_zero, List.getElem_cons_succ, List.setIfInBounds_toArray, List.set_cons_zero, List.set_cons_succ]
          refine wpLast_take (i := 10) (v := .int .i64 (m : Int)) rfl (by kernel_rfl) (by kernel_rfl) (by kernel_rfl) (by decide) (by kernel_rfl) (fun _ _ _ h => h) (Or.inl ⟨by rfl, ?_⟩) (by assumption) ?_
          · (intro w hSw; (try dsimp only at hSw); (try go_split_ands); go_simp; try first | done | omega)
          try simp only [Act.put, List.getElem_toArray, List.getElem_cons_zero, List.getElem_cons_succ, List.setIfInBounds_toArray, List.set_cons_zero, List.set_cons_succ]
          refine wpLast_take (i := 11) (v := ?_) rfl (by kernel_rfl) (by kernel_rfl) (by kernel_rfl) (by decide) (by kernel_rfl) (fun _ _ _ h => h) (Or.inl ⟨by rfl, ?_⟩) (by assumption) ?_
          rotate_left
          · (intro w hSw; (try dsimp only at hSw); (try go_split_ands); first | (go_simp; done) | (go_simp; with_reducible rfl))
          try simp only [Act.put, List.getElem_toArray, List.getElem_cons_zero, List.getElem_cons_succ, List.setIfInBounds_toArray, List.set_cons_zero, List.set_cons_succ]
          refine wpLast_take (i := 12) (v := ?_) rfl (by kernel_rfl) (by kernel_rfl) (by kernel_rfl) (by decide) (by kernel_rfl) (fun _ _ _ h => h) (Or.inl ⟨by rfl, ?_⟩) (by assumption) ?_
          rotate_left
          · (intro w hSw; (try dsimp only at hSw); (try go_split_ands); first | (go_simp; done) | (go_simp; with_reducible rfl))
          try simp only [Act.put, List.getElem_toArray, List.getElem_cons_zero, List.getElem_cons_succ, List.setIfInBounds_toArray, List.set_cons_zero, List.set_cons_succ]
          refine wpLast_one (i := 13) (by kernel_rfl) rfl (by decide) (fun K hK => ?_)
          go_simp
          refine hK.out _ _ (HS16.out.2.1) (fun hHeld => ?_)
          clear hK K
          try simp only [Act.put, List.getElem_toArray, List.getElem_cons_zero, List.getElem_cons_succ, List.setIfInBounds_toArray, List.set_cons_zero, List.set_cons_succ]
          refine wpLast_one (i := 14) (by kernel_rfl) rfl (by decide) (fun K hK => ?_)
          refine step_append_run rfl (.tmp 85) (.tmp 97) 36 36 rfl _ _ (by simp [Act.eval]) (by simp [Act.eval]) _ _ hr6 ?_
          refine hK.out _ _ (HS16.out.2.2) (fun hHeld => ?_)
          clear hK K
          try simp only [Act.put, List.getElem_toArray, List.getElem_cons_zero, List.getElem_cons_succ, List.setIfInBounds_toArray, List.set_cons_zero, List.set_cons_succ]
          refine wpLast_take (i := 15) (v := ?_) rfl (by kernel_rfl) (by kernel_rfl) (by kernel_rfl) (by decide) (by kernel_rfl) (fun _ _ _ h => h) (Or.inl ⟨by rfl, ?_⟩) (by assumption) ?_
          rotate_left
          · (intro w hSw; (try dsimp only at hSw); (try go_split_ands); first | (go_simp; done) | (go_simp; with_reducible rfl))
          try simp only [Act.put, List.getElem_toArray, List.getElem_cons_zero, List.getElem_cons_succ, List.setIfInBounds_toArray, List.set_cons_zero, List.set_cons_succ]
          refine wpLast_end (by kernel_rfl) rfl (by kernel_rfl) (fun K hK => ?_)
          (try go_split_ands); go_simp
          refine hK.out _ _ ?_
          clear hK K
          try simp only [Act.put, List.getElem_toArray, List.getElem_cons_zero, List.getElem_cons_succ, List.setIfInBounds_toArray, List.set_cons_zero, List.set_cons_succ]
          go_wp2_with fail
          go_roundw
          case rel => exact ⟨j + 1, by omega, by go_num, p2, c2, HL4.out⟩
          case measure => simp [intOf]; omega
        · have hje : j = a.names.length := by omega
          subst hje
          have H8' : Hid (D8 W wr hb gb nb tb ab a cF cN cT curF curN curT pv cv) := D8.of HD5.out HL0.out.2 (by omega) hL
          obtain ⟨V8, rfl⟩ : ∃ V, V = wr := ⟨wr, rfl⟩
          clear hst hL HD5 HL0 hV7 hab
          go_wp2_with fail
          go_loopw [13] (fun x wr => ∃ j : Nat, j ≤ a.names.length ∧ x = .int .i64 (j : Int) ∧ Hid (L3 V8 wr tb a j)) (fun x _ => a.names.length - (intOf x).toNat)
          case atStart => exact ⟨0, Nat.zero_le _, rfl, H8'.out.l3⟩
          case round =>
            obtain ⟨j, hj, rfl, hst⟩ := hrel
            have j0 : (0 : Int) ≤ (j : Int) := by omega
            by_cases hjl : j < a.names.length
            · have j1 : (j : Int) < (a.names.length : Int) := by omega
              have j2 : (j : Int) < (a.names.length : Int) + 8 := by omega
              have hjr : j < a.names.reverse.length := by rw [List.length_reverse]; exact hjl
              obtain ⟨k1, k2, k3, k4⟩ := H8'.out.fr (hst.out.fr.trans (Fr.drew [] wr) (by simp))
              obtain ⟨rb, rfl, hrb⟩ := k4 j hjr
              rw [Nat.zero_add] at hrb
              obtain ⟨⟨y, hy⟩, hfz, HL4⟩ := hst.out.put hjr
              have HS20 : Hid (wr.drew.cell? ⟨hb, 4, none⟩ = some (.slice (some ⟨nb, 0, none⟩) 1 cN) ∧ wr.drew.cell? ⟨nb, 0, none⟩ = some (.slice (some ⟨tb, 0, none⟩) (a.names.length + 8) cT) ∧ wr.drew.cell? ⟨ab, 3, none⟩ = some (.slice (some ⟨rb, 0, none⟩) a.names.length cv) ∧ wr.drew.cell? ⟨rb, j, none⟩ = some (.string a.names.reverse[j])) := ⟨lit_in k2.box 4 _ rfl, lit_in k2.nms 0 _ k2.cN_, lit_in k3 3 _ rfl, hrb⟩
              clear hst k1 k2 k3 k4 hrb
              generalize a.names.reverse[j] = s at *
              go_upto_region 20 with fail
              refine wp_region_last (L := 13) (S := fun U => U.cell? ⟨hb, 4, none⟩ = some (.slice (some ⟨nb, 0, none⟩) 1 cN) ∧ U.cell? ⟨nb, 0, none⟩ = some (.slice (some ⟨tb, 0, none⟩) (a.names.length + 8) cT) ∧ U.cell? ⟨ab, 3, none⟩ = some (.slice (some ⟨rb, 0, none⟩) a.names.length cv) ∧ U.cell? ⟨rb, j, none⟩ = some (.string s)) (by kernel_rfl) (HS20.out) (fun hHeld => ?_)
              refine wpLast_take (i := 0) (v := ?_) rfl (by kernel_rfl) (by kernel_rfl) (by kernel_rfl) (by decide) (by kernel_rfl) (fun _ _ _ h => h) (Or.inl ⟨by rfl, ?_⟩) (by assumption) ?_
              rotate_left
              · (intro w hSw; (try dsimp only at hSw); (try go_split_ands); first | (go_simp; done) | (go_simp; with_reducible rfl))
              try simp only [Act.put, List.getElem_toArray, List.getElem_cons_zero, List.getElem_cons_succ, List.setIfInBounds_toArray, List.set_cons_zero, List.set_cons_succ]
              refine wpLast_take (i := 1) (v := ?_) rfl (by kernel_rfl) (by kernel_rfl) (by kernel_rfl) (by decide) (by kernel_rfl) (fun _ _ _ h => h) (Or.inl ⟨by rfl, ?_⟩) (by assumption) ?_
              rotate_left
              · (intro w hSw; (try dsimp only at hSw); (try go_split_ands); first | (go_simp; done) | (go_simp; with_reducible rfl))
              try simp only [Act.put, List.getElem_toArray, List.getElem_cons_zero, List.getElem_cons_succ, List.setIfInBounds_toArray, List.set_cons_zero, List.set_cons_succ]
              refine wpLast_take (i := 2) (v := ?_) rfl (by kernel_rfl) (by kernel_rfl) (by kernel_rfl) (by decide) (by kernel_rfl) (fun _ _ _ h => h) (Or.inl ⟨by rfl, ?_⟩) (by assumption) ?_
              rotate_left
              · (intro w hSw; (try dsimp only at hSw); (try go_split_ands); first | (go_simp; done) | (go_simp; with_reducible rfl))
              try simp only [Act.put, List.getElem_toArray, List.getElem_cons_zero, List.getElem_cons_succ, List.setIfInBounds_toArray, List.set_cons_zero, List.set_cons_succ]
              refine wpLast_take (i := 3) (v := ?_) rfl (by kernel_rfl) (by kernel_rfl) (by kernel_rfl) (by decide) (by kernel_rfl) (fun _ _ _ h => h) (Or.inl ⟨by rfl, ?_⟩) (by assumption) ?_
              rotate_left
              · (intro w hSw; (try dsimp only at hSw); (try go_split_ands); first | (go_simp; done) | (go_simp; with_reducible rfl))
              try simp only [Act.put, List.getElem_toArray, List.getElem_cons_zero, List.getElem_cons_succ, List.setIfInBounds_toArray, List.set_cons_zero, List.set_cons_succ]
              refine wpLast_take (i := 4) (v := ?_) rfl (by kernel_rfl) (by kernel_rfl) (by kernel_rfl) (by decide) (by kernel_rfl) (fun _ _ _ h => h) (Or.inl ⟨by rfl, ?_⟩) (by assumption) ?_
              rotate_left
              · (intro w hSw; (try dsimp only at hSw); (try go_split_ands); first | (go_simp; done) | (go_simp; with_reducible rfl))
              try simp only [Act.put, List.getElem_toArray, List.getElem_cons_zero, List.getElem_cons_succ, List.setIfInBounds_toArray, List.set_cons_zero, List.set_cons_succ]
              refine wpLast_take (i := 5) (v := ?_) rfl (by kernel_rfl) (by kernel_rfl) (by kernel_rfl) (by decide) (by kernel_rfl) (fun _ _ _ h => h) (Or.inl ⟨by rfl, ?_⟩) (by assumption) ?_
              rotate_left
              · (intro w hSw; (try dsimp only at hSw); (try go_split_ands); first | (go_simp; done) | (go_simp; with_reducible rfl))
              try simp only [Act.put, List.getElem_toArray, List.getElem_cons_zero, List.getElem_cons_succ, List.setIfInBounds_toArray, List.set_cons_zero, List.set_cons_succ]
              refine wpLast_take (i := 6) (v := ?_) rfl (by kernel_rfl) (by kernel_rfl) (by kernel_rfl) (by decide) (by kernel_rfl) (fun _ _ _ h => h) (Or.inl ⟨by rfl, ?_⟩) (by assumption) ?_
              rotate_left
              · (intro w hSw; (try dsimp only at hSw); (try go_split_ands); first | (go_simp; done) | (go_simp; with_reducible rfl))
              try simp only [Act.put, List.getElem_toArray, List.getElem_cons_zero, List.getElem_cons_succ, List.setIfInBounds_toArray, List.set_cons_zero, List.set_cons_succ]
              refine wpLast_take (i := 7) (v := ?_) rfl (by kernel_rfl) (by kernel_rfl) (by kernel_rfl) (by decide) (by kernel_rfl) (fun _ _ _ h => h) (Or.inl ⟨by rfl, ?_⟩) (by assumption) ?_
              rotate_left
              · (intro w hSw; (try dsimp only at hSw); (try go_split_ands); first | (go_simp; done) | (go_simp; with_reducible rfl))
              try simp only [Act.put, List.getElem_toArray, List.getElem_cons_zero, List.getElem_cons_succ, List.setIfInBounds_toArray, List.set_cons_zero, List.set_cons_succ]
              refine wpLast_take (i := 8) (v := ?_) rfl (by kernel_rfl) (by kernel_rfl) (by kernel_rfl) (by decide) (by kernel_rfl) (fun _ _ _ h => h) (Or.inl ⟨by rfl, ?_⟩) (by assumption) ?_
              rotate_left
              · (intro w hSw; (try dsimp only at hSw); (try go_split_ands); first | (go_simp; done) | (go_simp; with_reducible rfl))
              try simp only [Act.put, List.getElem_toArray, List.getElem_cons_zero, List.getElem_cons_succ, List.setIfInBounds_toArray, List.set_cons_zero, List.set_cons_succ]
              refine wpLast_take (i := 9) (v := ?_) rfl (by kernel_rfl) (by kernel_rfl) (by kernel_rfl) (by decide) (by kernel_rfl) (fun _ _ _ h => h) (Or.inl ⟨by rfl, ?_⟩) (by assumption) ?_
              rotate_left
              · (intro w hSw; (try dsimp only at hSw); (try go_split_ands); first | (go_simp; done) | (go_simp; with_reducible rfl))
              try simp only [Act.put, List.getElem_toArray, List.getElem_cons_zero, List.getElem_cons_succ, List.setIfInBounds_toArray, List.set_cons_zero, List.set_cons_succ]
              refine wpLast_take (i := 10) (v := ?_) rfl (by kernel_rfl) (by kernel_rfl) (by kernel_rfl) (by decide) (by kernel_rfl) (fun _ _ _ h => h) (Or.inl ⟨by rfl, ?_⟩) (by assumption) ?_
              rotate_left
              · (intro w hSw; (try dsimp only at hSw); (try go_split_ands); first | (go_simp; done) | (go_simp; with_reducible rfl))
              try simp only [Act.put, List.getElem_toArray, List.getElem_cons_zero, List.getElem_cons_succ, List.setIfInBounds_toArray, List.set_cons_zero, List.set_cons_succ]
              refine wpLast_take (i := 11) (v := ?_) rfl (by kernel_rfl) (by kernel_rfl) (by kernel_rfl) (by decide) (by kernel_rfl) (fun _ _ _ h => h) (Or.inl ⟨by rfl, ?_⟩) (by assumption) ?_
              rotate_left
              · (intro w hSw; (try dsimp only at hSw); (try go_split_ands); first | (go_simp; done) | (go_simp; with_reducible rfl))
              try simp only [Act.put, List.getElem_toArray, List.getElem_cons_zero, List.getElem_cons_succ, List.setIfInBounds_toArray, List.set_cons_zero, List.set_cons_succ]
              refine wpLast_take (i := 12) (v := ?_) rfl (by kernel_rfl) (by kernel_rfl) (by kernel_rfl) (by decide) (by kernel_rfl) (fun _ _ _ h => h) (Or.inl ⟨by rfl, ?_⟩) (by assumption) ?_
              rotate_left
              · (intro w hSw; (try dsimp only at hSw); (try go_split_ands); first | (go_simp; done) | (go_simp; with_reducible rfl))
              try simp only [Act.put, List.getElem_toArray, List.getElem_cons_zero, List.getElem_cons_succ, List.setIfInBounds_toArray, List.set_cons_zero, List.set_cons_succ]
              refine wpLast_end (by kernel_rfl) rfl (by kernel_rfl) (fun K hK => ?_)
              (try go_split_ands); go_simp
              refine hK.out _ _ ?_
              clear hK K
              try simp only [Act.put, List.getElem_toArray, List.getElem_cons_zero, List.getElem_cons_succ, List.setIfInBounds_toArray, List.set_cons_zero, List.set_cons_succ]
              go_wp2_with fail
              go_roundw
              case rel => exact ⟨j + 1, by omega, by go_num, HL4.out⟩
              case measure => simp [intOf]; omega
            · have hje : j = a.names.length := by omega
              subst hje
              have HE1 : Hid (DE W wr hb gb nb tb ab a cF cN cT curF curN pv cv) := H8'.out.de hst.out
              have G8 : Hid (∀ V, Hid (DE W V hb gb nb tb ab a cF cN cT curF curN pv cv) → Calls Tryd.prog 8 #[.agg #[.int .i64 a.kind, .string a.name, .string a.other, .slice pv a.names.length cv, .string a.text, .int .i64 a.num, .int .i64 a.fuel]] V fun e w' => e = .returned (.tuple #[.string (paP (revA a)).1, .int .i64 (paP (revA a)).2]) ∧ Hid (DE W w' hb gb nb tb ab a cF cN cT curF curN pv cv)) := fun V hd => by
                rw [← rev_v]
                refine (rprintAct_ok V (HP.out.bl hd.out.blW) (revA a) pv cv hd.out.r1 HSz.out.rev).mono ?_
                rintro e w' ⟨rfl, hb⟩
                exact ⟨by rw [pa_eq], hd.out.bl hb⟩
              have G9 : Hid (∀ V, Hid (DE W V hb gb nb tb ab a cF cN cT curF curN pv cv) → Calls Tryd.prog 9 #[.agg #[.int .i64 a.kind, .string a.name, .string a.other, .slice (some ⟨tb, 0, none⟩) a.names.length cT, .string a.text, .int .i64 a.num, .int .i64 a.fuel]] V fun e w' => e = .returned (.tuple #[.string (paP (revA a)).1, .int .i64 (paP (revA a)).2]) ∧ Hid (DE W w' hb gb nb tb ab a cF cN cT curF curN pv cv)) := fun V hd => by
                rw [← rev_v]
                refine (printAct_ok V (HP.out.bl hd.out.blW) (revA a) (some ⟨tb, 0, none⟩) cT hd.out.r2 HSz.out.rev.one).mono ?_
                rintro e w' ⟨rfl, hb⟩
                exact ⟨rfl, hd.out.bl hb⟩
              have G10 : Hid (∀ V k, Hid (DE W V hb gb nb tb ab a cF cN cT curF curN pv cv) → Calls Tryd.prog 10 #[.int .i64 k] V fun e w' => e = .returned (.int .i64 k) ∧ Hid (DE W w' hb gb nb tb ab a cF cN cT curF curN pv cv)) := fun V k hd => (num_ok V k).mono (by
                rintro e w' ⟨rfl, hb⟩
                exact ⟨rfl, hd.out.bl hb⟩)
              clear hst H8'
              obtain ⟨x0, x1, x2, x3, x4, x5, x6, z2, y0, y1, y2, y3, y4, y5, y6⟩ := DE.cells HE1.out
              go_wp2_with (first
                | (go_at_call 8; refine (G8.out _ HE1).mono ?_; rintro e V2 ⟨rfl, HE2⟩; clear x0 x1 x2 x3 x4 x5 x6 z2 y0 y1 y2 y3 y4 y5 y6 G8 HE1; obtain ⟨x0, x1, x2, x3, x4, x5, x6, z2, y0, y1, y2, y3, y4, y5, y6⟩ := DE.cells HE2.out)
                | (go_at_call 9; refine (G9.out _ HE2).mono ?_; rintro e V3 ⟨rfl, HE3⟩; clear x0 x1 x2 x3 x4 x5 x6 z2 y0 y1 y2 y3 y4 y5 y6 G9 HE2; obtain ⟨x0, x1, x2, x3, x4, x5, x6, z2, y0, y1, y2, y3, y4, y5, y6⟩ := DE.cells HE3.out)
                | (go_at_call 10; refine (G10.out _ _ HE3).mono ?_; rintro e V4 ⟨rfl, HE4⟩; clear x0 x1 x2 x3 x4 x5 x6 z2 y0 y1 y2 y3 y4 y5 y6 G10 HE3))
              go_roundw
              case rel => exact ⟨i + 1, by omega, by go_num, HE4.out.blW⟩
              case measure => simp [intOf]; omega
    · have hie : i = n := by omega
      subst hie
      have HPr : Hid (Calls Tryd.prog 9 #[.agg #[.int .i64 8, .string ⟨#[]⟩, .string ⟨#[]⟩, .slice none 0 0, .string ⟨#[]⟩, .int .i64 0, .int .i64 0]] wr fun e w' => e = .returned (.tuple #[.string ⟨#[99, 111, 108, 108, 101, 99, 116]⟩, .int .i64 0]) ∧ Hid (Bl W w')) := by
        refine (printAct_ok wr (HP.out.bl hst.out) act8 none 0 (fun j hj => absurd hj (by simp [act8])) ⟨by decide, by decide, by decide, fun s hs => absurd hs (by simp [act8]), by decide, by decide, by decide⟩).mono ?_
        rintro e w' ⟨rfl, hb⟩
        exact ⟨by rw [pa8], hst.out.trans hb⟩
      clear hst HA HS HPA
      go_wp2_with (first
        | (go_at_call 9; refine HPr.out.mono ?_; rintro e V3 ⟨rfl, HB3⟩)
        | (go_at_call 10; refine (num_ok _ _).mono ?_; rintro e V4 ⟨rfl, hb4⟩; have HB4 := mkHid (HB3.out.trans hb4); clear hb4))
      go_ret
      exact ⟨rfl, HB4.out⟩
end Go.Proofs.YtheolmnjedbjmaaDoor
