import Derived.Test.YtheolmnjedbjmaaGreatDoorSHb
import Derived.Test.YtheolmnjedbjmaaGreatDoorSHd
import Derived.Test.YtheolmnjedbjmaaGreatDoorSHg
import Derived.Test.YtheolmnjedbjmaaGreatDoorGK
namespace Go.Proofs.YtheolmnjedbjmaaGreatDoor
open Go.RowKit
set_option linter.unusedVariables false
set_option linter.unusedSimpArgs false
attribute [local go_sem ↓] Go.wp_at_zero Go.wp_at_succ
theorem print12 : printP 1 2 [] = (⟨#[114, 111, 111, 109, 32, 49, 32, 50, 10]⟩, 0) := by decide +kernel
theorem Hx.cells {W V : World} {pb hb gb cF cN cc n : Nat} {ws os : Int} {p pN : Option Addr} {acts : List AQ} {ts : List (Nat × Nat)} (h : Hx W V pb hb gb cF cN cc n ws os p pN acts ts) : V.cell? ⟨hb, 0, none⟩ = some (.int .i64 ws) ∧ V.cell? ⟨hb, 1, none⟩ = some (.int .i64 os) ∧ V.cell? ⟨hb, 2, none⟩ = some (.slice (some ⟨gb, 0, none⟩) n cF) ∧ V.cell? ⟨pb, 0, none⟩ = some (.int .i64 ws) ∧ V.cell? ⟨pb, 1, none⟩ = some (.int .i64 os) ∧ V.cell? ⟨pb, 2, none⟩ = some (.slice p n cc) :=
  ⟨lit_in h.hbx 0 _ rfl, lit_in h.hbx 1 _ rfl, lit_in h.hbx 2 _ rfl, lit_in h.pbx 0 _ rfl, lit_in h.pbx 1 _ rfl, lit_in h.pbx 2 _ rfl⟩
theorem Yz.cells {W V : World} {hb ob gb cF cT n : Nat} {ws os : Int} {pT : Option Addr} {rev : List AQ} (h : Yz W V hb ob gb cF cT n ws os pT rev) : V.cell? ⟨hb, 0, none⟩ = some (.int .i64 ws) ∧ V.cell? ⟨hb, 1, none⟩ = some (.int .i64 os) ∧ V.cell? ⟨hb, 2, none⟩ = some (.slice (some ⟨gb, 0, none⟩) n cF) ∧ V.cell? ⟨ob, 0, none⟩ = some (.int .i64 ws) ∧ V.cell? ⟨ob, 1, none⟩ = some (.int .i64 os) ∧ V.cell? ⟨ob, 2, none⟩ = some (.slice pT n cT) := ⟨h.h0, h.h1, h.h2, h.o0, h.o1, h.o2⟩
set_option maxRecDepth 100000 in
set_option maxHeartbeats 32000000 in
theorem prints_any (W : World) (hp : Pw W) (ws os : Int) (hw : -9223372036854775808 ≤ ws ∧ ws ≤ 9223372036854775807) (ho : -9223372036854775808 ≤ os ∧ os ≤ 9223372036854775807) (g off cc n : Nat) (p : Option Addr) (acts : List AQ) (hl : acts.length = n) (hn : n ≤ 1048576) (hpA : 0 < n → p = some ⟨g, off, none⟩) (hA : ∀ i (hi : i < acts.length), Aw W g (off + i * 7) acts[i].1 acts[i].2.1 acts[i].2.2) (hS : ∀ x ∈ acts, Ak2 x.1) : Calls Tryz.prog 3 #[.agg #[.int .i64 ws, .int .i64 os, .slice p n cc]] W fun e w' => e = .returned (.bool true) ∧ Bl W w' := by
  obtain ⟨W1, hW1⟩ : ∃ X, W.alloc (.cells (plN ws os p n cc) 24) = X := ⟨_, rfl⟩
  have b1 : Bl W W1 := by rw [← hW1]; exact Bl.alloc _ _
  have qp : W1.heap[W.heap.size]? = some (.cells (plN ws os p n cc) 24 (0, 0)) := by rw [← hW1]; exact heap_alloc_new W _
  have p0 := lit_in qp 0 (.int .i64 ws) rfl
  have p1 := lit_in qp 1 (.int .i64 os) rfl
  have p2 := lit_in qp 2 (.slice p n cc) rfl
  obtain ⟨s, hs⟩ : ∃ s, (printP ws os (acts.map (·.1))).1 = s := ⟨_, rfl⟩
  obtain ⟨z, hz⟩ : ∃ z, (printP ws os (acts.map (·.1))).2 = z := ⟨_, rfl⟩
  obtain ⟨s2, hs2⟩ : ∃ s, (printP ws os (acts.reverse.map (·.1))).1 = s := ⟨_, rfl⟩
  obtain ⟨z2, hz2⟩ : ∃ z, (printP ws os (acts.reverse.map (·.1))).2 = z := ⟨_, rfl⟩
  have hSr : ∀ x ∈ acts.reverse, Ak2 x.1 := fun x hx => hS x (List.mem_reverse.1 hx)
  have hrl : acts.reverse.length = n := by rw [List.length_reverse]; exact hl
  have H7 : Hid (Calls Tryz.prog 7 #[.agg #[.int .i64 ws, .int .i64 os, .slice p n cc]] W1 fun e w' => ∃ hb gb cF cN pN ts, e = .returned (.pointer (some ⟨hb, 0, none⟩)) ∧ Hid (ts.length = n ∧ Hx W w' W.heap.size hb gb cF cN cc n ws os p pN acts ts)) := by
    refine (handN_ok W1 ws os g off cc n p acts hl hn hpA (fun i hi => (hA i hi).bl b1) hS).mono ?_
    rintro e w' ⟨rfl, ts, gb, cF, vN, ht, h⟩
    obtain ⟨pN, cN, hx⟩ := Hx.of b1 qp h ht hl
    exact ⟨_, gb, cF, cN, pN, ts, rfl, ht, hx⟩
  have G8 : Hid (∀ V hb gb cF cN pN ts, Hid (ts.length = n ∧ Hx W V W.heap.size hb gb cF cN cc n ws os p pN acts ts) → Calls Tryz.prog 8 #[.agg #[.int .i64 ws, .int .i64 os, .slice (some ⟨gb, 0, none⟩) n cF]] V fun e w' => e = .returned (.tuple #[.string s, .int .i64 z]) ∧ Hid (ts.length = n ∧ Hx W w' W.heap.size hb gb cF cN cc n ws os p pN acts ts)) := fun V hb gb cF cN pN ts hd => by
    obtain ⟨ht, hx⟩ := hd.out
    have hta : ts.length = acts.length := by omega
    refine (print_ok V (hp.bl hx.bl) ws os hw ho gb 0 cF n (some ⟨gb, 0, none⟩) (zipQ acts ts) (by rw [zipQ_len _ _ hta]; exact hl) hn (fun _ => rfl) (hx.aw hta) (fun x hm => ?_)).mono ?_
    · obtain ⟨i, hi, rfl⟩ := List.getElem_of_mem hm
      have h1 : i < acts.length := by rw [zipQ_len _ _ hta] at hi; exact hi
      rw [zipQ_at acts ts i hi h1 (by omega)]
      exact hS acts[i] (List.getElem_mem h1)
    · rintro e w' ⟨rfl, hb⟩
      exact ⟨by rw [zipQ_map _ _ hta, hs, hz], ht, hx.ext hb⟩
  have G9 : Hid (∀ V hb gb cF cN pN ts, Hid (ts.length = n ∧ Hx W V W.heap.size hb gb cF cN cc n ws os p pN acts ts) → Calls Tryz.prog 9 #[.agg #[.int .i64 ws, .int .i64 os, .slice p n cc]] V fun e w' => e = .returned (.tuple #[.string s, .int .i64 z]) ∧ Hid (ts.length = n ∧ Hx W w' W.heap.size hb gb cF cN cc n ws os p pN acts ts)) := fun V hb gb cF cN pN ts hd => by
    obtain ⟨ht, hx⟩ := hd.out
    refine (rprint_ok V (hp.bl hx.bl) ws os hw ho g off cc n p acts hl hn hpA (fun i hi => (hA i hi).bl hx.bl) hS).mono ?_
    rintro e w' ⟨rfl, hb⟩
    exact ⟨by rw [hs, hz], ht, hx.ext hb⟩
  have G10 : Hid (∀ V hb gb cF cN pN ts k, Hid (ts.length = n ∧ Hx W V W.heap.size hb gb cF cN cc n ws os p pN acts ts) → Calls Tryz.prog 10 #[.int .i64 k] V fun e w' => e = .returned (.int .i64 k) ∧ Hid (ts.length = n ∧ Hx W w' W.heap.size hb gb cF cN cc n ws os p pN acts ts)) := fun V hb gb cF cN pN ts k hd => (num_ok V k).mono (by
    rintro e w' ⟨rfl, hb⟩
    exact ⟨rfl, hd.out.1, hd.out.2.ext hb⟩)
  have G11 : Hid (∀ V hb gb cF cN pN ts, Hid (ts.length = n ∧ Hx W V W.heap.size hb gb cF cN cc n ws os p pN acts ts) → Calls Tryz.prog 11 #[.pointer (some ⟨hb, 0, none⟩), .agg #[.int .i64 ws, .int .i64 os, .slice p n cc]] V fun e w' => e = .returned (.bool true) ∧ Hid (ts.length = n ∧ Hx W w' W.heap.size hb gb cF cN cc n ws os p pN acts ts)) := fun V hb gb cF cN pN ts hd => by
    obtain ⟨ht, hx⟩ := hd.out
    refine (leftN_ok V ws os g off cc n hb gb cF cN p pN acts ts hl ht hn hx.hf hpA (fun i hi => (hA i hi).bl hx.bl) (fun x hm => (hS x hm).len)).mono ?_
    rintro e w' ⟨rfl, hb⟩
    exact ⟨rfl, ht, hx.ext hb⟩
  have G12 : Hid (∀ V hb gb cF cN pN ts, Hid (ts.length = n ∧ Hx W V W.heap.size hb gb cF cN cc n ws os p pN acts ts) → Calls Tryz.prog 12 #[.agg #[.int .i64 ws, .int .i64 os, .slice p n cc]] V fun e w' => ∃ pT cT, e = .returned (.agg #[.int .i64 ws, .int .i64 os, .slice pT n cT]) ∧ ∃ V6, (w'.alloc (.cells (plN 0 0 none 0 0) 24)).setRow w'.heap.size (plN ws os pT n cT) = V6 ∧ Hid (Tz W V6 hb w'.heap.size gb cF cT n ws os pT acts.reverse)) := fun V hb gb cF cN pN ts hd => by
    obtain ⟨ht, hx⟩ := hd.out
    refine (turned_ok V ws os g off cc n p acts hl hn hpA (fun i hi => (hA i hi).bl hx.bl)).mono ?_
    rintro e w' ⟨pT, cT, rfl, hb, hT⟩
    refine ⟨pT, cT, rfl, _, rfl, hx.turn hb pT cT acts.reverse hT (fun i hi => ?_)⟩
    rw [List.getElem_reverse]
    exact (hA _ _).names
  have HK8 : Hid (∀ V hb V5 gb cF cT pT, Hid (Yz W V hb V5 gb cF cT n ws os pT acts.reverse) → Calls Tryz.prog 8 #[.agg #[.int .i64 ws, .int .i64 os, .slice (some ⟨gb, 0, none⟩) n cF]] V fun e w' => e = .returned (.tuple #[.string s2, .int .i64 z2]) ∧ Hid (Yz W w' hb V5 gb cF cT n ws os pT acts.reverse)) := fun V hb V5 gb cF cT pT hd => by
    refine (print_ok V (hp.bl hd.out.bl) ws os hw ho gb 0 cF n (some ⟨gb, 0, none⟩) acts.reverse hrl hn (fun _ => rfl) hd.out.a1 hSr).mono ?_
    rintro e w' ⟨rfl, hb⟩
    exact ⟨by rw [hs2, hz2], hd.out.ext hb⟩
  have HK9 : Hid (∀ V hb V5 gb cF cT pT, Hid (Yz W V hb V5 gb cF cT n ws os pT acts.reverse) → Calls Tryz.prog 9 #[.agg #[.int .i64 ws, .int .i64 os, .slice pT n cT]] V fun e w' => e = .returned (.tuple #[.string s2, .int .i64 z2]) ∧ Hid (Yz W w' hb V5 gb cF cT n ws os pT acts.reverse)) := fun V hb V5 gb cF cT pT hd => by
    have hT : ∃ gT, (0 < n → pT = some ⟨gT, 0, none⟩) ∧ ∀ i (hi : i < acts.reverse.length), Aw V gT (0 + i * 7) acts.reverse[i].1 acts.reverse[i].2.1 acts.reverse[i].2.2 := by
      rcases Nat.eq_zero_or_pos n with h0 | h0
      · exact ⟨0, fun h => absurd h (by omega), fun i hi => absurd hi (by omega)⟩
      · obtain ⟨gT, e, h⟩ := hd.out.a2 h0
        exact ⟨gT, fun _ => e, h⟩
    obtain ⟨gT, hT1, hT2⟩ := hT
    refine (rprint_ok V (hp.bl hd.out.bl) ws os hw ho gT 0 cT n pT acts.reverse hrl hn hT1 hT2 hSr).mono ?_
    rintro e w' ⟨rfl, hb⟩
    exact ⟨by rw [hs2, hz2], hd.out.ext hb⟩
  have HK12 : Hid (∀ V hb V5 gb cF cT pT, Hid (Yz W V hb V5 gb cF cT n ws os pT acts.reverse) → Calls Tryz.prog 8 #[.agg #[.int .i64 1, .int .i64 2, .slice none 0 0]] V fun e w' => e = .returned (.tuple #[.string ⟨#[114, 111, 111, 109, 32, 49, 32, 50, 10]⟩, .int .i64 0]) ∧ Hid (Yz W w' hb V5 gb cF cT n ws os pT acts.reverse)) := fun V hb V5 gb cF cT pT hd => by
    refine (print_ok V (hp.bl hd.out.bl) 1 2 (by omega) (by omega) 0 0 0 0 none [] rfl (by omega) (fun h => absurd h (by omega)) (fun i hi => absurd hi (by simp)) (fun x hx => absurd hx (by simp))).mono ?_
    rintro e w' ⟨rfl, hb⟩
    exact ⟨by rw [List.map_nil, print12], hd.out.ext hb⟩
  have HK10 : Hid (∀ V hb V5 gb cF cT pT k, Hid (Yz W V hb V5 gb cF cT n ws os pT acts.reverse) → Calls Tryz.prog 10 #[.int .i64 k] V fun e w' => e = .returned (.int .i64 k) ∧ Hid (Yz W w' hb V5 gb cF cT n ws os pT acts.reverse)) := fun V hb V5 gb cF cT pT k hd => (num_ok V k).mono (by
    rintro e w' ⟨rfl, hb⟩
    exact ⟨rfl, hd.out.ext hb⟩)
  clear hp hpA hA hS hSr b1 qp hs hz hs2 hz2
  go_enter Tryz.func3, Tryz.ntmps3
  go_wp2_with (first
    | (go_at_call 7; refine H7.out.mono ?_; rintro e V1 ⟨hb, gb, cF, cN, pN, ts, rfl, HD1⟩; clear p0 p1 p2 H7; obtain ⟨y0, y1, y2, p0, p1, p2⟩ := Hx.cells HD1.out.2)
    | (go_at_call 8; refine (G8.out _ _ _ _ _ _ _ HD1).mono ?_; rintro e V2 ⟨rfl, HD2⟩; clear y0 y1 y2 p0 p1 p2 G8 HD1; obtain ⟨y0, y1, y2, p0, p1, p2⟩ := Hx.cells HD2.out.2)
    | (go_at_call 9; refine (G9.out _ _ _ _ _ _ _ HD2).mono ?_; rintro e V3 ⟨rfl, HD3⟩; clear y0 y1 y2 p0 p1 p2 G9 HD2; obtain ⟨y0, y1, y2, p0, p1, p2⟩ := Hx.cells HD3.out.2)
    | (go_at_call 10; refine (G10.out _ _ _ _ _ _ _ _ HD3).mono ?_; rintro e V4 ⟨rfl, HD4⟩; clear y0 y1 y2 p0 p1 p2 G10 HD3; obtain ⟨y0, y1, y2, p0, p1, p2⟩ := Hx.cells HD4.out.2)
    | (go_at_call 11; refine (G11.out _ _ _ _ _ _ _ HD4).mono ?_; rintro e VL ⟨rfl, HDL⟩; clear y0 y1 y2 p0 p1 p2 G11 HD4; obtain ⟨y0, y1, y2, p0, p1, p2⟩ := Hx.cells HDL.out.2)
    | (go_at_call 12; refine (G12.out _ _ _ _ _ _ _ HDL).mono ?_; rintro e V5 ⟨pT, cT, rfl, V6, hV6, HT⟩; clear y0 y1 y2 p0 p1 p2 G12 HDL)
    | (refine wpList_store_row rfl 24 _ _ rfl V5.heap.size (plN ws os pT n cT) rfl rfl 24 _ (heap_alloc_new V5 _) (by kernel_rfl) rfl (plN_all _ _ _ _ _) ?_; rw [hV6]))
  clear hV6
  go_loopw [9] (fun x wr => ∃ j : Nat, j ≤ n ∧ x = .int .i64 (j : Int) ∧ Hid (Lp V6 wr gb cF acts.reverse j)) (fun x _ => n - (intOf x).toNat)
  case atStart => exact ⟨0, Nat.zero_le _, rfl, HT.out.start⟩
  case round =>
    obtain ⟨j, hj, rfl, hst⟩ := hrel
    have j0 : (0 : Int) ≤ (j : Int) := by omega
    obtain ⟨bW, k0, k1, k2, k3, k4⟩ := HT.out.fr hst.out.fr
    have o2 := lit_in k3 2 (.slice pT n cT) rfl
    by_cases hlt : j < n
    · have j1 : (j : Int) < (n : Int) := by omega
      obtain ⟨gT, rfl, haw⟩ := k4 (by omega)
      have haw := haw j (by omega)
      obtain ⟨cur, hcur, hfit, hLp⟩ := hst.out.put (by omega) hrl HT.out.fit
      rw [Nat.zero_add] at haw
      obtain ⟨⟨a, q, c⟩, hacts⟩ : ∃ x, acts.reverse[j]'(by omega) = x := ⟨_, rfl⟩
      rw [hacts] at haw hLp
      simp only at haw hLp
      obtain ⟨W7, hW7⟩ : ∃ X, wr.drew.setRow gb (cur.toList.take (j * 7) ++ (akC a q c).toList ++ cur.toList.drop (j * 7 + (akC a q c).size)).toArray = X := ⟨_, rfl⟩
      rw [hW7] at hLp
      have HL7 := mkHid hLp
      have a0 := haw.cells 0 (.int .i64 a.kind) rfl
      rw [Nat.add_zero] at a0
      have HS10 : Hid (wr.drew.cell? ⟨hb, 2, none⟩ = some (.slice (some ⟨gb, 0, none⟩) n cF) ∧ wr.drew.cell? ⟨V5.heap.size, 2, none⟩ = some (.slice (some ⟨gT, 0, none⟩) n cT) ∧ wr.drew.cell? ⟨gT, j * 7, none⟩ = some (.int .i64 a.kind) ∧ wr.drew.cell? ⟨gT, j * 7 + 1, none⟩ = some (.string a.name) ∧ wr.drew.cell? ⟨gT, j * 7 + 2, none⟩ = some (.string a.other) ∧ wr.drew.cell? ⟨gT, j * 7 + 3, none⟩ = some (.slice q a.names.length c) ∧ wr.drew.cell? ⟨gT, j * 7 + 4, none⟩ = some (.string a.text) ∧ wr.drew.cell? ⟨gT, j * 7 + 5, none⟩ = some (.int .i64 a.num) ∧ wr.drew.cell? ⟨gT, j * 7 + 6, none⟩ = some (.int .i64 a.fuel)) := ⟨k2, o2, a0, haw.cells 1 _ rfl, haw.cells 2 _ rfl, haw.cells 3 _ rfl, haw.cells 4 _ rfl, haw.cells 5 _ rfl, haw.cells 6 _ rfl⟩
      have hcur := mkHid hcur
      clear hst hLp hacts haw k0 k1 k2 k3 k4 a0 bW
      go_upto_region 10 with fail
      refine wp_region_last (L := 12) (S := fun U => U.cell? ⟨hb, 2, none⟩ = some (.slice (some ⟨gb, 0, none⟩) n cF) ∧ U.cell? ⟨V5.heap.size, 2, none⟩ = some (.slice (some ⟨gT, 0, none⟩) n cT) ∧ U.cell? ⟨gT, j * 7, none⟩ = some (.int .i64 a.kind) ∧ U.cell? ⟨gT, j * 7 + 1, none⟩ = some (.string a.name) ∧ U.cell? ⟨gT, j * 7 + 2, none⟩ = some (.string a.other) ∧ U.cell? ⟨gT, j * 7 + 3, none⟩ = some (.slice q a.names.length c) ∧ U.cell? ⟨gT, j * 7 + 4, none⟩ = some (.string a.text) ∧ U.cell? ⟨gT, j * 7 + 5, none⟩ = some (.int .i64 a.num) ∧ U.cell? ⟨gT, j * 7 + 6, none⟩ = some (.int .i64 a.fuel)) (by kernel_rfl) (HS10.out) (fun hHeld => ?_)
      refine wpLast_take (i := 0) (v := ?_) rfl (by kernel_rfl) (by kernel_rfl) (by kernel_rfl) (by decide) (by kernel_rfl) (fun _ _ _ h => h) (Or.inl ⟨by rfl, ?_⟩) (by assumption) ?_
      rotate_left
      · (intro w hSw; (try dsimp only at hSw); (try go_split_ands); first | (go_simp; done) | (go_simp; with_reducible rfl))
      try simp only [Act.put, List.getElem_toArray, List.getElem_cons_zero, List.getElem_cons_succ, List.setIfInBounds_toArray, List.set_cons_zero, List.set_cons_succ]
      refine wpLast_take (i := 1) (v := ?_) rfl (by kernel_rfl) (by kernel_rfl) (by kernel_rfl) (by decide) (by kernel_rfl) (fun _ _ _ h => h) (Or.inl ⟨by rfl, ?_⟩) (by assumption) ?_
      rotate_left
      · (intro w hSw; (try dsimp only at hSw); (try go_split_ands); first | (go_simp; done) | (go_simp; with_reducible rfl))
      try simp only [Act.put, List.getElem_toArray, List.getElem_cons_zero, List.getElem_cons_succ, List.setIfInBounds_toArray, List.set_cons_zero, List.set_cons_succ]
      refine wpLast_take (i := 2) (v := ?_) rfl (by kernel_rfl) (by kernel_rfl) (by kernel_rfl) (by decide) (by kernel_rfl) (fun _ _ _ h => h) (Or.inl ⟨by rfl, ?_⟩) (by assumption) ?_
      rotate_left
      · (intro w hSw; (try dsimp only at hSw); (try go_split_ands); first | (go_simp; done) | (go_simp; with_reducible rfl))
      try simp only [Act.put, List.getElem_toArray, List.getElem_cons_zero, List.getElem_cons_succ, List.setIfInBounds_toArray, List.set_cons_zero, List.set_cons_succ]
      refine wpLast_take (i := 3) (v := ?_) rfl (by kernel_rfl) (by kernel_rfl) (by kernel_rfl) (by decide) (by kernel_rfl) (fun _ _ _ h => h) (Or.inl ⟨by rfl, ?_⟩) (by assumption) ?_
      rotate_left
      · (intro w hSw; (try dsimp only at hSw); (try go_split_ands); first | (go_simp; done) | (go_simp; with_reducible rfl))
      try simp only [Act.put, List.getElem_toArray, List.getElem_cons_zero, List.getElem_cons_succ, List.setIfInBounds_toArray, List.set_cons_zero, List.set_cons_succ]
      refine wpLast_take (i := 4) (v := ?_) rfl (by kernel_rfl) (by kernel_rfl) (by kernel_rfl) (by decide) (by kernel_rfl) (fun _ _ _ h => h) (Or.inl ⟨by rfl, ?_⟩) (by assumption) ?_
      rotate_left
      · (intro w hSw; (try dsimp only at hSw); (try go_split_ands); first | (go_simp; done) | (go_simp; with_reducible rfl))
      try simp only [Act.put, List.getElem_toArray, List.getElem_cons_zero, List.getElem_cons_succ, List.setIfInBounds_toArray, List.set_cons_zero, List.set_cons_succ]
      refine wpLast_take (i := 5) (v := ?_) rfl (by kernel_rfl) (by kernel_rfl) (by kernel_rfl) (by decide) (by kernel_rfl) (fun _ _ _ h => h) (Or.inl ⟨by rfl, ?_⟩) (by assumption) ?_
      rotate_left
      · (intro w hSw; (try dsimp only at hSw); (try go_split_ands); first | (go_simp; done) | (go_simp; with_reducible rfl))
      try simp only [Act.put, List.getElem_toArray, List.getElem_cons_zero, List.getElem_cons_succ, List.setIfInBounds_toArray, List.set_cons_zero, List.set_cons_succ]
      refine wpLast_take (i := 6) (v := ?_) rfl (by kernel_rfl) (by kernel_rfl) (by kernel_rfl) (by decide) (by kernel_rfl) (fun _ _ _ h => h) (Or.inl ⟨by rfl, ?_⟩) (by assumption) ?_
      rotate_left
      · (intro w hSw; (try dsimp only at hSw); (try go_split_ands); first | (go_simp; done) | (go_simp; with_reducible rfl))
      try simp only [Act.put, List.getElem_toArray, List.getElem_cons_zero, List.getElem_cons_succ, List.setIfInBounds_toArray, List.set_cons_zero, List.set_cons_succ]
      refine wpLast_take (i := 7) (v := ?_) rfl (by kernel_rfl) (by kernel_rfl) (by kernel_rfl) (by decide) (by kernel_rfl) (fun _ _ _ h => h) (Or.inl ⟨by rfl, ?_⟩) (by assumption) ?_
      rotate_left
      · (intro w hSw; (try dsimp only at hSw); (try go_split_ands); first | (go_simp; done) | (go_simp; with_reducible rfl))
      try simp only [Act.put, List.getElem_toArray, List.getElem_cons_zero, List.getElem_cons_succ, List.setIfInBounds_toArray, List.set_cons_zero, List.set_cons_succ]
      refine wpLast_take (i := 8) (v := ?_) rfl (by kernel_rfl) (by kernel_rfl) (by kernel_rfl) (by decide) (by kernel_rfl) (fun _ _ _ h => h) (Or.inl ⟨by rfl, ?_⟩) (by assumption) ?_
      rotate_left
      · (intro w hSw; (try dsimp only at hSw); (try go_split_ands); first | (go_simp; done) | (go_simp; with_reducible rfl))
      try simp only [Act.put, List.getElem_toArray, List.getElem_cons_zero, List.getElem_cons_succ, List.setIfInBounds_toArray, List.set_cons_zero, List.set_cons_succ]
      refine wpLast_take (i := 9) (v := ?_) rfl (by kernel_rfl) (by kernel_rfl) (by kernel_rfl) (by decide) (by kernel_rfl) (fun _ _ _ h => h) (Or.inl ⟨by rfl, ?_⟩) (by assumption) ?_
      rotate_left
      · (intro w hSw; (try dsimp only at hSw); (try go_split_ands); first | (go_simp; done) | (go_simp; with_reducible rfl))
      try simp only [Act.put, List.getElem_toArray, List.getElem_cons_zero, List.getElem_cons_succ, List.setIfInBounds_toArray, List.set_cons_zero, List.set_cons_succ]
      refine wpLast_take (i := 10) (v := ?_) rfl (by kernel_rfl) (by kernel_rfl) (by kernel_rfl) (by decide) (by kernel_rfl) (fun _ _ _ h => h) (Or.inl ⟨by rfl, ?_⟩) (by assumption) ?_
      rotate_left
      · (intro w hSw; (try dsimp only at hSw); (try go_split_ands); first | (go_simp; done) | (go_simp; with_reducible rfl))
      try simp only [Act.put, List.getElem_toArray, List.getElem_cons_zero, List.getElem_cons_succ, List.setIfInBounds_toArray, List.set_cons_zero, List.set_cons_succ]
      refine wpLast_take (i := 11) (v := ?_) rfl (by kernel_rfl) (by kernel_rfl) (by kernel_rfl) (by decide) (by kernel_rfl) (fun _ _ _ h => h) (Or.inl ⟨by rfl, ?_⟩) (by assumption) ?_
      rotate_left
      · (intro w hSw; (try dsimp only at hSw); (try go_split_ands); first | (go_simp; done) | (go_simp; with_reducible rfl))
      try simp only [Act.put, List.getElem_toArray, List.getElem_cons_zero, List.getElem_cons_succ, List.setIfInBounds_toArray, List.set_cons_zero, List.set_cons_succ]
      refine wpLast_end (by kernel_rfl) rfl (by kernel_rfl) (fun K hK => ?_)
      refine stepM rfl 40 _ _ rfl gb (j * 7) (akC a q c) rfl rfl 40 cur hcur.out (by kernel_rfl) hfit (akC_all _ _ _) ?_
      rw [hW7]
      refine hK.out _ _ ?_
      clear hK K
      go_wp2_with fail
      go_roundw
      case rel => exact ⟨j + 1, by omega, by go_num, HL7.out⟩
      case measure => simp [intOf]; omega
    · have hje : j = n := by omega
      subst hje
      have HE1 : Hid (Yz W wr hb V5.heap.size gb cF cT j ws os pT acts.reverse) := HT.out.done hst.out hrl
      clear hst k0 k1 k2 k3 k4 bW o2 HT
      obtain ⟨z0, z1, z3, o0, o1, o2⟩ := Yz.cells HE1.out
      go_wp2_with (first
        | (go_at_call 8; refine (HK8.out _ _ _ _ _ _ _ HE1).mono ?_; rintro e X2 ⟨rfl, HE2⟩; clear z0 z1 z3 o0 o1 o2 HE1 HK8; obtain ⟨z0, z1, z3, o0, o1, o2⟩ := Yz.cells HE2.out)
        | (go_at_call 9; refine (HK9.out _ _ _ _ _ _ _ HE2).mono ?_; rintro e X3 ⟨rfl, HE3⟩; clear z0 z1 z3 o0 o1 o2 HE2 HK9)
        | (go_at_call 8; refine (HK12.out _ _ _ _ _ _ _ HE3).mono ?_; rintro e X4 ⟨rfl, HE4⟩; clear HE3 HK12)
        | (go_at_call 10; refine (HK10.out _ _ _ _ _ _ _ _ HE4).mono ?_; rintro e X5 ⟨rfl, HE5⟩; clear HE4)
        | (go_at_call 10; refine (HK10.out _ _ _ _ _ _ _ _ HE5).mono ?_; rintro e X6 ⟨rfl, HE6⟩; clear HE5))
      go_ret
      exact ⟨rfl, HE6.out.bl⟩
end Go.Proofs.YtheolmnjedbjmaaGreatDoor
