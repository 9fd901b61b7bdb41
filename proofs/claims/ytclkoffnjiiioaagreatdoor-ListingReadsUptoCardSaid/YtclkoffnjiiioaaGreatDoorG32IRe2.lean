import Derived.Test.YtclkoffnjiiioaaGreatDoorG28JR7
import Derived.Test.YtclkoffnjiiioaaGreatDoorJR9
import Derived.Test.YtclkoffnjiiioaaGreatDoorG01IPm
namespace Go.Proofs.YtclkoffnjiiioaaGreatDoor
open Go.RowKit
set_option linter.unusedVariables false
set_option linter.unusedSimpArgs false
attribute [local go_sem ↓] Go.wp_at_zero Go.wp_at_succ
set_option maxRecDepth 100000 in
set_option maxHeartbeats 16000000 in
theorem line1a_ok (W : World) (hE : Ev W) (h9 : 9 ≤ W.heap.size) (B : Nat) (hB : B ≤ W.heap.size) (K : Co) (lp : Option Addr) (lc : Nat) (pw : Option Addr) (cw : Nat) (x n : Nat) (l : Bs) (hl : l.length ≤ 1100000) (htr : TR B W lp lc K.ts) (hts : K.ts.length ≤ 64) (hx : W.heap[x]? = some (.cells (wkc n 0) 70 (0, 0))) (hxB : x < B) (hn : n ≤ 4096) (y : Bs) (ht0 : tokP [116, 101, 120, 116, 32] l = none) (ht : tokP [97, 114, 114, 97, 121, 32] l = some y) : Calls Tryz.prog 25 #[.agg (K.v lp lc pw cw), .pointer (some ⟨x, 0, none⟩), .int .i64 1, .string (bA l)] W fun e w' => L1R W B x K lp pw cw n l e w' := by
  obtain ⟨hlb, hfr⟩ := lb_begin W (K.v lp lc pw cw) l hl
  obtain ⟨W3, hW3⟩ : ∃ V, (((W.alloc (.cells (K.v lp lc pw cw) 25)).alloc (.cells #[.int .i64 0, .int .i64 0, .int .i64 0, .slice none 0 0, .slice none 0 0] 25)).alloc (.cells #[.string (bA l), .int .i64 0, .int .i64 0, .bool false] 91)) = V := ⟨_, rfl⟩
  rw [hW3] at hlb hfr
  have hkv : K.v lp lc pw cw = #[.int .i64 K.args, .int .i64 K.temps, .int .i64 K.stack, .slice lp K.ts.length lc, .slice pw K.ws.length cw] := rfl
  rw [hkv] at hW3 hlb ⊢
  obtain ⟨gc, hgc⟩ : ∃ g, g = W.heap.size := ⟨_, rfl⟩
  obtain ⟨g8, hg8⟩ : ∃ g, g = W.heap.size + 1 := ⟨_, rfl⟩
  obtain ⟨r, hr⟩ : ∃ g, g = W.heap.size + 2 := ⟨_, rfl⟩
  rw [← hr, ← hg8, ← hgc] at hlb
  have n1 : gc ≠ r := by omega
  have n2 : g8 ≠ r := by omega
  have n3 : g8 ≠ gc := by omega
  have hr9 : 9 ≤ r := by omega
  have HG : Hid (gc = W.heap.size ∧ g8 = W.heap.size + 1 ∧ r = W.heap.size + 2) := ⟨hgc, hg8, hr⟩
  have HW3 := mkHid hW3
  have hxl := lt_of_heap hx
  have hbk : ∀ g ∈ blk lp, B ≤ g ∧ g < W.heap.size := htr.blk
  have HrW : Hid (W.heap.size ≤ r ∧ W.heap.size ≤ gc ∧ W.heap.size ≤ g8 ∧ x < W.heap.size) := ⟨by omega, by omega, by omega, hxl⟩
  have HHas : Hid (∀ (V : World) (p : Bs) (v : Bool), p.length ≤ 100 → Fr [] W3 V → hasQ l 0 false p = v → Calls Tryz.prog 42 #[pt r, .string (bA p)] V fun e w' => e = .returned (.bool v) ∧ Fr [] V w') := fun V p v hp fV hv => by
    rw [← hv]
    exact has_ok V r l 0 0 false (hlb.q.fr fV (by simp)) p hp
  have HQ3 : Hid (∀ V, Fr [] W3 V → QB V r l 0 0 false) := fun V fV => hlb.q.fr fV (by simp)
  have HEv : Hid (∀ V, Fr [] W3 V → ∀ U, Fr [r] V U → Ev U) := fun V fV U fU => ((hE.fr0 hfr).fr0 fV).fr1 fU hr9
  have hno : hasQ l 0 false [116, 101, 120, 116, 32] = false := has_no (by rw [List.drop_zero]; exact ht0)
  have HT0 := mkHid hno
  have hdr : l.drop 6 = y := by have := drop_tok (S := l) (k := 0) (by rw [List.drop_zero]; exact ht); simpa using this
  have HT1 := mkHid (has_tok (S := l) (k := 0) (by rw [List.drop_zero]; exact ht))
  have HEat : Hid (∀ V, QB V r l 0 0 false → Calls Tryz.prog 39 #[pt r, .string (bA [97, 114, 114, 97, 121, 32])] V fun e w' => e = .returned (.tuple #[]) ∧ Fr [r] V w' ∧ QB w' r l 6 0 false) := fun V hV => eat_hit hV (by rw [List.drop_zero]; exact ht) (by decide)
  have HTx : Hid (∀ V, QB V r l 6 0 false → Ev V → Calls Tryz.prog 44 #[pt r] V fun e w' => ∃ t k d bad, e = .returned (litv t) ∧ Fr [r] V w' ∧ QB w' r l k d bad ∧ LitsX w' (fun g => V.heap.size ≤ g) t.p t.c t.kids ∧ t.text.size ≤ 140737488355328 ∧ litD l K.ts.length n = fin1 (lstQ t l k bad) K.ts.length n) := fun V hV hEV => ((readW_all (2 * y.length)).2 V r l 6 0 hV hEV hr9 hl (by omega) (by rw [← hdr, List.length_drop]; omega)).mono (by
    rintro e w' ⟨t, k, d, bad, rfl, hq, f1, hk, htx, -, -, hres⟩
    refine ⟨t, k, d, bad, rfl, f1, hq, hk, htx, ?_⟩
    rw [lit_arr ht0 ht, ← hdr] 
    rw [← hdr] at hres
    rw [hres]
    unfold lstQ
    cases bad <;> rfl)
  clear hno
  have HTr := mkHid htr
  have HX := mkHid hx
  have HBk := mkHid hbk
  have H3 := mkHid hlb
  have F3 := mkHid hfr
  have HB := mkHid hB
  have hnk : (decide ((K.ts.length : Int) ≥ 64) = true ∧ (64 : Int) ≤ (K.ts.length : Int) ∧ K.ts.length = 64) ∨ (decide ((K.ts.length : Int) ≥ 64) = false ∧ ¬ (64 : Int) ≤ (K.ts.length : Int) ∧ ¬ 64 ≤ K.ts.length ∧ K.ts.length < 64) := by
    by_cases q : K.ts.length = 64
    · exact .inl ⟨decide_eq_true (by omega), by omega, q⟩
    · exact .inr ⟨decide_eq_false (by omega), by omega, by omega, by omega⟩
  have HNk := mkHid hnk
  have HXB := mkHid hxB
  have HN := mkHid hn
  clear hlb hfr hkv hgc hg8 hr hW3 hE h9 hl htr hx hbk hB hnk hxB hn hts hxl
  go_enter Tryz.func25, Tryz.ntmps25
  go_wp2_with fail
  rw [HW3.out, ← HG.out.2.2, ← HG.out.2.1, ← HG.out.1]
  refine (HHas.out W3 [116, 101, 120, 116, 32] false (by decide) (Fr.refl [] W3) HT0.out).mono ?_
  rintro e a0 ⟨rfl, fa⟩
  have FA0 : Hid (Fr [] W3 a0) := ((Fr.refl [] W3)).tr0 fa
  have FA0b := mkHid fa
  clear fa
  go_wp2_with fail
  refine (HHas.out a0 [97, 114, 114, 97, 121, 32] true (by decide) FA0.out HT1.out).mono ?_
  rintro e a1 ⟨rfl, fa⟩
  have FA1 : Hid (Fr [] W3 a1) := (FA0.out).tr0 fa
  have FA1b := mkHid fa
  clear fa
  have hz3 := lt_of_heap H3.out.q.blk
  have hs1 := FA1.out.size
  obtain ⟨gx, hgx⟩ : ∃ g, a1.heap.size = g := ⟨_, rfl⟩
  obtain ⟨b1, hb1⟩ : ∃ V, a1.alloc (.cells #[.int .i64 2, .string ⟨#[]⟩, .int .i64 0, .slice none 0 0] 49) = V := ⟨_, rfl⟩
  have hxa : b1.heap[gx]? = some (.cells #[.int .i64 2, .string ⟨#[]⟩, .int .i64 0, .slice none 0 0] 49 (0, 0)) := by rw [← hb1, ← hgx]; exact heap_alloc_new a1 _
  have FB1 : Hid (Fr [] W3 b1) := by rw [← hb1]; exact FA1.out.al _
  have HGxl : Hid (r < gx ∧ gc < gx ∧ g8 < gx) := by have := HG.out; exact ⟨by omega, by omega, by omega⟩
  have HXa := mkHid hxa
  have HGx0 := mkHid hgx
  have HB1 := mkHid hb1
  clear hz3 hs1 hxa hgx hb1
  go_wp2_with fail
  rw [HB1.out, HGx0.out]
  refine (HHas.out b1 [116, 101, 120, 116, 32] false (by decide) FB1.out HT0.out).mono ?_
  rintro e a2 ⟨rfl, fa⟩
  have FA2 : Hid (Fr [] W3 a2) := (FB1.out).tr0 fa
  have FA2b := mkHid fa
  clear fa
  go_wp2_with fail
  refine (HEat.out a2 (HQ3.out a2 FA2.out)).mono ?_
  rintro e a3 ⟨rfl, f3, hq3⟩
  have HTx3 := mkHid (HTx.out a3 hq3 (HEv.out a2 FA2.out a3 f3))
  have FA3 : Hid (Fr [r] W3 a3) := (FA2.out.mono (S' := [r]) (by simp)).trans f3 (by simp)
  have FB3 : Hid (Fr [r] b1 a3) := by
    have h := FA2b.out
    exact (h.mono (S' := [r]) (by simp)).trans f3 (by simp)
  clear f3 hq3 HEat HTx
  go_wp2_with fail
  refine HTx3.out.mono ?_
  rintro e a4 ⟨t, k, d, bad, rfl, f4, hq4, hk4, htx4, hld⟩
  have F4 := FA3.out.trans f4 (by simp)
  have hsg : gx < a3.heap.size := Nat.lt_of_lt_of_le (lt_of_heap HXa.out) FB3.out.size
  have hg4 := ((FB3.out.trans f4 (by simp)).block gx (lt_of_heap HXa.out) (by have := HGxl.out; simp; omega)).trans HXa.out
  have hl4 : LB a4 gc g8 r _ l k d bad := ⟨(F4.block gc (lt_of_heap H3.out.c) (by simpa using n1)).trans H3.out.c, (F4.block g8 (lt_of_heap H3.out.z) (by simpa using n2)).trans H3.out.z, hq4⟩
  have x0 : a4.cell? ⟨gx, 0, none⟩ = some (.int .i64 2) := cell_in hg4 0
  have x1 : a4.cell? ⟨gx, 1, none⟩ = some (.string ⟨#[]⟩) := cell_in hg4 1
  have x2 : a4.cell? ⟨gx, 2, none⟩ = some (.int .i64 0) := cell_in hg4 2
  have x3 : a4.cell? ⟨gx, 3, none⟩ = some (.slice none 0 0) := cell_in hg4 3
  have xz0 := frozen_in hg4 0
  have xz1 := frozen_in hg4 1
  have xz2 := frozen_in hg4 2
  have xz3 := frozen_in hg4 3
  obtain ⟨hg5, fs⟩ := st4_ok (.int .i64 t.kind) (.string t.text) (.int .i64 t.num) (.slice t.p t.kids.length t.c) hg4
  have hl5 : LB (st4 a4 gx (.int .i64 t.kind) (.string t.text) (.int .i64 t.num) (.slice t.p t.kids.length t.c)) gc g8 r _ l k d bad := ⟨(fs.block gc (lt_of_heap hl4.c) (by have := HGxl.out; simp; omega)).trans hl4.c, (fs.block g8 (lt_of_heap hl4.z) (by have := HGxl.out; simp; omega)).trans hl4.z, hl4.q.fr fs (by have := HGxl.out; simp; omega)⟩
  have f5 : Fr [] W (st4 a4 gx (.int .i64 t.kind) (.string t.text) (.int .i64 t.num) (.slice t.p t.kids.length t.c)) := (F3.out.trans F4 (fun b hb => .inr (by simp at hb; rw [hb]; exact HrW.out.1))).trans fs (fun b hb => .inr (by have := HGxl.out; have := HrW.out; simp at hb; omega))
  have hk5 : LitsX (st4 a4 gx (.int .i64 t.kind) (.string t.text) (.int .i64 t.num) (.slice t.p t.kids.length t.c)) (fun g => gx < g) t.p t.c t.kids := hk4.keep fs (fun g hg _ => by simp; omega) (fun g hg _ => by omega)
  obtain ⟨v5, hv5⟩ : ∃ V, st4 a4 gx (.int .i64 t.kind) (.string t.text) (.int .i64 t.num) (.slice t.p t.kids.length t.c) = V := ⟨_, rfl⟩
  rw [hv5] at hg5 hl5 f5 hk5
  have HL := mkHid hl5
  have F5 := mkHid f5
  have HGx := mkHid hg5
  have HK := mkHid hk5
  have HTxt := mkHid htx4
  have HLd := mkHid hld
  have HV5 := mkHid hv5
  clear f4 hq4 hk4 htx4 hld F4 hg4 hl4 fs hg5 hl5 f5 hk5 HTx3 FA3 FB3 H3 hsg hv5
  unfold litv LitT.items
  go_wp2_with fail
  have hv5 := HV5.out
  unfold st4 at hv5
  rw [hv5]
  clear hv5
  clear HV5 x0 x1 x2 x3 xz0 xz1 xz2 xz3
  have HEnd := mkHid (ends_st HL.out.q)
  refine HEnd.out.mono ?_
  rintro e v6 ⟨rfl, f6⟩
  have HL6 := mkHid (HL.out.mv n1 n2 (f6.mono (by simp)) (HL.out.q.fr f6 (by simp)))
  have HX6 := mkHid (f6.hb HGx.out)
  have F6 := mkHid (F5.out.tr0 f6)
  have HK6 : Hid (LitsX v6 (fun g => gx < g) t.p t.c t.kids) := HK.out.keep f6 (fun _ _ _ => by simp) (fun g hg _ => hg)
  clear f6 HEnd HL HGx HK F5
  have d0 : v6.cell? ⟨gc, 0, none⟩ = some (.int .i64 K.args) := cell_in HL6.out.c 0
  have d1 : v6.cell? ⟨gc, 1, none⟩ = some (.int .i64 K.temps) := cell_in HL6.out.c 1
  have d2 : v6.cell? ⟨gc, 2, none⟩ = some (.int .i64 K.stack) := cell_in HL6.out.c 2
  have d3 : v6.cell? ⟨gc, 3, none⟩ = some (.slice lp K.ts.length lc) := cell_in HL6.out.c 3
  have d4 : v6.cell? ⟨gc, 4, none⟩ = some (.slice pw K.ws.length cw) := cell_in HL6.out.c 4
  have e0 : v6.cell? ⟨g8, 0, none⟩ = some (.int .i64 0) := cell_in HL6.out.z 0
  have e1 : v6.cell? ⟨g8, 1, none⟩ = some (.int .i64 0) := cell_in HL6.out.z 1
  have e2 : v6.cell? ⟨g8, 2, none⟩ = some (.int .i64 0) := cell_in HL6.out.z 2
  have e3 : v6.cell? ⟨g8, 3, none⟩ = some (.slice none 0 0) := cell_in HL6.out.z 3
  have e4 : v6.cell? ⟨g8, 4, none⟩ = some (.slice none 0 0) := cell_in HL6.out.z 4
  have y0 := frozen_in HL6.out.z 0
  have y1 := frozen_in HL6.out.z 1
  have y2 := frozen_in HL6.out.z 2
  have y3 := frozen_in HL6.out.z 3
  have y4 := frozen_in HL6.out.z 4
  have HNo : Hid (litD l K.ts.length n = none → L1R W B x K lp pw cw n l (.returned (.tuple #[.agg #[.int .i64 K.args, .int .i64 K.temps, .int .i64 K.stack, .slice lp K.ts.length lc, .slice pw K.ws.length cw], .int .i64 1, .bool false])) (st5 v6 g8 (.int .i64 K.args) (.int .i64 K.temps) (.int .i64 K.stack) (.slice lp K.ts.length lc) (.slice pw K.ws.length cw)) ∧ (st5 v6 g8 (.int .i64 K.args) (.int .i64 K.temps) (.int .i64 K.stack) (.slice lp K.ts.length lc) (.slice pw K.ws.length cw)).heap[g8]? = some (.cells #[.int .i64 K.args, .int .i64 K.temps, .int .i64 K.stack, .slice lp K.ts.length lc, .slice pw K.ws.length cw] 25 (0, 0))) := fun hno => by
    obtain ⟨b5, f5⟩ := st5_ok (.int .i64 K.args) (.int .i64 K.temps) (.int .i64 K.stack) (.slice lp K.ts.length lc) (.slice pw K.ws.length cw) HL6.out.z
    refine ⟨⟨t, false, n, K.ts, lp, lc, rfl, ((F6.out.mono (S' := x :: blk lp) (by simp)).trans f5 (fun b hb => .inr (by simp at hb; rw [hb]; exact HrW.out.2.2.1))), (fun e => by cases e), ?_⟩, b5⟩
    rw [hno]
    rfl
  by_cases hend : stQ l k bad = some []
  · have hde : decide (stQ l k bad = some []) = true := decide_eq_true hend
    rw [hde]
    have hfy := HLd.out.trans (fin1_yes hend)
    clear hde hend
    rcases HNk.out with ⟨o1, o2, o3⟩ | ⟨o1, o2, o3, o4⟩
    · have HFin := mkHid (HNo.out (by rw [hfy]; unfold chkQ; rw [if_pos o3]))
      clear hfy o3 HNo
      go_wp2_with fail
      exact ret25 Tryz.results25 HFin.out.2 rfl rfl rfl HFin.out.1
    · rw [chk_lit t _ n (by omega)] at hfy
      have HFy := mkHid hfy
      have HLt := mkHid o4
      clear hfy o4 HNo
      have x0 : v6.cell? ⟨gx, 0, none⟩ = some (.int .i64 t.kind) := cell_in HX6.out 0
      have x1 : v6.cell? ⟨gx, 1, none⟩ = some (.string t.text) := cell_in HX6.out 1
      have x2 : v6.cell? ⟨gx, 2, none⟩ = some (.int .i64 t.num) := cell_in HX6.out 2
      have x3 : v6.cell? ⟨gx, 3, none⟩ = some (.slice t.p t.kids.length t.c) := cell_in HX6.out 3
      have hxw : v6.heap[x]? = some (.cells (wkc n 0) 70 (0, 0)) := F6.out.hb HX.out
      have HLit := mkHid (literal_one x n t true v6 v6 (HK6.out.lo.keep (Fr.refl [] v6) (fun _ _ _ => by simp) (fun g hg _ => by have := HrW.out; have := HGxl.out; omega)) (Fr.refl [x] v6) hxw HN.out HTxt.out)
      unfold LitT.items at HLit
      clear hxw
      go_wp2_with fail
      refine HLit.out.mono ?_
      rintro e v7 ⟨rfl, f7, hx7⟩
      clear HLit x0 x1 x2 x3 d0 d1 d2 d3 d4 e0 e1 e2 e3 e4 y0 y1 y2 y3 y4
      obtain ⟨p2, c2, w5, hr5, hb5, hg7, hc7, hSt⟩ := lit_push HrW.out HGxl.out HXB.out HB.out (HTr.out) HLt.out F6.out HL6.out HX6.out HK6.out HTxt.out f7 hx7 n1 n2 n3
      have d0 : v7.cell? ⟨gc, 0, none⟩ = some (.int .i64 K.args) := cell_in hc7 0
      have d1 : v7.cell? ⟨gc, 1, none⟩ = some (.int .i64 K.temps) := cell_in hc7 1
      have d2 : v7.cell? ⟨gc, 2, none⟩ = some (.int .i64 K.stack) := cell_in hc7 2
      have d3 : v7.cell? ⟨gc, 3, none⟩ = some (.slice lp K.ts.length lc) := cell_in hc7 3
      have d4 : v7.cell? ⟨gc, 4, none⟩ = some (.slice pw K.ws.length cw) := cell_in hc7 4
      have x0 : v7.cell? ⟨gx, 0, none⟩ = some (.int .i64 t.kind) := cell_in hg7 0
      have x1 : v7.cell? ⟨gx, 1, none⟩ = some (.string t.text) := cell_in hg7 1
      have x2 : v7.cell? ⟨gx, 2, none⟩ = some (.int .i64 t.num) := cell_in hg7 2
      have x3 : v7.cell? ⟨gx, 3, none⟩ = some (.slice t.p t.kids.length t.c) := cell_in hg7 3
      have c5 : w5.cell? ⟨gc, 3, none⟩ = some (.slice lp K.ts.length lc) := cell_in hb5 3
      have z5 := frozen_in hb5 3
      have hr5b : (Builtin.append_ #[22, 22] 22 #[.slice lp K.ts.length lc, .slice (some ⟨v7.heap.size, 0, none⟩) 1 1]).run Tryz.prog (v7.alloc (.cells #[.int .i64 t.kind, .string t.text, .int .i64 t.num, .slice t.p t.kids.length t.c] 49)) = .ok (.slice p2 (K.ts.length + 1) c2) w5 := hr5
      have HR5 := mkHid hr5b
      have HSt := mkHid hSt
      have hVV := hSt.1
      obtain ⟨VV, hV⟩ : ∃ V, w5.setCell ⟨gc, 3, none⟩ (.slice p2 (K.ts.length + 1) c2) = V := ⟨_, rfl⟩
      rw [hV] at HSt hVV
      clear hr5 hr5b hSt hb5 hg7 hc7 f7 hx7
      go_wp2_with (at_builtin; refine Lib.wpList_append_run _ rfl (.tmp 78) (.tmp 80) 22 22 rfl _ _ rfl rfl _ _ HR5.out ?_)
      clear hV hVV HR5 c5 z5 d0 d1 d2 d3 d4 x0 x1 x2 x3
      obtain ⟨er, her⟩ : ∃ q, (lit1 true t n).1 = q := ⟨_, rfl⟩
      obtain ⟨nn, hn2⟩ : ∃ q, (lit1 true t n).2 = q := ⟨_, rfl⟩
      rw [her, hn2] at HSt HFy
      clear her hn2
      have HCs : Hid (VV.drew.cell? ⟨gc, 0, none⟩ = some (.int .i64 K.args) ∧ VV.drew.cell? ⟨gc, 1, none⟩ = some (.int .i64 K.temps) ∧ VV.drew.cell? ⟨gc, 2, none⟩ = some (.int .i64 K.stack) ∧ VV.drew.cell? ⟨gc, 3, none⟩ = some (.slice p2 (K.ts.length + 1) c2) ∧ VV.drew.cell? ⟨gc, 4, none⟩ = some (.slice pw K.ws.length cw) ∧ VV.drew.cell? ⟨x, 1, none⟩ = some (.int .i64 er)) := ⟨cell_in HSt.out.1.c 0, cell_in HSt.out.1.c 1, cell_in HSt.out.1.c 2, cell_in HSt.out.1.c 3, cell_in HSt.out.1.c 4, cell_in HSt.out.2.1 1⟩
      have hz : VV.drew.heap[g8]? = some z25 := HSt.out.1.z
      have e0 : VV.drew.cell? ⟨g8, 0, none⟩ = some (.int .i64 0) := cell_in hz 0
      have e1 : VV.drew.cell? ⟨g8, 1, none⟩ = some (.int .i64 0) := cell_in hz 1
      have e2 : VV.drew.cell? ⟨g8, 2, none⟩ = some (.int .i64 0) := cell_in hz 2
      have e3 : VV.drew.cell? ⟨g8, 3, none⟩ = some (.slice none 0 0) := cell_in hz 3
      have e4 : VV.drew.cell? ⟨g8, 4, none⟩ = some (.slice none 0 0) := cell_in hz 4
      have y0 := frozen_in hz 0
      have y1 := frozen_in hz 1
      have y2 := frozen_in hz 2
      have y3 := frozen_in hz 3
      have y4 := frozen_in hz 4
      obtain ⟨b5, f5⟩ := st5_ok (.int .i64 K.args) (.int .i64 K.temps) (.int .i64 K.stack) (.slice p2 (K.ts.length + 1) c2) (.slice pw K.ws.length cw) hz
      have HC5 : Hid ((st5 VV.drew g8 (.int .i64 K.args) (.int .i64 K.temps) (.int .i64 K.stack) (.slice p2 (K.ts.length + 1) c2) (.slice pw K.ws.length cw)).cell? ⟨gc, 0, none⟩ = some (.int .i64 K.args) ∧ (st5 VV.drew g8 (.int .i64 K.args) (.int .i64 K.temps) (.int .i64 K.stack) (.slice p2 (K.ts.length + 1) c2) (.slice pw K.ws.length cw)).cell? ⟨gc, 1, none⟩ = some (.int .i64 K.temps) ∧ (st5 VV.drew g8 (.int .i64 K.args) (.int .i64 K.temps) (.int .i64 K.stack) (.slice p2 (K.ts.length + 1) c2) (.slice pw K.ws.length cw)).cell? ⟨gc, 2, none⟩ = some (.int .i64 K.stack) ∧ (st5 VV.drew g8 (.int .i64 K.args) (.int .i64 K.temps) (.int .i64 K.stack) (.slice p2 (K.ts.length + 1) c2) (.slice pw K.ws.length cw)).cell? ⟨gc, 3, none⟩ = some (.slice p2 (K.ts.length + 1) c2) ∧ (st5 VV.drew g8 (.int .i64 K.args) (.int .i64 K.temps) (.int .i64 K.stack) (.slice p2 (K.ts.length + 1) c2) (.slice pw K.ws.length cw)).cell? ⟨gc, 4, none⟩ = some (.slice pw K.ws.length cw) ∧ (st5 VV.drew g8 (.int .i64 K.args) (.int .i64 K.temps) (.int .i64 K.stack) (.slice p2 (K.ts.length + 1) c2) (.slice pw K.ws.length cw)).cell? ⟨x, 1, none⟩ = some (.int .i64 er)) := by
        have hb := (f5.block gc (lt_of_heap HSt.out.1.c) (by simpa using fun e => n3 e.symm)).trans (show VV.drew.heap[gc]? = _ from HSt.out.1.c)
        have hb2 := (f5.block x (lt_of_heap HSt.out.2.1) (by have := HrW.out; simp; omega)).trans (show VV.drew.heap[x]? = _ from HSt.out.2.1)
        exact ⟨cell_in hb 0, cell_in hb 1, cell_in hb 2, cell_in hb 3, cell_in hb 4, cell_in hb2 1⟩
      have HB5 := mkHid b5
      have HFin : Hid (∀ ok : Bool, litD l K.ts.length n = (if ok = true then some (stT t, nn) else none) → (ok = true → er = 0) → L1R W B x K lp pw cw n l (.returned (.tuple #[.agg #[.int .i64 K.args, .int .i64 K.temps, .int .i64 K.stack, .slice p2 (K.ts.length + 1) c2, .slice pw K.ws.length cw], .int .i64 1, .bool ok])) (st5 VV.drew g8 (.int .i64 K.args) (.int .i64 K.temps) (.int .i64 K.stack) (.slice p2 (K.ts.length + 1) c2) (.slice pw K.ws.length cw))) := fun ok hok her => by
        have hl6 : (K.ts ++ [t]).length = K.ts.length + 1 := by simp
        refine ⟨t, ok, nn, K.ts ++ [t], p2, c2, ?_, ?_, fun e => ⟨rfl, ?_, ?_⟩, hok⟩
        · show _ = Ending.returned (.tuple #[.agg (({ K with ts := K.ts ++ [t] } : Co).v p2 c2 pw cw), .int .i64 1, .bool ok])
          unfold Co.v
          simp only [hl6]
        · exact (HSt.out.2.2.1.trans (Fr.drew [] VV) (by simp)).trans f5 (fun b hb => .inr (by simp at hb; rw [hb]; exact HrW.out.2.2.1))
        · refine (HSt.out.2.2.2.1.away (Fr.drew [] VV) (by simp)).away f5 (fun g hg => ?_)
          have e : g = g8 := by simpa using hg
          rw [e]
          exact HSt.out.2.2.2.2
        · have hb2 := (f5.block x (lt_of_heap HSt.out.2.1) (by have := HrW.out; simp; omega)).trans (show VV.drew.heap[x]? = _ from HSt.out.2.1)
          rw [her e] at hb2
          exact hb2
      clear b5 f5 hz
      refine wp_region_h (S := fun V => V.cell? ⟨gc, 0, none⟩ = some (.int .i64 K.args) ∧ V.cell? ⟨gc, 1, none⟩ = some (.int .i64 K.temps) ∧ V.cell? ⟨gc, 2, none⟩ = some (.int .i64 K.stack) ∧ V.cell? ⟨gc, 3, none⟩ = some (.slice p2 (K.ts.length + 1) c2) ∧ V.cell? ⟨gc, 4, none⟩ = some (.slice pw K.ws.length cw) ∧ V.cell? ⟨x, 1, none⟩ = some (.int .i64 er)) (by kernel_rfl) HCs.out (fun hHeld => ?_)
      by_cases h0 : er = 0
      · have hq : (er == 0) = true := by simpa using h0
        have HF1 := mkHid (HFin.out true (by rw [HFy.out, if_pos h0]; rfl) (fun _ => h0))
        clear h0
        refine wpAnyH_take (i := 0) (v := ?_) rfl (by kernel_rfl) (by kernel_rfl) (by kernel_rfl) (fun _ _ _ h => h) (Or.inl ⟨by rfl, ?_⟩) (by assumption) ?_
        rotate_left
        · (intro w hSw; (try dsimp only at hSw); first | (go_simp; done) | (go_simp; with_reducible rfl))
        try simp only [Act.put, qT, qZ, qS, qB, qY, qX]
        refine wpAnyH_take (i := 1) (v := ?_) rfl (by kernel_rfl) (by kernel_rfl) (by kernel_rfl) (fun _ _ _ h => h) (Or.inl ⟨by rfl, ?_⟩) (by assumption) ?_
        rotate_left
        · (intro w hSw; (try dsimp only at hSw); first | (go_simp; done) | (go_simp; with_reducible rfl))
        try simp only [Act.put, qT, qZ, qS, qB, qY, qX]
        refine wpAnyH_take (i := 2) (v := ?_) rfl (by kernel_rfl) (by kernel_rfl) (by kernel_rfl) (fun _ _ _ h => h) (Or.inl ⟨by rfl, ?_⟩) (by assumption) ?_
        rotate_left
        · (intro w hSw; (try dsimp only at hSw); first | (go_simp; done) | (go_simp; with_reducible rfl))
        try simp only [Act.put, qT, qZ, qS, qB, qY, qX]
        refine wpAnyH_take (i := 3) (v := ?_) rfl (by kernel_rfl) (by kernel_rfl) (by kernel_rfl) (fun _ _ _ h => h) (Or.inl ⟨by rfl, ?_⟩) (by assumption) ?_
        rotate_left
        · (intro w hSw; (try dsimp only at hSw); first | (go_simp; done) | (go_simp; with_reducible rfl))
        try simp only [Act.put, qT, qZ, qS, qB, qY, qX]
        refine wpAnyH_take (i := 4) (v := ?_) rfl (by kernel_rfl) (by kernel_rfl) (by kernel_rfl) (fun _ _ _ h => h) (Or.inl ⟨by rfl, ?_⟩) (by assumption) ?_
        rotate_left
        · (intro w hSw; (try dsimp only at hSw); first | (go_simp; done) | (go_simp; with_reducible rfl))
        try simp only [Act.put, qT, qZ, qS, qB, qY, qX]
        refine wpAnyH_take (i := 5) (v := ?_) rfl (by kernel_rfl) (by kernel_rfl) (by kernel_rfl) (fun _ _ _ h => h) (Or.inl ⟨by rfl, ?_⟩) (by assumption) ?_
        rotate_left
        · (intro w hSw; (try dsimp only at hSw); first | (go_simp; done) | (go_simp; with_reducible rfl))
        try simp only [Act.put, qT, qZ, qS, qB, qY, qX]
        refine wpH_one (i := 6) (by kernel_rfl) rfl (fun K0 hK => ?_)
        clear HFin HCs HSt hHeld
        generalize VV.drew = W9 at *
        go_simp
        refine hK.out _ _ HC5.out (fun hHeld => ?_)
        clear hK K0
        try simp only [Act.put, qT, qZ, qS, qB, qY, qX]
        refine wpAnyH_take (i := 7) (v := ?_) rfl (by kernel_rfl) (by kernel_rfl) (by kernel_rfl) (fun _ _ _ h => h) (Or.inl ⟨by rfl, ?_⟩) (by assumption) ?_
        rotate_left
        · (intro w hSw; (try dsimp only at hSw); first | (go_simp; done) | (go_simp; with_reducible rfl))
        try simp only [Act.put, qT, qZ, qS, qB, qY, qX]
        refine wpAnyH_take (i := 8) (v := ?_) rfl (by kernel_rfl) (by kernel_rfl) (by kernel_rfl) (fun _ _ _ h => h) (Or.inl ⟨by rfl, ?_⟩) (by assumption) ?_
        rotate_left
        · (intro w hSw; (try dsimp only at hSw); first | (go_simp; done) | (go_simp; with_reducible rfl))
        try simp only [Act.put, qT, qZ, qS, qB, qY, qX]
        refine wpAnyH_done (by kernel_rfl) ?_ _
        clear hHeld
        go_wp2_with fail
        exact ret25 Tryz.results25 HB5.out rfl rfl rfl HF1.out
      · have hq : (er == 0) = false := by simpa using h0
        have HF1 := mkHid (HFin.out false (by rw [HFy.out, if_neg h0]; rfl) (fun e => by cases e))
        clear h0
        refine wpAnyH_take (i := 0) (v := ?_) rfl (by kernel_rfl) (by kernel_rfl) (by kernel_rfl) (fun _ _ _ h => h) (Or.inl ⟨by rfl, ?_⟩) (by assumption) ?_
        rotate_left
        · (intro w hSw; (try dsimp only at hSw); first | (go_simp; done) | (go_simp; with_reducible rfl))
        try simp only [Act.put, qT, qZ, qS, qB, qY, qX]
        refine wpAnyH_take (i := 1) (v := ?_) rfl (by kernel_rfl) (by kernel_rfl) (by kernel_rfl) (fun _ _ _ h => h) (Or.inl ⟨by rfl, ?_⟩) (by assumption) ?_
        rotate_left
        · (intro w hSw; (try dsimp only at hSw); first | (go_simp; done) | (go_simp; with_reducible rfl))
        try simp only [Act.put, qT, qZ, qS, qB, qY, qX]
        refine wpAnyH_take (i := 2) (v := ?_) rfl (by kernel_rfl) (by kernel_rfl) (by kernel_rfl) (fun _ _ _ h => h) (Or.inl ⟨by rfl, ?_⟩) (by assumption) ?_
        rotate_left
        · (intro w hSw; (try dsimp only at hSw); first | (go_simp; done) | (go_simp; with_reducible rfl))
        try simp only [Act.put, qT, qZ, qS, qB, qY, qX]
        refine wpAnyH_take (i := 3) (v := ?_) rfl (by kernel_rfl) (by kernel_rfl) (by kernel_rfl) (fun _ _ _ h => h) (Or.inl ⟨by rfl, ?_⟩) (by assumption) ?_
        rotate_left
        · (intro w hSw; (try dsimp only at hSw); first | (go_simp; done) | (go_simp; with_reducible rfl))
        try simp only [Act.put, qT, qZ, qS, qB, qY, qX]
        refine wpAnyH_take (i := 4) (v := ?_) rfl (by kernel_rfl) (by kernel_rfl) (by kernel_rfl) (fun _ _ _ h => h) (Or.inl ⟨by rfl, ?_⟩) (by assumption) ?_
        rotate_left
        · (intro w hSw; (try dsimp only at hSw); first | (go_simp; done) | (go_simp; with_reducible rfl))
        try simp only [Act.put, qT, qZ, qS, qB, qY, qX]
        refine wpAnyH_take (i := 5) (v := ?_) rfl (by kernel_rfl) (by kernel_rfl) (by kernel_rfl) (fun _ _ _ h => h) (Or.inl ⟨by rfl, ?_⟩) (by assumption) ?_
        rotate_left
        · (intro w hSw; (try dsimp only at hSw); first | (go_simp; done) | (go_simp; with_reducible rfl))
        try simp only [Act.put, qT, qZ, qS, qB, qY, qX]
        refine wpH_one (i := 6) (by kernel_rfl) rfl (fun K0 hK => ?_)
        clear HFin HCs HSt hHeld
        generalize VV.drew = W9 at *
        go_simp
        refine hK.out _ _ HC5.out (fun hHeld => ?_)
        clear hK K0
        try simp only [Act.put, qT, qZ, qS, qB, qY, qX]
        refine wpAnyH_take (i := 7) (v := ?_) rfl (by kernel_rfl) (by kernel_rfl) (by kernel_rfl) (fun _ _ _ h => h) (Or.inl ⟨by rfl, ?_⟩) (by assumption) ?_
        rotate_left
        · (intro w hSw; (try dsimp only at hSw); first | (go_simp; done) | (go_simp; with_reducible rfl))
        try simp only [Act.put, qT, qZ, qS, qB, qY, qX]
        refine wpAnyH_take (i := 8) (v := ?_) rfl (by kernel_rfl) (by kernel_rfl) (by kernel_rfl) (fun _ _ _ h => h) (Or.inl ⟨by rfl, ?_⟩) (by assumption) ?_
        rotate_left
        · (intro w hSw; (try dsimp only at hSw); first | (go_simp; done) | (go_simp; with_reducible rfl))
        try simp only [Act.put, qT, qZ, qS, qB, qY, qX]
        refine wpAnyH_done (by kernel_rfl) ?_ _
        clear hHeld
        go_wp2_with fail
        exact ret25 Tryz.results25 HB5.out rfl rfl rfl HF1.out
  · have hde : decide (stQ l k bad = some []) = false := decide_eq_false hend
    rw [hde]
    have HFin := mkHid (HNo.out (HLd.out.trans (fin1_no hend)))
    clear hde hend HNo
    go_wp2_with fail
    exact ret25 Tryz.results25 HFin.out.2 rfl rfl rfl HFin.out.1
end Go.Proofs.YtclkoffnjiiioaaGreatDoor
namespace Go.Proofs.YtclkoffnjiiioaaGreatDoor
open Go.RowKit
set_option linter.unusedVariables false
set_option linter.unusedSimpArgs false
attribute [local go_sem ↓] Go.wp_at_zero Go.wp_at_succ
theorem rsize_ok_at (m : Nat) (h1 : 1 ≤ m) (h2 : m ≤ 28) : (#[.int .i64 0, .int .i64 1, .int .i64 1, .int .i64 1, .int .i64 1, .int .i64 2, .int .i64 2, .int .i64 2, .int .i64 2, .int .i64 2, .int .i64 3, .int .i64 2, .int .i64 2, .int .i64 3, .int .i64 2, .int .i64 1, .int .i64 1, .int .i64 3, .int .i64 3, .int .i64 4, .int .i64 1, .int .i64 1, .int .i64 1, .int .i64 2, .int .i64 2, .int .i64 2, .int .i64 2, .int .i64 3, .int .i64 3] : Array Value)[m]? = some (.int .i64 ((1 + opd m : Nat) : Int)) := by
  rcases (show m = 1 ∨ m = 2 ∨ m = 3 ∨ m = 4 ∨ m = 5 ∨ m = 6 ∨ m = 7 ∨ m = 8 ∨ m = 9 ∨ m = 10 ∨ m = 11 ∨ m = 12 ∨ m = 13 ∨ m = 14 ∨ m = 15 ∨ m = 16 ∨ m = 17 ∨ m = 18 ∨ m = 19 ∨ m = 20 ∨ m = 21 ∨ m = 22 ∨ m = 23 ∨ m = 24 ∨ m = 25 ∨ m = 26 ∨ m = 27 ∨ m = 28 by omega) with rfl | rfl | rfl | rfl | rfl | rfl | rfl | rfl | rfl | rfl | rfl | rfl | rfl | rfl | rfl | rfl | rfl | rfl | rfl | rfl | rfl | rfl | rfl | rfl | rfl | rfl | rfl | rfl <;> rfl
set_option maxRecDepth 100000 in
set_option maxHeartbeats 8000000 in
theorem rsize_ok (m : Nat) (h1 : 1 ≤ m) (h2 : m ≤ 28) (W : World) : Calls Tryz.prog 48 #[.int .i64 (m : Int)] W fun e w' => e = .returned (.int .i64 ((1 + opd m : Nat) : Int)) ∧ Fr [] W w' := by
  have hix := rsize_ok_at m h1 h2
  obtain ⟨z, hz⟩ : ∃ z, z = (.int .i64 ((1 + opd m : Nat) : Int) : Value) := ⟨_, rfl⟩
  rw [← hz] at hix ⊢
  obtain ⟨V1, hV1⟩ : ∃ U, (W.alloc (.cells #[.int .i64 0, .int .i64 0, .int .i64 0, .int .i64 0, .int .i64 0, .int .i64 0, .int .i64 0, .int .i64 0, .int .i64 0, .int .i64 0, .int .i64 0, .int .i64 0, .int .i64 0, .int .i64 0, .int .i64 0, .int .i64 0, .int .i64 0, .int .i64 0, .int .i64 0, .int .i64 0, .int .i64 0, .int .i64 0, .int .i64 0, .int .i64 0, .int .i64 0, .int .i64 0, .int .i64 0, .int .i64 0, .int .i64 0] 120)).setRow W.heap.size #[.int .i64 0, .int .i64 1, .int .i64 1, .int .i64 1, .int .i64 1, .int .i64 2, .int .i64 2, .int .i64 2, .int .i64 2, .int .i64 2, .int .i64 3, .int .i64 2, .int .i64 2, .int .i64 3, .int .i64 2, .int .i64 1, .int .i64 1, .int .i64 3, .int .i64 3, .int .i64 4, .int .i64 1, .int .i64 1, .int .i64 1, .int .i64 2, .int .i64 2, .int .i64 2, .int .i64 2, .int .i64 3, .int .i64 3] = U := ⟨_, rfl⟩
  have hb : V1.heap[W.heap.size]? = some (.cells #[.int .i64 0, .int .i64 1, .int .i64 1, .int .i64 1, .int .i64 1, .int .i64 2, .int .i64 2, .int .i64 2, .int .i64 2, .int .i64 2, .int .i64 3, .int .i64 2, .int .i64 2, .int .i64 3, .int .i64 2, .int .i64 1, .int .i64 1, .int .i64 3, .int .i64 3, .int .i64 4, .int .i64 1, .int .i64 1, .int .i64 1, .int .i64 2, .int .i64 2, .int .i64 2, .int .i64 2, .int .i64 3, .int .i64 3] 120 (0, 0)) := by rw [← hV1]; exact setRow_heap _ _ _ _ _ _ (heap_alloc_new W _)
  have f1 : Fr [] W V1 := by rw [← hV1]; exact (Fr.alloc [] W _).sr (Nat.le_refl _) _
  have c0 : V1.cell? ⟨W.heap.size, m, none⟩ = some z := (cell_in hb m).trans hix
  have HF := mkHid f1
  have m0 : (0 : Int) ≤ (m : Int) := by omega
  have m1 : (m : Int) < 29 := by omega
  clear hix hz hb f1
  go_enter Tryz.func48, Tryz.ntmps48
  go_wp2_with (refine wpList_store_row rfl 120 _ _ rfl W.heap.size #[.int .i64 0, .int .i64 1, .int .i64 1, .int .i64 1, .int .i64 1, .int .i64 2, .int .i64 2, .int .i64 2, .int .i64 2, .int .i64 2, .int .i64 3, .int .i64 2, .int .i64 2, .int .i64 3, .int .i64 2, .int .i64 1, .int .i64 1, .int .i64 3, .int .i64 3, .int .i64 4, .int .i64 1, .int .i64 1, .int .i64 1, .int .i64 2, .int .i64 2, .int .i64 2, .int .i64 2, .int .i64 3, .int .i64 3] rfl rfl 120 _ (heap_alloc_new W _) (by kernel_rfl) rfl (by kernel_rfl) ?_)
  go_ret
  exact ⟨rfl, HF.out⟩
end Go.Proofs.YtclkoffnjiiioaaGreatDoor

