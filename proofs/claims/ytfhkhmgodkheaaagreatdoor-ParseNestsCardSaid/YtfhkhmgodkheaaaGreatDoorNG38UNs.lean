import Derived.Test.YtfhkhmgodkheaaaGreatDoorNG37TNs1
set_option linter.unusedSimpArgs false
set_option linter.unusedVariables false
namespace Go.Proofs.YtfhkhmgodkheaaaGreatDoor
open Go.RowKit Go.Maps
theorem ndm_all {w : World} {n : Nd} {d0 d1 d2 d3 d4 d5 d6 : Value} {ft : List Nat} (h : NdM w n (.agg #[d0, d1, d2, d3, d4, d5, d6]) ft) : (#[d0, d1, d2, d3, d4, d5, d6] : Array Value).all (·.oneCell') = true := by
 cases h with
 | mk h1 h2 h3 h4 =>
  obtain ⟨p1, c1, rfl⟩ := h1.slice
  obtain ⟨p2, c2, rfl⟩ := h2.slice
  obtain ⟨p3, c3, rfl⟩ := h3.slice
  kernel_rfl
theorem nest_src {w : World} {bl : Bool} {k : Nat} {t0 t1 t2 t3 t4 t5 : Value} {ft : List Nat} (h : SrM w (nestS bl k) (.agg #[t0, t1, t2, t3, t4, t5]) ft) :
  ∃ kb cp d0 d1 d2 d3 d4 d5 d6 f4, t5 = .slice (some ⟨kb, 0, none⟩) 1 cp ∧ 1 ≤ cp ∧ kb < w.heap.size ∧ (#[t0, t1, t2, t3, t4, t5] : Array Value).all (·.oneCell') = true ∧
   w.cell? ⟨kb, 0, none⟩ = some d0 ∧ w.cell? ⟨kb, 1, none⟩ = some d1 ∧ w.cell? ⟨kb, 2, none⟩ = some d2 ∧ w.cell? ⟨kb, 3, none⟩ = some d3 ∧ w.cell? ⟨kb, 4, none⟩ = some d4 ∧ w.cell? ⟨kb, 5, none⟩ = some d5 ∧ w.cell? ⟨kb, 6, none⟩ = some d6 ∧ NdM w (nestN bl k 0) (.agg #[d0, d1, d2, d3, d4, d5, d6]) f4 := by
 have hall := h.all.1
 obtain ⟨sn, sp, sb, f1, f2, f3, f4, xs, hv, rfl, r1, r2, r3, r4⟩ := h
 injection hv with hv
 injection hv with hv
 injection hv with _ hv
 injection hv with _ hv
 injection hv with _ hv
 injection hv with _ hv
 injection hv with _ hv
 injection hv with h5 _
 obtain ⟨g, cap, e, hc, hg, hl, hcs⟩ := row_cells r3 (by show 0 < 1; decide)
 have r4' : NdsM w [nestN bl k 0] xs f4 := r4
 cases r4' with
 | @cons n r c0 c1 c2 c3 c4 c5 c6 ys f5 f6 h1 h2 =>
  exact ⟨g, cap, c0, c1, c2, c3, c4, c5, c6, f5, h5.trans e, hc, hg, hall, hcs 0 (by simp), hcs 1 (by simp), hcs 2 (by simp), hcs 3 (by simp), hcs 4 (by simp), hcs 5 (by simp), hcs 6 (by simp), h1⟩
theorem nest_blk {w : World} {r j : Nat} {c0 c1 c2 c3 c4 c5 c6 : Value} {f : List Nat} (h : NdM w (nestN true (r + 1) j) (.agg #[c0, c1, c2, c3, c4, c5, c6]) f) :
  c0 = .int .i64 12 ∧ c3 = .int .i64 j ∧ ∃ g cq e0 e1 e2 e3 e4 e5 e6 f', c6 = .slice (some ⟨g, 0, none⟩) 1 cq ∧ 1 ≤ cq ∧ g < w.heap.size ∧
   w.cell? ⟨g, 0, none⟩ = some e0 ∧ w.cell? ⟨g, 1, none⟩ = some e1 ∧ w.cell? ⟨g, 2, none⟩ = some e2 ∧ w.cell? ⟨g, 3, none⟩ = some e3 ∧ w.cell? ⟨g, 4, none⟩ = some e4 ∧ w.cell? ⟨g, 5, none⟩ = some e5 ∧ w.cell? ⟨g, 6, none⟩ = some e6 ∧ NdM w (nestN true r (j + 1)) (.agg #[e0, e1, e2, e3, e4, e5, e6]) f' := by
 have h' : NdM w (.mk 12 [] 0 j [] [] [nestN true r (j + 1)]) (.agg #[c0, c1, c2, c3, c4, c5, c6]) f := h
 cases h' with
 | mk h1 h2 h3 h4 =>
  obtain ⟨g, cap, rfl, hc, hg, hl, hcs⟩ := row_cells h3 (by show 0 < 1; decide)
  cases h4 with
  | @cons n r c0 c1 c2 c3 c4 c5 c6 ys f5 f6 k1 k2 =>
   exact ⟨rfl, rfl, g, cap, c0, c1, c2, c3, c4, c5, c6, f5, rfl, hc, hg, hcs 0 (by simp), hcs 1 (by simp), hcs 2 (by simp), hcs 3 (by simp), hcs 4 (by simp), hcs 5 (by simp), hcs 6 (by simp), k1⟩
theorem nest_leaf {w : World} {p : Nat} {c0 c1 c2 c3 c4 c5 c6 : Value} {f : List Nat} (h : NdM w (.mk 6 [120] 0 p [] [] []) (.agg #[c0, c1, c2, c3, c4, c5, c6]) f) : c0 = .int .i64 6 ∧ c1 = .string (ba [120]) ∧ c3 = .int .i64 p := by
 cases h with
 | mk h1 h2 h3 h4 => exact ⟨rfl, rfl, rfl⟩
theorem nestN_false : ∀ r p, nestN false r p = .mk 6 [120] 0 (p + r) [] [] [] := by
 intro r
 induction r with
 | zero => intro p; rfl
 | succ r ih =>
  intro p
  show nestN false r (p + 1) = _
  rw [ih, show p + 1 + r = p + (r + 1) by omega]
theorem x_eq : ((ba [120]).toList == [120]) = true := by
 rw [tl_lst, lst_ba]
 decide
set_option maxHeartbeats 16000000 in
set_option maxRecDepth 1000000 in
theorem ng_true_p (n : Int) (k : Nat) (hm : n.tmod 40 = (k : Int)) (hk : k ≤ 24) (w : World) (hE : Env w) : Calls Tryz.prog 3 #[.int .i64 n, .bool true] w fun e w' => e = .returned (.bool true) ∧ Bl w w' := by
 have HK := mkHid (pknown_ok w hE)
 have HD := mkHid (fun V (bl : Bl w V) => doit_top (ba (nestL true k)) (some (nestS true k)) 0 0 V (hE.mono bl).tab (by rw [← lst_len, lst_ba, nestL_len]; omega) (by rw [lst_ba]; exact nest_good true k hk))
 have HSt : Hid (∀ i, (⟨#[91]⟩ : ByteArray) ++ ba (nestL true i) ++ ⟨#[93]⟩ = ba (nestL true (i + 1))) := mkHid (fun i => by
  rw [show (⟨#[91]⟩ : ByteArray) = ba [91] from rfl, show (⟨#[93]⟩ : ByteArray) = ba [93] from rfl, ba_app, ba_app]
  rfl)
 have HSz : Hid (∀ i, (ba (nestL true i)).size = 2 * i + 1) := mkHid (fun i => by rw [← lst_len, lst_ba, nestL_len])
 have q1 : ¬ (k : Int) < 0 := by omega
 have v1 : IntKind.i64.wrap ((k : Int) - 40 + 40) = (k : Int) := by rw [wrap_id _ (by omega) (by omega)]; omega
 have v2 : IntKind.i64.wrap ((k : Int) - 40) = (k : Int) - 40 := wrap_id _ (by omega) (by omega)
 have v3 : IntKind.i64.wrap (k : Int) = (k : Int) := wrap_id _ (by omega) (by omega)
 have hk3 : ¬ (24 : Int) < k := by omega
 clear hE
 go_enter Tryz.func3, Tryz.ntmps3
 go_wp2_with (go_at_call 9; refine HK.out.mono ?_; rintro e w1 ⟨rfl, b1⟩)
 go_loopw [9, 10] (fun s q wr => ∃ i : Nat, i ≤ k ∧ s = .string (ba (nestL true i)) ∧ q = .int .i64 i ∧ wr = w1) (fun _ q _ => k - (intOf q).toNat)
 case atStart => exact ⟨0, Nat.zero_le _, rfl, rfl, rfl⟩
 case round =>
  obtain ⟨i, hi, rfl, rfl, hwr⟩ := hrel
  have hwr2 := hwr.symm
  subst hwr2
  by_cases hin : i < k
  ·have hii : (i : Int) < k := by omega
   have hst := HSt.out i
   have hs1 := HSz.out i
   have hs2 : ((⟨#[91]⟩ : ByteArray) ++ ba (nestL true i)).size = 2 * i + 2 := by rw [ByteArray.size_append, hs1]; show 1 + _ = _; omega
   clear HSt HSz HK HD
   go_wp2_with fail
   all_goals first
    | (exfalso; omega)
    | (
     go_roundw
     case rel => exact ⟨i + 1, by omega, by first | rfl | rw [hst], by go_num, by first | rfl | trivial⟩
     case measure => simp [intOf]; omega)
  ·have hie : ¬ (i : Int) < k := by omega
   have hi2 : i = k := by omega
   subst hi2
   have HD1 := mkHid (HD.out w1 b1)
   clear HSt HSz HK HD
   go_wp2_with (first
    | (
     go_at_call 10; refine HD1.out.mono ?_; rintro e w2 ⟨b2, t0, t1, t2, t3, t4, t5, ft, rfl, hs, ha⟩
     obtain ⟨kb, cp, d0, d1, d2, d3, d4, d5, d6, f4, rfl, hcp, hkb, hall, g0, g1, g2, g3, g4, g5, g6, hN⟩ := nest_src hs
     have HAll := mkHid hall
     clear hs ha hall
     obtain ⟨W7, hW7⟩ : ∃ X, (w2.alloc (.cells #[.string ⟨#[]⟩, .int .i64 0, .int .i64 0, .slice none 0 0, .slice none 0 0, .slice none 0 0] 27)).alloc (.cells #[.int .i64 0, .int .i64 0] 30) = X := ⟨_, rfl⟩
     obtain ⟨b7, s7, h0, h1⟩ := two_boxes hW7
     have H0 : Hid (W7.heap[w2.heap.size]? = some (.cells #[.string ⟨#[]⟩, .int .i64 0, .int .i64 0, .slice none 0 0, .slice none 0 0, .slice none 0 0] 27 (0, 0))) := mkHid h0
     obtain ⟨W8, hW8⟩ : ∃ X, W7.setRow w2.heap.size #[t0, t1, t2, t3, t4, .slice (some ⟨kb, 0, none⟩) 1 cp] = X := ⟨_, rfl⟩
     have f8 : Fr [w2.heap.size] W7 W8 := hW8 ▸ row_fr _ _ _
     have H1 : Hid (W8.heap[w2.heap.size + 1]? = some (.cells #[.int .i64 0, .int .i64 0] 30 (0, 0))) := mkHid ((f8.block _ (lt_of_heap h1) (by simp)).trans h1)
     have k8 : W8.heap[w2.heap.size]? = some (.cells #[t0, t1, t2, t3, t4, .slice (some ⟨kb, 0, none⟩) 1 cp] 27 (0, 0)) := hW8 ▸ setRow_heap _ _ _ _ 27 (0, 0) H0.out
     obtain ⟨W9, hW9⟩ : ∃ X, W8.setRow (w2.heap.size + 1) #[.int .i64 0, .int .i64 0] = X := ⟨_, rfl⟩
     have f9 : Fr [w2.heap.size + 1] W8 W9 := hW9 ▸ row_fr _ _ _
     have n1 : W9.heap[w2.heap.size + 1]? = some (.cells #[.int .i64 0, .int .i64 0] 30 (0, 0)) := hW9 ▸ setRow_heap _ _ _ _ 30 (0, 0) H1.out
     have n0 := (f9.block _ (lt_of_heap k8) (by simp)).trans k8
     have B9 : Bl w2 W9 := ((((Fr.ofBl b7 []).trans f8 (by simp)).trans f9 (by simp)).bl (by simp))
     have y0 : W9.cell? ⟨w2.heap.size + 1, 0, none⟩ = some (.int .i64 0) := by (rw [cell_in n1]; rfl)
     have y3 : W9.cell? ⟨w2.heap.size, 5, none⟩ = some (.slice (some ⟨kb, 0, none⟩) 1 cp) := by (rw [cell_in n0]; rfl)
     have BZ := mkHid (b1.trans (b2.trans B9))
     have e9 : ∀ j, W9.cell? ⟨kb, j, none⟩ = w2.cell? ⟨kb, j, none⟩ := fun j => World.cell?_of_block (w := w2) (B9.block kb hkb)
     have z0 := (e9 0).trans g0
     have z1 := (e9 1).trans g1
     have z2 := (e9 2).trans g2
     have z3 := (e9 3).trans g3
     have z4 := (e9 4).trans g4
     have z5 := (e9 5).trans g5
     have z6 := (e9 6).trans g6
     have HN := mkHid (hN.keep (fun b hb => B9.block b (hN.lt b hb)))
     have HL := mkHid (NdM.lt (hN.keep (fun b hb => B9.block b (hN.lt b hb))))
     obtain ⟨WA, hWA⟩ : ∃ X, W9.alloc (.cells #[.int .i64 0, .string ⟨#[]⟩, .int .i64 0, .int .i64 0, .slice none 0 0, .slice none 0 0, .slice none 0 0] 34) = X := ⟨_, rfl⟩
     have bA : Bl W9 WA := hWA ▸ Bl.alloc _ _
     have HA : Hid (WA.heap[W9.heap.size]? = some (.cells #[.int .i64 0, .string ⟨#[]⟩, .int .i64 0, .int .i64 0, .slice none 0 0, .slice none 0 0, .slice none 0 0] 34 (0, 0))) := mkHid (hWA ▸ heap_alloc_new W9 _)
     obtain ⟨WB, hWB⟩ : ∃ X, WA.setRow W9.heap.size #[d0, d1, d2, d3, d4, d5, d6] = X := ⟨_, rfl⟩
     have fB : Fr [W9.heap.size] WA WB := hWB ▸ row_fr _ _ _
     have HB : Hid (WB.heap[W9.heap.size]? = some (.cells #[d0, d1, d2, d3, d4, d5, d6] 34 (0, 0))) := mkHid (hWB ▸ setRow_heap _ _ _ _ 34 (0, 0) HA.out)
     have BB : Hid (Bl W9 WB) := mkHid (((Fr.ofBl bA []).trans fB (by simp)).bl (by simp))
     have hD := mkHid (ndm_all HN.out)
     clear b7 s7 h0 h1 f8 f9 n1 n0 k8 B9 b2 g0 g1 g2 g3 g4 g5 g6 hN bA fB e9)
    | (refine wpList_store_row rfl 27 _ _ rfl w2.heap.size #[t0, t1, t2, t3, t4, .slice (some ⟨kb, 0, none⟩) 1 cp] rfl rfl 27 _ H0.out (by kernel_rfl) rfl HAll.out ?_; rw [hW8])
    | (refine wpList_store_row rfl 30 _ _ rfl (w2.heap.size + 1) #[.int .i64 0, .int .i64 0] rfl rfl 30 _ H1.out (by kernel_rfl) rfl (by kernel_rfl) ?_; rw [hW9])
    | (refine wpList_store_row rfl 34 _ _ rfl W9.heap.size #[d0, d1, d2, d3, d4, d5, d6] rfl rfl 34 _ HA.out (by kernel_rfl) rfl hD.out ?_; rw [hWB]))
   go_loopw [14] (fun q wr => ∃ j : Nat, j ≤ i ∧ q = .int .i64 j ∧ Bl W9 wr ∧ ∃ c0 c1 c2 c3 c4 c5 c6 f, wr.heap[W9.heap.size]? = some (.cells #[c0, c1, c2, c3, c4, c5, c6] 34 (0, 0)) ∧ NdM W9 (nestN true (i - j) j) (.agg #[c0, c1, c2, c3, c4, c5, c6]) f) (fun q _ => i - (intOf q).toNat)
   case atStart => exact ⟨0, Nat.zero_le _, rfl, BB.out, d0, d1, d2, d3, d4, d5, d6, f4, HB.out, HN.out⟩
   case round =>
    obtain ⟨j, hj, rfl, bw, c0, c1, c2, c3, c4, c5, c6, f, hc, hN2⟩ := hrel
    clear HN HL HB BB hD HAll H0 H1 HA HD1 y0 y3 z0 z1 z2 z3 z4 z5 z6
    by_cases hji : j < i
    ·obtain ⟨r, hr⟩ : ∃ r, i - j = r + 1 := ⟨i - j - 1, by omega⟩
     rw [hr] at hN2
     obtain ⟨rfl, rfl, g, cq, e0, e1, e2, e3, e4, e5, e6, f', rfl, hcq, hg, g0, g1, g2, g3, g4, g5, g6, hN3⟩ := nest_blk hN2
     have hji2 : (j : Int) < i := by omega
     have x0 : wr.cell? ⟨W9.heap.size, 0, none⟩ = some (.int .i64 12) := by rw [cell_in hc]; rfl
     have x3 : wr.cell? ⟨W9.heap.size, 3, none⟩ = some (.int .i64 j) := by rw [cell_in hc]; rfl
     have x6 : wr.cell? ⟨W9.heap.size, 6, none⟩ = some (.slice (some ⟨g, 0, none⟩) 1 cq) := by rw [cell_in hc]; rfl
     have e9 : ∀ m, wr.cell? ⟨g, m, none⟩ = W9.cell? ⟨g, m, none⟩ := fun m => World.cell?_of_block (w := W9) (bw.block g hg)
     have z0 := (e9 0).trans g0
     have z1 := (e9 1).trans g1
     have z2 := (e9 2).trans g2
     have z3 := (e9 3).trans g3
     have z4 := (e9 4).trans g4
     have z5 := (e9 5).trans g5
     have z6 := (e9 6).trans g6
     have hE6 := mkHid (ndm_all hN3)
     have HC := mkHid hc
     obtain ⟨WC, hWC⟩ : ∃ X, wr.setRow W9.heap.size #[e0, e1, e2, e3, e4, e5, e6] = X := ⟨_, rfl⟩
     have fC : Fr [W9.heap.size] wr WC := hWC ▸ row_fr _ _ _
     have HN4 := mkHid hN3
     have HK4 : Hid (WC.heap[W9.heap.size]? = some (.cells #[e0, e1, e2, e3, e4, e5, e6] 34 (0, 0))) := mkHid (hWC ▸ setRow_heap _ _ _ _ 34 (0, 0) hc)
     have BC : Hid (Bl W9 WC) := mkHid (((Fr.ofBl bw []).trans fC (by simp)).bl (by simp))
     clear e9 g0 g1 g2 g3 g4 g5 g6 hN3 hN2 hc fC bw
     go_wp2_with (first
      | (refine wpList_store_row rfl 34 _ _ rfl W9.heap.size #[e0, e1, e2, e3, e4, e5, e6] rfl rfl 34 _ HC.out (by kernel_rfl) rfl hE6.out ?_; rw [hWC]))
     all_goals first
      | (exfalso; omega)
      | (
       go_roundw
       case rel => exact ⟨j + 1, by omega, by go_num, BC.out, e0, e1, e2, e3, e4, e5, e6, f', HK4.out, by rw [show i - (j + 1) = r by omega]; exact HN4.out⟩
       case measure => simp [intOf]; omega)
    ·have hje : j = i := by omega
     subst hje
     rw [Nat.sub_self] at hN2
     obtain ⟨rfl, rfl, rfl⟩ := nest_leaf hN2
     have hji2 : ¬ (j : Int) < j := by omega
     have x0 : wr.cell? ⟨W9.heap.size, 0, none⟩ = some (.int .i64 6) := by rw [cell_in hc]; rfl
     have x1 : wr.cell? ⟨W9.heap.size, 1, none⟩ = some (.string (ba [120])) := by rw [cell_in hc]; rfl
     have x3 : wr.cell? ⟨W9.heap.size, 3, none⟩ = some (.int .i64 j) := by rw [cell_in hc]; rfl
     have hx := x_eq
     have BW := mkHid (BZ.out.trans bw)
     clear hc hN2 bw
     go_wp2_with fail
     go_ret
     exact ⟨rfl, BW.out⟩
set_option maxHeartbeats 16000000 in
set_option maxRecDepth 1000000 in
theorem ng_true_n (n : Int) (k : Nat) (hm : n.tmod 40 = (k : Int) - 40) (hk : k ≤ 24) (w : World) (hE : Env w) : Calls Tryz.prog 3 #[.int .i64 n, .bool true] w fun e w' => e = .returned (.bool true) ∧ Bl w w' := by
 have HK := mkHid (pknown_ok w hE)
 have HD := mkHid (fun V (bl : Bl w V) => doit_top (ba (nestL true k)) (some (nestS true k)) 0 0 V (hE.mono bl).tab (by rw [← lst_len, lst_ba, nestL_len]; omega) (by rw [lst_ba]; exact nest_good true k hk))
 have HSt : Hid (∀ i, (⟨#[91]⟩ : ByteArray) ++ ba (nestL true i) ++ ⟨#[93]⟩ = ba (nestL true (i + 1))) := mkHid (fun i => by
  rw [show (⟨#[91]⟩ : ByteArray) = ba [91] from rfl, show (⟨#[93]⟩ : ByteArray) = ba [93] from rfl, ba_app, ba_app]
  rfl)
 have HSz : Hid (∀ i, (ba (nestL true i)).size = 2 * i + 1) := mkHid (fun i => by rw [← lst_len, lst_ba, nestL_len])
 have q1 : (k : Int) - 40 < 0 := by omega
 have v1 : IntKind.i64.wrap ((k : Int) - 40 + 40) = (k : Int) := by rw [wrap_id _ (by omega) (by omega)]; omega
 have v2 : IntKind.i64.wrap ((k : Int) - 40) = (k : Int) - 40 := wrap_id _ (by omega) (by omega)
 have v3 : IntKind.i64.wrap (k : Int) = (k : Int) := wrap_id _ (by omega) (by omega)
 have hk3 : ¬ (24 : Int) < k := by omega
 clear hE
 go_enter Tryz.func3, Tryz.ntmps3
 go_wp2_with (go_at_call 9; refine HK.out.mono ?_; rintro e w1 ⟨rfl, b1⟩)
 go_loopw [9, 10] (fun s q wr => ∃ i : Nat, i ≤ k ∧ s = .string (ba (nestL true i)) ∧ q = .int .i64 i ∧ wr = w1) (fun _ q _ => k - (intOf q).toNat)
 case atStart => exact ⟨0, Nat.zero_le _, rfl, rfl, rfl⟩
 case round =>
  obtain ⟨i, hi, rfl, rfl, hwr⟩ := hrel
  have hwr2 := hwr.symm
  subst hwr2
  by_cases hin : i < k
  ·have hii : (i : Int) < k := by omega
   have hst := HSt.out i
   have hs1 := HSz.out i
   have hs2 : ((⟨#[91]⟩ : ByteArray) ++ ba (nestL true i)).size = 2 * i + 2 := by rw [ByteArray.size_append, hs1]; show 1 + _ = _; omega
   clear HSt HSz HK HD
   go_wp2_with fail
   all_goals first
    | (exfalso; omega)
    | (
     go_roundw
     case rel => exact ⟨i + 1, by omega, by first | rfl | rw [hst], by go_num, by first | rfl | trivial⟩
     case measure => simp [intOf]; omega)
  ·have hie : ¬ (i : Int) < k := by omega
   have hi2 : i = k := by omega
   subst hi2
   have HD1 := mkHid (HD.out w1 b1)
   clear HSt HSz HK HD
   go_wp2_with (first
    | (
     go_at_call 10; refine HD1.out.mono ?_; rintro e w2 ⟨b2, t0, t1, t2, t3, t4, t5, ft, rfl, hs, ha⟩
     obtain ⟨kb, cp, d0, d1, d2, d3, d4, d5, d6, f4, rfl, hcp, hkb, hall, g0, g1, g2, g3, g4, g5, g6, hN⟩ := nest_src hs
     have HAll := mkHid hall
     clear hs ha hall
     obtain ⟨W7, hW7⟩ : ∃ X, (w2.alloc (.cells #[.string ⟨#[]⟩, .int .i64 0, .int .i64 0, .slice none 0 0, .slice none 0 0, .slice none 0 0] 27)).alloc (.cells #[.int .i64 0, .int .i64 0] 30) = X := ⟨_, rfl⟩
     obtain ⟨b7, s7, h0, h1⟩ := two_boxes hW7
     have H0 : Hid (W7.heap[w2.heap.size]? = some (.cells #[.string ⟨#[]⟩, .int .i64 0, .int .i64 0, .slice none 0 0, .slice none 0 0, .slice none 0 0] 27 (0, 0))) := mkHid h0
     obtain ⟨W8, hW8⟩ : ∃ X, W7.setRow w2.heap.size #[t0, t1, t2, t3, t4, .slice (some ⟨kb, 0, none⟩) 1 cp] = X := ⟨_, rfl⟩
     have f8 : Fr [w2.heap.size] W7 W8 := hW8 ▸ row_fr _ _ _
     have H1 : Hid (W8.heap[w2.heap.size + 1]? = some (.cells #[.int .i64 0, .int .i64 0] 30 (0, 0))) := mkHid ((f8.block _ (lt_of_heap h1) (by simp)).trans h1)
     have k8 : W8.heap[w2.heap.size]? = some (.cells #[t0, t1, t2, t3, t4, .slice (some ⟨kb, 0, none⟩) 1 cp] 27 (0, 0)) := hW8 ▸ setRow_heap _ _ _ _ 27 (0, 0) H0.out
     obtain ⟨W9, hW9⟩ : ∃ X, W8.setRow (w2.heap.size + 1) #[.int .i64 0, .int .i64 0] = X := ⟨_, rfl⟩
     have f9 : Fr [w2.heap.size + 1] W8 W9 := hW9 ▸ row_fr _ _ _
     have n1 : W9.heap[w2.heap.size + 1]? = some (.cells #[.int .i64 0, .int .i64 0] 30 (0, 0)) := hW9 ▸ setRow_heap _ _ _ _ 30 (0, 0) H1.out
     have n0 := (f9.block _ (lt_of_heap k8) (by simp)).trans k8
     have B9 : Bl w2 W9 := ((((Fr.ofBl b7 []).trans f8 (by simp)).trans f9 (by simp)).bl (by simp))
     have y0 : W9.cell? ⟨w2.heap.size + 1, 0, none⟩ = some (.int .i64 0) := by (rw [cell_in n1]; rfl)
     have y3 : W9.cell? ⟨w2.heap.size, 5, none⟩ = some (.slice (some ⟨kb, 0, none⟩) 1 cp) := by (rw [cell_in n0]; rfl)
     have BZ := mkHid (b1.trans (b2.trans B9))
     have e9 : ∀ j, W9.cell? ⟨kb, j, none⟩ = w2.cell? ⟨kb, j, none⟩ := fun j => World.cell?_of_block (w := w2) (B9.block kb hkb)
     have z0 := (e9 0).trans g0
     have z1 := (e9 1).trans g1
     have z2 := (e9 2).trans g2
     have z3 := (e9 3).trans g3
     have z4 := (e9 4).trans g4
     have z5 := (e9 5).trans g5
     have z6 := (e9 6).trans g6
     have HN := mkHid (hN.keep (fun b hb => B9.block b (hN.lt b hb)))
     have HL := mkHid (NdM.lt (hN.keep (fun b hb => B9.block b (hN.lt b hb))))
     obtain ⟨WA, hWA⟩ : ∃ X, W9.alloc (.cells #[.int .i64 0, .string ⟨#[]⟩, .int .i64 0, .int .i64 0, .slice none 0 0, .slice none 0 0, .slice none 0 0] 34) = X := ⟨_, rfl⟩
     have bA : Bl W9 WA := hWA ▸ Bl.alloc _ _
     have HA : Hid (WA.heap[W9.heap.size]? = some (.cells #[.int .i64 0, .string ⟨#[]⟩, .int .i64 0, .int .i64 0, .slice none 0 0, .slice none 0 0, .slice none 0 0] 34 (0, 0))) := mkHid (hWA ▸ heap_alloc_new W9 _)
     obtain ⟨WB, hWB⟩ : ∃ X, WA.setRow W9.heap.size #[d0, d1, d2, d3, d4, d5, d6] = X := ⟨_, rfl⟩
     have fB : Fr [W9.heap.size] WA WB := hWB ▸ row_fr _ _ _
     have HB : Hid (WB.heap[W9.heap.size]? = some (.cells #[d0, d1, d2, d3, d4, d5, d6] 34 (0, 0))) := mkHid (hWB ▸ setRow_heap _ _ _ _ 34 (0, 0) HA.out)
     have BB : Hid (Bl W9 WB) := mkHid (((Fr.ofBl bA []).trans fB (by simp)).bl (by simp))
     have hD := mkHid (ndm_all HN.out)
     clear b7 s7 h0 h1 f8 f9 n1 n0 k8 B9 b2 g0 g1 g2 g3 g4 g5 g6 hN bA fB e9)
    | (refine wpList_store_row rfl 27 _ _ rfl w2.heap.size #[t0, t1, t2, t3, t4, .slice (some ⟨kb, 0, none⟩) 1 cp] rfl rfl 27 _ H0.out (by kernel_rfl) rfl HAll.out ?_; rw [hW8])
    | (refine wpList_store_row rfl 30 _ _ rfl (w2.heap.size + 1) #[.int .i64 0, .int .i64 0] rfl rfl 30 _ H1.out (by kernel_rfl) rfl (by kernel_rfl) ?_; rw [hW9])
    | (refine wpList_store_row rfl 34 _ _ rfl W9.heap.size #[d0, d1, d2, d3, d4, d5, d6] rfl rfl 34 _ HA.out (by kernel_rfl) rfl hD.out ?_; rw [hWB]))
   go_loopw [14] (fun q wr => ∃ j : Nat, j ≤ i ∧ q = .int .i64 j ∧ Bl W9 wr ∧ ∃ c0 c1 c2 c3 c4 c5 c6 f, wr.heap[W9.heap.size]? = some (.cells #[c0, c1, c2, c3, c4, c5, c6] 34 (0, 0)) ∧ NdM W9 (nestN true (i - j) j) (.agg #[c0, c1, c2, c3, c4, c5, c6]) f) (fun q _ => i - (intOf q).toNat)
   case atStart => exact ⟨0, Nat.zero_le _, rfl, BB.out, d0, d1, d2, d3, d4, d5, d6, f4, HB.out, HN.out⟩
   case round =>
    obtain ⟨j, hj, rfl, bw, c0, c1, c2, c3, c4, c5, c6, f, hc, hN2⟩ := hrel
    clear HN HL HB BB hD HAll H0 H1 HA HD1 y0 y3 z0 z1 z2 z3 z4 z5 z6
    by_cases hji : j < i
    ·obtain ⟨r, hr⟩ : ∃ r, i - j = r + 1 := ⟨i - j - 1, by omega⟩
     rw [hr] at hN2
     obtain ⟨rfl, rfl, g, cq, e0, e1, e2, e3, e4, e5, e6, f', rfl, hcq, hg, g0, g1, g2, g3, g4, g5, g6, hN3⟩ := nest_blk hN2
     have hji2 : (j : Int) < i := by omega
     have x0 : wr.cell? ⟨W9.heap.size, 0, none⟩ = some (.int .i64 12) := by rw [cell_in hc]; rfl
     have x3 : wr.cell? ⟨W9.heap.size, 3, none⟩ = some (.int .i64 j) := by rw [cell_in hc]; rfl
     have x6 : wr.cell? ⟨W9.heap.size, 6, none⟩ = some (.slice (some ⟨g, 0, none⟩) 1 cq) := by rw [cell_in hc]; rfl
     have e9 : ∀ m, wr.cell? ⟨g, m, none⟩ = W9.cell? ⟨g, m, none⟩ := fun m => World.cell?_of_block (w := W9) (bw.block g hg)
     have z0 := (e9 0).trans g0
     have z1 := (e9 1).trans g1
     have z2 := (e9 2).trans g2
     have z3 := (e9 3).trans g3
     have z4 := (e9 4).trans g4
     have z5 := (e9 5).trans g5
     have z6 := (e9 6).trans g6
     have hE6 := mkHid (ndm_all hN3)
     have HC := mkHid hc
     obtain ⟨WC, hWC⟩ : ∃ X, wr.setRow W9.heap.size #[e0, e1, e2, e3, e4, e5, e6] = X := ⟨_, rfl⟩
     have fC : Fr [W9.heap.size] wr WC := hWC ▸ row_fr _ _ _
     have HN4 := mkHid hN3
     have HK4 : Hid (WC.heap[W9.heap.size]? = some (.cells #[e0, e1, e2, e3, e4, e5, e6] 34 (0, 0))) := mkHid (hWC ▸ setRow_heap _ _ _ _ 34 (0, 0) hc)
     have BC : Hid (Bl W9 WC) := mkHid (((Fr.ofBl bw []).trans fC (by simp)).bl (by simp))
     clear e9 g0 g1 g2 g3 g4 g5 g6 hN3 hN2 hc fC bw
     go_wp2_with (first
      | (refine wpList_store_row rfl 34 _ _ rfl W9.heap.size #[e0, e1, e2, e3, e4, e5, e6] rfl rfl 34 _ HC.out (by kernel_rfl) rfl hE6.out ?_; rw [hWC]))
     all_goals first
      | (exfalso; omega)
      | (
       go_roundw
       case rel => exact ⟨j + 1, by omega, by go_num, BC.out, e0, e1, e2, e3, e4, e5, e6, f', HK4.out, by rw [show i - (j + 1) = r by omega]; exact HN4.out⟩
       case measure => simp [intOf]; omega)
    ·have hje : j = i := by omega
     subst hje
     rw [Nat.sub_self] at hN2
     obtain ⟨rfl, rfl, rfl⟩ := nest_leaf hN2
     have hji2 : ¬ (j : Int) < j := by omega
     have x0 : wr.cell? ⟨W9.heap.size, 0, none⟩ = some (.int .i64 6) := by rw [cell_in hc]; rfl
     have x1 : wr.cell? ⟨W9.heap.size, 1, none⟩ = some (.string (ba [120])) := by rw [cell_in hc]; rfl
     have x3 : wr.cell? ⟨W9.heap.size, 3, none⟩ = some (.int .i64 j) := by rw [cell_in hc]; rfl
     have hx := x_eq
     have BW := mkHid (BZ.out.trans bw)
     clear hc hN2 bw
     go_wp2_with fail
     go_ret
     exact ⟨rfl, BW.out⟩
set_option maxHeartbeats 16000000 in
set_option maxRecDepth 1000000 in
theorem ng_false_p (n : Int) (k : Nat) (hm : n.tmod 40 = (k : Int)) (hk : k ≤ 24) (w : World) (hE : Env w) : Calls Tryz.prog 3 #[.int .i64 n, .bool false] w fun e w' => e = .returned (.bool true) ∧ Bl w w' := by
 have HK := mkHid (pknown_ok w hE)
 have HD := mkHid (fun V (bl : Bl w V) => doit_top (ba (nestL false k)) (some (nestS false k)) 0 0 V (hE.mono bl).tab (by rw [← lst_len, lst_ba, nestL_len]; omega) (by rw [lst_ba]; exact nest_good false k hk))
 have HSt : Hid (∀ i, (⟨#[40]⟩ : ByteArray) ++ ba (nestL false i) ++ ⟨#[41]⟩ = ba (nestL false (i + 1))) := mkHid (fun i => by
  rw [show (⟨#[40]⟩ : ByteArray) = ba [40] from rfl, show (⟨#[41]⟩ : ByteArray) = ba [41] from rfl, ba_app, ba_app]
  rfl)
 have HSz : Hid (∀ i, (ba (nestL false i)).size = 2 * i + 1) := mkHid (fun i => by rw [← lst_len, lst_ba, nestL_len])
 have q1 : ¬ (k : Int) < 0 := by omega
 have v1 : IntKind.i64.wrap ((k : Int) - 40 + 40) = (k : Int) := by rw [wrap_id _ (by omega) (by omega)]; omega
 have v2 : IntKind.i64.wrap ((k : Int) - 40) = (k : Int) - 40 := wrap_id _ (by omega) (by omega)
 have v3 : IntKind.i64.wrap (k : Int) = (k : Int) := wrap_id _ (by omega) (by omega)
 have hk3 : ¬ (24 : Int) < k := by omega
 clear hE
 go_enter Tryz.func3, Tryz.ntmps3
 go_wp2_with (go_at_call 9; refine HK.out.mono ?_; rintro e w1 ⟨rfl, b1⟩)
 go_loopw [9, 10] (fun s q wr => ∃ i : Nat, i ≤ k ∧ s = .string (ba (nestL false i)) ∧ q = .int .i64 i ∧ wr = w1) (fun _ q _ => k - (intOf q).toNat)
 case atStart => exact ⟨0, Nat.zero_le _, rfl, rfl, rfl⟩
 case round =>
  obtain ⟨i, hi, rfl, rfl, hwr⟩ := hrel
  have hwr2 := hwr.symm
  subst hwr2
  by_cases hin : i < k
  ·have hii : (i : Int) < k := by omega
   have hst := HSt.out i
   have hs1 := HSz.out i
   have hs2 : ((⟨#[40]⟩ : ByteArray) ++ ba (nestL false i)).size = 2 * i + 2 := by rw [ByteArray.size_append, hs1]; show 1 + _ = _; omega
   clear HSt HSz HK HD
   go_wp2_with fail
   all_goals first
    | (exfalso; omega)
    | (
     go_roundw
     case rel => exact ⟨i + 1, by omega, by first | rfl | rw [hst], by go_num, by first | rfl | trivial⟩
     case measure => simp [intOf]; omega)
  ·have hie : ¬ (i : Int) < k := by omega
   have hi2 : i = k := by omega
   subst hi2
   have HD1 := mkHid (HD.out w1 b1)
   clear HSt HSz HK HD
   go_wp2_with (first
    | (
     go_at_call 10; refine HD1.out.mono ?_; rintro e w2 ⟨b2, t0, t1, t2, t3, t4, t5, ft, rfl, hs, ha⟩
     obtain ⟨kb, cp, d0, d1, d2, d3, d4, d5, d6, f4, rfl, hcp, hkb, hall, g0, g1, g2, g3, g4, g5, g6, hN⟩ := nest_src hs
     have HAll := mkHid hall
     clear hs ha hall
     obtain ⟨W7, hW7⟩ : ∃ X, (w2.alloc (.cells #[.string ⟨#[]⟩, .int .i64 0, .int .i64 0, .slice none 0 0, .slice none 0 0, .slice none 0 0] 27)).alloc (.cells #[.int .i64 0, .int .i64 0] 30) = X := ⟨_, rfl⟩
     obtain ⟨b7, s7, h0, h1⟩ := two_boxes hW7
     have H0 : Hid (W7.heap[w2.heap.size]? = some (.cells #[.string ⟨#[]⟩, .int .i64 0, .int .i64 0, .slice none 0 0, .slice none 0 0, .slice none 0 0] 27 (0, 0))) := mkHid h0
     obtain ⟨W8, hW8⟩ : ∃ X, W7.setRow w2.heap.size #[t0, t1, t2, t3, t4, .slice (some ⟨kb, 0, none⟩) 1 cp] = X := ⟨_, rfl⟩
     have f8 : Fr [w2.heap.size] W7 W8 := hW8 ▸ row_fr _ _ _
     have H1 : Hid (W8.heap[w2.heap.size + 1]? = some (.cells #[.int .i64 0, .int .i64 0] 30 (0, 0))) := mkHid ((f8.block _ (lt_of_heap h1) (by simp)).trans h1)
     have k8 : W8.heap[w2.heap.size]? = some (.cells #[t0, t1, t2, t3, t4, .slice (some ⟨kb, 0, none⟩) 1 cp] 27 (0, 0)) := hW8 ▸ setRow_heap _ _ _ _ 27 (0, 0) H0.out
     obtain ⟨W9, hW9⟩ : ∃ X, W8.setRow (w2.heap.size + 1) #[.int .i64 0, .int .i64 0] = X := ⟨_, rfl⟩
     have f9 : Fr [w2.heap.size + 1] W8 W9 := hW9 ▸ row_fr _ _ _
     have n1 : W9.heap[w2.heap.size + 1]? = some (.cells #[.int .i64 0, .int .i64 0] 30 (0, 0)) := hW9 ▸ setRow_heap _ _ _ _ 30 (0, 0) H1.out
     have n0 := (f9.block _ (lt_of_heap k8) (by simp)).trans k8
     have B9 : Bl w2 W9 := ((((Fr.ofBl b7 []).trans f8 (by simp)).trans f9 (by simp)).bl (by simp))
     have y0 : W9.cell? ⟨w2.heap.size + 1, 0, none⟩ = some (.int .i64 0) := by (rw [cell_in n1]; rfl)
     have y3 : W9.cell? ⟨w2.heap.size, 5, none⟩ = some (.slice (some ⟨kb, 0, none⟩) 1 cp) := by (rw [cell_in n0]; rfl)
     have BZ := mkHid (b1.trans (b2.trans B9))
     have e9 : ∀ j, W9.cell? ⟨kb, j, none⟩ = w2.cell? ⟨kb, j, none⟩ := fun j => World.cell?_of_block (w := w2) (B9.block kb hkb)
     have z0 := (e9 0).trans g0
     have z1 := (e9 1).trans g1
     have z2 := (e9 2).trans g2
     have z3 := (e9 3).trans g3
     have z4 := (e9 4).trans g4
     have z5 := (e9 5).trans g5
     have z6 := (e9 6).trans g6
     have HN := mkHid (hN.keep (fun b hb => B9.block b (hN.lt b hb)))
     have HL := mkHid (NdM.lt (hN.keep (fun b hb => B9.block b (hN.lt b hb))))
     obtain ⟨WA, hWA⟩ : ∃ X, W9.alloc (.cells #[.int .i64 0, .string ⟨#[]⟩, .int .i64 0, .int .i64 0, .slice none 0 0, .slice none 0 0, .slice none 0 0] 34) = X := ⟨_, rfl⟩
     have bA : Bl W9 WA := hWA ▸ Bl.alloc _ _
     have HA : Hid (WA.heap[W9.heap.size]? = some (.cells #[.int .i64 0, .string ⟨#[]⟩, .int .i64 0, .int .i64 0, .slice none 0 0, .slice none 0 0, .slice none 0 0] 34 (0, 0))) := mkHid (hWA ▸ heap_alloc_new W9 _)
     obtain ⟨WB, hWB⟩ : ∃ X, WA.setRow W9.heap.size #[d0, d1, d2, d3, d4, d5, d6] = X := ⟨_, rfl⟩
     have fB : Fr [W9.heap.size] WA WB := hWB ▸ row_fr _ _ _
     have HB : Hid (WB.heap[W9.heap.size]? = some (.cells #[d0, d1, d2, d3, d4, d5, d6] 34 (0, 0))) := mkHid (hWB ▸ setRow_heap _ _ _ _ 34 (0, 0) HA.out)
     have BB : Hid (Bl W9 WB) := mkHid (((Fr.ofBl bA []).trans fB (by simp)).bl (by simp))
     have hD := mkHid (ndm_all HN.out)
     clear b7 s7 h0 h1 f8 f9 n1 n0 k8 B9 b2 g0 g1 g2 g3 g4 g5 g6 hN bA fB e9)
    | (refine wpList_store_row rfl 27 _ _ rfl w2.heap.size #[t0, t1, t2, t3, t4, .slice (some ⟨kb, 0, none⟩) 1 cp] rfl rfl 27 _ H0.out (by kernel_rfl) rfl HAll.out ?_; rw [hW8])
    | (refine wpList_store_row rfl 30 _ _ rfl (w2.heap.size + 1) #[.int .i64 0, .int .i64 0] rfl rfl 30 _ H1.out (by kernel_rfl) rfl (by kernel_rfl) ?_; rw [hW9])
    | (refine wpList_store_row rfl 34 _ _ rfl W9.heap.size #[d0, d1, d2, d3, d4, d5, d6] rfl rfl 34 _ HA.out (by kernel_rfl) rfl hD.out ?_; rw [hWB]))
   go_loopw [14] (fun q wr => q = .int .i64 0 ∧ wr = WB) (fun q _ => 0)
   case atStart => exact ⟨rfl, rfl⟩
   case round =>
    obtain ⟨rfl, hwr⟩ := hrel
    have hwr2 := hwr.symm
    subst hwr2
    have hN2 := HN.out
    rw [nestN_false] at hN2
    have hc := HB.out
    obtain ⟨rfl, rfl, rfl⟩ := nest_leaf hN2
    have x0 : WB.cell? ⟨W9.heap.size, 0, none⟩ = some (.int .i64 6) := by rw [cell_in hc]; rfl
    have x1 : WB.cell? ⟨W9.heap.size, 1, none⟩ = some (.string (ba [120])) := by rw [cell_in hc]; rfl
    have x3 : WB.cell? ⟨W9.heap.size, 3, none⟩ = some (.int .i64 ((0 + i : Nat) : Int)) := by rw [cell_in hc]; rfl
    rw [Nat.zero_add] at x3
    have hx := x_eq
    have BW := mkHid (BZ.out.trans BB.out)
    clear hN2 hc HN HL HB BB hD HAll H0 H1 HA HD1 y0 y3 z0 z1 z2 z3 z4 z5 z6
    by_cases h0 : 0 < i
    ·have h0' : (0 : Int) < i := by omega
     clear h0
     go_wp2_with fail
     go_ret
     exact ⟨rfl, BW.out⟩
    ·have h0' : ¬ (0 : Int) < i := by omega
     clear h0
     go_wp2_with fail
     go_ret
     exact ⟨rfl, BW.out⟩
set_option maxHeartbeats 16000000 in
set_option maxRecDepth 1000000 in
theorem ng_false_n (n : Int) (k : Nat) (hm : n.tmod 40 = (k : Int) - 40) (hk : k ≤ 24) (w : World) (hE : Env w) : Calls Tryz.prog 3 #[.int .i64 n, .bool false] w fun e w' => e = .returned (.bool true) ∧ Bl w w' := by
 have HK := mkHid (pknown_ok w hE)
 have HD := mkHid (fun V (bl : Bl w V) => doit_top (ba (nestL false k)) (some (nestS false k)) 0 0 V (hE.mono bl).tab (by rw [← lst_len, lst_ba, nestL_len]; omega) (by rw [lst_ba]; exact nest_good false k hk))
 have HSt : Hid (∀ i, (⟨#[40]⟩ : ByteArray) ++ ba (nestL false i) ++ ⟨#[41]⟩ = ba (nestL false (i + 1))) := mkHid (fun i => by
  rw [show (⟨#[40]⟩ : ByteArray) = ba [40] from rfl, show (⟨#[41]⟩ : ByteArray) = ba [41] from rfl, ba_app, ba_app]
  rfl)
 have HSz : Hid (∀ i, (ba (nestL false i)).size = 2 * i + 1) := mkHid (fun i => by rw [← lst_len, lst_ba, nestL_len])
 have q1 : (k : Int) - 40 < 0 := by omega
 have v1 : IntKind.i64.wrap ((k : Int) - 40 + 40) = (k : Int) := by rw [wrap_id _ (by omega) (by omega)]; omega
 have v2 : IntKind.i64.wrap ((k : Int) - 40) = (k : Int) - 40 := wrap_id _ (by omega) (by omega)
 have v3 : IntKind.i64.wrap (k : Int) = (k : Int) := wrap_id _ (by omega) (by omega)
 have hk3 : ¬ (24 : Int) < k := by omega
 clear hE
 go_enter Tryz.func3, Tryz.ntmps3
 go_wp2_with (go_at_call 9; refine HK.out.mono ?_; rintro e w1 ⟨rfl, b1⟩)
 go_loopw [9, 10] (fun s q wr => ∃ i : Nat, i ≤ k ∧ s = .string (ba (nestL false i)) ∧ q = .int .i64 i ∧ wr = w1) (fun _ q _ => k - (intOf q).toNat)
 case atStart => exact ⟨0, Nat.zero_le _, rfl, rfl, rfl⟩
 case round =>
  obtain ⟨i, hi, rfl, rfl, hwr⟩ := hrel
  have hwr2 := hwr.symm
  subst hwr2
  by_cases hin : i < k
  ·have hii : (i : Int) < k := by omega
   have hst := HSt.out i
   have hs1 := HSz.out i
   have hs2 : ((⟨#[40]⟩ : ByteArray) ++ ba (nestL false i)).size = 2 * i + 2 := by rw [ByteArray.size_append, hs1]; show 1 + _ = _; omega
   clear HSt HSz HK HD
   go_wp2_with fail
   all_goals first
    | (exfalso; omega)
    | (
     go_roundw
     case rel => exact ⟨i + 1, by omega, by first | rfl | rw [hst], by go_num, by first | rfl | trivial⟩
     case measure => simp [intOf]; omega)
  ·have hie : ¬ (i : Int) < k := by omega
   have hi2 : i = k := by omega
   subst hi2
   have HD1 := mkHid (HD.out w1 b1)
   clear HSt HSz HK HD
   go_wp2_with (first
    | (
     go_at_call 10; refine HD1.out.mono ?_; rintro e w2 ⟨b2, t0, t1, t2, t3, t4, t5, ft, rfl, hs, ha⟩
     obtain ⟨kb, cp, d0, d1, d2, d3, d4, d5, d6, f4, rfl, hcp, hkb, hall, g0, g1, g2, g3, g4, g5, g6, hN⟩ := nest_src hs
     have HAll := mkHid hall
     clear hs ha hall
     obtain ⟨W7, hW7⟩ : ∃ X, (w2.alloc (.cells #[.string ⟨#[]⟩, .int .i64 0, .int .i64 0, .slice none 0 0, .slice none 0 0, .slice none 0 0] 27)).alloc (.cells #[.int .i64 0, .int .i64 0] 30) = X := ⟨_, rfl⟩
     obtain ⟨b7, s7, h0, h1⟩ := two_boxes hW7
     have H0 : Hid (W7.heap[w2.heap.size]? = some (.cells #[.string ⟨#[]⟩, .int .i64 0, .int .i64 0, .slice none 0 0, .slice none 0 0, .slice none 0 0] 27 (0, 0))) := mkHid h0
     obtain ⟨W8, hW8⟩ : ∃ X, W7.setRow w2.heap.size #[t0, t1, t2, t3, t4, .slice (some ⟨kb, 0, none⟩) 1 cp] = X := ⟨_, rfl⟩
     have f8 : Fr [w2.heap.size] W7 W8 := hW8 ▸ row_fr _ _ _
     have H1 : Hid (W8.heap[w2.heap.size + 1]? = some (.cells #[.int .i64 0, .int .i64 0] 30 (0, 0))) := mkHid ((f8.block _ (lt_of_heap h1) (by simp)).trans h1)
     have k8 : W8.heap[w2.heap.size]? = some (.cells #[t0, t1, t2, t3, t4, .slice (some ⟨kb, 0, none⟩) 1 cp] 27 (0, 0)) := hW8 ▸ setRow_heap _ _ _ _ 27 (0, 0) H0.out
     obtain ⟨W9, hW9⟩ : ∃ X, W8.setRow (w2.heap.size + 1) #[.int .i64 0, .int .i64 0] = X := ⟨_, rfl⟩
     have f9 : Fr [w2.heap.size + 1] W8 W9 := hW9 ▸ row_fr _ _ _
     have n1 : W9.heap[w2.heap.size + 1]? = some (.cells #[.int .i64 0, .int .i64 0] 30 (0, 0)) := hW9 ▸ setRow_heap _ _ _ _ 30 (0, 0) H1.out
     have n0 := (f9.block _ (lt_of_heap k8) (by simp)).trans k8
     have B9 : Bl w2 W9 := ((((Fr.ofBl b7 []).trans f8 (by simp)).trans f9 (by simp)).bl (by simp))
     have y0 : W9.cell? ⟨w2.heap.size + 1, 0, none⟩ = some (.int .i64 0) := by (rw [cell_in n1]; rfl)
     have y3 : W9.cell? ⟨w2.heap.size, 5, none⟩ = some (.slice (some ⟨kb, 0, none⟩) 1 cp) := by (rw [cell_in n0]; rfl)
     have BZ := mkHid (b1.trans (b2.trans B9))
     have e9 : ∀ j, W9.cell? ⟨kb, j, none⟩ = w2.cell? ⟨kb, j, none⟩ := fun j => World.cell?_of_block (w := w2) (B9.block kb hkb)
     have z0 := (e9 0).trans g0
     have z1 := (e9 1).trans g1
     have z2 := (e9 2).trans g2
     have z3 := (e9 3).trans g3
     have z4 := (e9 4).trans g4
     have z5 := (e9 5).trans g5
     have z6 := (e9 6).trans g6
     have HN := mkHid (hN.keep (fun b hb => B9.block b (hN.lt b hb)))
     have HL := mkHid (NdM.lt (hN.keep (fun b hb => B9.block b (hN.lt b hb))))
     obtain ⟨WA, hWA⟩ : ∃ X, W9.alloc (.cells #[.int .i64 0, .string ⟨#[]⟩, .int .i64 0, .int .i64 0, .slice none 0 0, .slice none 0 0, .slice none 0 0] 34) = X := ⟨_, rfl⟩
     have bA : Bl W9 WA := hWA ▸ Bl.alloc _ _
     have HA : Hid (WA.heap[W9.heap.size]? = some (.cells #[.int .i64 0, .string ⟨#[]⟩, .int .i64 0, .int .i64 0, .slice none 0 0, .slice none 0 0, .slice none 0 0] 34 (0, 0))) := mkHid (hWA ▸ heap_alloc_new W9 _)
     obtain ⟨WB, hWB⟩ : ∃ X, WA.setRow W9.heap.size #[d0, d1, d2, d3, d4, d5, d6] = X := ⟨_, rfl⟩
     have fB : Fr [W9.heap.size] WA WB := hWB ▸ row_fr _ _ _
     have HB : Hid (WB.heap[W9.heap.size]? = some (.cells #[d0, d1, d2, d3, d4, d5, d6] 34 (0, 0))) := mkHid (hWB ▸ setRow_heap _ _ _ _ 34 (0, 0) HA.out)
     have BB : Hid (Bl W9 WB) := mkHid (((Fr.ofBl bA []).trans fB (by simp)).bl (by simp))
     have hD := mkHid (ndm_all HN.out)
     clear b7 s7 h0 h1 f8 f9 n1 n0 k8 B9 b2 g0 g1 g2 g3 g4 g5 g6 hN bA fB e9)
    | (refine wpList_store_row rfl 27 _ _ rfl w2.heap.size #[t0, t1, t2, t3, t4, .slice (some ⟨kb, 0, none⟩) 1 cp] rfl rfl 27 _ H0.out (by kernel_rfl) rfl HAll.out ?_; rw [hW8])
    | (refine wpList_store_row rfl 30 _ _ rfl (w2.heap.size + 1) #[.int .i64 0, .int .i64 0] rfl rfl 30 _ H1.out (by kernel_rfl) rfl (by kernel_rfl) ?_; rw [hW9])
    | (refine wpList_store_row rfl 34 _ _ rfl W9.heap.size #[d0, d1, d2, d3, d4, d5, d6] rfl rfl 34 _ HA.out (by kernel_rfl) rfl hD.out ?_; rw [hWB]))
   go_loopw [14] (fun q wr => q = .int .i64 0 ∧ wr = WB) (fun q _ => 0)
   case atStart => exact ⟨rfl, rfl⟩
   case round =>
    obtain ⟨rfl, hwr⟩ := hrel
    have hwr2 := hwr.symm
    subst hwr2
    have hN2 := HN.out
    rw [nestN_false] at hN2
    have hc := HB.out
    obtain ⟨rfl, rfl, rfl⟩ := nest_leaf hN2
    have x0 : WB.cell? ⟨W9.heap.size, 0, none⟩ = some (.int .i64 6) := by rw [cell_in hc]; rfl
    have x1 : WB.cell? ⟨W9.heap.size, 1, none⟩ = some (.string (ba [120])) := by rw [cell_in hc]; rfl
    have x3 : WB.cell? ⟨W9.heap.size, 3, none⟩ = some (.int .i64 ((0 + i : Nat) : Int)) := by rw [cell_in hc]; rfl
    rw [Nat.zero_add] at x3
    have hx := x_eq
    have BW := mkHid (BZ.out.trans BB.out)
    clear hN2 hc HN HL HB BB hD HAll H0 H1 HA HD1 y0 y3 z0 z1 z2 z3 z4 z5 z6
    by_cases h0 : 0 < i
    ·have h0' : (0 : Int) < i := by omega
     clear h0
     go_wp2_with fail
     go_ret
     exact ⟨rfl, BW.out⟩
    ·have h0' : ¬ (0 : Int) < i := by omega
     clear h0
     go_wp2_with fail
     go_ret
     exact ⟨rfl, BW.out⟩
theorem nests_any (n : Int) (b : Bool) (w : World) (hE : Env w) (hn : -9223372036854775808 ≤ n ∧ n ≤ 9223372036854775807) : Calls Tryz.prog 3 #[.int .i64 n, .bool b] w fun e w' => e = .returned (.bool true) ∧ Bl w w' := by
 have h1 : n.tmod 40 < 40 := Int.tmod_lt_of_pos n (by decide)
 have h2 : -40 < n.tmod 40 := by
  have := Int.lt_tmod_of_pos n (b := 40) (by decide)
  omega
 by_cases h0 : 0 ≤ n.tmod 40
 ·obtain ⟨k, hk⟩ := Int.eq_ofNat_of_zero_le h0
  by_cases h24 : k ≤ 24
  ·cases b
   ·exact ng_false_p n k hk h24 w hE
   ·exact ng_true_p n k hk h24 w hE
  ·cases b
   ·exact nd_false_p n k hk (by omega) (by omega) w hE
   ·exact nd_true_p n k hk (by omega) (by omega) w hE
 ·obtain ⟨k, hk⟩ := Int.eq_ofNat_of_zero_le (show 0 ≤ n.tmod 40 + 40 by omega)
  have hk' : n.tmod 40 = (k : Int) - 40 := by omega
  by_cases h24 : k ≤ 24
  ·cases b
   ·exact ng_false_n n k hk' h24 w hE
   ·exact ng_true_n n k hk' h24 w hE
  ·cases b
   ·exact nd_false_n n k hk' (by omega) (by omega) w hE
   ·exact nd_true_n n k hk' (by omega) (by omega) w hE
end Go.Proofs.YtfhkhmgodkheaaaGreatDoor
