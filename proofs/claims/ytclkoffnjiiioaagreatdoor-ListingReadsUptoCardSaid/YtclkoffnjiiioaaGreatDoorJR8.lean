import Derived.Test.YtclkoffnjiiioaaGreatDoorG28JR7
namespace Go.Proofs.YtclkoffnjiiioaaGreatDoor
open Go.RowKit
set_option linter.unusedVariables false
set_option linter.unusedSimpArgs false
attribute [local go_sem ↓] Go.wp_at_zero Go.wp_at_succ
set_option maxRecDepth 100000 in
set_option maxHeartbeats 8000000 in
/-- the document's line: the first one -/
theorem line0_ok (W : World) (hE : Ev W) (h9 : 9 ≤ W.heap.size) (K : Co) (lp : Option Addr) (lc : Nat) (pw : Option Addr) (cw : Nat) (x : Nat) (l : Bs) (hl : l.length ≤ 1100000) : Calls Tryz.prog 25 #[.agg (K.v lp lc pw cw), .pointer (some ⟨x, 0, none⟩), .int .i64 0, .string (bA l)] W fun e w' => Fr [] W w' ∧ ∃ v1 v2 v3 ok, e = .returned (.tuple #[.agg (({ K with args := v1, temps := v2, stack := v3 } : Co).v lp lc pw cw), .int .i64 1, .bool ok]) ∧ headD l = if ok = true then some [v1, v2, v3] else none := by
  obtain ⟨hlb, hfr⟩ := lb_begin W (K.v lp lc pw cw) l hl
  obtain ⟨W3, hW3⟩ : ∃ V, (((W.alloc (.cells (K.v lp lc pw cw) 25)).alloc (.cells #[.int .i64 0, .int .i64 0, .int .i64 0, .slice none 0 0, .slice none 0 0] 25)).alloc (.cells #[.string (bA l), .int .i64 0, .int .i64 0, .bool false] 91)) = V := ⟨_, rfl⟩
  rw [hW3] at hlb hfr
  have hkv : K.v lp lc pw cw = #[.int .i64 K.args, .int .i64 K.temps, .int .i64 K.stack, .slice lp K.ts.length lc, .slice pw K.ws.length cw] := rfl
  rw [hkv] at hW3 hlb ⊢
  obtain ⟨gc, hgc⟩ : ∃ g, g = W.heap.size := ⟨_, rfl⟩
  obtain ⟨g8, hg8⟩ : ∃ g, g = W.heap.size + 1 := ⟨_, rfl⟩
  obtain ⟨r, hr⟩ : ∃ g, g = W.heap.size + 2 := ⟨_, rfl⟩
  rw [← hr, ← hg8, ← hgc] at hlb
  have n1 : gc ≠ r := by omega
  have n2 : g8 ≠ r := by omega
  have n3 : g8 ≠ gc := by omega
  have hr9 : 9 ≤ r := by omega
  have HG : Hid (gc = W.heap.size ∧ g8 = W.heap.size + 1 ∧ r = W.heap.size + 2) := ⟨hgc, hg8, hr⟩
  have HW3 := mkHid hW3
  have HE : Hid (∀ V, Fr [] W V → Ev V) := fun V fV => hE.fr0 fV
  have HEat : Hid (∀ (V : World) (p : Bs) (k : Nat) (bad : Bool), p.length ≤ 100 → QB V r l k 0 bad → Calls Tryz.prog 39 #[pt r, .string (bA p)] V fun e w' => e = .returned (.tuple #[]) ∧ Fr [r] V w' ∧ ∃ k' bad', QB w' r l k' 0 bad' ∧ stQ l k' bad' = (stQ l k bad).bind (tokP p)) := fun V p k bad hp hq => eat_st hq p hp
  have HNum : Hid (∀ (V : World) (k : Nat) (bad : Bool), Fr [] W V → QB V r l k 0 bad → Calls Tryz.prog 40 #[pt r] V fun e w' => Fr [r] V w' ∧ ∃ v k' bad', e = .returned (.int .i64 v) ∧ QB w' r l k' 0 bad' ∧ (stQ l k' bad').map (fun y => (v, y)) = (stQ l k bad).bind numQ) := fun V k bad fV hq => num_st hq (HE.out V fV).pw
  have HrW : Hid (W.heap.size ≤ r ∧ W.heap.size ≤ gc ∧ W.heap.size ≤ g8) := ⟨by omega, by omega, by omega⟩
  have H0 := mkHid hlb
  have F0 := mkHid hfr
  clear hlb hfr hkv hgc hg8 hr hW3 hE h9 hl
  go_enter Tryz.func25, Tryz.ntmps25
  go_wp2_with fail
  rw [HW3.out, ← HG.out.2.2, ← HG.out.2.1, ← HG.out.1]
  refine (HEat.out W3 [99, 111, 100, 101, 32] _ _ (by decide) H0.out.q).mono ?_
  rintro e a1 ⟨rfl, fa, ka, ba, hqa, hsa1⟩
  have HA1 := mkHid (H0.out.mv n1 n2 fa hqa)
  have FA1 : Hid (Fr [] W a1) := F0.out.trans fa (fun b hb => .inr (by simp at hb; rw [hb]; exact HrW.out.1))
  have HSa1 := mkHid hsa1
  clear fa hqa hsa1 H0
  go_wp2_with fail
  refine (HNum.out a1 _ _ FA1.out HA1.out.q).mono ?_
  rintro e m1 ⟨fa, v1, kb, bb, rfl, hqa, hsn1⟩
  have hm := HA1.out.mv n1 n2 fa hqa
  have fm : Fr [] W m1 := FA1.out.trans fa (fun b hb => .inr (by simp at hb; rw [hb]; exact HrW.out.1))
  have hmc := frozen_in hm.c 0
  obtain ⟨vo, hvo⟩ : ∃ vo, m1.cell? ⟨gc, 0, none⟩ = some vo := ⟨_, cell_in hm.c 0⟩
  have hs := hm.set n1 n3 0 (.int .i64 v1)
  have fs : Fr [] W (m1.setCell ⟨gc, 0, none⟩ (.int .i64 v1)) := fm.st HrW.out.2.1 0 _
  obtain ⟨s1, hs1⟩ : ∃ V, m1.setCell ⟨gc, 0, none⟩ (.int .i64 v1) = V := ⟨_, rfl⟩
  rw [hs1] at hs fs
  have HM1 := mkHid hs
  have FM1 := mkHid fs
  have HSn1 := mkHid hsn1
  clear fa hqa hsn1 hm fm hs fs HA1
  go_wp2_with fail
  clear hs1 hmc hvo
  refine (HEat.out s1 [32] _ _ (by decide) HM1.out.q).mono ?_
  rintro e a2 ⟨rfl, fa, ka, ba, hqa, hsa2⟩
  have HA2 := mkHid (HM1.out.mv n1 n2 fa hqa)
  have FA2 : Hid (Fr [] W a2) := FM1.out.trans fa (fun b hb => .inr (by simp at hb; rw [hb]; exact HrW.out.1))
  have HSa2 := mkHid hsa2
  clear fa hqa hsa2 HM1
  go_wp2_with fail
  refine (HNum.out a2 _ _ FA2.out HA2.out.q).mono ?_
  rintro e m2 ⟨fa, v2, kb, bb, rfl, hqa, hsn2⟩
  have hm := HA2.out.mv n1 n2 fa hqa
  have fm : Fr [] W m2 := FA2.out.trans fa (fun b hb => .inr (by simp at hb; rw [hb]; exact HrW.out.1))
  have hmc := frozen_in hm.c 1
  obtain ⟨vo, hvo⟩ : ∃ vo, m2.cell? ⟨gc, 1, none⟩ = some vo := ⟨_, cell_in hm.c 1⟩
  have hs := hm.set n1 n3 1 (.int .i64 v2)
  have fs : Fr [] W (m2.setCell ⟨gc, 1, none⟩ (.int .i64 v2)) := fm.st HrW.out.2.1 1 _
  obtain ⟨s2, hs2⟩ : ∃ V, m2.setCell ⟨gc, 1, none⟩ (.int .i64 v2) = V := ⟨_, rfl⟩
  rw [hs2] at hs fs
  have HM2 := mkHid hs
  have FM2 := mkHid fs
  have HSn2 := mkHid hsn2
  clear fa hqa hsn2 hm fm hs fs HA2
  go_wp2_with fail
  clear hs2 hmc hvo
  refine (HEat.out s2 [32] _ _ (by decide) HM2.out.q).mono ?_
  rintro e a3 ⟨rfl, fa, ka, ba, hqa, hsa3⟩
  have HA3 := mkHid (HM2.out.mv n1 n2 fa hqa)
  have FA3 : Hid (Fr [] W a3) := FM2.out.trans fa (fun b hb => .inr (by simp at hb; rw [hb]; exact HrW.out.1))
  have HSa3 := mkHid hsa3
  clear fa hqa hsa3 HM2
  go_wp2_with fail
  refine (HNum.out a3 _ _ FA3.out HA3.out.q).mono ?_
  rintro e m3 ⟨fa, v3, kb, bb, rfl, hqa, hsn3⟩
  have hm := HA3.out.mv n1 n2 fa hqa
  have fm : Fr [] W m3 := FA3.out.trans fa (fun b hb => .inr (by simp at hb; rw [hb]; exact HrW.out.1))
  have hmc := frozen_in hm.c 2
  obtain ⟨vo, hvo⟩ : ∃ vo, m3.cell? ⟨gc, 2, none⟩ = some vo := ⟨_, cell_in hm.c 2⟩
  have hs := hm.set n1 n3 2 (.int .i64 v3)
  have fs : Fr [] W (m3.setCell ⟨gc, 2, none⟩ (.int .i64 v3)) := fm.st HrW.out.2.1 2 _
  obtain ⟨VV, hs3⟩ : ∃ V, m3.setCell ⟨gc, 2, none⟩ (.int .i64 v3) = V := ⟨_, rfl⟩
  rw [hs3] at hs fs
  have HM3 := mkHid hs
  have FM3 := mkHid fs
  have HSn3 := mkHid hsn3
  clear fa hqa hsn3 hm fm hs fs HA3
  go_wp2_with fail
  clear hs3 hmc hvo
  have HL : Hid (LB VV gc g8 r #[.int .i64 v1, .int .i64 v2, .int .i64 v3, .slice lp K.ts.length lc, .slice pw K.ws.length cw] l _ 0 _) := HM3.out
  have HEnd : Hid (∀ V, Fr [] VV V → Calls Tryz.prog 41 #[pt r] V fun e w' => e = .returned (.bool (decide (stQ l _ _ = some []))) ∧ Fr [] V w') := fun V fV => ends_st (HL.out.q.fr fV (by simp))
  have HFin := mkHid (head_st HSa1.out HSn1.out HSa2.out HSn2.out HSa3.out HSn3.out)
  skip
  have HCs : Hid (∀ V, Fr [] VV V → V.cell? ⟨gc, 0, none⟩ = some (.int .i64 v1) ∧ V.cell? ⟨gc, 1, none⟩ = some (.int .i64 v2) ∧ V.cell? ⟨gc, 2, none⟩ = some (.int .i64 v3) ∧ V.cell? ⟨gc, 3, none⟩ = some (.slice lp K.ts.length lc) ∧ V.cell? ⟨gc, 4, none⟩ = some (.slice pw K.ws.length cw)) := fun V fV => ⟨cell_in (fV.hb HL.out.c) 0, cell_in (fV.hb HL.out.c) 1, cell_in (fV.hb HL.out.c) 2, cell_in (fV.hb HL.out.c) 3, cell_in (fV.hb HL.out.c) 4⟩
  have HS0 := mkHid (HCs.out VV.drew (Fr.drew [] VV))
  refine wp_region_h (S := fun V => V.cell? ⟨gc, 0, none⟩ = some (.int .i64 v1) ∧ V.cell? ⟨gc, 1, none⟩ = some (.int .i64 v2) ∧ V.cell? ⟨gc, 2, none⟩ = some (.int .i64 v3) ∧ V.cell? ⟨gc, 3, none⟩ = some (.slice lp K.ts.length lc) ∧ V.cell? ⟨gc, 4, none⟩ = some (.slice pw K.ws.length cw)) (by kernel_rfl) HS0.out (fun hHeld => ?_)
  refine wpAnyH_take (i := 0) (v := ?_) rfl (by kernel_rfl) (by kernel_rfl) (by kernel_rfl) (fun _ _ _ h => h) (Or.inl ⟨by rfl, ?_⟩) (by assumption) ?_
  rotate_left
  · (intro w hSw; (try dsimp only at hSw); first | (go_simp; done) | (go_simp; with_reducible rfl))
  try simp only [Act.put, qT, qZ, qS, qB, qY, qX]
  refine wpAnyH_take (i := 1) (v := ?_) rfl (by kernel_rfl) (by kernel_rfl) (by kernel_rfl) (fun _ _ _ h => h) (Or.inl ⟨by rfl, ?_⟩) (by assumption) ?_
  rotate_left
  · (intro w hSw; (try dsimp only at hSw); first | (go_simp; done) | (go_simp; with_reducible rfl))
  try simp only [Act.put, qT, qZ, qS, qB, qY, qX]
  refine wpH_one (i := 2) (by kernel_rfl) rfl (fun K0 hK => ?_)
  go_simp
  refine (HEnd.out VV.drew (Fr.drew [] VV)).mono ?_
  rintro e w4 ⟨rfl, f4'⟩
  have f4 : Fr [] VV w4 := (Fr.drew [] VV).tr0 f4'
  have hc4 := HCs.out w4 f4
  have hz4 := f4.hb HL.out.z
  have e0 : w4.cell? ⟨g8, 0, none⟩ = some (.int .i64 0) := cell_in hz4 0
  have e1 : w4.cell? ⟨g8, 1, none⟩ = some (.int .i64 0) := cell_in hz4 1
  have e2 : w4.cell? ⟨g8, 2, none⟩ = some (.int .i64 0) := cell_in hz4 2
  have e3 : w4.cell? ⟨g8, 3, none⟩ = some (.slice none 0 0) := cell_in hz4 3
  have e4 : w4.cell? ⟨g8, 4, none⟩ = some (.slice none 0 0) := cell_in hz4 4
  have y0 := frozen_in hz4 0
  have y1 := frozen_in hz4 1
  have y2 := frozen_in hz4 2
  have y3 := frozen_in hz4 3
  have y4 := frozen_in hz4 4
  obtain ⟨b5, f5⟩ := st5_ok (.int .i64 v1) (.int .i64 v2) (.int .i64 v3) (.slice lp K.ts.length lc) (.slice pw K.ws.length cw) hz4
  have HC5 : Hid ((st5 w4 g8 (.int .i64 v1) (.int .i64 v2) (.int .i64 v3) (.slice lp K.ts.length lc) (.slice pw K.ws.length cw)).cell? ⟨gc, 0, none⟩ = some (.int .i64 v1) ∧ (st5 w4 g8 (.int .i64 v1) (.int .i64 v2) (.int .i64 v3) (.slice lp K.ts.length lc) (.slice pw K.ws.length cw)).cell? ⟨gc, 1, none⟩ = some (.int .i64 v2) ∧ (st5 w4 g8 (.int .i64 v1) (.int .i64 v2) (.int .i64 v3) (.slice lp K.ts.length lc) (.slice pw K.ws.length cw)).cell? ⟨gc, 2, none⟩ = some (.int .i64 v3) ∧ (st5 w4 g8 (.int .i64 v1) (.int .i64 v2) (.int .i64 v3) (.slice lp K.ts.length lc) (.slice pw K.ws.length cw)).cell? ⟨gc, 3, none⟩ = some (.slice lp K.ts.length lc) ∧ (st5 w4 g8 (.int .i64 v1) (.int .i64 v2) (.int .i64 v3) (.slice lp K.ts.length lc) (.slice pw K.ws.length cw)).cell? ⟨gc, 4, none⟩ = some (.slice pw K.ws.length cw)) := by
    have hb := (f5.block gc (lt_of_heap (f4.hb HL.out.c)) (by simpa using fun e => n3 e.symm)).trans (f4.hb HL.out.c)
    exact ⟨cell_in hb 0, cell_in hb 1, cell_in hb 2, cell_in hb 3, cell_in hb 4⟩
  have HB5 := mkHid b5
  have HF5 : Hid (Fr [g8] VV (st5 w4 g8 (.int .i64 v1) (.int .i64 v2) (.int .i64 v3) (.slice lp K.ts.length lc) (.slice pw K.ws.length cw))) := (f4.mono (S' := [g8]) (by simp)).trans f5 (by simp)
  clear f4 f4' hz4 b5 f5 HS0 hHeld
  try go_wp2_with fail
  refine hK.out _ _ hc4 (fun hHeld => ?_)
  clear hK K0 hc4
  try simp only [Act.put, qT, qZ, qS, qB, qY, qX]
  refine wpH_one (i := 3) (by kernel_rfl) rfl (fun K0 hK => ?_)
  go_simp
  refine hK.out _ _ HC5.out (fun hHeld => ?_)
  clear hK K0
  try simp only [Act.put, qT, qZ, qS, qB, qY, qX]
  refine wpAnyH_take (i := 4) (v := ?_) rfl (by kernel_rfl) (by kernel_rfl) (by kernel_rfl) (fun _ _ _ h => h) (Or.inl ⟨by rfl, ?_⟩) (by assumption) ?_
  rotate_left
  · (intro w hSw; (try dsimp only at hSw); first | (go_simp; done) | (go_simp; with_reducible rfl))
  try simp only [Act.put, qT, qZ, qS, qB, qY, qX]
  refine wpAnyH_take (i := 5) (v := ?_) rfl (by kernel_rfl) (by kernel_rfl) (by kernel_rfl) (fun _ _ _ h => h) (Or.inl ⟨by rfl, ?_⟩) (by assumption) ?_
  rotate_left
  · (intro w hSw; (try dsimp only at hSw); first | (go_simp; done) | (go_simp; with_reducible rfl))
  try simp only [Act.put, qT, qZ, qS, qB, qY, qX]
  refine wpAnyH_done (by kernel_rfl) ?_ _
  clear hHeld
  go_wp2_with fail
  refine ret25 Tryz.results25 HB5.out rfl rfl rfl ?_
  refine ⟨FM3.out.trans HF5.out (fun b hb => .inr (by simp at hb; rw [hb]; exact HrW.out.2.2)), v1, v2, v3, _, rfl, ?_⟩
  have hfin := HFin.out
  rw [List.drop_zero] at hfin
  rw [hfin]
  simp
end Go.Proofs.YtclkoffnjiiioaaGreatDoor
