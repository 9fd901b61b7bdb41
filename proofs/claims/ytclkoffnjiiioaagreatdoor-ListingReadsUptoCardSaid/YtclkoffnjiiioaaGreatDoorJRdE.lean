import Derived.Test.YtclkoffnjiiioaaGreatDoorG09JRdD
namespace Go.Proofs.YtclkoffnjiiioaaGreatDoor
open Go.RowKit
set_option linter.unusedVariables false
set_option linter.unusedSimpArgs false
attribute [local go_sem ↓] Go.wp_at_zero Go.wp_at_succ
/-- what object answers: the literals have one more -/
def ObR (W : World) (r : Nat) (S : Rv) (lp : Option Addr) (ts : List LitT) (res : Option (LitS × Bs × Nat)) (e : Ending) (w' : World) : Prop :=
  ∃ (t : LitT) (ok : Bool) (x : Bs) (n : Nat) (p2 : Option Addr) (c2 : Nat), e = .returned (.bool ok) ∧ RB w' r { S with rest := x, els := n, lv := .slice p2 (ts.length + 1) c2 } ∧ TR (r + 1) w' p2 c2 (ts ++ [t]) ∧ Fr (r :: blk lp) W w' ∧ res = (if ok = true then some (stT t, x, n) else none)
set_option maxRecDepth 100000 in
set_option maxHeartbeats 16000000 in
theorem object_ok (N : Nat) (hent : ∀ args w, (callFunc N args).run Tryz.prog w = .ok (.enter N args) w) (W : World) (r : Nat) (S : Rv) (lp : Option Addr) (lc : Nat) (ts : List LitT) (res : Option (LitS × Bs × Nat)) (h : RB W r S) (hr : 9 ≤ r) (hlv : S.lv = .slice lp ts.length lc) (htr : TR (r + 1) W lp lc ts) (hts : ts.length ≤ 64) (hN : Calls Tryz.prog N #[pt r] W fun e w' => ElQ W r S res e w') :
    Calls Tryz.prog 54 #[pt r, .func (.func N) #[pt r] #[]] W fun e w' => ObR W r S lp ts res e w' := by
  have hlt := h.lt
  have HN := mkHid hN
  have HTr := mkHid htr
  have HLv := mkHid hlv
  clear h htr hlv hN
  go_enter Tryz.func54, Tryz.ntmps54
  go_wp2_with fail
  refine HN.out.mono ?_
  rintro e w1 ⟨t, ok, x, n, rfl, hb, hf, hk, ht, hq⟩
  have htr1 := HTr.out.keep hf (by simp)
  have hbk := HTr.out.blk
  have hft := HTr.out.feet
  have htx := ht
  obtain ⟨o5, ho5⟩ : ∃ o, Obj.cells #[.int .i64 t.kind, .string t.text, .int .i64 t.num, .slice t.p t.kids.length t.c] 49 (0, 0) = o := ⟨_, rfl⟩
  have fa : Fr [] w1 (w1.alloc o5) := Fr.alloc [] w1 o5
  have fd : Fr [] w1 (w1.alloc o5).drew := fa.tr0 (Fr.drew [] _)
  have hsz : (w1.alloc o5).heap.size = w1.heap.size + 1 := by simp
  have hszd : (w1.alloc o5).drew.heap.size = w1.heap.size + 1 := hsz
  have htrD := htr1.keep fd (by simp)
  have hkD : LitsX (w1.alloc o5).drew (fun g => r + 1 ≤ g ∧ g ∉ blk lp ∧ g ∉ ftL ts) t.p t.c t.kids := hk.keep fd (fun _ _ _ => by simp) (fun g hg _ => ⟨by omega, fun hm => by have := (hbk g hm).2; omega, fun hm => by have := (hft g hm).2.2; omega⟩)
  obtain ⟨g2, c2, w5, hr5, f5, hgn, hg2, hg2l, hc5, hz5, HFin0⟩ := htrD.push2 (by omega) (by rw [hszd]; have := hf.size; omega)
  rw [hszd] at hr5
  have hbD := hb.fr fd (by simp)
  have hrk : ∀ g ∈ blk lp, r + 1 ≤ g := fun g hg => (hbk g hg).1
  have hb5 := hbD.fr f5 (fun hm => by have := hrk _ hm; omega)
  have hne : r ≠ g2 := by omega
  have F5 : Fr (r :: blk lp) W w5 := ((hf.mono (S' := r :: blk lp) (by simp)).trans fd (by simp)).trans f5 (fun g hg => .inl (by simp [hg]))
  obtain ⟨v0, q0⟩ := hc5 0 (by omega)
  obtain ⟨v1, q1⟩ := hc5 1 (by omega)
  obtain ⟨v2, q2⟩ := hc5 2 (by omega)
  obtain ⟨v3, q3⟩ := hc5 3 (by omega)
  rw [Nat.add_zero] at q0
  have y0 := hz5 (ts.length * 4)
  have y1 := hz5 (ts.length * 4 + 1)
  have y2 := hz5 (ts.length * 4 + 2)
  have y3 := hz5 (ts.length * 4 + 3)
  have r3 : w5.cell? ⟨r, 3, none⟩ = some (.slice lp ts.length lc) := (show w5.cell? ⟨r, 3, none⟩ = some S.lv from hb5.cl 3).trans (by rw [HLv.out])
  have z3 := hb5.fz 3
  have d3 : ∀ o, ((w1.alloc o).drew).cell? ⟨r, 3, none⟩ = some (.slice lp ts.length lc) := fun o => (show ((w1.alloc o).drew).cell? ⟨r, 3, none⟩ = some S.lv from (hb.fr ((Fr.alloc [] w1 o).tr0 (Fr.drew [] _)) (by simp)).cl 3).trans (by rw [HLv.out])
  -- the two ends
  have hgn2 : g2 ∈ r :: blk lp ∨ W.heap.size ≤ g2 := by
    rcases hgn with q | q
    · exact .inl (by simp [q])
    · exact .inr (by rw [hszd] at q; have := hf.size; omega)
  have f4 : ∀ W3 : World, Fr [g2] W3 ((((W3.setCell ⟨g2, ts.length * 4, none⟩ (.int .i64 t.kind)).setCell ⟨g2, ts.length * 4 + 1, none⟩ (.string t.text)).setCell ⟨g2, ts.length * 4 + 2, none⟩ (.int .i64 t.num)).setCell ⟨g2, ts.length * 4 + 3, none⟩ t.items) := fun W3 =>
    (((Fr.setCell (S := [g2]) W3 ⟨g2, ts.length * 4, none⟩ _ (by simp)).trans (Fr.setCell (S := [g2]) _ ⟨g2, ts.length * 4 + 1, none⟩ _ (by simp)) (by simp)).trans (Fr.setCell (S := [g2]) _ ⟨g2, ts.length * 4 + 2, none⟩ _ (by simp)) (by simp)).trans (Fr.setCell (S := [g2]) _ ⟨g2, ts.length * 4 + 3, none⟩ _ (by simp)) (by simp)
  obtain ⟨w6, hw6⟩ : ∃ V, ((((w5.setCell ⟨g2, ts.length * 4, none⟩ (.int .i64 t.kind)).setCell ⟨g2, ts.length * 4 + 1, none⟩ (.string t.text)).setCell ⟨g2, ts.length * 4 + 2, none⟩ (.int .i64 t.num)).setCell ⟨g2, ts.length * 4 + 3, none⟩ t.items) = V := ⟨_, rfl⟩
  have f6 := f4 w5
  have t6 := HFin0 w5 t (fun _ _ _ _ => rfl) rfl (Nat.le_refl _) htx hkD
  rw [hw6] at f6 t6
  have hb6 := hb5.fr f6 (by simp; exact hne)
  have r6 : w6.cell? ⟨r, 3, none⟩ = some (.slice lp ts.length lc) := (show w6.cell? ⟨r, 3, none⟩ = some S.lv from hb6.cl 3).trans (by rw [HLv.out])
  have z6 := hb6.fz 3
  have HEndA : Hid (ObR W r S lp ts res (.returned (.bool ok)) (w6.setCell ⟨r, 3, none⟩ (.slice (some ⟨g2, 0, none⟩) (ts.length + 1) c2))) := by
    have fs : Fr [r] w6 (w6.setCell ⟨r, 3, none⟩ (.slice (some ⟨g2, 0, none⟩) (ts.length + 1) c2)) := Fr.setCell (S := [r]) w6 ⟨r, 3, none⟩ _ (by simp)
    exact ⟨t, ok, x, n, some ⟨g2, 0, none⟩, c2, rfl, hb6.setLits _, t6.keep fs (by simp), (F5.trans f6 (fun g hg => by simp only [List.mem_singleton] at hg; rw [hg]; exact hgn2)).trans fs (by simp), hq⟩
  have fr7 : Fr [r] w5 (w5.setCell ⟨r, 3, none⟩ (.slice (some ⟨g2, 0, none⟩) (ts.length + 1) c2)) := Fr.setCell (S := [r]) w5 ⟨r, 3, none⟩ _ (by simp)
  have hb7 := hb5.setLits (.slice (some ⟨g2, 0, none⟩) (ts.length + 1) c2)
  obtain ⟨w7, hw7⟩ : ∃ V, w5.setCell ⟨r, 3, none⟩ (.slice (some ⟨g2, 0, none⟩) (ts.length + 1) c2) = V := ⟨_, rfl⟩
  rw [hw7] at fr7 hb7
  have f7 := f4 w7
  have t7 := HFin0 w7 t (fun k h1 h2 h3 => fr7.block k h2 (by simp; omega)) (fr7.block g2 hg2l (by simp; omega)) fr7.size htx hkD
  have p0 : w7.cell? ⟨g2, ts.length * 4, none⟩ = some v0 := (fr7.cell (p := ⟨g2, ts.length * 4, none⟩) hg2l (by simp; omega)).trans q0
  have p1 : w7.cell? ⟨g2, ts.length * 4 + 1, none⟩ = some v1 := (fr7.cell (p := ⟨g2, ts.length * 4 + 1, none⟩) hg2l (by simp; omega)).trans q1
  have p2' : w7.cell? ⟨g2, ts.length * 4 + 2, none⟩ = some v2 := (fr7.cell (p := ⟨g2, ts.length * 4 + 2, none⟩) hg2l (by simp; omega)).trans q2
  have p3 : w7.cell? ⟨g2, ts.length * 4 + 3, none⟩ = some v3 := (fr7.cell (p := ⟨g2, ts.length * 4 + 3, none⟩) hg2l (by simp; omega)).trans q3
  have x0 : w7.frozen? ⟨g2, ts.length * 4, none⟩ = false := (fr7.frozen (p := ⟨g2, ts.length * 4, none⟩) hg2l (by simp; omega)).trans y0
  have x1 : w7.frozen? ⟨g2, ts.length * 4 + 1, none⟩ = false := (fr7.frozen (p := ⟨g2, ts.length * 4 + 1, none⟩) hg2l (by simp; omega)).trans y1
  have x2 : w7.frozen? ⟨g2, ts.length * 4 + 2, none⟩ = false := (fr7.frozen (p := ⟨g2, ts.length * 4 + 2, none⟩) hg2l (by simp; omega)).trans y2
  have x3 : w7.frozen? ⟨g2, ts.length * 4 + 3, none⟩ = false := (fr7.frozen (p := ⟨g2, ts.length * 4 + 3, none⟩) hg2l (by simp; omega)).trans y3
  have HEndB : Hid (ObR W r S lp ts res (.returned (.bool ok)) ((((w7.setCell ⟨g2, ts.length * 4, none⟩ (.int .i64 t.kind)).setCell ⟨g2, ts.length * 4 + 1, none⟩ (.string t.text)).setCell ⟨g2, ts.length * 4 + 2, none⟩ (.int .i64 t.num)).setCell ⟨g2, ts.length * 4 + 3, none⟩ t.items)) :=
    ⟨t, ok, x, n, some ⟨g2, 0, none⟩, c2, rfl, hb7.fr f7 (by simp; exact hne), t7, (F5.trans fr7 (by simp)).trans f7 (fun g hg => by simp only [List.mem_singleton] at hg; rw [hg]; exact hgn2), hq⟩
  -- what is held
  have HS : Hid (∀ V : World, V.heap[w1.heap.size]? = some o5 → V.cell? ⟨w1.heap.size, 0, none⟩ = some (.int .i64 t.kind) ∧ V.cell? ⟨w1.heap.size, 1, none⟩ = some (.string t.text) ∧ V.cell? ⟨w1.heap.size, 2, none⟩ = some (.int .i64 t.num) ∧ V.cell? ⟨w1.heap.size, 3, none⟩ = some (.slice t.p t.kids.length t.c)) := fun V hV => by
    rw [← ho5] at hV
    exact ⟨cell_in hV 0, cell_in hV 1, cell_in hV 2, cell_in hV 3⟩
  have B0 : (w1.alloc o5).drew.heap[w1.heap.size]? = some o5 := heap_alloc_new w1 o5
  have HB0 := mkHid B0
  have HBa : Hid (∀ o, ((w1.alloc o5).drew.alloc o).heap[w1.heap.size]? = some o5) := fun o => (Fr.alloc [] _ o).hb B0
  have hlt5 : w1.heap.size < (w1.alloc o5).drew.heap.size := by rw [hszd]; omega
  have hnp : w1.heap.size ∉ blk lp := fun hm => by have := (hbk _ hm).2; have := hf.size; omega
  have HB5 : Hid (w5.heap[w1.heap.size]? = some o5) := (f5.block _ hlt5 hnp).trans B0
  have hgo : w1.heap.size ≠ g2 := fun e => by
    rcases hgn with q | q
    · rw [← e] at q; exact hnp q
    · rw [hszd] at q; omega
  have hl5 : w1.heap.size < w5.heap.size := lt_of_heap HB5.out
  have HB6 : Hid (w6.heap[w1.heap.size]? = some o5) := (f6.block _ hl5 (by simp; exact hgo)).trans HB5.out
  have HB7 : Hid (w7.heap[w1.heap.size]? = some o5) := (fr7.block _ hl5 (by simp; have := hf.size; omega)).trans HB5.out
  have HB8 : Hid (((((w7.setCell ⟨g2, ts.length * 4, none⟩ (.int .i64 t.kind)).setCell ⟨g2, ts.length * 4 + 1, none⟩ (.string t.text)).setCell ⟨g2, ts.length * 4 + 2, none⟩ (.int .i64 t.num)).setCell ⟨g2, ts.length * 4 + 3, none⟩ t.items).heap[w1.heap.size]? = some o5) := (f7.block _ (lt_of_heap HB7.out) (by simp; exact hgo)).trans HB7.out
  have HB9 : Hid ((w6.setCell ⟨r, 3, none⟩ (.slice (some ⟨g2, 0, none⟩) (ts.length + 1) c2)).heap[w1.heap.size]? = some o5) := ((Fr.setCell (S := [r]) w6 ⟨r, 3, none⟩ _ (by simp)).block _ (lt_of_heap HB6.out) (by simp; have := hf.size; omega)).trans HB6.out
  have HR5 := mkHid hr5
  have Hw6 := mkHid hw6
  have Hw7 := mkHid hw7
  have tl : (ts.length : Int) < (ts.length : Int) + 1 := by omega
  have tl0 : (0 : Int) ≤ (ts.length : Int) := by omega
  have e3 : (w1.alloc o5).cell? ⟨r, 3, none⟩ = some (.slice lp ts.length lc) := d3 o5
  have e3c : ∀ o, ((w1.alloc o5).alloc o).cell? ⟨r, 3, none⟩ = some (.slice lp ts.length lc) := fun o => (Fr.alloc [] _ o).cl e3
  clear d3
  clear hb hf hk ht hq htr1 hbk htx fa fd hsz htrD hkD hc5 hz5 HFin0 hr5 f5 hbD hrk hb5 F5 hgn hgn2 f4 f6 t6 hb6 fr7 hb7 f7 t7 B0 hnp hgo hl5 hw6 hw7 HN HTr HLv hg2 hg2l hlt5 hne
  unfold litv LitT.items
  unfold LitT.items at HEndA HEndB Hw6 HB8
  go_wp2_with fail
  have HO5 := mkHid ho5
  clear ho5
  refine wp_region_h (S := (fun V => V.cell? ⟨w1.heap.size, 0, none⟩ = some (.int .i64 t.kind) ∧ V.cell? ⟨w1.heap.size, 1, none⟩ = some (.string t.text) ∧ V.cell? ⟨w1.heap.size, 2, none⟩ = some (.int .i64 t.num) ∧ V.cell? ⟨w1.heap.size, 3, none⟩ = some (.slice t.p t.kids.length t.c))) (by kernel_rfl) (HS.out _ HB0.out) (fun hHeld => ?_)
  refine wpAnyH_take (i := 0) (v := ?_) rfl (by kernel_rfl) (by kernel_rfl) (by kernel_rfl) (fun _ _ _ h => h) (Or.inl ⟨by rfl, ?_⟩) (by assumption) ?_
  rotate_left
  · (intro w hSw; (try dsimp only at hSw); (try (obtain ⟨s1, s2, s3, s4⟩ := hSw)); first | (go_simp; done) | (go_simp; with_reducible rfl))
  try simp only [Act.put, qT, qZ, qS, qB, qY, qX]
  refine wpAnyH_take (i := 1) (v := ?_) rfl (by kernel_rfl) (by kernel_rfl) (by kernel_rfl) (fun _ _ _ h => h) (Or.inl ⟨by rfl, ?_⟩) (by assumption) ?_
  rotate_left
  · (intro w hSw; (try dsimp only at hSw); (try (obtain ⟨s1, s2, s3, s4⟩ := hSw)); first | (go_simp; done) | (go_simp; with_reducible rfl))
  try simp only [Act.put, qT, qZ, qS, qB, qY, qX]
  refine wpAnyH_take (i := 2) (v := ?_) rfl (by kernel_rfl) (by kernel_rfl) (by kernel_rfl) (fun _ _ _ h => h) (Or.inl ⟨by rfl, ?_⟩) (by assumption) ?_
  rotate_left
  · (intro w hSw; (try dsimp only at hSw); (try (obtain ⟨s1, s2, s3, s4⟩ := hSw)); first | (go_simp; done) | (go_simp; with_reducible rfl))
  try simp only [Act.put, qT, qZ, qS, qB, qY, qX]
  refine wpAnyH_take (i := 3) (v := ?_) rfl (by kernel_rfl) (by kernel_rfl) (by kernel_rfl) (fun _ _ _ h => h) (Or.inl ⟨by rfl, ?_⟩) (by assumption) ?_
  rotate_left
  · (intro w hSw; (try dsimp only at hSw); (try (obtain ⟨s1, s2, s3, s4⟩ := hSw)); first | (go_simp; done) | (go_simp; with_reducible rfl))
  try simp only [Act.put, qT, qZ, qS, qB, qY, qX]
  refine wpAnyH_take (i := 5) (v := ?_) rfl (by kernel_rfl) (by kernel_rfl) (by kernel_rfl) (fun _ _ _ h => h) (Or.inl ⟨by rfl, ?_⟩) (by assumption) ?_
  rotate_left
  · (intro w hSw; (try dsimp only at hSw); (try (obtain ⟨s1, s2, s3, s4⟩ := hSw)); first | (go_simp; done) | (go_simp; with_reducible rfl))
  try simp only [Act.put, qT, qZ, qS, qB, qY, qX]
  refine wpH_two (i := 4) (j := 7) (by kernel_rfl) rfl rfl (fun K hK => ?_) (fun K hK => ?_)
  · go_simp
    try go_wp2_with fail
    refine hK.out _ _ (HS.out _ HB0.out) (fun hHeld => ?_)
    clear hK K
    try simp only [Act.put, qT, qZ, qS, qB, qY, qX]
    refine wpAnyH_take (i := 6) (v := ?_) rfl (by kernel_rfl) (by kernel_rfl) (by kernel_rfl) (fun _ _ _ h => h) (Or.inl ⟨by rfl, ?_⟩) (by assumption) ?_
    rotate_left
    · (intro w hSw; (try dsimp only at hSw); (try (obtain ⟨s1, s2, s3, s4⟩ := hSw)); first | (go_simp; done) | (go_simp; with_reducible rfl))
    try simp only [Act.put, qT, qZ, qS, qB, qY, qX]
    refine wpH_one (i := 7) (by kernel_rfl) rfl (fun K hK => ?_)
    go_simp
    try go_wp2_with fail
    refine hK.out _ _ (HS.out _ (HBa.out _)) (fun hHeld => ?_)
    clear hK K
    try simp only [Act.put, qT, qZ, qS, qB, qY, qX]
    refine wpH_one (i := 8) (by kernel_rfl) rfl (fun K hK => ?_)
    refine step_append_run rfl (.tmp 16) (.tmp 19) 22 22 rfl (.slice lp ts.length lc) (.slice (some ⟨w1.heap.size + 1, 0, none⟩) 1 1) (by simp [Act.eval]) (by simp [Act.eval]) _ _ HR5.out ?_
    refine hK.out _ _ (HS.out _ HB5.out) (fun hHeld => ?_)
    clear hK K
    try simp only [Act.put, qT, qZ, qS, qB, qY, qX]
    refine wpAnyH_take (i := 9) (v := ?_) rfl (by kernel_rfl) (by kernel_rfl) (by kernel_rfl) (fun _ _ _ h => h) (Or.inl ⟨by rfl, ?_⟩) (by assumption) ?_
    rotate_left
    · (intro w hSw; (try dsimp only at hSw); (try (obtain ⟨s1, s2, s3, s4⟩ := hSw)); first | (go_simp; done) | (go_simp; with_reducible rfl))
    try simp only [Act.put, qT, qZ, qS, qB, qY, qX]
    refine wpAnyH_take (i := 11) (v := ?_) rfl (by kernel_rfl) (by kernel_rfl) (by kernel_rfl) (fun _ _ _ h => h) (Or.inl ⟨by rfl, ?_⟩) (by assumption) ?_
    rotate_left
    · (intro w hSw; (try dsimp only at hSw); (try (obtain ⟨s1, s2, s3, s4⟩ := hSw)); first | (go_simp; done) | (go_simp; with_reducible rfl))
    try simp only [Act.put, qT, qZ, qS, qB, qY, qX]
    refine wpAnyH_take (i := 12) (v := ?_) rfl (by kernel_rfl) (by kernel_rfl) (by kernel_rfl) (fun _ _ _ h => h) (Or.inl ⟨by rfl, ?_⟩) (by assumption) ?_
    rotate_left
    · (intro w hSw; (try dsimp only at hSw); (try (obtain ⟨s1, s2, s3, s4⟩ := hSw)); first | (go_simp; done) | (go_simp; with_reducible rfl))
    try simp only [Act.put, qT, qZ, qS, qB, qY, qX]
    refine wpAnyH_take (i := 13) (v := ?_) rfl (by kernel_rfl) (by kernel_rfl) (by kernel_rfl) (fun _ _ _ h => h) (Or.inl ⟨by rfl, ?_⟩) (by assumption) ?_
    rotate_left
    · (intro w hSw; (try dsimp only at hSw); (try (obtain ⟨s1, s2, s3, s4⟩ := hSw)); first | (go_simp; done) | (go_simp; with_reducible rfl))
    try simp only [Act.put, qT, qZ, qS, qB, qY, qX]
    refine wpH_two (i := 10) (j := 14) (by kernel_rfl) rfl rfl (fun K hK => ?_) (fun K hK => ?_)
    · go_simp
      try go_wp2_with fail
      rw [Hw6.out]
      refine hK.out _ _ (HS.out _ HB6.out) (fun hHeld => ?_)
      clear hK K
      try simp only [Act.put, qT, qZ, qS, qB, qY, qX]
      refine wpH_one (i := 14) (by kernel_rfl) rfl (fun K hK => ?_)
      go_simp
      try go_wp2_with fail
      refine hK.out _ _ (HS.out _ HB9.out) (fun hHeld => ?_)
      clear hK K
      try simp only [Act.put, qT, qZ, qS, qB, qY, qX]
      refine wpAnyH_done (by kernel_rfl) ?_ _
      go_wp2_with fail
      go_ret
      exact HEndA.out
    · go_simp
      try go_wp2_with fail
      rw [Hw7.out]
      refine hK.out _ _ (HS.out _ HB7.out) (fun hHeld => ?_)
      clear hK K
      try simp only [Act.put, qT, qZ, qS, qB, qY, qX]
      refine wpH_one (i := 10) (by kernel_rfl) rfl (fun K hK => ?_)
      go_simp
      try go_wp2_with fail
      refine hK.out _ _ (HS.out _ HB8.out) (fun hHeld => ?_)
      clear hK K
      try simp only [Act.put, qT, qZ, qS, qB, qY, qX]
      refine wpAnyH_done (by kernel_rfl) ?_ _
      go_wp2_with fail
      go_ret
      exact HEndB.out
  · go_simp
    try go_wp2_with fail
    refine hK.out _ _ (HS.out _ (HBa.out _)) (fun hHeld => ?_)
    clear hK K
    try simp only [Act.put, qT, qZ, qS, qB, qY, qX]
    refine wpH_one (i := 4) (by kernel_rfl) rfl (fun K hK => ?_)
    go_simp
    try go_wp2_with fail
    refine hK.out _ _ (HS.out _ (HBa.out _)) (fun hHeld => ?_)
    clear hK K
    try simp only [Act.put, qT, qZ, qS, qB, qY, qX]
    refine wpAnyH_take (i := 6) (v := ?_) rfl (by kernel_rfl) (by kernel_rfl) (by kernel_rfl) (fun _ _ _ h => h) (Or.inl ⟨by rfl, ?_⟩) (by assumption) ?_
    rotate_left
    · (intro w hSw; (try dsimp only at hSw); (try (obtain ⟨s1, s2, s3, s4⟩ := hSw)); first | (go_simp; done) | (go_simp; with_reducible rfl))
    try simp only [Act.put, qT, qZ, qS, qB, qY, qX]
    refine wpH_one (i := 8) (by kernel_rfl) rfl (fun K hK => ?_)
    refine step_append_run rfl (.tmp 16) (.tmp 19) 22 22 rfl (.slice lp ts.length lc) (.slice (some ⟨w1.heap.size + 1, 0, none⟩) 1 1) (by simp [Act.eval]) (by simp [Act.eval]) _ _ HR5.out ?_
    refine hK.out _ _ (HS.out _ HB5.out) (fun hHeld => ?_)
    clear hK K
    try simp only [Act.put, qT, qZ, qS, qB, qY, qX]
    refine wpAnyH_take (i := 9) (v := ?_) rfl (by kernel_rfl) (by kernel_rfl) (by kernel_rfl) (fun _ _ _ h => h) (Or.inl ⟨by rfl, ?_⟩) (by assumption) ?_
    rotate_left
    · (intro w hSw; (try dsimp only at hSw); (try (obtain ⟨s1, s2, s3, s4⟩ := hSw)); first | (go_simp; done) | (go_simp; with_reducible rfl))
    try simp only [Act.put, qT, qZ, qS, qB, qY, qX]
    refine wpAnyH_take (i := 11) (v := ?_) rfl (by kernel_rfl) (by kernel_rfl) (by kernel_rfl) (fun _ _ _ h => h) (Or.inl ⟨by rfl, ?_⟩) (by assumption) ?_
    rotate_left
    · (intro w hSw; (try dsimp only at hSw); (try (obtain ⟨s1, s2, s3, s4⟩ := hSw)); first | (go_simp; done) | (go_simp; with_reducible rfl))
    try simp only [Act.put, qT, qZ, qS, qB, qY, qX]
    refine wpAnyH_take (i := 12) (v := ?_) rfl (by kernel_rfl) (by kernel_rfl) (by kernel_rfl) (fun _ _ _ h => h) (Or.inl ⟨by rfl, ?_⟩) (by assumption) ?_
    rotate_left
    · (intro w hSw; (try dsimp only at hSw); (try (obtain ⟨s1, s2, s3, s4⟩ := hSw)); first | (go_simp; done) | (go_simp; with_reducible rfl))
    try simp only [Act.put, qT, qZ, qS, qB, qY, qX]
    refine wpAnyH_take (i := 13) (v := ?_) rfl (by kernel_rfl) (by kernel_rfl) (by kernel_rfl) (fun _ _ _ h => h) (Or.inl ⟨by rfl, ?_⟩) (by assumption) ?_
    rotate_left
    · (intro w hSw; (try dsimp only at hSw); (try (obtain ⟨s1, s2, s3, s4⟩ := hSw)); first | (go_simp; done) | (go_simp; with_reducible rfl))
    try simp only [Act.put, qT, qZ, qS, qB, qY, qX]
    refine wpH_two (i := 10) (j := 14) (by kernel_rfl) rfl rfl (fun K hK => ?_) (fun K hK => ?_)
    · go_simp
      try go_wp2_with fail
      rw [Hw6.out]
      refine hK.out _ _ (HS.out _ HB6.out) (fun hHeld => ?_)
      clear hK K
      try simp only [Act.put, qT, qZ, qS, qB, qY, qX]
      refine wpH_one (i := 14) (by kernel_rfl) rfl (fun K hK => ?_)
      go_simp
      try go_wp2_with fail
      refine hK.out _ _ (HS.out _ HB9.out) (fun hHeld => ?_)
      clear hK K
      try simp only [Act.put, qT, qZ, qS, qB, qY, qX]
      refine wpAnyH_done (by kernel_rfl) ?_ _
      go_wp2_with fail
      go_ret
      exact HEndA.out
    · go_simp
      try go_wp2_with fail
      rw [Hw7.out]
      refine hK.out _ _ (HS.out _ HB7.out) (fun hHeld => ?_)
      clear hK K
      try simp only [Act.put, qT, qZ, qS, qB, qY, qX]
      refine wpH_one (i := 10) (by kernel_rfl) rfl (fun K hK => ?_)
      go_simp
      try go_wp2_with fail
      refine hK.out _ _ (HS.out _ HB8.out) (fun hHeld => ?_)
      clear hK K
      try simp only [Act.put, qT, qZ, qS, qB, qY, qX]
      refine wpAnyH_done (by kernel_rfl) ?_ _
      go_wp2_with fail
      go_ret
      exact HEndB.out
end Go.Proofs.YtclkoffnjiiioaaGreatDoor
