import Derived.Test.YtcoddjdicodmhaaDoorKHTells
import Derived.Test.YtcoddjdicodmhaaDoorKHLeftM
import Derived.Test.YtcoddjdicodmhaaDoorKHSameM
import Derived.BigQuiet
import Derived.Deep.RegionHeld3
namespace Go.Proofs.YtcoddjdicodmhaaDoor
open Go.RowKit
set_option linter.unusedVariables false
attribute [local go_sem ↓] Go.wp_at_zero Go.wp_at_succ
/-- the copy, written over -/
def over (gs : List HG) : List OI := gs.map fun x => ⟨0, x.cls, x.fmt, List.replicate x.slots.length 0, .slice (some ⟨x.g, 0, none⟩) x.slots.length x.cap⟩
theorem Hand.sat {w W : World} {G C : Nat} {gs : List HG} (h : Hand w W G C gs) (hl : gs.length ≤ 2932031007317) (hs : ∀ x ∈ gs, x.slots.length ≤ 17592186043904) : SAt W (.slice (some ⟨G, 0, none⟩) gs.length C) (gs.map fun x => ⟨x.oop, x.cls, x.fmt, x.slots, .slice (some ⟨x.g, 0, none⟩) x.slots.length x.cap⟩) := by
  have hlf := h.lf
  obtain ⟨cur, r1, r2, r3⟩ := hlf.row
  refine ⟨⟨some ⟨G, 0, none⟩, C, by simp, fun hp => ⟨G, 0, rfl, fun k hk => ?_⟩⟩, fun o ho => ?_, by simpa using hl⟩
  · have hk2 : k < gs.length := by simpa using hk
    have hx : gs[k]? = some gs[k] := List.getElem?_eq_getElem hk2
    obtain ⟨a0, a1, a2, a3⟩ := r3 k _ hx
    rw [if_neg (by omega)] at a0
    exact ⟨_, by rw [List.getElem?_map, hx]; rfl, by rw [Nat.zero_add, cell_in r1]; exact a0, by rw [Nat.zero_add, cell_in r1]; exact a1, by rw [Nat.zero_add, cell_in r1]; exact a2, by rw [Nat.zero_add, cell_in r1]; exact a3⟩
  · obtain ⟨x, hx, rfl⟩ := List.mem_map.1 ho
    obtain ⟨i, hi, he⟩ := List.getElem_of_mem hx
    obtain ⟨h0, cx, h1, h2⟩ := hlf.slots i x (by rw [List.getElem?_eq_getElem hi, he])
    refine ⟨⟨some ⟨x.g, 0, none⟩, x.cap, rfl, fun hp => ⟨x.g, 0, rfl, lt_of_heap h1, fun j hj => ?_⟩⟩, fun c hc => (by cases hc), hs x hx⟩
    have hj2 : j < x.slots.length := hj
    rw [Nat.zero_add, cell_in h1, h2 j (by omega), if_neg (by omega)]
    unfold tailOf
    rw [List.getD_eq_getElem?_getD, List.getElem?_append_left hj2, ← List.getD_eq_getElem?_getD]
theorem Lf.sat {W : World} {G C : Nat} {gs : List HG} (h : Lf W G gs gs.length 0) (hl : gs.length ≤ 2932031007317) (hs : ∀ x ∈ gs, x.slots.length ≤ 17592186043904) : SAt W (.slice (some ⟨G, 0, none⟩) gs.length C) (over gs) := by
  obtain ⟨cur, r1, r2, r3⟩ := h.row
  refine ⟨⟨some ⟨G, 0, none⟩, C, by simp [over], fun hp => ⟨G, 0, rfl, fun k hk => ?_⟩⟩, fun o ho => ?_, by simpa [over] using hl⟩
  · have hk2 : k < gs.length := by simpa [over] using hk
    have hx : gs[k]? = some gs[k] := List.getElem?_eq_getElem hk2
    obtain ⟨a0, a1, a2, a3⟩ := r3 k _ hx
    rw [if_pos hk2] at a0
    exact ⟨_, by unfold over; rw [List.getElem?_map, hx]; rfl, by rw [Nat.zero_add, cell_in r1]; exact a0, by rw [Nat.zero_add, cell_in r1]; exact a1, by rw [Nat.zero_add, cell_in r1]; exact a2, by rw [Nat.zero_add, cell_in r1]; exact a3⟩
  · obtain ⟨x, hx, rfl⟩ := List.mem_map.1 ho
    obtain ⟨i, hi, he⟩ := List.getElem_of_mem hx
    obtain ⟨h0, cx, h1, h2⟩ := h.slots i x (by rw [List.getElem?_eq_getElem hi, he])
    refine ⟨⟨some ⟨x.g, 0, none⟩, x.cap, by simp, fun hp => ⟨x.g, 0, rfl, lt_of_heap h1, fun j hj => ?_⟩⟩, fun c hc => (by cases hc), by simpa using hs x hx⟩
    have hj2 : j < x.slots.length := by simpa using hj
    rw [Nat.zero_add, cell_in h1, h2 j (by omega), if_pos (.inl hi), List.getD_eq_getElem?_getD, List.getElem?_replicate, if_pos hj2]
    rfl
theorem handKey (gs : List HG) : (gs.map fun x => (⟨x.oop, x.cls, x.fmt, x.slots, .slice (some ⟨x.g, 0, none⟩) x.slots.length x.cap⟩ : OI)).map oiKey = gs.map hgKey := by rw [List.map_map]; rfl
/-- both say the same state -/
theorem same_call (sx sy sz : Int) (oa ob : Value) (la lb : List OI) (ks : List Key) (V : World) (ha : SAt V oa la) (hb : SAt V ob lb) (h1 : la.map oiKey = ks) (h2 : lb.map oiKey = ks) :
    Calls Tryd.prog 22 #[.agg #[.int .i64 sx, .int .i64 sy, .int .i64 sz, oa], .agg #[.int .i64 sx, .int .i64 sy, .int .i64 sz, ob]] V fun e w' => e = .returned (.bool true) ∧ Fr [] V w' := sameState_at sx sy sz oa ob la lb V ha hb (h1.trans h2.symm)
end Go.Proofs.YtcoddjdicodmhaaDoor
namespace Go.Proofs.YtcoddjdicodmhaaDoor
open Go.RowKit
set_option linter.unusedVariables false
attribute [local go_sem ↓] Go.wp_at_zero Go.wp_at_succ
set_option maxRecDepth 20000 in
set_option maxHeartbeats 4000000 in
theorem loads_any (x y z : Int) (ov : Value) (la : List OI) (w : World) (ha : SAt w ov la) (hT : Tab w) (hT0 : 0 < w.heap.size) :
    Calls Tryd.prog 4 #[.agg #[.int .i64 x, .int .i64 y, .int .i64 z, ov]] w fun e w' => e = .returned (.bool true) ∧ Fr [] w w' := by
  have HA := mkHid ha
  have hl := ha.short
  obtain ⟨p, c, rfl, -⟩ := ha.at_
  have HTb : Hid (∀ V, Hid (Fr [] w V) → Tab V) := fun V hV => hT.fr hV.out hT0
  obtain ⟨W1, hW1⟩ : ∃ W1, W1 = w.alloc (.cells #[.int .i64 x, .int .i64 y, .int .i64 z, .slice p la.length c] 38) := ⟨_, rfl⟩
  have F1 : Hid (Fr [] w W1) := by rw [hW1]; exact Fr.alloc [] _ _
  have hb1 : W1.heap[w.heap.size]? = some (.cells #[.int .i64 x, .int .i64 y, .int .i64 z, .slice p la.length c] 38 (0, 0)) := by rw [hW1]; exact heap_alloc_new _ _
  have HB1 := mkHid hb1
  have HHd := mkHid (hand_any x y z (.slice p la.length c) la W1 (HA.out.idle F1.out))
  have a0 : W1.cell? ⟨w.heap.size, 0, none⟩ = some (.int .i64 x) := by rw [cell_in hb1]; rfl
  have a1 : W1.cell? ⟨w.heap.size, 1, none⟩ = some (.int .i64 y) := by rw [cell_in hb1]; rfl
  have a2 : W1.cell? ⟨w.heap.size, 2, none⟩ = some (.int .i64 z) := by rw [cell_in hb1]; rfl
  have a3 : W1.cell? ⟨w.heap.size, 3, none⟩ = some (.slice p la.length c) := by rw [cell_in hb1]; rfl
  clear ha hb1 hT
  go_enter Tryd.func4, Tryd.ntmps4
  go_wp2_with fail
  rw [← hW1]
  clear hW1 a0 a1 a2 a3
  refine Calls.mono HHd.out ?_
  rintro e w2 ⟨G, C, gs, rfl, hgk, hHd⟩
  clear HHd
  have hgl : gs.length = la.length := by have := congrArg List.length hgk; simpa using this
  have hgs : ∀ x ∈ gs, x.slots.length ≤ 17592186043904 := fun x hx => by
    have h1 : hgKey x ∈ la.map oiKey := by rw [← hgk]; exact List.mem_map_of_mem hx
    obtain ⟨o, ho, he⟩ := List.mem_map.1 h1
    have e2 : o.slots = x.slots := by simp only [oiKey, hgKey, Prod.mk.injEq] at he; exact he.2.2.2
    rw [← e2]
    exact (HA.out.slots o ho).short
  have hlf2 := hHd.lf
  have hlow : ∀ b ∈ G :: gs.map HG.g, W1.heap.size ≤ b ∧ b < w2.heap.size := fun b hb => by
    rcases List.mem_cons.1 hb with e | e
    · have := hHd.row.lt b (by rw [e]; rfl); omega
    · obtain ⟨xx, h1, rfl⟩ := List.mem_map.1 e
      have := (hHd.slots xx h1).lt xx.g rfl; omega
  obtain ⟨W3, hW3⟩ : ∃ W3, W3 = w2.alloc (.cells #[.int .i64 x, .int .i64 y, .int .i64 z, .slice (some ⟨G, 0, none⟩) la.length C] 38) := ⟨_, rfl⟩
  have F3' : Fr [] w2 W3 := by rw [hW3]; exact Fr.alloc [] _ _
  have F3 : Fr [] w W3 := (F1.out.trans hHd.fr (by simp)).trans F3' (by simp)
  have hB3 : W3.heap[w2.heap.size]? = some (.cells #[.int .i64 x, .int .i64 y, .int .i64 z, .slice (some ⟨G, 0, none⟩) la.length C] 38 (0, 0)) := by rw [hW3]; exact heap_alloc_new _ _
  have hsat := (hHd.sat (by omega) hgs).idle F3'
  rw [hgl] at hsat
  have HLd := mkHid (Load_tells x y z _ _ W3 hsat (HTb.out W3 F3) (by have := F3.size; omega))
  rw [handKey, hgk] at HLd
  have HB3 := mkHid hB3
  have HG2 := mkHid (And.intro hlf2 (And.intro hlow (And.intro hgs hgk)))
  have HF3 := mkHid F3
  have HF3' := mkHid F3'
  have HFh := mkHid hHd.fr
  have hs32 : w2.heap.size < W3.heap.size := lt_of_heap hB3
  clear hHd hgk hgs hlf2 hlow F3' F3 hB3 hsat
  go_wp2_with fail
  rw [← hW3]
  clear hW3
  refine Calls.mono HLd.out ?_
  rintro e w4 ⟨hv, n, nl, ra, rb, sx, sy, sz, ks, rfl, hpt, hsp, htl, hf4⟩
  clear HLd
  have F4 : Hid (Fr [] w w4) := HF3.out.trans hf4 (by simp)
  have bs4 : w4.heap[w.heap.size]? = some (.cells #[.int .i64 x, .int .i64 y, .int .i64 z, .slice p la.length c] 38 (0, 0)) := by
    have h1 : Fr [] W1 w4 := (HFh.out.trans HF3'.out (by simp)).trans hf4 (by simp)
    exact (h1.block _ (lt_of_heap HB1.out) (by simp)).trans HB1.out
  have a0 : w4.cell? ⟨w.heap.size, 0, none⟩ = some (.int .i64 x) := by rw [cell_in bs4]; rfl
  have a1 : w4.cell? ⟨w.heap.size, 1, none⟩ = some (.int .i64 y) := by rw [cell_in bs4]; rfl
  have a2 : w4.cell? ⟨w.heap.size, 2, none⟩ = some (.int .i64 z) := by rw [cell_in bs4]; rfl
  have a3 : w4.cell? ⟨w.heap.size, 3, none⟩ = some (.slice p la.length c) := by rw [cell_in bs4]; rfl
  have HRl := mkHid (rLoad_tells x y z _ la w4 (HA.out.idle F4.out))
  have HBS4 := mkHid bs4
  have HF4 := mkHid hf4
  clear bs4 hf4
  go_wp2_with fail
  refine Calls.mono HRl.out ?_
  rintro e w5 ⟨rv, n', nl', ra', rb', sx', sy', sz', ks', rfl, hptr, hspr, htlr, hf5⟩
  clear HRl a0 a1 a2 a3
  obtain ⟨rfl, rfl, rfl, rfl, rfl, rfl, rfl, rfl⟩ := hsp.one hspr
  have hn0 : 0 ≤ n ∧ n ≤ 27 := by rcases hsp with h | h | h <;> omega
  have F5 : Hid (Fr [] w w5) := F4.out.trans hf5 (by simp)
  have HF5 := mkHid hf5
  have bs5 := (hf5.block _ (lt_of_heap HBS4.out) (by simp)).trans HBS4.out
  have a0 : w5.cell? ⟨w.heap.size, 0, none⟩ = some (.int .i64 x) := by rw [cell_in bs5]; rfl
  have a1 : w5.cell? ⟨w.heap.size, 1, none⟩ = some (.int .i64 y) := by rw [cell_in bs5]; rfl
  have a2 : w5.cell? ⟨w.heap.size, 2, none⟩ = some (.int .i64 z) := by rw [cell_in bs5]; rfl
  have a3 : w5.cell? ⟨w.heap.size, 3, none⟩ = some (.slice p la.length c) := by rw [cell_in bs5]; rfl
  have HLf := mkHid (left_any x y z _ la gs G C w w5 HA.out HG2.out.2.2.2 (HG2.out.1.idle ((HF3'.out.trans HF4.out (by simp)).trans hf5 (by simp))) F5.out (fun b hb => by have := (HG2.out.2.1 b hb).1; have := F1.out.size; omega))
  have HNm := mkHid fun V => num_any n V (by omega) (by omega)
  have HTP := mkHid htl
  have HTR := mkHid htlr
  clear hsp hspr htl htlr hf5 bs5
  rcases hpt with ⟨rfl, rfl⟩ | ⟨rfl, A, rfl⟩
  · rcases hptr with ⟨-, rfl⟩ | ⟨hh, -⟩
    rotate_left
    · cases hh
    go_wp2_with (go_at_call 11; refine Calls.mono (HNm.out _) ?_; rintro e w' ⟨rfl, hw'⟩; rw [hw']; clear hw' w')
    refine Calls.mono HLf.out ?_
    rintro e w6 ⟨rfl, hlf6, hfr6⟩
    have HLF6 := mkHid hlf6
    have F6 : Hid (Fr [] w w6) := F5.out.trans hfr6 (fun b hb => by right; have := (HG2.out.2.1 b hb).1; have := F1.out.size; omega)
    have HAP : Hid (Aft W3.heap.size w4 w6) := ((Aft.refl _ _).fr HF5.out).step hfr6 (fun b hb => by have := (HG2.out.2.1 b hb).2; omega)
    have HAR : Hid (Aft w4.heap.size w5 w6) := (Aft.refl _ _).step hfr6 (fun b hb => by have := (HG2.out.2.1 b hb).2; have := HF4.out.size; omega)
    have HRmP : Hid (∀ V, Hid (Fr [] w6 V) → Calls Tryd.prog 20 #[.pointer none] V fun e w' => e = .returned (.tuple #[.int .i64 ra, .int .i64 rb]) ∧ Hid (Fr [] w6 w')) := fun V hV => Calls.mono (HTP.out.room V (HAP.out.fr hV.out)) (by rintro e w' ⟨rfl, hf⟩; exact ⟨rfl, hV.out.trans hf (by simp)⟩)
    have HRmR : Hid (∀ V, Hid (Fr [] w6 V) → Calls Tryd.prog 21 #[.pointer none] V fun e w' => e = .returned (.tuple #[.int .i64 ra, .int .i64 rb]) ∧ Hid (Fr [] w6 w')) := fun V hV => Calls.mono (HTR.out.room V (HAR.out.fr hV.out)) (by rintro e w' ⟨rfl, hf⟩; exact ⟨rfl, hV.out.trans hf (by simp)⟩)
    have HStP : Hid (∀ V, Hid (Fr [] w6 V) → Calls Tryd.prog 23 #[.pointer none] V fun e w' => ∃ ov ls, e = .returned (.agg #[.int .i64 sx, .int .i64 sy, .int .i64 sz, ov]) ∧ Hid (SAt w' ov ls ∧ ls.map oiKey = ks) ∧ Hid (Fr [] V w') ∧ Hid (Fr [] w6 w')) := fun V hV => Calls.mono (HTP.out.state V (HAP.out.fr hV.out)) (by rintro e w' ⟨ov, ls, rfl, h1, h2, hf⟩; exact ⟨ov, ls, rfl, ⟨h1, h2⟩, hf, hV.out.trans hf (by simp)⟩)
    have HStR : Hid (∀ V, Hid (Fr [] w6 V) → Calls Tryd.prog 24 #[.pointer none] V fun e w' => ∃ ov ls, e = .returned (.agg #[.int .i64 sx, .int .i64 sy, .int .i64 sz, ov]) ∧ Hid (SAt w' ov ls ∧ ls.map oiKey = ks) ∧ Hid (Fr [] V w') ∧ Hid (Fr [] w6 w')) := fun V hV => Calls.mono (HTR.out.state V (HAR.out.fr hV.out)) (by rintro e w' ⟨ov, ls, rfl, h1, h2, hf⟩; exact ⟨ov, ls, rfl, ⟨h1, h2⟩, hf, hV.out.trans hf (by simp)⟩)
    have HSm : Hid (∀ (V : World) (oa ob : Value) (a b : List OI), SAt V oa a → SAt V ob b → a.map oiKey = ks → b.map oiKey = ks → Calls Tryd.prog 22 #[.agg #[.int .i64 sx, .int .i64 sy, .int .i64 sz, oa], .agg #[.int .i64 sx, .int .i64 sy, .int .i64 sz, ob]] V fun e w' => e = .returned (.bool true) ∧ Hid (Fr [] V w')) := fun V oa ob a b h1 h2 h3 h4 => same_call sx sy sz oa ob a b ks V h1 h2 h3 h4
    have HGiv : Hid (∀ V, Hid (Fr [] w6 V) → V.cell? ⟨w2.heap.size, 0, none⟩ = some (.int .i64 x) ∧ V.cell? ⟨w2.heap.size, 1, none⟩ = some (.int .i64 y) ∧ V.cell? ⟨w2.heap.size, 2, none⟩ = some (.int .i64 z) ∧ V.cell? ⟨w2.heap.size, 3, none⟩ = some (.slice (some ⟨G, 0, none⟩) la.length C)) := by
      intro V hV
      have h35 : Fr [] W3 w5 := HF4.out.trans HF5.out (by simp)
      have h1 := (h35.block _ (lt_of_heap HB3.out) (by simp)).trans HB3.out
      have h2 := (hfr6.block _ (lt_of_heap h1) (fun hb => by have := (HG2.out.2.1 _ hb).2; omega)).trans h1
      have h3 := (hV.out.block _ (lt_of_heap h2) (by simp)).trans h2
      exact ⟨by rw [cell_in h3]; rfl, by rw [cell_in h3]; rfl, by rw [cell_in h3]; rfl, by rw [cell_in h3]; rfl⟩
    have H66 : Hid (Fr [] w6 w6) := Fr.refl _ _
    clear a0 a1 a2 a3 hlf6 HLf HTP HTR
    go_wp2_with fail
    refine Calls.mono (HRmP.out w6 H66) ?_
    rintro e w7 ⟨rfl, F7⟩
    go_wp2_with fail
    refine Calls.mono (HRmR.out w7 F7) ?_
    rintro e w8 ⟨rfl, F8⟩
    go_wp2_with fail
    refine Calls.mono (HStP.out w8 F8) ?_
    rintro e w9 ⟨oa, lsa, rfl, sa, fa, F9⟩
    go_wp2_with fail
    refine Calls.mono (HStR.out w9 F9) ?_
    rintro e w10 ⟨ob, lsb, rfl, sb, fb, F10⟩
    go_wp2_with fail
    refine Calls.mono (HSm.out w10 oa ob lsa lsb (sa.out.1.idle fb.out) sb.out.1 sa.out.2 sb.out.2) ?_
    rintro e w11 ⟨rfl, f11⟩
    have F11 : Hid (Fr [] w6 w11) := F10.out.trans f11.out (by simp)
    obtain ⟨g0, g1, g2, g3⟩ := HGiv.out w11 F11
    have hsat11 := ((HLF6.out.sat (C := C) (by omega) HG2.out.2.2.1).idle F11.out)
    rw [hgl] at hsat11
    have HRl2 := mkHid (rLoad_tells x y z _ _ w11 hsat11)
    have HS11 := mkHid hsat11
    clear hsat11 sa sb fa fb f11
    go_wp2_with fail
    refine Calls.mono HRl2.out ?_
    rintro e w12 ⟨rv2, m, nl2, ra2, rb2, tx, ty, tz, kt, rfl, hptr2, hspr2, htlr2, hf12⟩
    clear HRl2 g0 g1 g2 g3
    have F12 : Hid (Fr [] w6 w12) := F11.out.trans hf12 (by simp)
    obtain ⟨g0, g1, g2, g3⟩ := HGiv.out w12 F12
    have HLd2 := mkHid (Load_tells x y z _ _ w12 (HS11.out.idle hf12) (HTb.out w12 (F6.out.trans F12.out (by simp))) (by have := F6.out.size; have := F12.out.size; omega))
    go_wp2_with fail
    refine Calls.mono HLd2.out ?_
    rintro e w13 ⟨hv2, m', nl2', ra2', rb2', tx', ty', tz', kt', rfl, hpt2, hsp2, htl2, hf13⟩
    clear HLd2 g0 g1 g2 g3
    obtain ⟨rfl, rfl, rfl, rfl, rfl, rfl, rfl, rfl⟩ := hsp2.one hspr2
    have hm0 : 0 ≤ m' ∧ m' ≤ 27 := by rcases hsp2 with h | h | h <;> omega
    have F13 : Hid (Fr [] w6 w13) := F12.out.trans hf13 (by simp)
    have HNm2 := mkHid fun V => num_any m' V (by omega) (by omega)
    have HTP2 := mkHid htl2
    have HTR2 := mkHid htlr2
    have HSm2 : Hid (∀ (V : World) (oa ob : Value) (a b : List OI), SAt V oa a → SAt V ob b → a.map oiKey = kt' → b.map oiKey = kt' → Calls Tryd.prog 22 #[.agg #[.int .i64 tx', .int .i64 ty', .int .i64 tz', oa], .agg #[.int .i64 tx', .int .i64 ty', .int .i64 tz', ob]] V fun e w' => e = .returned (.bool true) ∧ Hid (Fr [] V w')) := fun V oa ob a b h1 h2 h3 h4 => same_call tx' ty' tz' oa ob a b kt' V h1 h2 h3 h4
    have HA2P : Hid (∀ V, Hid (Fr [] w13 V) → Aft w12.heap.size w13 V) := fun V hV => (Aft.refl _ _).fr hV.out
    have HA2R : Hid (∀ V, Hid (Fr [] w13 V) → Aft w11.heap.size w12 V) := fun V hV => ((Aft.refl _ _).fr hf13).fr hV.out
    have H1313 : Hid (Fr [] w13 w13) := Fr.refl _ _
    have HEnd : Hid (∀ V, Hid (Fr [] w13 V) → Fr [] w V) := fun V hV => (F6.out.trans F13.out (by simp)).trans hV.out (by simp)
    have H613 : Hid (∀ V, Hid (Fr [] w13 V) → Hid (Fr [] w6 V)) := fun V hV => F13.out.trans hV.out (by simp)
    clear hsp2 hspr2 htl2 htlr2 hf12 hf13 HRmP HRmR HGiv HG2 HLF6 HAP HAR
    have HPt2 := mkHid (And.intro hpt2 hptr2)
    obtain ⟨hpt3, hptr3⟩ := HPt2.out
    clear hpt2 hptr2 HPt2
    rcases hpt3 with ⟨rfl, rfl⟩ | ⟨rfl, A2, rfl⟩
    · rcases hptr3 with ⟨-, rfl⟩ | ⟨hh, -⟩
      rotate_left
      · cases hh
      go_wp2_with (go_at_call 11; refine Calls.mono (HNm2.out _) ?_; rintro e w' ⟨rfl, hw'⟩; rw [hw']; clear hw' w')
      refine Calls.mono (HTP2.out.state w13 (HA2P.out w13 H1313)) ?_
      rintro e w14 ⟨oc, lsc, rfl, sc1, sc2, fc⟩
      have F14 : Hid (Fr [] w13 w14) := fc
      go_wp2_with fail
      refine Calls.mono (HTR2.out.state w14 (HA2R.out w14 F14)) ?_
      rintro e w15 ⟨od, lsd, rfl, sd1, sd2, fd⟩
      have F15 : Hid (Fr [] w13 w15) := F14.out.trans fd (by simp)
      have HS2 := mkHid (HSm2.out w15 oc od lsc lsd (sc1.idle fd) sd1 sc2 sd2)
      clear sc1 sc2 sd1 sd2 fc fd
      go_wp2_with fail
      refine Calls.mono HS2.out ?_
      rintro e w16 ⟨rfl, f16⟩
      have F16 : Hid (Fr [] w13 w16) := F15.out.trans f16.out (by simp)
      go_wp2_with fail
      refine Calls.mono (HStP.out w16 (H613.out w16 F16)) ?_
      rintro e w17 ⟨oe, lse, rfl, se, fe, F17'⟩
      have F17 : Hid (Fr [] w13 w17) := F16.out.trans fe.out (by simp)
      go_wp2_with fail
      refine Calls.mono (HStR.out w17 F17') ?_
      rintro e w18 ⟨og, lsg, rfl, sg, fg, F18'⟩
      have F18 : Hid (Fr [] w13 w18) := F17.out.trans fg.out (by simp)
      have HS3 := mkHid (HSm.out w18 oe og lse lsg (se.out.1.idle fg.out) sg.out.1 se.out.2 sg.out.2)
      go_wp2_with fail
      refine Calls.mono HS3.out ?_
      rintro e w19 ⟨rfl, f19⟩
      have F19 : Hid (Fr [] w13 w19) := F18.out.trans f19.out (by simp)
      go_wp2_with fail
      go_ret
      exact ⟨rfl, HEnd.out w19 F19⟩
    · rcases hptr3 with ⟨hh, -⟩ | ⟨-, A3, rfl⟩
      · cases hh
      go_wp2_with (go_at_call 11; refine Calls.mono (HNm2.out _) ?_; rintro e w' ⟨rfl, hw'⟩; rw [hw']; clear hw' w')
      refine Calls.mono (HTP2.out.state w13 (HA2P.out w13 H1313)) ?_
      rintro e w14 ⟨oc, lsc, rfl, sc1, sc2, fc⟩
      have F14 : Hid (Fr [] w13 w14) := fc
      go_wp2_with fail
      refine Calls.mono (HTR2.out.state w14 (HA2R.out w14 F14)) ?_
      rintro e w15 ⟨od, lsd, rfl, sd1, sd2, fd⟩
      have F15 : Hid (Fr [] w13 w15) := F14.out.trans fd (by simp)
      have HS2 := mkHid (HSm2.out w15 oc od lsc lsd (sc1.idle fd) sd1 sc2 sd2)
      clear sc1 sc2 sd1 sd2 fc fd
      go_wp2_with fail
      refine Calls.mono HS2.out ?_
      rintro e w16 ⟨rfl, f16⟩
      have F16 : Hid (Fr [] w13 w16) := F15.out.trans f16.out (by simp)
      go_wp2_with fail
      refine Calls.mono (HStP.out w16 (H613.out w16 F16)) ?_
      rintro e w17 ⟨oe, lse, rfl, se, fe, F17'⟩
      have F17 : Hid (Fr [] w13 w17) := F16.out.trans fe.out (by simp)
      go_wp2_with fail
      refine Calls.mono (HStR.out w17 F17') ?_
      rintro e w18 ⟨og, lsg, rfl, sg, fg, F18'⟩
      have F18 : Hid (Fr [] w13 w18) := F17.out.trans fg.out (by simp)
      have HS3 := mkHid (HSm.out w18 oe og lse lsg (se.out.1.idle fg.out) sg.out.1 se.out.2 sg.out.2)
      go_wp2_with fail
      refine Calls.mono HS3.out ?_
      rintro e w19 ⟨rfl, f19⟩
      have F19 : Hid (Fr [] w13 w19) := F18.out.trans f19.out (by simp)
      go_wp2_with fail
      go_ret
      exact ⟨rfl, HEnd.out w19 F19⟩
  · rcases hptr with ⟨hh, -⟩ | ⟨-, A', rfl⟩
    · cases hh
    go_wp2_with (go_at_call 11; refine Calls.mono (HNm.out _) ?_; rintro e w' ⟨rfl, hw'⟩; rw [hw']; clear hw' w')
    refine Calls.mono HLf.out ?_
    rintro e w6 ⟨rfl, hlf6, hfr6⟩
    have HLF6 := mkHid hlf6
    have F6 : Hid (Fr [] w w6) := F5.out.trans hfr6 (fun b hb => by right; have := (HG2.out.2.1 b hb).1; have := F1.out.size; omega)
    have HAP : Hid (Aft W3.heap.size w4 w6) := ((Aft.refl _ _).fr HF5.out).step hfr6 (fun b hb => by have := (HG2.out.2.1 b hb).2; omega)
    have HAR : Hid (Aft w4.heap.size w5 w6) := (Aft.refl _ _).step hfr6 (fun b hb => by have := (HG2.out.2.1 b hb).2; have := HF4.out.size; omega)
    have HRmP : Hid (∀ V, Hid (Fr [] w6 V) → Calls Tryd.prog 20 #[.pointer (some ⟨A, 0, none⟩)] V fun e w' => e = .returned (.tuple #[.int .i64 ra, .int .i64 rb]) ∧ Hid (Fr [] w6 w')) := fun V hV => Calls.mono (HTP.out.room V (HAP.out.fr hV.out)) (by rintro e w' ⟨rfl, hf⟩; exact ⟨rfl, hV.out.trans hf (by simp)⟩)
    have HRmR : Hid (∀ V, Hid (Fr [] w6 V) → Calls Tryd.prog 21 #[.pointer (some ⟨A', 0, none⟩)] V fun e w' => e = .returned (.tuple #[.int .i64 ra, .int .i64 rb]) ∧ Hid (Fr [] w6 w')) := fun V hV => Calls.mono (HTR.out.room V (HAR.out.fr hV.out)) (by rintro e w' ⟨rfl, hf⟩; exact ⟨rfl, hV.out.trans hf (by simp)⟩)
    have HStP : Hid (∀ V, Hid (Fr [] w6 V) → Calls Tryd.prog 23 #[.pointer (some ⟨A, 0, none⟩)] V fun e w' => ∃ ov ls, e = .returned (.agg #[.int .i64 sx, .int .i64 sy, .int .i64 sz, ov]) ∧ Hid (SAt w' ov ls ∧ ls.map oiKey = ks) ∧ Hid (Fr [] V w') ∧ Hid (Fr [] w6 w')) := fun V hV => Calls.mono (HTP.out.state V (HAP.out.fr hV.out)) (by rintro e w' ⟨ov, ls, rfl, h1, h2, hf⟩; exact ⟨ov, ls, rfl, ⟨h1, h2⟩, hf, hV.out.trans hf (by simp)⟩)
    have HStR : Hid (∀ V, Hid (Fr [] w6 V) → Calls Tryd.prog 24 #[.pointer (some ⟨A', 0, none⟩)] V fun e w' => ∃ ov ls, e = .returned (.agg #[.int .i64 sx, .int .i64 sy, .int .i64 sz, ov]) ∧ Hid (SAt w' ov ls ∧ ls.map oiKey = ks) ∧ Hid (Fr [] V w') ∧ Hid (Fr [] w6 w')) := fun V hV => Calls.mono (HTR.out.state V (HAR.out.fr hV.out)) (by rintro e w' ⟨ov, ls, rfl, h1, h2, hf⟩; exact ⟨ov, ls, rfl, ⟨h1, h2⟩, hf, hV.out.trans hf (by simp)⟩)
    have HSm : Hid (∀ (V : World) (oa ob : Value) (a b : List OI), SAt V oa a → SAt V ob b → a.map oiKey = ks → b.map oiKey = ks → Calls Tryd.prog 22 #[.agg #[.int .i64 sx, .int .i64 sy, .int .i64 sz, oa], .agg #[.int .i64 sx, .int .i64 sy, .int .i64 sz, ob]] V fun e w' => e = .returned (.bool true) ∧ Hid (Fr [] V w')) := fun V oa ob a b h1 h2 h3 h4 => same_call sx sy sz oa ob a b ks V h1 h2 h3 h4
    have HGiv : Hid (∀ V, Hid (Fr [] w6 V) → V.cell? ⟨w2.heap.size, 0, none⟩ = some (.int .i64 x) ∧ V.cell? ⟨w2.heap.size, 1, none⟩ = some (.int .i64 y) ∧ V.cell? ⟨w2.heap.size, 2, none⟩ = some (.int .i64 z) ∧ V.cell? ⟨w2.heap.size, 3, none⟩ = some (.slice (some ⟨G, 0, none⟩) la.length C)) := by
      intro V hV
      have h35 : Fr [] W3 w5 := HF4.out.trans HF5.out (by simp)
      have h1 := (h35.block _ (lt_of_heap HB3.out) (by simp)).trans HB3.out
      have h2 := (hfr6.block _ (lt_of_heap h1) (fun hb => by have := (HG2.out.2.1 _ hb).2; omega)).trans h1
      have h3 := (hV.out.block _ (lt_of_heap h2) (by simp)).trans h2
      exact ⟨by rw [cell_in h3]; rfl, by rw [cell_in h3]; rfl, by rw [cell_in h3]; rfl, by rw [cell_in h3]; rfl⟩
    have H66 : Hid (Fr [] w6 w6) := Fr.refl _ _
    clear a0 a1 a2 a3 hlf6 HLf HTP HTR
    go_wp2_with fail
    refine Calls.mono (HRmP.out w6 H66) ?_
    rintro e w7 ⟨rfl, F7⟩
    go_wp2_with fail
    refine Calls.mono (HRmR.out w7 F7) ?_
    rintro e w8 ⟨rfl, F8⟩
    go_wp2_with fail
    refine Calls.mono (HStP.out w8 F8) ?_
    rintro e w9 ⟨oa, lsa, rfl, sa, fa, F9⟩
    go_wp2_with fail
    refine Calls.mono (HStR.out w9 F9) ?_
    rintro e w10 ⟨ob, lsb, rfl, sb, fb, F10⟩
    go_wp2_with fail
    refine Calls.mono (HSm.out w10 oa ob lsa lsb (sa.out.1.idle fb.out) sb.out.1 sa.out.2 sb.out.2) ?_
    rintro e w11 ⟨rfl, f11⟩
    have F11 : Hid (Fr [] w6 w11) := F10.out.trans f11.out (by simp)
    obtain ⟨g0, g1, g2, g3⟩ := HGiv.out w11 F11
    have hsat11 := ((HLF6.out.sat (C := C) (by omega) HG2.out.2.2.1).idle F11.out)
    rw [hgl] at hsat11
    have HRl2 := mkHid (rLoad_tells x y z _ _ w11 hsat11)
    have HS11 := mkHid hsat11
    clear hsat11 sa sb fa fb f11
    go_wp2_with fail
    refine Calls.mono HRl2.out ?_
    rintro e w12 ⟨rv2, m, nl2, ra2, rb2, tx, ty, tz, kt, rfl, hptr2, hspr2, htlr2, hf12⟩
    clear HRl2 g0 g1 g2 g3
    have F12 : Hid (Fr [] w6 w12) := F11.out.trans hf12 (by simp)
    obtain ⟨g0, g1, g2, g3⟩ := HGiv.out w12 F12
    have HLd2 := mkHid (Load_tells x y z _ _ w12 (HS11.out.idle hf12) (HTb.out w12 (F6.out.trans F12.out (by simp))) (by have := F6.out.size; have := F12.out.size; omega))
    go_wp2_with fail
    refine Calls.mono HLd2.out ?_
    rintro e w13 ⟨hv2, m', nl2', ra2', rb2', tx', ty', tz', kt', rfl, hpt2, hsp2, htl2, hf13⟩
    clear HLd2 g0 g1 g2 g3
    obtain ⟨rfl, rfl, rfl, rfl, rfl, rfl, rfl, rfl⟩ := hsp2.one hspr2
    have hm0 : 0 ≤ m' ∧ m' ≤ 27 := by rcases hsp2 with h | h | h <;> omega
    have F13 : Hid (Fr [] w6 w13) := F12.out.trans hf13 (by simp)
    have HNm2 := mkHid fun V => num_any m' V (by omega) (by omega)
    have HTP2 := mkHid htl2
    have HTR2 := mkHid htlr2
    have HSm2 : Hid (∀ (V : World) (oa ob : Value) (a b : List OI), SAt V oa a → SAt V ob b → a.map oiKey = kt' → b.map oiKey = kt' → Calls Tryd.prog 22 #[.agg #[.int .i64 tx', .int .i64 ty', .int .i64 tz', oa], .agg #[.int .i64 tx', .int .i64 ty', .int .i64 tz', ob]] V fun e w' => e = .returned (.bool true) ∧ Hid (Fr [] V w')) := fun V oa ob a b h1 h2 h3 h4 => same_call tx' ty' tz' oa ob a b kt' V h1 h2 h3 h4
    have HA2P : Hid (∀ V, Hid (Fr [] w13 V) → Aft w12.heap.size w13 V) := fun V hV => (Aft.refl _ _).fr hV.out
    have HA2R : Hid (∀ V, Hid (Fr [] w13 V) → Aft w11.heap.size w12 V) := fun V hV => ((Aft.refl _ _).fr hf13).fr hV.out
    have H1313 : Hid (Fr [] w13 w13) := Fr.refl _ _
    have HEnd : Hid (∀ V, Hid (Fr [] w13 V) → Fr [] w V) := fun V hV => (F6.out.trans F13.out (by simp)).trans hV.out (by simp)
    have H613 : Hid (∀ V, Hid (Fr [] w13 V) → Hid (Fr [] w6 V)) := fun V hV => F13.out.trans hV.out (by simp)
    clear hsp2 hspr2 htl2 htlr2 hf12 hf13 HRmP HRmR HGiv HG2 HLF6 HAP HAR
    have HPt2 := mkHid (And.intro hpt2 hptr2)
    obtain ⟨hpt3, hptr3⟩ := HPt2.out
    clear hpt2 hptr2 HPt2
    rcases hpt3 with ⟨rfl, rfl⟩ | ⟨rfl, A2, rfl⟩
    · rcases hptr3 with ⟨-, rfl⟩ | ⟨hh, -⟩
      rotate_left
      · cases hh
      go_wp2_with (go_at_call 11; refine Calls.mono (HNm2.out _) ?_; rintro e w' ⟨rfl, hw'⟩; rw [hw']; clear hw' w')
      refine Calls.mono (HTP2.out.state w13 (HA2P.out w13 H1313)) ?_
      rintro e w14 ⟨oc, lsc, rfl, sc1, sc2, fc⟩
      have F14 : Hid (Fr [] w13 w14) := fc
      go_wp2_with fail
      refine Calls.mono (HTR2.out.state w14 (HA2R.out w14 F14)) ?_
      rintro e w15 ⟨od, lsd, rfl, sd1, sd2, fd⟩
      have F15 : Hid (Fr [] w13 w15) := F14.out.trans fd (by simp)
      have HS2 := mkHid (HSm2.out w15 oc od lsc lsd (sc1.idle fd) sd1 sc2 sd2)
      clear sc1 sc2 sd1 sd2 fc fd
      go_wp2_with fail
      refine Calls.mono HS2.out ?_
      rintro e w16 ⟨rfl, f16⟩
      have F16 : Hid (Fr [] w13 w16) := F15.out.trans f16.out (by simp)
      go_wp2_with fail
      refine Calls.mono (HStP.out w16 (H613.out w16 F16)) ?_
      rintro e w17 ⟨oe, lse, rfl, se, fe, F17'⟩
      have F17 : Hid (Fr [] w13 w17) := F16.out.trans fe.out (by simp)
      go_wp2_with fail
      refine Calls.mono (HStR.out w17 F17') ?_
      rintro e w18 ⟨og, lsg, rfl, sg, fg, F18'⟩
      have F18 : Hid (Fr [] w13 w18) := F17.out.trans fg.out (by simp)
      have HS3 := mkHid (HSm.out w18 oe og lse lsg (se.out.1.idle fg.out) sg.out.1 se.out.2 sg.out.2)
      go_wp2_with fail
      refine Calls.mono HS3.out ?_
      rintro e w19 ⟨rfl, f19⟩
      have F19 : Hid (Fr [] w13 w19) := F18.out.trans f19.out (by simp)
      go_wp2_with fail
      go_ret
      exact ⟨rfl, HEnd.out w19 F19⟩
    · rcases hptr3 with ⟨hh, -⟩ | ⟨-, A3, rfl⟩
      · cases hh
      go_wp2_with (go_at_call 11; refine Calls.mono (HNm2.out _) ?_; rintro e w' ⟨rfl, hw'⟩; rw [hw']; clear hw' w')
      refine Calls.mono (HTP2.out.state w13 (HA2P.out w13 H1313)) ?_
      rintro e w14 ⟨oc, lsc, rfl, sc1, sc2, fc⟩
      have F14 : Hid (Fr [] w13 w14) := fc
      go_wp2_with fail
      refine Calls.mono (HTR2.out.state w14 (HA2R.out w14 F14)) ?_
      rintro e w15 ⟨od, lsd, rfl, sd1, sd2, fd⟩
      have F15 : Hid (Fr [] w13 w15) := F14.out.trans fd (by simp)
      have HS2 := mkHid (HSm2.out w15 oc od lsc lsd (sc1.idle fd) sd1 sc2 sd2)
      clear sc1 sc2 sd1 sd2 fc fd
      go_wp2_with fail
      refine Calls.mono HS2.out ?_
      rintro e w16 ⟨rfl, f16⟩
      have F16 : Hid (Fr [] w13 w16) := F15.out.trans f16.out (by simp)
      go_wp2_with fail
      refine Calls.mono (HStP.out w16 (H613.out w16 F16)) ?_
      rintro e w17 ⟨oe, lse, rfl, se, fe, F17'⟩
      have F17 : Hid (Fr [] w13 w17) := F16.out.trans fe.out (by simp)
      go_wp2_with fail
      refine Calls.mono (HStR.out w17 F17') ?_
      rintro e w18 ⟨og, lsg, rfl, sg, fg, F18'⟩
      have F18 : Hid (Fr [] w13 w18) := F17.out.trans fg.out (by simp)
      have HS3 := mkHid (HSm.out w18 oe og lse lsg (se.out.1.idle fg.out) sg.out.1 se.out.2 sg.out.2)
      go_wp2_with fail
      refine Calls.mono HS3.out ?_
      rintro e w19 ⟨rfl, f19⟩
      have F19 : Hid (Fr [] w13 w19) := F18.out.trans f19.out (by simp)
      go_wp2_with fail
      go_ret
      exact ⟨rfl, HEnd.out w19 F19⟩
end Go.Proofs.YtcoddjdicodmhaaDoor
