import Derived.Test.YtcodfojgilneaaaDoorHSlot
namespace Go.Proofs.YtcodfojgilneaaaDoor
open Go.RowKit
set_option linter.unusedVariables false
attribute [local go_sem ↓] Go.wp_at_zero Go.wp_at_succ
theorem Tab.fr {w w' : World} (h : Tab w) (hf : Fr [] w w') (h1 : 0 < w.heap.size) : Tab w' := h.keep hf h1 (by simp)
set_option maxRecDepth 20000 in
set_option maxHeartbeats 2000000 in
theorem Put_ok (oop i n f : Nat) (v : Int) (a : Nat) (l : Lay) (H H' : HS) (w : World) (h : Rep w a l H) (hb : (H.mem.length : Int) ≤ 1048576) (h1 : (1 : Int) ≤ oop) (h2 : (oop : Int) < H.seats.length)
    (h3 : (H.seats.getD oop (0, 0, 0)).2.1 ≠ 0) (h4 : (H.seats.getD oop (0, 0, 0)).1 + 1 < H.mem.length) (h5 : H.mem.getD ((H.seats.getD oop (0, 0, 0)).1 + 1) 0 = ((2 * n + f : Nat) : Int)) (hf : (f : Int) ≤ 1) (hi : (i : Int) < n) (hn : (n : Int) ≤ 8192) (hm : mayB v f = true) (hT : Tab w)
    (hset : ∀ W, Rep W a l H → Calls Tryd.prog 73 #[.pointer (some ⟨a, 0, none⟩), sv (H.seats.getD oop (0, 0, 0)), .int .i64 f, .int .i64 i, .int .i64 v] W fun e w' => e = .returned (.tuple #[]) ∧ Rep w' a l H' ∧ Nx a l l W w') :
    Calls Tryd.prog 29 #[.pointer (some ⟨a, 0, none⟩), .int .i64 oop, .int .i64 i, .int .i64 v] w fun e w' => e = .returned (.int .i64 0) ∧ Rep w' a l H' ∧ Nx a l l w w' := by
  have hal := h.lt a (by simp [foot])
  have HSO := mkHid (seatOf_yes oop a l H w h h1 h2 h3)
  obtain ⟨⟨p, L, t⟩, hs⟩ : ∃ s, s = H.seats.getD oop (0, 0, 0) := ⟨_, rfl⟩
  rw [← hs] at HSO h4 h5
  have HSET := mkHid hset
  rw [← hs] at HSET
  have HSH : Hid (∀ W, Rep W a l H → Calls Tryd.prog 71 #[.pointer (some ⟨a, 0, none⟩), .agg #[.int .i64 (p : Int), .int .i64 (L : Int), .int .i64 (t : Int)]] W fun e w' => e = .returned (.tuple #[.int .i64 (n : Int), .int .i64 (f : Int)]) ∧ Fr [] W w') := by
    intro W hW
    have := shape_of (p, L, t) (2 * n + f) a l H W hW h4 h5 hb
    rw [show (2 * n + f) / 2 = n from by omega, show (2 * n + f) % 2 = f from by omega] at this
    exact this
  have HMS : Hid (∀ W, Tab W → Calls Tryd.prog 72 #[.int .i64 v, .int .i64 f] W fun e w' => e = .returned (.bool true) ∧ w' = W) := by
    intro W hW
    have := mayStand_any v f W hW
    rw [hm] at this
    exact this
  have HR := mkHid h
  have HT := mkHid hT
  clear h hs hset hT hm h3 h5 h4 h2
  dsimp only [sv, I] at HSO HSET
  go_enter Tryd.func29, Tryd.ntmps29
  go_wp2_with fail
  refine Calls.mono HSO.out ?_
  rintro e w1 ⟨rfl, hf1⟩
  have hz1 := hf1.size
  have HF1 := mkHid hf1
  clear hf1 HSO
  go_wp2_with fail
  have F2 : Fr [] w (w1.alloc (.cells #[.int .i64 (p : Int), .int .i64 (L : Int), .int .i64 (t : Int)] 103)) := HF1.out.trans (Fr.alloc [] _ _) (by simp)
  refine Calls.mono (HSH.out _ (HR.out.keep F2 (by simp))) ?_
  rintro e w2 ⟨rfl, hf2⟩
  have HF2 := mkHid (F2.trans hf2 (by simp))
  have z2 := hf2.size
  have s0 := hf2.cell (p := ⟨w1.heap.size, 0, none⟩) (by simp) (by simp)
  have s1 := hf2.cell (p := ⟨w1.heap.size, 1, none⟩) (by simp) (by simp)
  have s2 := hf2.cell (p := ⟨w1.heap.size, 2, none⟩) (by simp) (by simp)
  simp only [World.cell?_alloc_new, List.getElem?_toArray, List.getElem?_cons_succ, List.getElem?_cons_zero] at s0 s1 s2
  clear hf2 F2 HSH
  go_wp2_with fail
  refine Calls.mono (HMS.out _ (HT.out.fr HF2.out (by omega))) ?_
  rintro e w3 ⟨rfl, rfl⟩
  clear HMS
  go_wp2_with fail
  refine Calls.mono (HSET.out _ (HR.out.keep HF2.out (by simp))) ?_
  rintro e w4 ⟨rfl, hr4, hx4⟩
  have HR4 := mkHid hr4
  have HX4 := mkHid ((Nx.frw (HF2.out.mono (by simp)) : Nx a l l w w3).trans hx4)
  clear hr4 hx4 HSET
  go_wp2
  go_ret
  exact ⟨rfl, HR4.out, HX4.out⟩
set_option maxRecDepth 20000 in
set_option maxHeartbeats 2000000 in
theorem At_ok (oop i n f : Nat) (v : Int) (a : Nat) (l : Lay) (H : HS) (w : World) (h : Rep w a l H) (hb : (H.mem.length : Int) ≤ 1048576) (h1 : (1 : Int) ≤ oop) (h2 : (oop : Int) < H.seats.length)
    (h3 : (H.seats.getD oop (0, 0, 0)).2.1 ≠ 0) (h4 : (H.seats.getD oop (0, 0, 0)).1 + 1 < H.mem.length) (h5 : H.mem.getD ((H.seats.getD oop (0, 0, 0)).1 + 1) 0 = ((2 * n + f : Nat) : Int)) (hf : (f : Int) ≤ 1) (hi : (i : Int) < n) (hn : (n : Int) ≤ 8192)
    (hget : ∀ W, Rep W a l H → Calls Tryd.prog 98 #[.pointer (some ⟨a, 0, none⟩), sv (H.seats.getD oop (0, 0, 0)), .int .i64 f, .int .i64 i] W fun e w' => e = .returned (.int .i64 v) ∧ Fr [] W w') :
    Calls Tryd.prog 47 #[.pointer (some ⟨a, 0, none⟩), .int .i64 oop, .int .i64 i] w fun e w' => e = .returned (.tuple #[.int .i64 v, .int .i64 0]) ∧ Fr [] w w' := by
  have hal := h.lt a (by simp [foot])
  have HSO := mkHid (seatOf_yes oop a l H w h h1 h2 h3)
  obtain ⟨⟨p, L, t⟩, hs⟩ : ∃ s, s = H.seats.getD oop (0, 0, 0) := ⟨_, rfl⟩
  rw [← hs] at HSO h4 h5
  have HSET := mkHid hget
  rw [← hs] at HSET
  have HSH : Hid (∀ W, Rep W a l H → Calls Tryd.prog 71 #[.pointer (some ⟨a, 0, none⟩), .agg #[.int .i64 (p : Int), .int .i64 (L : Int), .int .i64 (t : Int)]] W fun e w' => e = .returned (.tuple #[.int .i64 (n : Int), .int .i64 (f : Int)]) ∧ Fr [] W w') := by
    intro W hW
    have := shape_of (p, L, t) (2 * n + f) a l H W hW h4 h5 hb
    rw [show (2 * n + f) / 2 = n from by omega, show (2 * n + f) % 2 = f from by omega] at this
    exact this
  have HR := mkHid h
  clear h hs hget h3 h5 h4 h2
  dsimp only [sv, I] at HSO HSET
  go_enter Tryd.func47, Tryd.ntmps47
  go_wp2_with fail
  refine Calls.mono HSO.out ?_
  rintro e w1 ⟨rfl, hf1⟩
  have hz1 := hf1.size
  have HF1 := mkHid hf1
  clear hf1 HSO
  go_wp2_with fail
  have F2 : Fr [] w (w1.alloc (.cells #[.int .i64 (p : Int), .int .i64 (L : Int), .int .i64 (t : Int)] 103)) := HF1.out.trans (Fr.alloc [] _ _) (by simp)
  refine Calls.mono (HSH.out _ (HR.out.keep F2 (by simp))) ?_
  rintro e w2 ⟨rfl, hf2⟩
  have HF2 := mkHid (F2.trans hf2 (by simp))
  have z2 := hf2.size
  have s0 := hf2.cell (p := ⟨w1.heap.size, 0, none⟩) (by simp) (by simp)
  have s1 := hf2.cell (p := ⟨w1.heap.size, 1, none⟩) (by simp) (by simp)
  have s2 := hf2.cell (p := ⟨w1.heap.size, 2, none⟩) (by simp) (by simp)
  simp only [World.cell?_alloc_new, List.getElem?_toArray, List.getElem?_cons_succ, List.getElem?_cons_zero] at s0 s1 s2
  clear hf2 F2 HSH
  go_wp2_with fail
  refine Calls.mono (HSET.out _ (HR.out.keep HF2.out (by simp))) ?_
  rintro e w4 ⟨rfl, hf4⟩
  have HX4 := mkHid (HF2.out.trans hf4 (by simp))
  clear hf4 HSET
  go_wp2
  go_ret2
  exact ⟨rfl, HX4.out⟩
theorem Rep.orderAt {w : World} {a : Nat} {l : Lay} {H : HS} (h : Rep w a l H) (k : Nat) (hk : k < H.order.length) :
    ∃ g, l.po = some ⟨g, 0, none⟩ ∧ (∀ i, i < H.order.length → w.cell? ⟨g, i, none⟩ = some (.int .i64 (H.order.getD i 0 : Nat))) ∧ (∀ i, w.frozen? ⟨g, i, none⟩ = false) ∧ g ≠ a ∧ g < w.heap.size := by
  obtain ⟨g, hg, hc, hf, _, cur, hcur, _⟩ := own_at h.order k hk
  refine ⟨g, hg, fun i hi => ?_, hf, h.top_ne g (by simp [Lay.blocks, blk, hg]), lt_of_heap hcur⟩
  rw [hc i hi]; simp [I, hi]
theorem Rep.setOrder {w : World} {a : Nat} {l : Lay} {H : HS} {g : Nat} (h : Rep w a l H) (hg : l.po = some ⟨g, 0, none⟩) (i v : Nat) (w2 : World) (he : Eqw (w.setCell ⟨g, i, none⟩ (.int .i64 (v : Int))) w2) :
    Rep w2 a l { H with order := H.order.set i v } ∧ Nx a l l w w2 := by
  have hgb : g ∈ blk l.po := by rw [hg]; simp [blk]
  have hap := (h.apart g).2.2.1 hgb
  have hb := h.order
  rw [hg] at hb
  have hb1 := own_stored hb i (.int .i64 (v : Int))
  have e : (H.order.map I).set i (.int .i64 (v : Int)) = (H.order.set i v).map I := by rw [List.map_set]; rfl
  rw [e, ← hg] at hb1
  have h2 : Rep (w.setCell ⟨g, i, none⟩ (.int .i64 (v : Int))) a l { H with order := H.order.set i v } := by
    refine h.turnOrder (by simp) (fun k hk => set_else (fun e => ?_)) (by simpa using hb1)
    subst e
    rcases hk with h1 | h1 | h1 | h1
    · exact hap.1 h1
    · exact hap.2.1 h1
    · exact hap.2.2.1 h1
    · exact hap.2.2.2 h1
  have f1 : Fr (foot a l) w (w.setCell ⟨g, i, none⟩ (.int .i64 (v : Int))) := Fr.setCell _ _ _ (by simp [foot, Lay.blocks, hgb])
  exact ⟨h2.eqw he, (Nx.frw f1).eqw he⟩
end Go.Proofs.YtcodfojgilneaaaDoor
