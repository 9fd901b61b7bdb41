import Derived.Test.YtklfnjlenbgmoaaDoorPG15HLoadW
import Derived.BigQuiet
set_option linter.unusedVariables false
namespace Go.Proofs.YtklfnjlenbgmoaaDoor
open Go.RowKit
attribute [local go_sem ↓] Go.wp_at_zero Go.wp_at_succ
set_option maxRecDepth 20000 in
set_option maxHeartbeats 1000000 in
theorem load_ok (q : Nat) (cls : Int) (fmt : Nat) (ss : List Int) (v : Value) (a : Nat) (l : Lay) (H : HS) (M : MS) (w : World) (h : Rep w a l H) (hi : Inv H M) (hq : q < M.oops) (hf0 : (M.things.getD q noTh).there = false) (hf : fmt ≤ 1) (hn : ss.length ≤ 8192) (hr1 : H.count < H.oops) (hr2 : H.mem.length + lenN ss.length fmt ≤ H.words)
  (hmay : ∀ j, j < ss.length → mayB (ss.getD j 0) (fmt : Int) = true) (ho : Rd w v ss) (hbn : 0 < ss.length → ∀ g, v.ownBlock = some g → g ∉ foot a l) :
  Calls Tryd.prog 54 #[.pointer (some ⟨a, 0, none⟩), .agg #[.int .i64 ((q : Int) + 1), .int .i64 cls, .int .i64 (fmt : Int), v]] w fun e w' => e = .returned (.tuple #[]) ∧ ∃ l' H' M', Rep w' a l' H' ∧ Nx a l l' w w' ∧ Ld H M q cls fmt ss ss.length H' M' := by
 obtain ⟨p, c, rfl, hrow⟩ := ho.at_
 have hsm := hi.safe.small
 have hoo := hi.oops
 obtain ⟨M1, hld⟩ := ld_start hi q hq hf0 cls fmt ss hf hn hr1 hr2
 have hlay := lay_any (q + 1) ss.length fmt cls a l H (w.alloc (.cells #[.int .i64 ((q : Int) + 1), .int .i64 cls, .int .i64 (fmt : Int), .slice p ss.length c] 106)) (h.alloc _) hsm (by omega) (by have := hsm.oops; omega) (by omega) (by omega) hr2 hi.safe.seats (by have := hi.safe.order; omega) hi.safe.bits (by have := hi.safe.bl; omega)
 rw [show ((q + 1 : Nat) : Int) = (q : Int) + 1 from by omega] at hlay
 have HLay := mkHid hlay
 have HL0 := mkHid hld
 have HMay := mkHid hmay
 have hBn : w.heap.size ∉ foot a l := fun hb => by have := h.lt _ hb; omega
 have HRow : Hid (0 < ss.length → ∃ g off, p = some ⟨g, off, none⟩ ∧ g < w.heap.size ∧ g ∉ foot a l ∧ ∀ i, i < ss.length → w.cell? ⟨g, off + i, none⟩ = some (.int .i64 (ss.getD i 0))) := by
  intro hp
  obtain ⟨g, off, hg, hgl, hc⟩ := hrow hp
  exact ⟨g, off, hg, hgl, hbn hp g (by rw [hg]; rfl), hc⟩
 obtain ⟨W1, hW1⟩ : ∃ W1, W1 = w.alloc (.cells #[.int .i64 ((q : Int) + 1), .int .i64 cls, .int .i64 (fmt : Int), .slice p ss.length c] 106) := ⟨_, rfl⟩
 have HX1 : Hid (Nx a l l w W1) := by rw [hW1]; exact Nx.frw (Fr.alloc _ _ _)
 have hB1 : W1.heap[w.heap.size]? = some (.cells #[.int .i64 ((q : Int) + 1), .int .i64 cls, .int .i64 (fmt : Int), .slice p ss.length c] 106 (0, 0)) := by rw [hW1]; exact heap_alloc_new _ _
 have HB1 := mkHid hB1
 rw [← hW1] at HLay
 have hWs : W1.heap.size = w.heap.size + 1 := by rw [hW1]; simp
 have HWs := mkHid hWs
 clear h hi ho hbn hrow hmay hlay hld hB1 hWs hf0 hr2 hr1 hsm
 simp only [I] at HLay
 go_enter Tryd.func54, Tryd.ntmps54
 go_wp2_with fail
 rw [← hW1]
 clear hW1
 refine Calls.mono HLay.out ?_
 rintro e w2 ⟨rfl, l2, hr2, hx2⟩
 have hb2 := (hx2.1.block _ (lt_of_heap HB1.out) hBn).trans HB1.out
 have e3 : w2.cell? ⟨w.heap.size, 3, none⟩ = some (.slice p ss.length c) := by rw [cell_in hb2]; rfl
 have hz2 := lt_of_heap hb2
 have HR2 := mkHid (hr2.alloc (.cells #[.int .i64 (H.mem.length : Int), .int .i64 ((lenN ss.length fmt : Nat) : Int), .int .i64 (H.order.length : Int)] 103))
 have HX2 : Hid (Nx a l l2 w (w2.alloc (.cells #[.int .i64 (H.mem.length : Int), .int .i64 ((lenN ss.length fmt : Nat) : Int), .int .i64 (H.order.length : Int)] 103))) := (HX1.out.trans hx2).trans (Nx.frw (Fr.alloc _ _ _))
 have HBs : Hid ((w2.alloc (.cells #[.int .i64 (H.mem.length : Int), .int .i64 ((lenN ss.length fmt : Nat) : Int), .int .i64 (H.order.length : Int)] 103)).heap[w.heap.size]? = some (.cells #[.int .i64 ((q : Int) + 1), .int .i64 cls, .int .i64 (fmt : Int), .slice p ss.length c] 106 (0, 0)) ∧ (w2.alloc (.cells #[.int .i64 (H.mem.length : Int), .int .i64 ((lenN ss.length fmt : Nat) : Int), .int .i64 (H.order.length : Int)] 103)).heap[w2.heap.size]? = some (.cells #[.int .i64 (H.mem.length : Int), .int .i64 ((lenN ss.length fmt : Nat) : Int), .int .i64 (H.order.length : Int)] 103 (0, 0))) := ⟨by rw [Below.heap_alloc _ _ _ hz2]; exact hb2, heap_alloc_new _ _⟩
 have hn1 : w.heap.size ∉ foot a l2 := fun hb => by
  rcases hx2.2 _ hb with h1 | h1
  ·exact hBn h1
  ·have := HWs.out; omega
 have hn2 : w2.heap.size ∉ foot a l2 := fun hb => by have := hr2.lt _ hb; omega
 have HRow2 : Hid (0 < ss.length → ∃ g off, p = some ⟨g, off, none⟩ ∧ g < (w2.alloc (.cells #[.int .i64 (H.mem.length : Int), .int .i64 ((lenN ss.length fmt : Nat) : Int), .int .i64 (H.order.length : Int)] 103)).heap.size ∧ g ∉ foot a l2 ∧ ∀ i, i < ss.length → (w2.alloc (.cells #[.int .i64 (H.mem.length : Int), .int .i64 ((lenN ss.length fmt : Nat) : Int), .int .i64 (H.order.length : Int)] 103)).cell? ⟨g, off + i, none⟩ = some (.int .i64 (ss.getD i 0))) := by
  intro hp
  obtain ⟨g, off, g1, g2, g3, g4⟩ := HRow.out hp
  have hs := HX2.out.1.size
  refine ⟨g, off, g1, by omega, fun hb => ?_, fun i hi => ?_⟩
  ·rcases hx2.2 _ hb with h1 | h1
   ·exact g3 h1
   ·have := HWs.out; omega
  ·exact (HX2.out.1.cell (p := ⟨g, off + i, none⟩) g2 g3).trans (g4 i hi)
 clear hr2 hx2 hb2 HLay HX1 HB1 HRow
 go_wp2_with fail
 generalize w2.alloc (.cells #[.int .i64 (H.mem.length : Int), .int .i64 ((lenN ss.length fmt : Nat) : Int), .int .i64 (H.order.length : Int)] 103) = W2 at *
 generalize w2.heap.size = S at *
 go_loopw [21] (fun qq wr => ∃ i : Nat, i ≤ ss.length ∧ qq = .int .i64 i ∧ Hid (Nx a l2 l2 W2 wr ∧ ∃ H' M', Rep wr a l2 H' ∧ Ld H M q cls fmt ss i H' M')) (fun qq _ => ss.length - (intOf qq).toNat)
 case atStart => exact ⟨0, Nat.zero_le _, rfl, Nx.refl _ _ _, _, M1, HR2.out, HL0.out⟩
 case round =>
  obtain ⟨i, hin, rfl, hqq⟩ := hrel
  obtain ⟨hx, H3, M3, hr3, hl3⟩ := hqq.out
  have b0 := (hx.1.block _ (lt_of_heap HBs.out.1) hn1).trans HBs.out.1
  have b1 := (hx.1.block _ (lt_of_heap HBs.out.2) hn2).trans HBs.out.2
  by_cases hlt : i < ss.length
  ·obtain ⟨g, off, rfl, g2, g3, g4⟩ := HRow2.out (by omega)
   have gx := (hx.1.cell (p := ⟨g, off + i, none⟩) g2 g3).trans (g4 i hlt)
   obtain ⟨a1, a2, a3, a4, a5⟩ := hl3.at_
   obtain ⟨H4, hinv4, e1, e2, e3', e4, e5, e6, e7, e8, hcall⟩ := setSlot_inv q i (ss.getD i 0) a l2 H3 M3 wr hr3 hl3.inv hl3.len a1 (by omega) (by rw [a3]; exact HMay.out i hlt)
   rw [hl3.seat, a3] at hcall
   have hnx := hl3.next hlt hinv4 e1 e2 e3' e4 e5 e6 e7 e8
   have d2 : wr.cell? ⟨w.heap.size, 2, none⟩ = some (.int .i64 (fmt : Int)) := by rw [cell_in b0]; rfl
   have s0 : wr.cell? ⟨S, 0, none⟩ = some (.int .i64 (H.mem.length : Int)) := by rw [cell_in b1]; rfl
   have s1 : wr.cell? ⟨S, 1, none⟩ = some (.int .i64 ((lenN ss.length fmt : Nat) : Int)) := by rw [cell_in b1]; rfl
   have s2 : wr.cell? ⟨S, 2, none⟩ = some (.int .i64 (H.order.length : Int)) := by rw [cell_in b1]; rfl
   dsimp only [sv, I] at hcall
   have HC := mkHid hcall
   have HN := mkHid hnx
   have HX := mkHid hx
   have k1 : (0 : Int) ≤ (i : Int) := by omega
   have k2 : (i : Int) < (ss.length : Int) := by omega
   generalize ss.getD i 0 = xv at *
   clear hqq hx hr3 hl3 a1 a2 a3 a4 a5 hinv4 e1 e2 e3' e4 e5 e6 e7 e8 hcall hnx b0 b1 g4 g2 g3
   go_wp2_with fail
   refine Calls.mono HC.out ?_
   rintro e w5 ⟨rfl, hr5, hx5⟩
   have HF : Hid (Nx a l2 l2 W2 w5 ∧ ∃ H' M', Rep w5 a l2 H' ∧ Ld H M q cls fmt ss (i + 1) H' M') := ⟨HX.out.trans hx5, _, _, hr5, HN.out⟩
   clear hr5 hx5
   go_wp2_with fail
   go_roundw
   case rel => exact ⟨i + 1, by omega, by go_num, HF.out⟩
   case measure => simp [intOf]; omega
  ·have hie : i = ss.length := by omega
   subst hie
   have HF : Hid (∃ l' H' M', Rep wr a l' H' ∧ Nx a l l' w wr ∧ Ld H M q cls fmt ss ss.length H' M') := ⟨l2, H3, M3, hr3, HX2.out.trans hx, hl3⟩
   clear hqq hx hr3 hl3 b0 b1
   go_wp2_with fail
   go_end0
   exact ⟨rfl, HF.out⟩
set_option maxRecDepth 20000 in
set_option maxHeartbeats 1000000 in
theorem takes_yes (q : Nat) (cls : Int) (fmt : Nat) (ss : List Int) (v : Value) (a : Nat) (l : Lay) (H : HS) (w : World) (h : Rep w a l H) (hs : Small H) (hT : Tab w) (hT0 : 0 < w.heap.size) (hh : has H ((q : Int) + 1) = false) (hq : q < H.oops) (hc : isW cls = true) (hf : fmt ≤ 1) (hn : ss.length ≤ 8192) (hr2 : H.mem.length + lenN ss.length fmt ≤ H.words)
  (hmay : ∀ j, j < ss.length → mayB (ss.getD j 0) (fmt : Int) = true) (ho : Rd w v ss) :
  Calls Tryd.prog 53 #[.pointer (some ⟨a, 0, none⟩), .agg #[.int .i64 ((q : Int) + 1), .int .i64 cls, .int .i64 (fmt : Int), v]] w fun e w' => e = .returned (.bool true) ∧ Fr [] w w' := by
 obtain ⟨p, c, rfl, hrow⟩ := ho.at_
 have hal := h.lt a (by simp [foot])
 obtain ⟨W1, hW1⟩ : ∃ W1, W1 = w.alloc (.cells #[.int .i64 ((q : Int) + 1), .int .i64 cls, .int .i64 (fmt : Int), .slice p ss.length c] 106) := ⟨_, rfl⟩
 have F1 : Hid (Fr [] w W1) := by rw [hW1]; exact Fr.alloc [] _ _
 have hB1 : W1.heap[w.heap.size]? = some (.cells #[.int .i64 ((q : Int) + 1), .int .i64 cls, .int .i64 (fmt : Int), .slice p ss.length c] 106 (0, 0)) := by rw [hW1]; exact heap_alloc_new _ _
 have HB1 := mkHid hB1
 have HR : Hid (∀ V, Hid (Fr [] w V) → Rep V a l H) := fun V hV => h.keep hV.out (by simp)
 have HTb : Hid (∀ V, Hid (Fr [] w V) → Tab V) := fun V hV => hT.fr hV.out hT0
 have HSO := mkHid (seatOf_none ((q : Int) + 1) a l H W1 (HR.out W1 F1) hh)
 have HRow : Hid (∀ V, Hid (Fr [] w V) → 0 < ss.length → ∃ g off, p = some ⟨g, off, none⟩ ∧ ∀ i, i < ss.length → V.cell? ⟨g, off + i, none⟩ = some (.int .i64 (ss.getD i 0))) := by
  intro V hV hp
  obtain ⟨g, off, hg, hgl, hcc⟩ := hrow hp
  exact ⟨g, off, hg, fun i hi => (hV.out.cell (p := ⟨g, off + i, none⟩) hgl (by simp)).trans (hcc i hi)⟩
 have HMay := mkHid hmay
 have HSm := mkHid hs
 have hw := fun V hV => isWord_any cls V (HTb.out V hV)
 rw [hc] at hw
 have HW := mkHid hw
 have hff : isF (fmt : Int) = true := by unfold isF; simp; omega
 have hfo := fun V => isFormat_any (fmt : Int) V
 rw [hff] at hfo
 have HFo := mkHid hfo
 have hlen := length_any ss.length fmt
 rw [lenOf_nat] at hlen
 have HL := mkHid hlen
 have k1 : (1 : Int) ≤ (q : Int) + 1 := by omega
 have k2 : (q : Int) + 1 ≤ (H.oops : Int) := by omega
 have k3 : (ss.length : Int) ≤ 8192 := by omega
 have k4 : ((lenN ss.length fmt : Nat) : Int) ≤ (H.words : Int) - (H.mem.length : Int) := by omega
 clear h ho hrow hmay hs hT hB1 hc hw hff hfo hlen
 go_enter Tryd.func53, Tryd.ntmps53
 go_wp2_with fail
 rw [← hW1]
 clear hW1
 refine Calls.mono HSO.out ?_
 rintro e w2 ⟨rfl, hf2⟩
 dsimp only [sv, I]
 have F2 : Hid (Fr [] w (w2.alloc (.cells #[.int .i64 0, .int .i64 0, .int .i64 0] 103))) := (F1.out.trans hf2 (by simp)).trans (Fr.alloc [] _ _) (by simp)
 have hb2 := (hf2.block _ (lt_of_heap HB1.out) (by simp)).trans HB1.out
 have hz2 := lt_of_heap hb2
 have HB2 : Hid ((w2.alloc (.cells #[.int .i64 0, .int .i64 0, .int .i64 0] 103)).heap[w.heap.size]? = some (.cells #[.int .i64 ((q : Int) + 1), .int .i64 cls, .int .i64 (fmt : Int), .slice p ss.length c] 106 (0, 0))) := by rw [Hid, Below.heap_alloc _ _ _ hz2]; exact hb2
 clear hf2 hb2 HSO HB1
 go_wp2_with fail
 generalize w2.alloc (.cells #[.int .i64 0, .int .i64 0, .int .i64 0] 103) = W2 at *
 generalize w2.heap.size = S2 at *
 have HCl : Hid (∀ V, Hid (Fr [] W2 V) → V.cell? ⟨w.heap.size, 0, none⟩ = some (.int .i64 ((q : Int) + 1)) ∧ V.cell? ⟨w.heap.size, 1, none⟩ = some (.int .i64 cls) ∧ V.cell? ⟨w.heap.size, 2, none⟩ = some (.int .i64 (fmt : Int)) ∧ V.cell? ⟨w.heap.size, 3, none⟩ = some (.slice p ss.length c) ∧ V.cell? ⟨a, 2, none⟩ = some (.int .i64 (H.oops : Int)) ∧ Hid (Fr [] w V)) := by
  intro V hV
  have b := (hV.out.block _ (lt_of_heap HB2.out) (by simp)).trans HB2.out
  have hF : Fr [] w V := F2.out.trans hV.out (by simp)
  exact ⟨by rw [cell_in b]; rfl, by rw [cell_in b]; rfl, by rw [cell_in b]; rfl, by rw [cell_in b]; rfl, (HR.out V hF).c2, hF⟩
 obtain ⟨x0, x1, x2, x3, x4, -⟩ := HCl.out W2 (Fr.refl _ _)
 go_quiet (fail)
 go_wp2_with fail
 have F3 : Hid (Fr [] W2 (W2.drewN nq)) := Fr.drewN [] _ _
 clear x0 x1 x2 x3 x4
 generalize W2.drewN nq = W3 at *
 obtain ⟨y0, y1, y2, y3, y4, hF3⟩ := HCl.out W3 F3
 have HW3 := mkHid (HW.out W3 hF3)
 have HRm := mkHid (Room_any a l H W3 (HR.out W3 hF3) HSm.out)
 go_wp2_with (first | (go_at_call 48; refine Calls.mono HW3.out ?_; rintro e w' ⟨rfl, hw'⟩; rw [hw']; clear hw' w') | (go_at_call 49; refine Calls.mono (HFo.out _) ?_; rintro e w' ⟨rfl, hw'⟩; rw [hw']; clear hw' w'))
 refine Calls.mono HRm.out ?_
 rintro e w4 ⟨rfl, n4, hw4⟩
 rw [hw4]
 clear hw4 w4
 have F4 : Hid (Fr [] W2 (W3.drewN n4)) := F3.out.trans (Fr.drewN [] _ _) (by simp)
 clear y0 y1 y2 y3 y4 HW3 HRm
 generalize W3.drewN n4 = W4 at *
 obtain ⟨y0, y1, y2, y3, y4, hF4⟩ := HCl.out W4 F4
 go_wp2_with (go_at_call 50; refine (HL.out _ (by omega) (by omega)).mono ?_; rintro e w' ⟨rfl, hw'⟩; rw [hw']; clear hw' w')
 go_loopw [66] (fun qq wr => ∃ i : Nat, i ≤ ss.length ∧ qq = .int .i64 i ∧ Hid (Fr [] W2 wr)) (fun qq _ => ss.length - (intOf qq).toNat)
 case atStart => exact ⟨0, Nat.zero_le _, rfl, F4.out⟩
 case round =>
  clear y0 y1 y2 y3 y4
  obtain ⟨i, hin, rfl, hqq⟩ := hrel
  obtain ⟨z0, z1, z2, z3, z4, hFr⟩ := HCl.out wr hqq
  by_cases hlt : i < ss.length
  ·obtain ⟨g, off, rfl, g4⟩ := HRow.out wr hFr (by omega)
   have gx := g4 i hlt
   have hm := mayStand_any (ss.getD i 0) (fmt : Int) wr (HTb.out wr hFr)
   rw [HMay.out i hlt] at hm
   have HMs := mkHid hm
   have j1 : (0 : Int) ≤ (i : Int) := by omega
   have j2 : (i : Int) < (ss.length : Int) := by omega
   generalize ss.getD i 0 = xv at *
   clear hm g4
   go_wp2_with (go_at_call 72; refine Calls.mono HMs.out ?_; rintro e w' ⟨rfl, hw'⟩; rw [hw']; clear hw' w')
   go_roundw
   case rel => exact ⟨i + 1, by omega, by go_num, hqq⟩
   case measure => simp [intOf]; omega
  ·have hie : i = ss.length := by omega
   subst hie
   go_wp2_with fail
   go_ret
   exact ⟨rfl, hFr.out⟩
set_option maxRecDepth 20000 in
set_option maxHeartbeats 1000000 in
theorem takes_has (oop : Nat) (cls fmt : Int) (p : Option Addr) (n c a : Nat) (l : Lay) (H : HS) (w : World) (h : Rep w a l H) (hh : has H (oop : Int) = true) :
  Calls Tryd.prog 53 #[.pointer (some ⟨a, 0, none⟩), .agg #[.int .i64 (oop : Int), .int .i64 cls, .int .i64 fmt, .slice p n c]] w fun e w' => e = .returned (.bool false) ∧ Fr [] w w' := by
 obtain ⟨h1, h2, h3⟩ := has_yes hh
 obtain ⟨W1, hW1⟩ : ∃ W1, W1 = w.alloc (.cells #[.int .i64 (oop : Int), .int .i64 cls, .int .i64 fmt, .slice p n c] 106) := ⟨_, rfl⟩
 have F1 : Hid (Fr [] w W1) := by rw [hW1]; exact Fr.alloc [] _ _
 have hR1 : Rep W1 a l H := h.keep F1.out (by simp)
 have HSO := mkHid (seatOf_yes oop a l H W1 hR1 h1 h2 h3)
 clear h hh hR1
 generalize H.seats.getD oop (0, 0, 0) = s at *
 obtain ⟨s0, s1, s2⟩ := s
 dsimp only [sv, I] at *
 go_enter Tryd.func53, Tryd.ntmps53
 go_wp2_with fail
 rw [← hW1]
 clear hW1
 refine Calls.mono HSO.out ?_
 rintro e w2 ⟨rfl, hf2⟩
 have F2 : Hid (∀ n, Fr [] w ((w2.alloc (.cells #[.int .i64 (s0 : Int), .int .i64 (s1 : Int), .int .i64 (s2 : Int)] 103)).drewN n)) := fun n => ((F1.out.trans hf2 (by simp)).trans (Fr.alloc [] _ _) (by simp)).trans (Fr.drewN [] _ _) (by simp)
 clear hf2 HSO
 go_wp2_with fail
 go_quiet (fail)
 go_wp2_with fail
 go_ret
 exact ⟨rfl, F2.out _⟩
set_option maxRecDepth 20000 in
set_option maxHeartbeats 1000000 in
theorem takes_oop (oop cls fmt : Int) (p : Option Addr) (n c a : Nat) (l : Lay) (H : HS) (w : World) (h : Rep w a l H) (hh : has H oop = false) (hb : oop < 1 ∨ (H.oops : Int) < oop) :
  Calls Tryd.prog 53 #[.pointer (some ⟨a, 0, none⟩), .agg #[.int .i64 oop, .int .i64 cls, .int .i64 fmt, .slice p n c]] w fun e w' => e = .returned (.bool false) ∧ Fr [] w w' := by
 obtain ⟨W1, hW1⟩ : ∃ W1, W1 = w.alloc (.cells #[.int .i64 oop, .int .i64 cls, .int .i64 fmt, .slice p n c] 106) := ⟨_, rfl⟩
 have F1 : Hid (Fr [] w W1) := by rw [hW1]; exact Fr.alloc [] _ _
 have hB1 : W1.heap[w.heap.size]? = some (.cells #[.int .i64 oop, .int .i64 cls, .int .i64 fmt, .slice p n c] 106 (0, 0)) := by rw [hW1]; exact heap_alloc_new _ _
 have hR1 : Rep W1 a l H := h.keep F1.out (by simp)
 have HSO := mkHid (seatOf_none oop a l H W1 hR1 hh)
 have HR := mkHid h
 have HB1 := mkHid hB1
 clear h hh hR1 hB1
 go_enter Tryd.func53, Tryd.ntmps53
 go_wp2_with fail
 rw [← hW1]
 clear hW1
 refine Calls.mono HSO.out ?_
 rintro e w2 ⟨rfl, hf2⟩
 have F2' : Fr [] w (w2.alloc (.cells #[.int .i64 0, .int .i64 0, .int .i64 0] 103)) := (F1.out.trans hf2 (by simp)).trans (Fr.alloc [] _ _) (by simp)
 have hb2 := (hf2.block _ (lt_of_heap HB1.out) (by simp)).trans HB1.out
 have hb3 : (w2.alloc (.cells #[.int .i64 0, .int .i64 0, .int .i64 0] 103)).heap[w.heap.size]? = some (.cells #[.int .i64 oop, .int .i64 cls, .int .i64 fmt, .slice p n c] 106 (0, 0)) := by rw [Below.heap_alloc _ _ _ (lt_of_heap hb2)]; exact hb2
 have x0 : (w2.alloc (.cells #[.int .i64 0, .int .i64 0, .int .i64 0] 103)).cell? ⟨w.heap.size, 0, none⟩ = some (.int .i64 oop) := by rw [cell_in hb3]; rfl
 have x4 := (HR.out.keep F2' (by simp)).c2
 have F2 : Hid (∀ n, Fr [] w ((w2.alloc (.cells #[.int .i64 0, .int .i64 0, .int .i64 0] 103)).drewN n)) := fun n => F2'.trans (Fr.drewN [] _ _) (by simp)
 clear hf2 HSO F2' hb2 hb3
 go_wp2_with fail
 generalize w2.alloc (.cells #[.int .i64 0, .int .i64 0, .int .i64 0] 103) = W2 at *
 rcases hb with hb | hb
 ·go_quiet (fail)
  go_wp2_with fail
  go_ret
  exact ⟨rfl, F2.out _⟩
 ·have hb1 : 1 ≤ oop := by omega
  go_quiet (fail)
  go_wp2_with fail
  go_ret
  exact ⟨rfl, F2.out _⟩
set_option maxRecDepth 20000 in
set_option maxHeartbeats 1000000 in
theorem takes_form (oop cls fmt : Int) (p : Option Addr) (n c a : Nat) (l : Lay) (H : HS) (w : World) (h : Rep w a l H) (hs : Small H) (hT : Tab w) (hT0 : 0 < w.heap.size) (hh : has H oop = false) (k1 : (1 : Int) ≤ oop) (k2 : oop ≤ (H.oops : Int)) (hb : isW cls = false ∨ (isW cls = true ∧ isF fmt = false) ∨ (isW cls = true ∧ isF fmt = true ∧ 8192 < (n : Int))) :
  Calls Tryd.prog 53 #[.pointer (some ⟨a, 0, none⟩), .agg #[.int .i64 oop, .int .i64 cls, .int .i64 fmt, .slice p n c]] w fun e w' => e = .returned (.bool false) ∧ Fr [] w w' := by
 have hal := h.lt a (by simp [foot])
 obtain ⟨W1, hW1⟩ : ∃ W1, W1 = w.alloc (.cells #[.int .i64 oop, .int .i64 cls, .int .i64 fmt, .slice p n c] 106) := ⟨_, rfl⟩
 have F1 : Hid (Fr [] w W1) := by rw [hW1]; exact Fr.alloc [] _ _
 have hB1 : W1.heap[w.heap.size]? = some (.cells #[.int .i64 oop, .int .i64 cls, .int .i64 fmt, .slice p n c] 106 (0, 0)) := by rw [hW1]; exact heap_alloc_new _ _
 have HB1 := mkHid hB1
 have HR : Hid (∀ V, Hid (Fr [] w V) → Rep V a l H) := fun V hV => h.keep hV.out (by simp)
 have HTb : Hid (∀ V, Hid (Fr [] w V) → Tab V) := fun V hV => hT.fr hV.out hT0
 have HSO := mkHid (seatOf_none oop a l H W1 (HR.out W1 F1) hh)
 have HSm := mkHid hs
 have HW : Hid (∀ V, Hid (Fr [] w V) → Calls Tryd.prog 48 #[.int .i64 cls] V fun e w' => e = .returned (.bool (isW cls)) ∧ w' = V) := fun V hV => isWord_any cls V (HTb.out V hV)
 have HFo := mkHid (fun V => isFormat_any fmt V)
 clear h hs hT hB1 hh
 go_enter Tryd.func53, Tryd.ntmps53
 go_wp2_with fail
 rw [← hW1]
 clear hW1
 refine Calls.mono HSO.out ?_
 rintro e w2 ⟨rfl, hf2⟩
 have F2 : Hid (Fr [] w (w2.alloc (.cells #[.int .i64 0, .int .i64 0, .int .i64 0] 103))) := (F1.out.trans hf2 (by simp)).trans (Fr.alloc [] _ _) (by simp)
 have hb2 := (hf2.block _ (lt_of_heap HB1.out) (by simp)).trans HB1.out
 have hz2 := lt_of_heap hb2
 have HB2 : Hid ((w2.alloc (.cells #[.int .i64 0, .int .i64 0, .int .i64 0] 103)).heap[w.heap.size]? = some (.cells #[.int .i64 oop, .int .i64 cls, .int .i64 fmt, .slice p n c] 106 (0, 0))) := by rw [Hid, Below.heap_alloc _ _ _ hz2]; exact hb2
 clear hf2 hb2 HSO HB1
 go_wp2_with fail
 generalize w2.alloc (.cells #[.int .i64 0, .int .i64 0, .int .i64 0] 103) = W2 at *
 generalize w2.heap.size = S2 at *
 have HCl : Hid (∀ V, Hid (Fr [] W2 V) → V.cell? ⟨w.heap.size, 0, none⟩ = some (.int .i64 oop) ∧ V.cell? ⟨w.heap.size, 1, none⟩ = some (.int .i64 cls) ∧ V.cell? ⟨w.heap.size, 2, none⟩ = some (.int .i64 fmt) ∧ V.cell? ⟨w.heap.size, 3, none⟩ = some (.slice p n c) ∧ V.cell? ⟨a, 2, none⟩ = some (.int .i64 (H.oops : Int)) ∧ Hid (Fr [] w V)) := by
  intro V hV
  have b := (hV.out.block _ (lt_of_heap HB2.out) (by simp)).trans HB2.out
  have hF : Fr [] w V := F2.out.trans hV.out (by simp)
  exact ⟨by rw [cell_in b]; rfl, by rw [cell_in b]; rfl, by rw [cell_in b]; rfl, by rw [cell_in b]; rfl, (HR.out V hF).c2, hF⟩
 obtain ⟨x0, x1, x2, x3, x4, -⟩ := HCl.out W2 (Fr.refl _ _)
 go_quiet (fail)
 go_wp2_with fail
 have F3 : Hid (Fr [] W2 (W2.drewN nq)) := Fr.drewN [] _ _
 clear x0 x1 x2 x3 x4
 generalize W2.drewN nq = W3 at *
 obtain ⟨y0, y1, y2, y3, y4, hF3⟩ := HCl.out W3 F3
 have HW3 := HW.out W3 hF3
 have HFo3 := HFo.out W3
 rcases hb with hb | ⟨hb, hb2⟩ | ⟨hb, hb2, hb3⟩
 ·rw [hb] at HW3
  have HWb := mkHid HW3
  clear HW3 HFo3 HW HFo
  go_wp2_with (go_at_call 48; refine Calls.mono HWb.out ?_; rintro e w' ⟨rfl, hw'⟩; rw [hw']; clear hw' w')
  go_ret
  exact ⟨rfl, hF3.out⟩
 ·rw [hb] at HW3
  rw [hb2] at HFo3
  have HWb := mkHid HW3
  have HFb := mkHid HFo3
  clear HW3 HFo3 HW HFo
  go_wp2_with (first | (go_at_call 48; refine Calls.mono HWb.out ?_; rintro e w' ⟨rfl, hw'⟩; rw [hw']; clear hw' w') | (go_at_call 49; refine Calls.mono HFb.out ?_; rintro e w' ⟨rfl, hw'⟩; rw [hw']; clear hw' w'))
  go_ret
  exact ⟨rfl, hF3.out⟩
 ·rw [hb] at HW3
  rw [hb2] at HFo3
  have HWb := mkHid HW3
  have HFb := mkHid HFo3
  clear HW3 HFo3 HW HFo
  go_wp2_with (first | (go_at_call 48; refine Calls.mono HWb.out ?_; rintro e w' ⟨rfl, hw'⟩; rw [hw']; clear hw' w') | (go_at_call 49; refine Calls.mono HFb.out ?_; rintro e w' ⟨rfl, hw'⟩; rw [hw']; clear hw' w'))
  go_ret
  exact ⟨rfl, hF3.out⟩
set_option maxRecDepth 20000 in
set_option maxHeartbeats 1000000 in
theorem takes_room (oop cls fmt : Int) (p : Option Addr) (n c a : Nat) (l : Lay) (H : HS) (w : World) (h : Rep w a l H) (hs : Small H) (hT : Tab w) (hT0 : 0 < w.heap.size) (hh : has H oop = false) (k1 : (1 : Int) ≤ oop) (k2 : oop ≤ (H.oops : Int)) (hb : isW cls = true) (hb2 : isF fmt = true) (hb3 : (n : Int) ≤ 8192) (hb4 : (H.words : Int) - (H.mem.length : Int) < lenOf (n : Int) fmt) :
  Calls Tryd.prog 53 #[.pointer (some ⟨a, 0, none⟩), .agg #[.int .i64 oop, .int .i64 cls, .int .i64 fmt, .slice p n c]] w fun e w' => e = .returned (.bool false) ∧ Fr [] w w' := by
 have hal := h.lt a (by simp [foot])
 obtain ⟨W1, hW1⟩ : ∃ W1, W1 = w.alloc (.cells #[.int .i64 oop, .int .i64 cls, .int .i64 fmt, .slice p n c] 106) := ⟨_, rfl⟩
 have F1 : Hid (Fr [] w W1) := by rw [hW1]; exact Fr.alloc [] _ _
 have hB1 : W1.heap[w.heap.size]? = some (.cells #[.int .i64 oop, .int .i64 cls, .int .i64 fmt, .slice p n c] 106 (0, 0)) := by rw [hW1]; exact heap_alloc_new _ _
 have HB1 := mkHid hB1
 have HR : Hid (∀ V, Hid (Fr [] w V) → Rep V a l H) := fun V hV => h.keep hV.out (by simp)
 have HTb : Hid (∀ V, Hid (Fr [] w V) → Tab V) := fun V hV => hT.fr hV.out hT0
 have HSO := mkHid (seatOf_none oop a l H W1 (HR.out W1 F1) hh)
 have HSm := mkHid hs
 have HW : Hid (∀ V, Hid (Fr [] w V) → Calls Tryd.prog 48 #[.int .i64 cls] V fun e w' => e = .returned (.bool (isW cls)) ∧ w' = V) := fun V hV => isWord_any cls V (HTb.out V hV)
 have HFo := mkHid (fun V => isFormat_any fmt V)
 have HL := mkHid (length_any (n : Int) fmt)
 clear h hs hT hB1 hh
 go_enter Tryd.func53, Tryd.ntmps53
 go_wp2_with fail
 rw [← hW1]
 clear hW1
 refine Calls.mono HSO.out ?_
 rintro e w2 ⟨rfl, hf2⟩
 have F2 : Hid (Fr [] w (w2.alloc (.cells #[.int .i64 0, .int .i64 0, .int .i64 0] 103))) := (F1.out.trans hf2 (by simp)).trans (Fr.alloc [] _ _) (by simp)
 have hb2 := (hf2.block _ (lt_of_heap HB1.out) (by simp)).trans HB1.out
 have hz2 := lt_of_heap hb2
 have HB2 : Hid ((w2.alloc (.cells #[.int .i64 0, .int .i64 0, .int .i64 0] 103)).heap[w.heap.size]? = some (.cells #[.int .i64 oop, .int .i64 cls, .int .i64 fmt, .slice p n c] 106 (0, 0))) := by rw [Hid, Below.heap_alloc _ _ _ hz2]; exact hb2
 clear hf2 hb2 HSO HB1
 go_wp2_with fail
 generalize w2.alloc (.cells #[.int .i64 0, .int .i64 0, .int .i64 0] 103) = W2 at *
 generalize w2.heap.size = S2 at *
 have HCl : Hid (∀ V, Hid (Fr [] W2 V) → V.cell? ⟨w.heap.size, 0, none⟩ = some (.int .i64 oop) ∧ V.cell? ⟨w.heap.size, 1, none⟩ = some (.int .i64 cls) ∧ V.cell? ⟨w.heap.size, 2, none⟩ = some (.int .i64 fmt) ∧ V.cell? ⟨w.heap.size, 3, none⟩ = some (.slice p n c) ∧ V.cell? ⟨a, 2, none⟩ = some (.int .i64 (H.oops : Int)) ∧ Hid (Fr [] w V)) := by
  intro V hV
  have b := (hV.out.block _ (lt_of_heap HB2.out) (by simp)).trans HB2.out
  have hF : Fr [] w V := F2.out.trans hV.out (by simp)
  exact ⟨by rw [cell_in b]; rfl, by rw [cell_in b]; rfl, by rw [cell_in b]; rfl, by rw [cell_in b]; rfl, (HR.out V hF).c2, hF⟩
 obtain ⟨x0, x1, x2, x3, x4, -⟩ := HCl.out W2 (Fr.refl _ _)
 go_quiet (fail)
 go_wp2_with fail
 have F3 : Hid (Fr [] W2 (W2.drewN nq)) := Fr.drewN [] _ _
 clear x0 x1 x2 x3 x4
 generalize W2.drewN nq = W3 at *
 obtain ⟨y0, y1, y2, y3, y4, hF3⟩ := HCl.out W3 F3
 have HW3 := HW.out W3 hF3
 have HFo3 := HFo.out W3
 rw [hb] at HW3
 rw [hb2] at HFo3
 have HWb := mkHid HW3
 have HFb := mkHid HFo3
 have HRm := mkHid (Room_any a l H W3 (HR.out W3 hF3) HSm.out)
 clear HW3 HFo3 HW HFo
 go_wp2_with (first | (go_at_call 48; refine Calls.mono HWb.out ?_; rintro e w' ⟨rfl, hw'⟩; rw [hw']; clear hw' w') | (go_at_call 49; refine Calls.mono HFb.out ?_; rintro e w' ⟨rfl, hw'⟩; rw [hw']; clear hw' w'))
 refine Calls.mono HRm.out ?_
 rintro e w4 ⟨rfl, n4, hw4⟩
 rw [hw4]
 clear hw4 w4
 have F4 : Hid (Fr [] W2 (W3.drewN n4)) := F3.out.trans (Fr.drewN [] _ _) (by simp)
 clear y0 y1 y2 y3 y4 HWb HFb HRm
 generalize W3.drewN n4 = W4 at *
 obtain ⟨y0, y1, y2, y3, y4, hF4⟩ := HCl.out W4 F4
 generalize lenOf (n : Int) fmt = L at *
 go_wp2_with (go_at_call 50; refine (HL.out _ (by omega) (by omega)).mono ?_; rintro e w' ⟨rfl, hw'⟩; rw [hw']; clear hw' w')
 go_ret
 exact ⟨rfl, hF4.out⟩
set_option maxRecDepth 20000 in
set_option maxHeartbeats 1000000 in
theorem takes_slot (oop cls fmt : Int) (p : Option Addr) (n c a : Nat) (l : Lay) (H : HS) (w : World) (h : Rep w a l H) (hs : Small H) (hT : Tab w) (hT0 : 0 < w.heap.size) (hh : has H oop = false) (k1 : (1 : Int) ≤ oop) (k2 : oop ≤ (H.oops : Int)) (hb : isW cls = true) (hb2 : isF fmt = true) (hb3 : (n : Int) ≤ 8192) (hb4 : lenOf (n : Int) fmt ≤ (H.words : Int) - (H.mem.length : Int)) (ss : List Int) (g off j0 : Nat) (hp : p = some ⟨g, off, none⟩) (hgl : g < w.heap.size) (hcell : ∀ i, i < n → w.cell? ⟨g, off + i, none⟩ = some (.int .i64 (ss.getD i 0))) (hj : j0 < n) (hgood : ∀ i, i < j0 → mayB (ss.getD i 0) fmt = true) (hbad : mayB (ss.getD j0 0) fmt = false) :
  Calls Tryd.prog 53 #[.pointer (some ⟨a, 0, none⟩), .agg #[.int .i64 oop, .int .i64 cls, .int .i64 fmt, .slice p n c]] w fun e w' => e = .returned (.bool false) ∧ Fr [] w w' := by
 have hal := h.lt a (by simp [foot])
 obtain ⟨W1, hW1⟩ : ∃ W1, W1 = w.alloc (.cells #[.int .i64 oop, .int .i64 cls, .int .i64 fmt, .slice p n c] 106) := ⟨_, rfl⟩
 have F1 : Hid (Fr [] w W1) := by rw [hW1]; exact Fr.alloc [] _ _
 have hB1 : W1.heap[w.heap.size]? = some (.cells #[.int .i64 oop, .int .i64 cls, .int .i64 fmt, .slice p n c] 106 (0, 0)) := by rw [hW1]; exact heap_alloc_new _ _
 have HB1 := mkHid hB1
 have HR : Hid (∀ V, Hid (Fr [] w V) → Rep V a l H) := fun V hV => h.keep hV.out (by simp)
 have HTb : Hid (∀ V, Hid (Fr [] w V) → Tab V) := fun V hV => hT.fr hV.out hT0
 have HSO := mkHid (seatOf_none oop a l H W1 (HR.out W1 F1) hh)
 have HSm := mkHid hs
 have HW : Hid (∀ V, Hid (Fr [] w V) → Calls Tryd.prog 48 #[.int .i64 cls] V fun e w' => e = .returned (.bool (isW cls)) ∧ w' = V) := fun V hV => isWord_any cls V (HTb.out V hV)
 have HFo := mkHid (fun V => isFormat_any fmt V)
 have HL := mkHid (length_any (n : Int) fmt)
 have HCe : Hid (∀ V, Hid (Fr [] w V) → ∀ i, i < n → V.cell? ⟨g, off + i, none⟩ = some (.int .i64 (ss.getD i 0))) := fun V hV i hi => (hV.out.cell (p := ⟨g, off + i, none⟩) hgl (by simp)).trans (hcell i hi)
 have HGood := mkHid hgood
 have HBad := mkHid hbad
 have HP := mkHid hp
 clear hcell hgood hbad hp
 clear h hs hT hB1 hh
 go_enter Tryd.func53, Tryd.ntmps53
 go_wp2_with fail
 rw [← hW1]
 clear hW1
 refine Calls.mono HSO.out ?_
 rintro e w2 ⟨rfl, hf2⟩
 have F2 : Hid (Fr [] w (w2.alloc (.cells #[.int .i64 0, .int .i64 0, .int .i64 0] 103))) := (F1.out.trans hf2 (by simp)).trans (Fr.alloc [] _ _) (by simp)
 have hb2 := (hf2.block _ (lt_of_heap HB1.out) (by simp)).trans HB1.out
 have hz2 := lt_of_heap hb2
 have HB2 : Hid ((w2.alloc (.cells #[.int .i64 0, .int .i64 0, .int .i64 0] 103)).heap[w.heap.size]? = some (.cells #[.int .i64 oop, .int .i64 cls, .int .i64 fmt, .slice p n c] 106 (0, 0))) := by rw [Hid, Below.heap_alloc _ _ _ hz2]; exact hb2
 clear hf2 hb2 HSO HB1
 go_wp2_with fail
 generalize w2.alloc (.cells #[.int .i64 0, .int .i64 0, .int .i64 0] 103) = W2 at *
 generalize w2.heap.size = S2 at *
 have HCl : Hid (∀ V, Hid (Fr [] W2 V) → V.cell? ⟨w.heap.size, 0, none⟩ = some (.int .i64 oop) ∧ V.cell? ⟨w.heap.size, 1, none⟩ = some (.int .i64 cls) ∧ V.cell? ⟨w.heap.size, 2, none⟩ = some (.int .i64 fmt) ∧ V.cell? ⟨w.heap.size, 3, none⟩ = some (.slice p n c) ∧ V.cell? ⟨a, 2, none⟩ = some (.int .i64 (H.oops : Int)) ∧ Hid (Fr [] w V)) := by
  intro V hV
  have b := (hV.out.block _ (lt_of_heap HB2.out) (by simp)).trans HB2.out
  have hF : Fr [] w V := F2.out.trans hV.out (by simp)
  exact ⟨by rw [cell_in b]; rfl, by rw [cell_in b]; rfl, by rw [cell_in b]; rfl, by rw [cell_in b]; rfl, (HR.out V hF).c2, hF⟩
 have hp := HP.out
 clear HP
 subst hp
 obtain ⟨x0, x1, x2, x3, x4, -⟩ := HCl.out W2 (Fr.refl _ _)
 go_quiet (fail)
 go_wp2_with fail
 have F3 : Hid (Fr [] W2 (W2.drewN nq)) := Fr.drewN [] _ _
 clear x0 x1 x2 x3 x4
 generalize W2.drewN nq = W3 at *
 obtain ⟨y0, y1, y2, y3, y4, hF3⟩ := HCl.out W3 F3
 have HW3 := HW.out W3 hF3
 have HFo3 := HFo.out W3
 rw [hb] at HW3
 rw [hb2] at HFo3
 have HWb := mkHid HW3
 have HFb := mkHid HFo3
 have HRm := mkHid (Room_any a l H W3 (HR.out W3 hF3) HSm.out)
 clear HW3 HFo3 HW HFo
 go_wp2_with (first | (go_at_call 48; refine Calls.mono HWb.out ?_; rintro e w' ⟨rfl, hw'⟩; rw [hw']; clear hw' w') | (go_at_call 49; refine Calls.mono HFb.out ?_; rintro e w' ⟨rfl, hw'⟩; rw [hw']; clear hw' w'))
 refine Calls.mono HRm.out ?_
 rintro e w4 ⟨rfl, n4, hw4⟩
 rw [hw4]
 clear hw4 w4
 have F4 : Hid (Fr [] W2 (W3.drewN n4)) := F3.out.trans (Fr.drewN [] _ _) (by simp)
 clear y0 y1 y2 y3 y4 HWb HFb HRm
 generalize W3.drewN n4 = W4 at *
 obtain ⟨y0, y1, y2, y3, y4, hF4⟩ := HCl.out W4 F4
 generalize lenOf (n : Int) fmt = L at *
 go_wp2_with (go_at_call 50; refine (HL.out _ (by omega) (by omega)).mono ?_; rintro e w' ⟨rfl, hw'⟩; rw [hw']; clear hw' w')
 go_loopw [66] (fun qq wr => ∃ i : Nat, i ≤ j0 ∧ qq = .int .i64 i ∧ Hid (Fr [] W2 wr)) (fun qq _ => n - (intOf qq).toNat)
 case atStart => exact ⟨0, Nat.zero_le _, rfl, F4.out⟩
 case round =>
  clear y0 y1 y2 y3 y4
  obtain ⟨i, hin, rfl, hqq⟩ := hrel
  obtain ⟨z0, z1, z2, z3, z4, hFr⟩ := HCl.out wr hqq
  have gx := HCe.out wr hFr i (by omega)
  have hm := mayStand_any (ss.getD i 0) fmt wr (HTb.out wr hFr)
  have j1 : (0 : Int) ≤ (i : Int) := by omega
  have j2 : (i : Int) < (n : Int) := by omega
  by_cases hlt : i < j0
  ·rw [HGood.out i hlt] at hm
   have HMs := mkHid hm
   generalize ss.getD i 0 = xv at *
   clear hm
   go_wp2_with (go_at_call 72; refine Calls.mono HMs.out ?_; rintro e w' ⟨rfl, hw'⟩; rw [hw']; clear hw' w')
   go_roundw
   case rel => exact ⟨i + 1, by omega, by go_num, hqq⟩
   case measure => simp [intOf]; omega
  ·have hie : i = j0 := by omega
   subst hie
   rw [HBad.out] at hm
   have HMs := mkHid hm
   generalize ss.getD i 0 = xv at *
   clear hm
   go_wp2_with (go_at_call 72; refine Calls.mono HMs.out ?_; rintro e w' ⟨rfl, hw'⟩; rw [hw']; clear hw' w')
   go_ret
   exact ⟨rfl, hFr.out⟩
end Go.Proofs.YtklfnjlenbgmoaaDoor
namespace Go.Proofs.YtklfnjlenbgmoaaDoor
open Go.RowKit
def takesB (H : HS) (oop cls fmt : Int) (ss : List Int) : Bool :=
 !has H oop && decide (1 ≤ oop) && decide (oop ≤ (H.oops : Int)) && isW cls && isF fmt && decide ((ss.length : Int) ≤ 8192) && decide (lenOf (ss.length : Int) fmt ≤ (H.words : Int) - (H.mem.length : Int)) && ss.all fun x => mayB x fmt
theorem all_bad (f : Int → Bool) : ∀ ss : List Int, (ss.all f) = false → ∃ j, j < ss.length ∧ (∀ i, i < j → f (ss.getD i 0) = true) ∧ f (ss.getD j 0) = false
 | [], h => by simp at h
 | x :: t, h => by
  by_cases hx : f x = true
  ·have ht : t.all f = false := by simpa [hx] using h
   obtain ⟨j, hj, hg, hb⟩ := all_bad f t ht
   refine ⟨j + 1, by simpa using hj, fun i hi => ?_, by simpa using hb⟩
   rcases i with _ | i
   ·simpa using hx
   ·simpa using hg i (by omega)
  ·exact ⟨0, by simp, fun i hi => absurd hi (by omega), by simpa using hx⟩
theorem takes_any (oop cls fmt : Int) (ss : List Int) (v : Value) (a : Nat) (l : Lay) (H : HS) (w : World) (h : Rep w a l H) (hs : Small H) (hT : Tab w) (hT0 : 0 < w.heap.size) (ho : Rd w v ss) :
  Calls Tryd.prog 53 #[.pointer (some ⟨a, 0, none⟩), .agg #[.int .i64 oop, .int .i64 cls, .int .i64 fmt, v]] w fun e w' => e = .returned (.bool (takesB H oop cls fmt ss)) ∧ Fr [] w w' := by
 obtain ⟨p, c, rfl, hrow⟩ := ho.at_
 by_cases hh : has H oop = true
 ·have e : takesB H oop cls fmt ss = false := by simp [takesB, hh]
  rw [e]
  obtain ⟨m, rfl⟩ : ∃ m : Nat, oop = (m : Int) := ⟨oop.toNat, by have := (of_decide_eq_true hh).1; omega⟩
  exact takes_has m cls fmt p _ c a l H w h hh
 have hh : has H oop = false := by simpa using hh
 by_cases k1 : (1 : Int) ≤ oop
 rotate_left
 ·have e : takesB H oop cls fmt ss = false := by simp [takesB, k1]
  rw [e]
  exact takes_oop oop cls fmt p _ c a l H w h hh (Or.inl (by omega))
 by_cases k2 : oop ≤ (H.oops : Int)
 rotate_left
 ·have e : takesB H oop cls fmt ss = false := by simp [takesB, k2]
  rw [e]
  exact takes_oop oop cls fmt p _ c a l H w h hh (Or.inr (by omega))
 by_cases hb : isW cls = true
 rotate_left
 ·have hb : isW cls = false := by simpa using hb
  have e : takesB H oop cls fmt ss = false := by simp [takesB, hb]
  rw [e]
  exact takes_form oop cls fmt p _ c a l H w h hs hT hT0 hh k1 k2 (Or.inl hb)
 by_cases hb2 : isF fmt = true
 rotate_left
 ·have hb2 : isF fmt = false := by simpa using hb2
  have e : takesB H oop cls fmt ss = false := by simp [takesB, hb2]
  rw [e]
  exact takes_form oop cls fmt p _ c a l H w h hs hT hT0 hh k1 k2 (Or.inr (Or.inl ⟨hb, hb2⟩))
 by_cases hb3 : (ss.length : Int) ≤ 8192
 rotate_left
 ·have e : takesB H oop cls fmt ss = false := by unfold takesB; rw [decide_eq_false hb3]; simp
  rw [e]
  exact takes_form oop cls fmt p _ c a l H w h hs hT hT0 hh k1 k2 (Or.inr (Or.inr ⟨hb, hb2, by omega⟩))
 by_cases hb4 : lenOf (ss.length : Int) fmt ≤ (H.words : Int) - (H.mem.length : Int)
 rotate_left
 ·have e : takesB H oop cls fmt ss = false := by unfold takesB; rw [decide_eq_false hb4]; simp
  rw [e]
  exact takes_room oop cls fmt p _ c a l H w h hs hT hT0 hh k1 k2 hb hb2 hb3 (by omega)
 by_cases hb5 : (ss.all fun x => mayB x fmt) = true
 ·have e : takesB H oop cls fmt ss = true := by unfold takesB; rw [hh, decide_eq_true k1, decide_eq_true k2, hb, hb2, decide_eq_true hb3, decide_eq_true hb4, hb5]; rfl
  rw [e]
  have hf : fmt = 0 ∨ fmt = 1 := by simpa [isF] using hb2
  obtain ⟨f, rfl, hf1⟩ : ∃ f : Nat, fmt = (f : Int) ∧ f ≤ 1 := by
   rcases hf with rfl | rfl
   ·exact ⟨0, rfl, by omega⟩
   ·exact ⟨1, rfl, by omega⟩
  obtain ⟨q, rfl⟩ : ∃ q : Nat, oop = (q : Int) + 1 := ⟨(oop - 1).toNat, by omega⟩
  rw [lenOf_nat] at hb4
  refine takes_yes q cls f ss _ a l H w h hs hT hT0 hh (by omega) hb hf1 (by omega) (by omega) (fun j hj => ?_) ho
  rw [List.all_eq_true] at hb5
  have e : ss.getD j 0 = ss[j] := by rw [List.getD_eq_getElem?_getD, List.getElem?_eq_getElem hj]; rfl
  rw [e]
  exact hb5 _ (List.getElem_mem hj)
 ·have hb5 : (ss.all fun x => mayB x fmt) = false := by simpa using hb5
  have e : takesB H oop cls fmt ss = false := by unfold takesB; rw [hb5]; simp
  rw [e]
  obtain ⟨j, hj, hg, hbd⟩ := all_bad _ ss hb5
  obtain ⟨g, off, hp, hgl, hc⟩ := hrow (by omega)
  exact takes_slot oop cls fmt p _ c a l H w h hs hT hT0 hh k1 k2 hb hb2 hb3 hb4 ss g off j hp hgl hc hj hg hbd
end Go.Proofs.YtklfnjlenbgmoaaDoor
