import Derived.Test.YtkmjimdaimbdfaaDoorSG12HLoadX
import Derived.BigQuiet
import Derived.Test.YtkmjimdaimbdfaaDoorSG07HRefB
import Derived.Deep.RegionHeld3
import Derived.Test.YtkmjimdaimbdfaaDoorSG03HExch
namespace Go.Proofs.YtkmjimdaimbdfaaDoor
open Go.RowKit
set_option linter.unusedVariables false
attribute [local go_sem ↓] Go.wp_at_zero Go.wp_at_succ
set_option maxRecDepth 20000 in
set_option maxHeartbeats 1000000 in
theorem takes_yes (q : Nat) (cls : Int) (fmt : Nat) (ss : List Int) (v : Value) (a : Nat) (l : Lay) (H : HS) (w : World) (h : Rep w a l H) (hs : Small H) (hT : Tab w) (hT0 : 0 < w.heap.size) (hh : has H ((q : Int) + 1) = false) (hq : q < H.oops) (hc : isW cls = true) (hf : fmt ≤ 1) (hn : ss.length ≤ 8192) (hr2 : H.mem.length + lenN ss.length fmt ≤ H.words)
    (hmay : ∀ j, j < ss.length → mayB (ss.getD j 0) (fmt : Int) = true) (ho : Rd w v ss) :
    Calls Tryd.prog 83 #[.pointer (some ⟨a, 0, none⟩), .agg #[.int .i64 ((q : Int) + 1), .int .i64 cls, .int .i64 (fmt : Int), v]] w fun e w' => e = .returned (.bool true) ∧ Fr [] w w' := by
  obtain ⟨p, c, rfl, hrow⟩ := ho.at_
  have hal := h.lt a (by simp [foot])
  obtain ⟨W1, hW1⟩ : ∃ W1, W1 = w.alloc (.cells #[.int .i64 ((q : Int) + 1), .int .i64 cls, .int .i64 (fmt : Int), .slice p ss.length c] 90) := ⟨_, rfl⟩
  have F1 : Hid (Fr [] w W1) := by rw [hW1]; exact Fr.alloc [] _ _
  have hB1 : W1.heap[w.heap.size]? = some (.cells #[.int .i64 ((q : Int) + 1), .int .i64 cls, .int .i64 (fmt : Int), .slice p ss.length c] 90 (0, 0)) := by rw [hW1]; exact heap_alloc_new _ _
  have HB1 := mkHid hB1
  have HR : Hid (∀ V, Hid (Fr [] w V) → Rep V a l H) := fun V hV => h.keep hV.out (by simp)
  have HTb : Hid (∀ V, Hid (Fr [] w V) → Tab V) := fun V hV => hT.fr hV.out hT0
  have HSO := mkHid (seatOf_none ((q : Int) + 1) a l H W1 (HR.out W1 F1) hh)
  have HRow : Hid (∀ V, Hid (Fr [] w V) → 0 < ss.length → ∃ g off, p = some ⟨g, off, none⟩ ∧ ∀ i, i < ss.length → V.cell? ⟨g, off + i, none⟩ = some (.int .i64 (ss.getD i 0))) := by
    intro V hV hp
    obtain ⟨g, off, hg, hgl, hcc⟩ := hrow hp
    exact ⟨g, off, hg, fun i hi => (hV.out.cell (p := ⟨g, off + i, none⟩) hgl (by simp)).trans (hcc i hi)⟩
  have HMay := mkHid hmay
  have HSm := mkHid hs
  have hw := fun V hV => isWord_any cls V (HTb.out V hV)
  rw [hc] at hw
  have HW := mkHid hw
  have hff : isF (fmt : Int) = true := by unfold isF; simp; omega
  have hfo := fun V => isFormat_any (fmt : Int) V
  rw [hff] at hfo
  have HFo := mkHid hfo
  have hlen := length_any ss.length fmt
  rw [lenOf_nat] at hlen
  have HL := mkHid hlen
  have k1 : (1 : Int) ≤ (q : Int) + 1 := by omega
  have k2 : (q : Int) + 1 ≤ (H.oops : Int) := by omega
  have k3 : (ss.length : Int) ≤ 8192 := by omega
  have k4 : ((lenN ss.length fmt : Nat) : Int) ≤ (H.words : Int) - (H.mem.length : Int) := by omega
  clear h ho hrow hmay hs hT hB1 hc hw hff hfo hlen
  go_enter Tryd.func83, Tryd.ntmps83
  go_wp2_with fail
  rw [← hW1]
  clear hW1
  refine Calls.mono HSO.out ?_
  rintro e w2 ⟨rfl, hf2⟩
  dsimp only [sv, I]
  have F2 : Hid (Fr [] w (w2.alloc (.cells #[.int .i64 0, .int .i64 0, .int .i64 0] 94))) := (F1.out.trans hf2 (by simp)).trans (Fr.alloc [] _ _) (by simp)
  have hb2 := (hf2.block _ (lt_of_heap HB1.out) (by simp)).trans HB1.out
  have hz2 := lt_of_heap hb2
  have HB2 : Hid ((w2.alloc (.cells #[.int .i64 0, .int .i64 0, .int .i64 0] 94)).heap[w.heap.size]? = some (.cells #[.int .i64 ((q : Int) + 1), .int .i64 cls, .int .i64 (fmt : Int), .slice p ss.length c] 90 (0, 0))) := by rw [Hid, Below.heap_alloc _ _ _ hz2]; exact hb2
  clear hf2 hb2 HSO HB1
  go_wp2_with fail
  generalize w2.alloc (.cells #[.int .i64 0, .int .i64 0, .int .i64 0] 94) = W2 at *
  generalize w2.heap.size = S2 at *
  have HCl : Hid (∀ V, Hid (Fr [] W2 V) → V.cell? ⟨w.heap.size, 0, none⟩ = some (.int .i64 ((q : Int) + 1)) ∧ V.cell? ⟨w.heap.size, 1, none⟩ = some (.int .i64 cls) ∧ V.cell? ⟨w.heap.size, 2, none⟩ = some (.int .i64 (fmt : Int)) ∧ V.cell? ⟨w.heap.size, 3, none⟩ = some (.slice p ss.length c) ∧ V.cell? ⟨a, 2, none⟩ = some (.int .i64 (H.oops : Int)) ∧ Hid (Fr [] w V)) := by
    intro V hV
    have b := (hV.out.block _ (lt_of_heap HB2.out) (by simp)).trans HB2.out
    have hF : Fr [] w V := F2.out.trans hV.out (by simp)
    exact ⟨by rw [cell_in b]; rfl, by rw [cell_in b]; rfl, by rw [cell_in b]; rfl, by rw [cell_in b]; rfl, (HR.out V hF).c2, hF⟩
  obtain ⟨x0, x1, x2, x3, x4, -⟩ := HCl.out W2 (Fr.refl _ _)
  go_quiet (fail)
  go_wp2_with fail
  have F3 : Hid (Fr [] W2 (W2.drewN nq)) := Fr.drewN [] _ _
  clear x0 x1 x2 x3 x4
  generalize W2.drewN nq = W3 at *
  obtain ⟨y0, y1, y2, y3, y4, hF3⟩ := HCl.out W3 F3
  have HW3 := mkHid (HW.out W3 hF3)
  have HRm := mkHid (Room_any a l H W3 (HR.out W3 hF3) HSm.out)
  go_wp2_with (first | (go_at_call 75; refine Calls.mono HW3.out ?_; rintro e w' ⟨rfl, hw'⟩; rw [hw']; clear hw' w') | (go_at_call 76; refine Calls.mono (HFo.out _) ?_; rintro e w' ⟨rfl, hw'⟩; rw [hw']; clear hw' w'))
  refine Calls.mono HRm.out ?_
  rintro e w4 ⟨rfl, n4, hw4⟩
  rw [hw4]
  clear hw4 w4
  have F4 : Hid (Fr [] W2 (W3.drewN n4)) := F3.out.trans (Fr.drewN [] _ _) (by simp)
  clear y0 y1 y2 y3 y4 HW3 HRm
  generalize W3.drewN n4 = W4 at *
  obtain ⟨y0, y1, y2, y3, y4, hF4⟩ := HCl.out W4 F4
  go_wp2_with (go_at_call 77; refine (HL.out _ (by omega) (by omega)).mono ?_; rintro e w' ⟨rfl, hw'⟩; rw [hw']; clear hw' w')
  go_loopw [66] (fun qq wr => ∃ i : Nat, i ≤ ss.length ∧ qq = .int .i64 i ∧ Hid (Fr [] W2 wr)) (fun qq _ => ss.length - (intOf qq).toNat)
  case atStart => exact ⟨0, Nat.zero_le _, rfl, F4.out⟩
  case round =>
    clear y0 y1 y2 y3 y4
    obtain ⟨i, hin, rfl, hqq⟩ := hrel
    obtain ⟨z0, z1, z2, z3, z4, hFr⟩ := HCl.out wr hqq
    by_cases hlt : i < ss.length
    · obtain ⟨g, off, rfl, g4⟩ := HRow.out wr hFr (by omega)
      have gx := g4 i hlt
      have hm := mayStand_any (ss.getD i 0) (fmt : Int) wr (HTb.out wr hFr)
      rw [HMay.out i hlt] at hm
      have HMs := mkHid hm
      have j1 : (0 : Int) ≤ (i : Int) := by omega
      have j2 : (i : Int) < (ss.length : Int) := by omega
      generalize ss.getD i 0 = xv at *
      clear hm g4
      go_wp2_with (go_at_call 68; refine Calls.mono HMs.out ?_; rintro e w' ⟨rfl, hw'⟩; rw [hw']; clear hw' w')
      go_roundw
      case rel => exact ⟨i + 1, by omega, by go_num, hqq⟩
      case measure => simp [intOf]; omega
    · have hie : i = ss.length := by omega
      subst hie
      go_wp2_with fail
      go_ret
      exact ⟨rfl, hFr.out⟩
end Go.Proofs.YtkmjimdaimbdfaaDoor



namespace Go.Proofs.YtkmjimdaimbdfaaDoor
open Go.RowKit
set_option linter.unusedVariables false
attribute [local go_sem ↓] Go.wp_at_zero Go.wp_at_succ
set_option maxRecDepth 20000 in
set_option maxHeartbeats 1000000 in
theorem takes_has (oop : Nat) (cls fmt : Int) (p : Option Addr) (n c a : Nat) (l : Lay) (H : HS) (w : World) (h : Rep w a l H) (hh : has H (oop : Int) = true) :
    Calls Tryd.prog 83 #[.pointer (some ⟨a, 0, none⟩), .agg #[.int .i64 (oop : Int), .int .i64 cls, .int .i64 fmt, .slice p n c]] w fun e w' => e = .returned (.bool false) ∧ Fr [] w w' := by
  obtain ⟨h1, h2, h3⟩ := has_yes hh
  obtain ⟨W1, hW1⟩ : ∃ W1, W1 = w.alloc (.cells #[.int .i64 (oop : Int), .int .i64 cls, .int .i64 fmt, .slice p n c] 90) := ⟨_, rfl⟩
  have F1 : Hid (Fr [] w W1) := by rw [hW1]; exact Fr.alloc [] _ _
  have hR1 : Rep W1 a l H := h.keep F1.out (by simp)
  have HSO := mkHid (seatOf_yes oop a l H W1 hR1 h1 h2 h3)
  clear h hh hR1
  generalize H.seats.getD oop (0, 0, 0) = s at *
  obtain ⟨s0, s1, s2⟩ := s
  dsimp only [sv, I] at *
  go_enter Tryd.func83, Tryd.ntmps83
  go_wp2_with fail
  rw [← hW1]
  clear hW1
  refine Calls.mono HSO.out ?_
  rintro e w2 ⟨rfl, hf2⟩
  have F2 : Hid (∀ n, Fr [] w ((w2.alloc (.cells #[.int .i64 (s0 : Int), .int .i64 (s1 : Int), .int .i64 (s2 : Int)] 94)).drewN n)) := fun n => ((F1.out.trans hf2 (by simp)).trans (Fr.alloc [] _ _) (by simp)).trans (Fr.drewN [] _ _) (by simp)
  clear hf2 HSO
  go_wp2_with fail
  go_quiet (fail)
  go_wp2_with fail
  go_ret
  exact ⟨rfl, F2.out _⟩
set_option maxRecDepth 20000 in
set_option maxHeartbeats 1000000 in
theorem takes_oop (oop cls fmt : Int) (p : Option Addr) (n c a : Nat) (l : Lay) (H : HS) (w : World) (h : Rep w a l H) (hh : has H oop = false) (hb : oop < 1 ∨ (H.oops : Int) < oop) :
    Calls Tryd.prog 83 #[.pointer (some ⟨a, 0, none⟩), .agg #[.int .i64 oop, .int .i64 cls, .int .i64 fmt, .slice p n c]] w fun e w' => e = .returned (.bool false) ∧ Fr [] w w' := by
  obtain ⟨W1, hW1⟩ : ∃ W1, W1 = w.alloc (.cells #[.int .i64 oop, .int .i64 cls, .int .i64 fmt, .slice p n c] 90) := ⟨_, rfl⟩
  have F1 : Hid (Fr [] w W1) := by rw [hW1]; exact Fr.alloc [] _ _
  have hB1 : W1.heap[w.heap.size]? = some (.cells #[.int .i64 oop, .int .i64 cls, .int .i64 fmt, .slice p n c] 90 (0, 0)) := by rw [hW1]; exact heap_alloc_new _ _
  have hR1 : Rep W1 a l H := h.keep F1.out (by simp)
  have HSO := mkHid (seatOf_none oop a l H W1 hR1 hh)
  have HR := mkHid h
  have HB1 := mkHid hB1
  clear h hh hR1 hB1
  go_enter Tryd.func83, Tryd.ntmps83
  go_wp2_with fail
  rw [← hW1]
  clear hW1
  refine Calls.mono HSO.out ?_
  rintro e w2 ⟨rfl, hf2⟩
  have F2' : Fr [] w (w2.alloc (.cells #[.int .i64 0, .int .i64 0, .int .i64 0] 94)) := (F1.out.trans hf2 (by simp)).trans (Fr.alloc [] _ _) (by simp)
  have hb2 := (hf2.block _ (lt_of_heap HB1.out) (by simp)).trans HB1.out
  have hb3 : (w2.alloc (.cells #[.int .i64 0, .int .i64 0, .int .i64 0] 94)).heap[w.heap.size]? = some (.cells #[.int .i64 oop, .int .i64 cls, .int .i64 fmt, .slice p n c] 90 (0, 0)) := by rw [Below.heap_alloc _ _ _ (lt_of_heap hb2)]; exact hb2
  have x0 : (w2.alloc (.cells #[.int .i64 0, .int .i64 0, .int .i64 0] 94)).cell? ⟨w.heap.size, 0, none⟩ = some (.int .i64 oop) := by rw [cell_in hb3]; rfl
  have x4 := (HR.out.keep F2' (by simp)).c2
  have F2 : Hid (∀ n, Fr [] w ((w2.alloc (.cells #[.int .i64 0, .int .i64 0, .int .i64 0] 94)).drewN n)) := fun n => F2'.trans (Fr.drewN [] _ _) (by simp)
  clear hf2 HSO F2' hb2 hb3
  go_wp2_with fail
  generalize w2.alloc (.cells #[.int .i64 0, .int .i64 0, .int .i64 0] 94) = W2 at *
  rcases hb with hb | hb
  · go_quiet (fail)
    go_wp2_with fail
    go_ret
    exact ⟨rfl, F2.out _⟩
  · have hb1 : 1 ≤ oop := by omega
    go_quiet (fail)
    go_wp2_with fail
    go_ret
    exact ⟨rfl, F2.out _⟩
end Go.Proofs.YtkmjimdaimbdfaaDoor



namespace Go.Proofs.YtkmjimdaimbdfaaDoor
open Go.RowKit
set_option linter.unusedVariables false
attribute [local go_sem ↓] Go.wp_at_zero Go.wp_at_succ
set_option maxRecDepth 20000 in
set_option maxHeartbeats 1000000 in
theorem takes_form (oop cls fmt : Int) (p : Option Addr) (n c a : Nat) (l : Lay) (H : HS) (w : World) (h : Rep w a l H) (hs : Small H) (hT : Tab w) (hT0 : 0 < w.heap.size) (hh : has H oop = false) (k1 : (1 : Int) ≤ oop) (k2 : oop ≤ (H.oops : Int)) (hb : isW cls = false ∨ (isW cls = true ∧ isF fmt = false) ∨ (isW cls = true ∧ isF fmt = true ∧ 8192 < (n : Int))) :
    Calls Tryd.prog 83 #[.pointer (some ⟨a, 0, none⟩), .agg #[.int .i64 oop, .int .i64 cls, .int .i64 fmt, .slice p n c]] w fun e w' => e = .returned (.bool false) ∧ Fr [] w w' := by
  have hal := h.lt a (by simp [foot])
  obtain ⟨W1, hW1⟩ : ∃ W1, W1 = w.alloc (.cells #[.int .i64 oop, .int .i64 cls, .int .i64 fmt, .slice p n c] 90) := ⟨_, rfl⟩
  have F1 : Hid (Fr [] w W1) := by rw [hW1]; exact Fr.alloc [] _ _
  have hB1 : W1.heap[w.heap.size]? = some (.cells #[.int .i64 oop, .int .i64 cls, .int .i64 fmt, .slice p n c] 90 (0, 0)) := by rw [hW1]; exact heap_alloc_new _ _
  have HB1 := mkHid hB1
  have HR : Hid (∀ V, Hid (Fr [] w V) → Rep V a l H) := fun V hV => h.keep hV.out (by simp)
  have HTb : Hid (∀ V, Hid (Fr [] w V) → Tab V) := fun V hV => hT.fr hV.out hT0
  have HSO := mkHid (seatOf_none oop a l H W1 (HR.out W1 F1) hh)
  have HSm := mkHid hs
  have HW : Hid (∀ V, Hid (Fr [] w V) → Calls Tryd.prog 75 #[.int .i64 cls] V fun e w' => e = .returned (.bool (isW cls)) ∧ w' = V) := fun V hV => isWord_any cls V (HTb.out V hV)
  have HFo := mkHid (fun V => isFormat_any fmt V)
  clear h hs hT hB1 hh
  go_enter Tryd.func83, Tryd.ntmps83
  go_wp2_with fail
  rw [← hW1]
  clear hW1
  refine Calls.mono HSO.out ?_
  rintro e w2 ⟨rfl, hf2⟩
  have F2 : Hid (Fr [] w (w2.alloc (.cells #[.int .i64 0, .int .i64 0, .int .i64 0] 94))) := (F1.out.trans hf2 (by simp)).trans (Fr.alloc [] _ _) (by simp)
  have hb2 := (hf2.block _ (lt_of_heap HB1.out) (by simp)).trans HB1.out
  have hz2 := lt_of_heap hb2
  have HB2 : Hid ((w2.alloc (.cells #[.int .i64 0, .int .i64 0, .int .i64 0] 94)).heap[w.heap.size]? = some (.cells #[.int .i64 oop, .int .i64 cls, .int .i64 fmt, .slice p n c] 90 (0, 0))) := by rw [Hid, Below.heap_alloc _ _ _ hz2]; exact hb2
  clear hf2 hb2 HSO HB1
  go_wp2_with fail
  generalize w2.alloc (.cells #[.int .i64 0, .int .i64 0, .int .i64 0] 94) = W2 at *
  generalize w2.heap.size = S2 at *
  have HCl : Hid (∀ V, Hid (Fr [] W2 V) → V.cell? ⟨w.heap.size, 0, none⟩ = some (.int .i64 oop) ∧ V.cell? ⟨w.heap.size, 1, none⟩ = some (.int .i64 cls) ∧ V.cell? ⟨w.heap.size, 2, none⟩ = some (.int .i64 fmt) ∧ V.cell? ⟨w.heap.size, 3, none⟩ = some (.slice p n c) ∧ V.cell? ⟨a, 2, none⟩ = some (.int .i64 (H.oops : Int)) ∧ Hid (Fr [] w V)) := by
    intro V hV
    have b := (hV.out.block _ (lt_of_heap HB2.out) (by simp)).trans HB2.out
    have hF : Fr [] w V := F2.out.trans hV.out (by simp)
    exact ⟨by rw [cell_in b]; rfl, by rw [cell_in b]; rfl, by rw [cell_in b]; rfl, by rw [cell_in b]; rfl, (HR.out V hF).c2, hF⟩
  obtain ⟨x0, x1, x2, x3, x4, -⟩ := HCl.out W2 (Fr.refl _ _)
  go_quiet (fail)
  go_wp2_with fail
  have F3 : Hid (Fr [] W2 (W2.drewN nq)) := Fr.drewN [] _ _
  clear x0 x1 x2 x3 x4
  generalize W2.drewN nq = W3 at *
  obtain ⟨y0, y1, y2, y3, y4, hF3⟩ := HCl.out W3 F3
  have HW3 := HW.out W3 hF3
  have HFo3 := HFo.out W3
  rcases hb with hb | ⟨hb, hb2⟩ | ⟨hb, hb2, hb3⟩
  · rw [hb] at HW3
    have HWb := mkHid HW3
    clear HW3 HFo3 HW HFo
    go_wp2_with (go_at_call 75; refine Calls.mono HWb.out ?_; rintro e w' ⟨rfl, hw'⟩; rw [hw']; clear hw' w')
    go_ret
    exact ⟨rfl, hF3.out⟩
  · rw [hb] at HW3
    rw [hb2] at HFo3
    have HWb := mkHid HW3
    have HFb := mkHid HFo3
    clear HW3 HFo3 HW HFo
    go_wp2_with (first | (go_at_call 75; refine Calls.mono HWb.out ?_; rintro e w' ⟨rfl, hw'⟩; rw [hw']; clear hw' w') | (go_at_call 76; refine Calls.mono HFb.out ?_; rintro e w' ⟨rfl, hw'⟩; rw [hw']; clear hw' w'))
    go_ret
    exact ⟨rfl, hF3.out⟩
  · rw [hb] at HW3
    rw [hb2] at HFo3
    have HWb := mkHid HW3
    have HFb := mkHid HFo3
    clear HW3 HFo3 HW HFo
    go_wp2_with (first | (go_at_call 75; refine Calls.mono HWb.out ?_; rintro e w' ⟨rfl, hw'⟩; rw [hw']; clear hw' w') | (go_at_call 76; refine Calls.mono HFb.out ?_; rintro e w' ⟨rfl, hw'⟩; rw [hw']; clear hw' w'))
    go_ret
    exact ⟨rfl, hF3.out⟩
set_option maxRecDepth 20000 in
set_option maxHeartbeats 1000000 in
theorem takes_room (oop cls fmt : Int) (p : Option Addr) (n c a : Nat) (l : Lay) (H : HS) (w : World) (h : Rep w a l H) (hs : Small H) (hT : Tab w) (hT0 : 0 < w.heap.size) (hh : has H oop = false) (k1 : (1 : Int) ≤ oop) (k2 : oop ≤ (H.oops : Int)) (hb : isW cls = true) (hb2 : isF fmt = true) (hb3 : (n : Int) ≤ 8192) (hb4 : (H.words : Int) - (H.mem.length : Int) < lenOf (n : Int) fmt) :
    Calls Tryd.prog 83 #[.pointer (some ⟨a, 0, none⟩), .agg #[.int .i64 oop, .int .i64 cls, .int .i64 fmt, .slice p n c]] w fun e w' => e = .returned (.bool false) ∧ Fr [] w w' := by
  have hal := h.lt a (by simp [foot])
  obtain ⟨W1, hW1⟩ : ∃ W1, W1 = w.alloc (.cells #[.int .i64 oop, .int .i64 cls, .int .i64 fmt, .slice p n c] 90) := ⟨_, rfl⟩
  have F1 : Hid (Fr [] w W1) := by rw [hW1]; exact Fr.alloc [] _ _
  have hB1 : W1.heap[w.heap.size]? = some (.cells #[.int .i64 oop, .int .i64 cls, .int .i64 fmt, .slice p n c] 90 (0, 0)) := by rw [hW1]; exact heap_alloc_new _ _
  have HB1 := mkHid hB1
  have HR : Hid (∀ V, Hid (Fr [] w V) → Rep V a l H) := fun V hV => h.keep hV.out (by simp)
  have HTb : Hid (∀ V, Hid (Fr [] w V) → Tab V) := fun V hV => hT.fr hV.out hT0
  have HSO := mkHid (seatOf_none oop a l H W1 (HR.out W1 F1) hh)
  have HSm := mkHid hs
  have HW : Hid (∀ V, Hid (Fr [] w V) → Calls Tryd.prog 75 #[.int .i64 cls] V fun e w' => e = .returned (.bool (isW cls)) ∧ w' = V) := fun V hV => isWord_any cls V (HTb.out V hV)
  have HFo := mkHid (fun V => isFormat_any fmt V)
  have HL := mkHid (length_any (n : Int) fmt)
  clear h hs hT hB1 hh
  go_enter Tryd.func83, Tryd.ntmps83
  go_wp2_with fail
  rw [← hW1]
  clear hW1
  refine Calls.mono HSO.out ?_
  rintro e w2 ⟨rfl, hf2⟩
  have F2 : Hid (Fr [] w (w2.alloc (.cells #[.int .i64 0, .int .i64 0, .int .i64 0] 94))) := (F1.out.trans hf2 (by simp)).trans (Fr.alloc [] _ _) (by simp)
  have hb2 := (hf2.block _ (lt_of_heap HB1.out) (by simp)).trans HB1.out
  have hz2 := lt_of_heap hb2
  have HB2 : Hid ((w2.alloc (.cells #[.int .i64 0, .int .i64 0, .int .i64 0] 94)).heap[w.heap.size]? = some (.cells #[.int .i64 oop, .int .i64 cls, .int .i64 fmt, .slice p n c] 90 (0, 0))) := by rw [Hid, Below.heap_alloc _ _ _ hz2]; exact hb2
  clear hf2 hb2 HSO HB1
  go_wp2_with fail
  generalize w2.alloc (.cells #[.int .i64 0, .int .i64 0, .int .i64 0] 94) = W2 at *
  generalize w2.heap.size = S2 at *
  have HCl : Hid (∀ V, Hid (Fr [] W2 V) → V.cell? ⟨w.heap.size, 0, none⟩ = some (.int .i64 oop) ∧ V.cell? ⟨w.heap.size, 1, none⟩ = some (.int .i64 cls) ∧ V.cell? ⟨w.heap.size, 2, none⟩ = some (.int .i64 fmt) ∧ V.cell? ⟨w.heap.size, 3, none⟩ = some (.slice p n c) ∧ V.cell? ⟨a, 2, none⟩ = some (.int .i64 (H.oops : Int)) ∧ Hid (Fr [] w V)) := by
    intro V hV
    have b := (hV.out.block _ (lt_of_heap HB2.out) (by simp)).trans HB2.out
    have hF : Fr [] w V := F2.out.trans hV.out (by simp)
    exact ⟨by rw [cell_in b]; rfl, by rw [cell_in b]; rfl, by rw [cell_in b]; rfl, by rw [cell_in b]; rfl, (HR.out V hF).c2, hF⟩
  obtain ⟨x0, x1, x2, x3, x4, -⟩ := HCl.out W2 (Fr.refl _ _)
  go_quiet (fail)
  go_wp2_with fail
  have F3 : Hid (Fr [] W2 (W2.drewN nq)) := Fr.drewN [] _ _
  clear x0 x1 x2 x3 x4
  generalize W2.drewN nq = W3 at *
  obtain ⟨y0, y1, y2, y3, y4, hF3⟩ := HCl.out W3 F3
  have HW3 := HW.out W3 hF3
  have HFo3 := HFo.out W3
  rw [hb] at HW3
  rw [hb2] at HFo3
  have HWb := mkHid HW3
  have HFb := mkHid HFo3
  have HRm := mkHid (Room_any a l H W3 (HR.out W3 hF3) HSm.out)
  clear HW3 HFo3 HW HFo
  go_wp2_with (first | (go_at_call 75; refine Calls.mono HWb.out ?_; rintro e w' ⟨rfl, hw'⟩; rw [hw']; clear hw' w') | (go_at_call 76; refine Calls.mono HFb.out ?_; rintro e w' ⟨rfl, hw'⟩; rw [hw']; clear hw' w'))
  refine Calls.mono HRm.out ?_
  rintro e w4 ⟨rfl, n4, hw4⟩
  rw [hw4]
  clear hw4 w4
  have F4 : Hid (Fr [] W2 (W3.drewN n4)) := F3.out.trans (Fr.drewN [] _ _) (by simp)
  clear y0 y1 y2 y3 y4 HWb HFb HRm
  generalize W3.drewN n4 = W4 at *
  obtain ⟨y0, y1, y2, y3, y4, hF4⟩ := HCl.out W4 F4
  generalize lenOf (n : Int) fmt = L at *
  go_wp2_with (go_at_call 77; refine (HL.out _ (by omega) (by omega)).mono ?_; rintro e w' ⟨rfl, hw'⟩; rw [hw']; clear hw' w')
  go_ret
  exact ⟨rfl, hF4.out⟩
set_option maxRecDepth 20000 in
set_option maxHeartbeats 1000000 in
theorem takes_slot (oop cls fmt : Int) (p : Option Addr) (n c a : Nat) (l : Lay) (H : HS) (w : World) (h : Rep w a l H) (hs : Small H) (hT : Tab w) (hT0 : 0 < w.heap.size) (hh : has H oop = false) (k1 : (1 : Int) ≤ oop) (k2 : oop ≤ (H.oops : Int)) (hb : isW cls = true) (hb2 : isF fmt = true) (hb3 : (n : Int) ≤ 8192) (hb4 : lenOf (n : Int) fmt ≤ (H.words : Int) - (H.mem.length : Int)) (ss : List Int) (g off j0 : Nat) (hp : p = some ⟨g, off, none⟩) (hgl : g < w.heap.size) (hcell : ∀ i, i < n → w.cell? ⟨g, off + i, none⟩ = some (.int .i64 (ss.getD i 0))) (hj : j0 < n) (hgood : ∀ i, i < j0 → mayB (ss.getD i 0) fmt = true) (hbad : mayB (ss.getD j0 0) fmt = false) :
    Calls Tryd.prog 83 #[.pointer (some ⟨a, 0, none⟩), .agg #[.int .i64 oop, .int .i64 cls, .int .i64 fmt, .slice p n c]] w fun e w' => e = .returned (.bool false) ∧ Fr [] w w' := by
  have hal := h.lt a (by simp [foot])
  obtain ⟨W1, hW1⟩ : ∃ W1, W1 = w.alloc (.cells #[.int .i64 oop, .int .i64 cls, .int .i64 fmt, .slice p n c] 90) := ⟨_, rfl⟩
  have F1 : Hid (Fr [] w W1) := by rw [hW1]; exact Fr.alloc [] _ _
  have hB1 : W1.heap[w.heap.size]? = some (.cells #[.int .i64 oop, .int .i64 cls, .int .i64 fmt, .slice p n c] 90 (0, 0)) := by rw [hW1]; exact heap_alloc_new _ _
  have HB1 := mkHid hB1
  have HR : Hid (∀ V, Hid (Fr [] w V) → Rep V a l H) := fun V hV => h.keep hV.out (by simp)
  have HTb : Hid (∀ V, Hid (Fr [] w V) → Tab V) := fun V hV => hT.fr hV.out hT0
  have HSO := mkHid (seatOf_none oop a l H W1 (HR.out W1 F1) hh)
  have HSm := mkHid hs
  have HW : Hid (∀ V, Hid (Fr [] w V) → Calls Tryd.prog 75 #[.int .i64 cls] V fun e w' => e = .returned (.bool (isW cls)) ∧ w' = V) := fun V hV => isWord_any cls V (HTb.out V hV)
  have HFo := mkHid (fun V => isFormat_any fmt V)
  have HL := mkHid (length_any (n : Int) fmt)
  have HCe : Hid (∀ V, Hid (Fr [] w V) → ∀ i, i < n → V.cell? ⟨g, off + i, none⟩ = some (.int .i64 (ss.getD i 0))) := fun V hV i hi => (hV.out.cell (p := ⟨g, off + i, none⟩) hgl (by simp)).trans (hcell i hi)
  have HGood := mkHid hgood
  have HBad := mkHid hbad
  have HP := mkHid hp
  clear hcell hgood hbad hp
  clear h hs hT hB1 hh
  go_enter Tryd.func83, Tryd.ntmps83
  go_wp2_with fail
  rw [← hW1]
  clear hW1
  refine Calls.mono HSO.out ?_
  rintro e w2 ⟨rfl, hf2⟩
  have F2 : Hid (Fr [] w (w2.alloc (.cells #[.int .i64 0, .int .i64 0, .int .i64 0] 94))) := (F1.out.trans hf2 (by simp)).trans (Fr.alloc [] _ _) (by simp)
  have hb2 := (hf2.block _ (lt_of_heap HB1.out) (by simp)).trans HB1.out
  have hz2 := lt_of_heap hb2
  have HB2 : Hid ((w2.alloc (.cells #[.int .i64 0, .int .i64 0, .int .i64 0] 94)).heap[w.heap.size]? = some (.cells #[.int .i64 oop, .int .i64 cls, .int .i64 fmt, .slice p n c] 90 (0, 0))) := by rw [Hid, Below.heap_alloc _ _ _ hz2]; exact hb2
  clear hf2 hb2 HSO HB1
  go_wp2_with fail
  generalize w2.alloc (.cells #[.int .i64 0, .int .i64 0, .int .i64 0] 94) = W2 at *
  generalize w2.heap.size = S2 at *
  have HCl : Hid (∀ V, Hid (Fr [] W2 V) → V.cell? ⟨w.heap.size, 0, none⟩ = some (.int .i64 oop) ∧ V.cell? ⟨w.heap.size, 1, none⟩ = some (.int .i64 cls) ∧ V.cell? ⟨w.heap.size, 2, none⟩ = some (.int .i64 fmt) ∧ V.cell? ⟨w.heap.size, 3, none⟩ = some (.slice p n c) ∧ V.cell? ⟨a, 2, none⟩ = some (.int .i64 (H.oops : Int)) ∧ Hid (Fr [] w V)) := by
    intro V hV
    have b := (hV.out.block _ (lt_of_heap HB2.out) (by simp)).trans HB2.out
    have hF : Fr [] w V := F2.out.trans hV.out (by simp)
    exact ⟨by rw [cell_in b]; rfl, by rw [cell_in b]; rfl, by rw [cell_in b]; rfl, by rw [cell_in b]; rfl, (HR.out V hF).c2, hF⟩
  have hp := HP.out
  clear HP
  subst hp
  obtain ⟨x0, x1, x2, x3, x4, -⟩ := HCl.out W2 (Fr.refl _ _)
  go_quiet (fail)
  go_wp2_with fail
  have F3 : Hid (Fr [] W2 (W2.drewN nq)) := Fr.drewN [] _ _
  clear x0 x1 x2 x3 x4
  generalize W2.drewN nq = W3 at *
  obtain ⟨y0, y1, y2, y3, y4, hF3⟩ := HCl.out W3 F3
  have HW3 := HW.out W3 hF3
  have HFo3 := HFo.out W3
  rw [hb] at HW3
  rw [hb2] at HFo3
  have HWb := mkHid HW3
  have HFb := mkHid HFo3
  have HRm := mkHid (Room_any a l H W3 (HR.out W3 hF3) HSm.out)
  clear HW3 HFo3 HW HFo
  go_wp2_with (first | (go_at_call 75; refine Calls.mono HWb.out ?_; rintro e w' ⟨rfl, hw'⟩; rw [hw']; clear hw' w') | (go_at_call 76; refine Calls.mono HFb.out ?_; rintro e w' ⟨rfl, hw'⟩; rw [hw']; clear hw' w'))
  refine Calls.mono HRm.out ?_
  rintro e w4 ⟨rfl, n4, hw4⟩
  rw [hw4]
  clear hw4 w4
  have F4 : Hid (Fr [] W2 (W3.drewN n4)) := F3.out.trans (Fr.drewN [] _ _) (by simp)
  clear y0 y1 y2 y3 y4 HWb HFb HRm
  generalize W3.drewN n4 = W4 at *
  obtain ⟨y0, y1, y2, y3, y4, hF4⟩ := HCl.out W4 F4
  generalize lenOf (n : Int) fmt = L at *
  go_wp2_with (go_at_call 77; refine (HL.out _ (by omega) (by omega)).mono ?_; rintro e w' ⟨rfl, hw'⟩; rw [hw']; clear hw' w')
  go_loopw [66] (fun qq wr => ∃ i : Nat, i ≤ j0 ∧ qq = .int .i64 i ∧ Hid (Fr [] W2 wr)) (fun qq _ => n - (intOf qq).toNat)
  case atStart => exact ⟨0, Nat.zero_le _, rfl, F4.out⟩
  case round =>
    clear y0 y1 y2 y3 y4
    obtain ⟨i, hin, rfl, hqq⟩ := hrel
    obtain ⟨z0, z1, z2, z3, z4, hFr⟩ := HCl.out wr hqq
    have gx := HCe.out wr hFr i (by omega)
    have hm := mayStand_any (ss.getD i 0) fmt wr (HTb.out wr hFr)
    have j1 : (0 : Int) ≤ (i : Int) := by omega
    have j2 : (i : Int) < (n : Int) := by omega
    by_cases hlt : i < j0
    · rw [HGood.out i hlt] at hm
      have HMs := mkHid hm
      generalize ss.getD i 0 = xv at *
      clear hm
      go_wp2_with (go_at_call 68; refine Calls.mono HMs.out ?_; rintro e w' ⟨rfl, hw'⟩; rw [hw']; clear hw' w')
      go_roundw
      case rel => exact ⟨i + 1, by omega, by go_num, hqq⟩
      case measure => simp [intOf]; omega
    · have hie : i = j0 := by omega
      subst hie
      rw [HBad.out] at hm
      have HMs := mkHid hm
      generalize ss.getD i 0 = xv at *
      clear hm
      go_wp2_with (go_at_call 68; refine Calls.mono HMs.out ?_; rintro e w' ⟨rfl, hw'⟩; rw [hw']; clear hw' w')
      go_ret
      exact ⟨rfl, hFr.out⟩
end Go.Proofs.YtkmjimdaimbdfaaDoor



namespace Go.Proofs.YtkmjimdaimbdfaaDoor
open Go.RowKit
/-- Whether an object may lie in a heap, beside those that do. -/
def takesB (H : HS) (oop cls fmt : Int) (ss : List Int) : Bool :=
  !has H oop && decide (1 ≤ oop) && decide (oop ≤ (H.oops : Int)) && isW cls && isF fmt && decide ((ss.length : Int) ≤ 8192) && decide (lenOf (ss.length : Int) fmt ≤ (H.words : Int) - (H.mem.length : Int)) && ss.all fun x => mayB x fmt
theorem all_bad (f : Int → Bool) : ∀ ss : List Int, (ss.all f) = false → ∃ j, j < ss.length ∧ (∀ i, i < j → f (ss.getD i 0) = true) ∧ f (ss.getD j 0) = false
  | [], h => by simp at h
  | x :: t, h => by
    by_cases hx : f x = true
    · have ht : t.all f = false := by simpa [hx] using h
      obtain ⟨j, hj, hg, hb⟩ := all_bad f t ht
      refine ⟨j + 1, by simpa using hj, fun i hi => ?_, by simpa using hb⟩
      rcases i with _ | i
      · simpa using hx
      · simpa using hg i (by omega)
    · exact ⟨0, by simp, fun i hi => absurd hi (by omega), by simpa using hx⟩
theorem takes_any (oop cls fmt : Int) (ss : List Int) (v : Value) (a : Nat) (l : Lay) (H : HS) (w : World) (h : Rep w a l H) (hs : Small H) (hT : Tab w) (hT0 : 0 < w.heap.size) (ho : Rd w v ss) :
    Calls Tryd.prog 83 #[.pointer (some ⟨a, 0, none⟩), .agg #[.int .i64 oop, .int .i64 cls, .int .i64 fmt, v]] w fun e w' => e = .returned (.bool (takesB H oop cls fmt ss)) ∧ Fr [] w w' := by
  obtain ⟨p, c, rfl, hrow⟩ := ho.at_
  by_cases hh : has H oop = true
  · have e : takesB H oop cls fmt ss = false := by simp [takesB, hh]
    rw [e]
    obtain ⟨m, rfl⟩ : ∃ m : Nat, oop = (m : Int) := ⟨oop.toNat, by have := (of_decide_eq_true hh).1; omega⟩
    exact takes_has m cls fmt p _ c a l H w h hh
  have hh : has H oop = false := by simpa using hh
  by_cases k1 : (1 : Int) ≤ oop
  rotate_left
  · have e : takesB H oop cls fmt ss = false := by simp [takesB, k1]
    rw [e]
    exact takes_oop oop cls fmt p _ c a l H w h hh (Or.inl (by omega))
  by_cases k2 : oop ≤ (H.oops : Int)
  rotate_left
  · have e : takesB H oop cls fmt ss = false := by simp [takesB, k2]
    rw [e]
    exact takes_oop oop cls fmt p _ c a l H w h hh (Or.inr (by omega))
  by_cases hb : isW cls = true
  rotate_left
  · have hb : isW cls = false := by simpa using hb
    have e : takesB H oop cls fmt ss = false := by simp [takesB, hb]
    rw [e]
    exact takes_form oop cls fmt p _ c a l H w h hs hT hT0 hh k1 k2 (Or.inl hb)
  by_cases hb2 : isF fmt = true
  rotate_left
  · have hb2 : isF fmt = false := by simpa using hb2
    have e : takesB H oop cls fmt ss = false := by simp [takesB, hb2]
    rw [e]
    exact takes_form oop cls fmt p _ c a l H w h hs hT hT0 hh k1 k2 (Or.inr (Or.inl ⟨hb, hb2⟩))
  by_cases hb3 : (ss.length : Int) ≤ 8192
  rotate_left
  · have e : takesB H oop cls fmt ss = false := by unfold takesB; rw [decide_eq_false hb3]; simp
    rw [e]
    exact takes_form oop cls fmt p _ c a l H w h hs hT hT0 hh k1 k2 (Or.inr (Or.inr ⟨hb, hb2, by omega⟩))
  by_cases hb4 : lenOf (ss.length : Int) fmt ≤ (H.words : Int) - (H.mem.length : Int)
  rotate_left
  · have e : takesB H oop cls fmt ss = false := by unfold takesB; rw [decide_eq_false hb4]; simp
    rw [e]
    exact takes_room oop cls fmt p _ c a l H w h hs hT hT0 hh k1 k2 hb hb2 hb3 (by omega)
  by_cases hb5 : (ss.all fun x => mayB x fmt) = true
  · have e : takesB H oop cls fmt ss = true := by unfold takesB; rw [hh, decide_eq_true k1, decide_eq_true k2, hb, hb2, decide_eq_true hb3, decide_eq_true hb4, hb5]; rfl
    rw [e]
    have hf : fmt = 0 ∨ fmt = 1 := by simpa [isF] using hb2
    obtain ⟨f, rfl, hf1⟩ : ∃ f : Nat, fmt = (f : Int) ∧ f ≤ 1 := by
      rcases hf with rfl | rfl
      · exact ⟨0, rfl, by omega⟩
      · exact ⟨1, rfl, by omega⟩
    obtain ⟨q, rfl⟩ : ∃ q : Nat, oop = (q : Int) + 1 := ⟨(oop - 1).toNat, by omega⟩
    rw [lenOf_nat] at hb4
    refine takes_yes q cls f ss _ a l H w h hs hT hT0 hh (by omega) hb hf1 (by omega) (by omega) (fun j hj => ?_) ho
    rw [List.all_eq_true] at hb5
    have e : ss.getD j 0 = ss[j] := by rw [List.getD_eq_getElem?_getD, List.getElem?_eq_getElem hj]; rfl
    rw [e]
    exact hb5 _ (List.getElem_mem hj)
  · have hb5 : (ss.all fun x => mayB x fmt) = false := by simpa using hb5
    have e : takesB H oop cls fmt ss = false := by unfold takesB; rw [hb5]; simp
    rw [e]
    obtain ⟨j, hj, hg, hbd⟩ := all_bad _ ss hb5
    obtain ⟨g, off, hp, hgl, hc⟩ := hrow (by omega)
    exact takes_slot oop cls fmt p _ c a l H w h hs hT hT0 hh k1 k2 hb hb2 hb3 hb4 ss g off j hp hgl hc hj hg hbd
end Go.Proofs.YtkmjimdaimbdfaaDoor



namespace Go.Proofs.YtkmjimdaimbdfaaDoor
open Go.RowKit
set_option linter.unusedVariables false
/-- objects laid in a heap one after the other, each taken; the last one first -/
def LdsR (H0 : HS) (M0 : MS) : List (Int × Int × Int × List Int) → HS → MS → Prop
  | [], H, M => H = H0 ∧ M = M0
  | k :: t, H', M' => ∃ (H : HS) (M : MS) (q : Nat) (cls : Int) (fmt : Nat) (ss : List Int), LdsR H0 M0 t H M ∧ takesB H ((q : Int) + 1) cls fmt ss = true ∧ Ld H M q cls fmt ss ss.length H' M' ∧ k = ((q : Int) + 1, cls, (fmt : Int), ss)
/-- objects laid in a heap one after the other, each taken -/
def Lds (H0 : HS) (M0 : MS) (ks : List (Int × Int × Int × List Int)) (H : HS) (M : MS) : Prop := LdsR H0 M0 ks.reverse H M
theorem Lds.nil {H0 : HS} {M0 : MS} : Lds H0 M0 [] H0 M0 := ⟨rfl, rfl⟩
theorem Lds.snoc {H0 : HS} {M0 : MS} {ks : List (Int × Int × Int × List Int)} {H H' : HS} {M M' : MS} (q : Nat) (cls : Int) (fmt : Nat) (ss : List Int) (h : Lds H0 M0 ks H M) (ht : takesB H ((q : Int) + 1) cls fmt ss = true) (hl : Ld H M q cls fmt ss ss.length H' M') : Lds H0 M0 (ks ++ [((q : Int) + 1, cls, (fmt : Int), ss)]) H' M' := by
  unfold Lds
  rw [List.reverse_append]
  exact ⟨H, M, q, cls, fmt, ss, h, ht, hl, rfl⟩
theorem Lds.ind {H0 : HS} {M0 : MS} {C : List (Int × Int × Int × List Int) → HS → MS → Prop} (h0 : C [] H0 M0)
    (h1 : ∀ (ks : List (Int × Int × Int × List Int)) (H H' : HS) (M M' : MS) (q : Nat) (cls : Int) (fmt : Nat) (ss : List Int), Lds H0 M0 ks H M → takesB H ((q : Int) + 1) cls fmt ss = true → Ld H M q cls fmt ss ss.length H' M' → C ks H M → C (ks ++ [((q : Int) + 1, cls, (fmt : Int), ss)]) H' M')
    {ks : List (Int × Int × Int × List Int)} {H : HS} {M : MS} (h : Lds H0 M0 ks H M) : C ks H M := by
  have key : ∀ (r : List (Int × Int × Int × List Int)) (H : HS) (M : MS), LdsR H0 M0 r H M → C r.reverse H M := by
    intro r
    induction r with
    | nil => rintro H M ⟨rfl, rfl⟩; exact h0
    | cons k t ih =>
      rintro H' M' ⟨H, M, q, cls, fmt, ss, h2, ht, hl, rfl⟩
      rw [List.reverse_cons]
      exact h1 _ H H' M M' q cls fmt ss (by unfold Lds; rw [List.reverse_reverse]; exact h2) ht hl (ih H M h2)
  have := key ks.reverse H M h
  rwa [List.reverse_reverse] at this
theorem not_there {H : HS} {M : MS} (h : Inv H M) (q : Nat) (hh : has H ((q : Int) + 1) = false) : (M.things.getD q noTh).there = false := by
  by_cases hq : q < M.things.length
  · cases hb : (M.things.getD q noTh).there with
    | false => rfl
    | true =>
      have h1 := (h.is q hq hb).has
      rw [show ((q + 1 : Nat) : Int) = (q : Int) + 1 from by omega] at h1
      rw [h1] at hh
      exact absurd hh (by simp)
  · rw [List.getD_eq_getElem?_getD, List.getElem?_eq_none (by omega)]; rfl
theorem thereTo_miss (S : List Th) (q : Nat) (hq : q < S.length) (hb : (S.getD q noTh).there = false) : ∀ k, q < k → k ≤ S.length → thereTo S k < k := by
  intro k
  induction k with
  | zero => intro h1; omega
  | succ k ih =>
    intro h1 hk
    rw [thereTo_succ S k (by omega)]
    by_cases e : q = k
    · subst e
      rw [hb]
      have := thereTo_le S q
      simp; omega
    · have := ih (by omega) (by omega)
      split <;> omega
theorem free_count {H : HS} {M : MS} (h : Inv H M) (q : Nat) (hq : q < M.oops) (hf : (M.things.getD q noTh).there = false) : H.count < H.oops := by
  rw [h.count, h.oops]
  have hm := h.most
  by_cases hl : q < M.things.length
  · have := thereTo_miss M.things q hl hf M.things.length hl (Nat.le_refl _)
    omega
  · have := thereTo_le M.things M.things.length
    omega
theorem takesB_yes {H : HS} {oop cls fmt : Int} {ss : List Int} (h : takesB H oop cls fmt ss = true) : has H oop = false ∧ 1 ≤ oop ∧ oop ≤ (H.oops : Int) ∧ isW cls = true ∧ isF fmt = true ∧ (ss.length : Int) ≤ 8192 ∧ lenOf (ss.length : Int) fmt ≤ (H.words : Int) - (H.mem.length : Int) ∧ ∀ j, j < ss.length → mayB (ss.getD j 0) fmt = true := by
  unfold takesB at h
  simp only [Bool.and_eq_true, Bool.not_eq_true', decide_eq_true_eq] at h
  obtain ⟨⟨⟨⟨⟨⟨⟨h1, h2⟩, h3⟩, h4⟩, h5⟩, h6⟩, h7⟩, h8⟩ := h
  refine ⟨h1, h2, h3, h4, h5, h6, h7, fun j hj => ?_⟩
  rw [List.all_eq_true] at h8
  have e : ss.getD j 0 = ss[j] := by rw [List.getD_eq_getElem?_getD, List.getElem?_eq_getElem hj]; rfl
  rw [e]
  exact h8 _ (List.getElem_mem hj)
theorem Lds.inv {H0 H : HS} {M0 M : MS} {ks : List (Int × Int × Int × List Int)} (h0 : Inv H0 M0) (h : Lds H0 M0 ks H M) : Inv H M :=
  Lds.ind (C := fun _ H M => Inv H M) h0 (fun _ _ _ _ _ _ _ _ _ _ _ hl _ => hl.inv) h
/-- an object that is taken is laid -/
theorem load_taken (q : Nat) (cls : Int) (fmt : Nat) (ss : List Int) (v : Value) (a : Nat) (l : Lay) (H : HS) (M : MS) (w : World) (h : Rep w a l H) (hi : Inv H M) (ht : takesB H ((q : Int) + 1) cls fmt ss = true)
    (ho : Rd w v ss) (hbn : 0 < ss.length → ∀ g, v.ownBlock = some g → g ∉ foot a l) :
    Calls Tryd.prog 84 #[.pointer (some ⟨a, 0, none⟩), .agg #[.int .i64 ((q : Int) + 1), .int .i64 cls, .int .i64 (fmt : Int), v]] w fun e w' => e = .returned (.tuple #[]) ∧ ∃ l' H' M', Rep w' a l' H' ∧ Nx a l l' w w' ∧ Ld H M q cls fmt ss ss.length H' M' := by
  obtain ⟨t1, t2, t3, t4, t5, t6, t7, t8⟩ := takesB_yes ht
  have hoo := hi.oops
  have hf : fmt ≤ 1 := by simp [isF] at t5; omega
  rw [lenOf_nat] at t7
  have hn := not_there hi q t1
  exact load_ok q cls fmt ss v a l H M w h hi (by omega) hn hf (by omega) (free_count hi q (by omega) hn) (by omega) t8 ho hbn
end Go.Proofs.YtkmjimdaimbdfaaDoor



namespace Go.Proofs.YtkmjimdaimbdfaaDoor
open Go.RowKit
set_option linter.unusedVariables false
attribute [local go_sem ↓] Go.wp_at_zero Go.wp_at_succ
set_option maxHeartbeats 1000000 in
theorem made_nil (w : World) : Calls Tryd.prog 43 #[.pointer none] w fun e w' => e = .returned (.bool false) ∧ w' = w := by
  go_enter Tryd.func43, Tryd.ntmps43
  go_wp2_with fail
  go_ret
  exact ⟨rfl, rfl⟩
set_option maxHeartbeats 1000000 in
theorem Room_nil (w : World) : Calls Tryd.prog 29 #[.pointer none] w fun e w' => e = .returned (.tuple #[.int .i64 0, .int .i64 0]) ∧ w' = w := by
  have HM := mkHid (made_nil w)
  go_enter Tryd.func29, Tryd.ntmps29
  go_wp2_with (go_at_call 43; refine Calls.mono HM.out ?_; rintro e w' ⟨rfl, hw'⟩; rw [hw']; clear hw' w')
  go_ret2
  exact ⟨rfl, rfl⟩
set_option maxHeartbeats 1000000 in
theorem State_nil (w : World) : Calls Tryd.prog 15 #[.pointer none] w fun e w' => e = .returned (.agg #[.int .i64 0, .int .i64 0, .int .i64 0, .slice none 0 0]) ∧ Fr [] w w' := by
  have HM := mkHid fun V => made_nil V
  go_enter Tryd.func15, Tryd.ntmps15
  go_wp2_with (go_at_call 43; refine Calls.mono (HM.out _) ?_; rintro e w' ⟨rfl, hw'⟩; rw [hw']; clear hw' w')
  have hB0 : (w.alloc (.cells #[.int .i64 0, .int .i64 0, .int .i64 0, .slice none 0 0] 44)).heap[w.heap.size]? = some (.cells #[.int .i64 0, .int .i64 0, .int .i64 0, .slice none 0 0] 44 (0, 0)) := heap_alloc_new _ _
  have F0 : Fr [] w (w.alloc (.cells #[.int .i64 0, .int .i64 0, .int .i64 0, .slice none 0 0] 44)) := Fr.alloc [] _ _
  generalize w.alloc (.cells #[.int .i64 0, .int .i64 0, .int .i64 0, .slice none 0 0] 44) = V at *
  have x0 : V.cell? ⟨w.heap.size, 0, none⟩ = some (.int .i64 0) := by rw [cell_in hB0]; rfl
  have x1 : V.cell? ⟨w.heap.size, 1, none⟩ = some (.int .i64 0) := by rw [cell_in hB0]; rfl
  have x2 : V.cell? ⟨w.heap.size, 2, none⟩ = some (.int .i64 0) := by rw [cell_in hB0]; rfl
  have x3 : V.cell? ⟨w.heap.size, 3, none⟩ = some (.slice none 0 0) := by rw [cell_in hB0]; rfl
  refine bodyPost_ret (v := .agg #[.int .i64 0, .int .i64 0, .int .i64 0, .slice none 0 0]) (by simp [results, Tryd.results15, go_sem, x0, x1, x2, x3]) rfl ?_
  exact ⟨rfl, F0⟩
/-- numbers that no state has -/
def argBad (x y z : Int) : Prop := x < 0 ∨ 1048576 < x ∨ y < 0 ∨ 65536 < y ∨ z < 0 ∨ 1073741824 < z
set_option maxHeartbeats 1000000 in
theorem New_bad (x y : Int) (w : World) (hb : x < 0 ∨ 1048576 < x ∨ y < 0 ∨ 65536 < y) : Calls Tryd.prog 64 #[.int .i64 x, .int .i64 y] w fun e w' => e = .returned (.tuple #[.pointer none, .int .i64 1]) ∧ w' = w := by
  by_cases a0 : x < 0
  · go_enter Tryd.func64, Tryd.ntmps64
    go_wp2_with fail
    go_ret2
    exact ⟨rfl, rfl⟩
  have a0 : 0 ≤ x := by omega
  by_cases a1 : 1048576 < x
  · go_enter Tryd.func64, Tryd.ntmps64
    go_wp2_with fail
    go_ret2
    exact ⟨rfl, rfl⟩
  have a1 : x ≤ 1048576 := by omega
  by_cases a2 : y < 0
  · go_enter Tryd.func64, Tryd.ntmps64
    go_wp2_with fail
    go_ret2
    exact ⟨rfl, rfl⟩
  have a2 : 0 ≤ y := by omega
  have a3 : 65536 < y := by omega
  go_enter Tryd.func64, Tryd.ntmps64
  go_wp2_with fail
  go_ret2
  exact ⟨rfl, rfl⟩
set_option maxHeartbeats 2000000 in
theorem Load_bad (x y z : Int) (ov : Value) (w : World) (hb : argBad x y z) : Calls Tryd.prog 56 #[.agg #[.int .i64 x, .int .i64 y, .int .i64 z, ov]] w fun e w' => e = .returned (.tuple #[.pointer none, .int .i64 1]) ∧ Fr [] w w' := by
  obtain ⟨W1, hW1⟩ : ∃ W1, W1 = w.alloc (.cells #[.int .i64 x, .int .i64 y, .int .i64 z, ov] 44) := ⟨_, rfl⟩
  have F1 : Hid (Fr [] w W1) := by rw [hW1]; exact Fr.alloc [] _ _
  have hb1 : W1.heap[w.heap.size]? = some (.cells #[.int .i64 x, .int .i64 y, .int .i64 z, ov] 44 (0, 0)) := by rw [hW1]; exact heap_alloc_new _ _
  by_cases hn : x < 0 ∨ 1048576 < x ∨ y < 0 ∨ 65536 < y
  · have HN := mkHid (New_bad x y W1 hn)
    clear hn hb hb1
    go_enter Tryd.func56, Tryd.ntmps56
    go_wp2_with fail
    rw [← hW1]
    clear hW1
    refine Calls.mono HN.out ?_
    rintro e w2 ⟨rfl, rfl⟩
    go_wp2_with fail
    go_ret2
    exact ⟨rfl, F1.out⟩
  · obtain ⟨xn, rfl⟩ : ∃ n : Nat, x = (n : Int) := ⟨x.toNat, by omega⟩
    obtain ⟨yn, rfl⟩ : ∃ n : Nat, y = (n : Int) := ⟨y.toNat, by omega⟩
    have hN := New_in xn yn W1 (by omega) (by omega)
    have HN := mkHid hN
    have HB1 := mkHid hb1
    have hmk := fun V => isMark_any z V
    rw [show isM z = false from by unfold isM; unfold argBad at hb; simp; omega] at hmk
    have HMk := mkHid hmk
    clear hn hb hN hmk hb1
    go_enter Tryd.func56, Tryd.ntmps56
    go_wp2_with fail
    rw [← hW1]
    clear hW1
    refine Calls.mono HN.out ?_
    rintro e w2 ⟨rfl, hr2, hf2, hs2⟩
    have hb2 := (hf2.block _ (lt_of_heap HB1.out) (by simp)).trans HB1.out
    have e2 : w2.cell? ⟨w.heap.size, 2, none⟩ = some (.int .i64 z) := by rw [cell_in hb2]; rfl
    have F2 : Hid (Fr [] w w2) := F1.out.trans hf2 (by simp)
    clear hr2 hf2 hs2 HN HB1 hb2
    go_wp2_with (go_at_call 44; refine Calls.mono (HMk.out _) ?_; rintro e w' ⟨rfl, hw'⟩; rw [hw']; clear hw' w')
    go_ret2
    exact ⟨rfl, F2.out⟩
end Go.Proofs.YtkmjimdaimbdfaaDoor



namespace Go.Proofs.YtkmjimdaimbdfaaDoor
open Go.RowKit
set_option linter.unusedVariables false
attribute [local go_sem ↓] Go.wp_at_zero Go.wp_at_succ
/-- the object of an oop, in the document's heap -/
def RIs (R : RS) (oop : Int) (k : Nat) : Prop := k < R.objs.length ∧ ((R.objs.getD k noRO).oop : Int) = oop
def RNo (R : RS) (oop : Int) : Prop := ∀ j, j < R.objs.length → ((R.objs.getD j noRO).oop : Int) ≠ oop
end Go.Proofs.YtkmjimdaimbdfaaDoor


namespace Go.Proofs.YtkmjimdaimbdfaaDoor
open Go.RowKit
set_option linter.unusedVariables false
/-- what a list of loaded objects is in a heap -/
structure KOf (words oops mark : Nat) (ks : List Key) (H : HS) (M : MS) : Prop where
  inv : Inv H M
  words : H.words = words
  oops : H.oops = oops
  mark : H.mark = mark
  age : H.age = 0
  order : H.order = ks.map fun k => k.1.toNat
  mem : (H.mem.length : Int) = endK ks
  count : H.count = ks.length
  at_ : ∀ k ∈ ks, 1 ≤ k.1 ∧ (M.things.getD (k.1.toNat - 1) noTh).there = true ∧ (M.things.getD (k.1.toNat - 1) noTh).cls = k.2.1 ∧ ((M.things.getD (k.1.toNat - 1) noTh).fmt : Int) = k.2.2.1 ∧ (M.things.getD (k.1.toNat - 1) noTh).slots = k.2.2.2
  only : ∀ i, (M.things.getD i noTh).there = true → ∃ k ∈ ks, k.1 = (i : Int) + 1
theorem ext_getD {a b : List Int} (h1 : a.length = b.length) (h2 : ∀ j, j < b.length → a.getD j 0 = b.getD j 0) : a = b := by
  refine List.ext_getElem h1 fun i u1 u2 => ?_
  have := h2 i u2
  rw [List.getD_eq_getElem?_getD, List.getD_eq_getElem?_getD, List.getElem?_eq_getElem u1, List.getElem?_eq_getElem u2] at this
  exact this
theorem Lds.kOf {words oops mark : Nat} {ks : List Key} {H : HS} {M : MS} (h1 : (words : Int) ≤ 1048576) (h2 : (oops : Int) ≤ 65536) (hm : (mark : Int) ≤ 1073741824) (h : Lds { emptyH words oops with mark := mark } { emptyM words oops with mark := mark } ks H M) : KOf words oops mark ks H M := by
  refine Lds.ind (C := fun ks H M => KOf words oops mark ks H M) ?_ ?_ h
  · exact ⟨(inv_empty words oops h1 h2).setMark mark hm, rfl, rfl, rfl, rfl, rfl, rfl, rfl, by simp, fun i hi => by simp [emptyM, noTh] at hi⟩
  · rintro ks H H' M M' q cls fmt ss h ht hl ih
    obtain ⟨a1, a2, a3, a4, a5⟩ := hl.at_
    have hq : ((q : Int) + 1).toNat - 1 = q := by omega
    have hnew := (takesB_yes ht).1
    have hnt := not_there ih.inv q hnew
    refine ⟨hl.inv, hl.words.trans ih.words, hl.oops.trans ih.oops, hl.mark.trans ih.mark, hl.age.trans ih.age, ?_, ?_, ?_, fun k hk => ?_, fun i hi => ?_⟩
    · rw [hl.order, ih.order, List.map_append]
      simp
    · rw [hl.mem, endK_append]
      have := ih.mem
      simp only [endK]
      rw [lenOf_nat]
      omega
    · rw [hl.count, ih.count, List.length_append]; rfl
    · rcases List.mem_append.1 hk with h3 | h3
      · obtain ⟨b0, b1, b2, b3, b4⟩ := ih.at_ k h3
        have hne : k.1.toNat - 1 ≠ q := fun e => by rw [e, hnt] at b1; simp at b1
        rw [hl.rest _ hne]
        exact ⟨b0, b1, b2, b3, b4⟩
      · have e : k = ((q : Int) + 1, cls, (fmt : Int), ss) := by simpa using h3
        rw [e]
        dsimp only
        rw [hq]
        refine ⟨by omega, a1, a2, by rw [a3], ?_⟩
        exact ext_getD a4 a5
    · by_cases e : i = q
      · exact ⟨((q : Int) + 1, cls, (fmt : Int), ss), by simp, by dsimp only; omega⟩
      · rw [hl.rest i e] at hi
        obtain ⟨k, k1, k2⟩ := ih.only i hi
        exact ⟨k, List.mem_append_left _ k1, k2⟩
theorem KOf.has {words oops mark : Nat} {ks : List Key} {H : HS} {M : MS} (h : KOf words oops mark ks H M) (oop : Int) : has H oop = ks.any fun x => x.1 == oop := by
  rw [h.inv.hasM]
  cases hb : ks.any (fun x => x.1 == oop) with
  | true =>
    obtain ⟨k, k1, k2⟩ := List.any_eq_true.1 hb
    have e : k.1 = oop := by simpa using k2
    obtain ⟨b0, b1, b2⟩ := h.at_ k k1
    rw [e] at b0 b1
    have := mhas_of (M := M) (oop.toNat - 1) (th_in b1) b1
    rwa [show ((oop.toNat - 1 : Nat) : Int) + 1 = oop from by omega] at this
  | false =>
    refine decide_eq_false (fun hc => ?_)
    obtain ⟨k, k1, k2⟩ := h.only (oop.toNat - 1) hc.2.2
    have : ks.any (fun x => x.1 == oop) = true := List.any_eq_true.2 ⟨k, k1, by rw [beq_iff_eq]; omega⟩
    rw [hb] at this
    simp at this
theorem KOf.takes {words oops mark : Nat} {ks : List Key} {H : HS} {M : MS} (h : KOf words oops mark ks H M) (k : Key) : takesB H k.1 k.2.1 k.2.2.1 k.2.2.2 = takesK words oops ks k := by
  unfold takesB takesK
  rw [h.has, h.words, h.oops, h.mem]
  rw [Bool.eq_iff_iff]
  simp only [Bool.and_eq_true, decide_eq_true_eq]
  constructor
  · rintro ⟨⟨⟨⟨⟨⟨⟨h1, h2⟩, h3⟩, h4⟩, h5⟩, h6⟩, h7⟩, h8⟩
    exact ⟨⟨⟨⟨⟨⟨⟨h2, h3⟩, h1⟩, h4⟩, h5⟩, h6⟩, h8⟩, by omega⟩
  · rintro ⟨⟨⟨⟨⟨⟨⟨h2, h3⟩, h1⟩, h4⟩, h5⟩, h6⟩, h8⟩, h7⟩
    exact ⟨⟨⟨⟨⟨⟨⟨h1, h2⟩, h3⟩, h4⟩, h5⟩, h6⟩, by omega⟩, h8⟩
/-- what the state tells of a heap that was loaded -/
theorem KOf.st {words oops mark : Nat} {ks : List Key} {H : HS} {M : MS} (h : KOf words oops mark ks H M) : (stKeys H M.things H.order.length).map (fun k : Nat × Int × Nat × List Int => ((k.1 : Int), k.2.1, (k.2.2.1 : Int), k.2.2.2)) = ks := by
  unfold stKeys
  rw [List.take_length, h.order]
  have hf : (ks.map fun k => k.1.toNat).filter (fun o => o != 0) = ks.map fun k => k.1.toNat := by
    rw [List.filter_eq_self]
    intro a ha
    obtain ⟨k, k1, k2⟩ := List.mem_map.1 ha
    have := (h.at_ k k1).1
    simp
    omega
  rw [hf, List.map_map, List.map_map]
  conv => rhs; rw [← List.map_id ks]
  refine List.map_congr_left fun k hk => ?_
  obtain ⟨b0, b1, b2, b3, b4⟩ := h.at_ k hk
  simp only [Function.comp]
  rw [b2, b3, b4]
  obtain ⟨k1, k2, k3, k4⟩ := k
  simp only [id]
  rw [show ((k1.toNat : Nat) : Int) = k1 from by dsimp only at b0; omega]
/-- how many of a list of objects are taken, one after the other -/
def goodK (words oops : Nat) (la : List Key) (k : Nat) : Prop := ∀ i o, i < k → la[i]? = some o → takesK words oops (la.take i) o = true
end Go.Proofs.YtkmjimdaimbdfaaDoor



