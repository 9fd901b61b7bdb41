import Derived.Test.YtflgicdbbogllaaGreatDoorPG11HLoadX
set_option maxHeartbeats 1000000
set_option maxRecDepth 20000
set_option linter.unusedSimpArgs false
set_option linter.unusedVariables false
namespace Go.Proofs.YtflgicdbbogllaaGreatDoor
open Go.RowKit Tryz
open Value (int)
open IntKind (i64)
attribute [local go_sem ↓] wp_at_zero wp_at_succ
variable {B fH fM mark r : Nat} {H H0 : HS} {M M0 : MS} {w w' : World}
theorem kJz (q : Nat) (cls : Int) (fmt : Nat) (ss : List Int) (v : Value) (a : Nat) (l : Lay) (H : HS) (w : World) (h : Rep w a l H) (hs : kDX H) (hT : Tab w) (hT0 : 0 < w.heap.size) (hh : has H ((q : Int) + 1) = false) (hq : q < H.fM) (hc : isW cls = true) (hf : fmt ≤ 1) (hn : ss.length ≤ 8192) (hr2 : H.mem.length + lenN ss.length fmt ≤ H.fH) 
  (hmay : ∀ j, j < ss.length → mayB (ss.getD j 0) (fmt : Int) = true) (ho : Rd w v ss) :
  Calls prog 143 #[.pointer (some ⟨a, 0, none⟩), .agg #[int i64 ((q : Int) + 1), int i64 cls, int i64 fmt, v]] w fun e w' => e = .returned (.bool true) ∧ Fr [] w w' := by
 obtain ⟨p, c, rfl, hrow⟩ := ho.at_;have hal := h.lt a (by simp [foot]);obtain ⟨W1, hW1⟩ := jex (w.alloc (.cells #[int i64 ((q : Int) + 1), int i64 cls, int i64 fmt, .slice p ss.length c] 139));have F1 : Hid (Fr [] w W1) := by rw [hW1]; exact Fr.alloc [] _ _
 have hB1 : W1.heap[w.heap.size]? = some (.cells #[int i64 ((q : Int) + 1), int i64 cls, int i64 fmt, .slice p ss.length c] 139 (0, 0)) := by rw [hW1]; exact heap_alloc_new _ _
 have HB1 := kAA hB1;have HR : Hid (∀ V, Hid (Fr [] w V) → Rep V a l H) := fun V hV => h.keep hV.out (by simp)
 have HTb : Hid (∀ V, Hid (Fr [] w V) → Tab V) := fun V hV => hT.fr hV.out hT0
 have HSO := kAA (kAc ((q : Int) + 1) a l H W1 (HR.out W1 F1) hh)
 have HRow : Hid (∀ V, Hid (Fr [] w V) → 0 < ss.length → ∃ g off, p = some ⟨g, off, none⟩ ∧ ∀ i, i < ss.length → V.cell? ⟨g, off + i, none⟩ = some (int i64 (ss.getD i 0))) := by
  intro V hV hp;obtain ⟨g, off, hg, hgl, hcc⟩ := hrow hp;exact ⟨g, off, hg, fun i hi => (hV.out.cell (p := ⟨g, off + i, none⟩) hgl (by simp)).trans (hcc i hi)⟩
 have HMay := kAA hmay;have HSm := kAA hs;have hw := fun V hV => kBG cls V (HTb.out V hV)
 rw [hc] at hw;have HW := kAA hw;have hff : isF (fmt : Int) = true := by unfold isF; simp; omega
 have hfo := fun V => kAu (fmt : Int) V
 rw [hff] at hfo;have HFo := kAA hfo;have hlen := kBo ss.length fmt;rw [kAt] at hlen;have HL := kAA hlen;have k1 : (1 : Int) ≤ (q : Int) + 1 := by omega
 have k2 : (q : Int) + 1 ≤ (H.fM : Int) := by omega
 have k3 : (ss.length : Int) ≤ 8192 := by omega
 have k4 : ((lenN ss.length fmt : Nat) : Int) ≤ (H.fH : Int) - (H.mem.length : Int) := by omega
 clear h ho hrow hmay hs hT hB1 hc hw hff hfo hlen;go_enter func143, ntmps143
 go_wp2_with fail
 rw [← hW1];clear hW1;refine HSO.out.mono ?_;rintro e w2 ⟨rfl, hf2⟩;dsimp only [sv, I];have F2 : Hid (Fr [] w (w2.alloc (.cells #[int i64 0, int i64 0, int i64 0] 148))) := (F1.out.trans hf2 (by simp)).trans (Fr.alloc [] _ _) (by simp);have hb2 := (hf2.block _ (kAB HB1.out) (by simp)).trans HB1.out;have hz2 := kAB hb2;have HB2 : Hid ((w2.alloc (.cells #[int i64 0, int i64 0, int i64 0] 148)).heap[w.heap.size]? = some (.cells #[int i64 ((q : Int) + 1), int i64 cls, int i64 fmt, .slice p ss.length c] 139 (0, 0))) := by rw [Hid, jAN _ _ _ hz2]; exact hb2
 clear hf2 hb2 HSO HB1
 go_wp2_with fail
 generalize w2.alloc (.cells #[int i64 0, int i64 0, int i64 0] 148) = W2 at *;generalize w2.heap.size = S2 at *
 have HCl : Hid (∀ V, Hid (Fr [] W2 V) → V.cell? ⟨w.heap.size, 0, none⟩ = some (int i64 ((q : Int) + 1)) ∧ V.cell? ⟨w.heap.size, 1, none⟩ = some (int i64 cls) ∧ V.cell? ⟨w.heap.size, 2, none⟩ = some (int i64 fmt) ∧ V.cell? ⟨w.heap.size, 3, none⟩ = some (.slice p ss.length c) ∧ V.cell? ⟨a, 2, none⟩ = some (int i64 H.fM) ∧ Hid (Fr [] w V)) := by
  intro V hV;have b := (hV.out.block _ (kAB HB2.out) (by simp)).trans HB2.out;have hF : Fr [] w V := F2.out.trans hV.out (by simp);exact ⟨by rw [kAC b]; rfl, by rw [kAC b]; rfl, by rw [kAC b]; rfl, by rw [kAC b]; rfl, (HR.out V hF).c2, hF⟩
 obtain ⟨x0, x1, x2, x3, x4, -⟩ := HCl.out W2 (Fr.refl _ _)
 go_quiet (fail)
 go_wp2_with fail
 have F3 : Hid (Fr [] W2 (W2.drewN nq)) := Fr.drewN [] _ _;clear x0 x1 x2 x3 x4;generalize W2.drewN nq = W3 at *;obtain ⟨y0, y1, y2, y3, y4, hF3⟩ := HCl.out W3 F3;have HW3 := kAA (HW.out W3 hF3);have HRm := kAA (kDD a l H W3 (HR.out W3 hF3) HSm.out)
 go_wp2_with (first | (go_at_call 92; refine HW3.out.mono ?_; rintro e w' ⟨rfl, hw'⟩; rw [hw']; clear hw' w') | (go_at_call 93; refine Calls.mono (HFo.out _) ?_; rintro e w' ⟨rfl, hw'⟩; rw [hw']; clear hw' w'))
 refine HRm.out.mono ?_;rintro e w4 ⟨rfl, n4, hw4⟩;rw [hw4];clear hw4 w4;have F4 : Hid (Fr [] W2 (W3.drewN n4)) := F3.out.trans (Fr.drewN [] _ _) (by simp);clear y0 y1 y2 y3 y4 HW3 HRm;generalize W3.drewN n4 = W4 at *;obtain ⟨y0, y1, y2, y3, y4, hF4⟩ := HCl.out W4 F4
 go_wp2_with (go_at_call 95; refine (HL.out _ (by omega) (by omega)).mono ?_; rintro e w' ⟨rfl, hw'⟩; rw [hw']; clear hw' w')
 go_loopw [66] (fun qq wr => ∃ i : Nat, i ≤ ss.length ∧ qq = int i64 i ∧ Hid (Fr [] W2 wr)) (fun qq _ => ss.length - (intOf qq).toNat)
 case atStart => exact ⟨0, jAH _, rfl, F4.out⟩
 case round =>
  clear y0 y1 y2 y3 y4;obtain ⟨i, hin, rfl, hqq⟩ := hrel;obtain ⟨z0, z1, z2, z3, z4, hFr⟩ := HCl.out wr hqq
  by_cases hlt : i < ss.length
  ·obtain ⟨g, off, rfl, g4⟩ := HRow.out wr hFr (by omega);have gx := g4 i hlt;have hm := kCN (ss.getD i 0) (fmt : Int) wr (HTb.out wr hFr);rw [HMay.out i hlt] at hm;have HMs := kAA hm;have j1 := ng i;have j2 : (i : Int) < ss.length := by omega
   generalize ss.getD i 0 = xv at *;clear hm g4
   go_wp2_with (go_at_call 104; refine HMs.out.mono ?_; rintro e w' ⟨rfl, hw'⟩; rw [hw']; clear hw' w')
   go_roundw
   case rel => exact ⟨i + 1, by omega, by go_num, hqq⟩
   case measure => simp [intOf]; omega
  ·have hie : i = ss.length := by omega
   subst hie
   go_wp2_with fail
   go_ret
   exact ⟨rfl, hFr.out⟩
theorem kKL (oop : Nat) (cls fmt : Int) (p : Option Addr) (n c a : Nat) (l : Lay) (H : HS) (w : World) (h : Rep w a l H) (hh : has H (oop : Int) = true) :
  Calls prog 143 #[.pointer (some ⟨a, 0, none⟩), .agg #[int i64 oop, int i64 cls, int i64 fmt, .slice p n c]] w fun e w' => e = .returned (.bool false) ∧ Fr [] w w' := by
 obtain ⟨h1, h2, h3⟩ := kAk hh;obtain ⟨W1, hW1⟩ := jex (w.alloc (.cells #[int i64 oop, int i64 cls, int i64 fmt, .slice p n c] 139));have F1 : Hid (Fr [] w W1) := by rw [hW1]; exact Fr.alloc [] _ _
 have hR1 : Rep W1 a l H := h.keep F1.out (by simp);have HSO := kAA (kAb oop a l H W1 hR1 h1 h2 h3);clear h hh hR1;generalize H.fD.getD oop (0, 0, 0) = s at *;obtain ⟨s0, s1, s2⟩ := s;dsimp only [sv, I] at *;go_enter func143, ntmps143
 go_wp2_with fail
 rw [← hW1];clear hW1;refine HSO.out.mono ?_;rintro e w2 ⟨rfl, hf2⟩;have F2 : Hid (∀ n, Fr [] w ((w2.alloc (.cells #[int i64 s0, int i64 s1, int i64 s2] 148)).drewN n)) := fun n => ((F1.out.trans hf2 (by simp)).trans (Fr.alloc [] _ _) (by simp)).trans (Fr.drewN [] _ _) (by simp)
 clear hf2 HSO
 go_wp2_with fail
 go_quiet (fail)
 go_wp2_with fail
 go_ret
 exact ⟨rfl, F2.out _⟩
theorem kGj (oop cls fmt : Int) (p : Option Addr) (n c a : Nat) (l : Lay) (H : HS) (w : World) (h : Rep w a l H) (hh : has H oop = false) (hb : oop < 1 ∨ (H.fM : Int) < oop) :
  Calls prog 143 #[.pointer (some ⟨a, 0, none⟩), .agg #[int i64 oop, int i64 cls, int i64 fmt, .slice p n c]] w fun e w' => e = .returned (.bool false) ∧ Fr [] w w' := by
 obtain ⟨W1, hW1⟩ := jex (w.alloc (.cells #[int i64 oop, int i64 cls, int i64 fmt, .slice p n c] 139));have F1 : Hid (Fr [] w W1) := by rw [hW1]; exact Fr.alloc [] _ _
 have hB1 : W1.heap[w.heap.size]? = some (.cells #[int i64 oop, int i64 cls, int i64 fmt, .slice p n c] 139 (0, 0)) := by rw [hW1]; exact heap_alloc_new _ _
 have hR1 : Rep W1 a l H := h.keep F1.out (by simp);have HSO := kAA (kAc oop a l H W1 hR1 hh);have HR := kAA h;have HB1 := kAA hB1;clear h hh hR1 hB1;go_enter func143, ntmps143
 go_wp2_with fail
 rw [← hW1];clear hW1;refine HSO.out.mono ?_;rintro e w2 ⟨rfl, hf2⟩;have F2' : Fr [] w (w2.alloc (.cells #[int i64 0, int i64 0, int i64 0] 148)) := (F1.out.trans hf2 (by simp)).trans (Fr.alloc [] _ _) (by simp);have hb2 := (hf2.block _ (kAB HB1.out) (by simp)).trans HB1.out;have hb3 : (w2.alloc (.cells #[int i64 0, int i64 0, int i64 0] 148)).heap[w.heap.size]? = some (.cells #[int i64 oop, int i64 cls, int i64 fmt, .slice p n c] 139 (0, 0)) := by rw [jAN _ _ _ (kAB hb2)]; exact hb2
 have x0 : (w2.alloc (.cells #[int i64 0, int i64 0, int i64 0] 148)).cell? ⟨w.heap.size, 0, none⟩ = some (int i64 oop) := by rw [kAC hb3]; rfl
 have x4 := (HR.out.keep F2' (by simp)).c2;have F2 : Hid (∀ n, Fr [] w ((w2.alloc (.cells #[int i64 0, int i64 0, int i64 0] 148)).drewN n)) := fun n => F2'.trans (Fr.drewN [] _ _) (by simp)
 clear hf2 HSO F2' hb2 hb3
 go_wp2_with fail
 generalize w2.alloc (.cells #[int i64 0, int i64 0, int i64 0] 148) = W2 at *;rcases hb with hb | hb
 ·go_quiet (fail)
  go_wp2_with fail
  go_ret
  exact ⟨rfl, F2.out _⟩
 ·have hb1 : 1 ≤ oop := by omega
  go_quiet (fail)
  go_wp2_with fail
  go_ret
  exact ⟨rfl, F2.out _⟩
theorem kDq (oop cls fmt : Int) (p : Option Addr) (n c a : Nat) (l : Lay) (H : HS) (w : World) (h : Rep w a l H) (hs : kDX H) (hT : Tab w) (hT0 : 0 < w.heap.size) (hh : has H oop = false) (k1 : (1 : Int) ≤ oop) (k2 : oop ≤ (H.fM : Int)) (hb : isW cls = false ∨ (isW cls = true ∧ isF fmt = false) ∨ (isW cls = true ∧ isF fmt = true ∧ 8192 < (n : Int))) :
  Calls prog 143 #[.pointer (some ⟨a, 0, none⟩), .agg #[int i64 oop, int i64 cls, int i64 fmt, .slice p n c]] w fun e w' => e = .returned (.bool false) ∧ Fr [] w w' := by
 have hal := h.lt a (by simp [foot]);obtain ⟨W1, hW1⟩ := jex (w.alloc (.cells #[int i64 oop, int i64 cls, int i64 fmt, .slice p n c] 139));have F1 : Hid (Fr [] w W1) := by rw [hW1]; exact Fr.alloc [] _ _
 have hB1 : W1.heap[w.heap.size]? = some (.cells #[int i64 oop, int i64 cls, int i64 fmt, .slice p n c] 139 (0, 0)) := by rw [hW1]; exact heap_alloc_new _ _
 have HB1 := kAA hB1;have HR : Hid (∀ V, Hid (Fr [] w V) → Rep V a l H) := fun V hV => h.keep hV.out (by simp)
 have HTb : Hid (∀ V, Hid (Fr [] w V) → Tab V) := fun V hV => hT.fr hV.out hT0
 have HSO := kAA (kAc oop a l H W1 (HR.out W1 F1) hh);have HSm := kAA hs;have HW : Hid (∀ V, Hid (Fr [] w V) → Calls prog 92 #[int i64 cls] V fun e w' => e = .returned (.bool (isW cls)) ∧ w' = V) := fun V hV => kBG cls V (HTb.out V hV)
 have HFo := kAA (fun V => kAu fmt V);clear h hs hT hB1 hh;go_enter func143, ntmps143
 go_wp2_with fail
 rw [← hW1];clear hW1;refine HSO.out.mono ?_;rintro e w2 ⟨rfl, hf2⟩;have F2 : Hid (Fr [] w (w2.alloc (.cells #[int i64 0, int i64 0, int i64 0] 148))) := (F1.out.trans hf2 (by simp)).trans (Fr.alloc [] _ _) (by simp);have hb2 := (hf2.block _ (kAB HB1.out) (by simp)).trans HB1.out;have hz2 := kAB hb2;have HB2 : Hid ((w2.alloc (.cells #[int i64 0, int i64 0, int i64 0] 148)).heap[w.heap.size]? = some (.cells #[int i64 oop, int i64 cls, int i64 fmt, .slice p n c] 139 (0, 0))) := by rw [Hid, jAN _ _ _ hz2]; exact hb2
 clear hf2 hb2 HSO HB1
 go_wp2_with fail
 generalize w2.alloc (.cells #[int i64 0, int i64 0, int i64 0] 148) = W2 at *;generalize w2.heap.size = S2 at *
 have HCl : Hid (∀ V, Hid (Fr [] W2 V) → V.cell? ⟨w.heap.size, 0, none⟩ = some (int i64 oop) ∧ V.cell? ⟨w.heap.size, 1, none⟩ = some (int i64 cls) ∧ V.cell? ⟨w.heap.size, 2, none⟩ = some (int i64 fmt) ∧ V.cell? ⟨w.heap.size, 3, none⟩ = some (.slice p n c) ∧ V.cell? ⟨a, 2, none⟩ = some (int i64 H.fM) ∧ Hid (Fr [] w V)) := by
  intro V hV;have b := (hV.out.block _ (kAB HB2.out) (by simp)).trans HB2.out;have hF : Fr [] w V := F2.out.trans hV.out (by simp);exact ⟨by rw [kAC b]; rfl, by rw [kAC b]; rfl, by rw [kAC b]; rfl, by rw [kAC b]; rfl, (HR.out V hF).c2, hF⟩
 obtain ⟨x0, x1, x2, x3, x4, -⟩ := HCl.out W2 (Fr.refl _ _)
 go_quiet (fail)
 go_wp2_with fail
 have F3 : Hid (Fr [] W2 (W2.drewN nq)) := Fr.drewN [] _ _;clear x0 x1 x2 x3 x4;generalize W2.drewN nq = W3 at *;obtain ⟨y0, y1, y2, y3, y4, hF3⟩ := HCl.out W3 F3;have HW3 := HW.out W3 hF3;have HFo3 := HFo.out W3;rcases hb with hb | ⟨hb, hb2⟩ | ⟨hb, hb2, hb3⟩
 ·rw [hb] at HW3;have HWb := kAA HW3;clear HW3 HFo3 HW HFo
  go_wp2_with (go_at_call 92; refine HWb.out.mono ?_; rintro e w' ⟨rfl, hw'⟩; rw [hw']; clear hw' w')
  go_ret
  exact ⟨rfl, hF3.out⟩
 ·rw [hb] at HW3;rw [hb2] at HFo3;have HWb := kAA HW3;have HFb := kAA HFo3;clear HW3 HFo3 HW HFo
  go_wp2_with (first | (go_at_call 92; refine HWb.out.mono ?_; rintro e w' ⟨rfl, hw'⟩; rw [hw']; clear hw' w') | (go_at_call 93; refine HFb.out.mono ?_; rintro e w' ⟨rfl, hw'⟩; rw [hw']; clear hw' w'))
  go_ret
  exact ⟨rfl, hF3.out⟩
 ·rw [hb] at HW3;rw [hb2] at HFo3;have HWb := kAA HW3;have HFb := kAA HFo3;clear HW3 HFo3 HW HFo
  go_wp2_with (first | (go_at_call 92; refine HWb.out.mono ?_; rintro e w' ⟨rfl, hw'⟩; rw [hw']; clear hw' w') | (go_at_call 93; refine HFb.out.mono ?_; rintro e w' ⟨rfl, hw'⟩; rw [hw']; clear hw' w'))
  go_ret
  exact ⟨rfl, hF3.out⟩
theorem kJT (oop cls fmt : Int) (p : Option Addr) (n c a : Nat) (l : Lay) (H : HS) (w : World) (h : Rep w a l H) (hs : kDX H) (hT : Tab w) (hT0 : 0 < w.heap.size) (hh : has H oop = false) (k1 : (1 : Int) ≤ oop) (k2 : oop ≤ (H.fM : Int)) (hb : isW cls = true) (hb2 : isF fmt = true) (hb3 : (n : Int) ≤ 8192) (hb4 : (H.fH : Int) - (H.mem.length : Int) < kBd (n : Int) fmt) :
  Calls prog 143 #[.pointer (some ⟨a, 0, none⟩), .agg #[int i64 oop, int i64 cls, int i64 fmt, .slice p n c]] w fun e w' => e = .returned (.bool false) ∧ Fr [] w w' := by
 have hal := h.lt a (by simp [foot]);obtain ⟨W1, hW1⟩ := jex (w.alloc (.cells #[int i64 oop, int i64 cls, int i64 fmt, .slice p n c] 139));have F1 : Hid (Fr [] w W1) := by rw [hW1]; exact Fr.alloc [] _ _
 have hB1 : W1.heap[w.heap.size]? = some (.cells #[int i64 oop, int i64 cls, int i64 fmt, .slice p n c] 139 (0, 0)) := by rw [hW1]; exact heap_alloc_new _ _
 have HB1 := kAA hB1;have HR : Hid (∀ V, Hid (Fr [] w V) → Rep V a l H) := fun V hV => h.keep hV.out (by simp)
 have HTb : Hid (∀ V, Hid (Fr [] w V) → Tab V) := fun V hV => hT.fr hV.out hT0
 have HSO := kAA (kAc oop a l H W1 (HR.out W1 F1) hh);have HSm := kAA hs;have HW : Hid (∀ V, Hid (Fr [] w V) → Calls prog 92 #[int i64 cls] V fun e w' => e = .returned (.bool (isW cls)) ∧ w' = V) := fun V hV => kBG cls V (HTb.out V hV)
 have HFo := kAA (fun V => kAu fmt V);have HL := kAA (kBo (n : Int) fmt);clear h hs hT hB1 hh;go_enter func143, ntmps143
 go_wp2_with fail
 rw [← hW1];clear hW1;refine HSO.out.mono ?_;rintro e w2 ⟨rfl, hf2⟩;have F2 : Hid (Fr [] w (w2.alloc (.cells #[int i64 0, int i64 0, int i64 0] 148))) := (F1.out.trans hf2 (by simp)).trans (Fr.alloc [] _ _) (by simp);have hb2 := (hf2.block _ (kAB HB1.out) (by simp)).trans HB1.out;have hz2 := kAB hb2;have HB2 : Hid ((w2.alloc (.cells #[int i64 0, int i64 0, int i64 0] 148)).heap[w.heap.size]? = some (.cells #[int i64 oop, int i64 cls, int i64 fmt, .slice p n c] 139 (0, 0))) := by rw [Hid, jAN _ _ _ hz2]; exact hb2
 clear hf2 hb2 HSO HB1
 go_wp2_with fail
 generalize w2.alloc (.cells #[int i64 0, int i64 0, int i64 0] 148) = W2 at *;generalize w2.heap.size = S2 at *
 have HCl : Hid (∀ V, Hid (Fr [] W2 V) → V.cell? ⟨w.heap.size, 0, none⟩ = some (int i64 oop) ∧ V.cell? ⟨w.heap.size, 1, none⟩ = some (int i64 cls) ∧ V.cell? ⟨w.heap.size, 2, none⟩ = some (int i64 fmt) ∧ V.cell? ⟨w.heap.size, 3, none⟩ = some (.slice p n c) ∧ V.cell? ⟨a, 2, none⟩ = some (int i64 H.fM) ∧ Hid (Fr [] w V)) := by
  intro V hV;have b := (hV.out.block _ (kAB HB2.out) (by simp)).trans HB2.out;have hF : Fr [] w V := F2.out.trans hV.out (by simp);exact ⟨by rw [kAC b]; rfl, by rw [kAC b]; rfl, by rw [kAC b]; rfl, by rw [kAC b]; rfl, (HR.out V hF).c2, hF⟩
 obtain ⟨x0, x1, x2, x3, x4, -⟩ := HCl.out W2 (Fr.refl _ _)
 go_quiet (fail)
 go_wp2_with fail
 have F3 : Hid (Fr [] W2 (W2.drewN nq)) := Fr.drewN [] _ _;clear x0 x1 x2 x3 x4;generalize W2.drewN nq = W3 at *;obtain ⟨y0, y1, y2, y3, y4, hF3⟩ := HCl.out W3 F3;have HW3 := HW.out W3 hF3;have HFo3 := HFo.out W3;rw [hb] at HW3;rw [hb2] at HFo3;have HWb := kAA HW3;have HFb := kAA HFo3;have HRm := kAA (kDD a l H W3 (HR.out W3 hF3) HSm.out);clear HW3 HFo3 HW HFo
 go_wp2_with (first | (go_at_call 92; refine HWb.out.mono ?_; rintro e w' ⟨rfl, hw'⟩; rw [hw']; clear hw' w') | (go_at_call 93; refine HFb.out.mono ?_; rintro e w' ⟨rfl, hw'⟩; rw [hw']; clear hw' w'))
 refine HRm.out.mono ?_;rintro e w4 ⟨rfl, n4, hw4⟩;rw [hw4];clear hw4 w4;have F4 : Hid (Fr [] W2 (W3.drewN n4)) := F3.out.trans (Fr.drewN [] _ _) (by simp);clear y0 y1 y2 y3 y4 HWb HFb HRm;generalize W3.drewN n4 = W4 at *;obtain ⟨y0, y1, y2, y3, y4, hF4⟩ := HCl.out W4 F4;generalize kBd (n : Int) fmt = L at *
 go_wp2_with (go_at_call 95; refine (HL.out _ (by omega) (by omega)).mono ?_; rintro e w' ⟨rfl, hw'⟩; rw [hw']; clear hw' w')
 go_ret
 exact ⟨rfl, hF4.out⟩
theorem kJM (oop cls fmt : Int) (p : Option Addr) (n c a : Nat) (l : Lay) (H : HS) (w : World) (h : Rep w a l H) (hs : kDX H) (hT : Tab w) (hT0 : 0 < w.heap.size) (hh : has H oop = false) (k1 : (1 : Int) ≤ oop) (k2 : oop ≤ (H.fM : Int)) (hb : isW cls = true) (hb2 : isF fmt = true) (hb3 : (n : Int) ≤ 8192) (hb4 : kBd (n : Int) fmt ≤ (H.fH : Int) - (H.mem.length : Int)) (ss : List Int) (g off j0 : Nat) (hp : p = some ⟨g, off, none⟩) (hgl : g < w.heap.size) (hcell : ∀ i, i < n → w.cell? ⟨g, off + i, none⟩ = some (int i64 (ss.getD i 0))) (hj : j0 < n) (hgood : ∀ i, i < j0 → mayB (ss.getD i 0) fmt = true) (hbad : mayB (ss.getD j0 0) fmt = false) :
  Calls prog 143 #[.pointer (some ⟨a, 0, none⟩), .agg #[int i64 oop, int i64 cls, int i64 fmt, .slice p n c]] w fun e w' => e = .returned (.bool false) ∧ Fr [] w w' := by
 have hal := h.lt a (by simp [foot]);obtain ⟨W1, hW1⟩ := jex (w.alloc (.cells #[int i64 oop, int i64 cls, int i64 fmt, .slice p n c] 139));have F1 : Hid (Fr [] w W1) := by rw [hW1]; exact Fr.alloc [] _ _
 have hB1 : W1.heap[w.heap.size]? = some (.cells #[int i64 oop, int i64 cls, int i64 fmt, .slice p n c] 139 (0, 0)) := by rw [hW1]; exact heap_alloc_new _ _
 have HB1 := kAA hB1;have HR : Hid (∀ V, Hid (Fr [] w V) → Rep V a l H) := fun V hV => h.keep hV.out (by simp)
 have HTb : Hid (∀ V, Hid (Fr [] w V) → Tab V) := fun V hV => hT.fr hV.out hT0
 have HSO := kAA (kAc oop a l H W1 (HR.out W1 F1) hh);have HSm := kAA hs;have HW : Hid (∀ V, Hid (Fr [] w V) → Calls prog 92 #[int i64 cls] V fun e w' => e = .returned (.bool (isW cls)) ∧ w' = V) := fun V hV => kBG cls V (HTb.out V hV)
 have HFo := kAA (fun V => kAu fmt V);have HL := kAA (kBo (n : Int) fmt);have HCe : Hid (∀ V, Hid (Fr [] w V) → ∀ i, i < n → V.cell? ⟨g, off + i, none⟩ = some (int i64 (ss.getD i 0))) := fun V hV i hi => (hV.out.cell (p := ⟨g, off + i, none⟩) hgl (by simp)).trans (hcell i hi)
 have HGood := kAA hgood;have HBad := kAA hbad;have HP := kAA hp;clear hcell hgood hbad hp;clear h hs hT hB1 hh;go_enter func143, ntmps143
 go_wp2_with fail
 rw [← hW1];clear hW1;refine HSO.out.mono ?_;rintro e w2 ⟨rfl, hf2⟩;have F2 : Hid (Fr [] w (w2.alloc (.cells #[int i64 0, int i64 0, int i64 0] 148))) := (F1.out.trans hf2 (by simp)).trans (Fr.alloc [] _ _) (by simp);have hb2 := (hf2.block _ (kAB HB1.out) (by simp)).trans HB1.out;have hz2 := kAB hb2;have HB2 : Hid ((w2.alloc (.cells #[int i64 0, int i64 0, int i64 0] 148)).heap[w.heap.size]? = some (.cells #[int i64 oop, int i64 cls, int i64 fmt, .slice p n c] 139 (0, 0))) := by rw [Hid, jAN _ _ _ hz2]; exact hb2
 clear hf2 hb2 HSO HB1
 go_wp2_with fail
 generalize w2.alloc (.cells #[int i64 0, int i64 0, int i64 0] 148) = W2 at *;generalize w2.heap.size = S2 at *
 have HCl : Hid (∀ V, Hid (Fr [] W2 V) → V.cell? ⟨w.heap.size, 0, none⟩ = some (int i64 oop) ∧ V.cell? ⟨w.heap.size, 1, none⟩ = some (int i64 cls) ∧ V.cell? ⟨w.heap.size, 2, none⟩ = some (int i64 fmt) ∧ V.cell? ⟨w.heap.size, 3, none⟩ = some (.slice p n c) ∧ V.cell? ⟨a, 2, none⟩ = some (int i64 H.fM) ∧ Hid (Fr [] w V)) := by
  intro V hV;have b := (hV.out.block _ (kAB HB2.out) (by simp)).trans HB2.out;have hF : Fr [] w V := F2.out.trans hV.out (by simp);exact ⟨by rw [kAC b]; rfl, by rw [kAC b]; rfl, by rw [kAC b]; rfl, by rw [kAC b]; rfl, (HR.out V hF).c2, hF⟩
 have hp := HP.out;clear HP;subst hp;obtain ⟨x0, x1, x2, x3, x4, -⟩ := HCl.out W2 (Fr.refl _ _)
 go_quiet (fail)
 go_wp2_with fail
 have F3 : Hid (Fr [] W2 (W2.drewN nq)) := Fr.drewN [] _ _;clear x0 x1 x2 x3 x4;generalize W2.drewN nq = W3 at *;obtain ⟨y0, y1, y2, y3, y4, hF3⟩ := HCl.out W3 F3;have HW3 := HW.out W3 hF3;have HFo3 := HFo.out W3;rw [hb] at HW3;rw [hb2] at HFo3;have HWb := kAA HW3;have HFb := kAA HFo3;have HRm := kAA (kDD a l H W3 (HR.out W3 hF3) HSm.out);clear HW3 HFo3 HW HFo
 go_wp2_with (first | (go_at_call 92; refine HWb.out.mono ?_; rintro e w' ⟨rfl, hw'⟩; rw [hw']; clear hw' w') | (go_at_call 93; refine HFb.out.mono ?_; rintro e w' ⟨rfl, hw'⟩; rw [hw']; clear hw' w'))
 refine HRm.out.mono ?_;rintro e w4 ⟨rfl, n4, hw4⟩;rw [hw4];clear hw4 w4;have F4 : Hid (Fr [] W2 (W3.drewN n4)) := F3.out.trans (Fr.drewN [] _ _) (by simp);clear y0 y1 y2 y3 y4 HWb HFb HRm;generalize W3.drewN n4 = W4 at *;obtain ⟨y0, y1, y2, y3, y4, hF4⟩ := HCl.out W4 F4;generalize kBd (n : Int) fmt = L at *
 go_wp2_with (go_at_call 95; refine (HL.out _ (by omega) (by omega)).mono ?_; rintro e w' ⟨rfl, hw'⟩; rw [hw']; clear hw' w')
 go_loopw [66] (fun qq wr => ∃ i : Nat, i ≤ j0 ∧ qq = int i64 i ∧ Hid (Fr [] W2 wr)) (fun qq _ => n - (intOf qq).toNat)
 case atStart => exact ⟨0, jAH _, rfl, F4.out⟩
 case round =>
  clear y0 y1 y2 y3 y4;obtain ⟨i, hin, rfl, hqq⟩ := hrel;obtain ⟨z0, z1, z2, z3, z4, hFr⟩ := HCl.out wr hqq;have gx := HCe.out wr hFr i (by omega);have hm := kCN (ss.getD i 0) fmt wr (HTb.out wr hFr);have j1 := ng i;have j2 : (i : Int) < n := by omega
  by_cases hlt : i < j0
  ·rw [HGood.out i hlt] at hm;have HMs := kAA hm;generalize ss.getD i 0 = xv at *;clear hm
   go_wp2_with (go_at_call 104; refine HMs.out.mono ?_; rintro e w' ⟨rfl, hw'⟩; rw [hw']; clear hw' w')
   go_roundw
   case rel => exact ⟨i + 1, by omega, by go_num, hqq⟩
   case measure => simp [intOf]; omega
  ·have hie : i = j0 := by omega
   subst hie;rw [HBad.out] at hm;have HMs := kAA hm;generalize ss.getD i 0 = xv at *;clear hm
   go_wp2_with (go_at_call 104; refine HMs.out.mono ?_; rintro e w' ⟨rfl, hw'⟩; rw [hw']; clear hw' w')
   go_ret
   exact ⟨rfl, hFr.out⟩
def kAn (H : HS) (oop cls fmt : Int) (ss : List Int) : Bool :=
 !has H oop && decide (1 ≤ oop) && decide (oop ≤ (H.fM : Int)) && isW cls && isF fmt && decide ((ss.length : Int) ≤ 8192) && decide (kBd (ss.length : Int) fmt ≤ (H.fH : Int) - (H.mem.length : Int)) && ss.all fun x => mayB x fmt
theorem kLZ (f : Int → Bool) : ∀ ss : List Int, (ss.all f) = false → ∃ j, j < ss.length ∧ (∀ i, i < j → f (ss.getD i 0) = true) ∧ f (ss.getD j 0) = false
 | [], h => by simp at h
 | x :: t, h => by
  by_cases hx : f x = true
  ·have ht : t.all f = false := by simpa [hx] using h
   obtain ⟨j, hj, hg, hb⟩ := kLZ f t ht;refine ⟨j + 1, by simpa using hj, fun i hi => ?_, by simpa using hb⟩;rcases i with _ | i
   ·simpa using hx
   ·simpa using hg i (by omega)
  ·exact ⟨0, by simp, fun i hi => absurd hi (by omega), by simpa using hx⟩
theorem kLj (oop cls fmt : Int) (ss : List Int) (v : Value) (a : Nat) (l : Lay) (H : HS) (w : World) (h : Rep w a l H) (hs : kDX H) (hT : Tab w) (hT0 : 0 < w.heap.size) (ho : Rd w v ss) :
  Calls prog 143 #[.pointer (some ⟨a, 0, none⟩), .agg #[int i64 oop, int i64 cls, int i64 fmt, v]] w fun e w' => e = .returned (.bool (kAn H oop cls fmt ss)) ∧ Fr [] w w' := by
 obtain ⟨p, c, rfl, hrow⟩ := ho.at_
 by_cases hh : has H oop = true
 ·have e : kAn H oop cls fmt ss = false := by simp [kAn, hh]
  rw [e];obtain ⟨m, rfl⟩ : ∃ m : Nat, oop = (m : Int) := ⟨oop.toNat, by have := (of_decide_eq_true hh).1; omega⟩
  exact kKL m cls fmt p _ c a l H w h hh
 have hh : has H oop = false := by simpa using hh
 by_cases k1 : (1 : Int) ≤ oop
 rotate_left
 ·have e : kAn H oop cls fmt ss = false := by simp [kAn, k1]
  rw [e];exact kGj oop cls fmt p _ c a l H w h hh (Or.inl (by omega))
 by_cases k2 : oop ≤ (H.fM : Int)
 rotate_left
 ·have e : kAn H oop cls fmt ss = false := by simp [kAn, k2]
  rw [e];exact kGj oop cls fmt p _ c a l H w h hh (Or.inr (by omega))
 by_cases hb : isW cls = true
 rotate_left
 ·have hb : isW cls = false := by simpa using hb
  have e : kAn H oop cls fmt ss = false := by simp [kAn, hb]
  rw [e];exact kDq oop cls fmt p _ c a l H w h hs hT hT0 hh k1 k2 (Or.inl hb)
 by_cases hb2 : isF fmt = true
 rotate_left
 ·have hb2 : isF fmt = false := by simpa using hb2
  have e : kAn H oop cls fmt ss = false := by simp [kAn, hb2]
  rw [e];exact kDq oop cls fmt p _ c a l H w h hs hT hT0 hh k1 k2 (Or.inr (Or.inl ⟨hb, hb2⟩))
 by_cases hb3 : (ss.length : Int) ≤ 8192
 rotate_left
 ·have e : kAn H oop cls fmt ss = false := by unfold kAn; rw [decide_eq_false hb3]; simp
  rw [e];exact kDq oop cls fmt p _ c a l H w h hs hT hT0 hh k1 k2 (Or.inr (Or.inr ⟨hb, hb2, by omega⟩))
 by_cases hb4 : kBd (ss.length : Int) fmt ≤ (H.fH : Int) - (H.mem.length : Int)
 rotate_left
 ·have e : kAn H oop cls fmt ss = false := by unfold kAn; rw [decide_eq_false hb4]; simp
  rw [e];exact kJT oop cls fmt p _ c a l H w h hs hT hT0 hh k1 k2 hb hb2 hb3 (by omega)
 by_cases hb5 : (ss.all fun x => mayB x fmt) = true
 ·have e : kAn H oop cls fmt ss = true := by unfold kAn; rw [hh, decide_eq_true k1, decide_eq_true k2, hb, hb2, decide_eq_true hb3, decide_eq_true hb4, hb5]; rfl
  rw [e];have hf : fmt = 0 ∨ fmt = 1 := by simpa [isF] using hb2
  obtain ⟨f, rfl, hf1⟩ : ∃ f : Nat, fmt = (f : Int) ∧ f ≤ 1 := by
   rcases hf with rfl | rfl
   ·exact ⟨0, rfl, by omega⟩
   ·exact ⟨1, rfl, by omega⟩
  obtain ⟨q, rfl⟩ : ∃ q : Nat, oop = (q : Int) + 1 := ⟨(oop - 1).toNat, by omega⟩
  rw [kAt] at hb4;refine kJz q cls f ss _ a l H w h hs hT hT0 hh (by omega) hb hf1 (by omega) (by omega) (fun j hj => ?_) ho;rw [jBR] at hb5;have e : ss.getD j 0 = ss[j] := by rw [jAA, jAB hj]; rfl
  rw [e];exact hb5 _ (jAT hj)
 ·have hb5 : (ss.all fun x => mayB x fmt) = false := by simpa using hb5
  have e : kAn H oop cls fmt ss = false := by unfold kAn; rw [hb5]; simp
  rw [e];obtain ⟨j, hj, hg, hbd⟩ := kLZ _ ss hb5;obtain ⟨g, off, hp, hgl, hc⟩ := hrow (by omega);exact kJM oop cls fmt p _ c a l H w h hs hT hT0 hh k1 k2 hb hb2 hb3 hb4 ss g off j hp hgl hc hj hg hbd
def LdsR (H0 : HS) (M0 : MS) : List (Int × Int × Int × List Int) → HS → MS → Prop
 | [], H, M => H = H0 ∧ M = M0
 | k :: t, H', M' => ∃ (H : HS) (M : MS) (q : Nat) (cls : Int) (fmt : Nat) (ss : List Int), LdsR H0 M0 t H M ∧ kAn H ((q : Int) + 1) cls fmt ss = true ∧ Ld H M q cls fmt ss ss.length H' M' ∧ k = ((q : Int) + 1, cls, (fmt : Int), ss)
def Lds (H0 : HS) (M0 : MS) (ks : List (Int × Int × Int × List Int)) (H : HS) (M : MS) : Prop := LdsR H0 M0 ks.reverse H M
theorem Lds.nil : Lds H0 M0 [] H0 M0 := ⟨rfl, rfl⟩
theorem Lds.snoc {ks : List (Int × Int × Int × List Int)} {H' : HS} {M' : MS} (q : Nat) (cls : Int) (fmt : Nat) (ss : List Int) (h : Lds H0 M0 ks H M) (ht : kAn H ((q : Int) + 1) cls fmt ss = true) (hl : Ld H M q cls fmt ss ss.length H' M') : Lds H0 M0 (ks ++ [((q : Int) + 1, cls, (fmt : Int), ss)]) H' M' := by
 unfold Lds;rw [List.reverse_append];exact ⟨H, M, q, cls, fmt, ss, h, ht, hl, rfl⟩
theorem Lds.ind {C : List (Int × Int × Int × List Int) → HS → MS → Prop} (h0 : C [] H0 M0) 
  (h1 : ∀ (ks : List (Int × Int × Int × List Int)) (H H' : HS) (M M' : MS) (q : Nat) (cls : Int) (fmt : Nat) (ss : List Int), Lds H0 M0 ks H M → kAn H ((q : Int) + 1) cls fmt ss = true → Ld H M q cls fmt ss ss.length H' M' → C ks H M → C (ks ++ [((q : Int) + 1, cls, (fmt : Int), ss)]) H' M')
  {ks : List (Int × Int × Int × List Int)} {H : HS} {M : MS} (h : Lds H0 M0 ks H M) : C ks H M := by
 have key : ∀ (r : List (Int × Int × Int × List Int)) (H : HS) (M : MS), LdsR H0 M0 r H M → C r.reverse H M := by
  intro r
  induction r with
  | nil => rintro H M ⟨rfl, rfl⟩; exact h0
  | cons k t ih =>
   rintro H' M' ⟨H, M, q, cls, fmt, ss, h2, ht, hl, rfl⟩;rw [List.reverse_cons];exact h1 _ H H' M M' q cls fmt ss (by unfold Lds; rw [List.reverse_reverse]; exact h2) ht hl (ih H M h2)
 have := key ks.reverse H M h
 rwa [List.reverse_reverse] at this
theorem kHK (h : Inv H M) (q : Nat) (hh : has H ((q : Int) + 1) = false) : (M.fA.getD q noTh).fI = false := by
 by_cases hq : q < M.fA.length
 ·cases hb : (M.fA.getD q noTh).fI with
  | false => rfl
  | true =>
   have h1 := (h.is q hq hb).has;rw [show ((q + 1 : Nat) : Int) = (q : Int) + 1 from by omega] at h1;rw [h1] at hh;exact absurd hh (by simp)
 ·rw [jAA, jAM (by omega)]; rfl
theorem kGI (S : List Th) (q : Nat) (hq : q < S.length) (hb : (S.getD q noTh).fI = false) : ∀ k, q < k → k ≤ S.length → kAG S k < k := by
 intro k
 induction k with
 | zero => intro h1; omega
 | succ k ih =>
  intro h1 hk;rw [kAN S k (by omega)]
  by_cases e : q = k
  ·subst e;rw [hb];have := kFG S q
   simp; omega
  ·have := ih (by omega) (by omega)
   split <;> omega
theorem kJH (h : Inv H M) (q : Nat) (hq : q < M.fM) (hf : (M.fA.getD q noTh).fI = false) : H.count < H.fM := by
 rw [h.count, h.fM];have hm := h.most
 by_cases hl : q < M.fA.length
 ·have := kGI M.fA q hl hf M.fA.length hl (jAD _);omega
 ·have := kFG M.fA M.fA.length;omega
theorem kDI {oop cls fmt : Int} {ss : List Int} (h : kAn H oop cls fmt ss = true) : has H oop = false ∧ 1 ≤ oop ∧ oop ≤ (H.fM : Int) ∧ isW cls = true ∧ isF fmt = true ∧ (ss.length : Int) ≤ 8192 ∧ kBd (ss.length : Int) fmt ≤ (H.fH : Int) - (H.mem.length : Int) ∧ ∀ j, j < ss.length → mayB (ss.getD j 0) fmt = true := by
 unfold kAn at h;simp only [jBA, Bool.not_eq_true', decide_eq_true_eq] at h;obtain ⟨⟨⟨⟨⟨⟨⟨h1, h2⟩, h3⟩, h4⟩, h5⟩, h6⟩, h7⟩, h8⟩ := h;refine ⟨h1, h2, h3, h4, h5, h6, h7, fun j hj => ?_⟩;rw [jBR] at h8;have e : ss.getD j 0 = ss[j] := by rw [jAA, jAB hj]; rfl
 rw [e];exact h8 _ (jAT hj)
theorem Lds.inv {ks : List (Int × Int × Int × List Int)} (h0 : Inv H0 M0) (h : Lds H0 M0 ks H M) : Inv H M :=
 Lds.ind (C := fun _ H M => Inv H M) h0 (fun _ _ _ _ _ _ _ _ _ _ _ hl _ => hl.inv) h
theorem kJe (q : Nat) (cls : Int) (fmt : Nat) (ss : List Int) (v : Value) (a : Nat) (l : Lay) (H : HS) (M : MS) (w : World) (h : Rep w a l H) (hi : Inv H M) (ht : kAn H ((q : Int) + 1) cls fmt ss = true) 
  (ho : Rd w v ss) (hbn : 0 < ss.length → ∀ g, v.ownBlock = some g → g ∉ foot a l) :
  Calls prog 144 #[.pointer (some ⟨a, 0, none⟩), .agg #[int i64 ((q : Int) + 1), int i64 cls, int i64 fmt, v]] w fun e w' => e = .returned (.tuple #[]) ∧ ∃ l' H' M', Rep w' a l' H' ∧ Nx a l l' w w' ∧ Ld H M q cls fmt ss ss.length H' M' := by
 obtain ⟨t1, t2, t3, t4, t5, t6, t7, t8⟩ := kDI ht;have hoo := hi.fM;have hf : fmt ≤ 1 := by simp [isF] at t5; omega
 rw [kAt] at t7;have hn := kHK hi q t1;exact kPK q cls fmt ss v a l H M w h hi (by omega) hn hf (by omega) (kJH hi q (by omega) hn) (by omega) t8 ho hbn
abbrev Key := Int × Int × Int × List Int
def endK : List Key → Int
 | [] => 0
 | k :: t => kBd (k.2.2.2.length : Int) k.2.2.1 + endK t
theorem kCj (a b : List Key) : endK (a ++ b) = endK a + endK b := by
 induction a with
 | nil => simp [endK]
 | cons k t ih => simp [endK, ih]; omega
def kCB (fH fM : Nat) (ks : List Key) (k : Key) : Bool :=
 decide (1 ≤ k.1) && decide (k.1 ≤ (fM : Int)) && !(ks.any fun x => x.1 == k.1) && isW k.2.1 && isF k.2.2.1 && decide ((k.2.2.2.length : Int) ≤ 8192) && (k.2.2.2.all fun x => mayB x k.2.2.1) && decide (endK ks + kBd (k.2.2.2.length : Int) k.2.2.1 ≤ (fH : Int))
structure KOf (fH fM mark : Nat) (ks : List Key) (H : HS) (M : MS) : Prop where
 inv : Inv H M
 fH : H.fH = fH
 fM : H.fM = fM
 mark : H.mark = mark
 age : H.age = 0
 fC : H.fC = ks.map fun k => k.1.toNat
 mem : (H.mem.length : Int) = endK ks
 count : H.count = ks.length
 at_ : ∀ k ∈ ks, 1 ≤ k.1 ∧ (M.fA.getD (k.1.toNat - 1) noTh).fI = true ∧ (M.fA.getD (k.1.toNat - 1) noTh).cls = k.2.1 ∧ ((M.fA.getD (k.1.toNat - 1) noTh).fmt : Int) = k.2.2.1 ∧ (M.fA.getD (k.1.toNat - 1) noTh).fB = k.2.2.2
 only : ∀ i, (M.fA.getD i noTh).fI = true → ∃ k ∈ ks, k.1 = (i : Int) + 1
theorem kMl {a b : List Int} (h1 : a.length = b.length) (h2 : ∀ j, j < b.length → a.getD j 0 = b.getD j 0) : a = b := by
 refine List.ext_getElem h1 fun i u1 u2 => ?_
 have := h2 i u2;rw [jAA, jAA, jAB u1, jAB u2] at this;exact this
theorem Lds.kOf {ks : List Key} (h1 : (fH : Int) ≤ 1048576) (h2 : (fM : Int) ≤ 65536) (hm : (mark : Int) ≤ 1073741824) (h : Lds { kBZ fH fM with mark := mark } { kBD fH fM with mark := mark } ks H M) : KOf fH fM mark ks H M := by
 refine Lds.ind (C := fun ks H M => KOf fH fM mark ks H M) ?_ ?_ h
 ·exact ⟨(kEz fH fM h1 h2).setMark mark hm, rfl, rfl, rfl, rfl, rfl, rfl, rfl, by simp, fun i hi => by simp [kBD, noTh] at hi⟩
 ·rintro ks H H' M M' q cls fmt ss h ht hl ih;obtain ⟨a1, a2, a3, a4, a5⟩ := hl.at_;have hq : ((q : Int) + 1).toNat - 1 = q := by omega
  have hnew := (kDI ht).1;have hnt := kHK ih.inv q hnew;refine ⟨hl.inv, hl.fH.trans ih.fH, hl.fM.trans ih.fM, hl.mark.trans ih.mark, hl.age.trans ih.age, ?_, ?_, ?_, fun k hk => ?_, fun i hi => ?_⟩
  ·rw [hl.fC, ih.fC, jAP]
   simp
  ·rw [hl.mem, kCj];have := ih.mem;simp only [endK];rw [kAt];omega
  ·rw [hl.count, ih.count, jAG]; rfl
  ·rcases jAC.1 hk with h3 | h3
   ·obtain ⟨b0, b1, b2, b3, b4⟩ := ih.at_ k h3;have hne : k.1.toNat - 1 ≠ q := fun e => by rw [e, hnt] at b1; simp at b1
    rw [hl.rest _ hne];exact ⟨b0, b1, b2, b3, b4⟩
   ·have e : k = ((q : Int) + 1, cls, (fmt : Int), ss) := by simpa using h3
    rw [e];dsimp only;rw [hq];refine ⟨by omega, a1, a2, by rw [a3], ?_⟩;exact kMl a4 a5
  ·by_cases e : i = q
   ·exact ⟨((q : Int) + 1, cls, (fmt : Int), ss), by simp, by dsimp only; omega⟩
   ·rw [hl.rest i e] at hi;obtain ⟨k, k1, k2⟩ := ih.only i hi;exact ⟨k, jBE _ k1, k2⟩
theorem KOf.has {ks : List Key} (h : KOf fH fM mark ks H M) (oop : Int) : has H oop = ks.any fun x => x.1 == oop := by
 rw [h.inv.hasM]
 cases hb : ks.any (fun x => x.1 == oop) with
 | true =>
  obtain ⟨k, k1, k2⟩ := jBd.1 hb;have e : k.1 = oop := by simpa using k2
  obtain ⟨b0, b1, b2⟩ := h.at_ k k1;rw [e] at b0 b1;have := kDu (M := M) (oop.toNat - 1) (kAs b1) b1
  rwa [show ((oop.toNat - 1 : Nat) : Int) + 1 = oop from by omega] at this
 | false =>
  refine decide_eq_false (fun hc => ?_);obtain ⟨k, k1, k2⟩ := h.only (oop.toNat - 1) hc.2.2;have : ks.any (fun x => x.1 == oop) = true := jBd.2 ⟨k, k1, by rw [beq_iff_eq]; omega⟩;rw [hb] at this
  simp at this
theorem KOf.takes {ks : List Key} (h : KOf fH fM mark ks H M) (k : Key) : kAn H k.1 k.2.1 k.2.2.1 k.2.2.2 = kCB fH fM ks k := by
 unfold kAn kCB;rw [h.has, h.fH, h.fM, h.mem];rw [jBZ];simp only [jBA, decide_eq_true_eq];constructor
 ·rintro ⟨⟨⟨⟨⟨⟨⟨h1, h2⟩, h3⟩, h4⟩, h5⟩, h6⟩, h7⟩, h8⟩;exact ⟨⟨⟨⟨⟨⟨⟨h2, h3⟩, h1⟩, h4⟩, h5⟩, h6⟩, h8⟩, by omega⟩
 ·rintro ⟨⟨⟨⟨⟨⟨⟨h2, h3⟩, h1⟩, h4⟩, h5⟩, h6⟩, h8⟩, h7⟩;exact ⟨⟨⟨⟨⟨⟨⟨h1, h2⟩, h3⟩, h4⟩, h5⟩, h6⟩, by omega⟩, h8⟩
theorem KOf.st {ks : List Key} (h : KOf fH fM mark ks H M) : (kAr H M.fA H.fC.length).map (fun k : Nat × Int × Nat × List Int => ((k.1 : Int), k.2.1, (k.2.2.1 : Int), k.2.2.2)) = ks := by
 unfold kAr;rw [jAV, h.fC]
 have hf : (ks.map fun k => k.1.toNat).filter (fun o => o != 0) = ks.map fun k => k.1.toNat := by
  rw [List.filter_eq_self]
  intro a ha;obtain ⟨k, k1, k2⟩ := jAZ.1 ha;have := (h.at_ k k1).1
  simp
  omega
 rw [hf, jAa, jAa]
 conv => rhs; rw [← List.map_id ks]
 refine jBJ fun k hk => ?_
 obtain ⟨b0, b1, b2, b3, b4⟩ := h.at_ k hk;simp only [Function.comp];rw [b2, b3, b4];obtain ⟨k1, k2, k3, k4⟩ := k;simp only [id];rw [show ((k1.toNat : Nat) : Int) = k1 from by dsimp only at b0; omega]
structure RO where
 oop : Nat
 fmt : Nat
 fJ : Nat
 fL : Nat
 cls : Int
 fB : List Int
 v : Value
def noRO : RO := ⟨0, 0, 0, 0, 0, [], .slice none 0 0⟩
def ro6 (o : RO) : List Value := [I o.oop, I o.fmt, I o.fJ, I o.fL, int i64 o.cls, o.v]
def kAH (l : List RO) : List Value := l.flatMap ro6
def kBU (o : RO) : Key := ((o.oop : Int), o.cls, (o.fmt : Int), o.fB)
structure RS where
 fH : Nat
 fM : Nat
 mark : Nat
 fL : Nat
 fO : Nat
 fE : List RO
 ov : Value
def kDh (R : RS) : Array Value := #[I R.fH, I R.fM, I R.mark, I R.fL, I R.fO, R.ov]
structure RRep (w : World) (B r : Nat) (R : RS) : Prop where
 lo : B ≤ r
 top : w.heap[r]? = some (.cells (kDh R) 99 (0, 0))
 row : w.ownsRow B 143 6 R.ov R.fE.length (kAH R.fE)
 fB : ∀ o ∈ R.fE, w.ownsRow B 41 1 o.v o.fB.length (o.fB.map (int i64))
theorem RRep.keep {R : RS} {S : List Nat} (h : RRep w B r R) (hf : Fr S w w') (hd : ∀ g ∈ S, g < B ∨ w.heap.size ≤ g) : RRep w' B r R := by
 have hk : ∀ g, B ≤ g → g < w.heap.size → w'.heap[g]? = w.heap[g]? := fun g h1 h2 => hf.block g h2 (fun hm => by have := hd g hm; omega)
 exact ⟨h.lo, (hk r h.lo (kAB h.top)).trans h.top, kAE h.row fun g hg => hk g (h.row.lt g hg).1 (h.row.lt g hg).2, fun o ho => kAE (h.fB o ho) fun g hg => hk g ((h.fB o ho).lt g hg).1 ((h.fB o ho).lt g hg).2⟩
theorem RRep.fK {R : RS} (h : RRep w B r R) (hf : Fr [] w w') : RRep w' B r R := h.keep hf (by simp)
theorem RRep.c (i : Nat) {R : RS} (h : RRep w B r R) : w.cell? ⟨r, i, none⟩ = (kDh R)[i]? := kAC h.top i
theorem kBs (l : List RO) (o : RO) : kAH (l ++ [o]) = kAH l ++ ro6 o := by simp [kAH]
theorem kJr (l : List RO) : ∀ k, k < l.length → (kAH l)[k * 6]? = some (I (l.getD k noRO).oop) ∧ (kAH l)[k * 6 + 1]? = some (I (l.getD k noRO).fmt) ∧ (kAH l)[k * 6 + 2]? = some (I (l.getD k noRO).fJ) ∧ (kAH l)[k * 6 + 3]? = some (I (l.getD k noRO).fL) ∧ (kAH l)[k * 6 + 4]? = some (int i64 (l.getD k noRO).cls) ∧ (kAH l)[k * 6 + 5]? = some (l.getD k noRO).v := by
 induction l with
 | nil => intro k hk; simp at hk
 | cons o l ih =>
  intro k hk;have e : kAH (o :: l) = ro6 o ++ kAH l := by simp [kAH]
  rw [e]
  cases k with
  | zero => exact ⟨rfl, rfl, rfl, rfl, rfl, rfl⟩
  | succ k =>
   have := ih k (by simpa using hk)
   have e2 : ∀ j, (ro6 o ++ kAH l)[(k + 1) * 6 + j]? = (kAH l)[k * 6 + j]? := fun j => by
    rw [jAI (by simp [ro6]; omega), show (k + 1) * 6 + j - (ro6 o).length = k * 6 + j from by simp [ro6]; omega]
   have e3 : (o :: l).getD (k + 1) noRO = l.getD k noRO := by simp
   rw [e3, e2, e2, e2, e2, e2];have := e2 0;rw [jBm, jBm] at this;rw [this];exact ih k (by simpa using hk)
theorem RRep.at_ {R : RS} (h : RRep w B r R) (hp : 0 < R.fE.length) : ∃ g c, R.ov = .slice (some ⟨g, 0, none⟩) R.fE.length c ∧ (∀ k, k < R.fE.length → w.cell? ⟨g, k * 6, none⟩ = some (I (R.fE.getD k noRO).oop) ∧ w.cell? ⟨g, k * 6 + 1, none⟩ = some (I (R.fE.getD k noRO).fmt) ∧ w.cell? ⟨g, k * 6 + 2, none⟩ = some (I (R.fE.getD k noRO).fJ) ∧ w.cell? ⟨g, k * 6 + 3, none⟩ = some (I (R.fE.getD k noRO).fL) ∧ w.cell? ⟨g, k * 6 + 4, none⟩ = some (int i64 (R.fE.getD k noRO).cls) ∧ w.cell? ⟨g, k * 6 + 5, none⟩ = some (R.fE.getD k noRO).v) := by
 have hs := h.row;obtain ⟨g, c, hv, _, hgl⟩ := hs.form hp;refine ⟨g, c, hv, fun k hk => ?_⟩;rw [hv] at hs;have := kJr R.fE k hk;exact ⟨(hs.cellAt _ (by omega)).trans this.1, (hs.cellAt _ (by omega)).trans this.2.1, (hs.cellAt _ (by omega)).trans this.2.2.1, (hs.cellAt _ (by omega)).trans this.2.2.2.1, (hs.cellAt _ (by omega)).trans this.2.2.2.2.1, (hs.cellAt _ (by omega)).trans this.2.2.2.2.2⟩
theorem RRep.ovIs {R : RS} (h : RRep w B r R) : ∃ p c, R.ov = .slice p R.fE.length c := by
 rcases h.row.2 with ⟨h2, h3⟩ | ⟨g, cap, cur, h2, h3⟩
 ·exact ⟨none, 0, by rw [h2, h3]⟩
 ·exact ⟨some ⟨g, 0, none⟩, cap, h2⟩
def kKW (l : List RO) (oop z : Int) : Prop := (∃ k : Nat, k < l.length ∧ z = k ∧ ((l.getD k noRO).oop : Int) = oop ∧ ∀ j, j < k → ((l.getD j noRO).oop : Int) ≠ oop) ∨ (z = -1 ∧ ∀ j, j < l.length → ((l.getD j noRO).oop : Int) ≠ oop)
theorem kBN (oop : Int) (B r : Nat) (R : RS) (w : World) (h : RRep w B r R) (hl : R.fE.length ≤ 1048576) :
  Calls prog 106 #[.pointer (some ⟨r, 0, none⟩), int i64 oop] w fun e w' => ∃ z, e = .returned (int i64 z) ∧ kKW R.fE oop z ∧ w' = w := by
 obtain ⟨p, c, hov⟩ := h.ovIs;have c5 : w.cell? ⟨r, 5, none⟩ = some (.slice p R.fE.length c) := by rw [h.c, ← hov]; rfl
 have HR := kAA h;clear h;go_enter func106, ntmps106
 go_wp2_with fail
 go_loopw [5] (fun q wr => ∃ k : Nat, k ≤ R.fE.length ∧ q = int i64 k ∧ wr = w ∧ Hid (∀ j, j < k → ((R.fE.getD j noRO).oop : Int) ≠ oop)) (fun q _ => R.fE.length - (intOf q).toNat)
 case atStart => exact ⟨0, jAH _, rfl, rfl, fun j hj => by omega⟩
 case round =>
  obtain ⟨k, hkn, rfl, rfl, hq⟩ := hrel
  by_cases hlt : k < R.fE.length
  ·obtain ⟨g, c', hv, hc⟩ := HR.out.at_ (by omega);obtain ⟨q0, -, -, -, -, -⟩ := hc k hlt;rw [hov] at hv
   injection hv with hv1 hv2 hv3
   subst hv1;have k1 := ng k;have k2 : (k : Int) < R.fE.length := by omega
   simp only [I] at q0
   by_cases he : ((R.fE.getD k noRO).oop : Int) = oop
   ·have HF : Hid (kKW R.fE oop k) := .inl ⟨k, hlt, rfl, he, hq.out⟩;rw [he] at q0;clear hc hq he hv2 hv3
    go_wp2_with fail
    go_ret
    exact ⟨_, rfl, HF.out, rfl⟩
   ·have HQ : Hid (∀ j, j < k + 1 → ((R.fE.getD j noRO).oop : Int) ≠ oop) := fun j hj => by
     by_cases e : j = k
     ·rw [e]; exact he
     ·exact hq.out j (by omega)
    have he2 : ((((R.fE.getD k noRO).oop : Nat) : Int) == oop) = false := by simpa using he
    generalize (R.fE.getD k noRO).oop = z at *;clear hc hq hv2 hv3
    go_wp2_with fail
    go_roundw
    case rel => exact ⟨k + 1, by omega, by go_num, trivial, HQ⟩
    case measure => simp [intOf]; omega
  ·have hke : k = R.fE.length := by omega
   subst hke
   go_wp2_with fail
   go_ret
   exact ⟨_, rfl, .inr ⟨rfl, hq.out⟩, rfl⟩
theorem kKT (oop : Int) (B r : Nat) (R : RS) (w : World) (h : RRep w B r R) (hl : R.fE.length ≤ 1048576) (hn : (R.fE.map kBU).any (fun x => x.1 == oop) = false) :
  Calls prog 106 #[.pointer (some ⟨r, 0, none⟩), int i64 oop] w fun e w' => e = .returned (int i64 (-1)) ∧ w' = w := by
 refine Calls.mono (kBN oop B r R w h hl) ?_;rintro e w' ⟨z, rfl, h1, h2⟩;refine ⟨?_, h2⟩;rcases h1 with ⟨k, k1, k2, k3, k4⟩ | ⟨k1, k2⟩
 ·exfalso;have hm : R.fE.getD k noRO ∈ R.fE := by rw [jAA, jAB k1]; exact jAT k1
  have : (R.fE.map kBU).any (fun x => x.1 == oop) = true := jBd.2 ⟨_, jAq hm, by show (((R.fE.getD k noRO).oop : Int) == oop) = true; rw [k3]; simp⟩;rw [hn] at this
  simp at this
 ·rw [k1]
theorem kMU (oop : Int) (B r : Nat) (R : RS) (w : World) (h : RRep w B r R) (hl : R.fE.length ≤ 1048576) (hn : (R.fE.map kBU).any (fun x => x.1 == oop) = true) :
  Calls prog 106 #[.pointer (some ⟨r, 0, none⟩), int i64 oop] w fun e w' => ∃ k : Nat, e = .returned (int i64 k) ∧ w' = w := by
 refine Calls.mono (kBN oop B r R w h hl) ?_;rintro e w' ⟨z, rfl, h1, h2⟩;rcases h1 with ⟨k, k1, k2, k3, k4⟩ | ⟨k1, k2⟩
 ·exact ⟨k, by rw [k2], h2⟩
 ·exfalso;obtain ⟨x, x1, x2⟩ := jBd.1 hn;obtain ⟨o, o1, rfl⟩ := jAZ.1 x1;obtain ⟨i, i1, i2⟩ := jBP o1;refine k2 i i1 ?_;rw [jAA, jAB i1];show (R.fE[i].oop : Int) = oop;rw [i2]
  simpa [kBU] using x2
theorem kDm (n f : Int) (w : World) :
  Calls prog 107 #[int i64 n, int i64 f] w fun e w' => e = .returned (.bool (mayB n f)) ∧ w' = w := by
 have hK := kBY n w
 by_cases h1 : f = 1
 ·subst h1;have e : Hid (mayB n 1 = decide (0 ≤ n ∧ n ≤ 255)) := by show mayB n 1 = _; unfold mayB; simp
  generalize mayB n 1 = q at *;clear hK
  by_cases ha : 0 ≤ n
  ·go_enter func107, ntmps107
   go_wp2
   go_ret
   exact ⟨kBt (by rw [e.out]; simp [ha]), rfl⟩
  ·have ha' : n < 0 := by omega
   go_enter func107, ntmps107
   go_wp2
   go_ret
   exact ⟨kBt (by rw [e.out]; simp; omega), rfl⟩
 ·have hb : (f == 1) = false := by simpa using h1
  have e : Hid (mayB n f = (kAJ n != 0)) := by show mayB n f = _; unfold mayB; rw [jn h1]; rfl
  generalize mayB n f = q at *;clear h1;rcases kIw n with h | h | h | h
  all_goals
   rw [h] at hK e;clear h;go_enter func107, ntmps107
   go_wp2_with (go_at_call 98; refine hK.mono ?_; rintro e w' ⟨rfl, rfl⟩)
   go_ret
   exact ⟨kBt (by rw [e.out]; rfl), rfl⟩
def rEnd (l : List RO) : Nat := if l.length = 0 then 0 else (l.getD (l.length - 1) noRO).fJ + lenN (l.getD (l.length - 1) noRO).fB.length (l.getD (l.length - 1) noRO).fmt
structure ROk (R : RS) : Prop where
 len : R.fE.length ≤ 1048576
 fJ : ∀ o ∈ R.fE, o.fJ ≤ 1048576 ∧ o.fB.length ≤ 8192
theorem ROk.getD {R : RS} (h : ROk R) (k : Nat) (hk : k < R.fE.length) : (R.fE.getD k noRO).fJ ≤ 1048576 ∧ (R.fE.getD k noRO).fB.length ≤ 8192 := by
 rw [jAA, jAB hk];exact h.fJ _ (jAT hk)
theorem RRep.vIs {R : RS} (h : RRep w B r R) (k : Nat) (hk : k < R.fE.length) : ∃ p c, (R.fE.getD k noRO).v = .slice p (R.fE.getD k noRO).fB.length c := by
 have hm : R.fE.getD k noRO ∈ R.fE := by rw [jAA, jAB hk]; exact jAT hk
 rcases (h.fB _ hm).2 with ⟨h2, h3⟩ | ⟨g, cap, cur, h2, h3⟩
 ·exact ⟨none, 0, by rw [h2, h3]⟩
 ·exact ⟨some ⟨g, 0, none⟩, cap, h2⟩
theorem kCM (B r : Nat) (R : RS) (w : World) (h : RRep w B r R) (ho : ROk R) :
  Calls prog 99 #[.pointer (some ⟨r, 0, none⟩)] w fun e w' => e = .returned (int i64 (rEnd R.fE : Nat)) ∧ Fr [] w w' := by
 obtain ⟨p, c, hov⟩ := h.ovIs;have c5 : w.cell? ⟨r, 5, none⟩ = some (.slice p R.fE.length c) := by rw [h.c, ← hov]; rfl
 have hl := ho.len
 by_cases h0 : R.fE.length = 0
 ·have e : rEnd R.fE = 0 := by unfold rEnd; rw [jp h0]
  rw [e];rw [h0] at c5;clear h hov;go_enter func99, ntmps99
  go_wp2_with fail
  go_ret
  exact ⟨rfl, Fr.refl _ _⟩
 ·obtain ⟨g, c', hv, hc⟩ := h.at_ (by omega);rw [hov] at hv
  injection hv with hv1 hv2 hv3
  subst hv1;obtain ⟨q0, q1, q2, q3, q4, q5⟩ := hc (R.fE.length - 1) (by omega);obtain ⟨p5, c5', hv5⟩ := h.vIs (R.fE.length - 1) (by omega);rw [hv5] at q5;obtain ⟨o1, o2⟩ := ho.getD (R.fE.length - 1) (by omega);have e : Hid (rEnd R.fE = (R.fE.getD (R.fE.length - 1) noRO).fJ + lenN (R.fE.getD (R.fE.length - 1) noRO).fB.length (R.fE.getD (R.fE.length - 1) noRO).fmt) := by show rEnd R.fE = _; unfold rEnd; rw [jn h0]
  have k0 : ((R.fE.length : Int) == 0) = false := by simpa using (by omega : ¬ (R.fE.length : Int) = 0)
  have k1 : 0 ≤ (R.fE.length : Int) - 1 := by omega
  have k2 : (R.fE.length : Int) - 1 < (R.fE.length : Int) := by omega
  have k3 : ((R.fE.length : Int) - 1).toNat = R.fE.length - 1 := by omega
  have hll := kFA (R.fE.getD (R.fE.length - 1) noRO).fB.length (R.fE.getD (R.fE.length - 1) noRO).fmt;have hgl : g < w.heap.size := jAf w _ q0;have hrl : r < w.heap.size := kAB h.top;simp only [I] at q0 q1 q2 q3;generalize rEnd R.fE = E at *;generalize (R.fE.getD (R.fE.length - 1) noRO).oop = y0 at *;generalize (R.fE.getD (R.fE.length - 1) noRO).fmt = y1 at *;generalize (R.fE.getD (R.fE.length - 1) noRO).fJ = y2 at *;generalize (R.fE.getD (R.fE.length - 1) noRO).fL = y3 at *;generalize (R.fE.getD (R.fE.length - 1) noRO).cls = y4 at *;generalize (R.fE.getD (R.fE.length - 1) noRO).fB.length = y5 at *;have HL := kAA fun V => kBr y5 y1 V (by omega)
  clear h hc hov hv2 hv3 ho hv5;go_enter func99, ntmps99
  go_wp2_with fail
  go_region
  all_goals go_wp2_with fail
  have F5 : Hid (Fr [] w ((w.alloc (.cells #[int i64 y0, int i64 y1, int i64 y2, int i64 y3, int i64 y4, .slice p5 y5 c5'] 143)).drew)) := (Fr.alloc [] w _).trans (Fr.drew [] _) (by simp);have hb5 : ((w.alloc (.cells #[int i64 y0, int i64 y1, int i64 y2, int i64 y3, int i64 y4, .slice p5 y5 c5'] 143)).drew).heap[w.heap.size]? = some (.cells #[int i64 y0, int i64 y1, int i64 y2, int i64 y3, int i64 y4, .slice p5 y5 c5'] 143 (0, 0)) := heap_alloc_new _ _;generalize (w.alloc (.cells #[int i64 y0, int i64 y1, int i64 y2, int i64 y3, int i64 y4, .slice p5 y5 c5'] 143)).drew = W5 at *;have x1 : W5.cell? ⟨w.heap.size, 1, none⟩ = some (int i64 y1) := by rw [kAC hb5]; rfl
  have x2 : W5.cell? ⟨w.heap.size, 2, none⟩ = some (int i64 y2) := by rw [kAC hb5]; rfl
  have x5 : W5.cell? ⟨w.heap.size, 5, none⟩ = some (.slice p5 y5 c5') := by rw [kAC hb5]; rfl
  clear q0 q1 q2 q3 q4 q5 c5 hb5
  go_quiet ((go_at_call 86; exact Calls.quiet_of_same (HL.out _)))
  go_wp2_with fail
  go_ret
  refine ⟨kBK ?_, ?_⟩
  ·rw [e.out]; push_cast; first | rfl | omega
  ·exact F5.out.trans (Fr.drewN [] _ _) (by simp)
end Go.Proofs.YtflgicdbbogllaaGreatDoor
