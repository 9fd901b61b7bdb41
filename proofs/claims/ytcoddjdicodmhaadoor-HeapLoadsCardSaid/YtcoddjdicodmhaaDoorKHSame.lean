import Derived.Test.YtcoddjdicodmhaaDoorKHModelM
namespace Go.Proofs.YtcoddjdicodmhaaDoor
open Go.RowKit
set_option linter.unusedVariables false
attribute [local go_sem ↓] Go.wp_at_zero Go.wp_at_succ
/-- the heap has the thing under the oop -/
structure Is (H : HS) (oop : Nat) (t : Th) : Prop where
  has : has H oop = true
  room : (H.seats.getD oop (0, 0, 0)).1 + lenN t.slots.length t.fmt ≤ H.mem.length
  cls : H.mem.getD (H.seats.getD oop (0, 0, 0)).1 0 = t.cls
  shape : H.mem.getD ((H.seats.getD oop (0, 0, 0)).1 + 1) 0 = ((2 * t.slots.length + t.fmt : Nat) : Int)
  fmt : t.fmt ≤ 1
  len : t.slots.length ≤ 8192
  word : t.fmt = 0 → ∀ i, i < t.slots.length → H.mem.getD ((H.seats.getD oop (0, 0, 0)).1 + 2 + i) 0 = t.slots.getD i 0
  byte : t.fmt = 1 → ∀ i, i < t.slots.length → ∃ old : Nat, H.mem.getD ((H.seats.getD oop (0, 0, 0)).1 + 2 + i / 4) 0 = (old : Int) ∧ (old : Int) ≤ 4294967295 ∧ t.slots.getD i 0 = ((getB old (i % 4) : Nat) : Int)
theorem lenN_byte (n i : Nat) (h : i < n) : 2 + i / 4 < lenN n 1 := by unfold lenN; rw [if_pos rfl]; omega
theorem lenN_word (n i f : Nat) (hf : f = 0) (h : i < n) : 2 + i < lenN n f := by unfold lenN; rw [if_neg (by omega)]; omega
theorem lenN_two (n f : Nat) : 2 ≤ lenN n f := by unfold lenN; split <;> omega
theorem Is.at {H : HS} {oop : Nat} {t : Th} (hi : Is H oop t) (i : Nat) (hin : i < t.slots.length) (a : Nat) (l : Lay) (hb : (H.mem.length : Int) ≤ 1048576) (w : World) (h : Rep w a l H) :
    Calls Tryd.prog 47 #[.pointer (some ⟨a, 0, none⟩), .int .i64 oop, .int .i64 i] w fun e w' => e = .returned (.tuple #[.int .i64 (t.slots.getD i 0), .int .i64 0]) ∧ Fr [] w w' := by
  obtain ⟨h1, h2, h3⟩ := has_yes hi.has
  have hr := hi.room
  have hl := hi.len
  have h2' := lenN_two t.slots.length t.fmt
  refine At_ok oop i t.slots.length t.fmt (t.slots.getD i 0) a l H w h hb h1 h2 h3 (by omega) hi.shape (by have := hi.fmt; omega) (by omega) (by omega) ?_
  intro W hW
  rcases (show t.fmt = 0 ∨ t.fmt = 1 from by have := hi.fmt; omega) with hf | hf
  · have := lenN_word t.slots.length i t.fmt hf hin
    rw [hf, ← hi.word hf i hin]
    exact slot_w _ i a l H W hW (by omega) hb
  · obtain ⟨old, o1, o2, o3⟩ := hi.byte hf i hin
    have := lenN_byte t.slots.length i hin
    rw [← hf] at this
    rw [hf, o3]
    exact getB_any _ i old a l H W hW (by omega) hb o1 (by omega)
def thv (t : Th) : Value := .agg #[.bool t.there, .int .i64 t.cls, .int .i64 t.fmt, .int .i64 t.place, .slice t.p t.slots.length t.c]
set_option maxRecDepth 20000 in
set_option maxHeartbeats 4000000 in
theorem same_ok (oop : Nat) (t : Th) (a : Nat) (l : Lay) (H : HS) (w : World) (h : Rep w a l H) (hi : Is H oop t) (hb : (H.mem.length : Int) ≤ 1048576)
    (hs : w.ownsRow 0 33 1 (.slice t.p t.slots.length t.c) t.slots.length (t.slots.map (Value.int .i64))) :
    Calls Tryd.prog 69 #[thv t, .pointer (some ⟨a, 0, none⟩), .int .i64 oop] w fun e w' => e = .returned (.bool true) ∧ Fr [] w w' := by
  have hr := hi.room
  have hl := hi.len
  have h2' := lenN_two t.slots.length t.fmt
  have HC : Hid (∀ W, Rep W a l H → Calls Tryd.prog 68 #[.pointer (some ⟨a, 0, none⟩), .int .i64 oop] W fun e w' => e = .returned (.tuple #[.int .i64 t.cls, .int .i64 0]) ∧ Fr [] W w') := by
    intro W hW
    rw [← hi.cls]
    exact Class_ok oop a l H W hW hi.has (by omega) hb
  have HZ : Hid (∀ W, Rep W a l H → Calls Tryd.prog 81 #[.pointer (some ⟨a, 0, none⟩), .int .i64 oop] W fun e w' => e = .returned (.tuple #[.int .i64 t.slots.length, .int .i64 t.fmt, .int .i64 0]) ∧ Fr [] W w') := by
    intro W hW
    exact Size_ok oop t.slots.length t.fmt a l H W hW hi.has hb (by omega) hi.shape (by have := hi.fmt; omega)
  have HA : Hid (∀ W, Rep W a l H → ∀ i, i < t.slots.length → Calls Tryd.prog 47 #[.pointer (some ⟨a, 0, none⟩), .int .i64 oop, .int .i64 i] W fun e w' => e = .returned (.tuple #[.int .i64 (t.slots.getD i 0), .int .i64 0]) ∧ Fr [] W w') :=
    fun W hW i hin => hi.at i hin a l hb W hW
  have HO : Hid (∀ W, Rep W a l H → Calls Tryd.prog 47 #[.pointer (some ⟨a, 0, none⟩), .int .i64 oop, .int .i64 t.slots.length] W fun e w' => e = .returned (.tuple #[.int .i64 0, .int .i64 21]) ∧ Fr [] W w') :=
    fun W hW => At_slot oop t.slots.length t.fmt t.slots.length a l H W hW hi.has hb (by omega) hi.shape (by have := hi.fmt; omega) (.inr (by omega))
  have HCell : Hid (∀ i, i < t.slots.length → ∃ g, t.p = some ⟨g, 0, none⟩ ∧ g < w.heap.size ∧ w.cell? ⟨g, i, none⟩ = some (.int .i64 (t.slots.getD i 0))) := by
    intro i hin
    obtain ⟨g, c, hv, _, hgl⟩ := hs.form (by omega)
    injection hv with hv1 hv2 hv3
    refine ⟨g, hv1, hgl, ?_⟩
    have hs' := hs
    rw [hv1] at hs'
    rw [hs'.cellAt i (by omega), List.getElem?_map, List.getD_eq_getElem?_getD, List.getElem?_eq_getElem hin]
    rfl
  have HR := mkHid h
  clear h hi hs hr h2'
  obtain ⟨th, cl, fm, pl, sl, tp, tc⟩ := t
  dsimp only [thv] at *
  go_enter Tryd.func69, Tryd.ntmps69
  go_wp2_with fail
  refine Calls.mono (HC.out _ (HR.out.alloc _)) ?_
  rintro e w1 ⟨rfl, hf1⟩
  have F1 := mkHid ((Fr.alloc [] w (.cells #[.bool th, .int .i64 cl, .int .i64 fm, .int .i64 pl, .slice tp sl.length tc] 119)).trans hf1 (by simp))
  have b1 := (hf1.block w.heap.size (by simp) (by simp)).trans (heap_alloc_new w _)
  clear hf1
  go_wp2_with fail
  refine Calls.mono (HZ.out _ (HR.out.keep F1.out (by simp))) ?_
  rintro e w2 ⟨rfl, hf2⟩
  have s1 := F1.out.size
  have b2 := (hf2.block w.heap.size (lt_of_heap b1) (by simp)).trans b1
  have F2 := mkHid (F1.out.trans hf2 (by simp))
  have d1 := cell_in b2 1
  have d2 := cell_in b2 2
  have d4 := cell_in b2 4
  have B2 := mkHid b2
  simp at d1 d2 d4
  clear b1 b2 hf2 F1
  go_wp2_with (go_at_call 11; refine (num_any _ _ (by omega) (by omega)).mono ?_; rintro e w1 ⟨rfl, hw1⟩; rw [hw1]; clear hw1 w1)
  go_loopw [12] (fun q wr => ∃ k : Nat, k ≤ sl.length ∧ q = .int .i64 k ∧ Hid (Fr [] w wr ∧ wr.heap[w.heap.size]? = some (.cells #[.bool th, .int .i64 cl, .int .i64 fm, .int .i64 pl, .slice tp sl.length tc] 119 (0, 0)))) (fun q _ => sl.length - (intOf q).toNat)
  case atStart => exact ⟨0, Nat.zero_le _, rfl, F2.out, B2.out⟩
  case round =>
    clear d1 d2 d4
    obtain ⟨k, hkn, rfl, hq⟩ := hrel
    by_cases hlt : k < sl.length
    · have k1 : (0 : Int) ≤ (k : Int) := by omega
      have k2 : (k : Int) < (sl.length : Int) := by omega
      go_wp2_with fail
      refine Calls.mono (HA.out _ (HR.out.keep hq.out.1 (by simp)) k hlt) ?_
      rintro e w3 ⟨rfl, hf3⟩
      obtain ⟨g, hg, hgl, hcg⟩ := HCell.out k hlt
      have F3 := mkHid (hq.out.1.trans hf3 (by simp))
      have cg := (F3.out.cell (p := ⟨g, k, none⟩) hgl (by simp)).trans hcg
      have B3 := mkHid ((hf3.block w.heap.size (lt_of_heap hq.out.2) (by simp)).trans hq.out.2)
      have d4 := cell_in B3.out 4
      simp at d4
      rw [hg] at d4
      clear hf3 hq hcg hg
      generalize sl.getD k 0 = v at *
      go_wp2_with (go_at_call 11; refine (num_any _ _ (by omega) (by omega)).mono ?_; rintro e w1 ⟨rfl, hw1⟩; rw [hw1]; clear hw1 w1)
      go_roundw
      case rel => exact ⟨k + 1, by omega, by go_num, F3.out, B3.out⟩
      case measure => simp [intOf]; omega
    · have hke : k = sl.length := by omega
      subst hke
      go_wp2_with fail
      refine Calls.mono (HO.out _ (HR.out.keep hq.out.1 (by simp))) ?_
      rintro e w3 ⟨rfl, hf3⟩
      have F3 := mkHid (hq.out.1.trans hf3 (by simp))
      clear hf3 hq
      go_wp2_with (go_at_call 11; refine (num_any _ _ (by omega) (by omega)).mono ?_; rintro e w1 ⟨rfl, hw1⟩; rw [hw1]; clear hw1 w1)
      go_ret
      exact ⟨rfl, F3.out⟩
end Go.Proofs.YtcoddjdicodmhaaDoor
