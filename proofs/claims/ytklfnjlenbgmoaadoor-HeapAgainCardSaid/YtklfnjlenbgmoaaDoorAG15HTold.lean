import Derived.Test.YtklfnjlenbgmoaaDoorAG14HModelL
namespace Go.Proofs.YtklfnjlenbgmoaaDoor
open Go.RowKit
set_option linter.unusedVariables false
theorem tm2 (n : Int) (h : n < 0) : n.tmod 2 = if n % 2 = 0 then 0 else -1 := by
  rw [Int.tmod_eq_emod]; split <;> split <;> omega
theorem tm4 (n : Int) (h : n < 0) : n.tmod 4 = if n % 4 = 0 then 0 else n % 4 - 4 := by
  rw [Int.tmod_eq_emod]; split <;> split <;> omega
set_option maxHeartbeats 400000 in
theorem rKind_0_p_in (n : Int) (w : World) (hr : n % 4 = 0) (hs : 0 ≤ n) (h0 : 4 ≤ n) (h1 : n ≤ 262144) :
    Calls Tryd.prog 56 #[.int .i64 n] w fun e w' => e = .returned (.int .i64 (3)) ∧ w' = w := by
  have h2 : n % 2 = 0 := by omega
  go_enter Tryd.func56, Tryd.ntmps56
  go_wp2
  go_ret
  exact ⟨rfl, rfl⟩
set_option maxHeartbeats 400000 in
theorem rKind_0_p_out (n : Int) (w : World) (hr : n % 4 = 0) (hs : 0 ≤ n) (h : n < 4 ∨ 262144 < n) :
    Calls Tryd.prog 56 #[.int .i64 n] w fun e w' => e = .returned (.int .i64 (0)) ∧ w' = w := by
  have h2 : n % 2 = 0 := by omega
  rcases h with h | h
  all_goals
    go_enter Tryd.func56, Tryd.ntmps56
    go_wp2
    go_ret
    exact ⟨rfl, rfl⟩
set_option maxHeartbeats 400000 in
theorem rKind_0_n_out (n : Int) (w : World) (hr : n % 4 = 0) (hs : n < 0) (h : n < 4) :
    Calls Tryd.prog 56 #[.int .i64 n] w fun e w' => e = .returned (.int .i64 (0)) ∧ w' = w := by
  have e2 : n.tmod 2 = 0 := by rw [tm2 n hs]; split <;> omega
  have e4 : n.tmod 4 = 0 := by rw [tm4 n hs, hr]; rfl
  clear hr
  go_enter Tryd.func56, Tryd.ntmps56
  go_wp2
  go_ret
  exact ⟨rfl, rfl⟩
set_option maxHeartbeats 400000 in
theorem rKind_1_p_in (n : Int) (w : World) (hr : n % 4 = 1) (hs : 0 ≤ n) (h0 : -2147483647 ≤ n) (h1 : n ≤ 2147483647) :
    Calls Tryd.prog 56 #[.int .i64 n] w fun e w' => e = .returned (.int .i64 (1)) ∧ w' = w := by
  have h2 : n % 2 = 1 := by omega
  go_enter Tryd.func56, Tryd.ntmps56
  go_wp2
  go_ret
  exact ⟨rfl, rfl⟩
set_option maxHeartbeats 400000 in
theorem rKind_1_p_out (n : Int) (w : World) (hr : n % 4 = 1) (hs : 0 ≤ n) (h : 2147483647 < n) :
    Calls Tryd.prog 56 #[.int .i64 n] w fun e w' => e = .returned (.int .i64 (0)) ∧ w' = w := by
  have h2 : n % 2 = 1 := by omega
  go_enter Tryd.func56, Tryd.ntmps56
  go_wp2
  go_ret
  exact ⟨rfl, rfl⟩
set_option maxHeartbeats 400000 in
theorem rKind_1_n_in (n : Int) (w : World) (hr : n % 4 = 1) (hs : n < 0) (h0 : -2147483647 ≤ n) (h1 : n ≤ 2147483647) :
    Calls Tryd.prog 56 #[.int .i64 n] w fun e w' => e = .returned (.int .i64 (1)) ∧ w' = w := by
  have e2 : n.tmod 2 = -1 := by rw [tm2 n hs]; split <;> omega
  have e4 : n.tmod 4 = -3 := by rw [tm4 n hs, hr]; rfl
  clear hr
  go_enter Tryd.func56, Tryd.ntmps56
  go_wp2
  go_ret
  exact ⟨rfl, rfl⟩
set_option maxHeartbeats 400000 in
theorem rKind_1_n_out (n : Int) (w : World) (hr : n % 4 = 1) (hs : n < 0) (h : n < -2147483647) :
    Calls Tryd.prog 56 #[.int .i64 n] w fun e w' => e = .returned (.int .i64 (0)) ∧ w' = w := by
  have e2 : n.tmod 2 = -1 := by rw [tm2 n hs]; split <;> omega
  have e4 : n.tmod 4 = -3 := by rw [tm4 n hs, hr]; rfl
  clear hr
  go_enter Tryd.func56, Tryd.ntmps56
  go_wp2
  go_ret
  exact ⟨rfl, rfl⟩
set_option maxHeartbeats 400000 in
theorem rKind_2_p_in (n : Int) (w : World) (hr : n % 4 = 2) (hs : 0 ≤ n) (h0 : 2 ≤ n) (h1 : n ≤ 16382) :
    Calls Tryd.prog 56 #[.int .i64 n] w fun e w' => e = .returned (.int .i64 (2)) ∧ w' = w := by
  have h2 : n % 2 = 0 := by omega
  go_enter Tryd.func56, Tryd.ntmps56
  go_wp2
  go_ret
  exact ⟨rfl, rfl⟩
set_option maxHeartbeats 400000 in
theorem rKind_2_p_out (n : Int) (w : World) (hr : n % 4 = 2) (hs : 0 ≤ n) (h : 16382 < n) :
    Calls Tryd.prog 56 #[.int .i64 n] w fun e w' => e = .returned (.int .i64 (0)) ∧ w' = w := by
  have h2 : n % 2 = 0 := by omega
  go_enter Tryd.func56, Tryd.ntmps56
  go_wp2
  go_ret
  exact ⟨rfl, rfl⟩
set_option maxHeartbeats 400000 in
theorem rKind_2_n_out (n : Int) (w : World) (hr : n % 4 = 2) (hs : n < 0) (h : n < 2) :
    Calls Tryd.prog 56 #[.int .i64 n] w fun e w' => e = .returned (.int .i64 (0)) ∧ w' = w := by
  have e2 : n.tmod 2 = 0 := by rw [tm2 n hs]; split <;> omega
  have e4 : n.tmod 4 = -2 := by rw [tm4 n hs, hr]; rfl
  clear hr
  go_enter Tryd.func56, Tryd.ntmps56
  go_wp2
  go_ret
  exact ⟨rfl, rfl⟩
set_option maxHeartbeats 400000 in
theorem rKind_3_p_in (n : Int) (w : World) (hr : n % 4 = 3) (hs : 0 ≤ n) (h0 : -2147483647 ≤ n) (h1 : n ≤ 2147483647) :
    Calls Tryd.prog 56 #[.int .i64 n] w fun e w' => e = .returned (.int .i64 (1)) ∧ w' = w := by
  have h2 : n % 2 = 1 := by omega
  go_enter Tryd.func56, Tryd.ntmps56
  go_wp2
  go_ret
  exact ⟨rfl, rfl⟩
set_option maxHeartbeats 400000 in
theorem rKind_3_p_out (n : Int) (w : World) (hr : n % 4 = 3) (hs : 0 ≤ n) (h : 2147483647 < n) :
    Calls Tryd.prog 56 #[.int .i64 n] w fun e w' => e = .returned (.int .i64 (0)) ∧ w' = w := by
  have h2 : n % 2 = 1 := by omega
  go_enter Tryd.func56, Tryd.ntmps56
  go_wp2
  go_ret
  exact ⟨rfl, rfl⟩
set_option maxHeartbeats 400000 in
theorem rKind_3_n_in (n : Int) (w : World) (hr : n % 4 = 3) (hs : n < 0) (h0 : -2147483647 ≤ n) (h1 : n ≤ 2147483647) :
    Calls Tryd.prog 56 #[.int .i64 n] w fun e w' => e = .returned (.int .i64 (1)) ∧ w' = w := by
  have e2 : n.tmod 2 = -1 := by rw [tm2 n hs]; split <;> omega
  have e4 : n.tmod 4 = -1 := by rw [tm4 n hs, hr]; rfl
  clear hr
  go_enter Tryd.func56, Tryd.ntmps56
  go_wp2
  go_ret
  exact ⟨rfl, rfl⟩
set_option maxHeartbeats 400000 in
theorem rKind_3_n_out (n : Int) (w : World) (hr : n % 4 = 3) (hs : n < 0) (h : n < -2147483647) :
    Calls Tryd.prog 56 #[.int .i64 n] w fun e w' => e = .returned (.int .i64 (0)) ∧ w' = w := by
  have e2 : n.tmod 2 = -1 := by rw [tm2 n hs]; split <;> omega
  have e4 : n.tmod 4 = -1 := by rw [tm4 n hs, hr]; rfl
  clear hr
  go_enter Tryd.func56, Tryd.ntmps56
  go_wp2
  go_ret
  exact ⟨rfl, rfl⟩
theorem rKind_any (n : Int) (w : World) :
    Calls Tryd.prog 56 #[.int .i64 n] w fun e w' => e = .returned (.int .i64 (kindOf n)) ∧ w' = w := by
  have h4 : n % 4 = 0 ∨ n % 4 = 1 ∨ n % 4 = 2 ∨ n % 4 = 3 := by omega
  by_cases hs : 0 ≤ n
  · rcases h4 with h4 | h4 | h4 | h4
    · by_cases h : 4 ≤ n ∧ n ≤ 262144
      · rw [(kind3 n).2 ⟨h4, h⟩]; exact rKind_0_p_in n w h4 hs h.1 h.2
      · have e : kindOf n = 0 := by unfold kindOf; (repeat' split) <;> omega
        rw [e]; exact rKind_0_p_out n w h4 hs (by omega)
    · by_cases h : n ≤ 2147483647
      · rw [(kind1 n).2 (by omega)]; exact rKind_1_p_in n w h4 hs (by omega) h
      · have e : kindOf n = 0 := by unfold kindOf; (repeat' split) <;> omega
        rw [e]; exact rKind_1_p_out n w h4 hs (by omega)
    · by_cases h : n ≤ 16382
      · rw [(kind2 n).2 (by omega)]; exact rKind_2_p_in n w h4 hs (by omega) h
      · have e : kindOf n = 0 := by unfold kindOf; (repeat' split) <;> omega
        rw [e]; exact rKind_2_p_out n w h4 hs (by omega)
    · by_cases h : n ≤ 2147483647
      · rw [(kind1 n).2 (by omega)]; exact rKind_3_p_in n w h4 hs (by omega) h
      · have e : kindOf n = 0 := by unfold kindOf; (repeat' split) <;> omega
        rw [e]; exact rKind_3_p_out n w h4 hs (by omega)
  · have hs' : n < 0 := by omega
    rcases h4 with h4 | h4 | h4 | h4
    · have e : kindOf n = 0 := by unfold kindOf; (repeat' split) <;> omega
      rw [e]; exact rKind_0_n_out n w h4 hs' (by omega)
    · by_cases h : -2147483647 ≤ n
      · rw [(kind1 n).2 (by omega)]; exact rKind_1_n_in n w h4 hs' h (by omega)
      · have e : kindOf n = 0 := by unfold kindOf; (repeat' split) <;> omega
        rw [e]; exact rKind_1_n_out n w h4 hs' (by omega)
    · have e : kindOf n = 0 := by unfold kindOf; (repeat' split) <;> omega
      rw [e]; exact rKind_2_n_out n w h4 hs' (by omega)
    · by_cases h : -2147483647 ≤ n
      · rw [(kind1 n).2 (by omega)]; exact rKind_3_n_in n w h4 hs' h (by omega)
      · have e : kindOf n = 0 := by unfold kindOf; (repeat' split) <;> omega
        rw [e]; exact rKind_3_n_out n w h4 hs' (by omega)
/-- may the slot have the word? -/
def mfits (n : Int) (f : Nat) : Bool := if f = 0 then isW n else (decide (f = 1) && decide (0 ≤ n ∧ n < 256))
set_option maxHeartbeats 1000000 in
theorem fits_any (n : Int) (f : Nat) (w : World) :
    Calls Tryd.prog 66 #[.int .i64 n, .int .i64 f] w fun e w' => e = .returned (.bool (mfits n f)) ∧ ∃ n, w' = w.drewN n := by
  have hK := rKind_any n w
  by_cases h0 : f = 0
  · subst h0
    have e : Hid (mfits n 0 = (kindOf n != 0)) := rfl
    rcases kind_cases n with h | h | h | h
    all_goals
      rw [h] at hK e
      clear h
      generalize mfits n 0 = q at *
      go_enter Tryd.func66, Tryd.ntmps66
      go_wp2_with (go_at_call 56; refine hK.mono ?_; rintro e w' ⟨rfl, rfl⟩)
      go_ret
      exact ⟨ret_bool (by rw [e.out]; rfl), 0, rfl⟩
  · have hb : ((f : Int) == 0) = false := by simpa using h0
    by_cases h1 : f = 1
    · subst h1
      have e : Hid (mfits n 1 = decide (0 ≤ n ∧ n < 256)) := by show mfits n 1 = _; unfold mfits; simp
      generalize mfits n 1 = q at *
      clear hK hb h0
      by_cases ha : 0 ≤ n
      · go_enter Tryd.func66, Tryd.ntmps66
        go_wp2
        go_ret
        exact ⟨ret_bool (by rw [e.out]; simp [ha]), 0, rfl⟩
      · have ha' : n < 0 := by omega
        go_enter Tryd.func66, Tryd.ntmps66
        go_wp2
        go_ret
        exact ⟨ret_bool (by rw [e.out]; simp; omega), 0, rfl⟩
    · have e : Hid (mfits n f = false) := by show mfits n f = _; unfold mfits; rw [if_neg h0]; simp [h1]
      have hb1 : ((f : Int) == 1) = false := by simpa using (by omega : ¬ (f : Int) = 1)
      generalize mfits n f = q at *
      clear hK h0 h1
      go_enter Tryd.func66, Tryd.ntmps66
      go_wp2
      go_ret
      exact ⟨ret_bool (by rw [e.out]), 0, rfl⟩
end Go.Proofs.YtklfnjlenbgmoaaDoor
namespace Go.Proofs.YtklfnjlenbgmoaaDoor
open Go.RowKit
set_option linter.unusedVariables false
attribute [local go_sem ↓] Go.wp_at_zero Go.wp_at_succ
/-- the heap has the thing under the oop -/
structure Is (H : HS) (oop : Nat) (t : Th) : Prop where
  has : has H oop = true
  room : (H.seats.getD oop (0, 0, 0)).1 + lenN t.slots.length t.fmt ≤ H.mem.length
  cls : H.mem.getD (H.seats.getD oop (0, 0, 0)).1 0 = t.cls
  shape : H.mem.getD ((H.seats.getD oop (0, 0, 0)).1 + 1) 0 = ((2 * t.slots.length + t.fmt : Nat) : Int)
  fmt : t.fmt ≤ 1
  len : t.slots.length ≤ 8192
  word : t.fmt = 0 → ∀ i, i < t.slots.length → H.mem.getD ((H.seats.getD oop (0, 0, 0)).1 + 2 + i) 0 = t.slots.getD i 0
  byte : t.fmt = 1 → ∀ i, i < t.slots.length → ∃ old : Nat, H.mem.getD ((H.seats.getD oop (0, 0, 0)).1 + 2 + i / 4) 0 = (old : Int) ∧ (old : Int) ≤ 4294967295 ∧ t.slots.getD i 0 = ((getB old (i % 4) : Nat) : Int)
theorem lenN_byte (n i : Nat) (h : i < n) : 2 + i / 4 < lenN n 1 := by unfold lenN; rw [if_pos rfl]; omega
theorem lenN_word (n i f : Nat) (hf : f = 0) (h : i < n) : 2 + i < lenN n f := by unfold lenN; rw [if_neg (by omega)]; omega
theorem lenN_two (n f : Nat) : 2 ≤ lenN n f := by unfold lenN; split <;> omega
theorem Is.at {H : HS} {oop : Nat} {t : Th} (hi : Is H oop t) (i : Nat) (hin : i < t.slots.length) (a : Nat) (l : Lay) (hb : (H.mem.length : Int) ≤ 1048576) (w : World) (h : Rep w a l H) :
    Calls Tryd.prog 47 #[.pointer (some ⟨a, 0, none⟩), .int .i64 oop, .int .i64 i] w fun e w' => e = .returned (.tuple #[.int .i64 (t.slots.getD i 0), .int .i64 0]) ∧ Fr [] w w' := by
  obtain ⟨h1, h2, h3⟩ := has_yes hi.has
  have hr := hi.room
  have hl := hi.len
  have h2' := lenN_two t.slots.length t.fmt
  refine At_ok oop i t.slots.length t.fmt (t.slots.getD i 0) a l H w h hb h1 h2 h3 (by omega) hi.shape (by have := hi.fmt; omega) (by omega) (by omega) ?_
  intro W hW
  rcases (show t.fmt = 0 ∨ t.fmt = 1 from by have := hi.fmt; omega) with hf | hf
  · have := lenN_word t.slots.length i t.fmt hf hin
    rw [hf, ← hi.word hf i hin]
    exact slot_w _ i a l H W hW (by omega) hb
  · obtain ⟨old, o1, o2, o3⟩ := hi.byte hf i hin
    have := lenN_byte t.slots.length i hin
    rw [← hf] at this
    rw [hf, o3]
    exact getB_any _ i old a l H W hW (by omega) hb o1 (by omega)
def thv (t : Th) : Value := .agg #[.bool t.there, .int .i64 t.cls, .int .i64 t.fmt, .int .i64 t.place, .slice t.p t.slots.length t.c]
set_option maxRecDepth 20000 in
set_option maxHeartbeats 4000000 in
theorem same_ok (oop : Nat) (t : Th) (a : Nat) (l : Lay) (H : HS) (w : World) (h : Rep w a l H) (hi : Is H oop t) (hb : (H.mem.length : Int) ≤ 1048576)
    (hs : w.ownsRow 0 33 1 (.slice t.p t.slots.length t.c) t.slots.length (t.slots.map (Value.int .i64))) :
    Calls Tryd.prog 69 #[thv t, .pointer (some ⟨a, 0, none⟩), .int .i64 oop] w fun e w' => e = .returned (.bool true) ∧ Fr [] w w' := by
  have hr := hi.room
  have hl := hi.len
  have h2' := lenN_two t.slots.length t.fmt
  have HC : Hid (∀ W, Rep W a l H → Calls Tryd.prog 68 #[.pointer (some ⟨a, 0, none⟩), .int .i64 oop] W fun e w' => e = .returned (.tuple #[.int .i64 t.cls, .int .i64 0]) ∧ Fr [] W w') := by
    intro W hW
    rw [← hi.cls]
    exact Class_ok oop a l H W hW hi.has (by omega) hb
  have HZ : Hid (∀ W, Rep W a l H → Calls Tryd.prog 81 #[.pointer (some ⟨a, 0, none⟩), .int .i64 oop] W fun e w' => e = .returned (.tuple #[.int .i64 t.slots.length, .int .i64 t.fmt, .int .i64 0]) ∧ Fr [] W w') := by
    intro W hW
    exact Size_ok oop t.slots.length t.fmt a l H W hW hi.has hb (by omega) hi.shape (by have := hi.fmt; omega)
  have HA : Hid (∀ W, Rep W a l H → ∀ i, i < t.slots.length → Calls Tryd.prog 47 #[.pointer (some ⟨a, 0, none⟩), .int .i64 oop, .int .i64 i] W fun e w' => e = .returned (.tuple #[.int .i64 (t.slots.getD i 0), .int .i64 0]) ∧ Fr [] W w') :=
    fun W hW i hin => hi.at i hin a l hb W hW
  have HO : Hid (∀ W, Rep W a l H → Calls Tryd.prog 47 #[.pointer (some ⟨a, 0, none⟩), .int .i64 oop, .int .i64 t.slots.length] W fun e w' => e = .returned (.tuple #[.int .i64 0, .int .i64 21]) ∧ Fr [] W w') :=
    fun W hW => At_slot oop t.slots.length t.fmt t.slots.length a l H W hW hi.has hb (by omega) hi.shape (by have := hi.fmt; omega) (.inr (by omega))
  have HCell : Hid (∀ i, i < t.slots.length → ∃ g, t.p = some ⟨g, 0, none⟩ ∧ g < w.heap.size ∧ w.cell? ⟨g, i, none⟩ = some (.int .i64 (t.slots.getD i 0))) := by
    intro i hin
    obtain ⟨g, c, hv, _, hgl⟩ := hs.form (by omega)
    injection hv with hv1 hv2 hv3
    refine ⟨g, hv1, hgl, ?_⟩
    have hs' := hs
    rw [hv1] at hs'
    rw [hs'.cellAt i (by omega), List.getElem?_map, List.getD_eq_getElem?_getD, List.getElem?_eq_getElem hin]
    rfl
  have HR := mkHid h
  clear h hi hs hr h2'
  obtain ⟨th, cl, fm, pl, sl, tp, tc⟩ := t
  dsimp only [thv] at *
  go_enter Tryd.func69, Tryd.ntmps69
  go_wp2_with fail
  refine Calls.mono (HC.out _ (HR.out.alloc _)) ?_
  rintro e w1 ⟨rfl, hf1⟩
  have F1 := mkHid ((Fr.alloc [] w (.cells #[.bool th, .int .i64 cl, .int .i64 fm, .int .i64 pl, .slice tp sl.length tc] 119)).trans hf1 (by simp))
  have b1 := (hf1.block w.heap.size (by simp) (by simp)).trans (heap_alloc_new w _)
  clear hf1
  go_wp2_with fail
  refine Calls.mono (HZ.out _ (HR.out.keep F1.out (by simp))) ?_
  rintro e w2 ⟨rfl, hf2⟩
  have s1 := F1.out.size
  have b2 := (hf2.block w.heap.size (lt_of_heap b1) (by simp)).trans b1
  have F2 := mkHid (F1.out.trans hf2 (by simp))
  have d1 := cell_in b2 1
  have d2 := cell_in b2 2
  have d4 := cell_in b2 4
  have B2 := mkHid b2
  simp at d1 d2 d4
  clear b1 b2 hf2 F1
  go_wp2_with (go_at_call 11; refine (num_any _ _ (by omega) (by omega)).mono ?_; rintro e w1 ⟨rfl, hw1⟩; rw [hw1]; clear hw1 w1)
  go_loopw [12] (fun q wr => ∃ k : Nat, k ≤ sl.length ∧ q = .int .i64 k ∧ Hid (Fr [] w wr ∧ wr.heap[w.heap.size]? = some (.cells #[.bool th, .int .i64 cl, .int .i64 fm, .int .i64 pl, .slice tp sl.length tc] 119 (0, 0)))) (fun q _ => sl.length - (intOf q).toNat)
  case atStart => exact ⟨0, Nat.zero_le _, rfl, F2.out, B2.out⟩
  case round =>
    clear d1 d2 d4
    obtain ⟨k, hkn, rfl, hq⟩ := hrel
    by_cases hlt : k < sl.length
    · have k1 : (0 : Int) ≤ (k : Int) := by omega
      have k2 : (k : Int) < (sl.length : Int) := by omega
      go_wp2_with fail
      refine Calls.mono (HA.out _ (HR.out.keep hq.out.1 (by simp)) k hlt) ?_
      rintro e w3 ⟨rfl, hf3⟩
      obtain ⟨g, hg, hgl, hcg⟩ := HCell.out k hlt
      have F3 := mkHid (hq.out.1.trans hf3 (by simp))
      have cg := (F3.out.cell (p := ⟨g, k, none⟩) hgl (by simp)).trans hcg
      have B3 := mkHid ((hf3.block w.heap.size (lt_of_heap hq.out.2) (by simp)).trans hq.out.2)
      have d4 := cell_in B3.out 4
      simp at d4
      rw [hg] at d4
      clear hf3 hq hcg hg
      generalize sl.getD k 0 = v at *
      go_wp2_with (go_at_call 11; refine (num_any _ _ (by omega) (by omega)).mono ?_; rintro e w1 ⟨rfl, hw1⟩; rw [hw1]; clear hw1 w1)
      go_roundw
      case rel => exact ⟨k + 1, by omega, by go_num, F3.out, B3.out⟩
      case measure => simp [intOf]; omega
    · have hke : k = sl.length := by omega
      subst hke
      go_wp2_with fail
      refine Calls.mono (HO.out _ (HR.out.keep hq.out.1 (by simp))) ?_
      rintro e w3 ⟨rfl, hf3⟩
      have F3 := mkHid (hq.out.1.trans hf3 (by simp))
      clear hf3 hq
      go_wp2_with (go_at_call 11; refine (num_any _ _ (by omega) (by omega)).mono ?_; rintro e w1 ⟨rfl, hw1⟩; rw [hw1]; clear hw1 w1)
      go_ret
      exact ⟨rfl, F3.out⟩
end Go.Proofs.YtklfnjlenbgmoaaDoor
namespace Go.Proofs.YtklfnjlenbgmoaaDoor
open Go.RowKit
set_option linter.unusedVariables false
attribute [local go_sem ↓] Go.wp_at_zero Go.wp_at_succ
/-- the heap says what the model says -/
structure Told (H : HS) (M : MS) : Prop where
  small : Small H
  words : H.words = M.words
  oops : H.oops = M.oops
  mark : H.mark = M.mark
  fin : H.mem.length = endTo M.things M.things.length
  cnt : H.count = thereTo M.things M.things.length
  is : ∀ k, k < M.things.length → (M.things.getD k noTh).there = true → Is H (k + 1) (M.things.getD k noTh)
  none : ∀ k, k < M.things.length → (M.things.getD k noTh).there = false → has H ((k : Int) + 1) = false
  all : ∀ k, k < M.things.length → (M.things.getD k noTh).there = true → (allTo H H.seats.length)[thereTo M.things k]? = some (k + 1)
  allLen : (allTo H H.seats.length).length = thereTo M.things M.things.length
  seats : (H.seats.length : Int) ≤ 65538
theorem hid_drew {S : List Nat} {w W : World} (h : Hid (Fr S w W)) : Hid (Fr S w W.drew) := h.out.trans (Fr.drew S W) (fun b hb => .inl hb)
theorem thereTo_lt (S : List Th) (k : Nat) (hk : k < S.length) (h : (S.getD k noTh).there = true) : thereTo S k < thereTo S S.length := by
  have h1 := thereTo_succ S k hk
  rw [if_pos h] at h1
  have : ∀ n, k + 1 ≤ n → n ≤ S.length → thereTo S (k + 1) ≤ thereTo S n := by
    intro n hn hl
    induction n with
    | zero => omega
    | succ n ih =>
      by_cases e : k + 1 = n + 1
      · rw [e]; exact Nat.le_refl _
      · have := ih (by omega) (by omega)
        have := thereTo_succ S n (by omega)
        omega
  have := this S.length (by omega) (Nat.le_refl _)
  omega
set_option maxRecDepth 20000 in
set_option maxHeartbeats 4000000 in
theorem told_ok (m : Nat) (M : MS) (a : Nat) (l : Lay) (H : HS) (w : World) (h : Rep w a l H) (hm : MRep w m M) (ho : MOk M) (ht : Told H M) :
    Calls Tryd.prog 26 #[.pointer (some ⟨m, 0, none⟩), .pointer (some ⟨a, 0, none⟩)] w fun e w' => e = .returned (.bool true) ∧ Fr [] w w' := by
  have hml := hm.lt m (by simp [mfoot])
  have hlen := ho.len
  have HAll := mkHid (All_ok a l H w h ht.seats)
  have s1 : ((endTo M.things M.things.length : Nat) : Int) ≤ (M.words : Int) := by have := ht.small.mem; have := ht.fin; have := ht.words; omega
  have s2 : (M.words : Int) ≤ 1048576 := by have := ht.small.words; have := ht.words; omega
  have s3 : ((thereTo M.things M.things.length : Nat) : Int) ≤ (M.oops : Int) := by have := ht.small.count; have := ht.cnt; have := ht.oops; omega
  have s4 : (M.oops : Int) ≤ 65536 := by have := ht.small.oops; have := ht.oops; omega
  have HAt : Hid (∀ k, k < M.things.length → (M.things.getD k noTh).there = true → (allTo H H.seats.length)[thereTo M.things k]? = some (k + 1)) := ht.all
  have hal := ht.allLen
  have HR := mkHid h
  have HM := mkHid hm
  have HO := mkHid ho
  have HTd := mkHid ht
  clear h hm ho ht
  generalize hL : allTo H H.seats.length = L at *
  clear hL
  go_enter Tryd.func26, Tryd.ntmps26
  go_wp2_with fail
  refine Calls.mono HAll.out ?_
  rintro e w1 ⟨v, rfl, hown, hf1⟩
  have F1 := mkHid hf1
  have OW := mkHid hown
  clear hown hf1
  have h := HR.out.keep F1.out (by simp)
  have hm := HM.out.keep F1.out (by simp)
  have ho := HO.out
  have ht := HTd.out
  have HRoom : Hid (Calls Tryd.prog 20 #[.pointer (some ⟨a, 0, none⟩)] w1 fun e w' => e = .returned (.tuple #[.int .i64 ((M.words : Int) - (endTo M.things M.things.length : Nat)), .int .i64 ((M.oops : Int) - (thereTo M.things M.things.length : Nat))]) ∧ ∃ n, w' = w1.drewN n) := by
    have := Room_any a l H w1 h ht.small
    rw [ht.words, ht.oops, ht.fin, ht.cnt] at this
    exact this
  have HEnd : Hid (∀ W, Hid (Fr [] w1 W) → Calls Tryd.prog 32 #[.pointer (some ⟨m, 0, none⟩)] W fun e w' => e = .returned (.int .i64 (endTo M.things M.things.length : Nat)) ∧ Hid (Fr [] w1 w')) := by
    intro W hW
    refine Calls.mono (end_ok m M W (hm.keep hW.out (by simp)) ho) ?_
    rintro e w' ⟨rfl, hf⟩
    exact ⟨rfl, hW.out.trans hf (by simp)⟩
  have HThere : Hid (∀ W, Hid (Fr [] w1 W) → Calls Tryd.prog 33 #[.pointer (some ⟨m, 0, none⟩)] W fun e w' => e = .returned (.int .i64 (thereTo M.things M.things.length : Nat)) ∧ w' = W) := by
    intro W hW
    exact there_ok m M W (hm.keep hW.out (by simp)) ho.len
  have HMk : Hid (∀ W, Hid (Fr [] w1 W) → Calls Tryd.prog 15 #[.pointer (some ⟨a, 0, none⟩)] W fun e w' => e = .returned (.int .i64 M.mark) ∧ w' = W) := by
    intro W hW
    rw [← ht.mark]
    exact Marked_any a l H W (h.keep hW.out (by simp))
  have KS : Hid (∀ W, Hid (Fr [] w1 W) → W.cell? ⟨m, 0, none⟩ = some (.int .i64 M.words) ∧ W.cell? ⟨m, 1, none⟩ = some (.int .i64 M.oops) ∧ W.cell? ⟨m, 2, none⟩ = some (.int .i64 M.mark) ∧ Hid (Fr [] w1 W)) := by
    intro W hW
    have h2 := hm.keep hW.out (by simp)
    exact ⟨h2.c0, h2.c1, h2.c2, hW⟩
  have HNo : Hid (∀ W, Hid (Fr [] w1 W) → ∀ k, k < M.things.length → (M.things.getD k noTh).there = false → Calls Tryd.prog 68 #[.pointer (some ⟨a, 0, none⟩), .int .i64 ((k : Int) + 1)] W fun e w' => e = .returned (.tuple #[.int .i64 0, .int .i64 20]) ∧ Hid (Fr [] w1 w')) := by
    intro W hW k hk hb
    refine Calls.mono (Class_no _ a l H W (h.keep hW.out (by simp)) (ht.none k hk hb)) ?_
    rintro e w' ⟨rfl, hf⟩
    exact ⟨rfl, hW.out.trans hf (by simp)⟩
  have HSm : Hid (∀ W, Hid (Fr [] w1 W) → ∀ k, k < M.things.length → (M.things.getD k noTh).there = true → Calls Tryd.prog 69 #[thv (M.things.getD k noTh), .pointer (some ⟨a, 0, none⟩), .int .i64 ((k : Int) + 1)] W fun e w' => e = .returned (.bool true) ∧ Hid (Fr [] w1 w')) := by
    intro W hW k hk hb
    have hms := ht.small.mem
    have hws := ht.small.words
    refine Calls.mono (same_ok (k + 1) (M.things.getD k noTh) a l H W (h.keep hW.out (by simp)) (ht.is k hk hb) (by omega) ((hm.keep hW.out (by simp)).slots _ ?_)) ?_
    · rw [List.getD_eq_getElem?_getD, List.getElem?_eq_getElem hk]; exact List.getElem_mem hk
    · rintro e w' ⟨rfl, hf⟩
      exact ⟨rfl, hW.out.trans hf (by simp)⟩
  have HM1 := mkHid hm
  clear h hm ho ht HR HM HTd HO
  go_wp2_with fail
  refine Calls.mono HRoom.out ?_
  rintro e w2 ⟨rfl, n2, rfl⟩
  have F2 : Hid (Fr [] w1 (w1.drewN n2)) := Fr.drewN [] _ _
  generalize hE : endTo M.things M.things.length = E at *
  clear hE
  have z1 : IntKind.i64.wrap ((M.words : Int) - (E : Int)) = (M.words : Int) - (E : Int) := by rw [iwrap]; unfold wrap64; omega
  have z2 : IntKind.i64.wrap ((M.oops : Int) - ((thereTo M.things M.things.length : Nat) : Int)) = (M.oops : Int) - ((thereTo M.things M.things.length : Nat) : Int) := by rw [iwrap]; unfold wrap64; omega
  go_wp2_with fail
  go_region_held3 (fun w' => w'.cell? ⟨m, 0, none⟩ = some (.int .i64 M.words) ∧ w'.cell? ⟨m, 1, none⟩ = some (.int .i64 M.oops) ∧ w'.cell? ⟨m, 2, none⟩ = some (.int .i64 M.mark) ∧ Hid (Fr [] w1 w')) (exact KS.out _ (by first | assumption | exact hid_drew (by assumption) | (go_split_ands; first | assumption | exact hid_drew (by assumption))))
    (first
      | (go_at_call 32; refine (HEnd.out _ (by first | assumption | (go_split_ands; first | assumption | exact hid_drew (by assumption)))).mono ?_; rintro e w' ⟨rfl, hf'⟩)
      | (go_at_call 33; refine (HThere.out _ (by first | assumption | (go_split_ands; first | assumption | exact hid_drew (by assumption)))).mono ?_; rintro e w' ⟨rfl, rfl⟩)
      | (go_at_call 15; refine (HMk.out _ (by first | assumption | (go_split_ands; first | assumption | exact hid_drew (by assumption)))).mono ?_; rintro e w' ⟨rfl, rfl⟩))
  have F3 : Hid (Fr [] w1 w') := by assumption
  clear z1 z2 s1 s2 HRoom HEnd HThere HMk KS HAll F2
  go_wp2_with fail
  generalize w' = W0 at *
  go_loopw [6, 9] (fun x q wr => ∃ k : Nat, k ≤ M.things.length ∧ q = .int .i64 k ∧ x = .int .i64 (thereTo M.things k : Nat) ∧ Hid (Fr [] w1 wr)) (fun _ q _ => M.things.length - (intOf q).toNat)
  case atStart => exact ⟨0, Nat.zero_le _, rfl, rfl, F3⟩
  case round =>
    obtain ⟨k, hkn, rfl, rfl, hfr⟩ := hrel
    have hmr := HM1.out.keep hfr.out (by simp)
    have c3 := hmr.c3
    by_cases hlt : k < M.things.length
    · obtain ⟨g, hg, hc, hf, hgl⟩ := hmr.thAt (by omega)
      obtain ⟨q0, q1, q2, q3, q4⟩ := hc k hlt
      rw [hg] at c3
      simp only [I] at q2 q3
      have k1 : (0 : Int) ≤ (k : Int) := by omega
      have k2 : (k : Int) < (M.things.length : Int) := by omega
      have hsu := thereTo_succ M.things k hlt
      have HSU := mkHid hsu
      clear hc hf hmr hsu hg
      cases hb : (M.things.getD k noTh).there with
      | false =>
        rw [hb] at q0 HSU
        have HS2 := HSU.out
        rw [if_neg (by simp)] at HS2
        have HS3 := mkHid HS2
        have HCl := mkHid (HNo.out wr hfr k hlt hb)
        clear HS2 HSU hb
        go_wp2_with fail
        refine Calls.mono HCl.out ?_
        rintro e w3 ⟨rfl, hf3⟩
        go_wp2_with (go_at_call 11; refine (num_any _ _ (by omega) (by omega)).mono ?_; rintro e w1 ⟨rfl, hw1⟩; rw [hw1]; clear hw1 w1)
        go_roundw
        case rel => exact ⟨k + 1, by omega, by go_num, by rw [HS3.out]; rfl, hf3⟩
        case measure => simp [intOf]; omega
      | true =>
        have hat := HAt.out k hlt hb
        have hxl := thereTo_lt M.things k hlt hb
        have HSame := mkHid (HSm.out wr hfr k hlt hb)
        obtain ⟨gl, cl, hv, hvl⟩ : ∃ gl cl, v = .slice (some ⟨gl, 0, none⟩) L.length cl ∧ wr.cell? ⟨gl, thereTo M.things k, none⟩ = some (.int .i64 ((k : Int) + 1)) := by
          have hp : 0 < L.length := by omega
          obtain ⟨g, c, hv, _, hgl⟩ := OW.out.form hp
          refine ⟨g, c, hv, ?_⟩
          have hs' := OW.out
          rw [hv] at hs'
          rw [hfr.out.cell (p := ⟨g, thereTo M.things k, none⟩) hgl (by simp), hs'.cellAt _ (by omega), List.getElem?_map, hat]
          rfl
        rw [hb] at q0 HSU
        have HS2 := HSU.out
        rw [if_pos rfl] at HS2
        have HS3 := mkHid HS2
        subst hv
        have x1 : (0 : Int) ≤ ((thereTo M.things k : Nat) : Int) := by omega
        have x2 : ((thereTo M.things k : Nat) : Int) < (L.length : Int) := by omega
        have x3 := thereTo_le M.things k
        dsimp only [thv] at HSame
        rw [hb] at HSame
        clear HS2 HSU hb hat hxl OW
        generalize thereTo M.things k = X at *
        clear HSm HNo HAt HM1 hal
        generalize M.things.getD k noTh = t at *
        obtain ⟨th, tcl, fm, pl, sl, tp, tc⟩ := t
        dsimp only at *
        generalize sl.length = sn at *
        generalize L.length = ln at *
        go_wp2_with fail
        refine Calls.mono HSame.out ?_
        rintro e w3 ⟨rfl, hf3⟩
        go_wp2_with fail
        go_roundw
        case rel => exact ⟨k + 1, by omega, by go_num, by rw [HS3.out]; go_num, hf3⟩
        case measure => simp [intOf]; omega
    · have hke : k = M.things.length := by omega
      subst hke
      obtain ⟨gl, cl, hv⟩ : ∃ p c, v = .slice p L.length c := by
        rcases OW.out.2 with ⟨h2, h3⟩ | ⟨g, cap, cur, h2, _⟩
        · exact ⟨none, 0, by rw [h2, h3]⟩
        · exact ⟨_, cap, h2⟩
      rw [hv]
      go_wp2
      go_ret
      exact ⟨ret_bool (by simp), F1.out.trans hfr.out (by simp)⟩
end Go.Proofs.YtklfnjlenbgmoaaDoor
