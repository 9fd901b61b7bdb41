import Derived.Test.YtcoddjdicodmhaaDoorKHRep
import Derived.Test.YtcoddjdicodmhaaDoorKHLeafM
import Derived.LaidEqlPtr
namespace Go.Proofs.YtcoddjdicodmhaaDoor
open Go.RowKit
set_option linter.unusedVariables false
theorem info95 : (Tryd.prog.info? 95).isSome = true := by kernel_rfl
set_option maxHeartbeats 400000 in
theorem made_any (a : Nat) (w : World) (h : w.cell? ⟨a, 0, none⟩ = some (.pointer (some ⟨a, 0, none⟩))) :
    Calls Tryd.prog 44 #[.pointer (some ⟨a, 0, none⟩)] w fun e w' => e = .returned (.bool true) ∧ w' = w := by
  obtain ⟨j, hj⟩ := Option.isSome_iff_exists.1 info95
  have hq := run_eql_ptr_same (P := Tryd.prog) w ⟨a, 0, none⟩ Tryd.underlying24 hj
  clear hj
  go_enter Tryd.func44, Tryd.ntmps44
  go_wp2
  go_ret
  exact ⟨rfl, rfl⟩
def nilLay : Lay := ⟨none, 0, none, 0, none, 0, none, 0⟩
def emptyH (words oops : Nat) : HS := ⟨words, oops, 0, [], [], [], [], 0, 0, 0⟩
theorem rep_new (w : World) (words oops : Nat) : Rep (w.alloc (.cells (hcells w.heap.size nilLay (emptyH words oops)) 95)) w.heap.size nilLay (emptyH words oops) :=
  ⟨heap_alloc_new w _, Nat.le_refl _, World.ownsRow_nil _ _ _ _, World.ownsRow_nil _ _ _ _, World.ownsRow_nil _ _ _ _, World.ownsRow_nil _ _ _ _⟩
set_option maxHeartbeats 400000 in
theorem New_in (words oops : Nat) (w : World) (h1 : (words : Int) ≤ 1048576) (h2 : (oops : Int) ≤ 65536) :
    Calls Tryd.prog 10 #[.int .i64 words, .int .i64 oops] w fun e w' => e = .returned (.tuple #[.pointer (some ⟨w.heap.size, 0, none⟩), .int .i64 0]) ∧ Rep w' w.heap.size nilLay (emptyH words oops) ∧ Fr [] w w' ∧ w'.heap.size = w.heap.size + 1 := by
  have g1 : (0 : Int) ≤ words := by omega
  have g2 : (0 : Int) ≤ oops := by omega
  go_enter Tryd.func10, Tryd.ntmps10
  go_wp2
  go_ret2
  exact ⟨rfl, rep_new w words oops, Fr.alloc [] w _, by simp⟩
set_option maxHeartbeats 400000 in
theorem Mark_in (k : Nat) (a : Nat) (l : Lay) (H : HS) (w : World) (h : Rep w a l H) (hk : (k : Int) ≤ 1073741824) :
    Calls Tryd.prog 12 #[.pointer (some ⟨a, 0, none⟩), .int .i64 k] w fun e w' => e = .returned (.int .i64 0) ∧ Rep w' a l { H with mark := k } ∧ Fr [a] w w' ∧ w'.heap.size = w.heap.size := by
  have hm := isMark_any k w
  rw [show isM k = true from by simp [isM]; omega] at hm
  have c0 := h.c0
  have c3 := h.c3
  have f3 := h.frozen 3
  have R : Hid (Rep (w.setCell ⟨a, 3, none⟩ (.int .i64 k)) a l { H with mark := k }) := h.set 3 _ rfl rfl rfl rfl rfl
  have F : Hid (Fr [a] w (w.setCell ⟨a, 3, none⟩ (.int .i64 k))) := Fr.setCell w _ _ (by simp)
  clear h
  go_enter Tryd.func12, Tryd.ntmps12
  go_wp2_with (first | (go_at_call 44; refine (made_any _ _ c0).mono ?_; rintro e w' ⟨rfl, rfl⟩) | (go_at_call 45; refine hm.mono ?_; rintro e w' ⟨rfl, rfl⟩))
  go_ret
  exact ⟨rfl, R.out, F.out, by simp⟩
set_option maxHeartbeats 400000 in
theorem Marked_any (a : Nat) (l : Lay) (H : HS) (w : World) (h : Rep w a l H) :
    Calls Tryd.prog 15 #[.pointer (some ⟨a, 0, none⟩)] w fun e w' => e = .returned (.int .i64 H.mark) ∧ w' = w := by
  have c0 := h.c0
  have c3 := h.c3
  clear h
  go_enter Tryd.func15, Tryd.ntmps15
  go_wp2_with (go_at_call 44; refine (made_any _ _ c0).mono ?_; rintro e w' ⟨rfl, rfl⟩)
  go_ret
  exact ⟨rfl, rfl⟩
/-- what is known of its sizes -/
structure Small (H : HS) : Prop where
  words : (H.words : Int) ≤ 1048576
  oops : (H.oops : Int) ≤ 65536
  mem : (H.mem.length : Int) ≤ H.words
  count : (H.count : Int) ≤ H.oops
  mark : (H.mark : Int) ≤ 1073741824
set_option maxHeartbeats 400000 in
theorem Room_any (a : Nat) (l : Lay) (H : HS) (w : World) (h : Rep w a l H) (hs : Small H) :
    Calls Tryd.prog 20 #[.pointer (some ⟨a, 0, none⟩)] w fun e w' => e = .returned (.tuple #[.int .i64 (H.words - H.mem.length), .int .i64 (H.oops - H.count)]) ∧ ∃ n, w' = w.drewN n := by
  have c0 := h.c0
  have c1 := h.c1
  have c2 := h.c2
  have c4 := h.c4
  have c9 := h.c9
  obtain ⟨s1, s2, s3, s4, s5⟩ := hs
  clear h
  generalize H.mem.length = m at *
  generalize H.words = x at *
  generalize H.oops = y at *
  generalize H.count = z at *
  go_enter Tryd.func20, Tryd.ntmps20
  go_wp2_with (go_at_call 44; refine (made_any _ _ c0).mono ?_; rintro e w' ⟨rfl, rfl⟩)
  go_quiet (fail)
  go_wp2
  go_ret2
  exact ⟨rfl, _, rfl⟩
end Go.Proofs.YtcoddjdicodmhaaDoor
