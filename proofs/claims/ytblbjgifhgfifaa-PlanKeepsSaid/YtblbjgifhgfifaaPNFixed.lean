import Derived.Test.YtblbjgifhgfifaaPG09NEqv
namespace Go.Proofs.Ytblbjgifhgfifaa
open Go.RowKit
set_option linter.unusedVariables false
set_option linter.unusedSimpArgs false
theorem rd_lit {w : World} {g : Nat} {ss : List ByteArray} (h : w.heap[g]? = some (.cells (ss.map Value.string).toArray 9 (0, 0))) (hs : ss.length ≤ 8796093022208) : RdS w (.slice (some ⟨g, 0, none⟩) ss.length ss.length) ss := by
  refine ⟨⟨_, _, rfl, fun hp => ⟨g, 0, rfl, lt_of_heap h, fun i hi => ?_⟩⟩, fun c hc => (by injection hc with e; cases e), hs, fun p n c hc => by injection hc with _ e2 e3; omega⟩
  rw [Nat.zero_add, cell_in h, List.getElem?_toArray, List.getElem?_map, List.getD_eq_getElem?_getD, List.getElem?_eq_getElem hi]
  rfl
theorem rdI_lit {w : World} {g : Nat} {zs : List Int} (h : w.heap[g]? = some (.cells (ints zs).toArray 3 (0, 0))) (hs : zs.length ≤ 8796093022208) : RdI w (.slice (some ⟨g, 0, none⟩) zs.length zs.length) zs := by
  refine ⟨⟨_, _, rfl, fun hp => ⟨g, 0, rfl, lt_of_heap h, fun i hi => ?_⟩⟩, hs⟩
  unfold ints at h
  rw [Nat.zero_add, cell_in h, List.getElem?_toArray, List.getElem?_map, List.getD_eq_getElem?_getD, List.getElem?_eq_getElem hi]
  rfl
theorem rdH_lit {w : World} {g : Nat} {xs : List Cg} (h : w.heap[g]? = some (.cells (cgs xs).toArray 36 (0, 0))) (ho : ∀ x ∈ xs, RdS w x.vo x.c.old) (hn : ∀ x ∈ xs, RdS w x.vn x.c.new) (hf : ∀ x ∈ xs, RdI w x.vf x.c.frm) (hs : xs.length ≤ 1099511627776) : RdH w (.slice (some ⟨g, 0, none⟩) xs.length xs.length) xs := by
  refine ⟨⟨_, _, rfl, fun hp => ⟨g, 0, rfl, lt_of_heap h, fun k x hx => ?_⟩⟩, ho, hn, hf, hs⟩
  obtain ⟨b0, b1, b2, b3⟩ := cgs_at xs k x hx
  rw [Nat.zero_add]
  simp only [cell_in h, List.getElem?_toArray]
  exact ⟨b0, b1, b2, b3⟩
def clCells (c : Cl) : List Value := [.string c.name, .string c.sup, c.v, .int .i64 c.lay]
def clss (l : List Cl) : List Value := l.flatMap clCells
theorem clss_at (l : List Cl) : ∀ k, k < l.length → (clss l)[k * 4]? = some (.string (clAt l k).name) ∧ (clss l)[k * 4 + 1]? = some (.string (clAt l k).sup) ∧ (clss l)[k * 4 + 2]? = some (clAt l k).v ∧ (clss l)[k * 4 + 3]? = some (.int .i64 (clAt l k).lay) := by
  induction l with
  | nil => intro k h; simp at h
  | cons y l ih =>
    intro k h
    have e : clss (y :: l) = .string y.name :: .string y.sup :: y.v :: .int .i64 y.lay :: clss l := rfl
    rw [e]
    cases k with
    | zero => exact ⟨rfl, rfl, rfl, rfl⟩
    | succ k =>
      have := ih k (by simpa using h)
      rw [show (k + 1) * 4 = k * 4 + 4 by omega]
      have e2 : clAt (y :: l) (k + 1) = clAt l k := rfl
      rw [e2]
      simpa using this
theorem rdC_lit {w : World} {g : Nat} {l : List Cl} (h : w.heap[g]? = some (.cells (clss l).toArray 47 (0, 0))) (ho : ∀ k, k < l.length → RdS w (clAt l k).v (clAt l k).own) (hs : l.length ≤ 8796093022208) : RdC w (.slice (some ⟨g, 0, none⟩) l.length l.length) l := by
  refine ⟨⟨_, _, rfl, fun hp => ⟨g, 0, rfl, lt_of_heap h, fun k hk => ?_⟩⟩, ho, hs⟩
  obtain ⟨b0, b1, b2, b3⟩ := clss_at l k hk
  rw [Nat.zero_add]
  simp only [cell_in h, List.getElem?_toArray]
  exact ⟨b0, b1, b2, b3⟩
theorem ask_fix (v0 v1 v2 : Value) : Ask (fixL v0 v1 v2) [by_, bx, bw] := ask_of (by show 3 + 3 + (0 + (2 + (1 + 0))) ≤ 1048576; decide)
theorem txs_fix (v0 v1 v2 : Value) : Txs (fixL v0 v1 v2) bA [by_, bx, bw] := by
  have m1 : 1 ≤ maxLen := by unfold maxLen; omega
  have m6 : 6 ≤ maxLen := by unfold maxLen; omega
  have m0 : 0 ≤ maxLen := Nat.zero_le _
  refine ⟨fun k => ?_, fun s hs => ?_, m1⟩
  · match k with
    | 0 => exact ⟨m6, m0, fun s hs => by cases hs⟩
    | 1 => exact ⟨m1, m6, fun s hs => by
        rcases List.mem_cons.1 hs with rfl | hs
        · exact m1
        · rcases List.mem_cons.1 hs with rfl | hs
          · exact m1
          · cases hs⟩
    | 2 => exact ⟨m1, m1, fun s hs => by
        rcases List.mem_cons.1 hs with rfl | hs
        · exact m1
        · cases hs⟩
    | n + 3 => exact ⟨m0, m0, fun s hs => by cases hs⟩
  · rcases List.mem_cons.1 hs with rfl | hs
    · exact m1
    · rcases List.mem_cons.1 hs with rfl | hs
      · exact m1
      · rcases List.mem_cons.1 hs with rfl | hs
        · exact m1
        · cases hs
def fixX (v1 v2 v3 v4 v5 v6 : Value) : List Cg := [⟨⟨2, [bx, by_], [by_, bx, bw], [1, 0, -1]⟩, v1, v2, v3⟩, ⟨⟨3, [bx, by_, bz], [by_, bx, bw, bz], [1, 0, -1, 2]⟩, v4, v5, v6⟩]
theorem heap_old {w : World} {o : Obj} {g : Nat} {x : Obj} (h : w.heap[g]? = some x) : (w.alloc o).heap[g]? = some x := (Below.heap_alloc _ _ _ (lt_of_heap h)).trans h
theorem size_alloc (w : World) (o : Obj) : (w.alloc o).heap.size = w.heap.size + 1 := by simp
theorem heap_new {w : World} {o : Obj} {n : Nat} (h : w.heap.size = n) : (w.alloc o).heap[n]? = some o := by rw [← h]; exact heap_alloc_new w o
set_option maxRecDepth 20000 in
set_option maxHeartbeats 1000000 in
theorem lFixed_ok (hP : ProgMake) (w : World) : Calls Try.prog 18 #[] w fun e w' => e = .returned (.bool true) ∧ Fr [] w w' := by
  have HM : Hid (Calls Try.prog 13 #[.slice (some ⟨w.heap.size + 1 + 1, 0, none⟩) 3 3, .int .i64 1, .string ⟨#[65]⟩, .slice (some ⟨w.heap.size + 1 + 1 + 1, 0, none⟩) 3 3]
      ((((w.alloc (.cells #[.string ⟨#[120]⟩, .string ⟨#[121]⟩] 9)).alloc (.cells #[.string ⟨#[122]⟩] 9)).alloc (.cells #[.string ⟨#[79, 98, 106, 101, 99, 116]⟩, .string ⟨#[]⟩, .slice none 0 0, .int .i64 0, .string ⟨#[65]⟩, .string ⟨#[79, 98, 106, 101, 99, 116]⟩, .slice (some ⟨w.heap.size, 0, none⟩) 2 2, .int .i64 0, .string ⟨#[66]⟩, .string ⟨#[65]⟩, .slice (some ⟨w.heap.size + 1, 0, none⟩) 1 1, .int .i64 0] 47)).alloc (.cells #[.string ⟨#[121]⟩, .string ⟨#[120]⟩, .string ⟨#[119]⟩] 9))
      fun e w' => ∃ vr xs, e = .returned (.tuple #[vr, .int .i64 0]) ∧ Hid (RdH w' vr xs) ∧ Hid (xs.map Cg.c = fixC) ∧ Hid (Fr [] w w')) := mkHid (by
    obtain ⟨W, hW⟩ : ∃ W, W = (((w.alloc (.cells #[.string ⟨#[120]⟩, .string ⟨#[121]⟩] 9)).alloc (.cells #[.string ⟨#[122]⟩] 9)).alloc (.cells #[.string ⟨#[79, 98, 106, 101, 99, 116]⟩, .string ⟨#[]⟩, .slice none 0 0, .int .i64 0, .string ⟨#[65]⟩, .string ⟨#[79, 98, 106, 101, 99, 116]⟩, .slice (some ⟨w.heap.size, 0, none⟩) 2 2, .int .i64 0, .string ⟨#[66]⟩, .string ⟨#[65]⟩, .slice (some ⟨w.heap.size + 1, 0, none⟩) 1 1, .int .i64 0] 47)).alloc (.cells #[.string ⟨#[121]⟩, .string ⟨#[120]⟩, .string ⟨#[119]⟩] 9) := ⟨_, rfl⟩
    have b0 : W.heap[w.heap.size]? = some (.cells (([bx, by_] : List ByteArray).map Value.string).toArray 9 (0, 0)) := by
      rw [hW]; exact heap_old (heap_old (heap_old (heap_alloc_new w _)))
    have b1 : W.heap[w.heap.size + 1]? = some (.cells (([bz] : List ByteArray).map Value.string).toArray 9 (0, 0)) := by
      rw [hW]; exact heap_old (heap_old (heap_new (size_alloc _ _)))
    have b2 : W.heap[w.heap.size + 1 + 1]? = some (.cells (clss (fixL (.slice none 0 0) (.slice (some ⟨w.heap.size, 0, none⟩) 2 2) (.slice (some ⟨w.heap.size + 1, 0, none⟩) 1 1))).toArray 47 (0, 0)) := by
      rw [hW]; exact heap_old (heap_new (by rw [size_alloc, size_alloc]))
    have b3 : W.heap[w.heap.size + 1 + 1 + 1]? = some (.cells (([by_, bx, bw] : List ByteArray).map Value.string).toArray 9 (0, 0)) := by
      rw [hW]; exact heap_new (by rw [size_alloc, size_alloc, size_alloc])
    have F : Fr [] w W := by
      rw [hW]
      exact (((Fr.alloc [] w _).trans (Fr.alloc [] _ _) (by simp)).trans (Fr.alloc [] _ _) (by simp)).trans (Fr.alloc [] _ _) (by simp)
    rw [← hW]
    clear hW
    have h1 : RdC W (.slice (some ⟨w.heap.size + 1 + 1, 0, none⟩) 3 3) (fixL (.slice none 0 0) (.slice (some ⟨w.heap.size, 0, none⟩) 2 2) (.slice (some ⟨w.heap.size + 1, 0, none⟩) 1 1)) := rdC_lit b2 (fun k hk => by
      match k, hk with
      | 0, _ => exact rd_nil W
      | 1, _ => exact rd_lit (ss := [bx, by_]) b0 (by decide)
      | 2, _ => exact rd_lit (ss := [bz]) b1 (by decide)) (by show 3 ≤ 8796093022208; decide)
    have h2 : RdS W (.slice (some ⟨w.heap.size + 1 + 1 + 1, 0, none⟩) 3 3) [by_, bx, bw] := rd_lit (ss := [by_, bx, bw]) b3 (by decide)
    have hc := hP _ 1 bA _ _ _ W h1 h2 (ask_fix _ _ _) (txs_fix _ _ _)
    rw [(fix_eqv _ _ _).make, fix_make] at hc
    refine Calls.mono hc ?_
    rintro e w' ⟨vr, rfl, xs, q1, q2, q3, _⟩
    exact ⟨vr, xs, rfl, mkHid q1, mkHid q2, mkHid (F.trans q3 (by simp))⟩)
  have HS : Hid (∀ (W : World) (vr : Value) (xs : List Cg), Hid (RdH W vr xs) → Hid (xs.map Cg.c = fixC) → Calls Try.prog 14 #[vr, .slice (some ⟨W.heap.size + 1 + 1 + 1 + 1 + 1 + 1, 0, none⟩) 2 2] (((((((W.alloc (.cells #[.string ⟨#[120]⟩, .string ⟨#[121]⟩] 9)).alloc (.cells #[.string ⟨#[121]⟩, .string ⟨#[120]⟩, .string ⟨#[119]⟩] 9)).alloc (.cells #[.int .i64 1, .int .i64 0, .int .i64 (-1)] 3)).alloc (.cells #[.string ⟨#[120]⟩, .string ⟨#[121]⟩, .string ⟨#[122]⟩] 9)).alloc (.cells #[.string ⟨#[121]⟩, .string ⟨#[120]⟩, .string ⟨#[119]⟩, .string ⟨#[122]⟩] 9)).alloc (.cells #[.int .i64 1, .int .i64 0, .int .i64 (-1), .int .i64 2] 3)).alloc (.cells #[.int .i64 2, .slice (some ⟨W.heap.size, 0, none⟩) 2 2, .slice (some ⟨W.heap.size + 1, 0, none⟩) 3 3, .slice (some ⟨W.heap.size + 1 + 1, 0, none⟩) 3 3, .int .i64 3, .slice (some ⟨W.heap.size + 1 + 1 + 1, 0, none⟩) 3 3, .slice (some ⟨W.heap.size + 1 + 1 + 1 + 1, 0, none⟩) 4 4, .slice (some ⟨W.heap.size + 1 + 1 + 1 + 1 + 1, 0, none⟩) 4 4] 36)) fun e w' => e = .returned (.bool true) ∧ Hid (Fr [] W w')) := mkHid (fun W vr xs hx hc => by
    obtain ⟨V, hV⟩ : ∃ V, V = (((((((W.alloc (.cells #[.string ⟨#[120]⟩, .string ⟨#[121]⟩] 9)).alloc (.cells #[.string ⟨#[121]⟩, .string ⟨#[120]⟩, .string ⟨#[119]⟩] 9)).alloc (.cells #[.int .i64 1, .int .i64 0, .int .i64 (-1)] 3)).alloc (.cells #[.string ⟨#[120]⟩, .string ⟨#[121]⟩, .string ⟨#[122]⟩] 9)).alloc (.cells #[.string ⟨#[121]⟩, .string ⟨#[120]⟩, .string ⟨#[119]⟩, .string ⟨#[122]⟩] 9)).alloc (.cells #[.int .i64 1, .int .i64 0, .int .i64 (-1), .int .i64 2] 3)).alloc (.cells #[.int .i64 2, .slice (some ⟨W.heap.size, 0, none⟩) 2 2, .slice (some ⟨W.heap.size + 1, 0, none⟩) 3 3, .slice (some ⟨W.heap.size + 1 + 1, 0, none⟩) 3 3, .int .i64 3, .slice (some ⟨W.heap.size + 1 + 1 + 1, 0, none⟩) 3 3, .slice (some ⟨W.heap.size + 1 + 1 + 1 + 1, 0, none⟩) 4 4, .slice (some ⟨W.heap.size + 1 + 1 + 1 + 1 + 1, 0, none⟩) 4 4] 36)) := ⟨_, rfl⟩
    have z : ∀ (o : Obj) (U : World), (U.alloc o).heap.size = U.heap.size + 1 := fun o U => size_alloc U o
    have b0 : V.heap[W.heap.size]? = some (.cells (([bx, by_] : List ByteArray).map Value.string).toArray 9 (0, 0)) := by
      rw [hV]; exact heap_old (heap_old (heap_old (heap_old (heap_old (heap_old (heap_alloc_new W _))))))
    have b1 : V.heap[W.heap.size + 1]? = some (.cells (([by_, bx, bw] : List ByteArray).map Value.string).toArray 9 (0, 0)) := by
      rw [hV]; exact heap_old (heap_old (heap_old (heap_old (heap_old (heap_new (by simp only [z]))))))
    have b2 : V.heap[W.heap.size + 1 + 1]? = some (.cells (ints [1, 0, -1]).toArray 3 (0, 0)) := by
      rw [hV]; exact heap_old (heap_old (heap_old (heap_old (heap_new (by simp only [z])))))
    have b3 : V.heap[W.heap.size + 1 + 1 + 1]? = some (.cells (([bx, by_, bz] : List ByteArray).map Value.string).toArray 9 (0, 0)) := by
      rw [hV]; exact heap_old (heap_old (heap_old (heap_new (by simp only [z]))))
    have b4 : V.heap[W.heap.size + 1 + 1 + 1 + 1]? = some (.cells (([by_, bx, bw, bz] : List ByteArray).map Value.string).toArray 9 (0, 0)) := by
      rw [hV]; exact heap_old (heap_old (heap_new (by simp only [z])))
    have b5 : V.heap[W.heap.size + 1 + 1 + 1 + 1 + 1]? = some (.cells (ints [1, 0, -1, 2]).toArray 3 (0, 0)) := by
      rw [hV]; exact heap_old (heap_new (by simp only [z]))
    have b6 : V.heap[W.heap.size + 1 + 1 + 1 + 1 + 1 + 1]? = some (.cells (cgs (fixX (.slice (some ⟨W.heap.size, 0, none⟩) 2 2) (.slice (some ⟨W.heap.size + 1, 0, none⟩) 3 3) (.slice (some ⟨W.heap.size + 1 + 1, 0, none⟩) 3 3) (.slice (some ⟨W.heap.size + 1 + 1 + 1, 0, none⟩) 3 3) (.slice (some ⟨W.heap.size + 1 + 1 + 1 + 1, 0, none⟩) 4 4) (.slice (some ⟨W.heap.size + 1 + 1 + 1 + 1 + 1, 0, none⟩) 4 4))).toArray 36 (0, 0)) := by
      rw [hV]; exact heap_new (by simp only [z])
    have F : Fr [] W V := by
      rw [hV]
      exact ((((((Fr.alloc [] W _).trans (Fr.alloc [] _ _) (by simp)).trans (Fr.alloc [] _ _) (by simp)).trans (Fr.alloc [] _ _) (by simp)).trans (Fr.alloc [] _ _) (by simp)).trans (Fr.alloc [] _ _) (by simp)).trans (Fr.alloc [] _ _) (by simp)
    rw [← hV]
    clear hV
    have h2 := rdH_lit b6 (fun x hx => by
      simp only [fixX, List.mem_cons, List.not_mem_nil, or_false] at hx
      rcases hx with rfl | rfl
      · exact rd_lit (ss := [bx, by_]) b0 (by decide)
      · exact rd_lit (ss := [bx, by_, bz]) b3 (by decide)) (fun x hx => by
      simp only [fixX, List.mem_cons, List.not_mem_nil, or_false] at hx
      rcases hx with rfl | rfl
      · exact rd_lit (ss := [by_, bx, bw]) b1 (by decide)
      · exact rd_lit (ss := [by_, bx, bw, bz]) b4 (by decide)) (fun x hx => by
      simp only [fixX, List.mem_cons, List.not_mem_nil, or_false] at hx
      rcases hx with rfl | rfl
      · exact rdI_lit (zs := [1, 0, -1]) b2 (by decide)
      · exact rdI_lit (zs := [1, 0, -1, 2]) b5 (by decide)) (by show 2 ≤ 1099511627776; decide)
    refine Calls.mono (lSameC_ok xs _ vr _ V (hx.out.idle F) h2) ?_
    rintro e w' ⟨rfl, f⟩
    refine ⟨?_, mkHid (F.trans f (by simp))⟩
    rw [decide_eq_true (show xs.map Cg.c = (fixX _ _ _ _ _ _).map Cg.c from hc.out.trans rfl)])
  clear hP
  go_enter Try.func18, Try.ntmps18
  go_wp2_with (first
    | (go_at_call 13; refine HM.out.mono ?_; rintro e w5 ⟨vr, xs, rfl, hx, hc, hf⟩)
    | (go_at_call 17; refine (lNum_ok _ _).mono ?_; rintro e wx ⟨rfl, rfl⟩)
    | (go_at_call 14; refine (HS.out _ _ _ hx hc).mono ?_; rintro e w8 ⟨rfl, h8⟩))
  go_ret
  exact ⟨rfl, hf.out.trans h8.out (by simp)⟩
end Go.Proofs.Ytblbjgifhgfifaa
