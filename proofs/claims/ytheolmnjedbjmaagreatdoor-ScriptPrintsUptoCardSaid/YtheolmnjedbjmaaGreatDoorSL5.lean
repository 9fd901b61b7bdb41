import Derived.Test.YtheolmnjedbjmaaGreatDoorSEnv
import Derived.Laws.Runes
namespace Go.Proofs.YtheolmnjedbjmaaGreatDoor
open Go.RowKit
set_option linter.unusedVariables false
set_option linter.unusedSimpArgs false
attribute [local go_sem ↓] Go.wp_at_zero Go.wp_at_succ

/-- the next of a range over a text, by its byte -/
theorem rune_at (s : ByteArray) (pos : Nat) (h : pos < s.size) : ∃ r : Nat, Utf8.decode s pos = (r, (Utf8.decode s pos).2) ∧ 1 ≤ (Utf8.decode s pos).2 ∧ r ≤ 2147483647 ∧
    (((s[pos]'h).toNat < 128 ∧ r = (s[pos]'h).toNat ∧ (Utf8.decode s pos).2 = 1) ∨ (128 ≤ (s[pos]'h).toNat ∧ 128 ≤ r)) := by
  have h3 := decode_le s pos
  refine ⟨(Utf8.decode s pos).1, rfl, ?_, h3, ?_⟩
  · by_cases ha : (s[pos]'h).toNat < 128
    · rw [decode_ascii s pos h ha]; exact Nat.le_refl _
    · exact (decode_high s pos h (by omega)).2
  · by_cases ha : (s[pos]'h).toNat < 128
    · left; rw [decode_ascii s pos h ha]; exact ⟨ha, rfl, rfl⟩
    · right; exact ⟨by omega, (decode_high s pos h (by omega)).1⟩
/-- a text of bytes below 128 -/
def Asc (s : ByteArray) : Prop := ∀ (i : Nat) (h : i < s.size), (s[i]'h).toNat < 128
theorem ix_none : ∀ (l : Bs) (c : UInt8), (∀ x ∈ l, x ≠ c) → Lib.indexByte l c = -1
  | [], _, _ => rfl
  | x :: l, c, h => by
    unfold Lib.indexByte
    have hb : (x == c) = false := by simpa using h x (by simp)
    rw [hb, ix_none l c (fun y hy => h y (by simp [hy]))]
    rfl
theorem asc_extract {s : ByteArray} (h : Asc s) (a b : Nat) (c : UInt8) (hc : 128 ≤ c.toNat) : Lib.indexByte (s.extract a b).data.toList c = -1 := by
  refine ix_none _ _ (fun x hx e => ?_)
  subst e
  have h1 : x ∈ s.data.toList := by
    rw [ByteArray.data_extract] at hx
    rw [Array.toList_extract] at hx
    unfold List.extract at hx
    exact List.mem_of_mem_drop (List.mem_of_mem_take hx)
  obtain ⟨i, hi, e⟩ := List.getElem_of_mem h1
  have hi2 : i < s.size := by rw [Array.length_toList] at hi; exact hi
  have := h i hi2
  have e2 : s[i]'hi2 = x := e
  rw [e2] at this
  omega
set_option maxRecDepth 100000 in
set_option maxHeartbeats 8000000 in
theorem indexRune_err (s : ByteArray) (hs : Asc s) (w : World) : Calls Tryz.prog 166 #[.string s, .int .i32 65533] w fun e w' => e = .returned (.int .i64 (-1)) ∧ Bl w w' := by
  have HS := mkHid hs
  clear hs
  go_enter Tryz.func166, Tryz.ntmps166
  go_wp2
  go_loopw [] (fun wr => ∃ pos : Nat, wr.heap[w.heap.size]? = some (.stringIter s pos) ∧ Below w.heap.size w wr ∧ pos ≤ s.size) (fun wr => s.size - wr.iterPos w.heap.size)
  case atStart =>
    refine ⟨0, ?_, (Below.refl _ w).alloc (Nat.le_refl _) _, Nat.zero_le _⟩
    have := World.iter_heap w s 0
    simpa using this
  case round =>
    obtain ⟨pos, hit, hb, hps⟩ := hrel
    by_cases hp : pos < s.size
    · have hnx : ∀ ty, (Instr.next (.pointer (some ⟨w.heap.size, 0, none⟩)) true ty).run Tryz.prog wr = _ := fun ty => Lib.run_next_any_at wr w.heap.size s pos ty hit hp
      have hit2 := Lib.iterAt_heap wr w.heap.size s pos (pos + (Utf8.decode s pos).2) hit
      have hbw2 := Lib.below_iterAt hb (k := w.heap.size) (Nat.le_refl _) s (pos + (Utf8.decode s pos).2)
      obtain ⟨r, hr, hw1, hr2, hcase⟩ := rune_at s pos hp
      generalize hW : wr.iterAt w.heap.size s (pos + (Utf8.decode s pos).2) = W at *
      rw [hr] at hnx
      simp only at hnx
      have ha := HS.out pos hp
      have hw : (Utf8.decode s pos).2 = 1 := by rcases hcase with h | h; exact h.2.2; omega
      have hrl : r < 128 := by rcases hcase with h | h; omega; omega
      rw [hw] at hit2
      clear hr hW hcase ha hw1 hr2
      have hne : ((r : Int) == 65533) = false := by rw [beq_eq_false_iff_ne]; omega
      clear hrl
      go_wp2
      go_roundw
      case rel => exact ⟨pos + 1, hit2, hbw2, by omega⟩
      case measure =>
        simp only [World.iterPos, hit2, hit]
        omega
    · have hnx : ∀ ty, (Instr.next (.pointer (some ⟨w.heap.size, 0, none⟩)) true ty).run Tryz.prog wr = _ := fun ty => Lib.run_next_end_at wr w.heap.size s pos ty hit hp
      go_wp2
      go_wp2
      go_ret
      exact ⟨rfl, hb⟩
set_option maxRecDepth 100000 in
set_option maxHeartbeats 8000000 in
theorem indexRune_bad (s : ByteArray) (r : Int) (h0 : 128 ≤ r) (h1 : r ≤ 2147483647) (h2 : r ≠ 65533) (h3 : Lib.validRune r = false) (w : World) : Calls Tryz.prog 166 #[.string s, .int .i32 r] w fun e w' => e = .returned (.int .i64 (-1)) ∧ Bl w w' := by
  have HV := mkHid (Tryz.utf8_ValidRune r w)
  rw [h3] at HV
  have q0 : decide (0 ≤ r) = true := decide_eq_true (by omega)
  have q1 : decide (r < 128) = false := decide_eq_false (by omega)
  have q2 : (r == 65533) = false := by rw [beq_eq_false_iff_ne]; exact h2
  have q3 : ¬ r < 128 := by omega
  clear h3 h2
  go_enter Tryz.func166, Tryz.ntmps166
  go_wp2_with (go_at_call 167; refine HV.out.mono ?_; rintro e w1 ⟨rfl, hw1⟩; rw [hw1]; clear hw1)
  go_ret
  exact ⟨rfl, Bl.refl _⟩
set_option maxRecDepth 100000 in
set_option maxHeartbeats 8000000 in
theorem indexRune_far (s : ByteArray) (hs : Asc s) (h4 : 4 ≤ s.size) (hmax : s.size ≤ 1000) (r : Int) (h0 : 128 ≤ r) (h1 : r ≤ 2147483647) (h2 : r ≠ 65533) (h3 : Lib.validRune r = true) (w : World) : Calls Tryz.prog 166 #[.string s, .int .i32 r] w fun e w' => e = .returned (.int .i64 (-1)) ∧ Bl w w' := by
  have HV := mkHid (Tryz.utf8_ValidRune r w)
  rw [h3] at HV
  have hv : Utf8.valid r = true := by
    unfold Lib.validRune at h3
    unfold Utf8.valid
    simp only [decide_eq_true_eq] at h3
    simp only [Bool.or_eq_true, Bool.and_eq_true, decide_eq_true_eq]
    omega
  obtain ⟨e1, e2, e3⟩ := encode_facts r hv h0
  obtain ⟨E, hE⟩ : ∃ E, Utf8.encode r = E := ⟨_, rfl⟩
  rw [hE] at e1 e2 e3
  obtain ⟨k, hk⟩ : ∃ k : Nat, E.size = k + 1 := ⟨E.size - 1, by omega⟩
  have hkl : k < E.size := by omega
  have hlast := e3 (by omega)
  have hlast2 : 128 ≤ (E[k]'hkl).toNat := by
    have : E.size - 1 = k := by omega
    simp only [this] at hlast
    exact hlast
  obtain ⟨c, hc⟩ : ∃ c, E[k]'hkl = c := ⟨_, rfl⟩
  have hks : k < s.size := by omega
  obtain ⟨b, hb⟩ : ∃ b, s[k]'hks = b := ⟨_, rfl⟩
  have hbl := hs k hks
  rw [hb] at hbl
  rw [hc] at hlast2
  have hne : ((b.toNat : Int) == (c.toNat : Int)) = false := by rw [beq_eq_false_iff_ne]; omega
  have hne2 : ((b.toNat : Int) != (c.toNat : Int)) = true := by rw [bne, hne]; rfl
  have HI : Hid (∀ V, Calls Tryz.prog 50 #[.string (s.extract (k + 1) s.size), .int .u8 (c.toNat : Int)] V fun e w' => e = .returned (.int .i64 (-1)) ∧ w' = V) := fun V => by
    have := Tryz.strings_IndexByte (s.extract (k + 1) s.size) (c.toNat : Int) V
    have hcc : (c.toNat : Int).toNat.toUInt8 = c := by simp
    rwa [hcc, asc_extract hs _ _ c hlast2] at this
  have q0 : decide (0 ≤ r) = true := decide_eq_true (by omega)
  have q1 : decide (r < 128) = false := decide_eq_false (by omega)
  have q2 : (r == 65533) = false := by rw [beq_eq_false_iff_ne]; exact h2
  have q3 : ¬ r < 128 := by omega
  have hks2 : k + 1 ≤ s.size := by omega
  have k0 : IntKind.i64.wrap ((k + 1 : Nat) - 1 : Int) = (k : Int) := by rw [show (((k + 1 : Nat) : Int) - 1) = (k : Int) by omega]; exact wrap_id _ (by omega) (by omega)
  have hkI : (k : Int) < (s.size : Int) := by omega
  have k1 : ((k : Int) + 1 - 1) = (k : Int) := by omega
  have kk : (k : Int) < (k : Int) + 1 := by omega
  have kz : (0 : Int) ≤ (k : Int) + 1 := by omega
  have k2 : (k : Int) + 1 ≤ (s.size : Int) := by omega
  have k3 : IntKind.i64.wrap ((k : Int) + 1) = (k : Int) + 1 := wrap_id _ (by omega) (by omega)
  clear h3 h2 hs e1 e2 e3 hlast hlast2 hbl hv
  go_enter Tryz.func166, Tryz.ntmps166
  go_wp2_with (go_at_call 167; refine HV.out.mono ?_; rintro e w1 ⟨rfl, hw1⟩; rw [hw1]; clear hw1)
  go_step3
  go_wp2_with fail
  go_loopw [9] (fun q wr => q = .int .i64 (k : Int) ∧ wr = w) (fun _ _ => 0)
  case atStart => exact ⟨rfl, rfl⟩
  case round =>
    obtain ⟨rfl, rfl⟩ := hrel
    go_wp2_with fail
    go_step3
    go_upto_region 6 with fail
    refine wp_region_held_drew (S := fun V => Bl wr V) (by kernel_rfl) (bl_drew wr) (fun hHeld => ?_)
    refine wpAnyH_take (i := 0) (v := ?_) rfl (by kernel_rfl) (by kernel_rfl) (by kernel_rfl) (fun _ _ _ h => h) (Or.inl ⟨by rfl, ?_⟩) (by assumption) ?_
    rotate_left
    · (intro w hSw; (try dsimp only at hSw); (try go_split_ands); first | (go_simp; done) | (go_simp; with_reducible rfl))
    try simp only [Act.put, List.getElem_toArray, List.getElem_cons_zero, List.getElem_cons_succ, List.setIfInBounds_toArray, List.set_cons_zero, List.set_cons_succ]
    refine wpAnyH_take (i := 1) (v := ?_) rfl (by kernel_rfl) (by kernel_rfl) (by kernel_rfl) (fun _ _ _ h => h) (Or.inl ⟨by rfl, ?_⟩) (by assumption) ?_
    rotate_left
    · (intro w hSw; (try dsimp only at hSw); (try go_split_ands); first | (go_simp; done) | (go_simp; with_reducible rfl))
    try simp only [Act.put, List.getElem_toArray, List.getElem_cons_zero, List.getElem_cons_succ, List.setIfInBounds_toArray, List.set_cons_zero, List.set_cons_succ]
    refine wpAnyH_take (i := 2) (v := ?_) rfl (by kernel_rfl) (by kernel_rfl) (by kernel_rfl) (fun _ _ _ h => h) (Or.inl ⟨by rfl, ?_⟩) (by assumption) ?_
    rotate_left
    · (intro w hSw; (try dsimp only at hSw); (try go_split_ands); first | (go_simp; done) | (go_simp; with_reducible rfl))
    try simp only [Act.put, List.getElem_toArray, List.getElem_cons_zero, List.getElem_cons_succ, List.setIfInBounds_toArray, List.set_cons_zero, List.set_cons_succ]
    refine wpAnyH_take (i := 3) (v := ?_) rfl (by kernel_rfl) (by kernel_rfl) (by kernel_rfl) (fun _ _ _ h => h) (Or.inl ⟨by rfl, ?_⟩) (by assumption) ?_
    rotate_left
    · (intro w hSw; (try dsimp only at hSw); (try go_split_ands); first | (go_simp; done) | (go_simp; with_reducible rfl))
    try simp only [Act.put, List.getElem_toArray, List.getElem_cons_zero, List.getElem_cons_succ, List.setIfInBounds_toArray, List.set_cons_zero, List.set_cons_succ]
    refine wpAnyH_take (i := 4) (v := ?_) rfl (by kernel_rfl) (by kernel_rfl) (by kernel_rfl) (fun _ _ _ h => h) (Or.inl ⟨by rfl, ?_⟩) (by assumption) ?_
    rotate_left
    · (intro w hSw; (try dsimp only at hSw); (try go_split_ands); first | (go_simp; done) | (go_simp; with_reducible rfl))
    try simp only [Act.put, List.getElem_toArray, List.getElem_cons_zero, List.getElem_cons_succ, List.setIfInBounds_toArray, List.set_cons_zero, List.set_cons_succ]
    refine wpAnyH_take (i := 5) (v := ?_) rfl (by kernel_rfl) (by kernel_rfl) (by kernel_rfl) (fun _ _ _ h => h) (Or.inl ⟨by rfl, ?_⟩) (by assumption) ?_
    rotate_left
    · (intro w hSw; (try dsimp only at hSw); (try go_split_ands); first | (go_simp; done) | (go_simp; with_reducible rfl))
    try simp only [Act.put, List.getElem_toArray, List.getElem_cons_zero, List.getElem_cons_succ, List.setIfInBounds_toArray, List.set_cons_zero, List.set_cons_succ]
    refine wpAnyH_take (i := 6) (v := ?_) rfl (by kernel_rfl) (by kernel_rfl) (by kernel_rfl) (fun _ _ _ h => h) (Or.inl ⟨by rfl, ?_⟩) (by assumption) ?_
    rotate_left
    · (intro w hSw; (try dsimp only at hSw); (try go_split_ands); first | (go_simp; done) | (go_simp; with_reducible rfl))
    try simp only [Act.put, List.getElem_toArray, List.getElem_cons_zero, List.getElem_cons_succ, List.setIfInBounds_toArray, List.set_cons_zero, List.set_cons_succ]
    refine wpAnyH_done (by kernel_rfl) ?_ _
    have HB : Hid (Bl wr wr.drew.drew) := mkHid ((bl_drew wr).trans (bl_drew _))
    go_upto_region 7 with fail
    refine wp_region_held_drew (S := fun V => Bl wr V) (by kernel_rfl) (HB.out) (fun hHeld => ?_)
    refine wpAnyH_take (i := 0) (v := ?_) rfl (by kernel_rfl) (by kernel_rfl) (by kernel_rfl) (fun _ _ _ h => h) (Or.inl ⟨by rfl, ?_⟩) (by assumption) ?_
    rotate_left
    · (intro w hSw; (try dsimp only at hSw); (try go_split_ands); first | (go_simp; done) | (go_simp; with_reducible rfl))
    try simp only [Act.put, List.getElem_toArray, List.getElem_cons_zero, List.getElem_cons_succ, List.setIfInBounds_toArray, List.set_cons_zero, List.set_cons_succ]
    refine wpAnyH_take (i := 1) (v := ?_) rfl (by kernel_rfl) (by kernel_rfl) (by kernel_rfl) (fun _ _ _ h => h) (Or.inl ⟨by rfl, ?_⟩) (by assumption) ?_
    rotate_left
    · (intro w hSw; (try dsimp only at hSw); (try go_split_ands); first | (go_simp; done) | (go_simp; with_reducible rfl))
    try simp only [Act.put, List.getElem_toArray, List.getElem_cons_zero, List.getElem_cons_succ, List.setIfInBounds_toArray, List.set_cons_zero, List.set_cons_succ]
    refine wpAnyH_take (i := 2) (v := ?_) rfl (by kernel_rfl) (by kernel_rfl) (by kernel_rfl) (fun _ _ _ h => h) (Or.inl ⟨by rfl, ?_⟩) (by assumption) ?_
    rotate_left
    · (intro w hSw; (try dsimp only at hSw); (try go_split_ands); first | (go_simp; done) | (go_simp; with_reducible rfl))
    try simp only [Act.put, List.getElem_toArray, List.getElem_cons_zero, List.getElem_cons_succ, List.setIfInBounds_toArray, List.set_cons_zero, List.set_cons_succ]
    refine wpAnyH_take (i := 3) (v := ?_) rfl (by kernel_rfl) (by kernel_rfl) (by kernel_rfl) (fun _ _ _ h => h) (Or.inl ⟨by rfl, ?_⟩) (by assumption) ?_
    rotate_left
    · (intro w hSw; (try dsimp only at hSw); (try go_split_ands); first | (go_simp; done) | (go_simp; with_reducible rfl))
    try simp only [Act.put, List.getElem_toArray, List.getElem_cons_zero, List.getElem_cons_succ, List.setIfInBounds_toArray, List.set_cons_zero, List.set_cons_succ]
    refine wpAnyH_take (i := 4) (v := ?_) rfl (by kernel_rfl) (by kernel_rfl) (by kernel_rfl) (fun _ _ _ h => h) (Or.inl ⟨by rfl, ?_⟩) (by assumption) ?_
    rotate_left
    · (intro w hSw; (try dsimp only at hSw); (try go_split_ands); first | (go_simp; done) | (go_simp; with_reducible rfl))
    try simp only [Act.put, List.getElem_toArray, List.getElem_cons_zero, List.getElem_cons_succ, List.setIfInBounds_toArray, List.set_cons_zero, List.set_cons_succ]
    refine wpAnyH_take (i := 5) (v := ?_) rfl (by kernel_rfl) (by kernel_rfl) (by kernel_rfl) (fun _ _ _ h => h) (Or.inl ⟨by rfl, ?_⟩) (by assumption) ?_
    rotate_left
    · (intro w hSw; (try dsimp only at hSw); (try go_split_ands); first | (go_simp; done) | (go_simp; with_reducible rfl))
    try simp only [Act.put, List.getElem_toArray, List.getElem_cons_zero, List.getElem_cons_succ, List.setIfInBounds_toArray, List.set_cons_zero, List.set_cons_succ]
    refine wpAnyH_take (i := 6) (v := ?_) rfl (by kernel_rfl) (by kernel_rfl) (by kernel_rfl) (fun _ _ _ h => h) (Or.inl ⟨by rfl, ?_⟩) (by assumption) ?_
    rotate_left
    · (intro w hSw; (try dsimp only at hSw); (try go_split_ands); first | (go_simp; done) | (go_simp; with_reducible rfl))
    try simp only [Act.put, List.getElem_toArray, List.getElem_cons_zero, List.getElem_cons_succ, List.setIfInBounds_toArray, List.set_cons_zero, List.set_cons_succ]
    refine oneH (i := 7) (by kernel_rfl) rfl (fun K hK => ?_)
    refine stepE (by rfl) 50 Tryz.f50 Tryz.func50 (by kernel_rfl) (by kernel_rfl) _ _ rfl _ (by first | (simp [Act.eval]; done) | (simp [Act.eval]; rfl)) _ (HI.out _) ?_
    rintro _ _ ⟨rfl, rfl⟩
    refine hK.out _ _ (hHeld) (fun hHeld => ?_)
    clear hK K
    try simp only [Act.put, List.getElem_toArray, List.getElem_cons_zero, List.getElem_cons_succ, List.setIfInBounds_toArray, List.set_cons_zero, List.set_cons_succ]
    refine wpAnyH_take (i := 8) (v := ?_) rfl (by kernel_rfl) (by kernel_rfl) (by kernel_rfl) (fun _ _ _ h => h) (Or.inl ⟨by rfl, ?_⟩) (by assumption) ?_
    rotate_left
    · (intro w hSw; (try dsimp only at hSw); (try go_split_ands); first | (go_simp; done) | (go_simp; with_reducible rfl))
    try simp only [Act.put, List.getElem_toArray, List.getElem_cons_zero, List.getElem_cons_succ, List.setIfInBounds_toArray, List.set_cons_zero, List.set_cons_succ]
    refine wpAnyH_done (by kernel_rfl) ?_ _
    go_wp2_with fail
    rw [Exit.noGoto_ret]
    simp only [Exit.inBlock]
    first
    | (refine (show Exit.then _ (Exit.inBlock 1 (Exit.then _ (Exit.noGoto (Exit.inBlock 0 (bodyPost Tryz.prog Tryz.f166 _))))) Exit.ret _ _ from ?_); simp only [Exit.inBlock, Exit.then, Exit.noGoto_ret])
    | refine (show bodyPost Tryz.prog Tryz.f166 (fun e w' => e = Ending.returned (Value.int IntKind.i64 (-1)) ∧ Bl wr w') Exit.ret _ _ from ?_)
    refine bodyPost_ret (results_tmp rfl _ _ _) rfl ?_
    exact ⟨rfl, HB.out⟩
/-- a rune that is no byte below 128 is not in a text of such -/
theorem indexRune_high (s : ByteArray) (hs : Asc s) (h4 : 4 ≤ s.size) (hmax : s.size ≤ 1000) (r : Int) (h0 : 128 ≤ r) (h1 : r ≤ 2147483647) (w : World) : Calls Tryz.prog 166 #[.string s, .int .i32 r] w fun e w' => e = .returned (.int .i64 (-1)) ∧ Bl w w' := by
  by_cases h2 : r = 65533
  · subst h2; exact indexRune_err s hs w
  · cases h3 : Lib.validRune r with
    | false => exact indexRune_bad s r h0 h1 h2 h3 w
    | true => exact indexRune_far s hs h4 hmax r h0 h1 h2 h3 w
def plS : ByteArray := ⟨#[97, 98, 99, 100, 101, 102, 103, 104, 105, 106, 107, 108, 109, 110, 111, 112, 113, 114, 115, 116, 117, 118, 119, 120, 121, 122, 65, 66, 67, 68, 69, 70, 71, 72, 73, 74, 75, 76, 77, 78, 79, 80, 81, 82, 83, 84, 85, 86, 87, 88, 89, 90, 48, 49, 50, 51, 52, 53, 54, 55, 56, 57, 46, 95, 45, 58, 94, 43, 91, 93, 40, 41]⟩
theorem plS_asc : Asc plS := by unfold Asc; decide +kernel
/-- does a rune stand for itself? -/
def plainR (r : Nat) : Bool := if r < 128 then plainB (UInt8.ofNat r) else false
set_option maxRecDepth 100000 in
set_option maxHeartbeats 4000000 in
theorem isPlain_ok (r : Nat) (hr : r ≤ 2147483647) (w : World) : Calls Tryz.prog 164 #[.int .i32 (r : Int)] w fun e w' => e = .returned (.bool (plainR r)) ∧ Bl w w' := by
  have HI : Hid (∀ W : World, Calls Tryz.prog 165 #[.string plS, .int .i32 (r : Int)] W fun e w' => e = .returned (.bool (plainR r)) ∧ Bl W w') := fun W => by
    by_cases h : r < 128
    · refine (Tryz.strings_ContainsRune_ascii plS (r : Int) W (by omega) (by omega)).mono ?_
      rintro e w' ⟨rfl, rfl⟩
      refine ⟨?_, Bl.refl _⟩
      unfold plainR plainB
      rw [if_pos h]
      have : (r : Int).toNat.toUInt8 = UInt8.ofNat r := by simp
      rw [this]
      rfl
    · have hp : plainR r = false := by unfold plainR; rw [if_neg h]
      rw [hp]
      have HX := mkHid (indexRune_high plS plS_asc (by decide) (by decide) (r : Int) (by omega) (by omega) W)
      generalize plS = S at *
      clear hp
      go_enter Tryz.func165, Tryz.ntmps165
      go_wp2_with (go_at_call 166; refine HX.out.mono ?_; rintro e w1 ⟨rfl, hb⟩)
      go_ret
      exact ⟨rfl, hb⟩
  unfold plS at HI
  generalize plainR r = q at *
  go_enter Tryz.func164, Tryz.ntmps164
  go_wp2_with (go_at_call 165; refine (HI.out _).mono ?_; rintro e w1 ⟨rfl, hb⟩)
  go_ret
  exact ⟨rfl, hb⟩
end Go.Proofs.YtheolmnjedbjmaaGreatDoor

