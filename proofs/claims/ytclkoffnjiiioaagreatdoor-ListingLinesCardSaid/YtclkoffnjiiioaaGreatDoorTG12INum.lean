import Derived.Test.YtclkoffnjiiioaaGreatDoorTG11CLast
namespace Go.Proofs.YtclkoffnjiiioaaGreatDoor
open Go.RowKit
set_option linter.unusedVariables false
set_option linter.unusedSimpArgs false
attribute [local go_sem ↓] Go.wp_at_zero Go.wp_at_succ
theorem escB_plain (c : UInt8) (h1 : 32 ≤ c.toNat) (h2 : c.toNat ≤ 126) (h3 : mkB c = false) : escB c = [c] := by
  unfold mkB at h3
  unfold escB
  rw [if_neg (by simpa using h3), if_pos ⟨h1, h2⟩]
theorem escB_mark (c : UInt8) (h3 : mkB c = true) : escB c = [92, c] := by
  unfold mkB at h3
  unfold escB
  rw [if_pos (by simpa using h3)]
theorem escB_hex (c : UInt8) (h : ¬(32 ≤ c.toNat ∧ c.toNat ≤ 126)) (h3 : mkB c = false) : escB c = [92, 120, hexD (c.toNat / 16), hexD (c.toNat % 16)] := by
  unfold mkB at h3
  unfold escB
  rw [if_neg (by simpa using h3), if_neg (fun hh => h ⟨hh.1, hh.2⟩)]
theorem and15 : ∀ n : Nat, n < 256 → Go.bits .and .u8 (n : Int) 15 = ((n % 16 : Nat) : Int) := by decide +kernel
theorem ix16 (k : Nat) (hk : k < 16) (w : World) : (Instr.index 9 (.string ⟨#[48, 49, 50, 51, 52, 53, 54, 55, 56, 57, 97, 98, 99, 100, 101, 102]⟩) (.int .u8 (k : Int))).run Tryz.prog w = .ok (.int .u8 ((hexD k).toNat : Int)) w := by
  rcases (show k = 0 ∨ k = 1 ∨ k = 2 ∨ k = 3 ∨ k = 4 ∨ k = 5 ∨ k = 6 ∨ k = 7 ∨ k = 8 ∨ k = 9 ∨ k = 10 ∨ k = 11 ∨ k = 12 ∨ k = 13 ∨ k = 14 ∨ k = 15 by omega) with rfl | rfl | rfl | rfl | rfl | rfl | rfl | rfl | rfl | rfl | rfl | rfl | rfl | rfl | rfl | rfl <;> kernel_rfl
set_option maxRecDepth 100000 in
set_option maxHeartbeats 4000000 in
theorem writeByte_ok {W : World} {B : Nat} {v : Value} {bs : List UInt8} (h : Pg W B v bs) (c : UInt8) (hl : bs.length + 21 ≤ 140737488355328) : Calls Tryz.prog 141 #[v, .int .u8 (c.toNat : Int)] W fun e w' => WrP W B bs (escB c) e w' := by
  have HP := mkHid (isPlain_ok c W)
  have HM := mkHid (isMark_ok c W)
  cases hm : mkB c
  · by_cases hp : 32 ≤ c.toNat ∧ c.toNat ≤ 126
    · obtain ⟨v1, w1, hr, hpg, hf⟩ := h.push [c] (by simp; omega)
      have HE := mkHid (escB_plain c hp.1 hp.2 hm)
      rw [HE.out]
      rw [show (decide (32 ≤ c.toNat) && decide (c.toNat ≤ 126) && !mkB c) = true by simp [hp.1, hp.2, hm]] at HP
      have HR := mkHid hr
      have H1 := mkHid (And.intro hpg hf)
      clear h hr hpg hf HM hm hp HE
      go_enter Tryz.func141, Tryz.ntmps141
      go_wp2_with (first
        | (go_at_call 82; refine HP.out.mono ?_; rintro e w2 ⟨rfl, rfl⟩)
        | (at_builtin; refine Lib.wpList_append_run _ rfl (.tmp 8) (.tmp 10) 57 57 rfl _ _ rfl rfl _ _ HR.out ?_))
      go_ret
      exact ⟨v1, rfl, H1.out.1, H1.out.2⟩
    · have HE := mkHid (escB_hex c hp hm)
      rw [HE.out]
      rw [show (decide (32 ≤ c.toNat) && decide (c.toNat ≤ 126) && !mkB c) = false by simp [hm]; omega] at HP
      rw [hm] at HM
      obtain ⟨v1, w1, hr, hpg, hf⟩ := (h.dr 1).push [92, 120, hexD (c.toNat / 16), hexD (c.toNat % 16)] (by simp; omega)
      have H1 := mkHid (And.intro hpg ((((Pf.refl B W).dn h.low 1)).trans hf))
      have hc : c.toNat < 256 := c.toNat_lt
      have ha : Go.bits .and .u8 (c.toNat : Int) 15 = ((c.toNat % 16 : Nat) : Int) := and15 c.toNat hc
      have hd : (c.toNat : Int) / 16 = ((c.toNat / 16 : Nat) : Int) := by omega
      have h1 := ix16 (c.toNat / 16) (by omega)
      have h2 := ix16 (c.toNat % 16) (by omega)
      generalize c.toNat / 16 = k1 at *
      generalize c.toNat % 16 = k2 at *
      have HR : Hid ((Builtin.append_ #[57, 57] 57 #[v, .slice (some ⟨W.heap.size, 0, none⟩) 4 4]).run Tryz.prog ((W.alloc (.cells #[.int .u8 92, .int .u8 120, .int .u8 ((hexD k1).toNat : Int), .int .u8 ((hexD k2).toNat : Int)] 5)).drew) = .ok v1 w1) := hr
      clear hr
      clear h hpg hf hm hp HE
      go_enter Tryz.func141, Tryz.ntmps141
      go_wp2_with (first
        | (go_at_call 82; refine HP.out.mono ?_; rintro e w2 ⟨rfl, hw2⟩; rw [hw2]; clear hw2 w2)
        | (go_at_call 81; refine HM.out.mono ?_; rintro e w2 ⟨rfl, hw2⟩; rw [hw2]; clear hw2 w2))
      refine wp_region_last (L := 9) (S := (fun _ => True)) (by kernel_rfl) (trivial) (fun hHeld => ?_)
      refine wpLast_take (i := 0) (v := ?_) rfl (by kernel_rfl) (by kernel_rfl) (by kernel_rfl) (by decide) (by kernel_rfl) (fun _ _ _ h => h) (Or.inl ⟨by rfl, ?_⟩) (by assumption) ?_
      rotate_left
      · (intro w hSw; (try dsimp only at hSw); first | (go_simp; done) | (go_simp; with_reducible rfl))
      try simp only [Act.put, List.getElem_toArray, List.getElem_cons_zero, List.getElem_cons_succ, List.setIfInBounds_toArray, List.set_cons_zero, List.set_cons_succ]
      refine wpLast_take (i := 1) (v := ?_) rfl (by kernel_rfl) (by kernel_rfl) (by kernel_rfl) (by decide) (by kernel_rfl) (fun _ _ _ h => h) (Or.inl ⟨by rfl, ?_⟩) (by assumption) ?_
      rotate_left
      · (intro w hSw; (try dsimp only at hSw); first | (go_simp; done) | (go_simp; with_reducible rfl))
      try simp only [Act.put, List.getElem_toArray, List.getElem_cons_zero, List.getElem_cons_succ, List.setIfInBounds_toArray, List.set_cons_zero, List.set_cons_succ]
      refine wpLast_take (i := 2) (v := ?_) rfl (by kernel_rfl) (by kernel_rfl) (by kernel_rfl) (by decide) (by kernel_rfl) (fun _ _ _ h => h) (Or.inl ⟨by rfl, ?_⟩) (by assumption) ?_
      rotate_left
      · (intro w hSw; (try dsimp only at hSw); first | (go_simp; done) | (go_simp; with_reducible rfl))
      try simp only [Act.put, List.getElem_toArray, List.getElem_cons_zero, List.getElem_cons_succ, List.setIfInBounds_toArray, List.set_cons_zero, List.set_cons_succ]
      refine wpLast_take (i := 3) (v := ?_) rfl (by kernel_rfl) (by kernel_rfl) (by kernel_rfl) (by decide) (by kernel_rfl) (fun _ _ _ h => h) (Or.inl ⟨by rfl, ?_⟩) (by assumption) ?_
      rotate_left
      · (intro w hSw; (try dsimp only at hSw); first | (go_simp; done) | (go_simp; with_reducible rfl))
      try simp only [Act.put, List.getElem_toArray, List.getElem_cons_zero, List.getElem_cons_succ, List.setIfInBounds_toArray, List.set_cons_zero, List.set_cons_succ]
      refine wpLast_take (i := 4) (v := ?_) rfl (by kernel_rfl) (by kernel_rfl) (by kernel_rfl) (by decide) (by kernel_rfl) (fun _ _ _ h => h) (Or.inl ⟨by rfl, ?_⟩) (by assumption) ?_
      rotate_left
      · (intro w hSw; (try dsimp only at hSw); first | (go_simp; done) | (go_simp; with_reducible rfl))
      try simp only [Act.put, List.getElem_toArray, List.getElem_cons_zero, List.getElem_cons_succ, List.setIfInBounds_toArray, List.set_cons_zero, List.set_cons_succ]
      refine wpLast_take (i := 5) (v := ?_) rfl (by kernel_rfl) (by kernel_rfl) (by kernel_rfl) (by decide) (by kernel_rfl) (fun _ _ _ h => h) (Or.inl ⟨by rfl, ?_⟩) (by assumption) ?_
      rotate_left
      · (intro w hSw; (try dsimp only at hSw); first | (go_simp; done) | (go_simp; with_reducible rfl))
      try simp only [Act.put, List.getElem_toArray, List.getElem_cons_zero, List.getElem_cons_succ, List.setIfInBounds_toArray, List.set_cons_zero, List.set_cons_succ]
      refine wpLast_take (i := 6) (v := ?_) rfl (by kernel_rfl) (by kernel_rfl) (by kernel_rfl) (by decide) (by kernel_rfl) (fun _ _ _ h => h) (Or.inl ⟨by rfl, ?_⟩) (by assumption) ?_
      rotate_left
      · (intro w hSw; (try dsimp only at hSw); first | (go_simp; done) | (go_simp; with_reducible rfl))
      try simp only [Act.put, List.getElem_toArray, List.getElem_cons_zero, List.getElem_cons_succ, List.setIfInBounds_toArray, List.set_cons_zero, List.set_cons_succ]
      refine wpLast_one (i := 7) (by kernel_rfl) rfl (by decide) (fun K hK => ?_)
      go_simp
      refine hK.out _ _ (trivial) (fun hHeld => ?_)
      clear hK K
      try simp only [Act.put, List.getElem_toArray, List.getElem_cons_zero, List.getElem_cons_succ, List.setIfInBounds_toArray, List.set_cons_zero, List.set_cons_succ]
      refine wpLast_one (i := 8) (by kernel_rfl) rfl (by decide) (fun K hK => ?_)
      refine step_append_run rfl (.tmp 19) (.tmp 26) 57 57 rfl v (.slice (some ⟨W.heap.size, 0, none⟩) 4 4) (by simp [Act.eval]) (by simp [Act.eval]) _ _ HR.out ?_
      refine hK.out _ _ (trivial) (fun hHeld => ?_)
      clear hK K
      try simp only [Act.put, List.getElem_toArray, List.getElem_cons_zero, List.getElem_cons_succ, List.setIfInBounds_toArray, List.set_cons_zero, List.set_cons_succ]
      refine wpLast_end (by kernel_rfl) rfl (by kernel_rfl) (fun K hK => ?_)
      go_simp
      refine hK.out _ _ ?_
      clear hK K
      try simp only [Act.put, List.getElem_toArray, List.getElem_cons_zero, List.getElem_cons_succ, List.setIfInBounds_toArray, List.set_cons_zero, List.set_cons_succ]
      go_wp2_with fail
      go_ret
      exact ⟨v1, rfl, H1.out.1, H1.out.2⟩
  · have HE := mkHid (escB_mark c hm)
    rw [HE.out]
    rw [show (decide (32 ≤ c.toNat) && decide (c.toNat ≤ 126) && !mkB c) = false by simp [hm]] at HP
    rw [hm] at HM
    obtain ⟨v1, w1, hr, hpg, hf⟩ := h.push [92, c] (by simp; omega)
    have HR := mkHid hr
    have H1 := mkHid (And.intro hpg hf)
    clear h hr hpg hf hm HE
    go_enter Tryz.func141, Tryz.ntmps141
    go_wp2_with (first
      | (go_at_call 82; refine HP.out.mono ?_; rintro e w2 ⟨rfl, rfl⟩)
      | (go_at_call 81; refine HM.out.mono ?_; rintro e w2 ⟨rfl, rfl⟩)
      | (at_builtin; refine Lib.wpList_append_run _ rfl (.tmp 15) (.tmp 17) 57 57 rfl _ _ rfl rfl _ _ HR.out ?_))
    go_ret
    exact ⟨v1, rfl, H1.out.1, H1.out.2⟩
end Go.Proofs.YtclkoffnjiiioaaGreatDoor

namespace Go.Proofs.YtclkoffnjiiioaaGreatDoor
open Go.RowKit
set_option linter.unusedVariables false
set_option linter.unusedSimpArgs false
attribute [local go_sem ↓] Go.wp_at_zero Go.wp_at_succ
theorem escB_len (c : UInt8) : (escB c).length ≤ 4 := by
  unfold escB
  split
  · simp
  · split <;> simp
theorem esc_len (l : List UInt8) : (l.flatMap escB).length ≤ 4 * l.length := by
  induction l with
  | nil => simp
  | cons a l ih => rw [List.flatMap_cons, List.length_append, List.length_cons]; have := escB_len a; omega
set_option maxRecDepth 100000 in
set_option maxHeartbeats 4000000 in
theorem text_ok {W : World} {B : Nat} {v : Value} {bs : List UInt8} (h : Pg W B v bs) (s : ByteArray) (hs : s.size ≤ 100000) (hl : bs.length ≤ 70368744177664) : Calls Tryz.prog 140 #[.string s, v] W fun e w' => WrP W B bs (textW s) e w' := by
  have HB : Hid (∀ i (hi : i < s.size), (s.data.toList.take (i + 1)).flatMap escB = (s.data.toList.take i).flatMap escB ++ escB s[i]) := fun i hi => by
    have hi2 : i < s.data.toList.length := by rw [Array.length_toList]; exact hi
    rw [List.take_succ_eq_append_getElem hi2, List.flatMap_append]
    congr 1
    simp [List.flatMap_cons]
    rfl
  have HT : Hid ((s.data.toList.take s.size) = s.data.toList) := by
    show _ = _
    rw [List.take_of_length_le]
    rw [Array.length_toList]
    exact Nat.le_refl _
  have HLn : Hid (∀ i, i ≤ s.size → ((s.data.toList.take i).flatMap escB).length ≤ 400000) := fun i hi => by
    have := esc_len (s.data.toList.take i)
    rw [List.length_take] at this
    omega
  obtain ⟨v1, w1, hr, hp, hf⟩ := h.push [39] (by simp; omega)
  have HR := mkHid hr
  have H1 := mkHid (And.intro hp hf)
  clear h hr hp hf
  go_enter Tryz.func140, Tryz.ntmps140
  go_wp2_with (at_builtin; refine Lib.wpList_append_run _ rfl (.tmp 6) (.tmp 7) 57 57 rfl _ _ rfl rfl _ _ HR.out ?_)
  go_loopw [1, 11] (fun pg q wr => ∃ i : Nat, i ≤ s.size ∧ q = .int .i64 (i : Int) ∧ Hid (Pg wr B pg (bs ++ [39] ++ (s.data.toList.take i).flatMap escB) ∧ Pf B W wr)) (fun _ q _ => s.size - (intOf q).toNat)
  case atStart => exact ⟨0, Nat.zero_le _, rfl, by simpa using H1.out.1, H1.out.2⟩
  case round =>
    clear HR H1
    obtain ⟨i, hi, rfl, hst⟩ := hrel
    have i0 : (0 : Int) ≤ (i : Int) := by omega
    obtain ⟨hp, hf⟩ := hst.out
    by_cases hlt : i < s.size
    · have i1 : (i : Int) < (s.size : Int) := by omega
      have HW := mkHid (writeByte_ok hp s[i] (by have := HLn.out i hi; simp only [List.length_append, List.length_singleton]; omega))
      have HE : Hid (∀ v' w', Pg w' B v' (bs ++ [39] ++ (s.data.toList.take i).flatMap escB ++ escB s[i]) → Pf B wr w' → Pg w' B v' (bs ++ [39] ++ (s.data.toList.take (i + 1)).flatMap escB) ∧ Pf B W w') := fun v' w' h1 h2 => ⟨by rw [HB.out i hlt, ← List.append_assoc]; exact h1, hf.trans h2⟩
      clear hst hp hf
      go_wp2_with fail
      refine HW.out.mono ?_
      rintro e w2 ⟨v', rfl, h1, h2⟩
      have HX := mkHid (HE.out v' w2 h1 h2)
      clear h1 h2
      go_wp2_with fail
      go_roundw
      case rel => exact ⟨i + 1, by omega, by go_num, HX.out⟩
      case measure => simp [intOf]; omega
    · have hie : i = s.size := by omega
      subst hie
      obtain ⟨v2, w2, hr, hp2, hf2⟩ := hp.push [39] (by have := HLn.out _ hi; simp only [List.length_append, List.length_singleton]; omega)
      have HR := mkHid hr
      have HX : Hid (WrP W B bs (textW s) (.returned v2) w2) := by
        refine ⟨v2, rfl, ?_, hf.trans hf2⟩
        rw [HT.out] at hp2
        unfold textW
        have e : bs ++ [39] ++ List.flatMap escB s.data.toList ++ [39] = bs ++ 39 :: (s.data.toList.flatMap escB ++ [39]) := by simp
        rw [← e]
        exact hp2
      clear hst hp hf hr hp2 hf2
      go_wp2_with (at_builtin; refine Lib.wpList_append_run _ rfl (.tmp 20) (.tmp 21) 57 57 rfl _ _ rfl rfl _ _ HR.out ?_)
      go_ret
      exact HX.out
end Go.Proofs.YtclkoffnjiiioaaGreatDoor

namespace Go.Proofs.YtclkoffnjiiioaaGreatDoor
open Go.RowKit
set_option linter.unusedVariables false
set_option linter.unusedSimpArgs false
attribute [local go_sem ↓] Go.wp_at_zero Go.wp_at_succ
/-- a literal whose numbers are Go's and whose texts are short -/
inductive FineT : LitT → Prop
  | mk (t : LitT) (h0 : 1 ≤ t.kind ∧ t.kind ≤ 7) (h1 : -9223372036854775808 ≤ t.num ∧ t.num ≤ 9223372036854775807) (h2 : t.kind = 2 → t.text.size ≤ 256) (h3 : t.kind = 4 → t.kids.length ≤ 32) (k : t.kind = 4 → ∀ u ∈ t.kids, FineT u) : FineT t
/-- the method that writes an element: whose it is, what it does -/
def EW (W0 : World) (B : Nat) (v : Value) (t : LitT) : Prop := ∃ T u K, v = .iface T u ∧ (∀ w, (method 304 T u "kiln/listing.write").run Tryz.prog w = .ok (K, u) w) ∧ (∀ args w, (callFunc K args).run Tryz.prog w = .ok (.enter K args) w) ∧ (∀ w, (nilAhead 304 T u "kiln/listing.write").run Tryz.prog w = .ok (some false) w) ∧ ∀ (W : World) (pg : Value) (bs : List UInt8), Below B W0 W → Pg W B pg bs → bs.length + (wrT t).length + 64 ≤ 70368744177664 → Calls Tryz.prog K #[u, pg] W fun e w' => WrP W B bs (wrT t) e w'
theorem m65 (n : Int) (w : World) : (method 304 100 (.int .i64 n) "kiln/listing.write").run Tryz.prog w = .ok (139, .int .i64 n) w := by kernel_rfl
theorem m66 (s : ByteArray) (w : World) : (method 304 101 (.string s) "kiln/listing.write").run Tryz.prog w = .ok (140, .string s) w := by kernel_rfl
theorem m70 (n : Int) (w : World) : (method 304 102 (.int .i64 n) "kiln/listing.write").run Tryz.prog w = .ok (142, .int .i64 n) w := by kernel_rfl
theorem m71 (w : World) : (method 304 104 (.agg #[]) "kiln/listing.write").run Tryz.prog w = .ok (143, .agg #[]) w := by kernel_rfl
theorem m72 (w : World) : (method 304 105 (.agg #[]) "kiln/listing.write").run Tryz.prog w = .ok (144, .agg #[]) w := by kernel_rfl
theorem m73 (w : World) : (method 304 106 (.agg #[]) "kiln/listing.write").run Tryz.prog w = .ok (145, .agg #[]) w := by kernel_rfl
theorem m74 (p : Option Addr) (n c : Nat) (w : World) : (method 304 107 (.slice p n c) "kiln/listing.write").run Tryz.prog w = .ok (146, .slice p n c) w := by kernel_rfl
theorem n65 (n : Int) (w : World) : (nilAhead 304 100 (.int .i64 n) "kiln/listing.write").run Tryz.prog w = .ok (some false) w := by kernel_rfl
theorem e65 (args : Array Value) (w : World) : (callFunc 139 args).run Tryz.prog w = .ok (.enter 139 args) w := by kernel_rfl
theorem n66 (s : ByteArray) (w : World) : (nilAhead 304 101 (.string s) "kiln/listing.write").run Tryz.prog w = .ok (some false) w := by kernel_rfl
theorem e66 (args : Array Value) (w : World) : (callFunc 140 args).run Tryz.prog w = .ok (.enter 140 args) w := by kernel_rfl
theorem n70 (n : Int) (w : World) : (nilAhead 304 102 (.int .i64 n) "kiln/listing.write").run Tryz.prog w = .ok (some false) w := by kernel_rfl
theorem e70 (args : Array Value) (w : World) : (callFunc 142 args).run Tryz.prog w = .ok (.enter 142 args) w := by kernel_rfl
theorem n71 (w : World) : (nilAhead 304 104 (.agg #[]) "kiln/listing.write").run Tryz.prog w = .ok (some false) w := by kernel_rfl
theorem e71 (args : Array Value) (w : World) : (callFunc 143 args).run Tryz.prog w = .ok (.enter 143 args) w := by kernel_rfl
theorem n72 (w : World) : (nilAhead 304 105 (.agg #[]) "kiln/listing.write").run Tryz.prog w = .ok (some false) w := by kernel_rfl
theorem e72 (args : Array Value) (w : World) : (callFunc 144 args).run Tryz.prog w = .ok (.enter 144 args) w := by kernel_rfl
theorem n73 (w : World) : (nilAhead 304 106 (.agg #[]) "kiln/listing.write").run Tryz.prog w = .ok (some false) w := by kernel_rfl
theorem e73 (args : Array Value) (w : World) : (callFunc 145 args).run Tryz.prog w = .ok (.enter 145 args) w := by kernel_rfl
theorem n74 (p : Option Addr) (n c : Nat) (w : World) : (nilAhead 304 107 (.slice p n c) "kiln/listing.write").run Tryz.prog w = .ok (some false) w := by kernel_rfl
theorem e74 (args : Array Value) (w : World) : (callFunc 146 args).run Tryz.prog w = .ok (.enter 146 args) w := by kernel_rfl
set_option maxRecDepth 100000 in
set_option maxHeartbeats 4000000 in
/-- an array is written where its elements are -/
theorem array_ok (W0 : World) (B : Nat) (ts : List LitT) (p : Option Addr) (c : Nat) (vs : List Value) (row : W0.ownsRow 0 60 1 (.slice p ts.length c) ts.length vs) (hB : W0.heap.size ≤ B) (hE : ∀ (i : Nat) (u : LitT) (v : Value), ts[i]? = some u → vs[i]? = some v → EW W0 B v u) (hn : ts.length ≤ 100000)
    (W : World) (pg : Value) (bs : List UInt8) (hb : Below B W0 W) (h : Pg W B pg bs) (hl : bs.length + (wrL ts true).length + 66 ≤ 70368744177664) : Calls Tryz.prog 146 #[.slice p ts.length c, pg] W fun e w' => WrP W B bs (40 :: (wrL ts true ++ [41])) e w' := by
  obtain ⟨v1, w1, hr, hp, hf⟩ := h.push [40] (by simp; omega)
  have HR := mkHid hr
  have H1 : Hid (Pg w1 B v1 (bs ++ [40] ++ []) ∧ Pf B W w1 ∧ wrL (ts.drop 0) true = wrL (ts.drop 0) true) := ⟨by simpa using hp, hf, rfl⟩
  have HRow := mkHid row
  have HE := mkHid hE
  have HBw := mkHid hb
  have HB0 := mkHid hB
  clear h hr hp hf row hE hb hB
  go_enter Tryz.func146, Tryz.ntmps146
  go_wp2_with (at_builtin; refine Lib.wpList_append_run _ rfl (.tmp 7) (.tmp 8) 57 57 rfl _ _ rfl rfl _ _ HR.out ?_)
  go_loopw [1, 12] (fun pg q wr => ∃ i : Nat, i ≤ ts.length ∧ q = .int .i64 (i : Int) ∧ Hid (∃ done, Pg wr B pg (bs ++ [40] ++ done) ∧ Pf B W wr ∧ done ++ wrL (ts.drop i) (decide (i = 0)) = wrL ts true)) (fun _ q _ => ts.length - (intOf q).toNat)
  case atStart => exact ⟨0, Nat.zero_le _, rfl, [], H1.out.1, H1.out.2.1, by simp⟩
  case round =>
    clear HR H1
    obtain ⟨i, hi, rfl, hst⟩ := hrel
    have i0 : (0 : Int) ≤ (i : Int) := by omega
    obtain ⟨done, hp, hf, hd⟩ := hst.out
    by_cases hlt : i < ts.length
    · have i1 : (i : Int) < (ts.length : Int) := by omega
      obtain ⟨t, ht⟩ : ∃ t, ts[i]? = some t := ⟨_, List.getElem?_eq_getElem hlt⟩
      have hvl : vs.length = ts.length := by have := HRow.out.1; omega
      obtain ⟨v, hv⟩ : ∃ v, vs[i]? = some v := ⟨_, List.getElem?_eq_getElem (by omega)⟩
      obtain ⟨T, u, K, rfl, hm, hen, -, hK⟩ := HE.out i t v ht hv
      obtain ⟨g, rfl⟩ : ∃ g, p = some ⟨g, 0, none⟩ := by
        rcases HRow.out.2 with ⟨e, e0⟩ | ⟨g, cap, cur, e, q1, q2, q3, q4⟩
        · omega
        · injection e with e1 _ e3
          exact ⟨g, e1⟩
      have hbl := HBw.out.trans hf.below
      have c0 : wr.cell? ⟨g, i, none⟩ = some (.iface T u) := by
        have hgl := (own_lt HRow.out g rfl).2
        have h1 : wr.heap[g]? = W0.heap[g]? := hbl.block g (Nat.lt_of_lt_of_le hgl HB0.out)
        rw [World.cell?_of_block (w := W0) (a := ⟨g, i, none⟩) h1, HRow.out.cellAt i (by omega), hv]
      rw [drop_at ht, wrL_cons] at hd
      have hlen : done.length + (wrL ts true).length = done.length + (wrL ts true).length := rfl
      have hsum := congrArg List.length hd
      simp only [List.length_append] at hsum
      by_cases hz : i = 0
      · subst hz
        rw [if_pos (by decide)] at hd hsum
        simp only [List.nil_append] at hd
        have HK := mkHid (hK wr u1 (bs ++ [40] ++ done) hbl hp (by simp only [List.length_append, List.length_singleton]; simp at hsum; omega))
        have HX : Hid (∀ v' w', Pg w' B v' (bs ++ [40] ++ done ++ wrT t) → Pf B wr w' → ∃ done, Pg w' B v' (bs ++ [40] ++ done) ∧ Pf B W w' ∧ done ++ wrL (ts.drop (0 + 1)) (decide (0 + 1 = 0)) = wrL ts true) := fun v' w' h1 h2 => ⟨done ++ wrT t, by rw [← List.append_assoc]; exact h1, hf.trans h2, by rw [List.append_assoc]; exact hd⟩
        clear hst hp hf hd hsum hK hbl
        go_wp2_with fail
        refine HK.out.mono ?_
        rintro e w2 ⟨v', rfl, h1, h2⟩
        have HY := mkHid (HX.out v' w2 h1 h2)
        clear h1 h2
        go_wp2_with fail
        go_roundw
        case rel => exact ⟨0 + 1, by omega, by go_num, HY.out⟩
        case measure => simp [intOf]; omega
      · have hz1 : (i : Int) ≠ 0 := by omega
        have hz2 : (0 : Int) < (i : Int) := by omega
        rw [decide_eq_false hz, if_neg (by decide)] at hd hsum
        obtain ⟨v2, w2, hr2, hp2, hf2⟩ := hp.push [32] (by simp only [List.length_append, List.length_singleton] at hsum ⊢; omega)
        have HR2 := mkHid hr2
        have HK := mkHid (hK w2 v2 (bs ++ [40] ++ done ++ [32]) (hbl.trans hf2.below) hp2 (by simp only [List.length_append, List.length_singleton] at hsum ⊢; omega))
        have HX : Hid (∀ v' w', Pg w' B v' (bs ++ [40] ++ done ++ [32] ++ wrT t) → Pf B w2 w' → ∃ done, Pg w' B v' (bs ++ [40] ++ done) ∧ Pf B W w' ∧ done ++ wrL (ts.drop (i + 1)) (decide (i + 1 = 0)) = wrL ts true) := fun v' w' h1 h2 => ⟨done ++ ([32] ++ wrT t), by rw [← List.append_assoc, ← List.append_assoc]; exact h1, (hf.trans hf2).trans h2, by rw [← hd, show decide (i + 1 = 0) = false by simp, List.append_assoc]⟩
        clear hst hp hf hd hsum hK hbl hr2 hp2 hf2
        go_wp2_with (at_builtin; refine Lib.wpList_append_run _ rfl (.tmp 19) (.tmp 20) 57 57 rfl _ _ rfl rfl _ _ HR2.out ?_)
        refine HK.out.mono ?_
        rintro e w3 ⟨v', rfl, h1, h2⟩
        have HY := mkHid (HX.out v' w3 h1 h2)
        clear h1 h2
        go_wp2_with fail
        go_roundw
        case rel => exact ⟨i + 1, by omega, by go_num, HY.out⟩
        case measure => simp [intOf]; omega
    · have hie : i = ts.length := by omega
      subst hie
      rw [List.drop_eq_nil_of_le (Nat.le_refl _), wrL_nil, List.append_nil] at hd
      rw [hd] at hp
      obtain ⟨v2, w2, hr2, hp2, hf2⟩ := hp.push [41] (by simp only [List.length_append, List.length_singleton]; omega)
      have HR2 := mkHid hr2
      have HX : Hid (WrP W B bs (40 :: (wrL ts true ++ [41])) (.returned v2) w2) := by
        refine ⟨v2, rfl, ?_, hf.trans hf2⟩
        have e : bs ++ [40] ++ wrL ts true ++ [41] = bs ++ 40 :: (wrL ts true ++ [41]) := by simp
        rw [← e]
        exact hp2
      clear hst hp hf hd hr2 hp2 hf2
      go_wp2_with (at_builtin; refine Lib.wpList_append_run _ rfl (.tmp 26) (.tmp 27) 57 57 rfl _ _ rfl rfl _ _ HR2.out ?_)
      go_ret
      exact HX.out
/-- an element is written -/
theorem elem_ok (W0 : World) (B : Nat) (Ok : Nat → Prop) (hB : W0.heap.size ≤ B) (v : Value) (t : LitT) (h : ElR W0 Ok v t) : FineT t → EW W0 B v t := by
  induction h with
  | int t h =>
    rintro ⟨_, h0, h1, h2, h3, k⟩
    refine ⟨100, _, 139, rfl, m65 _, e65, n65 _, fun W pg bs hb hp hl => ?_⟩
    rw [wrT_at, if_pos h] at hl ⊢
    exact number_ok hp t.num h1.1 h1.2 (by omega)
  | text t h =>
    rintro ⟨_, h0, h1, h2, h3, k⟩
    refine ⟨101, _, 140, rfl, m66 _, e66, n66 _, fun W pg bs hb hp hl => ?_⟩
    rw [wrT_at, if_neg (by omega), if_pos h] at hl ⊢
    exact text_ok hp t.text (by have := h2 h; omega) (by omega)
  | sym t h =>
    rintro ⟨_, h0, h1, h2, h3, k⟩
    refine ⟨102, _, 142, rfl, m70 _, e70, n70 _, fun W pg bs hb hp hl => ?_⟩
    rw [wrT_at, if_neg (by omega), if_neg (by omega), if_pos h] at hl ⊢
    exact symbol_ok hp t.num h1.1 h1.2 (by omega)
  | nil t h =>
    intro _
    refine ⟨104, _, 143, rfl, m71, e71, n71, fun W pg bs hb hp hl => ?_⟩
    rw [wrT_at, if_neg (by omega), if_neg (by omega), if_neg (by omega), if_pos h]
    exact nothing_ok hp (by omega)
  | yes t h =>
    intro _
    refine ⟨105, _, 144, rfl, m72, e72, n72, fun W pg bs hb hp hl => ?_⟩
    rw [wrT_at, if_neg (by omega), if_neg (by omega), if_neg (by omega), if_neg (by omega), if_pos h]
    exact yes_ok hp (by omega)
  | no t h =>
    intro _
    refine ⟨106, _, 145, rfl, m73, e73, n73, fun W pg bs hb hp hl => ?_⟩
    rw [wrT_at, if_neg (by omega), if_neg (by omega), if_neg (by omega), if_neg (by omega), if_neg (by omega), if_pos h]
    exact no_ok hp (by omega)
  | arr t h p c vs row ok kids ih =>
    rintro ⟨_, h0, h1, h2, h3, k⟩
    refine ⟨107, _, 146, rfl, m74 _ _ _, e74, n74 _ _ _, fun W pg bs hb hp hl => ?_⟩
    rw [wrT_at, if_neg (by omega), if_neg (by omega), if_neg (by omega), if_neg (by omega), if_neg (by omega), if_neg (by omega)] at hl ⊢
    simp only [List.length_cons, List.length_append, List.length_singleton] at hl
    exact array_ok W0 B t.kids p c vs row hB (fun i u v hu hv => ih i u v hu hv (k h u (List.mem_of_getElem? hu))) (by have := h3 h; omega) W pg bs hb hp (by omega)
end Go.Proofs.YtclkoffnjiiioaaGreatDoor

namespace Go.Proofs.YtclkoffnjiiioaaGreatDoor
open Go.RowKit
set_option linter.unusedVariables false
set_option linter.unusedSimpArgs false
attribute [local go_sem ↓] Go.wp_at_zero Go.wp_at_succ
/-- numbers, each behind a blank -/
def numsW (ns : List Int) : List UInt8 := ns.flatMap fun n => 32 :: Lib.itoa n
theorem numsW_take (ns : List Int) (i : Nat) (hi : i < ns.length) : numsW (ns.take (i + 1)) = numsW (ns.take i) ++ (32 :: Lib.itoa ns[i]) := by
  unfold numsW
  rw [List.take_succ_eq_append_getElem hi, List.flatMap_append]
  simp
theorem dec_len : ∀ (k n : Nat), n < 10 ^ (k + 1) → (Lib.decDigits n).length ≤ k + 1
  | 0, n, h => by
    rw [Lib.decDigits]
    rw [dif_pos (by simpa using h)]
    simp
  | k + 1, n, h => by
    rw [Lib.decDigits]
    by_cases hn : n < 10
    · rw [dif_pos hn]; simp
    · rw [dif_neg hn, List.length_append]
      have := dec_len k (n / 10) (by rw [Nat.div_lt_iff_lt_mul (by decide)]; rw [Nat.pow_succ] at h; exact h)
      simp
      omega
theorem itoa_len (n : Int) (h0 : -9223372036854775808 ≤ n) (h1 : n ≤ 9223372036854775807) : (Lib.itoa n).length ≤ 20 := by
  unfold Lib.itoa
  split
  · rw [List.length_cons]
    have := dec_len 18 n.natAbs (by omega)
    omega
  · have := dec_len 18 n.toNat (by omega)
    omega
theorem numsW_len (ns : List Int) (h : ∀ n ∈ ns, -9223372036854775808 ≤ n ∧ n ≤ 9223372036854775807) : (numsW ns).length ≤ 21 * ns.length := by
  induction ns with
  | nil => simp [numsW]
  | cons a l ih =>
    unfold numsW at ih ⊢
    rw [List.flatMap_cons, List.length_append, List.length_cons, List.length_cons]
    have h1 := itoa_len a (h a (by simp)).1 (h a (by simp)).2
    have h2 := ih (fun n hn => h n (by simp [hn]))
    omega
set_option maxRecDepth 100000 in
set_option maxHeartbeats 4000000 in
theorem numbers_ok {W : World} {B : Nat} {v : Value} {bs : List UInt8} (h : Pg W B v bs) (ns : List Int) (p : Option Addr) (c : Nat) (hr : ∀ n ∈ ns, -9223372036854775808 ≤ n ∧ n ≤ 9223372036854775807) (hn : ns.length ≤ 100000) (hl : bs.length ≤ 35184372088832) (hc : ∀ W', Pf B W W' → 0 < ns.length → ∃ g off, p = some ⟨g, off, none⟩ ∧ ∀ i (hi : i < ns.length), W'.cell? ⟨g, off + i, none⟩ = some (.int .i64 ns[i])) :
    Calls Tryz.prog 32 #[v, .slice p ns.length c] W fun e w' => WrP W B bs (numsW ns) e w' := by
  have H1 := mkHid h
  have HC := mkHid hc
  have HRg := mkHid hr
  have HLn : Hid (∀ i, i ≤ ns.length → (numsW (ns.take i)).length ≤ 2100000) := fun i hi => by
    have := numsW_len (ns.take i) (fun n hn => hr n (List.mem_of_mem_take hn))
    rw [List.length_take] at this
    omega
  clear h hc hr
  go_enter Tryz.func32, Tryz.ntmps32
  go_wp2_with fail
  go_loopw [0, 9] (fun pg q wr => ∃ i : Nat, i ≤ ns.length ∧ q = .int .i64 (i : Int) ∧ Hid (Pg wr B pg (bs ++ numsW (ns.take i)) ∧ Pf B W wr)) (fun _ q _ => ns.length - (intOf q).toNat)
  case atStart => exact ⟨0, Nat.zero_le _, rfl, by simpa [numsW] using H1.out, Pf.refl _ _⟩
  case round =>
    clear H1
    obtain ⟨i, hi, rfl, hst⟩ := hrel
    have i0 : (0 : Int) ≤ (i : Int) := by omega
    obtain ⟨hp, hf⟩ := hst.out
    by_cases hlt : i < ns.length
    · have i1 : (i : Int) < (ns.length : Int) := by omega
      obtain ⟨g, off, rfl, hcs⟩ := HC.out wr hf (by omega)
      have c0 := hcs i hlt
      have hrg := HRg.out ns[i] (List.getElem_mem hlt)
      have hln := HLn.out i hi
      obtain ⟨v2, w2, hr2, hp2, hf2⟩ := hp.push [32] (by simp only [List.length_append, List.length_singleton]; omega)
      have HR2 := mkHid hr2
      have HK := mkHid (hp2.num ns[i] hrg.1 hrg.2 (by simp only [List.length_append, List.length_singleton]; omega))
      have HX : Hid (∀ v' w', Pg w' B v' (bs ++ numsW (ns.take i) ++ [32] ++ Lib.itoa ns[i]) → Pf B w2 w' → Pg w' B v' (bs ++ numsW (ns.take (i + 1))) ∧ Pf B W w') := fun v' w' h1 h2 => ⟨by
        rw [numsW_take ns i hlt, ← List.append_assoc]
        have e : bs ++ numsW (ns.take i) ++ 32 :: Lib.itoa ns[i] = bs ++ numsW (ns.take i) ++ [32] ++ Lib.itoa ns[i] := by simp
        rw [e]
        exact h1, (hf.trans hf2).trans h2⟩
      clear hst hp hf hr2 hp2 hf2 hcs hln
      generalize ns[i] = z at *
      go_wp2_with (at_builtin; refine Lib.wpList_append_run _ rfl (.tmp 13) (.tmp 14) 57 57 rfl _ _ rfl rfl _ _ HR2.out ?_)
      refine HK.out.mono ?_
      rintro e w3 ⟨v', rfl, h1, h2⟩
      have HY := mkHid (HX.out v' w3 h1 h2)
      clear h1 h2
      go_wp2_with fail
      go_roundw
      case rel => exact ⟨i + 1, by omega, by go_num, HY.out⟩
      case measure => simp [intOf]; omega
    · have hie : i = ns.length := by omega
      subst hie
      have HX : Hid (WrP W B bs (numsW ns) (.returned u0) wr) := ⟨u0, rfl, by rw [List.take_of_length_le (Nat.le_refl _)] at hp; exact hp, hf⟩
      clear hst hp hf
      go_wp2_with fail
      go_ret
      exact HX.out
end Go.Proofs.YtclkoffnjiiioaaGreatDoor

