import Derived.Test.YtheolmnjedbjmaaGreatDoorSPh
namespace Go.Proofs.YtheolmnjedbjmaaGreatDoor
open Go.RowKit
set_option linter.unusedVariables false
set_option linter.unusedSimpArgs false
attribute [local go_sem ↓] Go.wp_at_zero Go.wp_at_succ
set_option maxRecDepth 100000 in
set_option maxHeartbeats 8000000 in
theorem text_v' {W : World} {B : Nat} {v : Value} {bs : Bs} (h : Pv W B v bs) (s : ByteArray) (hl : bs.length + 6 * s.size + 10 ≤ 140737488355000) : Calls Tryz.prog 162 #[v, .string s] W fun e w' => WrV W B bs (32 :: wordB s.data.toList) e w' := by
  have HBW := h.low
  obtain ⟨v1, w1, hr, hp, hf⟩ := h.push [32, 61] (by simp) (by simp; omega)
  have HR := mkHid hr
  have H1 := mkHid (And.intro hp hf)
  have HLn : Hid (∀ i, i ≤ s.size → (esc (s.data.toList.take i)).length ≤ 3 * s.size) := fun i hi => by
    have := esc_len (s.data.toList.take i)
    rw [List.length_take] at this
    omega
  have hw1 := hf.below.size
  have hz1 : W.heap.size ≤ w1.heap.size := hf.below.size
  clear h hr hp hf
  go_enter Tryz.func162, Tryz.ntmps162
  go_wp2_with (at_builtin; refine Lib.wpList_append_run _ rfl (.tmp 8) (.tmp 9) 54 54 rfl _ _ rfl rfl _ _ HR.out ?_)
  go_loopw [0, 5] (fun pg q wr => ∃ wn pos : Nat, q = .int .i64 (wn : Int) ∧ wr.heap[w1.heap.size]? = some (.stringIter s pos) ∧ Hid (wn ≤ pos ∧ pos ≤ s.size ∧ (∀ (j : Nat) (hj : j < s.size), wn ≤ j → j < pos → plainB (s[j]'hj) = false) ∧ Pv wr B pg (bs ++ [32, 61] ++ esc (s.data.toList.take wn)) ∧ Pf B W wr)) (fun _ _ wr => s.size - wr.iterPos w1.heap.size)
  case atStart =>
    refine ⟨0, 0, rfl, ?_, Nat.le_refl _, Nat.zero_le _, fun j _ _ h => by omega, ?_, ?_⟩
    · have := World.iter_heap w1 s 0
      simpa using this
    · have : Pv (w1.iter s 0) B v1 (bs ++ [32, 61]) := H1.out.1.al (.stringIter s 0)
      simpa [esc] using this
    · exact H1.out.2.alloc HBW _
  case round =>
    clear H1 HR
    obtain ⟨wn, pos, rfl, hit, hst⟩ := hrel
    obtain ⟨hwp, hps, hpl, hp, hf⟩ := hst.out
    by_cases hlt : pos < s.size
    · have hnx : ∀ ty, (Instr.next (.pointer (some ⟨w1.heap.size, 0, none⟩)) true ty).run Tryz.prog wr = _ := fun ty => Lib.run_next_any_at wr w1.heap.size s pos ty hit hlt
      have hit2 := Lib.iterAt_heap wr w1.heap.size s pos (pos + (Utf8.decode s pos).2) hit
      have hp2 := hp.iter hit (by omega : B ≤ w1.heap.size) (pos + (Utf8.decode s pos).2)
      have hf2 := hf.iter hz1 (by omega : B ≤ w1.heap.size) s (pos + (Utf8.decode s pos).2)
      obtain ⟨r, hr, hwd, hr2, hcase⟩ := rune_at s pos hlt
      generalize hW : wr.iterAt w1.heap.size s (pos + (Utf8.decode s pos).2) = V at *
      generalize hwdt : (Utf8.decode s pos).2 = wd at *
      rw [hr] at hnx
      simp only at hnx
      have hes := ext_size s wn pos
      have hln := HLn.out wn (by omega)
      have HH := mkHid (hidden_v' hp2 (s.extract wn pos) (by simp only [List.length_append, List.length_cons, List.length_nil]; omega))
      have hesc := hid_esc_ext s wn pos hwp (by omega) hpl
      have hb1 : (wn : Int) ≤ (pos : Int) := by omega
      have hb2 : (pos : Int) ≤ (s.size : Int) := by omega
      have hb3 : (0 : Int) ≤ (wn : Int) := by omega
      have hb4 : (0 : Int) ≤ (pos : Int) := by omega
      have hit3 := mkHid hit2
      have HP : Hid (∀ W' : World, Calls Tryz.prog 164 #[.int .i32 (r : Int)] W' fun e w' => e = .returned (.bool (plainR r)) ∧ Bl W' w') := fun W' => isPlain_ok r hr2 W'
      have hnd : Hid (∀ (j : Nat) (hj : j < s.size), plainR r = false → pos ≤ j → j < pos + wd → plainB (s[j]'hj) = false) := mkHid (by
        intro j hj hpr h1 h2
        rcases hcase with ⟨q1, q2, q3⟩ | ⟨q1, q2⟩
        · have : j = pos := by omega
          subst this
          unfold plainR at hpr
          rw [if_pos (by omega)] at hpr
          have e : UInt8.ofNat r = s[j] := by rw [q2]; simp
          rwa [e] at hpr
        · have hb := (rune_bytes s pos hlt q1).2 (j - pos) (by omega)
          have e : pos + (j - pos) = j := by omega
          rw [e, byte_get s j hj] at hb
          exact plain_high _ hb)
      have hle : Hid (pos + wd ≤ s.size) := mkHid (by
        rcases hcase with ⟨q1, q2, q3⟩ | ⟨q1, q2⟩
        · omega
        · have := (rune_bytes s pos hlt q1).1; omega)
      have hpr : Hid (plainR r = true → wd = 1 ∧ UInt8.ofNat r = s[pos] ∧ r < 128) := mkHid (fun hp => by
        unfold plainR at hp
        by_cases h : r < 128
        · rcases hcase with ⟨q1, q2, q3⟩ | ⟨q1, q2⟩
          · exact ⟨q3, by rw [q2]; simp, h⟩
          · omega
        · rw [if_neg h] at hp; cases hp)
      have HIT := mkHid hit
      have HWD := mkHid hwd
      have hw8 : ∀ n : Nat, n < 256 → IntKind.u8.wrap (n : Int) = (n : Int) := by decide +kernel
      cases hpb : plainR r
      · rw [hpb] at HP
        have hnd2 := mkHid (fun j hj => hnd.out j hj hpb)
        clear hst hp hf hp2 hr hcase hln hpl hes hW hit hwd hr2 hpr hnd hpb
        go_wp2_with (first
          | (go_at_call 163; refine HH.out.mono ?_; rintro e w2 ⟨v2, rfl, q1, q2⟩; have G2 := mkHid (And.intro q1 q2); have IT := mkHid (q2.hb hit3.out (fun c fz => by simp)); clear q1 q2)
          | (go_at_call 164; refine (HP.out _).mono ?_; rintro e w3 ⟨rfl, b3⟩; have B3 := mkHid b3; clear b3))
        go_roundw
        case rel =>
          have IT3 := (B3.out.block _ (lt_of_heap IT.out)).trans IT.out
          refine ⟨pos, pos + wd, rfl, IT3, by omega, hle.out, fun j hj h1 h2 => hnd2.out j hj h1 h2, ?_, (hf2.trans G2.out.2).bl HBW B3.out⟩
          have := G2.out.1.bl B3.out
          rw [List.append_assoc, ← hesc] at this
          exact this
        case measure =>
          have IT3 := (B3.out.block _ (lt_of_heap IT.out)).trans IT.out
          have h1 := HWD.out
          simp only [World.iterPos, IT3, HIT.out]
          omega
      · rw [hpb] at HP
        obtain ⟨q1, q2, q3⟩ := hpr.out hpb
        obtain ⟨c, hc⟩ : ∃ c, s[pos]'hlt = c := ⟨_, rfl⟩
        rw [hc] at q2
        have hrc : r = c.toNat := by rw [← q2]; simp; omega
        have hpc : plainB c = true := by rw [← q2]; unfold plainR at hpb; rwa [if_pos q3] at hpb
        have hen : Hid (esc (s.data.toList.take (pos + 1)) = esc (s.data.toList.take pos) ++ [c]) := mkHid (by rw [esc_next s pos hlt, hc, escB_pl c hpc])
        have hlnp := HLn.out pos (by omega)
        have hlnp2 : Hid ((bs ++ [32, 61] ++ esc (s.data.toList.take wn) ++ hidB (s.extract wn pos).data.toList).length + [c].length ≤ 140737488355328) := mkHid (by
          rw [List.append_assoc, ← hesc]
          simp only [List.length_append, List.length_cons, List.length_nil]
          omega)
        subst hrc
        subst q1
        have hc8 := hw8 c.toNat c.toNat_lt
        clear hst hp hf hp2 hr hcase hln hpl hes hW hit hwd hr2 hpr hnd hpb hlnp hw8 q2 q3 hc hpc
        go_wp2_with (first
          | (go_at_call 163; refine HH.out.mono ?_; rintro e w2 ⟨v2, rfl, q1, q2⟩; have G2 := mkHid (And.intro q1 q2); have IT := mkHid (q2.hb hit3.out (fun c fz => by simp)); clear q1 q2)
          | (go_at_call 164; refine (HP.out _).mono ?_; rintro e w3 ⟨rfl, b3⟩; have B3 := mkHid b3; clear b3; obtain ⟨v4, w4, hr4, hp4, hf4⟩ := (G2.out.1.bl B3.out).push [c] (by simp) hlnp2.out; have HR4 := mkHid hr4; have G4 := mkHid (And.intro hp4 hf4); clear hr4 hp4 hf4)
          | (at_builtin; refine Lib.wpList_append_run _ rfl (.tmp 26) (.tmp 29) 54 54 rfl _ _ rfl rfl _ _ HR4.out ?_))
        go_roundw
        case rel =>
          have IT3 := (B3.out.block _ (lt_of_heap IT.out)).trans IT.out
          have IT4 := G4.out.2.hb IT3 (fun c fz => by simp)
          refine ⟨pos + 1, pos + 1, by go_num, IT4, Nat.le_refl _, hle.out, fun j hj h1 h2 => by omega, ?_, ((hf2.trans G2.out.2).bl HBW B3.out).trans G4.out.2⟩
          have := G4.out.1
          rw [List.append_assoc (bs ++ [32, 61]), ← hesc, List.append_assoc, ← hen.out] at this
          exact this
        case measure =>
          have IT3 := (B3.out.block _ (lt_of_heap IT.out)).trans IT.out
          have IT4 := G4.out.2.hb IT3 (fun c fz => by simp)
          simp only [World.iterPos, IT4, HIT.out]
          omega
    · have hnx : ∀ ty, (Instr.next (.pointer (some ⟨w1.heap.size, 0, none⟩)) true ty).run Tryz.prog wr = _ := fun ty => Lib.run_next_end_at wr w1.heap.size s pos ty hit hlt
      have hes := ext_size s wn s.size
      have hln := HLn.out wn (by omega)
      have hpe : pos = s.size := by omega
      have HH := mkHid (hidden_v' hp (s.extract wn s.size) (by simp only [List.length_append, List.length_cons, List.length_nil]; omega))
      have hesc := hid_esc_ext s wn s.size (by omega) (Nat.le_refl _) (fun j hj h1 h2 => hpl j hj h1 (by omega))
      have hb1 : (wn : Int) ≤ (s.size : Int) := by omega
      have hb3 : (0 : Int) ≤ (wn : Int) := by omega
      have HX : Hid (∀ v' w', Pv w' B v' (bs ++ [32, 61] ++ esc (s.data.toList.take wn) ++ hidB (s.extract wn s.size).data.toList) → Pf B wr w' → WrV W B bs (32 :: wordB s.data.toList) (.returned v') w') := mkHid (fun v' w' k1 k2 => by
        refine ⟨v', rfl, ?_, hf.trans k2⟩
        rw [List.append_assoc (bs ++ [32, 61]), ← hesc] at k1
        have e : s.data.toList.take s.size = s.data.toList := List.take_of_length_le (by rw [Array.length_toList]; exact Nat.le_refl _)
        rw [e] at k1
        simpa [wordB] using k1)
      clear hst hp hf hpl hes hln hesc hit
      go_wp2_with fail
      go_wp2_with (go_at_call 163; refine HH.out.mono ?_; rintro e w2 ⟨v2, rfl, q1, q2⟩; have G2 := mkHid (HX.out v2 w2 q1 q2); clear q1 q2)
      go_ret
      exact G2.out
theorem text_v {W : World} {B : Nat} {v : Value} {bs : Bs} (h : Pv W B v bs) (s : Bs) (hl : bs.length + 6 * s.length + 10 ≤ 140737488355000) : Calls Tryz.prog 162 #[v, .string (ba s)] W fun e w' => WrV W B bs (32 :: wordB s) e w' := by
  have := text_v' h (ba s) (by rw [ba_size]; exact hl)
  rwa [ba_data] at this
end Go.Proofs.YtheolmnjedbjmaaGreatDoor

