import Derived.Test.YtimlomobbnnehaaDoorLKey
namespace Go.Proofs.YtimlomobbnnehaaDoor
open Go.RowKit
set_option linter.unusedVariables false
set_option linter.unusedSimpArgs false
def strN : Value → Nat | .string s => s.size | _ => 0
theorem kwsF_any {l : Bs} {f g : Nat} (hf : l.length ≤ f) (hg : l.length ≤ g) : kwsF f l = kwsF g l := by
  have := kwsF_ext (R := []) (Or.inl rfl) f g l [] hf hg (fun _ => by simp [hd]) (by rw [List.append_nil]; exact kwsF_le _ _)
  rwa [List.append_nil] at this
theorem kwsLen_step (l : Bs) : kwsLen l = if kwLen l = 0 then 0 else kwLen l + kwsLen (l.drop (kwLen l)) := by
  unfold kwsLen
  cases h : l.length with
  | zero =>
    have : l = [] := List.length_eq_zero_iff.1 h
    subst this
    rfl
  | succ n =>
    show (if kwLen l = 0 then 0 else kwLen l + kwsF n (l.drop (kwLen l))) = _
    by_cases hk : kwLen l = 0
    · rw [if_pos hk, if_pos hk]
    · rw [if_neg hk, if_neg hk, kwsF_any (l := l.drop (kwLen l)) (by simp; omega) (Nat.le_refl _)]
set_option maxHeartbeats 4000000 in
set_option maxRecDepth 1000000 in
theorem digLength_ok (s : ByteArray) (w : World) (hs : s.size ≤ 140737488355328) :
    Calls Tryd.prog 52 #[.string s] w fun e w' => e = .returned (.int .i64 (digLen (lst s))) ∧ Bl w w' := by
  go_enter Tryd.func52, Tryd.ntmps52
  go_wp2
  go_loopw [] (fun wr => ∃ pos : Nat, wr.heap[w.heap.size]? = some (.stringIter s pos) ∧ Below w.heap.size w wr ∧ pos ≤ s.size ∧ ∀ j, j < pos → isD (hd ((lst s).drop j)) = true) (fun wr => s.size - wr.iterPos w.heap.size)
  case atStart =>
    refine ⟨0, ?_, (Below.refl _ w).alloc (Nat.le_refl _) _, Nat.zero_le _, fun j h => by omega⟩
    have := World.iter_heap w s 0
    simpa using this
  case round =>
    obtain ⟨pos, hit, hb, hps, h1⟩ := hrel
    have hfin : (∀ h : pos < s.size, isD (hd ((lst s).drop pos)) = false) → digLen (lst s) = pos := fun h => by
      unfold digLen
      refine tw_eq dN (lst s) pos (by rw [lst_len]; omega) (fun j hj hjk => ?_) (fun h' => ?_)
      · unfold dN; rw [hd_at hj]; exact h1 j hjk
      · unfold dN; rw [hd_at h']; exact h (by rw [lst_len] at h'; exact h')
    by_cases hp : pos < s.size
    · have hnx : ∀ ty, (Instr.next (.pointer (some ⟨w.heap.size, 0, none⟩)) true ty).run Tryd.prog wr = _ := fun ty => Lib.run_next_any_at wr w.heap.size s pos ty hit hp
      have hit2 := Lib.iterAt_heap wr w.heap.size s pos (pos + (Utf8.decode s pos).2) hit
      have hbw2 := Lib.below_iterAt hb (k := w.heap.size) (Nat.le_refl _) s (pos + (Utf8.decode s pos).2)
      obtain ⟨r, hr, hw1, hr2, hcase⟩ := rune_at s pos hp
      generalize hW : wr.iterAt w.heap.size s (pos + (Utf8.decode s pos).2) = W at *
      rw [hr] at hnx
      simp only at hnx
      clear hr hW
      have hDr : isD (hd ((lst s).drop pos)) = isD r := by
        rcases hcase with h | h
        · rw [h.2.1]
        · have : ∀ n, 128 ≤ n → isD n = false := fun n hn => by rw [Bool.eq_false_iff]; intro hc; rw [isD_iff] at hc; omega
          rw [this _ h.1, this _ h.2]
      have hgo : isD r = true → (Utf8.decode s pos).2 = 1 := fun h => by
        rcases hcase with h2 | h2
        · exact h2.2.2
        · exfalso; rw [isD_iff] at h; omega
      clear hcase
      by_cases cD : isD r = true
      · have hw := hgo cD
        go_wp2_with (go_at_call 29; refine (isDigit_ok r _).mono ?_; rintro e w' ⟨rfl, rfl⟩)
        go_roundw
        case rel =>
          refine ⟨pos + 1, by rw [hit2, hw], hbw2, by omega, fun j hj => ?_⟩
          by_cases hj2 : j < pos
          · exact h1 j hj2
          · have : j = pos := by omega
            subst this
            rw [hDr]; exact cD
        case measure =>
          simp only [World.iterPos, hit2, hit]
          omega
      · have cD' : isD r = false := by simpa using cD
        have hf := hfin (fun _ => by rw [hDr]; exact cD')
        clear cD
        go_wp2_with (go_at_call 29; refine (isDigit_ok r _).mono ?_; rintro e w' ⟨rfl, rfl⟩)
        go_ret
        exact ⟨by rw [hf]; rfl, hbw2⟩
    · have hnx : ∀ ty, (Instr.next (.pointer (some ⟨w.heap.size, 0, none⟩)) true ty).run Tryd.prog wr = _ := fun ty => Lib.run_next_end_at wr w.heap.size s pos ty hit hp
      have hf := hfin (fun h => absurd h hp)
      go_wp2
      go_wp2
      go_ret
      refine ⟨?_, hb⟩
      rw [hf]
      have : pos = s.size := by omega
      rw [this]
      rfl
set_option maxHeartbeats 4000000 in
set_option maxRecDepth 1000000 in
theorem symLength_ok (s : ByteArray) (w : World) (hs : s.size ≤ 140737488355328) :
    Calls Tryd.prog 53 #[.string s] w fun e w' => e = .returned (.int .i64 (symLen (lst s))) ∧ Bl w w' := by
  have hk0 := kwLength_ok s w hs
  go_enter Tryd.func53, Tryd.ntmps53
  go_wp2_with (go_at_call 51; refine hk0.mono ?_; rintro e w1 ⟨rfl, b1⟩)
  go_loopw [3, 4] (fun a c wr => ∃ n : Nat, n ≤ s.size ∧ a = .int .i64 n ∧ c = .int .i64 (kwLen ((lst s).drop n)) ∧ kwsLen (lst s) = n + kwsLen ((lst s).drop n) ∧ Hid (Bl w wr)) (fun a _ _ => s.size - (intOf a).toNat)
  case atStart => exact ⟨0, Nat.zero_le _, rfl, rfl, by simp, b1⟩
  case round =>
    obtain ⟨n, hn, rfl, rfl, hkw, hB⟩ := hrel
    have hst := kwsLen_step ((lst s).drop n)
    have hle := kwLen_le ((lst s).drop n)
    rw [List.length_drop, lst_len] at hle
    rw [List.drop_drop] at hst
    by_cases hz : kwLen ((lst s).drop n) = 0
    · rw [if_pos hz] at hst
      have e : kwsLen (lst s) = n := by omega
      rw [hz]
      by_cases n0 : n = 0
      · have es : symLen (lst s) = max (nameLen (lst s)) (opLen (lst s)) := by unfold symLen; rw [if_pos (by omega)]
        have hnm := nameLength_ok s wr hs
        have hl1 := nameLen_le (lst s)
        have hl2 := opLen_le (lst s)
        rw [lst_len] at hl1 hl2
        subst n0
        clear hkw hst hz hle e
        go_wp2_with (go_at_call 50; fail)
        go_wp2_with (first | (go_at_call 50; refine hnm.mono ?_; rintro e w2 ⟨rfl, b2⟩) | (go_at_call 54; refine (opLength_ok s _ hs).mono ?_; rintro e w3 ⟨rfl, rfl⟩))
        go_ret
        refine ⟨?_, hB.out.trans b2⟩
        rw [es]
        exact congrArg (fun n => Ending.returned (Value.int .i64 n)) (by omega)
      · have es : symLen (lst s) = n := by unfold symLen; rw [if_neg (by omega), e]
        clear hkw hst hz hle e
        go_wp2
        go_wp2
        go_ret
        exact ⟨by rw [es]; rfl, hB.out⟩
    · rw [if_neg hz] at hst
      have hk := kwLength_ok (s.extract (n + kwLen ((lst s).drop n)) s.size) wr (by rw [size_from]; omega)
      rw [lst_from] at hk
      have hm : n + kwLen ((lst s).drop n) ≤ s.size := by omega
      have hm0 : 0 < kwLen ((lst s).drop n) := by omega
      have hK : Hid (kwsLen (lst s) = (n + kwLen ((lst s).drop n)) + kwsLen ((lst s).drop (n + kwLen ((lst s).drop n)))) := by unfold Hid; omega
      clear hst hkw hz hle
      generalize kwLen ((lst s).drop n) = d at *
      have hi : (n : Int) + d ≤ s.size := by omega
      go_wp2_with (go_at_call 51; refine hk.mono ?_; rintro e w2 ⟨rfl, b2⟩)
      go_roundw
      case rel => exact ⟨n + d, hm, by simp, rfl, hK.out, hB.out.trans b2⟩
      case measure => simp [intOf]; omega
end Go.Proofs.YtimlomobbnnehaaDoor

