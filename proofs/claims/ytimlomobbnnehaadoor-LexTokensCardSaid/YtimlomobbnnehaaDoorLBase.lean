import Derived.Test.YtimlomobbnnehaaDoorLLex
import Derived.Test.YtimlomobbnnehaaDoorChecked
import Derived.WalkKit
import Derived.BigCall
import Derived.Lib.OthersKept
import Derived.Laws.RangeAny
namespace Go.Proofs.YtimlomobbnnehaaDoor
open Go.RowKit
set_option linter.unusedVariables false
set_option linter.unusedSimpArgs false
theorem mkHid {p : Prop} (h : p) : Hid p := h
/-- what a text is, byte by byte -/
def lst (s : ByteArray) : Bs := s.data.toList
theorem lst_len (s : ByteArray) : (lst s).length = s.size := rfl
theorem get_lst (s : ByteArray) (k : Nat) (h : k < s.size) : hd ((lst s).drop k) = (s[k]'h).toNat := by
  rw [hd_drop (by rw [lst_len]; exact h)]
  rfl
/-- all that lay there lies there still -/
abbrev Bl (w w' : World) : Prop := Below w.heap.size w w'
theorem Bl.refl (w : World) : Bl w w := Below.refl _ w
theorem Bl.trans {a b c : World} (h : Bl a b) (k : Bl b c) : Bl a c := Below.trans h (Below.mono k h.size)
theorem Bl.alloc (w : World) (o : Obj) : Bl w (w.alloc o) := (Below.refl _ w).alloc (Nat.le_refl _) _
/-- the next of a range over a text, by its byte -/
theorem rune_at (s : ByteArray) (pos : Nat) (h : pos < s.size) : ∃ r : Nat, Utf8.decode s pos = (r, (Utf8.decode s pos).2) ∧ 1 ≤ (Utf8.decode s pos).2 ∧ r ≤ 2147483647 ∧
    ((hd ((lst s).drop pos) < 128 ∧ r = hd ((lst s).drop pos) ∧ (Utf8.decode s pos).2 = 1) ∨ (128 ≤ hd ((lst s).drop pos) ∧ 128 ≤ r)) := by
  have h3 := decode_le s pos
  refine ⟨(Utf8.decode s pos).1, rfl, ?_, h3, ?_⟩
  · by_cases ha : (s[pos]'h).toNat < 128
    · rw [decode_ascii s pos h ha]; exact Nat.le_refl _
    · exact (decode_high s pos h (by omega)).2
  · rw [get_lst s pos h]
    by_cases ha : (s[pos]'h).toNat < 128
    · left; rw [decode_ascii s pos h ha]; exact ⟨ha, rfl, rfl⟩
    · right; exact ⟨by omega, (decode_high s pos h (by omega)).1⟩
theorem tw_eq (p : UInt8 → Bool) : ∀ (l : Bs) (k : Nat), k ≤ l.length → (∀ j (h : j < l.length), j < k → p l[j] = true) → (∀ h : k < l.length, p l[k] = false) → (l.takeWhile p).length = k := by
  intro l
  induction l with
  | nil => intro k h _ _; simp at h; simp [h]
  | cons c r ih =>
    intro k hk h1 h2
    rw [List.takeWhile_cons]
    cases k with
    | zero =>
      have := h2 (by simp)
      simp at this
      simp [this]
    | succ k =>
      rw [if_pos (show p c = true from h1 0 (by simp) (by omega)), List.length_cons, ih k (by simpa using hk) (fun j hj hjk => h1 (j + 1) (by simpa using hj) (by omega)) (fun h => h2 (by simpa using h))]
theorem hd_at {l : Bs} {k : Nat} (h : k < l.length) : (l[k]).toNat = hd (l.drop k) := (hd_drop h).symm
theorem nameLen_at {l : Bs} {k : Nat} (hk : k ≤ l.length) (h0 : 0 < k → isL (hd l) = true) (h1 : ∀ j, j < k → isW (hd (l.drop j)) = true)
    (h2 : k < l.length → isL (hd (l.drop k)) = false ∧ (k ≠ 0 → isD (hd (l.drop k)) = false)) : nameLen l = k := by
  unfold nameLen
  by_cases hz : k = 0
  · subst hz
    by_cases hl : 0 < l.length
    · have := (h2 hl).1
      rw [List.drop_zero] at this
      rw [this]; simp
    · have : l = [] := List.length_eq_zero_iff.1 (by omega)
      subst this
      simp [hd, isL]
  · rw [if_pos (h0 (by omega))]
    refine tw_eq wN l k hk (fun j hj hjk => ?_) (fun h => ?_)
    · unfold wN; rw [hd_at hj]; exact h1 j hjk
    · unfold wN isW; rw [hd_at h, (h2 h).1, (h2 h).2 hz]; rfl
theorem isLetter_ok (r : Nat) (w : World) : Calls Tryd.prog 28 #[.int .i32 r] w fun e w' => e = .returned (.bool (isL r)) ∧ w' = w := by
  go_enter Tryd.func28, Tryd.ntmps28
  go_wp2
  all_goals (go_ret; exact ⟨congrArg (fun b => Ending.returned (Value.bool b)) (by rw [Bool.eq_iff_iff, isL_iff]; simp <;> omega), rfl⟩)
theorem isDigit_ok (r : Nat) (w : World) : Calls Tryd.prog 29 #[.int .i32 r] w fun e w' => e = .returned (.bool (isD r)) ∧ w' = w := by
  go_enter Tryd.func29, Tryd.ntmps29
  go_wp2
  all_goals (go_ret; exact ⟨congrArg (fun b => Ending.returned (Value.bool b)) (by rw [Bool.eq_iff_iff, isD_iff]; simp <;> omega), rfl⟩)
set_option maxHeartbeats 4000000 in
set_option maxRecDepth 1000000 in
theorem nameLength_ok (s : ByteArray) (w : World) (hs : s.size ≤ 140737488355328) :
    Calls Tryd.prog 50 #[.string s] w fun e w' => e = .returned (.int .i64 (nameLen (lst s))) ∧ Bl w w' := by
  go_enter Tryd.func50, Tryd.ntmps50
  go_wp2
  go_loopw [] (fun wr => ∃ pos : Nat, wr.heap[w.heap.size]? = some (.stringIter s pos) ∧ Below w.heap.size w wr ∧ pos ≤ s.size ∧ (0 < pos → isL (hd (lst s)) = true) ∧ ∀ j, j < pos → isW (hd ((lst s).drop j)) = true) (fun wr => s.size - wr.iterPos w.heap.size)
  case atStart =>
    refine ⟨0, ?_, (Below.refl _ w).alloc (Nat.le_refl _) _, Nat.zero_le _, fun h => by omega, fun j h => by omega⟩
    have := World.iter_heap w s 0
    simpa using this
  case round =>
    obtain ⟨pos, hit, hb, hps, h0, h1⟩ := hrel
    by_cases hp : pos < s.size
    · have hnx : ∀ ty, (Instr.next (.pointer (some ⟨w.heap.size, 0, none⟩)) true ty).run Tryd.prog wr = _ := fun ty => Lib.run_next_any_at wr w.heap.size s pos ty hit hp
      have hit2 := Lib.iterAt_heap wr w.heap.size s pos (pos + (Utf8.decode s pos).2) hit
      have hbw2 := Lib.below_iterAt hb (k := w.heap.size) (Nat.le_refl _) s (pos + (Utf8.decode s pos).2)
      obtain ⟨r, hr, hw1, hr2, hcase⟩ := rune_at s pos hp
      generalize hW : wr.iterAt w.heap.size s (pos + (Utf8.decode s pos).2) = W at *
      rw [hr] at hnx
      simp only at hnx
      clear hr hW
      have hg : hd ((lst s).drop pos) = r ∨ (128 ≤ hd ((lst s).drop pos) ∧ 128 ≤ r) := by omega
      have hLr : isL (hd ((lst s).drop pos)) = isL r := by
        rcases hg with h | h
        · rw [h]
        · have : ∀ n, 128 ≤ n → isL n = false := fun n hn => by rw [Bool.eq_false_iff]; intro hc; rw [isL_iff] at hc; omega
          rw [this _ h.1, this _ h.2]
      have hDr : isD (hd ((lst s).drop pos)) = isD r := by
        rcases hg with h | h
        · rw [h]
        · have : ∀ n, 128 ≤ n → isD n = false := fun n hn => by rw [Bool.eq_false_iff]; intro hc; rw [isD_iff] at hc; omega
          rw [this _ h.1, this _ h.2]
      have hgo : (isL r = true ∨ isD r = true) → (Utf8.decode s pos).2 = 1 := fun h => by
        rcases hcase with h2 | h2
        · exact h2.2.2
        · exfalso; rcases h with h | h
          · rw [isL_iff] at h; omega
          · rw [isD_iff] at h; omega
      clear hcase hg
      have hfin : (isL r = false ∧ (pos ≠ 0 → isD r = false)) → nameLen (lst s) = pos := fun h => nameLen_at (by rw [lst_len]; omega) h0 h1 (fun _ => by rw [hLr, hDr]; exact h)
      by_cases cL : isL r = true
      · have hw := hgo (Or.inl cL)
        go_wp2_with (first | (go_at_call 28; refine (isLetter_ok r _).mono ?_; rintro e w' ⟨rfl, rfl⟩) | (go_at_call 29; refine (isDigit_ok r _).mono ?_; rintro e w' ⟨rfl, rfl⟩))
        go_roundw
        case rel =>
          refine ⟨pos + 1, by rw [hit2, hw], hbw2, by omega, fun _ => ?_, fun j hj => ?_⟩
          · by_cases hz : pos = 0
            · subst hz; rw [← List.drop_zero (l := lst s), hLr]; exact cL
            · exact h0 (by omega)
          · by_cases hj2 : j < pos
            · exact h1 j hj2
            · have : j = pos := by omega
              subst this
              unfold isW; rw [hLr, hDr]; simp [cL]
        case measure =>
          simp only [World.iterPos, hit2, hit]
          omega
      · have cL' : isL r = false := by simpa using cL
        clear cL
        by_cases c0 : pos = 0
        · have hf := hfin ⟨cL', fun h => absurd c0 h⟩
          subst c0
          go_wp2_with (first | (go_at_call 28; refine (isLetter_ok r _).mono ?_; rintro e w' ⟨rfl, rfl⟩) | (go_at_call 29; refine (isDigit_ok r _).mono ?_; rintro e w' ⟨rfl, rfl⟩))
          go_ret
          exact ⟨by rw [hf]; rfl, hbw2⟩
        · by_cases cD : isD r = true
          · have hw := hgo (Or.inr cD)
            go_wp2_with (first | (go_at_call 28; refine (isLetter_ok r _).mono ?_; rintro e w' ⟨rfl, rfl⟩) | (go_at_call 29; refine (isDigit_ok r _).mono ?_; rintro e w' ⟨rfl, rfl⟩))
            go_roundw
            case rel =>
              refine ⟨pos + 1, by rw [hit2, hw], hbw2, by omega, fun _ => ?_, fun j hj => ?_⟩
              · by_cases hz : pos = 0
                · subst hz; rw [← List.drop_zero (l := lst s), hLr]; exact (absurd rfl c0)
                · exact h0 (by omega)
              · by_cases hj2 : j < pos
                · exact h1 j hj2
                · have : j = pos := by omega
                  subst this
                  unfold isW; rw [hLr, hDr]; simp [cD]
            case measure =>
              simp only [World.iterPos, hit2, hit]
              omega
          · have cD' : isD r = false := by simpa using cD
            have hf := hfin ⟨cL', fun _ => cD'⟩
            clear cD
            go_wp2_with (first | (go_at_call 28; refine (isLetter_ok r _).mono ?_; rintro e w' ⟨rfl, rfl⟩) | (go_at_call 29; refine (isDigit_ok r _).mono ?_; rintro e w' ⟨rfl, rfl⟩))
            go_ret
            exact ⟨by rw [hf]; rfl, hbw2⟩
    · have hnx : ∀ ty, (Instr.next (.pointer (some ⟨w.heap.size, 0, none⟩)) true ty).run Tryd.prog wr = _ := fun ty => Lib.run_next_end_at wr w.heap.size s pos ty hit hp
      go_wp2
      go_wp2
      go_ret
      refine ⟨?_, hb⟩
      rw [nameLen_at (k := pos) (by rw [lst_len]; omega) h0 h1 (fun h => by rw [lst_len] at h; omega)]
      have : pos = s.size := by omega
      rw [this]
      rfl
end Go.Proofs.YtimlomobbnnehaaDoor

