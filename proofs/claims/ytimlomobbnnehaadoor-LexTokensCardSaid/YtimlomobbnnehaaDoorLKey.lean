import Derived.Test.YtimlomobbnnehaaDoorLWord
import Derived.Lib.IndexBytes
namespace Go.Proofs.YtimlomobbnnehaaDoor
open Go.RowKit
set_option linter.unusedVariables false
set_option linter.unusedSimpArgs false
theorem lst_from (s : ByteArray) (k : Nat) : lst (s.extract k s.size) = (lst s).drop k := Lib.extract_to_end s k
theorem size_from (s : ByteArray) (k : Nat) : (s.extract k s.size).size = s.size - k := by
  rw [← lst_len, lst_from, List.length_drop, lst_len]
theorem pre1 (l : Bs) (c : UInt8) : Lib.hasPrefix l [c] = decide (hd l = c.toNat) := by
  cases l with
  | nil => rw [decide_eq_false (fun h => by have := c.toNat_lt; rw [show hd [] = 256 from rfl] at h; omega)]; rfl
  | cons d r =>
    have e : hd (d :: r) = d.toNat := rfl
    rw [e]
    simp [Lib.hasPrefix, List.isPrefixOf]
    rw [Bool.eq_iff_iff]
    simp
    rw [eq_comm, UInt8.toNat_inj]
theorem pre2 (l : Bs) (c d : UInt8) : Lib.hasPrefix l [c, d] = decide (hd l = c.toNat ∧ hd (l.drop 1) = d.toNat) := by
  cases l with
  | nil => rw [decide_eq_false (fun h => by have := c.toNat_lt; have h := h.1; rw [show hd [] = 256 from rfl] at h; omega)]; rfl
  | cons x r =>
    have h := pre1 r d
    have e : hd (x :: r) = x.toNat := rfl
    have e2 : (x :: r).drop 1 = r := rfl
    rw [e, e2]
    unfold Lib.hasPrefix at h ⊢
    rw [List.isPrefixOf_cons_cons, h, Bool.eq_iff_iff]
    simp
    intro _
    rw [eq_comm, UInt8.toNat_inj]
theorem prefix_b (s p : ByteArray) (b : Bool) (h : Lib.hasPrefix s.data.toList p.data.toList = b) (w : World) : Calls Tryd.prog 56 #[.string s, .string p] w fun e w' => e = .returned (.bool b) ∧ w' = w := by
  subst h; exact Tryd.strings_HasPrefix s p w
set_option maxHeartbeats 4000000 in
set_option maxRecDepth 1000000 in
theorem kwLength_ok (s : ByteArray) (w : World) (hs : s.size ≤ 140737488355328) : Calls Tryd.prog 51 #[.string s] w fun e w' => e = .returned (.int .i64 (kwLen (lst s))) ∧ Bl w w' := by
  have hn := nameLength_ok s w hs
  have hle := nameLen_le (lst s)
  rw [lst_len] at hle
  have e0 : Hid (nameLen (lst s) = 0 → kwLen (lst s) = 0) := mkHid fun h => by unfold kwLen; rw [if_neg (by rintro ⟨h1, _⟩; exact h1 h)]
  have p1 := pre1 ((lst s).drop (nameLen (lst s))) 58
  have p2 := pre2 ((lst s).drop (nameLen (lst s))) 58 61
  have e1 : Hid (hd ((lst s).drop (nameLen (lst s))) ≠ 58 → kwLen (lst s) = 0) := mkHid fun h => by
    unfold kwLen; rw [if_neg]; rintro ⟨_, h2⟩; unfold colonAt at h2; exact h (of_decide_eq_true h2).1
  have e2 : Hid (hd (((lst s).drop (nameLen (lst s))).drop 1) = 61 → kwLen (lst s) = 0) := mkHid fun h => by
    unfold kwLen; rw [if_neg]; rintro ⟨_, h2⟩; unfold colonAt at h2; exact (of_decide_eq_true h2).2 h
  have e3 : Hid (nameLen (lst s) ≠ 0 → hd ((lst s).drop (nameLen (lst s))) = 58 → hd (((lst s).drop (nameLen (lst s))).drop 1) ≠ 61 → kwLen (lst s) = nameLen (lst s) + 1) := mkHid fun h1 h2 h3 => by
    unfold kwLen; rw [if_pos ⟨h1, by unfold colonAt; exact decide_eq_true ⟨h2, h3⟩⟩]
  rw [← lst_from] at p1 p2 e1 e2 e3
  generalize nameLen (lst s) = k at *
  unfold lst at p1 p2
  have kz : (k : Int) ≤ s.size := by omega
  have hf : ∀ {n : Nat}, kwLen (lst s) = n → ∀ {v : Value}, v = .int .i64 n → Ending.returned v = Ending.returned (.int .i64 (kwLen (lst s))) := by rintro n h v rfl; rw [h]
  by_cases k0 : k = 0
  · have e := e0.out k0
    subst k0
    go_enter Tryd.func51, Tryd.ntmps51
    go_wp2_with (go_at_call 50; refine hn.mono ?_; rintro e w1 ⟨rfl, b1⟩)
    go_ret
    exact ⟨hf e rfl, b1⟩
  · by_cases c1 : hd (lst (s.extract k s.size)) = 58
    · have q1 : Lib.hasPrefix (s.extract k s.size).data.toList [58] = true := by rw [p1]; exact decide_eq_true c1
      by_cases c2 : hd ((lst (s.extract k s.size)).drop 1) = 61
      · have q2 : Lib.hasPrefix (s.extract k s.size).data.toList [58, 61] = true := by rw [p2]; exact decide_eq_true ⟨c1, c2⟩
        have e := e2.out c2
        clear p1 p2 c1 c2
        go_enter Tryd.func51, Tryd.ntmps51
        go_wp2_with (first | (go_at_call 50; refine hn.mono ?_; rintro e w1 ⟨rfl, b1⟩) | (go_at_call 56; refine (prefix_b _ ⟨#[58]⟩ _ q1 _).mono ?_; rintro e w' ⟨rfl, rfl⟩) | (go_at_call 56; refine (prefix_b _ ⟨#[58, 61]⟩ _ q2 _).mono ?_; rintro e w' ⟨rfl, rfl⟩))
        go_ret
        exact ⟨hf e rfl, b1⟩
      · have q2 : Lib.hasPrefix (s.extract k s.size).data.toList [58, 61] = false := by rw [p2]; exact decide_eq_false (fun h => c2 h.2)
        have e := e3.out k0 c1 c2
        clear p1 p2 c1 c2
        go_enter Tryd.func51, Tryd.ntmps51
        go_wp2_with (first | (go_at_call 50; refine hn.mono ?_; rintro e w1 ⟨rfl, b1⟩) | (go_at_call 56; refine (prefix_b _ ⟨#[58]⟩ _ q1 _).mono ?_; rintro e w' ⟨rfl, rfl⟩) | (go_at_call 56; refine (prefix_b _ ⟨#[58, 61]⟩ _ q2 _).mono ?_; rintro e w' ⟨rfl, rfl⟩))
        go_ret
        exact ⟨hf e rfl, b1⟩
    · have q1 : Lib.hasPrefix (s.extract k s.size).data.toList [58] = false := by rw [p1]; exact decide_eq_false c1
      have e := e1.out c1
      clear p1 p2 c1
      go_enter Tryd.func51, Tryd.ntmps51
      go_wp2_with (first | (go_at_call 50; refine hn.mono ?_; rintro e w1 ⟨rfl, b1⟩) | (go_at_call 56; refine (prefix_b _ ⟨#[58]⟩ _ q1 _).mono ?_; rintro e w' ⟨rfl, rfl⟩) | (go_at_call 56; refine (prefix_b _ ⟨#[58, 61]⟩ _ q2 _).mono ?_; rintro e w' ⟨rfl, rfl⟩))
      go_ret
      exact ⟨hf e rfl, b1⟩
end Go.Proofs.YtimlomobbnnehaaDoor

