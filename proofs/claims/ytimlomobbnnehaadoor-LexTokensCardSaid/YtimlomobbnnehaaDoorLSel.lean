import Derived.Test.YtimlomobbnnehaaDoorLSym
namespace Go.Proofs.YtimlomobbnnehaaDoor
open Go.RowKit
set_option linter.unusedVariables false
set_option linter.unusedSimpArgs false
def nameB (l : Bs) : Bool := decide (l ≠ [] ∧ nameLen l = l.length)
def opB (l : Bs) : Bool := decide (l ≠ [] ∧ opLen l = l.length)
def symB (l : Bs) : Bool := decide (l ≠ [] ∧ symLen l = l.length)
def smallB (l : Bs) : Bool := isS (hd l)
def resB (l : Bs) : Bool := decide (l = [115, 101, 108, 102] ∨ l = [115, 117, 112, 101, 114] ∨ l = [110, 105, 108] ∨ l = [116, 114, 117, 101] ∨ l = [102, 97, 108, 115, 101])
def kwsNF : Nat → Bs → Option Nat
  | 0, l => if l = [] then some 0 else none
  | f + 1, l => if l = [] then some 0 else if kwLen l = 0 ∨ isS (hd l) = false then none else (kwsNF f (l.drop (kwLen l))).map (· + 1)
def kwsN (l : Bs) : Option Nat := kwsNF l.length l
theorem kwsNF_any : ∀ (f g : Nat) (l : Bs), l.length ≤ f → l.length ≤ g → kwsNF f l = kwsNF g l := by
  intro f
  induction f with
  | zero =>
    intro g l hf hg
    have : l = [] := List.length_eq_zero_iff.1 (by omega)
    subst this
    cases g <;> simp [kwsNF]
  | succ f ih =>
    intro g l hf hg
    by_cases hl : l = []
    · subst hl; cases g <;> simp [kwsNF]
    · have := List.length_pos_iff.2 hl
      obtain ⟨g, rfl⟩ : ∃ g', g = g' + 1 := ⟨g - 1, by omega⟩
      unfold kwsNF
      rw [if_neg hl, if_neg hl]
      by_cases hk : kwLen l = 0 ∨ isS (hd l) = false
      · rw [if_pos hk, if_pos hk]
      · rw [if_neg hk, if_neg hk, ih g (l.drop (kwLen l)) (by simp; omega) (by simp; omega)]
theorem kwsN_step (l : Bs) : kwsN l = if l = [] then some 0 else if kwLen l = 0 ∨ isS (hd l) = false then none else (kwsN (l.drop (kwLen l))).map (· + 1) := by
  by_cases hl : l = []
  · subst hl; rfl
  · have := List.length_pos_iff.2 hl
    unfold kwsN
    obtain ⟨n, hn⟩ : ∃ n, l.length = n + 1 := ⟨l.length - 1, by omega⟩
    rw [hn]
    unfold kwsNF
    rw [if_neg hl, if_neg hl]
    by_cases hk : kwLen l = 0 ∨ isS (hd l) = false
    · rw [if_pos hk, if_pos hk]
    · rw [if_neg hk, if_neg hk, kwsNF_any n (l.drop (kwLen l)).length _ (by simp; omega) (Nat.le_refl _)]
      cases (l.drop (kwLen l)).length <;> rfl
def kwAns (o : Option Nat) : Nat × Nat := match o with | some (n + 1) => (n + 1, 0) | _ => (0, 1)
/-- how many arguments, and the error's number -/
def sel (l : Bs) : Nat × Nat := if nameB l = true ∧ smallB l = true ∧ resB l = false then (0, 0) else if opB l = true then (1, 0) else kwAns (kwsN l)
def vari (l : Bs) : Nat := if resB l = true then 78 else if nameB l = true then 0 else 1
theorem lst_nil {s : ByteArray} : lst s = [] ↔ s.size = 0 := by
  rw [← lst_len]; exact List.length_eq_zero_iff.symm
theorem tl_lst (s : ByteArray) : s.toList = lst s := ByteArray.toList_eq s
set_option maxHeartbeats 4000000 in
theorem isName_ok (s : ByteArray) (w : World) (hs : s.size ≤ 140737488355328) : Calls Tryd.prog 32 #[.string s] w fun e w' => e = .returned (.bool (nameB (lst s))) ∧ Bl w w' := by
  by_cases h0 : s.size = 0
  · have hE : s.toList.isEmpty = true := isEmpty_of h0
    have e : nameB (lst s) = false := decide_eq_false (fun h => h.1 (lst_nil.2 h0))
    go_enter Tryd.func32, Tryd.ntmps32
    go_wp2_with (go_at_call 50; refine (nameLength_ok s w hs).mono ?_; rintro e w1 ⟨rfl, b1⟩)
    go_ret
    exact ⟨by rw [e]; rfl, Bl.refl w⟩
  · have hE : s.toList.isEmpty = false := not_empty_of h0
    have e : Hid (nameB (lst s) = ((nameLen (lst s) : Int) == (s.size : Int))) := by
      unfold Hid nameB
      rw [Bool.eq_iff_iff, lst_len]
      simp only [decide_eq_true_eq, beq_iff_eq, lst_nil, ne_eq]
      omega
    go_enter Tryd.func32, Tryd.ntmps32
    go_wp2_with (go_at_call 50; refine (nameLength_ok s w hs).mono ?_; rintro e w1 ⟨rfl, b1⟩)
    all_goals (go_ret; exact ⟨by rw [e.out]; rfl, b1⟩)
set_option maxHeartbeats 4000000 in
theorem isOp_ok (s : ByteArray) (w : World) (hs : s.size ≤ 140737488355328) : Calls Tryd.prog 35 #[.string s] w fun e w' => e = .returned (.bool (opB (lst s))) ∧ w' = w := by
  by_cases h0 : s.size = 0
  · have hE : s.toList.isEmpty = true := isEmpty_of h0
    have e : opB (lst s) = false := decide_eq_false (fun h => h.1 (lst_nil.2 h0))
    go_enter Tryd.func35, Tryd.ntmps35
    go_wp2_with (go_at_call 54; refine (opLength_ok s w hs).mono ?_; rintro e w1 ⟨rfl, rfl⟩)
    go_ret
    exact ⟨by rw [e]; rfl, rfl⟩
  · have hE : s.toList.isEmpty = false := not_empty_of h0
    have e : Hid (opB (lst s) = ((opLen (lst s) : Int) == (s.size : Int))) := by
      unfold Hid opB
      rw [Bool.eq_iff_iff, lst_len]
      simp only [decide_eq_true_eq, beq_iff_eq, lst_nil, ne_eq]
      omega
    go_enter Tryd.func35, Tryd.ntmps35
    go_wp2_with (go_at_call 54; refine (opLength_ok s w hs).mono ?_; rintro e w1 ⟨rfl, rfl⟩)
    all_goals (go_ret; exact ⟨by rw [e.out]; rfl, rfl⟩)
set_option maxHeartbeats 4000000 in
theorem isSmall_ok (s : ByteArray) (w : World) : Calls Tryd.prog 33 #[.string s] w fun e w' => e = .returned (.bool (smallB (lst s))) ∧ w' = w := by
  by_cases h0 : s.size = 0
  · have hE : s.toList.isEmpty = true := isEmpty_of h0
    have e : smallB (lst s) = false := by rw [lst_nil.2 h0]; rfl
    go_enter Tryd.func33, Tryd.ntmps33
    go_wp2
    go_ret
    exact ⟨by rw [e]; rfl, rfl⟩
  · have hE : s.toList.isEmpty = false := not_empty_of h0
    have hp : 0 < s.size := by omega
    have b0 : Hid (hd (lst s) = (s[0]'hp).toNat) := get_lst s 0 hp
    go_enter Tryd.func33, Tryd.ntmps33
    go_wp2
    all_goals (go_ret; exact ⟨congrArg (fun b => Ending.returned (Value.bool b)) (by unfold smallB; rw [b0.out, Bool.eq_iff_iff, isS_iff]; simp <;> omega), rfl⟩)
set_option maxHeartbeats 4000000 in
theorem isRes_ok (s : ByteArray) (w : World) : Calls Tryd.prog 34 #[.string s] w fun e w' => e = .returned (.bool (resB (lst s))) ∧ w' = w := by
  have e : Hid (resB (lst s) = (s.toList == [115, 101, 108, 102] || (s.toList == [115, 117, 112, 101, 114] || (s.toList == [110, 105, 108] || (s.toList == [116, 114, 117, 101] || s.toList == [102, 97, 108, 115, 101]))))) := by
    unfold Hid resB
    rw [tl_lst, Bool.eq_iff_iff]
    simp
  go_enter Tryd.func34, Tryd.ntmps34
  go_wp2
  all_goals (go_ret; refine ⟨?_, rfl⟩; rw [e.out]; simp_all)
end Go.Proofs.YtimlomobbnnehaaDoor

