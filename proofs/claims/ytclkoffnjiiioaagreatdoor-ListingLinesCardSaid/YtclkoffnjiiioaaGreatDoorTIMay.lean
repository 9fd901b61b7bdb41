import Derived.Test.YtclkoffnjiiioaaGreatDoorTIPr
namespace Go.Proofs.YtclkoffnjiiioaaGreatDoor
open Go.RowKit
set_option linter.unusedVariables false
set_option linter.unusedSimpArgs false
attribute [local go_sem ↓] Go.wp_at_zero Go.wp_at_succ
set_option maxRecDepth 100000 in
set_option maxHeartbeats 4000000 in
theorem may_ok (g off : Nat) (t : LitT) (w : World) (h : LitAt w g off t) (ht : t.text.size ≤ 140737488355328) (hl : t.kids.length ≤ 2513169434916) : Calls Tryz.prog 29 #[.pointer (some ⟨g, off, none⟩)] w fun e w' => e = .returned (.bool (mayB t)) ∧ w' = w := by
  obtain ⟨c0, c1, c2, c3'⟩ := h
  have c3 : w.cell? ⟨g, off + 3, none⟩ = some (.slice t.p t.kids.length t.c) := c3'
  clear c3'
  obtain ⟨mb, hmb⟩ : ∃ b, mayB t = b := ⟨_, rfl⟩
  have HO := mkHid hmb
  unfold mayB at HO
  rw [hmb]
  clear hmb
  generalize t.kind = k at *
  generalize t.text = tx at *
  generalize t.num = nm at *
  generalize t.kids.length = n at *
  generalize t.p = pi at *
  generalize t.c = ci at *
  have hk : k = 1 ∨ k = 3 ∨ k = 2 ∨ k = 4 ∨ k = 5 ∨ k = 6 ∨ k = 7 ∨ ((k == 1) = false ∧ (k == 3) = false ∧ (k == 2) = false ∧ (k == 4) = false ∧ (k == 5) = false ∧ (k == 6) = false ∧ (k == 7) = false) := by
    by_cases h1 : k = 1
    · exact .inl h1
    by_cases h2 : k = 3
    · exact .inr (.inl h2)
    by_cases h3 : k = 2
    · exact .inr (.inr (.inl h3))
    by_cases h4 : k = 4
    · exact .inr (.inr (.inr (.inl h4)))
    by_cases h5 : k = 5
    · exact .inr (.inr (.inr (.inr (.inl h5))))
    by_cases h6 : k = 6
    · exact .inr (.inr (.inr (.inr (.inr (.inl h6)))))
    by_cases h7 : k = 7
    · exact .inr (.inr (.inr (.inr (.inr (.inr (.inl h7))))))
    exact .inr (.inr (.inr (.inr (.inr (.inr (.inr ⟨beq_eq_false_iff_ne.2 h1, beq_eq_false_iff_ne.2 h2, beq_eq_false_iff_ne.2 h3, beq_eq_false_iff_ne.2 h4, beq_eq_false_iff_ne.2 h5, beq_eq_false_iff_ne.2 h6, beq_eq_false_iff_ne.2 h7⟩))))))
  rcases hk with rfl | rfl | rfl | rfl | rfl | rfl | rfl | ⟨k1, k3, k2, k4, k5, k6, k7⟩
  case inr.inr.inr.inr.inr.inr.inr =>
    have HF : Hid (mb = false) := by
      have := HO.out
      rw [if_neg, if_neg, if_neg, if_neg] at this
      · exact this.symm
      · simp at k5 k6 k7; omega
      · simpa using k4
      · simpa using k2
      · simp at k1 k3; omega
    clear HO
    go_enter Tryz.func29, Tryz.ntmps29
    go_wp2_with fail
    go_ret
    exact ⟨by rw [HF.out]; rfl, rfl⟩
  all_goals
    have HE := HO.out
    simp only [reduceIte, Int.reduceEq, or_true, true_or, or_false, false_or, or_self] at HE
    replace HE := mkHid HE
    clear HO
    go_enter Tryz.func29, Tryz.ntmps29
    go_wp2_with fail
    all_goals
      go_ret
      refine ⟨?_, rfl⟩
      rw [← HE.out]
      try simp_all
      try (intros; omega)
set_option maxRecDepth 100000 in
set_option maxHeartbeats 2000000 in
theorem byItself_ok (x g off : Nat) (t : LitT) (w : World) (h : LitAt w g off t) (ht : t.text.size ≤ 140737488355328) (hl : t.kids.length ≤ 2513169434916) : Calls Tryz.prog 17 #[.pointer (some ⟨x, 0, none⟩), .pointer (some ⟨g, off, none⟩)] w fun e w' => e = .returned (.int .i64 (if topB t = false then 120 else 0)) ∧ w' = w := by
  have HM := mkHid (may_ok g off t w h ht hl)
  have c0 := h.c0
  obtain ⟨tb, htb⟩ : ∃ b, topB t = b := ⟨_, rfl⟩
  have HO := mkHid htb
  unfold topB at HO
  rw [htb]
  clear h ht hl htb
  generalize t.kind = k at *
  generalize mayB t = mb at *
  by_cases k2 : k = 2
  · subst k2
    have HE : Hid (mb = tb) := by show mb = tb; have := HO.out; simpa using this
    cases mb
    all_goals
      have hq := HE.out
      subst hq
      go_enter Tryz.func17, Tryz.ntmps17
      go_wp2_with (go_at_call 29; refine HM.out.mono ?_; rintro e w1 ⟨rfl, rfl⟩)
      go_ret
      exact ⟨rfl, rfl⟩
  · have q2 : (k != 2) = true := by simpa using k2
    by_cases k4 : k = 4
    · subst k4
      have HE : Hid (mb = tb) := by show mb = tb; have := HO.out; simpa using this
      cases mb
      all_goals
        have hq := HE.out
        subst hq
        go_enter Tryz.func17, Tryz.ntmps17
        go_wp2_with (go_at_call 29; refine HM.out.mono ?_; rintro e w1 ⟨rfl, rfl⟩)
        go_ret
        exact ⟨rfl, rfl⟩
    · have q4 : (k != 4) = true := by simpa using k4
      have hq : false = tb := by have := HO.out; simpa [k2, k4] using this
      subst hq
      clear HO
      go_enter Tryz.func17, Tryz.ntmps17
      go_wp2_with fail
      go_ret
      exact ⟨rfl, rfl⟩
/-- what looking at an element leaves -/
def IaP (x n : Nat) (t : LitT) (w : World) (e : Ending) (w' : World) : Prop := (mayB t = false ∧ e = .returned (.int .i64 120) ∧ w' = w) ∨ (mayB t = true ∧ e = .returned (.int .i64 (if 4096 < n + 1 then 73 else 0)) ∧ w' = w.setCell ⟨x, 0, none⟩ (.int .i64 ((n + 1 : Nat) : Int)))
set_option maxRecDepth 100000 in
set_option maxHeartbeats 2000000 in
theorem inArray_ok (x g off n : Nat) (t : LitT) (w : World) (h : LitAt w g off t) (ht : t.text.size ≤ 140737488355328) (hl : t.kids.length ≤ 2513169434916) (hx : w.cell? ⟨x, 0, none⟩ = some (.int .i64 (n : Int))) (hz : w.frozen? ⟨x, 0, none⟩ = false) (hn : n ≤ 100000) :
    Calls Tryz.prog 49 #[.pointer (some ⟨x, 0, none⟩), .pointer (some ⟨g, off, none⟩)] w fun e w' => IaP x n t w e w' := by
  have HM := mkHid (may_ok g off t w h ht hl)
  clear h ht hl
  obtain ⟨mb, hmb⟩ : ∃ b, mayB t = b := ⟨_, rfl⟩
  have HB := mkHid hmb
  rw [hmb] at HM
  clear hmb
  cases mb
  · go_enter Tryz.func49, Tryz.ntmps49
    go_wp2_with (go_at_call 29; refine HM.out.mono ?_; rintro e w1 ⟨rfl, rfl⟩)
    go_ret
    exact .inl ⟨HB.out, rfl, rfl⟩
  · by_cases hb : 4096 < n + 1
    · have HC : Hid (4096 < n + 1) := hb
      have q : decide (4096 < (n : Int) + 1) = true := decide_eq_true (by omega)
      clear hb
      go_enter Tryz.func49, Tryz.ntmps49
      go_wp2_with (go_at_call 29; refine HM.out.mono ?_; rintro e w1 ⟨rfl, rfl⟩)
      go_ret
      exact .inr ⟨HB.out, by rw [if_pos HC.out]; rfl, by push_cast; rfl⟩
    · have HC : Hid (¬ 4096 < n + 1) := hb
      have q : decide (4096 < (n : Int) + 1) = false := decide_eq_false (by omega)
      clear hb
      go_enter Tryz.func49, Tryz.ntmps49
      go_wp2_with (go_at_call 29; refine HM.out.mono ?_; rintro e w1 ⟨rfl, rfl⟩)
      go_ret
      exact .inr ⟨HB.out, by rw [if_neg HC.out]; rfl, by push_cast; rfl⟩
end Go.Proofs.YtclkoffnjiiioaaGreatDoor

