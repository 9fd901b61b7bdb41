import Derived.Test.YtimlomobbnnehaaGreatDoorG14LBld
import Derived.Test.YtimlomobbnnehaaGreatDoorG15LBack
import Derived.Test.YtimlomobbnnehaaGreatDoorG09LPc
import Derived.Test.YtimlomobbnnehaaGreatDoorG08LRefA
namespace Go.Proofs.YtimlomobbnnehaaGreatDoor
open Go.RowKit Go.Maps
set_option linter.unusedVariables false
set_option linter.unusedSimpArgs false
theorem shw_wr {t : Tok} (h : canB t) : shw t.kind t.text t.num = wr t := by
  obtain ⟨k, x, m⟩ := t
  obtain ⟨h0, h⟩ := h
  simp only at h0 h
  have e : ∀ a b : Nat, ((a : Int) = (b : Int)) ↔ a = b := fun a b => by omega
  have hi : Lib.itoa (m : Int) = Lib.decDigits m := by unfold Lib.itoa; rw [if_neg (by omega)]; simp
  rcases h with ⟨rfl | rfl, h2⟩ | ⟨rfl, h2⟩ | ⟨rfl, h2, h3⟩ | ⟨rfl, h2⟩ | rfl | ⟨h1, h2, h3⟩
  · simp [shw, wr]
  · simp [shw, wr]
  · simp [shw, wr]
  · simp [shw, wr, hi]
  · simp [shw, wr]
  · simp [shw, wr]
  · have : k = 7 ∨ k = 8 ∨ k = 9 ∨ k = 10 ∨ k = 11 ∨ k = 12 ∨ k = 13 ∨ k = 14 ∨ k = 15 ∨ k = 16 ∨ k = 17 := by omega
    rcases this with rfl | rfl | rfl | rfl | rfl | rfl | rfl | rfl | rfl | rfl | rfl <;> simp [shw, wr, markT]
theorem wr_ne {t : Tok} (h : canB t) : wr t ≠ [] := fun e => by
  have := wr_cut h
  rw [e] at this
  cases this
theorem AllR.unique {l : Bs} {ts ts' : List (Tok × Nat)} {c a c' a' : Nat} (h : AllR l ts c a) (h' : AllR l ts' c' a') : ts' = ts ∧ c' = c ∧ a' = a := by
  obtain ⟨us, er, hx, hr⟩ := h
  obtain ⟨us', er', hx', hr'⟩ := h'
  obtain ⟨rfl, rfl⟩ := hx.unique hx'
  rcases hr with ⟨rfl, rfl, rfl, rfl⟩ | ⟨p, rfl, rfl, rfl, rfl⟩
  · rcases hr' with ⟨_, rfl, rfl, rfl⟩ | ⟨p, h, _⟩
    · exact ⟨rfl, rfl, rfl⟩
    · cases h
  · rcases hr' with ⟨h, _⟩ | ⟨p', h, rfl, rfl, rfl⟩
    · cases h
    · cases h; exact ⟨rfl, rfl, rfl⟩
/-- what may be: its own text is read as it -/
theorem may_yes {k : Int} {x : Bs} {m : Int} (h : canZ k x m) (h18 : k ≠ 18) : ∃ t : Tok, (t.kind : Int) = k ∧ t.text = x ∧ (t.num : Int) = m ∧ shw k x m ≠ [] ∧ AllR (shw k x m) [(t, 0), (stopT, (shw k x m).length)] 0 0 := by
  obtain ⟨hb, e1, e2, e3⟩ := tok_can (z := (k, x, m, 0)) h h18
  have e : shw k x m = wr (tokOf (k, x, m, 0)) := by
    rw [← shw_wr hb]
    rw [e1, e2, e3]
  refine ⟨tokOf (k, x, m, 0), e1, e3, e2, by rw [e]; exact wr_ne hb, ?_⟩
  rw [e]
  exact ⟨[(tokOf (k, x, m, 0), 0)], none, wr_lx hb 0, Or.inl ⟨rfl, rfl, rfl, rfl⟩⟩
theorem may_no {k : Int} {x : Bs} {m : Int} {ts : List (Tok × Nat)} {a : Nat} (h : AllR (shw k x m) ts 0 a) {t : Tok} {p q : Nat} {u : Tok} (ht : ts = [(t, p), (u, q)]) (e1 : (t.kind : Int) = k) (e2 : t.text = x) (e3 : (t.num : Int) = m) : canZ k x m ∧ k ≠ 18 := by
  obtain ⟨us, er, hx, ⟨rfl, h2, _⟩ | ⟨p', _, _, h3, _⟩⟩ := h
  · rw [ht] at h2
    have hmem : (t, p) ∈ us := by
      cases us with
      | nil => simp at h2
      | cons y ys => simp at h2; rw [h2.1]; simp
    have hc := hx.can _ hmem
    obtain ⟨g1, g2⟩ := can_z hc 0
    simp only at g1 g2
    rw [← e1, ← e2, ← e3]
    exact ⟨g1, by omega⟩
  · cases h3
end Go.Proofs.YtimlomobbnnehaaGreatDoor
namespace Go.Proofs.YtimlomobbnnehaaGreatDoor
open Go.RowKit Go.Maps
set_option linter.unusedVariables false
set_option linter.unusedSimpArgs false
def resL : List Bs := [[115, 101, 108, 102], [115, 117, 112, 101, 114], [110, 105, 108], [116, 114, 117, 101], [102, 97, 108, 115, 101]]
theorem resB_iff (l : Bs) : resB l = true ↔ ∃ j, j < 5 ∧ resL.getD j [] = l := by
  unfold resB
  rw [decide_eq_true_eq]
  constructor
  · rintro (h | h | h | h | h)
    · exact ⟨0, by omega, h.symm⟩
    · exact ⟨1, by omega, h.symm⟩
    · exact ⟨2, by omega, h.symm⟩
    · exact ⟨3, by omega, h.symm⟩
    · exact ⟨4, by omega, h.symm⟩
  · rintro ⟨j, hj, rfl⟩
    have : j = 0 ∨ j = 1 ∨ j = 2 ∨ j = 3 ∨ j = 4 := by omega
    rcases this with rfl | rfl | rfl | rfl | rfl <;> simp [resL]
theorem beq_lst (x : Bs) (s : ByteArray) : ((ba x).toList == s.toList) = decide (x = lst s) := by
  rw [tl_lst, tl_lst, lst_ba, Bool.eq_iff_iff]
  simp
end Go.Proofs.YtimlomobbnnehaaGreatDoor

