import Derived.Test.YtimlomobbnnehaaDoorLTokD
import Derived.Test.YtimlomobbnnehaaDoorLSame
import Derived.Test.YtimlomobbnnehaaDoorLSelect
namespace Go.Proofs.YtimlomobbnnehaaDoor
open Go.RowKit Go.Maps
set_option linter.unusedVariables false
set_option linter.unusedSimpArgs false
set_option maxHeartbeats 8000000 in
set_option maxRecDepth 1000000 in
/-- Tokens of any source -/
theorem tokens_ok (s : ByteArray) (w : World) (hT : Tab w) (hs : s.size ≤ 140737488355328) : Calls Tryd.prog 5 #[.string s] w fun e w' =>
    ∃ v ts c a, e = .returned (.tuple #[v, .agg #[.int .i64 (c : Nat), .int .i64 (a : Nat)]]) ∧ LexR (lst s) ts c a ∧ w'.ownsRow w.heap.size 41 4 v ts.length (tcs ts) ∧ Bl w w' := by
  by_cases h : s.size ≤ 4096
  · exact tokens_small s w hT h
  · have hsi : (4096 : Int) < s.size := by omega
    go_enter Tryd.func5, Tryd.ntmps5
    go_wp2_with fail
    have hb : Bl w (w.alloc (.cells #[.int .i64 73, .int .i64 4096] 25)) := Bl.alloc _ _
    exact ret26 (ts := []) (c := 73) (a := 4096) (heap_alloc_new w _) rfl rfl (Or.inl ⟨by rw [lst_len]; omega, rfl, rfl, rfl⟩) ⟨rfl, Or.inl ⟨rfl, rfl⟩⟩ hb
def lexF : Nat → Nat → Bs → Option (List (Tok × Nat) × Option Nat)
  | 0, _, _ => none
  | f + 1, p, l => if l = [] then some ([], none) else match cut l with
    | none => some ([], some p)
    | some (none, n) => lexF f (p + n) (l.drop n)
    | some (some t, n) => (lexF f (p + n) (l.drop n)).map (fun x => ((t, p) :: x.1, x.2))
/-- what a source's tokens are, told by a reckoning -/
theorem lx_of (f : Nat) : ∀ (p : Nat) (l : Bs) (ts : List (Tok × Nat)) (e : Option Nat), lexF f p l = some (ts, e) → Lx p l ts e := by
  induction f with
  | zero => intro p l ts e h; cases h
  | succ f ih =>
    intro p l ts e h
    unfold lexF at h
    by_cases hl : l = []
    · rw [if_pos hl] at h; cases h; subst hl; exact .stop p
    · rw [if_neg hl] at h
      cases hc : cut l with
      | none => rw [hc] at h; cases h; exact .bad p l hl hc
      | some x =>
        obtain ⟨x, n⟩ := x
        rw [hc] at h
        cases x with
        | none => exact .pass p l n ts e hc (ih _ _ _ _ h)
        | some t =>
          simp only at h
          obtain ⟨⟨us, e'⟩, h1, h2⟩ := Option.map_eq_some_iff.1 h
          simp at h2
          obtain ⟨rfl, rfl⟩ := h2
          exact .tok p l t n us _ hc (ih _ _ _ _ h1)
end Go.Proofs.YtimlomobbnnehaaDoor

