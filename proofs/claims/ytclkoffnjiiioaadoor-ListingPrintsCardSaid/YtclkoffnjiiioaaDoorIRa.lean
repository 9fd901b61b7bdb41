import Derived.Test.YtclkoffnjiiioaaDoorIPt
namespace Go.Proofs.YtclkoffnjiiioaaDoor
open Go.RowKit
set_option linter.unusedVariables false
set_option linter.unusedSimpArgs false
attribute [local go_sem ↓] Go.wp_at_zero Go.wp_at_succ
def okB (top : Bool) (t : LitT) : Bool := if top then topB t else mayB t
/-- what looking at one literal comes to -/
def lit1 (top : Bool) (t : LitT) (n : Nat) : Int × Nat := if okB top t = false then (120, n) else if top then gaT t n else if 4096 < n + 1 then (73, n + 1) else gaT t (n + 1)
theorem gaL_lit (t : LitT) (ts : List LitT) (n : Nat) : gaL (t :: ts) n = if (lit1 false t n).1 ≠ 0 then lit1 false t n else gaL ts (lit1 false t n).2 := by
  rw [gaL_cons]
  unfold lit1 okB
  simp only [Bool.false_eq_true, if_false]
  by_cases h1 : mayB t = false
  · rw [if_pos h1, if_pos h1, if_pos (show (120 : Int) ≠ 0 by decide)]
  · rw [if_neg h1, if_neg h1]
    by_cases h2 : 4096 < n + 1
    · rw [if_pos h2, if_pos h2, if_pos (show (73 : Int) ≠ 0 by decide)]
    · rw [if_neg h2, if_neg h2]
theorem gaU_lit (t : LitT) (ts : List LitT) (n : Nat) : gaU (t :: ts) n = if (lit1 true t n).1 ≠ 0 then lit1 true t n else gaU ts (lit1 true t n).2 := by
  rw [show gaU (t :: ts) n = (if topB t = false then (120, n) else if (gaT t n).1 ≠ 0 then gaT t n else gaU ts (gaT t n).2) from rfl]
  unfold lit1 okB
  simp only [if_true]
  by_cases h1 : topB t = false
  · rw [if_pos h1, if_pos h1, if_pos (show (120 : Int) ≠ 0 by decide)]
  · rw [if_neg h1, if_neg h1]
def wkc (n : Nat) (er : Int) : Array Value := #[.int .i64 (n : Int), .int .i64 er]
set_option maxHeartbeats 1000000 in
theorem rfails_ok (x n : Nat) (e : Int) (V : World) (h : V.heap[x]? = some (.cells (wkc n 0) 55 (0, 0))) : Calls Tryd.prog 29 #[.pointer (some ⟨x, 0, none⟩), .int .i64 e] V fun en w' => en = .returned (.tuple #[]) ∧ Fr [x] V w' ∧ w'.heap[x]? = some (.cells (wkc n e) 55 (0, 0)) := by
  have c1 : V.cell? ⟨x, 1, none⟩ = some (.int .i64 0) := cell_in h 1
  have z1 := frozen_in h 1
  have HE : Hid (Fr [x] V (V.setCell ⟨x, 1, none⟩ (.int .i64 e)) ∧ (V.setCell ⟨x, 1, none⟩ (.int .i64 e)).heap[x]? = some (.cells (wkc n e) 55 (0, 0))) := ⟨Fr.setCell (S := [x]) V ⟨x, 1, none⟩ _ (by simp), by rw [set_in h 1 _]; rfl⟩
  clear h
  go_enter Tryd.func29, Tryd.ntmps29
  go_wp2_with fail
  go_end0
  exact ⟨rfl, HE.out⟩
/-- what looking at a literal leaves -/
def LtP (V : World) (x : Nat) (R : Int × Nat) (e : Ending) (w' : World) : Prop := e = .returned (.tuple #[]) ∧ Fr [x] V w' ∧ w'.heap[x]? = some (.cells (wkc R.2 R.1) 55 (0, 0))
set_option maxRecDepth 100000 in
set_option maxHeartbeats 1000000 in
theorem literal_no (x n : Nat) (er : Int) (hn : er ≠ 0) (t : LitT) (top : Bool) (V : World) (h : V.heap[x]? = some (.cells (wkc n er) 55 (0, 0))) : Calls Tryd.prog 18 #[.pointer (some ⟨x, 0, none⟩), .agg #[.int .i64 t.kind, .string t.text, .int .i64 t.num, t.items], .bool top] V fun e w' => LtP V x (er, n) e w' := by
  have hxl := lt_of_heap h
  have HE : Hid (∀ o, LtP V x (er, n) (.returned (.tuple #[])) (V.alloc o)) := fun o => ⟨rfl, (Fr.alloc [x] V o), al_old h o⟩
  have c1 : V.cell? ⟨x, 1, none⟩ = some (.int .i64 er) := cell_in h 1
  have q1 : (er != 0) = true := by simpa using hn
  unfold LitT.items
  generalize t.kids.length = kl at *
  clear h
  go_enter Tryd.func18, Tryd.ntmps18
  go_wp2_with fail
  go_end0
  exact HE.out _
end Go.Proofs.YtclkoffnjiiioaaDoor
