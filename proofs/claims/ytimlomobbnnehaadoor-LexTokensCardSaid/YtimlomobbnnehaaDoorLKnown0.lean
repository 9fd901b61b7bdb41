import Derived.Test.YtimlomobbnnehaaDoorLTok
namespace Go.Proofs.YtimlomobbnnehaaDoor
open Go.RowKit Go.Maps
set_option linter.unusedVariables false
set_option linter.unusedSimpArgs false
def src1 : ByteArray := ⟨#[120, 32, 58, 61, 32, 51, 45, 45, 35, 97, 58, 98, 58, 32, 39, 105, 116, 39, 39, 115, 39]⟩
def src2 : ByteArray := ⟨#[97, 32, 35, 32, 98]⟩
def src3 : ByteArray := ⟨#[97, 116, 58, 112, 117, 116, 58]⟩
def toks1 : List (Tok × Nat) := [(⟨1, [120], 0⟩, 0), (⟨14, [], 0⟩, 2), (⟨4, [], 3⟩, 5), (⟨3, [45], 0⟩, 6), (⟨3, [45], 0⟩, 7), (⟨5, [97, 58, 98, 58], 0⟩, 8), (⟨6, [105, 116, 39, 115], 0⟩, 14), (stopT, 21)]
def want1 : List (Tok × Nat) := [(⟨1, [120], 0⟩, 0), (⟨14, [], 0⟩, 0), (⟨4, [], 3⟩, 0), (⟨3, [45], 0⟩, 0), (⟨3, [45], 0⟩, 0), (⟨5, [97, 58, 98, 58], 0⟩, 0), (⟨6, [105, 116, 39, 115], 0⟩, 0), (stopT, 0)]
theorem lex1 : LexR (lst src1) toks1 0 0 := by
  refine Or.inr ⟨by decide, toks1.take 7, none, lx_of 20 0 _ _ _ (by decide +kernel), Or.inl ⟨rfl, rfl, rfl, rfl⟩⟩
theorem lex2 : LexR (lst src2) [] 70 2 := by
  refine Or.inr ⟨by decide, [(⟨1, [97], 0⟩, 0)], some 2, lx_of 20 0 _ _ _ (by decide +kernel), Or.inr ⟨2, rfl, rfl, rfl, rfl⟩⟩
theorem agree1 : AgreeT false toks1 want1 := by
  refine ⟨rfl, fun j hj => ⟨?_, fun h => by cases h⟩⟩
  have hj : j < 8 := hj
  have : j = 0 ∨ j = 1 ∨ j = 2 ∨ j = 3 ∨ j = 4 ∨ j = 5 ∨ j = 6 ∨ j = 7 := by omega
  rcases this with rfl | rfl | rfl | rfl | rfl | rfl | rfl | rfl <;> rfl
theorem tokens_is {s : ByteArray} {ts : List (Tok × Nat)} {c a : Nat} (hl : LexR (lst s) ts c a) (hs : s.size ≤ 140737488355328) (w : World) (hT : Tab w) : Calls Tryd.prog 5 #[.string s] w fun e w' =>
    ∃ v, e = .returned (.tuple #[v, .agg #[.int .i64 c, .int .i64 a]]) ∧ w'.ownsRow w.heap.size 41 4 v ts.length (tcs ts) ∧ Bl w w' := by
  refine (tokens_ok s w hT hs).mono ?_
  rintro e w' ⟨v, ts', c', a', rfl, h1, h2, h3⟩
  obtain ⟨rfl, rfl, rfl⟩ := hl.unique h1
  exact ⟨v, rfl, h2, h3⟩
theorem sel3 (w : World) : Calls Tryd.prog 15 #[.string src3] w fun e w' => e = .returned (.tuple #[.int .i64 2, .int .i64 0]) ∧ Bl w w' := by
  have h := sel_ok src3 w (by decide)
  have e : sel (lst src3) = (2, 0) := by decide +kernel
  rw [e] at h
  exact h
def wantC : Array Value := (tcs want1).toArray
theorem want_rd (X : World) : RdT (X.alloc (.cells wantC 41)) (.slice (some ⟨X.heap.size, 0, none⟩) 8 8) want1 := by
  refine RdT.own (base := 0) (ts := want1) ⟨rfl, Or.inr ⟨X.heap.size, 8, wantC, rfl, Nat.zero_le _, heap_alloc_new X _, by decide, by decide, rfl, ?_⟩⟩
  rfl
theorem want_rd2 (X : World) (o : Obj) : RdT ((X.alloc o).alloc (.cells wantC 41)) (.slice (some ⟨X.heap.size + 1, 0, none⟩) 8 8) want1 := by
  have h := want_rd (X.alloc o)
  rwa [show (X.alloc o).heap.size = X.heap.size + 1 from by show (X.heap.push o).size = _; simp] at h
theorem blk_in {X W : World} {o : Obj} (b : Bl (X.alloc o) W) : W.heap[X.heap.size]? = some o := (b.block _ (by show X.heap.size < (X.heap.push o).size; simp)).trans (heap_alloc_new X o)
end Go.Proofs.YtimlomobbnnehaaDoor

