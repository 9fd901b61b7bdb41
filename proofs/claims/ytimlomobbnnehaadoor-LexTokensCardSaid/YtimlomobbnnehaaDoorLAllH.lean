import Derived.Test.YtimlomobbnnehaaDoorLAllGm
import Derived.Test.YtimlomobbnnehaaDoorLTokC
namespace Go.Proofs.YtimlomobbnnehaaDoor
open Go.RowKit Go.Maps
set_option linter.unusedVariables false
set_option linter.unusedSimpArgs false
theorem rToken_ok (s : ByteArray) (a : Nat) (w : World) (ha : a < s.size) (hs : s.size ≤ 140737488355328) (h1 : isB (hd ((lst s).drop a)) = false) (h2 : hd ((lst s).drop a) ≠ 34) : Calls Tryd.prog 18 #[.string s, .int .i64 a] w fun e w' =>
    e = .returned (tokR (cutQ ((lst s).drop a)) a) ∧ Bl w w' := by
  by_cases c1 : isL (hd ((lst s).drop a)) = true
  · exact rToken_word s a w ha hs c1
  by_cases c2 : isD (hd ((lst s).drop a)) = true
  · exact rToken_int s a w ha hs c2
  by_cases c3 : hd ((lst s).drop a) = 35
  · exact rToken_hash s a w ha hs c3
  by_cases c4 : isO (hd ((lst s).drop a)) = true
  · exact rToken_op s a w ha hs c4
  by_cases c5 : hd ((lst s).drop a) = 39
  · exact rToken_text s a w ha hs c5
  refine rToken_mark s a w ha hs ?_
  unfold kindN
  rw [if_neg (by rw [h1]; simp), if_neg h2, if_neg c3, if_neg c5]
  by_cases c6 : markK (hd ((lst s).drop a)) ≠ 0
  · left; rw [if_pos c6]
  · right; rw [if_neg c6, if_neg c1, if_neg c2, if_neg c4]
/-- what All answers of a source of any length -/
def AllR (l : Bs) (ts : List (Tok × Nat)) (c a : Nat) : Prop := ∃ us er, Lx 0 l us er ∧ ((er = none ∧ ts = us ++ [(stopT, l.length)] ∧ c = 0 ∧ a = 0) ∨ (∃ p, er = some p ∧ ts = [] ∧ c = 70 ∧ a = p))
/-- All under way -/
structure AL (w : World) (s : ByteArray) (acc : List (Tok × Nat)) (at' : Nat) (v : Value) (W : World) : Prop where
  res : W.heap[w.heap.size]? = some (.cells #[.int .i64 0, .int .i64 0] 25 (0, 0))
  own : W.ownsRow (w.heap.size + 1) 41 4 v acc.length (tcs acc)
  bl : Bl w W
  lx : ∀ ts e, Lx at' ((lst s).drop at') ts e → Lx 0 (lst s) (acc ++ ts) e
  le : at' ≤ s.size
  al : acc.length ≤ at'
theorem AL.keep {w W V : World} {s : ByteArray} {acc : List (Tok × Nat)} {a : Nat} {v : Value} (h : AL w s acc a v W) (b : Bl W V) : AL w s acc a v V where
  res := (b.block _ (lt_of_heap h.res)).trans h.res
  own := ownR_congr h.own (fun g hg => b.block g (own_block h.own hg).2) (Nat.le_refl _)
  bl := h.bl.trans b
  lx := h.lx
  le := h.le
  al := h.al
theorem AL.append {w X w5 : World} {s : ByteArray} {acc : List (Tok × Nat)} {a a' : Nat} {v v' : Value} {x : Tok × Nat} (h : AL w s acc a v X) (hg : X.grownBy w5 v.ownBlock)
    (ho : w5.ownsRow (w.heap.size + 1) 41 4 v' (acc.length + 1) (tcs acc ++ tc x)) (hlx : ∀ ts e, Lx a' ((lst s).drop a') ts e → Lx 0 (lst s) ((acc ++ [x]) ++ ts) e) (hle : a' ≤ s.size) (hal : a < a' ∨ acc.length < a') : AL w s (acc ++ [x]) a' v' w5 where
  res := (hg.block _ (lt_of_heap h.res) (fun e => by have := (own_block h.own e.symm).1; omega)).trans h.res
  own := by
    rw [tcs_app]
    have e : tcs [x] = tc x := by simp [tcs]
    rw [e, List.length_append]
    exact ho
  bl := ⟨hg.os.trans h.bl.os, hg.tape.trans h.bl.tape, hg.output.trans h.bl.output, Nat.le_trans h.bl.size hg.size, fun k hk => by
    rw [hg.block k (Nat.lt_of_lt_of_le hk h.bl.size) (fun e => by have := (own_block h.own e.symm).1; omega)]
    exact h.bl.block k hk⟩
  lx := hlx
  le := hle
  al := by have := h.al; simp; omega
end Go.Proofs.YtimlomobbnnehaaDoor
