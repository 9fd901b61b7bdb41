import Derived.Test.YtimlomobbnnehaaDoorLGap
import Derived.Laws.IdiomStrings
import Derived.Laws.BytesArg
import Derived.Deep.AppendLies
namespace Go.Proofs.YtimlomobbnnehaaDoor
open Go.RowKit Go.Maps
set_option linter.unusedVariables false
set_option linter.unusedSimpArgs false
theorem info5 : (Tryd.prog.info? 5).map (fun i => (i.zero, i.size, i.bytes)) = some (some (.int .u8 0), 1, 1) := by kernel_rfl
def bcs (b : Bs) : List Value := b.map fun c => .int .u8 (c.toNat : Int)
/-- an own row of bytes under way -/
structure BO (w : World) (b : Bs) (v : Value) (W : World) : Prop where
  own : W.ownsRow w.heap.size 5 1 v b.length (bcs b)
  bl : Bl w W
theorem own_blockB {w : World} {base : Nat} {v : Value} {n : Nat} {xs : List Value} (h : w.ownsRow base 5 1 v n xs) {g : Nat} (hg : v.ownBlock = some g) : base ≤ g ∧ g < w.heap.size := by
  rcases h.2 with ⟨rfl, _⟩ | ⟨g', cap, cur, rfl, h1, h2, _⟩
  · cases hg
  · have e : g' = g := by simpa [Value.ownBlock] using hg
    subst e
    exact ⟨h1, lt_of_heap h2⟩
theorem BO.append {w X w5 : World} {b : Bs} {v v' : Value} {c : UInt8} (h : BO w b v X) (hg : (X.alloc (.cells #[.int .u8 (c.toNat : Int)] 5)).grownBy w5 v.ownBlock) (ho : w5.ownsRow w.heap.size 5 1 v' (b.length + 1) (bcs b ++ [.int .u8 (c.toNat : Int)])) : BO w (b ++ [c]) v' w5 where
  own := by
    have e : bcs (b ++ [c]) = bcs b ++ [.int .u8 (c.toNat : Int)] := by simp [bcs]
    rw [e, List.length_append]
    exact ho
  bl := by
    have hb := h.bl.trans (Bl.alloc X (.cells #[.int .u8 (c.toNat : Int)] 5))
    exact ⟨hg.os.trans hb.os, hg.tape.trans hb.tape, hg.output.trans hb.output, Nat.le_trans hb.size hg.size, fun k hk => by
      rw [hg.block k (Nat.lt_of_lt_of_le hk hb.size) (fun e => by have := (own_blockB h.own e.symm).1; omega)]
      exact hb.block k hk⟩
theorem BO.conv {w W : World} {b : Bs} {v : Value} (h : BO w b v W) : (convert 66 9 v).run Tryd.prog W = .ok (.string (ba b)) W := by
  rcases h.own.2 with ⟨rfl, h0⟩ | ⟨g, cap, cur, rfl, h1, h2, h3, h4, h5, h6⟩
  · have hb : b = [] := List.length_eq_zero_iff.1 h0
    subst hb
    exact run_convert_bytes_nil W 66 5 Tryd.underlying66 Tryd.underlying5 0 0 9 Tryd.underlying9
  · refine run_convert_bytes_back W 66 9 5 ⟨g, 0, none⟩ cap b Tryd.underlying66 Tryd.underlying5 Tryd.underlying9 (fun j hj => ?_)
    have hp : (⟨g, 0, none⟩ : Addr).add j = ⟨g, j, none⟩ := by unfold Addr.add; simp; exact fun h => h.symm
    rw [hp, cell_in h2, ← Array.getElem?_toList]
    have h7 : (cur.toList.take (b.length * 1))[j]? = cur.toList[j]? := by rw [List.getElem?_take, if_pos (by omega)]
    rw [← h7, h6]
    simp [bcs, List.getElem?_eq_getElem hj]
end Go.Proofs.YtimlomobbnnehaaDoor

