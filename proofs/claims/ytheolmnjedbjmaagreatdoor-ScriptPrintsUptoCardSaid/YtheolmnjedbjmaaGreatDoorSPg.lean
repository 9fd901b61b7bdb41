import Derived.Test.YtheolmnjedbjmaaGreatDoorSBase
import Derived.Test.YtheolmnjedbjmaaGreatDoorSShelf
import Derived.Lib.AppendStr
import Derived.Lib.OthersKept
import Derived.Deep.MidRow
namespace Go.Proofs.YtheolmnjedbjmaaGreatDoor
open Go.RowKit
set_option linter.unusedVariables false
set_option linter.unusedSimpArgs false
/-- a page of bytes of one's own -/
structure Pg (W : World) (B : Nat) (v : Value) (bs : List UInt8) : Prop where
  row : W.ownsRow B 5 1 v bs.length (Lib.byteCells bs)
  low : B ≤ W.heap.size
  tab : Lib.TabBelow Tryz.prog B W "internal/strconv.uint64pow10" .u64 Lib.pow10Tab
/-- what writing on a page leaves -/
structure Pf (B : Nat) (w w' : World) : Prop where
  below : Below B w w'
  others : Lib.OthersKept 5 none w w'
theorem Pf.refl (B : Nat) (w : World) : Pf B w w := ⟨Below.refl _ _, Lib.OthersKept.refl _ _ _⟩
theorem Pf.trans {B : Nat} {a b c : World} (h : Pf B a b) (k : Pf B b c) : Pf B a c := ⟨h.below.trans k.below, h.others.trans k.others⟩
theorem Pf.alloc {B : Nat} {a b : World} (h : Pf B a b) (hB : B ≤ a.heap.size) (o : Obj) : Pf B a (b.alloc o) := ⟨h.below.trans ((Fr.alloc [] b o).below (Nat.le_trans hB h.below.size) (by simp)), h.others.alloc o⟩
theorem Pf.dn {B : Nat} {a b : World} (h : Pf B a b) (hB : B ≤ a.heap.size) (n : Nat) : Pf B a (b.drewN n) := ⟨h.below.trans ((Fr.drewN [] b n).below (Nat.le_trans hB h.below.size) (by simp)), h.others⟩
theorem Pf.hb {B : Nat} {w w' : World} (h : Pf B w w') {k : Nat} {o : Obj} (hk : w.heap[k]? = some o) (ho : ∀ c fz, o ≠ .cells c 5 fz) : w'.heap[k]? = some o := h.others k o hk (by simp) ho
theorem info5x : (Tryz.prog.info? 5).map (fun i => (i.zero, i.size, i.bytes)) = some (some (.int .u8 0), 1, 1) := by kernel_rfl
theorem byteCells_one (l : List UInt8) : ∀ v ∈ Lib.byteCells l, v.oneCell' = true := by
  intro v hv
  simp only [Lib.byteCells, List.mem_map] at hv
  obtain ⟨b, _, rfl⟩ := hv
  rfl
theorem pf_grown {B : Nat} {w w' : World} {v : Value} {n : Nat} {xs : List Value} (ho : w.ownsRow B 5 1 v n xs) (hB : B ≤ w.heap.size) (hg : w.grownBy w' v.ownBlock) : Pf B w w' := by
  refine ⟨(Fr.grown (S := v.ownBlock.toList) hg (fun k hk => by rw [hk]; simp)).below hB (fun b hb => ?_), (Lib.OthersKept.refl 5 none w).grown hg (fun g hg' => ?_)⟩
  · have : v.ownBlock = some b := by simpa using hb
    exact (own_lt ho b this).1
  · obtain ⟨c, hc⟩ := row_block ho hg'
    exact ⟨c, _, hc⟩
/-- bytes more on a page -/
theorem Pg.push {W : World} {B : Nat} {v : Value} {bs : List UInt8} (h : Pg W B v bs) (news : List UInt8) (hl : bs.length + news.length ≤ 140737488355328) :
    ∃ v' w', (Builtin.append_ #[54, 54] 54 #[v, .slice (some ⟨W.heap.size, 0, none⟩) news.length news.length]).run Tryz.prog (W.alloc (.cells (Lib.byteCells news).toArray 5)) = .ok v' w' ∧ Pg w' B v' (bs ++ news) ∧ Pf B W w' := by
  obtain ⟨i5, ii, iz, is, ib⟩ := info_parts info5x
  have ho := h.row
  have ho2 : (W.alloc (.cells (Lib.byteCells news).toArray 5)).ownsRow B 5 1 v bs.length (Lib.byteCells bs) := own_congr ho fun g hg => Below.heap_alloc _ _ _ (own_lt ho g hg).2
  have hnew := heap_alloc_new W (.cells (Lib.byteCells news).toArray 5)
  obtain ⟨v', w', hr, ho3, hg, -, -⟩ := run_append_own_at (P := Tryz.prog) (w := W.alloc (.cells (Lib.byteCells news).toArray 5)) B 54 54 5 i5 (.int .u8 0) 1 1 Tryz.underlying54 ii iz is ib rfl (by decide) v bs.length (Lib.byteCells bs) ho2 ⟨W.heap.size, 0, none⟩ news.length news.length (Lib.byteCells news) (by rw [Lib.byteCells_length]; omega) (fun j u hu => by
      have : (⟨W.heap.size, 0, none⟩ : Addr).add j = ⟨W.heap.size, j, none⟩ := by rw [Addr.add_mid]; simp
      rw [this, cell_in hnew j]
      simpa using hu) (byteCells_one news) (by unfold maxLen; omega) (by omega) (by simp; have := h.low; omega)
  have hpf : Pf B W w' := ((Pf.refl B W).alloc h.low _).trans (pf_grown ho2 (by simp; have := h.low; omega) hg)
  exact ⟨v', w', hr, ⟨by rw [List.length_append, Lib.byteCells_append]; exact ho3, Nat.le_trans h.low hpf.below.size, h.tab.on hpf.below⟩, hpf⟩
/-- a text more on a page -/
theorem Pg.str {W : World} {B : Nat} {v : Value} {bs : List UInt8} (h : Pg W B v bs) (s : ByteArray) (hl : bs.length + s.size ≤ 140737488355328) :
    ∃ v' w', (Builtin.append_ #[54, 9] 54 #[v, .string s]).run Tryz.prog W = .ok v' w' ∧ Pg w' B v' (bs ++ s.data.toList) ∧ Pf B W w' := by
  obtain ⟨i5, ii, iz, is, ib⟩ := info_parts info5x
  obtain ⟨v', w', hr, ho3, hg, -⟩ := Lib.run_append_own_string (P := Tryz.prog) (w := W) B 54 9 54 5 i5 Tryz.underlying54 Tryz.underlying9 ii iz is ib v bs.length (Lib.byteCells bs) h.row s (by unfold maxLen; omega) hl h.low
  have hpf : Pf B W w' := pf_grown h.row h.low hg
  refine ⟨v', w', hr, ⟨?_, Nat.le_trans h.low hpf.below.size, h.tab.on hpf.below⟩, hpf⟩
  rw [List.length_append, Lib.byteCells_append]
  exact ho3
theorem Pg.al {W : World} {B : Nat} {v : Value} {bs : List UInt8} (h : Pg W B v bs) (o : Obj) : Pg (W.alloc o) B v bs := ⟨own_congr h.row fun g hg => Below.heap_alloc _ _ _ (own_lt h.row g hg).2, by simp; have := h.low; omega, h.tab.on ((Fr.alloc [] W o).below h.low (by simp))⟩
theorem Pg.dr {W : World} {B : Nat} {v : Value} {bs : List UInt8} (h : Pg W B v bs) (n : Nat) : Pg (W.drewN n) B v bs := ⟨own_congr h.row fun g hg => rfl, h.low, h.tab.on ((Fr.drewN [] W n).below h.low (by simp))⟩
/-- what a writer leaves -/
def WrP (W : World) (B : Nat) (bs news : List UInt8) (e : Ending) (w' : World) : Prop := ∃ v', e = .returned v' ∧ Pg w' B v' (bs ++ news) ∧ Pf B W w'
/-- a number more on a page -/
theorem Pg.num {W : World} {B : Nat} {v : Value} {bs : List UInt8} (h : Pg W B v bs) (i : Int) (h0 : -9223372036854775808 ≤ i) (h1 : i ≤ 9223372036854775807) (hl : bs.length + 21 ≤ 140737488355328) : Calls Tryz.prog 42 #[v, .int .i64 i, .int .i64 10] W fun e w' => WrP W B bs (Lib.itoa i) e w' := by
  refine (Tryz.strconv_AppendInt_10 B bs.length i h0 h1 v (Lib.byteCells bs) W h.row h.low hl h.tab).mono ?_
  rintro e w' ⟨v', rfl, ho, hb, hk⟩
  exact ⟨v', rfl, ⟨by rw [List.length_append, Lib.byteCells_append]; exact ho, Nat.le_trans h.low hb.size, h.tab.on hb⟩, hb, hk⟩
end Go.Proofs.YtheolmnjedbjmaaGreatDoor

