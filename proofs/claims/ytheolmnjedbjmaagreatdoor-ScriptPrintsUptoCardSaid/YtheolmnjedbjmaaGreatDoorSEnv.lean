import Derived.Test.YtheolmnjedbjmaaGreatDoorSReg
import Derived.Laws.BytesArg
import Derived.Laws.IdiomStrings
import Derived.Lib.SlBytesConst
namespace Go.Proofs.YtheolmnjedbjmaaGreatDoor
open Go.RowKit
set_option linter.unusedVariables false
set_option linter.unusedSimpArgs false
attribute [local go_sem ↓] Go.wp_at_zero Go.wp_at_succ
theorem step_append_run {P : Program} {ops : Array Oper} {o : Oper} {a : Act} {w : World} {K : Act → World → Prop} {Q : Exit → Act → World → Prop} {E : Prop}
    (hg : o.guard = none) (s x : Operand) (t tn : TypeId) (ho : o.op = .call { callee := .builtin .append, args := #[s, x], argTypes := #[t, tn] }) (vs vx : Value) (hs : a.eval s = vs) (hx : a.eval x = vx)
    (v' : Value) (w' : World) (hr : (Builtin.append_ #[t, tn] o.type #[vs, vx]).run P w = .ok v' w') (h : K (a.put o.dst v') w') : if Region.wanted o (yielded ops a.tmps) = true then Oper.wp P o a w K Q else E := by
  have hw : Region.wanted o (yielded ops a.tmps) = true := by simp [Region.wanted, hg]
  rw [if_pos hw]
  exact Lib.wp_append_run w s x t tn ho vs vx hs hx v' w' hr h
theorem stepB2 {ops : Array Oper} {o : Oper} {a : Act} {w w' : World} {v : Value} {K : Act → World → Prop} {Q : Exit → Act → World → Prop} {E : Prop} (hw : Region.wanted o (yielded ops a.tmps) = true) (hr : (execOp a.eval o).run Tryz.prog w = .ok (.value v) w') (h : K (a.put o.dst v) w') : if Region.wanted o (yielded ops a.tmps) = true then Oper.wp Tryz.prog o a w K Q else E := by
  rw [if_pos hw]
  unfold Oper.wp
  rw [hr]
  exact h
theorem twoH {P : Program} {md : Region.Mode} {ops : Array Oper} {Q : Exit → Act → World → Prop} {S : World → Prop} {i j : Nat} {oi oj : Oper} {fuel : Nat} {listed : Array Bool} {a : Act} {w : World} (hr : Region.ready md ops listed = [i, j]) (hi : ops[i]? = some oi) (hj : ops[j]? = some oj)
    (h1 : ∀ K' : Act → World → Prop, Hid (∀ a w, S w → (S w → wpAnyH P md ops Q S fuel (listed.setIfInBounds i true) a w) → K' a w) → if Region.wanted oi (yielded ops a.tmps) = true then Oper.wp P oi a w K' Q else K' (a.put oi.dst undef) w)
    (h2 : ∀ K' : Act → World → Prop, Hid (∀ a w, S w → (S w → wpAnyH P md ops Q S fuel (listed.setIfInBounds j true) a w) → K' a w) → if Region.wanted oj (yielded ops a.tmps) = true then Oper.wp P oj a w K' Q else K' (a.put oj.dst undef) w) : wpAnyH P md ops Q S (fuel + 1) listed a w := by
  refine ⟨fun h0 => (by rw [hr] at h0; cases h0), fun k hk => ?_⟩
  rw [hr] at hk
  have e : k = i ∨ k = j := by simpa using hk
  rcases e with e | e
  · subst e
    exact wpOp_step hi (fun K' hK => h1 K' (fun a w hS hW => hK a w ⟨hS, hW hS⟩))
  · subst e
    exact wpOp_step hj (fun K' hK => h2 K' (fun a w hS hW => hK a w ⟨hS, hW hS⟩))
theorem Pg.conv {W : World} {B : Nat} {v : Value} {bs : List UInt8} (h : Pg W B v bs) : (convert 54 9 v).run Tryz.prog W = .ok (.string ⟨bs.toArray⟩) W := by
  have hr := h.row
  rcases hr.2 with ⟨rfl, h0⟩ | ⟨g, cap, cur, rfl, h1, h2, h3, h4, h5, h6⟩
  · have hb : bs = [] := List.length_eq_zero_iff.1 h0
    subst hb
    exact run_convert_bytes_nil W 54 5 Tryz.underlying54 Tryz.underlying5 0 0 9 Tryz.underlying9
  · refine run_convert_bytes_back W 54 9 5 ⟨g, 0, none⟩ cap bs Tryz.underlying54 Tryz.underlying5 Tryz.underlying9 (fun j hj => ?_)
    have hp : (⟨g, 0, none⟩ : Addr).add j = ⟨g, j, none⟩ := by rw [Addr.add_mid]; simp
    rw [hp, hr.cellAt j (by omega)]
    simp [Lib.byteCells, List.getElem?_eq_getElem hj]
/-- the library's table of powers of ten lies there -/
abbrev Pw (w : World) : Prop := Lib.TabIs Tryz.prog w "internal/strconv.uint64pow10" .u64 Lib.pow10Tab
theorem Pw.low {w w' : World} {B : Nat} (h : Pw w) (hB : w.heap.size ≤ B) (b : Below B w w') : Pw w' := by
  unfold Pw Lib.TabIs World.var? at h ⊢
  cases hg : Tryz.prog.globalNamed "internal/strconv.uint64pow10" with
  | none => rw [hg] at h; cases h
  | some g =>
  rw [hg] at h
  simp only [Option.bind_some] at h ⊢
  have hlt : g < w.heap.size := by
    rcases Nat.lt_or_ge g w.heap.size with h1 | h1
    · exact h1
    · rw [Array.getElem?_eq_none h1] at h
      cases h
  rw [b.block g (by omega)]
  exact h
theorem Pw.tab {w : World} {B : Nat} (h : Pw w) (hB : w.heap.size ≤ B) : Lib.TabBelow Tryz.prog B w "internal/strconv.uint64pow10" .u64 Lib.pow10Tab := fun w' hb => h.low hB hb
theorem Pw.idle {w w' : World} (h : Pw w) (f : Fr [] w w') : Pw w' := h.low (Nat.le_refl _) (f.below (Nat.le_refl _) (by simp))
theorem below_fr {w w' : World} (h : Below w.heap.size w w') : Fr [] w w' := ⟨h.os, h.tape, h.output, h.size, fun k hk _ => h.block k hk⟩

/-- all that lay there lies there still -/
abbrev Bl (w w' : World) : Prop := Below w.heap.size w w'
theorem Bl.refl (w : World) : Bl w w := Below.refl _ w
theorem Bl.trans {a b c : World} (h : Bl a b) (k : Bl b c) : Bl a c := Below.trans h (Below.mono k h.size)
theorem Bl.alloc (w : World) (o : Obj) : Bl w (w.alloc o) := (Below.refl _ w).alloc (Nat.le_refl _) _
theorem Bl.fr {w w' : World} (h : Bl w w') : Fr [] w w' := below_fr h
theorem Fr.bl {w w' : World} (h : Fr [] w w') : Bl w w' := h.below (Nat.le_refl _) (by simp)
theorem bl_drew (w : World) : Bl w w.drew := (Fr.drew [] w).bl
theorem bl_drewN (w : World) (n : Nat) : Bl w (w.drewN n) := (Fr.drewN [] w n).bl
theorem Pw.bl {w w' : World} (h : Pw w) (f : Bl w w') : Pw w' := h.low (Nat.le_refl _) f
theorem wrap_id (n : Int) (h1 : -9223372036854775808 ≤ n) (h2 : n ≤ 9223372036854775807) : IntKind.i64.wrap n = n := by
  simp [IntKind.wrap, IntKind.signed, IntKind.bits]
  split <;> omega
def ba (l : Bs) : ByteArray := ⟨l.toArray⟩
theorem ba_app (a b : Bs) : ba a ++ ba b = ba (a ++ b) := by
  apply ByteArray.ext
  show (ba a ++ ba b).data = _
  rw [ByteArray.data_append]
  simp [ba]
theorem ba_size (a : Bs) : (ba a).size = a.length := by simp [ba, ByteArray.size]
theorem ba_data (l : Bs) : (ba l).data.toList = l := by simp [ba]
theorem ba_of (s : ByteArray) : ba s.data.toList = s := by apply ByteArray.ext; simp [ba]
theorem itoa_ok (n : Int) (h0 : -9223372036854775808 ≤ n) (h1 : n ≤ 9223372036854775807) (w : World) (hp : Pw w) : Calls Tryz.prog 46 #[.int .i64 n] w fun e w' => e = .returned (.string (ba (Lib.itoa n))) ∧ Bl w w' := by
  refine (Tryz.strconv_Itoa n h0 h1 w hp).mono ?_
  rintro e w' ⟨rfl, k, os, rfl⟩
  refine ⟨rfl, Fr.bl ⟨rfl, rfl, rfl, ?_, fun j hj _ => ?_⟩⟩
  · show w.heap.size ≤ (w.heap ++ os).size
    simp
  · show (w.heap ++ os)[j]? = w.heap[j]?
    rw [Array.getElem?_append_left hj]
set_option maxHeartbeats 1000000 in
theorem rnum_ok (n : Int) (h0 : -9223372036854775808 ≤ n) (h1 : n ≤ 9223372036854775807) (w : World) (hp : Pw w) : Calls Tryz.prog 27 #[.int .i64 n] w fun e w' => e = .returned (.string (ba (Lib.itoa n))) ∧ Bl w w' := by
  have H := mkHid (itoa_ok n h0 h1 w hp)
  clear hp
  go_enter Tryz.func27, Tryz.ntmps27
  go_wp2_with (go_at_call 46; refine H.out.mono ?_; rintro e w' ⟨rfl, hb⟩)
  go_ret
  exact ⟨rfl, hb⟩
/-- a page of some bytes -/
theorem Pg.new {W : World} (hp : Pw W) (bs : Bs) (hl : bs.length ≤ 1000) : Pg (W.alloc (.cells (Lib.byteCells bs).toArray 5)) W.heap.size (.slice (some ⟨W.heap.size, 0, none⟩) bs.length bs.length) bs := by
  refine ⟨⟨by simp [Lib.byteCells], .inr ⟨W.heap.size, bs.length, (Lib.byteCells bs).toArray, rfl, Nat.le_refl _, heap_alloc_new W _, ?_⟩⟩, by simp, (hp.tab (Nat.le_refl _)).on ((Fr.alloc [] W _).below (Nat.le_refl _) (by simp))⟩
  refine ⟨by simp, by unfold maxLen; omega, by simp [Lib.byteCells], ?_⟩
  simp [Lib.byteCells]
  rw [List.take_of_length_le (by simp)]
theorem Pg.low' {W : World} {B : Nat} {v : Value} {bs : Bs} (h : Pg W B v bs) {B' : Nat} (hB : B' ≤ B) (hp : Lib.TabBelow Tryz.prog B' W "internal/strconv.uint64pow10" .u64 Lib.pow10Tab) : Pg W B' v bs := by
  refine ⟨⟨h.row.1, ?_⟩, Nat.le_trans hB h.low, hp⟩
  rcases h.row.2 with h2 | ⟨g, cap, cur, h1, h2, h3⟩
  · exact Or.inl h2
  · exact Or.inr ⟨g, cap, cur, h1, Nat.le_trans hB h2, h3⟩
theorem wrap16 : ∀ k : Nat, k < 16 → IntKind.u8.wrap (k : Int) = (k : Int) := by decide
theorem and15 : ∀ n : Nat, n < 256 → Go.bits .and .u8 (n : Int) 15 = ((n % 16 : Nat) : Int) := by decide +kernel
theorem ix16 (k : Nat) (hk : k < 16) (w : World) : (Instr.index 9 (.string ⟨#[48, 49, 50, 51, 52, 53, 54, 55, 56, 57, 97, 98, 99, 100, 101, 102]⟩) (.int .u8 (k : Int))).run Tryz.prog w = .ok (.int .u8 ((hexD k).toNat : Int)) w := by
  rcases (show k = 0 ∨ k = 1 ∨ k = 2 ∨ k = 3 ∨ k = 4 ∨ k = 5 ∨ k = 6 ∨ k = 7 ∨ k = 8 ∨ k = 9 ∨ k = 10 ∨ k = 11 ∨ k = 12 ∨ k = 13 ∨ k = 14 ∨ k = 15 by omega) with rfl | rfl | rfl | rfl | rfl | rfl | rfl | rfl | rfl | rfl | rfl | rfl | rfl | rfl | rfl | rfl <;> kernel_rfl
theorem escB_pl (c : UInt8) (h : plainB c = true) : escB c = [c] := by unfold escB; rw [if_pos h]
theorem escB_hx (c : UInt8) (h : plainB c = false) : escB c = [37, hexD (c.toNat / 16), hexD (c.toNat % 16)] := by unfold escB; rw [h]; rfl
/-- a page that is a constant's bytes, and nothing has been written on it yet -/
structure Lt (W : World) (B : Nat) (v : Value) (bs : Bs) : Prop where
  at_ : ∃ g, v = .slice (some ⟨g, 0, none⟩) bs.length bs.length ∧ B ≤ g ∧ W.heap[g]? = some (.cells (Lib.byteCells bs).toArray 5 (bs.length, bs.length + 1))
  low : B ≤ W.heap.size
  tab : Lib.TabBelow Tryz.prog B W "internal/strconv.uint64pow10" .u64 Lib.pow10Tab
theorem cell_inF {w : World} {a : Nat} {C : Array Value} {t : TypeId} {fz : Nat × Nat} (h : w.heap[a]? = some (.cells C t fz)) (i : Nat) : w.cell? ⟨a, i, none⟩ = C[i]? := by simp [World.cell?, h]
theorem Lt.push {W : World} {B : Nat} {v : Value} {bs : Bs} (h : Lt W B v bs) (news : Bs) (h1 : news ≠ []) (hl : bs.length + news.length ≤ 140737488355328) :
    ∃ v' w', (Builtin.append_ #[54, 54] 54 #[v, .slice (some ⟨W.heap.size, 0, none⟩) news.length news.length]).run Tryz.prog (W.alloc (.cells (Lib.byteCells news).toArray 5)) = .ok v' w' ∧ Pg w' B v' (bs ++ news) ∧ Pf B W w' := by
  obtain ⟨i5, ii, iz, is, ib⟩ := info_parts info5x
  obtain ⟨g, rfl, hg, hb⟩ := h.at_
  have hlow := h.low
  have hn : 0 < news.length := by cases news with | nil => exact absurd rfl h1 | cons a l => simp
  have hb2 : (W.alloc (.cells (Lib.byteCells news).toArray 5)).heap[g]? = some (.cells (Lib.byteCells bs).toArray 5 (bs.length, bs.length + 1)) := (Below.heap_alloc _ _ _ (lt_of_heap hb)).trans hb
  have hnew := heap_alloc_new W (.cells (Lib.byteCells news).toArray 5)
  have hz : (W.alloc (.cells (Lib.byteCells news).toArray 5)).heap.size = W.heap.size + 1 := by simp
  have hr := run_append_grow (P := Tryz.prog) (W.alloc (.cells (Lib.byteCells news).toArray 5)) 54 54 5 i5 (.int .u8 0) Tryz.underlying54 ii iz ⟨g, 0, none⟩ bs.length bs.length (Lib.byteCells bs) (by rw [is, Lib.byteCells_length]; omega)
    (fun j u hu => by
      have : (⟨g, 0, none⟩ : Addr).add j = ⟨g, j, none⟩ := by rw [Addr.add_mid]; simp
      rw [this, cell_inF hb2 j]
      simpa using hu) ⟨W.heap.size, 0, none⟩ news.length news.length (Lib.byteCells news) (by rw [is, Lib.byteCells_length]; omega)
    (fun j u hu => by
      have : (⟨W.heap.size, 0, none⟩ : Addr).add j = ⟨W.heap.size, j, none⟩ := by rw [Addr.add_mid]; simp
      rw [this, cell_in hnew j]
      simpa using hu) (by omega) (by omega) (by rw [ib]; exact growslice_fits (by omega) (by omega))
  have hge := grownCap_ge (W.alloc (.cells (Lib.byteCells news).toArray 5)) (bs.length + news.length) bs.length 5
  have hcm := grownCap_le_maxLen (W.alloc (.cells (Lib.byteCells news).toArray 5)) (bs.length + news.length) bs.length 5 (by unfold maxLen; omega)
  have hf : Fr [] W ((W.alloc (.cells (Lib.byteCells news).toArray 5)).drew.alloc (.cells ((Lib.byteCells bs).toArray ++ (Lib.byteCells news).toArray ++ Builtin.zeroCells (Value.int .u8 0).cells (grownCap (W.alloc (.cells (Lib.byteCells news).toArray 5)) (bs.length + news.length) bs.length 5 - (bs.length + news.length))) 5)) :=
    ((Fr.alloc [] W _).trans (Fr.drew [] _) (by simp)).trans (Fr.alloc [] _ _) (by simp)
  have hbel := hf.below hlow (by simp)
  refine ⟨_, _, hr, ⟨?_, Nat.le_trans hlow hf.size, h.tab.on hbel⟩, hbel, ?_⟩
  · rw [List.length_append]
    refine ⟨by rw [Lib.byteCells_length, List.length_append, Nat.mul_one], .inr ⟨_, _, _, rfl, ?_, heap_alloc_new _ _, hge, hcm, ?_, ?_⟩⟩
    · show B ≤ (W.alloc _).heap.size; rw [hz]; omega
    · simp only [Array.size_append, List.size_toArray, size_zeroCells, Lib.byteCells_length]
      simp [Value.cells]
      omega
    · have hl2 : (bs.length + news.length) * 1 = (Lib.byteCells bs ++ Lib.byteCells news).length := by simp [Lib.byteCells]
      simp only [Array.toList_append, Lib.byteCells_append]
      rw [hl2, List.take_left]
  · exact (((Lib.OthersKept.refl 5 none W).alloc _).drew).alloc _
theorem Lt.conv {W : World} {B : Nat} {v : Value} {bs : Bs} (h : Lt W B v bs) : (convert 54 9 v).run Tryz.prog W = .ok (.string ⟨bs.toArray⟩) W := by
  obtain ⟨g, rfl, hg, hb⟩ := h.at_
  refine run_convert_bytes_back W 54 9 5 ⟨g, 0, none⟩ bs.length bs Tryz.underlying54 Tryz.underlying5 Tryz.underlying9 (fun j hj => ?_)
  have hp : (⟨g, 0, none⟩ : Addr).add j = ⟨g, j, none⟩ := by rw [Addr.add_mid]; simp
  rw [hp, cell_inF hb j]
  simp [Lib.byteCells, List.getElem?_eq_getElem hj]
theorem Lt.al {W : World} {B : Nat} {v : Value} {bs : Bs} (h : Lt W B v bs) (o : Obj) : Lt (W.alloc o) B v bs := by
  obtain ⟨g, e, hg, hb⟩ := h.at_
  exact ⟨⟨g, e, hg, (Below.heap_alloc _ _ _ (lt_of_heap hb)).trans hb⟩, by simp; have := h.low; omega, h.tab.on ((Fr.alloc [] W o).below h.low (by simp))⟩
theorem Lt.dr {W : World} {B : Nat} {v : Value} {bs : Bs} (h : Lt W B v bs) (n : Nat) : Lt (W.drewN n) B v bs := ⟨h.at_, h.low, h.tab.on ((Fr.drewN [] W n).below h.low (by simp))⟩
theorem Lt.new {W : World} (hp : Pw W) (bs : Bs) : Lt (W.alloc (.cells (Lib.byteCells bs).toArray 5 (bs.length, bs.length + 1))) W.heap.size (.slice (some ⟨W.heap.size, 0, none⟩) bs.length bs.length) bs :=
  ⟨⟨_, rfl, Nat.le_refl _, heap_alloc_new W _⟩, by simp, (hp.tab (Nat.le_refl _)).on ((Fr.alloc [] W _).below (Nat.le_refl _) (by simp))⟩
/-- a page: written on, or a constant's bytes -/
def Pq (W : World) (B : Nat) (v : Value) (bs : Bs) : Prop := Pg W B v bs ∨ Lt W B v bs
theorem Pq.push {W : World} {B : Nat} {v : Value} {bs : Bs} (h : Pq W B v bs) (news : Bs) (h1 : news ≠ []) (hl : bs.length + news.length ≤ 140737488355328) :
    ∃ v' w', (Builtin.append_ #[54, 54] 54 #[v, .slice (some ⟨W.heap.size, 0, none⟩) news.length news.length]).run Tryz.prog (W.alloc (.cells (Lib.byteCells news).toArray 5)) = .ok v' w' ∧ Pg w' B v' (bs ++ news) ∧ Pf B W w' := by
  rcases h with h | h
  · exact h.push news hl
  · exact h.push news h1 hl
theorem Pq.conv {W : World} {B : Nat} {v : Value} {bs : Bs} (h : Pq W B v bs) : (convert 54 9 v).run Tryz.prog W = .ok (.string ⟨bs.toArray⟩) W := by
  rcases h with h | h
  · exact h.conv
  · exact h.conv
theorem Pq.dr {W : World} {B : Nat} {v : Value} {bs : Bs} (h : Pq W B v bs) (n : Nat) : Pq (W.drewN n) B v bs := h.imp (·.dr n) (·.dr n)
theorem Pq.al {W : World} {B : Nat} {v : Value} {bs : Bs} (h : Pq W B v bs) (o : Obj) : Pq (W.alloc o) B v bs := h.imp (·.al o) (·.al o)
theorem Pq.low {W : World} {B : Nat} {v : Value} {bs : Bs} (h : Pq W B v bs) : B ≤ W.heap.size := by
  rcases h with h | h
  · exact h.low
  · exact h.low
theorem conv_lit (w : World) (bs : Bs) : (convert 54 54 (.slice (some ⟨w.heap.size, 0, none⟩) bs.length bs.length)).run Tryz.prog (w.alloc (.cells (Lib.byteCells bs).toArray 5)) = .ok (.slice (some ⟨w.heap.size, 0, none⟩) bs.length bs.length) (w.alloc (.cells (Lib.byteCells bs).toArray 5 (bs.length, bs.length + 1))) := by
  have := Lib.run_convert_bytes_const (P := Tryz.prog) w 54 5 (Lib.byteCells bs).toArray bs.length bs.length Tryz.underlying54 Tryz.underlying5
  simpa [Lib.byteCells] using this
end Go.Proofs.YtheolmnjedbjmaaGreatDoor

