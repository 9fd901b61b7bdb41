import Derived.Test.YtkmjimdaimbdfaaDoorSG03HExch
import Derived.Laws.CopyOwn
import Derived.Deep.MidRow
namespace Go.Proofs.YtkmjimdaimbdfaaDoor
open Go.RowKit
set_option linter.unusedVariables false
attribute [local go_sem ↓] Go.wp_at_zero Go.wp_at_succ
def remBits (bits : List Nat) (k : Nat) : List Nat := bits.set ((k - 1) / 64) (bits.getD ((k - 1) / 64) 0 &&& (full - 2 ^ ((k - 1) % 64)))
def remH (H : HS) (k : Nat) : HS := { H with bits := remBits H.bits k, low := min H.low ((k - 1) / 64), count := H.count - 1 }
theorem andNot_u64 (b j : Nat) (hb : b ≤ full) : Go.bits .andNot .u64 (b : Int) ((2 ^ (j % 64) : Nat) : Int) = ((b &&& (full - 2 ^ (j % 64)) : Nat) : Int) := by
  have h : 2 ^ (j % 64) < 2 ^ 64 := Nat.pow_lt_pow_right (by omega) (Nat.mod_lt _ (by omega))
  exact u64_andNot_nat b _ (by unfold full at hb; omega) (by omega)
theorem rem_done {w : World} {a : Nat} {l : Lay} {H : HS} {g i z lw : Nat} (h : Rep w a l H) (hg : l.pb = some ⟨g, 0, none⟩) (hc : 1 ≤ H.count) (W : World)
    (he : Eqw (((w.setCell ⟨g, i, none⟩ (.int .u64 (z : Int))).setCell ⟨a, 8, none⟩ (.int .i64 (lw : Int))).setCell ⟨a, 9, none⟩ (.int .i64 ((H.count : Int) - 1))) W) :
    Rep W a l { H with bits := H.bits.set i z, low := lw, count := H.count - 1 } ∧ Nx a l l w W := by
  have hgb : g ∈ blk l.pb := by rw [hg]; simp [blk]
  have hap := (h.apart g).2.2.2 hgb
  have hb := h.bits
  rw [hg] at hb
  have hb1 := own_stored hb i (.int .u64 (z : Int))
  rw [map_set_U, ← hg] at hb1
  have h2 : Rep (w.setCell ⟨g, i, none⟩ (.int .u64 (z : Int))) a l { H with bits := H.bits.set i z } := by
    refine h.turnBits (by simp) (fun k hk => set_else (fun e => ?_)) (by simpa using hb1)
    subst e
    rcases hk with h1 | h1 | h1 | h1
    · exact hap.1 h1
    · exact hap.2.1 h1
    · exact hap.2.2.1 h1
    · exact hap.2.2.2 h1
  have f1 : Fr (foot a l) w (w.setCell ⟨g, i, none⟩ (.int .u64 (z : Int))) := Fr.setCell _ _ _ (by simp [foot, Lay.blocks, hgb])
  have h3 := h2.set (H' := { H with bits := H.bits.set i z, low := lw }) 8 (.int .i64 (lw : Int)) rfl rfl rfl rfl rfl
  have h4 := h3.set (H' := { H with bits := H.bits.set i z, low := lw, count := H.count - 1 }) 9 (.int .i64 ((H.count : Int) - 1)) (by simp [hcells]; omega) rfl rfl rfl rfl
  exact ⟨h4.eqw he, (Nx.frw ((f1.trans (Fr.setCell (S := foot a l) _ _ _ (by simp [foot])) (fun b hb => .inl hb)).trans (Fr.setCell (S := foot a l) _ _ _ (by simp [foot])) (fun b hb => .inl hb))).eqw he⟩
set_option maxRecDepth 20000 in
set_option maxHeartbeats 1000000 in
theorem remove_any (k : Nat) (a : Nat) (l : Lay) (H : HS) (w : World) (h : Rep w a l H) (hk0 : (1 : Int) ≤ k) (hk1 : (k : Int) ≤ 65537) (hi : (k - 1) / 64 < H.bits.length) (hb : ∀ k, H.bits.getD k 0 ≤ full) (hc0 : 1 ≤ H.count) (hc : (H.count : Int) ≤ 100000) (hlw : (H.low : Int) ≤ 100000) :
    Calls Tryd.prog 100 #[.pointer (some ⟨a, 7, none⟩), .int .i64 k] w fun e w' => e = .returned (.tuple #[]) ∧ Rep w' a l (remH H k) ∧ Nx a l l w w' := by
  have hd : ((k : Int) - 1) / 64 = (((k - 1) / 64 : Nat) : Int) := by omega
  have hd2 : (((k - 1) / 64 : Nat) : Int) ≤ 1024 := by omega
  obtain ⟨g, hg, cg, fg, hga⟩ := h.bitAt _ hi
  have c7 := h.c7
  have c8 := h.c8
  have c9 := h.c9
  have f8 := h.frozen 8
  have f9 := h.frozen 9
  rw [hg] at c7
  have hou := andNot_u64 (H.bits.getD ((k - 1) / 64) 0) (k - 1) (hb _)
  obtain ⟨lw, hlw1, hlw2⟩ : ∃ lw, lw = min H.low ((k - 1) / 64) ∧ (if (((k - 1) / 64 : Nat) : Int) < (H.low : Int) then (((k - 1) / 64 : Nat) : Int) else (H.low : Int)) = (lw : Int) := by
    refine ⟨_, rfl, ?_⟩
    split <;> omega
  have HR : Hid (∀ W, Eqw (((w.setCell ⟨g, (k - 1) / 64, none⟩ (.int .u64 ((H.bits.getD ((k - 1) / 64) 0 &&& (full - 2 ^ ((k - 1) % 64)) : Nat) : Int))).setCell ⟨a, 8, none⟩ (.int .i64 (lw : Int))).setCell ⟨a, 9, none⟩ (.int .i64 ((H.count : Int) - 1))) W → Rep W a l (remH H k) ∧ Nx a l l w W) := by
    intro W he
    have K := rem_done h hg hc0 W he
    unfold remH remBits
    rw [← hlw1]
    exact K
  have i1 : (0 : Int) ≤ (((k - 1) / 64 : Nat) : Int) := by omega
  have i2 : (((k - 1) / 64 : Nat) : Int) < (H.bits.length : Int) := by omega
  have hl0 : (0 : Int) ≤ (H.low : Int) := by omega
  have HLW := mkHid hlw2
  clear h hb hg hi hlw1 hlw2
  generalize H.bits.getD ((k - 1) / 64) 0 &&& (full - 2 ^ ((k - 1) % 64)) = z at *
  generalize H.bits.getD ((k - 1) / 64) 0 = b at *
  have Hbit := bit_any k
  generalize 2 ^ ((k - 1) % 64) = y at *
  have HB := mkHid Hbit
  clear Hbit
  generalize (k - 1) / 64 = i at *
  generalize H.bits.length = n at *
  generalize remH H k = HX at *
  generalize H.count = cnt at *
  generalize H.low = low at *
  go_enter Tryd.func100, Tryd.ntmps100
  go_wp2
  simp only [hd]
  clear hd
  go_region_with (go_at_call 105; refine (HB.out _ hk0 (by omega)).mono ?_; rintro e w' ⟨rfl, rfl⟩)
  all_goals go_wp2
  all_goals
    go_end0
    have hh := HLW.out
    first
    | (rw [if_pos (by omega)] at hh; rw [← hh] at HR; exact ⟨rfl, HR.out _ (eqw_drew _)⟩)
    | (rw [if_neg (by omega)] at hh; rw [← hh] at HR; exact ⟨rfl, HR.out _ (eqw_drew _)⟩)
end Go.Proofs.YtkmjimdaimbdfaaDoor



namespace Go.Proofs.YtkmjimdaimbdfaaDoor
open Go.RowKit
set_option linter.unusedVariables false
theorem zv33 (w : World) : (zeroValue 28).run Tryd.prog w = .ok (.int .i64 0) w := by
  obtain ⟨i0, hi, hz0, hz1, hz2⟩ := info_parts info33
  simp [zeroValue, typeInfo, hi, hz0]
theorem run_clear80 (w : World) (ty : TypeId) (g o n c : Nat) (C : Array Value) (hn : 0 < n) (hg : w.heap[g]? = some (.cells C 28 (0, 0))) (hfit : o + n ≤ C.size) :
    (Builtin.clear_ #[29] ty #[.slice (some ⟨g, o, none⟩) n c]).run Tryd.prog w = .ok (.tuple #[]) (w.setRow g (splice C.toList o (zeros n)).toArray) := by
  have hzc : (Builtin.zeroCells (Value.int .i64 0).cells n).toList = zeros n := by
    show (Builtin.zeroCells #[.int .i64 0] n).toList = List.replicate n (.int .i64 0)
    simp [Builtin.zeroCells]
    apply List.ext_getElem
    · simp
    · intro i h1 h2
      simp [Nat.mod_one]
  have hst := run_storeCells_at Tryd.prog g o 28 (zeros n) 0 C w hg (by rw [zeros_len]; omega) (by intro v hv; rw [List.eq_of_mem_replicate hv]; rfl)
  obtain ⟨m, rfl⟩ : ∃ m, n = m + 1 := ⟨n - 1, by omega⟩
  simp only [Nat.add_zero, List.append_assoc] at hst
  simp [Builtin.clear_, run_underlying Tryd.underlying29, hzc, hst, splice]
theorem step_clear {ops : Array Oper} {o : Oper} {a : Act} {w : World} {K : Act → World → Prop} {Q : Exit → Act → World → Prop} {E : Prop} (hgd : o.guard = none) (d : Operand)
    (ho : o.op = .call { callee := .builtin .clear, args := #[d], argTypes := #[29] }) (g off n c : Nat) (hd : a.eval d = .slice (some ⟨g, off, none⟩) n c) (hn : 0 < n) (C : Array Value) (hg : w.heap[g]? = some (.cells C 28 (0, 0))) (hfit : off + n ≤ C.size)
    (h : ∀ w', w'.heap[g]? = some (.cells (splice C.toList off (zeros n)).toArray 28 (0, 0)) → Fr [g] w w' → w'.heap.size = w.heap.size → K (a.put o.dst (.tuple #[])) w') :
    if Region.wanted o (yielded ops a.tmps) = true then Oper.wp Tryd.prog o a w K Q else E := by
  have hw : Region.wanted o (yielded ops a.tmps) = true := by simp [Region.wanted, hgd]
  rw [if_pos hw]
  have hrun := run_clear80 w o.type g off n c C hn hg hfit
  unfold Oper.wp
  simp [execOp, ho, resolve, invoke, builtin, hd, hrun, Result.andThen]
  exact h _ (setRow_heap w g C _ 28 _ hg) (Fr.setRow w g _ (by simp)) (by simp)
theorem wpList_clear {ops : Array Oper} {rest : List Oper} {o : Oper} {a : Act} {w : World} {Q : Exit → Act → World → Prop} (hgd : o.guard = none) (d : Operand)
    (ho : o.op = .call { callee := .builtin .clear, args := #[d], argTypes := #[29] }) (g off n c : Nat) (hd : a.eval d = .slice (some ⟨g, off, none⟩) n c) (hn : 0 < n) (C : Array Value) (hg : w.heap[g]? = some (.cells C 28 (0, 0))) (hfit : off + n ≤ C.size)
    (h : ∀ w', w'.heap[g]? = some (.cells (splice C.toList off (zeros n)).toArray 28 (0, 0)) → Fr [g] w w' → w'.heap.size = w.heap.size → wpList Tryd.prog ops Q rest (a.put o.dst (.tuple #[])) w') : wpList Tryd.prog ops Q (o :: rest) a w := by
  refine wpList_plain hgd fun K hK => ?_
  have hrun := run_clear80 w o.type g off n c C hn hg hfit
  unfold Oper.wp
  simp [execOp, ho, resolve, invoke, builtin, hd, hrun, Result.andThen]
  exact hK _ _ (h _ (setRow_heap w g C _ 28 _ hg) (Fr.setRow w g _ (by simp)) (by simp))
/-- the memory's cells, whole -/
theorem Rep.memCells {w : World} {a : Nat} {l : Lay} {H : HS} {g : Nat} (h : Rep w a l H) (hg : l.pm = some ⟨g, 0, none⟩) :
    ∃ C, w.heap[g]? = some (.cells C 28 (0, 0)) ∧ C.toList = (H.mem ++ List.replicate (l.cm - H.mem.length) 0).map (Value.int .i64) ∧ C.size = l.cm ∧ l.cm ≤ maxLen := by
  have hb := h.mem
  rw [hg] at hb
  rcases hb.2 with ⟨q, _⟩ | ⟨g', cap, cur, q1, q2, q3, q4, q5, q6, q7⟩
  · cases q
  · injection q1 with q1a q1b q1c
    injection q1a with q1a
    injection q1a with q1a
    subst q1a
    rw [List.take_of_length_le (by rw [Array.length_toList, q6, q1c]; exact Nat.le_refl _)] at q7
    exact ⟨cur, q3, q7, by omega, by omega⟩
/-- other words stand in the memory now -/
theorem Rep.newMem {w w2 : World} {a : Nat} {l : Lay} {H : HS} {g : Nat} {ms : List Int} (h : Rep w a l H) (hg : l.pm = some ⟨g, 0, none⟩) (hl : ms.length = H.mem.length)
    (h2 : w2.heap[g]? = some (.cells ((ms ++ List.replicate (l.cm - H.mem.length) 0).map (Value.int .i64)).toArray 28 (0, 0))) (hf : Fr [g] w w2) : Rep w2 a l { H with mem := ms } ∧ Nx a l l w w2 := by
  have hgb : g ∈ blk l.pm := by rw [hg]; simp [blk]
  have hap := (h.apart g).1 hgb
  obtain ⟨C, hC, hCl, hCs, hcm⟩ := h.memCells hg
  have hml := h.ml
  have hlen : ((ms ++ List.replicate (l.cm - ms.length) (0 : Int)).map (Value.int .i64)).length = l.cm := by simp; omega
  have ho : w2.ownsRow 0 28 1 (.slice l.pm l.cm l.cm) l.cm ((ms ++ List.replicate (l.cm - ms.length) 0).map (Value.int .i64)) := by
    rw [← hl] at h2
    rw [hg]
    refine ⟨by rw [hlen]; omega, .inr ⟨g, l.cm, _, rfl, Nat.zero_le _, h2, Nat.le_refl _, hcm, by simpa using hlen, ?_⟩⟩
    rw [List.take_of_length_le (by rw [Nat.mul_one]; exact Nat.le_of_eq hlen)]
  have hf' : ∀ k, k = a ∨ k ∈ blk l.ps ∨ k ∈ blk l.po ∨ k ∈ blk l.pb → w2.heap[k]? = w.heap[k]? := fun k hk => by
    have hlt : k < w.heap.size := h.lt k (by simp only [foot, Lay.blocks, List.mem_cons, List.mem_append]; rcases hk with h1 | h1 | h1 | h1 <;> simp [h1])
    refine hf.block k hlt (fun hm => ?_)
    simp at hm
    subst hm
    rcases hk with h1 | h1 | h1 | h1
    · exact hap.1 h1
    · exact hap.2.1 h1
    · exact hap.2.2.1 h1
    · exact hap.2.2.2 h1
  exact ⟨h.turnMem hl hf' ho, Nx.frw (hf.mono (fun b hb => by simp at hb; subst hb; simp [foot, Lay.blocks, hgb]))⟩
theorem splice_map (M Z : List Int) (off : Nat) (vs : List Int) (h : off + vs.length ≤ M.length) : splice ((M ++ Z).map (Value.int .i64)) off (vs.map (Value.int .i64)) = (splice M off vs ++ Z).map (Value.int .i64) := by
  unfold splice
  rw [List.map_append, List.map_append, List.map_append, List.map_append, List.map_take, List.map_drop, List.length_map]
  rw [List.take_append_of_le_length (by simp; omega), List.drop_append_of_le_length (by simp; omega)]
  simp
theorem zeros_map (n : Nat) : zeros n = (List.replicate n (0 : Int)).map (Value.int .i64) := by simp [zeros]
/-- a stretch of memory is overlaid -/
theorem Rep.spliced {w w2 : World} {a : Nat} {l : Lay} {H : HS} {g off : Nat} {vs : List Int} {C : Array Value} (h : Rep w a l H) (hg : l.pm = some ⟨g, 0, none⟩) (hC : w.heap[g]? = some (.cells C 28 (0, 0))) (ho : off + vs.length ≤ H.mem.length)
    (h2 : w2.heap[g]? = some (.cells (splice C.toList off (vs.map (Value.int .i64))).toArray 28 (0, 0))) (hf : Fr [g] w w2) : Rep w2 a l { H with mem := splice H.mem off vs } ∧ Nx a l l w w2 := by
  obtain ⟨C', hC', hCl, hCs, hcm⟩ := h.memCells hg
  rw [hC] at hC'
  injection hC' with hC'
  injection hC' with hC'
  subst hC'
  rw [hCl, splice_map _ _ _ _ ho] at h2
  exact h.newMem hg (length_splice _ _ _ ho) h2 hf
end Go.Proofs.YtkmjimdaimbdfaaDoor



namespace Go.Proofs.YtkmjimdaimbdfaaDoor
open Go.RowKit
set_option linter.unusedVariables false
attribute [local go_sem ↓] Go.wp_at_zero Go.wp_at_succ
def wipeH (H : HS) (oop : Nat) : HS :=
  { H with mem := splice H.mem (H.seats.getD oop (0, 0, 0)).1 (List.replicate (H.seats.getD oop (0, 0, 0)).2.1 0), order := H.order.set (H.seats.getD oop (0, 0, 0)).2.2 0, seats := H.seats.set oop (0, 0, 0) }
def vacH (H : HS) (oop : Nat) : HS := remH (wipeH H oop) oop
structure VacOk (H : HS) (oop : Nat) : Prop where
  o1 : 1 ≤ oop
  o2 : oop < H.seats.length
  o3 : oop ≤ 65537
  s1 : 1 ≤ (H.seats.getD oop (0, 0, 0)).2.1
  s2 : (H.seats.getD oop (0, 0, 0)).1 + (H.seats.getD oop (0, 0, 0)).2.1 ≤ H.mem.length
  s3 : (H.seats.getD oop (0, 0, 0)).2.2 < H.order.length
  b1 : (oop - 1) / 64 < H.bits.length
  b2 : ∀ k, H.bits.getD k 0 ≤ full
  c1 : 1 ≤ H.count
  c2 : H.count ≤ 65536
  c3 : H.low ≤ 65536
  m1 : H.mem.length ≤ 1048576
  r1 : H.order.length ≤ 1048576
  t1 : H.seats.length ≤ 65538
set_option maxRecDepth 20000 in
set_option maxHeartbeats 1000000 in
theorem vacate_ok (oop : Nat) (a : Nat) (l : Lay) (H : HS) (w : World) (h : Rep w a l H) (hv : VacOk H oop) :
    Calls Tryd.prog 81 #[.pointer (some ⟨a, 0, none⟩), .int .i64 oop] w fun e w' => e = .returned (.tuple #[]) ∧ Rep w' a l (vacH H oop) ∧ Nx a l l w w' := by
  obtain ⟨v1, v2, v3, v4, v5, v6, v7, v8, v9, v10, v11, v12, v13, v14⟩ := hv
  have hal := h.lt a (by simp [foot])
  obtain ⟨gs, hgs, hcs, hfs, hgsa, hgsl⟩ := h.seatAt oop v2
  obtain ⟨q0, q1, q2⟩ := hcs oop v2
  have c5 := h.c5
  rw [hgs] at c5
  simp only [I] at q0 q1 q2
  obtain ⟨⟨p, L, t⟩, hs⟩ : ∃ s, s = H.seats.getD oop (0, 0, 0) := ⟨_, rfl⟩
  have HV : Hid (vacH H oop = remH { H with mem := splice H.mem p (List.replicate L 0), order := H.order.set t 0, seats := H.seats.set oop (0, 0, 0) } oop) := by
    unfold vacH wipeH Hid
    rw [← hs]
  rw [← hs] at v4 v5 v6 q0 q1 q2
  dsimp only at v4 v5 v6 q0 q1 q2
  have HR := mkHid h
  have o1 : (0 : Int) ≤ (oop : Int) := by omega
  have o2 : (oop : Int) < (H.seats.length : Int) := by omega
  clear h hcs hfs hs
  generalize vacH H oop = HX at *
  go_enter Tryd.func81, Tryd.ntmps81
  go_wp2
  go_cut [] (fun W => Hid (Rep W a l { H with mem := splice H.mem p (List.replicate L 0) } ∧ Nx a l l w W ∧ W.heap[w.heap.size]? = some (.cells #[.int .i64 (p : Int), .int .i64 (L : Int), .int .i64 (t : Int)] 94 (0, 0))))
  case first =>
    obtain ⟨g, hg, _, _, hga, hgl⟩ := HR.out.memBlock (by omega)
    obtain ⟨C, hC, hCl, hCs, hcm⟩ := HR.out.memCells hg
    have hml := HR.out.ml
    have c4 := HR.out.c4
    rw [hg] at c4
    obtain ⟨o3, ho3⟩ : ∃ o3, o3 = Obj.cells #[.int .i64 (p : Int), .int .i64 (L : Int), .int .i64 (t : Int)] 94 := ⟨_, rfl⟩
    have C4 := (World.cell?_alloc_lt w o3 ⟨a, 4, none⟩ (by show a < _; omega)).trans c4
    have hn3 := heap_alloc_new w o3
    rw [ho3] at hn3
    have T0 := cell_in hn3 0
    have T1 := cell_in hn3 1
    rw [← ho3] at T0 T1
    simp only [List.getElem?_toArray, List.getElem?_cons_succ, List.getElem?_cons_zero] at T0 T1
    have hC3 : Hid ((w.alloc o3).heap[g]? = some (.cells C 28 (0, 0)) ∧ Rep (w.alloc o3) a l H ∧ Nx a l l w (w.alloc o3) ∧ (w.alloc o3).heap[w.heap.size]? = some (.cells #[.int .i64 (p : Int), .int .i64 (L : Int), .int .i64 (t : Int)] 94 (0, 0)) ∧ w.heap.size ≠ g ∧ w.heap.size < (w.alloc o3).heap.size) :=
      ⟨(Below.heap_alloc _ _ _ hgl).trans hC, HR.out.alloc _, Nx.frw (Fr.alloc _ _ _), by rw [ho3]; exact heap_alloc_new _ _, by omega, by simp⟩
    rw [← ho3]
    clear ho3 hn3 hC hCl c4 q0 q1 q2 c5
    generalize w.alloc o3 = w3 at *
    have k1 : (0 : Int) ≤ (p : Int) := by omega
    have k2 : (p : Int) + (L : Int) ≤ (l.cm : Int) := by omega
    have k4 : (p : Int) ≤ (p : Int) + (L : Int) := by omega
    have k5 : IntKind.i64.wrap ((p : Int) + (L : Int)) = (p : Int) + (L : Int) := by rw [iwrap]; unfold wrap64; omega
    have e1 : ((p : Int) + (L : Int)).toNat = p + L := by omega
    have e2 : (if l.cm = p then some (⟨g, 0, none⟩ : Addr) else some ⟨g, p, none⟩) = some ⟨g, p, none⟩ := by rw [if_neg (by omega)]
    have hcp : ¬ l.cm = p := by omega
    generalize hmm : H.mem.length = m at *
    have HMM := mkHid hmm
    clear hmm
    go_region_held3 (fun w' => w'.cell? ⟨a, 4, none⟩ = some (.slice (some ⟨g, 0, none⟩) m l.cm) ∧ w'.cell? ⟨w.heap.size, 0, none⟩ = some (.int .i64 (p : Int)) ∧ w'.cell? ⟨w.heap.size, 1, none⟩ = some (.int .i64 (L : Int))) (go_keep)
      ((refine step_clear rfl (.tmp 23) rfl g p L (l.cm - p) (by simp [Act.eval]) (by omega) C (by exact hC3.out.1) (by omega) ?_; intro w4 hh1 hh2 hh3; have y4 := hh2.cell (p := ⟨a, 4, none⟩) (by exact (by have := hC3.out.2.1.lt a (by simp [foot]); exact this)) (by simp; omega); have z0 := hh2.cell (p := ⟨w.heap.size, 0, none⟩) (by exact hC3.out.2.2.2.2.2) (by simp; exact hC3.out.2.2.2.2.1); have z1 := hh2.cell (p := ⟨w.heap.size, 1, none⟩) (by exact hC3.out.2.2.2.2.2) (by simp; exact hC3.out.2.2.2.2.1)))
    all_goals go_wp2
    all_goals
      go_meet
      case rel =>
        have hfr : Fr [g] w3 w4 := Fr.trans (S' := [g]) (Fr.drew [g] w3) hh2 (fun b hb => .inl hb)
        rw [zeros_map] at hh1
        have K := hC3.out.2.1.spliced hg hC3.out.1 (by rw [HMM.out]; simpa using v5) hh1 hfr
        refine mkHid ⟨K.1, hC3.out.2.2.1.trans K.2, ?_⟩
        rw [hfr.block _ hC3.out.2.2.2.2.2 (by simp; exact hC3.out.2.2.2.2.1)]
        exact hC3.out.2.2.2.1
  case rest =>
    obtain ⟨w2, hw2⟩ : ∃ w2, w2 = wc := ⟨_, rfl⟩
    subst hw2
    clear q0 q1 q2 c5 HR
    obtain ⟨hr, hx, hsb⟩ := hcut.out
    clear hcut
    obtain ⟨go, hgo, hco, hfo, hgoa, hgol⟩ := hr.orderAt t v6
    have c6 := hr.c6
    rw [hgo] at c6
    have o3 := hco t v6
    have f3 := hfo t
    have T2 := cell_in hsb 2
    simp only [List.getElem?_toArray, List.getElem?_cons_succ, List.getElem?_cons_zero] at T2
    dsimp only at c6 o3
    have HE : Hid (∀ W, Eqw (w2.setCell ⟨go, t, none⟩ (.int .i64 0)) W → Rep W a l { H with mem := splice H.mem p (List.replicate L 0), order := H.order.set t 0 } ∧ Nx a l l w W) := by
      intro W he
      have K := hr.setOrder hgo t 0 W he
      exact ⟨K.1, hx.trans K.2⟩
    have a1 : (0 : Int) ≤ (t : Int) := by omega
    have a2 : (t : Int) < (H.order.length : Int) := by omega
    generalize H.order.getD t 0 = ov at *
    clear hr hx hsb hco hfo hgo
    go_wp2
    go_cut [] (fun W => Hid (Rep W a l { H with mem := splice H.mem p (List.replicate L 0), order := H.order.set t 0 } ∧ Nx a l l w W))
    case first =>
      go_region
      all_goals go_wp2
      all_goals
        go_meet
        case rel =>
          refine mkHid (HE.out _ ?_)
          exact eqw_drew _
    case rest =>
      obtain ⟨w3, hw3⟩ : ∃ w3, w3 = wc := ⟨_, rfl⟩
      subst hw3
      clear c6 o3 f3 T2 HE
      obtain ⟨hr, hx⟩ := hcut.out
      clear hcut
      obtain ⟨g2, hg2, hc2, hf2, _, _⟩ := hr.seatAt oop v2
      obtain ⟨q0, q1, q2⟩ := hc2 oop v2
      have c5 := hr.c5
      rw [hg2] at c5
      have p0 := hf2 (oop * 3)
      have p1 := hf2 (oop * 3 + 1)
      have p2 := hf2 (oop * 3 + 2)
      simp only [I] at q0 q1 q2
      dsimp only at c5 q0 q1 q2
      generalize (H.seats.getD oop (0, 0, 0)).1 = y0 at *
      generalize (H.seats.getD oop (0, 0, 0)).2.1 = y1 at *
      generalize (H.seats.getD oop (0, 0, 0)).2.2 = y2 at *
      have HE : Hid (∀ W, Eqw (((w3.setCell ⟨g2, oop * 3, none⟩ (.int .i64 0)).setCell ⟨g2, oop * 3 + 1, none⟩ (.int .i64 0)).setCell ⟨g2, oop * 3 + 2, none⟩ (.int .i64 0)) W → Calls Tryd.prog 100 #[.pointer (some ⟨a, 7, none⟩), .int .i64 oop] W fun e w' => e = .returned (.tuple #[]) ∧ Rep w' a l HX ∧ Nx a l l w w') := by
        intro W he
        have K := hr.setSeat hg2 oop v2 (0, 0, 0) W he
        rw [HV.out]
        refine (remove_any oop a l _ W K.1 (by omega) (by omega) v7 v8 v9 (by dsimp only; omega) (by dsimp only; omega)).mono ?_
        rintro e w' ⟨rfl, k1, k2⟩
        exact ⟨rfl, k1, (hx.trans K.2).trans k2⟩
      clear hr hx hg2 hc2 hf2
      go_wp2_with fail
      refine Calls.mono (HE.out _ ?_) ?_
      · exact ⟨rfl, rfl, rfl, rfl⟩
      · rintro e w5 ⟨rfl, hr5, hx5⟩
        have HR5 := mkHid hr5
        have HX5 := mkHid hx5
        clear hr5 hx5 HE
        go_wp2
        go_end0
        exact ⟨rfl, HR5.out, HX5.out⟩
end Go.Proofs.YtkmjimdaimbdfaaDoor



namespace Go.Proofs.YtkmjimdaimbdfaaDoor
open Go.RowKit
set_option linter.unusedVariables false
attribute [local go_sem ↓] Go.wp_at_zero Go.wp_at_succ
theorem step_copy {ops : Array Oper} {o : Oper} {a : Act} {w : World} {K : Act → World → Prop} {Q : Exit → Act → World → Prop} {E : Prop} (hgd : o.guard = none) (d s : Operand)
    (ho : o.op = .call { callee := .builtin .copy, args := #[d, s], argTypes := #[29, 29] }) (g off p dLen dCap L sCap : Nat) (hd : a.eval d = .slice (some ⟨g, off, none⟩) dLen dCap) (hs : a.eval s = .slice (some ⟨g, p, none⟩) L sCap)
    (C : Array Value) (hg : w.heap[g]? = some (.cells C 28 (0, 0))) (hL : L ≤ dLen) (hp : p + L ≤ C.size) (ho2 : off + L ≤ C.size) (h1 : ∀ v ∈ C.toList, v.oneCell' = true)
    (h : ∀ w', w'.heap[g]? = some (.cells (splice C.toList off ((C.toList.drop p).take L)).toArray 28 (0, 0)) → Fr [g] w w' → w'.heap.size = w.heap.size → K (a.put o.dst (goInt L)) w') :
    if Region.wanted o (yielded ops a.tmps) = true then Oper.wp Tryd.prog o a w K Q else E := by
  have hw : Region.wanted o (yielded ops a.tmps) = true := by simp [Region.wanted, hgd]
  rw [if_pos hw]
  have hcl : ((C.toList.drop p).take L).length = L := by simp; omega
  have hsz : (Tryd.prog.info? 28).map (·.size) = some 1 := by
    obtain ⟨i0, hi, hz0, hz1, hz2⟩ := info_parts info33
    rw [hi]; simp [hz1]
  have hrun := run_copy_row (P := Tryd.prog) w 29 29 o.type 28 g off dLen dCap ⟨g, p, none⟩ L sCap C 28 ((C.toList.drop p).take L) Tryd.underlying29 hsz hg (by rw [hcl]; exact (Nat.min_eq_left hL).symm)
    (fun j v hv => by
      rw [Addr.add_mid, cell_in hg]
      rw [List.getElem?_take] at hv
      split at hv
      · simpa using hv
      · cases hv) (by rw [hcl]; exact ho2) (fun v hv => h1 v (List.mem_of_mem_drop (List.mem_of_mem_take hv)))
  unfold Oper.wp
  simp [execOp, ho, resolve, invoke, builtin, hd, hs, hrun, Result.andThen]
  have hh := h _ (setRow_heap w g C (splice C.toList off ((C.toList.drop p).take L)).toArray 28 _ hg) (Fr.setRow w g _ (by simp)) (by simp)
  simp only [splice, hcl] at hh
  have e1 : min L (C.size - p) = L := by omega
  rw [e1]
  exact hh
structure Sl where
  H : HS
  turns : Nat
  en : Nat
def slideStep (x : Sl) (k : Nat) : Sl :=
  if x.H.order.getD k 0 = 0 then x else
    { H := { x.H with mem := splice x.H.mem x.en ((x.H.mem.drop (x.H.seats.getD (x.H.order.getD k 0) (0, 0, 0)).1).take (x.H.seats.getD (x.H.order.getD k 0) (0, 0, 0)).2.1),
                      seats := x.H.seats.set (x.H.order.getD k 0) (x.en, (x.H.seats.getD (x.H.order.getD k 0) (0, 0, 0)).2.1, x.turns),
                      order := x.H.order.set x.turns (x.H.order.getD k 0) }
      turns := x.turns + 1
      en := x.en + (x.H.seats.getD (x.H.order.getD k 0) (0, 0, 0)).2.1 }
def slideTo (H : HS) : Nat → Sl
  | 0 => ⟨H, 0, 0⟩
  | k + 1 => slideStep (slideTo H k) k
structure StepOk (x : Sl) (oop : Nat) : Prop where
  o : oop < x.H.seats.length
  s1 : 1 ≤ (x.H.seats.getD oop (0, 0, 0)).2.1
  s2 : (x.H.seats.getD oop (0, 0, 0)).1 + (x.H.seats.getD oop (0, 0, 0)).2.1 ≤ x.H.mem.length
  s3 : x.en + (x.H.seats.getD oop (0, 0, 0)).2.1 ≤ x.H.mem.length
structure SlideOk (H : HS) : Prop where
  step : ∀ k, k < H.order.length → (slideTo H k).H.order.getD k 0 ≠ 0 → StepOk (slideTo H k) ((slideTo H k).H.order.getD k 0)
  m1 : H.mem.length ≤ 1048576
  r1 : H.order.length ≤ 1048576
  t1 : H.seats.length ≤ 65538
theorem slideTo_len (H : HS) (hk : SlideOk H) : ∀ k, k ≤ H.order.length → (slideTo H k).H.mem.length = H.mem.length ∧ (slideTo H k).H.order.length = H.order.length ∧ (slideTo H k).H.seats.length = H.seats.length ∧ (slideTo H k).turns ≤ k ∧ (slideTo H k).en ≤ H.mem.length := by
  intro k
  induction k with
  | zero => intro _; exact ⟨rfl, rfl, rfl, Nat.le_refl _, Nat.zero_le _⟩
  | succ k ih =>
    intro hle
    obtain ⟨h1, h2, h3, h4, h5⟩ := ih (by omega)
    have hs := hk.step k (by omega)
    show (slideStep (slideTo H k) k).H.mem.length = _ ∧ (slideStep (slideTo H k) k).H.order.length = _ ∧ (slideStep (slideTo H k) k).H.seats.length = _ ∧ (slideStep (slideTo H k) k).turns ≤ _ ∧ (slideStep (slideTo H k) k).en ≤ _
    unfold slideStep
    split
    · exact ⟨h1, h2, h3, by omega, h5⟩
    · rename_i hne
      have hq := hs hne
      have := hq.s2
      have := hq.s3
      refine ⟨?_, by simpa using h2, by simpa using h3, by dsimp only; omega, by dsimp only; omega⟩
      dsimp only
      rw [length_splice _ _ _ (by rw [List.length_take, List.length_drop]; omega)]
      exact h1
theorem own_prefix {w : World} {e : TypeId} {ao : Option Addr} {n c k : Nat} {xs : List Value} (h : w.ownsRow 0 e 1 (.slice ao n c) n xs) (hk : k ≤ n) : w.ownsRow 0 e 1 (.slice ao k c) k (xs.take k) := by
  have hl := h.1
  refine ⟨by simp; omega, ?_⟩
  rcases h.2 with ⟨h2, h3⟩ | ⟨g, cap, cur, h2, h3, h4, h5, h6, h7, h8⟩
  · injection h2 with q1 q2 q3
    subst q1
    subst q3
    exact .inl ⟨by rw [show k = 0 from by omega], by omega⟩
  · injection h2 with q1 q2 q3
    subst q1
    subst q3
    refine .inr ⟨g, c, cur, rfl, h3, h4, by omega, h6, h7, ?_⟩
    rw [← h8, List.take_take]
    congr 1
    omega
/-- both lists are cut -/
theorem Rep.cut {w : World} {a : Nat} {l : Lay} {H : HS} {tn en : Nat} (h : Rep w a l H) (ht : tn ≤ H.order.length) (hen : en ≤ H.mem.length) (hz : H.mem = H.mem.take en ++ List.replicate (H.mem.length - en) 0) (W : World)
    (he : Eqw ((w.setCell ⟨a, 6, none⟩ (.slice l.po tn l.co)).setCell ⟨a, 4, none⟩ (.slice l.pm en l.cm)) W) : Rep W a l { H with mem := H.mem.take en, order := H.order.take tn } ∧ Nx a l l w W := by
  have ho := own_prefix h.order ht
  rw [← List.map_take] at ho
  have hol : (H.order.take tn).length = tn := by simp; omega
  have K1 := h.putOrder (po := l.po) (co := l.co) (os := H.order.take tn) (fun _ _ => rfl) (by rw [hol]; exact ho)
  rw [hol] at K1
  have hml := h.ml
  have hmt : (H.mem.take en).length = en := by simp; omega
  have e : H.mem.take en ++ List.replicate (l.cm - (H.mem.take en).length) (0 : Int) = H.mem ++ List.replicate (l.cm - H.mem.length) 0 := by
    rw [hmt]
    conv => rhs; rw [hz]
    rw [List.append_assoc, List.replicate_append_replicate]
    congr 2
    simp
    omega
  have K2 := K1.putMem (pm := l.pm) (cm := l.cm) (ms := H.mem.take en) (by rw [hmt]; omega) (fun _ _ => rfl) (by rw [e]; exact K1.mem)
  rw [hmt] at K2
  exact ⟨K2.eqw he, (Nx.frw ((Fr.setCell (S := foot a l) _ _ _ (by simp [foot])).trans (Fr.setCell (S := foot a l) _ _ _ (by simp [foot])) (fun b hb => .inl hb))).eqw he⟩
theorem set_comm (w : World) (a i j : Nat) (u v : Value) (h : i ≠ j) : (w.setCell ⟨a, i, none⟩ u).setCell ⟨a, j, none⟩ v = (w.setCell ⟨a, j, none⟩ v).setCell ⟨a, i, none⟩ u := by
  simp only [World.setCell]
  congr 1
  apply Array.ext_getElem?
  intro k
  rw [Array.getElem?_modify, Array.getElem?_modify, Array.getElem?_modify, Array.getElem?_modify]
  by_cases hk : a = k
  · subst hk
    simp only [if_true]
    cases hq : w.heap[a]? with
    | none => rfl
    | some x =>
      cases x with
      | cells c t f =>
        simp
        apply Array.ext_getElem?
        intro q
        simp only [Array.getElem?_setIfInBounds]
        by_cases h1 : i = q <;> by_cases h2 : j = q <;> simp_all
      | _ => simp
  · simp [hk]
def slideH (H : HS) : HS := { (slideTo H H.order.length).H with mem := (slideTo H H.order.length).H.mem.take (slideTo H H.order.length).en, order := (slideTo H H.order.length).H.order.take (slideTo H H.order.length).turns }
end Go.Proofs.YtkmjimdaimbdfaaDoor



namespace Go.Proofs.YtkmjimdaimbdfaaDoor
open Go.RowKit
set_option linter.unusedVariables false
attribute [local go_sem ↓] Go.wp_at_zero Go.wp_at_succ
theorem mem_cells_one {w : World} {a : Nat} {l : Lay} {H : HS} {C : Array Value} (hCl : C.toList = (H.mem ++ List.replicate (l.cm - H.mem.length) 0).map (Value.int .i64)) : ∀ v ∈ C.toList, v.oneCell' = true := by
  rw [hCl]; exact ints_oneCell _ _
theorem drop_take_map (M : List Int) (k p L : Nat) (h : p + L ≤ M.length) : (((M ++ List.replicate k 0).map (Value.int .i64)).drop p).take L = ((M.drop p).take L).map (Value.int .i64) := by
  rw [List.map_append, List.drop_append_of_le_length (by simp; omega), List.take_append_of_le_length (by simp; omega), List.map_take, List.map_drop]
theorem run_clear0 (w : World) (ty : TypeId) (ao : Option Addr) (c : Nat) : (Builtin.clear_ #[29] ty #[.slice ao 0 c]).run Tryd.prog w = .ok (.tuple #[]) w := by
  cases ao <;> simp [Builtin.clear_, run_underlying Tryd.underlying29]
theorem wpList_clear0 {ops : Array Oper} {rest : List Oper} {o : Oper} {a : Act} {w : World} {Q : Exit → Act → World → Prop} (hgd : o.guard = none) (d : Operand)
    (ho : o.op = .call { callee := .builtin .clear, args := #[d], argTypes := #[29] }) (ao : Option Addr) (c : Nat) (hd : a.eval d = .slice ao 0 c) (h : wpList Tryd.prog ops Q rest (a.put o.dst (.tuple #[])) w) : wpList Tryd.prog ops Q (o :: rest) a w := by
  refine wpList_plain hgd fun K hK => ?_
  have hrun := run_clear0 w o.type ao c
  unfold Oper.wp
  simp [execOp, ho, resolve, invoke, builtin, hd, hrun, Result.andThen]
  exact hK _ _ h
set_option maxRecDepth 20000 in
set_option maxHeartbeats 2000000 in
theorem slide_ok (a : Nat) (l : Lay) (H : HS) (w : World) (h : Rep w a l H) (hk : SlideOk H) :
    Calls Tryd.prog 99 #[.pointer (some ⟨a, 0, none⟩)] w fun e w' => e = .returned (.tuple #[]) ∧ Rep w' a l (slideH H) ∧ Nx a l l w w' := by
  have hal := h.lt a (by simp [foot])
  have c6 := h.c6
  have hr1 := hk.r1
  go_enter Tryd.func99, Tryd.ntmps99
  go_wp2
  go_loopw [2, 3, 12] (fun t e c wr => ∃ k : Nat, k ≤ H.order.length ∧ c = .int .i64 k ∧ t = .int .i64 ((slideTo H k).turns : Int) ∧ e = .int .i64 ((slideTo H k).en : Int) ∧ Hid (Rep wr a l (slideTo H k).H ∧ Nx a l l w wr)) (fun _ _ c _ => H.order.length - (intOf c).toNat)
  case atStart => exact ⟨0, Nat.zero_le _, rfl, rfl, rfl, h, Nx.refl _ _ _⟩
  case round =>
    obtain ⟨k, hkn, rfl, rfl, rfl, hq⟩ := hrel
    obtain ⟨hr, hx⟩ := hq.out
    clear hq h c6
    obtain ⟨l1, l2, l3, l4, l5⟩ := slideTo_len H hk k hkn
    have hst := hk.step k
    have hm1 := hk.m1
    have ht1 := hk.t1
    by_cases hlt : k < H.order.length
    · have hst := hst hlt
      have hnext : Hid (slideTo H (k + 1) = slideStep (slideTo H k) k) := rfl
      obtain ⟨x, hxx⟩ : ∃ x, x = slideTo H k := ⟨_, rfl⟩
      rw [← hxx] at hr l1 l2 l3 l4 l5 hst hnext
      rw [← hxx]
      clear hxx
      obtain ⟨Hk, tn, en⟩ := x
      dsimp only at *
      obtain ⟨go, hgo, hco, hfo, hgoa, hgol⟩ := hr.orderAt k (by omega)
      have o1 := hco k (by omega)
      have k1 : (0 : Int) ≤ (k : Int) := by omega
      have k2 : (k : Int) < (H.order.length : Int) := by omega
      have HK := mkHid hk
      have b1 : Hk.mem.length ≤ 1048576 := by omega
      have b2 : Hk.order.length ≤ 1048576 := by omega
      have b3 : Hk.seats.length ≤ 65538 := by omega
      have b4 : en ≤ Hk.mem.length := by omega
      have b5 : tn < Hk.order.length := by omega
      have LL := mkHid (And.intro l1 (And.intro l2 l3))
      clear l1 l2 l3 l5
      by_cases h0 : Hk.order.getD k 0 = 0
      · rw [h0] at o1
        have HN : Hid (slideTo H (k + 1) = ⟨Hk, tn, en⟩) := by
          rw [show slideTo H (k + 1) = slideStep ⟨Hk, tn, en⟩ k from hnext.out]
          unfold slideStep Hid
          rw [if_pos h0]
        have HR := mkHid hr
        have HX := mkHid hx
        rw [hgo]
        clear hr hx hco hfo hst hk hnext h0 hgo
        go_wp2
        go_roundw
        case rel => exact ⟨k + 1, by omega, by go_num, by rw [HN.out], by rw [HN.out], by rw [HN.out]; exact ⟨HR.out, HX.out⟩⟩
        case measure => simp [intOf]; omega
      · obtain ⟨z1, z2, z3, z4⟩ := hst h0
        have HN : Hid (slideTo H (k + 1) = ⟨{ Hk with mem := splice Hk.mem en ((Hk.mem.drop (Hk.seats.getD (Hk.order.getD k 0) (0, 0, 0)).1).take (Hk.seats.getD (Hk.order.getD k 0) (0, 0, 0)).2.1), seats := Hk.seats.set (Hk.order.getD k 0) (en, (Hk.seats.getD (Hk.order.getD k 0) (0, 0, 0)).2.1, tn), order := Hk.order.set tn (Hk.order.getD k 0) }, tn + 1, en + (Hk.seats.getD (Hk.order.getD k 0) (0, 0, 0)).2.1⟩) := by
          rw [show slideTo H (k + 1) = slideStep ⟨Hk, tn, en⟩ k from hnext.out]
          unfold slideStep Hid
          rw [if_neg h0]
        have hob : ((Hk.order.getD k 0 : Int) == 0) = false := by simpa using h0
        dsimp only at z1 z2 z3 z4
        clear hnext hst h0 hk
        generalize Hk.order.getD k 0 = o at *
        obtain ⟨gs, hgs, hcs, hfs, hgsa, hgsl⟩ := hr.seatAt o z1
        obtain ⟨q0, q1, q2⟩ := hcs o z1
        have c5 := hr.c5
        rw [hgs] at c5
        simp only [I] at q0 q1 q2
        obtain ⟨⟨p, L, t⟩, hs⟩ : ∃ s, s = Hk.seats.getD o (0, 0, 0) := ⟨_, rfl⟩
        rw [← hs] at z2 z3 z4 HN q0 q1 q2
        dsimp only at z2 z3 z4 HN q0 q1 q2
        clear hs hcs hfs
        have m0 : (0 : Int) ≤ (o : Int) := by omega
        have m1 : (o : Int) < (Hk.seats.length : Int) := by omega
        have HR := mkHid hr
        have HX := mkHid hx
        have hga2 := hr.lt a (by simp [foot])
        rw [hgo]
        clear hr hx hco hfo
        go_wp2
        go_cut [] (fun W => Hid (Rep W a l { Hk with mem := splice Hk.mem en ((Hk.mem.drop p).take L) } ∧ Nx a l l w W ∧ W.heap[wr.heap.size]? = some (.cells #[.int .i64 (p : Int), .int .i64 (L : Int), .int .i64 (t : Int)] 94 (0, 0))))
        case first =>
          obtain ⟨g, hg, _, _, hga, hgl⟩ := HR.out.memBlock (by omega)
          obtain ⟨C, hC, hCl, hCs, hcm⟩ := HR.out.memCells hg
          have hml := HR.out.ml
          have c4 := HR.out.c4
          rw [hg] at c4
          obtain ⟨o3, ho3⟩ : ∃ o3, o3 = Obj.cells #[.int .i64 (p : Int), .int .i64 (L : Int), .int .i64 (t : Int)] 94 := ⟨_, rfl⟩
          have C4 := (World.cell?_alloc_lt wr o3 ⟨a, 4, none⟩ (by show a < _; omega)).trans c4
          have hn3 := heap_alloc_new wr o3
          rw [ho3] at hn3
          have T0 := cell_in hn3 0
          have T1 := cell_in hn3 1
          rw [← ho3] at T0 T1
          simp only [List.getElem?_toArray, List.getElem?_cons_succ, List.getElem?_cons_zero] at T0 T1
          have hC3 : Hid ((wr.alloc o3).heap[g]? = some (.cells C 28 (0, 0)) ∧ Rep (wr.alloc o3) a l Hk ∧ Nx a l l w (wr.alloc o3) ∧ (wr.alloc o3).heap[wr.heap.size]? = some (.cells #[.int .i64 (p : Int), .int .i64 (L : Int), .int .i64 (t : Int)] 94 (0, 0)) ∧ wr.heap.size ≠ g ∧ wr.heap.size < (wr.alloc o3).heap.size) :=
            ⟨(Below.heap_alloc _ _ _ hgl).trans hC, HR.out.alloc _, HX.out.trans (Nx.frw (Fr.alloc _ _ _)), by rw [ho3]; exact heap_alloc_new _ _, by omega, by simp⟩
          have h1c := mem_cells_one (w := wr) (a := a) hCl
          have H1C := mkHid h1c
          have HCL := mkHid hCl
          rw [← ho3]
          clear ho3 hn3 hC hCl c4 q0 q1 q2 c5 h1c o1
          generalize wr.alloc o3 = w3 at *
          have j1 : (0 : Int) ≤ (p : Int) := by omega
          have j2 : (p : Int) + (L : Int) ≤ (l.cm : Int) := by omega
          have j4 : (p : Int) ≤ (p : Int) + (L : Int) := by omega
          have j5 : IntKind.i64.wrap ((p : Int) + (L : Int)) = (p : Int) + (L : Int) := by rw [iwrap]; unfold wrap64; omega
          have e1 : ((p : Int) + (L : Int)).toNat = p + L := by omega
          have hcp : ¬ l.cm = p := by omega
          have hce : ¬ l.cm = en := by omega
          have j6 : (0 : Int) ≤ (en : Int) := by omega
          have j7 : (en : Int) ≤ (Hk.mem.length : Int) := by omega
          generalize hmm : Hk.mem.length = m at *
          have HMM := mkHid hmm
          clear hmm
          go_region_held3 (fun w' => w'.cell? ⟨a, 4, none⟩ = some (.slice (some ⟨g, 0, none⟩) m l.cm) ∧ w'.cell? ⟨wr.heap.size, 0, none⟩ = some (.int .i64 (p : Int)) ∧ w'.cell? ⟨wr.heap.size, 1, none⟩ = some (.int .i64 (L : Int))) (go_keep)
            ((refine step_copy rfl (.tmp 30) (.tmp 42) rfl g en p (m - en) (l.cm - en) L (l.cm - p) (by simp [Act.eval]) (by simp [Act.eval]) C (by exact hC3.out.1) (by omega) (by omega) (by omega) H1C.out ?_; intro w4 hh1 hh2 hh3; have y4 := hh2.cell (p := ⟨a, 4, none⟩) (by exact (by have := hC3.out.2.1.lt a (by simp [foot]); exact this)) (by simp; omega); have z0 := hh2.cell (p := ⟨wr.heap.size, 0, none⟩) (by exact hC3.out.2.2.2.2.2) (by simp; exact hC3.out.2.2.2.2.1); have z1 := hh2.cell (p := ⟨wr.heap.size, 1, none⟩) (by exact hC3.out.2.2.2.2.2) (by simp; exact hC3.out.2.2.2.2.1)))
          all_goals go_wp2
          all_goals
            go_meet
            case rel =>
              have hfr : Fr [g] w3 w4 := Fr.trans (S' := [g]) (Fr.drew [g] w3) hh2 (fun b hb => .inl hb)
              rw [HCL.out, drop_take_map _ _ _ _ (by rw [HMM.out]; omega), ← HCL.out] at hh1
              have K := hC3.out.2.1.spliced hg hC3.out.1 (by rw [List.length_take, List.length_drop, HMM.out]; omega) hh1 hfr
              refine mkHid ⟨K.1, hC3.out.2.2.1.trans K.2, ?_⟩
              rw [hfr.block _ hC3.out.2.2.2.2.2 (by simp; exact hC3.out.2.2.2.2.1)]
              exact hC3.out.2.2.2.1
        case rest =>
          obtain ⟨w2, hw2⟩ : ∃ w2, w2 = wc := ⟨_, rfl⟩
          subst hw2
          clear q0 q1 q2 c5 o1 HR HX
          obtain ⟨hr, hx, hsb⟩ := hcut.out
          clear hcut
          obtain ⟨g2, hg2, hc2, hf2, _, hg2l⟩ := hr.seatAt o z1
          obtain ⟨q0, q1, q2⟩ := hc2 o z1
          have c5 := hr.c5
          rw [hg2] at c5
          have p0 := hf2 (o * 3)
          have p1 := hf2 (o * 3 + 1)
          have p2 := hf2 (o * 3 + 2)
          have T1 := cell_in hsb 1
          simp only [I, List.getElem?_toArray, List.getElem?_cons_succ, List.getElem?_cons_zero] at q0 q1 q2 T1
          dsimp only at c5 q0 q1 q2
          generalize (Hk.seats.getD o (0, 0, 0)).1 = y0 at *
          generalize (Hk.seats.getD o (0, 0, 0)).2.1 = y1 at *
          generalize (Hk.seats.getD o (0, 0, 0)).2.2 = y2 at *
          have hgn : g2 ≠ wr.heap.size := by
            rw [hgs] at hg2
            injection hg2 with e
            injection e with e
            omega
          have HE : Hid (∀ W, Eqw (((w2.setCell ⟨g2, o * 3, none⟩ (.int .i64 (en : Int))).setCell ⟨g2, o * 3 + 1, none⟩ (.int .i64 (L : Int))).setCell ⟨g2, o * 3 + 2, none⟩ (.int .i64 (tn : Int))) W → Rep W a l { Hk with mem := splice Hk.mem en ((Hk.mem.drop p).take L), seats := Hk.seats.set o (en, L, tn) } ∧ Nx a l l w W ∧ W.heap[wr.heap.size]? = some (.cells #[.int .i64 (p : Int), .int .i64 (L : Int), .int .i64 (t : Int)] 94 (0, 0))) := by
            intro W he
            have K := hr.setSeat hg2 o z1 (en, L, tn) W he
            refine ⟨K.1, hx.trans K.2, ?_⟩
            rw [he.2.2.2, set_else (Ne.symm hgn), set_else (Ne.symm hgn), set_else (Ne.symm hgn)]
            exact hsb
          clear hr hx hsb hc2 hf2
          go_wp2
          go_cut [] (fun W => Hid (Rep W a l { Hk with mem := splice Hk.mem en ((Hk.mem.drop p).take L), seats := Hk.seats.set o (en, L, tn) } ∧ Nx a l l w W ∧ W.heap[wr.heap.size]? = some (.cells #[.int .i64 (p : Int), .int .i64 (L : Int), .int .i64 (t : Int)] 94 (0, 0))))
          case first =>
            go_region
            all_goals go_wp2
            all_goals
              go_meet
              case rel =>
                refine mkHid (HE.out _ ?_)
                exact eqw_drew _
          case rest =>
            obtain ⟨w5, hw5⟩ : ∃ w5, w5 = wc := ⟨_, rfl⟩
            subst hw5
            clear q0 q1 q2 p0 p1 p2 c5 T1 HE
            obtain ⟨hr, hx, hsb⟩ := hcut.out
            clear hcut
            obtain ⟨g3, hg3, hc3, hf3, _, hg3l⟩ := hr.orderAt tn b5
            have o1 := hc3 tn b5
            have f1 := hf3 tn
            have c6 := hr.c6
            rw [hg3] at c6
            have T1 := cell_in hsb 1
            simp only [List.getElem?_toArray, List.getElem?_cons_succ, List.getElem?_cons_zero] at T1
            dsimp only at c6 o1
            have hgn3 : g3 ≠ wr.heap.size := by
              intro e
              obtain ⟨cur, hcur⟩ := own_blk hr.order g3 (by rw [hg3]; simp [blk])
              rw [e, hsb] at hcur
              simp at hcur
            have HE : Hid (∀ W, Eqw (w5.setCell ⟨g3, tn, none⟩ (.int .i64 (o : Int))) W → Rep W a l { Hk with mem := splice Hk.mem en ((Hk.mem.drop p).take L), seats := Hk.seats.set o (en, L, tn), order := Hk.order.set tn o } ∧ Nx a l l w W) := by
              intro W he
              have K := hr.setOrder hg3 tn o W he
              exact ⟨K.1, hx.trans K.2⟩
            generalize Hk.order.getD tn 0 = ov at *
            have n1 : (0 : Int) ≤ (tn : Int) := by omega
            have n2 : (tn : Int) < (Hk.order.length : Int) := by omega
            clear hr hx hsb hc3 hf3 hg3
            go_wp2
            go_quiet (fail)
            go_wp2
            go_roundw
            case rel => exact ⟨k + 1, by omega, by go_num, by rw [HN.out]; go_num, by rw [HN.out]; go_num, by rw [HN.out]; exact HE.out _ ⟨rfl, rfl, rfl, rfl⟩⟩
            case measure => simp [intOf]; omega
    · have hke : k = H.order.length := by omega
      subst hke
      have HSH : Hid (slideH H = { (slideTo H H.order.length).H with mem := (slideTo H H.order.length).H.mem.take (slideTo H H.order.length).en, order := (slideTo H H.order.length).H.order.take (slideTo H H.order.length).turns }) := rfl
      obtain ⟨x, hxx⟩ : ∃ x, x = slideTo H H.order.length := ⟨_, rfl⟩
      rw [← hxx] at hr l1 l2 l3 l4 l5 HSH
      rw [← hxx]
      clear hxx hst hk
      obtain ⟨Hk, tn, en⟩ := x
      dsimp only at *
      have b1 : Hk.mem.length ≤ 1048576 := by omega
      have b4 : en ≤ Hk.mem.length := by omega
      have b5 : tn ≤ Hk.order.length := by omega
      have HR := mkHid hr
      have HX1 := mkHid hx
      have c4 := hr.c4
      have hml := hr.ml
      have hal2 := hr.lt a (by simp [foot])
      have L2 := mkHid l2
      clear hx l1 l3 l5 hkn
      go_upto_region 11 with (fail)
      go_cut [] (fun W => Hid (∃ M, M.length = Hk.mem.length ∧ M.take en = Hk.mem.take en ∧ M = M.take en ++ List.replicate (M.length - en) 0 ∧ Rep W a l { Hk with mem := M } ∧ Nx a l l w W))
      case first =>
        by_cases hem : en < Hk.mem.length
        · obtain ⟨g, hg, _, _, hga, hgl⟩ := hr.memBlock (by omega)
          obtain ⟨C, hC, hCl, hCs, hcm⟩ := hr.memCells hg
          rw [hg] at c4
          have HC := mkHid hC
          have j6 : (0 : Int) ≤ (en : Int) := by omega
          have j7 : (en : Int) ≤ (Hk.mem.length : Int) := by omega
          have hce : ¬ l.cm = en := by omega
          clear hr hCl hC l2
          generalize hmm : Hk.mem.length = m at *
          have HMM := mkHid hmm
          clear hmm
          go_wp2_with (first
            | (refine wpList_clear rfl (.tmp 74) rfl g en (m - en) (l.cm - en) (by simp [Act.eval]) (by omega) C (by exact HC.out) (by omega) ?_; intro w4 hh1 hh2 hh3)
            | go_in)
          go_meet
          case rel =>
            rw [zeros_map] at hh1
            have K := HR.out.spliced (vs := List.replicate (m - en) 0) hg HC.out (by rw [HMM.out, List.length_replicate]; omega) hh1 hh2
            refine mkHid ⟨_, (length_splice Hk.mem en (List.replicate (m - en) 0) (by rw [HMM.out, List.length_replicate]; omega)).trans HMM.out, ?_, ?_, K.1, HX1.out.trans K.2⟩
            · unfold splice
              rw [List.take_append_of_le_length (by simp; rw [HMM.out]; omega), List.take_take, Nat.min_self]
            · have hl := HMM.out
              unfold splice
              simp only [List.length_replicate]
              rw [show en + (m - en) = Hk.mem.length from by omega, List.drop_length, List.append_nil, List.take_append_of_le_length (by simp; omega), List.take_take, Nat.min_self]
              congr 2
              simp
              omega
        · have hem' : en = Hk.mem.length := by omega
          have HZ : Hid (∃ M, M.length = Hk.mem.length ∧ M.take en = Hk.mem.take en ∧ M = M.take en ++ List.replicate (M.length - en) 0 ∧ Rep wr a l { Hk with mem := M } ∧ Nx a l l w wr) :=
            ⟨Hk.mem, rfl, rfl, by rw [hem', Nat.sub_self, List.take_length]; simp, hr, HX1.out⟩
          have j6 : (0 : Int) ≤ (en : Int) := by omega
          have j7 : (en : Int) ≤ (Hk.mem.length : Int) := by omega
          have j8 : Hk.mem.length - en = 0 := by omega
          clear hr l2 hem hem'
          generalize hmm : Hk.mem.length = m at *
          clear hmm
          go_wp2_with (first
            | (refine wpList_clear0 rfl (.tmp 74) rfl (if l.cm = en then l.pm else l.pm.map fun b => b.add en) (l.cm - en) (by simp [Act.eval]) ?_)
            | go_in)
          all_goals
            go_meet
            case rel => exact HZ
      case rest =>
        obtain ⟨w2, hw2⟩ : ∃ w2, w2 = wc := ⟨_, rfl⟩
        subst hw2
        clear c4 hr
        obtain ⟨M, m1, m2, m3, hr, hx⟩ := hcut.out
        clear hcut
        have HE : Hid (∀ W, Eqw ((w2.setCell ⟨a, 6, none⟩ (.slice l.po tn l.co)).setCell ⟨a, 4, none⟩ (.slice l.pm en l.cm)) W → Rep W a l (slideH H) ∧ Nx a l l w W) := by
          intro W he
          have K := hr.cut b5 (by rw [m1]; exact b4) m3 W he
          dsimp only at K
          rw [m2] at K
          rw [HSH.out]
          exact ⟨K.1, hx.trans K.2⟩
        have c4 := hr.c4
        have c6 := hr.c6
        have f4 := hr.frozen 4
        have f6 := hr.frozen 6
        dsimp only at c4 c6
        rw [m1] at c4
        have hcm := hr.ml
        dsimp only at hcm
        have hco : tn ≤ l.co ∧ (l.po = none → l.co = 0) ∧ (∀ ad, l.po = some ad → ∃ g, ad = ⟨g, 0, none⟩) := by
          have := hr.order
          rcases this.2 with ⟨q, q0⟩ | ⟨g, cap, cur, q1, q2, q3, q4, q5, q6, q7⟩
          · injection q with q1 q2 q3
            rw [q1, q3]
            dsimp only at q0
            exact ⟨by omega, (fun _ => rfl), (fun ad h => by cases h)⟩
          · injection q1 with q1 q1b q1c
            rw [q1, q1c]
            dsimp only at q4
            exact ⟨by omega, (fun h => by cases h), (fun ad h => ⟨g, by injection h with h; exact h.symm⟩)⟩
        have hpm : (l.pm = none → l.cm = 0) ∧ (∀ ad, l.pm = some ad → ∃ g, ad = ⟨g, 0, none⟩) := by
          have := hr.mem
          rcases this.2 with ⟨q, q0⟩ | ⟨g, cap, cur, q1, q2, q3, q4, q5, q6, q7⟩
          · injection q with q1 q2 q3
            rw [q1, q3]
            exact ⟨(fun _ => rfl), (fun ad h => by cases h)⟩
          · injection q1 with q1 q1b q1c
            rw [q1]
            exact ⟨(fun h => by cases h), (fun ad h => ⟨g, by injection h with h; exact h.symm⟩)⟩
        obtain ⟨hco1, hco2, hco3⟩ := hco
        have u1 : (0 : Int) ≤ (tn : Int) := by omega
        have u2 : (tn : Int) ≤ (l.co : Int) := by omega
        have u3 : (0 : Int) ≤ (en : Int) := by omega
        have u4 : (en : Int) ≤ (l.cm : Int) := by omega
        clear hr hx m2 m3 m1 l2 HSH HR HX1
        obtain ⟨pm, cm, ps, cs, po, co, pb, cb⟩ := l
        dsimp only at *
        rcases po with _ | ado
        · have e0 : tn = 0 ∧ co = 0 := by have := hco2 rfl; omega
          obtain ⟨e1, e2⟩ := e0
          subst e1 e2
          rcases pm with _ | adm
          · have e3 : cm = 0 := hpm.1 rfl
            have e4 : en = 0 := by omega
            subst e3 e4
            clear hco2 hco3 hpm
            go_wp2
            go_region
            all_goals go_wp2
            all_goals
              go_end0
              refine ⟨rfl, HE.out _ ?_⟩
              exact eqw_drew _
          · obtain ⟨gm, rfl⟩ := hpm.2 adm rfl
            clear hco2 hco3 hpm
            go_wp2
            go_region
            all_goals go_wp2
            all_goals
              go_end0
              refine ⟨rfl, HE.out _ ?_⟩
              exact eqw_drew _
        · obtain ⟨go, rfl⟩ := hco3 ado rfl
          rcases pm with _ | adm
          · have e3 : cm = 0 := hpm.1 rfl
            have e4 : en = 0 := by omega
            subst e3 e4
            clear hco2 hco3 hpm
            go_wp2
            go_region
            all_goals go_wp2
            all_goals
              go_end0
              refine ⟨rfl, HE.out _ ?_⟩
              exact eqw_drew _
          · obtain ⟨gm, rfl⟩ := hpm.2 adm rfl
            clear hco2 hco3 hpm
            go_wp2
            go_region
            all_goals go_wp2
            all_goals
              go_end0
              refine ⟨rfl, HE.out _ ?_⟩
              exact eqw_drew _
end Go.Proofs.YtkmjimdaimbdfaaDoor



