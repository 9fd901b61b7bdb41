import Derived.Test.YtcoddjdicodmhaaDoorKHExch
import Derived.Laws.CopyOwn
namespace Go.Proofs.YtcoddjdicodmhaaDoor
open Go.RowKit
set_option linter.unusedVariables false
attribute [local go_sem ↓] Go.wp_at_zero Go.wp_at_succ
def remBits (bits : List Nat) (k : Nat) : List Nat := bits.set ((k - 1) / 64) (bits.getD ((k - 1) / 64) 0 &&& (full - 2 ^ ((k - 1) % 64)))
def remH (H : HS) (k : Nat) : HS := { H with bits := remBits H.bits k, low := min H.low ((k - 1) / 64), count := H.count - 1 }
theorem andNot_u64 (b j : Nat) (hb : b ≤ full) : Go.bits .andNot .u64 (b : Int) ((2 ^ (j % 64) : Nat) : Int) = ((b &&& (full - 2 ^ (j % 64)) : Nat) : Int) := by
  have h : 2 ^ (j % 64) < 2 ^ 64 := Nat.pow_lt_pow_right (by omega) (Nat.mod_lt _ (by omega))
  exact u64_andNot_nat b _ (by unfold full at hb; omega) (by omega)
theorem rem_done {w : World} {a : Nat} {l : Lay} {H : HS} {g i z lw : Nat} (h : Rep w a l H) (hg : l.pb = some ⟨g, 0, none⟩) (hc : 1 ≤ H.count) (W : World)
    (he : Eqw (((w.setCell ⟨g, i, none⟩ (.int .u64 (z : Int))).setCell ⟨a, 8, none⟩ (.int .i64 (lw : Int))).setCell ⟨a, 9, none⟩ (.int .i64 ((H.count : Int) - 1))) W) :
    Rep W a l { H with bits := H.bits.set i z, low := lw, count := H.count - 1 } ∧ Nx a l l w W := by
  have hgb : g ∈ blk l.pb := by rw [hg]; simp [blk]
  have hap := (h.apart g).2.2.2 hgb
  have hb := h.bits
  rw [hg] at hb
  have hb1 := own_stored hb i (.int .u64 (z : Int))
  rw [map_set_U, ← hg] at hb1
  have h2 : Rep (w.setCell ⟨g, i, none⟩ (.int .u64 (z : Int))) a l { H with bits := H.bits.set i z } := by
    refine h.turnBits (by simp) (fun k hk => set_else (fun e => ?_)) (by simpa using hb1)
    subst e
    rcases hk with h1 | h1 | h1 | h1
    · exact hap.1 h1
    · exact hap.2.1 h1
    · exact hap.2.2.1 h1
    · exact hap.2.2.2 h1
  have f1 : Fr (foot a l) w (w.setCell ⟨g, i, none⟩ (.int .u64 (z : Int))) := Fr.setCell _ _ _ (by simp [foot, Lay.blocks, hgb])
  have h3 := h2.set (H' := { H with bits := H.bits.set i z, low := lw }) 8 (.int .i64 (lw : Int)) rfl rfl rfl rfl rfl
  have h4 := h3.set (H' := { H with bits := H.bits.set i z, low := lw, count := H.count - 1 }) 9 (.int .i64 ((H.count : Int) - 1)) (by simp [hcells]; omega) rfl rfl rfl rfl
  exact ⟨h4.eqw he, (Nx.frw ((f1.trans (Fr.setCell (S := foot a l) _ _ _ (by simp [foot])) (fun b hb => .inl hb)).trans (Fr.setCell (S := foot a l) _ _ _ (by simp [foot])) (fun b hb => .inl hb))).eqw he⟩
set_option maxRecDepth 20000 in
set_option maxHeartbeats 1000000 in
theorem remove_any (k : Nat) (a : Nat) (l : Lay) (H : HS) (w : World) (h : Rep w a l H) (hk0 : (1 : Int) ≤ k) (hk1 : (k : Int) ≤ 65537) (hi : (k - 1) / 64 < H.bits.length) (hb : ∀ k, H.bits.getD k 0 ≤ full) (hc0 : 1 ≤ H.count) (hc : (H.count : Int) ≤ 100000) (hlw : (H.low : Int) ≤ 100000) :
    Calls Tryd.prog 108 #[.pointer (some ⟨a, 7, none⟩), .int .i64 k] w fun e w' => e = .returned (.tuple #[]) ∧ Rep w' a l (remH H k) ∧ Nx a l l w w' := by
  have hd : ((k : Int) - 1) / 64 = (((k - 1) / 64 : Nat) : Int) := by omega
  have hd2 : (((k - 1) / 64 : Nat) : Int) ≤ 1024 := by omega
  obtain ⟨g, hg, cg, fg, hga⟩ := h.bitAt _ hi
  have c7 := h.c7
  have c8 := h.c8
  have c9 := h.c9
  have f8 := h.frozen 8
  have f9 := h.frozen 9
  rw [hg] at c7
  have hou := andNot_u64 (H.bits.getD ((k - 1) / 64) 0) (k - 1) (hb _)
  obtain ⟨lw, hlw1, hlw2⟩ : ∃ lw, lw = min H.low ((k - 1) / 64) ∧ (if (((k - 1) / 64 : Nat) : Int) < (H.low : Int) then (((k - 1) / 64 : Nat) : Int) else (H.low : Int)) = (lw : Int) := by
    refine ⟨_, rfl, ?_⟩
    split <;> omega
  have HR : Hid (∀ W, Eqw (((w.setCell ⟨g, (k - 1) / 64, none⟩ (.int .u64 ((H.bits.getD ((k - 1) / 64) 0 &&& (full - 2 ^ ((k - 1) % 64)) : Nat) : Int))).setCell ⟨a, 8, none⟩ (.int .i64 (lw : Int))).setCell ⟨a, 9, none⟩ (.int .i64 ((H.count : Int) - 1))) W → Rep W a l (remH H k) ∧ Nx a l l w W) := by
    intro W he
    have K := rem_done h hg hc0 W he
    unfold remH remBits
    rw [← hlw1]
    exact K
  have i1 : (0 : Int) ≤ (((k - 1) / 64 : Nat) : Int) := by omega
  have i2 : (((k - 1) / 64 : Nat) : Int) < (H.bits.length : Int) := by omega
  have hl0 : (0 : Int) ≤ (H.low : Int) := by omega
  have HLW := mkHid hlw2
  clear h hb hg hi hlw1 hlw2
  generalize H.bits.getD ((k - 1) / 64) 0 &&& (full - 2 ^ ((k - 1) % 64)) = z at *
  generalize H.bits.getD ((k - 1) / 64) 0 = b at *
  have Hbit := bit_any k
  generalize 2 ^ ((k - 1) % 64) = y at *
  have HB := mkHid Hbit
  clear Hbit
  generalize (k - 1) / 64 = i at *
  generalize H.bits.length = n at *
  generalize remH H k = HX at *
  generalize H.count = cnt at *
  generalize H.low = low at *
  go_enter Tryd.func108, Tryd.ntmps108
  go_wp2
  simp only [hd]
  clear hd
  go_region_with (go_at_call 115; refine (HB.out _ hk0 (by omega)).mono ?_; rintro e w' ⟨rfl, rfl⟩)
  all_goals go_wp2
  all_goals
    go_end0
    have hh := HLW.out
    first
    | (rw [if_pos (by omega)] at hh; rw [← hh] at HR; exact ⟨rfl, HR.out _ (eqw_drew _)⟩)
    | (rw [if_neg (by omega)] at hh; rw [← hh] at HR; exact ⟨rfl, HR.out _ (eqw_drew _)⟩)
end Go.Proofs.YtcoddjdicodmhaaDoor
namespace Go.Proofs.YtcoddjdicodmhaaDoor
open Go.RowKit
set_option linter.unusedVariables false
theorem zv33 (w : World) : (zeroValue 33).run Tryd.prog w = .ok (.int .i64 0) w := by
  obtain ⟨i0, hi, hz0, hz1, hz2⟩ := info_parts info33
  simp [zeroValue, typeInfo, hi, hz0]
theorem run_clear80 (w : World) (ty : TypeId) (g o n c : Nat) (C : Array Value) (hn : 0 < n) (hg : w.heap[g]? = some (.cells C 33 (0, 0))) (hfit : o + n ≤ C.size) :
    (Builtin.clear_ #[80] ty #[.slice (some ⟨g, o, none⟩) n c]).run Tryd.prog w = .ok (.tuple #[]) (w.setRow g (splice C.toList o (zeros n)).toArray) := by
  have hzc : (Builtin.zeroCells (Value.int .i64 0).cells n).toList = zeros n := by
    show (Builtin.zeroCells #[.int .i64 0] n).toList = List.replicate n (.int .i64 0)
    simp [Builtin.zeroCells]
    apply List.ext_getElem
    · simp
    · intro i h1 h2
      simp [Nat.mod_one]
  have hst := run_storeCells_at Tryd.prog g o 33 (zeros n) 0 C w hg (by rw [zeros_len]; omega) (by intro v hv; rw [List.eq_of_mem_replicate hv]; rfl)
  obtain ⟨m, rfl⟩ : ∃ m, n = m + 1 := ⟨n - 1, by omega⟩
  simp only [Nat.add_zero, List.append_assoc] at hst
  simp [Builtin.clear_, run_underlying Tryd.underlying80, hzc, hst, splice]
theorem step_clear {ops : Array Oper} {o : Oper} {a : Act} {w : World} {K : Act → World → Prop} {Q : Exit → Act → World → Prop} {E : Prop} (hgd : o.guard = none) (d : Operand)
    (ho : o.op = .call { callee := .builtin .clear, args := #[d], argTypes := #[80] }) (g off n c : Nat) (hd : a.eval d = .slice (some ⟨g, off, none⟩) n c) (hn : 0 < n) (C : Array Value) (hg : w.heap[g]? = some (.cells C 33 (0, 0))) (hfit : off + n ≤ C.size)
    (h : ∀ w', w'.heap[g]? = some (.cells (splice C.toList off (zeros n)).toArray 33 (0, 0)) → Fr [g] w w' → w'.heap.size = w.heap.size → K (a.put o.dst (.tuple #[])) w') :
    if Region.wanted o (yielded ops a.tmps) = true then Oper.wp Tryd.prog o a w K Q else E := by
  have hw : Region.wanted o (yielded ops a.tmps) = true := by simp [Region.wanted, hgd]
  rw [if_pos hw]
  have hrun := run_clear80 w o.type g off n c C hn hg hfit
  unfold Oper.wp
  simp [execOp, ho, resolve, invoke, builtin, hd, hrun, Result.andThen]
  exact h _ (setRow_heap w g C _ 33 _ hg) (Fr.setRow w g _ (by simp)) (by simp)
theorem wpList_clear {ops : Array Oper} {rest : List Oper} {o : Oper} {a : Act} {w : World} {Q : Exit → Act → World → Prop} (hgd : o.guard = none) (d : Operand)
    (ho : o.op = .call { callee := .builtin .clear, args := #[d], argTypes := #[80] }) (g off n c : Nat) (hd : a.eval d = .slice (some ⟨g, off, none⟩) n c) (hn : 0 < n) (C : Array Value) (hg : w.heap[g]? = some (.cells C 33 (0, 0))) (hfit : off + n ≤ C.size)
    (h : ∀ w', w'.heap[g]? = some (.cells (splice C.toList off (zeros n)).toArray 33 (0, 0)) → Fr [g] w w' → w'.heap.size = w.heap.size → wpList Tryd.prog ops Q rest (a.put o.dst (.tuple #[])) w') : wpList Tryd.prog ops Q (o :: rest) a w := by
  refine wpList_plain hgd fun K hK => ?_
  have hrun := run_clear80 w o.type g off n c C hn hg hfit
  unfold Oper.wp
  simp [execOp, ho, resolve, invoke, builtin, hd, hrun, Result.andThen]
  exact hK _ _ (h _ (setRow_heap w g C _ 33 _ hg) (Fr.setRow w g _ (by simp)) (by simp))
/-- the memory's cells, whole -/
theorem Rep.memCells {w : World} {a : Nat} {l : Lay} {H : HS} {g : Nat} (h : Rep w a l H) (hg : l.pm = some ⟨g, 0, none⟩) :
    ∃ C, w.heap[g]? = some (.cells C 33 (0, 0)) ∧ C.toList = (H.mem ++ List.replicate (l.cm - H.mem.length) 0).map (Value.int .i64) ∧ C.size = l.cm ∧ l.cm ≤ maxLen := by
  have hb := h.mem
  rw [hg] at hb
  rcases hb.2 with ⟨q, _⟩ | ⟨g', cap, cur, q1, q2, q3, q4, q5, q6, q7⟩
  · cases q
  · injection q1 with q1a q1b q1c
    injection q1a with q1a
    injection q1a with q1a
    subst q1a
    rw [List.take_of_length_le (by rw [Array.length_toList, q6, q1c]; exact Nat.le_refl _)] at q7
    exact ⟨cur, q3, q7, by omega, by omega⟩
/-- other words stand in the memory now -/
theorem Rep.newMem {w w2 : World} {a : Nat} {l : Lay} {H : HS} {g : Nat} {ms : List Int} (h : Rep w a l H) (hg : l.pm = some ⟨g, 0, none⟩) (hl : ms.length = H.mem.length)
    (h2 : w2.heap[g]? = some (.cells ((ms ++ List.replicate (l.cm - H.mem.length) 0).map (Value.int .i64)).toArray 33 (0, 0))) (hf : Fr [g] w w2) : Rep w2 a l { H with mem := ms } ∧ Nx a l l w w2 := by
  have hgb : g ∈ blk l.pm := by rw [hg]; simp [blk]
  have hap := (h.apart g).1 hgb
  obtain ⟨C, hC, hCl, hCs, hcm⟩ := h.memCells hg
  have hml := h.ml
  have hlen : ((ms ++ List.replicate (l.cm - ms.length) (0 : Int)).map (Value.int .i64)).length = l.cm := by simp; omega
  have ho : w2.ownsRow 0 33 1 (.slice l.pm l.cm l.cm) l.cm ((ms ++ List.replicate (l.cm - ms.length) 0).map (Value.int .i64)) := by
    rw [← hl] at h2
    rw [hg]
    refine ⟨by rw [hlen]; omega, .inr ⟨g, l.cm, _, rfl, Nat.zero_le _, h2, Nat.le_refl _, hcm, by simpa using hlen, ?_⟩⟩
    rw [List.take_of_length_le (by rw [Nat.mul_one]; exact Nat.le_of_eq hlen)]
  have hf' : ∀ k, k = a ∨ k ∈ blk l.ps ∨ k ∈ blk l.po ∨ k ∈ blk l.pb → w2.heap[k]? = w.heap[k]? := fun k hk => by
    have hlt : k < w.heap.size := h.lt k (by simp only [foot, Lay.blocks, List.mem_cons, List.mem_append]; rcases hk with h1 | h1 | h1 | h1 <;> simp [h1])
    refine hf.block k hlt (fun hm => ?_)
    simp at hm
    subst hm
    rcases hk with h1 | h1 | h1 | h1
    · exact hap.1 h1
    · exact hap.2.1 h1
    · exact hap.2.2.1 h1
    · exact hap.2.2.2 h1
  exact ⟨h.turnMem hl hf' ho, Nx.frw (hf.mono (fun b hb => by simp at hb; subst hb; simp [foot, Lay.blocks, hgb]))⟩
theorem splice_map (M Z : List Int) (off : Nat) (vs : List Int) (h : off + vs.length ≤ M.length) : splice ((M ++ Z).map (Value.int .i64)) off (vs.map (Value.int .i64)) = (splice M off vs ++ Z).map (Value.int .i64) := by
  unfold splice
  rw [List.map_append, List.map_append, List.map_append, List.map_append, List.map_take, List.map_drop, List.length_map]
  rw [List.take_append_of_le_length (by simp; omega), List.drop_append_of_le_length (by simp; omega)]
  simp
theorem zeros_map (n : Nat) : zeros n = (List.replicate n (0 : Int)).map (Value.int .i64) := by simp [zeros]
/-- a stretch of memory is overlaid -/
theorem Rep.spliced {w w2 : World} {a : Nat} {l : Lay} {H : HS} {g off : Nat} {vs : List Int} {C : Array Value} (h : Rep w a l H) (hg : l.pm = some ⟨g, 0, none⟩) (hC : w.heap[g]? = some (.cells C 33 (0, 0))) (ho : off + vs.length ≤ H.mem.length)
    (h2 : w2.heap[g]? = some (.cells (splice C.toList off (vs.map (Value.int .i64))).toArray 33 (0, 0))) (hf : Fr [g] w w2) : Rep w2 a l { H with mem := splice H.mem off vs } ∧ Nx a l l w w2 := by
  obtain ⟨C', hC', hCl, hCs, hcm⟩ := h.memCells hg
  rw [hC] at hC'
  injection hC' with hC'
  injection hC' with hC'
  subst hC'
  rw [hCl, splice_map _ _ _ _ ho] at h2
  exact h.newMem hg (length_splice _ _ _ ho) h2 hf
end Go.Proofs.YtcoddjdicodmhaaDoor
namespace Go.Proofs.YtcoddjdicodmhaaDoor
open Go.RowKit
set_option linter.unusedVariables false
attribute [local go_sem ↓] Go.wp_at_zero Go.wp_at_succ
def wipeH (H : HS) (oop : Nat) : HS :=
  { H with mem := splice H.mem (H.seats.getD oop (0, 0, 0)).1 (List.replicate (H.seats.getD oop (0, 0, 0)).2.1 0), order := H.order.set (H.seats.getD oop (0, 0, 0)).2.2 0, seats := H.seats.set oop (0, 0, 0) }
def vacH (H : HS) (oop : Nat) : HS := remH (wipeH H oop) oop
structure VacOk (H : HS) (oop : Nat) : Prop where
  o1 : 1 ≤ oop
  o2 : oop < H.seats.length
  o3 : oop ≤ 65537
  s1 : 1 ≤ (H.seats.getD oop (0, 0, 0)).2.1
  s2 : (H.seats.getD oop (0, 0, 0)).1 + (H.seats.getD oop (0, 0, 0)).2.1 ≤ H.mem.length
  s3 : (H.seats.getD oop (0, 0, 0)).2.2 < H.order.length
  b1 : (oop - 1) / 64 < H.bits.length
  b2 : ∀ k, H.bits.getD k 0 ≤ full
  c1 : 1 ≤ H.count
  c2 : H.count ≤ 65536
  c3 : H.low ≤ 65536
  m1 : H.mem.length ≤ 1048576
  r1 : H.order.length ≤ 1048576
  t1 : H.seats.length ≤ 65538
set_option maxRecDepth 20000 in
set_option maxHeartbeats 1000000 in
theorem vacate_ok (oop : Nat) (a : Nat) (l : Lay) (H : HS) (w : World) (h : Rep w a l H) (hv : VacOk H oop) :
    Calls Tryd.prog 74 #[.pointer (some ⟨a, 0, none⟩), .int .i64 oop] w fun e w' => e = .returned (.tuple #[]) ∧ Rep w' a l (vacH H oop) ∧ Nx a l l w w' := by
  obtain ⟨v1, v2, v3, v4, v5, v6, v7, v8, v9, v10, v11, v12, v13, v14⟩ := hv
  have hal := h.lt a (by simp [foot])
  obtain ⟨gs, hgs, hcs, hfs, hgsa, hgsl⟩ := h.seatAt oop v2
  obtain ⟨q0, q1, q2⟩ := hcs oop v2
  have c5 := h.c5
  rw [hgs] at c5
  simp only [I] at q0 q1 q2
  obtain ⟨⟨p, L, t⟩, hs⟩ : ∃ s, s = H.seats.getD oop (0, 0, 0) := ⟨_, rfl⟩
  have HV : Hid (vacH H oop = remH { H with mem := splice H.mem p (List.replicate L 0), order := H.order.set t 0, seats := H.seats.set oop (0, 0, 0) } oop) := by
    unfold vacH wipeH Hid
    rw [← hs]
  rw [← hs] at v4 v5 v6 q0 q1 q2
  dsimp only at v4 v5 v6 q0 q1 q2
  have HR := mkHid h
  have o1 : (0 : Int) ≤ (oop : Int) := by omega
  have o2 : (oop : Int) < (H.seats.length : Int) := by omega
  clear h hcs hfs hs
  generalize vacH H oop = HX at *
  go_enter Tryd.func74, Tryd.ntmps74
  go_wp2
  go_cut [] (fun W => Hid (Rep W a l { H with mem := splice H.mem p (List.replicate L 0) } ∧ Nx a l l w W ∧ W.heap[w.heap.size]? = some (.cells #[.int .i64 (p : Int), .int .i64 (L : Int), .int .i64 (t : Int)] 103 (0, 0))))
  case first =>
    obtain ⟨g, hg, _, _, hga, hgl⟩ := HR.out.memBlock (by omega)
    obtain ⟨C, hC, hCl, hCs, hcm⟩ := HR.out.memCells hg
    have hml := HR.out.ml
    have c4 := HR.out.c4
    rw [hg] at c4
    obtain ⟨o3, ho3⟩ : ∃ o3, o3 = Obj.cells #[.int .i64 (p : Int), .int .i64 (L : Int), .int .i64 (t : Int)] 103 := ⟨_, rfl⟩
    have C4 := (World.cell?_alloc_lt w o3 ⟨a, 4, none⟩ (by show a < _; omega)).trans c4
    have hn3 := heap_alloc_new w o3
    rw [ho3] at hn3
    have T0 := cell_in hn3 0
    have T1 := cell_in hn3 1
    rw [← ho3] at T0 T1
    simp only [List.getElem?_toArray, List.getElem?_cons_succ, List.getElem?_cons_zero] at T0 T1
    have hC3 : Hid ((w.alloc o3).heap[g]? = some (.cells C 33 (0, 0)) ∧ Rep (w.alloc o3) a l H ∧ Nx a l l w (w.alloc o3) ∧ (w.alloc o3).heap[w.heap.size]? = some (.cells #[.int .i64 (p : Int), .int .i64 (L : Int), .int .i64 (t : Int)] 103 (0, 0)) ∧ w.heap.size ≠ g ∧ w.heap.size < (w.alloc o3).heap.size) :=
      ⟨(Below.heap_alloc _ _ _ hgl).trans hC, HR.out.alloc _, Nx.frw (Fr.alloc _ _ _), by rw [ho3]; exact heap_alloc_new _ _, by omega, by simp⟩
    rw [← ho3]
    clear ho3 hn3 hC hCl c4 q0 q1 q2 c5
    generalize w.alloc o3 = w3 at *
    have k1 : (0 : Int) ≤ (p : Int) := by omega
    have k2 : (p : Int) + (L : Int) ≤ (l.cm : Int) := by omega
    have k4 : (p : Int) ≤ (p : Int) + (L : Int) := by omega
    have k5 : IntKind.i64.wrap ((p : Int) + (L : Int)) = (p : Int) + (L : Int) := by rw [iwrap]; unfold wrap64; omega
    have e1 : ((p : Int) + (L : Int)).toNat = p + L := by omega
    have e2 : (if l.cm = p then some (⟨g, 0, none⟩ : Addr) else some ⟨g, p, none⟩) = some ⟨g, p, none⟩ := by rw [if_neg (by omega)]
    have hcp : ¬ l.cm = p := by omega
    generalize hmm : H.mem.length = m at *
    have HMM := mkHid hmm
    clear hmm
    go_region_held3 (fun w' => w'.cell? ⟨a, 4, none⟩ = some (.slice (some ⟨g, 0, none⟩) m l.cm) ∧ w'.cell? ⟨w.heap.size, 0, none⟩ = some (.int .i64 (p : Int)) ∧ w'.cell? ⟨w.heap.size, 1, none⟩ = some (.int .i64 (L : Int))) (go_keep)
      ((refine step_clear rfl (.tmp 23) rfl g p L (l.cm - p) (by simp [Act.eval]) (by omega) C (by exact hC3.out.1) (by omega) ?_; intro w4 hh1 hh2 hh3; have y4 := hh2.cell (p := ⟨a, 4, none⟩) (by exact (by have := hC3.out.2.1.lt a (by simp [foot]); exact this)) (by simp; omega); have z0 := hh2.cell (p := ⟨w.heap.size, 0, none⟩) (by exact hC3.out.2.2.2.2.2) (by simp; exact hC3.out.2.2.2.2.1); have z1 := hh2.cell (p := ⟨w.heap.size, 1, none⟩) (by exact hC3.out.2.2.2.2.2) (by simp; exact hC3.out.2.2.2.2.1)))
    all_goals go_wp2
    all_goals
      go_meet
      case rel =>
        have hfr : Fr [g] w3 w4 := Fr.trans (S' := [g]) (Fr.drew [g] w3) hh2 (fun b hb => .inl hb)
        rw [zeros_map] at hh1
        have K := hC3.out.2.1.spliced hg hC3.out.1 (by rw [HMM.out]; simpa using v5) hh1 hfr
        refine mkHid ⟨K.1, hC3.out.2.2.1.trans K.2, ?_⟩
        rw [hfr.block _ hC3.out.2.2.2.2.2 (by simp; exact hC3.out.2.2.2.2.1)]
        exact hC3.out.2.2.2.1
  case rest =>
    obtain ⟨w2, hw2⟩ : ∃ w2, w2 = wc := ⟨_, rfl⟩
    subst hw2
    clear q0 q1 q2 c5 HR
    obtain ⟨hr, hx, hsb⟩ := hcut.out
    clear hcut
    obtain ⟨go, hgo, hco, hfo, hgoa, hgol⟩ := hr.orderAt t v6
    have c6 := hr.c6
    rw [hgo] at c6
    have o3 := hco t v6
    have f3 := hfo t
    have T2 := cell_in hsb 2
    simp only [List.getElem?_toArray, List.getElem?_cons_succ, List.getElem?_cons_zero] at T2
    dsimp only at c6 o3
    have HE : Hid (∀ W, Eqw (w2.setCell ⟨go, t, none⟩ (.int .i64 0)) W → Rep W a l { H with mem := splice H.mem p (List.replicate L 0), order := H.order.set t 0 } ∧ Nx a l l w W) := by
      intro W he
      have K := hr.setOrder hgo t 0 W he
      exact ⟨K.1, hx.trans K.2⟩
    have a1 : (0 : Int) ≤ (t : Int) := by omega
    have a2 : (t : Int) < (H.order.length : Int) := by omega
    generalize H.order.getD t 0 = ov at *
    clear hr hx hsb hco hfo hgo
    go_wp2
    go_cut [] (fun W => Hid (Rep W a l { H with mem := splice H.mem p (List.replicate L 0), order := H.order.set t 0 } ∧ Nx a l l w W))
    case first =>
      go_region
      all_goals go_wp2
      all_goals
        go_meet
        case rel =>
          refine mkHid (HE.out _ ?_)
          exact eqw_drew _
    case rest =>
      obtain ⟨w3, hw3⟩ : ∃ w3, w3 = wc := ⟨_, rfl⟩
      subst hw3
      clear c6 o3 f3 T2 HE
      obtain ⟨hr, hx⟩ := hcut.out
      clear hcut
      obtain ⟨g2, hg2, hc2, hf2, _, _⟩ := hr.seatAt oop v2
      obtain ⟨q0, q1, q2⟩ := hc2 oop v2
      have c5 := hr.c5
      rw [hg2] at c5
      have p0 := hf2 (oop * 3)
      have p1 := hf2 (oop * 3 + 1)
      have p2 := hf2 (oop * 3 + 2)
      simp only [I] at q0 q1 q2
      dsimp only at c5 q0 q1 q2
      generalize (H.seats.getD oop (0, 0, 0)).1 = y0 at *
      generalize (H.seats.getD oop (0, 0, 0)).2.1 = y1 at *
      generalize (H.seats.getD oop (0, 0, 0)).2.2 = y2 at *
      have HE : Hid (∀ W, Eqw (((w3.setCell ⟨g2, oop * 3, none⟩ (.int .i64 0)).setCell ⟨g2, oop * 3 + 1, none⟩ (.int .i64 0)).setCell ⟨g2, oop * 3 + 2, none⟩ (.int .i64 0)) W → Calls Tryd.prog 108 #[.pointer (some ⟨a, 7, none⟩), .int .i64 oop] W fun e w' => e = .returned (.tuple #[]) ∧ Rep w' a l HX ∧ Nx a l l w w') := by
        intro W he
        have K := hr.setSeat hg2 oop v2 (0, 0, 0) W he
        rw [HV.out]
        refine (remove_any oop a l _ W K.1 (by omega) (by omega) v7 v8 v9 (by dsimp only; omega) (by dsimp only; omega)).mono ?_
        rintro e w' ⟨rfl, k1, k2⟩
        exact ⟨rfl, k1, (hx.trans K.2).trans k2⟩
      clear hr hx hg2 hc2 hf2
      go_wp2_with fail
      refine Calls.mono (HE.out _ ?_) ?_
      · exact ⟨rfl, rfl, rfl, rfl⟩
      · rintro e w5 ⟨rfl, hr5, hx5⟩
        have HR5 := mkHid hr5
        have HX5 := mkHid hx5
        clear hr5 hx5 HE
        go_wp2
        go_end0
        exact ⟨rfl, HR5.out, HX5.out⟩
end Go.Proofs.YtcoddjdicodmhaaDoor
