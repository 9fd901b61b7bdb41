import Derived.Test.YtdflpoldlokijaaDoorG21CRead
import Derived.Laws.MakeOwn
namespace Go.Proofs.YtdflpoldlokijaaDoor
open Go.RowKit
set_option linter.unusedVariables false
set_option linter.unusedSimpArgs false
attribute [local go_sem ↓] Go.wp_at_zero Go.wp_at_succ
def zr (n : Nat) : List Value := plCells (List.replicate n noPl)
theorem info93 : (Tryd.prog.info? 93).map (fun i => (i.zero, i.size, i.bytes)) = some (some (.agg #[.int .i64 0, .int .i64 0, .int .i64 0, .int .i64 0, .int .i64 0, .int .i64 0]), 6, 48) := by kernel_rfl
theorem zr_eq (n : Nat) : zr n = List.replicate (n * 6) (.int .i64 0) := by
  induction n with
  | zero => rfl
  | succ n ih =>
    unfold zr at *
    rw [List.replicate_succ]
    show plc noPl ++ plCells (List.replicate n noPl) = _
    rw [ih, show (n + 1) * 6 = 6 + n * 6 by omega, ← List.replicate_append_replicate]
    rfl
theorem made6 (v : Value) (n : Nat) : madeCells #[v, v, v, v, v, v] n = (List.replicate n v).toArray := by
  apply Array.ext
  · simp [madeCells]
  · intro i h1 h2
    simp only [madeCells, Array.getElem_map, Array.getElem_range, List.getElem_toArray, List.getElem_replicate]
    have hj : i % 6 < 6 := Nat.mod_lt _ (by decide)
    show (#[v, v, v, v, v, v] : Array Value)[i % 6]! = v
    generalize i % 6 = j at *
    rcases j with _ | _ | _ | _ | _ | _ | j
    all_goals first | rfl | omega
theorem make_places (c : Nat) (h2 : c ≤ 4096) (W : World) :
    (Instr.makeSlice 72 (.int .i64 (c : Int)) (.int .i64 (c : Int))).run Tryd.prog W = .ok (.slice (some ⟨W.heap.size, 0, none⟩) c c) (W.alloc (.cells (zr c).toArray 93)) := by
  obtain ⟨i0, hi, hz0, hz1, hz2⟩ := info_parts info93
  have h := run_make (P := Tryd.prog) W 72 93 i0 _ Tryd.underlying72 hi hz0 .i64 .i64 c c (by omega) (by omega) (by rw [hz2]; omega) (by omega)
  have e : madeCells (Value.agg #[.int .i64 0, .int .i64 0, .int .i64 0, .int .i64 0, .int .i64 0, .int .i64 0]).cells (c * 6) = (zr c).toArray := by
    rw [zr_eq]; exact made6 _ _
  rw [h, hz1, Int.toNat_natCast, e]
theorem new_at (w : World) (o : Obj) (k : Nat) (h : w.heap.size = k) : (w.alloc o).heap[k]? = some o := by rw [← h]; exact heap_alloc_new w o
set_option maxRecDepth 100000 in
set_option maxHeartbeats 4000000 in
theorem newReader_ok (C : Cx) (t : Nat) (ar st : Int) (lp : Option Addr) (lc : Nat) (pw : Option Addr) (cw : Nat) (w : World) (hw : Rd w (.slice pw C.ws.length cw) C.ws) (hcap : C.ws.length ≤ cw) (htb : Tb w) (hn : C.ws.length ≤ 4096) (hl : C.lits ≤ 64) (ht : t ≤ 32) (hr : ∀ i, -9223372036854775808 ≤ C.w i ∧ C.w i ≤ 9223372036854775807) :
    Calls Tryd.prog 24 #[.agg #[.int .i64 ar, .int .i64 (t : Int), .int .i64 st, .slice lp C.lits lc, .slice pw C.ws.length cw], .agg #[.int .i64 C.b.fields, .int .i64 C.b.classes, .int .i64 C.b.globals, .int .i64 C.b.symbols]] w fun e w' => ∃ a ps pp, e = .returned (.pointer (some ⟨a, 0, none⟩)) ∧ Fr [] w w' ∧ RR w' w.heap.size a C (.slice pw C.ws.length cw) [t] ps 1 (List.replicate C.ws.length noPl) pp 0 := by
  have hmk := fun W => make_places C.ws.length hn W
  have n0 : (0 : Int) ≤ (C.ws.length : Int) := by omega
  have HRR : Hid (∀ (V : World) (a s p : Nat), Fr [] w V → V.heap[a]? = some (.cells #[.slice pw C.ws.length cw, .int .i64 C.lits, .int .i64 C.b.fields, .int .i64 C.b.classes, .int .i64 C.b.globals, .int .i64 C.b.symbols, .slice (some ⟨s, 0, none⟩) 1 1, .int .i64 0, .slice (some ⟨p, 0, none⟩) C.ws.length C.ws.length] 74 (0, 0)) → V.heap[s]? = some (.cells #[.int .i64 (t : Int)] 3 (0, 0)) → V.heap[p]? = some (.cells (zr C.ws.length).toArray 93 (0, 0)) → w.heap.size ≤ a → w.heap.size ≤ s → w.heap.size ≤ p →
      RR V w.heap.size a C (.slice pw C.ws.length cw) [t] (some ⟨s, 0, none⟩) 1 (List.replicate C.ws.length noPl) (some ⟨p, 0, none⟩) 0) := fun V a s p hf h1 h2 h3 b1 b2 b3 =>
    ⟨by rw [h1]; simp [rcells, I], b1, hw.idle hf, fun hp g hg => hw.lt hp g hg, ⟨rfl, .inr ⟨s, 1, _, rfl, b2, h2, Nat.le_refl _, by decide, rfl, rfl⟩⟩,
      ⟨by rw [plCells_len], .inr ⟨p, C.ws.length, _, by simp, b3, h3, by simp, by unfold maxLen; omega, by simp [zr_eq], by
        simp only [List.toList_toArray, List.length_replicate]
        rw [List.take_of_length_le (by rw [zr_eq]; simp)]; rfl⟩⟩, htb.idle hf, htb.pos, hn, hl, by simp, by simp, by simp, fun x hx => by simp at hx; omega, fun p n c e => by injection e with _ e2 e3; omega, hr⟩
  clear hw htb hr
  go_enter Tryd.func24, Tryd.ntmps24
  go_wp2_with fail
  go_region
  all_goals go_wp2_with fail
  all_goals go_ret
  · have F : ∀ o1 o2 o3 o4 o5 : Obj, Fr [] w (((((w.alloc o1).alloc o2).alloc o3).alloc o4).alloc o5).drew := fun o1 o2 o3 o4 o5 => ((((((Fr.refl [] w).al o1).al o2).al o3).al o4).al o5).tr0 (Fr.drew [] _)
    refine ⟨w.heap.size + 1 + 1 + 1 + 1, some ⟨w.heap.size + 1 + 1, 0, none⟩, some ⟨w.heap.size + 1 + 1 + 1, 0, none⟩, rfl, F _ _ _ _ _, HRR.out _ _ _ _ (F _ _ _ _ _) ?_ ?_ ?_ (by omega) (by omega) (by omega)⟩
    · exact new_at _ _ _ (by simp)
    · exact al_old (al_old (new_at _ _ _ (by simp)) _) _
    · exact al_old (new_at _ _ _ (by simp)) _
  · have F : ∀ o1 o2 o3 o4 o5 : Obj, Fr [] w (((((w.alloc o1).alloc o2).alloc o3).alloc o4).alloc o5).drew := fun o1 o2 o3 o4 o5 => ((((((Fr.refl [] w).al o1).al o2).al o3).al o4).al o5).tr0 (Fr.drew [] _)
    refine ⟨w.heap.size + 1 + 1 + 1 + 1, some ⟨w.heap.size + 1 + 1 + 1, 0, none⟩, some ⟨w.heap.size + 1 + 1, 0, none⟩, rfl, F _ _ _ _ _, HRR.out _ _ _ _ (F _ _ _ _ _) ?_ ?_ ?_ (by omega) (by omega) (by omega)⟩
    · exact new_at _ _ _ (by simp)
    · exact al_old (new_at _ _ _ (by simp)) _
    · exact al_old (al_old (new_at _ _ _ (by simp)) _) _
end Go.Proofs.YtdflpoldlokijaaDoor
