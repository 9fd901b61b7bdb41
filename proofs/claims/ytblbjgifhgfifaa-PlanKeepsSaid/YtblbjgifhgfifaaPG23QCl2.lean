import Derived.Test.YtblbjgifhgfifaaPG22QUnd
import Derived.Test.YtblbjgifhgfifaaPNLast
import Derived.Test.YtblbjgifhgfifaaPNTurn
import Derived.Laws.EntriesVeiled
import Derived.Test.YtblbjgifhgfifaaPNFixed
namespace Go.Proofs.Ytblbjgifhgfifaa
open Go.RowKit
set_option linter.unusedVariables false
set_option linter.unusedSimpArgs false
/-! gathering fields, classes without names of their own left out -/
/-- the next one above that has names -/
def srcN (l : List Cl) (t : Option Nat) (own : List ByteArray) : Nat → Nat → Option Nat
  | 0, _ => none
  | f + 1, c => match upN l c with | none => none | some d => if (ownOf l t own d).length = 0 then srcN l t own f d else some d
def src (l : List Cl) (t : Option Nat) (own : List ByteArray) (c : Nat) : Option Nat := srcN l t own (c + 1) c
theorem srcN_fuel (l : List Cl) (t : Option Nat) (own : List ByteArray) : ∀ (f g c : Nat), c < f → c < g → srcN l t own f c = srcN l t own g c := by
  intro f
  induction f with
  | zero => intro g c h; omega
  | succ f ih =>
    intro g c h1 h2
    obtain ⟨g, rfl⟩ : ∃ k, g = k + 1 := ⟨g - 1, by omega⟩
    unfold srcN
    cases h : upN l c with
    | none => rfl
    | some d =>
      have := upN_lt h
      simp only
      rw [ih g d (by omega) (by omega)]
theorem src_none {l : List Cl} {t : Option Nat} {own : List ByteArray} {c : Nat} (h : upN l c = none) : src l t own c = none := by
  unfold src srcN; rw [h]
theorem src_some {l : List Cl} {t : Option Nat} {own : List ByteArray} {c d : Nat} (h : upN l c = some d) : src l t own c = if (ownOf l t own d).length = 0 then src l t own d else some d := by
  show (match upN l c with | none => none | some d => if (ownOf l t own d).length = 0 then srcN l t own c d else some d) = _
  rw [h]
  simp only
  have := upN_lt h
  rw [srcN_fuel l t own c (d + 1) d (by omega) (by omega)]
  rfl
theorem src_lt {l : List Cl} {t : Option Nat} {own : List ByteArray} : ∀ {c d : Nat}, src l t own c = some d → d < c := by
  intro c
  induction c using Nat.strongRecOn with
  | ind c ih =>
    intro d h
    cases hu : upN l c with
    | none => rw [src_none hu] at h; cases h
    | some e =>
      have he := upN_lt hu
      rw [src_some hu] at h
      split at h
      · have := ih e he h; omega
      · injection h with h; omega
theorem src_fields (l : List Cl) (t : Option Nat) (own : List ByteArray) : ∀ c, fieldsO l t own (src l t own c) = fieldsO l t own (upN l c) := by
  intro c
  induction c using Nat.strongRecOn with
  | ind c ih =>
    cases hu : upN l c with
    | none => rw [src_none hu]
    | some e =>
      rw [src_some hu]
      split
      · rename_i h0
        rw [ih e (upN_lt hu)]
        show _ = fields l t own e
        rw [fields_eq, List.length_eq_zero_iff.1 h0, List.append_nil]
      · rfl
theorem src_eq (l : List Cl) (t : Option Nat) (own : List ByteArray) (c : Nat) : fields l t own c = fieldsO l t own (src l t own c) ++ ownOf l t own c := by
  rw [src_fields, fields_eq]
/-- a list of texts more behind a row -/
theorem push_texts (w : World) (base : Nat) (p : Option Addr) (c : Nat) (ts ss : List ByteArray) (v : Value) (h : w.ownsRow base 9 1 (.slice p ts.length c) ts.length (ts.map Value.string)) (hv : RdS w v ss) (hb : ts.length + ss.length ≤ 8796093022208) (hB : base ≤ w.heap.size) :
    ∃ p' c' w', (Builtin.append_ #[24, 24] 24 #[.slice p ts.length c, v]).run Try.prog w = .ok (.slice p' (ts ++ ss).length c') w' ∧
      w'.ownsRow base 9 1 (.slice p' (ts ++ ss).length c') (ts ++ ss).length ((ts ++ ss).map Value.string) ∧ Fr (blk p) w w' := by
  obtain ⟨i9, ii, iz, is, ib⟩ := info_parts info9
  obtain ⟨q, d, rfl, hq⟩ := hv.at_
  cases q with
  | none =>
    have h0 : ss = [] := by
      by_cases e : 0 < ss.length
      · obtain ⟨g, off, e, _⟩ := hq e; cases e
      · exact List.length_eq_zero_iff.1 (by omega)
    subst h0
    have hd := hv.nil d rfl
    subst hd
    have hrun := run_append_owned_none (P := Try.prog) (w := w) base 24 24 9 i9 1 Try.underlying24 ii _ _ _ h
    refine ⟨p, c, w, ?_, ?_, Fr.refl _ _⟩
    · rw [List.append_nil]; exact hrun
    · rw [List.append_nil]; exact h
  | some a =>
    have hcell : ∀ j u, (ss.map Value.string)[j]? = some u → w.cell? (a.add j) = some u := fun j u hu => by
      have hj := (List.getElem?_eq_some_iff.1 hu).1
      rw [List.length_map] at hj
      obtain ⟨g, off, e, _, hc⟩ := hq (by omega)
      injection e with e
      subst e
      rw [Addr.add_lit, hc j hj, ← hu, List.getElem?_map, List.getD_eq_getElem?_getD, List.getElem?_eq_getElem hj]
      rfl
    obtain ⟨v', w', hr, h2, h3, _⟩ := run_append_own_wide (P := Try.prog) w base 24 24 9 i9 (.string ⟨#[]⟩) 1 16 Try.underlying24 ii iz is ib rfl (by decide) _ _ _ h a ss.length d (ss.map Value.string) (by simp) hcell (fun u hu => by
      obtain ⟨s, _, rfl⟩ := List.mem_map.1 hu; rfl) (by unfold maxLen; omega) (by omega) hB
    have hv' : ∃ p' c', v' = .slice p' (ts ++ ss).length c' := by
      rcases h2.2 with ⟨e1, e2⟩ | ⟨g, c', cur, e1, _⟩
      · exact ⟨none, 0, by rw [e1, List.length_append, e2]⟩
      · exact ⟨_, c', by rw [e1, List.length_append]⟩
    obtain ⟨p', c', rfl⟩ := hv'
    refine ⟨p', c', w', hr, ?_, Fr.grown h3 (fun k hk => (blk_own _ _ _ _).1 hk)⟩
    rw [List.length_append, List.map_append]
    rw [List.length_append] at h2
    exact h2
/-- the function that gathers -/
structure Gth (w : World) (l : List Cl) (b6 b3 b1 gs : Nat) : Prop where
  fn : w.heap[b6]? = some (.cells #[.func (.func 61) #[] #[.pointer (some ⟨b6, 0, none⟩), .pointer (some ⟨b3, 0, none⟩), .pointer (some ⟨b1, 0, none⟩)]] 79 (0, 0))
  src : w.heap[b3]? = some (.cells #[.slice (some ⟨gs, 0, none⟩) l.length l.length] 34 (0, 0))
  row : Row w gs l.length (fun c => zO (Ytblbjgifhgfifaa.src l none [] c))
  box : ∃ vc va fv, w.heap[b1]? = some (.cells #[vc, va, fv] 64 (0, 0)) ∧ RdC w vc l
theorem Gth.idle {w w' : World} {l : List Cl} {b6 b3 b1 gs : Nat} (h : Gth w l b6 b3 b1 gs) (hf : Fr [] w w') : Gth w' l b6 b3 b1 gs := by
  obtain ⟨vc, va, fv, h1, h2⟩ := h.box
  exact ⟨(hf.block _ (lt_of_heap h.fn) (by simp)).trans h.fn, (hf.block _ (lt_of_heap h.src) (by simp)).trans h.src, h.row.keep hf (by simp), vc, va, fv, (hf.block _ (lt_of_heap h1) (by simp)).trans h1, h2.idle hf⟩
set_option maxHeartbeats 400000 in
theorem gather_no (b6 b3 b1 : Nat) (w : World) : Calls Try.prog 61 #[.int .i64 (-1), .pointer (some ⟨b6, 0, none⟩), .pointer (some ⟨b3, 0, none⟩), .pointer (some ⟨b1, 0, none⟩)] w fun e w' => e = .returned (.slice none 0 0) ∧ w' = w := by
  go_enter Try.func61, Try.ntmps61
  go_wp2
  go_ret
  exact ⟨rfl, rfl⟩
theorem ownOf_none (l : List Cl) (c : Nat) : ownOf l none [] c = (clAt l c).own := rfl
set_option maxRecDepth 20000 in
set_option maxHeartbeats 4000000 in
theorem gather_ok (l : List Cl) (b6 b3 b1 gs : Nat) : ∀ (c : Nat) (w : World), c < l.length → Gth w l b6 b3 b1 gs → (fields l none [] c).length ≤ 8796093022208 →
    Calls Try.prog 61 #[.int .i64 (c : Int), .pointer (some ⟨b6, 0, none⟩), .pointer (some ⟨b3, 0, none⟩), .pointer (some ⟨b1, 0, none⟩)] w fun e w' => ∃ p d, e = .returned (.slice p (fields l none [] c).length d) ∧ Mine w w' p d (fields l none [] c) := by
  intro c
  induction c using Nat.strongRecOn with
  | ind c ih =>
    intro w hc hG hlen
    have HX : Hid (∀ W, Gth W l b6 b3 b1 gs → Calls Try.prog 61 #[.int .i64 (zO (src l none [] c)), .pointer (some ⟨b6, 0, none⟩), .pointer (some ⟨b3, 0, none⟩), .pointer (some ⟨b1, 0, none⟩)] W fun e w' => ∃ p d, e = .returned (.slice p (fieldsO l none [] (src l none [] c)).length d) ∧ Mine W w' p d (fieldsO l none [] (src l none [] c))) := mkHid (fun W hW => by
      have he := src_eq l none [] c
      cases hs : src l none [] c with
      | none =>
        refine Calls.mono (gather_no b6 b3 b1 W) ?_
        rintro e w' ⟨rfl, rfl⟩
        exact ⟨none, 0, rfl, mine_nil _⟩
      | some d =>
        have hd := src_lt hs
        rw [hs] at he
        exact ih d hd W (by omega) hW (by
          have := congrArg List.length he
          rw [List.length_append] at this
          show (fieldsO l none [] (some d)).length ≤ _
          omega))
    obtain ⟨vc, va, fv, hb, hcl⟩ := hG.box
    obtain ⟨p, cc, rfl, hp⟩ := hcl.at_
    obtain ⟨g, off, rfl, x1, x2⟩ := hp (by omega)
    have hv := hcl.own c hc
    obtain ⟨pv, cv, ev, _⟩ := hv.at_
    obtain ⟨nv, hnv⟩ : ∃ n, (clAt l c).own.length = n := ⟨_, rfl⟩
    have HIH : Hid (∀ V, Hid (Fr [] w V) → Calls Try.prog 61 #[.int .i64 (zO (src l none [] c)), .pointer (some ⟨b6, 0, none⟩), .pointer (some ⟨b3, 0, none⟩), .pointer (some ⟨b1, 0, none⟩)] V fun e w' => ∃ x, e = .returned x ∧ ∃ p5 d5, x = .slice p5 (fieldsO l none [] (src l none [] c)).length d5 ∧ Hid (Fr [] w w') ∧ Hid (∃ p6 c6 w6, (Builtin.append_ #[24, 24] 24 #[.slice p5 (fieldsO l none [] (src l none [] c)).length d5, .slice pv nv cv]).run Try.prog w' = .ok (.slice p6 (fields l none [] c).length c6) w6 ∧ Mine w w6 p6 c6 (fields l none [] c))) := mkHid (fun V hV => by
      refine Calls.mono (HX.out V (hG.idle hV.out)) ?_
      rintro e w' ⟨p5, d5, rfl, hM⟩
      have hF := hV.out.trans hM.fr (by simp)
      refine ⟨_, rfl, p5, d5, rfl, mkHid hF, mkHid ?_⟩
      have he := src_eq l none [] c
      have hl2 := congrArg List.length he
      rw [List.length_append, ownOf_none] at hl2
      obtain ⟨p6, c6, w6, q1, q2, q3⟩ := push_texts w' V.heap.size p5 d5 (fieldsO l none [] (src l none [] c)) (clAt l c).own (clAt l c).v hM.row (hv.idle hF) (by omega) hM.fr.size
      rw [ev, hnv] at q1
      rw [he, ownOf_none]
      exact ⟨p6, c6, w6, q1, own_down q2 hV.out.size, hF.trans q3 (fun b hb => Or.inr (Nat.le_trans hV.out.size (own_lt hM.row b ((blk_own _ _ _ _).2 hb)).1))⟩)
    have k2 := (x2 c hc).2.2.1
    rw [ev, hnv] at k2
    have HCC : Hid (∀ V, Hid (Fr [] w V) → (fun V => V.cell? ⟨b6, 0, none⟩ = some (.func (.func 61) #[] #[.pointer (some ⟨b6, 0, none⟩), .pointer (some ⟨b3, 0, none⟩), .pointer (some ⟨b1, 0, none⟩)]) ∧ V.cell? ⟨b3, 0, none⟩ = some (.slice (some ⟨gs, 0, none⟩) l.length l.length) ∧ V.cell? ⟨gs, c, none⟩ = some (.int .i64 (zO (src l none [] c))) ∧ V.cell? ⟨b1, 0, none⟩ = some (.slice (some ⟨g, off, none⟩) l.length cc) ∧ V.cell? ⟨g, off + c * 4 + 2, none⟩ = some (.slice pv nv cv)) V) := mkHid (fun V hV => by
      have hG' := hG.idle hV.out
      exact ⟨by rw [cell_in hG'.fn]; rfl, by rw [cell_in hG'.src]; rfl, hG'.row.cell hc, by rw [hV.out.cell (p := ⟨b1, 0, none⟩) (lt_of_heap hb) (by simp), cell_in hb]; rfl, (hV.out.cell (p := ⟨g, off + c * 4 + 2, none⟩) x1 (by simp)).trans k2⟩)
    have HMf : Hid (∀ p6 c6 w6, Mine w w6 p6 c6 (fields l none [] c) → Hid (Fr [] w w6)) := mkHid (fun p6 c6 w6 h => mkHid h.fr)
    have hR : Hid (Fr [] w w) := mkHid (Fr.refl _ _)
    have c0 : (0 : Int) ≤ (c : Int) := by omega
    have c1 : (c : Int) < (l.length : Int) := by omega
    clear ih HX hG hb hcl hp x1 x2 hv ev hnv k2 hlen
    generalize zO (src l none [] c) = z at *
    generalize fieldsO l none [] (src l none [] c) = F0 at *
    generalize fields l none [] c = F1 at *
    go_enter Try.func61, Try.ntmps61
    go_wp2_with fail
    refine wp_region_held_drew (S := fun V => V.cell? ⟨b6, 0, none⟩ = some (.func (.func 61) #[] #[.pointer (some ⟨b6, 0, none⟩), .pointer (some ⟨b3, 0, none⟩), .pointer (some ⟨b1, 0, none⟩)]) ∧ V.cell? ⟨b3, 0, none⟩ = some (.slice (some ⟨gs, 0, none⟩) l.length l.length) ∧ V.cell? ⟨gs, c, none⟩ = some (.int .i64 (z)) ∧ V.cell? ⟨b1, 0, none⟩ = some (.slice (some ⟨g, off, none⟩) l.length cc) ∧ V.cell? ⟨g, off + c * 4 + 2, none⟩ = some (.slice pv nv cv)) (by kernel_rfl) (HCC.out _ (hidD hR)) (fun hHeld => ?_)
    refine wpAnyH_take (i := 0) (v := ?_) rfl (by kernel_rfl) (by kernel_rfl) (by kernel_rfl) (fun _ _ _ h => h) (Or.inl ⟨by rfl, ?_⟩) (by assumption) ?_
    rotate_left
    · (intro w hSw; (try dsimp only at hSw); first | (go_simp; done) | (go_simp; with_reducible rfl))
    try simp only [Act.put, List.getElem_toArray, List.getElem_cons_zero, List.getElem_cons_succ, List.setIfInBounds_toArray, List.set_cons_zero, List.set_cons_succ]
    refine wpAnyH_take (i := 1) (v := ?_) rfl (by kernel_rfl) (by kernel_rfl) (by kernel_rfl) (fun _ _ _ h => h) (Or.inl ⟨by rfl, ?_⟩) (by assumption) ?_
    rotate_left
    · (intro w hSw; (try dsimp only at hSw); first | (go_simp; done) | (go_simp; with_reducible rfl))
    try simp only [Act.put, List.getElem_toArray, List.getElem_cons_zero, List.getElem_cons_succ, List.setIfInBounds_toArray, List.set_cons_zero, List.set_cons_succ]
    refine wpAnyH_take (i := 2) (v := ?_) rfl (by kernel_rfl) (by kernel_rfl) (by kernel_rfl) (fun _ _ _ h => h) (Or.inl ⟨by rfl, ?_⟩) (by assumption) ?_
    rotate_left
    · (intro w hSw; (try dsimp only at hSw); first | (go_simp; done) | (go_simp; with_reducible rfl))
    try simp only [Act.put, List.getElem_toArray, List.getElem_cons_zero, List.getElem_cons_succ, List.setIfInBounds_toArray, List.set_cons_zero, List.set_cons_succ]
    refine wpAnyH_take (i := 3) (v := .pointer (some ⟨gs, c, none⟩)) rfl (by kernel_rfl) (by kernel_rfl) (by kernel_rfl) (fun _ _ _ h => h) (Or.inl ⟨by rfl, ?_⟩) (by assumption) ?_
    · (intro w hSw; (try dsimp only at hSw); go_simp; try first | omega | assumption)
    try simp only [Act.put, List.getElem_toArray, List.getElem_cons_zero, List.getElem_cons_succ, List.setIfInBounds_toArray, List.set_cons_zero, List.set_cons_succ]
    refine wpAnyH_take (i := 4) (v := ?_) rfl (by kernel_rfl) (by kernel_rfl) (by kernel_rfl) (fun _ _ _ h => h) (Or.inl ⟨by rfl, ?_⟩) (by assumption) ?_
    rotate_left
    · (intro w hSw; (try dsimp only at hSw); first | (go_simp; done) | (go_simp; with_reducible rfl))
    try simp only [Act.put, List.getElem_toArray, List.getElem_cons_zero, List.getElem_cons_succ, List.setIfInBounds_toArray, List.set_cons_zero, List.set_cons_succ]
    refine wpAnyH_take (i := 6) (v := ?_) rfl (by kernel_rfl) (by kernel_rfl) (by kernel_rfl) (fun _ _ _ h => h) (Or.inl ⟨by rfl, ?_⟩) (by assumption) ?_
    rotate_left
    · (intro w hSw; (try dsimp only at hSw); first | (go_simp; done) | (go_simp; with_reducible rfl))
    try simp only [Act.put, List.getElem_toArray, List.getElem_cons_zero, List.getElem_cons_succ, List.setIfInBounds_toArray, List.set_cons_zero, List.set_cons_succ]
    refine wpAnyH_take (i := 7) (v := ?_) rfl (by kernel_rfl) (by kernel_rfl) (by kernel_rfl) (fun _ _ _ h => h) (Or.inl ⟨by rfl, ?_⟩) (by assumption) ?_
    rotate_left
    · (intro w hSw; (try dsimp only at hSw); first | (go_simp; done) | (go_simp; with_reducible rfl))
    try simp only [Act.put, List.getElem_toArray, List.getElem_cons_zero, List.getElem_cons_succ, List.setIfInBounds_toArray, List.set_cons_zero, List.set_cons_succ]
    refine wpAnyH_take (i := 8) (v := ?_) rfl (by kernel_rfl) (by kernel_rfl) (by kernel_rfl) (fun _ _ _ h => h) (Or.inl ⟨by rfl, ?_⟩) (by assumption) ?_
    rotate_left
    · (intro w hSw; (try dsimp only at hSw); first | (go_simp; done) | (go_simp; with_reducible rfl))
    try simp only [Act.put, List.getElem_toArray, List.getElem_cons_zero, List.getElem_cons_succ, List.setIfInBounds_toArray, List.set_cons_zero, List.set_cons_succ]
    refine wpAnyH_take (i := 9) (v := .pointer (some ⟨g, off + c * 4, none⟩)) rfl (by kernel_rfl) (by kernel_rfl) (by kernel_rfl) (fun _ _ _ h => h) (Or.inl ⟨by rfl, ?_⟩) (by assumption) ?_
    · (intro w hSw; (try dsimp only at hSw); go_simp; try first | omega | assumption)
    try simp only [Act.put, List.getElem_toArray, List.getElem_cons_zero, List.getElem_cons_succ, List.setIfInBounds_toArray, List.set_cons_zero, List.set_cons_succ]
    refine wpAnyH_take (i := 10) (v := ?_) rfl (by kernel_rfl) (by kernel_rfl) (by kernel_rfl) (fun _ _ _ h => h) (Or.inl ⟨by rfl, ?_⟩) (by assumption) ?_
    rotate_left
    · (intro w hSw; (try dsimp only at hSw); first | (go_simp; done) | (go_simp; with_reducible rfl))
    try simp only [Act.put, List.getElem_toArray, List.getElem_cons_zero, List.getElem_cons_succ, List.setIfInBounds_toArray, List.set_cons_zero, List.set_cons_succ]
    refine wpAnyH_take (i := 11) (v := ?_) rfl (by kernel_rfl) (by kernel_rfl) (by kernel_rfl) (fun _ _ _ h => h) (Or.inl ⟨by rfl, ?_⟩) (by assumption) ?_
    rotate_left
    · (intro w hSw; (try dsimp only at hSw); first | (go_simp; done) | (go_simp; with_reducible rfl))
    try simp only [Act.put, List.getElem_toArray, List.getElem_cons_zero, List.getElem_cons_succ, List.setIfInBounds_toArray, List.set_cons_zero, List.set_cons_succ]
    refine oneH (i := 5) (by kernel_rfl) rfl (fun K hK => ?_)
    refine stepW (by rfl) 61 Try.f61 Try.func61 (by kernel_rfl) (by kernel_rfl) _ _ _ rfl #[.pointer (some ⟨b6, 0, none⟩), .pointer (some ⟨b3, 0, none⟩), .pointer (some ⟨b1, 0, none⟩)] rfl #[.int .i64 z, .pointer (some ⟨b6, 0, none⟩), .pointer (some ⟨b3, 0, none⟩), .pointer (some ⟨b1, 0, none⟩)] (by first | (simp [Act.eval]; done) | rfl) (fun x w2 => ∃ p5 d5, x = .slice p5 F0.length d5 ∧ Hid (Fr [] w w2) ∧ Hid (∃ p6 c6 w6, (Builtin.append_ #[24, 24] 24 #[.slice p5 F0.length d5, .slice pv nv cv]).run Try.prog w2 = .ok (.slice p6 F1.length c6) w6 ∧ Mine w w6 p6 c6 F1)) (HIH.out _ (hidD hR)) ?_
    rintro _ w4 ⟨p5, d5, rfl, hg4, hq4⟩
    refine hK.out _ _ (HCC.out _ hg4) (fun hHeld => ?_)
    clear hK K
    try simp only [Act.put, List.getElem_toArray, List.getElem_cons_zero, List.getElem_cons_succ, List.setIfInBounds_toArray, List.set_cons_zero, List.set_cons_succ]
    obtain ⟨p6, c6, w6, q6, hm6⟩ := hq4.out
    refine oneH (i := 12) (by kernel_rfl) rfl (fun K hK => ?_)
    refine step_append_run rfl (.tmp 13) (.tmp 19) 24 24 rfl _ _ rfl rfl _ _ q6 ?_
    refine hK.out _ _ (HCC.out _ (HMf.out _ _ _ hm6)) (fun hHeld => ?_)
    clear hK K
    try simp only [Act.put, List.getElem_toArray, List.getElem_cons_zero, List.getElem_cons_succ, List.setIfInBounds_toArray, List.set_cons_zero, List.set_cons_succ]
    refine wpAnyH_take (i := 13) (v := ?_) rfl (by kernel_rfl) (by kernel_rfl) (by kernel_rfl) (fun _ _ _ h => h) (Or.inl ⟨by rfl, ?_⟩) (by assumption) ?_
    rotate_left
    · (intro w hSw; (try dsimp only at hSw); first | (go_simp; done) | (go_simp; with_reducible rfl))
    try simp only [Act.put, List.getElem_toArray, List.getElem_cons_zero, List.getElem_cons_succ, List.setIfInBounds_toArray, List.set_cons_zero, List.set_cons_succ]
    refine wpAnyH_done (by kernel_rfl) ?_ _
    go_wp2_with fail
    go_ret
    exact ⟨p6, c6, rfl, hm6⟩
end Go.Proofs.Ytblbjgifhgfifaa
namespace Go.Proofs.Ytblbjgifhgfifaa
open Go.RowKit
set_option linter.unusedVariables false
set_option linter.unusedSimpArgs false
set_option maxRecDepth 20000 in
set_option maxHeartbeats 4000000 in
theorem gatherer_ok (l : List Cl) (v va : Value) (bf : Addr) (w : World) (h : RdC w v l) (hn : l.length ≤ 1048576) (ha : RdI w va (ups (upN l) l.length)) :
    Calls Try.prog 54 #[.agg #[v, va, .func (.func 58) #[] #[.pointer (some bf)]]] w fun e w' => ∃ b6 b3 b1 gs, e = .returned (.func (.func 61) #[] #[.pointer (some ⟨b6, 0, none⟩), .pointer (some ⟨b3, 0, none⟩), .pointer (some ⟨b1, 0, none⟩)]) ∧ Gth w' l b6 b3 b1 gs ∧ Fr [] w w' := by
  obtain ⟨p, c, rfl, h1⟩ := h.at_
  obtain ⟨pa, ca, rfl, _⟩ := ha.at_
  rw [ups_len] at *
  have HA := mkHid ha
  have HC := mkHid h
  have H1 := mkHid h1
  have hmk := make_ints l.length (by omega)
  obtain ⟨W0, hW0⟩ : ∃ W, w.alloc (.cells #[.slice p l.length c, .slice pa l.length ca, .func (.func 58) #[] #[.pointer (some bf)]] 64) = W := ⟨_, rfl⟩
  have hs0 : W0.heap.size = w.heap.size + 1 := by rw [← hW0]; simp
  have hb0 : W0.heap[w.heap.size]? = some (.cells #[.slice p l.length c, .slice pa l.length ca, .func (.func 58) #[] #[.pointer (some bf)]] 64 (0, 0)) := hW0 ▸ heap_alloc_new w _
  have f0 : Fr [] w W0 := hW0 ▸ Fr.alloc [] w _
  obtain ⟨W1, hW1⟩ : ∃ W, W0.alloc (.cells (zerosI l.length).toArray 3) = W := ⟨_, rfl⟩
  have r1 : Row W1 (w.heap.size + 1) l.length (fun _ => 0) := by have := row_new W0 l.length; rw [hs0, hW1] at this; exact this
  have f1 : Fr [] W0 W1 := hW1 ▸ Fr.alloc [] _ _
  have hs1 : W1.heap.size = w.heap.size + 2 := by rw [← hW1]; simp [hs0]
  obtain ⟨W2, hW2⟩ : ∃ W, W1.alloc (.cells #[.slice (some ⟨w.heap.size + 1, 0, none⟩) l.length l.length] 34) = W := ⟨_, rfl⟩
  have f2 : Fr [] W1 W2 := hW2 ▸ Fr.alloc [] _ _
  have hs2 : W2.heap.size = w.heap.size + 3 := by rw [← hW2]; simp [hs1]
  have c1 : W0.cell? ⟨w.heap.size, 1, none⟩ = some (.slice pa l.length ca) := by rw [cell_in hb0]; rfl
  have hb2 := (f2.block _ (by omega) (by simp)).trans ((f1.block _ (by omega) (by simp)).trans hb0)
  have c2 : W2.cell? ⟨w.heap.size, 1, none⟩ = some (.slice pa l.length ca) := by rw [cell_in hb2]; rfl
  have HB := mkHid hb2
  have HS : Hid (W2.heap[w.heap.size + 2]? = some (.cells #[.slice (some ⟨w.heap.size + 1, 0, none⟩) l.length l.length] 34 (0, 0))) := mkHid (by rw [← hW2, ← hs1]; exact heap_alloc_new _ _)
  have HR : Hid (Row W2 (w.heap.size + 1) l.length (fun c => if c < 0 then zO (src l none [] c) else 0)) := mkHid ((r1.keep f2 (by simp)).eqf (fun c _ => by rw [if_neg (Nat.not_lt_zero _)]))
  have HF : Hid (Fr [] w W2) := mkHid ((f0.trans f1 (by simp)).trans f2 (by simp))
  clear h h1 ha r1 f0 f1 f2 hb0 hb2
  go_enter Try.func54, Try.ntmps54
  go_wp2_with fail
  clear hmk hW0 hW1 hW2 hs2 hs0 c1 c2 hs1
  go_loopw [14] (fun q wr => ∃ i : Nat, i ≤ l.length ∧ q = .int .i64 i ∧ Hid (Row wr (w.heap.size + 1) l.length (fun c => if c < i then zO (src l none [] c) else 0)) ∧ Hid (wr.heap[w.heap.size]? = some (.cells #[.slice p l.length c, .slice pa l.length ca, .func (.func 58) #[] #[.pointer (some bf)]] 64 (0, 0))) ∧ Hid (wr.heap[w.heap.size + 2]? = some (.cells #[.slice (some ⟨w.heap.size + 1, 0, none⟩) l.length l.length] 34 (0, 0))) ∧ Hid (Fr [] w wr)) (fun q _ => l.length - (intOf q).toNat)
  case atStart => exact ⟨0, Nat.zero_le _, rfl, HR, HB, HS, HF⟩
  case round =>
    obtain ⟨i, hi, rfl, hrw, hbx, hsx, hfr⟩ := hrel
    clear HR HB HS HF
    have i0 : (0 : Int) ≤ (i : Int) := by omega
    by_cases hlt : i < l.length
    · have i3 : (i : Int) < (l.length : Int) := by omega
      obtain ⟨ga, oa, rfl, x1, x2⟩ := HA.out.cells (i := i) (by rw [ups_len]; exact hlt)
      rw [ups_at _ hlt] at x2
      have x3 := (hfr.out.cell (p := ⟨ga, oa + i, none⟩) x1 (by simp)).trans x2
      have c0 : wr.cell? ⟨w.heap.size, 0, none⟩ = some (.slice p l.length c) := by rw [cell_in hbx.out]; rfl
      have c3 : wr.cell? ⟨w.heap.size + 2, 0, none⟩ = some (.slice (some ⟨w.heap.size + 1, 0, none⟩) l.length l.length) := by rw [cell_in hsx.out]; rfl
      have r1 := hrw.out.cell hlt
      have r2 := hrw.out.frozen i
      obtain ⟨V1, hV1⟩ : ∃ W, wr.setCell ⟨w.heap.size + 1, i, none⟩ (.int .i64 (zO (src l none [] i))) = W := ⟨_, rfl⟩
      have f1 : Fr [w.heap.size + 1] wr V1 := hV1 ▸ Fr.setCell wr ⟨w.heap.size + 1, _, none⟩ _ (by simp)
      have HR1 : Hid (Row V1 (w.heap.size + 1) l.length (fun c => if c < i + 1 then zO (src l none [] c) else 0)) := mkHid (hV1 ▸ (hrw.out.set i _).eqf (fun c hc => by
        by_cases e : c = i
        · rw [if_pos e, if_pos (by omega), e]
        · rw [if_neg e]
          by_cases e2 : c < i
          · rw [if_pos e2, if_pos (by omega)]
          · rw [if_neg e2, if_neg (by omega)]))
      have HB1 := mkHid ((f1.block _ (lt_of_heap hbx.out) (by simp)).trans hbx.out)
      have HS1 := mkHid ((f1.block _ (lt_of_heap hsx.out) (by simp)).trans hsx.out)
      have HF1 : Hid (Fr [] w V1) := mkHid (hfr.out.trans f1 (by simp))
      cases hu : upN l i with
      | none =>
        rw [hu] at x3
        rw [show zO none = -1 from rfl] at x3
        rw [src_none hu, show zO none = -1 from rfl] at hV1
        clear x1 x2 hu hrw hbx hsx hfr HA HC H1 f1
        go_wp2_with fail
        go_roundw
        case rel => exact ⟨i + 1, by omega, by go_num, HR1, HB1, HS1, HF1⟩
        case measure => simp [intOf]; omega
      | some d =>
        have hd := upN_lt hu
        rw [hu] at x3
        rw [show zO (some d) = (d : Int) from rfl] at x3
        have d0 : (0 : Int) ≤ (d : Int) := by omega
        have d1 : (d : Int) < (l.length : Int) := by omega
        obtain ⟨g, off, rfl, y1, y2⟩ := H1.out (by omega)
        have k2 := (hfr.out.cell (p := ⟨g, off + d * 4 + 2, none⟩) y1 (by simp)).trans (y2 d (by omega)).2.2.1
        obtain ⟨pv, cv, ev, _⟩ := (HC.out.own d (by omega)).at_
        rw [ev] at k2
        have hso := src_some (t := none) (own := []) hu
        rw [ownOf_none] at hso
        have r3 := hrw.out.cell (i := d) (by omega)
        rw [if_pos hd] at r3
        by_cases h0 : (clAt l d).own.length = 0
        · rw [if_pos h0] at hso
          rw [h0] at k2
          rw [hso] at hV1
          clear x1 x2 y1 y2 hu hrw hbx hsx hfr HA HC H1 f1 ev h0 hso
          go_wp2_with fail
          go_roundw
          case rel => exact ⟨i + 1, by omega, by go_num, HR1, HB1, HS1, HF1⟩
          case measure => simp [intOf]; omega
        · rw [if_neg h0] at hso
          rw [hso, show zO (some d) = (d : Int) from rfl] at hV1
          have hb0 : (((clAt l d).own.length : Int) == 0) = false := by simpa using h0
          clear x1 x2 y1 y2 hu hrw hbx hsx hfr HA HC H1 f1 ev hso r3
          generalize (clAt l d).own.length = nv at *
          go_wp2_with fail
          go_roundw
          case rel => exact ⟨i + 1, by omega, by go_num, HR1, HB1, HS1, HF1⟩
          case measure => simp [intOf]; omega
    · have hie : i = l.length := by omega
      subst hie
      obtain ⟨V1, hV1⟩ : ∃ W, wr.alloc (.cells #[.nilFunc] 79) = W := ⟨_, rfl⟩
      obtain ⟨V2, hV2⟩ : ∃ W, V1.setCell ⟨wr.heap.size, 0, none⟩ (.func (.func 61) #[] #[.pointer (some ⟨wr.heap.size, 0, none⟩), .pointer (some ⟨w.heap.size + 2, 0, none⟩), .pointer (some ⟨w.heap.size, 0, none⟩)]) = W := ⟨_, rfl⟩
      have hb1 : V1.heap[wr.heap.size]? = some (.cells #[.nilFunc] 79 (0, 0)) := hV1 ▸ heap_alloc_new wr _
      have f1 : Fr [] wr V1 := hV1 ▸ Fr.alloc [] _ _
      have f2 : Fr [wr.heap.size] V1 V2 := hV2 ▸ Fr.setCell V1 ⟨wr.heap.size, _, none⟩ _ (by simp)
      have hb2 : V2.heap[wr.heap.size]? = some (.cells #[.func (.func 61) #[] #[.pointer (some ⟨wr.heap.size, 0, none⟩), .pointer (some ⟨w.heap.size + 2, 0, none⟩), .pointer (some ⟨w.heap.size, 0, none⟩)]] 79 (0, 0)) := by rw [← hV2, set_in hb1]; rfl
      have e1 : V1.cell? ⟨wr.heap.size, 0, none⟩ = some .nilFunc := by rw [cell_in hb1]; rfl
      have e2 := frozen_in hb1 0
      have e3 : V2.cell? ⟨wr.heap.size, 0, none⟩ = some (.func (.func 61) #[] #[.pointer (some ⟨wr.heap.size, 0, none⟩), .pointer (some ⟨w.heap.size + 2, 0, none⟩), .pointer (some ⟨w.heap.size, 0, none⟩)]) := by rw [cell_in hb2]; rfl
      have F2 : Fr [] wr V2 := f1.trans f2 (by simp)
      have HF2 : Hid (Fr [] w V2) := mkHid (hfr.out.trans F2 (by simp))
      have HG : Hid (Gth V2 l wr.heap.size (w.heap.size + 2) w.heap.size (w.heap.size + 1)) := mkHid ⟨hb2, (F2.block _ (lt_of_heap hsx.out) (by simp)).trans hsx.out, (hrw.out.keep F2 (by simp)).eqf (fun c hc => by rw [if_pos hc]), _, _, _, (F2.block _ (lt_of_heap hbx.out) (by simp)).trans hbx.out, HC.out.idle HF2.out⟩
      clear hb1 hb2 f1 f2 F2 hrw hbx hsx hfr HA HC H1
      go_wp2_with fail
      go_ret
      exact ⟨_, _, _, _, rfl, HG.out, HF2.out⟩
end Go.Proofs.Ytblbjgifhgfifaa
namespace Go.Proofs.Ytblbjgifhgfifaa
open Go.RowKit
set_option linter.unusedVariables false
set_option linter.unusedSimpArgs false
theorem info47 : (Try.prog.info? 47).map (fun i => (i.zero, i.size, i.bytes)) = some (some (.agg #[.string ⟨#[]⟩, .string ⟨#[]⟩, .slice none 0 0, .int .i64 0]), 4, 64) := by kernel_rfl
theorem clss_len (l : List Cl) : (clss l).length = l.length * 4 := by
  unfold clss
  induction l with
  | nil => rfl
  | cons x l ih => rw [List.flatMap_cons, List.length_append, ih, List.length_cons]; show 4 + _ = _; omega
theorem clss_one (l : List Cl) (h : ∀ k, k < l.length → (clAt l k).v.oneCell' = true) : ∀ u ∈ clss l, u.oneCell' = true := by
  intro u hu
  unfold clss at hu
  rw [List.mem_flatMap] at hu
  obtain ⟨x, hx, hu⟩ := hu
  obtain ⟨k, hk, e⟩ := List.getElem_of_mem hx
  have e2 : clAt l k = x := by unfold clAt; rw [List.getD_eq_getElem?_getD, List.getElem?_eq_getElem hk]; exact e
  unfold clCells at hu
  simp at hu
  rcases hu with rfl | rfl | rfl | rfl
  · rfl
  · rfl
  · rw [← e2]; exact h k hk
  · rfl
theorem RdC.news {w : World} {l : List Cl} {g off n c : Nat} (h : RdC w (.slice (some ⟨g, off, none⟩) n c) l) : ∀ j u, (clss l)[j]? = some u → w.cell? ((⟨g, off, none⟩ : Addr).add j) = some u := by
  intro j u hu
  have hj := (List.getElem?_eq_some_iff.1 hu).1
  rw [clss_len] at hj
  obtain ⟨p', c', e, h1⟩ := h.at_
  injection e with e1 e2 e3
  obtain ⟨g', off', e, _, h2⟩ := h1 (by omega)
  rw [← e1] at e
  injection e with e
  injection e with eg eo
  subst eg
  subst eo
  rw [Addr.add_lit]
  obtain ⟨k, r, hr, rfl⟩ : ∃ k r, r < 4 ∧ j = k * 4 + r := ⟨j / 4, j % 4, Nat.mod_lt _ (by decide), by omega⟩
  have hk : k < l.length := by omega
  obtain ⟨a0, a1, a2, a3⟩ := h2 k hk
  obtain ⟨b0, b1, b2, b3⟩ := clss_at l k hk
  match r, hr with
  | 0, _ => rw [Nat.add_zero] at hu ⊢; rw [a0, ← hu, b0]
  | 1, _ => rw [← Nat.add_assoc, a1, ← hu, b1]
  | 2, _ => rw [← Nat.add_assoc, a2, ← hu, b2]
  | 3, _ => rw [← Nat.add_assoc, a3, ← hu, b3]
set_option maxRecDepth 20000 in
set_option maxHeartbeats 1000000 in
theorem clone_ok (l : List Cl) (v : Value) (w : World) (h : RdC w v l) (h0 : 0 < l.length) (hn : l.length ≤ 1048576) :
    Calls Try.prog 50 #[v] w fun e w' => ∃ g cap cur, e = .returned (.slice (some ⟨g, 0, none⟩) l.length cap) ∧ w'.heap[g]? = some (.cells cur 47 (0, 0)) ∧ cur.toList.take (l.length * 4) = clss l ∧ w.heap.size ≤ g ∧ Fr [] w w' := by
  obtain ⟨i47, ii, iz, is, ib⟩ := info_parts info47
  obtain ⟨p, c, rfl, h1⟩ := h.at_
  obtain ⟨ga, off, rfl, x1, _⟩ := h1 h0
  obtain ⟨W0, hW0⟩ : ∃ W, w.alloc (.cells #[] 47) = W := ⟨_, rfl⟩
  have f0 : Fr [] w W0 := hW0 ▸ Fr.alloc [] _ _
  have hb0 : W0.heap[w.heap.size]? = some (.cells #[] 47 (0, 0)) := hW0 ▸ heap_alloc_new w _
  have own0 : W0.ownsRow w.heap.size 47 4 (.slice (some ⟨w.heap.size, 0, none⟩) 0 0) 0 [] := ⟨rfl, Or.inr ⟨w.heap.size, 0, #[], rfl, Nat.le_refl _, hb0, Nat.le_refl _, by unfold maxLen; omega, rfl, rfl⟩⟩
  obtain ⟨v', w', hr, h2, h3, _⟩ := run_append_own_wide (P := Try.prog) W0 w.heap.size 23 23 47 i47 _ 4 64 Try.underlying23 ii iz is ib rfl (by decide) _ _ _ own0 ⟨ga, off, none⟩ l.length c (clss l) (clss_len l) (h.idle f0).news (clss_one l (fun k hk => (h.own k hk).one)) (by unfold maxLen; omega) (by omega) f0.size
  rw [Nat.zero_add] at h2
  have hv : ∃ g cap cur, v' = .slice (some ⟨g, 0, none⟩) l.length cap ∧ w'.heap[g]? = some (.cells cur 47 (0, 0)) ∧ cur.toList.take (l.length * 4) = clss l ∧ w.heap.size ≤ g := by
    rcases h2.2 with ⟨e1, e2⟩ | ⟨g, cap, cur, e1, q1, q2, q3, q4, q5, q6⟩
    · omega
    · exact ⟨g, cap, cur, e1, q2, by simpa using q6, q1⟩
  obtain ⟨g, cap, cur, rfl, k1, k2, k3⟩ := hv
  have HE : Hid (w'.heap[g]? = some (.cells cur 47 (0, 0)) ∧ cur.toList.take (l.length * 4) = clss l ∧ w.heap.size ≤ g ∧ Fr [] w w') := mkHid ⟨k1, k2, k3, f0.trans (Fr.grown (S := [w.heap.size]) h3 (fun k hk => by
    have : w.heap.size = k := by simpa [Value.ownBlock] using hk
    simp [this])) (by simp)⟩
  have HR := mkHid hr
  have q23 : ∀ (w : World) (a : Option Addr) (n c n' c' : Nat), (binOp .eql 23 (.slice a n c) (.slice none n' c')).run Try.prog w = .ok (.bool a.isNone) w := fun w a n c n' c' => Lib.run_eql_slice_nil w _ _ a n c n' c' Try.underlying23
  clear h h1 x1 f0 hb0 own0 hr h2 h3 k1 k2 k3 ii iz is ib
  go_enter Try.func50, Try.ntmps50
  go_wp2_with (at_builtin; refine Lib.wpList_append_run _ rfl (.tmp 5) (.tmp 6) 23 23 rfl _ _ rfl rfl _ _ HR.out ?_)
  go_ret
  exact ⟨g, cap, cur, rfl, HE.out⟩
/-- the classes, one of them with other names -/
def turnC (l : List Cl) (top : Nat) (own : List ByteArray) (ov : Value) : List Cl := l.set top { clAt l top with own := own, v := ov }
theorem turnC_len (l : List Cl) (top : Nat) (own : List ByteArray) (ov : Value) : (turnC l top own ov).length = l.length := by simp [turnC]
theorem turnC_at (l : List Cl) (top : Nat) (own : List ByteArray) (ov : Value) (ht : top < l.length) (i : Nat) : clAt (turnC l top own ov) i = if i = top then { clAt l top with own := own, v := ov } else clAt l i := by
  unfold turnC clAt
  rw [List.getD_eq_getElem?_getD, List.getElem?_set]
  by_cases e : i = top
  · subst e; rw [if_pos rfl, if_pos ht, if_pos rfl]; rfl
  · rw [if_neg (fun x => e x.symm), if_neg e, List.getD_eq_getElem?_getD]
theorem turnC_trn (l : List Cl) (top : Nat) (own : List ByteArray) (ov : Value) (ht : top < l.length) : Trn l (turnC l top own ov) top own := by
  refine ⟨turnC_len l top own ov, fun i => ?_, fun i => ?_, fun i => ?_⟩
  · rw [turnC_at l top own ov ht]; split
    · rename_i e; rw [e]
    · rfl
  · rw [turnC_at l top own ov ht]; split
    · rename_i e; rw [e]
    · rfl
  · rw [turnC_at l top own ov ht]; split <;> rfl
/-- the copy, with the new names laid in -/
theorem clone_set {w' : World} {v : Value} {l : List Cl} {g cap : Nat} {cur : Array Value} (h : RdC w' v l) (hb : w'.heap[g]? = some (.cells cur 47 (0, 0))) (hc : cur.toList.take (l.length * 4) = clss l) {top : Nat} (ht : top < l.length) {own : List ByteArray} {ov : Value} (ho : RdS w' ov own)
    (hg : ∀ b, clBlks l b → b ≠ g) (hgo : 0 < own.length → ∀ b, ov.ownBlock = some b → b ≠ g) :
    w'.cell? ⟨g, top * 4 + 2, none⟩ = some (clAt l top).v ∧ w'.frozen? ⟨g, top * 4 + 2, none⟩ = false ∧ RdC (w'.setCell ⟨g, top * 4 + 2, none⟩ ov) (.slice (some ⟨g, 0, none⟩) l.length cap) (turnC l top own ov) ∧ Fr [g] w' (w'.setCell ⟨g, top * 4 + 2, none⟩ ov) := by
  have hat : ∀ j, j < l.length * 4 → cur[j]? = (clss l)[j]? := fun j hj => by
    rw [← hc, List.getElem?_take, if_pos hj, Array.getElem?_toList]
  have hf : Fr [g] w' (w'.setCell ⟨g, top * 4 + 2, none⟩ ov) := Fr.setCell w' ⟨g, _, none⟩ _ (by simp)
  refine ⟨?_, frozen_in hb _, ⟨⟨_, _, by rw [turnC_len], fun _ => ⟨g, 0, rfl, by simpa using lt_of_heap hb, fun k hk => ?_⟩⟩, fun k hk => ?_, by rw [turnC_len]; exact h.short⟩, hf⟩
  · rw [cell_in hb, hat _ (by omega), (clss_at l top ht).2.2.1]
  · rw [turnC_len] at hk
    have hbs := set_in hb (top * 4 + 2) ov
    obtain ⟨b0, b1, b2, b3⟩ := clss_at l k hk
    simp only [Nat.zero_add, cell_in hbs, Array.getElem?_setIfInBounds]
    rw [turnC_at l top own ov ht]
    have hsz : top * 4 + 2 < cur.size := by
      have := congrArg List.length hc
      rw [clss_len, List.length_take] at this
      have : cur.toList.length = cur.size := Array.length_toList
      omega
    refine ⟨?_, ?_, ?_, ?_⟩
    · rw [if_neg (by omega), hat _ (by omega), b0]; split
      · rename_i e; rw [e]
      · rfl
    · rw [if_neg (by omega), hat _ (by omega), b1]; split
      · rename_i e; rw [e]
      · rfl
    · by_cases e : k = top
      · subst e; rw [if_pos rfl, if_pos hsz, if_pos rfl]
      · rw [if_neg (by omega), hat _ (by omega), b2, if_neg e]
    · rw [if_neg (by omega), hat _ (by omega), b3]; split
      · rename_i e; rw [e]
      · rfl
  · rw [turnC_len] at hk
    rw [turnC_at l top own ov ht]
    by_cases e : k = top
    · rw [if_pos e]
      exact ho.keep hf (fun hp b hb' => by simpa using hgo hp b hb')
    · rw [if_neg e]
      exact (h.own k hk).keep hf (fun hp b hb' => by simpa using hg b ⟨k, hk, hp, hb'⟩)
end Go.Proofs.Ytblbjgifhgfifaa
