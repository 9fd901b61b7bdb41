import Derived.Test.YtheolmnjedbjmaaDoorSTk
namespace Go.Proofs.YtheolmnjedbjmaaDoor
open Go.RowKit
set_option linter.unusedVariables false
set_option linter.unusedSimpArgs false
attribute [local go_sem ↓] Go.wp_at_zero Go.wp_at_succ
/-- the names the other way round -/
def revA (a : AK) : AK := ⟨a.kind, a.name, a.other, a.names.reverse, a.text, a.num, a.fuel⟩
theorem Ak2.rev {a : AK} (h : Ak2 a) : Ak2 (revA a) := ⟨h.name, h.other, h.text, fun s hs => h.names s (by simpa [revA] using hs), by simpa [revA] using h.len, h.num, h.fuel⟩
/-- the blocks of what was handed in -/
structure Hg (U : World) (hb gb nb tb : Nat) (a : AK) (cF cN cT : Nat) (curF curN : Array Value) : Prop where
  box : U.heap[hb]? = some (.cells #[.int .i64 0, .int .i64 0, .slice (some ⟨gb, 0, none⟩) 1 cF, .slice (some ⟨gb, 0, none⟩) 9 cF, .slice (some ⟨nb, 0, none⟩) 1 cN] 43 (0, 0))
  full : U.heap[gb]? = some (.cells curF 38 (0, 0))
  nms : U.heap[nb]? = some (.cells curN 36 (0, 0))
  cF_ : ∀ (f : Nat) (v : Value), (akC a (some ⟨tb, 0, none⟩) cT)[f]? = some v → curF[f]? = some v
  cN_ : curN[0]? = some (.slice (some ⟨tb, 0, none⟩) (a.names.length + 8) cT)
theorem Hs.hg {W w : World} {pb : Nat} {P : Array Value} {hb tb gb : Nat} {a : AK} {cT cF : Nat} {vN : Value} (h : Hs W w pb P hb tb a cT (.slice (some ⟨gb, 0, none⟩) 1 cF) (.slice (some ⟨gb, 0, none⟩) 9 cF) vN 8) : ∃ nb cN curF curN curT, Hf w hb gb nb tb a cF cN cT ∧ Hg w hb gb nb tb a cF cN cT curF curN ∧ w.heap[tb]? = some (.cells curT 9 (0, 0)) ∧ a.names.length + 8 ≤ curT.size ∧ W.heap.size ≤ tb := by
  obtain ⟨nb, cN, rfl, hf, -, htb, curT, hcT, hTs⟩ := h.hf
  obtain ⟨nb', cN', curN, e, hnb, hcN, hN1, -, -, hNc⟩ := own_cells h.nm (by omega)
  injection e with e1 e2 e3
  injection e1 with e1
  injection e1 with e1 e4
  subst e1 e3
  obtain ⟨gb', cF', curF, e, hgb, hcF, hF1, -, -, hFc⟩ := own_cells h.fl (by omega)
  injection e with e1 e2 e3
  injection e1 with e1
  injection e1 with e1 e4
  subst e1 e3
  refine ⟨nb, cN, curF, curN, curT, hf, ⟨h.box, hcF, hcN, fun f v hv => hFc f v ?_, hNc 0 _ rfl⟩, hcT, hTs, htb⟩
  have hfz : f < (akC a (some ⟨tb, 0, none⟩) cT).size := (Array.getElem?_eq_some_iff.1 hv).1
  unfold fullC
  rw [List.getElem?_append_left (by rw [Array.length_toList]; exact hfz), Array.getElem?_toList]
  exact hv
theorem Hg.bl {U V : World} {hb gb nb tb : Nat} {a : AK} {cF cN cT : Nat} {curF curN : Array Value} (h : Hg U hb gb nb tb a cF cN cT curF curN) (k : Bl U V) : Hg V hb gb nb tb a cF cN cT curF curN :=
  ⟨(k.block _ (lt_of_heap h.box)).trans h.box, (k.block _ (lt_of_heap h.full)).trans h.full, (k.block _ (lt_of_heap h.nms)).trans h.nms, h.cF_, h.cN_⟩
theorem Hg.fr {U V : World} {hb gb nb tb : Nat} {a : AK} {cF cN cT : Nat} {curF curN : Array Value} (h : Hg U hb gb nb tb a cF cN cT curF curN) {x : Nat} (k : Fr [x] U V) (hx : ∀ c T fz, U.heap[x]? = some (.cells c T fz) → T ≠ 43 ∧ T ≠ 38 ∧ T ≠ 36) : Hg V hb gb nb tb a cF cN cT curF curN := by
  have key : ∀ (b : Nat) (c : Array Value) (T : TypeId), (T = 43 ∨ T = 38 ∨ T = 36) → U.heap[b]? = some (.cells c T (0, 0)) → V.heap[b]? = some (.cells c T (0, 0)) := fun b c T hT hb => by
    rw [k.block b (lt_of_heap hb) (by
      simp
      intro e
      subst e
      have := hx _ _ _ hb
      rcases hT with h | h | h
      · exact this.1 h
      · exact this.2.1 h
      · exact this.2.2 h)]
    exact hb
  exact ⟨key _ _ _ (Or.inl rfl) h.box, key _ _ _ (Or.inr (Or.inl rfl)) h.full, key _ _ _ (Or.inr (Or.inr rfl)) h.nms, h.cF_, h.cN_⟩
theorem Hg.frx {U V : World} {hb gb nb tb : Nat} {a : AK} {cF cN cT : Nat} {curF curN : Array Value} (h : Hg U hb gb nb tb a cF cN cT curF curN) {V0 : World} (h0 : Bl U V0) {x : Nat} (k : Fr [x] V0 V) (hx : U.heap.size ≤ x) : Hg V hb gb nb tb a cF cN cT curF curN := by
  have key : ∀ (b : Nat) (o : Obj), U.heap[b]? = some o → V.heap[b]? = some o := fun b o hb => by
    have hlt := lt_of_heap hb
    rw [k.block b (Nat.lt_of_lt_of_le hlt h0.size) (by simp; omega), h0.block b hlt]
    exact hb
  exact ⟨key _ _ h.box, key _ _ h.full, key _ _ h.nms, h.cF_, h.cN_⟩
/-- while the names are turned round -/
structure L2 (V wr : World) (ab : Nat) (a : AK) (pv : Option Addr) (cv j : Nat) : Prop where
  box : wr.heap[ab]? = some (.cells #[.int .i64 a.kind, .string a.name, .string a.other, .slice pv j cv, .string a.text, .int .i64 a.num, .int .i64 a.fuel] 38 (0, 0))
  row : wr.ownsRow V.heap.size 9 1 (.slice pv j cv) j (strs (a.names.reverse.take j))
  fr : Fr [ab] V wr
  lt : ab < V.heap.size
theorem L2.push {V wr : World} {ab : Nat} {a : AK} {pv : Option Addr} {cv j : Nat} (h : L2 V wr ab a pv cv j) (hj : j < a.names.length) (hn : a.names.length ≤ 1048576) (m : Nat) (hm : m = a.names.length - 1 - j) :
    ∃ p2 c2 w', (Builtin.append_ #[36, 36] 36 #[.slice pv j cv, .slice (some ⟨wr.heap.size, 0, none⟩) 1 1]).run Tryd.prog (wr.drew.alloc (.cells #[.string (a.names[m]'(by omega))] 9)) = .ok (.slice p2 (j + 1) c2) w' ∧ Hid (Fr [ab] V w') ∧ w'.cell? ⟨ab, 3, none⟩ = some (.slice pv j cv) ∧ w'.frozen? ⟨ab, 3, none⟩ = false ∧ ∃ W4, w'.setCell ⟨ab, 3, none⟩ (.slice p2 (j + 1) c2) = W4 ∧ Hid (L2 V W4 ab a p2 c2 (j + 1)) := by
  have hB : V.heap.size ≤ wr.drew.heap.size := h.fr.size
  obtain ⟨v', w', hr, ho, hp⟩ := push_str (show wr.drew.ownsRow _ _ _ _ _ _ from h.row) hB (a.names[m]'(by omega)) (by omega)
  obtain ⟨p2, c2, rfl⟩ := own_slice ho
  have hbx : w'.heap[ab]? = _ := (hp.below.block ab h.lt).trans (show wr.drew.heap[ab]? = _ from h.box)
  have hfr : Fr [ab] V w' := ⟨hp.below.os.trans h.fr.os, hp.below.tape.trans h.fr.tape, hp.below.output.trans h.fr.output, Nat.le_trans h.fr.size hp.below.size, fun k hk hn => (hp.below.block k hk).trans (h.fr.block k hk hn)⟩
  have fs := Fr.setCell (S := [ab]) w' ⟨ab, 3, none⟩ (.slice p2 (j + 1) c2) (by simp)
  refine ⟨p2, c2, w', hr, hfr, lit_in hbx 3 _ rfl, frozen_in hbx 3, _, rfl, by simpa using set_in hbx 3 _, ?_, hfr.trans fs (fun b hb => Or.inl hb), h.lt⟩
  have e : strs (a.names.reverse.take (j + 1)) = strs (a.names.reverse.take j) ++ [.string (a.names[m]'(by omega))] := by
    subst hm
    rw [strs_take a.names.reverse j (by simpa using hj), List.getElem_reverse]
  rw [e]
  exact ow_set ho hbx (by decide)
/-- while they are laid into the list that was handed in -/
structure L3 (V wr : World) (tb : Nat) (a : AK) (j : Nat) : Prop where
  tw : ∃ cur, wr.heap[tb]? = some (.cells cur 9 (0, 0)) ∧ a.names.length ≤ cur.size ∧ ∀ (i : Nat) (hi : i < a.names.reverse.length), i < j → cur[i]? = some (.string a.names.reverse[i])
  fr : Fr [tb] V wr
theorem L3.put {V wr : World} {tb : Nat} {a : AK} {j : Nat} (h : L3 V wr tb a j) (hj : j < a.names.reverse.length) : (∃ y, wr.drew.cell? ⟨tb, j, none⟩ = some y) ∧ wr.drew.frozen? ⟨tb, j, none⟩ = false ∧ Hid (L3 V (wr.drew.setCell ⟨tb, j, none⟩ (.string a.names.reverse[j])) tb a (j + 1)) := by
  obtain ⟨cur, hc, hs, hv⟩ := h.tw
  have hc2 : wr.drew.heap[tb]? = some (.cells cur 9 (0, 0)) := hc
  have hjl : j < cur.size := by rw [List.length_reverse] at hj; omega
  have fs := Fr.setCell (S := [tb]) wr.drew ⟨tb, j, none⟩ (.string a.names.reverse[j]) (by simp)
  refine ⟨⟨_, by rw [cell_in hc2 j, Array.getElem?_eq_getElem hjl]⟩, frozen_in hc2 j, ⟨_, set_in hc2 j _, by simpa using hs, fun i hi hij => ?_⟩, (h.fr.trans (Fr.drew [] wr) (by simp)).trans fs (fun b hb => Or.inl hb)⟩
  rw [Array.getElem?_setIfInBounds]
  by_cases e : j = i
  · subst e
    rw [if_pos rfl, if_pos hjl]
  · rw [if_neg e]
    exact hv i hi (by omega)
end Go.Proofs.YtheolmnjedbjmaaDoor
