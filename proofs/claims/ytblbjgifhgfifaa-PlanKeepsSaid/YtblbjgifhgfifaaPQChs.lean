import Derived.Test.YtblbjgifhgfifaaPG28QOrg
import Derived.Test.YtblbjgifhgfifaaPQMyO
import Derived.Test.YtblbjgifhgfifaaPG03NRMake
namespace Go.Proofs.Ytblbjgifhgfifaa
open Go.RowKit Go.Maps Go.WideMaps
set_option linter.unusedVariables false
set_option linter.unusedSimpArgs false
def chZ (n : Nat) : Array Value := madeCells (Value.agg #[.int .i64 0, .slice none 0 0, .slice none 0 0, .slice none 0 0]).cells (n * 4)
theorem make_chs (n : Nat) (h2 : n ≤ 1048576) (W : World) :
    (Instr.makeSlice 26 (.int .i64 0) (.int .i64 (n : Int))).run Try.prog W = .ok (.slice (some ⟨W.heap.size, 0, none⟩) 0 n) (W.alloc (.cells (chZ n) 36)) := by
  obtain ⟨i0, hi, hz0, hz1, hz2⟩ := info_parts info36
  have h := run_make (P := Try.prog) W 26 36 i0 _ Try.underlying26 hi hz0 .i64 .i64 0 n (by omega) (by omega) (by rw [hz2]; omega) (by omega)
  rw [h, hz1, Int.toNat_natCast]
  rfl
theorem own_chs (w : World) (n : Nat) (hn : n ≤ 1048576) : (w.alloc (.cells (chZ n) 36)).ownsRow w.heap.size 36 4 (.slice (some ⟨w.heap.size, 0, none⟩) 0 n) 0 (cgs []) :=
  ⟨rfl, Or.inr ⟨w.heap.size, n, _, rfl, Nat.le_refl _, heap_alloc_new w _, Nat.zero_le _, by unfold maxLen; omega, by unfold chZ; rw [size_madeCells], by simp [cgs]⟩⟩
def Apv (a b : Value) : Prop := ∀ g, a.ownBlock = some g → b.ownBlock ≠ some g
/-- changes whose lists are each a row of its own -/
structure Cgs (w wr : World) (xs : List Cg) : Prop where
  old : ∀ x ∈ xs, (∃ p d, x.vo = .slice p x.c.old.length d) ∧ wr.ownsRow w.heap.size 9 1 x.vo x.c.old.length (x.c.old.map Value.string)
  new : ∀ x ∈ xs, (∃ p d, x.vn = .slice p x.c.new.length d) ∧ wr.ownsRow w.heap.size 9 1 x.vn x.c.new.length (x.c.new.map Value.string)
  frm : ∀ x ∈ xs, (∃ p d, x.vf = .slice p x.c.frm.length d) ∧ wr.ownsRow w.heap.size 3 1 x.vf x.c.frm.length (ints x.c.frm)
  txt : (xs.flatMap (fun x => [x.vo, x.vn])).Pairwise Apv
  int : (xs.map Cg.vf).Pairwise Apv
  len : ∀ x ∈ xs, x.c.old.length ≤ 8796093022208 ∧ x.c.new.length ≤ 8796093022208 ∧ x.c.frm.length ≤ 8796093022208
theorem Cgs.nil (w wr : World) : Cgs w wr [] := ⟨by simp, by simp, by simp, by simp, by simp, by simp⟩
theorem Cgs.keep {w wr wr' : World} {xs : List Cg} {S : List Nat} (h : Cgs w wr xs) (hf : Fr S wr wr') (hS : ∀ g ∈ S, ∀ x ∈ xs, x.vo.ownBlock ≠ some g ∧ x.vn.ownBlock ≠ some g ∧ x.vf.ownBlock ≠ some g) : Cgs w wr' xs :=
  ⟨fun x hx => ⟨(h.old x hx).1, own_congr (h.old x hx).2 (fun g hg => hf.block g (own_lt (h.old x hx).2 g hg).2 (fun hm => (hS g hm x hx).1 hg))⟩,
   fun x hx => ⟨(h.new x hx).1, own_congr (h.new x hx).2 (fun g hg => hf.block g (own_lt (h.new x hx).2 g hg).2 (fun hm => (hS g hm x hx).2.1 hg))⟩,
   fun x hx => ⟨(h.frm x hx).1, own_congr (h.frm x hx).2 (fun g hg => hf.block g (own_lt (h.frm x hx).2 g hg).2 (fun hm => (hS g hm x hx).2.2 hg))⟩, h.txt, h.int, h.len⟩
theorem Cgs.idle {w wr wr' : World} {xs : List Cg} (h : Cgs w wr xs) (hf : Fr [] wr wr') : Cgs w wr' xs := h.keep hf (by simp)
/-- blocks of rows of other types -/
theorem Cgs.other {w wr : World} {xs : List Cg} (h : Cgs w wr xs) {g : Nat} {C : Array Value} {t : TypeId} (hb : wr.heap[g]? = some (.cells C t (0, 0))) (h9 : t ≠ 9) (h3 : t ≠ 3) : ∀ x ∈ xs, x.vo.ownBlock ≠ some g ∧ x.vn.ownBlock ≠ some g ∧ x.vf.ownBlock ≠ some g := fun x hx => by
  have key : ∀ {v : Value} {e : TypeId} {n : Nat} {ys : List Value}, wr.ownsRow w.heap.size e 1 v n ys → e ≠ t → v.ownBlock ≠ some g := fun {v e n ys} ho he hg => by
    rcases ho.2 with ⟨rfl, _⟩ | ⟨g', cap, cur, rfl, _, hc, _⟩
    · cases hg
    · have : g' = g := by simpa [Value.ownBlock] using hg
      subst this
      rw [hb] at hc
      injection hc with hc
      injection hc with _ hc
      exact he hc.symm
  exact ⟨key (h.old x hx).2 (fun e => h9 e.symm), key (h.new x hx).2 (fun e => h9 e.symm), key (h.frm x hx).2 (fun e => h3 e.symm)⟩
theorem Cgs.push {w wr w4 w5 w6 : World} {xs : List Cg} {x : Cg} (h : Cgs w wr xs) (f4 : Fr [] wr w4) (f5 : Fr [] w4 w5) (f6 : Fr [] w5 w6) (hB : w.heap.size ≤ wr.heap.size)
    (po : ∃ p d, x.vo = .slice p x.c.old.length d) (ho : w4.ownsRow wr.heap.size 9 1 x.vo x.c.old.length (x.c.old.map Value.string)) (pn : ∃ p d, x.vn = .slice p x.c.new.length d) (hn : w5.ownsRow w4.heap.size 9 1 x.vn x.c.new.length (x.c.new.map Value.string)) (pf : ∃ p d, x.vf = .slice p x.c.frm.length d) (hf : w6.ownsRow w5.heap.size 3 1 x.vf x.c.frm.length (ints x.c.frm))
    (hl : x.c.old.length ≤ 8796093022208 ∧ x.c.new.length ≤ 8796093022208 ∧ x.c.frm.length ≤ 8796093022208) : Cgs w w6 (xs ++ [x]) := by
  have f46 := f5.trans f6 (by simp)
  have h6 := ((h.idle f4).idle f5).idle f6
  have ho6 := own_congr (w' := w6) ho (fun g hg => f46.block g (own_lt ho g hg).2 (by simp))
  have hn6 := own_congr (w' := w6) hn (fun g hg => f6.block g (own_lt hn g hg).2 (by simp))
  have s4 := f4.size
  have s5 := f5.size
  have elt : ∀ y ∈ xs, (∀ g, y.vo.ownBlock = some g → g < wr.heap.size) ∧ (∀ g, y.vn.ownBlock = some g → g < wr.heap.size) ∧ (∀ g, y.vf.ownBlock = some g → g < wr.heap.size) := fun y hy => ⟨fun g hg => (own_lt (h.old y hy).2 g hg).2, fun g hg => (own_lt (h.new y hy).2 g hg).2, fun g hg => (own_lt (h.frm y hy).2 g hg).2⟩
  refine ⟨fun y hy => ?_, fun y hy => ?_, fun y hy => ?_, ?_, ?_, fun y hy => ?_⟩
  · rcases List.mem_append.1 hy with hy | hy
    · exact h6.old y hy
    · rw [List.mem_singleton.1 hy]; exact ⟨po, own_down ho6 hB⟩
  · rcases List.mem_append.1 hy with hy | hy
    · exact h6.new y hy
    · rw [List.mem_singleton.1 hy]; exact ⟨pn, own_down hn6 (by omega)⟩
  · rcases List.mem_append.1 hy with hy | hy
    · exact h6.frm y hy
    · rw [List.mem_singleton.1 hy]; exact ⟨pf, own_down hf (by omega)⟩
  · rw [List.flatMap_append, List.pairwise_append]
    refine ⟨h.txt, ?_, ?_⟩
    · simp only [List.flatMap_cons, List.flatMap_nil, List.append_nil, List.pairwise_cons, List.mem_singleton, List.not_mem_nil]
      refine ⟨fun y hy => ?_, by simp, List.Pairwise.nil⟩
      subst hy
      intro g hg hg2
      have := (own_lt ho g hg).2
      have := (own_lt hn g hg2).1
      omega
    · intro a ha b hb g hga hgb
      rw [List.mem_flatMap] at ha
      obtain ⟨y, hy, ha⟩ := ha
      have h1 : g < wr.heap.size := by
        simp at ha
        rcases ha with rfl | rfl
        · exact (elt y hy).1 g hga
        · exact (elt y hy).2.1 g hga
      have h2 : wr.heap.size ≤ g := by
        simp at hb
        rcases hb with rfl | rfl
        · exact (own_lt ho g hgb).1
        · have := (own_lt hn g hgb).1; omega
      omega
  · rw [List.map_append, List.pairwise_append]
    refine ⟨h.int, by simp, ?_⟩
    intro a ha b hb g hga hgb
    obtain ⟨y, hy, rfl⟩ := List.mem_map.1 ha
    simp at hb
    subst hb
    have h1 := (elt y hy).2.2 g hga
    have h2 := (own_lt hf g hgb).1
    omega
  · rcases List.mem_append.1 hy with hy | hy
    · exact h.len y hy
    · rw [List.mem_singleton.1 hy]; exact hl
theorem aff_take {l : List Cl} {top i : Nat} (hi : i < (affected l top l.length).length) : (affected l top l.length).take (i + 1) = (affected l top l.length).take i ++ [famAt l top i] := by
  rw [List.take_succ_eq_append_getElem hi]
  unfold famAt
  rw [List.getD_eq_getElem?_getD, List.getElem?_eq_getElem hi]
  rfl
set_option maxRecDepth 20000 in
set_option maxHeartbeats 4000000 in
theorem changes_ok (l : List Cl) (top : Nat) (own : List ByteArray) (v ov : Value) (b : Nat) (w : World) (h : Rsh w v l top own ov b) (ht : top < l.length) (hn : l.length ≤ 1048576) (hs : Small l) (hs2 : Small2 l top own) (hT : Txt l) (hz : ∀ s ∈ own, s.size ≤ maxLen) (hle : ∀ c ∈ affected l top l.length, (fields l (some top) own c).length ≤ 32) :
    Calls Try.prog 43 #[.pointer (some ⟨b, 0, none⟩)] w fun e w' => ∃ xs p d, e = .returned (.slice p xs.length d) ∧ xs.map Cg.c = changes l top own ∧ w'.ownsRow w.heap.size 36 4 (.slice p xs.length d) xs.length (cgs xs) ∧ Cgs w w' xs ∧ Fr [] w w' := by
  obtain ⟨gc, oc, cc, ga, bf, m, b4, m4, q5, dq, b6, b3, b1, gs, c6, c3, c1, cs, po, no, co, rfl, rfl, hb, hL, hN, hF, hG, hB, hcp⟩ := h.ex
  have hfl := fam_len l top l.length
  rw [famZ_len] at hfl hb
  have HFc : Hid (∀ V, Hid (Fr [] w V) → ∀ i, i < (affected l top l.length).length → ∃ g off, q5 = some ⟨g, off, none⟩ ∧ V.cell? ⟨g, off + i, none⟩ = some (.int .i64 (famAt l top i : Int))) := mkHid (fun V hV i hi => by
    obtain ⟨g', o', e, y1, y2⟩ := fam_cell hF hi
    exact ⟨g', o', e, (hV.out.cell (p := ⟨g', o' + i, none⟩) y1 (by simp)).trans y2⟩)
  have HLt : Hid (∀ i, i < (affected l top l.length).length → famAt l top i < l.length) := mkHid (fun i hi => famAt_lt hi)
  have HLe : Hid (∀ i, i < (affected l top l.length).length → (fields l (some top) own (famAt l top i)).length ≤ 32) := mkHid (fun i hi => hle _ (by
    unfold famAt
    rw [List.getD_eq_getElem?_getD, List.getElem?_eq_getElem hi]
    exact List.getElem_mem hi))
  have HB : Hid (∀ V, Hid (Fr [] w V) → V.cell? ⟨b, 5, none⟩ = some (.slice q5 (affected l top l.length).length dq) ∧ V.cell? ⟨b, 6, none⟩ = some (.func (.func 61) #[] #[.pointer (some ⟨b6, 0, none⟩), .pointer (some ⟨b3, 0, none⟩), .pointer (some ⟨b1, 0, none⟩)]) ∧ V.cell? ⟨b, 7, none⟩ = some (.func (.func 61) #[] #[.pointer (some ⟨c6, 0, none⟩), .pointer (some ⟨c3, 0, none⟩), .pointer (some ⟨c1, 0, none⟩)])) := mkHid (fun V hV => by
    have hb' := (hV.out.block _ (lt_of_heap hb) (by simp)).trans hb
    exact ⟨by rw [cell_in hb']; rfl, by rw [cell_in hb']; rfl, by rw [cell_in hb']; rfl⟩)
  have HGa : Hid (∀ (wr V : World) (pl : Nat), Hid (Fr [] w wr) → Hid (Fr [] wr V) → pl < l.length → Calls Try.prog 61 #[.int .i64 (pl : Int), .pointer (some ⟨b6, 0, none⟩), .pointer (some ⟨b3, 0, none⟩), .pointer (some ⟨b1, 0, none⟩)] V fun e w2 => ∃ x, e = .returned x ∧ ∃ p4 d4, x = .slice p4 (fields l none [] pl).length d4 ∧ Hid (Fr [] wr w2) ∧ Hid (w2.ownsRow wr.heap.size 9 1 (.slice p4 (fields l none [] pl).length d4) (fields l none [] pl).length ((fields l none [] pl).map Value.string))) := mkHid (fun wr V pl hw hV hp => by
    refine Calls.mono (gather_ok l b6 b3 b1 gs pl V hp ((hG.idle hw.out).idle hV.out) (hs pl hp)) ?_
    rintro e w2 ⟨p4, d4, rfl, hm⟩
    exact ⟨_, rfl, p4, d4, rfl, mkHid (hV.out.trans hm.fr (by simp)), mkHid (own_down hm.row hV.out.size)⟩)
  have HGb : Hid (∀ (wr V : World) (pl : Nat), Hid (Fr [] w wr) → Hid (Fr [] wr V) → pl < l.length → Calls Try.prog 61 #[.int .i64 (pl : Int), .pointer (some ⟨c6, 0, none⟩), .pointer (some ⟨c3, 0, none⟩), .pointer (some ⟨c1, 0, none⟩)] V fun e w2 => ∃ x, e = .returned x ∧ ∃ p5 d5, x = .slice p5 (fields l (some top) own pl).length d5 ∧ Hid (Fr [] wr w2) ∧ Hid (Fr [] V w2) ∧ Hid (w2.ownsRow V.heap.size 9 1 (.slice p5 (fields l (some top) own pl).length d5) (fields l (some top) own pl).length ((fields l (some top) own pl).map Value.string))) := mkHid (fun wr V pl hw hV hp => by
    refine Calls.mono (behind_ok l top own _ ht c6 c3 c1 cs pl V hp ((hB.idle hw.out).idle hV.out) hs2) ?_
    rintro e w2 ⟨p4, d4, rfl, hm⟩
    exact ⟨_, rfl, p4, d4, rfl, mkHid (hV.out.trans hm.fr (by simp)), mkHid hm.fr, mkHid hm.row⟩)
  have HTo : Hid (∀ pl, ∀ s ∈ fields l none [] pl, s.size ≤ maxLen) := mkHid (fun pl => hT.fields none [] (by simp) pl)
  have HTn : Hid (∀ pl, ∀ s ∈ fields l (some top) own pl, s.size ≤ maxLen) := mkHid (fun pl => hT.fields (some top) own hz pl)
  have HSo : Hid (∀ pl, pl < l.length → (fields l none [] pl).length ≤ 8796093022208) := mkHid (fun pl hp => hs pl hp)
  have HCh : Hid (∀ i, i < (affected l top l.length).length → ((affected l top l.length).take (i + 1)).map (change l top own) = ((affected l top l.length).take i).map (change l top own) ++ [change l top own (famAt l top i)]) := mkHid (fun i hi => by rw [aff_take hi, List.map_append]; rfl)
  have HEnd : Hid (((affected l top l.length).take (affected l top l.length).length).map (change l top own) = changes l top own) := mkHid (by rw [List.take_length]; rfl)
  have hR0 : Hid (Fr [] w w) := mkHid (Fr.refl _ _)
  obtain ⟨k5, _, _⟩ := HB.out w hR0
  clear h hb hL hN hF hG hB hcp hs hs2 hT hz hle
  generalize hAl : affected l top l.length = A at *
  have hmk := make_chs A.length (by omega)
  have HO0 : Hid ((w.alloc (.cells (chZ A.length) 36)).ownsRow w.heap.size 36 4 (.slice (some ⟨w.heap.size, 0, none⟩) 0 A.length) 0 (cgs [])) := mkHid (own_chs w A.length (by omega))
  have HF0 : Hid (Fr [] w (w.alloc (.cells (chZ A.length) 36))) := mkHid (Fr.alloc [] _ _)
  obtain ⟨k6, _, _⟩ := HB.out _ HF0
  clear hAl
  go_enter Try.func43, Try.ntmps43
  go_wp2_with fail
  clear hmk k5 k6
  generalize w.alloc (.cells (chZ A.length) 36) = w1 at *
  go_loopw [3, 19] (fun u q wr => ∃ (i : Nat) (p : Option Addr) (d : Nat) (xs : List Cg), i ≤ A.length ∧ u = .slice p i d ∧ q = .int .i64 i ∧ Hid (xs.length = i) ∧ Hid (xs.map Cg.c = (A.take i).map (change l top own)) ∧ Hid (wr.ownsRow w.heap.size 36 4 (.slice p xs.length d) xs.length (cgs xs)) ∧ Hid (Cgs w wr xs) ∧ Hid (Fr [] w wr)) (fun _ q _ => A.length - (intOf q).toNat)
  case atStart => exact ⟨0, _, _, [], Nat.zero_le _, rfl, rfl, mkHid rfl, mkHid rfl, HO0, mkHid (Cgs.nil _ _), HF0⟩
  case round =>
    obtain ⟨i, p, d, xs, hi, rfl, rfl, hxl, hxm, hrow, hcg, hfr⟩ := hrel
    clear HO0 HF0
    have i0 : (0 : Int) ≤ (i : Int) := by omega
    by_cases hlt : i < A.length
    · have i1 : (i : Int) < (A.length : Int) := by omega
      obtain ⟨gf, off, rfl, kf⟩ := HFc.out wr hfr i hlt
      have hp := HLt.out i hlt
      have hle := HLe.out i hlt
      have HCA : Hid (∀ V, Hid (Fr [] wr V) → _) := mkHid (fun V hV => HGa.out wr V (famAt l top i) hfr hV hp)
      have HCB : Hid (∀ V, Hid (Fr [] wr V) → _) := mkHid (fun V hV => HGb.out wr V (famAt l top i) hfr hV hp)
      have HCC : Hid (∀ V, Hid (Fr [] wr V) → (fun V => V.cell? ⟨b, 6, none⟩ = some (.func (.func 61) #[] #[.pointer (some ⟨b6, 0, none⟩), .pointer (some ⟨b3, 0, none⟩), .pointer (some ⟨b1, 0, none⟩)]) ∧ V.cell? ⟨b, 7, none⟩ = some (.func (.func 61) #[] #[.pointer (some ⟨c6, 0, none⟩), .pointer (some ⟨c3, 0, none⟩), .pointer (some ⟨c1, 0, none⟩)])) V) := mkHid (fun V hV => (HB.out V (mkHid (hfr.out.trans hV.out (by simp)))).2)
      have hso := HSo.out _ hp
      have hch := HCh.out i hlt
      have HAll : Hid (∀ (w4 w5 : World) (p4 : Option Addr) (d4 : Nat) (p5 : Option Addr) (d5 : Nat), Hid (Fr [] wr w4) → Hid (w4.ownsRow wr.heap.size 9 1 (.slice p4 (fields l none [] (famAt l top i)).length d4) (fields l none [] (famAt l top i)).length ((fields l none [] (famAt l top i)).map Value.string)) → Hid (Fr [] w4 w5) → Hid (w5.ownsRow w4.heap.size 9 1 (.slice p5 (fields l (some top) own (famAt l top i)).length d5) (fields l (some top) own (famAt l top i)).length ((fields l (some top) own (famAt l top i)).map Value.string)) →
          Calls Try.prog 56 #[.slice p4 (fields l none [] (famAt l top i)).length d4, .slice p5 (fields l (some top) own (famAt l top i)).length d5] w5 fun e w6 => ∃ p6 n6 d6, e = .returned (.slice p6 n6 d6) ∧ Hid (∃ p7 d7 w7 xs', (Builtin.append_ #[26, 26] 26 #[.slice p i d, .slice (some ⟨w6.heap.size, 0, none⟩) 1 1]).run Try.prog (w6.alloc (.cells #[.int .i64 ((famAt l top i : Int) + 1), .slice p4 (fields l none [] (famAt l top i)).length d4, .slice p5 (fields l (some top) own (famAt l top i)).length d5, .slice p6 n6 d6] 36)) = .ok (.slice p7 (i + 1) d7) w7 ∧ xs'.length = i + 1 ∧ xs'.map Cg.c = (A.take (i + 1)).map (change l top own) ∧ w7.ownsRow w.heap.size 36 4 (.slice p7 xs'.length d7) xs'.length (cgs xs') ∧ Cgs w w7 xs' ∧ Fr [] w w7)) := mkHid (fun w4 w5 p4 d4 p5 d5 f4 o4 f5 o5 => by
        have o45 := own_congr (w' := w5) o4.out (fun g hg => f5.out.block g (own_lt o4.out g hg).2 (by simp))
        refine Calls.mono (origins_ok _ _ _ _ w5 (own_rd o45 hso) (own_rd o5.out (by omega)) (HTo.out _) (HTn.out _) (by omega)) ?_
        rintro e w6 ⟨p6, d6, rfl, o6, f6⟩
        refine ⟨p6, _, d6, rfl, mkHid ?_⟩
        have hcl6 := hcg.out.push (x := ⟨change l top own (famAt l top i), .slice p4 (fields l none [] (famAt l top i)).length d4, .slice p5 (fields l (some top) own (famAt l top i)).length d5, .slice p6 ((fields l (some top) own (famAt l top i)).map (amongZ (fields l none [] (famAt l top i)))).length d6⟩) f4.out f5.out f6 hfr.out.size ⟨_, _, rfl⟩ o4.out ⟨_, _, rfl⟩ o5.out ⟨_, _, rfl⟩ o6 ⟨hso, by show (fields l (some top) own (famAt l top i)).length ≤ _; omega, by show ((fields l (some top) own (famAt l top i)).map _).length ≤ _; rw [List.length_map]; omega⟩
        have F6 : Fr [] wr w6 := (f4.out.trans f5.out (by simp)).trans f6 (by simp)
        have row6 := own_congr (w' := w6) hrow.out (fun g hg => F6.block g (own_lt hrow.out g hg).2 (by simp))
        obtain ⟨p7, d7, w7, r1, r2, r3⟩ := push_cg w6 w.heap.size p d xs ⟨change l top own (famAt l top i), .slice p4 (fields l none [] (famAt l top i)).length d4, .slice p5 (fields l (some top) own (famAt l top i)).length d5, .slice p6 ((fields l (some top) own (famAt l top i)).map (amongZ (fields l none [] (famAt l top i)))).length d6⟩ row6 ⟨rfl, rfl, rfl⟩ (by rw [hxl.out]; omega) (Nat.le_trans hfr.out.size F6.size)
        have f7 : Fr (blk p) w6 w7 := by
          rcases r3 with ⟨_, _, f⟩ | ⟨f, _⟩
          · exact f
          · exact f.mono (by simp)
        rw [hxl.out] at r1
        refine ⟨p7, d7, w7, _, r1, by rw [List.length_append, hxl.out]; rfl, by rw [List.map_append, hxm.out, hch]; rfl, r2, hcl6.keep f7 (fun g hg => ?_), ((hfr.out.trans F6 (by simp))).trans f7 (fun g hg => Or.inr (own_lt row6 g ((blk_own _ _ _ _).2 hg)).1)⟩
        obtain ⟨cur, hc⟩ := own_blk row6 g hg
        exact hcl6.other hc (by decide) (by decide))
      have hR : Hid (Fr [] wr wr) := mkHid (Fr.refl _ _)
      have hplb : (famAt l top i : Int) + 1 ≤ 1048576 := by omega
      obtain ⟨k5, _, _⟩ := HB.out wr hfr
      clear HFc HLt HLe HB HGa HGb HTo HTn HSo HCh HEnd hch hso hle hxl hxm hrow hcg
      generalize fields l none [] (famAt l top i) = FO at *
      generalize fields l (some top) own (famAt l top i) = FN at *
      generalize famAt l top i = pl at *
      go_wp2_with fail
      refine wp_region_held_drew (S := fun V => V.cell? ⟨b, 6, none⟩ = some (.func (.func 61) #[] #[.pointer (some ⟨b6, 0, none⟩), .pointer (some ⟨b3, 0, none⟩), .pointer (some ⟨b1, 0, none⟩)]) ∧ V.cell? ⟨b, 7, none⟩ = some (.func (.func 61) #[] #[.pointer (some ⟨c6, 0, none⟩), .pointer (some ⟨c3, 0, none⟩), .pointer (some ⟨c1, 0, none⟩)])) (by kernel_rfl) (HCC.out _ (hidD hR)) (fun hHeld => ?_)
      refine wpAnyH_take (i := 0) (v := ?_) rfl (by kernel_rfl) (by kernel_rfl) (by kernel_rfl) (fun _ _ _ h => h) (Or.inl ⟨by rfl, ?_⟩) (by assumption) ?_
      rotate_left
      · (intro w hSw; (try dsimp only at hSw); first | (go_simp; done) | (go_simp; with_reducible rfl))
      try simp only [Act.put, List.getElem_toArray, List.getElem_cons_zero, List.getElem_cons_succ, List.setIfInBounds_toArray, List.set_cons_zero, List.set_cons_succ]
      refine wpAnyH_take (i := 1) (v := ?_) rfl (by kernel_rfl) (by kernel_rfl) (by kernel_rfl) (fun _ _ _ h => h) (Or.inl ⟨by rfl, ?_⟩) (by assumption) ?_
      rotate_left
      · (intro w hSw; (try dsimp only at hSw); first | (go_simp; done) | (go_simp; with_reducible rfl))
      try simp only [Act.put, List.getElem_toArray, List.getElem_cons_zero, List.getElem_cons_succ, List.setIfInBounds_toArray, List.set_cons_zero, List.set_cons_succ]
      refine wpAnyH_take (i := 2) (v := ?_) rfl (by kernel_rfl) (by kernel_rfl) (by kernel_rfl) (fun _ _ _ h => h) (Or.inl ⟨by rfl, ?_⟩) (by assumption) ?_
      rotate_left
      · (intro w hSw; (try dsimp only at hSw); first | (go_simp; done) | (go_simp; with_reducible rfl))
      try simp only [Act.put, List.getElem_toArray, List.getElem_cons_zero, List.getElem_cons_succ, List.setIfInBounds_toArray, List.set_cons_zero, List.set_cons_succ]
      refine wpAnyH_take (i := 3) (v := ?_) rfl (by kernel_rfl) (by kernel_rfl) (by kernel_rfl) (fun _ _ _ h => h) (Or.inl ⟨by rfl, ?_⟩) (by assumption) ?_
      rotate_left
      · (intro w hSw; (try dsimp only at hSw); first | (go_simp; done) | (go_simp; with_reducible rfl))
      try simp only [Act.put, List.getElem_toArray, List.getElem_cons_zero, List.getElem_cons_succ, List.setIfInBounds_toArray, List.set_cons_zero, List.set_cons_succ]
      refine wpAnyH_take (i := 4) (v := ?_) rfl (by kernel_rfl) (by kernel_rfl) (by kernel_rfl) (fun _ _ _ h => h) (Or.inl ⟨by rfl, ?_⟩) (by assumption) ?_
      rotate_left
      · (intro w hSw; (try dsimp only at hSw); first | (go_simp; done) | (go_simp; with_reducible rfl))
      try simp only [Act.put, List.getElem_toArray, List.getElem_cons_zero, List.getElem_cons_succ, List.setIfInBounds_toArray, List.set_cons_zero, List.set_cons_succ]
      refine wpAnyH_take (i := 6) (v := ?_) rfl (by kernel_rfl) (by kernel_rfl) (by kernel_rfl) (fun _ _ _ h => h) (Or.inl ⟨by rfl, ?_⟩) (by assumption) ?_
      rotate_left
      · (intro w hSw; (try dsimp only at hSw); first | (go_simp; done) | (go_simp; with_reducible rfl))
      try simp only [Act.put, List.getElem_toArray, List.getElem_cons_zero, List.getElem_cons_succ, List.setIfInBounds_toArray, List.set_cons_zero, List.set_cons_succ]
      refine wpAnyH_take (i := 7) (v := ?_) rfl (by kernel_rfl) (by kernel_rfl) (by kernel_rfl) (fun _ _ _ h => h) (Or.inl ⟨by rfl, ?_⟩) (by assumption) ?_
      rotate_left
      · (intro w hSw; (try dsimp only at hSw); first | (go_simp; done) | (go_simp; with_reducible rfl))
      try simp only [Act.put, List.getElem_toArray, List.getElem_cons_zero, List.getElem_cons_succ, List.setIfInBounds_toArray, List.set_cons_zero, List.set_cons_succ]
      refine wpAnyH_take (i := 8) (v := ?_) rfl (by kernel_rfl) (by kernel_rfl) (by kernel_rfl) (fun _ _ _ h => h) (Or.inl ⟨by rfl, ?_⟩) (by assumption) ?_
      rotate_left
      · (intro w hSw; (try dsimp only at hSw); first | (go_simp; done) | (go_simp; with_reducible rfl))
      try simp only [Act.put, List.getElem_toArray, List.getElem_cons_zero, List.getElem_cons_succ, List.setIfInBounds_toArray, List.set_cons_zero, List.set_cons_succ]
      refine wpAnyH_take (i := 9) (v := ?_) rfl (by kernel_rfl) (by kernel_rfl) (by kernel_rfl) (fun _ _ _ h => h) (Or.inl ⟨by rfl, ?_⟩) (by assumption) ?_
      rotate_left
      · (intro w hSw; (try dsimp only at hSw); first | (go_simp; done) | (go_simp; with_reducible rfl))
      try simp only [Act.put, List.getElem_toArray, List.getElem_cons_zero, List.getElem_cons_succ, List.setIfInBounds_toArray, List.set_cons_zero, List.set_cons_succ]
      refine wpAnyH_take (i := 10) (v := ?_) rfl (by kernel_rfl) (by kernel_rfl) (by kernel_rfl) (fun _ _ _ h => h) (Or.inl ⟨by rfl, ?_⟩) (by assumption) ?_
      rotate_left
      · (intro w hSw; (try dsimp only at hSw); first | (go_simp; done) | (go_simp; with_reducible rfl))
      try simp only [Act.put, List.getElem_toArray, List.getElem_cons_zero, List.getElem_cons_succ, List.setIfInBounds_toArray, List.set_cons_zero, List.set_cons_succ]
      refine oneH (i := 5) (by kernel_rfl) rfl (fun K hK => ?_)
      refine stepW (by rfl) 61 Try.f61 Try.func61 (by kernel_rfl) (by kernel_rfl) _ _ _ rfl #[.pointer (some ⟨b6, 0, none⟩), .pointer (some ⟨b3, 0, none⟩), .pointer (some ⟨b1, 0, none⟩)] rfl #[.int .i64 (pl : Int), .pointer (some ⟨b6, 0, none⟩), .pointer (some ⟨b3, 0, none⟩), .pointer (some ⟨b1, 0, none⟩)] (by first | (simp [Act.eval]; done) | rfl) (fun x w2 => ∃ p4 d4, x = .slice p4 FO.length d4 ∧ Hid (Fr [] wr w2) ∧ Hid (w2.ownsRow wr.heap.size 9 1 (.slice p4 FO.length d4) FO.length (FO.map Value.string))) (HCA.out _ (hidD hR)) ?_
      rintro _ w4 ⟨p4, d4, rfl, hg4, ho4⟩
      refine hK.out _ _ (HCC.out _ hg4) (fun hHeld => ?_)
      clear hK K
      try simp only [Act.put, List.getElem_toArray, List.getElem_cons_zero, List.getElem_cons_succ, List.setIfInBounds_toArray, List.set_cons_zero, List.set_cons_succ]
      refine oneH (i := 11) (by kernel_rfl) rfl (fun K hK => ?_)
      refine stepW (by rfl) 61 Try.f61 Try.func61 (by kernel_rfl) (by kernel_rfl) _ _ _ rfl #[.pointer (some ⟨c6, 0, none⟩), .pointer (some ⟨c3, 0, none⟩), .pointer (some ⟨c1, 0, none⟩)] rfl #[.int .i64 (pl : Int), .pointer (some ⟨c6, 0, none⟩), .pointer (some ⟨c3, 0, none⟩), .pointer (some ⟨c1, 0, none⟩)] (by first | (simp [Act.eval]; done) | rfl) (fun x w2 => ∃ p5 d5, x = .slice p5 FN.length d5 ∧ Hid (Fr [] wr w2) ∧ Hid (Fr [] w4 w2) ∧ Hid (w2.ownsRow w4.heap.size 9 1 (.slice p5 FN.length d5) FN.length (FN.map Value.string))) (HCB.out _ hg4) ?_
      rintro _ w5 ⟨p5, d5, rfl, hg5, hf5, ho5⟩
      refine hK.out _ _ (HCC.out _ hg5) (fun hHeld => ?_)
      clear hK K
      try simp only [Act.put, List.getElem_toArray, List.getElem_cons_zero, List.getElem_cons_succ, List.setIfInBounds_toArray, List.set_cons_zero, List.set_cons_succ]
      refine wpAnyH_take (i := 12) (v := ?_) rfl (by kernel_rfl) (by kernel_rfl) (by kernel_rfl) (fun _ _ _ h => h) (Or.inl ⟨by rfl, ?_⟩) (by assumption) ?_
      rotate_left
      · (intro w hSw; (try dsimp only at hSw); first | (go_simp; done) | (go_simp; with_reducible rfl))
      try simp only [Act.put, List.getElem_toArray, List.getElem_cons_zero, List.getElem_cons_succ, List.setIfInBounds_toArray, List.set_cons_zero, List.set_cons_succ]
      refine wpAnyH_take (i := 13) (v := ?_) rfl (by kernel_rfl) (by kernel_rfl) (by kernel_rfl) (fun _ _ _ h => h) (Or.inl ⟨by rfl, ?_⟩) (by assumption) ?_
      rotate_left
      · (intro w hSw; (try dsimp only at hSw); first | (go_simp; done) | (go_simp; with_reducible rfl))
      try simp only [Act.put, List.getElem_toArray, List.getElem_cons_zero, List.getElem_cons_succ, List.setIfInBounds_toArray, List.set_cons_zero, List.set_cons_succ]
      refine wpAnyH_done (by kernel_rfl) ?_ _
      have HC56 := mkHid (HAll.out w4 w5 p4 d4 p5 d5 hg4 ho4 hf5 ho5)
      go_wp2_with (first
        | (go_at_call 56; refine HC56.out.mono ?_; rintro e w6 ⟨p6, n6, d6, rfl, hq6⟩; obtain ⟨p7, d7, w7, xs', r1, r2, r3, r4, r5, r6⟩ := hq6.out; have HR7 := mkHid r1; have HX := mkHid (And.intro r2 (And.intro r3 (And.intro r4 (And.intro r5 r6)))); clear r1 r2 r3 r4 r5 r6 hq6)
        | (at_builtin; refine Lib.wpList_append_run _ rfl (.tmp 35) (.tmp 44) 26 26 rfl _ _ rfl rfl _ _ HR7.out ?_))
      go_roundw
      case rel => exact ⟨i + 1, p7, d7, xs', by omega, rfl, by go_num, mkHid HX.out.1, mkHid HX.out.2.1, mkHid HX.out.2.2.1, mkHid HX.out.2.2.2.1, mkHid HX.out.2.2.2.2⟩
      case measure => simp [intOf]; omega
    · have hie : i = A.length := by omega
      subst hie
      have HE := mkHid (hxm.out.trans HEnd.out)
      clear HFc HLt HLe HB HGa HGb HTo HTn HSo HCh HEnd hxm
      go_wp2_with fail
      go_ret
      exact ⟨xs, p, d, by rw [hxl.out]; rfl, HE.out, hrow.out, hcg.out, hfr.out⟩
end Go.Proofs.Ytblbjgifhgfifaa
