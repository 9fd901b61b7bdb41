import Derived.Test.YtklfnjlenbgmoaaDoorPG23HDcD
import Derived.Test.YtklfnjlenbgmoaaDoorPG09HModelL
import Derived.Test.YtklfnjlenbgmoaaDoorPG18RKeepP
import Derived.Test.YtklfnjlenbgmoaaDoorPG14HObj
import Derived.BigQuiet
import Derived.Test.YtklfnjlenbgmoaaDoorPG17HRefP
import Derived.Deep.RegionHeld3
set_option linter.unusedSimpArgs false
set_option linter.unusedVariables false
namespace Go.Proofs.YtklfnjlenbgmoaaDoor
open Go.RowKit
attribute [local go_sem ↓] Go.wp_at_zero Go.wp_at_succ
def roObj (oo f pl bn : Nat) (cl : Int) (v : Value) : Obj := .cells #[.int .i64 (oo : Int), .int .i64 (f : Int), .int .i64 (pl : Int), .int .i64 (bn : Int), .int .i64 cl, v] 114 (0, 0)
structure WayR (w wr : World) (B : Nat) (oo f pl bn : Nat) (cl : Int) (k : Nat) : Prop where
 fr : Fr [] w wr
 lt : w.heap.size ≤ B
 at_ : ∃ v, wr.heap[B]? = some (roObj oo f pl bn cl v) ∧ wr.ownsRow (B + 1) 33 1 v k ((List.replicate k (newX f)).map (Value.int .i64))
theorem WayR.next {w wr w2 : World} {B oo f pl bn k : Nat} {cl : Int} {v v' : Value} {o : Obj} (h : WayR w wr B oo f pl bn cl k) (hv : wr.heap[B]? = some (roObj oo f pl bn cl v)) (hown : wr.ownsRow (B + 1) 33 1 v k ((List.replicate k (newX f)).map (Value.int .i64)))
  (hg : (wr.alloc o).grownBy w2 v.ownBlock) (ho : w2.ownsRow (B + 1) 33 1 v' (k + 1) ((List.replicate k (newX f)).map (Value.int .i64) ++ [.int .i64 (newX f)])) : WayR w (w2.setCell ⟨B, 5, none⟩ v') B oo f pl bn cl (k + 1) := by
 have hBl := lt_of_heap hv
 have hob : ∀ b, v.ownBlock = some b → B + 1 ≤ b := fun b hb => (hown.lt b hb).1
 have hB2 : w2.heap[B]? = some (roObj oo f pl bn cl v) := by
  rw [hg.block B (by simp; omega) (fun e => by have := hob B e.symm; omega), Below.heap_alloc _ _ _ hBl]
  exact hv
 have F2 : Fr [B] w w2 := by
  refine ⟨hg.os.trans h.fr.os, hg.tape.trans h.fr.tape, hg.output.trans h.fr.output, Nat.le_trans h.fr.size (Nat.le_trans (by simp) hg.size), fun i hi hn => ?_⟩
  have hiB : i < wr.heap.size := Nat.lt_of_lt_of_le hi h.fr.size
  rw [hg.block i (by simp; omega) (fun e => by have := hob i e.symm; have := h.lt; omega), Below.heap_alloc _ _ _ hiB]
  exact h.fr.block i hi (by simp)
 refine ⟨(F2.trans (Fr.setCell (S := [B]) w2 ⟨B, 5, none⟩ v' (by simp)) (fun b hb => .inl hb)).mono (fun b hb => ?_), h.lt, v', ?_, ?_⟩
 ·simp at hb; subst hb; exact .inr h.lt
 ·unfold roObj at hB2 ⊢
  rw [set_in hB2]
  rfl
 ·have : (List.replicate (k + 1) (newX f)).map (Value.int .i64) = (List.replicate k (newX f)).map (Value.int .i64) ++ [.int .i64 (newX f)] := by
   rw [List.replicate_succ', List.map_append]; rfl
  rw [this]
  exact own_congr ho fun b hb => set_else (by have := (ho.lt b hb).1; omega)
set_option maxRecDepth 20000 in
set_option maxHeartbeats 1000000 in
theorem rAlloc_marked (X : Int) (n f : Nat) (B0 r : Nat) (R : RS) (w : World) (h : AlR X n f B0 r R w) (h1 : R.objs.length < R.oops) (h2 : rEnd R.objs + lenN n f ≤ R.words) (hm : R.mark = 1) : Calls Tryd.prog 77 #[.pointer (some ⟨r, 0, none⟩), .int .i64 X, .int .i64 n, .int .i64 f] w fun e w' => e = .returned (.tuple #[.int .i64 0, .int .i64 24]) ∧ RRep w' B0 r { R with mark := 0 } ∧ Fr [r] w w' := by
 have HK := mkHid (rKind_any X)
 have hkx : (kindOf X == 0) = false := by
  have h2 : (kindOf X != 0) = true := h.w_
  have : kindOf X ≠ 0 := by simpa using h2
  simpa using this
 generalize kindOf X = kx at *
 have k1 : (0 : Int) ≤ (f : Int) := by omega
 have k2 : (f : Int) ≤ 1 := by have := h.f_; omega
 have k3 : (0 : Int) ≤ (n : Int) := by omega
 have k4 := h.n_
 have k5 := h.words
 have k6 := h.oops
 have k7 := h.fin
 have k8 := h.ok.len
 obtain ⟨po, co, hov⟩ := h.rep.ovIs
 have hL2 : (lenN n f : Int) ≤ 10000 := by unfold lenN; split <;> omega
 have HLen : Hid (∀ V, Calls Tryd.prog 59 #[.int .i64 n, .int .i64 f] V fun e w' => e = .returned (.int .i64 ((lenN n f : Nat) : Int)) ∧ w' = V) := fun V => refLen_any n f V (by omega)
 have HEnd : Hid (∀ V, Hid (Fr [] w V) → Calls Tryd.prog 58 #[.pointer (some ⟨r, 0, none⟩)] V fun e w' => e = .returned (.int .i64 (rEnd R.objs : Nat)) ∧ Hid (Fr [] w w')) := fun V hV => Calls.mono (rend_any B0 r R V (h.rep.idle hV.out) h.ok) (by rintro e w' ⟨rfl, hf⟩; exact ⟨rfl, hV.out.trans hf (by simp)⟩)
 have KS : Hid (∀ V, Hid (Fr [] w V) → V.cell? ⟨r, 5, none⟩ = some (.slice po R.objs.length co) ∧ V.cell? ⟨r, 1, none⟩ = some (.int .i64 (R.oops : Int)) ∧ V.cell? ⟨r, 0, none⟩ = some (.int .i64 (R.words : Int)) ∧ Hid (Fr [] w V)) := fun V hV => by
  have h1 := h.rep.idle hV.out
  exact ⟨by rw [h1.c, ← hov]; rfl, by rw [h1.c]; rfl, by rw [h1.c]; rfl, hV⟩
 have F1 : Hid (Fr [] w w) := Fr.refl _ _
 obtain ⟨c5, c1, c0, -⟩ := KS.out w F1
 have HR := mkHid h.rep
 have hx : (R.objs.length : Int) < (R.oops : Int) := by omega
 have hx2 : (rEnd R.objs : Int) + (lenN n f : Int) ≤ (R.words : Int) := by omega
 clear h h1 h2
 generalize rEnd R.objs = EN at *
 generalize lenN n f = L at *
 have zw : IntKind.i64.wrap ((EN : Int) + (L : Int)) = (EN : Int) + (L : Int) := by rw [iwrap]; unfold wrap64; omega
 have hdec : decide (R.oops ≤ R.objs.length) = false := decide_eq_false (by omega)
 go_enter Tryd.func77, Tryd.ntmps77
 go_wp2_with (go_at_call 56; refine Calls.mono (HK.out _) ?_; rintro e w1 ⟨rfl, hw1⟩; rw [hw1]; clear hw1 w1)
 go_region_held3 (fun w' => w'.cell? ⟨r, 5, none⟩ = some (.slice po R.objs.length co) ∧ w'.cell? ⟨r, 1, none⟩ = some (.int .i64 (R.oops : Int)) ∧ w'.cell? ⟨r, 0, none⟩ = some (.int .i64 (R.words : Int)) ∧ Hid (Fr [] w w')) (exact KS.out _ (by first | assumption | exact hid_drew (by assumption) | (go_split_ands; first | assumption | exact hid_drew (by assumption))))
  (first
   | (go_at_call 58; refine (HEnd.out _ (by first | assumption | exact hid_drew (by assumption) | (go_split_ands; first | assumption | exact hid_drew (by assumption)))).mono ?_; rintro e w' ⟨rfl, hf'⟩)
   | (go_at_call 59; refine (HLen.out _).mono ?_; rintro e w' ⟨rfl, rfl⟩))
 have F2 : Hid (Fr [] w w') := by assumption
 generalize w' = W1 at *
 have hR1 := HR.out.idle F2.out
 have c2 : W1.cell? ⟨r, 2, none⟩ = some (.int .i64 1) := by rw [hR1.c]; show some (Value.int .i64 (R.mark : Int)) = _; rw [hm]; rfl
 have f2 := frozen_in hR1.top 2
 have HE : Hid (RRep (W1.setCell ⟨r, 2, none⟩ (.int .i64 0)) B0 r { R with mark := 0 } ∧ Fr [r] w (W1.setCell ⟨r, 2, none⟩ (.int .i64 0))) := ⟨hR1.setTop 2 0 _ rfl rfl rfl, (F2.out.mono (by simp)).trans (Fr.setCell (S := [r]) _ _ _ (by simp)) (by simp)⟩
 clear hR1
 go_wp2_with fail
 go_ret2
 exact ⟨rfl, HE.out.1, HE.out.2⟩
def upTo (A : List Nat) (k : Nat) : List Nat := A.filter fun q => decide (q < k)
theorem upTo_len (A : List Nat) (k : Nat) : (upTo A k).length ≤ A.length := List.length_filter_le _ _
theorem upTo_full (A : List Nat) (k : Nat) (h : (upTo A k).length = A.length) : upTo A k = A := by
 unfold upTo at h ⊢
 rw [List.filter_eq_self]
 exact List.length_filter_eq_length_iff.1 h
theorem upTo_all (A : List Nat) (k : Nat) (h : ∀ q ∈ A, q < k) : upTo A k = A := by
 unfold upTo
 rw [List.filter_eq_self]
 intro q hq
 simpa using h q hq
theorem upTo_succ (A : List Nat) (hp : A.Pairwise (· < ·)) (k : Nat) : upTo A (k + 1) = upTo A k ++ (if k ∈ A then [k] else []) := by
 unfold upTo
 induction A with
 | nil => simp
 | cons x A ih =>
  obtain ⟨h1, h2⟩ := List.pairwise_cons.1 hp
  have ih := ih h2
  rw [List.filter_cons, List.filter_cons]
  by_cases hx : x < k
  ·rw [if_pos (by simpa using (by omega : x < k + 1)), if_pos (by simpa using hx), ih]
   have e : (k ∈ x :: A) ↔ k ∈ A := by
    rw [List.mem_cons]
    exact ⟨fun h => by rcases h with h | h; exact absurd h (by omega); exact h, fun h => .inr h⟩
   by_cases hk : k ∈ A
   ·rw [if_pos hk, if_pos (e.2 hk)]; rfl
   ·rw [if_neg hk, if_neg (fun h => hk (e.1 h))]; rfl
  ·have h3 : A.filter (fun q => decide (q < k)) = [] := by
    rw [List.filter_eq_nil_iff]
    intro q hq
    have := h1 q hq
    simp; omega
   have h4 : A.filter (fun q => decide (q < k + 1)) = [] := by
    rw [List.filter_eq_nil_iff]
    intro q hq
    have := h1 q hq
    simp; omega
   rw [h3, h4, show decide (x < k) = false from decide_eq_false hx]
   by_cases hk : x = k
   ·subst hk
    rw [show decide (x < x + 1) = true from decide_eq_true (by omega)]
    simp
   ·have hn : k ∉ x :: A := fun h => by
     rcases List.mem_cons.1 h with h | h
     ·exact hk h.symm
     ·have := h1 k h; omega
    rw [if_neg hn, show decide (x < k + 1) = false from decide_eq_false (by omega)]; rfl
structure RAs (R : RS) (A : List Nat) : Prop where
 rise : A.Pairwise (· < ·)
 mem : ∀ q : Nat, q ∈ A ↔ ¬ RNo R (q : Int)
 len : A.length = R.objs.length
 bound : ∀ q ∈ A, 1 ≤ q ∧ q ≤ 100000
set_option maxRecDepth 20000 in
set_option maxHeartbeats 2000000 in
theorem rAll_ok (A : List Nat) (B r : Nat) (R : RS) (w : World) (h : RRep w B r R) (hA : RAs R A) :
  Calls Tryd.prog 92 #[.pointer (some ⟨r, 0, none⟩)] w fun e w' => ∃ v, e = .returned v ∧ w'.ownsRow w.heap.size 3 1 v A.length (A.map I) ∧ Fr [] w w' := by
 obtain ⟨j0, ji, jz0, jz1, jz2⟩ := info_parts info3
 have hlen : A.length ≤ 100001 := by
  exact nodup_len 100001 A (hA.rise.imp fun h => Nat.ne_of_lt h) fun q hq => by have := hA.bound q hq; omega
 have hol := hA.len
 obtain ⟨p, c, hov⟩ := h.ovIs
 have HR := mkHid h
 have HA := mkHid hA
 have HC : Hid (∀ V, Fr [] w V → V.cell? ⟨r, 5, none⟩ = some (.slice p R.objs.length c)) := fun V hV => by rw [(HR.out.idle hV).c, ← hov]; rfl
 clear h hA
 go_enter Tryd.func92, Tryd.ntmps92
 go_wp2_with fail
 rw [← hol] at HC
 go_loopw [3, 4] (fun v q wr => ∃ (k : Nat) (pv : Option Addr) (cv : Nat), 1 ≤ k ∧ v = .slice pv (upTo A k).length cv ∧ q = .int .i64 k ∧ (k ≤ 100001) ∧ wr.ownsRow w.heap.size 3 1 (.slice pv (upTo A k).length cv) (upTo A k).length ((upTo A k).map I) ∧ Hid (Fr [] w wr)) (fun _ q _ => 100001 - (intOf q).toNat)
 case atStart => exact ⟨1, none, 0, Nat.le_refl _, by
  have e : upTo A 1 = [] := by
   unfold upTo
   rw [List.filter_eq_nil_iff]
   intro q hq
   have := (HA.out.bound q hq).1
   simp; omega
  rw [e]; rfl, rfl, by omega, by
  have e : upTo A 1 = [] := by
   unfold upTo
   rw [List.filter_eq_nil_iff]
   intro q hq
   have := (HA.out.bound q hq).1
   simp; omega
  rw [e]; exact World.ownsRow_nil _ _ _ _, Fr.refl _ _⟩
 case round =>
  obtain ⟨k, pv, cv, hk1, rfl, rfl, hkn, hown, hfr⟩ := hrel
  have c5 := HC.out wr hfr.out
  have hul := upTo_len A k
  have hz := hfr.out.size
  by_cases hlt : (upTo A k).length < A.length
  ·have hkl : k < 100001 := by
    refine Classical.byContradiction fun hn => ?_
    rw [upTo_all A k (fun q hq => by have := (HA.out.bound q hq).2; omega)] at hlt
    omega
   have k2 : ((upTo A k).length : Int) < (A.length : Int) := by omega
   have HSU := mkHid (upTo_succ A HA.out.rise k)
   have HF := mkHid (find_any (k : Int) B r R wr (HR.out.idle hfr.out) (by omega))
   have HM := mkHid (HA.out.mem k)
   generalize hX : upTo A k = X at *
   clear hX
   go_wp2_with fail
   refine Calls.mono HF.out ?_
   rintro e w2 ⟨z, rfl, hz, hw⟩
   rw [hw]
   clear hw w2 HF
   rcases hz with ⟨j, hj, rfl, ho, -⟩ | ⟨rfl, hno⟩
   ·have hin : k ∈ A := HM.out.2 (fun hno => hno j hj ho)
    have HS2 := HSU.out
    rw [if_pos hin] at HS2
    have HS3 := mkHid HS2
    have j1 : (0 : Int) ≤ (j : Int) := by omega
    clear HS2 HSU hin ho HM
    have hown2 := hown.alloc (.cells #[.int .i64 (k : Int)] 3)
    have HFA : Hid (Fr [] w (wr.alloc (.cells #[.int .i64 (k : Int)] 3))) := hfr.out.trans (Fr.alloc [] _ _) (by simp)
    clear hown
    go_wp2_with (first
     | (at_builtin; refine wpList_append_own _ rfl (.tmp 22) (.tmp 24) 22 rfl w.heap.size 3 j0 (.int .i64 0) 1 8 Tryd.underlying22 ji jz0 jz1 jz2 rfl (by decide) _ _ _ rfl hown2 ⟨wr.heap.size, 0, none⟩ 1 1 [.int .i64 (k : Int)] rfl rfl ?c1 ?c2 ?c3 ?c4 ?c5 ?_)
     | go_in)
    case c1 =>
     have := World.news_of_block (heap_alloc_new wr (.cells #[.int .i64 (k : Int)] 3))
     simpa using this
    case c2 => first | rfl | (intro u hu; simp at hu; subst hu; rfl)
    case c3 => unfold maxLen; omega
    case c4 => omega
    case c5 => first | omega | (simp; omega)
    intro v' w1 hown' hgrow _
    have HG : Hid (Fr [] w w1) := by
     refine ⟨hgrow.os.trans HFA.out.os, hgrow.tape.trans HFA.out.tape, hgrow.output.trans HFA.out.output, Nat.le_trans HFA.out.size hgrow.size, fun i hi hn => ?_⟩
     rw [hgrow.block i (Nat.lt_of_lt_of_le hi HFA.out.size) (fun e => ?_)]
     ·exact HFA.out.block i hi hn
     ·have := (hown2.lt i e.symm).1
      omega
    have hown3 : w1.ownsRow w.heap.size 3 1 v' (upTo A (k + 1)).length ((upTo A (k + 1)).map I) := by rw [HS3.out]; simpa [I] using hown'
    obtain ⟨p3, c3', rfl⟩ := row_is hown3
    have HO := mkHid hown3
    have HLe : Hid ((upTo A (k + 1)).length = X.length + 1) := by rw [HS3.out]; simp [Hid]
    clear hown' hown3 hgrow hown2 HFA
    go_wp2
    go_roundw
    case rel => exact ⟨k + 1, p3, c3', by omega, rfl, by go_num, by omega, HO.out, HG⟩
    case measure => simp [intOf]; omega
   ·have hin : k ∉ A := fun hin => HM.out.1 hin hno
    have HS2 := HSU.out
    rw [if_neg hin, List.append_nil] at HS2
    have HS3 := mkHid HS2
    have HO := mkHid hown
    clear HS2 HSU hin hown HM hno
    go_wp2_with fail
    go_roundw
    case rel => exact ⟨k + 1, pv, cv, by omega, by rw [HS3.out], by go_num, by omega, by rw [HS3.out]; exact HO.out, hfr⟩
    case measure => simp [intOf]; omega
  ·have hle : (upTo A k).length = A.length := by omega
   have k2 : (A.length : Int) ≤ ((upTo A k).length : Int) := by omega
   rw [upTo_full A k hle] at hown ⊢
   have HO := mkHid hown
   clear hown
   go_wp2_with fail
   go_ret
   exact ⟨_, rfl, HO.out, hfr.out⟩
theorem roCells_turnd (c : Int) : ∀ (l : List RO) (k : Nat), k < l.length → roCells (l.set k ((l.getD k noRO).turnd c (l.getD k noRO).slots)) = (roCells l).set (k * 6 + 4) (.int .i64 c)
 | [], k, h => by simp at h
 | o :: t, 0, _ => rfl
 | o :: t, k + 1, h => by
  have ih := roCells_turnd c t k (by simpa using h)
  have e : (o :: t).set (k + 1) (((o :: t).getD (k + 1) noRO).turnd c ((o :: t).getD (k + 1) noRO).slots) = o :: t.set k ((t.getD k noRO).turnd c (t.getD k noRO).slots) := by simp
  rw [e]
  show ro6 o ++ roCells (t.set k ((t.getD k noRO).turnd c (t.getD k noRO).slots)) = (ro6 o ++ roCells t).set ((k + 1) * 6 + 4) (.int .i64 c)
  rw [ih, List.set_append_right _ _ (by simp [ro6]; omega)]
  congr 2
  simp [ro6]; omega
theorem roCells_same (ss : List Int) : ∀ (l : List RO) (k : Nat), k < l.length → roCells (l.set k ((l.getD k noRO).turnd (l.getD k noRO).cls ss)) = roCells l
 | [], k, h => by simp at h
 | o :: t, 0, _ => rfl
 | o :: t, k + 1, h => by
  have ih := roCells_same ss t k (by simpa using h)
  have e : (o :: t).set (k + 1) (((o :: t).getD (k + 1) noRO).turnd ((o :: t).getD (k + 1) noRO).cls ss) = o :: t.set k ((t.getD k noRO).turnd (t.getD k noRO).cls ss) := by simp
  rw [e]
  show ro6 o ++ roCells (t.set k ((t.getD k noRO).turnd (t.getD k noRO).cls ss)) = ro6 o ++ roCells t
  rw [ih]
theorem RRep.setCls {w : World} {B r : Nat} {R : RS} (h : RRep w B r R) {g c : Nat} (hv : R.ov = .slice (some ⟨g, 0, none⟩) R.objs.length c) (k : Nat) (z : Int) (hk : k < R.objs.length) :
  RRep (w.setCell ⟨g, k * 6 + 4, none⟩ (.int .i64 z)) B r (R.upd k z (R.objs.getD k noRO).slots) := by
 have hb : R.ov.ownBlock = some g := by rw [hv]; rfl
 obtain ⟨cur, hcur⟩ := row_block h.row hb
 have hgr : g ≠ r := fun e => by rw [e, h.top] at hcur; injection hcur with hc; injection hc with _ ht _; exact absurd ht (by decide)
 have hko : R.objs.getD k noRO ∈ R.objs := roD_mem hk
 refine ⟨h.lo, ?_, ?_, fun o ho => ?_⟩
 ·rw [Below.heap_setCell _ _ _ _ (fun e => hgr e.symm)]
  exact h.top
 ·show (w.setCell ⟨g, k * 6 + 4, none⟩ (.int .i64 z)).ownsRow B 114 6 R.ov (R.objs.set k _).length (roCells (R.objs.set k _))
  rw [roCells_turnd z _ k hk, List.length_set]
  have h2 := h.row
  rw [hv] at h2 ⊢
  exact (h2.stored (k * 6 + 4) (.int .i64 z)).1
 ·have key : ∀ x ∈ R.objs, (w.setCell ⟨g, k * 6 + 4, none⟩ (.int .i64 z)).ownsRow B 33 1 x.v x.slots.length (x.slots.map (Value.int .i64)) := fun x hx => by
   refine own_congr (h.slots x hx) fun b hb2 => Below.heap_setCell _ _ _ _ (fun e => ?_)
   obtain ⟨cur2, hc2⟩ := row_block (h.slots x hx) hb2
   rw [e, hcur] at hc2
   injection hc2 with hc; injection hc with _ ht _; exact absurd ht (by decide)
  rcases set_mem ho with h1 | h1
  ·exact key o h1
  ·rw [h1]; exact key (R.objs.getD k noRO) hko
theorem RRep.setSlot {w : World} {B r : Nat} {R : RS} (h : RRep w B r R) (hln : Lone R) (k : Nat) (hk : k < R.objs.length) {g c : Nat} (hv : (R.objs.getD k noRO).v = .slice (some ⟨g, 0, none⟩) (R.objs.getD k noRO).slots.length c) (i : Nat) (z : Int) :
  RRep (w.setCell ⟨g, i, none⟩ (.int .i64 z)) B r (R.upd k (R.objs.getD k noRO).cls ((R.objs.getD k noRO).slots.set i z)) := by
 have hko : R.objs.getD k noRO ∈ R.objs := roD_mem hk
 have hb : (R.objs.getD k noRO).v.ownBlock = some g := by rw [hv]; rfl
 obtain ⟨cur, hcur⟩ := row_block (h.slots _ hko) hb
 have hgr : r ≠ g := fun e => by rw [← e, h.top] at hcur; injection hcur with hc; injection hc with _ ht _; exact absurd ht (by decide)
 refine ⟨h.lo, ?_, ?_, fun o ho => ?_⟩
 ·rw [Below.heap_setCell _ _ _ _ hgr]
  exact h.top
 ·show (w.setCell ⟨g, i, none⟩ (.int .i64 z)).ownsRow B 114 6 R.ov (R.objs.set k _).length (roCells (R.objs.set k _))
  rw [roCells_same _ _ k hk, List.length_set]
  refine own_congr h.row fun b hb2 => Below.heap_setCell _ _ _ _ (fun e => ?_)
  obtain ⟨cur2, hc2⟩ := row_block h.row hb2
  rw [e, hcur] at hc2
  injection hc2 with hc; injection hc with _ ht _; exact absurd ht (by decide)
 ·obtain ⟨m, hm, hmo⟩ := List.getElem_of_mem ho
  have hm0 : m < (R.objs.set k ((R.objs.getD k noRO).turnd (R.objs.getD k noRO).cls ((R.objs.getD k noRO).slots.set i z))).length := hm
  have hm2 : m < R.objs.length := by rw [List.length_set] at hm0; exact hm0
  have e1 : o = if k = m ∧ m < R.objs.length then (R.objs.getD k noRO).turnd (R.objs.getD k noRO).cls ((R.objs.getD k noRO).slots.set i z) else R.objs.getD m noRO := by
   rw [← set_get, List.getD_eq_getElem?_getD, List.getElem?_eq_getElem hm0, ← hmo]
   rfl
  by_cases e : k = m
  ·rw [if_pos ⟨e, hm2⟩] at e1
   rw [e1]
   show (w.setCell ⟨g, i, none⟩ (.int .i64 z)).ownsRow B 33 1 (R.objs.getD k noRO).v ((R.objs.getD k noRO).slots.set i z).length (((R.objs.getD k noRO).slots.set i z).map (Value.int .i64))
   have h2 := h.slots _ hko
   rw [List.length_set, List.map_set]
   rw [hv] at h2 ⊢
   exact (h2.stored i (.int .i64 z)).1
  ·rw [if_neg (fun h => e h.1)] at e1
   rw [e1]
   refine own_congr (h.slots _ (roD_mem hm2)) fun b hb2 => Below.heap_setCell _ _ _ _ (fun e2 => ?_)
   rw [e2] at hb2
   exact hln.ne hk hm2 e hb hb2
set_option maxRecDepth 20000 in
set_option maxHeartbeats 1000000 in
theorem rSetClass_ok (q : Int) (z : Int) (B r : Nat) (R : RS) (w : World) (h : RRep w B r R) (hl : R.objs.length ≤ 1048576) (hy : ¬ RNo R q) (hz : isW z = true) :
  Calls Tryd.prog 83 #[.pointer (some ⟨r, 0, none⟩), .int .i64 q, .int .i64 z] w fun e w' =>
   e = .returned (.int .i64 0) ∧ ∃ m g, RIs R q m ∧ R.ov.ownBlock = some g ∧ RRep w' B r (R.upd m z (R.objs.getD m noRO).slots) ∧ Fr [g] w w' := by
 obtain ⟨p, c, hov⟩ := h.ovIs
 have c5 : w.cell? ⟨r, 5, none⟩ = some (.slice p R.objs.length c) := by rw [h.c, ← hov]; rfl
 have HF := mkHid (find_any q B r R w h hl)
 have HK := mkHid (rKind_any z w)
 have HR := mkHid h
 have HY := mkHid hy
 have hkz : kindOf z ≠ 0 := by
  have : (kindOf z != 0) = true := hz
  simpa using this
 clear h hy hz
 go_enter Tryd.func83, Tryd.ntmps83
 go_wp2_with fail
 refine Calls.mono HF.out ?_
 rintro e w2 ⟨y, rfl, hz, hw⟩
 rw [hw]
 clear hw w2 HF
 rcases hz with ⟨m, hm, rfl, ho, -⟩ | ⟨-, hno⟩
 rotate_left
 ·exact absurd hno HY.out
 obtain ⟨g, c', hv, hc⟩ := HR.out.at_ (by omega)
 have hv0 := hv
 rw [hov] at hv
 injection hv with e1 e2 e3
 subst e1
 obtain ⟨-, -, -, -, q4, -⟩ := hc m hm
 have hb : R.ov.ownBlock = some g := by rw [hv0]; rfl
 obtain ⟨cur, hcur⟩ := row_block HR.out.row hb
 have z0 := frozen_in hcur (m * 6 + 4)
 have k1 : (0 : Int) ≤ (m : Int) := by omega
 have k2 : (m : Int) < (R.objs.length : Int) := by omega
 have HIs : Hid (RIs R q m) := ⟨hm, ho⟩
 have HB := mkHid hb
 have HRz : Hid (RRep (w.setCell ⟨g, m * 6 + 4, none⟩ (.int .i64 z)) B r (R.upd m z (R.objs.getD m noRO).slots)) := HR.out.setCls hv0 m z hm
 obtain ⟨cz, hcz⟩ : ∃ cz, cz = (R.objs.getD m noRO).cls := ⟨_, rfl⟩
 rw [← hcz] at q4
 obtain ⟨kz, hkk⟩ : ∃ kz, kz = kindOf z := ⟨_, rfl⟩
 rw [← hkk] at HK hkz
 have hkb : ((kz : Int) == 0) = false := by
  rw [beq_eq_false_iff_ne]
  omega
 clear hc ho e2 e3 hcz hov hv0 hb hcur hkk
 go_wp2_with (first | (go_at_call 56; refine Calls.mono HK.out ?_; rintro e w' ⟨rfl, hw'⟩; rw [hw']; clear hw' w') | go_in)
 go_ret
 exact ⟨rfl, m, g, HIs.out, HB.out, HRz.out, Fr.setCell (S := [g]) w ⟨g, m * 6 + 4, none⟩ _ (by simp)⟩
set_option maxRecDepth 20000 in
set_option maxHeartbeats 2000000 in
theorem rPut_ok (q : Int) (i : Nat) (z : Int) (B r : Nat) (R : RS) (w : World) (h : RRep w B r R) (hln : Lone R) (hl : R.objs.length ≤ 1048576) (hn : ¬ RNo R q) (hy : ∀ m, RIs R q m → i < (R.objs.getD m noRO).slots.length ∧ mayB z (R.objs.getD m noRO).fmt = true) :
  Calls Tryd.prog 85 #[.pointer (some ⟨r, 0, none⟩), .int .i64 q, .int .i64 i, .int .i64 z] w fun e w' =>
   e = .returned (.int .i64 0) ∧ ∃ m g, RIs R q m ∧ (R.objs.getD m noRO).v.ownBlock = some g ∧ RRep w' B r (R.upd m (R.objs.getD m noRO).cls ((R.objs.getD m noRO).slots.set i z)) ∧ Fr [g] w w' := by
 obtain ⟨p, c, hov⟩ := h.ovIs
 have c5 : w.cell? ⟨r, 5, none⟩ = some (.slice p R.objs.length c) := by rw [h.c, ← hov]; rfl
 have HF := mkHid (find_any q B r R w h hl)
 have HM : Hid (∀ V f, Calls Tryd.prog 57 #[.int .i64 z, .int .i64 f] V fun e w' => e = .returned (.bool (mayB z f)) ∧ w' = V) := fun V f => rmay_any z f V
 have HR := mkHid h
 have HL := mkHid hln
 have HY := mkHid hy
 have HN := mkHid hn
 clear h hy hn hln
 go_enter Tryd.func85, Tryd.ntmps85
 go_wp2_with fail
 refine Calls.mono HF.out ?_
 rintro e w2 ⟨y, rfl, hz, hw⟩
 rw [hw]
 clear hw w2 HF
 rcases hz with ⟨m, hm, rfl, ho, -⟩ | ⟨-, hno⟩
 rotate_left
 ·exact absurd hno HN.out
 obtain ⟨g, c', hv, hc⟩ := HR.out.at_ (by omega)
 have hv0 := hv
 rw [hov] at hv
 injection hv with e1 e2 e3
 subst e1
 obtain ⟨-, q1, -, -, -, q5⟩ := hc m hm
 obtain ⟨hi, hmay⟩ := HY.out m ⟨hm, ho⟩
 have hmm : R.objs.getD m noRO ∈ R.objs := roD_mem hm
 obtain ⟨p5, c5', hv5, hs5⟩ := own_slot (HR.out.slots _ hmm)
 obtain ⟨g5, rfl, hc5⟩ := hs5 (by omega)
 have q6 := hc5 i hi
 have hb5 : (R.objs.getD m noRO).v.ownBlock = some g5 := by rw [hv5]; rfl
 obtain ⟨cur5, hcur5⟩ := row_block (HR.out.slots _ hmm) hb5
 have z5 := frozen_in hcur5 i
 have HRz : Hid (RRep (w.setCell ⟨g5, i, none⟩ (.int .i64 z)) B r (R.upd m (R.objs.getD m noRO).cls ((R.objs.getD m noRO).slots.set i z))) := HR.out.setSlot HL.out m hm hv5 i z
 rw [hv5] at q5
 have k1 : (0 : Int) ≤ (m : Int) := by omega
 have k2 : (m : Int) < (R.objs.length : Int) := by omega
 have HIs : Hid (RIs R q m) := ⟨hm, ho⟩
 have HB := mkHid hb5
 obtain ⟨cz, hcz⟩ : ∃ cz, cz = (R.objs.getD m noRO).slots.length := ⟨_, rfl⟩
 obtain ⟨fz, hfz⟩ : ∃ fz, fz = (R.objs.getD m noRO).slots.getD i 0 := ⟨_, rfl⟩
 obtain ⟨ff, hff⟩ : ∃ ff, ff = (R.objs.getD m noRO).fmt := ⟨_, rfl⟩
 rw [← hcz] at q5 hi
 rw [← hfz] at q6
 rw [← hff] at q1 hmay
 simp only [I] at q1
 have i1 : (0 : Int) ≤ (i : Int) := by omega
 have i2 : (i : Int) < (cz : Int) := by omega
 have HM2 : Hid (∀ V, Calls Tryd.prog 57 #[.int .i64 z, .int .i64 (ff : Int)] V fun e w' => e = .returned (.bool true) ∧ w' = V) := fun V => by
  have := HM.out V (ff : Int)
  rw [hmay] at this
  exact this
 clear hcz hfz hff hc hc5 ho e2 e3 hv5 HY hov hv0 hb5 hcur5 hmay HM hmm
 go_wp2_with fail
 refine Calls.mono (HM2.out _) ?_
 rintro e w' ⟨rfl, hw'⟩
 rw [hw']
 clear hw' w'
 go_wp2_with fail
 go_ret
 exact ⟨rfl, m, g5, HIs.out, HB.out, HRz.out, Fr.setCell (S := [g5]) w ⟨g5, i, none⟩ _ (by simp)⟩
theorem info137 : (Tryd.prog.info? 111).isSome = true := by kernel_rfl
set_option maxRecDepth 20000 in
set_option maxHeartbeats 1000000 in
theorem rPoint_ok (B r : Nat) (R : RS) (w : World) (h : RRep w B r R) :
  Calls Tryd.prog 87 #[.pointer (some ⟨r, 0, none⟩)] w fun e w' => e = .returned (.agg #[.pointer (some ⟨r, 0, none⟩), .int .i64 (R.born : Int), .int .i64 (R.turn : Int)]) ∧ Fr [] w w' := by
 have hal : r < w.heap.size := lt_of_heap h.top
 have c3 : w.cell? ⟨r, 3, none⟩ = some (.int .i64 (R.born : Int)) := by rw [h.c]; rfl
 have c4 : w.cell? ⟨r, 4, none⟩ = some (.int .i64 (R.turn : Int)) := by rw [h.c]; rfl
 have d3 := (World.cell?_alloc_lt w (.cells #[.pointer none, .int .i64 0, .int .i64 0] 139) ⟨r, 3, none⟩ hal).trans c3
 have d4 := (World.cell?_alloc_lt w (.cells #[.pointer none, .int .i64 0, .int .i64 0] 139) ⟨r, 4, none⟩ hal).trans c4
 clear h
 go_enter Tryd.func87, Tryd.ntmps87
 go_wp2_with fail
 go_region
 all_goals go_wp2_with fail
 all_goals
  refine bodyPost_ret (v := .agg #[.pointer (some ⟨r, 0, none⟩), .int .i64 (R.born : Int), .int .i64 (R.turn : Int)]) (by simp [results, Tryd.results87, go_sem]) rfl ⟨rfl, (Fr.alloc [] _ _).trans (Fr.drew [] _) (by simp)⟩
set_option maxRecDepth 20000 in
set_option maxHeartbeats 1000000 in
theorem rBack_no (bn tn : Int) (B r : Nat) (R : RS) (w : World) (h : RRep w B r R) (hne : (tn != (R.turn : Int)) = true) :
  Calls Tryd.prog 88 #[.pointer (some ⟨r, 0, none⟩), .agg #[.pointer (some ⟨r, 0, none⟩), .int .i64 bn, .int .i64 tn]] w fun e w' => e = .returned (.int .i64 25) ∧ Fr [] w w' := by
 have hal : r < w.heap.size := lt_of_heap h.top
 have c4 : w.cell? ⟨r, 4, none⟩ = some (.int .i64 (R.turn : Int)) := by rw [h.c]; rfl
 have d4 := (World.cell?_alloc_lt w (.cells #[.pointer (some ⟨r, 0, none⟩), .int .i64 bn, .int .i64 tn] 139) ⟨r, 4, none⟩ hal).trans c4
 have HE : Hid (∀ n, Fr [] w ((w.alloc (.cells #[.pointer (some ⟨r, 0, none⟩), .int .i64 bn, .int .i64 tn] 139)).drewN n)) := fun n => (Fr.alloc [] _ _).trans (Fr.drewN [] _ _) (by simp)
 obtain ⟨j, hj⟩ := Option.isSome_iff_exists.1 info137
 have hq := fun V => run_neq_ptr_same V ⟨r, 0, none⟩ Tryd.underlying42 hj
 clear h hj
 go_enter Tryd.func88, Tryd.ntmps88
 go_wp2_with fail
 go_region
 all_goals go_wp2_with fail
 all_goals
  go_ret
  exact ⟨rfl, HE.out _⟩
set_option maxRecDepth 20000 in
set_option maxHeartbeats 1000000 in
theorem rRoom_ok (B r : Nat) (R : RS) (w : World) (h : RRep w B r R) (ho : ROk R) (hw : (R.words : Int) ≤ 1048576) (hoo : (R.oops : Int) ≤ 65536) (he : (rEnd R.objs : Int) ≤ 1048576) :
  Calls Tryd.prog 21 #[.pointer (some ⟨r, 0, none⟩)] w fun e w' => e = .returned (.tuple #[.int .i64 ((R.words : Int) - (rEnd R.objs : Int)), .int .i64 ((R.oops : Int) - (R.objs.length : Int))]) ∧ Fr [] w w' := by
 obtain ⟨p, c, hov⟩ := h.ovIs
 have hl := ho.len
 have HR := mkHid h
 have KS : Hid (∀ W, Hid (Fr [] w W) → W.cell? ⟨r, 0, none⟩ = some (.int .i64 (R.words : Int)) ∧ W.cell? ⟨r, 1, none⟩ = some (.int .i64 (R.oops : Int)) ∧ W.cell? ⟨r, 5, none⟩ = some (.slice p R.objs.length c) ∧ Hid (Fr [] w W)) := by
  intro W hW
  have h2 := HR.out.idle hW.out
  exact ⟨by rw [h2.c]; rfl, by rw [h2.c]; rfl, by rw [h2.c, ← hov]; rfl, hW⟩
 have HEnd : Hid (∀ W, Hid (Fr [] w W) → Calls Tryd.prog 58 #[.pointer (some ⟨r, 0, none⟩)] W fun e w' => e = .returned (.int .i64 (rEnd R.objs : Nat)) ∧ Hid (Fr [] w w')) := by
  intro W hW
  refine Calls.mono (rend_any _ _ R W (HR.out.idle hW.out) ho) ?_
  rintro e w' ⟨rfl, hf⟩
  exact ⟨rfl, hW.out.trans hf (by simp)⟩
 have F0 : Hid (Fr [] w w) := Fr.refl _ _
 obtain ⟨c0, c1, c5, -⟩ := KS.out w F0
 generalize rEnd R.objs = EN at *
 have z1 : IntKind.i64.wrap ((R.words : Int) - (EN : Int)) = (R.words : Int) - (EN : Int) := by rw [iwrap]; unfold wrap64; omega
 have z2 : IntKind.i64.wrap ((R.oops : Int) - (R.objs.length : Int)) = (R.oops : Int) - (R.objs.length : Int) := by rw [iwrap]; unfold wrap64; omega
 clear h ho hov
 go_enter Tryd.func21, Tryd.ntmps21
 go_wp2_with fail
 go_region_held3 (fun w' => w'.cell? ⟨r, 0, none⟩ = some (.int .i64 (R.words : Int)) ∧ w'.cell? ⟨r, 1, none⟩ = some (.int .i64 (R.oops : Int)) ∧ w'.cell? ⟨r, 5, none⟩ = some (.slice p R.objs.length c) ∧ Hid (Fr [] w w')) (exact KS.out _ (by first | assumption | exact hid_drew (by assumption) | (go_split_ands; first | assumption | exact hid_drew (by assumption))))
  ((go_at_call 58; refine (HEnd.out _ (by first | assumption | exact hid_drew (by assumption) | (go_split_ands; first | assumption | exact hid_drew (by assumption)))).mono ?_; rintro e w' ⟨rfl, hf'⟩))
 have F3 : Hid (Fr [] w w') := by assumption
 go_wp2_with fail
 go_ret2
 exact ⟨rfl, F3.out⟩
end Go.Proofs.YtklfnjlenbgmoaaDoor
