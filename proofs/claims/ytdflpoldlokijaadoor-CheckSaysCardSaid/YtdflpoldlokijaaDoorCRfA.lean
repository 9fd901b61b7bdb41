import Derived.Test.YtdflpoldlokijaaDoorCRf6
import Derived.Test.YtdflpoldlokijaaDoorG34CWlk0
import Derived.Test.YtdflpoldlokijaaDoorG21CRead
namespace Go.Proofs.YtdflpoldlokijaaDoor
open Go.RowKit
set_option linter.unusedVariables false
set_option linter.unusedSimpArgs false
attribute [local go_sem ↓] Go.wp_at_zero Go.wp_at_succ
set_option maxHeartbeats 2000000 in
theorem size_no (n : Int) (w : World) (h : ¬(1 ≤ n ∧ n ≤ 28)) : Calls Tryd.prog 29 #[.int .i64 n] w fun e w' => e = .returned (.int .i64 0) ∧ w' = w := by
  have q : ∀ m : Int, 1 ≤ m → m ≤ 28 → (n == m) = false := fun m h1 h2 => beq_eq_false_iff_ne.2 (fun e => h (by omega))
  have q5 := q 5 (by omega) (by omega)
  have q6 := q 6 (by omega) (by omega)
  have q7 := q 7 (by omega) (by omega)
  have q8 := q 8 (by omega) (by omega)
  have q9 := q 9 (by omega) (by omega)
  have q10 := q 10 (by omega) (by omega)
  have q11 := q 11 (by omega) (by omega)
  have q12 := q 12 (by omega) (by omega)
  have q13 := q 13 (by omega) (by omega)
  have q14 := q 14 (by omega) (by omega)
  have q17 := q 17 (by omega) (by omega)
  have q18 := q 18 (by omega) (by omega)
  have q19 := q 19 (by omega) (by omega)
  have q23 := q 23 (by omega) (by omega)
  have q24 := q 24 (by omega) (by omega)
  have q25 := q 25 (by omega) (by omega)
  have q26 := q 26 (by omega) (by omega)
  have q27 := q 27 (by omega) (by omega)
  have q28 := q 28 (by omega) (by omega)
  by_cases h1 : 1 ≤ n
  · have d2 : decide (n ≤ 28) = false := decide_eq_false (fun hh => h ⟨h1, hh⟩)
    clear q h
    go_enter Tryd.func29, Tryd.ntmps29
    go_wp2_with fail
    go_ret
    exact ⟨rfl, rfl⟩
  · have d2 : decide (1 ≤ n) = false := decide_eq_false h1
    clear q h
    go_enter Tryd.func29, Tryd.ntmps29
    go_wp2_with fail
    go_ret
    exact ⟨rfl, rfl⟩
/-- an instruction as the document has it -/
def riOf (C : Cx) (p : Pl) (i : Nat) : Ri := ⟨i, p.fin - i, p.op, p.body - 1, p.nxt, -1, C.w (i + 1), C.w (i + 2), C.w (i + 3)⟩
def lsR (C : Cx) (l : List Pl) (n : Nat) : List Ri := (stK l n).map fun i => riOf C (plD l i) i
theorem lsR_len (C : Cx) (l : List Pl) (n : Nat) : (lsR C l n).length = (stK l n).length := by simp [lsR]
theorem lsR_RL (C : Cx) (l : List Pl) (n : Nat) : RL l n (lsR C l n) := by
  refine ⟨lsR_len C l n, fun i x hx => ⟨riOf C (plD l x) x, ?_, rfl, ?_⟩⟩
  · unfold lsR; rw [List.getElem?_map, hx]; rfl
  · have := (stK_inv l n i x hx).2.2
    show (plD l x).body - 1 + 1 = _
    omega
theorem lsR_congr (C : Cx) (l m : List Pl) (n : Nat) (h : ∀ i, i < n → plD l i = plD m i) : lsR C l n = lsR C m n := by
  unfold lsR
  rw [stK_congr l m n fun i hi => by rw [h i hi]]
  refine List.map_congr_left fun i hi => ?_
  rw [h i ((mem_stK m n i).1 hi).1]
/-- one more is read -/
theorem lsR_more (C : Cx) (l : List Pl) (at_ fin : Nat) (p : Pl) (hl : at_ < l.length) (hf : at_ < fin) (hz : ∀ i, at_ ≤ i → (plD l i).body = 0) (hp : p.body ≠ 0) : lsR C (l.set at_ p) fin = lsR C l at_ ++ [riOf C p at_] ∧ ∀ i, fin ≤ i → (plD (l.set at_ p) i).body = 0 := by
  have e1 : plD (l.set at_ p) at_ = p := plD_set_eq _ _ _ hl
  have e2 : ∀ i, i ≠ at_ → plD (l.set at_ p) i = plD l i := fun i hi => plD_set_ne _ _ _ _ (Ne.symm hi)
  refine ⟨?_, fun i hi => by rw [e2 i (by omega)]; exact hz i (by omega)⟩
  have e3 : stK (l.set at_ p) fin = stK l at_ ++ [at_] := by
    rw [stK_gap (l.set at_ p) (at_ + 1) fin (by omega) fun i h1 h2 => by rw [e2 i (by omega)]; exact hz i (by omega), stK_yes _ at_ (by rw [e1]; exact hp), stK_congr (l.set at_ p) l at_ fun i hi => by rw [e2 i (by omega)]]
  unfold lsR
  rw [e3, List.map_append]
  congr 1
  · refine List.map_congr_left fun i hi => ?_
    have := ((mem_stK l at_ i).1 hi).1
    rw [e2 i (by omega)]
  · simp [e1]
/-- a block's body more -/
theorem BOk.more {bs : List Bd} {inf : List Inf} (h : BOk bs inf) (k : Nat) (sc : List Nat) (b e : Nat) (hk : inf[k]? = some (sc, b, e)) (hs : 1 ≤ sc.length) (u0 : Bd) (hu : bs[k]? = some u0) (hne : u0.ne + 1 = sc.length) (fin nxt sl : Nat) : BOk (bs ++ [⟨fin, nxt, (k : Int), u0.ne + 1, sl⟩]) (inf ++ [(sc ++ [sl], fin, nxt)]) := by
  have hkl : k < inf.length := (List.getElem?_eq_some_iff.1 hk).1
  refine ⟨by simp [h.len], fun j sc' b' e' hj => ?_⟩
  by_cases hjl : j < inf.length
  · rw [List.getElem?_append_left hjl] at hj
    obtain ⟨u, h1, h2, h3, h4, h5, h6, h7⟩ := h.at_ j sc' b' e' hj
    refine ⟨u, by rw [List.getElem?_append_left (by rw [h.len]; exact hjl)]; exact h1, h2, h3, h4, h5, h6, fun hh => ?_⟩
    obtain ⟨i, i1, i2, b2, e2, i3⟩ := h7 hh
    exact ⟨i, i1, i2, b2, e2, by rw [List.getElem?_append_left (by omega)]; exact i3⟩
  · have hjl2 : j = inf.length := by
      have := (List.getElem?_eq_some_iff.1 hj).1
      simp at this
      omega
    subst hjl2
    rw [List.getElem?_append_right (Nat.le_refl _), Nat.sub_self] at hj
    simp at hj
    obtain ⟨rfl, rfl, rfl⟩ := hj
    refine ⟨⟨fin, nxt, (k : Int), u0.ne + 1, sl⟩, by rw [← h.len]; simp, rfl, rfl, by simp; exact hne, by simp, fun hh => by rw [List.length_append, List.length_singleton] at hh; omega, fun _ => ⟨k, hkl, rfl, b, e, ?_⟩⟩
    rw [List.getElem?_append_left hkl]
    simp [hk]
/-- the blocks that reading writes -/
def rfoot (x : Nat) (pb pr : Option Addr) : List Nat := x :: (blk pb ++ blk pr)
theorem rfoot_x (x : Nat) (pb pr : Option Addr) : x ∈ rfoot x pb pr := by simp [rfoot]
theorem rfoot_b {x g : Nat} {pb pr : Option Addr} (h : g ∈ blk pb) : g ∈ rfoot x pb pr := by simp [rfoot, h]
theorem rfoot_r {x g : Nat} {pb pr : Option Addr} (h : g ∈ blk pr) : g ∈ rfoot x pb pr := by simp [rfoot, h]
theorem Nw.refl (w : World) (p : Option Addr) : Nw w p p := fun g hg => .inl hg
theorem Nw.trans {w w' : World} {p q r : Option Addr} (h : Nw w p q) (k : Nw w' q r) (hs : w.heap.size ≤ w'.heap.size) : Nw w p r := fun g hg => by
  rcases k g hg with h1 | h1
  · exact h g h1
  · exact .inr (by omega)
theorem Nw.old {w w' : World} {p q : Option Addr} (h : Nw w' p q) (hs : w.heap.size ≤ w'.heap.size) : Nw w p q := fun g hg => by
  rcases h g hg with h1 | h1
  · exact .inl h1
  · exact .inr (by omega)
theorem rfoot_sub {w : World} {x : Nat} {pb pb' pr pr' : Option Addr} (hb : Nw w pb pb') (hr : Nw w pr pr') : ∀ g ∈ rfoot x pb' pr', g ∈ rfoot x pb pr ∨ w.heap.size ≤ g := fun g hg => by
  simp only [rfoot, List.mem_cons, List.mem_append] at hg
  rcases hg with h1 | h1 | h1
  · exact .inl (by rw [h1]; exact rfoot_x _ _ _)
  · rcases hb g h1 with h2 | h2
    · exact .inl (rfoot_b h2)
    · exact .inr h2
  · rcases hr g h1 with h2 | h2
    · exact .inl (rfoot_r h2)
    · exact .inr h2
theorem WR.footL {w : World} {B x : Nat} {F : WFx} {bs : List Bd} {pb : Option Addr} {cb : Nat} {rs : List Ri} {pr : Option Addr} {cr : Nat} {el : Nat} {er : Int} (h : WR w B x F bs pb cb rs pr cr el er) : ∀ g ∈ rfoot x pb pr, B ≤ g ∧ g < w.heap.size := fun g hg => by
  simp only [rfoot, List.mem_cons, List.mem_append] at hg
  rcases hg with h1 | h1 | h1
  · rw [h1]; exact ⟨h.base, lt_of_heap h.top⟩
  · exact own_lt h.bod g ((blk_own _ _ _ _).2 h1)
  · exact own_lt h.lst g ((blk_own _ _ _ _).2 h1)
/-- the bodies, against the instructions: a block's body, and where a body begins -/
structure BQ (bs : List Bd) (l : List Pl) (k at_ : Nat) : Prop where
  bx : ∀ x, x < at_ → (plD l x).body ≠ 0 → (plD l x).op = 19 → ∃ (b : Nat) (u : Bd), bs[b]? = some u ∧ u.b = (plD l x).fin ∧ u.ar + 1 = ((plD l x).body : Int)
  be : ∀ (b : Nat) (u : Bd), bs[b]? = some u → (u.b < at_ ∧ (plD l u.b).body = b + 1) ∨ (b = k ∧ u.b = at_)
theorem BQ.step {bs : List Bd} {l : List Pl} {k at_ : Nat} (h : BQ bs l k at_) (fin : Nat) (p : Pl) (hl : at_ < l.length) (hf : at_ < fin) (hz : ∀ i, at_ ≤ i → (plD l i).body = 0) (hp : p.body = k + 1) (h19 : p.op ≠ 19) : BQ bs (l.set at_ p) k fin := by
  have e1 : plD (l.set at_ p) at_ = p := plD_set_eq _ _ _ hl
  have e2 : ∀ i, i ≠ at_ → plD (l.set at_ p) i = plD l i := fun i hi => plD_set_ne _ _ _ _ (Ne.symm hi)
  refine ⟨fun x hx hb ho => ?_, fun b u hu => ?_⟩
  · by_cases hxa : x = at_
    · subst hxa; rw [e1] at ho; exact absurd ho h19
    · rw [e2 x hxa] at hb ho ⊢
      by_cases hlt : x < at_
      · exact h.bx x hlt hb ho
      · exact absurd (hz x (by omega)) hb
  · rcases h.be b u hu with ⟨h1, h2⟩ | ⟨h1, h2⟩
    · exact .inl ⟨by omega, by rw [e2 _ (by omega)]; exact h2⟩
    · exact .inl ⟨by omega, by rw [h2, e1, hp, h1]⟩
theorem BQ.block {bs : List Bd} {l : List Pl} {k at_ : Nat} (h : BQ bs l k at_) (fin : Nat) (p : Pl) (hl : at_ < l.length) (hf : at_ < fin) (hz : ∀ i, at_ ≤ i → (plD l i).body = 0) (hp : p.body = k + 1) (hfn : p.fin = fin) (u' : Bd) (h1 : u'.b = fin) (h2 : u'.ar = (k : Int)) : BQ (bs ++ [u']) (l.set at_ p) bs.length fin := by
  have e1 : plD (l.set at_ p) at_ = p := plD_set_eq _ _ _ hl
  have e2 : ∀ i, i ≠ at_ → plD (l.set at_ p) i = plD l i := fun i hi => plD_set_ne _ _ _ _ (Ne.symm hi)
  refine ⟨fun x hx hb ho => ?_, fun b u hu => ?_⟩
  · by_cases hxa : x = at_
    · subst hxa
      rw [e1]
      exact ⟨bs.length, u', by simp, by rw [h1, hfn], by rw [h2, hp]; push_cast; rfl⟩
    · rw [e2 x hxa] at hb ho ⊢
      by_cases hlt : x < at_
      · obtain ⟨b, u, q1, q2, q3⟩ := h.bx x hlt hb ho
        exact ⟨b, u, by rw [List.getElem?_append_left (List.getElem?_eq_some_iff.1 q1).1]; exact q1, q2, q3⟩
      · exact absurd (hz x (by omega)) hb
  · by_cases hbl : b < bs.length
    · rw [List.getElem?_append_left hbl] at hu
      rcases h.be b u hu with ⟨q1, q2⟩ | ⟨q1, q2⟩
      · exact .inl ⟨by omega, by rw [e2 _ (by omega)]; exact q2⟩
      · exact .inl ⟨by omega, by rw [q2, e1, hp, q1]⟩
    · have hb2 : b = bs.length := by
        have := (List.getElem?_eq_some_iff.1 hu).1
        simp at this
        omega
      subst hb2
      simp at hu
      subst hu
      exact .inr ⟨rfl, h1⟩
theorem BQ.back {bs : List Bd} {l : List Pl} {k' at_ : Nat} (h : BQ bs l k' at_) (k : Nat) (hn : ∀ u, bs[k']? = some u → u.b ≠ at_) : BQ bs l k at_ :=
  ⟨h.bx, fun b u hu => by
    rcases h.be b u hu with q | ⟨q1, q2⟩
    · exact .inl q
    · subst q1; exact absurd q2 (hn u hu)⟩
/-- what reading a body leaves -/
def RdP (w : World) (B x : Nat) (F : WFx) (pb pr : Option Addr) (el k : Nat) (Z : Int × Rs) (en : Nat) (e : Ending) (w' : World) : Prop :=
  e = .returned (.tuple #[]) ∧ Fr (rfoot x pb pr) w w' ∧ ∃ bs' pb' cb' rs' pr' cr', WR w' B x F bs' pb' cb' rs' pr' cr' el Z.1 ∧ Nw w pb pb' ∧ Nw w pr pr' ∧ (Z.1 = 0 → BOk bs' Z.2.inf ∧ rs' = lsR F.C Z.2.pls en ∧ (∀ i, en ≤ i → (plD Z.2.pls i).body = 0) ∧ BQ bs' Z.2.pls k en)
def RdC (f : Nat) : Prop := ∀ (w : World) (B x : Nat) (F : WFx) (bs : List Bd) (pb : Option Addr) (cb : Nat) (pr : Option Addr) (cr el : Nat) (R : Rs) (k : Nat) (sc : List Nat) (fr en : Nat),
  WR w B x F bs pb cb (lsR F.C R.pls fr) pr cr el 0 → B ≤ w.heap.size → F.C.ws.length ≤ 4096 → (∀ i, -9223372036854775808 ≤ F.C.w i ∧ F.C.w i ≤ 9223372036854775807) → BOk bs R.inf → BQ bs R.pls k fr → R.inf[k]? = some (sc, fr, en) → 1 ≤ sc.length → sc.length ≤ 25 → (∀ i, fr ≤ i → (plD R.pls i).body = 0) → R.pls.length = F.C.ws.length → en - fr < f → fr ≤ en → en ≤ F.C.ws.length → R.inf.length + (en - fr) ≤ 100000 →
  Calls Tryd.prog 37 #[.pointer (some ⟨x, 0, none⟩), .int .i64 (k : Int)] w fun e w' => RdP w B x F pb pr el k (readP F.C f sc fr en (k + 1) R) en e w'
end Go.Proofs.YtdflpoldlokijaaDoor
