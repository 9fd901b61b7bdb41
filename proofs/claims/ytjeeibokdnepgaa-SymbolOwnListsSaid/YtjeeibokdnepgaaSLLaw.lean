import Derived.Test.YtjeeibokdnepgaaSPo
namespace Go.Proofs.Ytjeeibokdnepgaa
open Go.RowKit Go.Maps Go.WideMaps
set_option linter.unusedVariables false
set_option linter.unusedSimpArgs false
theorem own_front {w : World} {base : Nat} {p : Option Addr} {c : Nat} {ts : List ByteArray} (h : w.ownsRow base 9 1 (.slice p ts.length c) ts.length (ts.map Value.string)) (hp : 0 < ts.length) {k : Nat} (hk : k ≤ ts.length) (hs : ts.length ≤ 8796093022208) :
    ∃ g, p = some ⟨g, 0, none⟩ ∧ base ≤ g ∧ g < w.heap.size ∧ ts.length ≤ c ∧ c ≤ 9223372036854775807 ∧ RdS w (.slice p k c) (ts.take k) := by
  obtain ⟨_, g, rfl, h1, h2, h3⟩ := row_cell h hp
  have hl : (ts.take k).length = k := by simp; omega
  have hb := (own_lt h g rfl).1
  have hc : ts.length ≤ c ∧ c ≤ 9223372036854775807 := by
    rcases h.2 with ⟨e, _⟩ | ⟨g', c', cur, e, _, _, q1, q2, _⟩
    · cases e
    · injection e with _ _ e; unfold maxLen at q2; omega
  refine ⟨g, rfl, hb, h3, hc.1, hc.2, ⟨_, _, by rw [hl], fun h0 => ⟨g, 0, rfl, h3, fun i hi => ?_⟩⟩, fun c' hc => (by injection hc with e; cases e), by omega⟩
  rw [hl] at hi
  rw [Nat.zero_add, h1 i (by omega), List.getD_eq_getElem?_getD, List.getD_eq_getElem?_getD, List.getElem?_take, if_pos hi]
theorem own_set {w : World} {base g c : Nat} {ts : List ByteArray} (h : w.ownsRow base 9 1 (.slice (some ⟨g, 0, none⟩) ts.length c) ts.length (ts.map Value.string)) (i : Nat) (hi : i < ts.length) (s : ByteArray) :
    (w.setCell ⟨g, i, none⟩ (.string s)).ownsRow base 9 1 (.slice (some ⟨g, 0, none⟩) (ts.set i s).length c) (ts.set i s).length ((ts.set i s).map Value.string) := by
  rw [List.length_set]
  refine ⟨by simp, Or.inr ?_⟩
  rcases h.2 with ⟨e, _⟩ | ⟨g', c', cur, e, q1, q2, q3, q4, q5, q6⟩
  · cases e
  · injection e with e _ e3
    injection e with e
    injection e with e
    subst e
    subst e3
    refine ⟨g, c, cur.setIfInBounds i (.string s), rfl, q1, set_in q2 i _, q3, q4, by simpa using q5, ?_⟩
    rw [List.map_set, ← q6, Nat.mul_one, Array.toList_setIfInBounds, List.take_set]
/-- what Load says, in one form -/
def LoadO (w w' : World) (ss : List ByteArray) (m : Int) (va : Option Addr) : Prop :=
  Fr [] w w' ∧ ((loadE ss m ≠ 0 ∧ va = none) ∨ (loadE ss m = 0 ∧ ∃ a l, va = some ⟨a, 0, none⟩ ∧ TRep w' a l m.toNat ss ∧ ∀ g ∈ foot a l, w.heap.size ≤ g))
def RLoadO (w w' : World) (ss : List ByteArray) (m : Int) (vr : Option Addr) : Prop :=
  Fr [] w w' ∧ ((loadE ss m ≠ 0 ∧ vr = none) ∨ (loadE ss m = 0 ∧ ∃ r p cap, vr = some ⟨r, 0, none⟩ ∧ RT w' r p cap m.toNat ss ∧ ∀ g ∈ foot2 r p, w.heap.size ≤ g))
theorem Load_o (ss : List ByteArray) (v : Value) (m : Int) (w : World) (h : ArgS w v ss) :
    Calls Try.prog 21 #[v, .int .i64 m] w fun e w' => ∃ va, e = .returned (.tuple #[.pointer va, .int .i64 (loadE ss m)]) ∧ LoadO w w' ss m va := by
  refine (Load_ok ss v m w h).mono ?_
  rintro e w' (⟨h1, rfl, h3⟩ | ⟨h1, most, a, l, rfl, rfl, h4, h5, h6⟩)
  · exact ⟨none, rfl, h3, Or.inl ⟨h1, rfl⟩⟩
  · exact ⟨_, by rw [h1], h5, Or.inr ⟨h1, a, l, rfl, h4, h6⟩⟩
theorem rLoad_o (ss : List ByteArray) (v : Value) (m : Int) (w : World) (h : RdS w v ss) :
    Calls Try.prog 22 #[v, .int .i64 m] w fun e w' => ∃ vr, e = .returned (.tuple #[.pointer vr, .int .i64 (loadE ss m)]) ∧ RLoadO w w' ss m vr := by
  refine (rLoad_ok ss v m w h).mono ?_
  rintro e w' (⟨h1, rfl, h3⟩ | ⟨h1, most, r, p, cap, rfl, rfl, h4, h5, h6⟩)
  · exact ⟨none, rfl, h3, Or.inl ⟨h1, rfl⟩⟩
  · exact ⟨_, by rw [h1], h5, Or.inr ⟨h1, r, p, cap, rfl, h4, h6⟩⟩
def loadC (ss : List ByteArray) (m : Int) (b : Bool) : Cont := if b then none else some (m.toNat, ss, ss)
/-- the program's Load first -/
theorem po_load {w w1 w2 : World} {ss : List ByteArray} {m : Int} {va vr : Option Addr} (h1 : LoadO w w1 ss m va) (h2 : RLoadO w1 w2 ss m vr) :
    ∃ c, Po w.heap.size w2 va vr c ∧ cTs c = rTs c ∧ Fr [] w w2 ∧ va.isNone = vr.isNone ∧ (∀ x, c = some x → x.2.1 = x.2.2) := by
  obtain ⟨f1, h1⟩ := h1
  obtain ⟨f2, h2⟩ := h2
  have f := f1.trans f2 (by simp)
  rcases h1 with ⟨e1, rfl⟩ | ⟨e1, a, l, rfl, t1, g1⟩
  · rcases h2 with ⟨e2, rfl⟩ | ⟨e2, _⟩
    · exact ⟨none, ⟨⟨none, by simp, by simp [ofoot], rfl, rfl, rfl⟩, f.size⟩, rfl, f, rfl, by simp⟩
    · exact absurd e2 e1
  · rcases h2 with ⟨e2, _⟩ | ⟨e2, r, p, cap, rfl, t2, g2⟩
    · exact absurd e1 e2
    · refine ⟨some (m.toNat, ss, ss), Po.mk' (t' := ⟨a, l, r, p, cap, m.toNat, ss, ss⟩) ⟨t1.idle f2, t2, fun g hg hm => ?_⟩ (fun g hg => ?_) f.size, rfl, f, rfl, fun x hx => by injection hx with hx; subst hx; rfl⟩
      · have := t1.lt g hg; have := g2 g hm; omega
      · rcases List.mem_append.1 hg with h | h
        · exact g1 g h
        · exact Nat.le_trans f1.size (g2 g h)
/-- the document's first -/
theorem po_load2 {w w1 w2 : World} {ss : List ByteArray} {m : Int} {va vr : Option Addr} (h2 : RLoadO w w1 ss m vr) (h1 : LoadO w1 w2 ss m va) :
    ∃ c, Po w.heap.size w2 va vr c ∧ cTs c = rTs c ∧ Fr [] w w2 ∧ va.isNone = vr.isNone ∧ (∀ x, c = some x → x.2.1 = x.2.2) := by
  obtain ⟨f1, h1⟩ := h1
  obtain ⟨f2, h2⟩ := h2
  have f := f2.trans f1 (by simp)
  rcases h1 with ⟨e1, rfl⟩ | ⟨e1, a, l, rfl, t1, g1⟩
  · rcases h2 with ⟨e2, rfl⟩ | ⟨e2, _⟩
    · exact ⟨none, ⟨⟨none, by simp, by simp [ofoot], rfl, rfl, rfl⟩, f.size⟩, rfl, f, rfl, by simp⟩
    · exact absurd e2 e1
  · rcases h2 with ⟨e2, _⟩ | ⟨e2, r, p, cap, rfl, t2, g2⟩
    · exact absurd e1 e2
    · refine ⟨some (m.toNat, ss, ss), Po.mk' (t' := ⟨a, l, r, p, cap, m.toNat, ss, ss⟩) ⟨t1, t2.idle f1, fun g hg hm => ?_⟩ (fun g hg => ?_) f.size, rfl, f, rfl, fun x hx => by injection hx with hx; subst hx; rfl⟩
      · have := t2.lt g hm; have := g1 g hg; omega
      · rcases List.mem_append.1 hg with h | h
        · exact Nat.le_trans f2.size (g1 g h)
        · exact g2 g h
def Ev (c : Cont) : Prop := ∀ x, c = some x → x.2.1 = x.2.2
theorem Ev.ts {c : Cont} (h : Ev c) : rTs c = cTs c := by
  cases c with
  | none => rfl
  | some x => exact (h x rfl).symm
theorem Ev.n {c : Cont} (h : Ev c) (s : ByteArray) : rN (c.map fun x => (x.1, addT x.1 x.2.1 s, x.2.2)) s = cN c s := by
  cases c with
  | none => rfl
  | some x => show addN x.1 x.2.2 s = addN x.1 x.2.1 s; rw [h x rfl]
theorem Ev.e {c : Cont} (h : Ev c) (s : ByteArray) : rE (c.map fun x => (x.1, addT x.1 x.2.1 s, x.2.2)) s = cE c s := by
  cases c with
  | none => rfl
  | some x => show addE x.1 x.2.2 s = addE x.1 x.2.1 s; rw [h x rfl]
theorem Ev.both {c : Cont} (h : Ev c) (s : ByteArray) : Ev ((c.map fun x => (x.1, addT x.1 x.2.1 s, x.2.2)).map fun x => (x.1, x.2.1, addT x.1 x.2.2 s)) := by
  cases c with
  | none => intro x hx; cases hx
  | some y =>
    intro x hx
    injection hx with hx
    subst hx
    show addT y.1 y.2.1 s = addT y.1 y.2.2 s
    rw [h y rfl]
theorem Fr.onBelow {w W W' : World} {B : Nat} (h : Fr [] w W) (k : Below B W W') (hB : w.heap.size ≤ B) : Fr [] w W' :=
  ⟨k.os.trans h.os, k.tape.trans h.tape, k.output.trans h.output, Nat.le_trans h.size k.size, fun i hi hn => (k.block i (by omega)).trans (h.block i hi hn)⟩
/-- the list, the first i of it written over -/
def overT (F : List ByteArray) (i : Nat) : List ByteArray := (List.range i).map (fun k : Nat => mk (k : Int)) ++ F.drop i
theorem overT_len (F : List ByteArray) (i : Nat) (hi : i ≤ F.length) : (overT F i).length = F.length := by simp [overT]; omega
theorem overT_set (F : List ByteArray) (i : Nat) (hi : i < F.length) : (overT F i).set i (mk (i : Int)) = overT F (i + 1) := by
  unfold overT
  have e : F.drop i = F[i] :: F.drop (i + 1) := List.drop_eq_getElem_cons hi
  rw [List.set_append_right _ _ (by simp), e, List.length_map, List.length_range, Nat.sub_self, List.set_cons_zero, List.range_succ, List.map_append, List.append_assoc]
  rfl
theorem overT_mk (F : List ByteArray) : ∀ s ∈ overT F F.length, s.size = 4 := by
  intro s hs
  unfold overT at hs
  rw [List.drop_length, List.append_nil] at hs
  obtain ⟨k, _, rfl⟩ := List.mem_map.1 hs
  exact mk_size _
def sharp (ls : List ByteArray) (i : Nat) : List ByteArray := ls ++ List.replicate i ⟨#[35]⟩
theorem sharp_len (ls : List ByteArray) (i : Nat) : (sharp ls i).length = ls.length + i := by simp [sharp]
theorem sharp_snoc (ls : List ByteArray) (i : Nat) : sharp ls i ++ [⟨#[35]⟩] = sharp ls (i + 1) := by
  unfold sharp
  rw [List.append_assoc, List.replicate_succ']
theorem sharp_take (ls : List ByteArray) (i : Nat) : (sharp ls i).take ls.length = ls := by
  unfold sharp
  rw [List.take_left' rfl]
set_option maxRecDepth 20000 in
set_option maxHeartbeats 4000000 in
theorem loads_any (ls : List ByteArray) (vl : Value) (m : Int) (ms : List ByteArray) (vm : Value) (w : World) (hl : ArgS w vl ls ∧ ls.length ≤ 8796093021952) (hm : (Lit.int .i64 m).wf = true) (hms : ArgS w vm ms ∧ ms.length ≤ 8796093021952) :
    Calls Try.prog 5 #[vl, .int .i64 m, vm] w fun e w' => e = .returned (.bool true) ∧ Fr [] w w' := by
  have HT1 := mkHid (texts_ok ls vl w hl.1.rd)
  have HL := mkHid hl.1
  have HM := mkHid hms.1
  have few := hl.2
  have HL2 : Hid (∀ W, Fr [] w W → _) := mkHid (fun W hW => rLoad_o ls vl m W (hl.1.rd.idle hW))
  obtain ⟨pl, cl, rfl, -⟩ := hl.1.rd.at_
  obtain ⟨pm, cm, rfl, hm1⟩ := hms.1.rd.at_
  have HM1 := mkHid hm1
  have s3 := hms.1.rd.short
  obtain ⟨lr1, lr2⟩ := loadE_range ls m
  clear hl hm hms hm1
  go_enter Try.func5, Try.ntmps5
  go_wp2_with (go_at_call 20; refine HT1.out.mono ?_; rintro e w1 ⟨p1, c1, rfl, h1⟩; have HS1 := mkHid h1; clear h1)
  go_loopw [7, 8] (fun u q wr => ∃ (i : Nat) (p' : Option Addr) (c' : Nat), i ≤ 64 ∧ q = .int .i64 i ∧ u = .slice p' (ls.length + i) c' ∧ Hid (Mine w wr p' c' (sharp ls i))) (fun _ q _ => 64 - (intOf q).toNat)
  case atStart => exact ⟨0, p1, c1, Nat.zero_le _, rfl, rfl, mkHid (by unfold sharp; rw [List.replicate_zero, List.append_nil]; exact HS1.out)⟩
  case round =>
    obtain ⟨i, p', c', hi, rfl, rfl, hst⟩ := hrel
    have i1 : (0 : Int) ≤ (i : Int) := by omega
    clear HS1 HT1
    by_cases hlt : i < 64
    · have i2 : (i : Int) < 64 := by omega
      have hsl := sharp_len ls i
      obtain ⟨p5, c5, w5, r5, h5⟩ := mine_push hst.out ⟨#[35]⟩ (by omega)
      rw [sharp_snoc] at h5
      rw [hsl] at r5
      have HR5 := mkHid r5
      have HS5 := mkHid h5
      clear r5 h5 hst hsl HL HM HM1 HL2
      go_wp2_with (at_builtin; refine Lib.wpList_append_run _ rfl (.tmp 31) (.tmp 32) 22 22 rfl _ _ rfl rfl _ _ HR5.out ?_)
      go_roundw
      case rel => exact ⟨i + 1, p5, c5, by omega, by go_num, rfl, HS5⟩
      case measure => simp [intOf]; omega
    · have hie : i = 64 := by omega
      subst hie
      obtain ⟨F, hF⟩ : ∃ F, F = sharp ls 64 := ⟨_, rfl⟩
      have hFl : F.length = ls.length + 64 := by rw [hF]; exact sharp_len ls 64
      have HFt : Hid (F.take ls.length = ls) := by show F.take ls.length = ls; rw [hF]; exact sharp_take ls 64
      rw [← hF] at hst
      have HW2 := mkHid (texts_ok F _ wr (own_rd hst.out.row (by omega)))
      rw [hFl] at HW2
      obtain ⟨gf, rfl, y1, y2, y3, y4, y5⟩ := own_front hst.out.row (by omega) (k := ls.length) (by omega) (by omega)
      rw [HFt.out] at y5
      rw [hFl] at y3
      have HY := mkHid y5
      have HLd : Hid (∀ W, Fr [] wr W → _) := mkHid (fun W hW => Load_o ls (.slice (some ⟨gf, 0, none⟩) ls.length c') m W ⟨y5.idle hW, HL.out.sz⟩)
      have hfrd := own_rd hst.out.row (by omega)
      rw [hFl] at hfrd
      have HFrd := mkHid hfrd
      clear hfrd
      have n1 := neq_self_i (loadE ls m)
      generalize hE : loadE ls m = E at *
      have HEE := mkHid hE
      clear hE hF y5
      go_wp2_with (first
        | (go_at_call 20; refine HW2.out.mono ?_; rintro e w3 ⟨p3, c3, rfl, h3⟩; have HS3 := mkHid h3; have HFu : Hid (∀ W, Fr [] w3 W → _) := mkHid (fun W hW => HFrd.out.idle (h3.fr.trans hW (by simp))); have hw3 := own_rd h3.row (by omega); rw [hFl] at hw3; have HWa : Hid (∀ W, Fr [] w3 W → _) := mkHid (fun W hW => hw3.idle hW); clear h3 hw3)
        | (go_at_call 21; refine (HLd.out _ HS3.out.fr).mono ?_; rintro e w4 ⟨va, rfl, h4⟩; have HS4 := mkHid h4; clear h4)
        | (go_at_call 22; refine (HL2.out _ ((hst.out.fr.trans HS3.out.fr (by simp)).trans HS4.out.1 (by simp))).mono ?_; rintro e w5 ⟨vr, rfl, h5⟩; obtain ⟨cc, q1, q2, q3, q4, q5⟩ := po_load HS4.out h5; have HP5 := mkHid q1; have HF5 := mkHid q3; have HQ5 := mkHid q5; clear h5 q1 q2 q3 q5)
        | (go_at_call 12; refine (num_any _ _ (by omega) (by omega)).mono ?_; rintro e wx ⟨rfl, he⟩; have he2 := he.symm; subst he2; clear he)
        | (go_at_call 13; refine (sameTexts_yes _ _ _ _ (HFu.out w5 HF5.out) (HWa.out w5 HF5.out)).mono ?_; rintro e w6 ⟨rfl, f6⟩; have HP6 := mkHid (HP5.out.idle f6); have HF6 := mkHid (HF5.out.trans f6 (by simp)); clear f6))
      have HB0 : Hid (wr.heap.size ≤ w3.heap.size) := HS3.out.fr.size
      have HR0 : Hid (w6.ownsRow w.heap.size 9 1 (.slice (some ⟨gf, 0, none⟩) (overT F 0).length c') (overT F 0).length ((overT F 0).map Value.string)) := by
        show w6.ownsRow w.heap.size 9 1 (.slice (some ⟨gf, 0, none⟩) F.length c') F.length (F.map Value.string)
        exact own_congr hst.out.row (fun g hg => ((HS3.out.fr.trans HF6.out (by simp)).block g (own_lt hst.out.row g hg).2 (by simp)))
      have HG : Hid (w.heap.size ≤ gf ∧ gf < w3.heap.size) := ⟨y1, Nat.lt_of_lt_of_le y2 HB0.out⟩
      have HFw : Hid (Fr [] w w6) := (hst.out.fr.trans HS3.out.fr (by simp)).trans HF6.out (by simp)
      have HB3 : Hid (w.heap.size ≤ w3.heap.size) := Nat.le_trans hst.out.fr.size HB0.out
      clear HS3 HS4 HW2 HLd HY HP5 HF5 HFu HWa HB0 HF6 hst y1 y2
      go_loopw [14] (fun q wq => ∃ i : Nat, i ≤ F.length ∧ q = .int .i64 i ∧ Hid (wq.ownsRow w.heap.size 9 1 (.slice (some ⟨gf, 0, none⟩) (overT F i).length c') (overT F i).length ((overT F i).map Value.string)) ∧ Hid (Fr [gf] w6 wq)) (fun q _ => F.length - (intOf q).toNat)
      case atStart => exact ⟨0, Nat.zero_le _, rfl, HR0, mkHid (Fr.refl _ _)⟩
      case round =>
        obtain ⟨i, hi, rfl, hrw, hfr⟩ := hrel
        have i1 : (0 : Int) ≤ (i : Int) := by omega
        by_cases hlt : i < F.length
        · have i2 : (i : Int) < (ls.length : Int) + 64 := by omega
          have i3 : (i : Int) < ((ls.length + 64 : Nat) : Int) := by omega
          have hol := overT_len F i hi
          have HMk := mkHid (mark_ok (i : Int) wr (by omega) (by omega))
          have HNx : Hid (∀ W, Fr [] wr W → (W.setCell ⟨gf, i, none⟩ (.string (mk (i : Int)))).ownsRow w.heap.size 9 1 (.slice (some ⟨gf, 0, none⟩) (overT F (i + 1)).length c') (overT F (i + 1)).length ((overT F (i + 1)).map Value.string)) := fun W hW => by
            have := own_set (own_congr hrw.out (fun g hg => hW.block g (own_lt hrw.out g hg).2 (by simp))) i (by omega) (mk (i : Int))
            rw [overT_set F i hlt] at this
            exact this
          have HCe : Hid (∀ W, Fr [] wr W → (∃ x, W.cell? ⟨gf, i, none⟩ = some x) ∧ W.frozen? ⟨gf, i, none⟩ = false) := fun W hW => by
            have h1 := own_congr (w' := W) hrw.out (fun g hg => hW.block g (own_lt hrw.out g hg).2 (by simp))
            obtain ⟨_, g, e, z1, z2, _⟩ := row_cell h1 (by omega)
            injection e with e
            injection e with e
            subst e
            exact ⟨⟨_, z1 i (by omega)⟩, z2 i⟩
          clear hrw HR0 HL HM HM1 HL2 HQ5 hol
          go_wp2_with (go_at_call 23; refine HMk.out.mono ?_; rintro e w8 ⟨rfl, f8⟩; obtain ⟨⟨x8, m8⟩, z8⟩ := HCe.out w8 f8; have HF8 := mkHid f8; have HN8 := mkHid (HNx.out w8 f8); clear f8)
          go_roundw
          case rel => exact ⟨i + 1, by omega, by go_num, HN8, mkHid ((hfr.out.trans HF8.out (by simp)).trans (Fr.setCell (S := [gf]) _ _ _ (by simp)) (fun b hb => Or.inl hb))⟩
          case measure => simp [intOf]; omega
        · have hie : i = F.length := by omega
          subst hie
          have hol := overT_len F F.length (Nat.le_refl _)
          have HOz := mkHid (overT_mk F)
          have hrw2 := hrw.out
          generalize overT F F.length = O at *
          have hOl : O.length = ls.length + 64 := by omega
          have HPv : Hid (Po w3.heap.size wr va vr cc) := HP6.out.keep hfr.out (by simp; exact HG.out.2)
          have HFv : Hid (Fr [] w wr) := HFw.out.trans hfr.out (by simp; exact HG.out.1)
          have hord := own_rd hrw2 (by omega)
          have HX2 := mkHid (texts_ok O _ wr hord)
          obtain ⟨gf2, e2, y1, y2, y3', y4', y5⟩ := own_front hrw2 (by omega) (k := ls.length) (by omega) (by omega)
          rw [hOl] at hord HX2
          have HOr := mkHid hord
          obtain ⟨z1, z2⟩ := loadE_range (O.take ls.length) m
          have HLd : Hid (∀ W, Fr [] wr W → _) := mkHid (fun W hW => Load_o (O.take ls.length) (.slice (some ⟨gf, 0, none⟩) ls.length c') m W ⟨y5.idle hW, fun s hs => by have := HOz.out s (List.mem_of_mem_take hs); omega⟩)
          have HRl : Hid (∀ W p c, RdS W (.slice p ls.length c) (O.take ls.length) → _) := mkHid (fun W p c hR => rLoad_o (O.take ls.length) (.slice p ls.length c) m W hR)
          have n2 := neq_self_i (loadE (O.take ls.length) m)
          generalize loadE (O.take ls.length) m = E2 at *
          have HFro : Hid (∀ W p c, Mine wr W p c O → ∃ g, p = some ⟨g, 0, none⟩ ∧ (ls.length : Int) + 64 ≤ (c : Int) ∧ c ≤ 9223372036854775807 ∧ RdS W (.slice p ls.length c) (O.take ls.length) ∧ RdS W (.slice p (ls.length + 64) c) O) := fun W p c hM => by
            obtain ⟨g, q1, q2, q3, q4, q5, q6⟩ := own_front hM.row (by omega) (k := ls.length) (by omega) (by omega)
            have q7 := own_rd hM.row (by omega)
            rw [hOl] at q7
            exact ⟨g, q1, by omega, q5, q6, q7⟩
          have b3 : (ls.length : Int) + 64 ≤ (c' : Int) := by omega
          clear hrw hrw2 hord e2 y1 y2 y3' y4' y5 hfr HR0 HP6 HFw HEE HL2
          go_wp2_with (first
            | (go_at_call 20; refine HX2.out.mono ?_; rintro e w10 ⟨p10, c10, rfl, h10⟩; obtain ⟨g10, rfl, b1, b2, r10, r11⟩ := HFro.out _ _ _ h10; have HR10 := mkHid r10; have HR11 := mkHid r11; have HF10 := mkHid h10.fr; clear h10 r10 r11)
            | (go_at_call 22; refine (HRl.out _ _ _ HR10.out).mono ?_; rintro e w11 ⟨vr2, rfl, h11⟩; have HS11 := mkHid h11; clear h11)
            | (go_at_call 21; refine (HLd.out _ (HF10.out.trans HS11.out.1 (by simp))).mono ?_; rintro e w12 ⟨va2, rfl, h12⟩; obtain ⟨c2, q1, q2, q3, q4, q5⟩ := po_load2 HS11.out h12; have HP12 := mkHid q1; have HT12 := mkHid q2; have HF12 := mkHid (HF10.out.trans q3 (by simp)); have HO12 := mkHid (HR11.out.idle q3); clear h12 q1 q2 q3 q5)
            | (go_at_call 12; refine (num_any _ _ (by omega) (by omega)).mono ?_; rintro e wx ⟨rfl, he⟩; have he2 := he.symm; subst he2; clear he)
            | (go_at_call 14; refine (po_all HP12.out).mono ?_; rintro e w13 ⟨p13, c13, rfl, r13, f13⟩; have HD13 := mkHid r13; have HP13 := mkHid (HP12.out.idle f13); have HF13 := mkHid f13; clear r13 f13)
            | (go_at_call 24; refine (po_rall HP13.out).mono ?_; rintro e w14 ⟨p14, c14, rfl, r14, f14⟩; have HD14 := mkHid r14; have HD13' := mkHid (HD13.out.idle f14); have HF14 := mkHid (HF13.out.trans f14 (by simp)); clear r14 f14)
            | (go_at_call 13; first
              | (refine (sameTexts_yes _ _ _ _ (HOr.out.idle ((HF12.out.trans HF14.out (by simp)).trans HF15.out (by simp))) (HO12.out.idle (HF14.out.trans HF15.out (by simp)))).mono ?_; rintro e w16 ⟨rfl, f16⟩; have HF16 := mkHid (((HF12.out.trans HF14.out (by simp)).trans HF15.out (by simp)).trans f16 (by simp)); clear f16)
              | (rw [HT12.out] at HD13'; rw [HT12.out]; refine (sameTexts_yes _ _ _ _ HD13'.out HD14.out).mono ?_; rintro e w15 ⟨rfl, f15⟩; have HF15 := mkHid f15; clear f15)))
          have HP16 : Hid (Po w3.heap.size w16 va vr cc ∧ Ev cc) := ⟨HPv.out.idle HF16.out, HQ5.out⟩
          have HW16 : Hid (Fr [] w w16) := HFv.out.trans HF16.out (by simp)
          clear HP12 HT12 HF12 HO12 HP13 HF13 HD13 HD14 HD13' HF14 HF15 HF16 HR10 HR11 HF10 HS11 HLd HRl HFro HX2 HOr HPv HFv HOz HQ5 HFrd HFt HG
          go_loopw [20] (fun q wq => ∃ (i : Nat) (c3 : Cont), i ≤ ms.length ∧ q = .int .i64 i ∧ Hid (Po w3.heap.size wq va vr c3 ∧ Ev c3) ∧ Hid (Fr [] w wq)) (fun q _ => ms.length - (intOf q).toNat)
          case atStart => exact ⟨0, cc, Nat.zero_le _, rfl, HP16, HW16⟩
          case round =>
            obtain ⟨i, c3, hi, rfl, hst, hfr⟩ := hrel
            have i1 : (0 : Int) ≤ (i : Int) := by omega
            clear HP16 HW16
            by_cases hlt : i < ms.length
            · have i2 : (i : Int) < (ms.length : Int) := by omega
              obtain ⟨g, off, rfl, x1, x2⟩ := HM1.out (by omega)
              have HK : Hid (∀ W, Fr [] w W → W.cell? ⟨g, off + i, none⟩ = some (.string (ms.getD i ⟨#[]⟩))) := fun W hW => (hW.cell (p := ⟨g, off + i, none⟩) x1 (by simp)).trans (x2 i hlt)
              have k1 := HK.out _ hfr.out
              have hsz := HM.out.get hlt
              generalize ms.getD i ⟨#[]⟩ = x at *
              have HC1 := mkHid (po_add hst.out.1 x hsz)
              have HC2 : Hid (∀ W, Po w3.heap.size W va vr (c3.map fun y => (y.1, addT y.1 y.2.1 x, y.2.2)) → Calls Try.prog 25 #[.pointer vr, .string x] W fun e w' => e = .returned (.tuple #[.int .i64 (cN c3 x), .int .i64 (cE c3 x)]) ∧ Po w3.heap.size w' va vr ((c3.map fun y => (y.1, addT y.1 y.2.1 x, y.2.2)).map fun y => (y.1, y.2.1, addT y.1 y.2.2 x)) ∧ Below w3.heap.size W w') := fun W hW => by
                have := po_radd hW x
                rwa [hst.out.2.n, hst.out.2.e] at this
              have HEv := mkHid (hst.out.2.both x)
              obtain ⟨r1, r2⟩ := cE_range c3 x
              have n3 := neq_self_i (cN c3 x)
              have n4 := neq_self_i (cE c3 x)
              generalize cN c3 x = N at *
              generalize cE c3 x = E3 at *
              clear x1 x2 hst HM HM1
              go_wp2_with (first
                | (go_at_call 25; refine (HC2.out _ HP20.out).mono ?_; rintro e w21 ⟨rfl, h21, b21⟩; have HP21 := mkHid h21; have HF21 := mkHid (HF20.out.onBelow b21 HB3.out); clear h21 b21)
                | (go_at_call 10; refine HC1.out.mono ?_; rintro e w20 ⟨rfl, h20, b20⟩; have HP20 := mkHid h20; have HF20 := mkHid (hfr.out.onBelow b20 HB3.out); have k2 := HK.out _ HF20.out; clear h20 b20)
                | (go_at_call 12; refine (num_any _ _ (by omega) (by omega)).mono ?_; rintro e wx ⟨rfl, he⟩; have he2 := he.symm; subst he2; clear he))
              go_roundw
              case rel => exact ⟨i + 1, _, by omega, by go_num, mkHid ⟨HP21.out, HEv.out⟩, HF21⟩
              case measure => simp [intOf]; omega
            · have hie : i = ms.length := by omega
              subst hie
              have HTs := mkHid hst.out.2.ts
              have HC1 := mkHid (po_all hst.out.1)
              have HC2 : Hid (∀ W, Po w3.heap.size W va vr c3 → _) := mkHid (fun W hW => po_rall hW)
              have HC3 : Hid (∀ W, Po w3.heap.size W va vr c3 → _) := mkHid (fun W hW => po_count hW)
              have HC4 : Hid (∀ W, Po w3.heap.size W va vr c3 → _) := mkHid (fun W hW => po_rcount hW)
              rw [HTs.out] at HC2 HC4
              have b5 := beq_self_i ((cTs c3).length : Int)
              generalize cTs c3 = T at *
              clear HM HM1 HTs
              go_wp2_with (first
                | (go_at_call 24; refine (HC2.out _ HP20.out).mono ?_; rintro e w21 ⟨p21, c21, rfl, r21, f21⟩; have HD21 := mkHid r21; have HD20' := mkHid (HD20.out.idle f21); have HP21 := mkHid (HP20.out.idle f21); have HF21 := mkHid (HF20.out.trans f21 (by simp)); clear r21 f21)
                | (go_at_call 14; refine HC1.out.mono ?_; rintro e w20 ⟨p20, c20, rfl, r20, f20⟩; have HD20 := mkHid r20; have HP20 := mkHid (hst.out.1.idle f20); have HF20 := mkHid (hfr.out.trans f20 (by simp)); clear r20 f20)
                | (go_at_call 13; refine (sameTexts_yes _ _ _ _ HD20'.out HD21.out).mono ?_; rintro e w22 ⟨rfl, f22⟩; have HP22 := mkHid (HP21.out.idle f22); have HF22 := mkHid (HF21.out.trans f22 (by simp)); clear f22)
                | (go_at_call 9; refine (HC3.out _ HP22.out).mono ?_; rintro e wx ⟨rfl, he⟩; have he2 := he.symm; subst he2; clear he)
                | (go_at_call 26; refine (HC4.out _ HP22.out).mono ?_; rintro e wx ⟨rfl, he⟩; have he2 := he.symm; subst he2; clear he))
              go_ret
              exact ⟨rfl, HF22.out⟩
end Go.Proofs.Ytjeeibokdnepgaa
