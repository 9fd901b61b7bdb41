import Derived.Test.YtjeeibokdnepgaaSPlay
namespace Go.Proofs.Ytjeeibokdnepgaa
open Go.RowKit Go.Maps Go.WideMaps
set_option linter.unusedVariables false
set_option linter.unusedSimpArgs false
set_option maxRecDepth 20000 in
set_option maxHeartbeats 2000000 in
theorem idle_ok (v : Option Addr) (w : World) (h : NoT w v) : Calls Try.prog 38 #[.pointer v] w fun e w' => e = .returned (.bool true) ∧ w' = w := by
  have H1 := mkHid (fun s => Add_nil v s w h)
  have H2 := mkHid (fun s => Find_nil v s w h)
  have H3 := mkHid (fun n => Text_nil v n w h)
  have H4 := mkHid (Count_nil v w h)
  have H5 := mkHid (All_nil v w h)
  have H6 := mkHid (fun n => Back_nil v n w h)
  clear h
  go_enter Try.func38, Try.ntmps38
  go_wp2_with (first
    | (go_at_call 10; refine (H1.out _).mono ?_; rintro e w1 ⟨rfl, rfl⟩)
    | (go_at_call 15; refine (H2.out _).mono ?_; rintro e w1 ⟨rfl, rfl⟩)
    | (go_at_call 19; refine (H3.out _).mono ?_; rintro e w1 ⟨rfl, rfl⟩)
    | (go_at_call 9; refine H4.out.mono ?_; rintro e w1 ⟨rfl, rfl⟩)
    | (go_at_call 14; refine H5.out.mono ?_; rintro e w1 ⟨rfl, rfl⟩)
    | (go_at_call 11; refine (H6.out _).mono ?_; rintro e w1 ⟨rfl, rfl⟩)
    | (go_at_call 12; refine (num_any _ _ (by omega) (by omega)).mono ?_; rintro e w1 ⟨rfl, rfl⟩))
  go_ret
  exact ⟨rfl, rfl⟩
/-- four tables made, two for each place -/
def two (o0 o1 : Option TS) : Bool → Option TS := fun j => if j then o1 else o0
theorem mk_shelf {w0 w W W' : World} {sh : Nat} {o0 o1 : Option TS} (hb : w0.heap.size ≤ sh) (hsh : sh < w.heap.size) (f0 : Fr [] w0 w) (f1 : Fr [] w W) (k0 : ∀ t, o0 = some t → TOk W t) (k1 : ∀ t, o1 = some t → TOk W t) (g0 : ∀ g ∈ ofoot o0, w.heap.size ≤ g) (g1 : ∀ g ∈ ofoot o1, w.heap.size ≤ g) (ap : ∀ g ∈ ofoot o0, g ∉ ofoot o1)
    (f2 : Fr [sh] W W') (top : W'.heap[sh]? = some (.cells #[.pointer (vOwn o0), .pointer (vOwn o1), .pointer (vRef o0), .pointer (vRef o1)] 57 (0, 0))) :
    ∃ v c, Sh w0 W' sh v c (fun _ _ => False) ∧ (∀ j, v j = (vOwn (two o0 o1 j), vRef (two o0 o1 j))) ∧ (∀ j, c j = cont (two o0 o1 j)) := by
  refine ⟨fun j => (vOwn (two o0 o1 j), vRef (two o0 o1 j)), fun j => cont (two o0 o1 j), ⟨two o0 o1, ⟨top, fun j t ht => ?_, fun j g hg hn => ?_, fun j hj => ?_, ⟨hb, fun j g hg => ?_⟩, (f0.trans f1 (by simp)).trans f2 (fun g hg => by simp at hg; subst hg; exact Or.inr hb), fun g ob hx => hx.elim⟩, fun j => rfl, fun j => rfl⟩, fun j => rfl, fun j => rfl⟩
  · cases j
    · refine (k0 t ht).keep f2 (fun g hg hm => ?_)
      simp at hm; subst hm
      have h2 : o0 = some t := ht
      have := g0 g (by rw [h2]; exact hg)
      omega
    · refine (k1 t ht).keep f2 (fun g hg hm => ?_)
      simp at hm; subst hm
      have h2 : o1 = some t := ht
      have := g1 g (by rw [h2]; exact hg)
      omega
  · cases j
    · exact ap g hg hn
    · exact ap g hn hg
  · cases j
    · have := g0 sh hj; omega
    · have := g1 sh hj; omega
  · have := f0.size
    cases j
    · have := g0 g hg; omega
    · have := g1 g hg; omega
theorem store4 {w : World} {a : Nat} {y0 y1 y2 y3 : Value} {t : TypeId} (h : w.heap[a]? = some (.cells #[y0, y1, y2, y3] t (0, 0))) (x0 x1 x2 x3 : Value) :
    ((((w.setCell ⟨a, 0, none⟩ x0).setCell ⟨a, 1, none⟩ x1).setCell ⟨a, 2, none⟩ x2).setCell ⟨a, 3, none⟩ x3).heap[a]? = some (.cells #[x0, x1, x2, x3] t (0, 0)) := by
  rw [set_in (set_in (set_in (set_in h 0 x0) 1 x1) 2 x2) 3 x3]
  rfl
theorem fr4 {w : World} {a : Nat} (x0 x1 x2 x3 : Value) : Fr [a] w ((((w.setCell ⟨a, 0, none⟩ x0).setCell ⟨a, 1, none⟩ x1).setCell ⟨a, 2, none⟩ x2).setCell ⟨a, 3, none⟩ x3) :=
  (((Fr.setCell (S := [a]) _ _ _ (by simp)).trans (Fr.setCell (S := [a]) _ _ _ (by simp)) (fun b hb => Or.inl hb)).trans (Fr.setCell (S := [a]) _ _ _ (by simp)) (fun b hb => Or.inl hb)).trans (Fr.setCell (S := [a]) _ _ _ (by simp)) (fun b hb => Or.inl hb)
theorem ts_new {W W1 W2 : World} {a : Nat} {l : Lay} {r most : Nat} (t1 : TRep W1 a l most []) (f1 : Fr [] W1 W2) (t2 : RT W2 r none 0 most []) (g2 : W1.heap.size ≤ r) (f2 : Fr [] W2 W) : TOk W ⟨a, l, r, none, 0, most, [], []⟩ :=
  ⟨(t1.idle f1).idle f2, t2.idle f2, fun g hg hm => by
    have := t1.lt g hg
    simp [foot2, blk] at hm
    omega⟩
theorem even_two {o0 o1 : Option TS} {c : Bool → Cont} (h0 : ∀ t, o0 = some t → t.ts = t.us) (h1 : ∀ t, o1 = some t → t.ts = t.us) (hc : ∀ j, c j = cont (two o0 o1 j)) : Even c := by
  intro j x hx
  rw [hc j] at hx
  cases j
  · cases ho : o0 with
    | none => simp [two, ho, cont] at hx
    | some t => simp [two, ho, cont] at hx; subst hx; exact h0 t ho
  · cases ho : o1 with
    | none => simp [two, ho, cont] at hx
    | some t => simp [two, ho, cont] at hx; subst hx; exact h1 t ho
abbrev zob : Obj := .cells #[.pointer none, .int .i64 0, .slice none 0 0, .map none] 70
theorem sh_cells {W : World} {sh : Nat} (h : W.heap[sh]? = some (.cells #[.pointer none, .pointer none, .pointer none, .pointer none] 57 (0, 0))) :
    (W.cell? ⟨sh, 0, none⟩ = some (.pointer none) ∧ W.cell? ⟨sh, 1, none⟩ = some (.pointer none) ∧ W.cell? ⟨sh, 2, none⟩ = some (.pointer none) ∧ W.cell? ⟨sh, 3, none⟩ = some (.pointer none)) ∧ (∀ i, W.frozen? ⟨sh, i, none⟩ = false) :=
  ⟨⟨by rw [cell_in h]; rfl, by rw [cell_in h]; rfl, by rw [cell_in h]; rfl, by rw [cell_in h]; rfl⟩, fun i => frozen_in h i⟩
set_option maxRecDepth 20000 in
set_option maxHeartbeats 4000000 in
theorem begins_gg (m : Nat) (n : Nat) (w0 w : World) (sh : Nat) (hsh : w.heap[sh]? = some (.cells #[.pointer none, .pointer none, .pointer none, .pointer none] 57 (0, 0))) (hb : w0.heap.size ≤ sh) (f0 : Fr [] w0 w) (hm : m ≤ 4096) (hn : n ≤ 4096) :
    Calls Try.prog 27 #[.pointer (some ⟨sh, 0, none⟩), .int .i64 (m : Int), .int .i64 (n : Int)] w fun e w' => e = .returned (.bool true) ∧ ∃ v c, Sh w0 w' sh v c (fun _ _ => False) ∧ Even c := by
  have hsl := lt_of_heap hsh
  have HSh : Hid (∀ W, Fr [] w W → W.heap[sh]? = some (.cells #[.pointer none, .pointer none, .pointer none, .pointer none] 57 (0, 0))) := fun W hW => (hW.block sh hsl (by simp)).trans hsh
  have HF0 := mkHid f0
  have HN2 : Hid (∀ W : World, NoT (W.alloc zob) (some ⟨W.heap.size, 0, none⟩)) := fun W => Or.inr ⟨_, rfl, by rw [cell_in (heap_alloc_new W _)]; rfl⟩
  have HM1 : Hid (∀ W, _) := mkHid (fun W => New_in m W hm)
  have HM2 : Hid (∀ W, _) := mkHid (fun W => rNew_in m W hm)
  have HM3 : Hid (∀ W, _) := mkHid (fun W => New_in n W hn)
  have HM4 : Hid (∀ W, _) := mkHid (fun W => rNew_in n W hn)
  clear hm hn hsh f0
  go_enter Try.func27, Try.ntmps27
  go_wp2_with (first
    | (go_at_call 16; first | (have hh := K1; refine (HM3.out _).mono ?_; rintro e w3 ⟨a3, l3, rfl, t3, f3, g3⟩; have HT3 := mkHid t3; have HF3 := mkHid f3; have HG3 := mkHid g3; have HW3 := mkHid ((HW2.out).trans f3 (by simp)); clear t3 f3 g3; have K3 := trivial) | (refine (HM1.out _).mono ?_; rintro e w1 ⟨a1, l1, rfl, t1, f1, g1⟩; have HT1 := mkHid t1; have HF1 := mkHid f1; have HG1 := mkHid g1; have HW1 := mkHid (((Fr.refl [] w)).trans f1 (by simp)); clear t1 f1 g1; have K1 := trivial))
    | (go_at_call 35; first | (have hh := K3; refine (HM4.out _).mono ?_; rintro e w4 ⟨r4, rfl, t4, f4, g4⟩; have HT4 := mkHid t4; have HF4 := mkHid f4; have HG4 := mkHid g4; have HW4 := mkHid ((HW3.out).trans f4 (by simp)); clear t4 f4 g4; have K4 := trivial) | (refine (HM2.out _).mono ?_; rintro e w2 ⟨r2, rfl, t2, f2, g2⟩; have HT2 := mkHid t2; have HF2 := mkHid f2; have HG2 := mkHid g2; have HW2 := mkHid ((HW1.out).trans f2 (by simp)); clear t2 f2 g2; have K2 := trivial))
    | (go_at_call 38; first | (have hh := K5; refine (idle_ok _ _ (HN2.out _)).mono ?_; rintro e wx ⟨rfl, he⟩; subst he; have HWA := mkHid ((HW4.out).trans (Fr.alloc [] w4 zob) (by simp)); have K6 := trivial; obtain ⟨⟨c0, c1, c2, c3⟩, z⟩ := sh_cells (HSh.out _ HWA.out); have z0 := z 0; have z1 := z 1; have z2 := z 2; have z3 := z 3; clear z) | (refine (idle_ok none _ (Or.inl rfl)).mono ?_; rintro e wx ⟨rfl, he⟩; have he2 := he.symm; subst he2; clear he; have K5 := trivial))
    | (go_at_call 12; refine (num_any _ _ (by omega) (by omega)).mono ?_; rintro e wx ⟨rfl, he⟩; have he2 := he.symm; subst he2; clear he))
  go_ret
  obtain ⟨v, c, q1, q2, q3⟩ := mk_shelf (o0 := (some ⟨a1, l1, r2, none, 0, m, [], []⟩)) (o1 := (some ⟨a3, l3, r4, none, 0, n, [], []⟩)) hb hsl HF0.out HWA.out (fun t ht => by injection ht with ht; subst ht; exact ts_new HT1.out HF2.out HT2.out HG2.out ((HF3.out.trans HF4.out (by simp)).trans (Fr.alloc [] w4 zob) (by simp))) (fun t ht => by injection ht with ht; subst ht; exact ts_new HT3.out HF4.out HT4.out HG4.out (Fr.alloc [] w4 zob)) (fun g hg => by rcases List.mem_append.1 hg with h | h; (· exact HG1.out g h); (· simp [foot2, blk] at h; rw [h]; exact Nat.le_trans HF1.out.size HG2.out)) (fun g hg => by rcases List.mem_append.1 hg with h | h; (· exact Nat.le_trans HW2.out.size (HG3.out g h)); (· simp [foot2, blk] at h; rw [h]; exact Nat.le_trans HW3.out.size HG4.out)) (fun g hg hn => by
      have q1 : g < w2.heap.size := (ts_new HT1.out HF2.out HT2.out HG2.out (Fr.refl [] w2)).lt g hg
      have q2 : w2.heap.size ≤ g := by
        rcases List.mem_append.1 hn with h | h
        · exact HG3.out g h
        · simp [foot2, blk] at h; rw [h]; exact Nat.le_trans HF3.out.size HG4.out
      omega)
    (fr4 (.pointer (some ⟨a1, 0, none⟩)) (.pointer (some ⟨a3, 0, none⟩)) (.pointer (some ⟨r2, 0, none⟩)) (.pointer (some ⟨r4, 0, none⟩))) (store4 (HSh.out _ HWA.out) _ _ _ _)
  exact ⟨rfl, v, c, q1, even_two (fun t ht => by injection ht with ht; subst ht; rfl) (fun t ht => by injection ht with ht; subst ht; rfl) q3⟩
set_option maxRecDepth 20000 in
set_option maxHeartbeats 4000000 in
theorem begins_gb (m : Nat) (n : Int) (w0 w : World) (sh : Nat) (hsh : w.heap[sh]? = some (.cells #[.pointer none, .pointer none, .pointer none, .pointer none] 57 (0, 0))) (hb : w0.heap.size ≤ sh) (f0 : Fr [] w0 w) (hm : m ≤ 4096) (hn : n < 0 ∨ 4096 < n) :
    Calls Try.prog 27 #[.pointer (some ⟨sh, 0, none⟩), .int .i64 (m : Int), .int .i64 n] w fun e w' => e = .returned (.bool true) ∧ ∃ v c, Sh w0 w' sh v c (fun _ _ => False) ∧ Even c := by
  have hsl := lt_of_heap hsh
  have HSh : Hid (∀ W, Fr [] w W → W.heap[sh]? = some (.cells #[.pointer none, .pointer none, .pointer none, .pointer none] 57 (0, 0))) := fun W hW => (hW.block sh hsl (by simp)).trans hsh
  have HF0 := mkHid f0
  have HN2 : Hid (∀ W : World, NoT (W.alloc zob) (some ⟨W.heap.size, 0, none⟩)) := fun W => Or.inr ⟨_, rfl, by rw [cell_in (heap_alloc_new W _)]; rfl⟩
  have HM1 : Hid (∀ W, _) := mkHid (fun W => New_in m W hm)
  have HM2 : Hid (∀ W, _) := mkHid (fun W => rNew_in m W hm)
  have HM3 : Hid (∀ W, _) := mkHid (fun W => New_no n W hn)
  have HM4 : Hid (∀ W, _) := mkHid (fun W => rNew_no n W hn)
  clear hm hn hsh f0
  go_enter Try.func27, Try.ntmps27
  go_wp2_with (first
    | (go_at_call 16; first | (have hh := K1; refine (HM3.out _).mono ?_; rintro e wx ⟨rfl, he⟩; have he2 := he.symm; subst he2; clear he; have K3 := trivial) | (refine (HM1.out _).mono ?_; rintro e w1 ⟨a1, l1, rfl, t1, f1, g1⟩; have HT1 := mkHid t1; have HF1 := mkHid f1; have HG1 := mkHid g1; have HW1 := mkHid (((Fr.refl [] w)).trans f1 (by simp)); clear t1 f1 g1; have K1 := trivial))
    | (go_at_call 35; first | (have hh := K3; refine (HM4.out _).mono ?_; rintro e wx ⟨rfl, he⟩; have he2 := he.symm; subst he2; clear he; have K4 := trivial) | (refine (HM2.out _).mono ?_; rintro e w2 ⟨r2, rfl, t2, f2, g2⟩; have HT2 := mkHid t2; have HF2 := mkHid f2; have HG2 := mkHid g2; have HW2 := mkHid ((HW1.out).trans f2 (by simp)); clear t2 f2 g2; have K2 := trivial))
    | (go_at_call 38; first | (have hh := K5; refine (idle_ok _ _ (HN2.out _)).mono ?_; rintro e wx ⟨rfl, he⟩; subst he; have HWA := mkHid ((HW2.out).trans (Fr.alloc [] w2 zob) (by simp)); have K6 := trivial; obtain ⟨⟨c0, c1, c2, c3⟩, z⟩ := sh_cells (HSh.out _ HWA.out); have z0 := z 0; have z1 := z 1; have z2 := z 2; have z3 := z 3; clear z) | (refine (idle_ok none _ (Or.inl rfl)).mono ?_; rintro e wx ⟨rfl, he⟩; have he2 := he.symm; subst he2; clear he; have K5 := trivial))
    | (go_at_call 12; refine (num_any _ _ (by omega) (by omega)).mono ?_; rintro e wx ⟨rfl, he⟩; have he2 := he.symm; subst he2; clear he))
  go_ret
  obtain ⟨v, c, q1, q2, q3⟩ := mk_shelf (o0 := (some ⟨a1, l1, r2, none, 0, m, [], []⟩)) (o1 := none) hb hsl HF0.out HWA.out (fun t ht => by injection ht with ht; subst ht; exact ts_new HT1.out HF2.out HT2.out HG2.out ((Fr.alloc [] w2 zob))) (fun t ht => by cases ht) (fun g hg => by rcases List.mem_append.1 hg with h | h; (· exact HG1.out g h); (· simp [foot2, blk] at h; rw [h]; exact Nat.le_trans HF1.out.size HG2.out)) (fun g hg => by cases hg) (fun g hg hn => by cases hn)
    (fr4 (.pointer (some ⟨a1, 0, none⟩)) (.pointer none) (.pointer (some ⟨r2, 0, none⟩)) (.pointer none)) (store4 (HSh.out _ HWA.out) _ _ _ _)
  exact ⟨rfl, v, c, q1, even_two (fun t ht => by injection ht with ht; subst ht; rfl) (fun t ht => by cases ht) q3⟩
set_option maxRecDepth 20000 in
set_option maxHeartbeats 4000000 in
theorem begins_bg (m : Int) (n : Nat) (w0 w : World) (sh : Nat) (hsh : w.heap[sh]? = some (.cells #[.pointer none, .pointer none, .pointer none, .pointer none] 57 (0, 0))) (hb : w0.heap.size ≤ sh) (f0 : Fr [] w0 w) (hm : m < 0 ∨ 4096 < m) (hn : n ≤ 4096) :
    Calls Try.prog 27 #[.pointer (some ⟨sh, 0, none⟩), .int .i64 m, .int .i64 (n : Int)] w fun e w' => e = .returned (.bool true) ∧ ∃ v c, Sh w0 w' sh v c (fun _ _ => False) ∧ Even c := by
  have hsl := lt_of_heap hsh
  have HSh : Hid (∀ W, Fr [] w W → W.heap[sh]? = some (.cells #[.pointer none, .pointer none, .pointer none, .pointer none] 57 (0, 0))) := fun W hW => (hW.block sh hsl (by simp)).trans hsh
  have HF0 := mkHid f0
  have HN2 : Hid (∀ W : World, NoT (W.alloc zob) (some ⟨W.heap.size, 0, none⟩)) := fun W => Or.inr ⟨_, rfl, by rw [cell_in (heap_alloc_new W _)]; rfl⟩
  have HM1 : Hid (∀ W, _) := mkHid (fun W => New_no m W hm)
  have HM2 : Hid (∀ W, _) := mkHid (fun W => rNew_no m W hm)
  have HM3 : Hid (∀ W, _) := mkHid (fun W => New_in n W hn)
  have HM4 : Hid (∀ W, _) := mkHid (fun W => rNew_in n W hn)
  clear hm hn hsh f0
  have HM7 : Hid (∀ W, _) := mkHid (fun W => New_in 5 W (by decide))
  have HM8 : Hid (∀ W, _) := mkHid (fun W => rNew_in 5 W (by decide))
  go_enter Try.func27, Try.ntmps27
  go_wp2_with (first
    | (go_at_call 16; first | (have hh := K6; refine (HM7.out _).mono ?_; rintro e w7 ⟨a7, l7, rfl, t7, f7, g7⟩; have HT7 := mkHid t7; have HF7 := mkHid f7; have HG7 := mkHid g7; have HW7 := mkHid ((HWA.out).trans f7 (by simp)); clear t7 f7 g7; have K7 := trivial) | (have hh := K1; refine (HM3.out _).mono ?_; rintro e w3 ⟨a3, l3, rfl, t3, f3, g3⟩; have HT3 := mkHid t3; have HF3 := mkHid f3; have HG3 := mkHid g3; have HW3 := mkHid (((Fr.refl [] w)).trans f3 (by simp)); clear t3 f3 g3; have K3 := trivial) | (refine (HM1.out _).mono ?_; rintro e wx ⟨rfl, he⟩; have he2 := he.symm; subst he2; clear he; have K1 := trivial))
    | (go_at_call 35; first | (have hh := K7; refine (HM8.out _).mono ?_; rintro e w8 ⟨r8, rfl, t8, f8, g8⟩; have HT8 := mkHid t8; have HF8 := mkHid f8; have HG8 := mkHid g8; have HW8 := mkHid ((HW7.out).trans f8 (by simp)); clear t8 f8 g8; have K8 := trivial; obtain ⟨⟨c0, c1, c2, c3⟩, z⟩ := sh_cells (HSh.out _ HW8.out); have z0 := z 0; have z1 := z 1; have z2 := z 2; have z3 := z 3; clear z) | (have hh := K3; refine (HM4.out _).mono ?_; rintro e w4 ⟨r4, rfl, t4, f4, g4⟩; have HT4 := mkHid t4; have HF4 := mkHid f4; have HG4 := mkHid g4; have HW4 := mkHid ((HW3.out).trans f4 (by simp)); clear t4 f4 g4; have K4 := trivial) | (refine (HM2.out _).mono ?_; rintro e wx ⟨rfl, he⟩; have he2 := he.symm; subst he2; clear he; have K2 := trivial))
    | (go_at_call 38; first | (have hh := K5; refine (idle_ok _ _ (HN2.out _)).mono ?_; rintro e wx ⟨rfl, he⟩; subst he; have HWA := mkHid ((HW4.out).trans (Fr.alloc [] w4 zob) (by simp)); have K6 := trivial) | (refine (idle_ok none _ (Or.inl rfl)).mono ?_; rintro e wx ⟨rfl, he⟩; have he2 := he.symm; subst he2; clear he; have K5 := trivial))
    | (go_at_call 12; refine (num_any _ _ (by omega) (by omega)).mono ?_; rintro e wx ⟨rfl, he⟩; have he2 := he.symm; subst he2; clear he))
  go_ret
  obtain ⟨v, c, q1, q2, q3⟩ := mk_shelf (o0 := (some ⟨a7, l7, r8, none, 0, 5, [], []⟩)) (o1 := (some ⟨a3, l3, r4, none, 0, n, [], []⟩)) hb hsl HF0.out HW8.out (fun t ht => by injection ht with ht; subst ht; exact ts_new HT7.out HF8.out HT8.out HG8.out (Fr.refl _ _)) (fun t ht => by injection ht with ht; subst ht; exact ts_new HT3.out HF4.out HT4.out HG4.out (((Fr.alloc [] w4 zob).trans HF7.out (by simp)).trans HF8.out (by simp))) (fun g hg => by rcases List.mem_append.1 hg with h | h; (· exact Nat.le_trans HWA.out.size (HG7.out g h)); (· simp [foot2, blk] at h; rw [h]; exact Nat.le_trans HW7.out.size HG8.out)) (fun g hg => by rcases List.mem_append.1 hg with h | h; (· exact Nat.le_trans (Nat.le_refl _) (HG3.out g h)); (· simp [foot2, blk] at h; rw [h]; exact Nat.le_trans HW3.out.size HG4.out)) (fun g hg hn => by
      have q1 : g < w4.heap.size := (ts_new HT3.out HF4.out HT4.out HG4.out (Fr.refl [] w4)).lt g hn
      have q3 : w4.heap.size ≤ (w4.alloc zob).heap.size := (Fr.alloc [] w4 zob).size
      have q2 : (w4.alloc zob).heap.size ≤ g := by
        rcases List.mem_append.1 hg with h | h
        · exact HG7.out g h
        · simp [foot2, blk] at h; rw [h]; exact Nat.le_trans HF7.out.size HG8.out
      omega)
    (fr4 (.pointer (some ⟨a7, 0, none⟩)) (.pointer (some ⟨a3, 0, none⟩)) (.pointer (some ⟨r8, 0, none⟩)) (.pointer (some ⟨r4, 0, none⟩))) (store4 (HSh.out _ HW8.out) _ _ _ _)
  exact ⟨rfl, v, c, q1, even_two (fun t ht => by injection ht with ht; subst ht; rfl) (fun t ht => by injection ht with ht; subst ht; rfl) q3⟩
set_option maxRecDepth 20000 in
set_option maxHeartbeats 4000000 in
theorem begins_bb (m : Int) (n : Int) (w0 w : World) (sh : Nat) (hsh : w.heap[sh]? = some (.cells #[.pointer none, .pointer none, .pointer none, .pointer none] 57 (0, 0))) (hb : w0.heap.size ≤ sh) (f0 : Fr [] w0 w) (hm : m < 0 ∨ 4096 < m) (hn : n < 0 ∨ 4096 < n) :
    Calls Try.prog 27 #[.pointer (some ⟨sh, 0, none⟩), .int .i64 m, .int .i64 n] w fun e w' => e = .returned (.bool true) ∧ ∃ v c, Sh w0 w' sh v c (fun _ _ => False) ∧ Even c := by
  have hsl := lt_of_heap hsh
  have HSh : Hid (∀ W, Fr [] w W → W.heap[sh]? = some (.cells #[.pointer none, .pointer none, .pointer none, .pointer none] 57 (0, 0))) := fun W hW => (hW.block sh hsl (by simp)).trans hsh
  have HF0 := mkHid f0
  have HN2 : Hid (∀ W : World, NoT (W.alloc zob) (some ⟨W.heap.size, 0, none⟩)) := fun W => Or.inr ⟨_, rfl, by rw [cell_in (heap_alloc_new W _)]; rfl⟩
  have HM1 : Hid (∀ W, _) := mkHid (fun W => New_no m W hm)
  have HM2 : Hid (∀ W, _) := mkHid (fun W => rNew_no m W hm)
  have HM3 : Hid (∀ W, _) := mkHid (fun W => New_no n W hn)
  have HM4 : Hid (∀ W, _) := mkHid (fun W => rNew_no n W hn)
  clear hm hn hsh f0
  have HM7 : Hid (∀ W, _) := mkHid (fun W => New_in 5 W (by decide))
  have HM8 : Hid (∀ W, _) := mkHid (fun W => rNew_in 5 W (by decide))
  go_enter Try.func27, Try.ntmps27
  go_wp2_with (first
    | (go_at_call 16; first | (have hh := K6; refine (HM7.out _).mono ?_; rintro e w7 ⟨a7, l7, rfl, t7, f7, g7⟩; have HT7 := mkHid t7; have HF7 := mkHid f7; have HG7 := mkHid g7; have HW7 := mkHid ((HWA.out).trans f7 (by simp)); clear t7 f7 g7; have K7 := trivial) | (have hh := K1; refine (HM3.out _).mono ?_; rintro e wx ⟨rfl, he⟩; have he2 := he.symm; subst he2; clear he; have K3 := trivial) | (refine (HM1.out _).mono ?_; rintro e wx ⟨rfl, he⟩; have he2 := he.symm; subst he2; clear he; have K1 := trivial))
    | (go_at_call 35; first | (have hh := K7; refine (HM8.out _).mono ?_; rintro e w8 ⟨r8, rfl, t8, f8, g8⟩; have HT8 := mkHid t8; have HF8 := mkHid f8; have HG8 := mkHid g8; have HW8 := mkHid ((HW7.out).trans f8 (by simp)); clear t8 f8 g8; have K8 := trivial; obtain ⟨⟨c0, c1, c2, c3⟩, z⟩ := sh_cells (HSh.out _ HW8.out); have z0 := z 0; have z1 := z 1; have z2 := z 2; have z3 := z 3; clear z) | (have hh := K3; refine (HM4.out _).mono ?_; rintro e wx ⟨rfl, he⟩; have he2 := he.symm; subst he2; clear he; have K4 := trivial) | (refine (HM2.out _).mono ?_; rintro e wx ⟨rfl, he⟩; have he2 := he.symm; subst he2; clear he; have K2 := trivial))
    | (go_at_call 38; first | (have hh := K5; refine (idle_ok _ _ (HN2.out _)).mono ?_; rintro e wx ⟨rfl, he⟩; subst he; have HWA := mkHid (((Fr.refl [] w)).trans (Fr.alloc [] w zob) (by simp)); have K6 := trivial) | (refine (idle_ok none _ (Or.inl rfl)).mono ?_; rintro e wx ⟨rfl, he⟩; have he2 := he.symm; subst he2; clear he; have K5 := trivial))
    | (go_at_call 12; refine (num_any _ _ (by omega) (by omega)).mono ?_; rintro e wx ⟨rfl, he⟩; have he2 := he.symm; subst he2; clear he))
  go_ret
  obtain ⟨v, c, q1, q2, q3⟩ := mk_shelf (o0 := (some ⟨a7, l7, r8, none, 0, 5, [], []⟩)) (o1 := none) hb hsl HF0.out HW8.out (fun t ht => by injection ht with ht; subst ht; exact ts_new HT7.out HF8.out HT8.out HG8.out (Fr.refl _ _)) (fun t ht => by cases ht) (fun g hg => by rcases List.mem_append.1 hg with h | h; (· exact Nat.le_trans HWA.out.size (HG7.out g h)); (· simp [foot2, blk] at h; rw [h]; exact Nat.le_trans HW7.out.size HG8.out)) (fun g hg => by cases hg) (fun g hg hn => by cases hn)
    (fr4 (.pointer (some ⟨a7, 0, none⟩)) (.pointer none) (.pointer (some ⟨r8, 0, none⟩)) (.pointer none)) (store4 (HSh.out _ HW8.out) _ _ _ _)
  exact ⟨rfl, v, c, q1, even_two (fun t ht => by injection ht with ht; subst ht; rfl) (fun t ht => by cases ht) q3⟩
theorem begins_ok (m n : Int) (w0 w : World) (sh : Nat) (hsh : w.heap[sh]? = some (.cells #[.pointer none, .pointer none, .pointer none, .pointer none] 57 (0, 0))) (hb : w0.heap.size ≤ sh) (f0 : Fr [] w0 w) :
    Calls Try.prog 27 #[.pointer (some ⟨sh, 0, none⟩), .int .i64 m, .int .i64 n] w fun e w' => e = .returned (.bool true) ∧ ∃ v c, Sh w0 w' sh v c (fun _ _ => False) ∧ Even c := by
  by_cases hm : m < 0 ∨ 4096 < m
  · by_cases hn : n < 0 ∨ 4096 < n
    · exact begins_bb m n w0 w sh hsh hb f0 hm hn
    · obtain ⟨k, rfl⟩ : ∃ k : Nat, n = (k : Int) := ⟨n.toNat, by omega⟩
      exact begins_bg m k w0 w sh hsh hb f0 hm (by omega)
  · obtain ⟨i, rfl⟩ : ∃ i : Nat, m = (i : Int) := ⟨m.toNat, by omega⟩
    by_cases hn : n < 0 ∨ 4096 < n
    · exact begins_gb i n w0 w sh hsh hb f0 (by omega) hn
    · obtain ⟨k, rfl⟩ : ∃ k : Nat, n = (k : Int) := ⟨n.toNat, by omega⟩
      exact begins_gg i k w0 w sh hsh hb f0 (by omega) (by omega)
end Go.Proofs.Ytjeeibokdnepgaa
