import Derived.Test.YtklfnjlenbgmoaaDoorPG35KGw3
set_option linter.unusedSimpArgs false
set_option linter.unusedVariables false
namespace Go.Proofs.YtklfnjlenbgmoaaDoor
open Go.RowKit Go.Maps
attribute [local go_sem ↓] Go.wp_at_zero Go.wp_at_succ
structure Gd (w w' : World) (b : Nat) (H : Hdr) (S1 S2 S3 : Sc) (A1 A2 A3 : Sc) : Prop where
 bok : Bok w' b H A1 A2 A3
 fr : Fr (b :: bokF S1 S2 S3) w w'
 all : ∀ g ∈ bokF A1 A2 A3, g ∈ bokF S1 S2 S3 ∨ w.heap.size ≤ g
 l1 : A1.olds.length + A1.news.length = S1.olds.length + S1.news.length
 l2 : A2.olds.length + A2.news.length = S2.olds.length + S2.news.length
 l3 : A3.olds.length + A3.news.length = S3.olds.length + S3.news.length
theorem Gd.idle {w w' w'' : World} {b : Nat} {H : Hdr} {S1 S2 S3 A1 A2 A3 : Sc} (h : Gd w w' b H S1 S2 S3 A1 A2 A3) (hf : Fr [] w' w'') : Gd w w'' b H S1 S2 S3 A1 A2 A3 :=
 ⟨h.bok.keep hf (by simp) (by simp), h.fr.trans hf (by simp), h.all, h.l1, h.l2, h.l3⟩
theorem Gd.next1 {w w' w'' : World} {b : Nat} {H : Hdr} {S1 S2 S3 A1 A2 A3 : Sc} {x : Le} {m : Int} {rest : List (Le × Int)} {y vM' : Le} (h : Gd w w' b H S1 S2 S3 A1 A2 A3) (hn : A1.news = (x, m) :: rest) (hb : Bok w'' b H (A1.grown x m rest y vM') A2 A3) (hf : Fr (b :: A1.hot) w' w'') (ha : ∀ g ∈ (A1.grown x m rest y vM').all, g ∈ A1.all ∨ w'.heap.size ≤ g) : Gd w w'' b H S1 S2 S3 (A1.grown x m rest y vM') A2 A3 := by
 have hs := h.fr.size
 have hl : (A1.grown x m rest y vM').olds.length + (A1.grown x m rest y vM').news.length = A1.olds.length + A1.news.length := by rw [hn]; simp [Sc.grown]; omega
 refine ⟨hb, h.fr.trans hf fun g hg => ?_, fun g hg => ?_, by rw [hl]; exact h.l1, h.l2, h.l3⟩
 ·rcases List.mem_cons.1 hg with hg | hg
  ·exact .inl (List.mem_cons.2 (.inl hg))
  ·rcases h.all g (bokF1 (hotAll hg)) with h1 | h1
   ·exact .inl (List.mem_cons.2 (.inr h1))
   ·exact .inr h1
 ·rcases mem_bokF hg with h1 | h1 | h1
  ·rcases ha g h1 with h2 | h2
   ·exact h.all g (bokF1 h2)
   ·exact .inr (by omega)
  ·exact h.all g (bokF2 h1)
  ·exact h.all g (bokF3 h1)
theorem Gd.next2 {w w' w'' : World} {b : Nat} {H : Hdr} {S1 S2 S3 A1 A2 A3 : Sc} {x : Le} {m : Int} {rest : List (Le × Int)} {y vM' : Le} (h : Gd w w' b H S1 S2 S3 A1 A2 A3) (hn : A2.news = (x, m) :: rest) (hb : Bok w'' b H A1 (A2.grown x m rest y vM') A3) (hf : Fr (b :: A2.hot) w' w'') (ha : ∀ g ∈ (A2.grown x m rest y vM').all, g ∈ A2.all ∨ w'.heap.size ≤ g) : Gd w w'' b H S1 S2 S3 A1 (A2.grown x m rest y vM') A3 := by
 have hs := h.fr.size
 have hl : (A2.grown x m rest y vM').olds.length + (A2.grown x m rest y vM').news.length = A2.olds.length + A2.news.length := by rw [hn]; simp [Sc.grown]; omega
 refine ⟨hb, h.fr.trans hf fun g hg => ?_, fun g hg => ?_, h.l1, by rw [hl]; exact h.l2, h.l3⟩
 ·rcases List.mem_cons.1 hg with hg | hg
  ·exact .inl (List.mem_cons.2 (.inl hg))
  ·rcases h.all g (bokF2 (hotAll hg)) with h1 | h1
   ·exact .inl (List.mem_cons.2 (.inr h1))
   ·exact .inr h1
 ·rcases mem_bokF hg with h1 | h1 | h1
  ·exact h.all g (bokF1 h1)
  ·rcases ha g h1 with h2 | h2
   ·exact h.all g (bokF2 h2)
   ·exact .inr (by omega)
  ·exact h.all g (bokF3 h1)
theorem Gd.next3 {w w' w'' : World} {b : Nat} {H : Hdr} {S1 S2 S3 A1 A2 A3 : Sc} {x : Le} {m : Int} {rest : List (Le × Int)} {y vM' : Le} (h : Gd w w' b H S1 S2 S3 A1 A2 A3) (hn : A3.news = (x, m) :: rest) (hb : Bok w'' b H A1 A2 (A3.grown x m rest y vM')) (hf : Fr (b :: A3.hot) w' w'') (ha : ∀ g ∈ (A3.grown x m rest y vM').all, g ∈ A3.all ∨ w'.heap.size ≤ g) : Gd w w'' b H S1 S2 S3 A1 A2 (A3.grown x m rest y vM') := by
 have hs := h.fr.size
 have hl : (A3.grown x m rest y vM').olds.length + (A3.grown x m rest y vM').news.length = A3.olds.length + A3.news.length := by rw [hn]; simp [Sc.grown]; omega
 refine ⟨hb, h.fr.trans hf fun g hg => ?_, fun g hg => ?_, h.l1, h.l2, by rw [hl]; exact h.l3⟩
 ·rcases List.mem_cons.1 hg with hg | hg
  ·exact .inl (List.mem_cons.2 (.inl hg))
  ·rcases h.all g (bokF3 (hotAll hg)) with h1 | h1
   ·exact .inl (List.mem_cons.2 (.inr h1))
   ·exact .inr h1
 ·rcases mem_bokF hg with h1 | h1 | h1
  ·exact h.all g (bokF1 h1)
  ·exact h.all g (bokF2 h1)
  ·rcases ha g h1 with h2 | h2
   ·exact h.all g (bokF3 h2)
   ·exact .inr (by omega)
set_option maxRecDepth 20000 in
set_option maxHeartbeats 4000000 in
theorem bgrow_ok (b : Nat) (H : Hdr) (S1 S2 S3 : Sc) (w : World) (h : Bok w b H S1 S2 S3) (k1 : S1.olds.length + S1.news.length ≤ 8796093022000) (k2 : S2.olds.length + S2.news.length ≤ 8796093022000) (k3 : S3.olds.length + S3.news.length ≤ 8796093022000) :
  Calls Tryd.prog 93 #[.pointer (some ⟨b, 6, none⟩)] w fun e w' => e = .returned (.tuple #[]) ∧ ∃ A1 A2 A3, A1.news = [] ∧ A2.news = [] ∧ A3.news = [] ∧ Gd w w' b H S1 S2 S3 A1 A2 A3 := by
 have HG1 : Hid (Gd w w b H S1 S2 S3 S1 S2 S3) := ⟨h, Fr.refl _ _, fun g hg => .inl hg, rfl, rfl, rfl⟩
 have HL1 := mkHid k1
 have HL2 := mkHid k2
 have HL3 := mkHid k3
 clear h k1 k2 k3
 go_enter Tryd.func93, Tryd.ntmps93
 have nI1 := HG1.out.bok.ok1.nI
 have nM1 := HG1.out.bok.ok1.nM
 have nK1 := HG1.out.bok.ok1.nK
 have tt1 := HG1.out.bok.top
 have hN1 := HL1.out
 obtain ⟨N1, eN1⟩ : ∃ N, N = S1.olds.length + S1.news.length := ⟨_, rfl⟩
 have y1M : w.cell? ⟨b, 7, none⟩ = some (.slice S1.vM.p S1.vM.n S1.vM.c) := by rw [cell_in tt1]; rfl
 have HNe1 := mkHid eN1
 obtain ⟨jj1, ej1⟩ : ∃ j, j = S1.vM.n := ⟨_, rfl⟩
 rw [← ej1] at y1M
 have ej1' : S1.olds.length = jj1 := by omega
 rw [← eN1] at nI1 nK1 hN1
 have HnI1 := mkHid nI1
 have HnK1 := mkHid nK1
 have HeJ1 := mkHid ej1'
 clear tt1 nI1 nM1 nK1 eN1 ej1 ej1'
 generalize S1.vM.p = pM1 at y1M
 generalize S1.vM.c = cM1 at y1M
 go_wp2_with fail
 go_loopw [2] (fun q wr => ∃ (j : Nat) (A : Sc), j ≤ N1 ∧ q = .int .i64 j ∧ Hid (A.olds.length = j) ∧ Hid (A.olds.length + A.news.length = N1) ∧ Hid (Gd w wr b H S1 S2 S3 A S2 S3)) (fun q _ => N1 - (intOf q).toNat)
 case atStart => exact ⟨jj1, S1, by have := HNe1.out; have := HeJ1.out; omega, rfl, HeJ1, HNe1.out.symm, HG1⟩
 case round =>
  obtain ⟨j, A, hjn, rfl, hAj, hAN, hG⟩ := hrel
  have j1 : (0 : Int) ≤ (j : Int) := by omega
  have topA := hG.out.bok.top
  have vIn : A.vI.n = N1 := by rw [hG.out.bok.ok1.nI]; exact hAN.out
  have vKn : A.vK.n = N1 := by rw [hG.out.bok.ok1.nK]; exact hAN.out
  have vMn : A.vM.n = j := by rw [hG.out.bok.ok1.nM]; exact hAj.out
  have x0 : wr.cell? ⟨b, 6, none⟩ = some (.slice A.vI.p N1 A.vI.c) := by rw [cell_in topA, ← vIn]; rfl
  have x1 : wr.cell? ⟨b, 7, none⟩ = some (.slice A.vM.p j A.vM.c) := by rw [cell_in topA, ← vMn]; rfl
  have x2 : wr.cell? ⟨b, 8, none⟩ = some (.slice A.vK.p N1 A.vK.c) := by rw [cell_in topA, ← vKn]; rfl
  by_cases hlt : j < N1
  ·have j2 : (j : Int) < (N1 : Int) := by omega
   obtain ⟨x, m, rest, hnews⟩ : ∃ x m rest, A.news = (x, m) :: rest := by
    have h1 := hAN.out
    have h2 := hAj.out
    cases hc : A.news with
    | nil => rw [hc] at h1; simp at h1; omega
    | cons a r => exact ⟨a.1, a.2, r, rfl⟩
   have hmem : (x, m) ∈ A.news := by rw [hnews]; exact List.mem_cons_self
   have how := hG.out.bok.ok1.new _ hmem
   obtain ⟨⟨gI, eI, -, cI0⟩, gK, eK, lK, cK0⟩ := hG.out.bok.ok1.first hnews
   rw [hAj.out] at cI0 cK0
   rw [eI] at x0
   rw [eK] at x2
   have xN : ∀ g ∈ blk x.p, g ∈ A.fresh := fun g hg => List.mem_flatMap.2 ⟨(x, m), hmem, hg⟩
   have bx : b ∉ blk x.p := fun hm => hG.out.bok.b1 (hotAll (List.mem_append.2 (.inr (xN b hm))))
   have gKx : gK ∉ blk x.p := fun hm => hG.out.bok.ok1.dKN gK (by rw [eK]; simp [blk]) (xN gK hm)
   have HC2 : Hid (∀ V, Fr (blk x.p) wr V → V.cell? ⟨b, 8, none⟩ = some (.slice (some ⟨gK, 0, none⟩) N1 A.vK.c) ∧ V.cell? ⟨gK, j, none⟩ = some (.int .i64 m)) := fun V hV => by
    refine ⟨?_, ?_⟩
    ·rw [hV.cell (p := ⟨b, 8, none⟩) (lt_of_heap topA) bx]; exact x2
    ·rw [hV.cell (p := ⟨gK, j, none⟩) lK gKx]; exact cK0
   have HGw : Hid (Gw kInts wr wr x m 0 x.p x.c) := Gw.start how
   have hsh : x.n ≤ 1100000 := how.short
   have HNw := mkHid hnews
   obtain ⟨xp, xn, xc⟩ := x
   simp only [Le.v] at cI0
   replace hsh : xn ≤ 1100000 := hsh
   have HTop := mkHid (And.intro vMn (And.intro hAj.out hAN.out))
   clear topA vIn vKn vMn how hmem xN bx gKx cK0 eI eK lK hnews hAj hAN
   generalize A.vI.c = cI at *
   generalize A.vK.c = cK at *
   generalize hpj : A.vM.p = pj at *
   generalize hcj : A.vM.c = cj at *
   generalize wr = wo at *
   go_wp2_with fail
   go_loopw [3, 4] (fun gv q V => ∃ (kk : Nat) (pk : Option Addr) (ck : Nat), kk ≤ 70 ∧ q = .int .i64 kk ∧ gv = .slice pk (xn + kk) ck ∧ Hid (Gw kInts wo V ⟨xp, xn, xc⟩ m kk pk ck)) (fun _ q _ => 70 - (intOf q).toNat)
   case atStart => exact ⟨0, xp, xc, by omega, rfl, rfl, HGw⟩
   case round =>
    obtain ⟨kk, pk, ck, hk70, rfl, rfl, hgw⟩ := hrel
    have k1 : (0 : Int) ≤ (kk : Int) := by omega
    obtain ⟨z2, z3⟩ := HC2.out wr hgw.out.fr
    by_cases hk7 : kk < 70
    ·have k2 : (kk : Int) < 70 := by omega
     obtain ⟨p', c', w', r1, o1, mv1⟩ := push_kInts wr (xn + kk) pk ck m hgw.out.own (by omega)
     have HG2 : Hid (Gw kInts wo w' ⟨xp, xn, xc⟩ m (kk + 1) p' c') := hgw.out.next (fun _ => rfl) o1 mv1
     have HR1 : Hid ((Builtin.append_ #[22, 22] 22 #[.slice pk (xn + kk) ck, .slice (some ⟨wr.heap.size, 0, none⟩) 1 1]).run Tryd.prog (wr.alloc (.cells #[.int .i64 m] 3)) = .ok (.slice p' (xn + kk + 1) c') w') := r1
     clear r1 o1 mv1 hgw
     go_wp2_with (at_builtin; refine Lib.wpList_append_run _ rfl (.tmp _) (.tmp _) 22 22 rfl _ _ rfl rfl _ _ HR1.out ?_)
     go_roundw
     case rel => exact ⟨kk + 1, p', c', by omega, by go_num, rfl, HG2⟩
     case measure => simp [intOf]; omega
    ·have hke : kk = 70 := by omega
     subst hke
     obtain ⟨q1, p1, c1, w1, r1, q2, fz2, hbk, hfr, hall⟩ := hG.out.bok.grow1 HNw.out (by have := HTop.out; omega) hgw.out
     have eV : A.vM.v = .slice pj j cj := by rw [← hpj, ← hcj, ← HTop.out.1]; rfl
     have hZ : Hid (∃ A' : Sc, A'.olds.length = j + 1 ∧ A'.olds.length + A'.news.length = N1 ∧ Gd w (w1.setCell ⟨b, 7, none⟩ (.slice p1 (j + 1) c1)) b H S1 S2 S3 A' S2 S3) := by
      have hx := hG.out.next1 HNw.out hbk hfr hall
      rw [HTop.out.1] at hx
      refine ⟨_, ?_, ?_, hx⟩
      ·show (A.olds ++ [_]).length = _
       rw [List.length_append, HTop.out.2.1]; rfl
      ·have h3 := HTop.out.2.2
       rw [HNw.out] at h3
       simp [Sc.grown] at h3 ⊢
       omega
     rw [eV, HTop.out.1] at r1
     rw [eV] at q1 q2
     have HR1 := mkHid r1
     clear r1 hbk hfr hall hgw eV
     go_wp2_with (at_builtin; refine Lib.wpList_append_run _ rfl (.tmp _) (.tmp _) 78 78 rfl _ _ rfl rfl _ _ HR1.out ?_)
     go_roundw
     case rel =>
      obtain ⟨A', z1, z2, z3⟩ := hZ.out
      exact ⟨j + 1, A', by omega, by go_num, z1, z2, z3⟩
     case measure => simp [intOf]; omega
  ·have hje : j = N1 := by omega
   have j2 : ¬ (j : Int) < (N1 : Int) := by omega
   have HG2 := hG
   have HE1 : Hid (A.news = []) := by
    have h1 := hAN.out
    have h2 := hAj.out
    cases hc : A.news with
    | nil => rfl
    | cons a r => rw [hc] at h1; simp at h1; omega
   clear hG hAj hAN topA vIn vKn vMn
   generalize A.vI.p = pI at *
   generalize A.vK.p = pK at *
   generalize A.vI.c = cI at *
   generalize A.vK.c = cK at *
   generalize A.vM.p = pj at *
   generalize A.vM.c = cj at *
   obtain ⟨B1, hB1⟩ : ∃ B, B = A := ⟨_, rfl⟩
   rw [← hB1] at HG2 HE1
   generalize wr = wo1 at *
   have nI2 := HG2.out.bok.ok2.nI
   have nM2 := HG2.out.bok.ok2.nM
   have nK2 := HG2.out.bok.ok2.nK
   have tt2 := HG2.out.bok.top
   have hN2 := HL2.out
   obtain ⟨N2, eN2⟩ : ∃ N, N = S2.olds.length + S2.news.length := ⟨_, rfl⟩
   have y2M : wo1.cell? ⟨b, 10, none⟩ = some (.slice S2.vM.p S2.vM.n S2.vM.c) := by rw [cell_in tt2]; rfl
   have HNe2 := mkHid eN2
   obtain ⟨jj2, ej2⟩ : ∃ j, j = S2.vM.n := ⟨_, rfl⟩
   rw [← ej2] at y2M
   have ej2' : S2.olds.length = jj2 := by omega
   rw [← eN2] at nI2 nK2 hN2
   have HnI2 := mkHid nI2
   have HnK2 := mkHid nK2
   have HeJ2 := mkHid ej2'
   clear tt2 nI2 nM2 nK2 eN2 ej2 ej2'
   generalize S2.vM.p = pM2 at y2M
   generalize S2.vM.c = cM2 at y2M
   go_wp2_with fail
   go_loopw [5] (fun q wr => ∃ (j : Nat) (A : Sc), j ≤ N2 ∧ q = .int .i64 j ∧ Hid (A.olds.length = j) ∧ Hid (A.olds.length + A.news.length = N2) ∧ Hid (Gd w wr b H S1 S2 S3 B1 A S3)) (fun q _ => N2 - (intOf q).toNat)
   case atStart => exact ⟨jj2, S2, by have := HNe2.out; have := HeJ2.out; omega, rfl, HeJ2, HNe2.out.symm, HG2⟩
   case round =>
    obtain ⟨j, A, hjn, rfl, hAj, hAN, hG⟩ := hrel
    have j1 : (0 : Int) ≤ (j : Int) := by omega
    have topA := hG.out.bok.top
    have vIn : A.vI.n = N2 := by rw [hG.out.bok.ok2.nI]; exact hAN.out
    have vKn : A.vK.n = N2 := by rw [hG.out.bok.ok2.nK]; exact hAN.out
    have vMn : A.vM.n = j := by rw [hG.out.bok.ok2.nM]; exact hAj.out
    have x0 : wr.cell? ⟨b, 9, none⟩ = some (.slice A.vI.p N2 A.vI.c) := by rw [cell_in topA, ← vIn]; rfl
    have x1 : wr.cell? ⟨b, 10, none⟩ = some (.slice A.vM.p j A.vM.c) := by rw [cell_in topA, ← vMn]; rfl
    have x2 : wr.cell? ⟨b, 11, none⟩ = some (.slice A.vK.p N2 A.vK.c) := by rw [cell_in topA, ← vKn]; rfl
    by_cases hlt : j < N2
    ·have j2 : (j : Int) < (N2 : Int) := by omega
     obtain ⟨x, m, rest, hnews⟩ : ∃ x m rest, A.news = (x, m) :: rest := by
      have h1 := hAN.out
      have h2 := hAj.out
      cases hc : A.news with
      | nil => rw [hc] at h1; simp at h1; omega
      | cons a r => exact ⟨a.1, a.2, r, rfl⟩
     have hmem : (x, m) ∈ A.news := by rw [hnews]; exact List.mem_cons_self
     have how := hG.out.bok.ok2.new _ hmem
     obtain ⟨⟨gI, eI, -, cI0⟩, gK, eK, lK, cK0⟩ := hG.out.bok.ok2.first hnews
     rw [hAj.out] at cI0 cK0
     rw [eI] at x0
     rw [eK] at x2
     have xN : ∀ g ∈ blk x.p, g ∈ A.fresh := fun g hg => List.mem_flatMap.2 ⟨(x, m), hmem, hg⟩
     have bx : b ∉ blk x.p := fun hm => hG.out.bok.b2 (hotAll (List.mem_append.2 (.inr (xN b hm))))
     have gKx : gK ∉ blk x.p := fun hm => hG.out.bok.ok2.dKN gK (by rw [eK]; simp [blk]) (xN gK hm)
     have HC2 : Hid (∀ V, Fr (blk x.p) wr V → V.cell? ⟨b, 11, none⟩ = some (.slice (some ⟨gK, 0, none⟩) N2 A.vK.c) ∧ V.cell? ⟨gK, j, none⟩ = some (.int .i64 m)) := fun V hV => by
      refine ⟨?_, ?_⟩
      ·rw [hV.cell (p := ⟨b, 11, none⟩) (lt_of_heap topA) bx]; exact x2
      ·rw [hV.cell (p := ⟨gK, j, none⟩) lK gKx]; exact cK0
     have HGw : Hid (Gw kWords wr wr x m 0 x.p x.c) := Gw.start how
     have hsh : x.n ≤ 1100000 := how.short
     have HNw := mkHid hnews
     obtain ⟨xp, xn, xc⟩ := x
     simp only [Le.v] at cI0
     replace hsh : xn ≤ 1100000 := hsh
     have HTop := mkHid (And.intro vMn (And.intro hAj.out hAN.out))
     clear topA vIn vKn vMn how hmem xN bx gKx cK0 eI eK lK hnews hAj hAN
     generalize A.vI.c = cI at *
     generalize A.vK.c = cK at *
     generalize hpj : A.vM.p = pj at *
     generalize hcj : A.vM.c = cj at *
     generalize wr = wo at *
     go_wp2_with fail
     go_loopw [6, 7] (fun gv q V => ∃ (kk : Nat) (pk : Option Addr) (ck : Nat), kk ≤ 70 ∧ q = .int .i64 kk ∧ gv = .slice pk (xn + kk) ck ∧ Hid (Gw kWords wo V ⟨xp, xn, xc⟩ m kk pk ck)) (fun _ q _ => 70 - (intOf q).toNat)
     case atStart => exact ⟨0, xp, xc, by omega, rfl, rfl, HGw⟩
     case round =>
      obtain ⟨kk, pk, ck, hk70, rfl, rfl, hgw⟩ := hrel
      have k1 : (0 : Int) ≤ (kk : Int) := by omega
      obtain ⟨z2, z3⟩ := HC2.out wr hgw.out.fr
      by_cases hk7 : kk < 70
      ·have k2 : (kk : Int) < 70 := by omega
       obtain ⟨p', c', w', r1, o1, mv1⟩ := push_kWords wr (xn + kk) pk ck m hgw.out.own (by omega)
       have HG2 : Hid (Gw kWords wo w' ⟨xp, xn, xc⟩ m (kk + 1) p' c') := hgw.out.next (fun _ => rfl) o1 mv1
       have HR1 : Hid ((Builtin.append_ #[80, 80] 80 #[.slice pk (xn + kk) ck, .slice (some ⟨wr.heap.size, 0, none⟩) 1 1]).run Tryd.prog (wr.alloc (.cells #[.int .i64 m] 33)) = .ok (.slice p' (xn + kk + 1) c') w') := r1
       clear r1 o1 mv1 hgw
       go_wp2_with (at_builtin; refine Lib.wpList_append_run _ rfl (.tmp _) (.tmp _) 80 80 rfl _ _ rfl rfl _ _ HR1.out ?_)
       go_roundw
       case rel => exact ⟨kk + 1, p', c', by omega, by go_num, rfl, HG2⟩
       case measure => simp [intOf]; omega
      ·have hke : kk = 70 := by omega
       subst hke
       obtain ⟨q1, p1, c1, w1, r1, q2, fz2, hbk, hfr, hall⟩ := hG.out.bok.grow2 HNw.out (by have := HTop.out; omega) hgw.out
       have eV : A.vM.v = .slice pj j cj := by rw [← hpj, ← hcj, ← HTop.out.1]; rfl
       have hZ : Hid (∃ A' : Sc, A'.olds.length = j + 1 ∧ A'.olds.length + A'.news.length = N2 ∧ Gd w (w1.setCell ⟨b, 10, none⟩ (.slice p1 (j + 1) c1)) b H S1 S2 S3 B1 A' S3) := by
        have hx := hG.out.next2 HNw.out hbk hfr hall
        rw [HTop.out.1] at hx
        refine ⟨_, ?_, ?_, hx⟩
        ·show (A.olds ++ [_]).length = _
         rw [List.length_append, HTop.out.2.1]; rfl
        ·have h3 := HTop.out.2.2
         rw [HNw.out] at h3
         simp [Sc.grown] at h3 ⊢
         omega
       rw [eV, HTop.out.1] at r1
       rw [eV] at q1 q2
       have HR1 := mkHid r1
       clear r1 hbk hfr hall hgw eV
       go_wp2_with (at_builtin; refine Lib.wpList_append_run _ rfl (.tmp _) (.tmp _) 79 79 rfl _ _ rfl rfl _ _ HR1.out ?_)
       go_roundw
       case rel =>
        obtain ⟨A', z1, z2, z3⟩ := hZ.out
        exact ⟨j + 1, A', by omega, by go_num, z1, z2, z3⟩
       case measure => simp [intOf]; omega
    ·have hje : j = N2 := by omega
     have j2 : ¬ (j : Int) < (N2 : Int) := by omega
     have HG3 := hG
     have HE2 : Hid (A.news = []) := by
      have h1 := hAN.out
      have h2 := hAj.out
      cases hc : A.news with
      | nil => rfl
      | cons a r => rw [hc] at h1; simp at h1; omega
     clear hG hAj hAN topA vIn vKn vMn
     generalize A.vI.p = pI at *
     generalize A.vK.p = pK at *
     generalize A.vI.c = cI at *
     generalize A.vK.c = cK at *
     generalize A.vM.p = pj at *
     generalize A.vM.c = cj at *
     obtain ⟨B2, hB2⟩ : ∃ B, B = A := ⟨_, rfl⟩
     rw [← hB2] at HG3 HE2
     generalize wr = wo2 at *
     have nI3 := HG3.out.bok.ok3.nI
     have nM3 := HG3.out.bok.ok3.nM
     have nK3 := HG3.out.bok.ok3.nK
     have tt3 := HG3.out.bok.top
     have hN3 := HL3.out
     obtain ⟨N3, eN3⟩ : ∃ N, N = S3.olds.length + S3.news.length := ⟨_, rfl⟩
     have y3M : wo2.cell? ⟨b, 13, none⟩ = some (.slice S3.vM.p S3.vM.n S3.vM.c) := by rw [cell_in tt3]; rfl
     have HNe3 := mkHid eN3
     obtain ⟨jj3, ej3⟩ : ∃ j, j = S3.vM.n := ⟨_, rfl⟩
     rw [← ej3] at y3M
     have ej3' : S3.olds.length = jj3 := by omega
     rw [← eN3] at nI3 nK3 hN3
     have HnI3 := mkHid nI3
     have HnK3 := mkHid nK3
     have HeJ3 := mkHid ej3'
     clear tt3 nI3 nM3 nK3 eN3 ej3 ej3'
     generalize S3.vM.p = pM3 at y3M
     generalize S3.vM.c = cM3 at y3M
     go_wp2_with fail
     go_loopw [8] (fun q wr => ∃ (j : Nat) (A : Sc), j ≤ N3 ∧ q = .int .i64 j ∧ Hid (A.olds.length = j) ∧ Hid (A.olds.length + A.news.length = N3) ∧ Hid (Gd w wr b H S1 S2 S3 B1 B2 A)) (fun q _ => N3 - (intOf q).toNat)
     case atStart => exact ⟨jj3, S3, by have := HNe3.out; have := HeJ3.out; omega, rfl, HeJ3, HNe3.out.symm, HG3⟩
     case round =>
      obtain ⟨j, A, hjn, rfl, hAj, hAN, hG⟩ := hrel
      have j1 : (0 : Int) ≤ (j : Int) := by omega
      have topA := hG.out.bok.top
      have vIn : A.vI.n = N3 := by rw [hG.out.bok.ok3.nI]; exact hAN.out
      have vKn : A.vK.n = N3 := by rw [hG.out.bok.ok3.nK]; exact hAN.out
      have vMn : A.vM.n = j := by rw [hG.out.bok.ok3.nM]; exact hAj.out
      have x0 : wr.cell? ⟨b, 12, none⟩ = some (.slice A.vI.p N3 A.vI.c) := by rw [cell_in topA, ← vIn]; rfl
      have x1 : wr.cell? ⟨b, 13, none⟩ = some (.slice A.vM.p j A.vM.c) := by rw [cell_in topA, ← vMn]; rfl
      have x2 : wr.cell? ⟨b, 14, none⟩ = some (.slice A.vK.p N3 A.vK.c) := by rw [cell_in topA, ← vKn]; rfl
      by_cases hlt : j < N3
      ·have j2 : (j : Int) < (N3 : Int) := by omega
       obtain ⟨x, m, rest, hnews⟩ : ∃ x m rest, A.news = (x, m) :: rest := by
        have h1 := hAN.out
        have h2 := hAj.out
        cases hc : A.news with
        | nil => rw [hc] at h1; simp at h1; omega
        | cons a r => exact ⟨a.1, a.2, r, rfl⟩
       have hmem : (x, m) ∈ A.news := by rw [hnews]; exact List.mem_cons_self
       have how := hG.out.bok.ok3.new _ hmem
       obtain ⟨⟨gI, eI, -, cI0⟩, gK, eK, lK, cK0⟩ := hG.out.bok.ok3.first hnews
       rw [hAj.out] at cI0 cK0
       rw [eI] at x0
       rw [eK] at x2
       have xN : ∀ g ∈ blk x.p, g ∈ A.fresh := fun g hg => List.mem_flatMap.2 ⟨(x, m), hmem, hg⟩
       have bx : b ∉ blk x.p := fun hm => hG.out.bok.b3 (hotAll (List.mem_append.2 (.inr (xN b hm))))
       have gKx : gK ∉ blk x.p := fun hm => hG.out.bok.ok3.dKN gK (by rw [eK]; simp [blk]) (xN gK hm)
       have HC2 : Hid (∀ V, Fr (blk x.p) wr V → V.cell? ⟨b, 14, none⟩ = some (.slice (some ⟨gK, 0, none⟩) N3 A.vK.c) ∧ V.cell? ⟨gK, j, none⟩ = some (.int .i64 m)) := fun V hV => by
        refine ⟨?_, ?_⟩
        ·rw [hV.cell (p := ⟨b, 14, none⟩) (lt_of_heap topA) bx]; exact x2
        ·rw [hV.cell (p := ⟨gK, j, none⟩) lK gKx]; exact cK0
       have HGw : Hid (Gw kObjs wr wr x m 0 x.p x.c) := Gw.start how
       have hsh : x.n ≤ 1100000 := how.short
       have HNw := mkHid hnews
       obtain ⟨xp, xn, xc⟩ := x
       simp only [Le.v] at cI0
       replace hsh : xn ≤ 1100000 := hsh
       have HTop := mkHid (And.intro vMn (And.intro hAj.out hAN.out))
       clear topA vIn vKn vMn how hmem xN bx gKx cK0 eI eK lK hnews hAj hAN
       generalize A.vI.c = cI at *
       generalize A.vK.c = cK at *
       generalize hpj : A.vM.p = pj at *
       generalize hcj : A.vM.c = cj at *
       generalize wr = wo at *
       go_wp2_with fail
       go_loopw [9, 10] (fun gv q V => ∃ (kk : Nat) (pk : Option Addr) (ck : Nat), kk ≤ 20 ∧ q = .int .i64 kk ∧ gv = .slice pk (xn + kk) ck ∧ Hid (Gw kObjs wo V ⟨xp, xn, xc⟩ m kk pk ck)) (fun _ q _ => 20 - (intOf q).toNat)
       case atStart => exact ⟨0, xp, xc, by omega, rfl, rfl, HGw⟩
       case round =>
        obtain ⟨kk, pk, ck, hk70, rfl, rfl, hgw⟩ := hrel
        have k1 : (0 : Int) ≤ (kk : Int) := by omega
        obtain ⟨z2, z3⟩ := HC2.out wr hgw.out.fr
        by_cases hk7 : kk < 20
        ·have k2 : (kk : Int) < 20 := by omega
         obtain ⟨p', c', w', r1, o1, mv1⟩ := push_kObjs wr (xn + kk) pk ck m hgw.out.own (by omega)
         have HG2 : Hid (Gw kObjs wo w' ⟨xp, xn, xc⟩ m (kk + 1) p' c') := hgw.out.next (fun _ => rfl) o1 mv1
         have HR1 : Hid ((Builtin.append_ #[36, 36] 36 #[.slice pk (xn + kk) ck, .slice (some ⟨wr.heap.size, 0, none⟩) 1 1]).run Tryd.prog (wr.alloc (.cells #[.int .i64 m, .int .i64 0, .int .i64 0, .slice none 0 0] 106)) = .ok (.slice p' (xn + kk + 1) c') w') := r1
         clear r1 o1 mv1 hgw
         go_wp2_with (at_builtin; refine Lib.wpList_append_run _ rfl (.tmp _) (.tmp _) 36 36 rfl _ _ rfl rfl _ _ HR1.out ?_)
         go_roundw
         case rel => exact ⟨kk + 1, p', c', by omega, by go_num, rfl, HG2⟩
         case measure => simp [intOf]; omega
        ·have hke : kk = 20 := by omega
         subst hke
         obtain ⟨q1, p1, c1, w1, r1, q2, fz2, hbk, hfr, hall⟩ := hG.out.bok.grow3 HNw.out (by have := HTop.out; omega) hgw.out
         have eV : A.vM.v = .slice pj j cj := by rw [← hpj, ← hcj, ← HTop.out.1]; rfl
         have hZ : Hid (∃ A' : Sc, A'.olds.length = j + 1 ∧ A'.olds.length + A'.news.length = N3 ∧ Gd w (w1.setCell ⟨b, 13, none⟩ (.slice p1 (j + 1) c1)) b H S1 S2 S3 B1 B2 A') := by
          have hx := hG.out.next3 HNw.out hbk hfr hall
          rw [HTop.out.1] at hx
          refine ⟨_, ?_, ?_, hx⟩
          ·show (A.olds ++ [_]).length = _
           rw [List.length_append, HTop.out.2.1]; rfl
          ·have h3 := HTop.out.2.2
           rw [HNw.out] at h3
           simp [Sc.grown] at h3 ⊢
           omega
         rw [eV, HTop.out.1] at r1
         rw [eV] at q1 q2
         have HR1 := mkHid r1
         clear r1 hbk hfr hall hgw eV
         go_wp2_with (at_builtin; refine Lib.wpList_append_run _ rfl (.tmp _) (.tmp _) 81 81 rfl _ _ rfl rfl _ _ HR1.out ?_)
         go_roundw
         case rel =>
          obtain ⟨A', z1, z2, z3⟩ := hZ.out
          exact ⟨j + 1, A', by omega, by go_num, z1, z2, z3⟩
         case measure => simp [intOf]; omega
      ·have hje : j = N3 := by omega
       have j2 : ¬ (j : Int) < (N3 : Int) := by omega
       have HG4 := hG
       have HE3 : Hid (A.news = []) := by
        have h1 := hAN.out
        have h2 := hAj.out
        cases hc : A.news with
        | nil => rfl
        | cons a r => rw [hc] at h1; simp at h1; omega
       clear hG hAj hAN topA vIn vKn vMn
       generalize A.vI.p = pI at *
       generalize A.vK.p = pK at *
       generalize A.vI.c = cI at *
       generalize A.vK.c = cK at *
       generalize A.vM.p = pj at *
       generalize A.vM.c = cj at *
       have HZ : Hid (∃ A1 A2 A3, A1.news = [] ∧ A2.news = [] ∧ A3.news = [] ∧ Gd w wr b H S1 S2 S3 A1 A2 A3) := ⟨B1, B2, A, HE1.out, HE2.out, HE3.out, HG4.out⟩
       clear HG4
       go_wp2_with fail
       go_end0
       obtain ⟨z1, z2, z3, z4, z5, z6, z7⟩ := HZ.out
       exact ⟨rfl, z1, z4, z2, z5, z3, z6, z7⟩
end Go.Proofs.YtklfnjlenbgmoaaDoor
