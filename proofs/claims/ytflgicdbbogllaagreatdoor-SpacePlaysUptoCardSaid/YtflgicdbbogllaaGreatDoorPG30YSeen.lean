import Derived.Test.YtflgicdbbogllaaGreatDoorPG29KRow
set_option maxHeartbeats 4000000
set_option maxRecDepth 20000
set_option linter.unusedSimpArgs false
set_option linter.unusedVariables false
namespace Go.Proofs.YtflgicdbbogllaaGreatDoor
open Go.RowKit Go.Maps Tryz
open Value (int)
open IntKind (i64)
attribute [local go_sem ↓] wp_at_zero wp_at_succ
def wipK (xs : List Int) (m : Int) (k : Nat) : List Int := List.replicate k m ++ xs.drop k
theorem kGC (xs : List Int) (m : Int) (k : Nat) (hk : k ≤ xs.length) : (wipK xs m k).length = xs.length := by unfold wipK; simp; omega
theorem kFx (xs : List Int) (m : Int) (k : Nat) (hk : k < xs.length) : (wipK xs m k).set k m = wipK xs m (k + 1) := by
 unfold wipK;rw [jAy _ _ (by simp), jAY, Nat.sub_self, jBD hk, List.set_cons_zero, jBY, jAu];rfl
theorem kHY {w : World} {x : Le} {m : Int} {xs : List Int} (hl : xs.length = x.n) (h : w.ownsRow 0 41 1 x.v x.n ((wipK xs m x.n).map (int i64))) (hs : x.n ≤ 1100000) : OwK kBu w x m := by
 refine ⟨?_, hs⟩;unfold wipK at h;rw [← hl, List.drop_length, jAz, hl] at h
 have e : zC kBu x.n m = (List.replicate x.n m).map (int i64) := by
  unfold zC;generalize x.n = n
  induction n with
  | zero => rfl
  | succ n ih => rw [jBc, jBc, List.flatten_cons, ih]; rfl
 rw [e];exact h
theorem kIN (b : Nat) (H : Hdr) (S : Sc) (x : Le) (xs : List Int) (w : World) (h : Bok w b H S) (hl : xs.length = x.n) (hx : w.ownsRow 0 41 1 x.v x.n (xs.map (int i64))) (hs : x.n ≤ 1100000) (hk : S.olds.length + S.news.length ≤ 8796093022000)
  (ax : ∀ g ∈ blk x.p, g ∉ S.all) (hbx : b ∉ blk x.p) :
  Calls prog 74 #[.pointer (some ⟨b, 4, none⟩), x.v] w fun e w' => e = .returned (.tuple #[]) ∧ ∃ S', S'.olds = S.olds ∧ S'.news.length = S.news.length + 1 ∧ Bok w' b H S' ∧ Fr (blk x.p ++ b :: S.hot) w w' ∧ ∀ g ∈ S'.all, g ∈ S.all ∨ g ∈ blk x.p ∨ w.heap.size ≤ g := by
 obtain ⟨p, n, c⟩ := x;have hl : xs.length = n := hl;subst hl;replace hx : w.ownsRow 0 41 1 (.slice p xs.length c) xs.length (xs.map (int i64)) := hx;replace hs : xs.length ≤ 1100000 := hs;show Calls prog 74 #[.pointer (some ⟨b, 4, none⟩), .slice p xs.length c] w _;have nK := h.ok.nK;have nI := h.ok.nI;have nKI : S.vK.n = S.vI.n := by omega
 have y2 : w.cell? ⟨b, 6, none⟩ = some S.vK.v := by rw [kAC h.top]; rfl
 have hN : S.vI.n ≤ 8796093022000 := by omega
 have HBk := kAA h;have HX := kAA hx;have HaX := kAA ax;have HbX := kAA hbx;have HNI := kAA nI;obtain ⟨N, hNe⟩ := jex (S.vI.n);rw [show S.vK.v = .slice S.vK.p N S.vK.c from by rw [hNe, ← nKI]; rfl] at y2;rw [← hNe] at hN;obtain ⟨m, hme⟩ : ∃ m : Int, m = -3000000 - (N : Int) := ⟨_, rfl⟩
 have hmw : IntKind.i64.wrap (-3000000 - (N : Int)) = m := by rw [hme, kBp]; unfold wrap64; omega
 have hmw2 : IntKind.i64.wrap m = m := by rw [hme, kBp]; unfold wrap64; omega
 have HNE := kAA hNe;have HKI := kAA nKI;clear h hx ax hbx hk nI nK hNe nKI;go_enter func74, ntmps74
 go_wp2_with fail
 try rw [← hme]
 have HMe := kAA hme;clear hme hmw
 go_loopw [5] (fun q wr => ∃ k : Nat, k ≤ xs.length ∧ q = int i64 k ∧ Hid (wr.ownsRow 0 41 1 (.slice p xs.length c) xs.length ((wipK xs m k).map (int i64))) ∧ Hid (Fr (blk p) w wr)) (fun q _ => xs.length - (intOf q).toNat)
 case atStart => exact ⟨0, jAH _, rfl, kAA (by unfold wipK; simpa using HX.out), Fr.refl _ _⟩
 case round =>
  obtain ⟨k, hkn, rfl, hown, hq⟩ := hrel;have k1 := ng k
  by_cases hlt : k < xs.length
  ·have k2 : (k : Int) < xs.length := by omega
   have hwl := kGC xs m k hkn;obtain ⟨g, cg, eg, -, -⟩ := hown.out.form (by omega)
   injection eg with eg1 _ eg2
   subst eg1 eg2;have x1 := kFi hown.out k (by omega);obtain ⟨cur, hcur⟩ : ∃ cur, wr.heap[g]? = some (.cells cur 41 (0, 0)) := kAw hown.out rfl
   have z1 := kAD hcur k
   have HO2 : Hid ((wr.setCell ⟨g, k, none⟩ (int i64 m)).ownsRow 0 41 1 (.slice (some ⟨g, 0, none⟩) xs.length c) xs.length ((wipK xs m (k + 1)).map (int i64))) := by
    have := (hown.out.stored k (int i64 m)).1;rw [← List.map_set, kFx xs m k hlt] at this;exact this
   have HF2 : Hid (Fr (blk (some ⟨g, 0, none⟩)) w (wr.setCell ⟨g, k, none⟩ (int i64 m))) := hq.out.trans (Fr.setCell (S := blk (some ⟨g, 0, none⟩)) _ ⟨g, k, none⟩ _ (by simp [blk])) (fun b hb => .inl hb);generalize (wipK xs m k).getD k 0 = u at *;clear hown hcur hwl hq
   go_wp2_with fail
   go_roundw
   case rel => exact ⟨k + 1, by omega, by go_num, HO2, HF2⟩
   case measure => simp [intOf]; omega
  ·have hke : k = xs.length := by omega
   subst hke;have HO2 : Hid (OwK kBu wr ⟨p, xs.length, c⟩ m) := kHY (x := ⟨p, xs.length, c⟩) rfl hown.out hs;have hsz := hq.out.size;have bk := HBk.out.keep hq.out HbX.out fun g hg hm => HaX.out g hm hg
   have zI : wr.cell? ⟨b, 4, none⟩ = some (.slice S.vI.p N S.vI.c) := by rw [kAC bk.top, HNE.out]; rfl
   obtain ⟨p1, c1, w1, p4, c4, w4, r1, z1, fz1, z3, r4, z4, fz4, hbok, hfr, hall⟩ := bk.push ⟨p, xs.length, c⟩ m HO2.out HaX.out HbX.out (by have := HNI.out; have := HNE.out; omega);have eV : S.vK.v = .slice S.vK.p N S.vK.c := by rw [HNE.out, ← HKI.out]; rfl
   have eI : S.vI.v = .slice S.vI.p N S.vI.c := by rw [HNE.out]; rfl
   have HZ : Hid (∃ S', S'.olds = S.olds ∧ S'.news.length = S.news.length + 1 ∧ Bok (w4.setCell ⟨b, 6, none⟩ (.slice p4 (N + 1) c4)) b H S' ∧ Fr (blk p ++ b :: S.hot) w (w4.setCell ⟨b, 6, none⟩ (.slice p4 (N + 1) c4)) ∧ ∀ g ∈ S'.all, g ∈ S.all ∨ g ∈ blk p ∨ w.heap.size ≤ g) := by
    rw [HNE.out];refine ⟨S.add ⟨p, xs.length, c⟩ m ⟨p1, S.vI.n + 1, c1⟩ ⟨p4, S.vI.n + 1, c4⟩, rfl, ?_, hbok, (hq.out.mono fun g hg => .inl (jAC.2 (.inl hg))).trans hfr fun g hg => .inl (jAC.2 (.inr hg)), fun g hg => ?_⟩
    ·simp [Sc.add]
    ·rcases hall g hg with h1 | h1 | h1
     ·exact .inl h1
     ·exact .inr (.inl h1)
     ·exact .inr (.inr (by omega))
   have hx0 : Le.v ⟨p, xs.length, c⟩ = .slice p xs.length c := rfl;rw [eI, ← HNE.out, hx0] at r1;rw [eI] at z1;rw [eV, ← HNE.out] at z3 r4;rw [eV] at z4;obtain ⟨W3, hW3⟩ := jxe (w1.setCell ⟨b, 4, none⟩ (.slice p1 (N + 1) c1));rw [hW3] at z3 r4;have HR1 := kAA r1;have HR4 := kAA r4;generalize S.vI.p = pI at *;generalize S.vK.p = pK at *;generalize S.vI.c = cI at *;generalize S.vK.c = cK at *;clear hown hlt hbok hfr hall r1 r4 eV eI bk HBk
   go_wp2_with (at_builtin; first | refine Lib.wpList_append_run _ rfl (.tmp 26) (.tmp 28) 34 34 rfl _ _ rfl rfl _ _ HR1.out ?_ | refine Lib.wpList_append_run _ rfl (.tmp 36) (.tmp 38) 35 35 rfl _ _ rfl rfl _ _ HR4.out ?_)
   go_end0
   exact ⟨rfl, HZ.out⟩
end Go.Proofs.YtflgicdbbogllaaGreatDoor
namespace Go.Proofs.YtflgicdbbogllaaGreatDoor
open Go.RowKit Tryz
open Value (int)
open IntKind (i64)
attribute [local go_sem ↓] wp_at_zero wp_at_succ
theorem kEI (n : Nat) (m : Int) (v : Value) (w : World) (h : Rd w v (List.replicate n m)) :
  Calls prog 44 #[v, int i64 m] w fun e w' => e = .returned (.bool true) ∧ w' = w := by
 obtain ⟨p, c, rfl, hp⟩ := h.at_;have hs := h.short;rw [jAY] at hp hs ⊢;have HP := kAA hp;clear h hp;go_enter func44, ntmps44
 go_wp2_with fail
 go_loopw [5] (fun q wr => ∃ i : Nat, i ≤ n ∧ q = int i64 i ∧ Hid (wr = w)) (fun q _ => n - (intOf q).toNat)
 case atStart => exact ⟨0, jAH _, rfl, kAA rfl⟩
 case round =>
  obtain ⟨i, hin, rfl, hw0⟩ := hrel;rw [hw0.out];clear hw0;have i1 := ng i
  by_cases hi : i < n
  ·have i2 : (i : Int) < n := by omega
   obtain ⟨g, off, rfl, hg, hc⟩ := HP.out (by omega);have x1 := hc i hi;have e : (List.replicate n m).getD i 0 = m := by rw [jAA, jAo, jp hi]; rfl
   rw [e] at x1;clear hc e
   go_wp2_with fail
   go_roundw
   case rel => exact ⟨i + 1, by omega, by go_num, by first | exact kAA rfl | exact kAA trivial⟩
   case measure => simp [intOf]; omega
  ·have hie : i = n := by omega
   subst hie
   go_wp2_with fail
   go_ret
   exact ⟨rfl, rfl⟩
end Go.Proofs.YtflgicdbbogllaaGreatDoor
namespace Go.Proofs.YtflgicdbbogllaaGreatDoor
open Go.RowKit Go.Maps Tryz
open Value (int)
open IntKind (i64)
attribute [local go_sem ↓] wp_at_zero wp_at_succ
variable {A S : Sc} {H : Hdr} {b : Nat} {w w' w'' : World}
structure Gd (w w' : World) (b : Nat) (H : Hdr) (S A : Sc) : Prop where
 bok : Bok w' b H A
 fr : Fr (b :: S.all) w w'
 all : ∀ g ∈ A.all, g ∈ S.all ∨ w.heap.size ≤ g
 len : A.olds.length + A.news.length = S.olds.length + S.news.length
theorem Gd.fK (h : Gd w w' b H S A) (hf : Fr [] w' w'') : Gd w w'' b H S A :=
 ⟨h.bok.keep hf (by simp) (by simp), h.fr.trans hf (by simp), h.all, h.len⟩
theorem Gd.next {x : Le} {m : Int} {rest : List (Le × Int)} {y vM' : Le} (h : Gd w w' b H S A) (hn : A.news = (x, m) :: rest) (hb : Bok w'' b H (A.grown x m rest y vM')) (hf : Fr (b :: A.hot) w' w'') (ha : ∀ g ∈ (A.grown x m rest y vM').all, g ∈ A.all ∨ w'.heap.size ≤ g) : Gd w w'' b H S (A.grown x m rest y vM') := by
 have hs := h.fr.size;have hl : (A.grown x m rest y vM').olds.length + (A.grown x m rest y vM').news.length = A.olds.length + A.news.length := by rw [hn]; simp [Sc.grown]; omega
 refine ⟨hb, h.fr.trans hf fun g hg => ?_, fun g hg => ?_, by rw [hl]; exact h.len⟩
 ·rcases jAF.1 hg with hg | hg
  ·exact .inl (jAF.2 (.inl hg))
  ·rcases h.all g (kBR hg) with h1 | h1
   ·exact .inl (jAF.2 (.inr h1))
   ·exact .inr h1
 ·rcases ha g hg with h2 | h2
  ·exact h.all g h2
  ·exact .inr (by omega)
theorem kLg (b : Nat) (H : Hdr) (S : Sc) (w : World) (h : Bok w b H S) (k1 : S.olds.length + S.news.length ≤ 8796093022000) :
  Calls prog 9 #[.pointer (some ⟨b, 4, none⟩)] w fun e w' => e = .returned (.bool true) ∧ ∃ A, A.news = [] ∧ Gd w w' b H S A := by
 have HG1 : Hid (Gd w w b H S S) := ⟨h, Fr.refl _ _, fun g hg => .inl hg, rfl⟩;have HL1 := kAA k1;clear h k1;go_enter func9, ntmps9;have nM1 := HG1.out.bok.ok.nM;have tt1 := HG1.out.bok.top;have hN1 := HL1.out;obtain ⟨N1, eN1⟩ := jex (S.olds.length + S.news.length);have y1M : w.cell? ⟨b, 5, none⟩ = some (.slice S.vM.p S.vM.n S.vM.c) := by rw [kAC tt1]; rfl
 have HNe1 := kAA eN1;obtain ⟨jj1, ej1⟩ := jex (S.vM.n);rw [← ej1] at y1M;have ej1' : S.olds.length = jj1 := by omega
 rw [← eN1] at hN1;have HeJ1 := kAA ej1';clear tt1 nM1 eN1 ej1 ej1';generalize S.vM.p = pM1 at y1M;generalize S.vM.c = cM1 at y1M
 go_wp2_with fail
 go_loopw [3] (fun q wr => ∃ (j : Nat) (A : Sc), j ≤ N1 ∧ q = int i64 j ∧ Hid (A.olds.length = j) ∧ Hid (A.olds.length + A.news.length = N1) ∧ Hid (Gd w wr b H S A)) (fun q _ => N1 - (intOf q).toNat)
 case atStart => exact ⟨jj1, S, by have := HNe1.out; have := HeJ1.out; omega, rfl, HeJ1, HNe1.out.symm, HG1⟩
 case round =>
  obtain ⟨j, A, hjn, rfl, hAj, hAN, hG⟩ := hrel;have j1 := ng j;have topA := hG.out.bok.top;have vIn : A.vI.n = N1 := by rw [hG.out.bok.ok.nI]; exact hAN.out
  have vKn : A.vK.n = N1 := by rw [hG.out.bok.ok.nK]; exact hAN.out
  have vMn : A.vM.n = j := by rw [hG.out.bok.ok.nM]; exact hAj.out
  have x0 : wr.cell? ⟨b, 4, none⟩ = some (.slice A.vI.p N1 A.vI.c) := by rw [kAC topA, ← vIn]; rfl
  have x1 : wr.cell? ⟨b, 5, none⟩ = some (.slice A.vM.p j A.vM.c) := by rw [kAC topA, ← vMn]; rfl
  have x2 : wr.cell? ⟨b, 6, none⟩ = some (.slice A.vK.p N1 A.vK.c) := by rw [kAC topA, ← vKn]; rfl
  by_cases hlt : j < N1
  ·have j2 : (j : Int) < N1 := by omega
   obtain ⟨x, m, rest, hnews⟩ : ∃ x m rest, A.news = (x, m) :: rest := by
    have h1 := hAN.out;have h2 := hAj.out
    cases hc : A.news with
    | nil => rw [hc] at h1; simp at h1; omega
    | cons a r => exact ⟨a.1, a.2, r, rfl⟩
   have hmem : (x, m) ∈ A.news := by rw [hnews]; exact List.mem_cons_self
   have how := hG.out.bok.ok.new _ hmem;obtain ⟨⟨gI, eI, -, cI0⟩, gK, eK, lK, cK0⟩ := hG.out.bok.ok.first hnews
   rw [hAj.out] at cI0 cK0;rw [eI] at x0;rw [eK] at x2;have xN : ∀ g ∈ blk x.p, g ∈ A.fresh := fun g hg => jAd.2 ⟨(x, m), hmem, hg⟩
   have bx : b ∉ blk x.p := fun hm => hG.out.bok.b1 (kBR (jAC.2 (.inr (xN b hm))))
   have gKx : gK ∉ blk x.p := fun hm => hG.out.bok.ok.dKN gK (by rw [eK]; simp [blk]) (xN gK hm)
   have HC2 : Hid (∀ V, Fr (blk x.p) wr V → V.cell? ⟨b, 6, none⟩ = some (.slice (some ⟨gK, 0, none⟩) N1 A.vK.c) ∧ V.cell? ⟨gK, j, none⟩ = some (int i64 m)) := fun V hV => by
    refine ⟨?_, ?_⟩
    ·rw [hV.cell (p := ⟨b, 6, none⟩) (kAB topA) bx]; exact x2
    ·rw [hV.cell (p := ⟨gK, j, none⟩) lK gKx]; exact cK0
   have HGw : Hid (Gw kBu wr wr x m 0 x.p x.c) := Gw.start how;have hsh : x.n ≤ 1100000 := how.short;have HNw := kAA hnews;obtain ⟨xp, xn, xc⟩ := x;simp only [Le.v] at cI0;replace hsh : xn ≤ 1100000 := hsh;have HTop := kAA (And.intro vMn (And.intro hAj.out hAN.out));clear topA vIn vKn vMn how hmem xN bx gKx cK0 eI eK lK hnews hAj hAN;generalize A.vI.c = cI at *;generalize A.vK.c = cK at *;generalize hpj : A.vM.p = pj at *;generalize hcj : A.vM.c = cj at *;generalize wr = wo at *
   go_wp2_with fail
   go_loopw [4, 5] (fun gv q V => ∃ (kk : Nat) (pk : Option Addr) (ck : Nat), kk ≤ 70 ∧ q = int i64 kk ∧ gv = .slice pk (xn + kk) ck ∧ Hid (Gw kBu wo V ⟨xp, xn, xc⟩ m kk pk ck)) (fun _ q _ => 70 - (intOf q).toNat)
   case atStart => exact ⟨0, xp, xc, by omega, rfl, rfl, HGw⟩
   case round =>
    obtain ⟨kk, pk, ck, hk70, rfl, rfl, hgw⟩ := hrel;have k1 := ng kk;obtain ⟨z2, z3⟩ := HC2.out wr hgw.out.fr
    by_cases hk7 : kk < 70
    ·have k2 : (kk : Int) < 70 := by omega
     obtain ⟨p', c', w', r1, o1, mv1⟩ := kHn wr (xn + kk) pk ck m hgw.out.own (by omega);have HG2 : Hid (Gw kBu wo w' ⟨xp, xn, xc⟩ m (kk + 1) p' c') := hgw.out.next (fun _ => rfl) o1 mv1;have HR1 : Hid ((Builtin.append_ #[35, 35] 35 #[.slice pk (xn + kk) ck, .slice (some ⟨wr.heap.size, 0, none⟩) 1 1]).run prog (wr.alloc (.cells #[int i64 m] 41)) = .ok (.slice p' (xn + kk + 1) c') w') := r1;clear r1 o1 mv1 hgw
     go_wp2_with (at_builtin; refine Lib.wpList_append_run _ rfl (.tmp _) (.tmp _) 35 35 rfl _ _ rfl rfl _ _ HR1.out ?_)
     go_roundw
     case rel => exact ⟨kk + 1, p', c', by omega, by go_num, rfl, HG2⟩
     case measure => simp [intOf]; omega
    ·have hke : kk = 70 := by omega
     subst hke;obtain ⟨q1, p1, c1, w1, r1, q2, fz2, hbk, hfr, hall⟩ := hG.out.bok.grow HNw.out (by have := HTop.out; omega) hgw.out;have eV : A.vM.v = .slice pj j cj := by rw [← hpj, ← hcj, ← HTop.out.1]; rfl
     have hZ : Hid (∃ A' : Sc, A'.olds.length = j + 1 ∧ A'.olds.length + A'.news.length = N1 ∧ Gd w (w1.setCell ⟨b, 5, none⟩ (.slice p1 (j + 1) c1)) b H S A') := by
      have hx := hG.out.next HNw.out hbk hfr hall;rw [HTop.out.1] at hx;refine ⟨_, ?_, ?_, hx⟩
      ·show (A.olds ++ [_]).length = _;rw [jAG, HTop.out.2.1]; rfl
      ·have h3 := HTop.out.2.2;rw [HNw.out] at h3
       simp [Sc.grown] at h3 ⊢
       omega
     rw [eV, HTop.out.1] at r1;rw [eV] at q1 q2;have HR1 := kAA r1;clear r1 hbk hfr hall hgw eV
     go_wp2_with (at_builtin; refine Lib.wpList_append_run _ rfl (.tmp _) (.tmp _) 34 34 rfl _ _ rfl rfl _ _ HR1.out ?_)
     go_roundw
     case rel =>
      obtain ⟨A', z1, z2, z3⟩ := hZ.out;exact ⟨j + 1, A', by omega, by go_num, z1, z2, z3⟩
     case measure => simp [intOf]; omega
  ·have hje : j = N1 := by omega
   have j2 : ¬ (j : Int) < N1 := by omega
   have HE1 : Hid (A.news = []) := by
    have h1 := hAN.out;have h2 := hAj.out
    cases hc : A.news with
    | nil => rfl
    | cons a r => rw [hc] at h1; simp at h1; omega
   have HN1 : Hid (A.vI.n = N1 ∧ A.vM.n = N1 ∧ A.vK.n = N1 ∧ A.olds.length = N1) := ⟨vIn, vMn.trans hje, vKn, hAj.out.trans hje⟩;have HBk := kAA hG.out.bok;clear hAj hAN topA vIn vKn vMn;subst hje;generalize wr = wo1 at *;have hQ1 : Hid (Fr [] wo1 wo1) := Fr.refl _ _;generalize A.vI.p = pI0 at x0;generalize A.vI.c = cI0 at x0;generalize A.vK.p = pK0 at x2;generalize A.vK.c = cK0 at x2;generalize A.vM.p = pM0 at x1;generalize A.vM.c = cM0 at x1
   go_wp2_with fail
   go_loopw [6] (fun q wr => ∃ i : Nat, i ≤ j ∧ q = int i64 i ∧ Hid (Fr [] wo1 wr)) (fun q _ => j - (intOf q).toNat)
   case atStart => exact ⟨0, jAH _, rfl, hQ1⟩
   case round =>
    obtain ⟨i, hin, rfl, hq⟩ := hrel;have i1 := ng i;have hbw : Bok wr b H A := HBk.out.keep hq.out (by simp) (by simp);have tt := hbw.top;clear x0 x1 x2;have x0 : wr.cell? ⟨b, 4, none⟩ = some (.slice A.vI.p j A.vI.c) := by rw [kAC tt]; show some (Value.slice A.vI.p A.vI.n A.vI.c) = _; rw [HN1.out.1]
    have x1 : wr.cell? ⟨b, 5, none⟩ = some (.slice A.vM.p j A.vM.c) := by rw [kAC tt]; show some (Value.slice A.vM.p A.vM.n A.vM.c) = _; rw [HN1.out.2.1]
    have x2 : wr.cell? ⟨b, 6, none⟩ = some (.slice A.vK.p j A.vK.c) := by rw [kAC tt]; show some (Value.slice A.vK.p A.vK.n A.vK.c) = _; rw [HN1.out.2.2.1]
    by_cases hi : i < j
    ·have i2 : (i : Int) < j := by omega
     obtain ⟨x, y, m, f1, f2, ⟨gI, eI, lI, cI0⟩, ⟨gM, eM, lM, cM0⟩, gK, eK, lK, cK0⟩ := hbw.ok.ith (i := i) (by rw [HN1.out.2.2.2]; exact hi);rw [eI] at x0;rw [eM] at x1;rw [eK] at x2;have HF1 : Hid (∀ V, Hid (Fr [] wr V) → Calls prog 44 #[x.v, int i64 m] V fun e w' => e = .returned (.bool true) ∧ w' = V) := fun V hV => kEI x.n m x.v V (f1.rdW.fK hV.out)
     have HF2 : Hid (∀ V, Hid (Fr [] wr V) → Calls prog 44 #[y.v, int i64 m] V fun e w' => e = .returned (.bool true) ∧ w' = V) := fun V hV => kEI y.n m y.v V (f2.rdW.fK hV.out)
     obtain ⟨xp, xn, xc⟩ := x;obtain ⟨yp, yn, yc⟩ := y;simp only [Le.v] at cI0 cM0 HF1 HF2
     have HCel : Hid (∀ V, Hid (Fr [] wr V) → V.cell? ⟨b, 4, none⟩ = some (.slice (some ⟨gI, 0, none⟩) j A.vI.c) ∧ V.cell? ⟨b, 5, none⟩ = some (.slice (some ⟨gM, 0, none⟩) j A.vM.c) ∧ V.cell? ⟨b, 6, none⟩ = some (.slice (some ⟨gK, 0, none⟩) j A.vK.c) ∧ V.cell? ⟨gI, i, none⟩ = some (.slice xp xn xc) ∧ V.cell? ⟨gM, i, none⟩ = some (.slice yp yn yc) ∧ V.cell? ⟨gK, i, none⟩ = some (int i64 m)) := fun V hV => by
      refine ⟨?_, ?_, ?_, ?_, ?_, ?_⟩
      ·rw [hV.out.cell (p := ⟨b, 4, none⟩) (kAB tt) (by simp)]; exact x0
      ·rw [hV.out.cell (p := ⟨b, 5, none⟩) (kAB tt) (by simp)]; exact x1
      ·rw [hV.out.cell (p := ⟨b, 6, none⟩) (kAB tt) (by simp)]; exact x2
      ·rw [hV.out.cell (p := ⟨gI, i, none⟩) lI (by simp)]; exact cI0
      ·rw [hV.out.cell (p := ⟨gM, i, none⟩) lM (by simp)]; exact cM0
      ·rw [hV.out.cell (p := ⟨gK, i, none⟩) lK (by simp)]; exact cK0
     have HFF : Hid (∀ V v, (v = .slice xp xn xc ∨ v = .slice yp yn yc) → Hid (Fr [] wr V) → Calls prog 44 #[v, int i64 m] V fun e w' => e = .returned (.bool true) ∧ w' = V) := fun V v hv hV => by
      rcases hv with rfl | rfl
      ·exact HF1.out V hV
      ·exact HF2.out V hV
     have hR : Hid (Fr [] wr wr) := Fr.refl _ _;clear hbw f1 f2 tt HF1 HF2 lI lM lK eI eM eK;generalize A.vI.c = cI at *;generalize A.vM.c = cM at *;generalize A.vK.c = cK at *
     go_wp2_with fail
     go_region_held3 (fun V => V.cell? ⟨b, 4, none⟩ = some (.slice (some ⟨gI, 0, none⟩) j cI) ∧ V.cell? ⟨b, 5, none⟩ = some (.slice (some ⟨gM, 0, none⟩) j cM) ∧ V.cell? ⟨b, 6, none⟩ = some (.slice (some ⟨gK, 0, none⟩) j cK) ∧ V.cell? ⟨gI, i, none⟩ = some (.slice xp xn xc) ∧ V.cell? ⟨gM, i, none⟩ = some (.slice yp yn yc) ∧ V.cell? ⟨gK, i, none⟩ = some (int i64 m))
      (first | exact HCel.out _ (kAF hR) | exact HCel.out _ hR | exact HCel.out _ (by assumption))
      (first | (go_at_call 44; refine (HFF.out _ _ (by first | exact .inl rfl | exact .inr rfl) (kAF hR)).mono ?_; rintro e w' ⟨rfl, hw'⟩; subst hw'))
     all_goals go_wp2_with fail
     all_goals
      go_roundw
      case rel => exact ⟨i + 1, by omega, by go_num, kAF hq⟩
      case measure => simp [intOf]; omega
    ·have hie : i = j := by omega
     have i2 : ¬ (i : Int) < j := by omega
     have HZ : Hid (∃ A, A.news = [] ∧ Gd w wr b H S A) := ⟨A, HE1.out, hG.out.fK hq.out⟩;clear hbw tt hq;generalize A.vI.p = pI at *;generalize A.vM.p = pM at *;generalize A.vK.p = pK at *;generalize A.vI.c = cI at *;generalize A.vM.c = cM at *;generalize A.vK.c = cK at *
     go_wp2_with fail
     go_ret
     exact ⟨rfl, HZ.out⟩
end Go.Proofs.YtflgicdbbogllaaGreatDoor
namespace Go.Proofs.YtflgicdbbogllaaGreatDoor
open Go.RowKit Tryz
open Value (int)
open IntKind (i64)
attribute [local go_sem ↓] wp_at_zero wp_at_succ
variable {A : Sc} {B X : List Nat} {D : Option Sd} {g i j n t : Nat} {w : World}
def Apt (L : List (List Nat)) : Prop := L.Pairwise fun A B => ∀ g ∈ A, g ∉ B
theorem Apt.ne {L : List (List Nat)} (h : Apt L) {A : List Nat} (hi : L[i]? = some A) (hj : L[j]? = some B) (hij : i ≠ j) (hA : g ∈ A) : g ∉ B := by
 obtain ⟨li, ei⟩ := jAc.1 hi;obtain ⟨lj, ej⟩ := jAc.1 hj;have hp := jAm.1 h;rcases Nat.lt_or_gt_of_ne hij with e | e
 ·have := hp i j li lj e;rw [ei, ej] at this;exact this g hA
 ·have := hp j i lj li e;rw [ei, ej] at this;exact fun hB => this g hB hA
theorem Apt.of {L L' : List (List Nat)} {N : Nat} (h : Apt L) (hlt : ∀ A ∈ L, ∀ g ∈ A, g < N) (k : Nat) (X : List Nat) (hX : ∀ g ∈ X, (∃ A, L[k]? = some A ∧ g ∈ A) ∨ N ≤ g) (hL : L' = L.set k X) : Apt L' := by
 subst hL;refine jAm.2 fun i j hi hj hij g hg hm => ?_
 rw [jAL] at hi hj;rw [List.getElem_set] at hg hm
 by_cases ei : k = i
 ·rw [jp ei] at hg;rw [jn (by omega)] at hm;rcases hX g hg with ⟨A, hA, hgA⟩ | hg
  ·exact h.ne hA (jAB hj) (by omega) hgA hm
  ·have := hlt _ (jAT hj) g hm; omega
 ·rw [jn ei] at hg
  by_cases ej : k = j
  ·rw [jp ej] at hm;rcases hX g hm with ⟨A, hA, hgA⟩ | hm
   ·exact h.ne (jAB hi) hA (by omega) hg hgA
   ·have := hlt _ (jAT hi) g hg; omega
  ·rw [jn ej] at hm;exact h.ne (jAB hi) (jAB hj) (by omega) hg hm
structure Wl where
 b : Nat
 dA : Option Sd
 dB : Option Sd
 S : Sc
def Wl.L (x : Wl) : List (List Nat) := [[x.b], x.S.all, sdF x.dA, sdF x.dB]
def Wl.hd (t : Nat) (x : Wl) : Hdr := if t = 0 then ⟨vO x.dA, vO x.dB, vR x.dA, vR x.dB⟩ else ⟨vO x.dB, vO x.dA, vR x.dB, vR x.dA⟩
def Liv (x : Wl) (g : Nat) : Prop := ∃ A ∈ x.L, g ∈ A
structure WOk (w : World) (n t : Nat) (x : Wl) : Prop where
 bok : Bok w x.b (x.hd t) x.S
 okA : SpOk w n x.dA
 okB : SpOk w n x.dB
 tb : Tbs w
 ap : Apt x.L
 lo : ∀ g, Liv x g → 2 ≤ g
 c1 : x.S.olds.length + x.S.news.length ≤ n
section
variable {w w' : World} {n n' t : Nat} {x : Wl} {g : Nat}
theorem liv0 : Liv x x.b := ⟨[x.b], by simp [Wl.L], by simp⟩
theorem liv1 (h : g ∈ x.S.all) : Liv x g := ⟨_, by simp [Wl.L], h⟩
theorem liv4 (h : g ∈ sdF x.dA) : Liv x g := ⟨sdF x.dA, by simp [Wl.L], h⟩
theorem liv5 (h : g ∈ sdF x.dB) : Liv x g := ⟨sdF x.dB, by simp [Wl.L], h⟩
theorem kDL (h : Liv x g) : g = x.b ∨ g ∈ x.S.all ∨ g ∈ sdF x.dA ∨ g ∈ sdF x.dB := by
 obtain ⟨A, hA, hg⟩ := h;simp only [Wl.L, jAF, List.not_mem_nil, or_false] at hA;rcases hA with rfl | rfl | rfl | rfl
 ·exact .inl (by simpa using hg)
 ·exact .inr (.inl hg)
 ·exact .inr (.inr (.inl hg))
 ·exact .inr (.inr (.inr hg))
theorem WOk.lt (h : WOk w n t x) (hg : Liv x g) : g < w.heap.size := by
 rcases kDL hg with rfl | hg | hg | hg
 ·exact kAB h.bok.top
 ·exact h.bok.ok.lt hg
 ·exact h.okA.lt g hg
 ·exact h.okB.lt g hg
theorem WOk.ltL (h : WOk w n t x) : ∀ A ∈ x.L, ∀ g ∈ A, g < w.heap.size := fun A hA g hg => h.lt ⟨A, hA, hg⟩
theorem WOk.dj (h : WOk w n t x) {A : List Nat} (hi : x.L[i]? = some A) (hj : x.L[j]? = some B) (hij : i ≠ j) (hA : g ∈ A) : g ∉ B := h.ap.ne hi hj hij hA
theorem WOk.more (h : WOk w n t x) (hn : n ≤ n') : WOk w n' t x := ⟨h.bok, h.okA.more hn, h.okB.more hn, h.tb, h.ap, h.lo, by have := h.c1; omega⟩
theorem WOk.fK (h : WOk w n t x) (hf : Fr [] w w') : WOk w' n t x := ⟨h.bok.keep hf (by simp) (by simp), h.okA.fK hf, h.okB.fK hf, h.tb.keep hf (by simp), h.ap, h.lo, h.c1⟩
theorem WOk.pair (h : WOk w n t x) (hn : n ≤ n') (hp : kBm w w' n' x.dA D) : WOk w' n' t { x with dA := D } := by
 have n0 : x.b ∉ sdF x.dA := h.dj (i := 0) (j := 2) rfl rfl (by decide) (jAp.2 rfl);have hh : Wl.hd t { x with dA := D } = x.hd t := by unfold Wl.hd; dsimp only; rw [hp.pO, hp.pR]
 have hb := h.bok.keep hp.fr n0 fun g hg => h.dj (i := 1) (j := 2) rfl rfl (by decide) hg
 refine ⟨by rw [hh]; exact hb, hp.ok, (h.okB.keep hp.fr fun g hg => h.dj (i := 3) (j := 2) rfl rfl (by decide) hg).more hn, h.tb.keep hp.fr fun g hg => h.lo g (liv4 hg), h.ap.of h.ltL 2 (sdF D) (fun g hg => ?_) rfl, fun g hg => ?_, jAU h.c1 hn⟩
 ·rcases hp.foot g hg with q | q
  ·exact .inl ⟨_, rfl, q⟩
  ·exact .inr q
 ·rcases kDL hg with e | e | e | e
  ·exact h.lo g (e ▸ liv0)
  ·exact h.lo g (liv1 e)
  ·rcases hp.foot g e with q | q
   ·exact h.lo g (liv4 q)
   ·have := h.tb.s; omega
  ·exact h.lo g (liv5 e)
theorem WOk.swap (h : WOk w n t x) : WOk w n (if t = 0 then 1 else 0) { x with dA := x.dB, dB := x.dA } := by
 have hh : Wl.hd (if t = 0 then 1 else 0) { x with dA := x.dB, dB := x.dA } = x.hd t := by
  unfold Wl.hd
  by_cases e : t = 0
  ·rw [jp e, jp e]; rfl
  ·rw [jn e, jn e]; rfl
 refine ⟨by rw [hh]; exact h.bok, h.okB, h.okA, h.tb, ?_, fun g hg => h.lo g ?_, h.c1⟩
 ·have d01 := fun g => h.dj (i := 0) (j := 1) (g := g) rfl rfl (by decide)
  have d02 := fun g => h.dj (i := 0) (j := 2) (g := g) rfl rfl (by decide)
  have d03 := fun g => h.dj (i := 0) (j := 3) (g := g) rfl rfl (by decide)
  have d12 := fun g => h.dj (i := 1) (j := 2) (g := g) rfl rfl (by decide)
  have d13 := fun g => h.dj (i := 1) (j := 3) (g := g) rfl rfl (by decide)
  have d32 := fun g => h.dj (i := 3) (j := 2) (g := g) rfl rfl (by decide)
  show List.Pairwise _ [_, _, _, _];refine .cons (fun B hB => ?_) (.cons (fun B hB => ?_) (.cons (fun B hB => ?_) (.cons (fun B hB => ?_) .nil)))
  all_goals simp only [jAF, List.not_mem_nil, or_false] at hB
  ·rcases hB with rfl | rfl | rfl
   ·exact d01
   ·exact d03
   ·exact d02
  ·rcases hB with rfl | rfl
   ·exact d13
   ·exact d12
  ·rw [hB]; exact d32
 ·rcases kDL hg with e | e | e | e
  ·exact e ▸ liv0
  ·exact liv1 e
  ·exact liv5 e
  ·exact liv4 e
theorem WOk.book (h : WOk w n t x) (hn : n ≤ n') (hb : Bok w' x.b (x.hd t) A) (hf : Fr X w w') (hX : ∀ g ∈ X, g = x.b ∨ g ∈ x.S.all ∨ w.heap.size ≤ g) (ha : ∀ g ∈ A.all, g ∈ x.S.all ∨ w.heap.size ≤ g) 
  (k1 : A.olds.length + A.news.length ≤ n') : WOk w' n' t { x with S := A } := by
 have out : ∀ {j : Nat} {B : List Nat}, x.L[j]? = some B → 2 ≤ j → ∀ g ∈ B, g ∉ X := fun {j B} hj h2 g hg hm => by
  rcases hX g hm with q | q | q
  ·exact h.dj (i := 0) rfl hj (by omega) (jAp.2 q) hg
  ·exact h.dj (i := 1) rfl hj (by omega) q hg
  ·have := h.ltL B (jAn hj) g hg; omega
 refine ⟨hb, (h.okA.keep hf (out (j := 2) rfl (by decide))).more hn, (h.okB.keep hf (out (j := 3) rfl (by decide))).more hn, h.tb.keep hf fun g hg => ?_, h.ap.of h.ltL 1 A.all (fun g hg => ?_) rfl, fun g hg => ?_, k1⟩
 ·rcases hX g hg with q | q | q
  ·exact h.lo g (q ▸ liv0)
  ·exact h.lo g (liv1 q)
  ·have := h.tb.s; omega
 ·rcases ha g hg with q | q
  ·exact .inl ⟨_, rfl, q⟩
  ·exact .inr q
 ·rcases kDL hg with e | e | e | e
  ·exact h.lo g (e ▸ liv0)
  ·rcases ha g e with q | q
   ·exact h.lo g (liv1 q)
   ·have := h.tb.s; omega
  ·exact h.lo g (liv4 e)
  ·exact h.lo g (liv5 e)
theorem WOk.grown (h : WOk w n t x) (hg : Gd w w' x.b (x.hd t) x.S A) : WOk w' n t { x with S := A } :=
 h.book (jAD _) hg.bok hg.fr (fun g hm => by
  rcases jAF.1 hm with q | q
  ·exact .inl q
  ·exact .inr (.inl q)) hg.all (by rw [hg.len]; exact h.c1)
theorem Bok.head {b : Nat} {H : Hdr} {S : Sc} (h : Bok w b H S) (H' : Hdr) (ht : w'.heap[b]? = some (.cells #[H'.o0, H'.o1, H'.r0, H'.r1, S.vI.v, S.vM.v, S.vK.v] 39 (0, 0))) (hf : Fr [b] w w') : Bok w' b H' S :=
 ⟨ht, h.ok.keep hf fun g hg hm => h.b1 ((jAp.1 hm) ▸ hg), h.b1⟩
theorem WOk.load (h : WOk w n t x) (hn : n ≤ n') {w1 : World} (hf1 : Fr [] w w1) (hd : SpOk w1 n' D) (hnew : ∀ g ∈ sdF D, w.heap.size ≤ g) (hf : Fr [x.b] w1 w') 
  (ht : w'.heap[x.b]? = some (.cells #[(Wl.hd t { x with dA := D }).o0, (Wl.hd t { x with dA := D }).o1, (Wl.hd t { x with dA := D }).r0, (Wl.hd t { x with dA := D }).r1, x.S.vI.v, x.S.vM.v, x.S.vK.v] 39 (0, 0))) :
  WOk w' n' t { x with dA := D } := by
 have h1 := h.fK hf1;have hlt := h.lt (liv0 (x := x));have F : Fr [x.b] w w' := (hf1.mono (by simp)).trans hf fun g hg => .inl hg
 have out : ∀ {j : Nat} {B : List Nat}, x.L[j]? = some B → 1 ≤ j → ∀ g ∈ B, g ∉ [x.b] := fun {j B} hj h2 g hg hm => h.dj (i := 0) rfl hj (by omega) hm hg
 refine ⟨h1.bok.head _ ht hf, (SpOk.keep (D := D) hd hf fun g hg hm => by have := hnew g hg; have := jAp.1 hm; omega), (h.okB.keep F (out (j := 3) rfl (by decide))).more hn, h.tb.keep F fun g hg => h.lo g ((jAp.1 hg) ▸ liv0), h.ap.of h.ltL 2 (sdF D) (fun g hg => .inr (hnew g hg)) rfl, fun g hg => ?_, jAU h.c1 hn⟩;rcases kDL hg with e | e | e | e
 ·exact h.lo g (e ▸ liv0)
 ·exact h.lo g (liv1 e)
 ·have := hnew g e; have := h.tb.s; omega
 ·exact h.lo g (liv5 e)
end
structure Go1 (w w' : World) (x x' : Wl) : Prop where
 fr : ∃ X, Fr X w w' ∧ ∀ g ∈ X, Liv x g ∨ w.heap.size ≤ g
 liv : ∀ g, Liv x' g → Liv x g ∨ w.heap.size ≤ g
section
variable {w w' w'' : World} {n n' t : Nat} {x x' x'' : Wl}
theorem Go1.fK (x : Wl) (hf : Fr [] w w') : Go1 w w' x x := ⟨⟨[], hf, by simp⟩, fun g hg => .inl hg⟩
theorem Go1.trans (h : Go1 w w' x x') (k : Go1 w' w'' x' x'') : Go1 w w'' x x'' := by
 obtain ⟨X, hf, hX⟩ := h.fr;obtain ⟨Y, kf, kY⟩ := k.fr;have hs := hf.size;refine ⟨⟨X ++ Y, (hf.mono fun g hg => .inl (jAC.2 (.inl hg))).trans kf fun g hg => .inl (jAC.2 (.inr hg)), fun g hg => ?_⟩, fun g hg => ?_⟩
 ·rcases jAC.1 hg with hg | hg
  ·exact hX g hg
  ·rcases kY g hg with q | q
   ·exact h.liv g q
   ·exact .inr (by omega)
 ·rcases k.liv g hg with q | q
  ·exact h.liv g q
  ·exact .inr (by omega)
theorem kBV (hp : kBm w w' n' x.dA D) : Go1 w w' x { x with dA := D } := by
 refine ⟨⟨_, hp.fr, fun g hg => .inl (liv4 hg)⟩, fun g hg => ?_⟩;rcases kDL hg with e | e | e | e
 ·exact .inl (e ▸ liv0)
 ·exact .inl (liv1 e)
 ·rcases hp.foot g e with q | q
  ·exact .inl (liv4 q)
  ·exact .inr q
 ·exact .inl (liv5 e)
theorem kQO (w : World) (x : Wl) : Go1 w w x { x with dA := x.dB, dB := x.dA } := by
 refine ⟨⟨[], Fr.refl _ _, by simp⟩, fun g hg => .inl ?_⟩;rcases kDL hg with e | e | e | e
 ·exact e ▸ liv0
 ·exact liv1 e
 ·exact liv5 e
 ·exact liv4 e
theorem kJx (hf : Fr X w w') (hX : ∀ g ∈ X, g = x.b ∨ g ∈ x.S.all ∨ w.heap.size ≤ g) (ha : ∀ g ∈ A.all, g ∈ x.S.all ∨ w.heap.size ≤ g) : Go1 w w' x { x with S := A } := by
 refine ⟨⟨X, hf, fun g hg => ?_⟩, fun g hg => ?_⟩
 ·rcases hX g hg with q | q | q
  ·exact .inl (q ▸ liv0)
  ·exact .inl (liv1 q)
  ·exact .inr q
 ·rcases kDL hg with e | e | e | e
  ·exact .inl (e ▸ liv0)
  ·rcases ha g e with q | q
   ·exact .inl (liv1 q)
   ·exact .inr q
  ·exact .inl (liv4 e)
  ·exact .inl (liv5 e)
theorem kPQ (hnew : ∀ g ∈ sdF D, w.heap.size ≤ g) (hf : Fr [x.b] w w') : Go1 w w' x { x with dA := D } := by
 refine ⟨⟨_, hf, fun g hg => .inl ((jAp.1 hg) ▸ liv0)⟩, fun g hg => ?_⟩;rcases kDL hg with e | e | e | e
 ·exact .inl (e ▸ liv0)
 ·exact .inl (liv1 e)
 ·exact .inr (hnew g e)
 ·exact .inl (liv5 e)
theorem kGT (h : WOk w n t x) (ht : t ≤ 1) (a : Nat) (ha : a ≤ 1) : ∃ x', x'.b = x.b ∧ WOk w n a x' ∧ Go1 w w x x' := by
 by_cases e : a = t
 ·exact ⟨x, rfl, by rw [e]; exact h, Go1.fK x (Fr.refl _ _)⟩
 ·have h1 := h.swap
  have e2 : (if t = 0 then 1 else 0) = a := by
   have : t = 0 ∨ t = 1 := by omega
   rcases this with e0 | e0
   ·rw [jp e0]; omega
   ·rw [jn (by omega)]; omega
  rw [e2] at h1;exact ⟨{ x with dA := x.dB, dB := x.dA }, rfl, h1, kQO w x⟩
def kAP (w : World) (n : Nat) (x : Wl) (w' : World) : Prop := ∃ x' t', t' ≤ 1 ∧ x'.b = x.b ∧ WOk w' (n + 8) t' x' ∧ Go1 w w' x x'
theorem kFa (O : Int) : ∃ (r s : Int) (a : Nat), O.tmod 2 = r ∧ IntKind.i64.wrap (r + 2) = s ∧ s.tmod 2 = (a : Int) ∧ a ≤ 1 ∧ IntKind.i64.wrap r = r ∧ IntKind.i64.wrap (a : Int) = (a : Int) := by
 have e : O.tmod 2 = -1 ∨ O.tmod 2 = 0 ∨ O.tmod 2 = 1 := by
  rw [Int.tmod_eq_emod]
  split <;> omega
 rcases e with e | e | e
 ·exact ⟨-1, 1, 1, e, by decide, by decide, by omega, by decide, by decide⟩
 ·exact ⟨0, 2, 0, e, by decide, by decide, by omega, by decide, by decide⟩
 ·exact ⟨1, 3, 1, e, by decide, by decide, by omega, by decide, by decide⟩
end
def Wl.at (t0 : Nat) (x : Wl) (i : Nat) : Option Sd := if i = t0 then x.dA else x.dB
theorem kDZ {x : Wl} (h : WOk w n t x) (ht : t ≤ 1) (i : Nat) (hi : i ≤ 1) : w.cell? ⟨x.b, i, none⟩ = some (vO (x.at t i)) ∧ w.cell? ⟨x.b, 2 + i, none⟩ = some (vR (x.at t i)) := by
 have tt := h.bok.top;have e : t = 0 ∨ t = 1 := by omega
 have f : i = 0 ∨ i = 1 := by omega
 rcases e with rfl | rfl <;> rcases f with rfl | rfl <;> exact ⟨by rw [kAC tt]; rfl, by rw [kAC tt]; rfl⟩
theorem WOk.prAt {x : Wl} (h : WOk w n t x) (i : Nat) : SpOk w n (x.at t i) := by
 unfold Wl.at
 split
 ·exact h.okA
 ·exact h.okB
end Go.Proofs.YtflgicdbbogllaaGreatDoor
namespace Go.Proofs.YtflgicdbbogllaaGreatDoor
open Go.RowKit Go.Maps Tryz
open Value (int)
open IntKind (i64)
attribute [local go_sem ↓] wp_at_zero wp_at_succ
variable {e : Ending} {w w' w1 w2 : World} {x y : Int}
theorem kOU (h : SNw x y w e w') : ∃ (p : Option Addr) (c : Int), e = .returned (.tuple #[.pointer p, int i64 c]) := by
 obtain ⟨-, ⟨-, rfl⟩ | ⟨-, s, a, rfl, -⟩⟩ := h
 ·exact ⟨_, _, rfl⟩
 ·exact ⟨_, _, rfl⟩
theorem kOX (h : DNw x y w e w') : ∃ (p : Option Addr) (c : Int), e = .returned (.tuple #[.pointer p, int i64 c]) := by
 obtain ⟨-, ⟨-, rfl⟩ | ⟨-, s, a, rfl, -⟩⟩ := h
 ·exact ⟨_, _, rfl⟩
 ·exact ⟨_, _, rfl⟩
theorem WOk.fresh {w3 w4 V : World} {dA dB : Option Sd} (hT : Tbs w) (f1 : Fr [] w w1) (f2 : Fr [] w1 w2) (f3 : Fr [] w2 w3) (f4 : Fr [] w3 w4) (oA : SpOk w3 0 dA) (oB : SpOk w4 0 dB) 
  (gA : ∀ g ∈ sdF dA, (w.heap.size ≤ g ∧ g < w1.heap.size) ∨ (w2.heap.size ≤ g ∧ g < w3.heap.size)) (gB : ∀ g ∈ sdF dB, (w1.heap.size ≤ g ∧ g < w2.heap.size) ∨ (w3.heap.size ≤ g ∧ g < w4.heap.size)) (hV : Fr [] w4 V)
  (ht : V.heap[w4.heap.size]? = some (.cells #[vO dA, vO dB, vR dA, vR dB, .slice none 0 0, .slice none 0 0, .slice none 0 0] 39 (0, 0))) :
  WOk V 0 0 ⟨w4.heap.size, dA, dB, noSc⟩ ∧ ∀ g, Liv ⟨w4.heap.size, dA, dB, noSc⟩ g → w.heap.size ≤ g := by
 have s1 := f1.size;have s2 := f2.size;have s3 := f3.size;have s4 := f4.size;have hs := hT.s
 have lv : ∀ g, Liv ⟨w4.heap.size, dA, dB, noSc⟩ g → w.heap.size ≤ g := fun g hg => by
  rcases kDL hg with e | e | e | e
  ·have e : g = w4.heap.size := e;omega
  ·cases e
  ·rcases gA g e with q | q <;> omega
  ·rcases gB g e with q | q <;> omega
 refine ⟨⟨⟨ht, kQK _ _, by simp [kNv]⟩, oA.fK (f4.trans hV (by simp)), oB.fK hV, hT.keep ((((f1.trans f2 (by simp)).trans f3 (by simp)).trans f4 (by simp)).trans hV (by simp)) (by simp), ?_, fun g hg => by have := lv g hg; omega, jAH _⟩, lv⟩;show List.Pairwise _ [_, _, _, _];refine .cons (fun B hB g hg => ?_) (.cons (fun B hB g hg => by cases hg) (.cons (fun B hB g hg => ?_) (.cons (fun B hB g hg => by cases hB) .nil)))
 ·have e : g = w4.heap.size := by simpa using hg
  simp only [jAF, List.not_mem_nil, or_false] at hB;rcases hB with rfl | rfl | rfl
  ·exact fun hm => by cases hm
  ·exact fun hm => by have := oA.lt g hm; omega
  ·exact fun hm => by have := oB.lt g hm; omega
 ·simp only [jAF, List.not_mem_nil, or_false] at hB;rw [hB]
  intro hm;rcases gA g hg with q | q <;> rcases gB g hm with z | z <;> omega
theorem kLs {tp te : TypeId} {j : TypeInfo} (V : World) (p : Option Addr) (hp : prog.underlying tp = some (.pointer te)) (hte : prog.info? te = some j) :
  (binOp .eql tp (.pointer p) (.pointer none)).run prog V = .ok (.bool p.isNone) V := by
 have h : ∀ d : Nat, (Op.equalIn (d + 1) tp (.pointer p) (.pointer none)).run prog V = .ok p.isNone V := fun d => by
  cases p <;> simp [Op.equalIn, run_underlying hp, sizeOf, typeInfo, hte]
 simp only [binOp]
 simp [Op.equal, Op.maxDepth, h 9999]
theorem kOn : (prog.info? 96).isSome = true := by kernel_rfl
theorem kPH : (prog.info? 56).isSome = true := by kernel_rfl
theorem Go1.base {wr wr' : World} {x x' : Wl} (h : Go1 wr wr' x x') (hf : Fr [] w wr) (hl : ∀ g, Liv x g → w.heap.size ≤ g) : Fr [] w wr' ∧ ∀ g, Liv x' g → w.heap.size ≤ g := by
 obtain ⟨X, h1, h2⟩ := h.fr;have hs := hf.size;refine ⟨hf.trans h1 fun g hg => .inr ?_, fun g hg => ?_⟩
 ·rcases h2 g hg with q | q
  ·exact hl g q
  ·omega
 ·rcases h.liv g hg with q | q
  ·exact hl g q
  ·omega
theorem LsAt.rd {ao : Option Addr} {c : Nat} {zs : List Int} (h : LsAt w ao c zs) (hz : zs.length ≤ 1048576) : Rd w (.slice ao zs.length c) zs := by
 refine ⟨⟨ao, c, rfl, fun h0 => ?_⟩, fun c' hc' => ?_, by omega⟩
 ·obtain ⟨b, off, h1, h2, h3⟩ := h.row (by intro e; rw [e] at h0; simp at h0);exact ⟨b, off, h1, h2, h3⟩
 ·injection hc' with e1 _ e3
  rw [← e3];exact (h.nil e1).2
def kJj (w0 : World) (b off i N : Nat) : Prop := ∃ (K O A B X : Int) (ao : Option Addr) (c : Nat) (zs : List Int),
 w0.cell? ⟨b, off + i * 6, none⟩ = some (int i64 K) ∧ w0.cell? ⟨b, off + i * 6 + 1, none⟩ = some (int i64 O) ∧ w0.cell? ⟨b, off + i * 6 + 2, none⟩ = some (int i64 A) ∧ w0.cell? ⟨b, off + i * 6 + 3, none⟩ = some (int i64 B) ∧
 w0.cell? ⟨b, off + i * 6 + 4, none⟩ = some (int i64 X) ∧ w0.cell? ⟨b, off + i * 6 + 5, none⟩ = some (.slice ao zs.length c) ∧ LsAt w0 ao c zs ∧ zs.length ≤ N
theorem kJj.mono {b off i N N' : Nat} (h : kJj w b off i N) (hN : N ≤ N') : kJj w b off i N' := by
 obtain ⟨K, O, A, B, X, ao, c, zs, m0, m1, m2, m3, m4, m5, m7, m8⟩ := h;exact ⟨K, O, A, B, X, ao, c, zs, m0, m1, m2, m3, m4, m5, m7, by omega⟩
theorem kBT (h : Hid (Fr [] w w1)) (k : Fr [] w1 w2) : Hid (Fr [] w w2) := h.out.trans k (by simp)
def StA (M : MS) (ks : List Key) (V : World) (e : Ending) (w' : World) : Prop := ∃ ov la, e = .returned (.agg #[int i64 M.fH, int i64 M.fM, int i64 M.mark, ov]) ∧ SAt w' ov la ∧ la.map kAU = ks ∧ Fr [] V w'
theorem kQC (a : Nat) (l : Lay) (H : HS) (M : MS) (V : World) (h : Rep V a l H) (hi : Inv H M) : Calls prog 42 #[.pointer (some ⟨a, 0, none⟩)] V (StA M (kBO H M) V) :=
 (pState a l H M V h hi).mono fun e w' ⟨ov, ls, h1, h2, h3, h4⟩ => by
  obtain ⟨k1, k2, -⟩ := h2.state hi (by rw [kBq]; exact h3);exact ⟨ov, _, h1, k1, k2, h4⟩
theorem kPu {H : HS} (r : Nat) (R : RS) (M : MS) (V : World) (h : RRep V 0 r R) (hi : Inv H M) (hd : Doc M R) : Calls prog 43 #[.pointer (some ⟨r, 0, none⟩)] V (StA M (kBO H M) V) :=
 (kKB r R M V h hi hd (hd.bd hi)).mono fun e w' ⟨ov, ls, h1, h2, h3, h4⟩ => by
  obtain ⟨k1, k2, -⟩ := h2.state hi (by rw [kBq]; exact h3);exact ⟨ov, _, h1, k1, k2, h4⟩
section
variable (w : World) (n : Nat) (D : Option Sd)
theorem kPp (h : SpOk w n D) (hT : Tbs w) : ∃ x y, (∀ V, Hid (Fr [] w V) → Calls prog 33 #[vO D] V fun e w'' => e = .returned (.tuple #[int i64 x, int i64 y]) ∧ Hid (Fr [] w w'')) ∧ ∀ V, Hid (Fr [] w V) → Calls prog 34 #[vR D] V fun e w'' => e = .returned (.tuple #[int i64 x, int i64 y]) ∧ Hid (Fr [] w w'') := by
 cases D with
 | none => exact ⟨_, _, fun V hf => (kON _ V (kBf V)).mono fun e w'' ⟨h1, h2⟩ => ⟨h1, by rw [h2]; exact hf⟩, fun V hf => (ndRoom V).mono fun e w'' ⟨h1, h2⟩ => ⟨h1, by rw [h2]; exact hf⟩⟩
 | some d =>
  have h : SdOk w n d := h;have hl := h.lk;refine ⟨_, _, fun V hf => (kNr (h.sp.fK hf.out) hl.len hl.rb (hT.keep hf.out (by simp)).t (by have := (hT.keep hf.out (by simp)).s; omega)).mono fun e w'' ⟨h1, h2⟩ => ⟨h1, kBT hf h2⟩, fun V hf => ?_⟩;have := (kMP (H := d.X.H) (h.rq.fK hf.out) (by rw [hl.m]; exact h.sp.inv) (by rw [hl.st]; exact hl.len) (by rw [hl.fN]; exact hl.rb)).mono fun e w'' ⟨h1, h2⟩ => (And.intro h1 (kBT hf h2))
  rw [hl.m, hl.fN, hl.st] at this;unfold roomA at this ⊢;rw [kIm];exact this
theorem kJA (h : SpOk w n D) : ∃ x, (∀ V, Hid (Fr [] w V) → Calls prog 35 #[vO D] V fun e w'' => e = .returned (int i64 x) ∧ Hid (Fr [] w w'')) ∧ ∀ V, Hid (Fr [] w V) → Calls prog 36 #[vR D] V fun e w'' => e = .returned (int i64 x) ∧ Hid (Fr [] w w'') := by
 cases D with
 | none => exact ⟨_, fun V hf => (kHB _ V (kBf V)).mono fun e w'' ⟨h1, h2⟩ => ⟨h1, by rw [h2]; exact hf⟩, fun V hf => (kKq V).mono fun e w'' ⟨h1, h2⟩ => ⟨h1, by rw [h2]; exact hf⟩⟩
 | some d =>
  have h : SdOk w n d := h;have hl := h.lk;refine ⟨_, fun V hf => (kHk (h.sp.fK hf.out)).mono fun e w'' ⟨h1, h2⟩ => ⟨h1, kBT hf h2⟩, fun V hf => ?_⟩;have := (kHy (H := d.X.H) (h.rq.fK hf.out) (by rw [hl.m]; exact h.sp.inv)).mono fun e w'' ⟨h1, h2⟩ => (And.intro h1 (kBT hf h2))
  rw [hl.m, hl.fN] at this;exact this
theorem kKy (h : SpOk w n D) : ∃ xs : List Int, xs.length ≤ 65536 ∧ (∀ V, Hid (Fr [] w V) → Calls prog 38 #[vO D] V fun e w'' => ∃ p c, e = .returned (.slice p xs.length c) ∧ w''.ownsRow V.heap.size 41 1 (.slice p xs.length c) xs.length (xs.map (int i64)) ∧ Fr [] V w'') ∧ ∀ V, Hid (Fr [] w V) → Calls prog 39 #[vR D] V fun e w'' => ∃ p c, e = .returned (.slice p xs.length c) ∧ w''.ownsRow V.heap.size 41 1 (.slice p xs.length c) xs.length (xs.map (int i64)) ∧ Fr [] V w'' := by
 cases D with
 | none => exact ⟨[], by simp, fun V hf => (kOV _ V (kBf V)).mono fun e w'' ⟨h1, h2⟩ => ⟨none, 0, h1, jAS .., by rw [h2]; exact Fr.refl _ _⟩, fun V hf => (ndKept V).mono fun e w'' ⟨h1, h2⟩ => ⟨none, 0, h1, jAS .., by rw [h2]; exact Fr.refl _ _⟩⟩
 | some d =>
  have h : SdOk w n d := h;have hl := h.lk;have hlen := hl.len;refine ⟨d.X.st, hlen, fun V hf => (kPU (h.sp.fK hf.out) (by omega)).mono fun e w'' ⟨v, h1, h2, h3⟩ => ?_, fun V hf => ?_⟩
  ·obtain ⟨p, c, rfl⟩ := kAv h2;exact ⟨p, c, h1, h2, h3⟩
  ·have := kMo (h.rq.fK hf.out) (by rw [hl.st]; omega);rw [hl.st] at this;refine this.mono fun e w'' ⟨v, h1, h2, h3⟩ => ?_
   obtain ⟨p, c, rfl⟩ := kAv h2;exact ⟨p, c, h1, h2, h3⟩
end
theorem kML {n : Nat} {d : Sd} (h : SdOk w n d) : (∀ V, Hid (Fr [] w V) → Calls prog 41 #[.pointer (some ⟨d.s, 0, none⟩)] V fun e w'' => e = .returned (.pointer (some ⟨d.a, 0, none⟩)) ∧ Hid (Fr [] w w'')) ∧ (∀ V, Hid (Fr [] w V) → Calls prog 42 #[.pointer (some ⟨d.a, 0, none⟩)] V (StA d.X.M (kBO d.X.H d.X.M) V)) ∧ (∀ V, Hid (Fr [] w V) → Calls prog 43 #[.pointer (some ⟨d.r, 0, none⟩)] V (StA d.X.M (kBO d.X.H d.X.M) V)) ∧ ∀ V, Hid (Fr [] w V) → V.cell? ⟨d.q, 0, none⟩ = some (.pointer (some ⟨d.r, 0, none⟩)) :=
 ⟨fun V hf => (kDk (h.sp.fK hf.out)).mono fun e w'' ⟨h1, h2⟩ => ⟨h1, kBT hf h2⟩, fun V hf => kQC d.a d.l d.X.H d.X.M V (h.sp.fK hf.out).rep h.sp.inv, fun V hf => kPu d.r d.Y.R d.X.M V (h.rq.fK hf.out).rep h.sp.inv (by rw [← h.lk.m]; exact h.rq.doc), fun V hf => (h.rq.fK hf.out).cells.1⟩
theorem kKP (n t : Nat) (x : Wl) (w : World) (h : WOk w n t x) (ht : t ≤ 1) : Calls prog 8 #[.pointer (some ⟨x.b, 0, none⟩)] w fun e w' => e = .returned (.bool true) ∧ Fr [] w w' := by
 have HW := kAA h;obtain ⟨b, hb⟩ := jex (x.b);rw [← hb];have HCs : Hid (∀ V i, Hid (Fr [] w V) → i ≤ 1 → V.cell? ⟨b, i, none⟩ = some (vO (x.at t i)) ∧ V.cell? ⟨b, 2 + i, none⟩ = some (vR (x.at t i))) := fun V i hV hi => by rw [hb]; exact kDZ (HW.out.fK hV.out) ht i hi
 clear h hb;go_enter func8, ntmps8
 go_wp2_with fail
 go_loopw [3] (fun q wr => ∃ i : Nat, i ≤ 2 ∧ q = int i64 i ∧ Hid (Fr [] w wr)) (fun q _ => 2 - (intOf q).toNat)
 case atStart => exact ⟨0, by omega, rfl, Fr.refl _ _⟩
 case round =>
  obtain ⟨i, hi2, rfl, hq⟩ := hrel;have i1 := ng i
  by_cases hi : i < 2
  ·have i2 : (i : Int) < 2 := by omega
   obtain ⟨r1, r2, h33, h34⟩ := kPp w n (x.at t i) (HW.out.prAt i) HW.out.tb;obtain ⟨cw, h35, h36⟩ := kJA w n (x.at t i) (HW.out.prAt i);obtain ⟨xs, hxs, h38, h39⟩ := kKy w n (x.at t i) (HW.out.prAt i);have HC1 : Hid (∀ V, Hid (Fr [] w V) → V.cell? ⟨b, i, none⟩ = some (vO (x.at t i)) ∧ V.cell? ⟨b, 2 + i, none⟩ = some (vR (x.at t i))) := fun V hV => HCs.out V i hV (by omega)
   have HSm : Hid (∀ V p1 c1 p2 c2 B1 B2, V.ownsRow B1 41 1 (.slice p1 xs.length c1) xs.length (xs.map (int i64)) → V.ownsRow B2 41 1 (.slice p2 xs.length c2) xs.length (xs.map (int i64)) → Calls prog 37 #[.slice p1 xs.length c1, .slice p2 xs.length c2] V fun e w' => e = .returned (.bool true) ∧ Fr [] V w') := fun V p1 c1 p2 c2 B1 B2 h1 h2 => by
    refine (kBw xs _ _ V (kCC h1 (by omega)) (kCC h2 (by omega))).mono fun e w' hh => ?_
    first | exact ⟨hh.1, hh.2⟩ | exact ⟨hh.1, by rw [hh.2]; exact Fr.refl _ _⟩ | exact ⟨hh.1, by obtain ⟨m, hm⟩ := hh.2; rw [hm]; exact Fr.drewN [] _ _⟩
   have H33 := kAA h33;have H34 := kAA h34;have H35 := kAA h35;have H36 := kAA h36;have H38 := kAA h38;have H39 := kAA h39;have HPr := kAA (HW.out.prAt i);clear h33 h34 h35 h36 h38 h39;generalize x.at t i = Di at *;obtain ⟨y0, y1⟩ := HC1.out wr hq;obtain ⟨vo, hvo⟩ := jex (vO Di);obtain ⟨vr, hvr⟩ := jex (vR Di);rw [← hvo] at HC1 H33 H35 H38 y0;rw [← hvr] at HC1 H34 H36 H39 y1;have HVo := kAA hvo;have HVr := kAA hvr;clear hvo hvr
   go_wp2_with fail
   refine (H33.out wr hq).mono ?_;rintro e w1 ⟨rfl, q1⟩;obtain ⟨y0, y1⟩ := HC1.out w1 q1
   go_wp2_with fail
   refine (H34.out w1 q1).mono ?_;rintro e w2 ⟨rfl, q2⟩;obtain ⟨y0, y1⟩ := HC1.out w2 q2;clear hq q1
   go_wp2_with (first | (go_at_call 35; refine (H35.out _ q2).mono ?_; rintro e w3 ⟨rfl, q3⟩) | (go_at_call 36; refine (H36.out _ q3).mono ?_; rintro e w4 ⟨rfl, q4⟩) | (go_at_call 38; refine (H38.out _ q4).mono ?_; rintro e w5 ⟨p5, c5, rfl, o5, f5⟩; have q5 := kBT q4 f5) | (go_at_call 39; refine (H39.out _ q5).mono ?_; rintro e w6 ⟨p6, c6, rfl, o6, f6⟩; have q6 := kBT q5 f6) | (go_at_call 37; refine (HSm.out _ _ _ _ _ _ _ (kAE o5 fun g hg => f6.block g (o5.lt g hg).2 (by simp)) o6).mono ?_; rintro e w7 ⟨rfl, f7⟩; have q7 := kBT q6 f7))
   clear o5 o6 f5 f6 f7 q2 q3 q4 q5 q6 H33 H34 H35 H36 H38 H39 HSm HC1 y0 y1 HCs
   cases Di with
   | none =>
    have e1 : vo = .pointer none := HVo.out;have e2 : vr = .pointer none := HVr.out;subst e1 e2;have q7n : Hid (∀ m, Hid (Fr [] w (w7.drewN m))) := fun m => kBT q7 (Fr.drewN [] _ _)
    go_quiet (fail)
    all_goals go_wp2_with fail
    all_goals
     go_roundw
     case rel => exact ⟨i + 1, by omega, by go_num, by first | exact q7n.out _ | exact q7 | exact kAF q7⟩
     case measure => simp [intOf]; omega
   | some d =>
    have e1 : vo = .pointer (some ⟨d.s, 0, none⟩) := HVo.out;have e2 : vr = .pointer (some ⟨d.q, 0, none⟩) := HVr.out;subst e1 e2;have hd : SdOk w n d := HPr.out;obtain ⟨h41, h42, h43, hc⟩ := kML hd;have H41 := kAA h41;have H42 := kAA h42;have H43 := kAA h43;have HC := kAA hc;have HSS : Hid (∀ V oa ob la lb, SAt V oa la → SAt V ob lb → la.map kAU = kBO d.X.H d.X.M → lb.map kAU = kBO d.X.H d.X.M → Calls prog 40 #[.agg #[int i64 d.X.M.fH, int i64 d.X.M.fM, int i64 d.X.M.mark, oa], .agg #[int i64 d.X.M.fH, int i64 d.X.M.fM, int i64 d.X.M.mark, ob]] V fun e w' => e = .returned (.bool true) ∧ Fr [] V w') := fun V oa ob la lb h1 h2 h3 h4 => kEN _ _ _ oa ob la lb V h1 h2 (h3.trans h4.symm)
    unfold StA at H42 H43;generalize (d.X.M.fH : Int) = mw at *;generalize (d.X.M.fM : Int) = mo at *;generalize (d.X.M.mark : Int) = mm at *;generalize d.s = ds at *;generalize d.a = da at *;generalize d.q = dq at *;generalize d.r = dr at *;generalize kBO d.X.H d.X.M = kk at *;clear h41 h42 h43 hc hd HPr HVo HVr
    go_region_held3 (fun V => V.cell? ⟨dq, 0, none⟩ = some (.pointer (some ⟨dr, 0, none⟩)))
     (first | exact HC.out _ (by assumption) | exact HC.out _ (kAF (by assumption)))
     (first | (go_at_call 41; refine (H41.out _ (kAF q7)).mono ?_; rintro e w8 ⟨rfl, q8⟩) | (go_at_call 42; refine (H42.out _ q8).mono ?_; rintro e w9 ⟨ov9, la9, rfl, s9, k9, f9⟩; have q9 := kBT q8 f9) | (go_at_call 43; refine (H43.out _ q9).mono ?_; rintro e w10 ⟨ov10, la10, rfl, s10, k10, f10⟩; have q10 := kBT q9 f10) | (go_at_call 40; refine (HSS.out _ _ _ _ _ (s9.fK f10) s10 k9 k10).mono ?_; rintro e w11 ⟨rfl, f11⟩; have q11 := kBT q10 f11))
    all_goals go_wp2_with fail
    all_goals
     go_roundw
     case rel => exact ⟨i + 1, by omega, by go_num, by first | exact q11 | exact kAF q11⟩
     case measure => simp [intOf]; omega
  ·have i2 : ¬ (i : Int) < 2 := by omega
   go_wp2_with fail
   go_ret
   exact ⟨rfl, hq.out⟩
end Go.Proofs.YtflgicdbbogllaaGreatDoor
