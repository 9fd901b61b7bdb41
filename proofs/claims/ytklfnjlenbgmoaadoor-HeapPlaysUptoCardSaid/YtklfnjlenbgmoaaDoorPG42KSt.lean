import Derived.Test.YtklfnjlenbgmoaaDoorPG15HLoadW
import Derived.Test.YtklfnjlenbgmoaaDoorPG33KSecA
import Derived.Test.YtklfnjlenbgmoaaDoorPG34KBok
import Derived.Test.YtklfnjlenbgmoaaDoorPG35KGw3
import Derived.Test.YtklfnjlenbgmoaaDoorPHStateY
import Derived.Test.YtklfnjlenbgmoaaDoorPG25RKeep
set_option linter.unusedSimpArgs false
set_option linter.unusedVariables false
namespace Go.Proofs.YtklfnjlenbgmoaaDoor
open Go.RowKit
theorem own_get {w : World} {b g n c : Nat} {t : TypeId} {ls : List Int} (h : w.ownsRow b t 1 (.slice (some ⟨g, 0, none⟩) n c) n (ls.map (Value.int .i64))) (k : Nat) (hk : k < ls.length) : w.cell? ⟨g, k, none⟩ = some (.int .i64 (ls.getD k 0)) := by
 have hl := h.1
 rw [List.length_map] at hl
 rw [h.cellAt k (by omega), List.getElem?_map, List.getD_eq_getElem?_getD, List.getElem?_eq_getElem hk]
 rfl
theorem own_front {w : World} {b g n c : Nat} {t : TypeId} {ls ms : List Int} (h : w.ownsRow b t 1 (.slice (some ⟨g, 0, none⟩) n c) n ((ls ++ ms).map (Value.int .i64))) (hl : ls.length ≤ 17592186043904) : Rd w (.slice (some ⟨g, 0, none⟩) ls.length c) ls := by
 refine ⟨⟨_, _, rfl, fun hp => ⟨g, 0, rfl, World.block_lt_of_cell? w ⟨g, 0, none⟩ (own_get h 0 (by simp; omega)), fun i hi => ?_⟩⟩, fun c' hc => (by injection hc with e; cases e), hl⟩
 rw [Nat.zero_add, own_get h i (by simp; omega), List.getD_eq_getElem?_getD, List.getElem?_append_left hi, ← List.getD_eq_getElem?_getD]
end Go.Proofs.YtklfnjlenbgmoaaDoor
namespace Go.Proofs.YtklfnjlenbgmoaaDoor
open Go.RowKit Go.Maps
attribute [local go_sem ↓] Go.wp_at_zero Go.wp_at_succ
def wipK (xs : List Int) (m : Int) (k : Nat) : List Int := List.replicate k m ++ xs.drop k
theorem wipK_len (xs : List Int) (m : Int) (k : Nat) (hk : k ≤ xs.length) : (wipK xs m k).length = xs.length := by unfold wipK; simp; omega
theorem wipK_set (xs : List Int) (m : Int) (k : Nat) (hk : k < xs.length) : (wipK xs m k).set k m = wipK xs m (k + 1) := by
 unfold wipK
 rw [List.set_append_right _ _ (by simp), List.length_replicate, Nat.sub_self, List.drop_eq_getElem_cons hk, List.set_cons_zero, List.replicate_succ', List.append_assoc]
 rfl
theorem wipe_kInts {w : World} {x : Le} {m : Int} {xs : List Int} (hl : xs.length = x.n) (h : w.ownsRow 0 3 1 x.v x.n ((wipK xs m x.n).map (Value.int .i64))) (hs : x.n ≤ 1100000) : OwK kInts w x m := by
 refine ⟨?_, hs⟩
 unfold wipK at h
 rw [← hl, List.drop_length, List.append_nil, hl] at h
 have e : zC kInts x.n m = (List.replicate x.n m).map (Value.int .i64) := by
  unfold zC
  generalize x.n = n
  induction n with
  | zero => rfl
  | succ n ih => rw [List.replicate_succ, List.replicate_succ, List.flatten_cons, ih]; rfl
 rw [e]
 exact h
set_option maxRecDepth 20000 in
set_option maxHeartbeats 400000 in
theorem bints_ok (b : Nat) (H : Hdr) (S1 S2 S3 : Sc) (x : Le) (xs : List Int) (w : World) (h : Bok w b H S1 S2 S3) (hl : xs.length = x.n) (hx : w.ownsRow 0 3 1 x.v x.n (xs.map (Value.int .i64))) (hs : x.n ≤ 1100000) (hk : S1.olds.length + S1.news.length ≤ 8796093022000)
  (ax : ∀ g ∈ blk x.p, g ∉ bokF S1 S2 S3) (hbx : b ∉ blk x.p) :
  Calls Tryd.prog 112 #[.pointer (some ⟨b, 6, none⟩), x.v] w fun e w' => e = .returned (.tuple #[]) ∧ ∃ S', S'.olds = S1.olds ∧ S'.news.length = S1.news.length + 1 ∧ Bok w' b H S' S2 S3 ∧ Fr (blk x.p ++ b :: S1.hot) w w' ∧ ∀ g ∈ S'.all, g ∈ S1.all ∨ g ∈ blk x.p ∨ w.heap.size ≤ g := by
 obtain ⟨p, n, c⟩ := x
 have hl : xs.length = n := hl
 subst hl
 replace hx : w.ownsRow 0 3 1 (.slice p xs.length c) xs.length (xs.map (Value.int .i64)) := hx
 replace hs : xs.length ≤ 1100000 := hs
 show Calls Tryd.prog 112 #[.pointer (some ⟨b, 6, none⟩), .slice p xs.length c] w _
 have nK := h.ok1.nK
 have nI := h.ok1.nI
 have nKI : S1.vK.n = S1.vI.n := by omega
 have y2 : w.cell? ⟨b, 8, none⟩ = some S1.vK.v := by rw [cell_in h.top]; rfl
 have hN : S1.vI.n ≤ 8796093022000 := by omega
 have HBk := mkHid h
 have HX := mkHid hx
 have HaX := mkHid ax
 have HbX := mkHid hbx
 have HNI := mkHid nI
 obtain ⟨N, hNe⟩ : ∃ N, N = S1.vI.n := ⟨_, rfl⟩
 rw [show S1.vK.v = .slice S1.vK.p N S1.vK.c from by rw [hNe, ← nKI]; rfl] at y2
 rw [← hNe] at hN
 obtain ⟨m, hme⟩ : ∃ m : Int, m = -1000000 - (N : Int) := ⟨_, rfl⟩
 have hmw : IntKind.i64.wrap (-1000000 - (N : Int)) = m := by rw [hme, iwrap]; unfold wrap64; omega
 have hmw2 : IntKind.i64.wrap m = m := by rw [hme, iwrap]; unfold wrap64; omega
 have HNE := mkHid hNe
 have HKI := mkHid nKI
 clear h hx ax hbx hk nI nK hNe nKI
 go_enter Tryd.func112, Tryd.ntmps112
 go_wp2_with fail
 try rw [← hme]
 have HMe := mkHid hme
 clear hme hmw
 go_loopw [5] (fun q wr => ∃ k : Nat, k ≤ xs.length ∧ q = .int .i64 k ∧ Hid (wr.ownsRow 0 3 1 (.slice p xs.length c) xs.length ((wipK xs m k).map (Value.int .i64))) ∧ Hid (Fr (blk p) w wr)) (fun q _ => xs.length - (intOf q).toNat)
 case atStart => exact ⟨0, Nat.zero_le _, rfl, mkHid (by unfold wipK; simpa using HX.out), Fr.refl _ _⟩
 case round =>
  obtain ⟨k, hkn, rfl, hown, hq⟩ := hrel
  have k1 : (0 : Int) ≤ (k : Int) := by omega
  by_cases hlt : k < xs.length
  ·have k2 : (k : Int) < (xs.length : Int) := by omega
   have hwl := wipK_len xs m k hkn
   obtain ⟨g, cg, eg, -, -⟩ := hown.out.form (by omega)
   injection eg with eg1 _ eg2
   subst eg1 eg2
   have x1 := own_get hown.out k (by omega)
   obtain ⟨cur, hcur⟩ : ∃ cur, wr.heap[g]? = some (.cells cur 3 (0, 0)) := row_block hown.out rfl
   have z1 := frozen_in hcur k
   have HO2 : Hid ((wr.setCell ⟨g, k, none⟩ (.int .i64 m)).ownsRow 0 3 1 (.slice (some ⟨g, 0, none⟩) xs.length c) xs.length ((wipK xs m (k + 1)).map (Value.int .i64))) := by
    have := (hown.out.stored k (.int .i64 m)).1
    rw [← List.map_set, wipK_set xs m k hlt] at this
    exact this
   have HF2 : Hid (Fr (blk (some ⟨g, 0, none⟩)) w (wr.setCell ⟨g, k, none⟩ (.int .i64 m))) := hq.out.trans (Fr.setCell (S := blk (some ⟨g, 0, none⟩)) _ ⟨g, k, none⟩ _ (by simp [blk])) (fun b hb => .inl hb)
   generalize (wipK xs m k).getD k 0 = u at *
   clear hown hcur hwl hq
   go_wp2_with fail
   go_roundw
   case rel => exact ⟨k + 1, by omega, by go_num, HO2, HF2⟩
   case measure => simp [intOf]; omega
  ·have hke : k = xs.length := by omega
   subst hke
   have HO2 : Hid (OwK kInts wr ⟨p, xs.length, c⟩ m) := wipe_kInts (x := ⟨p, xs.length, c⟩) rfl hown.out hs
   have hsz := hq.out.size
   have bk := HBk.out.keep hq.out HbX.out fun g hg hm => HaX.out g hm hg
   have zI : wr.cell? ⟨b, 6, none⟩ = some (.slice S1.vI.p N S1.vI.c) := by rw [cell_in bk.top, HNE.out]; rfl
   obtain ⟨p1, c1, w1, p4, c4, w4, r1, z1, fz1, z3, r4, z4, fz4, hbok, hfr, hall⟩ := bk.push1 ⟨p, xs.length, c⟩ m HO2.out HaX.out HbX.out (by have := HNI.out; have := HNE.out; omega)
   have eV : S1.vK.v = .slice S1.vK.p N S1.vK.c := by rw [HNE.out, ← HKI.out]; rfl
   have eI : S1.vI.v = .slice S1.vI.p N S1.vI.c := by rw [HNE.out]; rfl
   have HZ : Hid (∃ S', S'.olds = S1.olds ∧ S'.news.length = S1.news.length + 1 ∧ Bok (w4.setCell ⟨b, 8, none⟩ (.slice p4 (N + 1) c4)) b H S' S2 S3 ∧ Fr (blk p ++ b :: S1.hot) w (w4.setCell ⟨b, 8, none⟩ (.slice p4 (N + 1) c4)) ∧ ∀ g ∈ S'.all, g ∈ S1.all ∨ g ∈ blk p ∨ w.heap.size ≤ g) := by
    rw [HNE.out]
    refine ⟨S1.add ⟨p, xs.length, c⟩ m ⟨p1, S1.vI.n + 1, c1⟩ ⟨p4, S1.vI.n + 1, c4⟩, rfl, ?_, hbok, (hq.out.mono fun g hg => .inl (List.mem_append.2 (.inl hg))).trans hfr fun g hg => .inl (List.mem_append.2 (.inr hg)), fun g hg => ?_⟩
    ·simp [Sc.add]
    ·rcases hall g hg with h1 | h1 | h1
     ·exact .inl h1
     ·exact .inr (.inl h1)
     ·exact .inr (.inr (by omega))
   have hx0 : Le.v ⟨p, xs.length, c⟩ = .slice p xs.length c := rfl
   rw [eI, ← HNE.out, hx0] at r1
   rw [eI] at z1
   rw [eV, ← HNE.out] at z3 r4
   rw [eV] at z4
   obtain ⟨W3, hW3⟩ : ∃ W3, w1.setCell ⟨b, 6, none⟩ (.slice p1 (N + 1) c1) = W3 := ⟨_, rfl⟩
   rw [hW3] at z3 r4
   have HR1 := mkHid r1
   have HR4 := mkHid r4
   generalize S1.vI.p = pI at *
   generalize S1.vK.p = pK at *
   generalize S1.vI.c = cI at *
   generalize S1.vK.c = cK at *
   clear hown hlt hbok hfr hall r1 r4 eV eI bk HBk
   go_wp2_with (at_builtin; first | refine Lib.wpList_append_run _ rfl (.tmp 26) (.tmp 28) 78 78 rfl _ _ rfl rfl _ _ HR1.out ?_ | refine Lib.wpList_append_run _ rfl (.tmp 36) (.tmp 38) 22 22 rfl _ _ rfl rfl _ _ HR4.out ?_)
   go_end0
   exact ⟨rfl, HZ.out⟩
theorem wipe_kWords {w : World} {x : Le} {m : Int} {xs : List Int} (hl : xs.length = x.n) (h : w.ownsRow 0 33 1 x.v x.n ((wipK xs m x.n).map (Value.int .i64))) (hs : x.n ≤ 1100000) : OwK kWords w x m := by
 refine ⟨?_, hs⟩
 unfold wipK at h
 rw [← hl, List.drop_length, List.append_nil, hl] at h
 have e : zC kWords x.n m = (List.replicate x.n m).map (Value.int .i64) := by
  unfold zC
  generalize x.n = n
  induction n with
  | zero => rfl
  | succ n ih => rw [List.replicate_succ, List.replicate_succ, List.flatten_cons, ih]; rfl
 rw [e]
 exact h
set_option maxRecDepth 20000 in
set_option maxHeartbeats 400000 in
theorem bwords_ok (b : Nat) (H : Hdr) (S1 S2 S3 : Sc) (x : Le) (xs : List Int) (w : World) (h : Bok w b H S1 S2 S3) (hl : xs.length = x.n) (hx : w.ownsRow 0 33 1 x.v x.n (xs.map (Value.int .i64))) (hs : x.n ≤ 1100000) (hk : S2.olds.length + S2.news.length ≤ 8796093022000)
  (ax : ∀ g ∈ blk x.p, g ∉ bokF S1 S2 S3) (hbx : b ∉ blk x.p) :
  Calls Tryd.prog 97 #[.pointer (some ⟨b, 6, none⟩), x.v] w fun e w' => e = .returned (.tuple #[]) ∧ ∃ S', S'.olds = S2.olds ∧ S'.news.length = S2.news.length + 1 ∧ Bok w' b H S1 S' S3 ∧ Fr (blk x.p ++ b :: S2.hot) w w' ∧ ∀ g ∈ S'.all, g ∈ S2.all ∨ g ∈ blk x.p ∨ w.heap.size ≤ g := by
 obtain ⟨p, n, c⟩ := x
 have hl : xs.length = n := hl
 subst hl
 replace hx : w.ownsRow 0 33 1 (.slice p xs.length c) xs.length (xs.map (Value.int .i64)) := hx
 replace hs : xs.length ≤ 1100000 := hs
 show Calls Tryd.prog 97 #[.pointer (some ⟨b, 6, none⟩), .slice p xs.length c] w _
 have nK := h.ok2.nK
 have nI := h.ok2.nI
 have nKI : S2.vK.n = S2.vI.n := by omega
 have y2 : w.cell? ⟨b, 11, none⟩ = some S2.vK.v := by rw [cell_in h.top]; rfl
 have hN : S2.vI.n ≤ 8796093022000 := by omega
 have HBk := mkHid h
 have HX := mkHid hx
 have HaX := mkHid ax
 have HbX := mkHid hbx
 have HNI := mkHid nI
 obtain ⟨N, hNe⟩ : ∃ N, N = S2.vI.n := ⟨_, rfl⟩
 rw [show S2.vK.v = .slice S2.vK.p N S2.vK.c from by rw [hNe, ← nKI]; rfl] at y2
 rw [← hNe] at hN
 obtain ⟨m, hme⟩ : ∃ m : Int, m = -5000000 - (N : Int) := ⟨_, rfl⟩
 have hmw : IntKind.i64.wrap (-5000000 - (N : Int)) = m := by rw [hme, iwrap]; unfold wrap64; omega
 have hmw2 : IntKind.i64.wrap m = m := by rw [hme, iwrap]; unfold wrap64; omega
 have HNE := mkHid hNe
 have HKI := mkHid nKI
 clear h hx ax hbx hk nI nK hNe nKI
 go_enter Tryd.func97, Tryd.ntmps97
 go_wp2_with fail
 try rw [← hme]
 have HMe := mkHid hme
 clear hme hmw
 go_loopw [5] (fun q wr => ∃ k : Nat, k ≤ xs.length ∧ q = .int .i64 k ∧ Hid (wr.ownsRow 0 33 1 (.slice p xs.length c) xs.length ((wipK xs m k).map (Value.int .i64))) ∧ Hid (Fr (blk p) w wr)) (fun q _ => xs.length - (intOf q).toNat)
 case atStart => exact ⟨0, Nat.zero_le _, rfl, mkHid (by unfold wipK; simpa using HX.out), Fr.refl _ _⟩
 case round =>
  obtain ⟨k, hkn, rfl, hown, hq⟩ := hrel
  have k1 : (0 : Int) ≤ (k : Int) := by omega
  by_cases hlt : k < xs.length
  ·have k2 : (k : Int) < (xs.length : Int) := by omega
   have hwl := wipK_len xs m k hkn
   obtain ⟨g, cg, eg, -, -⟩ := hown.out.form (by omega)
   injection eg with eg1 _ eg2
   subst eg1 eg2
   have x1 := own_get hown.out k (by omega)
   obtain ⟨cur, hcur⟩ : ∃ cur, wr.heap[g]? = some (.cells cur 33 (0, 0)) := row_block hown.out rfl
   have z1 := frozen_in hcur k
   have HO2 : Hid ((wr.setCell ⟨g, k, none⟩ (.int .i64 m)).ownsRow 0 33 1 (.slice (some ⟨g, 0, none⟩) xs.length c) xs.length ((wipK xs m (k + 1)).map (Value.int .i64))) := by
    have := (hown.out.stored k (.int .i64 m)).1
    rw [← List.map_set, wipK_set xs m k hlt] at this
    exact this
   have HF2 : Hid (Fr (blk (some ⟨g, 0, none⟩)) w (wr.setCell ⟨g, k, none⟩ (.int .i64 m))) := hq.out.trans (Fr.setCell (S := blk (some ⟨g, 0, none⟩)) _ ⟨g, k, none⟩ _ (by simp [blk])) (fun b hb => .inl hb)
   generalize (wipK xs m k).getD k 0 = u at *
   clear hown hcur hwl hq
   go_wp2_with fail
   go_roundw
   case rel => exact ⟨k + 1, by omega, by go_num, HO2, HF2⟩
   case measure => simp [intOf]; omega
  ·have hke : k = xs.length := by omega
   subst hke
   have HO2 : Hid (OwK kWords wr ⟨p, xs.length, c⟩ m) := wipe_kWords (x := ⟨p, xs.length, c⟩) rfl hown.out hs
   have hsz := hq.out.size
   have bk := HBk.out.keep hq.out HbX.out fun g hg hm => HaX.out g hm hg
   have zI : wr.cell? ⟨b, 9, none⟩ = some (.slice S2.vI.p N S2.vI.c) := by rw [cell_in bk.top, HNE.out]; rfl
   obtain ⟨p1, c1, w1, p4, c4, w4, r1, z1, fz1, z3, r4, z4, fz4, hbok, hfr, hall⟩ := bk.push2 ⟨p, xs.length, c⟩ m HO2.out HaX.out HbX.out (by have := HNI.out; have := HNE.out; omega)
   have eV : S2.vK.v = .slice S2.vK.p N S2.vK.c := by rw [HNE.out, ← HKI.out]; rfl
   have eI : S2.vI.v = .slice S2.vI.p N S2.vI.c := by rw [HNE.out]; rfl
   have HZ : Hid (∃ S', S'.olds = S2.olds ∧ S'.news.length = S2.news.length + 1 ∧ Bok (w4.setCell ⟨b, 11, none⟩ (.slice p4 (N + 1) c4)) b H S1 S' S3 ∧ Fr (blk p ++ b :: S2.hot) w (w4.setCell ⟨b, 11, none⟩ (.slice p4 (N + 1) c4)) ∧ ∀ g ∈ S'.all, g ∈ S2.all ∨ g ∈ blk p ∨ w.heap.size ≤ g) := by
    rw [HNE.out]
    refine ⟨S2.add ⟨p, xs.length, c⟩ m ⟨p1, S2.vI.n + 1, c1⟩ ⟨p4, S2.vI.n + 1, c4⟩, rfl, ?_, hbok, (hq.out.mono fun g hg => .inl (List.mem_append.2 (.inl hg))).trans hfr fun g hg => .inl (List.mem_append.2 (.inr hg)), fun g hg => ?_⟩
    ·simp [Sc.add]
    ·rcases hall g hg with h1 | h1 | h1
     ·exact .inl h1
     ·exact .inr (.inl h1)
     ·exact .inr (.inr (by omega))
   have hx0 : Le.v ⟨p, xs.length, c⟩ = .slice p xs.length c := rfl
   rw [eI, ← HNE.out, hx0] at r1
   rw [eI] at z1
   rw [eV, ← HNE.out] at z3 r4
   rw [eV] at z4
   obtain ⟨W3, hW3⟩ : ∃ W3, w1.setCell ⟨b, 9, none⟩ (.slice p1 (N + 1) c1) = W3 := ⟨_, rfl⟩
   rw [hW3] at z3 r4
   have HR1 := mkHid r1
   have HR4 := mkHid r4
   generalize S2.vI.p = pI at *
   generalize S2.vK.p = pK at *
   generalize S2.vI.c = cI at *
   generalize S2.vK.c = cK at *
   clear hown hlt hbok hfr hall r1 r4 eV eI bk HBk
   go_wp2_with (at_builtin; first | refine Lib.wpList_append_run _ rfl (.tmp 26) (.tmp 28) 79 79 rfl _ _ rfl rfl _ _ HR1.out ?_ | refine Lib.wpList_append_run _ rfl (.tmp 36) (.tmp 38) 80 80 rfl _ _ rfl rfl _ _ HR4.out ?_)
   go_end0
   exact ⟨rfl, HZ.out⟩
end Go.Proofs.YtklfnjlenbgmoaaDoor
namespace Go.Proofs.YtklfnjlenbgmoaaDoor
open Go.RowKit
theorem le_of {w : World} {B : Nat} {e : TypeId} {s n : Nat} {v : Value} {xs : List Value} (h : w.ownsRow B e s v n xs) : ∃ x : Le, x.v = v ∧ x.n = n ∧ ∀ g, g ∈ blk x.p ↔ v.ownBlock = some g := by
 rcases h.2 with ⟨h2, h3⟩ | ⟨g, cap, cur, h2, h3⟩
 ·exact ⟨noLe, h2.symm, h3.symm, fun g => by rw [h2]; simp [noLe, blk, Value.ownBlock]⟩
 ·exact ⟨⟨some ⟨g, 0, none⟩, n, cap⟩, h2.symm, rfl, fun g' => by rw [h2]; simp [blk, Value.ownBlock]; exact eq_comm⟩
def stB (ov : Value) (ls : List OS) : List Nat := ov.ownBlock.toList ++ ls.flatMap fun o => o.v.ownBlock.toList
theorem stB_row {ov : Value} {ls : List OS} {g : Nat} (h : ov.ownBlock = some g) : g ∈ stB ov ls := List.mem_append.2 (.inl (by rw [h]; simp))
theorem stB_slot {ov : Value} {ls : List OS} {g : Nat} {o : OS} (ho : o ∈ ls) (h : o.v.ownBlock = some g) : g ∈ stB ov ls := List.mem_append.2 (.inr (List.mem_flatMap.2 ⟨o, ho, by rw [h]; simp⟩))
theorem mem_stB {ov : Value} {ls : List OS} {g : Nat} (h : g ∈ stB ov ls) : ov.ownBlock = some g ∨ ∃ o ∈ ls, o.v.ownBlock = some g := by
 rcases List.mem_append.1 h with h | h
 ·exact .inl (by simpa using h)
 ·obtain ⟨o, ho, hg⟩ := List.mem_flatMap.1 h
  exact .inr ⟨o, ho, by simpa using hg⟩
structure St0 (w : World) (b : Nat) (S1 S2 S3 : Sc) (ov : Value) (ls : List OS) : Prop where
 lt : ∀ g ∈ stB ov ls, g < w.heap.size
 ap : ∀ g ∈ stB ov ls, g ∉ bokF S1 S2 S3
 nb : b ∉ stB ov ls
 ne : ∀ o ∈ ls, ∀ g, o.v.ownBlock = some g → ov.ownBlock ≠ some g
 apo : ApO ls
structure Sw (w wr : World) (b : Nat) (H : Hdr) (S1 S2 S3 : Sc) (ov : Value) (ls : List OS) (i : Nat) (A2 : Sc) : Prop where
 bok : Bok wr b H S1 A2 S3
 olds : A2.olds = S2.olds
 len : A2.news.length = S2.news.length + i
 all : ∀ g ∈ A2.all, g ∈ S2.all ∨ (∃ j o, j < i ∧ ls[j]? = some o ∧ o.v.ownBlock = some g) ∨ w.heap.size ≤ g
 row : wr.ownsRow 0 106 4 ov ls.length (osCells ls)
 rest : ∀ j o, i ≤ j → ls[j]? = some o → wr.ownsRow 0 33 1 o.v o.slots.length (o.slots.map (Value.int .i64))
 fr : Fr (b :: (bokF S1 S2 S3 ++ stB ov ls)) w wr
section
variable {w wr wr' : World} {b : Nat} {H : Hdr} {S1 S2 S3 A2 A' : Sc} {ov : Value} {ls : List OS} {i : Nat} {o : OS} {x : Le}
theorem ApO.two (h : ApO ls) {j k : Nat} {p q : OS} (hj : ls[j]? = some p) (hk : ls[k]? = some q) (hjk : j < k) {g : Nat} (hp : p.v.ownBlock = some g) : q.v.ownBlock ≠ some g := by
 have hk' : k < ls.length := by
  by_cases e : k < ls.length
  ·exact e
  ·rw [List.getElem?_eq_none (by omega)] at hk; cases hk
 have := List.pairwise_iff_getElem.1 h j k (by omega) hk' hjk
 rw [List.getElem?_eq_getElem (by omega)] at hj hk
 injection hj with hj
 injection hk with hk
 rw [hj, hk] at this
 exact this g hp
theorem Sw.out (h : Sw w wr b H S1 S2 S3 ov ls i A2) (hs : St0 w b S1 S2 S3 ov ls) {g : Nat} (hg : ov.ownBlock = some g ∨ ∃ j o, i ≤ j ∧ ls[j]? = some o ∧ o.v.ownBlock = some g) : g ∉ b :: A2.all := fun hm => by
 have hst : g ∈ stB ov ls := by
  rcases hg with hg | ⟨j, o, -, ho, hg⟩
  ·exact stB_row hg
  ·exact stB_slot (List.mem_of_getElem? ho) hg
 rcases List.mem_cons.1 hm with hm | hm
 ·exact hs.nb (hm ▸ hst)
 ·rcases h.all g hm with h1 | ⟨j, p, hj, hp, h1⟩ | h1
  ·exact hs.ap g hst (bokF2 h1)
  ·rcases hg with hg | ⟨k, q, hk, hq, hg⟩
   ·exact hs.ne p (List.mem_of_getElem? hp) g h1 hg
   ·exact hs.apo.two hp hq (by omega) h1 hg
  ·have := hs.lt g hst; omega
theorem Sw.next (h : Sw w wr b H S1 S2 S3 ov ls i A2) (hs : St0 w b S1 S2 S3 ov ls) (ho : ls[i]? = some o) (hx : ∀ g, g ∈ blk x.p ↔ o.v.ownBlock = some g)
  (hb : Bok wr' b H S1 A' S3) (h1 : A'.olds = A2.olds) (h2 : A'.news.length = A2.news.length + 1) (hf : Fr (blk x.p ++ b :: A2.hot) wr wr') (ha : ∀ g ∈ A'.all, g ∈ A2.all ∨ g ∈ blk x.p ∨ wr.heap.size ≤ g) : Sw w wr' b H S1 S2 S3 ov ls (i + 1) A' := by
 have hsz := h.fr.size
 have notx : ∀ g, (ov.ownBlock = some g ∨ ∃ j q, i + 1 ≤ j ∧ ls[j]? = some q ∧ q.v.ownBlock = some g) → g ∉ blk x.p ++ b :: A2.hot := fun g hg hm => by
  rcases List.mem_append.1 hm with hm | hm
  ·have hm := (hx g).1 hm
   rcases hg with hg | ⟨j, q, hj, hq, hg⟩
   ·exact hs.ne o (List.mem_of_getElem? ho) g hm hg
   ·exact hs.apo.two ho hq (by omega) hm hg
  ·refine h.out hs (g := g) ?_ ?_
   ·rcases hg with hg | ⟨j, q, hj, hq, hg⟩
    ·exact .inl hg
    ·exact .inr ⟨j, q, by omega, hq, hg⟩
   ·rcases List.mem_cons.1 hm with hm | hm
    ·exact List.mem_cons.2 (.inl hm)
    ·exact List.mem_cons.2 (.inr (hotAll hm))
 refine ⟨hb, h1.trans h.olds, by rw [h2, h.len]; omega, fun g hg => ?_, ?_, fun j q hj hq => ?_, h.fr.trans hf fun g hg => ?_⟩
 ·rcases ha g hg with q | q | q
  ·rcases h.all g q with q | ⟨j, p, hj, hp, q⟩ | q
   ·exact .inl q
   ·exact .inr (.inl ⟨j, p, by omega, hp, q⟩)
   ·exact .inr (.inr q)
  ·exact .inr (.inl ⟨i, o, by omega, ho, (hx g).1 q⟩)
  ·exact .inr (.inr (by omega))
 ·exact own_congr h.row fun g hg => hf.block g (h.row.lt g hg).2 (notx g (.inl hg))
 ·have hr := h.rest j q (by omega) hq
  exact own_congr hr fun g hg => hf.block g (hr.lt g hg).2 (notx g (.inr ⟨j, q, hj, hq, hg⟩))
 ·have inS : ∀ g, g ∈ stB ov ls → g ∈ b :: (bokF S1 S2 S3 ++ stB ov ls) := fun g hg => List.mem_cons.2 (.inr (List.mem_append.2 (.inr hg)))
  rcases List.mem_append.1 hg with hg | hg
  ·exact .inl (inS g (stB_slot (List.mem_of_getElem? ho) ((hx g).1 hg)))
  ·rcases List.mem_cons.1 hg with hg | hg
   ·exact .inl (List.mem_cons.2 (.inl hg))
   ·rcases h.all g (hotAll hg) with q | ⟨j, p, hj, hp, q⟩ | q
    ·exact .inl (List.mem_cons.2 (.inr (List.mem_append.2 (.inl (bokF2 q)))))
    ·exact .inl (inS g (stB_slot (List.mem_of_getElem? hp) q))
    ·exact .inr q
theorem Sw.start (h : Bok w b H S1 S2 S3) (hr : SRep w 0 ov ls) : Sw w w b H S1 S2 S3 ov ls 0 S2 :=
 ⟨h, rfl, rfl, fun g hg => .inl hg, hr.row, fun j o _ ho => hr.slots o (List.mem_of_getElem? ho), Fr.refl _ _⟩
end
end Go.Proofs.YtklfnjlenbgmoaaDoor
namespace Go.Proofs.YtklfnjlenbgmoaaDoor
open Go.RowKit Go.Maps
attribute [local go_sem ↓] Go.wp_at_zero Go.wp_at_succ
theorem set4 (X R : List Value) (a b c d v0 v1 v2 v3 : Value) : ((((X ++ a :: b :: c :: d :: R).set X.length v0).set (X.length + 1) v1).set (X.length + 2) v2).set (X.length + 3) v3 = X ++ v0 :: v1 :: v2 :: v3 :: R := by
 induction X with
 | nil => rfl
 | cons x X ih => exact congrArg (List.cons x) ih
def wiO (ls : List OS) (m : Int) (i : Nat) : List Value := zC kObjs i m ++ (osCells ls).drop (i * 4)
theorem osCells_len (ls : List OS) : (osCells ls).length = ls.length * 4 := by
 induction ls with
 | nil => rfl
 | cons o ls ih => simp [osCells, os4] at ih ⊢; omega
theorem wiO_set (ls : List OS) (m : Int) (i : Nat) (hi : i < ls.length) : ((((wiO ls m i).set (i * 4) (.int .i64 m)).set (i * 4 + 1) (.int .i64 0)).set (i * 4 + 2) (.int .i64 0)).set (i * 4 + 3) (.slice none 0 0) = wiO ls m (i + 1) := by
 have hl := osCells_len ls
 have hz : (zC kObjs i m).length = i * 4 := zC_len kObjs (fun _ => rfl) i m
 have e : (osCells ls).drop (i * 4) = (osCells ls)[i * 4] :: (osCells ls)[i * 4 + 1] :: (osCells ls)[i * 4 + 2] :: (osCells ls)[i * 4 + 3] :: (osCells ls).drop ((i + 1) * 4) := by
  rw [List.drop_eq_getElem_cons (by omega), List.drop_eq_getElem_cons (by omega), List.drop_eq_getElem_cons (by omega), List.drop_eq_getElem_cons (by omega)]
  rw [show i * 4 + 1 + 1 + 1 + 1 = (i + 1) * 4 from by omega]
 have s := set4 (zC kObjs i m) ((osCells ls).drop ((i + 1) * 4)) (osCells ls)[i * 4] (osCells ls)[i * 4 + 1] (osCells ls)[i * 4 + 2] (osCells ls)[i * 4 + 3] (.int .i64 m) (.int .i64 0) (.int .i64 0) (.slice none 0 0)
 rw [hz] at s
 unfold wiO
 rw [e, s, ← zC_snoc]
 simp [kObjs]
theorem wiO_end (ls : List OS) (m : Int) : wiO ls m ls.length = zC kObjs ls.length m := by
 unfold wiO
 rw [List.drop_eq_nil_of_le (by rw [osCells_len]; omega), List.append_nil]
set_option maxRecDepth 20000 in
set_option maxHeartbeats 4000000 in
theorem bstate_ok (b : Nat) (H : Hdr) (S1 S2 S3 : Sc) (ov : Value) (ls : List OS) (a1 a2 a3 : Int) (w : World) (h : Bok w b H S1 S2 S3) (hr : SRep w 0 ov ls) (hs : St0 w b S1 S2 S3 ov ls) (hn : ls.length ≤ 1048576) (hsl : ∀ o ∈ ls, o.slots.length ≤ 1100000)
  (k2 : S2.olds.length + S2.news.length + ls.length ≤ 8796093022000) (k3 : S3.olds.length + S3.news.length ≤ 8796093022000) :
  Calls Tryd.prog 43 #[.pointer (some ⟨b, 6, none⟩), .agg #[.int .i64 a1, .int .i64 a2, .int .i64 a3, ov]] w fun e w' => e = .returned (.tuple #[]) ∧ ∃ A2 A3, A2.olds.length + A2.news.length = S2.olds.length + S2.news.length + ls.length ∧ A3.olds.length + A3.news.length = S3.olds.length + S3.news.length + 1 ∧
   Bok w' b H S1 A2 A3 ∧ Fr (b :: (bokF S1 S2 S3 ++ stB ov ls)) w w' ∧ ∀ g ∈ bokF S1 A2 A3, g ∈ bokF S1 S2 S3 ∨ g ∈ stB ov ls ∨ w.heap.size ≤ g := by
 obtain ⟨x, hxv, hxn, hxb⟩ := le_of hr.row
 obtain ⟨p, n0, c⟩ := x
 have hxn : n0 = ls.length := hxn
 subst hxn
 have hxv : Value.slice p ls.length c = ov := hxv
 subst hxv
 have F0 : Fr [] w (w.alloc (.cells #[.int .i64 a1, .int .i64 a2, .int .i64 a3, .slice p ls.length c] 38)) := Fr.alloc [] _ _
 have HF0 := mkHid F0
 have ltb : ∀ g ∈ b :: (bokF S1 S2 S3 ++ stB (.slice p ls.length c) ls), g < w.heap.size := fun g hg => by
  rcases List.mem_cons.1 hg with e | e
  ·rw [e]; exact lt_of_heap h.top
  ·rcases List.mem_append.1 e with e | e
   ·exact h.lt e
   ·exact hs.lt g e
 have HS0 : Hid (St0 (w.alloc (.cells #[.int .i64 a1, .int .i64 a2, .int .i64 a3, .slice p ls.length c] 38)) b S1 S2 S3 (.slice p ls.length c) ls) := ⟨fun g hg => by have := hs.lt g hg; have := F0.size; omega, hs.ap, hs.nb, hs.ne, hs.apo⟩
 have HSw : Hid (Sw (w.alloc (.cells #[.int .i64 a1, .int .i64 a2, .int .i64 a3, .slice p ls.length c] 38)) (w.alloc (.cells #[.int .i64 a1, .int .i64 a2, .int .i64 a3, .slice p ls.length c] 38)) b H S1 S2 S3 (.slice p ls.length c) ls 0 S2) := Sw.start (h.keep F0 (by simp) (by simp)) (hr.idle F0)
 have HC3 : Hid (∀ V, Fr (b :: (bokF S1 S2 S3 ++ stB (.slice p ls.length c) ls)) (w.alloc (.cells #[.int .i64 a1, .int .i64 a2, .int .i64 a3, .slice p ls.length c] 38)) V → V.cell? ⟨w.heap.size, 3, none⟩ = some (.slice p ls.length c)) := fun V hV => by
  have hb : V.heap[w.heap.size]? = some (.cells #[.int .i64 a1, .int .i64 a2, .int .i64 a3, .slice p ls.length c] 38 (0, 0)) := (hV.block w.heap.size (by simp) fun hm => by have := ltb _ hm; omega).trans (heap_alloc_new w _)
  rw [cell_in hb]; rfl
 have HSl := mkHid hsl
 have HK := mkHid (And.intro k2 k3)
 have HXb := mkHid hxb
 clear h hr hs hsl k2 k3 hxb F0 ltb
 go_enter Tryd.func43, Tryd.ntmps43
 go_wp2_with fail
 generalize w.alloc (.cells #[.int .i64 a1, .int .i64 a2, .int .i64 a3, .slice p ls.length c] 38) = W0 at *
 generalize w.heap.size = s0 at *
 go_loopw [4] (fun q wr => ∃ (i : Nat) (A : Sc), i ≤ ls.length ∧ q = .int .i64 i ∧ Hid (Sw W0 wr b H S1 S2 S3 (.slice p ls.length c) ls i A)) (fun q _ => ls.length - (intOf q).toNat)
 case atStart => exact ⟨0, S2, Nat.zero_le _, rfl, HSw⟩
 case round =>
  obtain ⟨i, A, hin, rfl, hsw⟩ := hrel
  have i1 : (0 : Int) ≤ (i : Int) := by omega
  have y3 := HC3.out wr hsw.out.fr
  by_cases hi : i < ls.length
  ·have i2 : (i : Int) < (ls.length : Int) := by omega
   obtain ⟨o, ho⟩ : ∃ o, ls[i]? = some o := ⟨_, List.getElem?_eq_getElem hi⟩
   obtain ⟨x, hyv, hyn, hyb⟩ := le_of (hsw.out.rest i o (Nat.le_refl _) ho)
   obtain ⟨g, gp, gl, -⟩ : ∃ g, p = some ⟨g, 0, none⟩ ∧ g < wr.heap.size ∧ True := by
    rcases hsw.out.row.2 with ⟨h2, h3⟩ | ⟨g, cap, cur, h2, h3⟩
    ·omega
    ·injection h2 with e1
     exact ⟨g, e1, lt_of_heap h3.2.1, trivial⟩
   subst gp
   obtain ⟨o', ho', -, -, -, q3⟩ := osCells_at ls i hi
   rw [ho] at ho'
   injection ho' with ho'
   subst ho'
   have z3 : wr.cell? ⟨g, i * 4 + 3, none⟩ = some o.v := by
    rw [hsw.out.row.cellAt (i * 4 + 3) (by omega)]
    exact q3
   have hC := bwords_ok b H S1 A S3 x o.slots wr hsw.out.bok (by rw [hyn]) (by rw [hyv, hyn]; exact hsw.out.rest i o (Nat.le_refl _) ho) (by rw [hyn]; exact HSl.out o (List.mem_of_getElem? ho)) (by rw [hsw.out.olds, hsw.out.len]; have := HK.out.1; omega)
    (fun g hg hm => by
     have hg := (hyb g).1 hg
     rcases mem_bokF hm with h1 | h1 | h1
     ·exact HS0.out.ap g (stB_slot (List.mem_of_getElem? ho) hg) (bokF1 h1)
     ·exact hsw.out.out HS0.out (g := g) (.inr ⟨i, o, Nat.le_refl _, ho, hg⟩) (List.mem_cons.2 (.inr h1))
     ·exact HS0.out.ap g (stB_slot (List.mem_of_getElem? ho) hg) (bokF3 h1))
    (fun hm => HS0.out.nb (stB_slot (List.mem_of_getElem? ho) ((hyb b).1 hm)))
   rw [hyv] at hC
   have HC := mkHid hC
   have HO := mkHid ho
   have HXx := mkHid hyb
   clear hC q3 ho hyb hyn hyv
   go_wp2_with fail
   refine Calls.mono HC.out ?_
   rintro e w1 ⟨rfl, A', z1, z2, z4, z5, z6⟩
   have HN : Hid (Sw W0 w1 b H S1 S2 S3 (.slice (some ⟨g, 0, none⟩) ls.length c) ls (i + 1) A') := hsw.out.next HS0.out HO.out (x := x) HXx.out z4 z1 z2 z5 z6
   clear z4 z5 z6 hsw HC
   go_wp2_with fail
   go_roundw
   case rel => exact ⟨i + 1, A', by omega, by go_num, HN⟩
   case measure => simp [intOf]; omega
  ·have hie : i = ls.length := by omega
   have i2 : ¬ (i : Int) < (ls.length : Int) := by omega
   have n3 := hsw.out.bok.ok3.nK
   have y8 : wr.cell? ⟨b, 14, none⟩ = some (.slice S3.vK.p S3.vK.n S3.vK.c) := by rw [cell_in hsw.out.bok.top]; rfl
   have hN : S3.vK.n ≤ 8796093022000 := by rw [n3]; exact HK.out.2
   obtain ⟨N, hNe⟩ : ∃ N, N = S3.vK.n := ⟨_, rfl⟩
   rw [← hNe] at y8 hN
   obtain ⟨m, hme⟩ : ∃ m : Int, m = -9000000 - (N : Int) := ⟨_, rfl⟩
   have hmw : IntKind.i64.wrap (-9000000 - (N : Int)) = m := by rw [hme, iwrap]; unfold wrap64; omega
   have HNe := mkHid hNe
   clear hNe n3
   go_wp2_with fail
   try rw [← hme]
   clear hme hmw
   have HRow : Hid (wr.ownsRow 0 106 4 (.slice p ls.length c) ls.length (wiO ls m 0)) := mkHid (by
    have := hsw.out.row
    unfold wiO
    simpa [zC] using this)
   generalize wr = wo at *
   go_loopw [6] (fun q wr => ∃ k : Nat, k ≤ ls.length ∧ q = .int .i64 k ∧ Hid (wr.ownsRow 0 106 4 (.slice p ls.length c) ls.length (wiO ls m k)) ∧ Hid (Fr (blk p) wo wr)) (fun q _ => ls.length - (intOf q).toNat)
   case atStart => exact ⟨0, Nat.zero_le _, rfl, HRow, Fr.refl _ _⟩
   case round =>
    obtain ⟨k, hkn, rfl, hown, hq⟩ := hrel
    have k1 : (0 : Int) ≤ (k : Int) := by omega
    have inS : ∀ g ∈ blk p, g ∈ stB (.slice p ls.length c) ls := fun g hg => stB_row ((HXb.out g).1 hg)
    have y3' := HC3.out wr (hsw.out.fr.trans hq.out fun g hg => .inl (List.mem_cons.2 (.inr (List.mem_append.2 (.inr (inS g hg))))))
    by_cases hlt : k < ls.length
    ·have k2 : (k : Int) < (ls.length : Int) := by omega
     obtain ⟨g, cg, eg, -, -⟩ := hown.out.form (by omega)
     injection eg with eg1 _ eg2
     subst eg1 eg2
     have hwl : (wiO ls m k).length = ls.length * 4 := hown.out.1
     obtain ⟨cur, hcur⟩ : ∃ cur, wr.heap[g]? = some (.cells cur 106 (0, 0)) := row_block hown.out rfl
     have z0 := frozen_in hcur (k * 4)
     have z1 := frozen_in hcur (k * 4 + 1)
     have z2 := frozen_in hcur (k * 4 + 2)
     have z3 := frozen_in hcur (k * 4 + 3)
     have cc : ∀ r, r < 4 → ∃ u, wr.cell? ⟨g, k * 4 + r, none⟩ = some u := fun r hr => ⟨(wiO ls m k)[k * 4 + r], by rw [hown.out.cellAt (k * 4 + r) (by omega)]; exact List.getElem?_eq_getElem (by omega)⟩
     obtain ⟨u0, x0⟩ := cc 0 (by omega)
     obtain ⟨u1, x1⟩ := cc 1 (by omega)
     obtain ⟨u2, x2⟩ := cc 2 (by omega)
     obtain ⟨u3, x3⟩ := cc 3 (by omega)
     rw [Nat.add_zero] at x0
     have HO2 : Hid (((((wr.setCell ⟨g, k * 4, none⟩ (.int .i64 m)).setCell ⟨g, k * 4 + 1, none⟩ (.int .i64 0)).setCell ⟨g, k * 4 + 2, none⟩ (.int .i64 0)).setCell ⟨g, k * 4 + 3, none⟩ (.slice none 0 0)).ownsRow 0 106 4 (.slice (some ⟨g, 0, none⟩) ls.length c) ls.length (wiO ls m (k + 1))) := by
      rw [← wiO_set ls m k hlt]
      exact own_stored (own_stored (own_stored (own_stored hown.out _ _) _ _) _ _) _ _
     have HF2 : Hid (Fr (blk (some ⟨g, 0, none⟩)) wo ((((wr.setCell ⟨g, k * 4, none⟩ (.int .i64 m)).setCell ⟨g, k * 4 + 1, none⟩ (.int .i64 0)).setCell ⟨g, k * 4 + 2, none⟩ (.int .i64 0)).setCell ⟨g, k * 4 + 3, none⟩ (.slice none 0 0))) :=
      (((hq.out.trans (Fr.setCell (S := blk (some ⟨g, 0, none⟩)) _ _ _ (by simp [blk])) (fun b hb => .inl hb)).trans (Fr.setCell (S := blk (some ⟨g, 0, none⟩)) _ _ _ (by simp [blk])) (fun b hb => .inl hb)).trans (Fr.setCell (S := blk (some ⟨g, 0, none⟩)) _ _ _ (by simp [blk])) (fun b hb => .inl hb)).trans (Fr.setCell (S := blk (some ⟨g, 0, none⟩)) _ _ _ (by simp [blk])) (fun b hb => .inl hb)
     clear hown hcur hwl hq cc inS
     go_wp2_with fail
     go_roundw
     case rel => exact ⟨k + 1, by omega, by go_num, HO2, HF2⟩
     case measure => simp [intOf]; omega
    ·have hke : k = ls.length := by omega
     have k2 : ¬ (k : Int) < (ls.length : Int) := by omega
     have HO : OwK kObjs wr ⟨p, ls.length, c⟩ m := ⟨by
      have := hown.out
      rw [hke, wiO_end] at this
      exact this, by show ls.length ≤ _; omega⟩
     have hsz := hq.out.size
     have hsz2 := hsw.out.fr.size
     have apx : ∀ g ∈ blk p, g ∉ b :: A.all := fun g hg => hsw.out.out HS0.out (.inl ((HXb.out g).1 hg))
     have ax : ∀ g ∈ blk p, g ∉ bokF S1 A S3 := fun g hg hm => by
      rcases mem_bokF hm with h1 | h1 | h1
      ·exact HS0.out.ap g (inS g hg) (bokF1 h1)
      ·exact apx g hg (List.mem_cons.2 (.inr h1))
      ·exact HS0.out.ap g (inS g hg) (bokF3 h1)
     have bx : b ∉ blk p := fun hm => HS0.out.nb (inS b hm)
     have bk0 := hsw.out.bok.keep hq.out bx fun g hg hm => ax g hm hg
     have bk := bk0.keep (Fr.drew [] wr) (by simp) (by simp)
     have HO' : OwK kObjs wr.drew ⟨p, ls.length, c⟩ m := HO.keep (Fr.drew [] wr) (by simp)
     obtain ⟨p1, c1, w1, p4, c4, w4, r1, z1, fz1, z3, r4, z4, fz4, hbok, hfr, hall⟩ := bk.push3 ⟨p, ls.length, c⟩ m HO' ax bx HK.out.2
     have nI := bk.ok3.nI
     have nK := bk.ok3.nK
     have eN : S3.vI.n = N := by rw [HNe.out]; omega
     have eV : S3.vK.v = .slice S3.vK.p N S3.vK.c := by rw [HNe.out]; rfl
     have eI : S3.vI.v = .slice S3.vI.p N S3.vI.c := by rw [← eN]; rfl
     have x0 : wr.cell? ⟨b, 12, none⟩ = some (.slice S3.vI.p N S3.vI.c) := by rw [cell_in bk0.top, ← eI]; rfl
     have x0a := (World.cell?_alloc_lt wr (.cells #[.slice p ls.length c] 36) ⟨b, 12, none⟩ (lt_of_heap bk0.top)).trans x0
     have HZ : Hid (∃ A2 A3, A2.olds.length + A2.news.length = S2.olds.length + S2.news.length + ls.length ∧ A3.olds.length + A3.news.length = S3.olds.length + S3.news.length + 1 ∧ Bok (w4.setCell ⟨b, 14, none⟩ (.slice p4 (N + 1) c4)) b H S1 A2 A3 ∧ Fr (b :: (bokF S1 S2 S3 ++ stB (.slice p ls.length c) ls)) w (w4.setCell ⟨b, 14, none⟩ (.slice p4 (N + 1) c4)) ∧ ∀ g ∈ bokF S1 A2 A3, g ∈ bokF S1 S2 S3 ∨ g ∈ stB (.slice p ls.length c) ls ∨ w.heap.size ≤ g) := by
      have hf0 := HF0.out.size
      rw [eN] at hbok hfr hall
      refine ⟨A, _, by rw [hsw.out.olds, hsw.out.len, hie]; omega, ?_, hbok, ?_, fun g hg => ?_⟩
      ·simp [Sc.add]; omega
      ·have f1 : Fr (b :: (bokF S1 S2 S3 ++ stB (.slice p ls.length c) ls)) w wo := (HF0.out.mono (by simp)).trans hsw.out.fr fun g hg => .inl hg
       have f2 := f1.trans hq.out fun g hg => .inl (List.mem_cons.2 (.inr (List.mem_append.2 (.inr (inS g hg)))))
       have f3 := f2.trans (Fr.drew [] wr) (by simp)
       refine f3.trans hfr fun g hg => .inl ?_
       rcases List.mem_cons.1 hg with hg | hg
       ·exact List.mem_cons.2 (.inl hg)
       ·exact List.mem_cons.2 (.inr (List.mem_append.2 (.inl (bokF3 (hotAll hg)))))
      ·rcases mem_bokF hg with h1 | h1 | h1
       ·exact .inl (bokF1 h1)
       ·rcases hsw.out.all g h1 with q | ⟨j, o, hj, ho, q⟩ | q
        ·exact .inl (bokF2 q)
        ·exact .inr (.inl (stB_slot (List.mem_of_getElem? ho) q))
        ·exact .inr (.inr (by omega))
       ·rcases hall g h1 with q | q | q
        ·exact .inl (bokF3 q)
        ·exact .inr (.inl (inS g q))
        ·have q : wr.heap.size ≤ g := q
         exact .inr (.inr (by omega))
     have hx0 : Le.v ⟨p, ls.length, c⟩ = .slice p ls.length c := rfl
     rw [eI, eN, hx0] at r1
     rw [eI] at z1
     rw [eV, eN] at z3 r4
     rw [eV] at z4
     obtain ⟨W3, hW3⟩ : ∃ W3, w1.setCell ⟨b, 12, none⟩ (.slice p1 (N + 1) c1) = W3 := ⟨_, rfl⟩
     rw [hW3] at z3 r4
     have HR1 : Hid ((Builtin.append_ #[81, 81] 81 #[.slice S3.vI.p N S3.vI.c, .slice (some ⟨wr.heap.size, 0, none⟩) 1 1]).run Tryd.prog (wr.alloc (.cells #[.slice p ls.length c] 36)).drew = .ok (.slice p1 (N + 1) c1) w1) := r1
     have HR4 := mkHid r4
     generalize S3.vI.p = pI at *
     generalize S3.vK.p = pK at *
     generalize S3.vI.c = cI at *
     generalize S3.vK.c = cK at *
     clear hown hlt hbok hfr hall r1 r4 eV eI bk bk0 HO HO' ax bx apx inS nI nK eN hsw hq
     go_wp2_with fail
     go_region_law (refine step_append_run rfl (.tmp 45) (.tmp 48) 81 81 rfl _ _ rfl rfl _ _ HR1.out ?_)
     all_goals go_wp2_with (at_builtin; refine Lib.wpList_append_run _ rfl (.tmp _) (.tmp _) 22 22 rfl _ _ rfl rfl _ _ HR4.out ?_)
     all_goals
      go_end0
      obtain ⟨A2, A3, q1, q2, q3, q4, q5⟩ := HZ.out
      first | exact ⟨rfl, A2, A3, q1, q2, q3, q4, q5⟩ | exact ⟨rfl, A2, q1, A3, q2, q3, q4, q5⟩
end Go.Proofs.YtklfnjlenbgmoaaDoor
