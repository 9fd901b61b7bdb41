import Derived.Test.YtklfnjlenbgmoaaDoorPG26HPlN
import Derived.Test.YtklfnjlenbgmoaaDoorPHDcF
import Derived.Test.YtklfnjlenbgmoaaDoorPG25RKeep
import Derived.Deep.RegionHeld3
set_option linter.unusedSimpArgs false
set_option linter.unusedVariables false
namespace Go.Proofs.YtklfnjlenbgmoaaDoor
open Go.RowKit
attribute [local go_sem ↓] Go.wp_at_zero Go.wp_at_succ
theorem rFree_nil (A : Int) (w : World) : Calls Tryd.prog 79 #[.pointer none, .int .i64 A] w fun e w' => e = .returned (.int .i64 2) ∧ Fr [] w w' := by
 go_enter Tryd.func79, Tryd.ntmps79
 go_wp2_with fail
 go_ret
 exact ⟨rfl, Fr.refl _ _⟩
theorem rClass_nil (A : Int) (w : World) : Calls Tryd.prog 80 #[.pointer none, .int .i64 A] w fun e w' => e = .returned (.tuple #[.int .i64 0, .int .i64 2]) ∧ Fr [] w w' := by
 go_enter Tryd.func80, Tryd.ntmps80
 go_wp2_with fail
 go_ret2
 exact ⟨rfl, Fr.refl _ _⟩
theorem rSize_nil (A : Int) (w : World) : Calls Tryd.prog 82 #[.pointer none, .int .i64 A] w fun e w' => e = .returned (.tuple #[.int .i64 0, .int .i64 0, .int .i64 2]) ∧ Fr [] w w' := by
 go_enter Tryd.func82, Tryd.ntmps82
 go_wp2_with fail
 refine bodyPost_ret (results_tmp3 rfl _ _ _) rfl ?_
 exact ⟨rfl, Fr.refl _ _⟩
theorem rSetClass_nil (A X : Int) (w : World) : Calls Tryd.prog 83 #[.pointer none, .int .i64 A, .int .i64 X] w fun e w' => e = .returned (.int .i64 2) ∧ Fr [] w w' := by
 go_enter Tryd.func83, Tryd.ntmps83
 go_wp2_with fail
 go_ret
 exact ⟨rfl, Fr.refl _ _⟩
theorem rAt_nil (A B : Int) (w : World) : Calls Tryd.prog 84 #[.pointer none, .int .i64 A, .int .i64 B] w fun e w' => e = .returned (.tuple #[.int .i64 0, .int .i64 2]) ∧ Fr [] w w' := by
 go_enter Tryd.func84, Tryd.ntmps84
 go_wp2_with fail
 go_ret2
 exact ⟨rfl, Fr.refl _ _⟩
theorem rPut_nil (A B X : Int) (w : World) : Calls Tryd.prog 85 #[.pointer none, .int .i64 A, .int .i64 B, .int .i64 X] w fun e w' => e = .returned (.int .i64 2) ∧ Fr [] w w' := by
 go_enter Tryd.func85, Tryd.ntmps85
 go_wp2_with fail
 go_ret
 exact ⟨rfl, Fr.refl _ _⟩
theorem rExch_nil (A B : Int) (w : World) : Calls Tryd.prog 86 #[.pointer none, .int .i64 A, .int .i64 B] w fun e w' => e = .returned (.int .i64 2) ∧ Fr [] w w' := by
 go_enter Tryd.func86, Tryd.ntmps86
 go_wp2_with fail
 go_ret
 exact ⟨rfl, Fr.refl _ _⟩
theorem rBack_nil (x y z : Value) (w : World) : Calls Tryd.prog 88 #[.pointer none, .agg #[x, y, z]] w fun e w' => e = .returned (.int .i64 2) ∧ Fr [] w w' := by
 go_enter Tryd.func88, Tryd.ntmps88
 go_wp2_with fail
 go_ret
 exact ⟨rfl, Fr.alloc [] _ _⟩
theorem rKeep_nil (u : Value) (w : World) : Calls Tryd.prog 111 #[.pointer none, u] w fun e w' => e = .returned (.tuple #[.int .i64 0, .int .i64 0, .int .i64 2]) ∧ Fr [] w w' := by
 go_enter Tryd.func111, Tryd.ntmps111
 go_wp2_with fail
 refine bodyPost_ret (results_tmp3 rfl _ _ _) rfl ?_
 exact ⟨rfl, Fr.refl _ _⟩
theorem rAll_nil (w : World) : Calls Tryd.prog 92 #[.pointer none] w fun e w' => e = .returned (.slice none 0 0) ∧ Fr [] w w' := by
 go_enter Tryd.func92, Tryd.ntmps92
 go_wp2_with fail
 go_ret
 exact ⟨rfl, Fr.refl _ _⟩
theorem rAllocM {H : HS} (X A B : Int) (r : Nat) (R : RS) (M : MS) (w : World) (h : RRep w 0 r R) (hi : Inv H M) (hd : Doc M R) (hb : RBd M R) (hbn : R.born ≤ 1000000000000) :
  Calls Tryd.prog 77 #[.pointer (some ⟨r, 0, none⟩), .int .i64 X, .int .i64 A, .int .i64 B] w fun e w' => e = .returned (.tuple #[.int .i64 (allocA M X A B).1, .int .i64 (allocA M X A B).2]) ∧ RN false r R (allocN M X A B) w w' := by
 have h1 := hd.len
 have h2 := hd.fin
 have h3 := hd.words
 have h4 := hd.oops
 have h5 := hd.mark
 unfold allocA
 by_cases hbad : isW X = false ∨ A < 0 ∨ B < 0 ∨ 1 < B
 ·rw [if_pos hbad, allocN_bad hbad]
  refine Calls.mono (rAlloc_arg X A B 0 r R w h hbad) ?_
  rintro e w' ⟨rfl, rfl⟩
  exact ⟨rfl, RN.same h hd (Fr.refl _ _)⟩
 ·rw [if_neg hbad]
  have hW : isW X = true := by
   cases hx : isW X with
   | true => rfl
   | false => exact absurd (.inl hx) hbad
  obtain ⟨n, rfl⟩ : ∃ n : Nat, A = (n : Int) := ⟨A.toNat, by omega⟩
  obtain ⟨f, rfl⟩ : ∃ f : Nat, B = (f : Int) := ⟨B.toNat, by omega⟩
  by_cases hbig : 8192 < (n : Int)
  ·rw [if_pos hbig, allocN_big hbad hbig]
   refine Calls.mono (rAlloc_size X n f 0 r R w h hW (by omega) hbig) ?_
   rintro e w' ⟨rfl, rfl⟩
   exact ⟨rfl, RN.same h hd (Fr.refl _ _)⟩
  ·rw [if_neg hbig]
   have hA : AlR X n f 0 r R w := ⟨h, hb.ok, hW, by omega, by omega, hb.words, hb.oops, hb.fin⟩
   have hfl := hb.full
   by_cases hfull : M.oops = thereTo M.things M.things.length ∨ M.words < endTo M.things M.things.length + lenN (n : Int).toNat (f : Int).toNat
   ·rw [if_pos hfull, allocN_full hbad hbig hfull]
    rw [Int.toNat_natCast, Int.toNat_natCast] at hfull
    refine Calls.mono (rAlloc_full X n f 0 r R w hA (by
     rcases hfull with h6 | h6
     ·exact .inl (hfl.2 h6)
     ·exact .inr (by omega))) ?_
    rintro e w' ⟨rfl, hf⟩
    exact ⟨rfl, RN.same h hd hf⟩
   ·rw [if_neg hfull]
    have hfull2 := hfull
    rw [Int.toNat_natCast, Int.toNat_natCast] at hfull2
    have hr1 : R.objs.length < R.oops := by
     by_cases e : R.oops ≤ R.objs.length
     ·exact absurd (.inl (hfl.1 e)) hfull2
     ·omega
    have hr2 : rEnd R.objs + lenN n f ≤ R.words := by omega
    by_cases hm : M.mark = 1
    ·rw [if_pos hm, allocN_mark hbad hbig hfull hm]
     refine Calls.mono (rAlloc_marked X n f 0 r R w hA hr1 hr2 (by omega)) ?_
     rintro e w' ⟨rfl, hr, hf⟩
     exact ⟨rfl, _, hr, hd.setMark 0, fr_r hf, fun g hg => .inl hg, OldR.same rfl rfl rfl⟩
    ·rw [if_neg hm, allocN_made hbad hbig hfull hm]
     refine Calls.mono (rAlloc_made X n f 0 r R w hA hr1 hr2 (by omega) M hd hb.things hb.mark hbn) ?_
     rintro e w' ⟨rfl, v, ov, hr, hf, hv, hov⟩
     have hdm := hd.made X n f (M.mark - 1) none 0 ⟨lowTo M.things, f, rEnd R.objs, R.born, X, List.replicate n (newX f), v⟩ ov (by unfold rv; rw [h2]) rfl (fun x hx g hg hx2 => by
      have := hv g hg
      have := ((h.slots x hx).lt g hx2).2
      omega)
     rw [h5] at hr
     refine ⟨rfl, _, hr, hdm, hf.mono (fun b hb2 => .inl ?_), fun g hg => ?_, ⟨.inl ⟨rfl, rfl, [R.born], by rw [List.map_append]; rfl, by simp⟩, Nat.le_succ _, Nat.le_refl _⟩⟩
     ·rcases List.mem_cons.1 hb2 with h6 | h6
      ·rw [h6]; simp [rfoot]
      ·exact rfoot_row (by simpa using h6)
     ·unfold rfoot at hg
      rcases List.mem_cons.1 hg with h6 | h6
      ·left; rw [h6]; simp [rfoot]
      ·rcases List.mem_append.1 h6 with h7 | h7
       ·rcases hov g (by simpa using h7) with h8 | h8
        ·exact .inl (rfoot_row h8)
        ·exact .inr h8
       ·obtain ⟨o, o1, o2⟩ := List.mem_flatMap.1 h7
        have o2' : o.v.ownBlock = some g := by simpa using o2
        rcases List.mem_append.1 (show o ∈ R.objs ++ [_] from o1) with h8 | h8
        ·exact .inl (rfoot_slot h8 o2')
        ·have e := List.mem_singleton.1 h8
         rw [e] at o2'
         exact .inr (hv g o2')
theorem run_eql_none {tp te : TypeId} {j : TypeInfo} (V : World) (a : Addr) (hp : Tryd.prog.underlying tp = some (.pointer te)) (hte : Tryd.prog.info? te = some j) :
  (binOp .eql tp (.pointer none) (.pointer (some a))).run Tryd.prog V = .ok (.bool false) V := by
 have h : ∀ d : Nat, (Op.equalIn (d + 1) tp (.pointer none) (.pointer (some a))).run Tryd.prog V = .ok false V := fun d => by
  simp [Op.equalIn, run_underlying hp, sizeOf, typeInfo, hte]
 simp only [binOp]
 simp [Op.equal, Op.maxDepth, h 9999]
theorem made_zero (b : Nat) (w : World) (h : w.cell? ⟨b, 0, none⟩ = some (.pointer none)) : Calls Tryd.prog 44 #[.pointer (some ⟨b, 0, none⟩)] w fun e w' => e = .returned (.bool false) ∧ w' = w := by
 obtain ⟨j, hj⟩ := Option.isSome_iff_exists.1 info95
 have hq := run_eql_none w ⟨b, 0, none⟩ Tryd.underlying24 hj
 clear hj
 go_enter Tryd.func44, Tryd.ntmps44
 go_wp2
 go_ret
 exact ⟨rfl, rfl⟩
theorem noH_zero {w : World} {b : Nat} {cs : Array Value} {t : TypeId} (h : w.heap[b]? = some (.cells cs t (0, 0))) (h0 : cs[0]? = some (.pointer none)) : NoH w (.pointer (some ⟨b, 0, none⟩)) := fun V hV =>
 made_zero b V (by rw [cell_in ((hV.block b (lt_of_heap h) (by simp)).trans h)]; exact h0)
theorem nState (v : Value) (w : World) (h : NoH w v) : Calls Tryd.prog 23 #[v] w fun e w' => e = .returned (.agg #[.int .i64 0, .int .i64 0, .int .i64 0, .slice none 0 0]) ∧ Fr [] w w' := by
 have HM := mkHid h
 clear h
 go_enter Tryd.func23, Tryd.ntmps23
 go_wp2_with (go_at_call 44; refine Calls.mono (HM.out _ (by first | exact Fr.refl _ _ | exact Fr.alloc [] _ _)) ?_; rintro e w' ⟨rfl, hw'⟩; rw [hw']; clear hw' w')
 have hB0 : (w.alloc (.cells #[.int .i64 0, .int .i64 0, .int .i64 0, .slice none 0 0] 38)).heap[w.heap.size]? = some (.cells #[.int .i64 0, .int .i64 0, .int .i64 0, .slice none 0 0] 38 (0, 0)) := heap_alloc_new _ _
 have F0 : Fr [] w (w.alloc (.cells #[.int .i64 0, .int .i64 0, .int .i64 0, .slice none 0 0] 38)) := Fr.alloc [] _ _
 generalize w.alloc (.cells #[.int .i64 0, .int .i64 0, .int .i64 0, .slice none 0 0] 38) = V at *
 have x0 : V.cell? ⟨w.heap.size, 0, none⟩ = some (.int .i64 0) := by rw [cell_in hB0]; rfl
 have x1 : V.cell? ⟨w.heap.size, 1, none⟩ = some (.int .i64 0) := by rw [cell_in hB0]; rfl
 have x2 : V.cell? ⟨w.heap.size, 2, none⟩ = some (.int .i64 0) := by rw [cell_in hB0]; rfl
 have x3 : V.cell? ⟨w.heap.size, 3, none⟩ = some (.slice none 0 0) := by rw [cell_in hB0]; rfl
 refine bodyPost_ret (v := .agg #[.int .i64 0, .int .i64 0, .int .i64 0, .slice none 0 0]) (by simp [results, Tryd.results23, go_sem, x0, x1, x2, x3]) rfl ?_
 exact ⟨rfl, F0⟩
theorem nPoint (v : Value) (w : World) (h : NoH w v) : Calls Tryd.prog 27 #[v] w fun e w' => e = .returned (.agg #[.pointer none, .int .i64 0, .int .i64 0]) ∧ Fr [] w w' := by
 have HM := mkHid h
 clear h
 go_enter Tryd.func27, Tryd.ntmps27
 go_wp2_with (go_at_call 44; refine Calls.mono (HM.out _ (by first | exact Fr.refl _ _ | exact Fr.alloc [] _ _)) ?_; rintro e w' ⟨rfl, hw'⟩; rw [hw']; clear hw' w')
 refine bodyPost_ret (v := .agg #[.pointer none, .int .i64 0, .int .i64 0]) (by simp [results, Tryd.results27, go_sem]) rfl ⟨rfl, Fr.alloc _ _ _⟩
theorem rPoint_nil (w : World) : Calls Tryd.prog 87 #[.pointer none] w fun e w' => e = .returned (.agg #[.pointer none, .int .i64 0, .int .i64 0]) ∧ Fr [] w w' := by
 go_enter Tryd.func87, Tryd.ntmps87
 go_wp2_with fail
 refine bodyPost_ret (v := .agg #[.pointer none, .int .i64 0, .int .i64 0]) (by simp [results, Tryd.results87, go_sem]) rfl ⟨rfl, Fr.alloc _ _ _⟩
theorem run_neq_ptr_none {tp te : TypeId} {j : TypeInfo} (V : World) (a : Addr) (hp : Tryd.prog.underlying tp = some (.pointer te)) (hte : Tryd.prog.info? te = some j) :
  (binOp .neq tp (.pointer none) (.pointer (some a))).run Tryd.prog V = .ok (.bool true) V := by
 have h : ∀ d : Nat, (Op.equalIn (d + 1) tp (.pointer none) (.pointer (some a))).run Tryd.prog V = .ok false V := fun d => by
  simp [Op.equalIn, run_underlying hp, sizeOf, typeInfo, hte]
 simp only [binOp]
 simp [Op.equal, Op.maxDepth, h 9999]
theorem run_neq_ptr_other {tp te : TypeId} {j : TypeInfo} (V : World) {a b : Addr} {ca cb : Array Value} {ta tb : TypeId} (hne : a ≠ b) (ha : V.heap[a.block]? = some (.cells ca ta (0, 0))) (hb : V.heap[b.block]? = some (.cells cb tb (0, 0))) (hp : Tryd.prog.underlying tp = some (.pointer te)) (hte : Tryd.prog.info? te = some j) (hz : j.size ≠ 0) :
  (binOp .neq tp (.pointer (some a)) (.pointer (some b))).run Tryd.prog V = .ok (.bool true) V := by
 have h : ∀ d : Nat, (Op.equalIn (d + 1) tp (.pointer (some a)) (.pointer (some b))).run Tryd.prog V = .ok false V := fun d => by
  simp [Op.equalIn, run_underlying hp, sizeOf, typeInfo, hte, hz]
  exact run_sameAddr_other (P := Tryd.prog) V hne ha hb
 simp only [binOp]
 simp [Op.equal, Op.maxDepth, h 9999]
set_option maxRecDepth 20000 in
set_option maxHeartbeats 1000000 in
theorem Back_other (v : Option Addr) (ag tn : Int) (a : Nat) (l : Lay) (H : HS) (w : World) (h : Rep w a l H) (hv : ∀ b, v = some b → b ≠ ⟨a, 0, none⟩ ∧ ∃ cs t, w.heap[b.block]? = some (.cells cs t (0, 0))) :
  Calls Tryd.prog 31 #[.pointer (some ⟨a, 0, none⟩), .agg #[.pointer v, .int .i64 ag, .int .i64 tn]] w fun e w' => e = .returned (.int .i64 25) ∧ Fr [] w w' := by
 have hal := h.lt a (by simp [foot])
 have c0 := (World.cell?_alloc_lt w (.cells #[.pointer v, .int .i64 ag, .int .i64 tn] 62) ⟨a, 0, none⟩ hal).trans h.c0
 have c10 := (World.cell?_alloc_lt w (.cells #[.pointer v, .int .i64 ag, .int .i64 tn] 62) ⟨a, 10, none⟩ hal).trans h.c10
 have HM := mkHid (made_any a _ c0)
 have HE : Hid (∀ n, Fr [] w ((w.alloc (.cells #[.pointer v, .int .i64 ag, .int .i64 tn] 62)).drewN n)) := fun n => (Fr.alloc [] _ _).trans (Fr.drewN [] _ _) (by simp)
 obtain ⟨j, hj⟩ := Option.isSome_iff_exists.1 info95
 have hjz : j.size ≠ 0 := by
  have : (Tryd.prog.info? 95).map (fun i => decide (i.size ≠ 0)) = some true := by kernel_rfl
  rw [hj] at this
  simpa using this
 have hq : (binOp .neq 24 (.pointer v) (.pointer (some ⟨a, 0, none⟩))).run Tryd.prog (w.alloc (.cells #[.pointer v, .int .i64 ag, .int .i64 tn] 62)).drew = .ok (.bool true) (w.alloc (.cells #[.pointer v, .int .i64 ag, .int .i64 tn] 62)).drew := by
  cases v with
  | none => exact run_neq_ptr_none _ _ Tryd.underlying24 hj
  | some b =>
   obtain ⟨h1, cs, t, h2⟩ := hv b rfl
   have h3 := (Below.heap_alloc w (.cells #[.pointer (some b), .int .i64 ag, .int .i64 tn] 62) a hal).trans h.top
   have h4 := (Below.heap_alloc w (.cells #[.pointer (some b), .int .i64 ag, .int .i64 tn] 62) b.block (lt_of_heap h2)).trans h2
   exact run_neq_ptr_other (w.alloc (.cells #[.pointer (some b), .int .i64 ag, .int .i64 tn] 62)).drew (b := ⟨a, 0, none⟩) h1 h4 h3 Tryd.underlying24 hj hjz
 clear h c0 hj hv
 go_enter Tryd.func31, Tryd.ntmps31
 go_wp2_with (go_at_call 44; refine Calls.mono HM.out ?_; rintro e w' ⟨rfl, hw'⟩; rw [hw']; clear hw' w')
 go_region
 all_goals go_wp2_with fail
 all_goals
  go_ret
  exact ⟨rfl, HE.out _⟩
set_option maxRecDepth 20000 in
set_option maxHeartbeats 1000000 in
theorem rBack_other (v : Option Addr) (ag tn : Int) (B a : Nat) (R : RS) (w : World) (h : RRep w B a R) (hv : ∀ b, v = some b → b ≠ ⟨a, 0, none⟩ ∧ ∃ cs t, w.heap[b.block]? = some (.cells cs t (0, 0))) :
  Calls Tryd.prog 88 #[.pointer (some ⟨a, 0, none⟩), .agg #[.pointer v, .int .i64 ag, .int .i64 tn]] w fun e w' => e = .returned (.int .i64 25) ∧ Fr [] w w' := by
 have hal : a < w.heap.size := lt_of_heap h.top
 have c4 : w.cell? ⟨a, 4, none⟩ = some (.int .i64 (R.turn : Int)) := by rw [h.c]; rfl
 have d4 := (World.cell?_alloc_lt w (.cells #[.pointer v, .int .i64 ag, .int .i64 tn] 139) ⟨a, 4, none⟩ hal).trans c4
 have HE : Hid (∀ n, Fr [] w ((w.alloc (.cells #[.pointer v, .int .i64 ag, .int .i64 tn] 139)).drewN n)) := fun n => (Fr.alloc [] _ _).trans (Fr.drewN [] _ _) (by simp)
 obtain ⟨j, hj⟩ := Option.isSome_iff_exists.1 info137
 have hjz : j.size ≠ 0 := by
  have : (Tryd.prog.info? 111).map (fun i => decide (i.size ≠ 0)) = some true := by kernel_rfl
  rw [hj] at this
  simpa using this
 have hq : (binOp .neq 42 (.pointer v) (.pointer (some ⟨a, 0, none⟩))).run Tryd.prog (w.alloc (.cells #[.pointer v, .int .i64 ag, .int .i64 tn] 139)).drew = .ok (.bool true) (w.alloc (.cells #[.pointer v, .int .i64 ag, .int .i64 tn] 139)).drew := by
  cases v with
  | none => exact run_neq_ptr_none _ _ Tryd.underlying42 hj
  | some b =>
   obtain ⟨h1, cs, t, h2⟩ := hv b rfl
   have h3 := (Below.heap_alloc w (.cells #[.pointer (some b), .int .i64 ag, .int .i64 tn] 139) a hal).trans h.top
   have h4 := (Below.heap_alloc w (.cells #[.pointer (some b), .int .i64 ag, .int .i64 tn] 139) b.block (lt_of_heap h2)).trans h2
   exact run_neq_ptr_other (w.alloc (.cells #[.pointer (some b), .int .i64 ag, .int .i64 tn] 139)).drew (b := ⟨a, 0, none⟩) h1 h4 h3 Tryd.underlying42 hj hjz
 clear h hj hv
 go_enter Tryd.func88, Tryd.ntmps88
 go_wp2_with fail
 go_region
 all_goals go_wp2_with fail
 all_goals
  go_ret
  exact ⟨rfl, HE.out _⟩
end Go.Proofs.YtklfnjlenbgmoaaDoor
namespace Go.Proofs.YtklfnjlenbgmoaaDoor
open Go.RowKit
section
variable {P : Program} {ops : Array Oper} {Q : Exit → Act → World → Prop} {md : Region.Mode} {S : World → Prop} {L : Nat}
def wpLast (P : Program) (md : Region.Mode) (ops : Array Oper) (Q : Exit → Act → World → Prop) (S : World → Prop) (L : Nat) : Nat → Array Bool → Act → World → Prop
 | 0, listed, a, w => Region.ready md ops listed = [] ∧ Q .normal a w
 | fuel + 1, listed, a, w =>
  (Region.ready md ops listed = [] → Q .normal a w) ∧
  ∀ i ∈ Region.ready md ops listed, wpOp P ops Q i (fun a' w' => (i ≠ L → S w') ∧ wpLast P md ops Q S L fuel (listed.setIfInBounds i true) a' w') a w
theorem wpAny_of_last : ∀ (fuel : Nat) (listed : Array Bool) (a : Act) (w : World), wpLast P md ops Q S L fuel listed a w → wpAny P md ops Q fuel listed a w
 | 0, _, _, _, h => h
 | fuel + 1, _, _, _, h => ⟨h.1, fun i hi => wpOp_mono (fun a' w' h' => wpAny_of_last fuel _ a' w' h'.2) (h.2 i hi)⟩
def waitsB (md : Region.Mode) (ops : Array Oper) (L i : Nat) : Bool := match ops[L]? with | some o => o.after.any (fun e => Region.binds md e && e.on == i) | none => false
theorem wpLast_first {i : Nat} {oi : Oper} {v : Value} (hi : ops[i]? = some oi) (hsel : ∀ (j : Nat) (o : Oper) cs b, ops[j]? = some o → o.op ≠ .select cs b)
  (hQ : ∀ c a w, Q (.panic c) (a.put oi.dst v) w → Q (.panic c) a w) (hiL : i ≠ L) (hwt : waitsB md ops L i = true) :
  ∀ (fuel : Nat) (listed : Array Bool) (a : Act) (w : World),
   (∀ j oj, ops[j]? = some oj → j ≠ i → listed.getD j true = false → (∀ e ∈ oj.after, Region.binds md e = true → e.on ≠ i) → oi.apart ops oj = true) →
   i ∈ Region.ready md ops listed → YieldsIf P ops S oi v a → S w →
   wpLast P md ops Q S L fuel (listed.setIfInBounds i true) (a.put oi.dst v) w → wpLast P md ops Q S L (fuel + 1) listed a w := by
 intro fuel
 induction fuel with
 | zero =>
  intro listed a w _ hr hy hS H
  refine ⟨fun h => (by rw [h] at hr; cases hr), fun j hj => ?_⟩
  by_cases hji : j = i
  ·subst hji; exact hy.wpOp hi hS ⟨fun _ => hS, H⟩
  ·have := ready_mono hj hji
   rw [H.1] at this
   cases this
 | succ fuel ih =>
  intro listed a w hfree hr hy hS H
  refine ⟨fun h => (by rw [h] at hr; cases hr), fun j hj => ?_⟩
  by_cases hji : j = i
  ·subst hji; exact hy.wpOp hi hS ⟨fun _ => hS, H⟩
  ·have h1 := H.2 j (ready_mono hj hji)
   obtain ⟨hjun, oj, hoj, hall⟩ := mem_ready.1 hj
   have hnot : ∀ e ∈ oj.after, Region.binds md e = true → e.on ≠ i := fun e he hb heq => by
    have h1 := hall e he hb
    have h0 := (mem_ready.1 hr).1
    rw [heq] at h1
    rcases Nat.lt_or_ge i listed.size with h' | h'
    ·simp [h'] at h0 h1; rw [h0] at h1; cases h1
    ·simp [Array.getElem?_eq_none h'] at h1
   have hjL : j ≠ L := fun e => by
    subst e
    unfold waitsB at hwt
    rw [hoj] at hwt
    simp only [Array.any_eq_true, Bool.and_eq_true, beq_iff_eq] at hwt
    obtain ⟨n, hn, hb, ho⟩ := hwt
    exact hnot _ (Array.getElem_mem hn) hb ho
   have h2 := wpOp_putIf hoj (hfree j oj hoj hji hjun hnot) (fun cs b => hsel i oi cs b hi) (fun cs b => hsel j oj cs b hoj) hQ hy h1
   have hfree' : ∀ k ok, ops[k]? = some ok → k ≠ i → (listed.setIfInBounds j true).getD k true = false →
     (∀ e ∈ ok.after, Region.binds md e = true → e.on ≠ i) → oi.apart ops ok = true := fun k ok hk hki hun hno => by
    refine hfree k ok hk hki ?_ hno
    by_cases hjk : j = k
    ·subst hjk; exact hjun
    ·rw [getD_set_ne true hjk] at hun; exact hun
   refine wpOp_mono (fun a' w' h3 => ⟨h3.2.1, ih (listed.setIfInBounds j true) a' w' hfree' (ready_mono hr (Ne.symm hji)) h3.1 (h3.2.1 hjL) ?_⟩) h2
   rw [Array.setIfInBounds_comm _ _ hji]
   exact h3.2.2
theorem wpLast_take {i : Nat} {oi : Oper} {v : Value} {fuel : Nat} {listed : Array Bool} {a : Act} {w : World} (hi : ops[i]? = some oi)
  (hs : Region.noSelect ops = true) (hf : Region.free md ops listed i = true) (hr : (Region.ready md ops listed).contains i = true) (hiL : i ≠ L) (hwt : waitsB md ops L i = true)
  (hQ : ∀ c a w, Q (.panic c) (a.put oi.dst v) w → Q (.panic c) a w) (hy : YieldsIf P ops S oi v a) (hS : S w)
  (h : wpLast P md ops Q S L fuel (listed.setIfInBounds i true) (a.put oi.dst v) w) : wpLast P md ops Q S L (fuel + 1) listed a w :=
 wpLast_first hi (Region.noSelect_spec hs) hQ hiL hwt fuel listed a w (Region.free_spec hi hf) (by simpa using hr) hy hS h
theorem wpLast_one {i : Nat} {o : Oper} {fuel : Nat} {listed : Array Bool} {a : Act} {w : World} (hr : Region.ready md ops listed = [i]) (ho : ops[i]? = some o) (hiL : i ≠ L)
  (h : ∀ K' : Act → World → Prop, Shut (∀ a w, S w → (S w → wpLast P md ops Q S L fuel (listed.setIfInBounds i true) a w) → K' a w) → if Region.wanted o (yielded ops a.tmps) = true then Oper.wp P o a w K' Q else K' (a.put o.dst undef) w) : wpLast P md ops Q S L (fuel + 1) listed a w := by
 refine ⟨fun h0 => (by rw [hr] at h0; cases h0), fun j hj => ?_⟩
 rw [hr] at hj
 have e : j = i := by simpa using hj
 subst e
 exact wpOp_step ho (fun K' hK => h K' (fun a w hS hW => hK a w ⟨fun _ => hS, hW hS⟩))
theorem wpLast_end {o : Oper} {fuel : Nat} {listed : Array Bool} {a : Act} {w : World} (hr : Region.ready md ops listed = [L]) (ho : ops[L]? = some o)
  (hr2 : Region.ready md ops (listed.setIfInBounds L true) = [])
  (h : ∀ K' : Act → World → Prop, Shut (∀ a w, Q .normal a w → K' a w) → if Region.wanted o (yielded ops a.tmps) = true then Oper.wp P o a w K' Q else K' (a.put o.dst undef) w) : wpLast P md ops Q S L (fuel + 1) listed a w := by
 refine ⟨fun h0 => (by rw [hr] at h0; cases h0), fun j hj => ?_⟩
 rw [hr] at hj
 have e : j = L := by simpa using hj
 subst e
 refine wpOp_step ho (fun K' hK => h K' (fun a w hQ => hK a w ⟨fun h => absurd rfl h, ?_⟩))
 cases fuel with
 | zero => exact ⟨hr2, hQ⟩
 | succ n => exact ⟨fun _ => hQ, by rw [hr2]; simp⟩
theorem wp_region_last {id : Nat} {a : Act} {w : World} (hm : P.follows .mixedOrders = true) (hS : S w.drew)
  (h : S w.drew → wpLast P .any ops Q S L ops.size (Array.replicate ops.size false) a w.drew) : (Code.region id ops true).wp P Q a w :=
 wp_region_any hm (wpAny_of_last _ _ _ _ (h hS))
end
end Go.Proofs.YtklfnjlenbgmoaaDoor
