import Derived.Test.YtclkoffnjiiioaaGreatDoorG27JR5
import Derived.Test.YtclkoffnjiiioaaGreatDoorJRdK
namespace Go.Proofs.YtclkoffnjiiioaaGreatDoor
open Go.RowKit
set_option linter.unusedVariables false
set_option linter.unusedSimpArgs false
attribute [local go_sem ↓] Go.wp_at_zero Go.wp_at_succ
theorem wrT_pos (t : LitT) : 1 ≤ (wrT t).length := by
  have hi : ∀ n : Int, 1 ≤ (Lib.itoa n).length := fun n => by
    obtain ⟨d, s, e, -⟩ := itoa_head n
    rw [e]; simp
  rw [wrT_at]
  split
  · exact hi _
  split
  · unfold textW; simp
  split
  · simp
  split
  · simp
  split
  · simp
  split
  · simp
  · simp
theorem eleQ_len {f : Nat} {x y : Bs} {d d2 : Nat} {s : LitS} (h : eleQ f x d = some (s, y, d2)) : y.length < x.length := by
  have e := ((backQ_all f).1 x d s y d2 h).1
  rw [e, List.length_append]
  have := wrT_pos (unS s)
  omega
/-- what is left of an array's reading: each round makes it less -/
def mesB (r L : Nat) (w : World) : Nat := match w.cell? ⟨r, 1, none⟩, w.cell? ⟨r, 3, none⟩ with
  | some (.int _ n), some (.bool b) => if b then 0 else (L - n.toNat) + 1
  | _, _ => 0
theorem mesB_is {W : World} {r : Nat} {S : Bs} {k d : Nat} {bad : Bool} (h : QB W r S k d bad) : mesB r S.length W = if bad then 0 else (S.length - k) + 1 := by
  unfold mesB
  rw [show W.cell? ⟨r, 1, none⟩ = some (.int .i64 (k : Int)) from h.cl 1, show W.cell? ⟨r, 3, none⟩ = some (.bool bad) from h.cl 3]
  simp
/-- the document's array under way -/
def AD (W : World) (r : Nat) (S : Bs) (R : Option (List LitS × Bs × Nat)) (gl f0 : Nat) (wr : World) : Prop :=
  ∃ (p : Option Addr) (c : Nat) (ts : List LitT) (k d : Nat) (bad : Bool), wr.heap[gl]? = some (.cells #[.int .i64 4, .string ⟨#[]⟩, .int .i64 0, .slice p ts.length c] 49 (0, 0)) ∧ TR (gl + 1) wr p c ts ∧ QB wr r S k d bad ∧ Fr [r] W wr ∧ wr.heap[W.heap.size]? = some z49 ∧ ts.length ≤ 1000000 ∧ d ≤ 4098 ∧ (bad = true → R = none) ∧ (bad = false → ∃ f, arrQ f (S.drop k) d (stL ts) = R ∧ 2 * (S.length - k) + 2 ≤ f ∧ f ≤ f0 ∧ d ≤ 4097 ∧ 2 * ts.length ≤ k + 1)
/-- the document's array, given up -/
def ADb (W : World) (r : Nat) (S : Bs) (R : Option (List LitS × Bs × Nat)) (gl : Nat) (wr : World) : Prop :=
  ∃ (p : Option Addr) (c : Nat) (ts : List LitT) (k d : Nat), wr.heap[gl]? = some (.cells #[.int .i64 4, .string ⟨#[]⟩, .int .i64 0, .slice p ts.length c] 49 (0, 0)) ∧ TR (gl + 1) wr p c ts ∧ QB wr r S k d true ∧ Fr [r] W wr ∧ wr.heap[W.heap.size]? = some z49 ∧ ts.length ≤ 1000000 ∧ d ≤ 4098 ∧ R = none
/-- what the array comes to -/
def finA (R : Option (List LitS × Bs × Nat)) : Option (LitS × Bs × Nat) := match R with
  | none => none
  | some (l, r2, d2) => some (.mk 4 noTx 0 l, r2, d2)
set_option maxRecDepth 100000 in
set_option maxHeartbeats 16000000 in
/-- the contract of the document's array, out of that of its element -/
theorem arrW {f0 : Nat} (hEl : ∀ g, g < f0 → EleW g) : ArrW f0 := by
  intro W r S a d h hE hr hS hd hf0
  have hlt := h.lt
  have hle0 := h.le
  obtain ⟨W0, hW0⟩ : ∃ V, W.alloc (.cells #[.int .i64 0, .string ⟨#[]⟩, .int .i64 0, .slice none 0 0] 49) = V := ⟨_, rfl⟩
  have hz := wz_of W
  rw [hW0] at hz
  have hs0 : W0.heap.size = W.heap.size + 1 := by rw [← hW0]; simp
  obtain ⟨W1, hW1⟩ : ∃ V, W0.alloc (.cells #[.int .i64 4, .string ⟨#[]⟩, .int .i64 0, .slice none 0 0] 49) = V := ⟨_, rfl⟩
  have f1 : Fr [] W0 W1 := by rw [← hW1]; exact Fr.alloc [] W0 _
  have b1 : W1.heap[W.heap.size + 1]? = some (.cells #[.int .i64 4, .string ⟨#[]⟩, .int .i64 0, .slice none 0 0] 49 (0, 0)) := by rw [← hW1, ← hs0]; exact heap_alloc_new W0 _
  have hq1 := (h.fr hz.fr (by simp)).fr f1 (by simp)
  have z1 := f1.hb hz.blk
  have F1 : Fr [r] W W1 := (hz.fr.tr0 f1).mono (by simp)
  obtain ⟨gl, hgl⟩ : ∃ g, g = W.heap.size + 1 := ⟨_, rfl⟩
  rw [← hgl] at b1 hs0
  obtain ⟨R, hR⟩ : ∃ R, R = (match tokP [40] (S.drop a) with | none => none | some r1 => if 4097 < d + 1 then none else arrQ f0 r1 (d + 1) []) := ⟨_, rfl⟩
  have hres : arrD f0 (S.drop a) d = finA R := by
    rw [hR]
    unfold arrD finA
    cases tokP [40] (S.drop a) with
    | none => rfl
    | some y => simp only; split <;> rfl
  have HRes := mkHid hres
  rw [HRes.out]
  -- what the opening leaves
  have HEat := mkHid (eat_ok W1 r S a d false hq1 [40] (by decide))
  have HOpen : Hid (∀ w2, Fr [r] W1 w2 → (if hasQ S a false [40] = true then QB w2 r S (a + [40].length) d false else QB w2 r S a d true) → w2.cell? ⟨r, 2, none⟩ = some (.int .i64 (d : Int)) ∧ w2.frozen? ⟨r, 2, none⟩ = false ∧ (w2.setCell ⟨r, 2, none⟩ (.int .i64 ((d + 1 : Nat) : Int))).cell? ⟨r, 2, none⟩ = some (.int .i64 ((d + 1 : Nat) : Int)) ∧ (w2.setCell ⟨r, 2, none⟩ (.int .i64 ((d + 1 : Nat) : Int))).frozen? ⟨r, 3, none⟩ = false ∧ (∃ v, (w2.setCell ⟨r, 2, none⟩ (.int .i64 ((d + 1 : Nat) : Int))).cell? ⟨r, 3, none⟩ = some v) ∧ (d + 1 ≤ 4097 → AD W r S R gl f0 (w2.setCell ⟨r, 2, none⟩ (.int .i64 ((d + 1 : Nat) : Int)))) ∧ (4097 < d + 1 → ADb W r S R gl ((w2.setCell ⟨r, 2, none⟩ (.int .i64 ((d + 1 : Nat) : Int))).setCell ⟨r, 3, none⟩ (.bool true)))) := fun w2 f2 hq => by
    have hb2 := (f2.block gl (lt_of_heap b1) (by simp; omega)).trans b1
    have hz2 := (f2.block W.heap.size (lt_of_heap z1) (by simp; omega)).trans z1
    have F2 := F1.trans f2 (by simp)
    obtain ⟨k, bad, hqk, hbt, hbf⟩ : ∃ k bad, QB w2 r S k d bad ∧ (bad = true → R = none) ∧ (bad = false → k = a + 1 ∧ (4097 < d + 1 → R = none) ∧ (d + 1 ≤ 4097 → arrQ f0 (S.drop (a + 1)) (d + 1) [] = R) ∧ a < S.length) := by
      cases ht : tokP [40] (S.drop a) with
      | none =>
        rw [has_no ht, if_neg Bool.false_ne_true] at hq
        exact ⟨a, true, hq, fun _ => by rw [hR, ht], fun e => by cases e⟩
      | some y =>
        rw [has_tok ht, if_pos rfl] at hq
        have hy := drop_tok ht
        have hyl := tok_ln ht
        rw [List.length_drop] at hyl
        simp only [List.length_singleton] at hq hy hyl
        refine ⟨a + 1, false, hq, (fun e => by cases e), fun _ => ⟨rfl, fun h4 => by rw [hR, ht]; simp only; rw [if_pos h4], fun h4 => by rw [hR, ht]; simp only; rw [if_neg (by omega), hy], by omega⟩⟩
    have hq3 := hqk.setDeep (d + 1) (by omega)
    have f3 := fr_set w2 r 2 (.int .i64 ((d + 1 : Nat) : Int))
    have b3 := (f3.block gl (lt_of_heap hb2) (by simp; omega)).trans hb2
    have z3 := (f3.block W.heap.size (lt_of_heap hz2) (by simp; omega)).trans hz2
    refine ⟨hqk.cl 2, hqk.fz 2, hq3.cl 2, hq3.fz 3, ⟨_, hq3.cl 3⟩, fun h4 => ?_, fun h4 => ?_⟩
    · refine ⟨none, 0, [], k, d + 1, bad, b3, TR.nil _ _, hq3, F2.trans f3 (by simp), z3, by simp, by omega, hbt, fun e => ?_⟩
      obtain ⟨e1, -, e3, e4⟩ := hbf e
      refine ⟨f0, by rw [stL_nil, e1]; exact e3 h4, by omega, Nat.le_refl _, by omega, by simp⟩
    · have hq4 := hq3.setBad true
      have f4 := fr_set (w2.setCell ⟨r, 2, none⟩ (.int .i64 ((d + 1 : Nat) : Int))) r 3 (.bool true)
      refine ⟨none, 0, [], k, d + 1, (f4.block gl (lt_of_heap b3) (by simp; omega)).trans b3, TR.nil _ _, hq4, (F2.trans f3 (by simp)).trans f4 (by simp), (f4.block W.heap.size (lt_of_heap z3) (by simp; omega)).trans z3, by simp, by omega, ?_⟩
      cases bad with
      | true => exact hbt rfl
      | false => exact (hbf rfl).2.1 h4
  have hwd : IntKind.i64.wrap ((d : Int) + 1) = ((d + 1 : Nat) : Int) := by rw [iwrap_id (by omega) (by omega)]; omega
  obtain ⟨d1, hd1⟩ : ∃ x, x = d + 1 := ⟨_, rfl⟩
  rw [← hd1] at HOpen hwd
  have hglr : r < gl ∧ W.heap.size < gl := ⟨by omega, by omega⟩
  have HW0 := mkHid hW0
  have HW1 := mkHid hW1
  have HE := mkHid hE
  have HEl := mkHid hEl
  have HS0 := mkHid hs0
  have HGl := mkHid hgl
  have HD1 := mkHid hd1
  clear h hz hW0 hW1 f1 b1 hq1 z1 F1 hgl hR hres hE hEl hs0 hf0 hd1 HRes
  go_enter Tryz.func44, Tryz.ntmps44
  go_wp2_with fail
  rw [HW0.out, HW1.out, ← HGl.out]
  refine HEat.out.mono ?_
  rintro e w2 ⟨rfl, f2, hq2⟩
  obtain ⟨o1, o2, o3, o4, ⟨o5v, o5⟩, o6, o7⟩ := HOpen.out w2 f2 hq2
  have HO6 := mkHid o6
  have HO7 := mkHid o7
  clear f2 hq2 HOpen HEat o6 o7
  have hor : (decide ((d1 : Int) > 4097) = false ∧ ¬ (4097 : Int) < (d1 : Int) ∧ ¬ 4097 < d1) ∨ (decide ((d1 : Int) > 4097) = true ∧ (4097 : Int) < (d1 : Int) ∧ 4097 < d1) := by
    by_cases q : 4097 < d1
    · exact .inr ⟨decide_eq_true (by omega), by omega, q⟩
    · exact .inl ⟨decide_eq_false (by omega), by omega, q⟩
  rcases hor with ⟨p1, p2, p3⟩ | ⟨p1, p2, p3⟩
  · have HS := mkHid (HO6.out (by have := HD1.out; omega))
    clear HO6 HO7 HD1
    go_wp2_with fail
    go_loopw [] (fun wr => Hid (AD W r S R gl f0 wr)) (fun wr => mesB r S.length wr)
    case atStart => exact HS.out
    case round =>
      clear HS o1 o2 o3 o4 o5
      obtain ⟨p, c, ts, k, dk, bad, hlb, htr, hb, hf, b1, htl, hdk, hbt, hbf⟩ := hrel.out
      have hm0 := mesB_is hb
      have c3 : wr.cell? ⟨r, 3, none⟩ = some (.bool bad) := hb.cl 3
      have l3 : wr.cell? ⟨gl, 3, none⟩ = some (.slice p ts.length c) := cell_in hlb 3
      have hle := hb.le
      clear hrel
      have HKp : Hid (∀ V, Fr [r] wr V → Fr [r] W V ∧ V.heap[W.heap.size]? = some z49 ∧ V.heap[gl]? = some (.cells #[.int .i64 4, .string ⟨#[]⟩, .int .i64 0, .slice p ts.length c] 49 (0, 0)) ∧ TR (gl + 1) V p c ts) := fun V fV => ⟨hf.trans fV (by simp), (fV.block _ (lt_of_heap b1) (by simp; omega)).trans b1, (fV.block _ (lt_of_heap hlb) (by simp; omega)).trans hlb, htr.keep fV (by simp; omega)⟩
      cases bad with
      | true =>
        have HRn := mkHid (hbt rfl)
        have HT := mkHid (eat_bad hb (p := [41]) (by decide))
        clear hb hbt hbf HEl htr hf b1 hlb hm0 l3
        go_wp2_with fail
        refine HT.out.mono ?_
        rintro e w3 ⟨rfl, f3, hq3⟩
        obtain ⟨fW, bW, lW, tW⟩ := HKp.out w3 f3
        obtain ⟨c0, c1, c2, c3', z0, z1, z2, z3⟩ := z4_of bW
        have l0 : w3.cell? ⟨gl, 0, none⟩ = some (.int .i64 4) := cell_in lW 0
        have l1 : w3.cell? ⟨gl, 1, none⟩ = some (.string ⟨#[]⟩) := cell_in lW 1
        have l2 : w3.cell? ⟨gl, 2, none⟩ = some (.int .i64 0) := cell_in lW 2
        have l3 : w3.cell? ⟨gl, 3, none⟩ = some (.slice p ts.length c) := cell_in lW 3
        have HFW := mkHid fW
        have HBW := mkHid bW
        have HQ := mkHid hq3
        have HLo : Hid (LitsX w3 (fun b => W.heap.size < b) p c ts) := (tW.lits htl).keep (Fr.refl [] w3) (fun _ _ _ => by simp) (fun g hg _ => by omega)
        have HDk := mkHid hdk
        clear f3 hq3 fW bW lW tW HT HKp hdk htl
        go_wp2_with fail
        refine finE (.mk 4 noTx 0 p c ts) Tryz.results44 HBW.out HFW.out hlt HQ.out HLo.out ?_ ⟨HDk.out, fun e => by cases e⟩ ?_ rfl
        · show (0 : Nat) ≤ _
          omega
        · rw [HRn.out]
          rfl
      | false =>
        clear hbt
        obtain ⟨f, hq, hff, hf0', hdk2, hts⟩ := hbf rfl
        clear hbf
        simp only [Bool.false_eq_true, if_false] at hm0
        have hdl : (S.drop k).length = S.length - k := List.length_drop
        cases f with
        | zero => omega
        | succ f =>
        rw [arrQ] at hq
        have HH : ∀ (q : Bs) (v : Bool), q.length ≤ 100 → hasQ S k false q = v → Hid (Calls Tryz.prog 42 #[pt r, .string (bA q)] wr fun e w' => e = .returned (.bool v) ∧ Fr [] wr w') := fun q v hl hv => by
          rw [← hv]
          exact has_ok wr r S k dk false hb q hl
        cases ht : tokP [41] (S.drop k) with
        | some y =>
          rw [ht] at hq
          simp only at hq
          have H1 := HH [41] true (by decide) (has_tok ht)
          have HT : Hid (∀ V, Fr [] wr V → Calls Tryz.prog 39 #[pt r, .string (bA [41])] V fun e w' => e = .returned (.tuple #[]) ∧ Fr [r] V w' ∧ QB w' r S (k + 1) dk false) := fun V fV => eat_hit (hb.fr fV (by simp)) ht (by decide)
          have HQ2 : Hid (finA R = if false = true then none else some (stT (.mk 4 noTx 0 p c ts), S.drop (k + 1), dk)) := by
            have e5 : S.drop (k + 1) = y := drop_tok ht
            rw [← hq, e5, stT]
            rfl
          clear hb hq ht HH HEl htr hf b1 hlb hm0 hff hf0' hts hdl l3
          generalize k + 1 = k2 at *
          go_wp2_with fail
          refine H1.out.mono ?_
          rintro e w2 ⟨rfl, f2⟩
          have HT2 := mkHid (HT.out w2 f2)
          have HF2 := mkHid f2
          clear f2 H1 HT
          go_wp2_with fail
          refine HT2.out.mono ?_
          rintro e w3 ⟨rfl, f3, hq3⟩
          obtain ⟨fW, bW, lW, tW⟩ := HKp.out w3 ((HF2.out.mono (S' := [r]) (by simp)).trans f3 (by simp))
          obtain ⟨c0, c1, c2, c3', z0, z1, z2, z3⟩ := z4_of bW
          have l0 : w3.cell? ⟨gl, 0, none⟩ = some (.int .i64 4) := cell_in lW 0
          have l1 : w3.cell? ⟨gl, 1, none⟩ = some (.string ⟨#[]⟩) := cell_in lW 1
          have l2 : w3.cell? ⟨gl, 2, none⟩ = some (.int .i64 0) := cell_in lW 2
          have l3 : w3.cell? ⟨gl, 3, none⟩ = some (.slice p ts.length c) := cell_in lW 3
          have HFW := mkHid fW
          have HBW := mkHid bW
          have HQ := mkHid hq3
          have HLo : Hid (LitsX w3 (fun b => W.heap.size < b) p c ts) := (tW.lits htl).keep (Fr.refl [] w3) (fun _ _ _ => by simp) (fun g hg _ => by omega)
          have HDk := mkHid hdk
          have HDk2 := mkHid hdk2
          clear f3 hq3 fW bW lW tW HT2 HKp hdk htl hdk2
          go_wp2_with fail
          refine finE (.mk 4 noTx 0 p c ts) Tryz.results44 HBW.out HFW.out hlt HQ.out HLo.out ?_ ⟨HDk.out, fun _ => HDk2.out⟩ HQ2.out rfl
          show (0 : Nat) ≤ _
          omega
        | none =>
          rw [ht] at hq
          simp only at hq
          have H1 := HH [41] false (by decide) (has_no ht)
          have HQB : Hid (∀ V, Fr [] wr V → QB V r S k dk false) := fun V fV => hb.fr fV (by simp)
          have HEv : Hid (∀ V, Fr [r] wr V → Ev V) := fun V fV => HE.out.fr1 (hf.trans fV (by simp)) hr
          -- what an element more leaves
          have HMore : Hid (∀ (V : World) (k1 : Nat) (bad1 : Bool), Fr [r] wr V → QB V r S k1 dk bad1 → k ≤ k1 → (bad1 = true → R = none) → (bad1 = false → (match eleQ f (S.drop k1) dk with | none => none | some (x, r2, d2) => arrQ f r2 d2 (stL ts ++ [x])) = R ∧ 2 * (ts.length + 1) ≤ k1 + 2) →
              Calls Tryz.prog 61 #[pt r] V fun e w' => ∃ t : LitT, e = .returned (litv t) ∧ w'.cell? ⟨gl, 3, none⟩ = some (.slice p ts.length c) ∧ (∀ o, (w'.alloc o).cell? ⟨gl, 3, none⟩ = some (.slice p ts.length c)) ∧
                ∃ p2 c2 w5, (Builtin.append_ #[22, 22] 22 #[.slice p ts.length c, .slice (some ⟨w'.heap.size + 1, 0, none⟩) 1 1]).run Tryz.prog ((w'.alloc (.cells #[.int .i64 t.kind, .string t.text, .int .i64 t.num, .slice t.p t.kids.length t.c] 49)).alloc (.cells #[.int .i64 t.kind, .string t.text, .int .i64 t.num, .slice t.p t.kids.length t.c] 49)) = .ok (.slice p2 (ts.length + 1) c2) w5 ∧ w5.cell? ⟨gl, 3, none⟩ = some (.slice p ts.length c) ∧ w5.frozen? ⟨gl, 3, none⟩ = false ∧
                  Hid (AD W r S R gl f0 (w5.setCell ⟨gl, 3, none⟩ (.slice p2 (ts.length + 1) c2)) ∧ mesB r S.length (w5.setCell ⟨gl, 3, none⟩ (.slice p2 (ts.length + 1) c2)) < (S.length - k) + 1)) := fun V k1 bad1 fV hV hkk h1 h2 => by
            obtain ⟨fW, bW, lW, tW⟩ := HKp.out V fV
            have hle1 := hV.le
            refine (HEl.out f (by omega) V r S k1 dk bad1 hV (HEv.out V fV) hr hS hdk (fun _ => hdk2) (fun _ => by omega)).mono ?_
            rintro e w3 ⟨t, k2, d2, bd, rfl, hq3, f3, hk3, ht3, hd3, hd3', hres3⟩
            obtain ⟨f3W, b3, l3W, t3⟩ := HKp.out w3 (fV.trans f3 (by simp))
            have hsz3 := f3.size
            obtain ⟨o4, ho4⟩ : ∃ o, Obj.cells #[.int .i64 t.kind, .string t.text, .int .i64 t.num, .slice t.p t.kids.length t.c] 49 (0, 0) = o := ⟨_, rfl⟩
            have fa : Fr [] w3 (w3.alloc o4) := Fr.alloc [] w3 o4
            have hszA : (w3.alloc o4).heap.size = w3.heap.size + 1 := by simp
            have htA := t3.keep fa (by simp)
            have hkA : LitsX (w3.alloc o4) (fun g => gl + 1 ≤ g ∧ g ∉ blk p ∧ g ∉ ftL ts) t.p t.c t.kids := hk3.keep fa (fun _ _ _ => by simp) (fun g hg _ => ⟨by have := lt_of_heap lW; omega, fun hm => by have := (tW.blk g hm).2; omega, fun hm => by have := (tW.feet g hm).2.2; omega⟩)
            obtain ⟨p2, c2, w5, hr5, htr5, f5⟩ := htA.push htl (by have := lt_of_heap l3W; omega) t ht3 hkA
            have hbk := htA.blk
            rw [hszA] at hr5
            have hlA := fa.hb l3W
            have hl5 := (f5.block _ (lt_of_heap hlA) (fun hm => by have := (hbk _ hm).1; omega)).trans hlA
            have b5 := (f5.block _ (lt_of_heap (fa.hb b3)) (fun hm => by have := (hbk _ hm).1; omega)).trans (fa.hb b3)
            have hb5 := (hq3.fr fa (by simp)).fr f5 (fun hm => by have := (hbk _ hm).1; omega)
            have F5 : Fr [r] W w5 := (f3W.trans fa (by simp)).trans f5 (fun g hg => .inr (by have := (hbk g hg).1; omega))
            have fs5 : Fr [gl] w5 (w5.setCell ⟨gl, 3, none⟩ (.slice p2 (ts.length + 1) c2)) := Fr.setCell (S := [gl]) w5 ⟨gl, 3, none⟩ _ (by simp)
            have hb6 := hb5.fr fs5 (by simp; omega)
            have hl6 : (ts ++ [t]).length = ts.length + 1 := by simp
            have hle2 := hb6.le
            rw [← ho4] at hr5
            refine ⟨t, rfl, cell_in l3W 3, fun o => cell_in ((Fr.alloc [] w3 o).hb l3W) 3, p2, c2, w5, hr5, cell_in hl5 3, frozen_in hl5 3, ?_⟩
            have hstep : (bd = true → R = none) ∧ (bd = false → ∃ f', arrQ f' (S.drop k2) d2 (stL (ts ++ [t])) = R ∧ 2 * (S.length - k2) + 2 ≤ f' ∧ f' ≤ f0 ∧ d2 ≤ 4097 ∧ 2 * (ts.length + 1) ≤ k2 + 1) ∧ (bd = false → k < k2) := by
              cases bad1 with
              | true =>
                simp only [if_true] at hres3
                cases bd with
                | true => exact ⟨fun _ => h1 rfl, (fun e => by cases e), fun e => by cases e⟩
                | false => cases hres3
              | false =>
                simp only [Bool.false_eq_true, if_false] at hres3
                obtain ⟨h2a, h2b⟩ := h2 rfl
                rw [hres3] at h2a
                cases bd with
                | true => exact ⟨fun _ => h2a.symm, (fun e => by cases e), fun e => by cases e⟩
                | false =>
                  simp only [Bool.false_eq_true, if_false] at h2a hres3
                  have hl := eleQ_len hres3
                  rw [List.length_drop, List.length_drop] at hl
                  refine ⟨(fun e => by cases e), fun _ => ⟨f, ?_, by omega, by omega, hd3' rfl, by omega⟩, fun _ => by omega⟩
                  rw [stL_app, stL_cons, stL_nil]
                  exact h2a
            refine ⟨⟨p2, c2, ts ++ [t], k2, d2, bd, ?_, htr5.keep fs5 (by simp), hb6, F5.trans fs5 (fun g hg => .inr (by simp at hg; omega)), (fs5.block _ (lt_of_heap b5) (by simp; omega)).trans b5, ?_, hd3, hstep.1, ?_⟩, ?_⟩
            · have := set_in hl5 3 (.slice p2 (ts.length + 1) c2)
              rw [hl6]
              exact this
            · rw [hl6]; omega
            · rw [hl6]; exact hstep.2.1
            · rw [mesB_is hb6]
              cases bd with
              | true =>
                simp only [if_true]
                omega
              | false =>
                simp only [Bool.false_eq_true, if_false]
                have := hstep.2.2 rfl
                omega
          have hskip : ∀ V, Fr [] wr V → V.cell? ⟨gl, 3, none⟩ = some (.slice p ts.length c) := fun V fV => cell_in ((HKp.out V (fV.mono (by simp))).2.2.1) 3
          have HSk := mkHid hskip
          clear hskip
          by_cases hl0 : ts.length = 0
          · have HM := mkHid (fun V (fV : Fr [] wr V) => HMore.out V k false (fV.mono (by simp)) (HQB.out V fV) (Nat.le_refl _) (fun e => by cases e) (fun _ => ⟨by
              have hsl : (stL ts).length = ts.length := stL_len ts
              rw [hsl, if_pos hl0] at hq
              exact hq, by omega⟩))
            have HM0 := mkHid hm0
            obtain rfl : ts = [] := List.length_eq_zero_iff.1 hl0
            clear hb hq ht HH HEl htr hf b1 hlb hm0 hff hf0' hts hdl HMore HQB HEv HKp l3 hdk hdk2 htl
            go_wp2_with fail
            refine H1.out.mono ?_
            rintro e w2 ⟨rfl, f2⟩
            have l3 := HSk.out w2 f2
            have HM2 := mkHid (HM.out w2 f2)
            clear f2 H1 HM HSk
            go_wp2_with fail
            refine HM2.out.mono ?_
            rintro e w4 ⟨t, rfl, l4, l4a, p2, c2, w5, hr5, c5, z5, HS⟩
            have HR5 := mkHid hr5
            clear hr5 HM2
            unfold litv LitT.items
            go_wp2_with (at_builtin; refine Lib.wpList_append_run _ rfl (.tmp 42) (.tmp 44) 22 22 rfl _ _ rfl rfl _ _ HR5.out ?_)
            go_roundw
            case rel => exact HS.out.1
            case measure => rw [HM0.out]; exact HS.out.2
          · have hlp : (0 : Int) < (ts.length : Int) := by omega
            have hsl : (stL ts).length = ts.length := stL_len ts
            rw [hsl, if_neg hl0] at hq
            have HSp : Hid (∀ V, Fr [] wr V → Calls Tryz.prog 39 #[pt r, .string (bA [32])] V fun e w' => e = .returned (.tuple #[]) ∧ ∃ k1 bad1, Fr [r] wr w' ∧ QB w' r S k1 dk bad1 ∧ k ≤ k1 ∧ (bad1 = true → R = none) ∧ (bad1 = false → (match eleQ f (S.drop k1) dk with | none => none | some (x, r2, d2) => arrQ f r2 d2 (stL ts ++ [x])) = R ∧ 2 * (ts.length + 1) ≤ k1 + 2)) := fun V fV => by
              cases hs : tokP [32] (S.drop k) with
              | none =>
                rw [hs] at hq
                simp only at hq
                refine (eat_miss (HQB.out V fV) hs (by decide)).mono ?_
                rintro e w' ⟨rfl, f, hq'⟩
                exact ⟨rfl, k, true, (fV.mono (S' := [r]) (by simp)).trans f (by simp), hq', Nat.le_refl _, fun _ => hq.symm, fun e => by cases e⟩
              | some y =>
                rw [hs] at hq
                simp only at hq
                refine (eat_hit (HQB.out V fV) hs (by decide)).mono ?_
                rintro e w' ⟨rfl, f, hq'⟩
                refine ⟨rfl, k + 1, false, (fV.mono (S' := [r]) (by simp)).trans f (by simp), hq', by omega, (fun e => by cases e), fun _ => ⟨?_, by omega⟩⟩
                have e5 : S.drop (k + 1) = y := drop_tok hs
                rw [e5]
                exact hq
            have HM0 := mkHid hm0
            clear hb hq ht HH HEl htr hf b1 hlb hm0 hff hf0' hts hdl HQB HEv HKp l3 hdk hdk2 htl hsl
            go_wp2_with fail
            refine H1.out.mono ?_
            rintro e w2 ⟨rfl, f2⟩
            have l3 := HSk.out w2 f2
            have HSp2 := mkHid (HSp.out w2 f2)
            clear f2 H1 HSp HSk
            go_wp2_with fail
            refine HSp2.out.mono ?_
            rintro e w3 ⟨rfl, k1, bad1, f3, hq3, hkk, hb1', hb2'⟩
            have HM2 := mkHid (HMore.out w3 k1 bad1 f3 hq3 hkk hb1' hb2')
            clear f3 hq3 hkk hb1' hb2' HMore HSp2 l3
            go_wp2_with fail
            refine HM2.out.mono ?_
            rintro e w4 ⟨t, rfl, l4, l4a, p2, c2, w5, hr5, c5, z5, HS⟩
            have HR5 := mkHid hr5
            clear hr5 HM2
            unfold litv LitT.items
            go_wp2_with (at_builtin; refine Lib.wpList_append_run _ rfl (.tmp 42) (.tmp 44) 22 22 rfl _ _ rfl rfl _ _ HR5.out ?_)
            go_roundw
            case rel => exact HS.out.1
            case measure => rw [HM0.out]; exact HS.out.2
  · have HS := mkHid (HO7.out (by have := HD1.out; omega))
    clear HO6 HO7 HD1
    go_wp2_with fail
    go_loopw [] (fun wr => Hid (ADb W r S R gl wr)) (fun wr => mesB r S.length wr)
    case atStart => exact HS.out
    case round =>
      clear HS o1 o2 o3 o4 o5
      obtain ⟨p, c, ts, k, dk, hlb, htr, hb, hf, b1, htl, hdk, hRn⟩ := hrel.out
      have hm0 := mesB_is hb
      have c3 : wr.cell? ⟨r, 3, none⟩ = some (.bool true) := hb.cl 3
      have l3 : wr.cell? ⟨gl, 3, none⟩ = some (.slice p ts.length c) := cell_in hlb 3
      have hle := hb.le
      clear hrel
      have HKp : Hid (∀ V, Fr [r] wr V → Fr [r] W V ∧ V.heap[W.heap.size]? = some z49 ∧ V.heap[gl]? = some (.cells #[.int .i64 4, .string ⟨#[]⟩, .int .i64 0, .slice p ts.length c] 49 (0, 0)) ∧ TR (gl + 1) V p c ts) := fun V fV => ⟨hf.trans fV (by simp), (fV.block _ (lt_of_heap b1) (by simp; omega)).trans b1, (fV.block _ (lt_of_heap hlb) (by simp; omega)).trans hlb, htr.keep fV (by simp; omega)⟩
      have HRn := mkHid hRn
      have HT := mkHid (eat_bad hb (p := [41]) (by decide))
      clear hb HEl hRn htr hf b1 hlb hm0 l3
      go_wp2_with fail
      refine HT.out.mono ?_
      rintro e w3 ⟨rfl, f3, hq3⟩
      obtain ⟨fW, bW, lW, tW⟩ := HKp.out w3 f3
      obtain ⟨c0, c1, c2, c3', z0, z1, z2, z3⟩ := z4_of bW
      have l0 : w3.cell? ⟨gl, 0, none⟩ = some (.int .i64 4) := cell_in lW 0
      have l1 : w3.cell? ⟨gl, 1, none⟩ = some (.string ⟨#[]⟩) := cell_in lW 1
      have l2 : w3.cell? ⟨gl, 2, none⟩ = some (.int .i64 0) := cell_in lW 2
      have l3 : w3.cell? ⟨gl, 3, none⟩ = some (.slice p ts.length c) := cell_in lW 3
      have HFW := mkHid fW
      have HBW := mkHid bW
      have HQ := mkHid hq3
      have HLo : Hid (LitsX w3 (fun b => W.heap.size < b) p c ts) := (tW.lits htl).keep (Fr.refl [] w3) (fun _ _ _ => by simp) (fun g hg _ => by omega)
      have HDk := mkHid hdk
      clear f3 hq3 fW bW lW tW HT HKp hdk htl
      go_wp2_with fail
      refine finE (.mk 4 noTx 0 p c ts) Tryz.results44 HBW.out HFW.out hlt HQ.out HLo.out ?_ ⟨HDk.out, fun e => by cases e⟩ ?_ rfl
      · show (0 : Nat) ≤ _
        omega
      · rw [HRn.out]
        rfl
theorem readW_all : ∀ f, EleW f ∧ ArrW f := by
  intro f
  induction f using Nat.strongRecOn with
  | _ f ih => exact ⟨eleW fun g hg => (ih g hg).2, arrW fun g hg => (ih g hg).1⟩
end Go.Proofs.YtclkoffnjiiioaaGreatDoor
namespace Go.Proofs.YtclkoffnjiiioaaGreatDoor
open Go.RowKit
set_option linter.unusedVariables false
set_option linter.unusedSimpArgs false
attribute [local go_sem ↓] Go.wp_at_zero Go.wp_at_succ
/-- what a reader has ahead: nothing where it is bad -/
def stQ (S : Bs) (k : Nat) (bad : Bool) : Option Bs := if bad = true then none else some (S.drop k)
theorem st_good (S : Bs) (k : Nat) : stQ S k false = some (S.drop k) := rfl
theorem st_bad (S : Bs) (k : Nat) : stQ S k true = none := rfl
theorem eat_st {W : World} {r : Nat} {S : Bs} {a d : Nat} {bad : Bool} (h : QB W r S a d bad) (p : Bs) (hp : p.length ≤ 100) : Calls Tryz.prog 39 #[pt r, .string (bA p)] W fun e w' => e = .returned (.tuple #[]) ∧ Fr [r] W w' ∧ ∃ k bad', QB w' r S k d bad' ∧ stQ S k bad' = (stQ S a bad).bind (tokP p) := by
  cases bad with
  | true =>
    refine (eat_bad h hp).mono ?_
    rintro e w' ⟨h1, h2, h3⟩
    exact ⟨h1, h2, a, true, h3, rfl⟩
  | false =>
    cases ht : tokP p (S.drop a) with
    | none =>
      refine (eat_miss h ht hp).mono ?_
      rintro e w' ⟨h1, h2, h3⟩
      refine ⟨h1, h2, a, true, h3, ?_⟩
      rw [st_good, st_bad, Option.bind_some, ht]
    | some y =>
      refine (eat_hit h ht hp).mono ?_
      rintro e w' ⟨h1, h2, h3⟩
      refine ⟨h1, h2, _, false, h3, ?_⟩
      rw [st_good, st_good, Option.bind_some, ht, drop_tok ht]
theorem num_st {W : World} {r : Nat} {S : Bs} {a d : Nat} {bad : Bool} (h : QB W r S a d bad) (hP : Pw W) : Calls Tryz.prog 40 #[pt r] W fun e w' => Fr [r] W w' ∧ ∃ v k bad', e = .returned (.int .i64 v) ∧ QB w' r S k d bad' ∧ (stQ S k bad').map (fun y => (v, y)) = (stQ S a bad).bind numQ := by
  refine (qnum_ok W r S a d bad h hP).mono ?_
  rintro e w' ⟨h1, h2⟩
  refine ⟨h1, ?_⟩
  cases hn : numQ (S.drop a) with
  | none =>
    rw [hn] at h2
    refine ⟨0, a, true, h2.1, h2.2, ?_⟩
    cases bad with
    | true => rfl
    | false => rw [st_good, st_bad, Option.bind_some, hn]; rfl
  | some vy =>
    obtain ⟨v, y⟩ := vy
    rw [hn] at h2
    refine ⟨v, _, bad, h2.1, h2.2, ?_⟩
    cases bad with
    | true => rfl
    | false =>
      rw [st_good, st_good, Option.bind_some, hn]
      unfold numQ at hn
      split at hn
      · simp only [Option.some.injEq, Prod.mk.injEq] at hn
        rw [← List.drop_drop, hn.2]
        rfl
      · cases hn
theorem ends_st {W : World} {r : Nat} {S : Bs} {a d : Nat} {bad : Bool} (h : QB W r S a d bad) : Calls Tryz.prog 41 #[pt r] W fun e w' => e = .returned (.bool (decide (stQ S a bad = some []))) ∧ Fr [] W w' := by
  refine (ends_ok W r S a d bad h).mono ?_
  rintro e w' ⟨h1, h2⟩
  refine ⟨?_, h2⟩
  rw [h1]
  cases bad with
  | true => rfl
  | false => rw [st_good]; simp
theorem tok_join (p q l : Bs) : tokP (p ++ q) l = (tokP p l).bind (tokP q) := by
  refine opt_eq (fun x h => ?_) (fun x h => ?_)
  · have := tok_some h
    rw [this, List.append_assoc, tok_app]
    exact tok_app q x
  · cases hp : tokP p l with
    | none => rw [hp] at h; cases h
    | some y =>
      rw [hp] at h
      have h' : tokP q y = some x := h
      rw [tok_some hp, tok_some h', ← List.append_assoc]
      exact tok_app _ _
theorem head_st {l : Bs} {s1 s2 s3 s4 s5 s6 : Option Bs} {v1 v2 v3 : Int} (h1 : s1 = (some l).bind (tokP [99, 111, 100, 101, 32])) (h2 : s2.map (fun y => (v1, y)) = s1.bind numQ) (h3 : s3 = s2.bind (tokP [32])) (h4 : s4.map (fun y => (v2, y)) = s3.bind numQ) (h5 : s5 = s4.bind (tokP [32])) (h6 : s6.map (fun y => (v3, y)) = s5.bind numQ) : headD l = if s6 = some [] then some [v1, v2, v3] else none := by
  rw [Option.bind_some, show ([99, 111, 100, 101, 32] : Bs) = [99, 111, 100, 101] ++ [32] from rfl, tok_join] at h1
  unfold headD
  cases hc : tokP [99, 111, 100, 101] l with
  | none =>
    rw [hc] at h1
    subst h1
    cases s2 with
    | some y => cases h2
    | none =>
    subst h3
    cases s4 with
    | some y => cases h4
    | none =>
    subst h5
    cases s6 with
    | some y => cases h6
    | none => rfl
  | some y =>
    rw [hc, Option.bind_some] at h1
    simp only
    rw [numsQ]
    cases s1 with
    | none =>
      rw [← h1]
      cases s2 with
      | some y => cases h2
      | none =>
      subst h3
      cases s4 with
      | some y => cases h4
      | none =>
      subst h5
      cases s6 with
      | some y => cases h6
      | none => rfl
    | some y1 =>
      rw [← h1]
      simp only
      rw [Option.bind_some] at h2
      cases s2 with
      | none =>
        rw [← h2]
        subst h3
        cases s4 with
        | some y => cases h4
        | none =>
        subst h5
        cases s6 with
        | some y => cases h6
        | none => rfl
      | some y2 =>
        rw [← h2]
        simp only [Option.map_some]
        rw [numsQ]
        rw [Option.bind_some] at h3
        cases s3 with
        | none =>
          rw [← h3]
          cases s4 with
          | some y => cases h4
          | none =>
          subst h5
          cases s6 with
          | some y => cases h6
          | none => rfl
        | some y3 =>
          rw [← h3]
          simp only
          rw [Option.bind_some] at h4
          cases s4 with
          | none =>
            rw [← h4]
            subst h5
            cases s6 with
            | some y => cases h6
            | none => rfl
          | some y4 =>
            rw [← h4]
            simp only [Option.map_some]
            rw [numsQ]
            rw [Option.bind_some] at h5
            cases s5 with
            | none =>
              rw [← h5]
              cases s6 with
              | some y => cases h6
              | none => rfl
            | some y5 =>
              rw [← h5]
              simp only
              rw [Option.bind_some] at h6
              cases s6 with
              | none => rw [← h6]; rfl
              | some y6 =>
                rw [← h6]
                simp only [Option.map_some]
                rw [numsQ]
                simp only
                cases y6 with
                | nil => rfl
                | cons c t => simp
/-- the blocks of a line's reading -/
structure LB (V : World) (gc g8 r : Nat) (cv : Array Value) (S : Bs) (k d : Nat) (bad : Bool) : Prop where
  c : V.heap[gc]? = some (.cells cv 25 (0, 0))
  z : V.heap[g8]? = some z25
  q : QB V r S k d bad
theorem LB.mv {V U : World} {gc g8 r : Nat} {cv : Array Value} {S : Bs} {k d k' : Nat} {bad bad' : Bool} (h : LB V gc g8 r cv S k d bad) (n1 : gc ≠ r) (n2 : g8 ≠ r) (f : Fr [r] V U) (hq : QB U r S k' d bad') : LB U gc g8 r cv S k' d bad' :=
  ⟨(f.block gc (lt_of_heap h.c) (by simpa using n1)).trans h.c, (f.block g8 (lt_of_heap h.z) (by simpa using n2)).trans h.z, hq⟩
theorem LB.set {V : World} {gc g8 r : Nat} {cv : Array Value} {S : Bs} {k d : Nat} {bad : Bool} (h : LB V gc g8 r cv S k d bad) (n1 : gc ≠ r) (n3 : g8 ≠ gc) (i : Nat) (v : Value) : LB (V.setCell ⟨gc, i, none⟩ v) gc g8 r (cv.setIfInBounds i v) S k d bad :=
  ⟨set_in h.c i v, ((Fr.setCell (S := [gc]) V ⟨gc, i, none⟩ v (by simp)).block g8 (lt_of_heap h.z) (by simpa using n3)).trans h.z, h.q.fr (Fr.setCell (S := [gc]) V ⟨gc, i, none⟩ v (by simp)) (by simpa using fun e => n1 e.symm)⟩
/-- what is there when a line's reading begins -/
theorem lb_begin (W : World) (cv : Array Value) (l : Bs) (hl : l.length ≤ 1100000) :
    LB (((W.alloc (.cells cv 25)).alloc (.cells #[.int .i64 0, .int .i64 0, .int .i64 0, .slice none 0 0, .slice none 0 0] 25)).alloc (.cells #[.string (bA l), .int .i64 0, .int .i64 0, .bool false] 91)) W.heap.size (W.heap.size + 1) (W.heap.size + 2) cv l 0 0 false ∧
    Fr [] W (((W.alloc (.cells cv 25)).alloc (.cells #[.int .i64 0, .int .i64 0, .int .i64 0, .slice none 0 0, .slice none 0 0] 25)).alloc (.cells #[.string (bA l), .int .i64 0, .int .i64 0, .bool false] 91)) := by
  have f1 : Fr [] W (W.alloc (.cells cv 25)) := Fr.alloc [] W _
  have s1 : (W.alloc (.cells cv 25)).heap.size = W.heap.size + 1 := by simp
  have b1 : (W.alloc (.cells cv 25)).heap[W.heap.size]? = some (.cells cv 25 (0, 0)) := heap_alloc_new W _
  generalize W.alloc (.cells cv 25) = W1 at *
  have f2 : Fr [] W1 (W1.alloc (.cells #[.int .i64 0, .int .i64 0, .int .i64 0, .slice none 0 0, .slice none 0 0] 25)) := Fr.alloc [] W1 _
  have s2 : (W1.alloc (.cells #[.int .i64 0, .int .i64 0, .int .i64 0, .slice none 0 0, .slice none 0 0] 25)).heap.size = W.heap.size + 2 := by simp [s1]
  have b2 : (W1.alloc (.cells #[.int .i64 0, .int .i64 0, .int .i64 0, .slice none 0 0, .slice none 0 0] 25)).heap[W.heap.size + 1]? = some z25 := by rw [← s1]; exact heap_alloc_new W1 _
  generalize W1.alloc (.cells #[.int .i64 0, .int .i64 0, .int .i64 0, .slice none 0 0, .slice none 0 0] 25) = W2 at *
  have f3 : Fr [] W2 (W2.alloc (.cells #[.string (bA l), .int .i64 0, .int .i64 0, .bool false] 91)) := Fr.alloc [] W2 _
  have b3 : (W2.alloc (.cells #[.string (bA l), .int .i64 0, .int .i64 0, .bool false] 91)).heap[W.heap.size + 2]? = some (.cells (qc l 0 0 false) 91 (0, 0)) := by rw [← s2]; exact heap_alloc_new W2 _
  exact ⟨⟨f3.hb (f2.hb b1), f3.hb b2, b3, Nat.zero_le _, by omega, by omega⟩, (f1.tr0 f2).tr0 f3⟩
end Go.Proofs.YtclkoffnjiiioaaGreatDoor
