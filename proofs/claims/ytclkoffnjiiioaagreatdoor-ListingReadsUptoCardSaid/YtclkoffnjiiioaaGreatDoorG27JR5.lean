import Derived.Test.YtclkoffnjiiioaaGreatDoorJR2s
import Derived.Test.YtclkoffnjiiioaaGreatDoorJR2n
import Derived.Test.YtclkoffnjiiioaaGreatDoorJR2e
import Derived.Test.YtclkoffnjiiioaaGreatDoorJR4
import Derived.Test.YtclkoffnjiiioaaGreatDoorJRdC
namespace Go.Proofs.YtclkoffnjiiioaaGreatDoor
open Go.RowKit
/-- the document's number -/
theorem qnum_ok (W : World) (r : Nat) (S : Bs) (a d : Nat) (bad : Bool) (h : QB W r S a d bad) (hP : Pw W) : Calls Tryz.prog 40 #[pt r] W fun e w' => NuR W r S a d bad e w' := by
  by_cases hs : S[a]? = some 45
  · exact qJR2s W r S a d bad h hP hs
  · by_cases hl : ∃ b, S[a]? = some b ∧ dgB b = true
    · exact qJR2n W r S a d bad h hP hl
    · refine qJR2e W r S a d bad h hP fun b hb => ⟨fun e => hs (by rw [← e]; exact hb), ?_⟩
      cases hd : dgB b with
      | false => rfl
      | true => exact absurd ⟨b, hb, hd⟩ hl
end Go.Proofs.YtclkoffnjiiioaaGreatDoor
namespace Go.Proofs.YtclkoffnjiiioaaGreatDoor
open Go.RowKit
set_option linter.unusedVariables false
set_option linter.unusedSimpArgs false
attribute [local go_sem ↓] Go.wp_at_zero Go.wp_at_succ
/-- a Lit that is the one result, by name -/
theorem ret49s {f : Func} {V : World} {B p : Nat} {tm : Array Value} {a0 a1 a2 a3 : Value} {R : Ending → World → Prop} (hres : f.results = #[.cell p 49]) (hVb : V.heap[B]? = some (.cells #[a0, a1, a2, a3] 49 (0, 0)))
    (h2 : tm.getD p undef = .pointer (some ⟨B, 0, none⟩)) (hR : R (.returned (.agg #[a0, a1, a2, a3])) V) : bodyPost Tryz.prog f R .ret ⟨tm, []⟩ V := by
  have x0 : V.cell? ⟨B, 0, none⟩ = some a0 := by rw [cell_in hVb]; rfl
  have x1 : V.cell? ⟨B, 1, none⟩ = some a1 := by rw [cell_in hVb]; rfl
  have x2 : V.cell? ⟨B, 2, none⟩ = some a2 := by rw [cell_in hVb]; rfl
  have x3 : V.cell? ⟨B, 3, none⟩ = some a3 := by rw [cell_in hVb]; rfl
  have h2' : tm[p]?.getD undef = .pointer (some ⟨B, 0, none⟩) := by simpa using h2
  refine bodyPost_ret (v := .agg #[a0, a1, a2, a3]) (by simp [results, hres, go_sem, h2, h2', x0, x1, x2, x3]) rfl hR
/-- what the document's reading of an element leaves -/
def ElD (W : World) (r : Nat) (S : Bs) (res : Option (LitS × Bs × Nat)) (e : Ending) (w' : World) : Prop :=
  ∃ (t : LitT) (k d : Nat) (bad : Bool), e = .returned (litv t) ∧ QB w' r S k d bad ∧ Fr [r] W w' ∧ LitsX w' (fun g => W.heap.size ≤ g) t.p t.c t.kids ∧ t.text.size ≤ 140737488355328 ∧ d ≤ 4098 ∧ (bad = false → d ≤ 4097) ∧ res = (if bad = true then none else some (stT t, S.drop k, d))
theorem finE {f : Func} {W w1 : World} {r : Nat} {S : Bs} {res : Option (LitS × Bs × Nat)} {tm : Array Value} {b0 b1 b2 b3 : Value} {k d : Nat} {bad : Bool} (t : LitT) (hres : f.results = #[.cell 2 49]) (hg : w1.heap[W.heap.size]? = some (.cells #[b0, b1, b2, b3] 49 (0, 0))) (hf : Fr [r] W w1) (hlt : r < W.heap.size) (hb : QB w1 r S k d bad) (hk : LitsX w1 (fun b => W.heap.size < b) t.p t.c t.kids) (ht : t.text.size ≤ 140737488355328) (hd : d ≤ 4098 ∧ (bad = false → d ≤ 4097)) (hr : res = (if bad = true then none else some (stT t, S.drop k, d))) (h2 : tm.getD 2 undef = .pointer (some ⟨W.heap.size, 0, none⟩)) :
    bodyPost Tryz.prog f (fun e w' => ElD W r S res e w') .ret ⟨tm, []⟩ (st4 w1 W.heap.size (.int .i64 t.kind) (.string t.text) (.int .i64 t.num) t.items) := by
  obtain ⟨h4, f4⟩ := st4_ok (.int .i64 t.kind) (.string t.text) (.int .i64 t.num) t.items hg
  refine ret49s hres h4 h2 ⟨t, k, d, bad, rfl, hb.fr f4 (by simp; omega), hf.trans f4 (fun b hb => .inr (by simp at hb; omega)), hk.keep f4 (fun g hg _ => by simp; omega) (fun g hg _ => by omega), ht, hd.1, hd.2, hr⟩
/-- an array, as the document reads it -/
def arrD (f : Nat) (x : Bs) (d : Nat) : Option (LitS × Bs × Nat) :=
  match tokP [40] x with
  | none => none
  | some r1 =>
    if 4097 < d + 1 then none
    else
      match arrQ f r1 (d + 1) [] with
      | none => none
      | some (l, r2, d2) => some (.mk 4 noTx 0 l, r2, d2)
def EleW (f : Nat) : Prop := ∀ (W : World) (r : Nat) (S : Bs) (a d : Nat) (bad : Bool), QB W r S a d bad → Ev W → 9 ≤ r → S.length ≤ 1100000 → d ≤ 4098 → (bad = false → d ≤ 4097) → (bad = false → 2 * (S.length - a) + 1 ≤ f) → Calls Tryz.prog 61 #[pt r] W fun e w' => ElD W r S (if bad = true then none else eleQ f (S.drop a) d) e w'
def ArrW (f : Nat) : Prop := ∀ (W : World) (r : Nat) (S : Bs) (a d : Nat), QB W r S a d false → Ev W → 9 ≤ r → S.length ≤ 1100000 → d ≤ 4097 → 2 * (S.length - a) ≤ f → Calls Tryz.prog 44 #[pt r] W fun e w' => ElD W r S (arrD f (S.drop a) d) e w'
theorem eat_hit {W : World} {r : Nat} {S : Bs} {a d : Nat} {p x : Bs} (h : QB W r S a d false) (ht : tokP p (S.drop a) = some x) (hp : p.length ≤ 100) : Calls Tryz.prog 39 #[pt r, .string (bA p)] W fun e w' => e = .returned (.tuple #[]) ∧ Fr [r] W w' ∧ QB w' r S (a + p.length) d false := (eat_ok W r S a d false h p hp).mono (by
  rintro e w' ⟨h1, h2, h3⟩
  rw [has_tok ht, if_pos rfl] at h3
  exact ⟨h1, h2, h3⟩)
theorem eat_miss {W : World} {r : Nat} {S : Bs} {a d : Nat} {p : Bs} (h : QB W r S a d false) (ht : tokP p (S.drop a) = none) (hp : p.length ≤ 100) : Calls Tryz.prog 39 #[pt r, .string (bA p)] W fun e w' => e = .returned (.tuple #[]) ∧ Fr [r] W w' ∧ QB w' r S a d true := (eat_ok W r S a d false h p hp).mono (by
  rintro e w' ⟨h1, h2, h3⟩
  rw [has_no ht, if_neg Bool.false_ne_true] at h3
  exact ⟨h1, h2, h3⟩)
theorem eat_bad {W : World} {r : Nat} {S : Bs} {a d : Nat} {p : Bs} (h : QB W r S a d true) (hp : p.length ≤ 100) : Calls Tryz.prog 39 #[pt r, .string (bA p)] W fun e w' => e = .returned (.tuple #[]) ∧ Fr [r] W w' ∧ QB w' r S a d true := (eat_ok W r S a d true h p hp).mono (by
  rintro e w' ⟨h1, h2, h3⟩
  rw [hasQ_bad, if_neg Bool.false_ne_true] at h3
  exact ⟨h1, h2, h3⟩)
set_option maxRecDepth 100000 in
set_option maxHeartbeats 8000000 in
/-- the contract of the document's element, out of that of its array -/
theorem eleW {f : Nat} (hA : ∀ g, g < f → ArrW g) : EleW f := by
  intro W r S a d bad h hE hr hS hd hd2 hf
  have hlt := h.lt
  have hz := wz_of W
  obtain ⟨W0, hW0⟩ : ∃ V, W.alloc (.cells #[.int .i64 0, .string ⟨#[]⟩, .int .i64 0, .slice none 0 0] 49) = V := ⟨_, rfl⟩
  rw [hW0] at hz
  have hb0 := h.fr hz.fr (by simp)
  have HW0 := mkHid hW0
  have HZ := mkHid hz
  have HE0 := mkHid (hE.fr0 hz.fr)
  have HH : ∀ (q : Bs) (v : Bool), q.length ≤ 100 → hasQ S a bad q = v → Hid (∀ V, Fr [] W0 V → Calls Tryz.prog 42 #[pt r, .string (bA q)] V fun e w' => e = .returned (.bool v) ∧ Fr [] V w') := fun q v hl hv V fV => by
    rw [← hv]
    exact has_ok V r S a d bad (hb0.fr fV (by simp)) q hl
  have HQ0 : Hid (∀ V, Fr [] W0 V → QB V r S a d bad) := fun V fV => hb0.fr fV (by simp)
  have HD : Hid (d ≤ 4098) := hd
  clear h hz hW0 hb0
  cases bad with
  | true =>
    have q : ∀ p, hasQ S a true p = false := fun p => rfl
    simp only [if_true]
    have H0 := HH [39] false (by decide) (q _)
    have H1 := HH [35] false (by decide) (q _)
    have H2 := HH [110, 105, 108] false (by decide) (q _)
    have H3 := HH [116, 114, 117, 101] false (by decide) (q _)
    have H4 := HH [102, 97, 108, 115, 101] false (by decide) (q _)
    have H5 := HH [40] false (by decide) (q _)
    have HN : Hid (∀ V, Fr [] W0 V → Calls Tryz.prog 40 #[pt r] V fun e w' => ∃ v k, e = .returned (.int .i64 v) ∧ Fr [r] V w' ∧ QB w' r S k d true) := fun V fV => (qnum_ok V r S a d true (HQ0.out V fV) (HE0.out.fr0 fV).pw).mono (by
      rintro e w' ⟨h1, h2⟩
      split at h2
      · exact ⟨_, _, h2.1, h1, h2.2⟩
      · exact ⟨_, _, h2.1, h1, h2.2⟩)
    clear HH q hf hA hE hd hd2 HE0
    go_enter Tryz.func61, Tryz.ntmps61
    go_wp2_with fail
    rw [HW0.out]
    refine (H0.out _ (Fr.refl [] W0)).mono ?_
    rintro e w0 ⟨rfl, g0⟩
    have F0 : Hid (Fr [] W0 w0) := (Fr.refl [] W0).tr0 g0
    clear g0 H0
    go_wp2_with fail
    refine (H1.out _ F0.out).mono ?_
    rintro e w1 ⟨rfl, g1⟩
    have F1 : Hid (Fr [] W0 w1) := F0.out.tr0 g1
    clear g1 H1
    go_wp2_with fail
    refine (H2.out _ F1.out).mono ?_
    rintro e w2 ⟨rfl, g2⟩
    have F2 : Hid (Fr [] W0 w2) := F1.out.tr0 g2
    clear g2 H2
    go_wp2_with fail
    refine (H3.out _ F2.out).mono ?_
    rintro e w3 ⟨rfl, g3⟩
    have F3 : Hid (Fr [] W0 w3) := F2.out.tr0 g3
    clear g3 H3
    go_wp2_with fail
    refine (H4.out _ F3.out).mono ?_
    rintro e w4 ⟨rfl, g4⟩
    have F4 : Hid (Fr [] W0 w4) := F3.out.tr0 g4
    clear g4 H4
    go_wp2_with fail
    refine (H5.out _ F4.out).mono ?_
    rintro e w5 ⟨rfl, g5⟩
    have F5 : Hid (Fr [] W0 w5) := F4.out.tr0 g5
    clear g5 H5
    go_wp2_with fail
    refine (HN.out _ F5.out).mono ?_
    rintro e v2 ⟨v, k, rfl, fv2, hq2⟩
    obtain ⟨fW, bW⟩ := HZ.out.on hlt ((F5.out.mono (S' := [r]) (by simp)).trans fv2 (by simp))
    obtain ⟨c0, c1, c2, c3, z0, z1, z2, z3⟩ := z4_of bW
    have HFW := mkHid fW
    have HBW := mkHid bW
    have HQ := mkHid hq2
    clear fv2 hq2 fW bW HN
    go_wp2_with fail
    exact finE (flat 1 ⟨#[]⟩ v) Tryz.results61 HBW.out HFW.out hlt HQ.out (noneO _ _) (flat_tx _ _) ⟨HD.out, fun e => by cases e⟩ rfl rfl
  | false =>
    have hf := hf rfl
    have hd := hd2 rfl
    have HDf := mkHid hd
    clear hd2
    simp only [Bool.false_eq_true, if_false]
    obtain ⟨Q, hQ⟩ : ∃ Q, Q = eleQ f (S.drop a) d := ⟨_, rfl⟩
    rw [← hQ]
    cases f with
    | zero => omega
    | succ f =>
    have hdl : (S.drop a).length = S.length - a := List.length_drop
    have hNum : ∀ (b : Nat), ∀ V, QB V r S b d false → Ev V → Calls Tryz.prog 40 #[pt r] V fun e w' => ∃ v k bd, e = .returned (.int .i64 v) ∧ Fr [r] V w' ∧ QB w' r S k d bd ∧ numQ (S.drop b) = if bd = true then none else some (v, S.drop k) := fun b V hV hEV => (qnum_ok V r S b d false hV hEV.pw).mono (by
      rintro e w' ⟨h1, h2⟩
      split at h2
      · next v y hn =>
        refine ⟨v, _, false, h2.1, h1, h2.2, ?_⟩
        rw [hn]
        simp only [Bool.false_eq_true, if_false]
        unfold numQ at hn
        split at hn
        · simp only [Option.some.injEq, Prod.mk.injEq] at hn
          rw [← List.drop_drop, hn.2]
        · cases hn
      · next hn => exact ⟨0, _, true, h2.1, h1, h2.2, by rw [hn]; rfl⟩)
    cases q0 : tokP [39] (S.drop a) with
    | some y =>
      have H0 := HH [39] true (by decide) (has_tok q0)
      have HT : Hid (∀ V, Fr [] W0 V → Calls Tryz.prog 43 #[pt r] V fun e w' => TxR V r S a d e w') := fun V fV => rtxt_ok V r S a d (HQ0.out V fV) (fun U fU => ((HE0.out.fr0 fV).fr1 fU hr).pw)
      have HEq : Hid (Q = up (txtQ (S.drop a)) d) := by
        show _ = _
        rw [hQ, eleQ, q0]
        simp only
        unfold up
        cases txtQ (S.drop a) <;> rfl
      clear hNum HH hA hf hE q0 hdl hS HE0 hQ
      go_enter Tryz.func61, Tryz.ntmps61
      go_wp2_with fail
      rw [HW0.out]
      refine (H0.out _ (Fr.refl [] W0)).mono ?_
      rintro e w0 ⟨rfl, g0⟩
      have F0 : Hid (Fr [] W0 w0) := (Fr.refl [] W0).tr0 g0
      clear g0 H0
      go_wp2_with fail
      refine (HT.out _ F0.out).mono ?_
      rintro e v1 ⟨fv, htx⟩
      obtain ⟨fW, bW⟩ := HZ.out.on hlt ((F0.out.mono (S' := [r]) (by simp)).trans fv (by simp))
      obtain ⟨c0, c1, c2, c3, z0, z1, z2, z3⟩ := z4_of bW
      have HFW := mkHid fW
      have HBW := mkHid bW
      clear fv HT fW bW
      cases hx : txtQ (S.drop a) with
      | none =>
        rw [hx] at htx
        obtain ⟨rfl, k, hq⟩ := htx
        have HQ := mkHid hq
        have HX0 : Hid (up (txtQ (S.drop a)) d = none) := by rw [hx]; rfl
        clear hq hx
        go_wp2_with fail
        exact finE (flat 2 ⟨#[]⟩ 0) Tryz.results61 HBW.out HFW.out hlt HQ.out (noneO _ _) (flat_tx _ _) ⟨HD.out, fun e => by cases e⟩ (HEq.out.trans HX0.out) rfl
      | some xy =>
        obtain ⟨x, y2⟩ := xy
        rw [hx] at htx
        obtain ⟨s, rfl, rfl, hs, hq⟩ := htx
        have HQ := mkHid hq
        have HR : Hid (up (txtQ (S.drop a)) d = if false = true then none else some (stT (flat 2 s 0), S.drop (S.length - y2.length), d)) := by
          obtain ⟨s2, -, e2⟩ := txtQ_some hx
          have hl2 : y2.length ≤ S.length - a := by
            have := congrArg List.length e2
            rw [List.length_append, List.length_drop] at this
            omega
          have hle2 : a ≤ S.length := (HQ0.out W0 (Fr.refl [] W0)).le
          have ed : S.drop (S.length - y2.length) = y2 := by
            rw [show S.length - y2.length = a + (S.length - a - y2.length) by omega, ← List.drop_drop, e2]
            have : S.length - a - y2.length = (textW s2).length := by
              have := congrArg List.length e2
              rw [List.length_append, List.length_drop] at this
              omega
            rw [this, List.drop_left]
          rw [ed, flat_st, hx]
          rfl
        clear hq hx
        have hs2 : (flat 2 s 0).text.size ≤ 140737488355328 := by show s.size ≤ _; omega
        have HS2 := mkHid hs2
        clear hs2 hs
        go_wp2_with fail
        exact finE (flat 2 s 0) Tryz.results61 HBW.out HFW.out hlt HQ.out (noneO _ _) HS2.out ⟨HD.out, fun _ => HDf.out⟩ (HEq.out.trans HR.out) rfl
    | none =>
    cases q1 : tokP [35] (S.drop a) with
    | some y =>
      have H0 := HH [39] false (by decide) (has_no q0)
      have H1 := HH [35] true (by decide) (has_tok q1)
      have HT : Hid (∀ V, Fr [] W0 V → Calls Tryz.prog 39 #[pt r, .string (bA [35])] V fun e w' => e = .returned (.tuple #[]) ∧ Fr [r] V w' ∧ QB w' r S (a + 1) d false) := fun V fV => eat_hit (HQ0.out V fV) q1 (by decide)
      have HN : Hid (∀ V, QB V r S (a + 1) d false → Ev V → Calls Tryz.prog 40 #[pt r] V fun e w' => ∃ v k bd, e = .returned (.int .i64 v) ∧ Fr [r] V w' ∧ QB w' r S k d bd ∧ numQ (S.drop (a + 1)) = if bd = true then none else some (v, S.drop k)) := fun V hV hEV => hNum (a + 1) V hV hEV
      have HEq : Hid (Q = match numQ (S.drop (a + 1)) with | none => none | some (n, r2) => some (.mk 3 noTx n [], r2, d)) := by
        show _ = _
        rw [hQ, eleQ, q0, q1]
        have e5 : S.drop (a + 1) = y := drop_tok q1
        rw [e5]
        rfl
      clear hNum HH hA hf hE q0 q1 hdl hS hQ
      go_enter Tryz.func61, Tryz.ntmps61
      go_wp2_with fail
      rw [HW0.out]
      refine (H0.out _ (Fr.refl [] W0)).mono ?_
      rintro e w0 ⟨rfl, g0⟩
      have F0 : Hid (Fr [] W0 w0) := (Fr.refl [] W0).tr0 g0
      clear g0 H0
      go_wp2_with fail
      refine (H1.out _ F0.out).mono ?_
      rintro e w1 ⟨rfl, g1⟩
      have F1 : Hid (Fr [] W0 w1) := F0.out.tr0 g1
      clear g1 H1
      go_wp2_with fail
      refine (HT.out _ F1.out).mono ?_
      rintro e v1 ⟨rfl, fv, hqv⟩
      have HN1 := mkHid (HN.out v1 hqv ((HE0.out.fr0 F1.out).fr1 fv hr))
      have HFv : Hid (Fr [r] W0 v1) := (F1.out.mono (S' := [r]) (by simp)).trans fv (by simp)
      clear fv hqv HT HN HE0
      go_wp2_with fail
      refine HN1.out.mono ?_
      rintro e v2 ⟨v, k, bd, rfl, fv2, hq2, hn2⟩
      obtain ⟨fW, bW⟩ := HZ.out.on hlt (HFv.out.trans fv2 (by simp))
      obtain ⟨c0, c1, c2, c3, z0, z1, z2, z3⟩ := z4_of bW
      have HFW := mkHid fW
      have HBW := mkHid bW
      have HQ := mkHid hq2
      have HR : Hid ((match numQ (S.drop (a + 1)) with | none => none | some (n, r2) => some (LitS.mk 3 noTx n [], r2, d)) = if bd = true then none else some (stT (flat 3 ⟨#[]⟩ v), S.drop k, d)) := by
        show _ = _
        rw [hn2, flat_st]
        cases bd <;> rfl
      clear fv2 hq2 hn2 fW bW HN1
      go_wp2_with fail
      exact finE (flat 3 ⟨#[]⟩ v) Tryz.results61 HBW.out HFW.out hlt HQ.out (noneO _ _) (flat_tx _ _) ⟨HD.out, fun _ => HDf.out⟩ (HEq.out.trans HR.out) rfl
    | none =>
    cases q2 : tokP [110, 105, 108] (S.drop a) with
    | some y =>
      have H0 := HH [39] false (by decide) (has_no q0)
      have H1 := HH [35] false (by decide) (has_no q1)
      have H2 := HH [110, 105, 108] true (by decide) (has_tok q2)
      have HT : Hid (∀ V, Fr [] W0 V → Calls Tryz.prog 39 #[pt r, .string (bA [110, 105, 108])] V fun e w' => e = .returned (.tuple #[]) ∧ Fr [r] V w' ∧ QB w' r S (a + 3) d false) := fun V fV => eat_hit (HQ0.out V fV) q2 (by decide)
      have HEq : Hid (Q = some (.mk 5 noTx 0 [], S.drop (a + 3), d)) := by
        show _ = _
        have e5 : S.drop (a + 3) = y := drop_tok q2
        rw [hQ, e5, eleQ, q0, q1, q2]
      clear hNum HH hA hf hE q0 q1 q2 hdl hS HE0 hQ
      generalize a + 3 = a2 at *
      go_enter Tryz.func61, Tryz.ntmps61
      go_wp2_with fail
      rw [HW0.out]
      refine (H0.out _ (Fr.refl [] W0)).mono ?_
      rintro e w0 ⟨rfl, g0⟩
      have F0 : Hid (Fr [] W0 w0) := (Fr.refl [] W0).tr0 g0
      clear g0 H0
      go_wp2_with fail
      refine (H1.out _ F0.out).mono ?_
      rintro e w1 ⟨rfl, g1⟩
      have F1 : Hid (Fr [] W0 w1) := F0.out.tr0 g1
      clear g1 H1
      go_wp2_with fail
      refine (H2.out _ F1.out).mono ?_
      rintro e w2 ⟨rfl, g2⟩
      have F2 : Hid (Fr [] W0 w2) := F1.out.tr0 g2
      clear g2 H2
      go_wp2_with fail
      refine (HT.out _ F2.out).mono ?_
      rintro e v1 ⟨rfl, fv, hqv⟩
      obtain ⟨fW, bW⟩ := HZ.out.on hlt ((F2.out.mono (S' := [r]) (by simp)).trans fv (by simp))
      obtain ⟨c0, c1, c2, c3, z0, z1, z2, z3⟩ := z4_of bW
      have HFW := mkHid fW
      have HBW := mkHid bW
      have HQ := mkHid hqv
      have HR : Hid (some (LitS.mk 5 noTx 0 [], S.drop a2, d) = if false = true then none else some (stT (flat 5 ⟨#[]⟩ 0), S.drop a2, d)) := by
        rw [flat_st]
        rfl
      clear fv hqv fW bW HT
      go_wp2_with fail
      exact finE (flat 5 ⟨#[]⟩ 0) Tryz.results61 HBW.out HFW.out hlt HQ.out (noneO _ _) (flat_tx _ _) ⟨HD.out, fun _ => HDf.out⟩ (HEq.out.trans HR.out) rfl
    | none =>
    cases q3 : tokP [116, 114, 117, 101] (S.drop a) with
    | some y =>
      have H0 := HH [39] false (by decide) (has_no q0)
      have H1 := HH [35] false (by decide) (has_no q1)
      have H2 := HH [110, 105, 108] false (by decide) (has_no q2)
      have H3 := HH [116, 114, 117, 101] true (by decide) (has_tok q3)
      have HT : Hid (∀ V, Fr [] W0 V → Calls Tryz.prog 39 #[pt r, .string (bA [116, 114, 117, 101])] V fun e w' => e = .returned (.tuple #[]) ∧ Fr [r] V w' ∧ QB w' r S (a + 4) d false) := fun V fV => eat_hit (HQ0.out V fV) q3 (by decide)
      have HEq : Hid (Q = some (.mk 6 noTx 0 [], S.drop (a + 4), d)) := by
        show _ = _
        have e5 : S.drop (a + 4) = y := drop_tok q3
        rw [hQ, e5, eleQ, q0, q1, q2, q3]
      clear hNum HH hA hf hE q0 q1 q2 q3 hdl hS HE0 hQ
      generalize a + 4 = a2 at *
      go_enter Tryz.func61, Tryz.ntmps61
      go_wp2_with fail
      rw [HW0.out]
      refine (H0.out _ (Fr.refl [] W0)).mono ?_
      rintro e w0 ⟨rfl, g0⟩
      have F0 : Hid (Fr [] W0 w0) := (Fr.refl [] W0).tr0 g0
      clear g0 H0
      go_wp2_with fail
      refine (H1.out _ F0.out).mono ?_
      rintro e w1 ⟨rfl, g1⟩
      have F1 : Hid (Fr [] W0 w1) := F0.out.tr0 g1
      clear g1 H1
      go_wp2_with fail
      refine (H2.out _ F1.out).mono ?_
      rintro e w2 ⟨rfl, g2⟩
      have F2 : Hid (Fr [] W0 w2) := F1.out.tr0 g2
      clear g2 H2
      go_wp2_with fail
      refine (H3.out _ F2.out).mono ?_
      rintro e w3 ⟨rfl, g3⟩
      have F3 : Hid (Fr [] W0 w3) := F2.out.tr0 g3
      clear g3 H3
      go_wp2_with fail
      refine (HT.out _ F3.out).mono ?_
      rintro e v1 ⟨rfl, fv, hqv⟩
      obtain ⟨fW, bW⟩ := HZ.out.on hlt ((F3.out.mono (S' := [r]) (by simp)).trans fv (by simp))
      obtain ⟨c0, c1, c2, c3, z0, z1, z2, z3⟩ := z4_of bW
      have HFW := mkHid fW
      have HBW := mkHid bW
      have HQ := mkHid hqv
      have HR : Hid (some (LitS.mk 6 noTx 0 [], S.drop a2, d) = if false = true then none else some (stT (flat 6 ⟨#[]⟩ 0), S.drop a2, d)) := by
        rw [flat_st]
        rfl
      clear fv hqv fW bW HT
      go_wp2_with fail
      exact finE (flat 6 ⟨#[]⟩ 0) Tryz.results61 HBW.out HFW.out hlt HQ.out (noneO _ _) (flat_tx _ _) ⟨HD.out, fun _ => HDf.out⟩ (HEq.out.trans HR.out) rfl
    | none =>
    cases q4 : tokP [102, 97, 108, 115, 101] (S.drop a) with
    | some y =>
      have H0 := HH [39] false (by decide) (has_no q0)
      have H1 := HH [35] false (by decide) (has_no q1)
      have H2 := HH [110, 105, 108] false (by decide) (has_no q2)
      have H3 := HH [116, 114, 117, 101] false (by decide) (has_no q3)
      have H4 := HH [102, 97, 108, 115, 101] true (by decide) (has_tok q4)
      have HT : Hid (∀ V, Fr [] W0 V → Calls Tryz.prog 39 #[pt r, .string (bA [102, 97, 108, 115, 101])] V fun e w' => e = .returned (.tuple #[]) ∧ Fr [r] V w' ∧ QB w' r S (a + 5) d false) := fun V fV => eat_hit (HQ0.out V fV) q4 (by decide)
      have HEq : Hid (Q = some (.mk 7 noTx 0 [], S.drop (a + 5), d)) := by
        show _ = _
        have e5 : S.drop (a + 5) = y := drop_tok q4
        rw [hQ, e5, eleQ, q0, q1, q2, q3, q4]
      clear hNum HH hA hf hE q0 q1 q2 q3 q4 hdl hS HE0 hQ
      generalize a + 5 = a2 at *
      go_enter Tryz.func61, Tryz.ntmps61
      go_wp2_with fail
      rw [HW0.out]
      refine (H0.out _ (Fr.refl [] W0)).mono ?_
      rintro e w0 ⟨rfl, g0⟩
      have F0 : Hid (Fr [] W0 w0) := (Fr.refl [] W0).tr0 g0
      clear g0 H0
      go_wp2_with fail
      refine (H1.out _ F0.out).mono ?_
      rintro e w1 ⟨rfl, g1⟩
      have F1 : Hid (Fr [] W0 w1) := F0.out.tr0 g1
      clear g1 H1
      go_wp2_with fail
      refine (H2.out _ F1.out).mono ?_
      rintro e w2 ⟨rfl, g2⟩
      have F2 : Hid (Fr [] W0 w2) := F1.out.tr0 g2
      clear g2 H2
      go_wp2_with fail
      refine (H3.out _ F2.out).mono ?_
      rintro e w3 ⟨rfl, g3⟩
      have F3 : Hid (Fr [] W0 w3) := F2.out.tr0 g3
      clear g3 H3
      go_wp2_with fail
      refine (H4.out _ F3.out).mono ?_
      rintro e w4 ⟨rfl, g4⟩
      have F4 : Hid (Fr [] W0 w4) := F3.out.tr0 g4
      clear g4 H4
      go_wp2_with fail
      refine (HT.out _ F4.out).mono ?_
      rintro e v1 ⟨rfl, fv, hqv⟩
      obtain ⟨fW, bW⟩ := HZ.out.on hlt ((F4.out.mono (S' := [r]) (by simp)).trans fv (by simp))
      obtain ⟨c0, c1, c2, c3, z0, z1, z2, z3⟩ := z4_of bW
      have HFW := mkHid fW
      have HBW := mkHid bW
      have HQ := mkHid hqv
      have HR : Hid (some (LitS.mk 7 noTx 0 [], S.drop a2, d) = if false = true then none else some (stT (flat 7 ⟨#[]⟩ 0), S.drop a2, d)) := by
        rw [flat_st]
        rfl
      clear fv hqv fW bW HT
      go_wp2_with fail
      exact finE (flat 7 ⟨#[]⟩ 0) Tryz.results61 HBW.out HFW.out hlt HQ.out (noneO _ _) (flat_tx _ _) ⟨HD.out, fun _ => HDf.out⟩ (HEq.out.trans HR.out) rfl
    | none =>
    cases q5 : tokP [40] (S.drop a) with
    | some y =>
      have H0 := HH [39] false (by decide) (has_no q0)
      have H1 := HH [35] false (by decide) (has_no q1)
      have H2 := HH [110, 105, 108] false (by decide) (has_no q2)
      have H3 := HH [116, 114, 117, 101] false (by decide) (has_no q3)
      have H4 := HH [102, 97, 108, 115, 101] false (by decide) (has_no q4)
      have H5 := HH [40] true (by decide) (has_tok q5)
      have HT : Hid (∀ V, Fr [] W0 V → Calls Tryz.prog 44 #[pt r] V fun e w' => ElD V r S (arrD f (S.drop a) d) e w') := fun V fV => hA f (by omega) V r S a d (HQ0.out V fV) (HE0.out.fr0 fV) hr hS hd (by omega)
      have HEq : Hid (Q = arrD f (S.drop a) d) := by
        show _ = _
        rw [hQ, eleQ, q0, q1, q2, q3, q4]
        unfold arrD
        rw [q5]
        rfl
      clear hNum HH hA hf hE q0 q1 q2 q3 q4 q5 hdl hS HE0 hQ
      go_enter Tryz.func61, Tryz.ntmps61
      go_wp2_with fail
      rw [HW0.out]
      refine (H0.out _ (Fr.refl [] W0)).mono ?_
      rintro e w0 ⟨rfl, g0⟩
      have F0 : Hid (Fr [] W0 w0) := (Fr.refl [] W0).tr0 g0
      clear g0 H0
      go_wp2_with fail
      refine (H1.out _ F0.out).mono ?_
      rintro e w1 ⟨rfl, g1⟩
      have F1 : Hid (Fr [] W0 w1) := F0.out.tr0 g1
      clear g1 H1
      go_wp2_with fail
      refine (H2.out _ F1.out).mono ?_
      rintro e w2 ⟨rfl, g2⟩
      have F2 : Hid (Fr [] W0 w2) := F1.out.tr0 g2
      clear g2 H2
      go_wp2_with fail
      refine (H3.out _ F2.out).mono ?_
      rintro e w3 ⟨rfl, g3⟩
      have F3 : Hid (Fr [] W0 w3) := F2.out.tr0 g3
      clear g3 H3
      go_wp2_with fail
      refine (H4.out _ F3.out).mono ?_
      rintro e w4 ⟨rfl, g4⟩
      have F4 : Hid (Fr [] W0 w4) := F3.out.tr0 g4
      clear g4 H4
      go_wp2_with fail
      refine (H5.out _ F4.out).mono ?_
      rintro e w5 ⟨rfl, g5⟩
      have F5 : Hid (Fr [] W0 w5) := F4.out.tr0 g5
      clear g5 H5
      go_wp2_with fail
      refine (HT.out _ F5.out).mono ?_
      rintro e v1 ⟨t, k, d2, bd, rfl, hq2, fv, hk, ht, hd3, hd4, hres⟩
      have hsz := F5.out.size
      have hsz0 := lt_of_heap HZ.out.blk
      obtain ⟨fW, bW⟩ := HZ.out.on hlt ((F5.out.mono (S' := [r]) (by simp)).trans fv (by simp))
      obtain ⟨c0, c1, c2, c3, z0, z1, z2, z3⟩ := z4_of bW
      have HFW := mkHid fW
      have HBW := mkHid bW
      have HQ := mkHid hq2
      have HK : Hid (LitsX v1 (fun b => W.heap.size < b) t.p t.c t.kids) := hk.keep (Fr.refl [] v1) (fun _ _ _ => by simp) (fun g hg _ => by omega)
      have HT2 := mkHid ht
      have HD2 : Hid (d2 ≤ 4098 ∧ (bd = false → d2 ≤ 4097)) := ⟨hd3, hd4⟩
      have HR : Hid (arrD f (S.drop a) d = if bd = true then none else some (stT t, S.drop k, d2)) := hres
      clear fv hq2 hk ht hd3 hd4 hres fW bW HT hsz hsz0
      unfold litv LitT.items
      go_wp2_with fail
      exact finE t Tryz.results61 HBW.out HFW.out hlt HQ.out HK.out HT2.out ⟨HD2.out.1, HD2.out.2⟩ (HEq.out.trans HR.out) rfl
    | none =>
      have H0 := HH [39] false (by decide) (has_no q0)
      have H1 := HH [35] false (by decide) (has_no q1)
      have H2 := HH [110, 105, 108] false (by decide) (has_no q2)
      have H3 := HH [116, 114, 117, 101] false (by decide) (has_no q3)
      have H4 := HH [102, 97, 108, 115, 101] false (by decide) (has_no q4)
      have H5 := HH [40] false (by decide) (has_no q5)
      have HN : Hid (∀ V, Fr [] W0 V → Calls Tryz.prog 40 #[pt r] V fun e w' => ∃ v k bd, e = .returned (.int .i64 v) ∧ Fr [r] V w' ∧ QB w' r S k d bd ∧ numQ (S.drop a) = if bd = true then none else some (v, S.drop k)) := fun V fV => hNum a V (HQ0.out V fV) (HE0.out.fr0 fV)
      have HEq : Hid (Q = match numQ (S.drop a) with | none => none | some (n, r2) => some (.mk 1 noTx n [], r2, d)) := by
        show _ = _
        rw [hQ, eleQ, q0, q1, q2, q3, q4, q5]
        rfl
      clear hNum HH hA hf hE q0 q1 q2 q3 q4 q5 hdl hS HE0 hQ
      go_enter Tryz.func61, Tryz.ntmps61
      go_wp2_with fail
      rw [HW0.out]
      refine (H0.out _ (Fr.refl [] W0)).mono ?_
      rintro e w0 ⟨rfl, g0⟩
      have F0 : Hid (Fr [] W0 w0) := (Fr.refl [] W0).tr0 g0
      clear g0 H0
      go_wp2_with fail
      refine (H1.out _ F0.out).mono ?_
      rintro e w1 ⟨rfl, g1⟩
      have F1 : Hid (Fr [] W0 w1) := F0.out.tr0 g1
      clear g1 H1
      go_wp2_with fail
      refine (H2.out _ F1.out).mono ?_
      rintro e w2 ⟨rfl, g2⟩
      have F2 : Hid (Fr [] W0 w2) := F1.out.tr0 g2
      clear g2 H2
      go_wp2_with fail
      refine (H3.out _ F2.out).mono ?_
      rintro e w3 ⟨rfl, g3⟩
      have F3 : Hid (Fr [] W0 w3) := F2.out.tr0 g3
      clear g3 H3
      go_wp2_with fail
      refine (H4.out _ F3.out).mono ?_
      rintro e w4 ⟨rfl, g4⟩
      have F4 : Hid (Fr [] W0 w4) := F3.out.tr0 g4
      clear g4 H4
      go_wp2_with fail
      refine (H5.out _ F4.out).mono ?_
      rintro e w5 ⟨rfl, g5⟩
      have F5 : Hid (Fr [] W0 w5) := F4.out.tr0 g5
      clear g5 H5
      go_wp2_with fail
      refine (HN.out _ F5.out).mono ?_
      rintro e v2 ⟨v, k, bd, rfl, fv2, hq2, hn2⟩
      obtain ⟨fW, bW⟩ := HZ.out.on hlt ((F5.out.mono (S' := [r]) (by simp)).trans fv2 (by simp))
      obtain ⟨c0, c1, c2, c3, z0, z1, z2, z3⟩ := z4_of bW
      have HFW := mkHid fW
      have HBW := mkHid bW
      have HQ := mkHid hq2
      have HR : Hid ((match numQ (S.drop a) with | none => none | some (n, r2) => some (LitS.mk 1 noTx n [], r2, d)) = if bd = true then none else some (stT (flat 1 ⟨#[]⟩ v), S.drop k, d)) := by
        show _ = _
        rw [hn2, flat_st]
        cases bd <;> rfl
      clear fv2 hq2 hn2 fW bW HN
      go_wp2_with fail
      exact finE (flat 1 ⟨#[]⟩ v) Tryz.results61 HBW.out HFW.out hlt HQ.out (noneO _ _) (flat_tx _ _) ⟨HD.out, fun _ => HDf.out⟩ (HEq.out.trans HR.out) rfl
end Go.Proofs.YtclkoffnjiiioaaGreatDoor
