import Derived.Test.YtclkoffnjiiioaaGreatDoorJRdF
namespace Go.Proofs.YtclkoffnjiiioaaGreatDoor
open Go.RowKit
set_option linter.unusedVariables false
set_option linter.unusedSimpArgs false
attribute [local go_sem ↓] Go.wp_at_zero Go.wp_at_succ
/-- the head's line, up to where it is read -/
def headQ (l : Bs) : Option (List Int × Bs) :=
  match tokP [99, 111, 100, 101] l with
  | none => none
  | some r => numsP 3 r
theorem headP_Q (l : Bs) : headP l = match headQ l with | some (ns, []) => some ns | _ => none := by
  unfold headP headQ
  cases tokP [99, 111, 100, 101] l with
  | none => rfl
  | some r => rfl
/-- what head answers -/
def HdP (S : Rv) (r : Nat) (l : Bs) (V : World) (ok : Bool) (S' : Rv) (w' : World) : Prop :=
  ∃ (a t s : Int) (x : Bs), S' = { S with a := a, t := t, s := s, rest := x } ∧ Fr [r] V w' ∧ headQ l = (if ok = true then some ([a, t, s], x) else none)
set_option maxRecDepth 100000 in
set_option maxHeartbeats 16000000 in
theorem head_ok (W : World) (r : Nat) (S : Rv) (l : Bs) (h : RB W r { S with rest := l }) (hE : Ev W) (hr : 9 ≤ r) : Calls Tryz.prog 35 #[pt r] W fun e w' => ∃ ok S', e = .returned (.bool ok) ∧ RB w' r S' ∧ S'.text = S.text ∧ S'.taken = S.taken ∧ HdP S r l W ok S' w' := by
  have hlt := h.lt
  cases h1 : tokP [99, 111, 100, 101] l with
  | none =>
    have HT := mkHid (token_miss h h1)
    have HQ : Hid (headQ l = none) := by unfold headQ; rw [h1]; exact rfl
    clear h h1 hE
    go_enter Tryz.func35, Tryz.ntmps35
    go_wp2_with fail
    refine HT.out.mono ?_
    rintro e w1 ⟨rfl, hb, hf⟩
    have HB := mkHid hb
    have HF := mkHid hf
    clear hb hf
    go_wp2_with fail
    go_ret
    exact ⟨false, _, rfl, HB.out, rfl, rfl, S.a, S.t, S.s, l, rfl, HF.out, HQ.out⟩
  | some x0 =>
    have HT := mkHid (token_hit h h1)
    have HQe : Hid (headQ l = numsP 3 x0) := by unfold headQ; rw [h1]; exact rfl
    have HN : Hid (∀ V, RB V r { S with rest := x0 } → Fr [r] W V → Calls Tryz.prog 53 #[pt r, .int .i64 3] V fun e w' => NsR V r { S with rest := x0 } 3 e w') := fun V hV fV => rnums_ok V r _ 3 (by omega) hV (hE.fr1 fV hr) hr
    clear h h1 hE
    go_enter Tryz.func35, Tryz.ntmps35
    go_wp2_with fail
    refine HT.out.mono ?_
    rintro e w1 ⟨rfl, hb, hf⟩
    have H2 := mkHid (HN.out w1 hb hf)
    have HF := mkHid hf
    clear hb hf HN
    go_wp2_with fail
    refine H2.out.mono ?_
    rintro e w2 ⟨ok, p, c, ns, x, rfl, hb, hf, hrow, -, hq⟩
    simp only at hq hb
    have HF2 := mkHid (HF.out.trans hf (by simp))
    cases ok with
    | false =>
      have HB := mkHid hb
      have HQ : Hid (headQ l = none) := by rw [HQe.out, hq]; exact rfl
      clear hb hf hrow hq
      go_wp2_with fail
      go_ret
      exact ⟨false, _, rfl, HB.out, rfl, rfl, S.a, S.t, S.s, x, rfl, HF2.out, HQ.out⟩
    | true =>
      simp only [if_true] at hq
      obtain ⟨-, hlen, -⟩ := nums_some _ _ _ _ hq
      match ns, hlen, hrow, hq with
      | [a0, a1, a2], _, hrow, hq =>
      obtain ⟨g, hp, hg1, hc0, hc1, hc2⟩ : ∃ g, p = some ⟨g, 0, none⟩ ∧ w1.heap.size ≤ g ∧ w2.cell? ⟨g, 0, none⟩ = some (.int .i64 a0) ∧ w2.cell? ⟨g, 1, none⟩ = some (.int .i64 a1) ∧ w2.cell? ⟨g, 2, none⟩ = some (.int .i64 a2) := by
        rcases hrow.2 with ⟨e, e0⟩ | ⟨g, cap, cur, e, q1, q2⟩
        · simp at e0
        · injection e with e1 _ e3
          subst e1 e3
          exact ⟨g, rfl, q1, own_get hrow 0 (by simp), own_get hrow 1 (by simp), own_get hrow 2 (by simp)⟩
      subst hp
      have hrg : r ≠ g := by have := HF.out.size; omega
      have k0 : w2.cell? ⟨r, 0, none⟩ = some (.int .i64 S.a) := hb.cl 0
      have k1 : w2.cell? ⟨r, 1, none⟩ = some (.int .i64 S.t) := hb.cl 1
      have k2 : w2.cell? ⟨r, 2, none⟩ = some (.int .i64 S.s) := hb.cl 2
      have z0 := hb.fz 0
      have z1 := hb.fz 1
      have z2 := hb.fz 2
      have HKp : Hid (∀ (V : World) (k : Nat) (v : Value), (V.cell? ⟨g, 0, none⟩ = some (.int .i64 a0) ∧ V.cell? ⟨g, 1, none⟩ = some (.int .i64 a1) ∧ V.cell? ⟨g, 2, none⟩ = some (.int .i64 a2)) → (V.setCell ⟨r, k, none⟩ v).cell? ⟨g, 0, none⟩ = some (.int .i64 a0) ∧ (V.setCell ⟨r, k, none⟩ v).cell? ⟨g, 1, none⟩ = some (.int .i64 a1) ∧ (V.setCell ⟨r, k, none⟩ v).cell? ⟨g, 2, none⟩ = some (.int .i64 a2)) := fun V k v hV => by
        have f : Fr [r] V (V.setCell ⟨r, k, none⟩ v) := Fr.setCell (S := [r]) V ⟨r, k, none⟩ v (by simp)
        have hl : g < V.heap.size := World.block_lt_of_cell? V _ hV.1
        exact ⟨(f.cell (p := ⟨g, 0, none⟩) hl (by simp; omega)).trans hV.1, (f.cell (p := ⟨g, 1, none⟩) hl (by simp; omega)).trans hV.2.1, (f.cell (p := ⟨g, 2, none⟩) hl (by simp; omega)).trans hV.2.2⟩
      have HQ : Hid (headQ l = some ([a0, a1, a2], x)) := by rw [HQe.out, hq]; exact rfl
      have HEnd : Hid (RB (((w2.setCell ⟨r, 0, none⟩ (.int .i64 a0)).setCell ⟨r, 1, none⟩ (.int .i64 a1)).setCell ⟨r, 2, none⟩ (.int .i64 a2)).drew r { S with a := a0, t := a1, s := a2, rest := x } ∧ Fr [r] W (((w2.setCell ⟨r, 0, none⟩ (.int .i64 a0)).setCell ⟨r, 1, none⟩ (.int .i64 a1)).setCell ⟨r, 2, none⟩ (.int .i64 a2)).drew) := by
        refine ⟨⟨set_in (set_in (set_in hb.blk 0 (.int .i64 a0)) 1 (.int .i64 a1)) 2 (.int .i64 a2), hb.small⟩, ?_⟩
        exact ((((HF2.out).trans (Fr.setCell (S := [r]) _ ⟨r, 0, none⟩ _ (by simp)) (by simp)).trans (Fr.setCell (S := [r]) _ ⟨r, 1, none⟩ _ (by simp)) (by simp)).trans (Fr.setCell (S := [r]) _ ⟨r, 2, none⟩ _ (by simp)) (by simp)).trans (Fr.drew [r] _) (by simp)
      clear hb hf hrow hq hg1
      go_wp2_with fail
      go_region_held3 (fun V => V.cell? ⟨g, 0, none⟩ = some (.int .i64 a0) ∧ V.cell? ⟨g, 1, none⟩ = some (.int .i64 a1) ∧ V.cell? ⟨g, 2, none⟩ = some (.int .i64 a2)) (first | exact ⟨hc0, hc1, hc2⟩ | exact HKp.out _ _ _ ⟨hc0, hc1, hc2⟩ | exact HKp.out _ _ _ (HKp.out _ _ _ ⟨hc0, hc1, hc2⟩) | exact HKp.out _ _ _ (HKp.out _ _ _ (HKp.out _ _ _ ⟨hc0, hc1, hc2⟩))) (fail)
      go_wp2_with fail
      go_ret
      exact ⟨true, _, rfl, HEnd.out.1, rfl, rfl, a0, a1, a2, x, rfl, HEnd.out.2, HQ.out⟩
/-- a literal's line, up to where it is read -/
def litQ (l : Bs) (k n : Nat) : Option (LitS × Bs × Nat) :=
  if k = 64 then none
  else
    match tokP [116, 101, 120, 116, 32] l with
    | some r => up (txtP r) n
    | none =>
      match tokP [97, 114, 114, 97, 121, 32] l with
      | some r => arrT r n
      | none => none
theorem litP_Q (l : Bs) (k n : Nat) : litP l k n = match litQ l k n with | some (x, [], n2) => some (x, n2) | _ => none := by
  unfold litP litQ
  split
  · rfl
  · cases tokP [116, 101, 120, 116, 32] l with
    | some r =>
      simp only
      cases txtP r with
      | none => rfl
      | some q =>
        obtain ⟨x, y⟩ := q
        cases y <;> rfl
    | none =>
      simp only
      cases tokP [97, 114, 114, 97, 121, 32] l with
      | some r =>
        simp only
        cases arrT r n with
        | none => rfl
        | some q =>
          obtain ⟨x, y, m⟩ := q
          cases y <;> rfl
      | none => rfl
/-- what literal answers -/
def LiP (S : Rv) (r : Nat) (lp : Option Addr) (ts : List LitT) (l : Bs) (V : World) (ok : Bool) (S' : Rv) (w' : World) : Prop :=
  ∃ (us : List LitT) (x : Bs) (n : Nat) (p2 : Option Addr) (c2 : Nat), S' = { S with rest := x, els := n, lv := .slice p2 (ts ++ us).length c2 } ∧ TR (r + 1) w' p2 c2 (ts ++ us) ∧ Fr (r :: blk lp) V w' ∧ us.length ≤ 1 ∧ (ok = true → ∃ t, us = [t] ∧ litQ l ts.length S.els = some (stT t, x, n)) ∧ (ok = false → litQ l ts.length S.els = none) ∧ ((us = [] ∧ n = S.els) ∨ l.head? = some 116 ∨ l.head? = some 97)
theorem lip_miss {S : Rv} {r : Nat} {lp : Option Addr} {lc : Nat} {ts : List LitT} {l x : Bs} {V w' : World} (hlv : S.lv = .slice lp ts.length lc) (htr : TR (r + 1) V lp lc ts) (hf : Fr [r] V w') (hb : RB w' r { S with rest := x }) (hq : litQ l ts.length S.els = none) :
    ∃ ok S', Ending.returned (.bool false) = .returned (.bool ok) ∧ RB w' r S' ∧ S'.text = S.text ∧ S'.taken = S.taken ∧ LiP S r lp ts l V ok S' w' := by
  have e : ({ S with rest := x } : Rv) = { S with rest := x, els := S.els, lv := .slice lp (ts ++ ([] : List LitT)).length lc } := by rw [List.append_nil, ← hlv]
  refine ⟨false, _, rfl, hb, rfl, rfl, [], x, S.els, lp, lc, e, by rw [List.append_nil]; exact htr.keep hf (by simp), hf.mono (by simp), by simp, fun h => (by cases h), fun _ => hq, .inl ⟨rfl, rfl⟩⟩
theorem lip_hit {S : Rv} {r : Nat} {lp : Option Addr} {ts : List LitT} {l x0 : Bs} {V V1 w' : World} {e : Ending} {res : Option (LitS × Bs × Nat)} (hf : Fr [r] V V1) (ho : ObR V1 r { S with rest := x0 } lp ts res e w') (hq : litQ l ts.length S.els = res) (hh : l.head? = some 116 ∨ l.head? = some 97) :
    ∃ ok S', e = .returned (.bool ok) ∧ RB w' r S' ∧ S'.text = S.text ∧ S'.taken = S.taken ∧ LiP S r lp ts l V ok S' w' := by
  obtain ⟨t, ok, x, n, p2, c2, rfl, hb, htr, hfr, hres⟩ := ho
  refine ⟨ok, _, rfl, hb, rfl, rfl, [t], x, n, p2, c2, by simp, htr, (hf.mono (S' := r :: blk lp) (by simp)).trans hfr (fun g hg => .inl hg), by simp, fun hk => ⟨t, rfl, by rw [hq, hres, hk]; rfl⟩, fun hk => by rw [hq, hres, hk]; rfl, .inr hh⟩
set_option maxRecDepth 100000 in
set_option maxHeartbeats 16000000 in
theorem literal_ok (W : World) (r : Nat) (S : Rv) (l : Bs) (lp : Option Addr) (lc : Nat) (ts : List LitT) (h : RB W r { S with rest := l }) (hE : Ev W) (hr : 9 ≤ r) (hlv : S.lv = .slice lp ts.length lc) (htr : TR (r + 1) W lp lc ts) (hts : ts.length ≤ 64) (hn : S.els ≤ 4096) : Calls Tryz.prog 37 #[pt r] W fun e w' => ∃ ok S', e = .returned (.bool ok) ∧ RB w' r S' ∧ S'.text = S.text ∧ S'.taken = S.taken ∧ LiP S r lp ts l W ok S' w' := by
  have hlt := h.lt
  have c3 : W.cell? ⟨r, 3, none⟩ = some (.slice lp ts.length lc) := (show W.cell? ⟨r, 3, none⟩ = some S.lv from h.cl 3).trans (by rw [hlv])
  by_cases h64 : ts.length = 64
  · have h64' : ((ts.length : Int) == 64) = true := by rw [h64]; rfl
    have HE : Hid (∃ ok S', Ending.returned (.bool false) = .returned (.bool ok) ∧ RB W r S' ∧ S'.text = S.text ∧ S'.taken = S.taken ∧ LiP S r lp ts l W ok S' W) := lip_miss hlv htr (Fr.refl _ _) h (by unfold litQ; rw [if_pos h64])
    clear h hE hlv htr h64
    go_enter Tryz.func37, Tryz.ntmps37
    go_wp2_with fail
    go_ret
    exact HE.out
  have h64' : ((ts.length : Int) == 64) = false := by simp; omega
  cases h1 : tokP [116, 101, 120, 116, 32] l with
  | some x0 =>
    have HT := mkHid (token_hit h h1)
    have HQ : Hid (litQ l ts.length S.els = up (txtP x0) S.els) := by unfold litQ; rw [if_neg h64, h1]; exact rfl
    have HH := mkHid (tok_head h1)
    have HO : Hid (∀ V, RB V r { S with rest := x0 } → Fr [r] W V → Calls Tryz.prog 54 #[pt r, .func (.func 55) #[pt r] #[]] V fun e w' => ObR V r { S with rest := x0 } lp ts (up (txtP x0) S.els) e w') := fun V hV fV => object_ok 55 ent55 V r _ lp lc ts _ hV hr hlv (htr.keep fV (by simp)) hts (quoted_ok V r _ hV)
    clear h hE hlv htr h64 h1
    go_enter Tryz.func37, Tryz.ntmps37
    go_wp2_with fail
    refine HT.out.mono ?_
    rintro e w1 ⟨rfl, hb, hf⟩
    have H2 := mkHid (HO.out w1 hb hf)
    have HF := mkHid hf
    clear hb hf HO c3
    go_wp2_with fail
    refine H2.out.mono ?_
    rintro e w2 ho
    have hl := lip_hit HF.out ho HQ.out (.inl HH.out)
    obtain ⟨ok, S', rfl, hl⟩ := hl
    have HE := mkHid hl
    clear hl ho
    go_wp2_with fail
    go_ret
    exact ⟨ok, S', rfl, HE.out⟩
  | none =>
    have HT := mkHid (token_miss h h1)
    cases h2 : tokP [97, 114, 114, 97, 121, 32] l with
    | some x0 =>
      have HT2 : Hid (∀ V, RB V r { S with rest := l } → Calls Tryz.prog 52 #[pt r, .string (bA [97, 114, 114, 97, 121, 32])] V fun e w' => e = .returned (.bool true) ∧ RB w' r { S with rest := x0 } ∧ Fr [r] V w') := fun V hV => token_hit (S := { S with rest := l }) hV h2
      have HQ : Hid (litQ l ts.length S.els = arrT x0 S.els) := by unfold litQ; rw [if_neg h64, h1, h2]; exact rfl
      have HH := mkHid (tok_head h2)
      have HO : Hid (∀ V, RB V r { S with rest := x0 } → Fr [r] W V → Calls Tryz.prog 54 #[pt r, .func (.func 56) #[pt r] #[]] V fun e w' => ObR V r { S with rest := x0 } lp ts (arrT x0 S.els) e w') := fun V hV fV => object_ok 56 ent56 V r _ lp lc ts _ hV hr hlv (htr.keep fV (by simp)) hts (array_ok' V r _ hV (hE.fr1 fV hr) hr hn)
      clear h hE hlv htr h64 h1 h2
      go_enter Tryz.func37, Tryz.ntmps37
      go_wp2_with fail
      refine HT.out.mono ?_
      rintro e w1 ⟨rfl, hb, hf⟩
      have H1 := mkHid (HT2.out w1 hb)
      have HF1 := mkHid hf
      clear hb hf c3
      go_wp2_with fail
      refine H1.out.mono ?_
      rintro e w2 ⟨rfl, hb, hf⟩
      have hf2 := HF1.out.trans hf (by simp)
      have H2 := mkHid (HO.out w2 hb hf2)
      have HF := mkHid hf2
      clear hb hf HO hf2
      go_wp2_with fail
      refine H2.out.mono ?_
      rintro e w3 ho
      have hl := lip_hit HF.out ho HQ.out (.inr HH.out)
      obtain ⟨ok, S', rfl, hl⟩ := hl
      have HE := mkHid hl
      clear hl ho
      go_wp2_with fail
      go_ret
      exact ⟨ok, S', rfl, HE.out⟩
    | none =>
      have HT2 : Hid (∀ V, RB V r { S with rest := l } → Calls Tryz.prog 52 #[pt r, .string (bA [97, 114, 114, 97, 121, 32])] V fun e w' => e = .returned (.bool false) ∧ RB w' r { S with rest := l } ∧ Fr [r] V w') := fun V hV => token_miss (S := { S with rest := l }) hV h2
      have HE : Hid (∀ w', Fr [r] W w' → RB w' r { S with rest := l } → ∃ ok S', Ending.returned (.bool false) = .returned (.bool ok) ∧ RB w' r S' ∧ S'.text = S.text ∧ S'.taken = S.taken ∧ LiP S r lp ts l W ok S' w') := fun w' fw hw => lip_miss hlv htr fw hw (by unfold litQ; rw [if_neg h64, h1, h2])
      clear h hE hlv htr h64 h1 h2
      go_enter Tryz.func37, Tryz.ntmps37
      go_wp2_with fail
      refine HT.out.mono ?_
      rintro e w1 ⟨rfl, hb, hf⟩
      have H1 := mkHid (HT2.out w1 hb)
      have HF1 := mkHid hf
      clear hb hf c3
      go_wp2_with fail
      refine H1.out.mono ?_
      rintro e w2 ⟨rfl, hb, hf⟩
      have HX := mkHid (HE.out w2 (HF1.out.trans hf (by simp)) hb)
      clear hb hf
      go_wp2_with fail
      go_ret
      exact HX.out
end Go.Proofs.YtclkoffnjiiioaaGreatDoor
