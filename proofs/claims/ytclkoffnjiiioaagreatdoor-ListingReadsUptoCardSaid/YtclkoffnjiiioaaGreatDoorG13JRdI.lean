import Derived.Test.YtclkoffnjiiioaaGreatDoorJRdG
import Derived.Laws.OwnMore
namespace Go.Proofs.YtclkoffnjiiioaaGreatDoor
open Go.RowKit
set_option linter.unusedVariables false
set_option linter.unusedSimpArgs false
attribute [local go_sem ↓] Go.wp_at_zero Go.wp_at_succ
/-- a row of numbers behind a row of numbers -/
theorem push_more (w : World) (base B1 : Nat) (p q : Option Addr) (c d : Nat) (ws ns : List Int) (h : w.ownsRow base 3 1 (.slice p ws.length c) ws.length (ws.map (Value.int .i64))) (h2 : w.ownsRow B1 3 1 (.slice q ns.length d) ns.length (ns.map (Value.int .i64))) (hb : ws.length + ns.length ≤ 1000000) (hB : base ≤ w.heap.size) :
    ∃ p' c' w', (Builtin.append_ #[23, 23] 23 #[.slice p ws.length c, .slice q ns.length d]).run Tryz.prog w = .ok (.slice p' (ws ++ ns).length c') w' ∧ w'.ownsRow base 3 1 (.slice p' (ws ++ ns).length c') (ws ++ ns).length ((ws ++ ns).map (Value.int .i64)) ∧ Fr (blk p) w w' := by
  obtain ⟨i3, ii, iz, is, ib⟩ := info_parts info3
  rcases h2.2 with ⟨e, e0⟩ | ⟨g, cap, cur, e, q1, q2⟩
  · have hns : ns = [] := List.length_eq_zero_iff.1 e0
    subst hns
    rw [e]
    have hr := run_append_owned_none (P := Tryz.prog) (w := w) base 23 23 3 i3 1 Tryz.underlying23 ii _ _ _ h
    refine ⟨p, c, w, by rw [List.append_nil]; exact hr, by rw [List.append_nil]; exact h, Fr.refl _ _⟩
  · injection e with e1 _ e3
    subst e1 e3
    obtain ⟨v', w', hr, ho, hg, -⟩ := run_append_own_wide (P := Tryz.prog) (w := w) base 23 23 3 i3 (.int .i64 0) 1 8 Tryz.underlying23 ii iz is ib rfl (by decide) _ _ _ h ⟨g, 0, none⟩ ns.length d (ns.map (Value.int .i64)) (by simp) (fun j u hj => by
        have hlt : j < ns.length := by have := (List.getElem?_eq_some_iff.1 hj).1; simpa using this
        have hp : (⟨g, 0, none⟩ : Addr).add j = ⟨g, j, none⟩ := by rw [Addr.add_mid]; simp
        rw [hp, own_get h2 j hlt, ← hj, List.getElem?_map, List.getD_eq_getElem?_getD, List.getElem?_eq_getElem hlt]
        rfl) (fun u hu => by obtain ⟨z, -, rfl⟩ := List.mem_map.1 hu; rfl) (by unfold maxLen; omega) (by omega) hB
    have hv : ∃ p' c', v' = .slice p' (ws ++ ns).length c' := by
      rcases ho.2 with ⟨e, e0⟩ | ⟨g', cap', cur', e, -⟩
      · exact ⟨none, 0, by rw [e, List.length_append, e0]⟩
      · exact ⟨some ⟨g', 0, none⟩, cap', by rw [e, List.length_append]⟩
    obtain ⟨p', c', rfl⟩ := hv
    refine ⟨p', c', w', hr, by rw [List.map_append]; rw [List.length_append] at ho ⊢; exact ho, Fr.grown hg (fun k hk => (blk_own _ _ _ _).1 hk)⟩
/-- an instruction's line, up to where it is read -/
def insQ (l : Bs) (k : Nat) : Option (List Int × Bs) :=
  match numP l with
  | none => none
  | some (pl, r) =>
    if pl ≠ (k : Int) then none
    else
      match tokP [32] r with
      | none => none
      | some r1 =>
        if opN (r1.takeWhile (· != 32)) = 0 ∨ 4096 < k + 1 + opd (opN (r1.takeWhile (· != 32))) then none
        else
          match numsP (opd (opN (r1.takeWhile (· != 32)))) (r1.dropWhile (· != 32)) with
          | some (ns, x) => some ((opN (r1.takeWhile (· != 32)) : Int) :: ns, x)
          | none => none
theorem insP_Q (l : Bs) (k : Nat) : insP l k = match insQ l k with | some (vs, []) => some vs | _ => none := by
  unfold insP insQ
  cases numP l with
  | none => rfl
  | some q =>
    obtain ⟨pl, r⟩ := q
    simp only
    split
    · rfl
    · cases tokP [32] r with
      | none => rfl
      | some r1 =>
        simp only
        split
        · rfl
        · cases numsP (opd (opN (r1.takeWhile (· != 32)))) (r1.dropWhile (· != 32)) with
          | none => rfl
          | some q =>
            obtain ⟨ns, x⟩ := q
            cases x <;> rfl
/-- what instruction answers -/
def InP (S : Rv) (r M : Nat) (pw : Option Addr) (ws : List Int) (l : Bs) (V : World) (ok : Bool) (S' : Rv) (w' : World) : Prop :=
  ∃ (vs : List Int) (x : Bs) (p2 : Option Addr) (c2 : Nat), S' = { S with rest := x, wv := .slice p2 (ws ++ vs).length c2 } ∧ w'.ownsRow M 3 1 (.slice p2 (ws ++ vs).length c2) (ws ++ vs).length ((ws ++ vs).map (Value.int .i64)) ∧ Fr (r :: blk pw) V w' ∧ insQ l ws.length = (if ok = true then some (vs, x) else none)
def InE (S : Rv) (r M : Nat) (pw : Option Addr) (ws : List Int) (l : Bs) (V : World) (e : Ending) (w' : World) : Prop := ∃ ok S', e = .returned (.bool ok) ∧ RB w' r S' ∧ S'.text = S.text ∧ S'.taken = S.taken ∧ InP S r M pw ws l V ok S' w'
theorem inp_miss {S : Rv} {r M : Nat} {pw : Option Addr} {cw : Nat} {ws : List Int} {l x : Bs} {V w' : World} (hwv : S.wv = .slice pw ws.length cw) (hrow : V.ownsRow M 3 1 (.slice pw ws.length cw) ws.length (ws.map (Value.int .i64))) (hM : r < M) (hf : Fr [r] V w') (hb : RB w' r { S with rest := x }) (hq : insQ l ws.length = none) : InE S r M pw ws l V (.returned (.bool false)) w' := by
  have e : ({ S with rest := x } : Rv) = { S with rest := x, wv := .slice pw (ws ++ ([] : List Int)).length cw } := by rw [List.append_nil, ← hwv]
  refine ⟨false, _, rfl, hb, rfl, rfl, [], x, pw, cw, e, by rw [List.append_nil]; exact own_keep hrow hf hM, hf.mono (by simp), hq⟩
set_option maxRecDepth 100000 in
set_option maxHeartbeats 16000000 in
theorem instr_ok (W : World) (r M : Nat) (S : Rv) (l : Bs) (pw : Option Addr) (cw : Nat) (ws : List Int) (h : RB W r { S with rest := l }) (hE : Ev W) (hr : 9 ≤ r) (hM : r < M) (hMs : M ≤ W.heap.size) (hwv : S.wv = .slice pw ws.length cw) (hrow : W.ownsRow M 3 1 (.slice pw ws.length cw) ws.length (ws.map (Value.int .i64))) (hws : ws.length ≤ 4096) : Calls Tryz.prog 38 #[pt r] W fun e w' => InE S r M pw ws l W e w' := by
  have hlt := h.lt
  have HN := mkHid (rnum_ok W r _ h hE hr)
  have HMiss : Hid (∀ w' x, Fr [r] W w' → RB w' r { S with rest := x } → insQ l ws.length = none → InE S r M pw ws l W (.returned (.bool false)) w') := fun w' x fw hw hq => inp_miss hwv hrow hM fw hw hq
  have HE := mkHid hE
  have HRow := mkHid hrow
  have HWv := mkHid hwv
  clear h hE hrow hwv
  cases hn : numP l with
  | none =>
    have HQ : Hid (insQ l ws.length = none) := by unfold insQ; rw [hn]; exact rfl
    go_enter Tryz.func38, Tryz.ntmps38
    go_wp2_with fail
    refine HN.out.mono ?_
    rintro e w1 hq
    unfold NumR at hq
    simp only at hq
    rw [hn] at hq
    obtain ⟨rfl, hb, hf⟩ := hq
    have HX := mkHid (HMiss.out w1 l hf hb HQ.out)
    clear hb hf hn
    go_wp2_with fail
    go_ret
    exact HX.out
  | some q =>
    obtain ⟨pl, y⟩ := q
    have HN2 : Hid (Calls Tryz.prog 57 #[pt r] W fun e w' => e = .returned (.tuple #[.int .i64 pl, .bool true]) ∧ RB w' r { S with rest := y } ∧ Fr [r] W w') := by
      have := HN.out
      unfold NumR at this
      simp only at this
      rw [hn] at this
      exact this
    have hpl := (numP_some hn).2.1
    clear HN
    by_cases hpk : pl = (ws.length : Int)
    · subst hpk
      cases ht : tokP [32] y with
      | none =>
        have hq0 : insQ l ws.length = none := by unfold insQ; rw [hn]; simp only; rw [if_neg (by simp), ht]
        have HQ := mkHid hq0
        clear hq0
        have HT : Hid (∀ V, RB V r { S with rest := y } → Calls Tryz.prog 52 #[pt r, .string (bA [32])] V fun e w' => e = .returned (.bool false) ∧ RB w' r { S with rest := y } ∧ Fr [r] V w') := fun V hV => token_miss (S := { S with rest := y }) hV ht
        clear hn ht
        go_enter Tryz.func38, Tryz.ntmps38
        go_wp2_with fail
        refine HN2.out.mono ?_
        rintro e w1 ⟨rfl, hb, hf⟩
        have c4 : w1.cell? ⟨r, 4, none⟩ = some (.slice pw ws.length cw) := (show w1.cell? ⟨r, 4, none⟩ = some S.wv from hb.cl 4).trans (by rw [HWv.out])
        have H2 := mkHid (HT.out w1 hb)
        have HF := mkHid hf
        clear hb hf
        go_wp2_with fail
        refine H2.out.mono ?_
        rintro e w2 ⟨rfl, hb, hf⟩
        have HX := mkHid (HMiss.out w2 y (HF.out.trans hf (by simp)) hb HQ.out)
        clear hb hf
        go_wp2_with fail
        go_ret
        exact HX.out
      | some y1 =>
        have HT : Hid (∀ V, RB V r { S with rest := y } → Calls Tryz.prog 52 #[pt r, .string (bA [32])] V fun e w' => e = .returned (.bool true) ∧ RB w' r { S with rest := y1 } ∧ Fr [r] V w') := fun V hV => token_hit (S := { S with rest := y }) hV ht
        have HOp : Hid (∀ V, RB V r { S with rest := y1 } → Fr [r] W V → Calls Tryz.prog 58 #[pt r] V fun e w' => e = .returned (.tuple #[.int .i64 (opN (y1.takeWhile (· != 32)) : Int), .bool (decide (opN (y1.takeWhile (· != 32)) ≠ 0))]) ∧ RB w' r { S with rest := y1.dropWhile (· != 32) } ∧ Fr [r] V w') := fun V hV fV => operation_ok V r { S with rest := y1 } hV (HE.out.fr1 fV hr).tb hr
        have hQ0 : insQ l ws.length = (if opN (y1.takeWhile (· != 32)) = 0 ∨ 4096 < ws.length + 1 + opd (opN (y1.takeWhile (· != 32))) then none else match numsP (opd (opN (y1.takeWhile (· != 32)))) (y1.dropWhile (· != 32)) with | some (ns, x) => some ((opN (y1.takeWhile (· != 32)) : Int) :: ns, x) | none => none) := by unfold insQ; rw [hn]; simp only; rw [if_neg (by simp), ht]
        have hole := opN_le (y1.takeWhile (· != 32))
        have hopd := opd_le (opN (y1.takeWhile (· != 32)))
        generalize y1.takeWhile (· != 32) = T at *
        generalize y1.dropWhile (· != 32) = D at *
        generalize opN T = o at *
        have HQ0 := mkHid hQ0
        have HTb : Hid (∀ V, Fr [r] W V → V.cell? ⟨0, o * 2 + 1, none⟩ = some (.int .i64 (opd o : Int))) := fun V fV => ((HE.out.fr1 fV hr).tb o (by omega)).2
        have HNs : Hid (∀ V, RB V r { S with rest := D } → Fr [r] W V → Calls Tryz.prog 53 #[pt r, .int .i64 (opd o : Int)] V fun e w' => NsR V r { S with rest := D } (opd o) e w') := fun V hV fV => rnums_ok V r { S with rest := D } (opd o) (by omega) hV (HE.out.fr1 fV hr) hr
        have o0 : (0 : Int) ≤ (o : Int) := by omega
        have o1 : (o : Int) < 29 := by omega
        have hw1 : IntKind.i64.wrap ((ws.length : Int) + 1) = (ws.length : Int) + 1 := iwrap_id (by omega) (by omega)
        have hw2 : IntKind.i64.wrap ((ws.length : Int) + 1 + (opd o : Int)) = (ws.length : Int) + 1 + (opd o : Int) := iwrap_id (by omega) (by omega)
        clear hn ht hQ0
        go_enter Tryz.func38, Tryz.ntmps38
        go_wp2_with fail
        refine HN2.out.mono ?_
        rintro e w1 ⟨rfl, hb, hf⟩
        have c4 : w1.cell? ⟨r, 4, none⟩ = some (.slice pw ws.length cw) := (show w1.cell? ⟨r, 4, none⟩ = some S.wv from hb.cl 4).trans (by rw [HWv.out])
        have H2 := mkHid (HT.out w1 hb)
        have HF := mkHid hf
        clear hb hf HT HN2
        go_wp2_with fail
        refine H2.out.mono ?_
        rintro e w2 ⟨rfl, hb, hf⟩
        have HF2 := mkHid (HF.out.trans hf (by simp))
        have H3 := mkHid (HOp.out w2 hb HF2.out)
        clear hb hf HF c4 HOp
        go_wp2_with fail
        refine H3.out.mono ?_
        rintro e w3 ⟨rfl, hb, hf⟩
        have hf3 := HF2.out.trans hf (by simp)
        have t3 := HTb.out w3 hf3
        by_cases ho : o = 0
        · have HX := mkHid (HMiss.out w3 D hf3 hb (by rw [HQ0.out, if_pos (.inl ho)]))
          have hd : decide (o ≠ 0) = false := by rw [ho]; rfl
          rw [hd]
          clear hb hf hf3 ho hd
          go_wp2_with fail
          go_ret
          exact HX.out
        have hd : decide (o ≠ 0) = true := decide_eq_true ho
        rw [hd]
        by_cases hbig : 4096 < ws.length + 1 + opd o
        · have HX := mkHid (HMiss.out w3 D hf3 hb (by rw [HQ0.out, if_pos (.inr hbig)]))
          have hbig' : (4096 : Int) < (ws.length : Int) + 1 + (opd o : Int) := by omega
          clear hb hf hf3 ho hd hbig
          go_wp2_with fail
          go_ret
          exact HX.out
        have hbig' : ¬ (4096 : Int) < (ws.length : Int) + 1 + (opd o : Int) := by omega
        have hQ1 := HQ0.out
        rw [if_neg (by rintro (q | q); exact ho q; exact hbig q)] at hQ1
        have HQ1 := mkHid hQ1
        have H4 := mkHid (HNs.out w3 hb hf3)
        have HF3 := mkHid hf3
        clear hb hf hf3 ho hd hbig hQ1 HNs HQ0
        go_wp2_with fail
        refine H4.out.mono ?_
        rintro e w4 ⟨ok, q, d, ns, x, rfl, hb, hf, hns, hnl, hnq⟩
        simp only at hb hnq
        have hf4 := HF3.out.trans hf (by simp)
        have hrow4 := own_keep HRow.out hf4 hM
        have hs3 := HF3.out.size
        have hs4 := hf.size
        have hbk : ∀ g ∈ blk pw, M ≤ g ∧ g < W.heap.size := fun g hg => own_lt HRow.out g ((blk_own _ _ _ _).2 hg)
        obtain ⟨p5, c5, w5, hr5, hrow5, hcase⟩ := push_int w4 M pw cw ws (o : Int) hrow4 (by omega) (by omega)
        have hf5 : Fr (blk pw) w4 w5 := by
          rcases hcase with ⟨-, -, z⟩ | ⟨z, -⟩
          · exact z
          · exact z.mono (by simp)
        have hp5 : ∀ g ∈ blk p5, (M ≤ g ∧ g < W.heap.size) ∨ w4.heap.size ≤ g := fun g hg => by
          rcases hcase with ⟨z, -, -⟩ | ⟨-, z⟩
          · rw [z] at hg; exact .inl (hbk g hg)
          · exact .inr (z g hg)
        have hns5 : w5.ownsRow w3.heap.size 3 1 (.slice q ns.length d) ns.length (ns.map (Value.int .i64)) := own_congr hns fun g hg => hf5.block g (own_lt hns g hg).2 (fun hm => by have h1 := (own_lt hns g hg).1; have h2 := (hbk g hm).2; omega)
        obtain ⟨p6, c6, w6, hr6, hrow6, hf6⟩ := push_more w5 M w3.heap.size p5 q c5 d (ws ++ [(o : Int)]) ns hrow5 hns5 (by simp; omega) (by have := hf5.size; omega)
        have hb5 := hb.fr hf5 (fun hm => by have := (hbk _ hm).1; omega)
        have hb6 := hb5.fr hf6 (fun hm => by rcases hp5 _ hm with z | z <;> omega)
        have hl1 : (ws ++ [(o : Int)]).length = ws.length + 1 := by simp
        rw [hl1] at hr6
        have hl2 : (ws ++ [(o : Int)] ++ ns).length = (ws ++ (o : Int) :: ns).length := by simp
        have hl3 : ws ++ [(o : Int)] ++ ns = ws ++ (o : Int) :: ns := by simp
        rw [hl3] at hr6 hrow6
        obtain ⟨n6, hn6⟩ : ∃ n, (ws ++ (o : Int) :: ns).length = n := ⟨_, rfl⟩
        have F6 : Fr (r :: blk pw) W w6 := ((hf4.mono (S' := r :: blk pw) (by simp)).trans hf5 (fun g hg => .inl (by simp [hg]))).trans hf6 (fun g hg => by
          rcases hcase with ⟨z, -, -⟩ | ⟨-, z⟩
          · rw [z] at hg; exact .inl (by simp [hg])
          · exact .inr (by have := z g hg; omega))
        have HX : Hid (InE S r M pw ws l W (.returned (.bool ok)) (w6.setCell ⟨r, 4, none⟩ (.slice p6 n6 c6))) := by
          have fs : Fr [r] w6 (w6.setCell ⟨r, 4, none⟩ (.slice p6 n6 c6)) := Fr.setCell (S := [r]) w6 ⟨r, 4, none⟩ _ (by simp)
          refine ⟨ok, _, rfl, hb6.setWords _, rfl, rfl, (o : Int) :: ns, x, p6, c6, by rw [hn6], own_keep hrow6 fs hM, F6.trans fs (by simp), ?_⟩
          rw [HQ1.out, hnq]
          cases ok <;> rfl
        rw [hn6] at hr6
        have k4 : w4.cell? ⟨r, 4, none⟩ = some (.slice pw ws.length cw) := (show w4.cell? ⟨r, 4, none⟩ = some S.wv from hb.cl 4).trans (by rw [HWv.out])
        have k6 : w6.cell? ⟨r, 4, none⟩ = some (.slice pw ws.length cw) := (show w6.cell? ⟨r, 4, none⟩ = some S.wv from hb6.cl 4).trans (by rw [HWv.out])
        have z6 := hb6.fz 4
        have HR5 := mkHid hr5
        have HR6 := mkHid hr6
        clear hb hf hns hnl hnq hf4 hrow4 hs3 hs4 hbk hr5 hrow5 hcase hf5 hp5 hns5 hr6 hrow6 hf6 hb5 hb6 hl1 hl2 hl3 hn6 F6 HQ1 HRow HWv HE HTb HMiss t3
        go_wp2_with (first
          | (at_builtin; refine Lib.wpList_append_run _ rfl (.tmp 63) (.tmp 64) 23 23 rfl _ _ rfl rfl _ _ HR6.out ?_)
          | (at_builtin; refine Lib.wpList_append_run _ rfl (.tmp 60) (.tmp 62) 23 23 rfl _ _ rfl rfl _ _ HR5.out ?_))
        go_ret
        exact HX.out
    · have hq0 : insQ l ws.length = none := by unfold insQ; rw [hn]; simp only; rw [if_pos hpk]
      have HQ := mkHid hq0
      have hpk' : (pl != (ws.length : Int)) = true := by simpa using hpk
      clear hq0
      clear hn
      go_enter Tryz.func38, Tryz.ntmps38
      go_wp2_with fail
      refine HN2.out.mono ?_
      rintro e w1 ⟨rfl, hb, hf⟩
      have c4 : w1.cell? ⟨r, 4, none⟩ = some (.slice pw ws.length cw) := (show w1.cell? ⟨r, 4, none⟩ = some S.wv from hb.cl 4).trans (by rw [HWv.out])
      have HX := mkHid (HMiss.out w1 y hf hb HQ.out)
      clear hb hf hpk
      go_wp2_with fail
      go_ret
      exact HX.out
end Go.Proofs.YtclkoffnjiiioaaGreatDoor
namespace Go.Proofs.YtclkoffnjiiioaaGreatDoor
open Go.RowKit
set_option linter.unusedVariables false
set_option linter.unusedSimpArgs false
attribute [local go_sem ↓] Go.wp_at_zero Go.wp_at_succ
theorem ent35 : ∀ args w, (callFunc 35 args).run Tryz.prog w = .ok (.enter 35 args) w := fun _ _ => by kernel_rfl
theorem ent37 : ∀ args w, (callFunc 37 args).run Tryz.prog w = .ok (.enter 37 args) w := fun _ _ => by kernel_rfl
theorem ent38 : ∀ args w, (callFunc 38 args).run Tryz.prog w = .ok (.enter 38 args) w := fun _ _ => by kernel_rfl
/-- what stands through all of the reading -/
structure Rg (W0 V : World) (r : Nat) (S : Rv) : Prop where
  rb : RB V r S
  fr : Fr [] W0 V
  lo : W0.heap.size ≤ r
def hdOf (S : Rv) : List Int := [S.a, S.t, S.s]
/-- literals are being taken -/
def I1 (W0 : World) (r : Nat) (hd : List Int) (A : Bs × List LitS × Nat) (V : World) : Prop :=
  ∃ (S : Rv) (lp : Option Addr) (lc : Nat) (ts : List LitT) (f : Nat), Rg W0 V r S ∧ hdOf S = hd ∧ S.lv = .slice lp ts.length lc ∧ TR (r + 1) V lp lc ts ∧ S.wv = .slice none 0 0 ∧ ts.length ≤ 64 ∧ S.els ≤ 4096 ∧ S.taken + S.text.length ≤ 281474976710656 ∧ litsP f S.text S.els (stL ts) S.taken = A ∧ S.text.length < f
/-- no more literals are taken -/
def Q1 (W0 : World) (r : Nat) (hd : List Int) (A : Bs × List LitS × Nat) (V : World) : Prop :=
  ∃ (S : Rv) (lp : Option Addr) (lc : Nat) (ts : List LitT), Rg W0 V r S ∧ hdOf S = hd ∧ S.lv = .slice lp ts.length lc ∧ TR (r + 1) V lp lc ts ∧ S.wv = .slice none 0 0 ∧ ts.length ≤ 65 ∧ S.taken + S.text.length ≤ 281474976710656 ∧ S.text = A.1 ∧ S.taken = A.2.2 ∧ (stL ts = A.2.1 ∨ S.text.head? = some 116 ∨ S.text.head? = some 97)
theorem head_app {l b : Bs} {c : UInt8} (h : l.head? = some c) : (l ++ 10 :: b).head? = some c := by
  cases l with
  | nil => cases h
  | cons d l => exact h
theorem lit_step (W0 : World) (hW : Ev W0) (h9 : 9 ≤ W0.heap.size) (r : Nat) (hd : List Int) (A : Bs × List LitS × Nat) (V : World) (hI : I1 W0 r hd A V) :
    Calls Tryz.prog 34 #[pt r, .func (.func 37) #[pt r] #[]] V fun e w' => (e = .returned (.bool true) ∧ I1 W0 r hd A w' ∧ lenT r w' < lenT r V) ∨ (e = .returned (.bool false) ∧ Q1 W0 r hd A w') := by
  obtain ⟨S, lp, lc, ts, f, hg, hhd, hlv, htr, hwv, hts, hels, htk, hq, hf⟩ := hI
  have hr : 9 ≤ r := by have := hg.lo; omega
  cases f with
  | zero => omega
  | succ f =>
  rw [litsP] at hq
  cases hc : cutP S.text with
  | none =>
    rw [hc] at hq
    simp only at hq
    refine (line_no _ V r S hg.rb hc).mono ?_
    rintro e w' ⟨rfl, hb, hfr⟩
    exact .inr ⟨rfl, S, lp, lc, ts, ⟨hb, hg.fr.tr0 hfr, hg.lo⟩, hhd, hlv, htr.keep hfr (by simp), hwv, by omega, htk, by rw [← hq], by rw [← hq], .inl (by rw [← hq])⟩
  | some lb =>
    obtain ⟨l, b⟩ := lb
    rw [hc] at hq
    simp only at hq
    have hct := (cut_some hc).1
    have hlen : S.text.length = l.length + 1 + b.length := by rw [hct, List.length_append, List.length_cons]; omega
    have hEV := hW.fr0 hg.fr
    refine (line_by 37 ent37 V r S hg.rb l b hc (by omega) (LiP S r lp ts l) (fun U hU fU => literal_ok U r S l lp lc ts hU (hEV.fr1 fU hr) hr hlv (htr.keep fU (by simp)) hts hels)).mono ?_
    rintro e w' ⟨U, w1, ok, S', hU, fU, ⟨us, x, n, p2, c2, rfl, htr1, hfr1, hul, hok, hno, hhead⟩, hb1, -, -, rfl, hb2, hfr2⟩
    have hbk : ∀ g ∈ blk lp, r + 1 ≤ g := fun g hg' => (htr.blk g hg').1
    have F1 : Fr [] W0 w' := ((hg.fr.trans fU (fun g hg' => .inr (by simp at hg'; have := hg.lo; omega))).trans hfr1 (fun g hg' => .inr (by
      rcases List.mem_cons.1 hg' with e | e
      · have := hg.lo; omega
      · have := hbk g e; have := hg.lo; omega))).trans hfr2 (fun g hg' => .inr (by simp at hg'; have := hg.lo; omega))
    have htr2 := htr1.keep hfr2 (by simp)
    by_cases hfl : (ok && x.isEmpty) = true
    · obtain ⟨hok1, hx⟩ : ok = true ∧ x = [] := by
        rw [Bool.and_eq_true] at hfl
        exact ⟨hfl.1, by simpa using hfl.2⟩
      subst hok1
      subst hx
      obtain ⟨t, rfl, hlq⟩ := hok rfl
      have hlp : litP l ts.length S.els = some (stT t, n) := by rw [litP_Q, hlq]
      rw [stL_len, hlp] at hq
      simp only at hq
      simp only [List.isEmpty_nil, Bool.and_self, if_true] at hb2
      left
      refine ⟨rfl, ⟨_, p2, c2, ts ++ [t], f, ⟨hb2, F1, hg.lo⟩, hhd, rfl, htr2, hwv, ?_, ?_, ?_, ?_, ?_⟩, ?_⟩
      · have hk : ts.length ≠ 64 := fun e => by
          unfold litQ at hlq
          rw [if_pos e] at hlq
          cases hlq
        simp
        omega
      · exact (lit_some hlp hels).2.2.2.2.1
      · simp only; omega
      · simp only; rw [stL_app, stL_cons, stL_nil]; exact hq
      · simp only; omega
      · rw [lenT_is hb2, lenT_is hg.rb]
        simp only
        omega
    · have hflf : (ok && x.isEmpty) = false := by simpa using hfl
      have hb3 : RB w' r { S with rest := x, els := n, lv := .slice p2 (ts ++ us).length c2 } := by
        have h3 := hb2
        simp only [hflf, Bool.false_eq_true, if_false] at h3
        exact h3
      have hln : litP l (stL ts).length S.els = none := by
        rw [stL_len, litP_Q]
        cases ok with
        | false => rw [hno rfl]
        | true =>
          obtain ⟨t, -, hlq⟩ := hok rfl
          rw [hlq]
          cases x with
          | nil => simp at hflf
          | cons c x => rfl
      rw [hln] at hq
      simp only at hq
      right
      refine ⟨by simp only [hflf], { S with rest := x, els := n, lv := .slice p2 (ts ++ us).length c2 }, p2, c2, ts ++ us, ⟨hb3, F1, hg.lo⟩, hhd, rfl, htr2, hwv, ?_, htk, by rw [← hq], by rw [← hq], ?_⟩
      · rw [List.length_append]
        omega
      · rcases hhead with ⟨e, -⟩ | hh | hh
        · left; rw [e, List.append_nil, ← hq]
        · right; left; simp only; rw [hct]; exact head_app hh
        · right; right; simp only; rw [hct]; exact head_app hh
/-- instructions are being taken -/
def I2 (W0 : World) (r M : Nat) (hd : List Int) (E : Prop) (lp : Option Addr) (lc : Nat) (ts : List LitT) (C : Bs × List Int × Nat) (V : World) : Prop :=
  ∃ (S : Rv) (pw : Option Addr) (cw : Nat) (ws : List Int) (f : Nat), Rg W0 V r S ∧ hdOf S = hd ∧ S.lv = .slice lp ts.length lc ∧ LitsX V (fun g => r < g ∧ g < M) lp lc ts ∧ S.wv = .slice pw ws.length cw ∧ V.ownsRow M 3 1 (.slice pw ws.length cw) ws.length (ws.map (Value.int .i64)) ∧ M ≤ V.heap.size ∧ ws.length ≤ 4096 ∧ S.taken + S.text.length ≤ 281474976710656 ∧ inssP f S.text ws S.taken = C ∧ S.text.length < f ∧ (E ∨ S.text.head? = some 116 ∨ S.text.head? = some 97)
/-- no more instructions are taken -/
def Q2 (W0 : World) (r M : Nat) (hd : List Int) (E : Prop) (lp : Option Addr) (lc : Nat) (ts : List LitT) (C : Bs × List Int × Nat) (V : World) : Prop :=
  ∃ (S : Rv), Rg W0 V r S ∧ S.text = C.1 ∧ S.taken = C.2.2 ∧ S.taken + S.text.length ≤ 281474976710656 ∧ (C.1 = [] → E ∧ hdOf S = hd ∧ S.lv = .slice lp ts.length lc ∧ LitsX V (fun g => r < g ∧ g < M) lp lc ts ∧ ∃ (pw : Option Addr) (cw : Nat), S.wv = .slice pw C.2.1.length cw ∧ V.ownsRow M 3 1 (.slice pw C.2.1.length cw) C.2.1.length (C.2.1.map (Value.int .i64)))
theorem ins_head {l : Bs} {k : Nat} {vs : List Int} {b : Bs} (h : insP l k = some vs) : ∃ c, (l ++ 10 :: b).head? = some c ∧ c ≠ 116 ∧ c ≠ 97 := by
  obtain ⟨o, ns, -, -, -, -, -, -, rfl⟩ := ins_some h
  obtain ⟨d, s, e, hd⟩ := itoa_head (k : Int)
  refine ⟨d, ?_, (nb_ne hd).2.2.2.2.1, by rintro rfl; exact absurd hd (by decide)⟩
  unfold insL
  rw [e]
  rfl
theorem ins_step (W0 : World) (hW : Ev W0) (h9 : 9 ≤ W0.heap.size) (r M : Nat) (hM : r < M) (hd : List Int) (E : Prop) (lp : Option Addr) (lc : Nat) (ts : List LitT) (C : Bs × List Int × Nat) (V : World) (hI : I2 W0 r M hd E lp lc ts C V) :
    Calls Tryz.prog 34 #[pt r, .func (.func 38) #[pt r] #[]] V fun e w' => (e = .returned (.bool true) ∧ I2 W0 r M hd E lp lc ts C w' ∧ lenT r w' < lenT r V) ∨ (e = .returned (.bool false) ∧ Q2 W0 r M hd E lp lc ts C w') := by
  obtain ⟨S, pw, cw, ws, f, hg, hhd, hlv, hlo, hwv, hrow, hMs, hws, htk, hq, hf, hEx⟩ := hI
  have hr : 9 ≤ r := by have := hg.lo; omega
  cases f with
  | zero => omega
  | succ f =>
  rw [inssP] at hq
  cases hc : cutP S.text with
  | none =>
    rw [hc] at hq
    simp only at hq
    refine (line_no _ V r S hg.rb hc).mono ?_
    rintro e w' ⟨rfl, hb, hfr⟩
    refine .inr ⟨rfl, S, ⟨hb, hg.fr.tr0 hfr, hg.lo⟩, by rw [← hq], by rw [← hq], htk, fun h0 => ?_⟩
    rw [← hq] at h0
    have h0' : S.text = [] := h0
    have hE : E := by
      rcases hEx with h | h | h
      · exact h
      · rw [h0'] at h; cases h
      · rw [h0'] at h; cases h
    refine ⟨hE, hhd, hlv, hlo.keep hfr (fun _ _ _ => by simp) (fun g hg _ => hg), pw, cw, by rw [← hq]; exact hwv, ?_⟩
    rw [← hq]
    exact own_congr hrow fun g hg' => hfr.block g (own_lt hrow g hg').2 (by simp)
  | some lb =>
    obtain ⟨l, b⟩ := lb
    rw [hc] at hq
    simp only at hq
    have hct := (cut_some hc).1
    have hlen : S.text.length = l.length + 1 + b.length := by rw [hct, List.length_append, List.length_cons]; omega
    have hEV := hW.fr0 hg.fr
    refine (line_by 38 ent38 V r S hg.rb l b hc (by omega) (InP S r M pw ws l) (fun U hU fU => instr_ok U r M S l pw cw ws hU (hEV.fr1 fU hr) hr hM (Nat.le_trans hMs fU.size) hwv (own_keep hrow fU hM) hws)).mono ?_
    rintro e w' ⟨U, w1, ok, S', hU, fU, ⟨vs, x, p2, c2, rfl, hrow1, hfr1, hiq⟩, hb1, -, -, rfl, hb2, hfr2⟩
    have hbk : ∀ g ∈ blk pw, M ≤ g := fun g hg' => (own_lt hrow g ((blk_own _ _ _ _).2 hg')).1
    have F0 : Fr (r :: blk pw) V w' := ((fU.mono (S' := r :: blk pw) (by simp)).trans hfr1 (fun g hg' => .inl hg')).trans hfr2 (fun g hg' => .inl (by simp at hg'; simp [hg']))
    have F1 : Fr [] W0 w' := hg.fr.trans F0 (fun g hg' => .inr (by
      rcases List.mem_cons.1 hg' with e | e
      · have := hg.lo; omega
      · have := hbk g e; have := hg.lo; omega))
    have hlo2 : LitsX w' (fun g => r < g ∧ g < M) lp lc ts := hlo.keep F0 (fun g hg' _ hm => by
      rcases List.mem_cons.1 hm with e | e
      · omega
      · have := hbk g e; omega) (fun g hg' _ => hg')
    have hrow2 := own_keep hrow1 hfr2 hM
    by_cases hfl : (ok && x.isEmpty) = true
    · obtain ⟨hok1, hx⟩ : ok = true ∧ x = [] := by
        rw [Bool.and_eq_true] at hfl
        exact ⟨hfl.1, by simpa using hfl.2⟩
      subst hok1
      subst hx
      simp only [if_true] at hiq
      have hip : insP l ws.length = some vs := by rw [insP_Q, hiq]
      rw [hip] at hq
      simp only at hq
      have hb3 : RB w' r { S with rest := [], wv := .slice p2 (ws ++ vs).length c2, text := b, taken := S.taken + 1 } := by
        have h3 := hb2
        simp only [List.isEmpty_nil, Bool.and_self, if_true] at h3
        exact h3
      have hE : E := by
        obtain ⟨c, hc1, hc2, hc3⟩ := ins_head (b := b) hip
        rw [← hct] at hc1
        rcases hEx with h | h | h
        · exact h
        · rw [hc1] at h; injection h with h; exact absurd h hc2
        · rw [hc1] at h; injection h with h; exact absurd h hc3
      obtain ⟨o, ns, rfl, -, -, hol, -, hok4, -⟩ := ins_some hip
      left
      refine ⟨rfl, ⟨{ S with rest := [], wv := .slice p2 (ws ++ (o : Int) :: ns).length c2, text := b, taken := S.taken + 1 }, p2, c2, ws ++ (o : Int) :: ns, f, ⟨hb3, F1, hg.lo⟩, hhd, hlv, hlo2, rfl, hrow2, Nat.le_trans hMs F0.size, ?_, ?_, hq, ?_, .inl hE⟩, ?_⟩
      · simp; omega
      · simp only; omega
      · simp only; omega
      · rw [lenT_is hb3, lenT_is hg.rb]
        simp only
        omega
    · have hflf : (ok && x.isEmpty) = false := by simpa using hfl
      have hb3 : RB w' r { S with rest := x, wv := .slice p2 (ws ++ vs).length c2 } := by
        have h3 := hb2
        simp only [hflf, Bool.false_eq_true, if_false] at h3
        exact h3
      have hln : insP l ws.length = none := by
        rw [insP_Q, hiq]
        cases ok with
        | false => rfl
        | true =>
          cases x with
          | nil => simp at hflf
          | cons c x => rfl
      rw [hln] at hq
      simp only at hq
      right
      refine ⟨by simp only [hflf], { S with rest := x, wv := .slice p2 (ws ++ vs).length c2 }, ⟨hb3, F1, hg.lo⟩, by rw [← hq], by rw [← hq], htk, fun h0 => ?_⟩
      rw [← hq] at h0
      have h0' : S.text = [] := h0
      rw [hct] at h0'
      simp at h0'
end Go.Proofs.YtclkoffnjiiioaaGreatDoor
