import Derived.Test.YtclkoffnjiiioaaGreatDoorJRdE
namespace Go.Proofs.YtclkoffnjiiioaaGreatDoor
open Go.RowKit
set_option linter.unusedVariables false
set_option linter.unusedSimpArgs false
attribute [local go_sem ↓] Go.wp_at_zero Go.wp_at_succ
theorem cutB_no {t : Bs} (h : cutP t = none) : cutB t 10 = (t, [], false) := by
  unfold cutP at h
  unfold cutB
  split at h
  · next hn => rw [if_pos hn]
  · cases h
theorem cutB_yes {t l b : Bs} (h : cutP t = some (l, b)) : cutB t 10 = (l, b, true) := by
  unfold cutP at h
  unfold cutB
  split at h
  · cases h
  · next hn =>
    rw [if_neg hn]
    simp only [Option.some.injEq, Prod.mk.injEq] at h
    rw [← h.1, ← h.2]
set_option maxRecDepth 100000 in
set_option maxHeartbeats 8000000 in
theorem line_no (f : Value) (W : World) (r : Nat) (S : Rv) (h : RB W r S) (hc : cutP S.text = none) : Calls Tryz.prog 34 #[pt r, f] W fun e w' => e = .returned (.bool false) ∧ RB w' r S ∧ Fr [] W w' := by
  have c5 : W.cell? ⟨r, 5, none⟩ = some (.string (bA S.text)) := h.cl 5
  have HC := mkHid (cut_ok S.text 10 h.small.1 W)
  rw [cutB_no hc] at HC
  have HB := mkHid h
  clear h hc
  go_enter Tryz.func34, Tryz.ntmps34
  go_wp2_with fail
  refine HC.out.mono ?_
  rintro e w1 ⟨rfl, f1⟩
  have HF := mkHid f1
  clear f1
  go_wp2_with fail
  go_ret
  exact ⟨rfl, HB.out.fr HF.out (by simp), HF.out⟩
/-- what a line's reading answers, by what its reader does -/
def LnR (W : World) (r : Nat) (S : Rv) (l b : Bs) (Pst : World → Bool → Rv → World → Prop) (e : Ending) (w' : World) : Prop :=
  ∃ (V w1 : World) (ok : Bool) (S' : Rv), RB V r { S with rest := l } ∧ Fr [r] W V ∧ Pst V ok S' w1 ∧ RB w1 r S' ∧ S'.text = S.text ∧ S'.taken = S.taken ∧ e = .returned (.bool (ok && S'.rest.isEmpty)) ∧ RB w' r (if (ok && S'.rest.isEmpty) = true then { S' with text := b, taken := S.taken + 1 } else S') ∧ Fr [r] w1 w'
set_option maxRecDepth 100000 in
set_option maxHeartbeats 8000000 in
theorem line_by (N : Nat) (hent : ∀ args w, (callFunc N args).run Tryz.prog w = .ok (.enter N args) w) (W : World) (r : Nat) (S : Rv) (h : RB W r S) (l b : Bs) (hc : cutP S.text = some (l, b)) (htk : S.taken ≤ 281474976710656) (Pst : World → Bool → Rv → World → Prop)
    (hN : ∀ V, RB V r { S with rest := l } → Fr [r] W V → Calls Tryz.prog N #[pt r] V fun e w' => ∃ ok S', e = .returned (.bool ok) ∧ RB w' r S' ∧ S'.text = S.text ∧ S'.taken = S.taken ∧ Pst V ok S' w') :
    Calls Tryz.prog 34 #[pt r, .func (.func N) #[pt r] #[]] W fun e w' => LnR W r S l b Pst e w' := by
  have c5 : W.cell? ⟨r, 5, none⟩ = some (.string (bA S.text)) := h.cl 5
  have HC := mkHid (cut_ok S.text 10 h.small.1 W)
  rw [cutB_yes hc] at HC
  simp only at HC
  have hsm := h.small
  have hcs := (cut_some hc).1
  have hll : l.length ≤ 281474976710656 ∧ b.length ≤ 281474976710656 := by
    have := hsm.1
    rw [hcs, List.length_append, List.length_cons] at this
    omega
  have HV : Hid (∀ V, Fr [] W V → V.cell? ⟨r, 7, none⟩ = some (.string (bA S.rest)) ∧ V.frozen? ⟨r, 7, none⟩ = false ∧ RB (V.setCell ⟨r, 7, none⟩ (.string (bA l))) r { S with rest := l } ∧ Fr [r] W (V.setCell ⟨r, 7, none⟩ (.string (bA l)))) := fun V fV => by
    have hb := h.fr fV (by simp)
    exact ⟨hb.cl 7, hb.fz 7, hb.setRest l hll.1, (fV.mono (S' := [r]) (by simp)).trans (Fr.setCell (S := [r]) V ⟨r, 7, none⟩ _ (by simp)) (by simp)⟩
  have HN := mkHid hN
  have HL := mkHid hll
  clear h hc hN hcs hsm hll
  go_enter Tryz.func34, Tryz.ntmps34
  go_wp2_with fail
  refine HC.out.mono ?_
  rintro e w1 ⟨rfl, f1⟩
  obtain ⟨c7, z7, hb1, hf1⟩ := HV.out w1 f1
  have H2 := mkHid (HN.out _ hb1 hf1)
  have HB1 := mkHid hb1
  have HF1 := mkHid hf1
  clear f1 hb1 hf1 HN HV HC c5
  go_wp2_with fail
  refine H2.out.mono ?_
  rintro e w2 ⟨ok, S', rfl, hb2, ht2, hk2, hp⟩
  have d7 : w2.cell? ⟨r, 7, none⟩ = some (.string (bA S'.rest)) := hb2.cl 7
  cases ok with
  | false =>
    have HE : Hid (LnR W r S l b Pst (.returned (.bool false)) w2) := ⟨_, w2, false, S', HB1.out, HF1.out, hp, hb2, ht2, hk2, rfl, hb2, Fr.refl _ _⟩
    clear hb2 ht2 hk2 hp HB1 HF1 H2 d7
    go_wp2_with fail
    go_ret
    exact HE.out
  | true =>
    cases hr' : S'.rest with
    | cons c0 l0 =>
      have he : (bA S'.rest).toList.isEmpty = false := by rw [bA_tl, hr']; rfl
      have HE : Hid (LnR W r S l b Pst (.returned (.bool false)) w2) := ⟨_, w2, true, S', HB1.out, HF1.out, hp, hb2, ht2, hk2, by rw [hr']; rfl, by rw [hr']; exact hb2, Fr.refl _ _⟩
      clear hb2 ht2 hk2 hp HB1 HF1 H2 hr'
      go_wp2_with fail
      go_ret
      exact HE.out
    | nil =>
      have he : (bA S'.rest).toList.isEmpty = true := by rw [bA_tl, hr']; rfl
      have d5 : w2.cell? ⟨r, 5, none⟩ = some (.string (bA S'.text)) := hb2.cl 5
      have y5 := hb2.fz 5
      have hb3 := hb2.setText b HL.out.2
      have f3 : Fr [r] w2 (w2.setCell ⟨r, 5, none⟩ (.string (bA b))) := Fr.setCell (S := [r]) w2 ⟨r, 5, none⟩ _ (by simp)
      have d6 : w2.cell? ⟨r, 6, none⟩ = some (.int .i64 (S.taken : Int)) := (show w2.cell? ⟨r, 6, none⟩ = some (.int .i64 (S'.taken : Int)) from hb2.cl 6).trans (by rw [hk2])
      have y6 := hb2.fz 6
      have hwn : IntKind.i64.wrap ((S.taken : Int) + 1) = (S.taken : Int) + 1 := iwrap_id (by omega) (by omega)
      have hb4 := hb3.setTaken (S.taken + 1)
      rw [show ((S.taken + 1 : Nat) : Int) = (S.taken : Int) + 1 by omega] at hb4
      have hem : (true && S'.rest.isEmpty) = true := by rw [hr']; rfl
      have HE : Hid (LnR W r S l b Pst (.returned (.bool true)) ((w2.setCell ⟨r, 5, none⟩ (.string (bA b))).setCell ⟨r, 6, none⟩ (.int .i64 ((S.taken : Int) + 1)))) := ⟨_, w2, true, S', HB1.out, HF1.out, hp, hb2, ht2, hk2, by rw [hem], by rw [if_pos hem]; exact hb4, f3.trans (Fr.setCell (S := [r]) _ ⟨r, 6, none⟩ _ (by simp)) (by simp)⟩
      clear hb2 ht2 hk2 hp HB1 HF1 H2 hr' hb3 f3 hb4 hem
      go_wp2_with fail
      go_ret
      exact HE.out
/-- how much of the text is left -/
def lenT (r : Nat) (w : World) : Nat := match w.cell? ⟨r, 5, none⟩ with | some (.string s) => s.size | _ => 0
theorem lenT_is {W : World} {r : Nat} {S : Rv} (h : RB W r S) : lenT r W = S.text.length := by
  unfold lenT
  rw [h.cl 5]
  show (bA S.text).size = _
  exact bA_size _
set_option maxRecDepth 100000 in
set_option maxHeartbeats 8000000 in
/-- lines are taken as long as they are what is read -/
theorem lines_by (f : Value) (r : Nat) (I Q : World → Prop) (W : World) (h0 : I W) (hstep : ∀ V, I V → Calls Tryz.prog 34 #[pt r, f] V fun e w' => (e = .returned (.bool true) ∧ I w' ∧ lenT r w' < lenT r V) ∨ (e = .returned (.bool false) ∧ Q w')) :
    Calls Tryz.prog 36 #[pt r, f] W fun e w' => e = .returned (.tuple #[]) ∧ Q w' := by
  have HS := mkHid hstep
  have H0 := mkHid h0
  clear hstep h0
  go_enter Tryz.func36, Tryz.ntmps36
  go_wp2_with fail
  go_loopw [] (fun wr => Hid (I wr)) (fun wr => lenT r wr)
  case atStart => exact H0.out
  case round =>
    have H1 := mkHid (HS.out wr hrel.out)
    clear hrel
    go_wp2_with fail
    refine H1.out.mono ?_
    rintro e w2 (⟨rfl, hi, hm⟩ | ⟨rfl, hq⟩)
    · have HI := mkHid hi
      have HM := mkHid hm
      clear hi hm
      go_wp2_with fail
      go_roundw
      case rel => exact HI.out
      case measure => exact HM.out
    · have HQ := mkHid hq
      clear hq
      go_wp2_with fail
      first | go_end0 | (try simp only [Exit.inBlock, Exit.then]; refine bodyPost_ret (results_none rfl _ _ _) rfl ?_)
      exact ⟨rfl, HQ.out⟩
end Go.Proofs.YtclkoffnjiiioaaGreatDoor
