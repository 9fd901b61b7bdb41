import Derived.Test.YtclkoffnjiiioaaGreatDoorG13JRdI
namespace Go.Proofs.YtclkoffnjiiioaaGreatDoor
open Go.RowKit
set_option linter.unusedVariables false
set_option linter.unusedSimpArgs false
attribute [local go_sem ↓] Go.wp_at_zero Go.wp_at_succ
/-- what the reading of a listing leaves -/
def LsR (W0 : World) (r : Nat) (R : CoS ⊕ Nat) (e : Ending) (w' : World) : Prop :=
  match R with
  | .inl c => e = .returned (.bool true) ∧ ∃ (S : Rv) (lp : Option Addr) (lc : Nat) (ts : List LitT) (pw : Option Addr) (cw M : Nat), r < M ∧ Rg W0 w' r S ∧ hdOf S = c.hd ∧ S.lv = .slice lp ts.length lc ∧ stL ts = c.ls ∧ LitsX w' (fun g => r < g ∧ g < M) lp lc ts ∧ S.wv = .slice pw c.ws.length cw ∧ w'.ownsRow M 3 1 (.slice pw c.ws.length cw) c.ws.length (c.ws.map (Value.int .i64))
  | .inr n => e = .returned (.bool false) ∧ ∃ (S : Rv), Rg W0 w' r S ∧ S.taken + 1 = n ∧ S.taken ≤ 281474976710656
/-- a reader at its beginning -/
def rv0 (t : Bs) : Rv := ⟨0, 0, 0, .slice none 0 0, .slice none 0 0, t, 0, [], 0⟩
theorem par_1 {t : Bs} (h : cutP t = none) : parP t = .inr 1 := by unfold parP; rw [h]
theorem par_2 {t l b : Bs} (h : cutP t = some (l, b)) (h2 : headP l = none) : parP t = .inr 1 := by unfold parP; rw [h]; simp only; rw [h2]
def aOf (b : Bs) : Bs × List LitS × Nat := litsP (b.length + 1) b 0 [] 1
def cOf (A : Bs × List LitS × Nat) : Bs × List Int × Nat := inssP (A.1.length + 1) A.1 [] A.2.2
theorem par_3 {t l b : Bs} {ns : List Int} (h : cutP t = some (l, b)) (h2 : headP l = some ns) : parP t = if (cOf (aOf b)).1 = [] then .inl ⟨ns, (aOf b).2.1, (cOf (aOf b)).2.1⟩ else .inr ((cOf (aOf b)).2.2 + 1) := by unfold parP; rw [h]; simp only; rw [h2]; rfl
set_option maxRecDepth 100000 in
set_option maxHeartbeats 8000000 in
theorem listing_ok (W0 : World) (hW : Ev W0) (h9 : 9 ≤ W0.heap.size) (V : World) (r : Nat) (t : Bs) (ht : t.length ≤ 281474976710656) (hg : Rg W0 V r (rv0 t)) : Calls Tryz.prog 23 #[pt r] V fun e w' => LsR W0 r (parP t) e w' := by
  have hr : 9 ≤ r := by have := hg.lo; omega
  cases hc : cutP t with
  | none =>
    have HL := mkHid (line_no (.func (.func 35) #[pt r] #[]) V r (rv0 t) hg.rb hc)
    have HP := mkHid (par_1 hc)
    have HG := mkHid hg
    clear hg hc
    go_enter Tryz.func23, Tryz.ntmps23
    go_wp2_with fail
    refine HL.out.mono ?_
    rintro e w1 ⟨rfl, hb, hf⟩
    have HX : Hid (LsR W0 r (parP t) (.returned (.bool false)) w1) := by rw [HP.out]; exact ⟨rfl, rv0 t, ⟨hb, HG.out.fr.tr0 hf, HG.out.lo⟩, rfl, by show (0 : Nat) ≤ _; omega⟩
    clear hb hf
    go_wp2_with fail
    go_ret
    exact HX.out
  | some lb =>
    obtain ⟨l, b⟩ := lb
    have hEV := hW.fr0 hg.fr
    have HL := mkHid (line_by 35 ent35 V r (rv0 t) hg.rb l b hc (by show (0 : Nat) ≤ _; omega) (HdP (rv0 t) r l) (fun U hU fU => head_ok U r (rv0 t) l hU (hEV.fr1 fU hr) hr))
    have hct := (cut_some hc).1
    have hlen : t.length = l.length + 1 + b.length := by rw [hct, List.length_append, List.length_cons]; omega
    have HG := mkHid hg
    have HCc := mkHid hc
    clear hg hc hEV
    go_enter Tryz.func23, Tryz.ntmps23
    go_wp2_with fail
    refine HL.out.mono ?_
    rintro e w1 ⟨U, wq, ok, S', hU, fU, ⟨a, t1, s1, x, rfl, hfr1, hhq⟩, hb1, -, -, rfl, hb2, hfr2⟩
    have F1 : Fr [] W0 w1 := ((HG.out.fr.trans fU (fun g hg' => .inr (by simp at hg'; have := HG.out.lo; omega))).trans hfr1 (fun g hg' => .inr (by simp at hg'; have := HG.out.lo; omega))).trans hfr2 (fun g hg' => .inr (by simp at hg'; have := HG.out.lo; omega))
    by_cases hfl : (ok && x.isEmpty) = true
    · obtain ⟨hok1, hx⟩ : ok = true ∧ x = [] := by
        rw [Bool.and_eq_true] at hfl
        exact ⟨hfl.1, by simpa using hfl.2⟩
      subst hok1
      subst hx
      simp only [if_true] at hhq
      have hhp : headP l = some [a, t1, s1] := by rw [headP_Q, hhq]
      have hpar := par_3 HCc.out hhp
      have hb3 : RB w1 r ⟨a, t1, s1, .slice none 0 0, .slice none 0 0, b, 1, [], 0⟩ := by
        have h3 := hb2
        simp only [List.isEmpty_nil, Bool.and_self, if_true] at h3
        exact h3
      have hI1 : I1 W0 r [a, t1, s1] (aOf b) w1 := ⟨_, none, 0, [], b.length + 1, ⟨hb3, F1, HG.out.lo⟩, rfl, rfl, TR.nil _ _, rfl, by simp, by simp only; omega, by simp only; omega, by rw [stL_nil]; rfl, by simp only; omega⟩
      have HLn := mkHid (lines_by (.func (.func 37) #[pt r] #[]) r (I1 W0 r [a, t1, s1] (aOf b)) (Q1 W0 r [a, t1, s1] (aOf b)) w1 hI1 (fun V hV => lit_step W0 hW h9 r _ _ V hV))
      have HPar := mkHid hpar
      have HLo := mkHid HG.out.lo
      clear hhq hhp hpar hb3 hI1 hb1 hb2 hfr1 hfr2 F1 hU fU HG hfl
      simp only [List.isEmpty_nil, Bool.and_self]
      go_wp2_with fail
      refine HLn.out.mono ?_
      rintro e w2 ⟨rfl, S2, lp, lc, ts, hg2, hhd2, hlv2, htr2, hwv2, hts2, htk2, htx2, htn2, hex2⟩
      have hlo2 : LitsX w2 (fun g => r < g ∧ g < w2.heap.size) lp lc ts := (htr2.lits (by omega)).keep (Fr.refl [] w2) (fun _ _ _ => by simp) (fun g hg' hl => ⟨by omega, hl⟩)
      have hI2 : I2 W0 r w2.heap.size [a, t1, s1] (stL ts = (aOf b).2.1) lp lc ts (cOf (aOf b)) w2 := ⟨S2, none, 0, [], S2.text.length + 1, hg2, hhd2, hlv2, hlo2, hwv2, ⟨rfl, .inl ⟨rfl, rfl⟩⟩, Nat.le_refl _, by simp, htk2, by rw [htx2, htn2]; rfl, by omega, hex2⟩
      have HLi := mkHid (lines_by (.func (.func 38) #[pt r] #[]) r (I2 W0 r w2.heap.size [a, t1, s1] (stL ts = (aOf b).2.1) lp lc ts (cOf (aOf b))) (Q2 W0 r w2.heap.size [a, t1, s1] (stL ts = (aOf b).2.1) lp lc ts (cOf (aOf b))) w2 hI2 (fun V hV => ins_step W0 hW h9 r w2.heap.size hg2.rb.lt _ _ lp lc ts _ V hV))
      have hrM := hg2.rb.lt
      obtain ⟨M, hM⟩ : ∃ M, w2.heap.size = M := ⟨_, rfl⟩
      rw [hM] at HLi hrM
      clear hg2 hhd2 hlv2 htr2 hwv2 hts2 htk2 htx2 htn2 hex2 hlo2 hI2 hM HLn
      go_wp2_with fail
      refine HLi.out.mono ?_
      rintro e w3 ⟨rfl, S3, hg3, htx3, htn3, htk3, hfin⟩
      have c5 : w3.cell? ⟨r, 5, none⟩ = some (.string (bA S3.text)) := hg3.rb.cl 5
      cases hC : (cOf (aOf b)).1 with
      | nil =>
        have he : (bA S3.text).toList.isEmpty = true := by rw [bA_tl, htx3, hC]; rfl
        have HX : Hid (LsR W0 r (parP t) (.returned (.bool true)) w3) := by
          rw [HPar.out, if_pos hC]
          obtain ⟨hE, hhd3, hlv3, hlo3, pw, cw, hwv3, hrow3⟩ := hfin hC
          exact ⟨rfl, S3, lp, lc, ts, pw, cw, M, hrM, hg3, hhd3, hlv3, hE, hlo3, hwv3, hrow3⟩
        clear hg3 htx3 htn3 htk3 hfin hC
        go_wp2_with fail
        go_ret
        exact HX.out
      | cons c0 l0 =>
        have he : (bA S3.text).toList.isEmpty = false := by rw [bA_tl, htx3, hC]; rfl
        have HX : Hid (LsR W0 r (parP t) (.returned (.bool false)) w3) := by
          rw [HPar.out, if_neg (by rw [hC]; simp)]
          exact ⟨rfl, S3, hg3, by rw [htn3], by omega⟩
        clear hg3 htx3 htn3 htk3 hfin hC
        go_wp2_with fail
        go_ret
        exact HX.out
    · have hflf : (ok && x.isEmpty) = false := by simpa using hfl
      have hb3 : RB w1 r { rv0 t with a := a, t := t1, s := s1, rest := x } := by
        have h3 := hb2
        simp only [hflf, Bool.false_eq_true, if_false] at h3
        exact h3
      have hhp : headP l = none := by
        rw [headP_Q, hhq]
        cases ok with
        | false => rfl
        | true =>
          cases x with
          | nil => simp at hflf
          | cons c x => rfl
      have HX : Hid (LsR W0 r (parP t) (.returned (.bool false)) w1) := by rw [par_2 HCc.out hhp]; exact ⟨rfl, _, ⟨hb3, F1, HG.out.lo⟩, rfl, by show (0 : Nat) ≤ _; omega⟩
      clear hhq hhp hb3 hb1 hb2 hfr1 hfr2 F1 hU fU HG hfl
      simp only [hflf]
      go_wp2_with fail
      go_ret
      exact HX.out
end Go.Proofs.YtclkoffnjiiioaaGreatDoor
