import Derived.Test.YtclkoffnjiiioaaDoorIAr
namespace Go.Proofs.YtclkoffnjiiioaaDoor
open Go.RowKit
set_option linter.unusedVariables false
set_option linter.unusedSimpArgs false
attribute [local go_sem ↓] Go.wp_at_zero Go.wp_at_succ
/-- numbers, each behind a blank -/
def numsW (ns : List Int) : List UInt8 := ns.flatMap fun n => 32 :: Lib.itoa n
theorem numsW_take (ns : List Int) (i : Nat) (hi : i < ns.length) : numsW (ns.take (i + 1)) = numsW (ns.take i) ++ (32 :: Lib.itoa ns[i]) := by
  unfold numsW
  rw [List.take_succ_eq_append_getElem hi, List.flatMap_append]
  simp
theorem dec_len : ∀ (k n : Nat), n < 10 ^ (k + 1) → (Lib.decDigits n).length ≤ k + 1
  | 0, n, h => by
    rw [Lib.decDigits]
    rw [dif_pos (by simpa using h)]
    simp
  | k + 1, n, h => by
    rw [Lib.decDigits]
    by_cases hn : n < 10
    · rw [dif_pos hn]; simp
    · rw [dif_neg hn, List.length_append]
      have := dec_len k (n / 10) (by rw [Nat.div_lt_iff_lt_mul (by decide)]; rw [Nat.pow_succ] at h; exact h)
      simp
      omega
theorem itoa_len (n : Int) (h0 : -9223372036854775808 ≤ n) (h1 : n ≤ 9223372036854775807) : (Lib.itoa n).length ≤ 20 := by
  unfold Lib.itoa
  split
  · rw [List.length_cons]
    have := dec_len 18 n.natAbs (by omega)
    omega
  · have := dec_len 18 n.toNat (by omega)
    omega
theorem numsW_len (ns : List Int) (h : ∀ n ∈ ns, -9223372036854775808 ≤ n ∧ n ≤ 9223372036854775807) : (numsW ns).length ≤ 21 * ns.length := by
  induction ns with
  | nil => simp [numsW]
  | cons a l ih =>
    unfold numsW at ih ⊢
    rw [List.flatMap_cons, List.length_append, List.length_cons, List.length_cons]
    have h1 := itoa_len a (h a (by simp)).1 (h a (by simp)).2
    have h2 := ih (fun n hn => h n (by simp [hn]))
    omega
set_option maxRecDepth 100000 in
set_option maxHeartbeats 4000000 in
theorem numbers_ok {W : World} {B : Nat} {v : Value} {bs : List UInt8} (h : Pg W B v bs) (ns : List Int) (p : Option Addr) (c : Nat) (hr : ∀ n ∈ ns, -9223372036854775808 ≤ n ∧ n ≤ 9223372036854775807) (hn : ns.length ≤ 100000) (hl : bs.length ≤ 35184372088832) (hc : ∀ W', Pf B W W' → 0 < ns.length → ∃ g off, p = some ⟨g, off, none⟩ ∧ ∀ i (hi : i < ns.length), W'.cell? ⟨g, off + i, none⟩ = some (.int .i64 ns[i])) :
    Calls Tryd.prog 27 #[v, .slice p ns.length c] W fun e w' => WrP W B bs (numsW ns) e w' := by
  have H1 := mkHid h
  have HC := mkHid hc
  have HRg := mkHid hr
  have HLn : Hid (∀ i, i ≤ ns.length → (numsW (ns.take i)).length ≤ 2100000) := fun i hi => by
    have := numsW_len (ns.take i) (fun n hn => hr n (List.mem_of_mem_take hn))
    rw [List.length_take] at this
    omega
  clear h hc hr
  go_enter Tryd.func27, Tryd.ntmps27
  go_wp2_with fail
  go_loopw [0, 9] (fun pg q wr => ∃ i : Nat, i ≤ ns.length ∧ q = .int .i64 (i : Int) ∧ Hid (Pg wr B pg (bs ++ numsW (ns.take i)) ∧ Pf B W wr)) (fun _ q _ => ns.length - (intOf q).toNat)
  case atStart => exact ⟨0, Nat.zero_le _, rfl, by simpa [numsW] using H1.out, Pf.refl _ _⟩
  case round =>
    clear H1
    obtain ⟨i, hi, rfl, hst⟩ := hrel
    have i0 : (0 : Int) ≤ (i : Int) := by omega
    obtain ⟨hp, hf⟩ := hst.out
    by_cases hlt : i < ns.length
    · have i1 : (i : Int) < (ns.length : Int) := by omega
      obtain ⟨g, off, rfl, hcs⟩ := HC.out wr hf (by omega)
      have c0 := hcs i hlt
      have hrg := HRg.out ns[i] (List.getElem_mem hlt)
      have hln := HLn.out i hi
      obtain ⟨v2, w2, hr2, hp2, hf2⟩ := hp.push [32] (by simp only [List.length_append, List.length_singleton]; omega)
      have HR2 := mkHid hr2
      have HK := mkHid (hp2.num ns[i] hrg.1 hrg.2 (by simp only [List.length_append, List.length_singleton]; omega))
      have HX : Hid (∀ v' w', Pg w' B v' (bs ++ numsW (ns.take i) ++ [32] ++ Lib.itoa ns[i]) → Pf B w2 w' → Pg w' B v' (bs ++ numsW (ns.take (i + 1))) ∧ Pf B W w') := fun v' w' h1 h2 => ⟨by
        rw [numsW_take ns i hlt, ← List.append_assoc]
        have e : bs ++ numsW (ns.take i) ++ 32 :: Lib.itoa ns[i] = bs ++ numsW (ns.take i) ++ [32] ++ Lib.itoa ns[i] := by simp
        rw [e]
        exact h1, (hf.trans hf2).trans h2⟩
      clear hst hp hf hr2 hp2 hf2 hcs hln
      generalize ns[i] = z at *
      go_wp2_with (at_builtin; refine Lib.wpList_append_run _ rfl (.tmp 13) (.tmp 14) 47 47 rfl _ _ rfl rfl _ _ HR2.out ?_)
      refine HK.out.mono ?_
      rintro e w3 ⟨v', rfl, h1, h2⟩
      have HY := mkHid (HX.out v' w3 h1 h2)
      clear h1 h2
      go_wp2_with fail
      go_roundw
      case rel => exact ⟨i + 1, by omega, by go_num, HY.out⟩
      case measure => simp [intOf]; omega
    · have hie : i = ns.length := by omega
      subst hie
      have HX : Hid (WrP W B bs (numsW ns) (.returned u0) wr) := ⟨u0, rfl, by rw [List.take_of_length_le (Nat.le_refl _)] at hp; exact hp, hf⟩
      clear hst hp hf
      go_wp2_with fail
      go_ret
      exact HX.out
end Go.Proofs.YtclkoffnjiiioaaDoor
