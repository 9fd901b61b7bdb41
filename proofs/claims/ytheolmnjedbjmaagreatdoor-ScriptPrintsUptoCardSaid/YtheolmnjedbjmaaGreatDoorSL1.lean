import Derived.Test.YtheolmnjedbjmaaGreatDoorSEnv
namespace Go.Proofs.YtheolmnjedbjmaaGreatDoor
open Go.RowKit
set_option linter.unusedVariables false
set_option linter.unusedSimpArgs false
attribute [local go_sem ↓] Go.wp_at_zero Go.wp_at_succ
set_option maxRecDepth 100000 in
set_option maxHeartbeats 1000000 in
theorem endLine_ok {W : World} {B : Nat} {v : Value} {bs : List UInt8} (h : Pq W B v bs) (hl : bs.length + 21 ≤ 140737488355328) : Calls Tryz.prog 21 #[v] W fun e w' => WrP W B bs [10] e w' := by
  obtain ⟨v1, w1, hr, hp, hf⟩ := h.push [10] (by simp) (by simp; omega)
  have HR := mkHid hr
  have H1 := mkHid (And.intro hp hf)
  clear h hr hp hf
  go_enter Tryz.func21, Tryz.ntmps21
  go_wp2_with (at_builtin; refine Lib.wpList_append_run _ rfl (.tmp 3) (.tmp 4) 54 54 rfl _ _ rfl rfl _ _ HR.out ?_)
  go_ret
  exact ⟨v1, rfl, H1.out.1, H1.out.2⟩
/-- what a writer leaves that may have written nothing -/
def WrQ (W : World) (B : Nat) (bs news : List UInt8) (e : Ending) (w' : World) : Prop := ∃ v', e = .returned v' ∧ Pq w' B v' (bs ++ news) ∧ Pf B W w'
set_option maxRecDepth 100000 in
set_option maxHeartbeats 4000000 in
theorem numbers_ok {W : World} {B : Nat} {v : Value} {bs : List UInt8} (h : Pq W B v bs) (ns : List Int) (p : Option Addr) (c : Nat) (hr : ∀ n ∈ ns, -9223372036854775808 ≤ n ∧ n ≤ 9223372036854775807) (hn : ns.length ≤ 100000) (hl : bs.length ≤ 35184372088832) (hc : ∀ W', Pf B W W' → 0 < ns.length → ∃ g off, p = some ⟨g, off, none⟩ ∧ ∀ i (hi : i < ns.length), W'.cell? ⟨g, off + i, none⟩ = some (.int .i64 ns[i])) :
    Calls Tryz.prog 22 #[v, .slice p ns.length c] W fun e w' => WrQ W B bs (numsW ns) e w' := by
  have H1 := mkHid h
  have HC := mkHid hc
  have HRg := mkHid hr
  have HLn : Hid (∀ i, i ≤ ns.length → (numsW (ns.take i)).length ≤ 2100000) := fun i hi => by
    have := numsW_len (ns.take i) (fun n hn => hr n (List.mem_of_mem_take hn))
    rw [List.length_take] at this
    omega
  clear h hc hr
  go_enter Tryz.func22, Tryz.ntmps22
  go_wp2_with fail
  go_loopw [0, 9] (fun pg q wr => ∃ i : Nat, i ≤ ns.length ∧ q = .int .i64 (i : Int) ∧ Hid (Pq wr B pg (bs ++ numsW (ns.take i)) ∧ Pf B W wr)) (fun _ q _ => ns.length - (intOf q).toNat)
  case atStart => exact ⟨0, Nat.zero_le _, rfl, by simpa [numsW] using H1.out, Pf.refl _ _⟩
  case round =>
    clear H1
    obtain ⟨i, hi, rfl, hst⟩ := hrel
    have i0 : (0 : Int) ≤ (i : Int) := by omega
    obtain ⟨hp, hf⟩ := hst.out
    by_cases hlt : i < ns.length
    · have i1 : (i : Int) < (ns.length : Int) := by omega
      obtain ⟨g, off, rfl, hcs⟩ := HC.out wr hf (by omega)
      have c0 := hcs i hlt
      have hrg := HRg.out ns[i] (List.getElem_mem hlt)
      have hln := HLn.out i hi
      obtain ⟨v2, w2, hr2, hp2, hf2⟩ := hp.push [32] (by simp) (by simp only [List.length_append, List.length_singleton]; omega)
      have HR2 := mkHid hr2
      have HK := mkHid (hp2.num ns[i] hrg.1 hrg.2 (by simp only [List.length_append, List.length_singleton]; omega))
      have HX : Hid (∀ v' w', Pg w' B v' (bs ++ numsW (ns.take i) ++ [32] ++ Lib.itoa ns[i]) → Pf B w2 w' → Pq w' B v' (bs ++ numsW (ns.take (i + 1))) ∧ Pf B W w') := fun v' w' h1 h2 => ⟨by
        rw [numsW_take ns i hlt, ← List.append_assoc]
        have e : bs ++ numsW (ns.take i) ++ 32 :: Lib.itoa ns[i] = bs ++ numsW (ns.take i) ++ [32] ++ Lib.itoa ns[i] := by simp
        rw [e]
        exact Or.inl h1, (hf.trans hf2).trans h2⟩
      clear hst hp hf hr2 hp2 hf2 hcs hln
      generalize ns[i] = z at *
      go_wp2_with (first
        | (at_builtin; refine Lib.wpList_append_run _ rfl (.tmp 13) (.tmp 14) 54 54 rfl _ _ rfl rfl _ _ HR2.out ?_)
        | (go_at_call 42; refine HK.out.mono ?_; rintro e w3 ⟨v', rfl, h1, h2⟩; have HY := mkHid (HX.out v' w3 h1 h2); clear h1 h2))
      go_roundw
      case rel => exact ⟨i + 1, by omega, by go_num, HY.out⟩
      case measure => simp [intOf]; omega
    · have hie : i = ns.length := by omega
      subst hie
      have HX : Hid (WrQ W B bs (numsW ns) (.returned u0) wr) := ⟨u0, rfl, by rw [List.take_of_length_le (Nat.le_refl _)] at hp; exact hp, hf⟩
      clear hst hp hf
      go_wp2_with fail
      go_ret
      exact HX.out
end Go.Proofs.YtheolmnjedbjmaaGreatDoor

