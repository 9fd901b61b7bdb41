import Derived.Test.YtheolmnjedbjmaaGreatDoorSNu
import Derived.Test.YtheolmnjedbjmaaGreatDoorSL1
namespace Go.Proofs.YtheolmnjedbjmaaGreatDoor
open Go.RowKit
set_option linter.unusedVariables false
set_option linter.unusedSimpArgs false
attribute [local go_sem ↓] Go.wp_at_zero Go.wp_at_succ
theorem Pv.pushz {W : World} {B : Nat} {v : Value} {bs : Bs} (h : Pv W B v bs) (news : Bs) (h1 : news ≠ []) (hl : bs.length + news.length ≤ 140737488355328) :
    ∃ v' w', (Builtin.append_ #[54, 54] 54 #[v, .slice (some ⟨W.heap.size, 0, none⟩) news.length news.length]).run Tryz.prog (W.alloc (.cells (Lib.byteCells news).toArray 5)) = .ok v' w' ∧ Pz w' B v' (bs ++ news) ∧ Pf B W w' := by
  rcases h with h | h
  · obtain ⟨v', w', r1, r2, r3⟩ := h.push news h1 hl
    exact ⟨v', w', r1, Or.inl r2, r3⟩
  · exact h.push news hl
set_option maxRecDepth 100000 in
set_option maxHeartbeats 4000000 in
theorem numbers_v {W : World} {B : Nat} {v : Value} {bs : List UInt8} (h : Pv W B v bs) (ns : List Int) (p : Option Addr) (c : Nat) (hr : ∀ n ∈ ns, -9223372036854775808 ≤ n ∧ n ≤ 9223372036854775807) (hn : ns.length ≤ 100000) (hl : bs.length ≤ 35184372088832) (hc : ∀ W', Pf B W W' → 0 < ns.length → ∃ g off, p = some ⟨g, off, none⟩ ∧ ∀ i (hi : i < ns.length), W'.cell? ⟨g, off + i, none⟩ = some (.int .i64 ns[i])) :
    Calls Tryz.prog 22 #[v, .slice p ns.length c] W fun e w' => WrV W B bs (numsW ns) e w' := by
  have H1 := mkHid h
  have HC := mkHid hc
  have HRg := mkHid hr
  have HLn : Hid (∀ i, i ≤ ns.length → (numsW (ns.take i)).length ≤ 2100000) := fun i hi => by
    have := numsW_len (ns.take i) (fun n hn => hr n (List.mem_of_mem_take hn))
    rw [List.length_take] at this
    omega
  clear h hc hr
  go_enter Tryz.func22, Tryz.ntmps22
  go_wp2_with fail
  go_loopw [0, 9] (fun pg q wr => ∃ i : Nat, i ≤ ns.length ∧ q = .int .i64 (i : Int) ∧ Hid (Pv wr B pg (bs ++ numsW (ns.take i)) ∧ Pf B W wr)) (fun _ q _ => ns.length - (intOf q).toNat)
  case atStart => exact ⟨0, Nat.zero_le _, rfl, by simpa [numsW] using H1.out, Pf.refl _ _⟩
  case round =>
    clear H1
    obtain ⟨i, hi, rfl, hst⟩ := hrel
    have i0 : (0 : Int) ≤ (i : Int) := by omega
    obtain ⟨hp, hf⟩ := hst.out
    by_cases hlt : i < ns.length
    · have i1 : (i : Int) < (ns.length : Int) := by omega
      obtain ⟨g, off, rfl, hcs⟩ := HC.out wr hf (by omega)
      have c0 := hcs i hlt
      have hrg := HRg.out ns[i] (List.getElem_mem hlt)
      have hln := HLn.out i hi
      obtain ⟨v2, w2, hr2, hp2, hf2⟩ := hp.pushz [32] (by simp) (by simp only [List.length_append, List.length_singleton]; omega)
      have HR2 := mkHid hr2
      have HK := mkHid (hp2.num ns[i] hrg.1 hrg.2 (by simp only [List.length_append, List.length_singleton]; omega))
      have HX : Hid (∀ v' w', Pz w' B v' (bs ++ numsW (ns.take i) ++ [32] ++ Lib.itoa ns[i]) → Pf B w2 w' → Pv w' B v' (bs ++ numsW (ns.take (i + 1))) ∧ Pf B W w') := fun v' w' h1 h2 => ⟨by
        rw [numsW_take ns i hlt, ← List.append_assoc]
        have e : bs ++ numsW (ns.take i) ++ 32 :: Lib.itoa ns[i] = bs ++ numsW (ns.take i) ++ [32] ++ Lib.itoa ns[i] := by simp
        rw [e]
        exact h1.pv, (hf.trans hf2).trans h2⟩
      clear hst hp hf hr2 hp2 hf2 hcs hln
      generalize ns[i] = z at *
      go_wp2_with (first
        | (at_builtin; refine Lib.wpList_append_run _ rfl (.tmp 13) (.tmp 14) 54 54 rfl _ _ rfl rfl _ _ HR2.out ?_)
        | (go_at_call 42; refine HK.out.mono ?_; rintro e w3 ⟨v', rfl, h1, h2⟩; have HY := mkHid (HX.out v' w3 h1 h2); clear h1 h2))
      go_roundw
      case rel => exact ⟨i + 1, by omega, by go_num, HY.out⟩
      case measure => simp [intOf]; omega
    · have hie : i = ns.length := by omega
      subst hie
      have HX : Hid (WrV W B bs (numsW ns) (.returned u0) wr) := ⟨u0, rfl, by rw [List.take_of_length_le (Nat.le_refl _)] at hp; exact hp, hf⟩
      clear hst hp hf
      go_wp2_with fail
      go_ret
      exact HX.out
end Go.Proofs.YtheolmnjedbjmaaGreatDoor

