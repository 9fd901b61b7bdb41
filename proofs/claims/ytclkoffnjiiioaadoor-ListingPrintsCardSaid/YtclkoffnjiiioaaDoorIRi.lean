import Derived.Test.YtclkoffnjiiioaaDoorIRf
namespace Go.Proofs.YtclkoffnjiiioaaDoor
open Go.RowKit
set_option linter.unusedVariables false
set_option linter.unusedSimpArgs false
attribute [local go_sem ↓] Go.wp_at_zero Go.wp_at_succ
set_option maxRecDepth 100000 in
set_option maxHeartbeats 8000000 in
theorem rinstr_ok (at_ m : Nat) (ns : List Int) (g off c : Nat) (V : World) (hpw : Pw V) (h1 : 1 ≤ m) (h2 : m ≤ 28) (hat : at_ ≤ 100000) (hn : ns.length ≤ 3) (hr : ∀ n ∈ ns, r64 n) (hc0 : V.cell? ⟨g, off, none⟩ = some (.int .i64 (m : Int))) (hc : ∀ i (hi : i < ns.length), V.cell? ⟨g, off + (i + 1), none⟩ = some (.int .i64 ns[i])) :
    Calls Tryd.prog 22 #[.int .i64 (at_ : Int), .slice (some ⟨g, off, none⟩) (ns.length + 1) c] V fun e w' => e = .returned (.string (ba (insW at_ m ns))) ∧ Fr [] V w' := by
  have hgl : g < V.heap.size := World.block_lt_of_cell? V _ hc0
  have HS : Hid (∀ U, Fr [] V U → U.cell? ⟨g, off, none⟩ = some (.int .i64 (m : Int))) := fun U hU => hU.cl hc0
  have HC : Hid (∀ U, Fr [] V U → ∀ i (hi : i < ns.length), U.cell? ⟨g, off + (i + 1), none⟩ = some (.int .i64 ns[i])) := fun U hU i hi => hU.cl (hc i hi)
  have HI : Hid (∀ n, r64 n → ∀ U, Fr [] V U → Calls Tryd.prog 30 #[.int .i64 n] U fun e w' => e = .returned (.string (ba (Lib.itoa n))) ∧ Fr [] V w') := fun n hn U hU => (itoaR_ok n hn U (hpw.idle hU)).mono (by
    rintro e w' ⟨rfl, f⟩
    exact ⟨rfl, hU.tr0 f⟩)
  have HN : Hid (∀ U, Fr [] V U → Calls Tryd.prog 33 #[.int .i64 (m : Int)] U fun e w' => e = .returned (.string (nmB m)) ∧ Fr [] V w') := fun U hU => (rname_ok m h1 h2 U).mono (by
    rintro e w' ⟨rfl, f⟩
    exact ⟨rfl, hU.tr0 f⟩)
  have HF0 : Hid (Fr [] V V.drew) := Fr.drew [] _
  have HAt : Hid (r64 (at_ : Int)) := ⟨by omega, by omega⟩
  have HR := mkHid hr
  have la := itoa_len (at_ : Int) (by omega) (by omega)
  have ln := nmB_le m
  obtain ⟨S1, e1⟩ : ∃ S, ba (Lib.itoa (at_ : Int)) ++ (⟨#[32]⟩ : ByteArray) = S := ⟨_, rfl⟩
  obtain ⟨S2, e2⟩ : ∃ S, S1 ++ nmB m = S := ⟨_, rfl⟩
  have g1 : S1 = ba (Lib.itoa (at_ : Int) ++ [32]) := by rw [← e1]; exact ba_app _ [32]
  have g2 : S2 = ba (Lib.itoa (at_ : Int) ++ [32] ++ (nmB m).data.toList) := by rw [← e2, g1]; exact ba_app _ (nmB m).data.toList
  have z1 : S1.size = (Lib.itoa (at_ : Int)).length + 1 := by rw [g1, ba_size, List.length_append]; rfl
  have za := ba_size (Lib.itoa (at_ : Int))
  have w1 : ¬ 9223372036854775807 < (Lib.itoa (at_ : Int)).length + 1 := by omega
  have w2 : ¬ 9223372036854775807 < (Lib.itoa (at_ : Int)).length + 1 + (nmB m).size := by omega
  have HG2 := mkHid g2
  have hpl : (Lib.itoa (at_ : Int) ++ [32] ++ (nmB m).data.toList).length ≤ 50 := by
    simp only [List.length_append, List.length_singleton]
    have : (nmB m).data.toList.length = (nmB m).size := by rw [Array.length_toList]; rfl
    omega
  obtain ⟨pre, hpre⟩ : ∃ l, Lib.itoa (at_ : Int) ++ [32] ++ (nmB m).data.toList = l := ⟨_, rfl⟩
  have HG3 : Hid (S2 = ba pre) := by rw [← hpre]; exact g2
  have hpl2 : pre.length ≤ 50 := by rw [← hpre]; exact hpl
  have HIn : Hid (insW at_ m ns = pre ++ numsW ns ++ [10]) := by show _ = _; unfold insW; rw [hpre]
  rw [HIn.out]
  clear g1 g2 hc0 hc hr hpw hpl hpre HG2 HIn
  go_enter Tryd.func22, Tryd.ntmps22
  go_upto_region 1 with fail
  refine wp_region_last (L := 8) (S := (fun U => U.cell? ⟨g, off, none⟩ = some (.int .i64 (m : Int)))) (by kernel_rfl) (HS.out _ HF0.out) (fun hHeld => ?_)
  refine wpLast_take (i := 0) (v := ?_) rfl (by kernel_rfl) (by kernel_rfl) (by kernel_rfl) (by decide) (by kernel_rfl) (fun _ _ _ h => h) (Or.inl ⟨by rfl, ?_⟩) (by assumption) ?_
  rotate_left
  · (intro w hSw; (try dsimp only at hSw); first | (go_simp; done) | (go_simp; with_reducible rfl))
  try simp only [Act.put, List.getElem_toArray, List.getElem_cons_zero, List.getElem_cons_succ, List.setIfInBounds_toArray, List.set_cons_zero, List.set_cons_succ]
  refine wpLast_take (i := 3) (v := ?_) rfl (by kernel_rfl) (by kernel_rfl) (by kernel_rfl) (by decide) (by kernel_rfl) (fun _ _ _ h => h) (Or.inl ⟨by rfl, ?_⟩) (by assumption) ?_
  rotate_left
  · (intro w hSw; (try dsimp only at hSw); first | (go_simp; done) | (go_simp; with_reducible rfl))
  try simp only [Act.put, List.getElem_toArray, List.getElem_cons_zero, List.getElem_cons_succ, List.setIfInBounds_toArray, List.set_cons_zero, List.set_cons_succ]
  refine wpLast_take (i := 4) (v := ?_) rfl (by kernel_rfl) (by kernel_rfl) (by kernel_rfl) (by decide) (by kernel_rfl) (fun _ _ _ h => h) (Or.inl ⟨by rfl, ?_⟩) (by assumption) ?_
  rotate_left
  · (intro w hSw; (try dsimp only at hSw); first | (go_simp; done) | (go_simp; with_reducible rfl))
  try simp only [Act.put, List.getElem_toArray, List.getElem_cons_zero, List.getElem_cons_succ, List.setIfInBounds_toArray, List.set_cons_zero, List.set_cons_succ]
  refine wpLast_take (i := 5) (v := ?_) rfl (by kernel_rfl) (by kernel_rfl) (by kernel_rfl) (by decide) (by kernel_rfl) (fun _ _ _ h => h) (Or.inl ⟨by rfl, ?_⟩) (by assumption) ?_
  rotate_left
  · (intro w hSw; (try dsimp only at hSw); first | (go_simp; done) | (go_simp; with_reducible rfl))
  try simp only [Act.put, List.getElem_toArray, List.getElem_cons_zero, List.getElem_cons_succ, List.setIfInBounds_toArray, List.set_cons_zero, List.set_cons_succ]
  refine wpLast_one (i := 1) (by kernel_rfl) rfl (by decide) (fun K hK => ?_)
  go_simp
  go_wp2_with fail
  refine (HI.out _ HAt.out _ HF0.out).mono ?_
  rintro e w7 ⟨rfl, f7⟩
  have F7 := mkHid f7
  clear f7
  refine hK.out _ _ (HS.out _ F7.out) (fun hHeld => ?_)
  clear hK K
  try simp only [Act.put, List.getElem_toArray, List.getElem_cons_zero, List.getElem_cons_succ, List.setIfInBounds_toArray, List.set_cons_zero, List.set_cons_succ]
  refine wpLast_take (i := 2) (v := ?_) rfl (by kernel_rfl) (by kernel_rfl) (by kernel_rfl) (by decide) (by kernel_rfl) (fun _ _ _ h => h) (Or.inl ⟨by rfl, ?_⟩) (by assumption) ?_
  rotate_left
  · (intro w hSw; (try dsimp only at hSw); first | (go_simp; done) | (go_simp; with_reducible rfl))
  try simp only [Act.put, List.getElem_toArray, List.getElem_cons_zero, List.getElem_cons_succ, List.setIfInBounds_toArray, List.set_cons_zero, List.set_cons_succ]
  refine wpLast_one (i := 6) (by kernel_rfl) rfl (by decide) (fun K hK => ?_)
  go_simp
  go_wp2_with fail
  refine (HN.out _ F7.out).mono ?_
  rintro e w8 ⟨rfl, f8⟩
  have F8 := mkHid f8
  clear f8
  refine hK.out _ _ (HS.out _ F8.out) (fun hHeld => ?_)
  clear hK K
  try simp only [Act.put, List.getElem_toArray, List.getElem_cons_zero, List.getElem_cons_succ, List.setIfInBounds_toArray, List.set_cons_zero, List.set_cons_succ]
  refine wpLast_take (i := 7) (v := ?_) rfl (by kernel_rfl) (by kernel_rfl) (by kernel_rfl) (by decide) (by kernel_rfl) (fun _ _ _ h => h) (Or.inl ⟨by rfl, ?_⟩) (by assumption) ?_
  rotate_left
  · (intro w hSw; (try dsimp only at hSw); first | (go_simp; done) | (go_simp; with_reducible rfl))
  try simp only [Act.put, List.getElem_toArray, List.getElem_cons_zero, List.getElem_cons_succ, List.setIfInBounds_toArray, List.set_cons_zero, List.set_cons_succ]
  refine wpLast_end (by kernel_rfl) rfl (by kernel_rfl) (fun K hK => ?_)
  go_simp
  refine hK.out _ _ ?_
  clear hK K
  try simp only [Act.put, List.getElem_toArray, List.getElem_cons_zero, List.getElem_cons_succ, List.setIfInBounds_toArray, List.set_cons_zero, List.set_cons_succ]
  go_wp2_with fail
  rw [HG3.out]
  go_loopw [5, 6] (fun sv q wr => ∃ i : Nat, i ≤ ns.length ∧ q = .int .i64 (((i + 1 : Nat) : Nat) : Int) ∧ sv = .string (ba (pre ++ numsW (ns.take i))) ∧ Hid (Fr [] V wr)) (fun _ q _ => ns.length + 1 - (intOf q).toNat)
  case atStart => exact ⟨0, Nat.zero_le _, rfl, by simp [numsW], F8.out⟩
  case round =>
    obtain ⟨i, hi, rfl, rfl, fr⟩ := hrel
    have i0 : (0 : Int) ≤ ((i + 1 : Nat) : Int) := by omega
    have hnl : (numsW (ns.take i)).length ≤ 63 := by
      have := numsW_len (ns.take i) (fun n hn => HR.out n (List.mem_of_mem_take hn))
      rw [List.length_take] at this
      omega
    have zs : (ba (pre ++ numsW (ns.take i))).size = pre.length + (numsW (ns.take i)).length := by rw [ba_size, List.length_append]
    by_cases hlt : i < ns.length
    · have i1 : ((i + 1 : Nat) : Int) < ((ns.length + 1 : Nat) : Int) := by omega
      have c0 := HC.out wr fr.out i hlt
      have hrg := HR.out ns[i] (List.getElem_mem hlt)
      have HIi := mkHid (HI.out ns[i] hrg wr fr.out)
      have li := itoa_len ns[i] hrg.1 hrg.2
      have zi := ba_size (Lib.itoa ns[i])
      have HNx : Hid (ba (pre ++ numsW (ns.take i)) ++ (⟨#[32]⟩ : ByteArray) ++ ba (Lib.itoa ns[i]) = ba (pre ++ numsW (ns.take (i + 1)))) := by
        show _ = _
        rw [numsW_take ns i hlt, show (⟨#[32]⟩ : ByteArray) = ba [32] from rfl, ba_app, ba_app]
        congr 1
        simp
      have zt : (ba (pre ++ numsW (ns.take i)) ++ (⟨#[32]⟩ : ByteArray)).size = pre.length + (numsW (ns.take i)).length + 1 := by rw [show (⟨#[32]⟩ : ByteArray) = ba [32] from rfl, ba_app, ba_size]; simp only [List.length_append, List.length_singleton]
      have x1 : ¬ 9223372036854775807 < pre.length + (numsW (ns.take i)).length + 1 := by omega
      have x2 : ¬ 9223372036854775807 < pre.length + (numsW (ns.take i)).length + 1 + (Lib.itoa ns[i]).length := by omega
      generalize ns[i] = z at *
      go_wp2_with fail
      refine HIi.out.mono ?_
      rintro e w2 ⟨rfl, f2⟩
      have F2 := mkHid f2
      clear f2
      go_wp2_with fail
      go_roundw
      case rel => exact ⟨i + 1, by omega, by go_num, by rw [← HNx.out], F2.out⟩
      case measure => simp [intOf]; omega
    · have hie : i = ns.length := by omega
      subst hie
      rw [List.take_of_length_le (Nat.le_refl _)] at zs hnl ⊢
      have HA : Hid (ba (pre ++ numsW ns) ++ (⟨#[10]⟩ : ByteArray) = ba (pre ++ numsW ns ++ [10])) := ba_app _ [10]
      have x1 : ¬ 9223372036854775807 < pre.length + (numsW ns).length + 1 := by omega
      go_wp2_with fail
      go_ret
      exact ⟨by rw [← HA.out]; rfl, fr.out⟩
end Go.Proofs.YtclkoffnjiiioaaDoor
