import Derived.Test.YtdflpoldlokijaaDoorG26CMul
import Derived.Laws.CopyOwn
import Derived.Laws.MakeOwn
import Derived.Deep.RegionLaw
namespace Go.Proofs.YtdflpoldlokijaaDoor
open Go.RowKit
set_option linter.unusedVariables false
set_option linter.unusedSimpArgs false
attribute [local go_sem ↓] Go.wp_at_zero Go.wp_at_succ
def zeros (n : Nat) : List Value := List.replicate n (.int .i64 0)
def negs (n : Nat) : List Value := List.replicate n (.int .i64 (-1))
def rowK (n k : Nat) : List Value := negs k ++ zeros (n - k)
theorem make_ints (c : Nat) (h2 : c ≤ 1048576) (W : World) :
    (Instr.makeSlice 23 (.int .i64 (c : Int)) (.int .i64 (c : Int))).run Tryd.prog W = .ok (.slice (some ⟨W.heap.size, 0, none⟩) c c) (W.alloc (.cells (zeros c).toArray 3)) := by
  obtain ⟨i0, hi, hz0, hz1, hz2⟩ := info_parts info3
  have h := run_make (P := Tryd.prog) W 23 3 i0 (.int .i64 0) Tryd.underlying23 hi hz0 .i64 .i64 c c (by omega) (by omega) (by rw [hz2]; omega) (by omega)
  have e : madeCells (Value.int .i64 0).cells c = (zeros c).toArray := by
    apply Array.toList_inj.1
    show (madeCells #[.int .i64 0] c).toList = _
    rw [toList_madeCells_one]
    rfl
  rw [h, hz1, Nat.mul_one, Int.toNat_natCast, e]
theorem rowK_len (n k : Nat) (h : k ≤ n) : (rowK n k).length = n := by simp [rowK, negs, zeros]; omega
theorem splice_row (n k m : Nat) (h : k + m ≤ n) : splice (rowK n k) k (negs m) = rowK n (k + m) := by
  unfold splice rowK negs zeros
  rw [List.take_left' (by simp), List.length_replicate, List.drop_append, List.drop_of_length_le (by simp), List.nil_append, List.length_replicate, List.drop_replicate, ← List.append_assoc, List.replicate_append_replicate]
  congr 2
  omega
set_option maxRecDepth 100000 in
set_option maxHeartbeats 1000000 in
theorem repeat_ok (g n : Nat) (w : World) (hc : w.cell? ⟨g, 0, none⟩ = some (.int .i64 (-1))) (h1 : 1 ≤ n) (h : n ≤ 4096) : Calls Tryd.prog 47 #[.slice (some ⟨g, 0, none⟩) 1 1, .int .i64 n] w fun e w' => ∃ g2, e = .returned (.slice (some ⟨g2, 0, none⟩) n n) ∧ w'.ownsRow w.heap.size 3 1 (.slice (some ⟨g2, 0, none⟩) n n) n ((List.replicate n (-1 : Int)).map (Value.int .i64)) ∧ Fr [] w w' := by
  have HM := mkHid (mul_ok n h w)
  have hmk := fun W => make_ints n (by omega) W
  have n1 : (1 : Int) ≤ (n : Int) := by omega
  have n2 : (n : Int) ≤ 4096 := by omega
  obtain ⟨i0, hi, hz0, hz1, hz2⟩ := info_parts info3
  have hsz : (Tryd.prog.info? 3).map (·.size) = some 1 := by rw [hi]; simp [hz1]
  have HS := mkHid hsz
  have hgl := World.block_lt_of_cell? w _ hc
  have hgl : g < w.heap.size := hgl
  have HSrc : Hid (∀ j v, (negs 1)[j]? = some v → (w.alloc (.cells (zeros n).toArray 3)).cell? ((⟨g, 0, none⟩ : Addr).add j) = some v) := fun j v hv => by
    have hj : j = 0 := by
      rcases Nat.eq_zero_or_pos j with h0 | h0
      · exact h0
      · rw [List.getElem?_eq_none (by simp [negs]; omega)] at hv; cases hv
    subst hj
    have e : v = .int .i64 (-1) := by simpa [negs] using hv.symm
    rw [e]
    exact (Fr.alloc [] w _).cl hc
  have HRow : Hid (∀ k, k < n → ∀ W : World, W.heap[w.heap.size]? = some (.cells (rowK n k).toArray 3 (0, 0)) → ∀ j v, (negs (min k (n - k)))[j]? = some v → W.cell? ((⟨w.heap.size, 0, none⟩ : Addr).add j) = some v) := fun k hk W hW j v hv => by
    obtain ⟨hj, hjv⟩ := List.getElem?_eq_some_iff.1 hv
    have hj' : j < k := by simp [negs] at hj; omega
    have e : v = .int .i64 (-1) := by rw [← hjv]; simp [negs]
    rw [show (⟨w.heap.size, 0, none⟩ : Addr).add j = ⟨w.heap.size, j, none⟩ from by unfold Addr.add; split <;> simp_all, cell_in hW, e]
    simp [rowK, negs, List.getElem?_append, hj']
  have h1c : ∀ m, ∀ v ∈ negs m, v.oneCell' = true := fun m v hv => by rw [List.eq_of_mem_replicate hv]; rfl
  have H1c := mkHid h1c
  have HSp1 : Hid (splice (zeros n) 0 (negs 1) = rowK n 1) := by
    have := splice_row n 0 1 (by omega)
    show splice (zeros n) 0 (negs 1) = rowK n 1
    have e : rowK n 0 = zeros n := by simp [rowK, negs]
    rw [e, Nat.zero_add] at this
    exact this
  have HN1 : Hid ((negs 1).length = Nat.min 1 n) := by
    show (negs 1).length = min 1 n
    have : (negs 1).length = 1 := rfl
    rw [this]; omega
  have HF1 : Hid (0 + (negs 1).length ≤ (zeros n).length) := by
    show 0 + 1 ≤ (zeros n).length
    simp only [zeros, List.length_replicate]; omega
  have HGi1 : Hid (goInt (negs 1).length = .int .i64 1) := mkHid rfl
  clear hi hz0 hz1 hz2 h1c hsz
  have dz : decide ((n : Int) < 0) = false := decide_eq_false (by omega)
  go_enter Tryd.func47, Tryd.ntmps47
  go_wp2_with (first
    | (go_at_call 66; refine Calls.mono HM.out ?_; rintro e w' ⟨rfl, hw'⟩; rw [hw']; clear hw' w')
    | (refine wpList_copy_splice rfl (.tmp 31) (.tmp 32) 23 23 rfl 3 Tryd.underlying23 HS.out (some ⟨w.heap.size, 0, none⟩) (some ⟨g, 0, none⟩) n n 1 1 rfl rfl w.heap.size 0 (zeros n) 3 (by exact heap_alloc_new w _) (negs 1) HN1.out (fun _ => ⟨rfl, _, rfl, HSrc.out⟩) HF1.out (H1c.out 1) w.heap.size w (by exact ((Below.refl _ _).alloc (Nat.le_refl _) _)) (Nat.le_refl _) ?_; intro w1 hg1 hb1; rw [HGi1.out]))
  rw [HSp1.out] at hg1
  go_loopw [8] (fun q wr => ∃ k : Nat, 1 ≤ k ∧ k ≤ n ∧ q = .int .i64 k ∧ Hid (wr.heap[w.heap.size]? = some (.cells (rowK n k).toArray 3 (0, 0)) ∧ Below w.heap.size w wr)) (fun q _ => n - (intOf q).toNat)
  case atStart => exact ⟨1, Nat.le_refl _, h1, rfl, hg1.out, hb1⟩
  case round =>
    clear hg1 hb1
    obtain ⟨k, hk1, hkn, rfl, hst⟩ := hrel
    have k0 : (0 : Int) ≤ (k : Int) := by omega
    by_cases hlt : k < n
    · have k2 : (k : Int) < (n : Int) := by omega
      have k3 : (k : Int) ≤ (n : Int) := by omega
      have hne : ¬ n = k := by omega
      have HG1 := mkHid hst.out.1
      have HB1 : Hid (Below w.heap.size w wr.drew) := hst.out.2.drew
      have HRk := mkHid (HRow.out k hlt wr.drew hst.out.1)
      have HLen := mkHid (rowK_len n k hkn)
      have HSpk := mkHid (splice_row n k (min k (n - k)) (by omega))
      have hml : (negs (min k (n - k))).length = min k (n - k) := by simp [negs]
      have HML : Hid ((negs (min k (n - k))).length = Nat.min k (n - k)) := hml
      have HFit : Hid (k + (negs (min k (n - k))).length ≤ (rowK n k).length) := by
        show k + (negs (min k (n - k))).length ≤ (rowK n k).length
        rw [hml, HLen.out]; omega
      have hgi : goInt (negs (min k (n - k))).length = .int .i64 ((min k (n - k) : Nat) : Int) := by rw [hml]; rfl
      have HGi := mkHid hgi
      obtain ⟨m, hm⟩ : ∃ m, min k (n - k) = m := ⟨_, rfl⟩
      have m1 : 1 ≤ m := by omega
      have m2 : k + m ≤ n := by omega
      have m3 : (0 : Int) ≤ (m : Int) := by omega
      have m4 : (k : Int) + (m : Int) ≤ 4096 := by omega
      have HWp : Hid (IntKind.i64.wrap ((k : Int) + (m : Int)) = ((k + m : Nat) : Int)) := by
        show IntKind.i64.wrap ((k : Int) + (m : Int)) = ((k + m : Nat) : Int)
        rw [iwrap_id (by omega) (by omega)]; push_cast; rfl
      have HML2 : Hid ((negs m).length = Nat.min k (n - k)) := by rw [← hm]; exact HML.out
      rw [hm] at HRk HSpk HFit HGi
      clear hst hml hgi hm HML
      go_wp2_with fail
      go_region_law (refine step_copy_splice rfl (.tmp 41) (.tmp 44) 23 23 rfl 3 Tryd.underlying23 HS.out (some ⟨w.heap.size, k, none⟩) (some ⟨w.heap.size, 0, none⟩) (n - k) (n - k) k n (by simp [Act.eval, Act.put]) (by simp [Act.eval, Act.put]) w.heap.size k (rowK n k) 3 HG1.out (negs m) HML2.out (fun _ => ⟨rfl, _, rfl, HRk.out⟩) HFit.out (H1c.out _) w.heap.size w HB1.out (Nat.le_refl _) ?_; intro w4 hg4 hb4; rw [HGi.out])
      all_goals (try simp only [Act.put, List.getElem_toArray, List.getElem_cons_zero, List.getElem_cons_succ, List.setIfInBounds_toArray, List.set_cons_zero, List.set_cons_succ])
      all_goals go_wp2_with fail
      all_goals
        go_roundw
        case rel =>
          refine ⟨k + m, by omega, by omega, ?_, ?_, hb4⟩
          · rw [HWp.out]
          · have := hg4.out
            rw [HSpk.out] at this
            exact this
        case measure => rw [HWp.out]; simp [intOf]; omega
    · have hke : k = n := by omega
      subst hke
      have dk : ¬ (k : Int) < (k : Int) := by omega
      have HF : Hid (wr.ownsRow w.heap.size 3 1 (.slice (some ⟨w.heap.size, 0, none⟩) k k) k ((List.replicate k (-1 : Int)).map (Value.int .i64)) ∧ Fr [] w wr) := by
        obtain ⟨q1, q2⟩ := hst.out
        have e : rowK k k = (List.replicate k (-1 : Int)).map (Value.int .i64) := by simp [rowK, negs, zeros]
        refine ⟨⟨by simp, .inr ⟨w.heap.size, k, _, rfl, Nat.le_refl _, q1, Nat.le_refl _, by unfold maxLen; omega, by simp [rowK, negs, zeros], ?_⟩⟩, ⟨q2.os, q2.tape, q2.output, q2.size, fun i hi _ => q2.block i hi⟩⟩
        rw [← e]
        simp only [List.toList_toArray, Nat.mul_one]
        exact List.take_of_length_le (by rw [rowK_len k k (Nat.le_refl _)]; exact Nat.le_refl _)
      clear hst
      go_wp2_with fail
      go_ret
      exact ⟨w.heap.size, rfl, by have := HF.out.1; simpa using this, HF.out.2⟩
end Go.Proofs.YtdflpoldlokijaaDoor
