import Derived.Test.YtcodfojgilneaaaDoorHAdd
namespace Go.Proofs.YtcodfojgilneaaaDoor
open Go.RowKit
set_option linter.unusedVariables false
def fillC (C : Array Value) (off : Nat) (v : Value) : Nat → Array Value
  | 0 => C
  | k + 1 => (fillC C off v k).setIfInBounds (off + k) v
theorem fillC_size (C : Array Value) (off : Nat) (v : Value) (k : Nat) : (fillC C off v k).size = C.size := by
  induction k with
  | zero => rfl
  | succ k ih => simp [fillC, ih]
set_option maxHeartbeats 1000000 in
theorem fill_any (b off n c : Nat) (ao : Option Addr) (v : Int) (w : World) (C : Array Value) (hn : (n : Int) ≤ 1048576) (hw : n ≠ 0 → ao = some ⟨b, off, none⟩) (hb : w.heap[b]? = some (.cells C 33 (0, 0))) (hC : off + n ≤ C.size) :
    Calls Tryd.prog 103 #[.slice ao n c, .int .i64 v] w fun e w' => e = .returned (.tuple #[]) ∧ w'.heap[b]? = some (.cells (fillC C off (.int .i64 v) n) 33 (0, 0)) ∧ Fr [b] w w' ∧ w'.heap.size = w.heap.size := by
  have hbl := lt_of_heap hb
  go_enter Tryd.func103, Tryd.ntmps103
  go_wp2
  go_loopw [7] (fun i wr => ∃ k : Nat, k ≤ n ∧ i = .int .i64 k ∧ wr.heap[b]? = some (.cells (fillC C off (.int .i64 v) k) 33 (0, 0)) ∧ Fr [b] w wr ∧ wr.heap.size = w.heap.size) (fun i _ => n - (intOf i).toNat)
  case atStart => exact ⟨0, Nat.zero_le _, rfl, hb, Fr.refl _ _, rfl⟩
  case round =>
    obtain ⟨k, hk, rfl, hr, hf, hz⟩ := hrel
    by_cases hkn : k < n
    · have e := hw (by omega)
      subst e
      have hsz := fillC_size C off (.int .i64 v) k
      have R : Hid ((wr.setCell ⟨b, off + k, none⟩ (.int .i64 v)).heap[b]? = some (.cells (fillC C off (.int .i64 v) (k + 1)) 33 (0, 0))) := set_in hr (off + k) _
      have F : Hid (Fr [b] w (wr.setCell ⟨b, off + k, none⟩ (.int .i64 v))) := hf.trans (Fr.setCell (S := [b]) _ _ _ (by simp)) (by simp)
      have fz := frozen_in hr (off + k)
      have cl := cell_in hr (off + k)
      rw [Array.getElem?_eq_getElem (by omega)] at cl
      generalize (fillC C off (.int .i64 v) k)[off + k] = old at cl
      have k1 : (0 : Int) ≤ k := by omega
      have k2 : (k : Int) < n := by omega
      clear hr hf hb hw
      go_wp2
      go_roundw
      case rel => exact ⟨k + 1, by omega, by go_num, R.out, F.out, by simpa using hz⟩
      case measure => simp [intOf]; omega
    · have hkn' : k = n := by omega
      subst hkn'
      have P : Hid (wr.heap[b]? = some (.cells (fillC C off (.int .i64 v) k) 33 (0, 0)) ∧ Fr [b] w wr ∧ wr.heap.size = w.heap.size) := ⟨hr, hf, hz⟩
      clear hr hf hb hw
      go_wp2
      go_end0
      exact ⟨rfl, P.out⟩
end Go.Proofs.YtcodfojgilneaaaDoor
