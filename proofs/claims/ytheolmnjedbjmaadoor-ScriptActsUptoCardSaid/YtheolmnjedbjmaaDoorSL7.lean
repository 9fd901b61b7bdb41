import Derived.Test.YtheolmnjedbjmaaDoorSSeq
import Derived.Shelf.Strings.Search2
import Derived.RegionIn
namespace Go.Proofs.YtheolmnjedbjmaaDoor
open Go.RowKit Go.Shelf
set_option linter.unusedVariables false
set_option linter.unusedSimpArgs false
attribute [local go_sem] Oper.semAt_some
theorem ba_ext (l : Bs) (a b : Nat) : (ba l).extract a b = ba ((l.drop a).take (b - a)) := by
  apply ByteArray.ext
  rw [ByteArray.data_extract]
  show (l.toArray).extract a b = ((l.drop a).take (b - a)).toArray
  simp [List.extract_toArray]
def Bx (sB : Nat) (t : Bs) (W : World) : Prop := W.heap[sB]? = some (.cells #[.string (ba t)] 9 (0, 0))
def Kb (sB : Nat) (A C : World) : Prop := C.heap[sB]? = A.heap[sB]?
def leftIn (sB : Nat) (W : World) : Nat := match W.cell? ⟨sB, 0, none⟩ with | some (.string s) => s.size | _ => 0
set_option maxRecDepth 100000 in
set_option maxHeartbeats 8000000 in
theorem lines_in (n : Nat) (hn : 1 ≤ n) (lp sB : Nat) (t : Bs) (ht : t.length ≤ 70368744177664) (J Jx : List Bs → World → Prop)
    (hJ : ∀ s A C, J s A → Fr [sB] A C → (∃ x : Value, C.heap[sB]? = some (.cells #[x] 9 (0, 0))) → J s C)
    (hY : ∀ pre x W1, J pre W1 → (pre ++ [x]) <+: linesT t → YieldAt Fence.wide (n - 1) Tryd.prog lp #[.string (ba x)] W1 fun e W' => (e = .returned (.bool true) ∧ J (pre ++ [x]) W' ∧ Kb sB W1 W') ∨ (e = .returned (.bool false) ∧ Jx (pre ++ [x]) W'))
    (W : World) (h : Bx sB t W) (h0 : J [] W) :
    CallsIn Fence.wide n Tryd.prog 30 #[.func (.yield lp) #[] #[], .pointer (some ⟨sB, 0, none⟩)] W fun e W' => (∃ v, e = .returned v) ∧ (J (linesT t) W' ∨ ∃ pre, Jx pre W') := by
  have HX := mkHid h
  clear h
  refine callsIn_of_wp Tryd.func30 rfl trivial ?_ rfl
  simp only [Tryd.ntmps30, List.size_toArray, List.length_cons, List.length_nil, Nat.reduceAdd, Nat.reduceSub, Array.replicate_succ, Array.replicate_zero, List.push_toArray, List.append_toArray, List.nil_append, List.cons_append]
  gi_wp2
  gi_loopw [3] (fun _ wr => ∃ pre rest, Hid (pre ++ linesT rest = linesT t) ∧ Hid (rest.length ≤ t.length) ∧ J pre wr ∧ Hid (Bx sB rest wr)) (fun _ wr => leftIn sB wr)
  case atStart => exact ⟨[], t, rfl, Nat.le_refl _, h0, HX⟩
  case round =>
    obtain ⟨pre, rest, hP, hL, hj, hB⟩ := hrel
    have e1 : wr.cell? ⟨sB, 0, none⟩ = some (.string (ba rest)) := by rw [cell_in hB.out]; rfl
    have e2 : wr.frozen? ⟨sB, 0, none⟩ = false := frozen_in hB.out 0
    have hsz : (ba rest).size = rest.length := ba_size rest
    by_cases hre : rest = []
    · subst hre
      have hd : Hid (J (linesT t) wr) := mkHid (by rw [← hP.out]; simpa [linesT] using hj)
      clear hP hL hB
      gi_wp2
      go_end0
      exact ⟨⟨_, rfl⟩, .inl hd.out⟩
    · have hpos : (0 : Int) < (rest.length : Int) := by have : 0 < rest.length := List.length_pos_iff.2 hre; omega
      have HI := mkHid (Tryd.strings_IndexByte (ba rest) 10 wr)
      rw [ba_data] at HI
      have h10 : (10 : Int).toNat.toUInt8 = (10 : UInt8) := rfl
      rw [h10] at HI
      have hl := hL.out
      rcases lines_at rest hre with ⟨q1, q2, q3⟩ | ⟨k, q1, q2, q3⟩
      · rw [q1] at HI
        have hlast : Hid (pre ++ [rest] = linesT t) := mkHid (by rw [← hP.out, q2])
        have fS : Fr [sB] wr (wr.setCell ⟨sB, 0, none⟩ (.string ⟨#[]⟩)) := Fr.setCell _ _ _ (by simp)
        have sS : (wr.setCell ⟨sB, 0, none⟩ (.string ⟨#[]⟩)).heap[sB]? = some (.cells #[.string ⟨#[]⟩] 9 (0, 0)) := set_in hB.out 0 _
        obtain ⟨fn, tmps, assign, body, hy, hR⟩ := hY pre rest (wr.setCell ⟨sB, 0, none⟩ (.string ⟨#[]⟩)) (hJ _ _ _ hj fS ⟨_, sS⟩) (by rw [hlast.out]; exact List.prefix_rfl)
        have hM : Hid (leftIn sB wr = rest.length) := mkHid (by unfold leftIn; rw [e1]; exact hsz)
        have hp0 : 0 < rest.length := List.length_pos_iff.2 hre
        clear q1 q2 q3 hP hB fS hre
        gi_wp2
        refine ⟨trivial, ?_⟩
        refine (callsIn_wide.2 HI.out).mono ?_
        rintro e W5 ⟨rfl, hw5⟩
        have hw6 := hw5.symm
        subst hw6
        clear hw5
        gi_wp2
        refine hR.mono ?_
        clear hy hR
        rintro e W6 (⟨rfl, hJ6, hk6⟩ | ⟨rfl, hJx6⟩)
        · have g1 : W6.heap[sB]? = some (.cells #[.string ⟨#[]⟩] 9 (0, 0)) := hk6.trans sS
          have c1 : W6.cell? ⟨sB, 0, none⟩ = some (.string ⟨#[]⟩) := by rw [cell_in g1]; rfl
          gi_wp2
          refine ⟨⟨_, [], mkHid (by simpa [linesT] using hlast.out), mkHid (by simp), hJ6, g1⟩, ?_⟩
          rw [hM.out]
          unfold leftIn
          rw [c1]
          exact hp0
        · gi_wp2
          refine bodyPost_ret (results_none rfl _ _ _) rfl ?_
          exact ⟨⟨_, rfl⟩, .inr ⟨_, hJx6⟩⟩
      · rw [q1] at HI
        have hnext : Hid ((pre ++ [rest.take (k + 1)]) ++ linesT (rest.drop (k + 1)) = linesT t) := mkHid (by rw [← hP.out, q3]; simp)
        have x1 : (ba rest).extract 0 (k + 1) = ba (rest.take (k + 1)) := by rw [ba_ext]; simp
        have x2 : (ba rest).extract (k + 1) rest.length = ba (rest.drop (k + 1)) := by
          rw [ba_ext, List.take_of_length_le (by simp)]
        have fS : Fr [sB] wr (wr.setCell ⟨sB, 0, none⟩ (.string (ba (rest.drop (k + 1))))) := Fr.setCell _ _ _ (by simp)
        have sS : (wr.setCell ⟨sB, 0, none⟩ (.string (ba (rest.drop (k + 1))))).drew.heap[sB]? = some (.cells #[.string (ba (rest.drop (k + 1)))] 9 (0, 0)) := set_in hB.out 0 _
        obtain ⟨fn, tmps, assign, body, hy, hR⟩ := hY pre (rest.take (k + 1)) ((wr.setCell ⟨sB, 0, none⟩ (.string (ba (rest.drop (k + 1))))).drew) (hJ _ _ _ hj (fS.trans (Fr.drew [sB] _) (fun b hb => Or.inl hb)) ⟨_, sS⟩) ⟨linesT (rest.drop (k + 1)), hnext.out⟩
        have k0 : (0 : Int) ≤ (k : Int) := by omega
        have k1 : (0 : Int) ≤ (k : Int) + 1 := by omega
        have k3 : (k : Int) + 1 ≤ rest.length := by omega
        have k4 : (k : Int) + 1 ≤ (ba rest).size := by rw [hsz]; omega
        have kw : IntKind.i64.wrap ((k : Int) + 1) = (k : Int) + 1 := wrap_id _ (by omega) (by omega)
        have hL2 : Hid ((rest.drop (k + 1)).length ≤ t.length) := mkHid (by simp; omega)
        have hM : Hid ((rest.drop (k + 1)).length < rest.length) := mkHid (by simp; omega)
        have hM2 : Hid (leftIn sB wr = rest.length) := mkHid (by unfold leftIn; rw [e1]; exact hsz)
        clear q1 q3 hP hB fS hre
        gi_wp2
        refine ⟨trivial, ?_⟩
        refine (callsIn_wide.2 HI.out).mono ?_
        rintro e W5 ⟨rfl, hw5⟩
        have hw6 := hw5.symm
        subst hw6
        clear hw5
        gi_wp2
        gi_region
        gi_wp2
        refine hR.mono ?_
        clear hy hR
        rintro e W6 (⟨rfl, hJ6, hk6⟩ | ⟨rfl, hJx6⟩)
        · have g1 : W6.heap[sB]? = some (.cells #[.string (ba (rest.drop (k + 1)))] 9 (0, 0)) := hk6.trans sS
          have c1 : W6.cell? ⟨sB, 0, none⟩ = some (.string (ba (rest.drop (k + 1)))) := by rw [cell_in g1]; rfl
          gi_wp2
          refine ⟨⟨_, rest.drop (k + 1), hnext, hL2, hJ6, g1⟩, ?_⟩
          rw [hM2.out]
          unfold leftIn
          rw [c1]
          show (ba (rest.drop (k + 1))).size < _
          rw [ba_size]
          exact hM.out
        · gi_wp2
          refine bodyPost_ret (results_none rfl _ _ _) rfl ?_
          exact ⟨⟨_, rfl⟩, .inr ⟨_, hJx6⟩⟩
/-- the iterator's contract -/
theorem lines_seq (n : Nat) (hn : 1 ≤ n) (sB : Nat) (t : Bs) (ht : t.length ≤ 70368744177664) (w : World) (h : Bx sB t w) :
    SeqB n Tryd.prog 30 #[.pointer (some ⟨sB, 0, none⟩)] (fun x : Bs => #[Value.string (ba x)]) sB (Kb sB) (linesT t) w := by
  intro l J Jx W hW hJ hJx hY h0
  exact lines_in n hn l sB t ht J Jx hJ hY W ((hW.block _ (lt_of_heap h)).trans h) h0
set_option maxHeartbeats 1000000 in
theorem lines_ok (t : Bs) (w : World) : Calls Tryd.prog 15 #[.string (ba t)] w fun e w' => e = .returned (.func (.func 30) #[] #[.pointer (some ⟨w.heap.size, 0, none⟩)]) ∧ Bl w w' ∧ w'.heap.size = w.heap.size + 1 ∧ Bx w.heap.size t w' := by
  have hmf : ∀ (fn : Fn) (first cap : Array Value) (w : World), (Instr.makeFunc fn first cap).run Tryd.prog w = .ok (.func fn first cap) w := fun _ _ _ _ => rfl
  have hX : Hid (Bl w (w.alloc (.cells #[.string (ba t)] 9)) ∧ (w.alloc (.cells #[.string (ba t)] 9)).heap.size = w.heap.size + 1 ∧ Bx w.heap.size t (w.alloc (.cells #[.string (ba t)] 9))) := ⟨Bl.alloc _ _, by simp, heap_alloc_new w _⟩
  go_enter Tryd.func15, Tryd.ntmps15
  go_wp2_with fail
  go_ret
  exact ⟨rfl, hX.out⟩
set_option maxHeartbeats 1000000 in
theorem trim_ok (l : Bs) (w : World) (hl : l.length ≤ 70368744177664) : Calls Tryd.prog 16 #[.string (ba l), .string ⟨#[10]⟩] w fun e w' => e = .returned (.string (ba (cutNl l))) ∧ w' = w := by
  have := Tryd.strings_TrimSuffix (ba l) ⟨#[10]⟩ w (by rw [ba_size]; omega)
  rw [ba_data] at this
  exact this
end Go.Proofs.YtheolmnjedbjmaaDoor
