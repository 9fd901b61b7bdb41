import Derived.Test.YtimlomobbnnehaaDoorLSym
namespace Go.Proofs.YtimlomobbnnehaaDoor
open Go.RowKit
set_option linter.unusedVariables false
set_option linter.unusedSimpArgs false
def ba (l : Bs) : ByteArray := ⟨l.toArray⟩
theorem lst_ba (l : Bs) : lst (ba l) = l := by simp [lst, ba]
theorem ba_lst (s : ByteArray) : ba (lst s) = s := by simp [lst, ba]
theorem ba_from (s : ByteArray) (k : Nat) : ba ((lst s).drop k) = s.extract k s.size := by rw [← lst_from, ba_lst]
theorem lst_mid (s : ByteArray) (a b : Nat) : lst (s.extract a b) = ((lst s).drop a).take (b - a) := by
  unfold lst
  simp [ByteArray.data_extract, List.extract_eq_take_drop]
theorem ba_mid (s : ByteArray) (a b : Nat) : ba (((lst s).drop a).take (b - a)) = s.extract a b := by rw [← lst_mid, ba_lst]
theorem ba_upto (s : ByteArray) (b : Nat) : ba ((lst s).take b) = s.extract 0 b := by
  have := ba_mid s 0 b
  simpa using this
abbrev Q4 := Nat × Bs × Nat × Nat
/-- a token (its place 0) and a length, as a call answers them -/
def cv (x : Q4) : Value := .tuple #[.agg #[.int .i64 x.1, .string (ba x.2.1), .int .i64 x.2.2.1, .int .i64 0], .int .i64 x.2.2.2]
def cutQ (l : Bs) : Q4 := match cut l with
  | none => (0, [], 0, 0)
  | some (none, n) => (0, [], 0, n)
  | some (some t, n) => (t.kind, t.text, t.num, n)
theorem ba_nil : ba [] = ⟨#[]⟩ := rfl
theorem indexByte_cmt (r : Bs) : Lib.indexByte r 34 = match cmt r with | none => -1 | some n => (n : Int) - 1 := by
  induction r with
  | nil => rfl
  | cons c r ih =>
    unfold Lib.indexByte cmt
    by_cases h : c = 34
    · subst h; simp
    · have h2 : ¬ c.toNat = 34 := fun e => h (UInt8.toNat_inj.1 e)
      rw [if_neg h2]
      simp [h]
      rw [ih]
      cases hc : cmt r with
      | none => simp
      | some n => have := cmt_n _ _ hc; simp; omega
def kindN (n : Nat) : Nat := if isB n = true then 1 else if n = 34 then 2 else if n = 35 then 5 else if n = 39 then 7 else if markK n ≠ 0 then 8 else if isL n = true then 3 else if isD n = true then 4 else if isO n = true then 6 else 0
set_option maxHeartbeats 4000000 in
theorem cutNothing_ok (s : ByteArray) (w : World) : Calls Tryd.prog 19 #[.string s] w fun e w' => e = .returned (cv (0, [], 0, 0)) ∧ Bl w w' := by
  go_enter Tryd.func19, Tryd.ntmps19
  go_wp2
  refine bodyPost_ret (v := cv (0, [], 0, 0)) (by simp [results, Tryd.results19, go_sem, cv, ba]) rfl ⟨rfl, Bl.alloc _ _⟩
set_option maxHeartbeats 4000000 in
theorem cutBlank_ok (s : ByteArray) (w : World) : Calls Tryd.prog 20 #[.string s] w fun e w' => e = .returned (cv (0, [], 0, 1)) ∧ Bl w w' := by
  go_enter Tryd.func20, Tryd.ntmps20
  go_wp2
  refine bodyPost_ret (v := cv (0, [], 0, 1)) (by simp [results, Tryd.results20, go_sem, cv, ba]) rfl ⟨rfl, Bl.alloc _ _⟩
end Go.Proofs.YtimlomobbnnehaaDoor

