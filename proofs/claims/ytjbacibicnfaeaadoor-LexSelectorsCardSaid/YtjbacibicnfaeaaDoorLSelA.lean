import Derived.Test.YtjbacibicnfaeaaDoorLSp
import Derived.Test.YtjbacibicnfaeaaDoorLPc
namespace Go.Proofs.YtjbacibicnfaeaaDoor
open Go.RowKit Go.Maps
set_option linter.unusedVariables false
set_option linter.unusedSimpArgs false
theorem hash_lst (s : ByteArray) : lst (⟨#[35]⟩ ++ s) = 35 :: lst s := by rw [append_lst]; rfl
set_option maxHeartbeats 8000000 in
set_option maxRecDepth 1000000 in
/-- a text that is no selector -/
theorem sel_no (s : ByteArray) (w : World) (hT : Tab w) (h1 : s.size ≤ 140737488351232) (he : sel (lst s) = (0, 1)) :
    Calls Tryd.prog 4 #[.string s] w fun e w' => e = .returned (.bool true) ∧ Bl w w' := by
  have HK := mkHid (fun W hW => known_ok W hW)
  have HS : Hid (∀ W, Calls Tryd.prog 12 #[.string s] W fun e w' => e = .returned (.tuple #[.int .i64 0, .int .i64 1]) ∧ Bl W w') := mkHid fun W => by
    have := sel_ok s W (by omega)
    rw [he] at this
    exact this
  clear he
  go_enter Tryd.func4, Tryd.ntmps4
  go_wp2_with (first
      | (go_at_call 9; refine (HK.out _ hT).mono ?_; rintro e w1 ⟨rfl, b1⟩)
      | (go_at_call 12; refine (HS.out _).mono ?_; rintro e w2 ⟨rfl, b2⟩)
      | (go_at_call 13; go_in))
  go_ret
  exact ⟨rfl, b1.trans b2⟩
set_option maxHeartbeats 8000000 in
set_option maxRecDepth 1000000 in
/-- a selector that is too long to be cut -/
theorem sel_big (s : ByteArray) (w : World) (hT : Tab w) (h1 : s.size ≤ 140737488351232) (n : Nat) (he : sel (lst s) = (n, 0)) (hbig : 4096 ≤ s.size) :
    Calls Tryd.prog 4 #[.string s] w fun e w' => e = .returned (.bool true) ∧ Bl w w' := by
  have HK := mkHid (fun W hW => known_ok W hW)
  have HS : Hid (∀ W, Calls Tryd.prog 12 #[.string s] W fun e w' => e = .returned (.tuple #[.int .i64 n, .int .i64 0]) ∧ Bl W w') := mkHid fun W => by
    have := sel_ok s W (by omega)
    rw [he] at this
    exact this
  obtain ⟨ta, ca, aa, hla, hza⟩ := LexR.total (lst s)
  obtain ⟨tb, cb, ab, hlb, hzb⟩ := LexR.total (lst (⟨#[35]⟩ ++ s))
  have hs35 : (⟨#[35]⟩ ++ s).size = s.size + 1 := by rw [← lst_len, hash_lst, List.length_cons, lst_len]
  have HA := mkHid (fun W hW => tokens_v hla (by omega) W hW)
  have HB := mkHid (fun W hW => tokens_v hlb (by omega) W hW)
  have hbi : (4096 : Int) ≤ s.size := by omega
  clear he hla hlb hza hzb
  go_enter Tryd.func4, Tryd.ntmps4
  go_wp2_with (first
      | (go_at_call 9; refine (HK.out _ hT).mono ?_; rintro e w1 ⟨rfl, b1⟩)
      | (go_at_call 12; refine (HS.out _).mono ?_; rintro e w2 ⟨rfl, b2⟩)
      | (go_at_call 13; go_in)
      | (go_at_call 10; have hh := M1; refine (HB.out _ (hT.mono (((b1.trans b2).trans b3).trans (Bl.alloc _ _)))).mono ?_; rintro e w4 ⟨pb, kb, rfl, rb, qb, nb, mb, b4⟩
         have B4 := mkHid ((((b1.trans b2).trans b3).trans (Bl.alloc _ _)).trans b4)
         have hF := mkHid (blk_in b4)
         have c0 := cell_in hF.out (i := 0)
         have hlt := lt_of_heap hF.out
         
         have M2 := trivial)
      | (go_at_call 10; (fail_if_success (have hh := M1)); refine (HA.out _ (hT.mono (b1.trans b2))).mono ?_; rintro e w3 ⟨pa, ka, rfl, ra, qa, na, ma, b3⟩; have M1 := trivial))
  go_ret
  exact ⟨rfl, B4.out.trans (Bl.alloc _ _)⟩
set_option maxHeartbeats 8000000 in
set_option maxRecDepth 1000000 in
/-- a name -/
theorem sel_name (s : ByteArray) (w : World) (hT : Tab w) (h1 : s.size < 4096) (he : sel (lst s) = (0, 0)) (hn : nameB (lst s) = true) (hr : resB (lst s) = false) :
    Calls Tryd.prog 4 #[.string s] w fun e w' => e = .returned (.bool true) ∧ Bl w w' := by
  have HK := mkHid (fun W hW => known_ok W hW)
  have HS : Hid (∀ W, Calls Tryd.prog 12 #[.string s] W fun e w' => e = .returned (.tuple #[.int .i64 0, .int .i64 0]) ∧ Bl W w') := mkHid fun W => by
    have := sel_ok s W (by omega)
    rw [he] at this
    exact this
  obtain ⟨hx, hy, hz⟩ := name_is hn
  have HVa : Hid (∀ W, Calls Tryd.prog 14 #[.string s] W fun e w' => e = .returned (.int .i64 0) ∧ Bl W w') := mkHid fun W => by
    have h := vari_ok s W (by omega)
    have e : vari (lst s) = 0 := by unfold vari; rw [hr, hn]; rfl
    rw [e] at h
    exact h
  have hla : LexR (lst s) [(⟨1, lst s, 0⟩, 0), (stopT, (lst s).length)] 0 0 := LexR.mk (by rw [lst_len]; omega) hx
  have hlb := LexR.mk (by rw [List.length_cons, lst_len]; omega) (sym_tok hz hy)
  rw [← hash_lst] at hlb
  have hlb : LexR (lst (⟨#[35]⟩ ++ s)) [(⟨5, lst s, 0⟩, 0), (stopT, (lst (⟨#[35]⟩ ++ s)).length)] 0 0 := hlb
  have hs35 : (⟨#[35]⟩ ++ s).size = s.size + 1 := by rw [← lst_len, hash_lst, List.length_cons, lst_len]
  have HA := mkHid (fun W hW => tokens_v hla (by omega) W hW)
  have HB := mkHid (fun W hW => tokens_v hlb (by omega) W hW)
  have hbi : ¬ (4096 : Int) ≤ s.size := by omega
  clear hla hlb hx hy
  go_enter Tryd.func4, Tryd.ntmps4
  go_wp2_with (first
      | (go_at_call 14; have hh := M2; refine (HVa.out _).mono ?_; rintro e w5 ⟨rfl, b5⟩
         have hga5 := Nat.lt_of_lt_of_le hga ((Bl.alloc w4 _).trans b5).size
         have a2 : w5.cell? ⟨ga, 0, none⟩ = some (.int .i64 1) := by rw [World.cell?_of_block (w := w4) (((Bl.alloc w4 _).trans b5).block ga hga)]; exact a0
         have a3 : w5.cell? ⟨ga, 1, none⟩ = some (.string s) := by rw [World.cell?_of_block (w := w4) (((Bl.alloc w4 _).trans b5).block ga hga)]; exact a1)
      | (go_at_call 9; refine (HK.out _ hT).mono ?_; rintro e w1 ⟨rfl, b1⟩)
      | (go_at_call 12; refine (HS.out _).mono ?_; rintro e w2 ⟨rfl, b2⟩)
      | (go_at_call 13; go_in)
      | (go_at_call 10; have hh := M1; refine (HB.out _ (hT.mono (((b1.trans b2).trans b3).trans (Bl.alloc _ _)))).mono ?_; rintro e w4 ⟨pb, kb, rfl, rb, qb, nb, mb, b4⟩
         have B4 := mkHid ((((b1.trans b2).trans b3).trans (Bl.alloc _ _)).trans b4)
         have hF := mkHid (blk_in b4)
         have c0 := cell_in hF.out (i := 0)
         have hlt := lt_of_heap hF.out
         obtain ⟨gb, rfl⟩ := qb (by simp)
         have hgb := rb.lt (by simp)
         have m0 : w4.cell? ⟨gb, 0, none⟩ = some (.int .i64 5) := by simpa using (rb.cells 0 (by simp)).1
         have m1 : w4.cell? ⟨gb, 1, none⟩ = some (.string s) := by have := (rb.cells 0 (by simp)).2.1; simp only [List.getD_cons_zero] at this; rw [ba_lst] at this; simpa using this
         have c1 : w4.cell? ⟨w3.heap.size, 0, none⟩ = some (.int .i64 0) := by rw [c0]; rfl
         have rA := mkHid (ra.keep ((Bl.alloc _ _).trans b4))
         obtain ⟨ga, rfl⟩ := qa (by simp)
         have hga := rA.out.lt (by simp)
         have a0 : w4.cell? ⟨ga, 0, none⟩ = some (.int .i64 1) := by simpa using (rA.out.cells 0 (by simp)).1
         have a1 : w4.cell? ⟨ga, 1, none⟩ = some (.string s) := by have := (rA.out.cells 0 (by simp)).2.1; simp only [List.getD_cons_zero] at this; rw [ba_lst] at this; simpa using this
         have M2 := trivial)
      | (go_at_call 10; (fail_if_success (have hh := M1)); refine (HA.out _ (hT.mono (b1.trans b2))).mono ?_; rintro e w3 ⟨pa, ka, rfl, ra, qa, na, ma, b3⟩; have M1 := trivial))
  go_ret
  exact ⟨rfl, (B4.out.trans (Bl.alloc _ _)).trans b5⟩
set_option maxHeartbeats 8000000 in
set_option maxRecDepth 1000000 in
/-- an operator -/
theorem sel_op (s : ByteArray) (w : World) (hT : Tab w) (h1 : s.size < 4096) (he : sel (lst s) = (1, 0)) (hn : opB (lst s) = true) :
    Calls Tryd.prog 4 #[.string s] w fun e w' => e = .returned (.bool true) ∧ Bl w w' := by
  have HK := mkHid (fun W hW => known_ok W hW)
  have HS : Hid (∀ W, Calls Tryd.prog 12 #[.string s] W fun e w' => e = .returned (.tuple #[.int .i64 1, .int .i64 0]) ∧ Bl W w') := mkHid fun W => by
    have := sel_ok s W (by omega)
    rw [he] at this
    exact this
  obtain ⟨hx, hy, hz⟩ := op_is hn
  have hla : LexR (lst s) [(⟨3, lst s, 0⟩, 0), (stopT, (lst s).length)] 0 0 := LexR.mk (by rw [lst_len]; omega) hx
  have hlb := LexR.mk (by rw [List.length_cons, lst_len]; omega) (sym_tok hz hy)
  rw [← hash_lst] at hlb
  have hlb : LexR (lst (⟨#[35]⟩ ++ s)) [(⟨5, lst s, 0⟩, 0), (stopT, (lst (⟨#[35]⟩ ++ s)).length)] 0 0 := hlb
  have hs35 : (⟨#[35]⟩ ++ s).size = s.size + 1 := by rw [← lst_len, hash_lst, List.length_cons, lst_len]
  have HA := mkHid (fun W hW => tokens_v hla (by omega) W hW)
  have HB := mkHid (fun W hW => tokens_v hlb (by omega) W hW)
  have hbi : ¬ (4096 : Int) ≤ s.size := by omega
  clear hla hlb hx hy
  go_enter Tryd.func4, Tryd.ntmps4
  go_wp2_with (first
      | (go_at_call 9; refine (HK.out _ hT).mono ?_; rintro e w1 ⟨rfl, b1⟩)
      | (go_at_call 12; refine (HS.out _).mono ?_; rintro e w2 ⟨rfl, b2⟩)
      | (go_at_call 13; go_in)
      | (go_at_call 10; have hh := M1; refine (HB.out _ (hT.mono (((b1.trans b2).trans b3).trans (Bl.alloc _ _)))).mono ?_; rintro e w4 ⟨pb, kb, rfl, rb, qb, nb, mb, b4⟩
         have B4 := mkHid ((((b1.trans b2).trans b3).trans (Bl.alloc _ _)).trans b4)
         have hF := mkHid (blk_in b4)
         have c0 := cell_in hF.out (i := 0)
         have hlt := lt_of_heap hF.out
         obtain ⟨gb, rfl⟩ := qb (by simp)
         have hgb := rb.lt (by simp)
         have m0 : w4.cell? ⟨gb, 0, none⟩ = some (.int .i64 5) := by simpa using (rb.cells 0 (by simp)).1
         have m1 : w4.cell? ⟨gb, 1, none⟩ = some (.string s) := by have := (rb.cells 0 (by simp)).2.1; simp only [List.getD_cons_zero] at this; rw [ba_lst] at this; simpa using this
         have c1 : w4.cell? ⟨w3.heap.size, 0, none⟩ = some (.int .i64 0) := by rw [c0]; rfl
         have rA := mkHid (ra.keep ((Bl.alloc _ _).trans b4))
         obtain ⟨ga, rfl⟩ := qa (by simp)
         have hga := rA.out.lt (by simp)
         have a0 : w4.cell? ⟨ga, 0, none⟩ = some (.int .i64 3) := by simpa using (rA.out.cells 0 (by simp)).1
         have a1 : w4.cell? ⟨ga, 1, none⟩ = some (.string s) := by have := (rA.out.cells 0 (by simp)).2.1; simp only [List.getD_cons_zero] at this; rw [ba_lst] at this; simpa using this
         have M2 := trivial)
      | (go_at_call 10; (fail_if_success (have hh := M1)); refine (HA.out _ (hT.mono (b1.trans b2))).mono ?_; rintro e w3 ⟨pa, ka, rfl, ra, qa, na, ma, b3⟩; have M1 := trivial))
  go_ret
  exact ⟨rfl, B4.out.trans (Bl.alloc _ _)⟩
end Go.Proofs.YtjbacibicnfaeaaDoor
