import Derived.Test.YtimlomobbnnehaaDoorLZ
namespace Go.Proofs.YtimlomobbnnehaaDoor
open Go.RowKit Go.Maps Go.WideMaps
set_option linter.unusedVariables false
set_option linter.unusedSimpArgs false
def fillM (zs : List Zt) (mark : Int) (i : Nat) : List Zt := mks mark i ++ zs.drop i
theorem fillM_len (zs : List Zt) (mark : Int) (i : Nat) (hi : i ≤ zs.length) : (fillM zs mark i).length = zs.length := by simp [fillM, mks_len]; omega
theorem fillM_set (zs : List Zt) (mark : Int) (i : Nat) (hi : i < zs.length) : (fillM zs mark i).set i (mark, [], 0, (i : Int)) = fillM zs mark (i + 1) := by
  unfold fillM
  have e : zs.drop i = zs[i] :: zs.drop (i + 1) := List.drop_eq_getElem_cons hi
  have e2 : mks mark (i + 1) = mks mark i ++ [(mark, [], 0, (i : Int))] := by simp [mks, List.range_succ]
  rw [List.set_append_right _ _ (by rw [mks_len]; exact Nat.le_refl _), e, mks_len, Nat.sub_self, List.set_cons_zero, e2, List.append_assoc]
  rfl
theorem fillM_end (zs : List Zt) (mark : Int) : fillM zs mark zs.length = mks mark zs.length := by unfold fillM; rw [List.drop_length, List.append_nil]
set_option maxHeartbeats 8000000 in
set_option maxRecDepth 1000000 in
theorem marked_ok (p : Option Addr) (c : Nat) (zs : List Zt) (mark : Int) (base : Nat) (w : World) (h : w.ownsRow base 41 4 (.slice p zs.length c) zs.length (zcs zs)) (hl : zs.length ≤ 1099511627776) :
    Calls Tryd.prog 7 #[.slice p zs.length c, .int .i64 mark] w fun e w' => e = .returned (.tuple #[]) ∧ w'.ownsRow base 41 4 (.slice p zs.length c) zs.length (zcs (mks mark zs.length)) ∧ Fr (blk p) w w' := by
  have HR := mkHid h
  clear h
  go_enter Tryd.func7, Tryd.ntmps7
  go_wp2_with fail
  go_loopw [4] (fun q wr => ∃ i : Nat, i ≤ zs.length ∧ q = .int .i64 i ∧ Hid (wr.ownsRow base 41 4 (.slice p zs.length c) zs.length (zcs (fillM zs mark i))) ∧ Hid (Fr (blk p) w wr)) (fun q _ => zs.length - (intOf q).toNat)
  case atStart => exact ⟨0, Nat.zero_le _, rfl, HR, mkHid (Fr.refl _ _)⟩
  case round =>
    obtain ⟨i, hi, rfl, hrw, hfr⟩ := hrel
    have i1 : (0 : Int) ≤ (i : Int) := by omega
    by_cases hlt : i < zs.length
    · have i2 : (i : Int) < (zs.length : Int) := by omega
      have hol := fillM_len zs mark i hi
      obtain ⟨g, rfl, hgc⟩ : ∃ g, p = some ⟨g, 0, none⟩ ∧ ∀ j, j < 4 → (∃ u, wr.cell? ⟨g, i * 4 + j, none⟩ = some u) ∧ wr.frozen? ⟨g, i * 4 + j, none⟩ = false := by
        rcases hrw.out.2 with ⟨h1, h2⟩ | ⟨g, cap, cur, e, h1, h2, h3, h4, h5, h6⟩
        · omega
        · injection e with e1 e2 e3
          refine ⟨g, e1, fun j hj => ⟨?_, frozen_in h2 _⟩⟩
          rw [cell_in h2]
          exact ⟨_, Array.getElem?_eq_getElem (by omega)⟩
      have i2n := hlt
      obtain ⟨⟨u0, x0⟩, f0⟩ := hgc 0 (by omega)
      have x0 : wr.cell? ⟨g, i * 4, none⟩ = some u0 := x0
      have f0 : wr.frozen? ⟨g, i * 4, none⟩ = false := f0
      obtain ⟨⟨u1, x1⟩, f1⟩ := hgc 1 (by omega)
      obtain ⟨⟨u2, x2⟩, f2⟩ := hgc 2 (by omega)
      obtain ⟨⟨u3, x3⟩, f3⟩ := hgc 3 (by omega)
      have HN : Hid (((((wr.setCell ⟨g, i * 4, none⟩ (.int .i64 mark)).setCell ⟨g, i * 4 + 1, none⟩ (.string ⟨#[]⟩)).setCell ⟨g, i * 4 + 2, none⟩ (.int .i64 0)).setCell ⟨g, i * 4 + 3, none⟩ (.int .i64 i)).ownsRow base 41 4 (.slice (some ⟨g, 0, none⟩) zs.length c) zs.length (zcs (fillM zs mark (i + 1)))) := by
        have h0 := hrw.out
        rw [← hol] at h0
        have := own_set4 h0 i (by omega) (mark, [], 0, (i : Int))
        rw [fillM_set zs mark i hlt, hol] at this
        exact this
      have HF : Hid (Fr (blk (some ⟨g, 0, none⟩)) w ((((wr.setCell ⟨g, i * 4, none⟩ (.int .i64 mark)).setCell ⟨g, i * 4 + 1, none⟩ (.string ⟨#[]⟩)).setCell ⟨g, i * 4 + 2, none⟩ (.int .i64 0)).setCell ⟨g, i * 4 + 3, none⟩ (.int .i64 i))) := by
        have k : ∀ (V : World) (j : Nat) (u : Value), Fr (blk (some ⟨g, 0, none⟩)) w V → Fr (blk (some ⟨g, 0, none⟩)) w (V.setCell ⟨g, j, none⟩ u) := fun V j u h => h.trans (Fr.setCell V _ _ (by simp [blk])) (fun b hb => Or.inl hb)
        exact k _ _ _ (k _ _ _ (k _ _ _ (k _ _ _ hfr.out)))
      clear hgc hol
      go_wp2_with fail
      go_roundw
      case rel => exact ⟨i + 1, by omega, by simp, HN.out, HF.out⟩
      case measure => simp [intOf]; omega
    · have hie : i = zs.length := by omega
      have HE : Hid (wr.ownsRow base 41 4 (.slice p zs.length c) zs.length (zcs (mks mark zs.length))) := by
        have := hrw.out
        rw [hie, fillM_end] at this
        exact this
      have hli : ¬ (i : Int) < (zs.length : Int) := by omega
      clear hie
      go_wp2_with fail
      go_wp2_with fail
      go_end0
      exact ⟨rfl, HE.out, hfr.out⟩
end Go.Proofs.YtimlomobbnnehaaDoor
