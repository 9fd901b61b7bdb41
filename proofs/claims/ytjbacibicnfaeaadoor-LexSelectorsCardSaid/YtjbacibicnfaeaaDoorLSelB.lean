import Derived.Test.YtjbacibicnfaeaaDoorLSelA
namespace Go.Proofs.YtjbacibicnfaeaaDoor
open Go.RowKit Go.Maps
set_option linter.unusedVariables false
set_option linter.unusedSimpArgs false
theorem ba_app (x y : Bs) : ba x ++ ba y = ba (x ++ y) := by
  rw [← ba_lst (ba x ++ ba y), append_lst, lst_ba, lst_ba]
def jn (tl : List (Tok × Nat)) (i : Nat) : Bs := (tl.take i).flatMap (fun x => x.1.text ++ [58])
set_option maxHeartbeats 8000000 in
set_option maxRecDepth 1000000 in
/-- keywords, joined -/
theorem sel_kw (s : ByteArray) (w : World) (hT : Tab w) (h1 : s.size < 4096) (k : Nat) (he : sel (lst s) = (k, 0)) (hk : kwsN (lst s) = some k) (hk1 : 1 ≤ k) :
    Calls Tryd.prog 4 #[.string s] w fun e w' => e = .returned (.bool true) ∧ Bl w w' := by
  have HK := mkHid (fun W hW => known_ok W hW)
  have HS : Hid (∀ W, Calls Tryd.prog 12 #[.string s] W fun e w' => e = .returned (.tuple #[.int .i64 k, .int .i64 0]) ∧ Bl W w') := mkHid fun W => by
    have := sel_ok s W (by omega)
    rw [he] at this
    exact this
  obtain ⟨us, hx, hul, huk, huj, hsl⟩ := kws_is _ _ _ 0 (Nat.le_refl _) hk
  have hz : (lst s).length ≠ 0 := by
    intro e
    have := hx.places.2.1
    omega
  have hla := LexR.mk (by rw [lst_len]; omega) hx
  have hlb := LexR.mk (by rw [List.length_cons, lst_len]; omega) (sym_tok hz (by unfold symLen; rw [if_neg (by omega)]; exact hsl))
  rw [← hash_lst] at hlb
  have hlb : LexR (lst (⟨#[35]⟩ ++ s)) [(⟨5, lst s, 0⟩, 0), (stopT, (lst (⟨#[35]⟩ ++ s)).length)] 0 0 := hlb
  have hs35 : (⟨#[35]⟩ ++ s).size = s.size + 1 := by rw [← lst_len, hash_lst, List.length_cons, lst_len]
  have hkl : k ≤ s.size := by have := hx.places.2.1; rw [lst_len] at this; omega
  have HA := mkHid (fun W hW => tokens_v hla (by omega) W hW)
  have HB := mkHid (fun W hW => tokens_v hlb (by omega) W hW)
  have hbi : ¬ (4096 : Int) ≤ s.size := by omega
  obtain ⟨tl, htl⟩ : ∃ tl, tl = us ++ [(stopT, (lst s).length)] := ⟨_, rfl⟩
  rw [← htl] at HA
  have ell : tl.length = k + 1 := by rw [htl]; simp [hul]
  rw [ell] at HA
  have HKi : Hid (∀ i, i < k → (tl.getD i noT).1.kind = 2) := mkHid fun i hi => by
    rw [htl, getD_mid us _ (by omega)]
    exact huk _ (List.getElem_mem _)
  have HJ : Hid (∀ i, i < k → jn tl (i + 1) = jn tl i ++ (tl.getD i noT).1.text ++ [58]) := mkHid fun i hi => by
    unfold jn
    rw [List.take_succ_eq_append_getElem (by omega), List.flatMap_append]
    simp
    rw [List.getElem?_eq_getElem (by omega)]
    rfl
  have HB2 : Hid (∀ i, i ≤ k → (jn tl i).length ≤ s.size) := mkHid fun i hi => by
    have e1 : jn tl k = lst s := by unfold jn; rw [htl, ← hul, List.take_left, huj]
    have e2 : tl.take k = tl.take i ++ (tl.take k).drop i := by
      have := List.take_append_drop i (tl.take k)
      rw [List.take_take, Nat.min_eq_left hi] at this
      exact this.symm
    have e3 : (jn tl k).length = (jn tl i).length + (((tl.take k).drop i).flatMap (fun x => x.1.text ++ [58])).length := by
      unfold jn
      conv => lhs; rw [e2, List.flatMap_append, List.length_append]
    rw [e1, lst_len] at e3
    omega
  have HE : Hid (ba (jn tl k) = s) := by
    unfold Hid jn
    rw [htl, ← hul, List.take_left, huj, ba_lst]
  clear hla hlb hx hz hsl huj huk htl hk he
  have k0 : ¬ (k : Int) = 0 := by omega
  by_cases kone : k = 1
  · have k2 : ((k : Int) + 1 == 2) = true := by rw [beq_iff_eq]; omega
    go_enter Tryd.func4, Tryd.ntmps4
    go_wp2_with (first
      | (go_at_call 9; refine (HK.out _ hT).mono ?_; rintro e w1 ⟨rfl, b1⟩)
      | (go_at_call 12; refine (HS.out _).mono ?_; rintro e w2 ⟨rfl, b2⟩)
      | (go_at_call 13; go_in)
      | (go_at_call 10; have hh := M1; refine (HB.out _ (hT.mono (((b1.trans b2).trans b3).trans (Bl.alloc _ _)))).mono ?_; rintro e w4 ⟨pb, kb, rfl, rb, qb, nb, mb, b4⟩
         have B4 := mkHid ((((b1.trans b2).trans b3).trans (Bl.alloc _ _)).trans b4)
         have hF := mkHid (blk_in b4)
         have c0 := cell_in hF.out (i := 0)
         have hlt := lt_of_heap hF.out
         obtain ⟨gb, rfl⟩ := qb (by simp)
         have hgb := rb.lt (by simp)
         have m0 : w4.cell? ⟨gb, 0, none⟩ = some (.int .i64 5) := by simpa using (rb.cells 0 (by simp)).1
         have m1 : w4.cell? ⟨gb, 1, none⟩ = some (.string s) := by have := (rb.cells 0 (by simp)).2.1; simp only [List.getD_cons_zero] at this; rw [ba_lst] at this; simpa using this
         have c1 : w4.cell? ⟨w3.heap.size, 0, none⟩ = some (.int .i64 0) := by rw [c0]; rfl
         have rA := mkHid (ra.keep ((Bl.alloc _ _).trans b4))
         obtain ⟨ga, rfl⟩ := qa (by omega)
         have hga := rA.out.lt (by omega)
         have a0 : w4.cell? ⟨ga, 0, none⟩ = some (.int .i64 2) := by
           have := (rA.out.cells 0 (by omega)).1
           rw [HKi.out 0 (by omega)] at this
           simpa using this
         have M2 := trivial)
      | (go_at_call 10; (fail_if_success (have hh := M1)); refine (HA.out _ (hT.mono (b1.trans b2))).mono ?_; rintro e w3 ⟨pa, ka, rfl, ra, qa, na, ma, b3⟩; have M1 := trivial))
    obtain ⟨W5, hW5⟩ : ∃ W5, W5 = w4.alloc (.cells #[.int .i64 0, .int .i64 0] 26) := ⟨_, rfl⟩
    have B5 : Hid (Bl w W5) := by rw [hW5]; exact B4.out.trans (Bl.alloc _ _)
    have rW : Hid (RdT W5 (.slice (some ⟨ga, 0, none⟩) (k + 1) ka) tl) := by rw [hW5]; exact rA.out.keep (Bl.alloc _ _)
    rw [← hW5]
    clear hW5 HA HB HK HS a0 m0 m1 c1 c0
    go_loopw [11, 12] (fun j q wr => ∃ i : Nat, i ≤ k ∧ q = .int .i64 i ∧ j = .string (ba (jn tl i)) ∧ wr = W5) (fun _ q _ => k - (intOf q).toNat)
    case atStart => exact ⟨0, Nat.zero_le _, rfl, rfl, rfl⟩
    case round =>
      obtain ⟨i, hi, rfl, rfl, rfl⟩ := hrel
      by_cases hik : i < k
      · have hii : (i : Int) < k := by omega
        obtain ⟨y0, y1, _, _⟩ := rW.out.cells i (by omega)
        rw [HKi.out i hik] at y0
        have hJ := mkHid (HJ.out i hik)
        have j1 := HB2.out (i + 1) hik
        rw [hJ.out, List.length_append, List.length_append] at j1
        have j2 : (ba (jn tl i)).size = (jn tl i).length := by rw [← lst_len, lst_ba]
        have j3 : (ba (tl.getD i noT).1.text).size = (tl.getD i noT).1.text.length := by rw [← lst_len, lst_ba]
        have j4 : (ba (jn tl i) ++ ba (tl.getD i noT).1.text).size = (jn tl i).length + (tl.getD i noT).1.text.length := by rw [ba_app, ← lst_len, lst_ba, List.length_append]
        simp only [List.length_singleton] at j1
        generalize (tl.getD i noT).1.text = tx at *
        go_wp2_with fail
        go_roundw
        case rel => exact ⟨i + 1, by omega, by simp, by rw [hJ.out, ← ba_app, ← ba_app]; rfl, by simp⟩
        case measure => simp [intOf]; omega
      · have hie : i = k := by omega
        subst hie
        rw [HE.out]
        go_wp2_with fail
        go_wp2_with fail
        go_ret
        exact ⟨by simp, B5.out⟩
  · have k2 : ((k : Int) + 1 == 2) = false := by rw [beq_eq_false_iff_ne]; omega
    go_enter Tryd.func4, Tryd.ntmps4
    go_wp2_with (first
      | (go_at_call 9; refine (HK.out _ hT).mono ?_; rintro e w1 ⟨rfl, b1⟩)
      | (go_at_call 12; refine (HS.out _).mono ?_; rintro e w2 ⟨rfl, b2⟩)
      | (go_at_call 13; go_in)
      | (go_at_call 10; have hh := M1; refine (HB.out _ (hT.mono (((b1.trans b2).trans b3).trans (Bl.alloc _ _)))).mono ?_; rintro e w4 ⟨pb, kb, rfl, rb, qb, nb, mb, b4⟩
         have B4 := mkHid ((((b1.trans b2).trans b3).trans (Bl.alloc _ _)).trans b4)
         have hF := mkHid (blk_in b4)
         have c0 := cell_in hF.out (i := 0)
         have hlt := lt_of_heap hF.out
         obtain ⟨gb, rfl⟩ := qb (by simp)
         have hgb := rb.lt (by simp)
         have m0 : w4.cell? ⟨gb, 0, none⟩ = some (.int .i64 5) := by simpa using (rb.cells 0 (by simp)).1
         have m1 : w4.cell? ⟨gb, 1, none⟩ = some (.string s) := by have := (rb.cells 0 (by simp)).2.1; simp only [List.getD_cons_zero] at this; rw [ba_lst] at this; simpa using this
         have c1 : w4.cell? ⟨w3.heap.size, 0, none⟩ = some (.int .i64 0) := by rw [c0]; rfl
         have rA := mkHid (ra.keep ((Bl.alloc _ _).trans b4))
         obtain ⟨ga, rfl⟩ := qa (by omega)
         have hga := rA.out.lt (by omega)
         have a0 : w4.cell? ⟨ga, 0, none⟩ = some (.int .i64 2) := by
           have := (rA.out.cells 0 (by omega)).1
           rw [HKi.out 0 (by omega)] at this
           simpa using this
         have M2 := trivial)
      | (go_at_call 10; (fail_if_success (have hh := M1)); refine (HA.out _ (hT.mono (b1.trans b2))).mono ?_; rintro e w3 ⟨pa, ka, rfl, ra, qa, na, ma, b3⟩; have M1 := trivial))
    obtain ⟨W5, hW5⟩ : ∃ W5, W5 = w4.alloc (.cells #[.int .i64 0, .int .i64 0] 26) := ⟨_, rfl⟩
    have B5 : Hid (Bl w W5) := by rw [hW5]; exact B4.out.trans (Bl.alloc _ _)
    have rW : Hid (RdT W5 (.slice (some ⟨ga, 0, none⟩) (k + 1) ka) tl) := by rw [hW5]; exact rA.out.keep (Bl.alloc _ _)
    rw [← hW5]
    clear hW5 HA HB HK HS a0 m0 m1 c1 c0
    go_loopw [11, 12] (fun j q wr => ∃ i : Nat, i ≤ k ∧ q = .int .i64 i ∧ j = .string (ba (jn tl i)) ∧ wr = W5) (fun _ q _ => k - (intOf q).toNat)
    case atStart => exact ⟨0, Nat.zero_le _, rfl, rfl, rfl⟩
    case round =>
      obtain ⟨i, hi, rfl, rfl, rfl⟩ := hrel
      by_cases hik : i < k
      · have hii : (i : Int) < k := by omega
        obtain ⟨y0, y1, _, _⟩ := rW.out.cells i (by omega)
        rw [HKi.out i hik] at y0
        have hJ := mkHid (HJ.out i hik)
        have j1 := HB2.out (i + 1) hik
        rw [hJ.out, List.length_append, List.length_append] at j1
        have j2 : (ba (jn tl i)).size = (jn tl i).length := by rw [← lst_len, lst_ba]
        have j3 : (ba (tl.getD i noT).1.text).size = (tl.getD i noT).1.text.length := by rw [← lst_len, lst_ba]
        have j4 : (ba (jn tl i) ++ ba (tl.getD i noT).1.text).size = (jn tl i).length + (tl.getD i noT).1.text.length := by rw [ba_app, ← lst_len, lst_ba, List.length_append]
        simp only [List.length_singleton] at j1
        generalize (tl.getD i noT).1.text = tx at *
        go_wp2_with fail
        go_roundw
        case rel => exact ⟨i + 1, by omega, by simp, by rw [hJ.out, ← ba_app, ← ba_app]; rfl, by simp⟩
        case measure => simp [intOf]; omega
      · have hie : i = k := by omega
        subst hie
        rw [HE.out]
        go_wp2_with fail
        go_wp2_with fail
        go_ret
        exact ⟨by simp, B5.out⟩
theorem selectors_any (s : ByteArray) (w : World) (hT : Tab w) (h1 : s.size ≤ 140737488351232) :
    Calls Tryd.prog 4 #[.string s] w fun e w' => e = .returned (.bool true) ∧ Bl w w' := by
  have key : sel (lst s) = (0, 1) ∨ (sel (lst s) = (0, 0) ∧ nameB (lst s) = true ∧ resB (lst s) = false) ∨ (sel (lst s) = (1, 0) ∧ opB (lst s) = true) ∨ ∃ k, 1 ≤ k ∧ sel (lst s) = (k, 0) ∧ kwsN (lst s) = some k := by
    unfold sel
    split
    · rename_i h; exact Or.inr (Or.inl ⟨rfl, h.1, h.2.2⟩)
    · split
      · rename_i h; exact Or.inr (Or.inr (Or.inl ⟨rfl, h⟩))
      · cases hk : kwsN (lst s) with
        | none => exact Or.inl rfl
        | some k =>
          cases k with
          | zero => exact Or.inl rfl
          | succ k => exact Or.inr (Or.inr (Or.inr ⟨k + 1, by omega, rfl, rfl⟩))
  rcases key with h | ⟨h, h2, h3⟩ | ⟨h, h2⟩ | ⟨k, hk1, h, h2⟩
  · exact sel_no s w hT h1 h
  · by_cases hb : 4096 ≤ s.size
    · exact sel_big s w hT h1 0 h hb
    · exact sel_name s w hT (by omega) h h2 h3
  · by_cases hb : 4096 ≤ s.size
    · exact sel_big s w hT h1 1 h hb
    · exact sel_op s w hT (by omega) h h2
  · by_cases hb : 4096 ≤ s.size
    · exact sel_big s w hT h1 k h hb
    · exact sel_kw s w hT (by omega) k h h2 hk1
end Go.Proofs.YtjbacibicnfaeaaDoor
