import Derived.Test.YtimlomobbnnehaaDoorLTkAB
namespace Go.Proofs.YtimlomobbnnehaaDoor
open Go.RowKit Go.Maps Go.WideMaps
set_option linter.unusedVariables false
set_option linter.unusedSimpArgs false
theorem LexR.len {l : Bs} {ts : List (Tok × Nat)} {c a : Nat} (h : LexR l ts c a) : ts.length ≤ 4097 := by
  rcases h with ⟨_, rfl, _⟩ | ⟨h4, us, er, hx, ⟨_, rfl, _⟩ | ⟨p, _, rfl, _⟩⟩
  · simp
  · have := hx.places.2.1
    simp; omega
  · simp
theorem RdV.tok {w : World} {p : Option Addr} {n c : Nat} {ts : List (Tok × Nat)} (h : RdV w (.slice p n c) (ts.map zT)) : RdT w (.slice p ts.length c) ts := by
  obtain ⟨p', c', e, hp⟩ := h.at_
  injection e with e1 e2 e3
  subst e1 e3
  refine ⟨p, c, rfl, fun h0 => ?_⟩
  obtain ⟨b, off, e4, hb, hc⟩ := hp (by rw [List.length_map]; exact h0)
  refine ⟨b, off, e4, hb, fun j hj => ?_⟩
  have := hc j (by rw [List.length_map]; exact hj)
  have hg : (ts.map zT).getD j noY = zT (ts.getD j noT) := by
    rw [List.getD_eq_getElem?_getD, List.getElem?_map, List.getElem?_eq_getElem hj, List.getD_eq_getElem?_getD, List.getElem?_eq_getElem hj]
    rfl
  rw [hg] at this
  exact this
set_option maxHeartbeats 16000000 in
set_option maxRecDepth 1000000 in
theorem tokens_any (s : ByteArray) (w : World) (hT : Tab w) (h1 : s.size ≤ 140737488355328) :
    Calls Tryd.prog 3 #[.string s] w fun e w' => e = .returned (.bool true) ∧ Bl w w' := by
  obtain ⟨ts, c, a, hl, hz⟩ := LexR.total (lst s)
  have hlen := hl.len
  have HK := mkHid (fun W hW => known_ok W hW)
  have HA := mkHid (fun W => rTokens_is hl h1 W)
  have HB := mkHid (fun W hW => lTokens_is hl h1 W hW)
  have HM1 := mkHid (fun p c base W h => marked_n p c ts.length (ts.map zT) (by rw [List.length_map]) (-1) base W h (by omega))
  have HM2 := mkHid (fun p c base W h => marked_n p c ts.length (ts.map zT) (by rw [List.length_map]) (-2) base W h (by omega))
  have HL1 := mkHid (fun p c base W h => longer_n p c ts.length (mks (-1) ts.length) (mks_len _ _) (-3) base W h (by omega))
  have HL2 := mkHid (fun p c base W h => longer_n p c ts.length (mks (-2) ts.length) (mks_len _ _) (-4) base W h (by omega))
  have HL3 := mkHid (fun p c base W h => longer_n p c ts.length (ts.map zT) (by rw [List.length_map]) (-5) base W h (by omega))
  have HS1 := mkHid (fun p c p' c' W h h' => stands_ok p c p' c' ts.length (mks (-1) ts.length) (-1) (-3) W h h' (mks_len _ _) (by omega))
  have HS2 := mkHid (fun p c p' c' W h h' => stands_ok p c p' c' ts.length (mks (-2) ts.length) (-2) (-4) W h h' (mks_len _ _) (by omega))
  have HQ := mkHid (fun va vb W ha hb => same_ok va vb ts ts true W ha hb (agree_refl _ _) (by omega))
  have HT := mkHid hT
  have hZc : Hid (tcs ts = zcs (ts.map zT)) := zcs_tcs ts
  clear hl hz hT
  go_enter Tryd.func3, Tryd.ntmps3
  go_wp2_with (first
    | (go_at_call 4; refine (HA.out _).mono ?_; rintro e w1 ⟨p0, c0, rfl, o0, b1⟩; have O0 := mkHid o0; have B1 := mkHid b1; clear o0 b1)
    | (go_at_call 5; (fail_if_success (have hh := M1)); refine (HB.out _ (HT.out.mono (B1.out.trans (Bl.alloc _ _)))).mono ?_; rintro e w2 ⟨p1, c1, rfl, o1, b2⟩; have O1 := mkHid o1; have B2 := mkHid b2; clear o1 b2; have M1 := trivial)
    | (go_at_call 5; (fail_if_success (have hh := M2)); refine (HB.out _ (HT.out.mono (((B1.out.trans (Bl.alloc _ _)).trans B2.out).trans (Bl.alloc _ _)))).mono ?_; rintro e w3 ⟨p2, c2, rfl, o2, b3⟩
       have T3 := mkHid (S3.make O0.out B1.out O1.out B2.out o2 b3)
       obtain ⟨xF0, xF1⟩ := cell2 T3.out.f
       obtain ⟨xG0, xG1⟩ := cell2 T3.out.g
       obtain ⟨xH0, xH1⟩ := cell2 T3.out.h
       clear o2 b3; have M2 := trivial)
    | (go_at_call 6; (fail_if_success (have hh := N1)); refine (HQ.out _ _ _ (RdT.own T3.out.o1) (RdT.own T3.out.o0)).mono ?_; rintro e w4 ⟨rfl, b4⟩; have T4 := mkHid (T3.out.keep b4); clear b4; have N1 := trivial)
    | (go_at_call 6; (fail_if_success (have hh := N2)); refine (HQ.out _ _ _ (RdT.own T4.out.o2) (RdT.own T4.out.o0)).mono ?_; rintro e w5 ⟨rfl, b5⟩; have T5 := mkHid (T4.out.keep b5)
       have O51 : Hid (w5.ownsRow w.heap.size 41 4 (.slice p1 ts.length c1) ts.length (zcs (ts.map zT))) := by
         have := T5.out.o1
         rw [hZc.out] at this
         exact this
       clear b5; have N2 := trivial)
    | (go_at_call 7; (fail_if_success (have hh := N3)); refine (HM1.out _ _ _ _ O51.out).mono ?_; rintro e w6 ⟨rfl, o6, f6⟩
       have O61 := mkHid o6
       have F6 := mkHid f6
       have O62 : Hid (w6.ownsRow w.heap.size 41 4 (.slice p2 ts.length c2) ts.length (zcs (ts.map zT))) := by
         have := own_fr T5.out.o2 f6 (fun g hg hm => by
           have q1 := T5.out.b1 g hm
           have q2 := T5.out.b2 g ((blk_own _ _ _ _).2 hg)
           omega)
         rw [hZc.out] at this
         exact this
       clear o6 f6; have N3 := trivial)
    | (go_at_call 7; refine (HM2.out _ _ _ _ O62.out).mono ?_; rintro e w7 ⟨rfl, o7, f7⟩
       have O72 := mkHid o7
       have F7 := mkHid f7
       have O71 : Hid (w7.ownsRow w.heap.size 41 4 (.slice p1 ts.length c1) ts.length (zcs (mks (-1) ts.length))) := own_fr O61.out f7 (fun g hg hm => by
           have q1 := T5.out.b2 g hm
           have q2 := T5.out.b1 g ((blk_own _ _ _ _).2 hg)
           omega)
       have Y7 : Hid (w.heap.size ≤ w7.heap.size) := Nat.le_trans T5.out.bl.size (Nat.le_trans F6.out.size f7.size)
       clear o7 f7)
    | (go_at_call 8; (fail_if_success (have hh := N4)); refine (HL1.out _ _ _ _ O71.out Y7.out).mono ?_; rintro e w8 ⟨p8, c8, rfl, z8⟩
       have Z8 := mkHid z8
       have O82 : Hid (w8.ownsRow w.heap.size 41 4 (.slice p2 ts.length c2) ts.length (zcs (mks (-2) ts.length))) := own_fr O72.out z8.fr (fun g hg hm => by
           have q1 := T5.out.b1 g hm
           have q2 := T5.out.b2 g ((blk_own _ _ _ _).2 hg)
           omega)
       have Y8 : Hid (w.heap.size ≤ w8.heap.size) := Nat.le_trans Y7.out z8.fr.size
       clear z8; have N4 := trivial)
    | (go_at_call 8; (fail_if_success (have hh := N5)); refine (HL2.out _ _ _ _ O82.out Y8.out).mono ?_; rintro e w9 ⟨p9, c9, rfl, z9⟩
       have T9 := mkHid (T5.out.marked F6.out F7.out Z8.out z9)
       clear z9; have N5 := trivial)
    | (go_at_call 5; refine (HB.out _ (HT.out.mono T9.out.bl)).mono ?_; rintro e w10 ⟨p3, c3, rfl, o10, b10⟩
       have O10 := mkHid o10
       have B10 := mkHid b10
       have T10 := mkHid (T9.out.keep (Fr.ofBl (b10.trans (Bl.alloc _ (.cells #[.int .i64 c, .int .i64 a] 25))) []) (fun x hx => by cases hx))
       have O11 := mkHid (own_bl o10 (Bl.alloc w10 (.cells #[.int .i64 c, .int .i64 a] 25)))
       obtain ⟨xF0, xF1⟩ := cell2 T10.out.f
       obtain ⟨xI0, xI1⟩ := cell2 (heap_alloc_new w10 (.cells #[.int .i64 c, .int .i64 a] 25))
       clear o10 b10)
    | (go_at_call 6; (fail_if_success (have hh := N6)); refine (HQ.out _ _ _ (RdT.own O11.out) (RdT.own T10.out.o0)).mono ?_; rintro e w11 ⟨rfl, b11⟩
       have T11 := mkHid (T10.out.keep (Fr.ofBl b11 []) (fun x hx => by cases hx))
       have O12 : Hid (w11.ownsRow w9.heap.size 41 4 (.slice p3 ts.length c3) ts.length (zcs (ts.map zT))) := by
         have := own_bl O11.out b11
         rw [hZc.out] at this
         exact this
       have Y11 : Hid (w9.heap.size ≤ w11.heap.size) := Nat.le_trans B10.out.size (Nat.le_trans (Bl.alloc w10 (.cells #[.int .i64 c, .int .i64 a] 25)).size b11.size)
       have B911 : Hid (Bl w9 w11) := (B10.out.trans (Bl.alloc w10 (.cells #[.int .i64 c, .int .i64 a] 25))).trans b11
       clear b11; have N6 := trivial)
    | (go_at_call 8; refine (HL3.out _ _ _ _ O12.out Y11.out).mono ?_; rintro e w12 ⟨p12, c12, rfl, z12⟩
       have T12 := mkHid (T9.out.keep ((Fr.ofBl B911.out (blk p3)).trans z12.fr (fun x hx => Or.inl hx)) (fun x hx => (blk_lt O12.out x hx).1))
       have R12 := mkHid (RdV.tok z12.rd)
       clear z12)
    | (go_at_call 9; (fail_if_success (have hh := N7)); refine (HS1.out _ _ _ _ _ T12.out.r1 T12.out.r8).mono ?_; rintro e w13 ⟨rfl, b13⟩
       have T13 := mkHid (T12.out.keep (Fr.ofBl b13 []) (fun x hx => by cases hx))
       have R13 := mkHid (R12.out.keep b13)
       clear b13; have N7 := trivial)
    | (go_at_call 9; refine (HS2.out _ _ _ _ _ T13.out.r2 T13.out.r9).mono ?_; rintro e w14 ⟨rfl, b14⟩
       have T14 := mkHid (T13.out.keep (Fr.ofBl b14 []) (fun x hx => by cases hx))
       have R14 := mkHid (R13.out.keep b14)
       clear b14)
    | (go_at_call 6; refine (HQ.out _ _ _ R14.out (RdT.own T14.out.o0)).mono ?_; rintro e w15 ⟨rfl, b15⟩
       have B15 := mkHid (T14.out.bl.trans b15)
       clear b15)
    | (go_at_call 10; refine (HK.out _ (HT.out.mono B15.out)).mono ?_; rintro e w16 ⟨rfl, b16⟩))
  go_ret
  exact ⟨rfl, B15.out.trans b16⟩
end Go.Proofs.YtimlomobbnnehaaDoor
