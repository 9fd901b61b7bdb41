import Derived.Test.YtdflpoldlokijaaDoorG41CRf2
namespace Go.Proofs.YtdflpoldlokijaaDoor
open Go.RowKit
set_option linter.unusedVariables false
set_option linter.unusedSimpArgs false
attribute [local go_sem ↓] Go.wp_at_zero Go.wp_at_succ
theorem hid_dr {w0 w : World} (h : Hid (Fr [] w0 w)) : Hid (Fr [] w0 w.drew) := h.out.tr0 (Fr.drew [] w)
def objK (k0 : Int) (k1 : ByteArray) (tn : Nat) : Bool := if k0 = 2 then decide ((k1.size : Int) ≤ 256) else if k0 = 4 then decide ((tn : Int) ≤ 32) else false
def elemK (sym : Int) (k0 : Int) (k1 : ByteArray) (k2 : Int) (tn : Nat) : Bool := if k0 = 1 then inR k2 (-1073741824) 1073741823 else if k0 = 3 then bel k2 sym else if k0 = 5 ∨ k0 = 6 ∨ k0 = 7 then true else objK k0 k1 tn
def okK (top : Bool) (sym : Int) (k0 : Int) (k1 : ByteArray) (k2 : Int) (tn : Nat) : Bool := if top then objK k0 k1 tn else elemK sym k0 k1 k2 tn
theorem litR_if (top : Bool) (sym : Int) (r : Int × Nat) (ts : List LitT) : (if r.1 ≠ 0 then r else litR top sym ts r.2) = (if r.1 = 0 then litR top sym ts r.2 else (r.1, r.2)) := by
  by_cases h : r.1 = 0
  · rw [if_neg (by simpa using h), if_pos h]
  · rw [if_pos h, if_neg h]
section
variable {B x : Nat} {F : WFx}
set_option maxRecDepth 100000 in
set_option maxHeartbeats 40000000 in
theorem rlits_ok (w0 : World) (p : Option Addr) (c : Nat) (ts : List LitT) (h : LitsR w0 p c ts) (hx0 : w0.heap.size ≤ x) : ∀ (top : Bool) (w : World) (n : Nat), Fr [] w0 w → WR w B x F [] none 0 [] none 0 n 0 → n ≤ 4096 →
    Calls Tryd.prog 36 #[.pointer (some ⟨x, 0, none⟩), .slice p ts.length c, .bool top] w fun e w' => LitC F B x top ts w n e w' := by
  induction h with
  | mk p c ts nil at_ short txt kids ih =>
    intro top w n hf hw hn
    obtain ⟨R, hR⟩ : ∃ R, litR top F.C.b.symbols ts n = R := ⟨_, rfl⟩
    unfold LitC
    rw [hR]
    have HIh := mkHid ih
    have HAt := mkHid at_
    have HTx := mkHid txt
    have HF := mkHid hf
    have HKi := mkHid kids
    have HW := mkHid hw
    have HR := mkHid hR
    have HWi := mkHid rwithin_ok
    clear nil at_ ih txt kids hf hw hR
    go_enter Tryd.func36, Tryd.ntmps36
    go_wp2_with fail
    go_loopw [6] (fun q wr => ∃ i : Nat, i ≤ ts.length ∧ q = .int .i64 i ∧ Hid (∃ (m : Nat) (er : Int), WR wr B x F [] none 0 [] none 0 m er ∧ Fr [x] w wr ∧ R = (if er = 0 then litR top F.C.b.symbols (ts.drop i) m else (er, m)) ∧ (er = 0 → m ≤ 4096))) (fun q _ => ts.length - (intOf q).toNat)
    case atStart => exact ⟨0, Nat.zero_le _, rfl, n, 0, HW.out, Fr.refl _ _, by rw [if_pos rfl, List.drop_zero, HR.out], fun _ => hn⟩
    case round =>
      clear HR HW
      obtain ⟨i, hin, rfl, hst⟩ := hrel
      have i0 : (0 : Int) ≤ (i : Int) := by omega
      obtain ⟨m, er, hk, hfx, hRi, hm⟩ := hst.out
      have c12 : wr.cell? ⟨x, 12, none⟩ = some (.int .i64 er) := hk.cell 12
      by_cases hlt : i < ts.length
      · have i1 : (i : Int) < (ts.length : Int) := by omega
        by_cases her : er = 0
        · subst her
          rw [if_pos rfl] at hRi
          have hm := hm rfl
          have F0 : Fr [] w0 wr := HF.out.trans hfx (fun b hb => .inr (by simp at hb; omega))
          obtain ⟨ge, oe, rfl, hge, hce⟩ := HAt.out (by omega)
          obtain ⟨t2, ht2⟩ : ∃ t2, ts[i]? = some t2 := ⟨_, List.getElem?_eq_getElem hlt⟩
          have hmem := List.mem_of_getElem? ht2
          obtain ⟨y0, y1, y2, y3'⟩ := (hce i t2 ht2).idle F0
          have y3 : wr.cell? ⟨ge, oe + i * 4 + 3, none⟩ = some (.slice t2.p t2.kids.length t2.c) := y3'
          have htx := HTx.out t2 hmem
          have hkl : t2.kids.length ≤ 2513169434916 := by
            have := HKi.out t2 hmem
            cases this with
            | mk _ _ _ _ _ sh _ _ => exact sh
          rw [drop_at ht2, litR_cons] at hRi
          have HRi := mkHid hRi
          have HK := mkHid hk
          have HFx := mkHid hfx
          have c8 : wr.cell? ⟨x, 8, none⟩ = some (.int .i64 F.C.b.symbols) := hk.cell 8
          have c11 : wr.cell? ⟨x, 11, none⟩ = some (.int .i64 (m : Int)) := hk.cell 11
          have z11 := hk.fz 11
          have hxw := lt_of_heap hk.top
          have hxn : ¬ x = wr.heap.size := by omega
          have hxn2 : ¬ wr.heap.size = x := by omega
          have HAl : Hid (∀ o : Obj, WR (wr.alloc o) B x F [] none 0 [] none 0 m 0) := fun o => hk.idle (Fr.alloc [] wr o)
          have HAw : Hid (∀ o : Obj, Fr [x] w (wr.alloc o)) := fun o => hfx.trans (Fr.alloc [] wr o) (by simp)
          have HAf : Hid (∀ (o : Obj) (V : World), Fr [x] (wr.alloc o) V → Fr [x] w V) := fun o V hV => (hfx.trans (Fr.alloc [] wr o) (by simp)).trans hV (fun b hb => .inl hb)
          have HFl : Hid (∀ (V : World) (e : Int) (m : Nat), WR V B x F [] none 0 [] none 0 m 0 → Calls Tryd.prog 53 #[.pointer (some ⟨x, 0, none⟩), .int .i64 e] V fun en w' => en = .returned (.tuple #[]) ∧ Fr [x] V w' ∧ WR w' B x F [] none 0 [] none 0 m e) := fun V e m hV => fails_ok hV e
          have HInc : Hid (∀ o : Obj, WR ((wr.setCell ⟨x, 11, none⟩ (.int .i64 ((m : Int) + 1))).alloc o) B x F [] none 0 [] none 0 (m + 1) 0 ∧ Fr [x] w ((wr.setCell ⟨x, 11, none⟩ (.int .i64 ((m : Int) + 1))).alloc o)) := fun o => by
            have := hk.set 11 (.int .i64 ((m : Int) + 1)) (m + 1) 0 rfl
            exact ⟨this.1.idle (Fr.alloc [] _ o), (hfx.trans this.2 (fun b hb => .inl hb)).trans (Fr.alloc [] _ o) (by simp)⟩
          have HIn : Hid (∀ (V : World) (n : Nat), Fr [x] w V → WR V B x F [] none 0 [] none 0 n 0 → n ≤ 4096 → Calls Tryd.prog 36 #[.pointer (some ⟨x, 0, none⟩), .slice t2.p t2.kids.length t2.c, .bool false] V fun e w' => LitC F B x false t2.kids V n e w') := fun V n hV hWV hn => HIh.out t2 hmem false V n (HF.out.trans hV (fun b hb => .inr (by simp at hb; omega))) hWV hn
          have hokd : okR top F.C.b.symbols t2 = okK top F.C.b.symbols t2.kind t2.text t2.num t2.kids.length := rfl
          obtain ⟨k0, hk0⟩ : ∃ k0, t2.kind = k0 := ⟨_, rfl⟩
          obtain ⟨k1, hk1⟩ : ∃ k1, t2.text = k1 := ⟨_, rfl⟩
          obtain ⟨k2, hk2⟩ : ∃ k2, t2.num = k2 := ⟨_, rfl⟩
          obtain ⟨tn, htn⟩ : ∃ tn, t2.kids.length = tn := ⟨_, rfl⟩
          obtain ⟨tp, htp⟩ : ∃ tp, t2.p = tp := ⟨_, rfl⟩
          obtain ⟨tc, htc⟩ : ∃ tc, t2.c = tc := ⟨_, rfl⟩
          rw [hk0] at y0 hokd
          rw [hk1] at y1 hokd htx
          rw [hk2] at y2 hokd
          rw [htn, htp, htc] at y3 HIn
          rw [htn] at hokd hkl
          have HKd := mkHid hk0
          clear hst hk hfx hRi hmem ht2 hce y3' F0 hk0 hk1 hk2 htn htp htc
          cases top
          rotate_left

          · -- top true
            have HO0 := mkHid hokd
            clear hokd
            by_cases q2 : k0 = 2
            · subst q2
              have HK4 : Hid (¬ t2.kind = 4) := by show ¬ _; rw [HKd.out]; decide
              by_cases hs : (k1.size : Int) ≤ 256
              · skip
                have HOk : Hid (okR true F.C.b.symbols t2 = true) := by show _ = _; rw [HO0.out]; simp [okK, objK, elemK, hs]
                have HRb : Hid (R = litR true F.C.b.symbols (ts.drop (i + 1)) m) := by show R = _; rw [HRi.out, if_neg (by rw [HOk.out]; decide), if_neg (by simp), if_neg HK4.out]; rfl
                clear HRi HOk HIn
                go_wp2_with fail
                go_roundw
                case rel => exact ⟨i + 1, by omega, by go_num, m, 0, HAl.out _, HAw.out _, by rw [if_pos rfl]; exact HRb.out, fun _ => hm⟩
                case measure => simp [intOf]; omega
              · skip
                have HOk : Hid (okR true F.C.b.symbols t2 = false) := by show _ = _; rw [HO0.out]; simp [okK, objK, elemK, hs]
                have hs2 : decide ((k1.size : Int) ≤ 256) = false := decide_eq_false hs
                have HRa : Hid (R = (111, m)) := by show R = _; rw [HRi.out, if_pos HOk.out]
                clear HRi HOk HIn
                go_wp2_with (first
                  | (go_at_call 54; refine (HWi.out _ _ _).mono ?_; rintro e w' ⟨rfl, hw'⟩; rw [hw']; clear hw' w')
                  | (go_at_call 53; refine (HFl.out _ _ _ (HAl.out _)).mono ?_; rintro e w6 ⟨rfl, f6, k6⟩; have F6 := mkHid (HAf.out _ _ f6); have K6 := mkHid k6; clear f6 k6))
                try simp only [Exit.inBlock, Exit.then]
                refine bodyPost_ret (results_none rfl _ _ _) rfl ?_
                have hR := HRa.out
                subst hR
                exact ⟨rfl, F6.out, K6.out, fun h => by cases h⟩
            by_cases q4 : k0 = 4
            · subst q4
              have HK4 : Hid (t2.kind = 4) := HKd.out
              by_cases hs : (tn : Int) ≤ 32
              · skip
                have HOk : Hid (okR true F.C.b.symbols t2 = true) := by show _ = _; rw [HO0.out]; simp [okK, objK, elemK, hs]
                have HRb : Hid (R = if (inL F.C.b.symbols t2.kids m).1 ≠ 0 then inL F.C.b.symbols t2.kids m else litR true F.C.b.symbols (ts.drop (i + 1)) (inL F.C.b.symbols t2.kids m).2) := by show R = _; rw [HRi.out, if_neg (by rw [HOk.out]; decide), if_neg (by simp), if_pos HK4.out]; rfl
                clear HRi HOk
                go_wp2_with (go_at_call 36; refine (HIn.out _ m (HAw.out _) (HAl.out _) hm).mono ?_; rintro e w6 ⟨rfl, f6, k6, n6⟩; have F6 := mkHid (HAf.out _ _ f6); have K6 := mkHid k6; have N6 := mkHid n6; clear f6 k6 n6)
                go_roundw
                case rel => exact ⟨i + 1, by omega, by go_num, _, _, K6.out, F6.out, HRb.out.trans (litR_if ..), N6.out⟩
                case measure => simp [intOf]; omega
              · skip
                have HOk : Hid (okR true F.C.b.symbols t2 = false) := by show _ = _; rw [HO0.out]; simp [okK, objK, elemK, hs]
                have hs2 : decide ((tn : Int) ≤ 32) = false := decide_eq_false hs
                have HRa : Hid (R = (111, m)) := by show R = _; rw [HRi.out, if_pos HOk.out]
                clear HRi HOk HIn
                go_wp2_with (first
                  | (go_at_call 54; refine (HWi.out _ _ _).mono ?_; rintro e w' ⟨rfl, hw'⟩; rw [hw']; clear hw' w')
                  | (go_at_call 53; refine (HFl.out _ _ _ (HAl.out _)).mono ?_; rintro e w6 ⟨rfl, f6, k6⟩; have F6 := mkHid (HAf.out _ _ f6); have K6 := mkHid k6; clear f6 k6))
                try simp only [Exit.inBlock, Exit.then]
                refine bodyPost_ret (results_none rfl _ _ _) rfl ?_
                have hR := HRa.out
                subst hR
                exact ⟨rfl, F6.out, K6.out, fun h => by cases h⟩
            by_cases q1 : k0 = 1
            · subst q1
              have HK4 : Hid (¬ t2.kind = 4) := by show ¬ _; rw [HKd.out]; decide
              have HOk : Hid (okR true F.C.b.symbols t2 = false) := by show _ = _; rw [HO0.out]; simp [okK, objK, elemK]
              have HRa : Hid (R = (111, m)) := by show R = _; rw [HRi.out, if_pos HOk.out]
              clear HRi HOk HIn
              go_wp2_with (first
                | (go_at_call 54; refine (HWi.out _ _ _).mono ?_; rintro e w' ⟨rfl, hw'⟩; rw [hw']; clear hw' w')
                | (go_at_call 53; refine (HFl.out _ _ _ (HAl.out _)).mono ?_; rintro e w6 ⟨rfl, f6, k6⟩; have F6 := mkHid (HAf.out _ _ f6); have K6 := mkHid k6; clear f6 k6))
              try simp only [Exit.inBlock, Exit.then]
              refine bodyPost_ret (results_none rfl _ _ _) rfl ?_
              have hR := HRa.out
              subst hR
              exact ⟨rfl, F6.out, K6.out, fun h => by cases h⟩
            by_cases q3 : k0 = 3
            · subst q3
              have HK4 : Hid (¬ t2.kind = 4) := by show ¬ _; rw [HKd.out]; decide
              have HSv : Hid (∀ V, Fr [] wr V → WR V B x F [] none 0 [] none 0 m 0 ∧ Fr [x] w V ∧ V.cell? ⟨x, 8, none⟩ = some (.int .i64 F.C.b.symbols) ∧ V.cell? ⟨x, 11, none⟩ = some (.int .i64 (m : Int)) ∧ V.frozen? ⟨x, 11, none⟩ = false ∧ WR (V.setCell ⟨x, 11, none⟩ (.int .i64 ((m : Int) + 1))) B x F [] none 0 [] none 0 (m + 1) 0 ∧ Fr [x] w (V.setCell ⟨x, 11, none⟩ (.int .i64 ((m : Int) + 1)))) := fun V hV => by
                have hk := HK.out.idle hV
                have hfV := HFx.out.trans hV (by simp)
                have hs := hk.set 11 (.int .i64 ((m : Int) + 1)) (m + 1) 0 rfl
                exact ⟨hk, hfV, hk.cell 8, hk.cell 11, hk.fz 11, hs.1, hfV.trans hs.2 (fun b hb => .inl hb)⟩
              have HOk : Hid (okR true F.C.b.symbols t2 = false) := by show _ = _; rw [HO0.out]; simp [okK, objK, elemK]
              have HRa : Hid (R = (111, m)) := by show R = _; rw [HRi.out, if_pos HOk.out]
              clear HRi HOk HIn
              go_wp2_with fail
              generalize hU : wr.alloc (.cells #[.int .i64 3, .string k1, .int .i64 k2, .slice tp tn tc] 54) = U
              have fU : Hid (Fr [] wr U) := by rw [← hU]; exact Fr.alloc [] wr _
              have hbU : U.heap[wr.heap.size]? = some (.cells #[.int .i64 3, .string k1, .int .i64 k2, .slice tp tn tc] 54 (0, 0)) := by rw [← hU]; exact heap_alloc_new wr _
              have u0 : U.cell? ⟨wr.heap.size, 0, none⟩ = some (.int .i64 3) := cell_in hbU 0
              have HCU : Hid (∀ V, Hid (Fr [] U V) → V.cell? ⟨wr.heap.size, 2, none⟩ = some (.int .i64 k2) ∧ V.cell? ⟨x, 8, none⟩ = some (.int .i64 F.C.b.symbols)) := fun V hV => ⟨cell_in (hV.out.hb hbU) 2, (HSv.out V (fU.out.tr0 hV.out)).2.2.1⟩
              obtain ⟨-, -, -, v11, w11, -, -⟩ := HSv.out U fU.out
              have hR : Hid (Fr [] U U) := Fr.refl _ _
              clear hU hbU c8 c11 c12 z11 y0 y1 y2 y3
              go_quiet (fail)
              all_goals go_wp2_with (go_at_call 53; refine (HFl.out _ _ _ (HSv.out _ (fU.out.tr0 (by first | exact Fr.drew [] U | exact Fr.refl [] U | exact Fr.drewN [] U _))).1).mono ?_; rintro e w6 ⟨rfl, f6, k6⟩; have F6 := mkHid ((HSv.out _ (fU.out.tr0 (by first | exact Fr.drew [] U | exact Fr.refl [] U | exact Fr.drewN [] U _))).2.1.trans f6 (fun b hb => .inl hb)); have K6 := mkHid k6; clear f6 k6)
              all_goals try simp only [Exit.inBlock, Exit.then]
              all_goals refine bodyPost_ret (results_none rfl _ _ _) rfl ?_
              all_goals have hR := HRa.out
              all_goals subst hR
              all_goals exact ⟨rfl, F6.out, K6.out, fun h => by cases h⟩
            by_cases q5 : k0 = 5
            · subst q5
              have HK4 : Hid (¬ t2.kind = 4) := by show ¬ _; rw [HKd.out]; decide
              have HOk : Hid (okR true F.C.b.symbols t2 = false) := by show _ = _; rw [HO0.out]; simp [okK, objK, elemK]
              have HRa : Hid (R = (111, m)) := by show R = _; rw [HRi.out, if_pos HOk.out]
              clear HRi HOk HIn
              go_wp2_with (first
                | (go_at_call 54; refine (HWi.out _ _ _).mono ?_; rintro e w' ⟨rfl, hw'⟩; rw [hw']; clear hw' w')
                | (go_at_call 53; refine (HFl.out _ _ _ (HAl.out _)).mono ?_; rintro e w6 ⟨rfl, f6, k6⟩; have F6 := mkHid (HAf.out _ _ f6); have K6 := mkHid k6; clear f6 k6))
              try simp only [Exit.inBlock, Exit.then]
              refine bodyPost_ret (results_none rfl _ _ _) rfl ?_
              have hR := HRa.out
              subst hR
              exact ⟨rfl, F6.out, K6.out, fun h => by cases h⟩
            by_cases q6 : k0 = 6
            · subst q6
              have HK4 : Hid (¬ t2.kind = 4) := by show ¬ _; rw [HKd.out]; decide
              have HOk : Hid (okR true F.C.b.symbols t2 = false) := by show _ = _; rw [HO0.out]; simp [okK, objK, elemK]
              have HRa : Hid (R = (111, m)) := by show R = _; rw [HRi.out, if_pos HOk.out]
              clear HRi HOk HIn
              go_wp2_with (first
                | (go_at_call 54; refine (HWi.out _ _ _).mono ?_; rintro e w' ⟨rfl, hw'⟩; rw [hw']; clear hw' w')
                | (go_at_call 53; refine (HFl.out _ _ _ (HAl.out _)).mono ?_; rintro e w6 ⟨rfl, f6, k6⟩; have F6 := mkHid (HAf.out _ _ f6); have K6 := mkHid k6; clear f6 k6))
              try simp only [Exit.inBlock, Exit.then]
              refine bodyPost_ret (results_none rfl _ _ _) rfl ?_
              have hR := HRa.out
              subst hR
              exact ⟨rfl, F6.out, K6.out, fun h => by cases h⟩
            by_cases q7 : k0 = 7
            · subst q7
              have HK4 : Hid (¬ t2.kind = 4) := by show ¬ _; rw [HKd.out]; decide
              have HOk : Hid (okR true F.C.b.symbols t2 = false) := by show _ = _; rw [HO0.out]; simp [okK, objK, elemK]
              have HRa : Hid (R = (111, m)) := by show R = _; rw [HRi.out, if_pos HOk.out]
              clear HRi HOk HIn
              go_wp2_with (first
                | (go_at_call 54; refine (HWi.out _ _ _).mono ?_; rintro e w' ⟨rfl, hw'⟩; rw [hw']; clear hw' w')
                | (go_at_call 53; refine (HFl.out _ _ _ (HAl.out _)).mono ?_; rintro e w6 ⟨rfl, f6, k6⟩; have F6 := mkHid (HAf.out _ _ f6); have K6 := mkHid k6; clear f6 k6))
              try simp only [Exit.inBlock, Exit.then]
              refine bodyPost_ret (results_none rfl _ _ _) rfl ?_
              have hR := HRa.out
              subst hR
              exact ⟨rfl, F6.out, K6.out, fun h => by cases h⟩
            have r1 : (k0 == 1) = false := beq_eq_false_iff_ne.2 q1
            have r2 : (k0 == 2) = false := beq_eq_false_iff_ne.2 q2
            have r3 : (k0 == 3) = false := beq_eq_false_iff_ne.2 q3
            have r4 : (k0 == 4) = false := beq_eq_false_iff_ne.2 q4
            have r5 : (k0 == 5) = false := beq_eq_false_iff_ne.2 q5
            have r6 : (k0 == 6) = false := beq_eq_false_iff_ne.2 q6
            have r7 : (k0 == 7) = false := beq_eq_false_iff_ne.2 q7
            have HOk : Hid (okR true F.C.b.symbols t2 = false) := by show _ = _; rw [HO0.out]; simp [okK, objK, elemK, q1, q2, q3, q4, q5, q6, q7]
            clear q1 q2 q3 q4 q5 q6 q7
            have HRa : Hid (R = (111, m)) := by show R = _; rw [HRi.out, if_pos HOk.out]
            clear HRi HOk HIn
            go_wp2_with (first
              | (go_at_call 54; refine (HWi.out _ _ _).mono ?_; rintro e w' ⟨rfl, hw'⟩; rw [hw']; clear hw' w')
              | (go_at_call 53; refine (HFl.out _ _ _ (HAl.out _)).mono ?_; rintro e w6 ⟨rfl, f6, k6⟩; have F6 := mkHid (HAf.out _ _ f6); have K6 := mkHid k6; clear f6 k6))
            try simp only [Exit.inBlock, Exit.then]
            refine bodyPost_ret (results_none rfl _ _ _) rfl ?_
            have hR := HRa.out
            subst hR
            exact ⟨rfl, F6.out, K6.out, fun h => by cases h⟩
          · -- top false
            have HO0 := mkHid hokd
            clear hokd
            by_cases q2 : k0 = 2
            · subst q2
              have HK4 : Hid (¬ t2.kind = 4) := by show ¬ _; rw [HKd.out]; decide
              by_cases hs : (k1.size : Int) ≤ 256
              · skip
                have HOk : Hid (okR false F.C.b.symbols t2 = true) := by show _ = _; rw [HO0.out]; simp [okK, objK, elemK, hs]
                by_cases h96 : m + 1 ≤ 4096
                · have e96 : ¬ (4096 : Int) < (m : Int) + 1 := by omega
                  have HRb : Hid (R = litR false F.C.b.symbols (ts.drop (i + 1)) (m + 1)) := by show R = _; rw [HRi.out, if_neg (by rw [HOk.out]; decide), if_neg (by simp; omega), if_neg HK4.out]; rfl
                  clear HRi HOk HIn
                  go_wp2_with (first
                    | (go_at_call 54; refine (HWi.out _ _ _).mono ?_; rintro e w' ⟨rfl, hw'⟩; rw [hw']; clear hw' w'))
                  go_roundw
                  case rel => exact ⟨i + 1, by omega, by go_num, m + 1, 0, (HInc.out _).1, (HInc.out _).2, by rw [if_pos rfl]; exact HRb.out, fun _ => h96⟩
                  case measure => simp [intOf]; omega
                · have e96 : (4096 : Int) < (m : Int) + 1 := by omega
                  have HRb : Hid (R = (73, m + 1)) := by show R = _; rw [HRi.out, if_neg (by rw [HOk.out]; decide), if_pos (by simp; omega)]
                  clear HRi HOk HIn
                  go_wp2_with (first
                    | (go_at_call 54; refine (HWi.out _ _ _).mono ?_; rintro e w' ⟨rfl, hw'⟩; rw [hw']; clear hw' w')
                    | (go_at_call 53; refine (HFl.out _ _ _ (HInc.out _).1).mono ?_; rintro e w6 ⟨rfl, f6, k6⟩; have F6 := mkHid ((HInc.out _).2.trans f6 (fun b hb => .inl hb)); have K6 := mkHid k6; clear f6 k6))
                  try simp only [Exit.inBlock, Exit.then]
                  refine bodyPost_ret (results_none rfl _ _ _) rfl ?_
                  have hR := HRb.out
                  subst hR
                  exact ⟨rfl, F6.out, K6.out, fun h => by cases h⟩
              · skip
                have HOk : Hid (okR false F.C.b.symbols t2 = false) := by show _ = _; rw [HO0.out]; simp [okK, objK, elemK, hs]
                have hs2 : decide ((k1.size : Int) ≤ 256) = false := decide_eq_false hs
                have HRa : Hid (R = (111, m)) := by show R = _; rw [HRi.out, if_pos HOk.out]
                clear HRi HOk HIn
                go_wp2_with (first
                  | (go_at_call 54; refine (HWi.out _ _ _).mono ?_; rintro e w' ⟨rfl, hw'⟩; rw [hw']; clear hw' w')
                  | (go_at_call 53; refine (HFl.out _ _ _ (HAl.out _)).mono ?_; rintro e w6 ⟨rfl, f6, k6⟩; have F6 := mkHid (HAf.out _ _ f6); have K6 := mkHid k6; clear f6 k6))
                try simp only [Exit.inBlock, Exit.then]
                refine bodyPost_ret (results_none rfl _ _ _) rfl ?_
                have hR := HRa.out
                subst hR
                exact ⟨rfl, F6.out, K6.out, fun h => by cases h⟩
            by_cases q4 : k0 = 4
            · subst q4
              have HK4 : Hid (t2.kind = 4) := HKd.out
              by_cases hs : (tn : Int) ≤ 32
              · skip
                have HOk : Hid (okR false F.C.b.symbols t2 = true) := by show _ = _; rw [HO0.out]; simp [okK, objK, elemK, hs]
                by_cases h96 : m + 1 ≤ 4096
                · have e96 : ¬ (4096 : Int) < (m : Int) + 1 := by omega
                  have HRb : Hid (R = if (inL F.C.b.symbols t2.kids (m + 1)).1 ≠ 0 then inL F.C.b.symbols t2.kids (m + 1) else litR false F.C.b.symbols (ts.drop (i + 1)) (inL F.C.b.symbols t2.kids (m + 1)).2) := by show R = _; rw [HRi.out, if_neg (by rw [HOk.out]; decide), if_neg (by simp; omega), if_pos HK4.out]; rfl
                  clear HRi HOk
                  go_wp2_with (go_at_call 36; refine (HIn.out _ (m + 1) (HInc.out _).2 (HInc.out _).1 h96).mono ?_; rintro e w6 ⟨rfl, f6, k6, n6⟩; have F6 := mkHid ((HInc.out _).2.trans f6 (fun b hb => .inl hb)); have K6 := mkHid k6; have N6 := mkHid n6; clear f6 k6 n6)
                  go_roundw
                  case rel => exact ⟨i + 1, by omega, by go_num, _, _, K6.out, F6.out, HRb.out.trans (litR_if ..), N6.out⟩
                  case measure => simp [intOf]; omega
                · have e96 : (4096 : Int) < (m : Int) + 1 := by omega
                  have HRb : Hid (R = (73, m + 1)) := by show R = _; rw [HRi.out, if_neg (by rw [HOk.out]; decide), if_pos (by simp; omega)]
                  clear HRi HOk HIn
                  go_wp2_with (first
                    | (go_at_call 54; refine (HWi.out _ _ _).mono ?_; rintro e w' ⟨rfl, hw'⟩; rw [hw']; clear hw' w')
                    | (go_at_call 53; refine (HFl.out _ _ _ (HInc.out _).1).mono ?_; rintro e w6 ⟨rfl, f6, k6⟩; have F6 := mkHid ((HInc.out _).2.trans f6 (fun b hb => .inl hb)); have K6 := mkHid k6; clear f6 k6))
                  try simp only [Exit.inBlock, Exit.then]
                  refine bodyPost_ret (results_none rfl _ _ _) rfl ?_
                  have hR := HRb.out
                  subst hR
                  exact ⟨rfl, F6.out, K6.out, fun h => by cases h⟩
              · skip
                have HOk : Hid (okR false F.C.b.symbols t2 = false) := by show _ = _; rw [HO0.out]; simp [okK, objK, elemK, hs]
                have hs2 : decide ((tn : Int) ≤ 32) = false := decide_eq_false hs
                have HRa : Hid (R = (111, m)) := by show R = _; rw [HRi.out, if_pos HOk.out]
                clear HRi HOk HIn
                go_wp2_with (first
                  | (go_at_call 54; refine (HWi.out _ _ _).mono ?_; rintro e w' ⟨rfl, hw'⟩; rw [hw']; clear hw' w')
                  | (go_at_call 53; refine (HFl.out _ _ _ (HAl.out _)).mono ?_; rintro e w6 ⟨rfl, f6, k6⟩; have F6 := mkHid (HAf.out _ _ f6); have K6 := mkHid k6; clear f6 k6))
                try simp only [Exit.inBlock, Exit.then]
                refine bodyPost_ret (results_none rfl _ _ _) rfl ?_
                have hR := HRa.out
                subst hR
                exact ⟨rfl, F6.out, K6.out, fun h => by cases h⟩
            by_cases q1 : k0 = 1
            · subst q1
              have HK4 : Hid (¬ t2.kind = 4) := by show ¬ _; rw [HKd.out]; decide
              by_cases hlo : (-1073741824 : Int) ≤ k2
              · by_cases hhi : k2 ≤ (1073741823 : Int)
                · skip
                  have HOk : Hid (okR false F.C.b.symbols t2 = true) := by show _ = _; rw [HO0.out]; simp [okK, objK, elemK, inR, hlo, hhi]
                  by_cases h96 : m + 1 ≤ 4096
                  · have e96 : ¬ (4096 : Int) < (m : Int) + 1 := by omega
                    have HRb : Hid (R = litR false F.C.b.symbols (ts.drop (i + 1)) (m + 1)) := by show R = _; rw [HRi.out, if_neg (by rw [HOk.out]; decide), if_neg (by simp; omega), if_neg HK4.out]; rfl
                    clear HRi HOk HIn
                    go_wp2_with (first
                      | (go_at_call 54; refine (HWi.out _ _ _).mono ?_; rintro e w' ⟨rfl, hw'⟩; rw [hw']; clear hw' w'))
                    go_roundw
                    case rel => exact ⟨i + 1, by omega, by go_num, m + 1, 0, (HInc.out _).1, (HInc.out _).2, by rw [if_pos rfl]; exact HRb.out, fun _ => h96⟩
                    case measure => simp [intOf]; omega
                  · have e96 : (4096 : Int) < (m : Int) + 1 := by omega
                    have HRb : Hid (R = (73, m + 1)) := by show R = _; rw [HRi.out, if_neg (by rw [HOk.out]; decide), if_pos (by simp; omega)]
                    clear HRi HOk HIn
                    go_wp2_with (first
                      | (go_at_call 54; refine (HWi.out _ _ _).mono ?_; rintro e w' ⟨rfl, hw'⟩; rw [hw']; clear hw' w')
                      | (go_at_call 53; refine (HFl.out _ _ _ (HInc.out _).1).mono ?_; rintro e w6 ⟨rfl, f6, k6⟩; have F6 := mkHid ((HInc.out _).2.trans f6 (fun b hb => .inl hb)); have K6 := mkHid k6; clear f6 k6))
                    try simp only [Exit.inBlock, Exit.then]
                    refine bodyPost_ret (results_none rfl _ _ _) rfl ?_
                    have hR := HRb.out
                    subst hR
                    exact ⟨rfl, F6.out, K6.out, fun h => by cases h⟩
                · skip
                  have HOk : Hid (okR false F.C.b.symbols t2 = false) := by show _ = _; rw [HO0.out]; simp [okK, objK, elemK, inR, hlo, hhi]
                  have hhi2 : decide (k2 ≤ (1073741823 : Int)) = false := decide_eq_false hhi
                  have HRa : Hid (R = (111, m)) := by show R = _; rw [HRi.out, if_pos HOk.out]
                  clear HRi HOk HIn
                  go_wp2_with (first
                    | (go_at_call 54; refine (HWi.out _ _ _).mono ?_; rintro e w' ⟨rfl, hw'⟩; rw [hw']; clear hw' w')
                    | (go_at_call 53; refine (HFl.out _ _ _ (HAl.out _)).mono ?_; rintro e w6 ⟨rfl, f6, k6⟩; have F6 := mkHid (HAf.out _ _ f6); have K6 := mkHid k6; clear f6 k6))
                  try simp only [Exit.inBlock, Exit.then]
                  refine bodyPost_ret (results_none rfl _ _ _) rfl ?_
                  have hR := HRa.out
                  subst hR
                  exact ⟨rfl, F6.out, K6.out, fun h => by cases h⟩
              · skip
                have HOk : Hid (okR false F.C.b.symbols t2 = false) := by show _ = _; rw [HO0.out]; simp [okK, objK, elemK, inR, hlo]
                have hlo2 : decide ((-1073741824 : Int) ≤ k2) = false := decide_eq_false hlo
                have HRa : Hid (R = (111, m)) := by show R = _; rw [HRi.out, if_pos HOk.out]
                clear HRi HOk HIn
                go_wp2_with (first
                  | (go_at_call 54; refine (HWi.out _ _ _).mono ?_; rintro e w' ⟨rfl, hw'⟩; rw [hw']; clear hw' w')
                  | (go_at_call 53; refine (HFl.out _ _ _ (HAl.out _)).mono ?_; rintro e w6 ⟨rfl, f6, k6⟩; have F6 := mkHid (HAf.out _ _ f6); have K6 := mkHid k6; clear f6 k6))
                try simp only [Exit.inBlock, Exit.then]
                refine bodyPost_ret (results_none rfl _ _ _) rfl ?_
                have hR := HRa.out
                subst hR
                exact ⟨rfl, F6.out, K6.out, fun h => by cases h⟩
            by_cases q3 : k0 = 3
            · subst q3
              have HK4 : Hid (¬ t2.kind = 4) := by show ¬ _; rw [HKd.out]; decide
              have HSv : Hid (∀ V, Fr [] wr V → WR V B x F [] none 0 [] none 0 m 0 ∧ Fr [x] w V ∧ V.cell? ⟨x, 8, none⟩ = some (.int .i64 F.C.b.symbols) ∧ V.cell? ⟨x, 11, none⟩ = some (.int .i64 (m : Int)) ∧ V.frozen? ⟨x, 11, none⟩ = false ∧ WR (V.setCell ⟨x, 11, none⟩ (.int .i64 ((m : Int) + 1))) B x F [] none 0 [] none 0 (m + 1) 0 ∧ Fr [x] w (V.setCell ⟨x, 11, none⟩ (.int .i64 ((m : Int) + 1)))) := fun V hV => by
                have hk := HK.out.idle hV
                have hfV := HFx.out.trans hV (by simp)
                have hs := hk.set 11 (.int .i64 ((m : Int) + 1)) (m + 1) 0 rfl
                exact ⟨hk, hfV, hk.cell 8, hk.cell 11, hk.fz 11, hs.1, hfV.trans hs.2 (fun b hb => .inl hb)⟩
              cases hbl : bel k2 F.C.b.symbols
              · skip
                have HOk : Hid (okR false F.C.b.symbols t2 = false) := by show _ = _; rw [HO0.out]; simp [okK, objK, elemK, hbl]
                have HRa : Hid (R = (111, m)) := by show R = _; rw [HRi.out, if_pos HOk.out]
                clear HRi HOk HIn
                go_wp2_with fail
                generalize hU : wr.alloc (.cells #[.int .i64 3, .string k1, .int .i64 k2, .slice tp tn tc] 54) = U
                have fU : Hid (Fr [] wr U) := by rw [← hU]; exact Fr.alloc [] wr _
                have hbU : U.heap[wr.heap.size]? = some (.cells #[.int .i64 3, .string k1, .int .i64 k2, .slice tp tn tc] 54 (0, 0)) := by rw [← hU]; exact heap_alloc_new wr _
                have u0 : U.cell? ⟨wr.heap.size, 0, none⟩ = some (.int .i64 3) := cell_in hbU 0
                have HCU : Hid (∀ V, Hid (Fr [] U V) → V.cell? ⟨wr.heap.size, 2, none⟩ = some (.int .i64 k2) ∧ V.cell? ⟨x, 8, none⟩ = some (.int .i64 F.C.b.symbols)) := fun V hV => ⟨cell_in (hV.out.hb hbU) 2, (HSv.out V (fU.out.tr0 hV.out)).2.2.1⟩
                obtain ⟨-, -, -, v11, w11, -, -⟩ := HSv.out U fU.out
                have hR : Hid (Fr [] U U) := Fr.refl _ _
                clear hU hbU c8 c11 c12 z11 y0 y1 y2 y3
                go_region_held3 (fun V => V.cell? ⟨wr.heap.size, 2, none⟩ = some (.int .i64 k2) ∧ V.cell? ⟨x, 8, none⟩ = some (.int .i64 F.C.b.symbols))
                  (first | exact HCU.out _ (hid_dr hR) | exact HCU.out _ hR)
                  ((go_at_call 54; refine (HWi.out _ _ _).mono ?_; rintro e w' ⟨rfl, hw'⟩; rw [hw']; clear hw' w'))
                all_goals go_wp2_with (go_at_call 53; refine (HFl.out _ _ _ (HSv.out _ (fU.out.tr0 (by first | exact Fr.drew [] U | exact Fr.refl [] U | exact Fr.drewN [] U _))).1).mono ?_; rintro e w6 ⟨rfl, f6, k6⟩; have F6 := mkHid ((HSv.out _ (fU.out.tr0 (by first | exact Fr.drew [] U | exact Fr.refl [] U | exact Fr.drewN [] U _))).2.1.trans f6 (fun b hb => .inl hb)); have K6 := mkHid k6; clear f6 k6)
                all_goals try simp only [Exit.inBlock, Exit.then]
                all_goals refine bodyPost_ret (results_none rfl _ _ _) rfl ?_
                all_goals have hR := HRa.out
                all_goals subst hR
                all_goals exact ⟨rfl, F6.out, K6.out, fun h => by cases h⟩
              · skip
                have HOk : Hid (okR false F.C.b.symbols t2 = true) := by show _ = _; rw [HO0.out]; simp [okK, objK, elemK, hbl]
                by_cases h96 : m + 1 ≤ 4096
                · have e96 : ¬ (4096 : Int) < (m : Int) + 1 := by omega
                  have HRb : Hid (R = litR false F.C.b.symbols (ts.drop (i + 1)) (m + 1)) := by show R = _; rw [HRi.out, if_neg (by rw [HOk.out]; decide), if_neg (by simp; omega), if_neg HK4.out]; rfl
                  clear HRi HOk HIn
                  go_wp2_with fail
                  generalize hU : wr.alloc (.cells #[.int .i64 3, .string k1, .int .i64 k2, .slice tp tn tc] 54) = U
                  have fU : Hid (Fr [] wr U) := by rw [← hU]; exact Fr.alloc [] wr _
                  have hbU : U.heap[wr.heap.size]? = some (.cells #[.int .i64 3, .string k1, .int .i64 k2, .slice tp tn tc] 54 (0, 0)) := by rw [← hU]; exact heap_alloc_new wr _
                  have u0 : U.cell? ⟨wr.heap.size, 0, none⟩ = some (.int .i64 3) := cell_in hbU 0
                  have HCU : Hid (∀ V, Hid (Fr [] U V) → V.cell? ⟨wr.heap.size, 2, none⟩ = some (.int .i64 k2) ∧ V.cell? ⟨x, 8, none⟩ = some (.int .i64 F.C.b.symbols)) := fun V hV => ⟨cell_in (hV.out.hb hbU) 2, (HSv.out V (fU.out.tr0 hV.out)).2.2.1⟩
                  obtain ⟨-, -, -, v11, w11, -, -⟩ := HSv.out U fU.out
                  have hR : Hid (Fr [] U U) := Fr.refl _ _
                  clear hU hbU c8 c11 c12 z11 y0 y1 y2 y3
                  go_region_held3 (fun V => V.cell? ⟨wr.heap.size, 2, none⟩ = some (.int .i64 k2) ∧ V.cell? ⟨x, 8, none⟩ = some (.int .i64 F.C.b.symbols))
                    (first | exact HCU.out _ (hid_dr hR) | exact HCU.out _ hR)
                    ((go_at_call 54; refine (HWi.out _ _ _).mono ?_; rintro e w' ⟨rfl, hw'⟩; rw [hw']; clear hw' w'))
                  all_goals go_wp2_with fail
                  all_goals go_roundw
                  case rel => exact ⟨i + 1, by omega, by go_num, m + 1, 0, ((HSv.out U fU.out).2.2.2.2.2.1).idle (Fr.drew [] _), ((HSv.out U fU.out).2.2.2.2.2.2).trans (Fr.drew [] _) (by simp), by rw [if_pos rfl]; exact HRb.out, fun _ => h96⟩
                  case measure => simp [intOf]; omega
                · have e96 : (4096 : Int) < (m : Int) + 1 := by omega
                  have HRa : Hid (R = (73, m + 1)) := by show R = _; rw [HRi.out, if_neg (by rw [HOk.out]; decide), if_pos (by simp; omega)]
                  clear HRi HOk HIn
                  go_wp2_with fail
                  generalize hU : wr.alloc (.cells #[.int .i64 3, .string k1, .int .i64 k2, .slice tp tn tc] 54) = U
                  have fU : Hid (Fr [] wr U) := by rw [← hU]; exact Fr.alloc [] wr _
                  have hbU : U.heap[wr.heap.size]? = some (.cells #[.int .i64 3, .string k1, .int .i64 k2, .slice tp tn tc] 54 (0, 0)) := by rw [← hU]; exact heap_alloc_new wr _
                  have u0 : U.cell? ⟨wr.heap.size, 0, none⟩ = some (.int .i64 3) := cell_in hbU 0
                  have HCU : Hid (∀ V, Hid (Fr [] U V) → V.cell? ⟨wr.heap.size, 2, none⟩ = some (.int .i64 k2) ∧ V.cell? ⟨x, 8, none⟩ = some (.int .i64 F.C.b.symbols)) := fun V hV => ⟨cell_in (hV.out.hb hbU) 2, (HSv.out V (fU.out.tr0 hV.out)).2.2.1⟩
                  obtain ⟨-, -, -, v11, w11, -, -⟩ := HSv.out U fU.out
                  have hR : Hid (Fr [] U U) := Fr.refl _ _
                  clear hU hbU c8 c11 c12 z11 y0 y1 y2 y3
                  go_region_held3 (fun V => V.cell? ⟨wr.heap.size, 2, none⟩ = some (.int .i64 k2) ∧ V.cell? ⟨x, 8, none⟩ = some (.int .i64 F.C.b.symbols))
                    (first | exact HCU.out _ (hid_dr hR) | exact HCU.out _ hR)
                    ((go_at_call 54; refine (HWi.out _ _ _).mono ?_; rintro e w' ⟨rfl, hw'⟩; rw [hw']; clear hw' w'))
                  all_goals go_wp2_with (go_at_call 53; refine (HFl.out _ _ _ (HSv.out _ (fU.out.tr0 (by first | exact Fr.drew [] U | exact Fr.refl [] U | exact Fr.drewN [] U _))).2.2.2.2.2.1).mono ?_; rintro e w6 ⟨rfl, f6, k6⟩; have F6 := mkHid ((HSv.out _ (fU.out.tr0 (by first | exact Fr.drew [] U | exact Fr.refl [] U | exact Fr.drewN [] U _))).2.2.2.2.2.2.trans f6 (fun b hb => .inl hb)); have K6 := mkHid k6; clear f6 k6)
                  all_goals try simp only [Exit.inBlock, Exit.then]
                  all_goals refine bodyPost_ret (results_none rfl _ _ _) rfl ?_
                  all_goals have hR := HRa.out
                  all_goals subst hR
                  all_goals exact ⟨rfl, F6.out, K6.out, fun h => by cases h⟩
            by_cases q5 : k0 = 5
            · subst q5
              have HK4 : Hid (¬ t2.kind = 4) := by show ¬ _; rw [HKd.out]; decide
              have HOk : Hid (okR false F.C.b.symbols t2 = true) := by show _ = _; rw [HO0.out]; simp [okK, objK, elemK]
              by_cases h96 : m + 1 ≤ 4096
              · have e96 : ¬ (4096 : Int) < (m : Int) + 1 := by omega
                have HRb : Hid (R = litR false F.C.b.symbols (ts.drop (i + 1)) (m + 1)) := by show R = _; rw [HRi.out, if_neg (by rw [HOk.out]; decide), if_neg (by simp; omega), if_neg HK4.out]; rfl
                clear HRi HOk HIn
                go_wp2_with (first
                  | (go_at_call 54; refine (HWi.out _ _ _).mono ?_; rintro e w' ⟨rfl, hw'⟩; rw [hw']; clear hw' w'))
                go_roundw
                case rel => exact ⟨i + 1, by omega, by go_num, m + 1, 0, (HInc.out _).1, (HInc.out _).2, by rw [if_pos rfl]; exact HRb.out, fun _ => h96⟩
                case measure => simp [intOf]; omega
              · have e96 : (4096 : Int) < (m : Int) + 1 := by omega
                have HRb : Hid (R = (73, m + 1)) := by show R = _; rw [HRi.out, if_neg (by rw [HOk.out]; decide), if_pos (by simp; omega)]
                clear HRi HOk HIn
                go_wp2_with (first
                  | (go_at_call 54; refine (HWi.out _ _ _).mono ?_; rintro e w' ⟨rfl, hw'⟩; rw [hw']; clear hw' w')
                  | (go_at_call 53; refine (HFl.out _ _ _ (HInc.out _).1).mono ?_; rintro e w6 ⟨rfl, f6, k6⟩; have F6 := mkHid ((HInc.out _).2.trans f6 (fun b hb => .inl hb)); have K6 := mkHid k6; clear f6 k6))
                try simp only [Exit.inBlock, Exit.then]
                refine bodyPost_ret (results_none rfl _ _ _) rfl ?_
                have hR := HRb.out
                subst hR
                exact ⟨rfl, F6.out, K6.out, fun h => by cases h⟩
            by_cases q6 : k0 = 6
            · subst q6
              have HK4 : Hid (¬ t2.kind = 4) := by show ¬ _; rw [HKd.out]; decide
              have HOk : Hid (okR false F.C.b.symbols t2 = true) := by show _ = _; rw [HO0.out]; simp [okK, objK, elemK]
              by_cases h96 : m + 1 ≤ 4096
              · have e96 : ¬ (4096 : Int) < (m : Int) + 1 := by omega
                have HRb : Hid (R = litR false F.C.b.symbols (ts.drop (i + 1)) (m + 1)) := by show R = _; rw [HRi.out, if_neg (by rw [HOk.out]; decide), if_neg (by simp; omega), if_neg HK4.out]; rfl
                clear HRi HOk HIn
                go_wp2_with (first
                  | (go_at_call 54; refine (HWi.out _ _ _).mono ?_; rintro e w' ⟨rfl, hw'⟩; rw [hw']; clear hw' w'))
                go_roundw
                case rel => exact ⟨i + 1, by omega, by go_num, m + 1, 0, (HInc.out _).1, (HInc.out _).2, by rw [if_pos rfl]; exact HRb.out, fun _ => h96⟩
                case measure => simp [intOf]; omega
              · have e96 : (4096 : Int) < (m : Int) + 1 := by omega
                have HRb : Hid (R = (73, m + 1)) := by show R = _; rw [HRi.out, if_neg (by rw [HOk.out]; decide), if_pos (by simp; omega)]
                clear HRi HOk HIn
                go_wp2_with (first
                  | (go_at_call 54; refine (HWi.out _ _ _).mono ?_; rintro e w' ⟨rfl, hw'⟩; rw [hw']; clear hw' w')
                  | (go_at_call 53; refine (HFl.out _ _ _ (HInc.out _).1).mono ?_; rintro e w6 ⟨rfl, f6, k6⟩; have F6 := mkHid ((HInc.out _).2.trans f6 (fun b hb => .inl hb)); have K6 := mkHid k6; clear f6 k6))
                try simp only [Exit.inBlock, Exit.then]
                refine bodyPost_ret (results_none rfl _ _ _) rfl ?_
                have hR := HRb.out
                subst hR
                exact ⟨rfl, F6.out, K6.out, fun h => by cases h⟩
            by_cases q7 : k0 = 7
            · subst q7
              have HK4 : Hid (¬ t2.kind = 4) := by show ¬ _; rw [HKd.out]; decide
              have HOk : Hid (okR false F.C.b.symbols t2 = true) := by show _ = _; rw [HO0.out]; simp [okK, objK, elemK]
              by_cases h96 : m + 1 ≤ 4096
              · have e96 : ¬ (4096 : Int) < (m : Int) + 1 := by omega
                have HRb : Hid (R = litR false F.C.b.symbols (ts.drop (i + 1)) (m + 1)) := by show R = _; rw [HRi.out, if_neg (by rw [HOk.out]; decide), if_neg (by simp; omega), if_neg HK4.out]; rfl
                clear HRi HOk HIn
                go_wp2_with (first
                  | (go_at_call 54; refine (HWi.out _ _ _).mono ?_; rintro e w' ⟨rfl, hw'⟩; rw [hw']; clear hw' w'))
                go_roundw
                case rel => exact ⟨i + 1, by omega, by go_num, m + 1, 0, (HInc.out _).1, (HInc.out _).2, by rw [if_pos rfl]; exact HRb.out, fun _ => h96⟩
                case measure => simp [intOf]; omega
              · have e96 : (4096 : Int) < (m : Int) + 1 := by omega
                have HRb : Hid (R = (73, m + 1)) := by show R = _; rw [HRi.out, if_neg (by rw [HOk.out]; decide), if_pos (by simp; omega)]
                clear HRi HOk HIn
                go_wp2_with (first
                  | (go_at_call 54; refine (HWi.out _ _ _).mono ?_; rintro e w' ⟨rfl, hw'⟩; rw [hw']; clear hw' w')
                  | (go_at_call 53; refine (HFl.out _ _ _ (HInc.out _).1).mono ?_; rintro e w6 ⟨rfl, f6, k6⟩; have F6 := mkHid ((HInc.out _).2.trans f6 (fun b hb => .inl hb)); have K6 := mkHid k6; clear f6 k6))
                try simp only [Exit.inBlock, Exit.then]
                refine bodyPost_ret (results_none rfl _ _ _) rfl ?_
                have hR := HRb.out
                subst hR
                exact ⟨rfl, F6.out, K6.out, fun h => by cases h⟩
            have r1 : (k0 == 1) = false := beq_eq_false_iff_ne.2 q1
            have r2 : (k0 == 2) = false := beq_eq_false_iff_ne.2 q2
            have r3 : (k0 == 3) = false := beq_eq_false_iff_ne.2 q3
            have r4 : (k0 == 4) = false := beq_eq_false_iff_ne.2 q4
            have r5 : (k0 == 5) = false := beq_eq_false_iff_ne.2 q5
            have r6 : (k0 == 6) = false := beq_eq_false_iff_ne.2 q6
            have r7 : (k0 == 7) = false := beq_eq_false_iff_ne.2 q7
            have HOk : Hid (okR false F.C.b.symbols t2 = false) := by show _ = _; rw [HO0.out]; simp [okK, objK, elemK, q1, q2, q3, q4, q5, q6, q7]
            clear q1 q2 q3 q4 q5 q6 q7
            have HRa : Hid (R = (111, m)) := by show R = _; rw [HRi.out, if_pos HOk.out]
            clear HRi HOk HIn
            go_wp2_with (first
              | (go_at_call 54; refine (HWi.out _ _ _).mono ?_; rintro e w' ⟨rfl, hw'⟩; rw [hw']; clear hw' w')
              | (go_at_call 53; refine (HFl.out _ _ _ (HAl.out _)).mono ?_; rintro e w6 ⟨rfl, f6, k6⟩; have F6 := mkHid (HAf.out _ _ f6); have K6 := mkHid k6; clear f6 k6))
            try simp only [Exit.inBlock, Exit.then]
            refine bodyPost_ret (results_none rfl _ _ _) rfl ?_
            have hR := HRa.out
            subst hR
            exact ⟨rfl, F6.out, K6.out, fun h => by cases h⟩
        · have qE : (er == 0) = false := beq_eq_false_iff_ne.2 her
          have HK := mkHid hk
          have HFx := mkHid hfx
          rw [if_neg her] at hRi
          have HRz := mkHid hRi
          clear hst hk hfx hRi hm
          go_wp2_with fail
          go_end0
          have hR := HRz.out
          subst hR
          exact ⟨rfl, HFx.out, HK.out, fun h => absurd h her⟩
      · have i1 : ¬ (i : Int) < (ts.length : Int) := by omega
        have d1 : decide ((i : Int) < (ts.length : Int)) = false := decide_eq_false i1
        have HK := mkHid hk
        have HFx := mkHid hfx
        rw [List.drop_eq_nil_of_le (by omega), litR_nil] at hRi
        have HRz : Hid (R = (er, m)) := by
          show R = _
          rw [hRi]
          by_cases h0 : er = 0
          · rw [if_pos h0, h0]
          · rw [if_neg h0]
        have HM := mkHid hm
        clear hst hk hfx hRi hm
        go_wp2_with fail
        go_end0
        have hR := HRz.out
        subst hR
        exact ⟨rfl, HFx.out, HK.out, HM.out⟩
end
end Go.Proofs.YtdflpoldlokijaaDoor
