import Derived.Test.YtblbjgifhgfifaaPNRMk2
import Derived.Test.YtblbjgifhgfifaaPNLast
namespace Go.Proofs.Ytblbjgifhgfifaa
open Go.RowKit
set_option linter.unusedVariables false
set_option linter.unusedSimpArgs false

set_option maxRecDepth 20000 in
set_option maxHeartbeats 4000000 in
theorem rMake_changes (l : List Cl) (kernel : Int) (name : ByteArray) (own : List ByteArray) (v ov : Value) (w : World) (h : RdC w v l) (ho : RdS w ov own) (hcap : ∀ p n c, ov = .slice p n c → n ≤ c ∧ c ≤ 9223372036854775807) (hs : Small l) (top : Nat) (hs2 : Small2 l top own) (hN : l.length ≤ 1099511627776)
    (hm : madeB l = true) (hk : ¬ kernel < 0) (hk2 : ¬ (l.length : Int) < kernel) (ha : atN l l.length name = some top) (hk3 : ¬ (top : Int) < kernel) (hl : listedZ (inherited l top) [] own = 0) (hb : belowZ l top own = 0) (hsm : own ≠ (clAt l top).own) :
    Calls Try.prog 12 #[v, .int .i64 kernel, .string name, ov] w fun e w' => ∃ vr, e = .returned (.tuple #[vr, .int .i64 (makeP l kernel name own).2]) ∧ MkOut w w' vr (makeP l kernel name own).1 := by
  have hP := makeP_go (own := own) hm hk hk2 ha hk3
  rw [if_neg (by rw [hl]; simp), if_neg (by rw [hb]; simp), if_neg hsm] at hP
  have HPf : Hid (∀ m, m ∈ affected l top l.length → full l m = true → makeP l kernel name own = ([], 138)) := mkHid (fun m h1 h2 => by
    rw [hP, if_pos]; rw [List.any_eq_true]; exact ⟨m, h1, h2⟩)
  have HPo : Hid ((∀ m ∈ affected l top l.length, full l m = false) → makeP l kernel name own = (changes l top own, 0)) := mkHid (fun h1 => by
    rw [hP, if_neg]; rw [List.any_eq_true]; rintro ⟨m, h2, h3⟩; rw [h1 m h2] at h3; cases h3)
  clear hP
  obtain ⟨_, htl, _⟩ := atN_lt ha
  have HMd := mkHid (rMade_ok l v w h hs)
  rw [hm] at HMd
  have HAt : Hid (∀ (W : World), Fr [] w W → ∀ (n : Nat) (s : ByteArray), n ≤ l.length → Calls Try.prog 30 #[v, .int .i64 n, .string s] W fun e w' => e = .returned (.int .i64 (atZ l n s)) ∧ w' = W) := mkHid (fun W hW n s hn => rAt_ok l n s v W (h.idle hW) hn)
  have HFo : Hid (∀ (W : World), Fr [] w W → ∀ (i : Nat), i < l.length → Calls Try.prog 31 #[v, .int .i64 i, .int .i64 (-1), .slice none 0 0] W fun e w' => ∃ p d, e = .returned (.slice p (fields l none [] i).length d) ∧ Mine W w' p d (fields l none [] i)) := mkHid (fun W hW i hi => rFields_ok l i none [] v _ W (h.idle hW) (rd_nil W) hi (hs i hi))
  have HFn : Hid (∀ (W : World), Fr [] w W → ∀ c, c < l.length → Calls Try.prog 31 #[v, .int .i64 c, .int .i64 top, ov] W fun e w' => ∃ p d, e = .returned (.slice p (fields l (some top) own c).length d) ∧ Mine W w' p d (fields l (some top) own c)) := mkHid (fun W hW c hc => rFields_ok l c (some top) own v ov W (h.idle hW) (ho.idle hW) hc (hs2 c hc))
  have HLi : Hid (∀ (W : World), Fr [] w W → ∀ vi, RdS W vi (inherited l top) → Calls Try.prog 32 #[vi, ov] W fun e w' => e = .returned (.int .i64 (listedZ (inherited l top) [] own)) ∧ Fr [] W w') := mkHid (fun W hW vi hvi => rListed_ok _ own vi ov W hvi (ho.idle hW) hcap)
  have HBe : Hid (∀ (W : World), Fr [] w W → Calls Try.prog 33 #[v, .int .i64 top, ov] W fun e w' => e = .returned (.int .i64 (belowZ l top own)) ∧ Fr [] W w') := mkHid (fun W hW => rBelow_ok l top own v ov W (h.idle hW) (ho.idle hW) htl hs2)
  have HSa : Hid (∀ (W : World), Fr [] w W → Calls Try.prog 34 #[ov, (clAt l top).v] W fun e w' => e = .returned (.bool (decide (own = (clAt l top).own))) ∧ ∃ m, w' = W.drewN m) := mkHid (fun W hW => rSame_ok own (clAt l top).own ov (clAt l top).v W (ho.idle hW) ((h.own top htl).idle hW))
  have HUn : Hid (∀ (W : World), Fr [] w W → ∀ c, c < l.length → Calls Try.prog 35 #[v, .int .i64 c, .int .i64 top] W fun e w' => e = .returned (.bool (under l c top)) ∧ w' = W) := mkHid (fun W hW c hc => rUnder_ok l c top v W (h.idle hW) hc htl)
  obtain ⟨po, no, co, rfl⟩ : ∃ po no co, ov = .slice po no co := by obtain ⟨pv, cv, e, _⟩ := ho.at_; exact ⟨pv, _, cv, e⟩
  obtain ⟨pt, nt, ct, et⟩ : ∃ pt nt ct, (clAt l top).v = .slice pt nt ct := by obtain ⟨pv, cv, e, _⟩ := (h.own top htl).at_; exact ⟨pv, _, cv, e⟩
  obtain ⟨p, c0, rfl, h1⟩ := h.at_
  have s1 := h.short
  obtain ⟨g, off, rfl, x1, x2⟩ := h1 (by omega)
  have HCell : Hid (∀ W, Fr [] w W → ∀ c, c < l.length → W.cell? ⟨g, off + c * 4 + 1, none⟩ = some (.string (clAt l c).sup) ∧ W.cell? ⟨g, off + c * 4 + 2, none⟩ = some (clAt l c).v ∧ W.cell? ⟨g, off + c * 4 + 3, none⟩ = some (.int .i64 (clAt l c).lay)) := mkHid (fun W hW c hc => ⟨(hW.cell (p := ⟨g, off + c * 4 + 1, none⟩) x1 (by simp)).trans (x2 c hc).2.1, (hW.cell (p := ⟨g, off + c * 4 + 2, none⟩) x1 (by simp)).trans (x2 c hc).2.2.1, (hW.cell (p := ⟨g, off + c * 4 + 3, none⟩) x1 (by simp)).trans (x2 c hc).2.2.2⟩)
  have HSm := mkHid hs
  have HSm2 := mkHid hs2
  have hA1 : atZ l l.length name = (top : Int) := by unfold atZ; rw [ha]; rfl
  have hA2 : atZ l top (clAt l top).sup = zO (upN l top) := rfl
  have t0 : ¬ (top : Int) < 0 := by omega
  have t1 : (0 : Int) ≤ (top : Int) := by omega
  have t2 : (top : Int) < (l.length : Int) := by omega
  have hInh : Hid (inherited l top = fieldsO l none [] (upN l top)) := mkHid rfl
  have HUp : Hid (∀ d, upN l top = some d → d < l.length) := mkHid (fun d hd => upN_len hd)
  rw [et] at HSa
  clear h ho hs hs2 h1 x1 x2 hcap hm ha
  rw [decide_eq_false hsm] at HSa
  clear hsm
  generalize hup : upN l top = u at *
  clear hup
  cases u with
  | none =>
    rw [show zO none = -1 from rfl] at hA2
    rw [show fieldsO l none [] none = [] from rfl] at hInh
    go_enter Try.func12, Try.ntmps12
    go_wp2_with (first | (go_at_call 29; refine HMd.out.mono ?_; rintro e w1 ⟨rfl, f1⟩; obtain ⟨k1, k2, k3⟩ := HCell.out w1 f1 top htl) | (go_at_call 30; refine (HAt.out _ f1 _ _ (by omega)).mono ?_; rintro e wx ⟨rfl, rfl⟩) | (go_at_call 32; refine (HLi.out _ f1 _ (by rw [hInh.out]; exact rd_nil _)).mono ?_; rintro e w3 ⟨rfl, g3⟩; have f3 := Fr.trans f1 g3 (by simp); clear g3) | (go_at_call 33; refine (HBe.out _ f3).mono ?_; rintro e w4 ⟨rfl, g4⟩; have f4 := Fr.trans f3 g4 (by simp); clear g4; obtain ⟨j1, j2, j3⟩ := HCell.out w4 f4 top htl; rw [et] at j2) | (go_at_call 34; refine (HSa.out _ f4).mono ?_; rintro e w5 ⟨rfl, n5, rfl⟩))
    obtain ⟨w6, hw6⟩ : ∃ x, x = w4.drewN n5 := ⟨_, rfl⟩
    rw [← hw6]
    have F6 : Hid (Fr [] w w6) := mkHid (by rw [hw6]; exact Fr.trans f4 (Fr.drewN [] _ _) (by simp))
    clear hw6 f4 j1 j2 j3 f1 k1 k2 k3 f3
    go_loopw [14, 15] (fun u q wr => ∃ (c : Nat) (p' : Option Addr) (c' : Nat) (xs : List Cg), top ≤ c ∧ c ≤ l.length ∧ q = .int .i64 c ∧ u = .slice p' xs.length c' ∧ Hid (Out w6 wr p' c' xs) ∧ Hid (xs.map Cg.c = (affected l top c).map (change l top own)) ∧ Hid (∀ m ∈ affected l top c, full l m = false)) (fun _ q _ => l.length - (intOf q).toNat)
    case atStart => exact ⟨top, none, 0, [], Nat.le_refl _, by omega, rfl, rfl, mkHid (out_nil _), mkHid (by rw [affected_top]; rfl), mkHid (by rw [affected_top]; simp)⟩
    case round =>
      obtain ⟨c, p', c', xs, hc0, hc, rfl, rfl, hout, hxs, hfu⟩ := hrel
      have i1 : (0 : Int) ≤ (c : Int) := by omega
      have FW : Hid (Fr [] w wr) := mkHid (F6.out.trans hout.out.fr (by simp))
      have hxl : xs.length ≤ c - top := by
        have e1 := congrArg List.length hxs.out
        rw [List.length_map, List.length_map] at e1
        have := affected_len l top c
        omega
      by_cases hlt : c < l.length
      · have i2 : (c : Int) < (l.length : Int) := by omega
        have HC34 := mkHid (HUn.out wr FW.out c hlt)
        obtain ⟨-, -, kl⟩ := HCell.out wr FW.out c hlt
        have HAs := mkHid (affected_snoc l top c hc0)
        have HMem : Hid (under l c top = true → c ∈ affected l top l.length) := mkHid (fun hu => affected_mem.2 ⟨by omega, hu⟩)
        have HFul : Hid (full l c = decide (1073741823 ≤ (clAt l c).lay)) := mkHid rfl
        have HO := mkHid (HFo.out wr FW.out c hlt)
        have HN : Hid (∀ W, Fr [] wr W → _) := mkHid (fun W hW => HFn.out W (FW.out.trans hW (by simp)) c hlt)
        have HCh := mkHid (change_eq l top own c)
        have szo := HSm.out c hlt
        have szn := HSm2.out c hlt
        clear HUn HCell HFo HFn HSm HSm2
        generalize under l c top = U at *
        cases U with
        | false =>
          have HX2 : Hid (xs.map Cg.c = (affected l top (c + 1)).map (change l top own)) := mkHid (by rw [HAs.out, hxs.out]; simp)
          have HF2 : Hid (∀ m ∈ affected l top (c + 1), full l m = false) := mkHid (by rw [HAs.out]; simpa using hfu.out)
          clear HO HN HCh HAs hxs hfu
          go_wp2_with (go_at_call 35; refine HC34.out.mono ?_; rintro e wx ⟨rfl, rfl⟩)
          go_roundw
          case rel => exact ⟨c + 1, p', c', xs, by omega, by omega, by go_num, rfl, hout, HX2, HF2⟩
          case measure => simp [intOf]; omega
        | true =>
          by_cases hf : 1073741823 ≤ (clAt l c).lay
          · have HE := mkHid (HPf.out c (HMem.out rfl) (by rw [HFul.out]; exact decide_eq_true hf))
            clear HO HN HCh HAs hxs hfu
            go_wp2_with (go_at_call 35; refine HC34.out.mono ?_; rintro e wx ⟨rfl, rfl⟩)
            refine bodyPost_ret (results_tmp2 rfl _ _ _) rfl ?_
            exact ⟨.slice none 0 0, by rw [HE.out]; rfl, by rw [HE.out]; exact mkOut_nil FW.out⟩
          · have HAf : Hid (affected l top (c + 1) = affected l top c ++ [c]) := mkHid HAs.out
            have HF2 : Hid (∀ m ∈ affected l top (c + 1), full l m = false) := mkHid (fun m hm => by
              rw [HAf.out] at hm
              rcases List.mem_append.1 hm with hm | hm
              · exact hfu.out m hm
              · rw [List.mem_singleton] at hm; rw [hm, HFul.out]; exact decide_eq_false hf)
            clear HAs hfu HMem HFul
            generalize hfo : fields l none [] c = fo at *
            generalize hfn : fields l (some top) own c = fn at *
            clear hfo hfn
            go_wp2_with (first
              | (go_at_call 35; refine HC34.out.mono ?_; rintro e wx ⟨rfl, rfl⟩)
              | (go_at_call 31; refine HO.out.mono ?_; rintro e w7 ⟨p7, c7, rfl, m7⟩; have HM7 := mkHid m7; clear m7 HO; have HN7 := mkHid (HN.out w7 HM7.out.fr))
              | (go_at_call 31; refine HN7.out.mono ?_; rintro e w8 ⟨p8, c8, rfl, m8⟩; have HM8 := mkHid m8; clear m8))
            obtain ⟨wo, rfl⟩ : ∃ x, x = wx := ⟨_, rfl⟩
            have FW8 : Hid (Fr [] w w8) := mkHid ((FW.out.trans HM7.out.fr (by simp)).trans HM8.out.fr (by simp))
            have HRo : Hid (RdS w8 (.slice p7 fo.length c7) fo) := mkHid ((mine_rd HM7.out szo).idle HM8.out.fr)
            have HRn : Hid (RdS w8 (.slice p8 fn.length c8) fn) := mkHid (mine_rd HM8.out szn)
            obtain ⟨pr, cr, er, hr8⟩ := HRn.out.at_
            injection er with er1 er2 er3
            subst er1
            have H8 := mkHid hr8
            obtain ⟨b, hb⟩ : ∃ b, b = w8.heap.size := ⟨_, rfl⟩
            rw [← hb]
            have HXs : Hid (Xs w8 (w8.alloc (.cells #[.int .i64 ((c : Int) + 1), .slice p7 fo.length c7, .slice p8 fn.length c8, .slice none 0 0] 36)) b ((c : Int) + 1) (.slice p7 fo.length c7) (.slice p8 fn.length c8) none 0 ((fn.take 0).map (amongZ fo))) := mkHid ⟨by rw [hb]; exact heap_alloc_new _ _, World.ownsRow_nil _ _ _ _, Fr.alloc [] _ _, by omega⟩
            generalize w8.alloc (.cells #[.int .i64 ((c : Int) + 1), .slice p7 fo.length c7, .slice p8 fn.length c8, .slice none 0 0] 36) = w9 at *
            clear hb er2 er3 hr8 HN7 HC34
            go_loopw [17] (fun q wq => ∃ (j : Nat) (pf : Option Addr) (cf : Nat), j ≤ fn.length ∧ q = .int .i64 j ∧ Hid (Xs w8 wq b ((c : Int) + 1) (.slice p7 fo.length c7) (.slice p8 fn.length c8) pf cf ((fn.take j).map (amongZ fo)))) (fun q _ => fn.length - (intOf q).toNat)
            case atStart => exact ⟨0, none, 0, Nat.zero_le _, rfl, HXs⟩
            case round =>
              obtain ⟨j, pf, cf, hj, rfl, hx⟩ := hrel
              have j1 : (0 : Int) ≤ (j : Int) := by omega
              have hzl : ((fn.take j).map (amongZ fo)).length = j := by simp; omega
              obtain ⟨y0, y1, y2, y3⟩ := hx.out.cells
              rw [hzl] at y3
              by_cases hjl : j < fn.length
              · have j2 : (j : Int) < (fn.length : Int) := by omega
                obtain ⟨gn, offn, rfl, z1, z2⟩ := H8.out (by omega)
                obtain ⟨p5, c5, w5, r5, ⟨xx, q5⟩, fz5, f5, hst5⟩ := hx.out.step (by rw [hzl]; omega) wr.drew (Fr.drew [] _) (amongZ fo (fn.getD j ⟨#[]⟩))
                rw [hzl] at r5 hst5
                have HX5 : Hid (∀ V, V.heap = (w5.setCell ⟨b, 3, none⟩ (.slice p5 (j + 1) c5)).heap → Fr [] (w5.setCell ⟨b, 3, none⟩ (.slice p5 (j + 1) c5)) V → Xs w8 V b ((c : Int) + 1) (.slice p7 fo.length c7) (.slice (some ⟨gn, offn, none⟩) fn.length c8) p5 c5 ((fn.take (j + 1)).map (amongZ fo))) := mkHid (by rw [← takeZ_snoc (amongZ fo) hjl]; exact hst5)
                have HR5 := mkHid r5
                have hfx := hx.out.fr
                have hblk : ∀ g ∈ blk pf, w8.heap.size ≤ g := fun g hg => (own_lt hx.out.row g ((blk_own _ _ _ _).2 hg)).1
                have hap := hx.out.apart
                have hbl := lt_of_heap hx.out.top
                have HKS : Hid (∀ V, Hid (Fr (blk pf) wr V) → V.cell? ⟨b, 1, none⟩ = some (.slice p7 fo.length c7) ∧ V.cell? ⟨b, 2, none⟩ = some (.slice (some ⟨gn, offn, none⟩) fn.length c8) ∧ V.cell? ⟨b, 3, none⟩ = some (.slice pf j cf) ∧ V.cell? ⟨gn, offn + j, none⟩ = some (.string (fn.getD j ⟨#[]⟩)) ∧ V.frozen? ⟨b, 3, none⟩ = false) := mkHid (fun V hV => by
                  have hVo := hV.out
                  refine ⟨(hVo.cell (p := ⟨b, 1, none⟩) hbl hap).trans y1, (hVo.cell (p := ⟨b, 2, none⟩) hbl hap).trans y2, (hVo.cell (p := ⟨b, 3, none⟩) hbl hap).trans y3, ?_, (hVo.frozen (p := ⟨b, 3, none⟩) hbl hap).trans (frozen_in hx.out.top 3)⟩
                  exact (hVo.cell (p := ⟨gn, offn + j, none⟩) (by have := hfx.size; show gn < _; omega) (fun hm => by have := hblk gn hm; omega)).trans ((hfx.cell (p := ⟨gn, offn + j, none⟩) z1 (by simp)).trans (z2 j hjl)))
                have HK0 : Hid (Fr (blk pf) wr wr.drew) := mkHid (Fr.drew _ _)
                have HKA : Hid (∀ V, Hid (Fr (blk pf) wr V) → ∀ o, Hid (Fr (blk pf) wr (V.alloc o))) := mkHid (fun V hV o => mkHid (hV.out.trans (Fr.alloc (blk pf) _ _) (fun g hg => Or.inl hg)))
                have HK5 : Hid (Fr (blk pf) wr w5) := mkHid ((Fr.drew (blk pf) wr).trans f5 (fun g hg => Or.inl hg))
                have HAm : Hid (∀ V, Hid (Fr (blk pf) wr V) → ∀ s, Calls Try.prog 36 #[.slice p7 fo.length c7, .string s] V fun e w' => e = .returned (.int .i64 (amongZ fo s)) ∧ w' = V) := mkHid (fun V hV s => rAmong_ok fo s _ V ((HRo.out.idle hfx).keep hV.out (fun hp g hg hm => by
                  have := hblk g hm
                  have := HRo.out.lt hp g hg
                  omega)))
                clear z1 z2 r5 hst5 hfx hblk hap hbl f5 hx HXs y0 y1 y2 y3 H8 hzl q5 fz5
                have e2 : wr.cell? ⟨b, 2, none⟩ = some (.slice (some ⟨gn, offn, none⟩) fn.length c8) := (HKS.out wr (mkHid (Fr.refl _ _))).2.1
                generalize fn.getD j ⟨#[]⟩ = x at *
                go_wp2_with fail
                refine wp_region_last (L := 13) (S := fun V => V.cell? ⟨b, 1, none⟩ = some (.slice p7 fo.length c7) ∧ V.cell? ⟨b, 2, none⟩ = some (.slice (some ⟨gn, offn, none⟩) fn.length c8) ∧ V.cell? ⟨b, 3, none⟩ = some (.slice pf j cf) ∧ V.cell? ⟨gn, offn + j, none⟩ = some (.string x) ∧ V.frozen? ⟨b, 3, none⟩ = false) (by kernel_rfl) (HKS.out _ HK0) (fun hHeld => ?_)
                refine wpLast_take (i := 0) (v := ?_) rfl (by kernel_rfl) (by kernel_rfl) (by kernel_rfl) (by decide) (by kernel_rfl) (fun _ _ _ h => h) (Or.inl ⟨by rfl, ?_⟩) (by assumption) ?_
                rotate_left
                · (intro w hSw; (try dsimp only at hSw); first | (go_simp; done) | (go_simp; with_reducible rfl))
                try simp only [Act.put, List.getElem_toArray, List.getElem_cons_zero, List.getElem_cons_succ, List.setIfInBounds_toArray, List.set_cons_zero, List.set_cons_succ]
                refine wpLast_take (i := 1) (v := ?_) rfl (by kernel_rfl) (by kernel_rfl) (by kernel_rfl) (by decide) (by kernel_rfl) (fun _ _ _ h => h) (Or.inl ⟨by rfl, ?_⟩) (by assumption) ?_
                rotate_left
                · (intro w hSw; (try dsimp only at hSw); first | (go_simp; done) | (go_simp; with_reducible rfl))
                try simp only [Act.put, List.getElem_toArray, List.getElem_cons_zero, List.getElem_cons_succ, List.setIfInBounds_toArray, List.set_cons_zero, List.set_cons_succ]
                refine wpLast_take (i := 2) (v := ?_) rfl (by kernel_rfl) (by kernel_rfl) (by kernel_rfl) (by decide) (by kernel_rfl) (fun _ _ _ h => h) (Or.inl ⟨by rfl, ?_⟩) (by assumption) ?_
                rotate_left
                · (intro w hSw; (try dsimp only at hSw); first | (go_simp; done) | (go_simp; with_reducible rfl))
                try simp only [Act.put, List.getElem_toArray, List.getElem_cons_zero, List.getElem_cons_succ, List.setIfInBounds_toArray, List.set_cons_zero, List.set_cons_succ]
                refine wpLast_take (i := 3) (v := ?_) rfl (by kernel_rfl) (by kernel_rfl) (by kernel_rfl) (by decide) (by kernel_rfl) (fun _ _ _ h => h) (Or.inl ⟨by rfl, ?_⟩) (by assumption) ?_
                rotate_left
                · (intro w hSw; (try dsimp only at hSw); first | (go_simp; done) | (go_simp; with_reducible rfl))
                try simp only [Act.put, List.getElem_toArray, List.getElem_cons_zero, List.getElem_cons_succ, List.setIfInBounds_toArray, List.set_cons_zero, List.set_cons_succ]
                refine wpLast_take (i := 4) (v := ?_) rfl (by kernel_rfl) (by kernel_rfl) (by kernel_rfl) (by decide) (by kernel_rfl) (fun _ _ _ h => h) (Or.inl ⟨by rfl, ?_⟩) (by assumption) ?_
                rotate_left
                · (intro w hSw; (try dsimp only at hSw); first | (go_simp; done) | (go_simp; with_reducible rfl))
                try simp only [Act.put, List.getElem_toArray, List.getElem_cons_zero, List.getElem_cons_succ, List.setIfInBounds_toArray, List.set_cons_zero, List.set_cons_succ]
                refine wpLast_take (i := 5) (v := ?_) rfl (by kernel_rfl) (by kernel_rfl) (by kernel_rfl) (by decide) (by kernel_rfl) (fun _ _ _ h => h) (Or.inl ⟨by rfl, ?_⟩) (by assumption) ?_
                rotate_left
                · (intro w hSw; (try dsimp only at hSw); first | (go_simp; done) | (go_simp; with_reducible rfl))
                try simp only [Act.put, List.getElem_toArray, List.getElem_cons_zero, List.getElem_cons_succ, List.setIfInBounds_toArray, List.set_cons_zero, List.set_cons_succ]
                refine wpLast_take (i := 6) (v := ?_) rfl (by kernel_rfl) (by kernel_rfl) (by kernel_rfl) (by decide) (by kernel_rfl) (fun _ _ _ h => h) (Or.inl ⟨by rfl, ?_⟩) (by assumption) ?_
                rotate_left
                · (intro w hSw; (try dsimp only at hSw); first | (go_simp; done) | (go_simp; with_reducible rfl))
                try simp only [Act.put, List.getElem_toArray, List.getElem_cons_zero, List.getElem_cons_succ, List.setIfInBounds_toArray, List.set_cons_zero, List.set_cons_succ]
                refine wpLast_take (i := 7) (v := ?_) rfl (by kernel_rfl) (by kernel_rfl) (by kernel_rfl) (by decide) (by kernel_rfl) (fun _ _ _ h => h) (Or.inl ⟨by rfl, ?_⟩) (by assumption) ?_
                rotate_left
                · (intro w hSw; (try dsimp only at hSw); first | (go_simp; done) | (go_simp; with_reducible rfl))
                try simp only [Act.put, List.getElem_toArray, List.getElem_cons_zero, List.getElem_cons_succ, List.setIfInBounds_toArray, List.set_cons_zero, List.set_cons_succ]
                refine wpLast_take (i := 8) (v := ?_) rfl (by kernel_rfl) (by kernel_rfl) (by kernel_rfl) (by decide) (by kernel_rfl) (fun _ _ _ h => h) (Or.inl ⟨by rfl, ?_⟩) (by assumption) ?_
                rotate_left
                · (intro w hSw; (try dsimp only at hSw); first | (go_simp; done) | (go_simp; with_reducible rfl))
                try simp only [Act.put, List.getElem_toArray, List.getElem_cons_zero, List.getElem_cons_succ, List.setIfInBounds_toArray, List.set_cons_zero, List.set_cons_succ]
                refine wpLast_one (i := 9) (by kernel_rfl) rfl (by decide) (fun K hK => ?_)
                go_simp
                go_wp2_with (go_at_call 36; refine (HAm.out _ HK0 _).mono ?_; rintro e wx ⟨rfl, rfl⟩)
                refine hK.out _ _ (HKS.out _ HK0) (fun hHeld => ?_)
                clear hK K
                try simp only [Act.put, List.getElem_toArray, List.getElem_cons_zero, List.getElem_cons_succ, List.setIfInBounds_toArray, List.set_cons_zero, List.set_cons_succ]
                refine wpLast_one (i := 10) (by kernel_rfl) rfl (by decide) (fun K hK => ?_)
                go_simp
                refine hK.out _ _ (HKS.out _ (HKA.out _ HK0 _)) (fun hHeld => ?_)
                clear hK K
                try simp only [Act.put, List.getElem_toArray, List.getElem_cons_zero, List.getElem_cons_succ, List.setIfInBounds_toArray, List.set_cons_zero, List.set_cons_succ]
                refine wpLast_one (i := 11) (by kernel_rfl) rfl (by decide) (fun K hK => ?_)
                refine step_append_run rfl (.tmp 110) (.tmp 119) 34 34 rfl _ _ rfl rfl _ _ HR5.out ?_
                refine hK.out _ _ (HKS.out _ HK5) (fun hHeld => ?_)
                clear hK K
                try simp only [Act.put, List.getElem_toArray, List.getElem_cons_zero, List.getElem_cons_succ, List.setIfInBounds_toArray, List.set_cons_zero, List.set_cons_succ]
                refine wpLast_take (i := 12) (v := ?_) rfl (by kernel_rfl) (by kernel_rfl) (by kernel_rfl) (by decide) (by kernel_rfl) (fun _ _ _ h => h) (Or.inl ⟨by rfl, ?_⟩) (by assumption) ?_
                rotate_left
                · (intro w hSw; (try dsimp only at hSw); first | (go_simp; done) | (go_simp; with_reducible rfl))
                try simp only [Act.put, List.getElem_toArray, List.getElem_cons_zero, List.getElem_cons_succ, List.setIfInBounds_toArray, List.set_cons_zero, List.set_cons_succ]
                refine wpLast_end (by kernel_rfl) rfl (by kernel_rfl) (fun K hK => ?_)
                go_simp
                refine hK.out _ _ ?_
                clear hK K
                try simp only [Act.put, List.getElem_toArray, List.getElem_cons_zero, List.getElem_cons_succ, List.setIfInBounds_toArray, List.set_cons_zero, List.set_cons_succ]
                go_wp2_with fail
                go_roundw
                case rel => exact ⟨j + 1, p5, c5, by omega, by go_num, mkHid (HX5.out _ rfl (Fr.refl _ _))⟩
                case measure => simp [intOf]; omega
              · have hje : j = fn.length := by omega
                subst hje
                have hx2 := hx.out
                rw [List.take_length] at hx2
                rw [show fn.take fn.length = fn from List.take_length] at hzl
                have hF9 : Fr [] wo wr := (HM7.out.fr.trans HM8.out.fr (by simp)).trans hx2.fr (by simp)
                have hsz8 := hx2.fr.size
                have hsz7 := HM8.out.fr.size
                have hszo := HM7.out.fr.size
                have hsz6 := hout.out.fr.size
                have hpb : ∀ g ∈ blk p', g < wo.heap.size := fun g hg => (own_lt hout.out.row g ((blk_own _ _ _ _).2 hg)).2
                have hpush := (hout.out.idle hF9).push ⟨⟨(c : Int) + 1, fo, fn, fn.map (amongZ fo)⟩, .slice p7 fo.length c7, .slice p8 fn.length c8, .slice pf (fn.map (amongZ fo)).length cf⟩ (by omega) ⟨HRo.out.idle hx2.fr, HRn.out.idle hx2.fr, own_rdI hx2.row (by rw [hzl]; exact szn)⟩ (fun g hg => by
                  rcases hg with hg | hg | hg
                  · have q := own_lt HM7.out.row g hg
                    exact ⟨by omega, by omega, fun hm => by have := hpb g hm; omega⟩
                  · have q := own_lt HM8.out.row g hg
                    exact ⟨by omega, by omega, fun hm => by have := hpb g hm; omega⟩
                  · have q := own_lt hx2.row g hg
                    exact ⟨by omega, by omega, fun hm => by have := hpb g hm; omega⟩)
                obtain ⟨pp, cc, ww, rr, oo⟩ := hpush
                rw [hzl] at rr
                have HRR := mkHid rr
                have HOO := mkHid oo
                have HXX : Hid ((xs ++ [(⟨⟨(c : Int) + 1, fo, fn, fn.map (amongZ fo)⟩, .slice p7 fo.length c7, .slice p8 fn.length c8, .slice pf (fn.map (amongZ fo)).length cf⟩ : Cg)]).map Cg.c = (affected l top (c + 1)).map (change l top own)) := mkHid (by
                  rw [HAf.out, List.map_append, List.map_append, hxs.out, List.map_singleton, List.map_singleton, HCh.out])
                clear rr oo hx hx2 hpb hout hxs HM7 HM8 H8 HRo HRn HXs hF9
                go_wp2_with (at_builtin; refine Lib.wpList_append_run _ rfl (.tmp 122) (.tmp 124) 26 26 rfl _ _ rfl rfl _ _ HRR.out ?_)
                go_roundw
                case rel => exact ⟨c + 1, pp, cc, _, by omega, by omega, by go_num, by rw [List.length_append]; rfl, HOO, HXX, HF2⟩
                case measure => simp [intOf]; omega
      · have hie : c = l.length := by omega
        subst hie
        have HE := mkHid (HPo.out hfu.out)
        have HCg : Hid (changes l top own = xs.map Cg.c) := mkHid hxs.out.symm
        clear HUn HCell HFo HFn hxs hfu
        go_wp2_with fail
        refine bodyPost_ret (results_tmp2 rfl _ _ _) rfl ?_
        exact ⟨_, by rw [HE.out]; rfl, by rw [HE.out, HCg.out]; exact hout.out.end_ F6.out (by omega)⟩

  | some d =>
    rw [show zO (some d) = (d : Int) from rfl] at hA2
    rw [show fieldsO l none [] (some d) = fields l none [] d from rfl] at hInh
    have hd := HUp.out d rfl
    have d0 : (0 : Int) ≤ (d : Int) := by omega
    have hdz := HSm.out d hd
    go_enter Try.func12, Try.ntmps12
    go_wp2_with (first | (go_at_call 29; refine HMd.out.mono ?_; rintro e w1 ⟨rfl, f1⟩; obtain ⟨k1, k2, k3⟩ := HCell.out w1 f1 top htl) | (go_at_call 30; refine (HAt.out _ f1 _ _ (by omega)).mono ?_; rintro e wx ⟨rfl, rfl⟩) | (go_at_call 31; refine (HFo.out _ f1 d hd).mono ?_; rintro e w2 ⟨p2, c2, rfl, m2⟩; have f2 := Fr.trans f1 m2.fr (by simp); have r2 := mine_rd m2 hdz; rw [← hInh.out] at r2; rw [← hInh.out]; clear m2) | (go_at_call 32; refine (HLi.out _ f2 _ r2).mono ?_; rintro e w3 ⟨rfl, g3⟩; have f3 := Fr.trans f2 g3 (by simp); clear g3) | (go_at_call 33; refine (HBe.out _ f3).mono ?_; rintro e w4 ⟨rfl, g4⟩; have f4 := Fr.trans f3 g4 (by simp); clear g4; obtain ⟨j1, j2, j3⟩ := HCell.out w4 f4 top htl; rw [et] at j2) | (go_at_call 34; refine (HSa.out _ f4).mono ?_; rintro e w5 ⟨rfl, n5, rfl⟩))
    obtain ⟨w6, hw6⟩ : ∃ x, x = w4.drewN n5 := ⟨_, rfl⟩
    rw [← hw6]
    have F6 : Hid (Fr [] w w6) := mkHid (by rw [hw6]; exact Fr.trans f4 (Fr.drewN [] _ _) (by simp))
    clear hw6 f4 j1 j2 j3 f1 k1 k2 k3 f3 f2 r2
    go_loopw [14, 15] (fun u q wr => ∃ (c : Nat) (p' : Option Addr) (c' : Nat) (xs : List Cg), top ≤ c ∧ c ≤ l.length ∧ q = .int .i64 c ∧ u = .slice p' xs.length c' ∧ Hid (Out w6 wr p' c' xs) ∧ Hid (xs.map Cg.c = (affected l top c).map (change l top own)) ∧ Hid (∀ m ∈ affected l top c, full l m = false)) (fun _ q _ => l.length - (intOf q).toNat)
    case atStart => exact ⟨top, none, 0, [], Nat.le_refl _, by omega, rfl, rfl, mkHid (out_nil _), mkHid (by rw [affected_top]; rfl), mkHid (by rw [affected_top]; simp)⟩
    case round =>
      obtain ⟨c, p', c', xs, hc0, hc, rfl, rfl, hout, hxs, hfu⟩ := hrel
      have i1 : (0 : Int) ≤ (c : Int) := by omega
      have FW : Hid (Fr [] w wr) := mkHid (F6.out.trans hout.out.fr (by simp))
      have hxl : xs.length ≤ c - top := by
        have e1 := congrArg List.length hxs.out
        rw [List.length_map, List.length_map] at e1
        have := affected_len l top c
        omega
      by_cases hlt : c < l.length
      · have i2 : (c : Int) < (l.length : Int) := by omega
        have HC34 := mkHid (HUn.out wr FW.out c hlt)
        obtain ⟨-, -, kl⟩ := HCell.out wr FW.out c hlt
        have HAs := mkHid (affected_snoc l top c hc0)
        have HMem : Hid (under l c top = true → c ∈ affected l top l.length) := mkHid (fun hu => affected_mem.2 ⟨by omega, hu⟩)
        have HFul : Hid (full l c = decide (1073741823 ≤ (clAt l c).lay)) := mkHid rfl
        have HO := mkHid (HFo.out wr FW.out c hlt)
        have HN : Hid (∀ W, Fr [] wr W → _) := mkHid (fun W hW => HFn.out W (FW.out.trans hW (by simp)) c hlt)
        have HCh := mkHid (change_eq l top own c)
        have szo := HSm.out c hlt
        have szn := HSm2.out c hlt
        clear HUn HCell HFo HFn HSm HSm2
        generalize under l c top = U at *
        cases U with
        | false =>
          have HX2 : Hid (xs.map Cg.c = (affected l top (c + 1)).map (change l top own)) := mkHid (by rw [HAs.out, hxs.out]; simp)
          have HF2 : Hid (∀ m ∈ affected l top (c + 1), full l m = false) := mkHid (by rw [HAs.out]; simpa using hfu.out)
          clear HO HN HCh HAs hxs hfu
          go_wp2_with (go_at_call 35; refine HC34.out.mono ?_; rintro e wx ⟨rfl, rfl⟩)
          go_roundw
          case rel => exact ⟨c + 1, p', c', xs, by omega, by omega, by go_num, rfl, hout, HX2, HF2⟩
          case measure => simp [intOf]; omega
        | true =>
          by_cases hf : 1073741823 ≤ (clAt l c).lay
          · have HE := mkHid (HPf.out c (HMem.out rfl) (by rw [HFul.out]; exact decide_eq_true hf))
            clear HO HN HCh HAs hxs hfu
            go_wp2_with (go_at_call 35; refine HC34.out.mono ?_; rintro e wx ⟨rfl, rfl⟩)
            refine bodyPost_ret (results_tmp2 rfl _ _ _) rfl ?_
            exact ⟨.slice none 0 0, by rw [HE.out]; rfl, by rw [HE.out]; exact mkOut_nil FW.out⟩
          · have HAf : Hid (affected l top (c + 1) = affected l top c ++ [c]) := mkHid HAs.out
            have HF2 : Hid (∀ m ∈ affected l top (c + 1), full l m = false) := mkHid (fun m hm => by
              rw [HAf.out] at hm
              rcases List.mem_append.1 hm with hm | hm
              · exact hfu.out m hm
              · rw [List.mem_singleton] at hm; rw [hm, HFul.out]; exact decide_eq_false hf)
            clear HAs hfu HMem HFul
            generalize hfo : fields l none [] c = fo at *
            generalize hfn : fields l (some top) own c = fn at *
            clear hfo hfn
            go_wp2_with (first
              | (go_at_call 35; refine HC34.out.mono ?_; rintro e wx ⟨rfl, rfl⟩)
              | (go_at_call 31; refine HO.out.mono ?_; rintro e w7 ⟨p7, c7, rfl, m7⟩; have HM7 := mkHid m7; clear m7 HO; have HN7 := mkHid (HN.out w7 HM7.out.fr))
              | (go_at_call 31; refine HN7.out.mono ?_; rintro e w8 ⟨p8, c8, rfl, m8⟩; have HM8 := mkHid m8; clear m8))
            obtain ⟨wo, rfl⟩ : ∃ x, x = wx := ⟨_, rfl⟩
            have FW8 : Hid (Fr [] w w8) := mkHid ((FW.out.trans HM7.out.fr (by simp)).trans HM8.out.fr (by simp))
            have HRo : Hid (RdS w8 (.slice p7 fo.length c7) fo) := mkHid ((mine_rd HM7.out szo).idle HM8.out.fr)
            have HRn : Hid (RdS w8 (.slice p8 fn.length c8) fn) := mkHid (mine_rd HM8.out szn)
            obtain ⟨pr, cr, er, hr8⟩ := HRn.out.at_
            injection er with er1 er2 er3
            subst er1
            have H8 := mkHid hr8
            obtain ⟨b, hb⟩ : ∃ b, b = w8.heap.size := ⟨_, rfl⟩
            rw [← hb]
            have HXs : Hid (Xs w8 (w8.alloc (.cells #[.int .i64 ((c : Int) + 1), .slice p7 fo.length c7, .slice p8 fn.length c8, .slice none 0 0] 36)) b ((c : Int) + 1) (.slice p7 fo.length c7) (.slice p8 fn.length c8) none 0 ((fn.take 0).map (amongZ fo))) := mkHid ⟨by rw [hb]; exact heap_alloc_new _ _, World.ownsRow_nil _ _ _ _, Fr.alloc [] _ _, by omega⟩
            generalize w8.alloc (.cells #[.int .i64 ((c : Int) + 1), .slice p7 fo.length c7, .slice p8 fn.length c8, .slice none 0 0] 36) = w9 at *
            clear hb er2 er3 hr8 HN7 HC34
            go_loopw [17] (fun q wq => ∃ (j : Nat) (pf : Option Addr) (cf : Nat), j ≤ fn.length ∧ q = .int .i64 j ∧ Hid (Xs w8 wq b ((c : Int) + 1) (.slice p7 fo.length c7) (.slice p8 fn.length c8) pf cf ((fn.take j).map (amongZ fo)))) (fun q _ => fn.length - (intOf q).toNat)
            case atStart => exact ⟨0, none, 0, Nat.zero_le _, rfl, HXs⟩
            case round =>
              obtain ⟨j, pf, cf, hj, rfl, hx⟩ := hrel
              have j1 : (0 : Int) ≤ (j : Int) := by omega
              have hzl : ((fn.take j).map (amongZ fo)).length = j := by simp; omega
              obtain ⟨y0, y1, y2, y3⟩ := hx.out.cells
              rw [hzl] at y3
              by_cases hjl : j < fn.length
              · have j2 : (j : Int) < (fn.length : Int) := by omega
                obtain ⟨gn, offn, rfl, z1, z2⟩ := H8.out (by omega)
                obtain ⟨p5, c5, w5, r5, ⟨xx, q5⟩, fz5, f5, hst5⟩ := hx.out.step (by rw [hzl]; omega) wr.drew (Fr.drew [] _) (amongZ fo (fn.getD j ⟨#[]⟩))
                rw [hzl] at r5 hst5
                have HX5 : Hid (∀ V, V.heap = (w5.setCell ⟨b, 3, none⟩ (.slice p5 (j + 1) c5)).heap → Fr [] (w5.setCell ⟨b, 3, none⟩ (.slice p5 (j + 1) c5)) V → Xs w8 V b ((c : Int) + 1) (.slice p7 fo.length c7) (.slice (some ⟨gn, offn, none⟩) fn.length c8) p5 c5 ((fn.take (j + 1)).map (amongZ fo))) := mkHid (by rw [← takeZ_snoc (amongZ fo) hjl]; exact hst5)
                have HR5 := mkHid r5
                have hfx := hx.out.fr
                have hblk : ∀ g ∈ blk pf, w8.heap.size ≤ g := fun g hg => (own_lt hx.out.row g ((blk_own _ _ _ _).2 hg)).1
                have hap := hx.out.apart
                have hbl := lt_of_heap hx.out.top
                have HKS : Hid (∀ V, Hid (Fr (blk pf) wr V) → V.cell? ⟨b, 1, none⟩ = some (.slice p7 fo.length c7) ∧ V.cell? ⟨b, 2, none⟩ = some (.slice (some ⟨gn, offn, none⟩) fn.length c8) ∧ V.cell? ⟨b, 3, none⟩ = some (.slice pf j cf) ∧ V.cell? ⟨gn, offn + j, none⟩ = some (.string (fn.getD j ⟨#[]⟩)) ∧ V.frozen? ⟨b, 3, none⟩ = false) := mkHid (fun V hV => by
                  have hVo := hV.out
                  refine ⟨(hVo.cell (p := ⟨b, 1, none⟩) hbl hap).trans y1, (hVo.cell (p := ⟨b, 2, none⟩) hbl hap).trans y2, (hVo.cell (p := ⟨b, 3, none⟩) hbl hap).trans y3, ?_, (hVo.frozen (p := ⟨b, 3, none⟩) hbl hap).trans (frozen_in hx.out.top 3)⟩
                  exact (hVo.cell (p := ⟨gn, offn + j, none⟩) (by have := hfx.size; show gn < _; omega) (fun hm => by have := hblk gn hm; omega)).trans ((hfx.cell (p := ⟨gn, offn + j, none⟩) z1 (by simp)).trans (z2 j hjl)))
                have HK0 : Hid (Fr (blk pf) wr wr.drew) := mkHid (Fr.drew _ _)
                have HKA : Hid (∀ V, Hid (Fr (blk pf) wr V) → ∀ o, Hid (Fr (blk pf) wr (V.alloc o))) := mkHid (fun V hV o => mkHid (hV.out.trans (Fr.alloc (blk pf) _ _) (fun g hg => Or.inl hg)))
                have HK5 : Hid (Fr (blk pf) wr w5) := mkHid ((Fr.drew (blk pf) wr).trans f5 (fun g hg => Or.inl hg))
                have HAm : Hid (∀ V, Hid (Fr (blk pf) wr V) → ∀ s, Calls Try.prog 36 #[.slice p7 fo.length c7, .string s] V fun e w' => e = .returned (.int .i64 (amongZ fo s)) ∧ w' = V) := mkHid (fun V hV s => rAmong_ok fo s _ V ((HRo.out.idle hfx).keep hV.out (fun hp g hg hm => by
                  have := hblk g hm
                  have := HRo.out.lt hp g hg
                  omega)))
                clear z1 z2 r5 hst5 hfx hblk hap hbl f5 hx HXs y0 y1 y2 y3 H8 hzl q5 fz5
                have e2 : wr.cell? ⟨b, 2, none⟩ = some (.slice (some ⟨gn, offn, none⟩) fn.length c8) := (HKS.out wr (mkHid (Fr.refl _ _))).2.1
                generalize fn.getD j ⟨#[]⟩ = x at *
                go_wp2_with fail
                refine wp_region_last (L := 13) (S := fun V => V.cell? ⟨b, 1, none⟩ = some (.slice p7 fo.length c7) ∧ V.cell? ⟨b, 2, none⟩ = some (.slice (some ⟨gn, offn, none⟩) fn.length c8) ∧ V.cell? ⟨b, 3, none⟩ = some (.slice pf j cf) ∧ V.cell? ⟨gn, offn + j, none⟩ = some (.string x) ∧ V.frozen? ⟨b, 3, none⟩ = false) (by kernel_rfl) (HKS.out _ HK0) (fun hHeld => ?_)
                refine wpLast_take (i := 0) (v := ?_) rfl (by kernel_rfl) (by kernel_rfl) (by kernel_rfl) (by decide) (by kernel_rfl) (fun _ _ _ h => h) (Or.inl ⟨by rfl, ?_⟩) (by assumption) ?_
                rotate_left
                · (intro w hSw; (try dsimp only at hSw); first | (go_simp; done) | (go_simp; with_reducible rfl))
                try simp only [Act.put, List.getElem_toArray, List.getElem_cons_zero, List.getElem_cons_succ, List.setIfInBounds_toArray, List.set_cons_zero, List.set_cons_succ]
                refine wpLast_take (i := 1) (v := ?_) rfl (by kernel_rfl) (by kernel_rfl) (by kernel_rfl) (by decide) (by kernel_rfl) (fun _ _ _ h => h) (Or.inl ⟨by rfl, ?_⟩) (by assumption) ?_
                rotate_left
                · (intro w hSw; (try dsimp only at hSw); first | (go_simp; done) | (go_simp; with_reducible rfl))
                try simp only [Act.put, List.getElem_toArray, List.getElem_cons_zero, List.getElem_cons_succ, List.setIfInBounds_toArray, List.set_cons_zero, List.set_cons_succ]
                refine wpLast_take (i := 2) (v := ?_) rfl (by kernel_rfl) (by kernel_rfl) (by kernel_rfl) (by decide) (by kernel_rfl) (fun _ _ _ h => h) (Or.inl ⟨by rfl, ?_⟩) (by assumption) ?_
                rotate_left
                · (intro w hSw; (try dsimp only at hSw); first | (go_simp; done) | (go_simp; with_reducible rfl))
                try simp only [Act.put, List.getElem_toArray, List.getElem_cons_zero, List.getElem_cons_succ, List.setIfInBounds_toArray, List.set_cons_zero, List.set_cons_succ]
                refine wpLast_take (i := 3) (v := ?_) rfl (by kernel_rfl) (by kernel_rfl) (by kernel_rfl) (by decide) (by kernel_rfl) (fun _ _ _ h => h) (Or.inl ⟨by rfl, ?_⟩) (by assumption) ?_
                rotate_left
                · (intro w hSw; (try dsimp only at hSw); first | (go_simp; done) | (go_simp; with_reducible rfl))
                try simp only [Act.put, List.getElem_toArray, List.getElem_cons_zero, List.getElem_cons_succ, List.setIfInBounds_toArray, List.set_cons_zero, List.set_cons_succ]
                refine wpLast_take (i := 4) (v := ?_) rfl (by kernel_rfl) (by kernel_rfl) (by kernel_rfl) (by decide) (by kernel_rfl) (fun _ _ _ h => h) (Or.inl ⟨by rfl, ?_⟩) (by assumption) ?_
                rotate_left
                · (intro w hSw; (try dsimp only at hSw); first | (go_simp; done) | (go_simp; with_reducible rfl))
                try simp only [Act.put, List.getElem_toArray, List.getElem_cons_zero, List.getElem_cons_succ, List.setIfInBounds_toArray, List.set_cons_zero, List.set_cons_succ]
                refine wpLast_take (i := 5) (v := ?_) rfl (by kernel_rfl) (by kernel_rfl) (by kernel_rfl) (by decide) (by kernel_rfl) (fun _ _ _ h => h) (Or.inl ⟨by rfl, ?_⟩) (by assumption) ?_
                rotate_left
                · (intro w hSw; (try dsimp only at hSw); first | (go_simp; done) | (go_simp; with_reducible rfl))
                try simp only [Act.put, List.getElem_toArray, List.getElem_cons_zero, List.getElem_cons_succ, List.setIfInBounds_toArray, List.set_cons_zero, List.set_cons_succ]
                refine wpLast_take (i := 6) (v := ?_) rfl (by kernel_rfl) (by kernel_rfl) (by kernel_rfl) (by decide) (by kernel_rfl) (fun _ _ _ h => h) (Or.inl ⟨by rfl, ?_⟩) (by assumption) ?_
                rotate_left
                · (intro w hSw; (try dsimp only at hSw); first | (go_simp; done) | (go_simp; with_reducible rfl))
                try simp only [Act.put, List.getElem_toArray, List.getElem_cons_zero, List.getElem_cons_succ, List.setIfInBounds_toArray, List.set_cons_zero, List.set_cons_succ]
                refine wpLast_take (i := 7) (v := ?_) rfl (by kernel_rfl) (by kernel_rfl) (by kernel_rfl) (by decide) (by kernel_rfl) (fun _ _ _ h => h) (Or.inl ⟨by rfl, ?_⟩) (by assumption) ?_
                rotate_left
                · (intro w hSw; (try dsimp only at hSw); first | (go_simp; done) | (go_simp; with_reducible rfl))
                try simp only [Act.put, List.getElem_toArray, List.getElem_cons_zero, List.getElem_cons_succ, List.setIfInBounds_toArray, List.set_cons_zero, List.set_cons_succ]
                refine wpLast_take (i := 8) (v := ?_) rfl (by kernel_rfl) (by kernel_rfl) (by kernel_rfl) (by decide) (by kernel_rfl) (fun _ _ _ h => h) (Or.inl ⟨by rfl, ?_⟩) (by assumption) ?_
                rotate_left
                · (intro w hSw; (try dsimp only at hSw); first | (go_simp; done) | (go_simp; with_reducible rfl))
                try simp only [Act.put, List.getElem_toArray, List.getElem_cons_zero, List.getElem_cons_succ, List.setIfInBounds_toArray, List.set_cons_zero, List.set_cons_succ]
                refine wpLast_one (i := 9) (by kernel_rfl) rfl (by decide) (fun K hK => ?_)
                go_simp
                go_wp2_with (go_at_call 36; refine (HAm.out _ HK0 _).mono ?_; rintro e wx ⟨rfl, rfl⟩)
                refine hK.out _ _ (HKS.out _ HK0) (fun hHeld => ?_)
                clear hK K
                try simp only [Act.put, List.getElem_toArray, List.getElem_cons_zero, List.getElem_cons_succ, List.setIfInBounds_toArray, List.set_cons_zero, List.set_cons_succ]
                refine wpLast_one (i := 10) (by kernel_rfl) rfl (by decide) (fun K hK => ?_)
                go_simp
                refine hK.out _ _ (HKS.out _ (HKA.out _ HK0 _)) (fun hHeld => ?_)
                clear hK K
                try simp only [Act.put, List.getElem_toArray, List.getElem_cons_zero, List.getElem_cons_succ, List.setIfInBounds_toArray, List.set_cons_zero, List.set_cons_succ]
                refine wpLast_one (i := 11) (by kernel_rfl) rfl (by decide) (fun K hK => ?_)
                refine step_append_run rfl (.tmp 110) (.tmp 119) 34 34 rfl _ _ rfl rfl _ _ HR5.out ?_
                refine hK.out _ _ (HKS.out _ HK5) (fun hHeld => ?_)
                clear hK K
                try simp only [Act.put, List.getElem_toArray, List.getElem_cons_zero, List.getElem_cons_succ, List.setIfInBounds_toArray, List.set_cons_zero, List.set_cons_succ]
                refine wpLast_take (i := 12) (v := ?_) rfl (by kernel_rfl) (by kernel_rfl) (by kernel_rfl) (by decide) (by kernel_rfl) (fun _ _ _ h => h) (Or.inl ⟨by rfl, ?_⟩) (by assumption) ?_
                rotate_left
                · (intro w hSw; (try dsimp only at hSw); first | (go_simp; done) | (go_simp; with_reducible rfl))
                try simp only [Act.put, List.getElem_toArray, List.getElem_cons_zero, List.getElem_cons_succ, List.setIfInBounds_toArray, List.set_cons_zero, List.set_cons_succ]
                refine wpLast_end (by kernel_rfl) rfl (by kernel_rfl) (fun K hK => ?_)
                go_simp
                refine hK.out _ _ ?_
                clear hK K
                try simp only [Act.put, List.getElem_toArray, List.getElem_cons_zero, List.getElem_cons_succ, List.setIfInBounds_toArray, List.set_cons_zero, List.set_cons_succ]
                go_wp2_with fail
                go_roundw
                case rel => exact ⟨j + 1, p5, c5, by omega, by go_num, mkHid (HX5.out _ rfl (Fr.refl _ _))⟩
                case measure => simp [intOf]; omega
              · have hje : j = fn.length := by omega
                subst hje
                have hx2 := hx.out
                rw [List.take_length] at hx2
                rw [show fn.take fn.length = fn from List.take_length] at hzl
                have hF9 : Fr [] wo wr := (HM7.out.fr.trans HM8.out.fr (by simp)).trans hx2.fr (by simp)
                have hsz8 := hx2.fr.size
                have hsz7 := HM8.out.fr.size
                have hszo := HM7.out.fr.size
                have hsz6 := hout.out.fr.size
                have hpb : ∀ g ∈ blk p', g < wo.heap.size := fun g hg => (own_lt hout.out.row g ((blk_own _ _ _ _).2 hg)).2
                have hpush := (hout.out.idle hF9).push ⟨⟨(c : Int) + 1, fo, fn, fn.map (amongZ fo)⟩, .slice p7 fo.length c7, .slice p8 fn.length c8, .slice pf (fn.map (amongZ fo)).length cf⟩ (by omega) ⟨HRo.out.idle hx2.fr, HRn.out.idle hx2.fr, own_rdI hx2.row (by rw [hzl]; exact szn)⟩ (fun g hg => by
                  rcases hg with hg | hg | hg
                  · have q := own_lt HM7.out.row g hg
                    exact ⟨by omega, by omega, fun hm => by have := hpb g hm; omega⟩
                  · have q := own_lt HM8.out.row g hg
                    exact ⟨by omega, by omega, fun hm => by have := hpb g hm; omega⟩
                  · have q := own_lt hx2.row g hg
                    exact ⟨by omega, by omega, fun hm => by have := hpb g hm; omega⟩)
                obtain ⟨pp, cc, ww, rr, oo⟩ := hpush
                rw [hzl] at rr
                have HRR := mkHid rr
                have HOO := mkHid oo
                have HXX : Hid ((xs ++ [(⟨⟨(c : Int) + 1, fo, fn, fn.map (amongZ fo)⟩, .slice p7 fo.length c7, .slice p8 fn.length c8, .slice pf (fn.map (amongZ fo)).length cf⟩ : Cg)]).map Cg.c = (affected l top (c + 1)).map (change l top own)) := mkHid (by
                  rw [HAf.out, List.map_append, List.map_append, hxs.out, List.map_singleton, List.map_singleton, HCh.out])
                clear rr oo hx hx2 hpb hout hxs HM7 HM8 H8 HRo HRn HXs hF9
                go_wp2_with (at_builtin; refine Lib.wpList_append_run _ rfl (.tmp 122) (.tmp 124) 26 26 rfl _ _ rfl rfl _ _ HRR.out ?_)
                go_roundw
                case rel => exact ⟨c + 1, pp, cc, _, by omega, by omega, by go_num, by rw [List.length_append]; rfl, HOO, HXX, HF2⟩
                case measure => simp [intOf]; omega
      · have hie : c = l.length := by omega
        subst hie
        have HE := mkHid (HPo.out hfu.out)
        have HCg : Hid (changes l top own = xs.map Cg.c) := mkHid hxs.out.symm
        clear HUn HCell HFo HFn hxs hfu
        go_wp2_with fail
        refine bodyPost_ret (results_tmp2 rfl _ _ _) rfl ?_
        exact ⟨_, by rw [HE.out]; rfl, by rw [HE.out, HCg.out]; exact hout.out.end_ F6.out (by omega)⟩


end Go.Proofs.Ytblbjgifhgfifaa
