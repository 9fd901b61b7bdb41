import Derived.Test.YtdflpoldlokijaaDoorG13CTwin
namespace Go.Proofs.YtdflpoldlokijaaDoor
open Go.RowKit
set_option linter.unusedVariables false
set_option linter.unusedSimpArgs false
attribute [local go_sem ↓] Go.wp_at_zero Go.wp_at_succ
set_option maxRecDepth 100000 in
set_option maxHeartbeats 4000000 in
theorem block_ok (f : Nat) (IH : ReadC f) {w : World} {B a : Nat} {C : Cx} {wv : Value} {sc : List Nat} {ps : Option Addr} {cs : Nat} {pls : List Pl} {pp : Option Addr} {inf : List Inf} (h : RR w B a C wv sc ps cs pls pp inf.length) (hB : B ≤ w.heap.size) (at_ fin nxt s : Nat)
    (hat : at_ + 2 < C.ws.length) (hfin : (plD pls at_).fin = fin) (hnxt : (plD pls at_).nxt = nxt) (hs : C.w (at_ + 2) = s) (hs32 : s ≤ 32) (hsc : sc.length ≤ 24) (hf : nxt - fin < f) (hfn : fin ≤ nxt) (hnn : nxt ≤ C.ws.length) (hin : inf.length + (nxt - fin) ≤ 100000) :
    Calls Tryd.prog 43 #[.pointer (some ⟨a, 0, none⟩), .int .i64 at_] w fun e w' => e = .returned (.int .i64 (readP C f (sc ++ [s]) fin nxt (inf.length + 1) ⟨pls, inf ++ [(sc ++ [s], fin, nxt)]⟩).1) ∧ Kw B w w' ∧ ∃ ps' cs', RR w' B a C wv sc ps' cs' (readP C f (sc ++ [s]) fin nxt (inf.length + 1) ⟨pls, inf ++ [(sc ++ [s], fin, nxt)]⟩).2.pls pp (readP C f (sc ++ [s]) fin nxt (inf.length + 1) ⟨pls, inf ++ [(sc ++ [s], fin, nxt)]⟩).2.inf.length := by
  have hsh := h.short
  have hB0 := h.base
  have hwcap := h.wcap
  obtain ⟨pw, cw, rfl, hw⟩ := h.word
  have hcw := hwcap _ _ _ rfl
  obtain ⟨gw, ow, rfl, hgB, hwc⟩ := hw (by omega)
  obtain ⟨c0, -, -, -, -, -, c6, c7, c8⟩ := h.cells
  have x2 := hwc (at_ + 2) (by omega)
  rw [hs] at x2
  have hlw := lt_of_heap h.top
  have hs1 := h.sc1
  have a2 : (at_ : Int) + 2 < (C.ws.length : Int) := by omega
  have a1 : (0 : Int) ≤ (at_ : Int) + 2 := by omega
  have fz := frozen_in h.top 6
  have hwr : IntKind.i64.wrap ((at_ : Int) + 2) = (at_ : Int) + 2 := iwrap_id (by omega) (by omega)
  have htn : ((at_ : Int) + 2).toNat = at_ + 2 := by omega
  have hown : w.drew.ownsRow B 3 1 (.slice ps (zN sc).length cs) (zN sc).length ((zN sc).map (Value.int .i64)) := by rw [zN_map, zN_len]; exact h.scs
  obtain ⟨p1, c1, w1, hr1, ho1, hm1⟩ := push_int w.drew B ps cs (zN sc) s hown (by rw [zN_len]; omega) hB
  rw [zN_len] at hr1
  rw [zN_snoc, zN_len, zN_map] at ho1
  rw [show (sc ++ [s]).length = sc.length + 1 by simp] at ho1
  have HR1 := mkHid hr1
  have hblk : ∀ g ∈ blk ps, g ≠ a := fun g hg e => by
    obtain ⟨cur, hc⟩ := row_block h.scs ((blk_own ps sc.length cs g).2 hg)
    exact ty_ne hc h.top (by decide) e
  have hF1 : Fr (blk ps) w w1 := by
    rcases hm1 with ⟨-, -, e3⟩ | ⟨e1, e2⟩
    · exact (Fr.drew (blk ps) w).trans e3 (fun b hb => .inl hb)
    · exact (Fr.drew (blk ps) w).trans e1 (by simp)
  have t1 := (hF1.block a hlw (fun hm => hblk a hm rfl)).trans h.top
  have y6 : w1.cell? ⟨a, 6, none⟩ = some (.slice ps sc.length cs) := by rw [cell_in t1]; rfl
  have fz1 := frozen_in t1 6
  have hb3 : ∀ g ∈ blk ps, B ≤ g := fun g hg => (own_lt h.scs g ((blk_own ps sc.length cs g).2 hg)).1
  have hpp : ∀ g ∈ blk pp, g ≠ a ∧ g ∉ blk ps := fun g hg => by
    obtain ⟨cur, hc⟩ := row_block h.pl ((blk_own pp pls.length pls.length g).2 hg)
    refine ⟨fun e => ty_ne hc h.top (by decide) e, fun hm => ?_⟩
    obtain ⟨cur2, hc2⟩ := row_block h.scs ((blk_own ps sc.length cs g).2 hm)
    exact ty_ne hc hc2 (by decide) rfl
  have hp1a : ∀ g, (Value.slice p1 (sc.length + 1) c1).ownBlock = some g → g ≠ a := fun g hg e => by
    obtain ⟨cur, hc⟩ := row_block ho1 hg
    exact ty_ne hc t1 (by decide) e
  have F2 : Fr (a :: blk ps) w (w1.setCell ⟨a, 6, none⟩ (.slice p1 (sc.length + 1) c1)) := (hF1.mono (S' := a :: blk ps) (fun b hb => .inl (by simp [hb]))).trans (Fr.setCell (S := [a]) w1 ⟨a, 6, none⟩ _ (by simp)) (fun b hb => .inl (by simp at hb; simp [hb]))
  have hF2B : ∀ g ∈ a :: blk ps, B ≤ g := fun g hg => by
    rcases List.mem_cons.1 hg with rfl | hg
    · exact hB0
    · exact hb3 g hg
  have HR2 : Hid (RR (w1.setCell ⟨a, 6, none⟩ (.slice p1 (sc.length + 1) c1)) B a C (.slice (some ⟨gw, ow, none⟩) C.ws.length cw) (sc ++ [s]) p1 c1 pls pp inf.length ∧ Kw B w (w1.setCell ⟨a, 6, none⟩ (.slice p1 (sc.length + 1) c1))) := by
    refine ⟨h.scs' (sc2 := sc ++ [s]) F2 hF2B (fun g hg hm => ?_) ?_ ?_ (by simp; omega) (by simp) ?_, F2.kw hB hF2B⟩
    · rcases List.mem_cons.1 hm with e | hm
      · exact (hpp g hg).1 e
      · exact (hpp g hg).2 hm
    · rw [set_in t1 6 _]; unfold rcells; rw [show (sc ++ [s]).length = sc.length + 1 by simp]; rfl
    · rw [show (sc ++ [s]).length = sc.length + 1 by simp]
      exact own_congr ho1 fun g hg => Below.heap_setCell _ _ _ _ (hp1a g hg)
    · intro x hx
      rcases List.mem_append.1 hx with hx | hx
      · exact h.sc32 x hx
      · simp at hx; omega
  have HIH := mkHid IH
  clear h hw hwc hown hwcap hm1 ho1 hF1 F2 hF2B hpp hb3 hblk hp1a IH hr1
  go_enter Tryd.func43, Tryd.ntmps43
  go_wp2_with fail
  go_cut [] (fun W => Hid (RR W B a C (.slice (some ⟨gw, ow, none⟩) C.ws.length cw) (sc ++ [s]) p1 c1 pls pp inf.length ∧ Kw B w W))
  case first =>
    go_region_law (refine step_append_run rfl (.tmp 10) (.tmp 19) 23 23 rfl (.slice ps sc.length cs) (.slice (some ⟨w.heap.size, 0, none⟩) 1 1) (by simp [Act.eval]) (by simp [Act.eval]) _ _ HR1.out ?_)
    all_goals go_wp2_with fail
    all_goals
      go_meet
      case rel => exact HR2.out
  case rest =>
    clear HR2 t1 y6 fz1 HR1 c0 c6 c7 c8 x2 fz
    obtain ⟨hc1, hc2⟩ := hcut.out
    have hBc : B ≤ wc.heap.size := Nat.le_trans hB hc2.size
    obtain ⟨-, -, -, -, -, -, c6, -, c8⟩ := hc1.cells
    obtain ⟨gp, rfl, hgp, -, -, -, i3, i4, -⟩ := hc1.place at_ (by rw [hc1.plen]; omega)
    simp only [I] at i3 i4
    rw [hfin] at i3
    rw [hnxt] at i4
    have a3 : (0 : Int) ≤ (at_ : Int) := by omega
    have hpl := hc1.plen
    have a4 : (at_ : Int) < (pls.length : Int) := by omega
    have HRead : Hid (Calls Tryd.prog 25 #[.pointer (some ⟨a, 0, none⟩), .int .i64 fin, .int .i64 nxt] wc.drew fun e w' => _) := HIH.out wc.drew B a C _ (sc ++ [s]) p1 c1 pls (some ⟨gp, 0, none⟩) inf fin nxt (hc1.idle (Fr.drew [] wc)) hBc hf hfn hnn hin
    have HC2 := mkHid hc2
    have HC1 := mkHid hc1
    clear hcut hc1 hc2
    obtain ⟨⟨E, R⟩, hq⟩ : ∃ q, readP C f (sc ++ [s]) fin nxt (inf.length + 1) ⟨pls, inf ++ [(sc ++ [s], fin, nxt)]⟩ = q := ⟨_, rfl⟩
    rw [hq] at HRead
    simp only at HRead
    have HQ := mkHid hq
    clear hq
    go_wp2_with fail
    go_cut [5] (fun v W => v = .int .i64 E ∧ Hid (∃ ps' cs', RR W B a C (.slice (some ⟨gw, ow, none⟩) C.ws.length cw) (sc ++ [s]) ps' cs' R.pls (some ⟨gp, 0, none⟩) R.inf.length ∧ Kw B w W))
    case first =>
      go_region_with (go_at_call 25; refine HRead.out.mono ?_; rintro e w5 ⟨rfl, k5, ps5, cs5, h5⟩; have G5 := mkHid h5; have K5 := mkHid k5; clear h5 k5)
      all_goals go_wp2_with fail
      all_goals
        go_meet
        case rel => exact ⟨rfl, ps5, cs5, G5.out, HC2.out.trans ((Fr.drew [] wc).kw hBc (by simp) |>.trans K5.out)⟩
    case rest =>
      obtain ⟨rfl, hc⟩ := hcut
      obtain ⟨ps5, cs5, h5, k5⟩ := hc.out
      have hl5 : (sc ++ [s]).length = sc.length + 1 := by simp
      obtain ⟨-, -, -, -, -, -, c6, -, -⟩ := h5.cells
      rw [hl5] at c6
      obtain ⟨g5, rfl, hg5, hcs5, -⟩ := h5.scope
      rw [hl5] at hcs5
      have hlc := lt_of_heap h5.top
      have fz := frozen_in h5.top 6
      have HBl : Hid (Calls Tryd.prog 64 #[.pointer (some ⟨a, 0, none⟩)] wc.drew fun e w' => e = .returned (.int .i64 (sc.length : Int)) ∧ w' = wc.drew) := by
        have := blocks_ok (h5.idle (Fr.drew [] wc))
        rw [hl5, show ((sc.length + 1 : Nat) : Int) - 1 = (sc.length : Int) by push_cast; omega] at this
        exact this
      have s1 : (sc.length : Int) ≤ (cs5 : Int) := by omega
      have s2 : (0 : Int) ≤ (sc.length : Int) := by omega
      have F6 : Fr [a] wc (wc.drew.setCell ⟨a, 6, none⟩ (.slice (some ⟨g5, 0, none⟩) sc.length cs5)) := (Fr.drew [a] wc).trans (Fr.setCell (S := [a]) wc.drew ⟨a, 6, none⟩ _ (by simp)) (fun b hb => .inl hb)
      have hag : g5 ≠ a := fun e => by
        obtain ⟨cur, hcc⟩ := row_block h5.scs (g := g5) rfl
        exact ty_ne hcc h5.top (by decide) e
      have HZ : Hid (RR (wc.drew.setCell ⟨a, 6, none⟩ (.slice (some ⟨g5, 0, none⟩) sc.length cs5)) B a C (.slice (some ⟨gw, ow, none⟩) C.ws.length cw) sc (some ⟨g5, 0, none⟩) cs5 R.pls (some ⟨gp, 0, none⟩) R.inf.length) := by
        refine h5.scs' (sc2 := sc) F6 (fun g hg => by have : g = a := (by simpa using hg); rw [this]; exact hB0) (fun g hg hm => ?_) ?_ ?_ (by omega) (by omega) (fun x hx => h5.sc32 x (by simp [hx]))
        · have : g = a := by simpa using hm
          subst this
          obtain ⟨cur, hcc⟩ := row_block h5.pl ((blk_own _ R.pls.length R.pls.length g).2 hg)
          exact ty_ne hcc h5.top (by decide) rfl
        · rw [set_in (w := wc.drew) h5.top 6 _]; rfl
        · have ho : wc.ownsRow B 3 1 (.slice (some ⟨g5, 0, none⟩) (sc.length + 1) cs5) (sc.length + 1) (sc.map I ++ [I s]) := by
            have := h5.scs
            rw [hl5, List.map_append] at this
            exact this
          exact own_congr (own_less ho (by simp)) fun g hg => by
            have : g5 = g := by simpa [Value.ownBlock] using hg
            subst this
            exact Below.heap_setCell _ _ _ _ hag
      have HK : Hid (Kw B w (wc.drew.setCell ⟨a, 6, none⟩ (.slice (some ⟨g5, 0, none⟩) sc.length cs5))) := k5.trans (F6.kw (Nat.le_trans hB k5.size) (fun g hg => by have : g = a := (by simpa using hg); rw [this]; exact hB0))
      clear hc h5 k5 F6 HRead HC1 HC2 HIH
      go_wp2_with fail
      go_region_with (go_at_call 64; refine HBl.out.mono ?_; rintro e w6 ⟨rfl, hw6⟩; rw [hw6]; clear hw6 w6)
      all_goals go_wp2_with fail
      all_goals go_ret
      all_goals rw [HQ.out]
      all_goals exact ⟨rfl, HK.out, _, _, HZ.out⟩
end Go.Proofs.YtdflpoldlokijaaDoor
