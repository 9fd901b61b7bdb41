import Derived.Test.YtdflpoldlokijaaDoorG13CTwin
import Derived.Test.YtdflpoldlokijaaDoorCLand0
namespace Go.Proofs.YtdflpoldlokijaaDoor
open Go.RowKit
set_option linter.unusedVariables false
set_option linter.unusedSimpArgs false
attribute [local go_sem ↓] Go.wp_at_zero Go.wp_at_succ
/-- places that can be read, below B -/
def PlR (w : World) (B : Nat) (pp : Option Addr) (pls : List Pl) : Prop := ∀ i, i < pls.length → ∃ g, pp = some ⟨g, 0, none⟩ ∧ g < B ∧ g < w.heap.size ∧ w.cell? ⟨g, i * 6, none⟩ = some (I (plD pls i).op) ∧ w.cell? ⟨g, i * 6 + 1, none⟩ = some (I (plD pls i).body) ∧ w.cell? ⟨g, i * 6 + 2, none⟩ = some (I (plD pls i).args) ∧ w.cell? ⟨g, i * 6 + 3, none⟩ = some (I (plD pls i).fin) ∧ w.cell? ⟨g, i * 6 + 4, none⟩ = some (I (plD pls i).nxt) ∧ w.cell? ⟨g, i * 6 + 5, none⟩ = some (I (plD pls i).to)
theorem PlR.kw {w w' : World} {B : Nat} {pp : Option Addr} {pls : List Pl} (h : PlR w B pp pls) (hk : Kw B w w') : PlR w' B pp pls := fun i hi => by
  obtain ⟨g, e, g1, g2, a, b, c, d, e', f⟩ := h i hi
  have hc : ∀ o, w'.cell? ⟨g, o, none⟩ = w.cell? ⟨g, o, none⟩ := fun o => World.cell?_of_block (w := w) (a := ⟨g, o, none⟩) (hk.block g g1)
  exact ⟨g, e, g1, Nat.lt_of_lt_of_le g2 hk.size, by rw [hc]; exact a, by rw [hc]; exact b, by rw [hc]; exact c, by rw [hc]; exact d, by rw [hc]; exact e', by rw [hc]; exact f⟩
theorem Tb.kw {w w' : World} {B : Nat} (h : Tb w) (hk : Kw B w w') (h0 : 0 < B) : Tb w' := fun i hi => by
  obtain ⟨a, b, c, d, e⟩ := h i hi
  have hc : ∀ o, w'.cell? ⟨0, o, none⟩ = w.cell? ⟨0, o, none⟩ := fun o => World.cell?_of_block (w := w) (a := ⟨0, o, none⟩) (hk.block 0 h0)
  exact ⟨by rw [hc]; exact a, by rw [hc]; exact b, by rw [hc]; exact c, by rw [hc]; exact d, by rw [hc]; exact e⟩
def fcells (pp pd pc : Option Addr) (n m cc : Nat) (en un : Bool) : Array Value := #[.slice pp n n, .slice pd n n, .slice pc m cc, .bool en, .bool un]
/-- the one who goes on all ways, in memory -/
structure FW (w : World) (B x : Nat) (pls : List Pl) (pp pd : Option Addr) (s : Wk) (pc : Option Addr) (cc : Nat) : Prop where
  top : w.heap[x]? = some (.cells (fcells pp pd pc pls.length s.come.length cc s.ended s.uneven) 106 (0, 0))
  base : B ≤ x
  dep : w.ownsRow B 3 1 (.slice pd pls.length pls.length) pls.length (s.dep.map (Value.int .i64))
  come : w.ownsRow B 3 1 (.slice pc s.come.length cc) s.come.length (s.come.map I)
  pl : PlR w B pp pls
  dc : ∀ g ∈ blk pc, g ∉ blk pd
  tb : Tb w
  b0 : 0 < B
  short : pls.length ≤ 4096
section
variable {w : World} {B x : Nat} {pls : List Pl} {pp pd : Option Addr} {s : Wk} {pc : Option Addr} {cc : Nat}
theorem FW.idle {w' : World} (h : FW w B x pls pp pd s pc cc) (hB : B ≤ w.heap.size) (hf : Fr [] w w') : FW w' B x pls pp pd s pc cc :=
  ⟨hf.hb h.top, h.base, own_congr h.dep fun g hg => hf.block g (own_lt h.dep g hg).2 (by simp), own_congr h.come fun g hg => hf.block g (own_lt h.come g hg).2 (by simp), h.pl.kw (hf.kw hB (by simp)), h.dc, h.tb.idle hf, h.b0, h.short⟩
theorem FW.dl (h : FW w B x pls pp pd s pc cc) : s.dep.length = pls.length := by have := h.dep.1; simpa using this
theorem FW.cells (h : FW w B x pls pp pd s pc cc) : w.cell? ⟨x, 0, none⟩ = some (.slice pp pls.length pls.length) ∧ w.cell? ⟨x, 1, none⟩ = some (.slice pd pls.length pls.length) ∧ w.cell? ⟨x, 2, none⟩ = some (.slice pc s.come.length cc) ∧ w.cell? ⟨x, 3, none⟩ = some (.bool s.ended) ∧ w.cell? ⟨x, 4, none⟩ = some (.bool s.uneven) := by
  have := h.top
  exact ⟨by rw [cell_in this]; rfl, by rw [cell_in this]; rfl, by rw [cell_in this]; rfl, by rw [cell_in this]; rfl, by rw [cell_in this]; rfl⟩
theorem FW.dne (h : FW w B x pls pp pd s pc cc) : ∀ g ∈ blk pd, g ≠ x := fun g hg e => by
  obtain ⟨c2, hc⟩ := row_block h.dep ((blk_own pd pls.length pls.length g).2 hg)
  exact ty_ne hc h.top (by decide) e
theorem FW.cne (h : FW w B x pls pp pd s pc cc) : ∀ g ∈ blk pc, g ≠ x := fun g hg e => by
  obtain ⟨c2, hc⟩ := row_block h.come ((blk_own pc s.come.length cc g).2 hg)
  exact ty_ne hc h.top (by decide) e
theorem FW.depth (h : FW w B x pls pp pd s pc cc) (i : Nat) (hi : i < pls.length) : ∃ g, pd = some ⟨g, 0, none⟩ ∧ B ≤ g ∧ w.cell? ⟨g, i, none⟩ = some (.int .i64 (depD s.dep i)) ∧ w.frozen? ⟨g, i, none⟩ = false := by
  have h1 := h.dep
  have hl := h.dl
  rcases h1.2 with ⟨e, e0⟩ | ⟨g, cap, cur, e, q1, q2, q3, q4⟩
  · omega
  · injection e with e1 _ e3
    subst e1 e3
    refine ⟨g, rfl, q1, ?_, frozen_in q2 _⟩
    rw [own_get h1 i (by omega)]
    unfold depD
    rw [List.getD_eq_getElem?_getD, List.getD_eq_getElem?_getD, List.getElem?_eq_getElem (by omega)]; rfl
def foot (x : Nat) (pd pc : Option Addr) : List Nat := x :: (blk pd ++ blk pc)
theorem foot_x (x : Nat) (pd pc : Option Addr) : x ∈ foot x pd pc := by simp [foot]
theorem foot_d {x g : Nat} {pd pc : Option Addr} (h : g ∈ blk pd) : g ∈ foot x pd pc := by simp [foot, h]
theorem foot_c {x g : Nat} {pd pc : Option Addr} (h : g ∈ blk pc) : g ∈ foot x pd pc := by simp [foot, h]
/-- the list's block is the old one, or new -/
def Nw (w : World) (pc pc' : Option Addr) : Prop := ∀ g ∈ blk pc', g ∈ blk pc ∨ w.heap.size ≤ g
theorem FW.footB (h : FW w B x pls pp pd s pc cc) : ∀ g ∈ foot x pd pc, B ≤ g := fun g hg => by
  simp only [foot, List.mem_cons, List.mem_append] at hg
  rcases hg with rfl | hg | hg
  · exact h.base
  · exact (own_lt h.dep g ((blk_own _ _ _ _).2 hg)).1
  · exact (own_lt h.come g ((blk_own _ _ _ _).2 hg)).1
theorem FW.footL (h : FW w B x pls pp pd s pc cc) : ∀ g ∈ foot x pd pc, g < w.heap.size := fun g hg => by
  simp only [foot, List.mem_cons, List.mem_append] at hg
  rcases hg with rfl | hg | hg
  · exact lt_of_heap h.top
  · exact (own_lt h.dep g ((blk_own _ _ _ _).2 hg)).2
  · exact (own_lt h.come g ((blk_own _ _ _ _).2 hg)).2
theorem FW.kw {w' : World} (h : FW w B x pls pp pd s pc cc) (hB : B ≤ w.heap.size) (hf : Fr (foot x pd pc) w w') : Kw B w w' := hf.kw hB h.footB
/-- a flag is set -/
theorem FW.flag (h : FW w B x pls pp pd s pc cc) (hB : B ≤ w.heap.size) (i : Nat) (s2 : Wk) (hd : s2.dep = s.dep) (hc : s2.come = s.come) (ht : (fcells pp pd pc pls.length s.come.length cc s.ended s.uneven).setIfInBounds i (.bool true) = fcells pp pd pc pls.length s.come.length cc s2.ended s2.uneven) : FW (w.setCell ⟨x, i, none⟩ (.bool true)) B x pls pp pd s2 pc cc ∧ Kw B w (w.setCell ⟨x, i, none⟩ (.bool true)) := by
  have f : Fr [x] w (w.setCell ⟨x, i, none⟩ (.bool true)) := Fr.setCell (S := [x]) w ⟨x, i, none⟩ _ (by simp)
  have hk := f.kw hB (fun g hg => by simp at hg; rw [hg]; exact h.base)
  exact ⟨⟨by rw [set_in h.top i _, ht, hc], h.base, by rw [hd]; exact own_congr h.dep fun g hg => f.block g (own_lt h.dep g hg).2 (by simp; exact h.dne g ((blk_own _ _ _ _).1 hg)), by rw [hc]; exact own_congr h.come fun g hg => f.block g (own_lt h.come g hg).2 (by simp; exact h.cne g ((blk_own _ _ _ _).1 hg)), h.pl.kw hk, h.dc, h.tb.kw hk h.b0, h.b0, h.short⟩, hk⟩
set_option maxRecDepth 100000 in
set_option maxHeartbeats 400000 in
theorem meet_ok (h : FW w B x pls pp pd s pc cc) (hB : B ≤ w.heap.size) (at_ : Nat) (d : Int) (hat : at_ < pls.length) (hcl : s.come.length ≤ 100000) :
    Calls Tryd.prog 48 #[.pointer (some ⟨x, 0, none⟩), .int .i64 at_, .int .i64 d] w fun e w' => e = .returned (.tuple #[]) ∧ Fr (foot x pd pc) w w' ∧ ∃ pc' cc', FW w' B x pls pp pd (meetP s at_ d) pc' cc' ∧ Nw w pc pc' := by
  obtain ⟨-, c1, c2, -, c4⟩ := h.cells
  have hbx := h.base
  have hsh := h.short
  obtain ⟨gd, rfl, hgB, y0, z0⟩ := h.depth at_ hat
  have fz2 := frozen_in h.top 2
  have fz4 := frozen_in h.top 4
  have a0 : (0 : Int) ≤ (at_ : Int) := by omega
  have a1 : (at_ : Int) < (pls.length : Int) := by omega
  have hgx : gd ≠ x := h.dne gd (by simp [blk])
  have hlx := lt_of_heap h.top
  by_cases e1 : depD s.dep at_ = d
  · have HM : Hid (meetP s at_ d = s) := mkHid (if_pos e1)
    have q1 : (depD s.dep at_ == d) = true := beq_iff_eq.2 e1
    have HH := mkHid h
    clear h
    rw [e1] at y0
    clear e1 q1 c2 c4 fz2 fz4
    go_enter Tryd.func48, Tryd.ntmps48
    go_wp2_with fail
    go_end0
    exact ⟨rfl, Fr.refl _ _, pc, cc, by rw [HM.out]; exact HH.out, fun g hg => .inl hg⟩
  · have q1 : (depD s.dep at_ == d) = false := beq_eq_false_iff_ne.2 e1
    by_cases e2 : depD s.dep at_ = -1
    · have HM : Hid (meetP s at_ d = ⟨s.dep.set at_ d, s.come ++ [at_], s.ended, s.uneven⟩) := by show meetP s at_ d = _; unfold meetP; rw [if_neg e1, if_pos e2]
      have f1 : Fr [gd] w (w.setCell ⟨gd, at_, none⟩ (.int .i64 d)) := Fr.setCell (S := [gd]) w ⟨gd, at_, none⟩ _ (by simp)
      have ho : (w.setCell ⟨gd, at_, none⟩ (.int .i64 d)).ownsRow B 3 1 (.slice pc (zN s.come).length cc) (zN s.come).length ((zN s.come).map (Value.int .i64)) := by
        rw [zN_map, zN_len]
        exact own_congr h.come fun g hg => f1.block g (own_lt h.come g hg).2 (fun hm => h.dc g ((blk_own _ _ _ _).1 hg) (by simp at hm; simp [blk, hm]))
      have hod : (w.setCell ⟨gd, at_, none⟩ (.int .i64 d)).ownsRow B 3 1 (.slice (some ⟨gd, 0, none⟩) pls.length pls.length) pls.length ((s.dep.set at_ d).map (Value.int .i64)) := by
        have := (h.dep.stored at_ (.int .i64 d)).1
        rw [← List.map_set] at this
        exact this
      have t1 : (w.setCell ⟨gd, at_, none⟩ (.int .i64 d)).heap[x]? = _ := (f1.block x hlx (by simp; exact Ne.symm hgx)).trans h.top
      obtain ⟨p1, c1', w1, hr1, ho1, hm1⟩ := push_int (w.setCell ⟨gd, at_, none⟩ (.int .i64 d)) B pc cc (zN s.come) at_ ho (by rw [zN_len]; omega) (by simp; omega)
      have hsz : (w.setCell ⟨gd, at_, none⟩ (.int .i64 d)).heap.size = w.heap.size := by simp
      rw [zN_len, hsz] at hr1
      rw [zN_snoc, zN_len, zN_map, show (s.come ++ [at_]).length = s.come.length + 1 by simp] at ho1
      have F1 : Fr (blk pc) (w.setCell ⟨gd, at_, none⟩ (.int .i64 d)) w1 := by
        rcases hm1 with ⟨-, -, e3⟩ | ⟨e1, -⟩
        · exact e3
        · exact e1.mono (by simp)
      have t2 := (F1.block x (lt_of_heap t1) (fun hm => h.cne x hm rfl)).trans t1
      have y2 : w1.cell? ⟨x, 2, none⟩ = some (.slice pc s.come.length cc) := by rw [cell_in t2]; rfl
      have fz3 := frozen_in t2 2
      have hpx : ∀ g, (Value.slice p1 (s.come.length + 1) c1').ownBlock = some g → g ≠ x := fun g hg e => by
        obtain ⟨cur, hc⟩ := row_block ho1 hg
        exact ty_ne hc t2 (by decide) e
      have hpcB : ∀ g ∈ blk pc, B ≤ g := fun g hg => (own_lt h.come g ((blk_own _ _ _ _).2 hg)).1
      have hdc := h.dc
      have HF : Hid (FW (w1.setCell ⟨x, 2, none⟩ (.slice p1 (s.come.length + 1) c1')) B x pls pp (some ⟨gd, 0, none⟩) ⟨s.dep.set at_ d, s.come ++ [at_], s.ended, s.uneven⟩ p1 c1' ∧ Fr (foot x (some ⟨gd, 0, none⟩) pc) w (w1.setCell ⟨x, 2, none⟩ (.slice p1 (s.come.length + 1) c1')) ∧ Nw w pc p1) := by
        have f3 : Fr [x] w1 (w1.setCell ⟨x, 2, none⟩ (.slice p1 (s.come.length + 1) c1')) := Fr.setCell (S := [x]) w1 ⟨x, 2, none⟩ _ (by simp)
        have s1 := f1.size
        have s2 := F1.size
        have hk : Kw B w (w1.setCell ⟨x, 2, none⟩ (.slice p1 (s.come.length + 1) c1')) := (f1.kw hB (fun g hg => by simp at hg; rw [hg]; exact hgB)).trans ((F1.kw (by omega) hpcB).trans (f3.kw (by omega) (fun g hg => by simp at hg; rw [hg]; exact hbx)))
        have hfr : Fr (foot x (some ⟨gd, 0, none⟩) pc) w (w1.setCell ⟨x, 2, none⟩ (.slice p1 (s.come.length + 1) c1')) := ((f1.mono (S' := foot x (some ⟨gd, 0, none⟩) pc) (fun g hg => .inl (foot_d (by simp at hg; simp [blk, hg])))).trans F1 (fun g hg => .inl (foot_c hg))).trans f3 (fun g hg => .inl (by simp at hg; rw [hg]; exact foot_x _ _ _))
        refine ⟨⟨?_, hbx, ?_, ?_, h.pl.kw hk, ?_, h.tb.kw hk h.b0, h.b0, hsh⟩, hfr, ?_⟩
        · rw [set_in t2 2 _]
          unfold fcells
          rw [show (s.come ++ [at_]).length = s.come.length + 1 by simp]; rfl
        · exact own_congr hod fun g hg => by
            have e : gd = g := by simpa [Value.ownBlock] using hg
            subst e
            rw [f3.block gd (by have := (own_lt hod gd rfl).2; omega) (by simp; exact hgx)]
            exact F1.block gd (own_lt hod gd rfl).2 (fun hm => hdc gd hm (by simp [blk]))
        · show World.ownsRow _ B 3 1 (.slice p1 (s.come ++ [at_]).length c1') (s.come ++ [at_]).length ((s.come ++ [at_]).map I)
          rw [show (s.come ++ [at_]).length = s.come.length + 1 by simp]
          exact own_congr ho1 fun g hg => f3.block g (own_lt ho1 g hg).2 (by simp; exact hpx g hg)
        · intro g hg hm
          have e : g = gd := by simpa [blk] using hm
          subst e
          rcases hm1 with ⟨e3, -, -⟩ | ⟨-, e4⟩
          · rw [e3] at hg; exact hdc g hg (by simp [blk])
          · have := e4 g hg
            have := (own_lt h.dep g rfl).2
            omega
        · intro g hg
          rcases hm1 with ⟨e3, -, -⟩ | ⟨-, e4⟩
          · rw [e3] at hg; exact .inl hg
          · have := e4 g hg; exact .inr (by omega)
      have q2 : (depD s.dep at_ == -1) = true := beq_iff_eq.2 e2
      rw [e2] at y0 q1
      have HR1 := mkHid hr1
      clear h hm1 ho1 hod ho f1 F1 t1 t2 hr1 e1 e2 q2 hpx hpcB hdc hsz
      go_enter Tryd.func48, Tryd.ntmps48
      go_wp2_with (at_builtin; refine Lib.wpList_append_run _ rfl (.tmp 32) (.tmp 34) 23 23 rfl _ _ rfl rfl _ _ HR1.out ?_)
      go_end0
      exact ⟨rfl, HF.out.2.1, p1, c1', by rw [HM.out]; exact HF.out.1, HF.out.2.2⟩
    · have q2 : (depD s.dep at_ == -1) = false := beq_eq_false_iff_ne.2 e2
      have HM : Hid (meetP s at_ d = ⟨s.dep, s.come, s.ended, true⟩) := by show meetP s at_ d = _; unfold meetP; rw [if_neg e1, if_neg e2]
      have HF := mkHid (h.flag hB 4 ⟨s.dep, s.come, s.ended, true⟩ rfl rfl rfl)
      generalize depD s.dep at_ = dd at *
      clear h e1 e2
      go_enter Tryd.func48, Tryd.ntmps48
      go_wp2_with fail
      go_end0
      exact ⟨rfl, Fr.setCell _ _ _ (foot_x _ _ _), pc, cc, by rw [HM.out]; exact HF.out.1, fun g hg => .inl hg⟩
end
end Go.Proofs.YtdflpoldlokijaaDoor
namespace Go.Proofs.YtdflpoldlokijaaDoor
open Go.RowKit
set_option linter.unusedVariables false
set_option linter.unusedSimpArgs false
attribute [local go_sem ↓] Go.wp_at_zero Go.wp_at_succ
section
variable {w : World} {B x : Nat} {pls : List Pl} {pp pd : Option Addr} {s : Wk} {pc : Option Addr} {cc : Nat}
set_option maxRecDepth 100000 in
set_option maxHeartbeats 2000000 in
theorem goOn_ok (h : FW w B x pls pp pd s pc cc) (hB : B ≤ w.heap.size) (p : Pl) (d : Int) (hn : p.nxt ≤ pls.length) (hcl : s.come.length ≤ 100000) :
    Calls Tryd.prog 67 #[.pointer (some ⟨x, 0, none⟩), .agg #[.int .i64 p.op, .int .i64 p.body, .int .i64 p.args, .int .i64 p.fin, .int .i64 p.nxt, .int .i64 p.to], .int .i64 d] w fun e w' => e = .returned (.tuple #[]) ∧ Fr (foot x pd pc) w w' ∧ ∃ pc' cc', FW w' B x pls pp pd (goOnP pls s p d) pc' cc' ∧ Nw w pc pc' := by
  have hsh := h.short
  obtain ⟨V, hV⟩ : ∃ V, w.alloc (.cells #[.int .i64 p.op, .int .i64 p.body, .int .i64 p.args, .int .i64 p.fin, .int .i64 p.nxt, .int .i64 p.to] 93) = V := ⟨_, rfl⟩
  have FV : Fr [] w V := by rw [← hV]; exact Fr.alloc [] w _
  have GV : V.heap[w.heap.size]? = some (.cells #[.int .i64 p.op, .int .i64 p.body, .int .i64 p.args, .int .i64 p.fin, .int .i64 p.nxt, .int .i64 p.to] 93 (0, 0)) := by rw [← hV]; exact heap_alloc_new w _
  have hV2 := h.idle hB FV
  have hBV : B ≤ V.heap.size := Nat.le_trans hB FV.size
  obtain ⟨c0, -, -, c3, -⟩ := hV2.cells
  have l1 : V.cell? ⟨w.heap.size, 1, none⟩ = some (.int .i64 p.body) := by rw [cell_in GV]; rfl
  have l4 : V.cell? ⟨w.heap.size, 4, none⟩ = some (.int .i64 p.nxt) := by rw [cell_in GV]; rfl
  have fz := frozen_in hV2.top 3
  have HKV : Hid (Fr [] w V) := FV
  have HEnd : Hid (∀ n, FW ((V.drewN n).setCell ⟨x, 3, none⟩ (.bool true)) B x pls pp pd { s with ended := true } pc cc ∧ Fr (foot x pd pc) (V.drewN n) ((V.drewN n).setCell ⟨x, 3, none⟩ (.bool true))) := fun n => ⟨((hV2.idle hBV (Fr.drewN [] V n)).flag hBV 3 { s with ended := true } rfl rfl rfl).1, Fr.setCell _ _ _ (foot_x _ _ _)⟩
  have HKn : Hid (∀ n, Fr (foot x pd pc) w (V.drewN n)) := fun n => (HKV.out.dn n).mono (by simp)
  have HVs : Hid (w.heap.size ≤ V.heap.size) := FV.size
  have hx : x < V.heap.size := lt_of_heap hV2.top
  by_cases e1 : p.nxt = pls.length
  · have HG : Hid (goOnP pls s p d = { s with ended := true }) := mkHid (if_pos (.inl e1))
    have q1 : ((p.nxt : Int) == (pls.length : Int)) = true := beq_iff_eq.2 (by omega)
    clear h hV2 GV FV e1
    go_enter Tryd.func67, Tryd.ntmps67
    go_wp2_with fail
    try rw [hV]
    clear hV
    go_quiet (fail)
    go_wp2_with fail
    (try simp only [Exit.inBlock, Exit.then])
    refine bodyPost_ret (results_none rfl _ _ _) rfl ?_
    exact ⟨rfl, (HKn.out _).trans (HEnd.out _).2 (fun g hg => .inl hg), pc, cc, by rw [HG.out]; exact (HEnd.out _).1, fun g hg => .inl hg⟩
  · have q1 : ((p.nxt : Int) == (pls.length : Int)) = false := beq_eq_false_iff_ne.2 (by omega)
    have n1 : (p.nxt : Int) < (pls.length : Int) := by omega
    have n0 : (0 : Int) ≤ (p.nxt : Int) := by omega
    obtain ⟨gp, rfl, hgB, hgl, -, b1, -⟩ := hV2.pl p.nxt (by omega)
    simp only [I] at b1
    by_cases e2 : (plD pls p.nxt).body = p.body
    · have HG : Hid (goOnP pls s p d = meetP s p.nxt d) := mkHid (if_neg (by simp only [not_or, Decidable.not_not]; exact ⟨e1, e2⟩))
      have q2 : ((p.body : Int) != (p.body : Int)) = false := by simp
      rw [e2] at b1
      have HM : Hid (∀ n, Calls Tryd.prog 48 #[.pointer (some ⟨x, 0, none⟩), .int .i64 p.nxt, .int .i64 d] (V.drewN n) fun e w' => e = .returned (.tuple #[]) ∧ Fr (foot x pd pc) (V.drewN n) w' ∧ ∃ pc' cc', FW w' B x pls (some ⟨gp, 0, none⟩) pd (meetP s p.nxt d) pc' cc' ∧ Nw (V.drewN n) pc pc') := fun n => meet_ok (hV2.idle hBV (Fr.drewN [] V n)) hBV p.nxt d (by omega) hcl
      clear h hV2 GV FV e1 e2 HEnd q2
      go_enter Tryd.func67, Tryd.ntmps67
      go_wp2_with fail
      try rw [hV]
      clear hV
      go_quiet (fail)
      go_wp2_with (go_at_call 48; refine (HM.out _).mono ?_; rintro e w5 ⟨rfl, k5, pc5, cc5, h5, n5⟩; have N5 := mkHid n5; clear n5; have G5 := mkHid h5; have K5 := mkHid k5; clear h5 k5)
      go_end0
      exact ⟨rfl, (HKn.out _).trans K5.out (fun g hg => .inl hg), pc5, cc5, by rw [HG.out]; exact G5.out, fun g hg => by
        rcases N5.out g hg with h1 | h1
        · exact .inl h1
        · exact .inr (Nat.le_trans HVs.out h1)⟩
    · have HG : Hid (goOnP pls s p d = { s with ended := true }) := mkHid (if_pos (.inr e2))
      have q2 : (((plD pls p.nxt).body : Int) != (p.body : Int)) = true := by simpa using (show ¬ ((plD pls p.nxt).body : Int) = (p.body : Int) by omega)
      generalize (plD pls p.nxt).body = bn at *
      clear h hV2 GV FV e1 e2
      go_enter Tryd.func67, Tryd.ntmps67
      go_wp2_with fail
      try rw [hV]
      clear hV
      go_quiet (fail)
      go_wp2_with fail
      (try simp only [Exit.inBlock, Exit.then])
      refine bodyPost_ret (results_none rfl _ _ _) rfl ?_
      exact ⟨rfl, (HKn.out _).trans (HEnd.out _).2 (fun g hg => .inl hg), pc, cc, by rw [HG.out]; exact (HEnd.out _).1, fun g hg => .inl hg⟩
end
end Go.Proofs.YtdflpoldlokijaaDoor
namespace Go.Proofs.YtdflpoldlokijaaDoor
open Go.RowKit
set_option linter.unusedVariables false
set_option linter.unusedSimpArgs false
attribute [local go_sem ↓] Go.wp_at_zero Go.wp_at_succ
theorem meet_come (s : Wk) (a : Nat) (d : Int) : (meetP s a d).come.length ≤ s.come.length + 1 := by
  unfold meetP; split
  · omega
  · split
    · simp
    · simp
theorem goOn_come (l : List Pl) (s : Wk) (p : Pl) (d : Int) : (goOnP l s p d).come.length ≤ s.come.length + 1 := by
  unfold goOnP; split
  · simp
  · exact meet_come _ _ _
/-- what is left of the way behind the depth -/
def tailP (l : List Pl) (s : Wk) (p : Pl) (r : Int) : Wk :=
  let s2 : Wk := if (shp p.op).kind = 1 ∨ (shp p.op).kind = 2 ∨ (shp p.op).kind = 5 ∨ (shp p.op).kind = 7 then goOnP l s p (r + (shp p.op).on) else s
  if (shp p.op).kind = 2 then meetP s2 p.fin 0 else if 4 ≤ (shp p.op).kind then meetP s2 p.to (r + (shp p.op).jump) else s2
theorem leaveP_tail (l : List Pl) (s : Wk) (at_ : Nat) : leaveP l s at_ = tailP l (if restP s (plD l at_) at_ < 0 then { s with uneven := true } else s) (plD l at_) (if restP s (plD l at_) at_ < 0 then 0 else restP s (plD l at_) at_) := rfl
section
variable {w : World} {B x : Nat} {pls : List Pl} {pp pd : Option Addr} {s : Wk} {pc : Option Addr} {cc : Nat}
end
end Go.Proofs.YtdflpoldlokijaaDoor
