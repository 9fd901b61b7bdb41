import Derived.Test.YtdflpoldlokijaaDoorSG26CMk
namespace Go.Proofs.YtdflpoldlokijaaDoor
open Go.RowKit
set_option linter.unusedVariables false
set_option linter.unusedSimpArgs false
attribute [local go_sem ↓] Go.wp_at_zero Go.wp_at_succ
theorem info37 : (Tryd.prog.info? 37).map (fun i => (i.zero, i.size, i.bytes)) = some (some (.agg #[.int .i64 0, .int .i64 0, .slice none 0 0]), 3, 40) := by kernel_rfl
def BkP (w : World) (B x : Nat) (F : Fx) (s : WS) (ins : List In) (t nx en sl : Nat) (e : Ending) (w' : World) : Prop :=
  e = .returned (.int .i64 (t : Int)) ∧ Kw B w w' ∧ ∃ pi' ci' p c, WK w' B x F s pi' ci' (ins ++ [⟨nx, en, p, c, F.sc ++ [sl]⟩])
section
variable {w : World} {B x : Nat} {F : Fx} {s : WS} {pi : Option Addr} {ci : Nat} {ins : List In}
theorem WK.kwx {w' : World} (h : WK w B x F s pi ci ins) (hB : B ≤ w.heap.size) (hf : Fr [x] w w') : Kw B w w' := hf.kw hB (fun g hg => by simp at hg; rw [hg]; exact h.base)
/-- a block more is told -/
theorem WK.more {w1 w2 : World} (h : WK w B x F s pi ci ins) (hB : B ≤ w.heap.size) (nx en sl : Nat) (p : Option Addr) (c : Nat) (hi : ins.length + 1 ≤ 100000)
    (ho : w.ownsRow B 3 1 (.slice p (F.sc ++ [sl]).length c) (F.sc ++ [sl]).length ((F.sc ++ [sl]).map I)) :
    ∃ p' c' w', (Builtin.append_ #[38, 38] 38 #[.slice pi ins.length ci, .slice (some ⟨w.heap.size, 0, none⟩) 1 1]).run Tryd.prog (w.alloc (.cells #[.int .i64 (nx : Int), .int .i64 (en : Int), .slice p (F.sc ++ [sl]).length c] 37)) = .ok (.slice p' (ins.length + 1) c') w' ∧
      WK (w'.setCell ⟨x, 19, none⟩ (.slice p' (ins.length + 1) c')) B x F s p' c' (ins ++ [⟨nx, en, p, c, F.sc ++ [sl]⟩]) ∧ Kw B w (w'.setCell ⟨x, 19, none⟩ (.slice p' (ins.length + 1) c')) ∧ w'.cell? ⟨x, 19, none⟩ = some (.slice pi ins.length ci) ∧ w'.frozen? ⟨x, 19, none⟩ = false := by
  obtain ⟨p', c', w', hr, hown, hm⟩ := pushS (t := 38) (e := 37) Tryd.underlying38 info37 rfl (by decide) w B pi ci ins.length (inCells ins) [.int .i64 (nx : Int), .int .i64 (en : Int), .slice p (F.sc ++ [sl]).length c] rfl h.inr (by simp [Value.oneCell']) (by unfold maxLen; omega) (by omega) hB
  have hf : Fr (blk pi) w w' := by
    rcases hm with ⟨-, -, e3⟩ | ⟨e1, -⟩
    · exact e3
    · exact e1.mono (by simp)
  have hiB : ∀ g ∈ blk pi, B ≤ g := fun g hg => (own_lt h.inr g ((blk_own _ _ _ _).2 hg)).1
  have hu3 : ∀ {q : Option Addr} {l : List Nat} {k : Nat}, w.ownsRow B 3 1 (.slice q l.length k) l.length (l.map I) → ∀ g ∈ blk q, g ∉ blk pi := fun {q l k} hq g hg hmm => by
    obtain ⟨c1, h1⟩ := row_block hq ((blk_own q l.length k g).2 hg)
    obtain ⟨c2, h2⟩ := row_block h.inr ((blk_own pi ins.length ci g).2 hmm)
    exact ty_ne h1 h2 (by decide) rfl
  have t1 := (hf.block x (lt_of_heap h.top) (fun hmm => h.ine x hmm rfl)).trans h.top
  have hp'x : ∀ g ∈ blk p', g ≠ x := fun g hg e => by
    obtain ⟨c1, h1⟩ := row_block hown ((blk_own p' (ins.length + 1) c' g).2 hg)
    exact ty_ne h1 t1 (by decide) e
  have f2 : Fr [x] w' (w'.setCell ⟨x, 19, none⟩ (.slice p' (ins.length + 1) c')) := Fr.setCell (S := [x]) w' ⟨x, 19, none⟩ _ (by simp)
  have hF : Fr (x :: blk pi) w (w'.setCell ⟨x, 19, none⟩ (.slice p' (ins.length + 1) c')) := (hf.mono (S' := x :: blk pi) (fun g hg => .inl (by simp [hg]))).trans f2 (fun g hg => .inl (by simp at hg; simp [hg]))
  have hS : ∀ g ∈ x :: blk pi, B ≤ g := fun g hg => by
    rcases List.mem_cons.1 hg with rfl | hg
    · exact h.base
    · exact hiB g hg
  have keep3 : ∀ {q : Option Addr} {l : List Nat} {k : Nat}, w.ownsRow B 3 1 (.slice q l.length k) l.length (l.map I) → (∀ g ∈ blk q, g ≠ x) → (w'.setCell ⟨x, 19, none⟩ (.slice p' (ins.length + 1) c')).ownsRow B 3 1 (.slice q l.length k) l.length (l.map I) := fun {q l k} hq hqx => own_congr hq fun g hg => hF.block g (own_lt hq g hg).2 (fun hmm => by
    rcases List.mem_cons.1 hmm with e | hmm
    · exact hqx g ((blk_own _ _ _ _).1 hg) e
    · exact hu3 hq g ((blk_own _ _ _ _).1 hg) hmm)
  refine ⟨p', c', w', hr, ⟨?_, h.base, h.words.keep hF fun hp g hg hmm => by have := h.wlo hp g hg; have := hS g hmm; omega, h.wlo, h.scs.keep hF fun hp g hg hmm => by have := h.slo hp g hg; have := hS g hmm; omega, h.slo, ?_, fun u hu => ?_, h.n4, h.en, h.sc1, h.sc25, h.sc32, h.at4, h.lo4, by simp; omega, h.dp, h.stk⟩, hF.kw hB hS, by rw [cell_in t1]; rfl, frozen_in t1 19⟩
  · rw [set_in t1 19 _, show (ins ++ [(⟨nx, en, p, c, F.sc ++ [sl]⟩ : In)]).length = ins.length + 1 by simp]; rfl
  · rw [show (ins ++ [(⟨nx, en, p, c, F.sc ++ [sl]⟩ : In)]).length = ins.length + 1 by simp]
    have e : inCells (ins ++ [(⟨nx, en, p, c, F.sc ++ [sl]⟩ : In)]) = inCells ins ++ [.int .i64 (nx : Int), .int .i64 (en : Int), .slice p (F.sc ++ [sl]).length c] := by
      unfold inCells; rw [List.flatMap_append]; rfl
    rw [e]
    exact own_congr hown fun g hg => f2.block g (own_lt hown g hg).2 (by simp; exact hp'x g ((blk_own _ _ _ _).1 hg))
  · rcases List.mem_append.1 hu with hu | hu
    · exact keep3 (h.ink u hu) (h.une u hu)
    · have e : u = ⟨nx, en, p, c, F.sc ++ [sl]⟩ := by simpa using hu
      subst e
      refine keep3 ho (fun g hg e => ?_)
      obtain ⟨c1, h1⟩ := row_block ho ((blk_own p (F.sc ++ [sl]).length c g).2 hg)
      exact ty_ne h1 h.top (by decide) e
end
end Go.Proofs.YtdflpoldlokijaaDoor
namespace Go.Proofs.YtdflpoldlokijaaDoor
open Go.RowKit
set_option linter.unusedVariables false
set_option linter.unusedSimpArgs false
attribute [local go_sem ↓] Go.wp_at_zero Go.wp_at_succ
section
variable {w : World} {B x : Nat} {F : Fx} {s : WS} {pi : Option Addr} {ci : Nat} {ins : List In}
set_option maxRecDepth 100000 in
set_option maxHeartbeats 4000000 in
theorem wblock_ok (h : WK w B x F s pi ci ins) (hB : B ≤ w.heap.size) (par sl nx k : Nat) (h3 : s.at_ + 3 < F.e0) (hk : F.C.w (s.at_ + 3) = (k : Int)) (hk0 : 0 < k) (hps : par ≤ sl) (hsl : sl ≤ 32) (hnk : nx + k ≤ F.e0) (hd : s.dep + 1 ≤ F.h.stack) (hwi : s.wild = false) (hi : ins.length + 1 ≤ 100000) :
    Calls Tryd.prog 33 #[.pointer (some ⟨x, 0, none⟩), .int .i64 par, .int .i64 sl, .int .i64 nx] w fun e w' => BkP w B x F ⟨s.at_, s.dep + 1, s.seed, s.done, s.wild, 0⟩ ins (nx + k) nx (nx + k) sl e w' := by
  have n4 := h.n4
  have en := h.en
  have dp := h.dp
  have s25 := h.sc25
  have HWd := mkHid (word_ok h 3 h3 (by omega))
  rw [hk] at HWd
  have HN := mkHid (needs_ok x)
  have HMv : Hid (∀ n, Calls Tryd.prog 32 #[.pointer (some ⟨x, 0, none⟩), .int .i64 0, .int .i64 1] (w.drewN n) fun e w' => e = .returned (.tuple #[]) ∧ Fr [x] (w.drewN n) w' ∧ WK w' B x F ⟨s.at_, s.dep + 1, s.seed, s.done, s.wild, s.loose⟩ pi ci ins) := fun n => mv_ok (h.idle (Fr.drewN [] w n)) 0 1 (s.dep + 1) (by decide) dp.1 (by omega) hd
  have HKd : Hid (∀ n, Kw B w (w.drewN n)) := fun n => (Fr.drewN [] w n).kw hB (by simp)
  have c10 : w.cell? ⟨x, 10, none⟩ = some (.int .i64 (F.e0 : Int)) := h.cell 10
  have hc10 : ∀ n, (w.drewN n).cell? ⟨x, 10, none⟩ = some (.int .i64 (F.e0 : Int)) := fun n => c10
  have HAft : Hid (∀ V, WK V B x F ⟨s.at_, s.dep + 1, s.seed, s.done, s.wild, s.loose⟩ pi ci ins → B ≤ V.heap.size → ∃ (pv : Option Addr) (cv : Nat) (w2 : World) (p2 : Option Addr) (c2 : Nat) (w3 : World) (p' : Option Addr) (c' : Nat) (w4 : World),
      V.cell? ⟨x, 18, none⟩ = some (.int .i64 (s.loose : Int)) ∧ V.frozen? ⟨x, 18, none⟩ = false ∧ (V.setCell ⟨x, 18, none⟩ (.int .i64 0)).cell? ⟨x, 17, none⟩ = some (.bool false) ∧ (V.setCell ⟨x, 18, none⟩ (.int .i64 0)).cell? ⟨x, 11, none⟩ = some (.slice F.psc F.sc.length F.csc) ∧
      (Builtin.append_ #[23, 23] 23 #[.slice none 0 0, .slice F.psc F.sc.length F.csc]).run Tryd.prog (V.setCell ⟨x, 18, none⟩ (.int .i64 0)) = .ok (.slice pv F.sc.length cv) w2 ∧
      (Builtin.append_ #[23, 23] 23 #[.slice pv F.sc.length cv, .slice (some ⟨w2.heap.size, 0, none⟩) 1 1]).run Tryd.prog (w2.alloc (.cells #[.int .i64 (sl : Int)] 3)) = .ok (.slice p2 (F.sc.length + 1) c2) w3 ∧
      w3.cell? ⟨x, 19, none⟩ = some (.slice pi ins.length ci) ∧
      (Builtin.append_ #[38, 38] 38 #[.slice pi ins.length ci, .slice (some ⟨w3.heap.size, 0, none⟩) 1 1]).run Tryd.prog (w3.alloc (.cells #[.int .i64 (nx : Int), .int .i64 ((nx : Int) + (k : Int)), .slice p2 (F.sc.length + 1) c2] 37)) = .ok (.slice p' (ins.length + 1) c') w4 ∧
      w4.cell? ⟨x, 19, none⟩ = some (.slice pi ins.length ci) ∧ w4.frozen? ⟨x, 19, none⟩ = false ∧ Kw B V (w4.setCell ⟨x, 19, none⟩ (.slice p' (ins.length + 1) c')) ∧ WK (w4.setCell ⟨x, 19, none⟩ (.slice p' (ins.length + 1) c')) B x F ⟨s.at_, s.dep + 1, s.seed, s.done, s.wild, 0⟩ p' c' (ins ++ [⟨nx, nx + k, p2, c2, F.sc ++ [sl]⟩])) := fun V hV hBV => by
    obtain ⟨z1, z2, z3, z4⟩ := hV.loose0
    have hB1 : B ≤ (V.setCell ⟨x, 18, none⟩ (.int .i64 0)).heap.size := by simp; exact hBV
    have hrd := z1.scs
    have hl : (zN F.sc).length = F.sc.length := zN_len _
    rw [← hl] at hrd
    obtain ⟨v1, w2, r1, o1, f1⟩ := run_copy (zN F.sc) _ _ hrd
    rw [hl] at r1 o1
    obtain ⟨pv, cv, rfl⟩ := own_shape o1
    have k1 := z1.idle f1
    have hB2 : B ≤ w2.heap.size := Nat.le_trans hB1 f1.size
    have o1' : w2.ownsRow B 3 1 (.slice pv (zN F.sc).length cv) (zN F.sc).length ((zN F.sc).map (Value.int .i64)) := by
      rw [hl]
      exact ⟨o1.1, o1.2.imp id (fun ⟨g, cap, cur, e1, q1, q2⟩ => ⟨g, cap, cur, e1, Nat.le_trans hB1 q1, q2⟩)⟩
    obtain ⟨p2, c2, w3, r2, o2, m2⟩ := push_int w2 B pv cv (zN F.sc) sl o1' (by rw [hl]; omega) hB2
    rw [hl] at r2
    rw [zN_snoc, zN_len, zN_map] at o2
    have f2 : Fr (blk pv) w2 w3 := by
      rcases m2 with ⟨-, -, e3⟩ | ⟨e1, -⟩
      · exact e3
      · exact e1.mono (by simp)
    have hpvnew : ∀ g ∈ blk pv, (V.setCell ⟨x, 18, none⟩ (.int .i64 0)).heap.size ≤ g := fun g hg => (own_lt o1 g ((blk_own _ _ _ _).2 hg)).1
    have F13 : Fr [] (V.setCell ⟨x, 18, none⟩ (.int .i64 0)) w3 := f1.trans f2 (fun g hg => .inr (hpvnew g hg))
    have k3 := z1.idle F13
    have hB3 : B ≤ w3.heap.size := Nat.le_trans hB1 F13.size
    obtain ⟨p', c', w4, r4, k4, K4, c19, f19⟩ := k3.more (w1 := w3) (w2 := w3) hB3 nx (nx + k) sl p2 c2 hi o2
    rw [show (F.sc ++ [sl]).length = F.sc.length + 1 by simp] at r4
    refine ⟨pv, cv, w2, p2, c2, w3, p', c', w4, z3, z4, by rw [z1.cell 17]; show some (Value.bool s.wild) = _; rw [hwi], z1.cell 11, r1, r2, k3.cell 19, by push_cast at r4; exact r4, c19, f19, (hV.kwx hBV z2).trans ((F13.kw hB1 (by simp)).trans K4), k4⟩
  generalize F.e0 = e0 at *
  have q1 : (nx : Int) + (k : Int) ≤ (e0 : Int) := by omega
  have q2 : (0 : Int) < (k : Int) := by omega
  have q3 : (par : Int) ≤ (sl : Int) := by omega
  have HB := mkHid hB
  clear h hk c10
  go_enter Tryd.func33, Tryd.ntmps33
  go_wp2_with (first
    | (go_at_call 28; refine HWd.out.mono ?_; rintro e w' ⟨rfl, n1, rfl⟩; have c10 := hc10 n1)
    | (go_at_call 30; refine (HN.out _).mono ?_; rintro e w' ⟨rfl, hw'⟩; rw [hw']; clear hw' w')
    | (go_at_call 32; refine (HMv.out n1).mono ?_; rintro e V ⟨rfl, f1, k1⟩; have KV := mkHid ((HKd.out n1).trans (k1.base |> fun hb => f1.kw HB.out (fun g hg => by simp at hg; rw [hg]; exact hb))); obtain ⟨pv, cv, w2, p2, c2, w3, p', c', w4, y18, z18, y17, y11, r1, r2, y19, r4, t19, z19, K4, k4⟩ := HAft.out V k1 (Nat.le_trans HB.out KV.out.size); have R1 := mkHid r1; have R2 := mkHid r2; have R4 := mkHid r4; have HK4 := mkHid K4; have Hk4 := mkHid k4; clear f1 k1 r1 r2 r4 K4 k4)
    | (at_builtin; refine Lib.wpList_append_run _ rfl (.tmp 46) (.tmp 50) 23 23 rfl _ _ rfl rfl _ _ R1.out ?_)
    | (at_builtin; refine Lib.wpList_append_run _ rfl (.tmp 52) (.tmp 54) 23 23 rfl _ _ rfl rfl _ _ R2.out ?_)
    | (at_builtin; refine Lib.wpList_append_run _ rfl (.tmp 60) (.tmp 67) 38 38 rfl _ _ rfl rfl _ _ R4.out ?_))
  go_ret
  exact ⟨by push_cast; rfl, KV.out.trans HK4.out, p', c', p2, c2, Hk4.out⟩
end
end Go.Proofs.YtdflpoldlokijaaDoor
namespace Go.Proofs.YtdflpoldlokijaaDoor
open Go.RowKit
set_option linter.unusedVariables false
set_option linter.unusedSimpArgs false
attribute [local go_sem ↓] Go.wp_at_zero Go.wp_at_succ
/-- a step that only moves the stack's cells -/
def StP (w : World) (B x : Nat) (F : Fx) (s : WS) (pi : Option Addr) (ci : Nat) (ins : List In) (s' : WS) (e : Ending) (w' : World) : Prop :=
  e = .returned (.tuple #[]) ∧ Fr [x] w w' ∧ WK w' B x F s' pi ci ins
section
variable {w : World} {B x : Nat} {F : Fx} {s : WS} {pi : Option Addr} {ci : Nat} {ins : List In}
theorem WK.dr (h : WK w B x F s pi ci ins) (n : Nat) : WK (w.drewN n) B x F s pi ci ins := h.idle ((Fr.refl _ _).dn n)
/-- the two stores of every step: one more without an event, and where it goes on -/
theorem WK.bump (h : WK w B x F s pi ci ins) (k : Nat) (hk : k ≤ 5000) : WK (w.setCell ⟨x, 18, none⟩ (I k)) B x F ⟨s.at_, s.dep, s.seed, s.done, s.wild, k⟩ pi ci ins ∧ Fr [x] w (w.setCell ⟨x, 18, none⟩ (I k)) := h.set 18 _ _ rfl h.at4 hk h.dp
theorem WK.goes (h : WK w B x F s pi ci ins) (k : Nat) (hk : k ≤ 4096) : WK (w.setCell ⟨x, 12, none⟩ (I k)) B x F ⟨k, s.dep, s.seed, s.done, s.wild, s.loose⟩ pi ci ins ∧ Fr [x] w (w.setCell ⟨x, 12, none⟩ (I k)) := h.set 12 _ _ rfl hk h.lo4 h.dp
end
end Go.Proofs.YtdflpoldlokijaaDoor
