import Derived.Test.YtclkoffnjiiioaaDoorISt
namespace Go.Proofs.YtclkoffnjiiioaaDoor
open Go.RowKit
set_option linter.unusedVariables false
set_option linter.unusedSimpArgs false
attribute [local go_sem ↓] Go.wp_at_zero Go.wp_at_succ
theorem own_shape {w : World} {base : Nat} {e : TypeId} {size : Nat} {v : Value} {n : Nat} {xs : List Value} (h : w.ownsRow base e size v n xs) : ∃ p c, v = .slice p n c := by
  rcases h.2 with ⟨rfl, h2⟩ | ⟨g', cap, cur, rfl, h1, h2, h3⟩
  · exact ⟨none, 0, by rw [h2]⟩
  · exact ⟨_, _, rfl⟩
theorem own_fr {w w' : World} {B : Nat} {e : TypeId} {s n : Nat} {v : Value} {xs : List Value} (h : w.ownsRow B e s v n xs) (f : Fr [] w w') : w'.ownsRow B e s v n xs := own_congr h fun b hb => f.block b (own_lt h b hb).2 (by simp)
/-- what the law has in hand: the code that it was given, in its box, and the one that it hands on, in a box, in blocks of its own below hi -/
structure Sp (w W : World) (K K' : Co) (lp : Option Addr) (lc : Nat) (pw : Option Addr) (cw gi gm cm : Nat) (pt : Option Addr) (ct lo hi : Nat) : Prop where
  fr : Fr [] w W
  cb : W.heap[w.heap.size]? = some (.cells (K.v lp lc pw cw) 25 (0, 0))
  gb : W.heap[gi]? = some (.cells (K'.v pt ct (some ⟨gm, 0, none⟩) cm) 25 (0, 0))
  gi1 : w.heap.size + 1 ≤ gi
  gmi : gi < gm
  gml : gm < lo
  lohi : lo ≤ hi
  his : hi ≤ W.heap.size
  gp : Gp W (fun b => lo ≤ b ∧ b < hi) K' gm cm pt ct
theorem Sp.idle {w W V : World} {K K' : Co} {lp : Option Addr} {lc : Nat} {pw : Option Addr} {cw gi gm cm : Nat} {pt : Option Addr} {ct lo hi : Nat} (s : Sp w W K K' lp lc pw cw gi gm cm pt ct lo hi) (f : Fr [] W V) : Sp w V K K' lp lc pw cw gi gm cm pt ct lo hi :=
  ⟨s.fr.tr0 f, f.hb s.cb, f.hb s.gb, s.gi1, s.gmi, s.gml, s.lohi, Nat.le_trans s.his f.size, s.gp.idle f⟩
/-- the words, copied, with a mark behind them -/
theorem words_mark (ls : List Int) (u : Value) (w : World) (h : Rd w u ls) (hs : ls.length + 2 ≤ 17592186044000) : ∃ v1 w1 v2 w2 g c, (Builtin.append_ #[23, 23] 23 #[.slice none 0 0, u]).run Tryd.prog w = .ok v1 w1 ∧ (Builtin.append_ #[23, 23] 23 #[v1, .slice (some ⟨w1.heap.size, 0, none⟩) 1 1]).run Tryd.prog (w1.alloc (.cells #[.int .i64 (-7)] 3)) = .ok v2 w2 ∧ v2 = .slice (some ⟨g, 0, none⟩) (ls.length + 1) c ∧ w2.ownsRow 0 3 1 (.slice (some ⟨g, 0, none⟩) (ls.length + 1) c) (ls.length + 1) ((ls ++ [-7]).map (Value.int .i64)) ∧ w.heap.size ≤ g ∧ ls.length + 1 ≤ c ∧ Fr [] w w1 ∧ Fr [] w w2 := by
  obtain ⟨v1, w1, r1, o1, f1⟩ := run_copy ls u w h
  obtain ⟨p, c, rfl⟩ := own_shape o1
  obtain ⟨p', c', w2, r2, o2, hk⟩ := push_int w1 w.heap.size p c ls (-7) o1 (by omega) f1.size
  have hl : (ls ++ [-7]).length = ls.length + 1 := by simp
  rw [hl] at o2
  have o3 := own_base o2 (Nat.zero_le _)
  rcases o2.2 with ⟨e0, e1⟩ | ⟨g, cap, cur, e0, q1, q2, q3, q4⟩
  · omega
  injection e0 with e0 _ e2
  subst e0 e2
  refine ⟨_, w1, _, w2, g, c', r1, r2, rfl, o3, q1, by omega, f1, ?_⟩
  rcases hk with ⟨-, -, f⟩ | ⟨f, -⟩
  · exact f1.trans f (fun b hb => .inr (own_lt o1 b ((blk_own _ _ _ _).2 hb)).1)
  · exact f1.tr0 f
end Go.Proofs.YtclkoffnjiiioaaDoor
