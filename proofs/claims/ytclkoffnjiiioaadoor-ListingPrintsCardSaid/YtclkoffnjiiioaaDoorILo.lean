import Derived.Test.YtclkoffnjiiioaaDoorILa
namespace Go.Proofs.YtclkoffnjiiioaaDoor
open Go.RowKit
set_option linter.unusedVariables false
set_option linter.unusedSimpArgs false
/-- behind the writing over -/
theorem Sp.over {w W wr w' : World} {K K' : Co} {lp : Option Addr} {lc : Nat} {pw : Option Addr} {cw gi gm cm : Nat} {pt : Option Addr} {ct lo hi : Nat} {ws : List Int} {us : List LitT} (s : Sp w W K K' lp lc pw cw gi gm cm pt ct lo hi) (ht : Tb w) (hpw : Pw w) (x : XS W wr K'.ws.length gm cm ws) (f : FrP (fun b => lo ≤ b ∧ b < hi) wr w') (hl : us.length = K'.ts.length) (hm : LitsM w' (fun b => lo ≤ b ∧ b < hi) pt ct us) (hn : ∀ u ∈ us, NmT u) : Sp w w' K ⟨K'.args, K'.temps, K'.stack, us, ws⟩ lp lc pw cw gi gm cm pt ct lo hi := by
  have h1 := s.gi1
  have h2 := s.gmi
  have h3 := s.gml
  have h4 := s.lohi
  have h5 := s.his
  have h6 := x.fr.size
  have hb : ∀ b, b < lo → b ≠ gm → w'.heap[b]? = W.heap[b]? := fun b hb hn => (f.block b (by omega) (fun hh => by omega)).trans (x.fr.block b (by omega) (by simp; exact hn))
  have fw : Fr [] w w' := ⟨f.os.trans (x.fr.os.trans s.fr.os), f.tape.trans (x.fr.tape.trans s.fr.tape), f.output.trans (x.fr.output.trans s.fr.output), Nat.le_trans s.fr.size (Nat.le_trans h6 f.size), fun k hk hn => (hb k (by omega) (by omega)).trans (s.fr.block k hk hn)⟩
  refine ⟨fw, (hb _ (by omega) (by omega)).trans s.cb, ?_, h1, h2, h3, h4, Nat.le_trans h5 (Nat.le_trans h6 f.size), ⟨?_, ?_, hm, hn, x.rng, s.gp.hd, ht.idle fw, hpw.idle fw, ?_⟩⟩
  · show _ = some (Obj.cells #[.int .i64 K'.args, .int .i64 K'.temps, .int .i64 K'.stack, .slice pt us.length ct, .slice (some ⟨gm, 0, none⟩) ws.length cm] 25 (0, 0))
    rw [x.len, hl]
    exact (hb _ (by omega) (by omega)).trans s.gb
  · show w'.ownsRow 0 3 1 (.slice (some ⟨gm, 0, none⟩) (ws.length + 1) cm) (ws.length + 1) ((ws ++ [-7]).map (Value.int .i64))
    rw [x.len]
    refine own_congr x.row fun b hb => ?_
    have e : b = gm := by simpa [Value.ownBlock] using hb.symm
    rw [e]
    exact f.block gm (own_lt x.row gm rfl).2 (fun hh => by omega)
  · show ws.length + 1 ≤ cm
    rw [x.len]
    exact s.gp.cap
  · show ws.length ≤ 17592186043904
    rw [x.len]
    exact s.gp.short
/-- the words, copied -/
theorem words_copy (ls : List Int) (u : Value) (w : World) (h : Rd w u ls) : ∃ p c w', (Builtin.append_ #[23, 23] 23 #[.slice none 0 0, u]).run Tryd.prog w = .ok (.slice p ls.length c) w' ∧ w'.ownsRow w.heap.size 3 1 (.slice p ls.length c) ls.length (ls.map (Value.int .i64)) ∧ Fr [] w w' ∧ ls.length ≤ c := by
  obtain ⟨v1, w1, r1, o1, f1⟩ := run_copy ls u w h
  obtain ⟨p, c, rfl⟩ := own_shape o1
  refine ⟨p, c, w1, r1, o1, f1, ?_⟩
  rcases o1.2 with ⟨e0, e1⟩ | ⟨g, cap, cur, e0, q1, q2, q3, q4⟩
  · omega
  · injection e0 with _ _ e2
    omega
end Go.Proofs.YtclkoffnjiiioaaDoor
