import Derived.Test.YtimlomobbnnehaaDoorLAllI
import Derived.Test.YtimlomobbnnehaaDoorLLg
import Derived.Test.YtimlomobbnnehaaDoorLKnown
import Derived.Test.YtimlomobbnnehaaDoorLLaw
namespace Go.Proofs.YtimlomobbnnehaaDoor
open Go.RowKit Go.Maps Go.WideMaps
set_option linter.unusedVariables false
set_option linter.unusedSimpArgs false
theorem AllR.lex {l : Bs} {ts : List (Tok × Nat)} {c a : Nat} (h : AllR l ts c a) (h4 : l.length ≤ 4096) : LexR l ts c a := by
  obtain ⟨us, er, h1, h2⟩ := h
  exact Or.inr ⟨h4, us, er, h1, h2⟩
theorem retB {w V : World} {tm : Array Value} {ts : List (Tok × Nat)} {l : Bs} {v : Value} {c a : Nat} (hr : V.heap[w.heap.size]? = some (.cells #[.int .i64 c, .int .i64 a] 25 (0, 0)))
    (h2 : tm.getD 2 undef = v) (h3 : tm.getD 3 undef = .pointer (some ⟨w.heap.size, 0, none⟩)) (hl : LexR l ts c a) (ho : V.ownsRow w.heap.size 41 4 v ts.length (tcs ts)) (hb : Bl w V) :
    bodyPost Tryd.prog Tryd.f4 (fun e w' => ∃ v ts c a, e = .returned (.tuple #[v, .agg #[.int .i64 (c : Nat), .int .i64 (a : Nat)]]) ∧ LexR l ts c a ∧ w'.ownsRow w.heap.size 41 4 v ts.length (tcs ts) ∧ Bl w w') .ret ⟨tm, []⟩ V := by
  have x0 : V.cell? ⟨w.heap.size, 0, none⟩ = some (.int .i64 c) := by rw [cell_in hr]; rfl
  have x1 : V.cell? ⟨w.heap.size, 1, none⟩ = some (.int .i64 a) := by rw [cell_in hr]; rfl
  have h2' : tm[2]?.getD undef = v := by simpa using h2
  have h3' : tm[3]?.getD undef = .pointer (some ⟨w.heap.size, 0, none⟩) := by simpa using h3
  refine bodyPost_ret (v := .tuple #[v, .agg #[.int .i64 (c : Nat), .int .i64 (a : Nat)]]) (by simp [results, Tryd.results4, go_sem, h2, h3, h2', h3', x0, x1]) rfl ⟨v, ts, c, a, rfl, hl, ho, hb⟩
set_option maxHeartbeats 8000000 in
set_option maxRecDepth 1000000 in
theorem rTokens_ok (s : ByteArray) (w : World) (hs : s.size ≤ 140737488355328) : Calls Tryd.prog 4 #[.string s] w fun e w' =>
    ∃ v ts c a, e = .returned (.tuple #[v, .agg #[.int .i64 (c : Nat), .int .i64 (a : Nat)]]) ∧ LexR (lst s) ts c a ∧ w'.ownsRow w.heap.size 41 4 v ts.length (tcs ts) ∧ Bl w w' := by
  obtain ⟨W, hW⟩ : ∃ W, W = w.alloc (.cells #[.int .i64 0, .int .i64 0] 25) := ⟨_, rfl⟩
  have HB : Hid (Bl w W) := by rw [hW]; exact Bl.alloc _ _
  have HR : Hid (W.heap[w.heap.size]? = some (.cells #[.int .i64 0, .int .i64 0] 25 (0, 0))) := by rw [hW]; exact heap_alloc_new w _
  have HZ : Hid (W.heap.size = w.heap.size + 1) := by unfold Hid; rw [hW]; simp
  obtain ⟨e0, e1, f0, f1⟩ := res2 HR.out
  by_cases h : s.size ≤ 4096
  · have hi : ¬ (4096 : Int) < s.size := by omega
    have ha := fun w => rAll_ok s w (by omega)
    go_enter Tryd.func4, Tryd.ntmps4
    go_wp2_with (go_at_call 11; fail)
    rw [← hW]
    clear hW
    go_at_call 11
    refine (ha _).mono ?_
    rintro e w1 ⟨v, ts, c, a, rfl, hA, ho, b1⟩
    have hr1 := (b1.block _ (lt_of_heap HR.out)).trans HR.out
    obtain ⟨e0, e1, f0, f1⟩ := res2 hr1
    have HA := mkHid (hA.lex (by rw [lst_len]; exact h))
    have HO := mkHid ho
    have hr1 := mkHid hr1
    have b1 := mkHid b1
    clear hA ho
    go_wp2_with fail
    refine retB (ts := ts) (c := c) (a := a) ?_ rfl rfl HA.out ?_ ?_
    · rw [set_in (set_in hr1.out 0 _) 1 _]; rfl
    · refine ownR_congr HO.out (fun g hg => ?_) (by have := HZ.out; omega)
      have h1 := own_block HO.out hg
      have h2 := HZ.out
      rw [Below.heap_setCell _ _ _ _ (by show g ≠ w.heap.size; omega), Below.heap_setCell _ _ _ _ (by show g ≠ w.heap.size; omega)]
    · exact set_bl (set_bl (HB.out.trans b1.out) (Nat.le_refl _) 0 _) (Nat.le_refl _) 1 _
  · have hi : (4096 : Int) < s.size := by omega
    go_enter Tryd.func4, Tryd.ntmps4
    go_wp2_with fail
    refine retB (ts := []) (c := 73) (a := 4096) (heap_alloc_new w _) rfl rfl (Or.inl ⟨by rw [lst_len]; omega, rfl, rfl, rfl⟩) (World.ownsRow_nil _ _ _ _) (Bl.alloc _ _)
theorem own_n {w : World} {base : Nat} {v : Value} {ts : List (Tok × Nat)} (h : w.ownsRow base 41 4 v ts.length (tcs ts)) : ∃ p cap, v = .slice p ts.length cap := own_slice h
/-- what the document's Tokens answers, with a source's own tokens -/
theorem rTokens_is {s : ByteArray} {ts : List (Tok × Nat)} {c a : Nat} (hl : LexR (lst s) ts c a) (hs : s.size ≤ 140737488355328) (w : World) : Calls Tryd.prog 4 #[.string s] w fun e w' =>
    ∃ p cap, e = .returned (.tuple #[.slice p ts.length cap, .agg #[.int .i64 c, .int .i64 a]]) ∧ w'.ownsRow w.heap.size 41 4 (.slice p ts.length cap) ts.length (tcs ts) ∧ Bl w w' := by
  refine (rTokens_ok s w hs).mono ?_
  rintro e w' ⟨v, ts', c', a', rfl, hl', ho, hb⟩
  obtain ⟨rfl, rfl, rfl⟩ := hl.unique hl'
  obtain ⟨p, cap, rfl⟩ := own_n ho
  exact ⟨p, cap, rfl, ho, hb⟩
theorem lTokens_is {s : ByteArray} {ts : List (Tok × Nat)} {c a : Nat} (hl : LexR (lst s) ts c a) (hs : s.size ≤ 140737488355328) (w : World) (hT : Tab w) : Calls Tryd.prog 5 #[.string s] w fun e w' =>
    ∃ p cap, e = .returned (.tuple #[.slice p ts.length cap, .agg #[.int .i64 c, .int .i64 a]]) ∧ w'.ownsRow w.heap.size 41 4 (.slice p ts.length cap) ts.length (tcs ts) ∧ Bl w w' := by
  refine (tokens_is hl hs w hT).mono ?_
  rintro e w' ⟨v, rfl, ho, hb⟩
  obtain ⟨p, cap, rfl⟩ := own_n ho
  exact ⟨p, cap, rfl, ho, hb⟩
theorem marked_n (p : Option Addr) (c n : Nat) (zs : List Zt) (hn : zs.length = n) (mark : Int) (base : Nat) (w : World) (h : w.ownsRow base 41 4 (.slice p n c) n (zcs zs)) (hl : n ≤ 1099511627776) :
    Calls Tryd.prog 7 #[.slice p n c, .int .i64 mark] w fun e w' => e = .returned (.tuple #[]) ∧ w'.ownsRow base 41 4 (.slice p n c) n (zcs (mks mark n)) ∧ Fr (blk p) w w' := by
  subst hn
  exact marked_ok p c zs mark base w h hl
theorem longer_n (p : Option Addr) (c n : Nat) (zs : List Zt) (hn : zs.length = n) (mark : Int) (base : Nat) (w : World) (h : w.ownsRow base 41 4 (.slice p n c) n (zcs zs)) (hl : n ≤ 1099511627776) (hB : base ≤ w.heap.size) :
    Calls Tryd.prog 8 #[.slice p n c, .int .i64 mark] w fun e w' => ∃ p' c', e = .returned (.slice p' (n + 64) c') ∧ Fz w w' base p c zs (List.replicate 64 (mark, [], 0, 0)) p' c' := by
  subst hn
  exact longer_ok p c zs mark base w h hl hB
theorem cell2 {W : World} {F c a : Nat} (h : W.heap[F]? = some (.cells #[.int .i64 c, .int .i64 a] 25 (0, 0))) : W.cell? ⟨F, 0, none⟩ = some (.int .i64 c) ∧ W.cell? ⟨F, 1, none⟩ = some (.int .i64 a) :=
  ⟨by rw [cell_in h]; rfl, by rw [cell_in h]; rfl⟩
theorem own_bl {w w' : World} {base : Nat} {e : TypeId} {size : Nat} {v : Value} {n : Nat} {xs : List Value} (h : w.ownsRow base e size v n xs) (b : Bl w w') : w'.ownsRow base e size v n xs :=
  own_congr h (fun g hg => b.block g (own_lt h g hg).2)
theorem own_fr {w w' : World} {base : Nat} {e : TypeId} {size : Nat} {v : Value} {n : Nat} {xs : List Value} {S : List Nat} (h : w.ownsRow base e size v n xs) (f : Fr S w w') (hS : ∀ g, v.ownBlock = some g → g ∉ S) : w'.ownsRow base e size v n xs :=
  own_congr h (fun g hg => f.block g (own_lt h g hg).2 (hS g hg))
theorem agree_refl (pl : Bool) (ts : List (Tok × Nat)) : AgreeT pl ts ts := ⟨rfl, fun j hj => ⟨rfl, fun _ => rfl⟩⟩
theorem Fz.long {w0 w : World} {base : Nat} {p : Option Addr} {c n : Nat} {zs us : List Zt} {p' : Option Addr} {c' : Nat} (h : Fz w0 w base p c zs us p' c') (hn : zs.length + us.length = n) : RdV w (.slice p' n c') (zs ++ us) :=
  RdV.own (base := base) (by rw [List.length_append, hn]; have := h.row; rw [hn] at this; exact this)
end Go.Proofs.YtimlomobbnnehaaDoor
namespace Go.Proofs.YtimlomobbnnehaaDoor
open Go.RowKit Go.Maps Go.WideMaps
set_option linter.unusedVariables false
set_option linter.unusedSimpArgs false
theorem blk_lt {w : World} {base : Nat} {p : Option Addr} {n c : Nat} {xs : List Value} (h : w.ownsRow base 41 4 (.slice p n c) n xs) : ∀ g ∈ blk p, base ≤ g ∧ g < w.heap.size := fun g hg => own_lt h g ((blk_own p n c g).1 hg)
/-- the three lists that are answered first, and the errors -/
structure S3 (w W : World) (ts : List (Tok × Nat)) (c a : Nat) (p0 : Option Addr) (c0 : Nat) (F : Nat) (p1 : Option Addr) (c1 : Nat) (G : Nat) (p2 : Option Addr) (c2 : Nat) (H : Nat) : Prop where
  o0 : W.ownsRow w.heap.size 41 4 (.slice p0 ts.length c0) ts.length (tcs ts)
  o1 : W.ownsRow w.heap.size 41 4 (.slice p1 ts.length c1) ts.length (tcs ts)
  o2 : W.ownsRow w.heap.size 41 4 (.slice p2 ts.length c2) ts.length (tcs ts)
  f : W.heap[F]? = some (.cells #[.int .i64 c, .int .i64 a] 25 (0, 0))
  g : W.heap[G]? = some (.cells #[.int .i64 c, .int .i64 a] 25 (0, 0))
  h : W.heap[H]? = some (.cells #[.int .i64 c, .int .i64 a] 25 (0, 0))
  b0 : ∀ x ∈ blk p0, x < F
  b1 : ∀ x ∈ blk p1, F < x ∧ x < G
  b2 : ∀ x ∈ blk p2, G < x ∧ x < H
  lo : w.heap.size ≤ F
  fg : F < G
  gh : G < H
  bl : Bl w W
theorem S3.make {w w1 w2 w3 : World} {ts : List (Tok × Nat)} {c a : Nat} {p0 p1 p2 : Option Addr} {c0 c1 c2 : Nat}
    (o0 : w1.ownsRow w.heap.size 41 4 (.slice p0 ts.length c0) ts.length (tcs ts)) (b1 : Bl w w1)
    (o1 : w2.ownsRow (w1.alloc (.cells #[.int .i64 c, .int .i64 a] 25)).heap.size 41 4 (.slice p1 ts.length c1) ts.length (tcs ts)) (b2 : Bl (w1.alloc (.cells #[.int .i64 c, .int .i64 a] 25)) w2)
    (o2 : w3.ownsRow (w2.alloc (.cells #[.int .i64 c, .int .i64 a] 25)).heap.size 41 4 (.slice p2 ts.length c2) ts.length (tcs ts)) (b3 : Bl (w2.alloc (.cells #[.int .i64 c, .int .i64 a] 25)) w3) :
    S3 w (w3.alloc (.cells #[.int .i64 c, .int .i64 a] 25)) ts c a p0 c0 w1.heap.size p1 c1 w2.heap.size p2 c2 w3.heap.size := by
  have z1 : (w1.alloc (.cells #[.int .i64 c, .int .i64 a] 25)).heap.size = w1.heap.size + 1 := by simp
  have z2 : (w2.alloc (.cells #[.int .i64 c, .int .i64 a] 25)).heap.size = w2.heap.size + 1 := by simp
  have s1 := b2.size
  have s2 := b3.size
  have s0 := b1.size
  rw [z1] at s1 o1
  rw [z2] at s2 o2
  have k1 := (Bl.alloc w1 (.cells #[.int .i64 c, .int .i64 a] 25)).trans b2
  have k2 := (Bl.alloc w2 (.cells #[.int .i64 c, .int .i64 a] 25)).trans b3
  have k3 := Bl.alloc w3 (.cells #[.int .i64 c, .int .i64 a] 25)
  refine ⟨own_bl (own_bl (own_bl o0 k1) k2) k3, ?_, ?_, ?_, ?_, heap_alloc_new w3 _, fun x hx => (blk_lt o0 x hx).2, fun x hx => ?_, fun x hx => ?_, s0, by omega, by omega, ((b1.trans k1).trans k2).trans k3⟩
  · exact ownR_congr (own_bl (own_bl o1 k2) k3) (fun _ _ => rfl) (by omega)
  · exact ownR_congr (own_bl o2 k3) (fun _ _ => rfl) (by omega)
  · have h1 := blk_in b2
    exact (k3.block _ (by omega)).trans ((k2.block _ (by omega)).trans h1)
  · have h1 := blk_in b3
    exact (k3.block _ (by omega)).trans h1
  · have := blk_lt o1 x hx; omega
  · have := blk_lt o2 x hx; omega
theorem S3.keep {w W V : World} {ts : List (Tok × Nat)} {c a : Nat} {p0 p1 p2 : Option Addr} {c0 c1 c2 F G H : Nat} (h : S3 w W ts c a p0 c0 F p1 c1 G p2 c2 H) (b : Bl W V) : S3 w V ts c a p0 c0 F p1 c1 G p2 c2 H :=
  ⟨own_bl h.o0 b, own_bl h.o1 b, own_bl h.o2 b, (b.block _ (lt_of_heap h.f)).trans h.f, (b.block _ (lt_of_heap h.g)).trans h.g, (b.block _ (lt_of_heap h.h)).trans h.h, h.b0, h.b1, h.b2, h.lo, h.fg, h.gh, h.bl.trans b⟩
/-- behind the writing over and the making longer: what is still asked for -/
structure S9 (w W : World) (ts : List (Tok × Nat)) (c a : Nat) (p0 : Option Addr) (c0 : Nat) (F : Nat) (p1 : Option Addr) (c1 : Nat) (p2 : Option Addr) (c2 : Nat) (p8 : Option Addr) (c8 : Nat) (p9 : Option Addr) (c9 : Nat) : Prop where
  o0 : W.ownsRow w.heap.size 41 4 (.slice p0 ts.length c0) ts.length (tcs ts)
  f : W.heap[F]? = some (.cells #[.int .i64 c, .int .i64 a] 25 (0, 0))
  r1 : RdV W (.slice p1 ts.length c1) (mks (-1) ts.length)
  r2 : RdV W (.slice p2 ts.length c2) (mks (-2) ts.length)
  r8 : RdV W (.slice p8 (ts.length + 64) c8) (mks (-1) ts.length ++ List.replicate 64 (-3, [], 0, 0))
  r9 : RdV W (.slice p9 (ts.length + 64) c9) (mks (-2) ts.length ++ List.replicate 64 (-4, [], 0, 0))
  k0 : ∀ x ∈ blk p0, x < W.heap.size
  k1 : ∀ x ∈ blk p1, x < W.heap.size
  k2 : ∀ x ∈ blk p2, x < W.heap.size
  k8 : ∀ x ∈ blk p8, x < W.heap.size
  k9 : ∀ x ∈ blk p9, x < W.heap.size
  bl : Bl w W
theorem S9.keep {w W V : World} {S : List Nat} {ts : List (Tok × Nat)} {c a : Nat} {p0 p1 p2 p8 p9 : Option Addr} {c0 c1 c2 c8 c9 F : Nat} (h : S9 w W ts c a p0 c0 F p1 c1 p2 c2 p8 c8 p9 c9) (b : Fr S W V) (hS : ∀ x ∈ S, W.heap.size ≤ x) : S9 w V ts c a p0 c0 F p1 c1 p2 c2 p8 c8 p9 c9 := by
  have k : Bl W V := b.bl hS
  have n : ∀ {p : Option Addr}, (∀ x ∈ blk p, x < W.heap.size) → ∀ x ∈ blk p, x ∉ S := fun hp x hx hm => by have := hp x hx; have := hS x hm; omega
  have s := b.size
  exact ⟨own_bl h.o0 k, (k.block _ (lt_of_heap h.f)).trans h.f, h.r1.frame b (fun _ => n h.k1), h.r2.frame b (fun _ => n h.k2), h.r8.frame b (fun _ => n h.k8), h.r9.frame b (fun _ => n h.k9),
    fun x hx => by have := h.k0 x hx; omega, fun x hx => by have := h.k1 x hx; omega, fun x hx => by have := h.k2 x hx; omega, fun x hx => by have := h.k8 x hx; omega, fun x hx => by have := h.k9 x hx; omega, h.bl.trans k⟩
theorem S3.marked {w W w6 w7 w8 w9 : World} {ts : List (Tok × Nat)} {c a : Nat} {p0 p1 p2 p8 p9 : Option Addr} {c0 c1 c2 c8 c9 F G H : Nat} (h : S3 w W ts c a p0 c0 F p1 c1 G p2 c2 H)
    (f6 : Fr (blk p1) W w6) (f7 : Fr (blk p2) w6 w7)
    (z8 : Fz w7 w8 w.heap.size p1 c1 (mks (-1) ts.length) (List.replicate 64 (-3, [], 0, 0)) p8 c8) (z9 : Fz w8 w9 w.heap.size p2 c2 (mks (-2) ts.length) (List.replicate 64 (-4, [], 0, 0)) p9 c9) :
    S9 w w9 ts c a p0 c0 F p1 c1 p2 c2 p8 c8 p9 c9 := by
  have hH := lt_of_heap h.h
  have y6 := f6.size
  have y7 := f7.size
  have y8 := z8.fr.size
  have y9 := z9.fr.size
  have fg := h.fg
  have gh := h.gh
  have lo := h.lo
  have key : ∀ x, x ≤ F → w9.heap[x]? = W.heap[x]? := fun x hx => by
    have n1 : x ∉ blk p1 := fun hm => by have := h.b1 x hm; omega
    have n2 : x ∉ blk p2 := fun hm => by have := h.b2 x hm; omega
    rw [z9.fr.block x (by omega) n2, z8.fr.block x (by omega) n1, f7.block x (by omega) n2, f6.block x (by omega) n1]
  have n12 : ∀ x ∈ blk p1, x ∉ blk p2 := fun x h1 h2 => by have := h.b1 x h1; have := h.b2 x h2; omega
  have n82 : ∀ x ∈ blk p8, x ∉ blk p2 := fun x h8 h2 => by
    rcases z8.new x h8 with h1 | h1
    · exact n12 x h1 h2
    · have := h.b2 x h2; omega
  have k8 : ∀ x ∈ blk p8, x < w8.heap.size := fun x hx => (own_lt z8.row x ((blk_own _ _ _ _).1 hx)).2
  have k9 : ∀ x ∈ blk p9, x < w9.heap.size := fun x hx => (own_lt z9.row x ((blk_own _ _ _ _).1 hx)).2
  have r1 : RdV w8 (.slice p1 ts.length c1) (mks (-1) ts.length) := by have := z8.rd; rw [mks_len] at this; exact this
  have r2 : RdV w9 (.slice p2 ts.length c2) (mks (-2) ts.length) := by have := z9.rd; rw [mks_len] at this; exact this
  have r8 : RdV w8 (.slice p8 (ts.length + 64) c8) (mks (-1) ts.length ++ List.replicate 64 (-3, [], 0, 0)) := z8.long (by rw [mks_len, List.length_replicate])
  have r9 : RdV w9 (.slice p9 (ts.length + 64) c9) (mks (-2) ts.length ++ List.replicate 64 (-4, [], 0, 0)) := z9.long (by rw [mks_len, List.length_replicate])
  have a1 : ∀ x ∈ blk p1, x ∈ ([] : List Nat) ∨ w.heap.size ≤ x := fun x hx => Or.inr (by have := h.b1 x hx; omega)
  have a2 : ∀ x ∈ blk p2, x ∈ ([] : List Nat) ∨ w.heap.size ≤ x := fun x hx => Or.inr (by have := h.b2 x hx; omega)
  have fw := ((((Fr.ofBl h.bl []).trans f6 a1).trans f7 a2).trans z8.fr a1).trans z9.fr a2
  refine ⟨own_congr h.o0 (fun g hg => key g (Nat.le_of_lt (h.b0 g ((blk_own _ _ _ _).2 hg)))), (key F (Nat.le_refl _)).trans h.f, r1.frame z9.fr (fun _ => n12), r2, r8.frame z9.fr (fun _ => n82), r9, fun x hx => ?_, fun x hx => ?_, fun x hx => ?_, fun x hx => ?_, k9, fw.bl (fun b hb => by cases hb)⟩
  · have := h.b0 x hx; omega
  · have := h.b1 x hx; omega
  · have := h.b2 x hx; omega
  · have := k8 x hx; omega
end Go.Proofs.YtimlomobbnnehaaDoor
