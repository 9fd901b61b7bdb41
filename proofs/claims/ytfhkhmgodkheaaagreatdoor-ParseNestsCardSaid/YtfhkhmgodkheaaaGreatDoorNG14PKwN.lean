import Derived.Test.YtfhkhmgodkheaaaGreatDoorNG13PSnd
set_option linter.unusedSimpArgs false
set_option linter.unusedVariables false
namespace Go.Proofs.YtfhkhmgodkheaaaGreatDoor
open Go.RowKit Go.Maps Go.WideMaps
def MadeN (w : World) (old : List Nat) (n : Nd) (e : Ending) (w' : World) : Prop := Bl w w' ∧ ∃ c0 c1 c2 c3 c4 c5 c6 ft, e = .returned (.agg #[c0, c1, c2, c3, c4, c5, c6]) ∧ NdM w' n (.agg #[c0, c1, c2, c3, c4, c5, c6]) ft ∧ ft.Nodup ∧ ∀ b ∈ ft, b ∈ old ∨ w.heap.size ≤ b
theorem ret34b {f : Func} {V : World} {B p : Nat} {tm : Array Value} {a0 a1 a2 a3 a4 a5 a6 : Value} {A : Array Value} {R : Ending → World → Prop} (hres : f.results = #[.cell p 34]) (hB : V.heap[B]? = some (.cells A 34 (0, 0)))
  (h2 : tm.getD p undef = .pointer (some ⟨B, 0, none⟩)) (hR : R (.returned (.agg #[a0, a1, a2, a3, a4, a5, a6])) (V.setRow B #[a0, a1, a2, a3, a4, a5, a6])) : bodyPost Tryz.prog f R .ret ⟨tm, []⟩ (V.setRow B #[a0, a1, a2, a3, a4, a5, a6]) :=
 ret34g hres (B := B) (setRow_heap _ _ _ _ 34 (0, 0) hB) h2 hR
set_option maxHeartbeats 8000000 in
set_option maxRecDepth 1000000 in
theorem send_ok (n : Nd) (r0 r1 r2 r3 r4 r5 r6 : Value) (fr : List Nat) (k : Nat) (t : Bs) (num : Int) (pl : Nat) (nms : List Bs) (pls : List Nat) (kids : List Nd) (v : Value) (fm : List Nat) (w : World) (hn : NdM w n (.agg #[r0, r1, r2, r3, r4, r5, r6]) fr) (hm : NdM w (.mk k t num pl nms pls kids) v fm) (hd : (fr ++ fm).Nodup) (hl : kids.length ≤ 100000) :
  Calls Tryz.prog 164 #[.agg #[r0, r1, r2, r3, r4, r5, r6], v] w (MadeN w (fr ++ fm) (sendN n (.mk k t num pl nms pls kids))) := by
 cases hm with
 | @mk _ _ _ _ _ _ _ sn sp sk f1 f2 f3 f4 xs h1 h2 h3 h4 =>
 obtain ⟨pn, cn, rfl⟩ := h1.slice
 obtain ⟨pp, cp, rfl⟩ := h2.slice
 obtain ⟨pk, ck, rfl⟩ := h3.slice
 obtain ⟨W1, hW1⟩ : ∃ W, (w.alloc (.cells #[r0, r1, r2, r3, r4, r5, r6] 34)).alloc (.cells #[.int .i64 k, .string (ba t), .int .i64 num, .int .i64 pl, .slice pn nms.length cn, .slice pp pls.length cp, .slice pk kids.length ck] 34) = W := ⟨_, rfl⟩
 have s1 : W1.heap.size = w.heap.size + 2 := by rw [← hW1]; simp
 have b1 : Bl w W1 := hW1 ▸ (Bl.alloc w _).trans (Bl.alloc _ _)
 have g0 : W1.heap[w.heap.size]? = some (.cells #[r0, r1, r2, r3, r4, r5, r6] 34 (0, 0)) := by rw [← hW1, Below.heap_alloc _ _ _ (by simp)]; exact heap_alloc_new w _
 have g1 : W1.heap[w.heap.size + 1]? = some (.cells #[.int .i64 k, .string (ba t), .int .i64 num, .int .i64 pl, .slice pn nms.length cn, .slice pp pls.length cp, .slice pk kids.length ck] 34 (0, 0)) := by
  rw [← hW1]
  have := heap_alloc_new (w.alloc (.cells #[r0, r1, r2, r3, r4, r5, r6] 34)) (.cells #[.int .i64 k, .string (ba t), .int .i64 num, .int .i64 pl, .slice pn nms.length cn, .slice pp pls.length cp, .slice pk kids.length ck] 34)
  simpa using this
 obtain ⟨W2, hW2⟩ : ∃ W, W1.alloc (.cells #[.int .i64 0, .string ⟨#[]⟩, .int .i64 0, .int .i64 0, .slice none 0 0, .slice none 0 0, .slice none 0 0] 34) = W := ⟨_, rfl⟩
 have s2 : W2.heap.size = w.heap.size + 3 := by rw [← hW2]; simp [s1]
 have b2 : Bl W1 W2 := hW2 ▸ Bl.alloc _ _
 have g2 : W2.heap[w.heap.size + 2]? = some z7 := by rw [← hW2, ← s1]; exact heap_alloc_new W1 _
 have g0' := (b2.block _ (by omega)).trans g0
 have g1' := (b2.block _ (by omega)).trans g1
 obtain ⟨W3, hW3⟩ : ∃ W, W2.setCell ⟨w.heap.size + 1, 0, none⟩ (.int .i64 9) = W := ⟨_, rfl⟩
 have f3' : Fr [w.heap.size + 1] W2 W3 := hW3 ▸ Fr.setCell W2 _ _ (by simp)
 have e0 : W3.heap[w.heap.size]? = some (.cells #[r0, r1, r2, r3, r4, r5, r6] 34 (0, 0)) := (f3'.block _ (by omega) (by simp)).trans g0'
 have e1 : W3.heap[w.heap.size + 1]? = some (.cells #[.int .i64 9, .string (ba t), .int .i64 num, .int .i64 pl, .slice pn nms.length cn, .slice pp pls.length cp, .slice pk kids.length ck] 34 (0, 0)) := by rw [← hW3, set_in g1']; rfl
 have e2 : W3.heap[w.heap.size + 2]? = some z7 := (f3'.block _ (by omega) (by simp)).trans g2
 have s3 : W3.heap.size = w.heap.size + 3 := by rw [← hW3]; simp [s2]
 obtain ⟨W4, hW4⟩ : ∃ W, W3.alloc (.cells #[r0, r1, r2, r3, r4, r5, r6] 34) = W := ⟨_, rfl⟩
 have b4 : Bl W3 W4 := hW4 ▸ Bl.alloc _ _
 have s4 : W4.heap.size = w.heap.size + 4 := by rw [← hW4]; simp [s3]
 have e3 : W4.heap[w.heap.size + 3]? = some (.cells #[r0, r1, r2, r3, r4, r5, r6] 34 (0, 0)) := by rw [← hW4, ← s3]; exact heap_alloc_new W3 _
 have fw4 : Fr [] w W4 := ((Fr.ofBl (b1.trans b2) []).trans f3' (by simp)).trans (Fr.ofBl b4 []) (by simp)
 have hlt3 := h3.lt
 have hsrc : SrcN W4 (.slice pk kids.length ck) kids.length xs := (h3.fr fw4 (by simp)).src
 have hown : W4.ownsRow (w.heap.size + 3) 34 7 (.slice (some ⟨w.heap.size + 3, 0, none⟩) 1 1) 1 [r0, r1, r2, r3, r4, r5, r6] := ⟨rfl, Or.inr ⟨_, 1, _, rfl, Nat.le_refl _, e3, Nat.le_refl _, by decide, rfl, rfl⟩⟩
 obtain ⟨v', W5, hr5, o5, f5⟩ := appN W4 (w.heap.size + 3) (some ⟨w.heap.size + 3, 0, none⟩) 1 1 kids.length _ xs _ hown hsrc h4.oneCells (by omega) (by omega)
 have f5' : Fr [w.heap.size + 3] W4 W5 := f5
 obtain ⟨gk, hgk, rk⟩ := RowM.own o5 (by omega)
 have hgl := own_lt o5 gk hgk
 obtain ⟨pv, cv, rfl⟩ := own_slice o5
 have q0 := (f5'.block _ (by omega) (by simp)).trans ((b4.block _ (by omega)).trans e1)
 have q2 := (f5'.block _ (by omega) (by simp)).trans ((b4.block _ (by omega)).trans e2)
 have s5 := f5'.size
 obtain ⟨W6, hW6⟩ : ∃ W, W5.setCell ⟨w.heap.size + 1, 6, none⟩ (.slice pv (1 + kids.length) cv) = W := ⟨_, rfl⟩
 have f6 : Fr [w.heap.size + 1] W5 W6 := hW6 ▸ Fr.setCell W5 _ _ (by simp)
 have p1 : W6.heap[w.heap.size + 1]? = some (.cells #[.int .i64 9, .string (ba t), .int .i64 num, .int .i64 pl, .slice pn nms.length cn, .slice pp pls.length cp, .slice pv (1 + kids.length) cv] 34 (0, 0)) := by rw [← hW6, set_in q0]; rfl
 have p2 : W6.heap[w.heap.size + 2]? = some z7 := (f6.block _ (by omega) (by simp)).trans q2
 have fw6 : Fr [] w W6 := (fw4.trans f5' (by simp)).trans f6 (by simp)
 have fw7 : Fr [] w (W6.setRow (w.heap.size + 2) #[.int .i64 9, .string (ba t), .int .i64 num, .int .i64 pl, .slice pn nms.length cn, .slice pp pls.length cp, .slice pv (1 + kids.length) cv]) := fw6.trans (row_fr _ _ _) (by simp)
 have HE : Hid (MadeN w (fr ++ (f1 ++ (f2 ++ (f3 ++ f4)))) (sendN n (.mk k t num pl nms pls kids)) (.returned (.agg #[.int .i64 9, .string (ba t), .int .i64 num, .int .i64 pl, .slice pn nms.length cn, .slice pp pls.length cp, .slice pv (1 + kids.length) cv])) (W6.setRow (w.heap.size + 2) #[.int .i64 9, .string (ba t), .int .i64 num, .int .i64 pl, .slice pn nms.length cn, .slice pp pls.length cp, .slice pv (1 + kids.length) cv])) := mkHid (by
  refine ⟨fw7.bl (by simp), _, _, _, _, _, _, _, f1 ++ (f2 ++ ([gk] ++ (fr ++ f4))), rfl, ?_, ?_, ?_⟩
  ·have rk' := (rk.fr f6 (fun b hb => by simp at hb; simp; omega)).fr (row_fr _ (w.heap.size + 2) #[.int .i64 9, .string (ba t), .int .i64 num, .int .i64 pl, .slice pn nms.length cn, .slice pp pls.length cp, .slice pv (1 + kids.length) cv]) (fun b hb => by simp at hb; simp; omega)
   have hk := NdsM.cons (hn.fr fw7 (by simp)) (h4.fr fw7 (by simp))
   have := NdM.mk (k := 9) (t := t) (n := num) (a := pl) (h1.fr fw7 (by simp)) (h2.fr fw7 (by simp)) (show RowM _ 34 7 (.slice pv (1 + kids.length) cv) (n :: kids).length _ [gk] by rw [List.length_cons, Nat.add_comm kids.length 1]; exact rk') hk
   exact this
  ·have hnew : ∀ b ∈ fr ++ (f1 ++ (f2 ++ (f3 ++ f4))), b < w.heap.size := fun b hb => by
    simp only [List.mem_append] at hb
    rcases hb with hb | hb | hb | hb | hb
    ·exact hn.lt b hb
    ·exact h1.lt b hb
    ·exact h2.lt b hb
    ·exact h3.lt b hb
    ·exact h4.lt b hb
   have hsub : (f1 ++ (f2 ++ (fr ++ f4))).Nodup := by
    have hp : List.Sublist (fr ++ (f1 ++ (f2 ++ f4))) (fr ++ (f1 ++ (f2 ++ (f3 ++ f4)))) := List.Sublist.append (List.Sublist.refl _) (List.Sublist.append (List.Sublist.refl _) (List.Sublist.append (List.Sublist.refl _) (List.sublist_append_right _ _)))
    have hq := hp.nodup hd
    refine (List.Perm.nodup_iff ?_).1 hq
    calc (fr ++ (f1 ++ (f2 ++ f4))).Perm ((f1 ++ (f2 ++ f4)) ++ fr) := List.perm_append_comm
     _ = f1 ++ (f2 ++ (f4 ++ fr)) := by simp
     List.Perm _ (f1 ++ (f2 ++ (fr ++ f4))) := List.Perm.append_left _ (List.Perm.append_left _ List.perm_append_comm)
   refine (List.Perm.nodup_iff ?_).1 (List.nodup_cons.2 ⟨?_, hsub⟩ : (gk :: (f1 ++ (f2 ++ (fr ++ f4)))).Nodup)
   ·calc List.Perm (gk :: (f1 ++ (f2 ++ (fr ++ f4)))) (f1 ++ (gk :: (f2 ++ (fr ++ f4)))) := List.perm_middle.symm
     List.Perm _ (f1 ++ (f2 ++ (gk :: (fr ++ f4)))) := List.Perm.append_left _ List.perm_middle.symm
     _ = f1 ++ (f2 ++ ([gk] ++ (fr ++ f4))) := by simp
   ·intro hm
    have : gk ∈ fr ++ (f1 ++ (f2 ++ (f3 ++ f4))) := by
     simp only [List.mem_append] at hm ⊢
     rcases hm with h | h | h | h <;> simp [h]
    have := hnew gk this
    omega
  ·intro b hb
   simp only [List.mem_append, List.mem_singleton] at hb ⊢
   rcases hb with h | h | h | h | h
   ·exact Or.inl (Or.inr (Or.inl h))
   ·exact Or.inl (Or.inr (Or.inr (Or.inl h)))
   ·right; omega
   ·exact Or.inl (Or.inl h)
   ·exact Or.inl (Or.inr (Or.inr (Or.inr (Or.inr h)))))
 have HR := mkHid hr5
 have P2 := mkHid p2
 have k0 := cells7 e0
 have k1 := cells7 e1
 have k6 := cells7 p1
 have c10 : W2.cell? ⟨w.heap.size + 1, 0, none⟩ = some (.int .i64 k) := by rw [cell_in g1']; rfl
 have z10 := frozen_in g1' 0
 have c46 : W4.cell? ⟨w.heap.size + 1, 6, none⟩ = some (.slice pk kids.length ck) := by rw [cell_in ((b4.block _ (by omega)).trans e1)]; rfl
 have c56 : W5.cell? ⟨w.heap.size + 1, 6, none⟩ = some (.slice pk kids.length ck) := by rw [cell_in q0]; rfl
 have z56 := frozen_in q0 6
 obtain ⟨x0, x1, x2, x3, x4, x5, x6⟩ := k0
 obtain ⟨y0, y1, y2, y3, y4, y5, y6⟩ := k6
 clear hn h1 h2 h3 h4 hd hl k1 hr5 o5 f5 f5' rk hgk hgl q0 q2 f6 p1 p2 fw6 fw7 hown hsrc hlt3 fw4 e0 e1 e2 e3 g0 g1 g2 g0' g1' f3' b1 b2 b4 s5
 go_enter Tryz.func164, Tryz.ntmps164
 go_wp2_with (first
  | (at_builtin; refine Lib.wpList_append_run _ rfl (.tmp 7) (.tmp 9) 25 25 rfl _ _ rfl rfl _ _ HR.out ?_)
  | (refine wpList_store_row rfl 34 _ _ rfl (w.heap.size + 2) #[.int .i64 9, .string (ba t), .int .i64 num, .int .i64 pl, .slice pn nms.length cn, .slice pp pls.length cp, .slice pv (1 + kids.length) cv] rfl rfl 34 _ P2.out (by kernel_rfl) rfl (by kernel_rfl) ?_))
 exact ret34b Tryz.results164 P2.out rfl HE.out
end Go.Proofs.YtfhkhmgodkheaaaGreatDoor
namespace Go.Proofs.YtfhkhmgodkheaaaGreatDoor
open Go.RowKit Go.Maps
structure I3 {β : Type} (P g c : Nat) (ts : Ts) (B0 B1 B2 : Nat) (oneV : Value) (tO : TypeId) (Gk : List Nat) (w0 : World) (W : World) (F : List Nat) (acc : List ((Tok × Nat) × β)) (s : Ps) : Prop where
 pr : Pr W P g c ts s
 ok : Okq ts s
 gk : ∀ b ∈ Gk, W.heap[b]? = w0.heap[b]?
 sz : w0.heap.size ≤ W.heap.size
 b0 : Box W B0 (.pointer (some ⟨P, 0, none⟩)) 62
 b1 : Box W B1 oneV tO
 ex : ∃ vw, Box W B2 vw 50 ∧ RowZ W 54 4 w0.heap.size vw acc.length (tcs (acc.map (·.1))) ∧ F = P :: B2 :: vw.ownBlock.toList
structure Apy (P g B0 B1 B2 : Nat) (Gk : List Nat) (w0 : World) : Prop where
 p0 : P ≠ B0
 p1 : P ≠ B1
 p2 : P ≠ B2
 q0 : B2 ≠ B0
 q1 : B2 ≠ B1
 qg : B2 ≠ g
 lp : P < w0.heap.size
 lg : g < w0.heap.size
 l0 : B0 < w0.heap.size
 l1 : B1 < w0.heap.size
 l2 : B2 < w0.heap.size
 gk : ∀ b ∈ Gk, b ≠ P ∧ b ≠ B2 ∧ b < w0.heap.size
theorem I3.invok {β : Type} {P g c : Nat} {ts : Ts} {B0 B1 B2 : Nat} {oneV : Value} {tO : TypeId} {Gk : List Nat} {w0 : World} (a : Apy P g B0 B1 B2 Gk w0) : InvOk P ([g, B0, B1] ++ Gk) ts (I3 (β := β) P g c ts B0 B1 B2 oneV tO Gk w0) where
 ok := fun {W F acc s} h => ⟨h.ok, h.pr.posW, by
  have := h.sz
  intro x hx
  simp only [List.cons_append, List.nil_append, List.mem_cons] at hx
  rcases hx with rfl | rfl | rfl | hx
  ·have := a.lg; omega
  ·have := a.l0; omega
  ·have := a.l1; omega
  ·have := (a.gk x hx).2.2; omega, by
  obtain ⟨vw, h1, h2, h3⟩ := h.ex
  rw [h3]
  intro x hx
  simp only [List.mem_cons] at hx
  rcases hx with rfl | rfl | hx
  ·exact h.pr.lt
  ·exact h1.lt
  ·exact (h2.blk x hx).2⟩
 keep := fun {W W' F acc s S} h f hs => by
  obtain ⟨vw, h1, h2, h3⟩ := h.ex
  have hn : ∀ b ∈ P :: B2 :: vw.ownBlock.toList, b ∉ S := fun b hb hm => (hs b hm).1 (by rw [h3]; exact hb)
  have hg : ∀ b ∈ [g, B0, B1] ++ Gk, b ∉ S := fun b hb hm => (hs b hm).2 hb
  exact ⟨h.pr.other f (hn P (by simp)) (hg g (by simp)), h.ok, fun b hb => (f.block b (by have := h.sz; have := (a.gk b hb).2.2; omega) (hg b (by simp [hb]))).trans (h.gk b hb), Nat.le_trans h.sz f.size, h.b0.fr f (hg B0 (by simp)), h.b1.fr f (hg B1 (by simp)),
   vw, h1.fr f (hn B2 (by simp)), ⟨own_congr h2.1 (fun k hk => f.block k (own_lt h2.1 k hk).2 (hn k (by simp [hk]))), h2.2⟩, h3⟩
theorem I3.go {β : Type} {P g c : Nat} {ts : Ts} {B0 B1 B2 : Nat} {oneV : Value} {tO : TypeId} {Gk : List Nat} {w0 W W' : World} {F : List Nat} {acc : List ((Tok × Nat) × β)} {s s' : Ps} (a : Apy P g B0 B1 B2 Gk w0) (h : I3 P g c ts B0 B1 B2 oneV tO Gk w0 W F acc s) (f : Fr [P] W W') (p : Pr W' P g c ts s') (o : Okq ts s') : I3 P g c ts B0 B1 B2 oneV tO Gk w0 W' F acc s' := by
 obtain ⟨vw, h1, h2, h3⟩ := h.ex
 have hlp := a.lp
 exact ⟨p, o, fun b hb => (f.block b (by have := h.sz; have := (a.gk b hb).2.2; omega) (by simpa using (a.gk b hb).1)).trans (h.gk b hb), Nat.le_trans h.sz f.size, h.b0.fr f (by simpa using fun e => a.p0 e.symm), h.b1.fr f (by simpa using fun e => a.p1 e.symm),
  vw, h1.fr f (by simpa using fun e => a.p2 e.symm), ⟨own_congr h2.1 (fun k hk => f.block k (own_lt h2.1 k hk).2 (by have := (own_lt h2.1 k hk).1; simp; omega)), h2.2⟩, h3⟩
theorem I3.frF {β : Type} {P g c : Nat} {ts : Ts} {B0 B1 B2 : Nat} {oneV : Value} {tO : TypeId} {Gk : List Nat} {w0 W : World} {F : List Nat} {acc : List ((Tok × Nat) × β)} {s : Ps} (h : I3 P g c ts B0 B1 B2 oneV tO Gk w0 W F acc s) {W' : World} (f : Fr [P] W W') : Fr F W W' := by
 obtain ⟨vw, h1, h2, h3⟩ := h.ex
 exact f.mono (fun b hb => Or.inl (by simp at hb; rw [h3, hb]; simp))
theorem skip3_ok {β : Type} {P g c : Nat} {ts : Ts} {B0 B1 B2 : Nat} {oneV : Value} {tO : TypeId} {Gk : List Nat} {w0 : World} (a : Apy P g B0 B1 B2 Gk w0) (k : Nat) (hk : k ≠ 18) (W : World) (F : List Nat) (acc : List ((Tok × Nat) × β)) (s : Ps) (h : I3 P g c ts B0 B1 B2 oneV tO Gk w0 W F acc s) : Calls Tryz.prog 85 #[.pointer (some ⟨P, 0, none⟩), .int .i64 k] W fun e w' => e = .returned (.bool (skipP ts k s).1) ∧ I3 P g c ts B0 B1 B2 oneV tO Gk w0 w' F acc (skipP ts k s).2 ∧ Fr F W w' := by
 refine (skip_ok P g c ts s k W h.pr h.ok.ok h.ok.lt).mono ?_
 rintro e w' ⟨rfl, p, f⟩
 exact ⟨rfl, h.go a f p (h.ok.skip hk), h.frF f⟩
theorem rank3 (x : Tok × Nat) : ((rankT x : Int) == 3) = decide (rankT x = 3) := by
 rw [Bool.eq_iff_iff, decide_eq_true_eq, beq_iff_eq]; omega
theorem I3.word {β : Type} {P g c : Nat} {ts : Ts} {B0 B1 B2 : Nat} {oneV : Value} {tO : TypeId} {Gk : List Nat} {w0 W : World} {F : List Nat} {acc : List ((Tok × Nat) × β)} {s : Ps} (a : Apy P g B0 B1 B2 Gk w0) (h : I3 P g c ts B0 B1 B2 oneV tO Gk w0 W F acc s) (x : Tok × Nat) (hl : acc.length ≤ 1000000) :
  ∃ p cw, Box W B2 (.slice p acc.length cw) 50 ∧ F = P :: B2 :: blk p ∧ (∀ b ∈ blk p, w0.heap.size ≤ b ∧ b < W.heap.size) ∧ ∀ W2, Fr [P] W W2 → ∃ p' c' W4, (Builtin.append_ #[50, 50] 50 #[.slice p acc.length cw, .slice (some ⟨W2.heap.size, 0, none⟩) 1 1]).run Tryz.prog (W2.alloc (.cells #[.int .i64 x.1.kind, .string (ba x.1.text), .int .i64 x.1.num, .int .i64 x.2] 54)) = .ok (.slice p' (acc.length + 1) c') W4 ∧
   RowZ W4 54 4 w0.heap.size (.slice p' (acc.length + 1) c') (acc.length + 1) (tcs (acc.map (·.1)) ++ tc x) ∧ Fr (blk p) W2 W4 ∧ (∀ b ∈ blk p', b ∈ blk p ∨ W2.heap.size ≤ b) := by
 obtain ⟨vw, h1, h2, h3⟩ := h.ex
 obtain ⟨p, cw, rfl⟩ := own_slice h2.1
 rw [blk_ob] at h3
 have hbl : ∀ b ∈ blk p, w0.heap.size ≤ b ∧ b < W.heap.size := fun b hb => own_lt h2.1 b ((blk_own p _ _ b).1 hb)
 refine ⟨p, cw, h1, h3, hbl, fun W2 f => ?_⟩
 have hlp := a.lp
 have o2 := own_congr h2.1 (w' := W2) (fun k hk => f.block k (own_lt h2.1 k hk).2 (by have := (own_lt h2.1 k hk).1; simp; omega))
 have := f.size
 have := h.sz
 obtain ⟨p', c', w', hr, o3, hw⟩ := pushT W2 w0.heap.size p cw acc.length _ (tc x) rfl o2 (fun u hu => by
  simp only [tc, List.mem_cons, List.not_mem_nil, or_false] at hu
  rcases hu with rfl | rfl | rfl | rfl <;> rfl) hl (by omega)
 refine ⟨p', c', w', hr, ⟨o3, fun h0 => by omega⟩, ?_, ?_⟩
 ·rcases hw with ⟨_, _, hw⟩ | ⟨hw, _⟩
  ·exact hw
  ·exact hw.mono (by simp)
 ·intro b hb
  rcases hw with ⟨rfl, _, _⟩ | ⟨_, hq⟩
  ·exact Or.inl hb
  ·exact Or.inr (hq b hb)
theorem stepB2 {ops : Array Oper} {o : Oper} {a : Act} {w w' : World} {v : Value} {K : Act → World → Prop} {Q : Exit → Act → World → Prop} {E : Prop} (hw : Region.wanted o (yielded ops a.tmps) = true) (hr : (execOp a.eval o).run Tryz.prog w = .ok (.value v) w') (h : K (a.put o.dst v) w') : if Region.wanted o (yielded ops a.tmps) = true then Oper.wp Tryz.prog o a w K Q else E := by
 rw [if_pos hw]
 unfold Oper.wp
 rw [hr]
 exact h
def PostT (P g c : Nat) (ts : Ts) (w : World) (r : Rs (Tok × Nat)) (e : Ending) (w' : World) : Prop := Fr [P] w w' ∧ match r with
 | .ok x s' => e = .returned (tkv x) ∧ Pr w' P g c ts s'
 | .bad x => e = .panicked [{ v := thrown x, recovered := false }]
set_option maxHeartbeats 4000000 in
set_option maxRecDepth 1000000 in
theorem clo191_ok {P g c : Nat} {ts : Ts} {B0 B1 B2 : Nat} {oneV : Value} {Gk : List Nat} {w0 : World} (W : World) (F : List Nat) (acc : List ((Tok × Nat) × Nd)) (s : Ps) (h : I3 (β := Nd) P g c ts B0 B1 B2 oneV 127 Gk w0 W F acc s) (a : Apy P g B0 B1 B2 Gk w0) : Calls Tryz.prog 191 #[.pointer (some ⟨B0, 0, none⟩)] W fun e w' => e = .returned (.bool (decide (rankT (hdT ts s) = 3))) ∧ I3 (β := Nd) P g c ts B0 B1 B2 oneV 127 Gk w0 w' F acc s ∧ Fr F W w' := by
 have HA := mkHid (ahead_ok P g c ts s W h.pr h.ok.lt (by have := h.ok.len; omega))
 have hy : (hdT ts s).1.text.length ≤ 8192 := by have := h.ok.txt.1; omega
 have HR := mkHid (fun V => rankT_ok (hdT ts s) V hy)
 have hb := h.b0.cell
 have HI := mkHid h
 rw [← rank3]
 unfold tkv at HA HR
 generalize rankT (hdT ts s) = R at *
 generalize hdT ts s = x at *
 obtain ⟨⟨tk, tt, tn⟩, tp⟩ := x
 dsimp only at *
 have HAp := mkHid a
 clear h a hy
 go_enter Tryz.func191, Tryz.ntmps191
 go_wp2_with (first
  | (go_at_call 54; refine HA.out.mono ?_; rintro e w1 ⟨rfl, b1⟩; have B3 := mkHid b1; clear b1)
  | (go_at_call 79; refine (HR.out _).mono ?_; rintro e w2 ⟨rfl, b2⟩; have B4 := mkHid (B3.out.trans b2); clear b2))
 go_ret
 exact ⟨rfl, HI.out.go HAp.out (bl_fr B4.out) (HI.out.pr.keep B4.out) HI.out.ok, Fr.ofBl B4.out _⟩
set_option maxHeartbeats 16000000 in
set_option maxRecDepth 1000000 in
theorem clo192_ok {P g c : Nat} {ts : Ts} {B0 B1 B2 : Nat} {Gk : List Nat} {w0 : World} (fo : Nat) (pre caps all : Array Value) (eo : Enters Tryz.prog fo) (hal : pre ++ caps = all) (pone : Ps → Option (Rs Nd)) (hpg : ∀ s, Okq ts s → Pq ts s (pone s))
  (hO : ∀ V s r, (∀ b ∈ Gk, V.heap[b]? = w0.heap[b]?) → Pr V P g c ts s → Okq ts s → pone s = some r → Calls Tryz.prog fo all V (PostN P g c ts V r))
  (W : World) (F : List Nat) (acc : List ((Tok × Nat) × Nd)) (s : Ps) (r : Rs ((Tok × Nat) × Nd)) (h : I3 (β := Nd) P g c ts B0 B1 B2 (.func (.func fo) pre caps) 127 Gk w0 W F acc s) (a : Apy P g B0 B1 B2 Gk w0) (hl : acc.length ≤ 1000000) (hth : rankT (hdT ts s) = 3) (hr : bindP (pone (takeP ts s)) (fun a s2 => some (.ok (hdT ts s, a) s2)) = some r) :
  Calls Tryz.prog 192 #[.pointer (some ⟨B2, 0, none⟩), .pointer (some ⟨B0, 0, none⟩), .pointer (some ⟨B1, 0, none⟩)] W (PostO (fun a => a.2) (I3 (β := Nd) P g c ts B0 B1 B2 (.func (.func fo) pre caps) 127 Gk w0) acc W F r) := by
 have hok := h.ok
 have hAr : rankT (hdT ts s) = 3 := hth
 have hq := hok.take (rank_kind (by rw [hAr]; decide))
 have HT := mkHid (fun V p => take_ok P g c ts s V p hok.ok hok.lt)
 unfold tkv at HT
 obtain ⟨p, cw, hbx2, hFe, hbl0, hwd⟩ := h.word a (hdT ts s) hl
 subst hFe
 have hbl := mkHid hbl0
 have HI := mkHid h
 have HAp := mkHid a
 have HQ := mkHid hq
 have bx2 := mkHid hbx2
 have bx0 := mkHid h.b0
 have HWd := mkHid hwd
 obtain ⟨W1, hW1⟩ : ∃ X, W.alloc (.cells #[.int .i64 0, .string ⟨#[]⟩, .int .i64 0, .int .i64 0, .slice none 0 0, .slice none 0 0, .slice none 0 0] 34) = X := ⟨_, rfl⟩
 have bW1 : Bl W W1 := hW1 ▸ Bl.alloc _ _
 have F1 : Hid (Fr [P] W W1.drew) := mkHid (fr_tr (bl_fr bW1) (Fr.drew _ _))
 have b2c : Hid (Box W1.drew B2 (.slice p acc.length cw) 50) := mkHid (hbx2.bl (bW1.trans (bl_drew W1)))
 have b0c : Hid (Box W1.drew B0 (.pointer (some ⟨P, 0, none⟩)) 62) := mkHid (h.b0.bl (bW1.trans (bl_drew W1)))
 have p1 : Hid (Pr W1.drew P g c ts s) := mkHid ((h.pr.keep bW1).keep (bl_drew W1))
 have hszW : Hid (W.heap.size < W1.drew.heap.size) := mkHid (by show W.heap.size < W1.heap.size; rw [← hW1]; simp)
 have hB2p : Hid (B2 ∉ blk p) := mkHid (fun hm => by have := (hbl0 _ hm).1; have := a.l2; omega)
 have hB0p : Hid (B0 ∉ blk p) := mkHid (fun hm => by have := (hbl0 _ hm).1; have := a.l0; omega)
 have hres : Hid (W1.drew.heap[W.heap.size]? = some (.cells #[.int .i64 0, .string ⟨#[]⟩, .int .i64 0, .int .i64 0, .slice none 0 0, .slice none 0 0, .slice none 0 0] 34 (0, 0))) := mkHid (by show W1.heap[W.heap.size]? = _; rw [← hW1]; exact heap_alloc_new W _)
 cases e1 : pone (takeP ts s) with
 | none => rw [e1] at hr; cases hr
 | some r1 =>
  rw [e1] at hr
  have HO := mkHid (fun V (u : Unit) g1 p1 => hO V (takeP ts s) r1 g1 p1 hq e1)
  have hpq := hpg (takeP ts s) hq
  subst hal
  clear h a hok hAr hq hbx2 hwd hth hO hpg hbl0
  generalize takeP ts s = st at *
  generalize hdT ts s = x at *
  obtain ⟨⟨tk, tt, tn⟩, tp⟩ := x
  dsimp only at *
  unfold Enters at eo
  cases r1 with
  | bad z =>
   injection hr with hr
   subst hr
   clear hpq e1
   go_enter Tryz.func192, Tryz.ntmps192
   go_wp2_with fail
   refine wp_region_last (L := 5) (S := fun V => V.cell? ⟨B2, 0, none⟩ = some (.slice p acc.length cw) ∧ V.cell? ⟨B0, 0, none⟩ = some (.pointer (some ⟨P, 0, none⟩))) (by kernel_rfl) (⟨b2c.out.cell, b0c.out.cell⟩) (fun hHeld => ?_)
   refine wpLast_take (i := 0) (v := ?_) rfl (by kernel_rfl) (by kernel_rfl) (by kernel_rfl) (by decide) (by kernel_rfl) (fun _ _ _ h => h) (Or.inl ⟨by rfl, ?_⟩) (by assumption) ?_
   rotate_left
   ·(intro w hSw; (try dsimp only at hSw); (try obtain ⟨hS1, hS2⟩ := hSw); first | (go_simp; done) | (go_simp; with_reducible rfl))
   try simp only [Act.put, qq]
   refine wpLast_take (i := 1) (v := ?_) rfl (by kernel_rfl) (by kernel_rfl) (by kernel_rfl) (by decide) (by kernel_rfl) (fun _ _ _ h => h) (Or.inl ⟨by rfl, ?_⟩) (by assumption) ?_
   rotate_left
   ·(intro w hSw; (try dsimp only at hSw); (try obtain ⟨hS1, hS2⟩ := hSw); first | (go_simp; done) | (go_simp; with_reducible rfl))
   try simp only [Act.put, qq]
   refine wpLast_one (i := 2) (by kernel_rfl) rfl (by decide) (fun K hK => ?_)
   refine stepE (by rfl) 80 Tryz.f80 Tryz.func80 (by kernel_rfl) (by kernel_rfl) _ _ rfl _ (by first | (simp [Act.eval]; done) | (simp [Act.eval]; rfl)) _ (HT.out _ p1.out) ?_
   rintro _ w2 ⟨rfl, p2, f2⟩
   have F2 := mkHid (fr_tr F1.out f2)
   have F2b : Hid (∀ X, X = w2 → w2.heap[W.heap.size]? = some (.cells #[.int .i64 0, .string ⟨#[]⟩, .int .i64 0, .int .i64 0, .slice none 0 0, .slice none 0 0, .slice none 0 0] 34 (0, 0))) := mkHid (fun _ _ => (f2.block _ hszW.out (by have := HI.out.pr.lt; simp; omega)).trans hres.out)
   have Q2 := mkHid ((bx2.out.fr F2.out (by simpa using fun e => HAp.out.p2 e.symm)))
   have Q0 := mkHid ((bx0.out.fr F2.out (by simpa using fun e => HAp.out.p0 e.symm)))
   have P2 := mkHid p2
   obtain ⟨p', c', w4, r4, z4', f4, n4⟩ := HWd.out w2 F2.out
   have R4 := mkHid r4
   have Z4 := mkHid z4'
   have F4 := mkHid f4
   have N4 := mkHid n4
   have hlt2 : W.heap.size < w2.heap.size := by have := f2.size; have := hszW.out; omega
   clear p2 f2 r4 z4' f4 n4
   refine hK.out _ _ (⟨Q2.out.cell, Q0.out.cell⟩) (fun hHeld => ?_)
   clear hK K
   try simp only [Act.put, qq]
   refine wpLast_one (i := 3) (by kernel_rfl) rfl (by decide) (fun K hK => ?_)
   refine stepB2 (by rfl) (v := .slice (some ⟨w2.heap.size, 0, none⟩) 1 1) (w' := w2.alloc (.cells #[.int .i64 tk, .string (ba tt), .int .i64 tn, .int .i64 tp] 54)) (by go_simp) ?_
   refine hK.out _ _ (⟨(Q2.out.bl (Bl.alloc _ _)).cell, (Q0.out.bl (Bl.alloc _ _)).cell⟩) (fun hHeld => ?_)
   clear hK K
   try simp only [Act.put, qq]
   refine wpLast_one (i := 4) (by kernel_rfl) rfl (by decide) (fun K hK => ?_)
   refine step_append_run rfl (.tmp 4) (.tmp 7) 50 50 rfl _ _ rfl rfl _ _ R4.out ?_
   refine hK.out _ _ (⟨(Q2.out.fr F4.out hB2p.out).cell, (Q0.out.fr F4.out hB0p.out).cell⟩) (fun hHeld => ?_)
   clear hK K
   try simp only [Act.put, qq]
   have e4 := (Q2.out.fr F4.out hB2p.out).cell
   have z4f := frozen_in (Q2.out.fr F4.out hB2p.out) 0
   refine wpLast_end (by kernel_rfl) rfl (by kernel_rfl) (fun K hK => ?_)
   go_simp
   refine hK.out _ _ ?_
   clear hK K
   try simp only [Act.put, qq]
   obtain ⟨W5, hW5⟩ : ∃ X, w4.setCell ⟨B2, 0, none⟩ (.slice p' (acc.length + 1) c') = X := ⟨_, rfl⟩
   rw [hW5]
   have f5 : Fr [B2] w4 W5 := hW5 ▸ Fr.setCell w4 _ _ (by simp)
   have s4 := F4.out.size
   have s5 := f5.size
   have hb4 := Q2.out.fr F4.out hB2p.out
   have bB2 : Hid (Box W5 B2 (.slice p' (acc.length + 1) c') 50) := mkHid (by rw [← hW5]; show _ = _; rw [set_in hb4]; rfl)
   have hp'l : ∀ b ∈ blk p', w0.heap.size ≤ b ∧ b < w4.heap.size := fun b hb => own_lt Z4.out.1 b ((blk_own p' _ _ b).1 hb)
   have hl2 := HAp.out.l2
   have rZ : Hid (RowZ W5 54 4 w0.heap.size (.slice p' (acc.length + 1) c') (acc.length + 1) (tcs (acc.map (·.1)) ++ tc (⟨tk, tt, tn⟩, tp))) := mkHid ⟨own_congr Z4.out.1 (fun k hk => f5.block k (own_lt Z4.out.1 k hk).2 (by have := (own_lt Z4.out.1 k hk).1; simp; omega)), Z4.out.2⟩
   have fW5 : Hid (Fr (P :: B2 :: blk p) W W5) := mkHid (((F2.out.mono (fun b hb => Or.inl (by simp at hb; simp [hb]))).trans F4.out (fun b hb => Or.inl (by simp [hb]))).trans f5 (fun b hb => Or.inl (by simp at hb; simp [hb])))
   have hgkn : ∀ b ∈ Gk, b ∉ P :: B2 :: blk p := fun b hb hm => by
    have h9 := HAp.out.gk b hb
    simp only [List.mem_cons] at hm
    rcases hm with e | e | e
    ·exact h9.1 e
    ·exact h9.2.1 e
    ·have := (hbl.out b e).1; omega
   have hgkl : ∀ b ∈ Gk, b < W.heap.size := fun b hb => by have := (HAp.out.gk b hb).2.2; have := HI.out.sz; omega
   have gk5 : Hid (∀ b ∈ Gk, W5.heap[b]? = w0.heap[b]?) := mkHid (fun b hb => (fW5.out.block b (hgkl b hb) (hgkn b hb)).trans (HI.out.gk b hb))
   have h0n : B0 ∉ P :: B2 :: blk p := by
    have := HAp.out.p0; have := HAp.out.q0; have := HAp.out.l0
    simp only [List.mem_cons, not_or]
    exact ⟨fun e => by omega, fun e => by omega, fun hm => by have := (hbl.out _ hm).1; omega⟩
   have h1n : B1 ∉ P :: B2 :: blk p := by
    have := HAp.out.p1; have := HAp.out.q1; have := HAp.out.l1
    simp only [List.mem_cons, not_or]
    exact ⟨fun e => by omega, fun e => by omega, fun hm => by have := (hbl.out _ hm).1; omega⟩
   have b05 := mkHid (HI.out.b0.fr fW5.out h0n)
   have b15 := mkHid (HI.out.b1.fr fW5.out h1n)
   have hPn : P ∉ blk p := fun hm => by have := (hbl.out _ hm).1; have := HAp.out.lp; omega
   have hgn : g ∉ blk p := fun hm => by have := (hbl.out _ hm).1; have := HAp.out.lg; omega
   have p5 := mkHid ((P2.out.other F4.out hPn hgn).other f5 (by simpa using HAp.out.p2) (by simpa using fun e => HAp.out.qg e.symm))
   have r5 : Hid (W5.heap[W.heap.size]? = some (.cells #[.int .i64 0, .string ⟨#[]⟩, .int .i64 0, .int .i64 0, .slice none 0 0, .slice none 0 0, .slice none 0 0] 34 (0, 0))) := mkHid (by
    have hlW := HI.out.sz
    have hlP := HAp.out.lp
    have h1 : w2.heap[W.heap.size]? = some (.cells #[.int .i64 0, .string ⟨#[]⟩, .int .i64 0, .int .i64 0, .slice none 0 0, .slice none 0 0, .slice none 0 0] 34 (0, 0)) := (F2b.out w2 rfl)
    exact (f5.block _ (by omega) (by simp; omega)).trans ((F4.out.block _ hlt2 (fun hm => by have := (hbl.out _ hm).2; omega)).trans h1))
   have c15 := b15.out.cell
   clear hHeld hb4
   go_wp2_with (first
    | (go_at_fn fo; refine (HO.out _ () gk5.out p5.out).mono ?_; intro e w6 q6; obtain ⟨rfl, f6⟩ := post_bad q6; have F6 := mkHid f6; clear q6 f6))
   exact ⟨rfl, fW5.out.trans (F6.out.mono (S' := [P]) (fun b hb => Or.inl hb)) (fun b hb => Or.inl (by simp at hb; simp [hb])), rfl⟩
  | ok n s1 =>
   injection hr with hr
   subst hr
   have HQ1 := mkHid (hpq _ s1 e1).2
   clear hpq e1
   go_enter Tryz.func192, Tryz.ntmps192
   go_wp2_with fail
   refine wp_region_last (L := 5) (S := fun V => V.cell? ⟨B2, 0, none⟩ = some (.slice p acc.length cw) ∧ V.cell? ⟨B0, 0, none⟩ = some (.pointer (some ⟨P, 0, none⟩))) (by kernel_rfl) (⟨b2c.out.cell, b0c.out.cell⟩) (fun hHeld => ?_)
   refine wpLast_take (i := 0) (v := ?_) rfl (by kernel_rfl) (by kernel_rfl) (by kernel_rfl) (by decide) (by kernel_rfl) (fun _ _ _ h => h) (Or.inl ⟨by rfl, ?_⟩) (by assumption) ?_
   rotate_left
   ·(intro w hSw; (try dsimp only at hSw); (try obtain ⟨hS1, hS2⟩ := hSw); first | (go_simp; done) | (go_simp; with_reducible rfl))
   try simp only [Act.put, qq]
   refine wpLast_take (i := 1) (v := ?_) rfl (by kernel_rfl) (by kernel_rfl) (by kernel_rfl) (by decide) (by kernel_rfl) (fun _ _ _ h => h) (Or.inl ⟨by rfl, ?_⟩) (by assumption) ?_
   rotate_left
   ·(intro w hSw; (try dsimp only at hSw); (try obtain ⟨hS1, hS2⟩ := hSw); first | (go_simp; done) | (go_simp; with_reducible rfl))
   try simp only [Act.put, qq]
   refine wpLast_one (i := 2) (by kernel_rfl) rfl (by decide) (fun K hK => ?_)
   refine stepE (by rfl) 80 Tryz.f80 Tryz.func80 (by kernel_rfl) (by kernel_rfl) _ _ rfl _ (by first | (simp [Act.eval]; done) | (simp [Act.eval]; rfl)) _ (HT.out _ p1.out) ?_
   rintro _ w2 ⟨rfl, p2, f2⟩
   have F2 := mkHid (fr_tr F1.out f2)
   have F2b : Hid (∀ X, X = w2 → w2.heap[W.heap.size]? = some (.cells #[.int .i64 0, .string ⟨#[]⟩, .int .i64 0, .int .i64 0, .slice none 0 0, .slice none 0 0, .slice none 0 0] 34 (0, 0))) := mkHid (fun _ _ => (f2.block _ hszW.out (by have := HI.out.pr.lt; simp; omega)).trans hres.out)
   have Q2 := mkHid ((bx2.out.fr F2.out (by simpa using fun e => HAp.out.p2 e.symm)))
   have Q0 := mkHid ((bx0.out.fr F2.out (by simpa using fun e => HAp.out.p0 e.symm)))
   have P2 := mkHid p2
   obtain ⟨p', c', w4, r4, z4', f4, n4⟩ := HWd.out w2 F2.out
   have R4 := mkHid r4
   have Z4 := mkHid z4'
   have F4 := mkHid f4
   have N4 := mkHid n4
   have hlt2 : W.heap.size < w2.heap.size := by have := f2.size; have := hszW.out; omega
   clear p2 f2 r4 z4' f4 n4
   refine hK.out _ _ (⟨Q2.out.cell, Q0.out.cell⟩) (fun hHeld => ?_)
   clear hK K
   try simp only [Act.put, qq]
   refine wpLast_one (i := 3) (by kernel_rfl) rfl (by decide) (fun K hK => ?_)
   refine stepB2 (by rfl) (v := .slice (some ⟨w2.heap.size, 0, none⟩) 1 1) (w' := w2.alloc (.cells #[.int .i64 tk, .string (ba tt), .int .i64 tn, .int .i64 tp] 54)) (by go_simp) ?_
   refine hK.out _ _ (⟨(Q2.out.bl (Bl.alloc _ _)).cell, (Q0.out.bl (Bl.alloc _ _)).cell⟩) (fun hHeld => ?_)
   clear hK K
   try simp only [Act.put, qq]
   refine wpLast_one (i := 4) (by kernel_rfl) rfl (by decide) (fun K hK => ?_)
   refine step_append_run rfl (.tmp 4) (.tmp 7) 50 50 rfl _ _ rfl rfl _ _ R4.out ?_
   refine hK.out _ _ (⟨(Q2.out.fr F4.out hB2p.out).cell, (Q0.out.fr F4.out hB0p.out).cell⟩) (fun hHeld => ?_)
   clear hK K
   try simp only [Act.put, qq]
   have e4 := (Q2.out.fr F4.out hB2p.out).cell
   have z4f := frozen_in (Q2.out.fr F4.out hB2p.out) 0
   refine wpLast_end (by kernel_rfl) rfl (by kernel_rfl) (fun K hK => ?_)
   go_simp
   refine hK.out _ _ ?_
   clear hK K
   try simp only [Act.put, qq]
   obtain ⟨W5, hW5⟩ : ∃ X, w4.setCell ⟨B2, 0, none⟩ (.slice p' (acc.length + 1) c') = X := ⟨_, rfl⟩
   rw [hW5]
   have f5 : Fr [B2] w4 W5 := hW5 ▸ Fr.setCell w4 _ _ (by simp)
   have s4 := F4.out.size
   have s5 := f5.size
   have hb4 := Q2.out.fr F4.out hB2p.out
   have bB2 : Hid (Box W5 B2 (.slice p' (acc.length + 1) c') 50) := mkHid (by rw [← hW5]; show _ = _; rw [set_in hb4]; rfl)
   have hp'l : ∀ b ∈ blk p', w0.heap.size ≤ b ∧ b < w4.heap.size := fun b hb => own_lt Z4.out.1 b ((blk_own p' _ _ b).1 hb)
   have hl2 := HAp.out.l2
   have rZ : Hid (RowZ W5 54 4 w0.heap.size (.slice p' (acc.length + 1) c') (acc.length + 1) (tcs (acc.map (·.1)) ++ tc (⟨tk, tt, tn⟩, tp))) := mkHid ⟨own_congr Z4.out.1 (fun k hk => f5.block k (own_lt Z4.out.1 k hk).2 (by have := (own_lt Z4.out.1 k hk).1; simp; omega)), Z4.out.2⟩
   have fW5 : Hid (Fr (P :: B2 :: blk p) W W5) := mkHid (((F2.out.mono (fun b hb => Or.inl (by simp at hb; simp [hb]))).trans F4.out (fun b hb => Or.inl (by simp [hb]))).trans f5 (fun b hb => Or.inl (by simp at hb; simp [hb])))
   have hgkn : ∀ b ∈ Gk, b ∉ P :: B2 :: blk p := fun b hb hm => by
    have h9 := HAp.out.gk b hb
    simp only [List.mem_cons] at hm
    rcases hm with e | e | e
    ·exact h9.1 e
    ·exact h9.2.1 e
    ·have := (hbl.out b e).1; omega
   have hgkl : ∀ b ∈ Gk, b < W.heap.size := fun b hb => by have := (HAp.out.gk b hb).2.2; have := HI.out.sz; omega
   have gk5 : Hid (∀ b ∈ Gk, W5.heap[b]? = w0.heap[b]?) := mkHid (fun b hb => (fW5.out.block b (hgkl b hb) (hgkn b hb)).trans (HI.out.gk b hb))
   have h0n : B0 ∉ P :: B2 :: blk p := by
    have := HAp.out.p0; have := HAp.out.q0; have := HAp.out.l0
    simp only [List.mem_cons, not_or]
    exact ⟨fun e => by omega, fun e => by omega, fun hm => by have := (hbl.out _ hm).1; omega⟩
   have h1n : B1 ∉ P :: B2 :: blk p := by
    have := HAp.out.p1; have := HAp.out.q1; have := HAp.out.l1
    simp only [List.mem_cons, not_or]
    exact ⟨fun e => by omega, fun e => by omega, fun hm => by have := (hbl.out _ hm).1; omega⟩
   have b05 := mkHid (HI.out.b0.fr fW5.out h0n)
   have b15 := mkHid (HI.out.b1.fr fW5.out h1n)
   have hPn : P ∉ blk p := fun hm => by have := (hbl.out _ hm).1; have := HAp.out.lp; omega
   have hgn : g ∉ blk p := fun hm => by have := (hbl.out _ hm).1; have := HAp.out.lg; omega
   have p5 := mkHid ((P2.out.other F4.out hPn hgn).other f5 (by simpa using HAp.out.p2) (by simpa using fun e => HAp.out.qg e.symm))
   have r5 : Hid (W5.heap[W.heap.size]? = some (.cells #[.int .i64 0, .string ⟨#[]⟩, .int .i64 0, .int .i64 0, .slice none 0 0, .slice none 0 0, .slice none 0 0] 34 (0, 0))) := mkHid (by
    have hlW := HI.out.sz
    have hlP := HAp.out.lp
    have h1 : w2.heap[W.heap.size]? = some (.cells #[.int .i64 0, .string ⟨#[]⟩, .int .i64 0, .int .i64 0, .slice none 0 0, .slice none 0 0, .slice none 0 0] 34 (0, 0)) := (F2b.out w2 rfl)
    exact (f5.block _ (by omega) (by simp; omega)).trans ((F4.out.block _ hlt2 (fun hm => by have := (hbl.out _ hm).2; omega)).trans h1))
   have c15 := b15.out.cell
   have hn4 := N4.out
   clear hHeld hb4
   go_wp2_with (first
    | (
     go_at_fn fo; refine (HO.out _ () gk5.out p5.out).mono ?_; intro e w6 q6; obtain ⟨c0, c1, c2, c3, c4, c5, c6, ft, rfl, n6, a6, p6, f6⟩ := post_ok q6
     have r6 : Hid (w6.heap[W.heap.size]? = some z7) := mkHid ((f6.block _ (lt_of_heap r5.out) (by have := HI.out.pr.lt; simp; omega)).trans r5.out)
     have N6 := mkHid n6
     have A6 := mkHid a6
     have P6 := mkHid p6
     have F6 := mkHid f6
     clear q6 n6 a6 p6 f6)
    | (refine wpList_store_row rfl 34 _ _ rfl W.heap.size #[c0, c1, c2, c3, c4, c5, c6] rfl rfl 34 _ r6.out (by kernel_rfl) rfl (node_all N6.out) ?_))
   refine ret34b Tryz.results192 r6.out rfl ?_
   have fb := row_fr w6 W.heap.size #[c0, c1, c2, c3, c4, c5, c6]
   have lp := HI.out.pr.lt
   have hI5 : I3 (β := Nd) P g c ts B0 B1 B2 (.func (.func fo) pre caps) 127 Gk w0 (w6.setRow W.heap.size #[c0, c1, c2, c3, c4, c5, c6]) (P :: B2 :: blk p') (acc ++ [((⟨tk, tt, tn⟩, tp), n)]) s1 := by
    have hlw := HI.out.sz
    have e0 := HAp.out.l0; have e1 := HAp.out.l1; have e2 := HAp.out.l2; have eg := HAp.out.lg; have ep := HAp.out.lp
    refine ⟨P6.out.other fb (by simp; omega) (by simp; omega), HQ1.out, fun b hb => ?_, ?_, (b05.out.fr F6.out (by simpa using fun e => HAp.out.p0 e.symm)).fr fb (by simp; omega), (b15.out.fr F6.out (by simpa using fun e => HAp.out.p1 e.symm)).fr fb (by simp; omega), _, (bB2.out.fr F6.out (by simpa using fun e => HAp.out.p2 e.symm)).fr fb (by simp; omega), ?_, by rw [blk_ob]⟩
    ·have h9 := HAp.out.gk b hb
     rw [setRow_other _ _ _ _ (by omega), F6.out.block b (by omega) (by simpa using h9.1)]
     exact gk5.out b hb
    ·have := F6.out.size; have := fb.size; omega
    ·rw [List.length_append, List.length_singleton, List.map_append, List.map_singleton, tcs_snoc]
     refine ⟨own_congr (own_congr rZ.out.1 (fun k hk => F6.out.block k (own_lt rZ.out.1 k hk).2 (by have := (own_lt rZ.out.1 k hk).1; simp; omega))) (fun k hk => ?_), rZ.out.2⟩
     have hm : k ∈ blk p' := (blk_own p' _ _ k).2 hk
     have h8 := hn4 k hm
     refine setRow_other _ _ _ _ ?_
     rcases h8 with h8 | h8
     ·have := (hbl.out k h8).2; omega
     ·omega
   exact ⟨(fW5.out.trans (F6.out.mono (S' := [P]) (fun b hb => Or.inl hb)) (fun b hb => Or.inl (by simp at hb; simp [hb]))).trans fb (fun b hb => Or.inr (by simp at hb; omega)), _, ft, P :: B2 :: blk p', rfl, N6.out.fr fb (fun b hb => by have := A6.out.lo b hb; have := s5; simp; omega), A6.out.mono (by omega), hI5, fun b hb => by
    simp only [List.mem_cons] at hb ⊢
    rcases hb with e | e | e
    ·exact Or.inl (Or.inl e)
    ·exact Or.inl (Or.inr (Or.inl e))
    ·rcases hn4 b e with h8 | h8
     ·exact Or.inl (Or.inr (Or.inr h8))
     ·exact Or.inr (by omega), fun b hb hm => by have := A6.out.lo b hb; have := hI5.pr.lt; simp only [List.mem_cons] at hm; rcases hm with e | e | e; have := HI.out.pr.lt; omega; have := bx2.out.lt; omega; have := (hp'l b e).2; omega⟩
end Go.Proofs.YtfhkhmgodkheaaaGreatDoor
