import Derived.Test.YtfhkhmgodkheaaaGreatDoorNG13PSnd
import Derived.Test.YtfhkhmgodkheaaaGreatDoorNG14PKwN
set_option linter.unusedSimpArgs false
set_option linter.unusedVariables false
namespace Go.Proofs.YtfhkhmgodkheaaaGreatDoor
open Go.RowKit Go.Maps
structure I2 (P g c : Nat) (ts : Ts) (bp be br fin : Nat) (W : World) (F : List Nat) (acc : List Nd) (s : Ps) : Prop where
 pr : Pr W P g c ts s
 ok : Okq ts s
 fe : F = [P, br]
 b1 : Box W bp (.pointer (some ⟨P, 0, none⟩)) 62
 b2 : Box W be (.int .i64 fin) 3
 b3 : Box W br (.bool (retd acc)) 4
structure Apx (P g bp be br : Nat) : Prop where
 a1 : P ≠ bp
 a2 : P ≠ be
 a3 : P ≠ br
 a4 : br ≠ bp
 a5 : br ≠ be
 a6 : br ≠ g
theorem I2.invok {P g c : Nat} {ts : Ts} {bp be br fin : Nat} : InvOk P [g, bp, be] ts (I2 P g c ts bp be br fin) where
 ok := fun h => ⟨h.ok, h.pr.posW, by intro x hx; simp at hx; rcases hx with rfl | rfl | rfl; exact h.pr.glt (by have := h.ok.lt; omega); exact h.b1.lt; exact h.b2.lt, by rw [h.fe]; intro b hb; simp at hb; rcases hb with rfl | rfl; exact h.pr.lt; exact h.b3.lt⟩
 keep := fun {W W' F acc s S} h f hs => ⟨h.pr.other f (fun hm => (hs P hm).1 (by rw [h.fe]; simp)) (fun hm => (hs g hm).2 (by simp)), h.ok, h.fe, h.b1.fr f (fun hm => (hs bp hm).2 (by simp)), h.b2.fr f (fun hm => (hs be hm).2 (by simp)), h.b3.fr f (fun hm => (hs br hm).1 (by rw [h.fe]; simp))⟩
theorem I2.go {P g c : Nat} {ts : Ts} {bp be br fin : Nat} {W W' : World} {F : List Nat} {acc : List Nd} {s s' : Ps} (a : Apx P g bp be br) (h : I2 P g c ts bp be br fin W F acc s) (f : Fr [P] W W') (p : Pr W' P g c ts s') (o : Okq ts s') : I2 P g c ts bp be br fin W' F acc s' :=
 ⟨p, o, h.fe, h.b1.fr f (by simpa using fun e => a.a1 e.symm), h.b2.fr f (by simpa using fun e => a.a2 e.symm), h.b3.fr f (by simpa using fun e => a.a3 e.symm)⟩
theorem I2.bl {P g c : Nat} {ts : Ts} {bp be br fin : Nat} {W W' : World} {F : List Nat} {acc : List Nd} {s : Ps} (h : I2 P g c ts bp be br fin W F acc s) (b : Bl W W') : I2 P g c ts bp be br fin W' F acc s :=
 ⟨h.pr.keep b, h.ok, h.fe, h.b1.bl b, h.b2.bl b, h.b3.bl b⟩
theorem fr2 {P br : Nat} {w w' : World} (h : Fr [P] w w') : Fr [P, br] w w' := h.mono (fun b hb => Or.inl (by simp at hb; simp [hb]))
set_option maxHeartbeats 4000000 in
set_option maxRecDepth 1000000 in
theorem clo89_ok {P g c : Nat} {ts : Ts} {bp be br fin : Nat} (W : World) (F : List Nat) (acc : List Nd) (s : Ps) (h : I2 P g c ts bp be br fin W F acc s) : Calls Tryz.prog 89 #[.pointer (some ⟨bp, 0, none⟩), .pointer (some ⟨be, 0, none⟩)] W fun e w' => e = .returned (.bool (!standsP ts fin s)) ∧ I2 P g c ts bp be br fin w' F acc s ∧ Fr F W w' := by
 have HK := mkHid (standsK_ok P g c ts s fin W h.pr h.ok.ok h.ok.lt)
 have hb := h.b1.cell
 have he := h.b2.cell
 have HI := mkHid h
 clear h
 go_enter Tryz.func89, Tryz.ntmps89
 go_wp2_with (go_at_call 83; refine HK.out.mono ?_; rintro e w1 ⟨rfl, b1⟩; have B1 := mkHid b1; clear b1)
 go_ret
 exact ⟨rfl, HI.out.bl B1.out, Fr.ofBl B1.out _⟩
theorem skip2_ok {P g c : Nat} {ts : Ts} {bp be br fin : Nat} (a : Apx P g bp be br) (k : Nat) (hk : k ≠ 18) (W : World) (F : List Nat) (acc : List Nd) (s : Ps) (h : I2 P g c ts bp be br fin W F acc s) : Calls Tryz.prog 85 #[.pointer (some ⟨P, 0, none⟩), .int .i64 k] W fun e w' => e = .returned (.bool (skipP ts k s).1) ∧ I2 P g c ts bp be br fin w' F acc (skipP ts k s).2 ∧ Fr F W w' := by
 refine (skip_ok P g c ts s k W h.pr h.ok.ok h.ok.lt).mono ?_
 rintro e w' ⟨rfl, p, f⟩
 exact ⟨rfl, h.go a f p (h.ok.skip hk), by rw [h.fe]; exact fr2 f⟩
theorem NdM.kindc {w : World} {n : Nd} {c0 c1 c2 c3 c4 c5 c6 : Value} {ft : List Nat} (h : NdM w n (.agg #[c0, c1, c2, c3, c4, c5, c6]) ft) : c0 = .int .i64 n.kind := by
 generalize hv : Value.agg #[c0, c1, c2, c3, c4, c5, c6] = v at h
 cases h with
 | mk g1 g2 g3 g4 =>
  injection hv with hv
  simp only [Array.mk.injEq, List.cons.injEq, and_true] at hv
  exact hv.1
theorem retd_snoc (acc : List Nd) (n : Nd) : retd (acc ++ [n]) = ((n.kind : Int) == 13) := by
 unfold retd
 rw [List.getLast?_append]
 show decide (n.kind = 13) = _
 rw [Bool.eq_iff_iff, decide_eq_true_eq, beq_iff_eq]
 omega
set_option maxHeartbeats 8000000 in
set_option maxRecDepth 1000000 in
theorem clo90_ok {P g c : Nat} {ts : Ts} {bp be br fin f : Nat} (a : Apx P g bp be br) (hS : CN 91 ts (statementP ts f)) (W : World) (F : List Nat) (acc : List Nd) (s : Ps) (r : Rs Nd) (h : I2 P g c ts bp be br fin W F acc s) (hr : (if retd acc = true then some (.bad (hdT ts s)) else statementP ts f s) = some r) :
  Calls Tryz.prog 90 #[.pointer (some ⟨br, 0, none⟩), .pointer (some ⟨bp, 0, none⟩)] W (PostO (fun n => n) (I2 P g c ts bp be br fin) acc W F r) := by
 have hF := h.fe
 subst hF
 have hB := Bl.alloc W (.cells #[.int .i64 0, .string ⟨#[]⟩, .int .i64 0, .int .i64 0, .slice none 0 0, .slice none 0 0, .slice none 0 0] 34)
 have c1 := (h.b1.bl hB).cell
 have c3 := (h.b3.bl hB).cell
 have S0 := mkHid (Sw.start h.pr h.ok)
 have HI := mkHid h
 have HA := mkHid (fun V p => ahead_ok P g c ts s V p h.ok.lt (by have := h.ok.len; omega))
 unfold tkv at HA
 cases hret : retd acc with
 | true =>
  rw [hret] at hr c3
  rw [if_pos rfl] at hr
  injection hr with hr
  subst hr
  clear h hB hS hret
  generalize hdT ts s = x at *
  obtain ⟨⟨tk, tt, tn⟩, tp⟩ := x
  dsimp only at *
  go_enter Tryz.func90, Tryz.ntmps90
  go_wp2_with (go_at_call 54; refine (HA.out _ S0.out.pr).mono ?_; rintro e w1 ⟨rfl, b1⟩; have S1 := mkHid (S0.out.bl b1); clear b1)
  exact ⟨rfl, fr2 S1.out.fr, rfl⟩
 | false =>
  rw [hret] at hr c3
  rw [if_neg (by simp)] at hr
  have HS := mkHid (fun V p => hS P g c s V r p h.ok hr)
  cases r with
  | bad x =>
   clear h hB hS hret HA hr
   go_enter Tryz.func90, Tryz.ntmps90
   go_wp2_with (go_at_call 91; refine (HS.out _ S0.out.pr).mono ?_; intro e w9 q9; obtain ⟨rfl, f9⟩ := post_bad q9; have F9 := mkHid (fr_tr S0.out.fr f9); clear q9 f9)
   exact ⟨rfl, fr2 F9.out, rfl⟩
  | ok n s1 =>
   have HQ := mkHid ((pg_all ts f).stmt s h.ok n s1 hr).2
   have HAp := mkHid a
   clear h hB hS hret HA hr a
   go_enter Tryz.func90, Tryz.ntmps90
   go_wp2_with (first
    | (
     go_at_call 91; refine (HS.out _ S0.out.pr).mono ?_; intro e w2 q2; obtain ⟨c0, c1', c2, c3', c4, c5, c6, ft, rfl, n2, a2, p2, f2⟩ := post_ok q2
     have hk := n2.kindc
     subst hk
     have hsz : W.heap.size < w2.heap.size := by have := S0.out.size; have := f2.size; omega
     have S2 := mkHid (S0.out.go f2 p2)
     have R3 := mkHid (heap_alloc_new w2 (.cells #[.int .i64 0, .string ⟨#[]⟩, .int .i64 0, .int .i64 0, .slice none 0 0, .slice none 0 0, .slice none 0 0] 34))
     obtain ⟨W3, hW3⟩ : ∃ X, (w2.alloc (.cells #[.int .i64 0, .string ⟨#[]⟩, .int .i64 0, .int .i64 0, .slice none 0 0, .slice none 0 0, .slice none 0 0] 34)).setRow w2.heap.size #[.int .i64 n.kind, c1', c2, c3', c4, c5, c6] = X := ⟨_, rfl⟩
     have S3 : Hid (Sw W W3 P g c ts s1) := mkHid (hW3 ▸ (S2.out.bl (Bl.alloc w2 _)).row w2.heap.size _ hsz)
     have R4 : Hid (W3.heap[w2.heap.size]? = some (.cells #[.int .i64 n.kind, c1', c2, c3', c4, c5, c6] 34 (0, 0))) := mkHid (hW3 ▸ setRow_heap _ _ _ _ 34 (0, 0) R3.out)
     have N3 : Hid (NdM W3 n (.agg #[.int .i64 n.kind, c1', c2, c3', c4, c5, c6]) ft) := mkHid (hW3 ▸ (n2.fr (Fr.alloc [] w2 _) (by simp)).fr (row_fr _ _ _) (fun b hb => by have := n2.lt b hb; simp; omega))
     have A3 : Hid (Apt (W.heap.size + 1) ft) := mkHid (a2.mono S0.out.size)
     have I3 : Hid (I2 P g c ts bp be br fin W3 [P, br] acc s1) := mkHid (HI.out.go HAp.out S3.out.fr S3.out.pr HQ.out)
     have hbl := HI.out.b3.lt
     have hpl := S0.out.lp
     obtain ⟨W4, hW4⟩ : ∃ X, W3.setCell ⟨br, 0, none⟩ (.bool ((n.kind : Int) == 13)) = X := ⟨_, rfl⟩
     have f4 : Fr [br] W3 W4 := hW4 ▸ Fr.setCell W3 _ _ (by simp)
     have B4 : Hid (Box W4 br (.bool (retd (acc ++ [n]))) 4) := mkHid (by rw [retd_snoc]; rw [← hW4]; show _ = _; rw [set_in I3.out.b3]; rfl)
     have x0 : W3.cell? ⟨w2.heap.size, 0, none⟩ = some (.int .i64 n.kind) := (cells7 R4.out).1
     have y0 := I3.out.b3.cell
     have y1 := frozen_in I3.out.b3 0
     have R5 : Hid (W4.heap[w2.heap.size]? = some (.cells #[.int .i64 n.kind, c1', c2, c3', c4, c5, c6] 34 (0, 0))) := mkHid ((f4.block _ (lt_of_heap R4.out) (by simp; omega)).trans R4.out)
     have E5 : Hid (W4.heap[W.heap.size]? = some z7) := mkHid ((f4.block _ (lt_of_heap S3.out.res) (by simp; omega)).trans S3.out.res)
     have N5 : Hid (NdM W4 n (.agg #[.int .i64 n.kind, c1', c2, c3', c4, c5, c6]) ft) := mkHid (N3.out.fr f4 (fun b hb => by have := A3.out.lo b hb; simp; omega))
     have F5 : Hid (Fr [P, br] W W4) := mkHid ((fr2 S3.out.fr).trans f4 (by simp))
     have I5 : Hid (I2 P g c ts bp be br fin W4 [P, br] (acc ++ [n]) s1) := mkHid ⟨I3.out.pr.other f4 (by simpa using HAp.out.a3) (by simpa using fun e => HAp.out.a6 e.symm), HQ.out, rfl, I3.out.b1.fr f4 (by simpa using fun e => HAp.out.a4 e.symm), I3.out.b2.fr f4 (by simpa using fun e => HAp.out.a5 e.symm), B4.out⟩
     obtain ⟨u0, u1, u2, u3, u4, u5, u6⟩ := cells7 R5.out
     clear q2 n2 a2 p2 f2 f4)
    | (refine wpList_store_row rfl 34 _ _ rfl w2.heap.size #[.int .i64 n.kind, c1', c2, c3', c4, c5, c6] rfl rfl 34 _ R3.out (by kernel_rfl) rfl (node_all N3.out) ?_; rw [hW3])
    | (refine wpList_store_row rfl 34 _ _ rfl W.heap.size #[.int .i64 n.kind, c1', c2, c3', c4, c5, c6] rfl rfl 34 _ E5.out (by kernel_rfl) rfl (node_all N5.out) ?_))
   refine ret34b Tryz.results90 E5.out rfl ?_
   have fb := row_fr W4 W.heap.size #[.int .i64 n.kind, c1', c2, c3', c4, c5, c6]
   have hgl := S0.out.lg
   have l1 := HI.out.b1.lt
   have l2 := HI.out.b2.lt
   exact ⟨F5.out.trans fb (fun b hb => Or.inr (by simp at hb; omega)), _, ft, [P, br], rfl, N5.out.fr fb (fun b hb => by have := A3.out.lo b hb; simp; omega), A3.out.mono (by omega), ⟨I5.out.pr.other fb (by simp; omega) (by simp; omega), HQ.out, rfl, I5.out.b1.fr fb (by simp; omega), I5.out.b2.fr fb (by simp; omega), I5.out.b3.fr fb (by simp; omega)⟩, fun b hb => Or.inl hb, fun b hb hm => by have := A3.out.lo b hb; simp at hm; omega⟩
theorem ownR_base {w : World} {base b2 e sz : Nat} {v : Value} {n : Nat} {xs : List Value} (h : w.ownsRow base e sz v n xs) (hle : b2 ≤ base) : w.ownsRow b2 e sz v n xs := by
 refine ⟨h.1, ?_⟩
 rcases h.2 with h2 | ⟨g, cap, cur, e1, q1, q2⟩
 ·exact Or.inl h2
 ·exact Or.inr ⟨g, cap, cur, e1, Nat.le_trans hle q1, q2⟩
def PostB (P g c : Nat) (ts : Ts) (w : World) (r : Rs (List Nd)) (e : Ending) (w' : World) : Prop := Fr [P] w w' ∧ match r with
 | .ok l s' => ∃ v xs ft, e = .returned v ∧ RowZ w' 34 7 w.heap.size v l.length xs ∧ NdsM w' l xs ft ∧ Apt w.heap.size (v.ownBlock.toList ++ ft) ∧ Pr w' P g c ts s'
 | .bad x => e = .panicked [{ v := thrown x, recovered := false }]
set_option maxHeartbeats 8000000 in
set_option maxRecDepth 1000000 in
theorem body_ok (ts : Ts) (f fin : Nat) (hS : CN 91 ts (statementP ts f)) : ∀ P g c s w r, Pr w P g c ts s → Okq ts s → bodyP ts (f + 1) fin s = some r → Calls Tryz.prog 60 #[.pointer (some ⟨P, 0, none⟩), .int .i64 fin] w (PostB P g c ts w r) := by
 intro P g c s w r h hok hr
 have hpl := h.lt
 have hgl := h.glt (by have := hok.lt; omega)
 obtain ⟨W1, hW1⟩ : ∃ X, w.alloc (.cells #[.pointer (some ⟨P, 0, none⟩)] 62) = X := ⟨_, rfl⟩
 obtain ⟨W2, hW2⟩ : ∃ X, W1.alloc (.cells #[.int .i64 fin] 3) = X := ⟨_, rfl⟩
 obtain ⟨W3, hW3⟩ : ∃ X, W2.alloc (.cells #[.bool false] 4) = X := ⟨_, rfl⟩
 have s1 : W1.heap.size = w.heap.size + 1 := by rw [← hW1]; simp
 have s2 : W2.heap.size = w.heap.size + 2 := by rw [← hW2]; simp [s1]
 have B1 : Bl w W1 := hW1 ▸ Bl.alloc _ _
 have B2 : Bl W1 W2 := hW2 ▸ Bl.alloc _ _
 have B3 : Bl W2 W3 := hW3 ▸ Bl.alloc _ _
 have x1 : Box W3 w.heap.size (.pointer (some ⟨P, 0, none⟩)) 62 := ((show Box W1 w.heap.size _ 62 from hW1 ▸ heap_alloc_new w _).bl B2).bl B3
 have x2 : Box W3 W1.heap.size (.int .i64 fin) 3 := (show Box W2 W1.heap.size _ 3 from hW2 ▸ heap_alloc_new W1 _).bl B3
 have x3 : Box W3 W2.heap.size (.bool false) 4 := hW3 ▸ heap_alloc_new W2 _
 have HI : Hid (I2 P g c ts w.heap.size W1.heap.size W2.heap.size fin W3 [P, W2.heap.size] [] s) := mkHid ⟨((h.keep B1).keep B2).keep B3, hok, rfl, x1, x2, x3⟩
 have HAp : Hid (Apx P g w.heap.size W1.heap.size W2.heap.size) := mkHid ⟨by omega, by omega, by omega, by omega, by omega, by omega⟩
 have F3 : Hid (Fr [P] w W3) := mkHid (bl_fr ((B1.trans B2).trans B3))
 have hs3 : Hid (w.heap.size ≤ W3.heap.size) := mkHid F3.out.size
 have c1 := x1.cell
 unfold bodyP at hr
 cases e1 : listA ts 16 (fun s => (!standsP ts fin s, s)) (fun acc s => if retd acc = true then some (.bad (hdT ts s)) else statementP ts f s) f [] s with
 | none => rw [e1] at hr; cases hr
 | some rl =>
  rw [e1] at hr
  have hpg : ∀ acc s, Okq ts s → (!standsP ts fin s) = true → Pg ts s (if retd acc = true then some (.bad (hdT ts s)) else statementP ts f s) := fun acc s hs _ => by
   split
   ·exact Pg.bad
   ·exact (pg_all ts f).stmt s hs
  have HL := mkHid (listN_ok (fun n : Nd => n) P [g, w.heap.size, W1.heap.size] ts 16 (fun s => (!standsP ts fin s, s)) (fun acc s => if retd acc = true then some (.bad (hdT ts s)) else statementP ts f s) (by decide) (fun s hs => ⟨Nat.le_refl _, hs⟩) hpg (I2 P g c ts w.heap.size W1.heap.size W2.heap.size fin) I2.invok 89 90 #[] #[.pointer (some ⟨w.heap.size, 0, none⟩), .pointer (some ⟨W1.heap.size, 0, none⟩)] #[] #[.pointer (some ⟨W2.heap.size, 0, none⟩), .pointer (some ⟨w.heap.size, 0, none⟩)] (ent 89 _ _ Tryz.func89 (by kernel_rfl) rfl) (ent 90 _ _ Tryz.func90 (by kernel_rfl) rfl)
   (fun W F acc s i => by rw [show (#[] : Array Value) ++ #[.pointer (some ⟨w.heap.size, 0, none⟩), .pointer (some ⟨W1.heap.size, 0, none⟩)] = #[.pointer (some ⟨w.heap.size, 0, none⟩), .pointer (some ⟨W1.heap.size, 0, none⟩)] by simp]; exact clo89_ok W F acc s i)
   (fun W F acc s r i _ _ _ e => by rw [show (#[] : Array Value) ++ #[.pointer (some ⟨W2.heap.size, 0, none⟩), .pointer (some ⟨w.heap.size, 0, none⟩)] = #[.pointer (some ⟨W2.heap.size, 0, none⟩), .pointer (some ⟨w.heap.size, 0, none⟩)] by simp]; exact clo90_ok HAp.out hS W F acc s r i e)
   (fun W F acc s i => skip2_ok HAp.out 16 (by decide) W F acc s i) f s W3 [P, W2.heap.size] HI.out rl e1)
  cases rl with
  | bad x =>
   injection hr with hr
   subst hr
   clear h hok hpl hgl s1 s2 B1 B2 B3 x1 x2 x3 e1 hpg
   subst hW3
   go_enter Tryz.func60, Tryz.ntmps60
   go_wp2_with (go_at_call 88; refine HL.out.mono ?_; rintro e w2 ⟨f2, rfl⟩; have F4 := mkHid f2; clear f2)
   exact ⟨rfl, (F3.out.trans (F4.out) (fun b hb => by simp at hb; rcases hb with rfl | rfl; exact Or.inl (by simp); exact Or.inr (by rw [← hW2, ← hW1]; simp; omega))), rfl⟩
  | ok l s1' =>
   have hr2 : (match needP ts fin s1' with | .bad x => some (.bad x) | .ok _ s2 => some (.ok l s2)) = some r := hr
   have hq1 := ((listA_pg (btw := 16) (by decide) (fun s hs => ⟨Nat.le_refl _, hs⟩) hpg f [] s hok).1 l s1' e1).2
   have HD := mkHid (fun V p => need_ok P g c ts s1' fin V p hq1.ok hq1.lt)
   have HZ : Hid (w.heap.size < W2.heap.size ∧ W2.heap.size < W3.heap.size ∧ P < w.heap.size) := mkHid ⟨by omega, x3.lt, hpl⟩
   cases en : needP ts fin s1' with
   | bad y =>
    rw [en] at hr2 HD
    injection hr2 with hr2
    subst hr2
    clear h hok hpl hgl s1 s2 B1 B2 B3 x1 x2 x3 e1 hpg hr en hq1
    subst hW3
    go_enter Tryz.func60, Tryz.ntmps60
    go_wp2_with (first
     | (go_at_call 88; refine HL.out.mono ?_; rintro e w2 ⟨f2, v, F', rfl, l2⟩; have F4 : Hid (Fr [P] w w2) := mkHid (F3.out.trans f2 (fun b hb => by have := HZ.out; simp at hb; rcases hb with rfl | rfl; exact Or.inl (by simp); exact Or.inr (by omega))); have L2 := mkHid l2; have k1 := l2.inv.b1.cell; have k2 := l2.inv.b2.cell; clear f2 l2)
     | (go_at_call 57; refine (HD.out _ L2.out.inv.pr).mono ?_; rintro e w4 ⟨f4, rfl⟩; have F5 := mkHid (fr_tr F4.out f4); clear f4))
    exact ⟨rfl, F5.out, rfl⟩
   | ok y s2' =>
    rw [en] at hr2 HD
    injection hr2 with hr2
    subst hr2
    clear h hok hpl hgl s1 s2 B1 B2 B3 x1 x2 x3 e1 hpg hr en hq1
    subst hW3
    go_enter Tryz.func60, Tryz.ntmps60
    go_wp2_with (first
     | (go_at_call 88; refine HL.out.mono ?_; rintro e w2 ⟨f2, v, F', rfl, l2⟩; have F4 : Hid (Fr [P] w w2) := mkHid (F3.out.trans f2 (fun b hb => by have := HZ.out; simp at hb; rcases hb with rfl | rfl; exact Or.inl (by simp); exact Or.inr (by omega))); have L2 := mkHid l2; have k1 := l2.inv.b1.cell; have k2 := l2.inv.b2.cell; clear f2 l2)
     | (go_at_call 57; refine (HD.out _ L2.out.inv.pr).mono ?_; rintro e w4 ⟨f4, rfl, p4⟩; have F5 := mkHid (fr_tr F4.out f4); have F6 := mkHid f4; have P6 := mkHid p4; clear f4 p4))
    go_ret
    refine ⟨F5.out, ?_⟩
    obtain ⟨xs, ft, h1, h2, h3, h4⟩ := L2.out.ex
    rw [List.map_id'] at h2
    have hz := HZ.out
    have hnp : ∀ b ∈ v.ownBlock.toList ++ ft, b ∉ [P] := fun b hb => by have := h3.lo b hb; simp; omega
    exact ⟨v, xs, ft, rfl, ⟨own_congr (ownR_base h1.1 (by omega)) (fun k hk => F6.out.block k (own_lt h1.1 k hk).2 (hnp k (by simp [hk]))), h1.2⟩, h2.fr F6.out (fun b hb => hnp b (by simp [hb])), h3.mono (by omega), P6.out⟩
def PostWN (P g c : Nat) (ts : Ts) (w : World) (r : Rs (Bs × List Nd)) (e : Ending) (w' : World) : Prop := Fr [P] w w' ∧ match r with
 | .ok x s' => ∃ v xs ft, e = .returned (.tuple #[.string (ba x.1), v]) ∧ RowZ w' 34 7 w.heap.size v x.2.length xs ∧ NdsM w' x.2 xs ft ∧ Apt w.heap.size (v.ownBlock.toList ++ ft) ∧ Pr w' P g c ts s'
 | .bad x => e = .panicked [{ v := thrown x, recovered := false }]
def PostWT (P g c : Nat) (ts : Ts) (w : World) (r : Rs (Bs × Ts)) (e : Ending) (w' : World) : Prop := Fr [P] w w' ∧ match r with
 | .ok x s' => ∃ v, e = .returned (.tuple #[.string (ba x.1), v]) ∧ RowZ w' 54 4 w.heap.size v x.2.length (tcs x.2) ∧ Pr w' P g c ts s'
 | .bad x => e = .panicked [{ v := thrown x, recovered := false }]
theorem words_step (us : Ts) (i : Nat) (hi : i < us.length) (l : Bs) (s : Ps) : wordsP i l (us.drop i) s = wordsP (i + 1) (l ++ (us.getD i noTk).1.text ++ [58]) (us.drop (i + 1)) (if 96 < (l ++ (us.getD i noTk).1.text ++ [58]).length ∨ 8 ≤ i then passP 73 (us.getD i noTk).2 s else s) := by
 have e : us.drop i = us.getD i noTk :: us.drop (i + 1) := by
  rw [List.drop_eq_getElem_cons hi, List.getD_eq_getElem?_getD, List.getElem?_eq_getElem hi]; rfl
 rw [e]
 rfl
structure Kl (P g c : Nat) (ts us : Ts) (s1 : Ps) (B0 : Nat) (vw : Value) (w4 wr : World) (i : Nat) (l : Bs) (s : Ps) : Prop where
 eq : wordsP 0 [] us s1 = wordsP i l (us.drop i) s
 pr : Pr wr P g c ts s
 ok : Okq ts s
 fr : Fr [P] w4 wr
 b0 : Box wr B0 (.pointer (some ⟨P, 0, none⟩)) 62
 rd : RdT wr vw us
 len : l.length ≤ i * 4097
theorem RdT.frP {w w' : World} {base : Nat} {v : Value} {us : Ts} {P : Nat} (h : w.ownsRow base 54 4 v us.length (tcs us)) (f : Fr [P] w w') (hP : P < base) : RdT w' v us :=
 RdT.own (base := base) (own_congr h (fun k hk => f.block k (own_lt h k hk).2 (by have := (own_lt h k hk).1; simp; omega)))
set_option maxHeartbeats 16000000 in
set_option maxRecDepth 1000000 in
theorem keywordsN_ok {ts : Ts} (f : Nat) (fo : Nat) (pre caps all : Array Value) (eo : Enters Tryz.prog fo) (hal : pre ++ caps = all) (pone : Ps → Option (Rs Nd)) (hpg : ∀ s, Okq ts s → Pq ts s (pone s)) (P g c : Nat) (s : Ps) (w : World) (r : Rs (Bs × List Nd)) (Gk : List Nat) (hGk : ∀ b ∈ Gk, b ≠ P ∧ b < w.heap.size)
  (hO : ∀ V s r, (∀ b ∈ Gk, V.heap[b]? = w.heap[b]?) → Pr V P g c ts s → Okq ts s → pone s = some r → Calls Tryz.prog fo all V (PostN P g c ts V r)) (h : Pr w P g c ts s) (hok : Okq ts s) (hr : keywordsP ts pone f s = some r) :
  Calls Tryz.prog 179 #[.pointer (some ⟨P, 0, none⟩), .func (.func fo) pre caps] w (PostWN P g c ts w r) := by
 have hpl := h.lt
 have hgl := h.glt (by have := hok.lt; omega)
 obtain ⟨W1, hW1⟩ : ∃ X, w.alloc (.cells #[.pointer (some ⟨P, 0, none⟩)] 62) = X := ⟨_, rfl⟩
 obtain ⟨W2, hW2⟩ : ∃ X, W1.alloc (.cells #[.func (.func fo) pre caps] 127) = X := ⟨_, rfl⟩
 obtain ⟨W3, hW3⟩ : ∃ X, W2.alloc (.cells #[.slice none 0 0] 50) = X := ⟨_, rfl⟩
 have s1' : W1.heap.size = w.heap.size + 1 := by rw [← hW1]; simp
 have s2' : W2.heap.size = w.heap.size + 2 := by rw [← hW2]; simp [s1']
 have s3' : W3.heap.size = w.heap.size + 3 := by rw [← hW3]; simp [s2']
 have B1 : Bl w W1 := hW1 ▸ Bl.alloc _ _
 have B2 : Bl W1 W2 := hW2 ▸ Bl.alloc _ _
 have B3 : Bl W2 W3 := hW3 ▸ Bl.alloc _ _
 have bw3 := (B1.trans B2).trans B3
 have x1 : Box W3 w.heap.size (.pointer (some ⟨P, 0, none⟩)) 62 := ((show Box W1 w.heap.size _ 62 from hW1 ▸ heap_alloc_new w _).bl B2).bl B3
 have x2 : Box W3 W1.heap.size (.func (.func fo) pre caps) 127 := (show Box W2 W1.heap.size _ 127 from hW2 ▸ heap_alloc_new W1 _).bl B3
 have x3 : Box W3 W2.heap.size (.slice none 0 0) 50 := hW3 ▸ heap_alloc_new W2 _
 have HAp : Hid (Apy P g w.heap.size W1.heap.size W2.heap.size Gk W3) := mkHid ⟨by omega, by omega, by omega, by omega, by omega, by omega, by omega, by omega, by omega, by omega, by omega, fun b hb => ⟨(hGk b hb).1, by have := (hGk b hb).2; omega, by have := (hGk b hb).2; omega⟩⟩
 have HI : Hid ((I3 (β := Nd) P g c ts w.heap.size W1.heap.size W2.heap.size (.func (.func fo) pre caps) 127 Gk W3) W3 [P, W2.heap.size] [] s) := mkHid ⟨h.keep bw3, hok, fun b hb => rfl, Nat.le_refl _, x1, x2, .slice none 0 0, x3, ⟨World.ownsRow_nil _ _ _ _, fun _ => rfl⟩, rfl⟩
 have F3 : Hid (Fr [P] w W3) := mkHid (bl_fr bw3)
 have c1 := x1.cell
 have HZ : Hid (w.heap.size ≤ W3.heap.size ∧ P < w.heap.size ∧ w.heap.size ≤ W2.heap.size) := mkHid ⟨by omega, hpl, by omega⟩
 have hO3 : ∀ V s r, (∀ b ∈ Gk, V.heap[b]? = W3.heap[b]?) → Pr V P g c ts s → Okq ts s → pone s = some r → Calls Tryz.prog fo all V (PostN P g c ts V r) := fun V s r g1 p1 o1 e1 => hO V s r (fun b hb => (g1 b hb).trans (bw3.block b (hGk b hb).2)) p1 o1 e1
 unfold keywordsP at hr
 have hp1 : ∀ (acc : List ((Tok × Nat) × Nd)) (s : Ps), Okq ts s → (decide (rankT (hdT ts s) = 3), s).1 = true → Pg ts s ((fun (_ : List ((Tok × Nat) × Nd)) s => bindP (pone (takeP ts s)) (fun a s2 => some (.ok (hdT ts s, a) s2))) acc s) := by
  intro acc s hs hth
  have hk : rankT (hdT ts s) = 3 := by simpa using hth
  have ht := hs.take (rank_kind (by rw [hk]; decide))
  exact Pg.tk (Pq.bind (hpg _ ht) (fun a s1 _ h1 => Pq.ok h1))
 cases e1 : listA ts 0 (fun s => (decide (rankT (hdT ts s) = 3), s)) (fun (_ : List ((Tok × Nat) × Nd)) s => bindP (pone (takeP ts s)) (fun a s2 => some (.ok (hdT ts s, a) s2))) f [] s with
 | none => rw [e1] at hr; cases hr
 | some rl =>
  rw [e1] at hr
  have HL := mkHid (listN_ok (fun a => a.2) P ([g, w.heap.size, W1.heap.size] ++ Gk) ts 0 (fun s => (decide (rankT (hdT ts s) = 3), s)) (fun (_ : List ((Tok × Nat) × Nd)) s => bindP (pone (takeP ts s)) (fun a s2 => some (.ok (hdT ts s, a) s2))) (by decide) (fun s hs => ⟨Nat.le_refl _, hs⟩) hp1 (I3 (β := Nd) P g c ts w.heap.size W1.heap.size W2.heap.size (.func (.func fo) pre caps) 127 Gk W3) (I3.invok HAp.out) 191 192 #[] #[.pointer (some ⟨w.heap.size, 0, none⟩)] #[] #[.pointer (some ⟨W2.heap.size, 0, none⟩), .pointer (some ⟨w.heap.size, 0, none⟩), .pointer (some ⟨W1.heap.size, 0, none⟩)] (ent 191 _ _ Tryz.func191 (by kernel_rfl) rfl) (ent 192 _ _ Tryz.func192 (by kernel_rfl) rfl)
   (fun W F acc s i => by rw [show (#[] : Array Value) ++ #[.pointer (some ⟨w.heap.size, 0, none⟩)] = #[.pointer (some ⟨w.heap.size, 0, none⟩)] by simp]; exact clo191_ok W F acc s i HAp.out)
   (fun W F acc s r i _ hth hl e => by rw [show (#[] : Array Value) ++ #[.pointer (some ⟨W2.heap.size, 0, none⟩), .pointer (some ⟨w.heap.size, 0, none⟩), .pointer (some ⟨W1.heap.size, 0, none⟩)] = #[.pointer (some ⟨W2.heap.size, 0, none⟩), .pointer (some ⟨w.heap.size, 0, none⟩), .pointer (some ⟨W1.heap.size, 0, none⟩)] by simp]; exact clo192_ok fo pre caps all eo hal pone hpg hO3 W F acc s r i HAp.out (by omega) (by simpa using hth) e)
   (fun W F acc s i => skip3_ok HAp.out 0 (by decide) W F acc s i) f s W3 [P, W2.heap.size] HI.out rl e1)
  cases rl with
  | bad x =>
   injection hr with hr
   subst hr
   clear h hok hpl hgl s1' s2' s3' B1 B2 B3 bw3 x1 x2 x3 e1 hp1 hO hO3 hGk hpg
   go_enter Tryz.func179, Tryz.ntmps179
   go_wp2_with (go_at_call 88; refine HL.out.mono ?_; rintro e w2 ⟨f2, rfl⟩; have F4 : Hid (Fr [P] w w2) := mkHid (F3.out.trans f2 (fun b hb => by have := HZ.out; simp at hb; rcases hb with rfl | rfl; exact Or.inl (by simp); exact Or.inr (by omega))); clear f2)
   exact ⟨rfl, F4.out, rfl⟩
  | ok ll s1 =>
   have hr2 : some (Rs.ok ((wordsP 0 [] (ll.map (·.1)) s1).1, ll.map (·.2)) (wordsP 0 [] (ll.map (·.1)) s1).2) = some r := hr
   injection hr2 with hr2
   subst hr2
   have hu := listA_all (there := fun s => (decide (rankT (hdT ts s) = 3), s)) (one := fun (_ : List ((Tok × Nat) × Nd)) s => bindP (pone (takeP ts s)) (fun a s2 => some (.ok (hdT ts s, a) s2))) (Q := fun a => a.1.1.text.length ≤ 4096 ∧ a.1.2 ≤ 4096) (btw := 0) (by decide) (fun s hs => ⟨Nat.le_refl _, hs⟩) hp1 (fun acc s a s' hs hth e => by
    obtain ⟨b, s1, e1, e2⟩ := bindP_ok e
    injection e2 with e2; injection e2 with e2 e3; subst e2
    exact hs.txt) f [] s ll s1 hok (by simp) e1
   have HU : Hid (∀ x ∈ ll.map (·.1), x.1.text.length ≤ 4096 ∧ x.2 ≤ 4096) := mkHid (fun x hx => by obtain ⟨a, ha, rfl⟩ := List.mem_map.1 hx; exact hu a ha)
   have hlen := listA_len (there := fun s => (decide (rankT (hdT ts s) = 3), s)) (one := fun (_ : List ((Tok × Nat) × Nd)) s => bindP (pone (takeP ts s)) (fun a s2 => some (.ok (hdT ts s, a) s2))) (btw := 0) (by decide) (fun s hs => ⟨Nat.le_refl _, hs⟩) hp1 f [] s ll s1 hok (Nat.zero_le _) e1
   have hq1 := ((listA_pg (there := fun s => (decide (rankT (hdT ts s) = 3), s)) (one := fun (_ : List ((Tok × Nat) × Nd)) s => bindP (pone (takeP ts s)) (fun a s2 => some (.ok (hdT ts s, a) s2))) (btw := 0) (by decide) (fun s hs => ⟨Nat.le_refl _, hs⟩) hp1 f [] s hok).1 ll s1 e1).2
   obtain ⟨us, hus⟩ : ∃ us, ll.map (·.1) = us := ⟨_, rfl⟩
   have hul : us.length = ll.length := by rw [← hus, List.length_map]
   have HUl : Hid (us.length ≤ 4097) := mkHid (by have := hq1.lt; have := hq1.len; omega)
   rw [hus] at HU ⊢
   have HUs := mkHid hus
   have HULn := mkHid hul
   have HQ1 := mkHid hq1
   have HB0P : Hid (w.heap.size ∉ [P]) := mkHid (by simp; omega)
   clear h hok hpl hgl s1' s2' s3' B1 B2 B3 bw3 x1 x2 x3 e1 hp1 hO hO3 hGk hpg hr hu hlen hq1 hus hul
   go_enter Tryz.func179, Tryz.ntmps179
   go_wp2_with (first
    | (
     go_at_call 88; refine HL.out.mono ?_; rintro e w4 ⟨f2, v, F', rfl, l2⟩
     have F4 : Hid (Fr [P] w w4) := mkHid (F3.out.trans f2 (fun b hb => by have := HZ.out; simp at hb; rcases hb with rfl | rfl; exact Or.inl (by simp); exact Or.inr (by omega)))
     have L4 := mkHid l2
     obtain ⟨vw, h1, h2, h3⟩ := l2.inv.ex
     obtain ⟨pw, cw, rfl⟩ := own_slice h2.1
     rw [HUs.out, ← HULn.out] at h2
     have k2 := h1.cell
     rw [← HULn.out] at k2
     have hzz := HZ.out
     have HRd : Hid (∀ w6, Fr [P] w4 w6 → RdT w6 (.slice pw us.length cw) us) := mkHid (fun w6 f6 => RdT.frP h2.1 f6 (by omega))
     have HS : Hid (Kl P g c ts us s1 w.heap.size (.slice pw us.length cw) w4 w4 0 [] s1) := mkHid ⟨rfl, l2.inv.pr, HQ1.out, Fr.refl _ _, l2.inv.b0, HRd.out w4 (Fr.refl _ _), Nat.zero_le _⟩
     clear f2 l2 h1 h2 h3 hzz))
   go_loopw [4, 15] (fun q i wr => ∃ (j : Nat) (l : Bs) (s : Ps), j ≤ us.length ∧ i = .int .i64 j ∧ q = .string (ba l) ∧ Hid (Kl P g c ts us s1 w.heap.size (.slice pw us.length cw) w4 wr j l s)) (fun _ i _ => us.length - (intOf i).toNat)
   case atStart => exact ⟨0, [], s1, Nat.zero_le _, rfl, rfl, HS⟩
   case round =>
    obtain ⟨i, l, s, hi, rfl, rfl, hk⟩ := hrel
    clear HS
    have i0 : (0 : Int) ≤ (i : Int) := by omega
    by_cases hlt : i < us.length
    ·have i3 : (i : Int) < (us.length : Int) := by omega
     obtain ⟨pw', cw', ew, hq⟩ := hk.out.rd.at_
     injection ew with ew1 ew2 ew3
     subst ew1
     subst ew3
     obtain ⟨gw, ow, rfl, hgw, hcw⟩ := hq (by omega)
     obtain ⟨x0, x1, x2, x3⟩ := hcw i hlt
     have hst := words_step us i hlt l s
     have hmem : us.getD i noTk ∈ us := by
      rw [List.getD_eq_getElem?_getD, List.getElem?_eq_getElem hlt]; exact List.getElem_mem hlt
     obtain ⟨hx1, hx2⟩ := HU.out _ hmem
     have hbx := hk.out.b0.cell
     have hlen := hk.out.len
     have hun := HUl.out
     rw [show noT = noTk from rfl] at x0 x1 x2 x3
     generalize us.getD i noTk = x at *
     obtain ⟨⟨tk, tt, tn⟩, tp⟩ := x
     dsimp only at *
     have hz1 : (ba l).size = l.length := by rw [← lst_len, lst_ba]
     have hz2 : (ba tt).size = tt.length := by rw [← lst_len, lst_ba]
     have HE : Hid (ba l ++ (ba tt ++ ⟨#[58]⟩) = ba (l ++ tt ++ [58])) := mkHid (by rw [← ba_app, ← ba_app, ByteArray.append_assoc]; rfl)
     have hmul : i * 4097 ≤ 4097 * 4097 := Nat.mul_le_mul_right _ (by omega)
     have hln : (l ++ tt ++ [58]).length = l.length + tt.length + 1 := by simp; omega
     have g1 : ¬ 9223372036854775807 < (ba tt).size + 1 := by omega
     have g2 : ¬ 9223372036854775807 < (ba l).size + ((ba tt).size + 1) := by omega
     have HP := mkHid (fun V p => pass_ok P g c ts s 73 tp V p (by have := hk.out.ok.ok.place; omega))
     obtain ⟨W5, hW5⟩ : ∃ X, wr.alloc (.cells #[.int .i64 tk, .string (ba tt), .int .i64 tn, .int .i64 tp] 54) = X := ⟨_, rfl⟩
     have b5 : Bl wr W5 := hW5 ▸ Bl.alloc _ _
     have g5 : W5.heap[wr.heap.size]? = some (.cells #[.int .i64 tk, .string (ba tt), .int .i64 tn, .int .i64 tp] 54 (0, 0)) := hW5 ▸ heap_alloc_new wr _
     obtain ⟨y0, y1, y2, y3⟩ := cells4 g5
     have hb5 := (hk.out.b0.bl b5).cell
     have K5 : Hid (Kl P g c ts us s1 w.heap.size (.slice (some ⟨gw, ow, none⟩) us.length cw) w4 W5 i l s) := mkHid ⟨hk.out.eq, hk.out.pr.keep b5, hk.out.ok, fr_tr hk.out.fr (bl_fr b5), hk.out.b0.bl b5, hk.out.rd.keep b5, hlen⟩
     have G5 := mkHid g5
     have HBd : Hid (i < us.length ∧ l.length ≤ i * 4097 ∧ tt.length ≤ 4096 ∧ tp ≤ 4096) := mkHid ⟨hlt, hlen, hx1, hx2⟩
     by_cases hc : 96 < (l ++ tt ++ [58]).length ∨ 8 ≤ i
     ·rw [if_pos hc] at hst
      have HSt := mkHid hst
      have KK : (96 < (ba l).size + ((ba tt).size + 1)) ∨ (¬ 96 < (ba l).size + ((ba tt).size + 1) ∧ 8 ≤ i) := by
       by_cases h9 : 96 < (ba l).size + ((ba tt).size + 1)
       ·exact Or.inl h9
       ·refine Or.inr ⟨h9, ?_⟩; rcases hc with h | h; omega; exact h
      clear hc hst hmem hgw hcw hq hlen hz1 hz2 hmul hln hx1 hx2 b5 g5 hbx hk
      have STEP : Hid (∀ w6, Pr w6 P g c ts (passP 73 tp s) → Fr [P] W5 w6 → Kl P g c ts us s1 w.heap.size (.slice (some ⟨gw, ow, none⟩) us.length cw) w4 w6 (i + 1) (l ++ tt ++ [58]) (passP 73 tp s)) := mkHid (fun w6 p6 f6 => ⟨K5.out.eq.trans HSt.out, p6, K5.out.ok.pass HBd.out.2.2.2, fr_tr K5.out.fr f6, K5.out.b0.fr f6 HB0P.out, HRd.out w6 (fr_tr K5.out.fr f6), by have := HBd.out; simp only [List.length_append, List.length_singleton]; rw [Nat.add_mul]; omega⟩)
      rcases KK with KK | ⟨KK, K8⟩
      ·have k1 : (96 : Int) < ((ba l).size : Int) + (((ba tt).size : Int) + 1) := by omega
       clear KK
       go_wp2_with (first
        | (go_at_call 116; refine (HP.out _ K5.out.pr).mono ?_; rintro e w6 ⟨rfl, p6, f6⟩; have K6 := mkHid (STEP.out w6 p6 f6); clear p6 f6))
       go_roundw
       case rel => exact ⟨i + 1, _, _, by omega, by go_num, by rw [HE.out], K6⟩
       case measure => simp [intOf]; omega
      ·have k1 : ¬ (96 : Int) < ((ba l).size : Int) + (((ba tt).size : Int) + 1) := by omega
       have k2 : (8 : Int) ≤ i := by omega
       clear KK K8
       go_wp2_with (first
        | (go_at_call 116; refine (HP.out _ K5.out.pr).mono ?_; rintro e w6 ⟨rfl, p6, f6⟩; have K6 := mkHid (STEP.out w6 p6 f6); clear p6 f6))
       go_roundw
       case rel => exact ⟨i + 1, _, _, by omega, by go_num, by rw [HE.out], K6⟩
       case measure => simp [intOf]; omega
     ·rw [if_neg hc] at hst
      have HSt := mkHid hst
      have k1 : ¬ (96 : Int) < ((ba l).size : Int) + (((ba tt).size : Int) + 1) := by omega
      have k2 : ¬ (8 : Int) ≤ i := by omega
      clear hc hst hmem hgw hcw hq hlen hz1 hz2 hmul hln hx1 hx2 b5 g5 hbx hk HP
      have K6 : Hid (Kl P g c ts us s1 w.heap.size (.slice (some ⟨gw, ow, none⟩) us.length cw) w4 W5 (i + 1) (l ++ tt ++ [58]) s) := mkHid ⟨K5.out.eq.trans HSt.out, K5.out.pr, K5.out.ok, K5.out.fr, K5.out.b0, K5.out.rd, by have := HBd.out; simp only [List.length_append, List.length_singleton]; rw [Nat.add_mul]; omega⟩
      go_wp2_with fail
      go_roundw
      case rel => exact ⟨i + 1, _, _, by omega, by go_num, by rw [HE.out], K6⟩
      case measure => simp [intOf]; omega
    ·have i3 : ¬ (i : Int) < (us.length : Int) := by omega
     have hie : i = us.length := by omega
     have hw : wordsP 0 [] us s1 = (l, s) := by
      have := hk.out.eq
      rw [hie, List.drop_length] at this
      exact this
     have HW := mkHid hw
     clear hw hie
     go_wp2_with fail
     refine bodyPost_ret (v := .tuple #[.string (ba l), v]) (by simp [results, Tryz.results179, go_sem]) rfl ?_
     have hf := hk.out.fr
     have hz := HZ.out
     obtain ⟨xs, ft, h1, h2, h3, h4⟩ := L4.out.ex
     have hnp : ∀ b ∈ v.ownBlock.toList ++ ft, b ∉ [P] := fun b hb => by have := h3.lo b hb; simp; omega
     refine ⟨fr_tr F4.out hf, ?_⟩
     rw [HW.out]
     refine ⟨v, xs, ft, rfl, ?_, h2.fr hf (fun b hb => hnp b (by simp [hb])), h3.mono (by omega), hk.out.pr⟩
     show RowZ wr 34 7 w.heap.size v (ll.map (·.2)).length xs
     rw [List.length_map]
     exact ⟨own_congr (ownR_base h1.1 (by omega)) (fun k hk => hf.block k (own_lt h1.1 k hk).2 (hnp k (by simp [hk]))), h1.2⟩
end Go.Proofs.YtfhkhmgodkheaaaGreatDoor
