import Derived.Test.YtjeeibokdnepgaaSOwn3
import Derived.Deep.RegionHeld3
namespace Go.Proofs.Ytjeeibokdnepgaa
open Go.RowKit Go.Maps Go.WideMaps
set_option linter.unusedVariables false
set_option linter.unusedSimpArgs false
theorem ol_first {w W : World} {sh : Nat} {v : Bool → Option Addr × Option Addr} {c : Bool → Cont} (h : Sh w W sh v c (fun _ _ => False)) (hE : Even c) : OL w W sh v c [] [] [] none 0 none 0 :=
  ⟨h.snapped (Fr.refl [] W) (by simp) (by simp) (by simp [blk]), hE, World.ownsRow_nil _ _ _ _, World.ownsRow_nil _ _ _ _, rfl, by simp [blk], by simp [blk], by simp [blk], by simp, by simp⟩
theorem ol_plays {w W : World} {sh : Nat} {v : Bool → Option Addr × Option Addr} {c : Bool → Cont} {D : List Nat} {xs ys : List Value} {p7 : Option Addr} {c7 : Nat} {p8 : Option Addr} {c8 : Nat} (h : OL w W sh v c D xs ys p7 c7 p8 c8) (k a n : Int) (s : ByteArray) (a0 : -9223372036854775808 ≤ a) (a1 : a ≤ 9223372036854775807) (hs : s.size ≤ 140737488355328) :
    Calls Try.prog 28 #[.pointer (some ⟨sh, 0, none⟩), .agg #[.int .i64 k, .int .i64 a, .int .i64 n, .string s]] W fun e w' => e = .returned (.bool true) ∧ ∃ v' c', OL w w' sh v' c' D xs ys p7 c7 p8 c8 := by
  refine (plays_ok h.sh_ h.ev k a n s a0 a1 hs).mono ?_
  rintro e w' ⟨rfl, v', c', h1, h2⟩
  exact ⟨rfl, v', c', h.next h1 h2⟩
/-- one answer of All more -/
theorem st_list {w0 Wb W W' : World} {o7 o8 : Option Addr} {xs ys : List Value} {p7 p8 : Option Addr} {c7 c8 : Nat} {E : List Nat} {T : List ByteArray} {p : Option Addr} {c : Nat} (h : ST w0 Wb W o7 o8 xs ys p7 c7 p8 c8 E) (hf : Fr [] W W') (ho : W'.ownsRow W.heap.size 9 1 (.slice p T.length c) T.length (T.map Value.string)) : ST w0 Wb W' o7 o8 xs ys p7 c7 p8 c8 (E ++ blk p) ∧ W'.ownsRow Wb.heap.size 9 1 (.slice p T.length c) T.length (T.map Value.string) :=
  ⟨h.more hf (blk p) (fun g hg => own_lt ho g ((blk_own _ _ _ _).2 hg)), ho.1, by
    rcases ho.2 with h1 | ⟨g, cap, cur, h2, h3, h4⟩
    · exact Or.inl h1
    · exact Or.inr ⟨g, cap, cur, h2, Nat.le_trans h.fr.size h3, h4⟩⟩
/-- the three answers -/
theorem q_start {w0 Wb W5 W6 W7 : World} {o7 o8 : Option Addr} {xs ys : List Value} {c7 c8 : Nat} {T : List ByteArray} {p5 p6 pw : Option Addr} {c5 c6 cw : Nat} (h : ST w0 Wb Wb o7 o8 xs ys o7 c7 o8 c8 []) (hT : T.length ≤ 4096)
    (f5 : Fr [] Wb W5) (r5 : W5.ownsRow Wb.heap.size 9 1 (.slice p5 T.length c5) T.length (T.map Value.string)) (f6 : Fr [] W5 W6) (r6 : W6.ownsRow W5.heap.size 9 1 (.slice p6 T.length c6) T.length (T.map Value.string)) (f7 : Fr [] W6 W7) (r7 : W7.ownsRow W6.heap.size 9 1 (.slice pw T.length cw) T.length (T.map Value.string)) :
    Q1 w0 Wb W7 o7 o8 xs ys o7 c7 o8 c8 (([] ++ blk p5) ++ blk p6 ++ blk pw) T p5 c5 p6 c6 pw cw := by
  obtain ⟨s5, q5⟩ := st_list h f5 r5
  obtain ⟨s6, q6⟩ := st_list s5 f6 r6
  obtain ⟨s7, q7⟩ := st_list s6 f7 r7
  have f67 := f6.trans f7 (by simp)
  refine ⟨s7, own_congr q5 (fun g hg => f67.block g (own_lt q5 g hg).2 (by simp)), own_congr q6 (fun g hg => f7.block g (own_lt q6 g hg).2 (by simp)), own_rd q7 (by omega), fun g hg => by simp [hg], fun g hg => by simp [hg], fun g hg => by simp [hg], fun g hg hm => ?_, fun g hg hm => ?_, hT⟩
  · have := (own_lt r5 g ((blk_own _ _ _ _).2 hg)).2
    have := (own_lt r6 g ((blk_own _ _ _ _).2 hm)).1
    omega
  · have := (own_lt r5 g ((blk_own _ _ _ _).2 hg)).2
    have := (own_lt r7 g ((blk_own _ _ _ _).2 hm)).1
    have := f6.size
    omega
/-- just one may come up, S stands behind it -/
theorem wpH_one {P : Program} {md : Region.Mode} {ops : Array Oper} {Q : Exit → Act → World → Prop} {S : World → Prop} {i : Nat} {o : Oper} {fuel : Nat} {listed : Array Bool} {a : Act} {w : World} (hr : Region.ready md ops listed = [i]) (ho : ops[i]? = some o)
    (h : ∀ K' : Act → World → Prop, Hid (∀ a w, S w → (S w → wpAnyH P md ops Q S fuel (listed.setIfInBounds i true) a w) → K' a w) → if Region.wanted o (yielded ops a.tmps) = true then Oper.wp P o a w K' Q else K' (a.put o.dst undef) w) : wpAnyH P md ops Q S (fuel + 1) listed a w := by
  refine ⟨fun h0 => (by rw [hr] at h0; cases h0), fun j hj => ?_⟩
  rw [hr] at hj
  have e : j = i := by simpa using hj
  subst e
  exact wpOp_step ho (fun K' hK => h K' (fun a w hS hW => hK a w ⟨hS, hW hS⟩))
theorem row_at {w : World} {base n c k : Nat} {p : Option Addr} {xs : List Value} (h : w.ownsRow base 22 1 (.slice p n c) n xs) (hk : k < n) : ∃ g, p = some ⟨g, 0, none⟩ ∧ w.cell? ⟨g, k, none⟩ = xs[k]? := by
  rcases h.2 with ⟨h2, h3⟩ | ⟨g, cap', cur, h2, h3⟩
  · omega
  · injection h2 with h2 h2' h2''
    subst h2
    exact ⟨g, rfl, h.cellAt k (by omega)⟩
/-- the cells that the last look reads -/
theorem ol_look {w W : World} {sh : Nat} {v : Bool → Option Addr × Option Addr} {c : Bool → Cont} {D : List Nat} {xs ys : List Value} {p7 : Option Addr} {c7 : Nat} {p8 : Option Addr} {c8 : Nat} (h : OL w W sh v c D xs ys p7 c7 p8 c8) (k : Nat) (hk : k < xs.length) :
    ∃ (g7 g8 n : Nat) (p : Option Addr) (cc gq oq d : Nat), p7 = some ⟨g7, 0, none⟩ ∧ p8 = some ⟨g8, 0, none⟩ ∧ n ≤ 4096 ∧ (0 < n → ∃ gp op, p = some ⟨gp, op, none⟩ ∧ ∀ t, t < n → ∀ V, Fr [] W V → V.cell? ⟨gp, op + t, none⟩ = some (.string (mk (k : Int)))) ∧
      ∀ V, Fr [] W V → V.cell? ⟨g7, k, none⟩ = some (.slice p n cc) ∧ V.cell? ⟨g8, k, none⟩ = some (.slice (some ⟨gq, oq, none⟩) (n + 64) d) ∧ ∀ t, t < n + 64 → V.cell? ⟨gq, oq + t, none⟩ = some (.string (mk (k : Int))) := by
  have hyl := h.len
  obtain ⟨n, p, cc, q, d, h1, h2, h3, h4, h5, h6⟩ := h.dat k hk
  obtain ⟨g7, e7, k7⟩ := row_at h.r7 hk
  obtain ⟨g8, e8, k8⟩ := row_at (k := k) h.r8 (by omega)
  obtain ⟨q1, q2, e1, a1⟩ := h5.at_
  rw [List.length_replicate] at e1 a1
  injection e1 with e1 _ _
  obtain ⟨gq, oq, e2, b1, b2⟩ := a1 (by omega)
  have hrep : ∀ n t : Nat, t < n → (List.replicate n (mk (k : Int))).getD t ⟨#[]⟩ = mk (k : Int) := fun n t ht => by
    rw [List.getD_eq_getElem?_getD, List.getElem?_replicate, if_pos ht]; rfl
  have hc7 : W.cell? ⟨g7, k, none⟩ = some (.slice p n cc) := k7.trans h1
  have hc8 : W.cell? ⟨g8, k, none⟩ = some (.slice q (n + 64) d) := k8.trans h2
  refine ⟨g7, g8, n, p, cc, gq, oq, d, e7, e8, h3, fun h0 => ?_, fun V hV => ⟨?_, ?_, fun t ht => ?_⟩⟩
  · obtain ⟨r1, r2, e3, a3⟩ := h4.at_
    rw [List.length_replicate] at e3 a3
    injection e3 with e3 _ _
    obtain ⟨gp, op, e4, b3, b4⟩ := a3 h0
    refine ⟨gp, op, e3.trans e4, fun t ht V hV => ?_⟩
    rw [hV.cell (p := ⟨gp, op + t, none⟩) b3 (by simp), b4 t ht, hrep n t ht]
  · exact (hV.cell (p := ⟨g7, k, none⟩) (World.block_lt_of_cell? W ⟨g7, k, none⟩ hc7) (by simp)).trans hc7
  · rw [hV.cell (p := ⟨g8, k, none⟩) (World.block_lt_of_cell? W ⟨g8, k, none⟩ hc8) (by simp), hc8, e1, e2]
  · rw [hV.cell (p := ⟨gq, oq + t, none⟩) b1 (by simp), b2 t ht, hrep _ t ht]
set_option maxRecDepth 20000 in
set_option maxHeartbeats 4000000 in
theorem own_any (m : Int) (l : List StepI) (v : Value) (w : World) (hm : (Lit.int .i64 m).wf = true) (h2 : ArgP w v l ∧ l.length ≤ 3518437208781) :
    Calls Try.prog 7 #[.int .i64 m, v] w fun e w' => e = .returned (.bool true) ∧ Fr [] w w' := by
  obtain ⟨h, hs⟩ := h2
  obtain ⟨p, c, rfl, h1⟩ := h.at_
  have H1 := mkHid h1
  have HA := mkHid h
  obtain ⟨W1, hW1⟩ : ∃ W1, W1 = w.alloc (.cells #[.pointer none, .pointer none, .pointer none, .pointer none] 57) := ⟨_, rfl⟩
  have HB := mkHid (begins_ok m 9 w W1 w.heap.size (by rw [hW1]; exact shelf_new w) (Nat.le_refl _) (by rw [hW1]; exact Fr.alloc [] w _))
  clear h h1 hm
  go_enter Try.func7, Try.ntmps7
  go_wp2_with (go_at_call 27; rw [← hW1]; refine HB.out.mono ?_; rintro e w1 ⟨rfl, v1, c1, q1, q2⟩; have HO := mkHid (ol_first q1 q2); clear q1 q2)
  go_loopw [7, 8, 9] (fun a b q wr => ∃ (i N : Nat) (p7 : Option Addr) (c7 : Nat) (p8 : Option Addr) (c8 : Nat), i ≤ l.length ∧ N = 2 * i ∧ q = .int .i64 i ∧ a = .slice p7 N c7 ∧ b = .slice p8 N c8 ∧ Hid (∃ v' c' D xs ys, OL w wr w.heap.size v' c' D xs ys p7 c7 p8 c8 ∧ xs.length = N)) (fun _ _ q _ => l.length - (intOf q).toNat)
  case atStart => exact ⟨0, 0, none, 0, none, 0, Nat.zero_le _, rfl, rfl, rfl, rfl, mkHid ⟨v1, c1, [], [], [], HO.out, rfl⟩⟩
  case round =>
    obtain ⟨i, N, p7, c7, p8, c8, hi, hN, rfl, rfl, rfl, hst⟩ := hrel
    have i1 : (0 : Int) ≤ (i : Int) := by omega
    clear HO HB hW1
    by_cases hlt : i < l.length
    · have i2 : (i : Int) < (l.length : Int) := by omega
      obtain ⟨v2, c2, D, xs, ys, hol, hxl⟩ := hst.out
      obtain ⟨g, off, rfl, x1, x2⟩ := H1.out (by omega)
      obtain ⟨x, hx, a0, a1, a2, a3⟩ := x2 i hlt
      obtain ⟨⟨o1, o2⟩, o3⟩ := HA.out.ok x (List.mem_of_getElem? hx)
      have hfr := hol.sh_.fr
      have k0 := (hfr.cell (p := ⟨g, off + i * 4, none⟩) x1 (by simp)).trans a0
      have k1 := (hfr.cell (p := ⟨g, off + i * 4 + 1, none⟩) x1 (by simp)).trans a1
      have k2 := (hfr.cell (p := ⟨g, off + i * 4 + 2, none⟩) x1 (by simp)).trans a2
      have k3 := (hfr.cell (p := ⟨g, off + i * 4 + 3, none⟩) x1 (by simp)).trans a3
      have HK1 : Hid (∀ W, Fr [] w W → W.cell? ⟨g, off + i * 4 + 1, none⟩ = some (.int .i64 x.a)) := fun W hW => (hW.cell (p := ⟨g, off + i * 4 + 1, none⟩) x1 (by simp)).trans a1
      have HC := mkHid (ol_plays hol x.k x.a x.n x.s o1 o2 o3)
      have HP' : Hid (∀ W, Calls Try.prog 29 #[.int .i64 x.a] W fun e w' => ∃ y, e = .returned y ∧ y = .int .i64 (jn (jOf x.a) : Int) ∧ w' = W) := fun W => (place_ok x.a W o1 o2).mono (fun e w' ⟨h1, h2⟩ => ⟨_, h1, rfl, h2⟩)
      have hyl := hol.len
      subst hxl
      have l1 : xs.length + 1 + 1 ≤ 8796093022208 := by omega
      have HN := mkHid hN
      have HYl := mkHid hyl
      obtain ⟨xk, xa, xn, xs'⟩ := x
      generalize hj : jOf xa = j at *
      have hJ : (0 : Int) ≤ (jn j : Int) ∧ (jn j : Int) < 2 := by unfold jn; cases j <;> simp
      obtain ⟨j0, j1⟩ := hJ
      clear x1 x2 hx a0 a1 a2 a3 hst H1 HA o1 o2 o3 hfr hol hj hN hyl
      go_wp2_with (go_at_call 28; refine HC.out.mono ?_; rintro e w3 ⟨rfl, v3, c3, h3⟩; have HO3 := mkHid h3; clear h3)
      have HAll : Hid (∀ W X, Sh w W w.heap.size v3 c3 X → Calls Try.prog 14 #[.pointer (v3 j).1] W fun e w' => ∃ y, e = .returned y ∧ ∃ p k, y = .slice p (cTs (c3 j)).length k ∧ w'.ownsRow W.heap.size 9 1 (.slice p (cTs (c3 j)).length k) (cTs (c3 j)).length ((cTs (c3 j)).map Value.string) ∧ Fr [] W w') := fun W X hW => (sh_all hW j).mono (fun e w' ⟨p, k, h1, h2, h3⟩ => ⟨_, h1, p, k, rfl, h2, h3⟩)
      have HRAll : Hid (∀ W X, Sh w W w.heap.size v3 c3 X → Calls Try.prog 24 #[.pointer (v3 j).2] W fun e w' => ∃ y, e = .returned y ∧ ∃ p k, y = .slice p (rTs (c3 j)).length k ∧ w'.ownsRow W.heap.size 9 1 (.slice p (rTs (c3 j)).length k) (rTs (c3 j)).length ((rTs (c3 j)).map Value.string) ∧ Fr [] W w') := fun W X hW => (sh_rall hW j).mono (fun e w' ⟨p, k, h1, h2, h3⟩ => ⟨_, h1, p, k, rfl, h2, h3⟩)
      rw [HO3.out.ev.ts] at HRAll
      have hT := HO3.out.sh_.lenT j
      obtain ⟨y0, y1⟩ := HO3.out.sh_.cells j
      have kk1 := HK1.out w3 HO3.out.sh_.fr
      have HS3 := mkHid HO3.out.sh_
      have HD3 := mkHid (HO3.out.sh_.idle (Fr.drew [] w3))
      generalize hTT : cTs (c3 j) = T at *
      clear hTT HC k0 k1 k2 k3
      go_wp2_with fail
      go_region_law (first
        | (refine step_callG (by rfl) 14 Try.f14 Try.func14 (by kernel_rfl) (by kernel_rfl) _ _ rfl _ (by simp [Act.eval, Act.put]) _ (HAll.out _ _ HD3.out) ?_; rintro _ w5 ⟨p5, c5, rfl, r5, f5⟩; have HR5 := mkHid r5; have HF5 := mkHid ((Fr.drew [] w3).trans f5 (by simp)); clear r5 f5)
        | (refine step_callG (by rfl) 29 Try.f29 Try.func29 (by kernel_rfl) (by kernel_rfl) _ _ rfl _ (by simp [Act.eval, Act.put]) _ (HP'.out _) ?_; rintro _ w9 ⟨rfl, rfl⟩))
      have HS5 := mkHid (HS3.out.idle HF5.out)
      obtain ⟨y2, y3⟩ := HS5.out.cells j
      have kk2 := HK1.out w5 HS5.out.fr
      have HD5 := mkHid (HS5.out.idle (Fr.drew [] w5))
      clear HS3 HD3 y0 y1 kk1
      go_wp2_with fail
      go_region_law (first
        | (refine step_callG (by rfl) 14 Try.f14 Try.func14 (by kernel_rfl) (by kernel_rfl) _ _ rfl _ (by simp [Act.eval, Act.put]) _ (HAll.out _ _ HD5.out) ?_; rintro _ w6 ⟨p6, c6, rfl, r6, f6⟩; have HR6 := mkHid r6; have HF6 := mkHid ((Fr.drew [] w5).trans f6 (by simp)); clear r6 f6)
        | (refine step_callG (by rfl) 29 Try.f29 Try.func29 (by kernel_rfl) (by kernel_rfl) _ _ rfl _ (by simp [Act.eval, Act.put]) _ (HP'.out _) ?_; rintro _ w9 ⟨rfl, rfl⟩))
      have HS6 := mkHid (HS5.out.idle HF6.out)
      obtain ⟨y4, y5⟩ := HS6.out.cells j
      have kk3 := HK1.out w6 HS6.out.fr
      have HD6 := mkHid (HS6.out.idle (Fr.drew [] w6))
      clear HS5 HD5 y2 y3 kk2
      go_wp2_with fail
      go_region_law (first
        | (refine step_callG (by rfl) 24 Try.f24 Try.func24 (by kernel_rfl) (by kernel_rfl) _ _ rfl _ (by simp [Act.eval, Act.put]) _ (HRAll.out _ _ HD6.out) ?_; rintro _ w7 ⟨pw, cw, rfl, r7, f7⟩; have HR7 := mkHid r7; have HF7 := mkHid ((Fr.drew [] w6).trans f7 (by simp)); clear r7 f7)
        | (refine step_callG (by rfl) 29 Try.f29 Try.func29 (by kernel_rfl) (by kernel_rfl) _ _ rfl _ (by simp [Act.eval, Act.put]) _ (HP'.out _) ?_; rintro _ w9 ⟨rfl, rfl⟩))
      have HQ := mkHid (q_start HO3.out.start hT HF5.out HR5.out HF6.out HR6.out HF7.out HR7.out)
      clear HS6 HD6 y4 y5 kk3 HR5 HR6 HR7 HF5 HF6 HF7 HAll HRAll HP' HK1
      generalize ([] ++ blk p5) ++ blk p6 ++ blk pw = E at *
      have hT43 : T.length ≤ 8796093022208 := by omega
      have HL5 := mkHid (own_rd HQ.out.row5 hT43)
      have HLw := mkHid HQ.out.want
      go_wp2_with (first
        | (go_at_call 13; first
          | (refine (sameTexts_yes _ _ _ _ HM6.out HMw.out).mono ?_
             rintro e w13 ⟨rfl, f13⟩
             have q13 := HQ12.out.idle f13
             obtain ⟨p14, c14, w14, r14, h14⟩ := q13.push7 (.slice p6 T.length c6) rfl (by simp; omega)
             rw [show (xs ++ [Value.slice p5 T.length c5]).length = xs.length + 1 from by simp] at r14
             have HR14 := mkHid r14
             have HQ14 := mkHid h14
             have K2 : Hid (Calls Try.prog 30 #[.slice p6 T.length c6, .int .i64 ((xs.length : Int) + 1)] w14 fun e w' => ∃ q d, e = .returned (.slice q (T.length + 64) d) ∧ Fl w14 w' w3.heap.size p6 T.length c6 (mk ((xs.length + 1 : Nat) : Int)) q d 64) := mkHid (filled_ok T p6 c6 (xs.length + 1) w14 w3.heap.size h14.row6 hT (by omega) h14.st.fr.size)
             clear f13 q13 r14 h14 HQ12)
          | (refine (sameTexts_yes _ _ _ _ HL6.out HLv.out).mono ?_
             rintro e w9 ⟨rfl, f9⟩
             have q9 := HQ8.out.idle f9
             obtain ⟨p10, c10, w10, r10, h10⟩ := q9.push7 (.slice p5 T.length c5) rfl (by omega)
             have HR10 := mkHid r10
             have HQ10 := mkHid h10
             have K1 := mkHid (filled_ok T p5 c5 xs.length w10 w3.heap.size h10.row5 hT (by omega) h10.st.fr.size)
             clear f9 q9 r10 h10 HQ8)
          | (refine (sameTexts_yes _ _ _ _ HL5.out HLw.out).mono ?_; rintro e w8 ⟨rfl, f8⟩; have q8 := HQ.out.idle f8; have HL6 := mkHid (own_rd q8.row6 hT43); have HLv := mkHid q8.want; have HQ8 := mkHid q8; clear f8 q8))
        | (go_at_call 30; first
          | (refine K2.out.mono ?_
             rintro e w15 ⟨q15, d15, rfl, k15⟩
             have q := HQ14.out.fill k15
             obtain ⟨p16, c16, w16, r16, h16⟩ := q.push8 (.slice q15 (T.length + 64) d15) rfl (by have := HYl.out; simp; omega)
             rw [show (ys ++ [Value.slice q11 (T.length + 64) d11]).length = xs.length + 1 from by have := HYl.out; simp; omega] at r16
             have HR16 := mkHid r16
             have HQ16 := mkHid h16
             clear k15 q r16 h16)
          | (refine K1.out.mono ?_
             rintro e w11 ⟨q11, d11, rfl, k11⟩
             have q := HQ10.out.fill k11
             obtain ⟨p12, c12, w12, r12, h12⟩ := q.push8 (.slice q11 (T.length + 64) d11) rfl (by have := HYl.out; omega)
             rw [← HYl.out] at r12
             have HR12 := mkHid r12
             have HQ12 := mkHid h12
             have HM6 := mkHid (own_rd h12.row6 hT43)
             have HMw := mkHid h12.want
             clear k11 q r12 h12))
        | (at_builtin; first
          | refine Lib.wpList_append_run _ rfl (.tmp 101) (.tmp 106) 63 63 rfl _ _ rfl rfl _ _ HR16.out ?_
          | refine Lib.wpList_append_run _ rfl (.tmp 97) (.tmp 99) 63 63 rfl _ _ rfl rfl _ _ HR14.out ?_
          | refine Lib.wpList_append_run _ rfl (.tmp 86) (.tmp 91) 63 63 rfl _ _ rfl rfl _ _ HR12.out ?_
          | refine Lib.wpList_append_run _ rfl (.tmp 82) (.tmp 84) 63 63 rfl _ _ rfl rfl _ _ HR10.out ?_))
      go_roundw
      case rel => exact ⟨i + 1, xs.length + 1 + 1, p14, c14, p16, c16, by omega, by have := HN.out; omega, by go_num, rfl, rfl, mkHid ⟨v3, c3, _, _, _, ol_round HO3.out HQ16.out, by simp⟩⟩
      case measure => simp [intOf]; omega
    · have hie : i = l.length := by omega
      subst hie
      obtain ⟨v2, c2, D, xs, ys, hol, hxl⟩ := hst.out
      subst hxl
      have HOL := mkHid hol
      have HN := mkHid hN
      have hyl := hol.len
      have HYl := mkHid hyl
      have lN : xs.length ≤ 7036874417562 := by omega
      clear hst hol hN hyl H1 HA
      go_wp2_with fail
      go_loopw [13, 14] (fun q _ wq => ∃ i : Nat, i ≤ xs.length ∧ q = .int .i64 i ∧ Hid (OL w wq w.heap.size v2 c2 D xs ys p7 c7 p8 c8)) (fun q _ _ => xs.length - (intOf q).toNat)
      case atStart => exact ⟨0, Nat.zero_le _, rfl, HOL⟩
      case round =>
        obtain ⟨i, hi, rfl, hst⟩ := hrel
        have i1 : (0 : Int) ≤ (i : Int) := by omega
        clear HOL
        by_cases hlt : i < xs.length
        · have i2 : (i : Int) < (xs.length : Int) := by omega
          obtain ⟨V0, hV0⟩ : ∃ V0, V0 = wr := ⟨_, rfl⟩
          rw [← hV0] at hst
          obtain ⟨g7, g8, n, p, cc, gq, oq, d, rfl, rfl, hn, hp, hc⟩ := ol_look hst.out i hlt
          have HP := mkHid hp
          have HC := mkHid hc
          have HMk : Hid (∀ W, Calls Try.prog 23 #[.int .i64 (i : Int)] W fun e w' => ∃ y, e = .returned y ∧ y = .string (mk (i : Int)) ∧ Fr [] W w') := fun W => (mark_ok (i : Int) W (by omega) (by omega)).mono (fun e w' ⟨h1, h2⟩ => ⟨_, h1, rfl, h2⟩)
          have HV1 : Hid (Fr [] V0 wr) := by rw [hV0]; exact Fr.refl _ _
          generalize mk (i : Int) = M at *
          clear hp hc hV0
          go_wp2_with fail
          go_loopw [14] (fun q wq => ∃ t : Nat, t ≤ n + 64 ∧ q = .int .i64 t ∧ Hid (Fr [] V0 wq)) (fun q _ => n + 64 - (intOf q).toNat)
          case atStart => exact ⟨0, Nat.zero_le _, rfl, HV1⟩
          case round =>
            obtain ⟨t, ht, rfl, HV⟩ := hrel
            have t1 : (0 : Int) ≤ (t : Int) := by omega
            clear HV1
            obtain ⟨z1, z2, -⟩ := HC.out _ HV.out
            by_cases hlt2 : t < n + 64
            · have t2 : (t : Int) < (n : Int) + 64 := by omega
              have t3 : (t : Int) < ((n + 64 : Nat) : Int) := by omega
              have hMM : (M.toList == M.toList) = true := by simp
              by_cases htn : t < n
              · have t4 : (t : Int) < (n : Int) := by omega
                obtain ⟨gp, op, rfl, hpc⟩ := HP.out (by omega)
                have HCe : Hid (∀ V, Hid (Fr [] V0 V) → V.cell? ⟨g7, i, none⟩ = some (.slice (some ⟨gp, op, none⟩) n cc) ∧ V.cell? ⟨g8, i, none⟩ = some (.slice (some ⟨gq, oq, none⟩) (n + 64) d) ∧ V.cell? ⟨gq, oq + t, none⟩ = some (.string M) ∧ V.cell? ⟨gp, op + t, none⟩ = some (.string M)) := fun V hV => ⟨(HC.out V hV.out).1, (HC.out V hV.out).2.1, (HC.out V hV.out).2.2 t hlt2, hpc t htn V hV.out⟩
                clear hpc
                go_wp2_with fail
                refine wp_region_held_drew (S := fun V => Hid (Fr [] V0 V)) (by kernel_rfl) (mkHid (HV.out.trans (Fr.drew [] _) (by simp))) (fun hHeld => ?_)
                refine wpAnyH_take (i := 0) (v := ?_) rfl (by kernel_rfl) (by kernel_rfl) (by kernel_rfl) (fun _ _ _ h => h) (Or.inl ⟨by rfl, ?_⟩) (by assumption) ?_
                rotate_left
                · (intro w hSw; have sx := HCe.out w hSw; obtain ⟨s1, s2, s3, s4⟩ := sx; clear hSw; first | (go_simp; done) | (go_simp; with_reducible rfl))
                try simp only [Act.put, List.getElem_toArray, List.getElem_cons_zero, List.getElem_cons_succ, List.setIfInBounds_toArray, List.set_cons_zero, List.set_cons_succ]
                refine wpAnyH_take (i := 1) (v := ?_) rfl (by kernel_rfl) (by kernel_rfl) (by kernel_rfl) (fun _ _ _ h => h) (Or.inl ⟨by rfl, ?_⟩) (by assumption) ?_
                rotate_left
                · (intro w hSw; have sx := HCe.out w hSw; obtain ⟨s1, s2, s3, s4⟩ := sx; clear hSw; first | (go_simp; done) | (go_simp; with_reducible rfl))
                try simp only [Act.put, List.getElem_toArray, List.getElem_cons_zero, List.getElem_cons_succ, List.setIfInBounds_toArray, List.set_cons_zero, List.set_cons_succ]
                refine wpAnyH_take (i := 2) (v := ?_) rfl (by kernel_rfl) (by kernel_rfl) (by kernel_rfl) (fun _ _ _ h => h) (Or.inl ⟨by rfl, ?_⟩) (by assumption) ?_
                rotate_left
                · (intro w hSw; have sx := HCe.out w hSw; obtain ⟨s1, s2, s3, s4⟩ := sx; clear hSw; first | (go_simp; done) | (go_simp; with_reducible rfl))
                try simp only [Act.put, List.getElem_toArray, List.getElem_cons_zero, List.getElem_cons_succ, List.setIfInBounds_toArray, List.set_cons_zero, List.set_cons_succ]
                refine wpAnyH_take (i := 3) (v := ?_) rfl (by kernel_rfl) (by kernel_rfl) (by kernel_rfl) (fun _ _ _ h => h) (Or.inl ⟨by rfl, ?_⟩) (by assumption) ?_
                rotate_left
                · (intro w hSw; have sx := HCe.out w hSw; obtain ⟨s1, s2, s3, s4⟩ := sx; clear hSw; first | (go_simp; done) | (go_simp; with_reducible rfl))
                try simp only [Act.put, List.getElem_toArray, List.getElem_cons_zero, List.getElem_cons_succ, List.setIfInBounds_toArray, List.set_cons_zero, List.set_cons_succ]
                refine wpAnyH_take (i := 4) (v := ?_) rfl (by kernel_rfl) (by kernel_rfl) (by kernel_rfl) (fun _ _ _ h => h) (Or.inl ⟨by rfl, ?_⟩) (by assumption) ?_
                rotate_left
                · (intro w hSw; have sx := HCe.out w hSw; obtain ⟨s1, s2, s3, s4⟩ := sx; clear hSw; first | (go_simp; done) | (go_simp; with_reducible rfl))
                try simp only [Act.put, List.getElem_toArray, List.getElem_cons_zero, List.getElem_cons_succ, List.setIfInBounds_toArray, List.set_cons_zero, List.set_cons_succ]
                refine wpAnyH_take (i := 5) (v := ?_) rfl (by kernel_rfl) (by kernel_rfl) (by kernel_rfl) (fun _ _ _ h => h) (Or.inl ⟨by rfl, ?_⟩) (by assumption) ?_
                rotate_left
                · (intro w hSw; have sx := HCe.out w hSw; obtain ⟨s1, s2, s3, s4⟩ := sx; clear hSw; first | (go_simp; done) | (go_simp; with_reducible rfl))
                try simp only [Act.put, List.getElem_toArray, List.getElem_cons_zero, List.getElem_cons_succ, List.setIfInBounds_toArray, List.set_cons_zero, List.set_cons_succ]
                refine wpAnyH_take (i := 6) (v := ?_) rfl (by kernel_rfl) (by kernel_rfl) (by kernel_rfl) (fun _ _ _ h => h) (Or.inl ⟨by rfl, ?_⟩) (by assumption) ?_
                rotate_left
                · (intro w hSw; have sx := HCe.out w hSw; obtain ⟨s1, s2, s3, s4⟩ := sx; clear hSw; first | (go_simp; done) | (go_simp; with_reducible rfl))
                try simp only [Act.put, List.getElem_toArray, List.getElem_cons_zero, List.getElem_cons_succ, List.setIfInBounds_toArray, List.set_cons_zero, List.set_cons_succ]
                refine wpAnyH_take (i := 7) (v := ?_) rfl (by kernel_rfl) (by kernel_rfl) (by kernel_rfl) (fun _ _ _ h => h) (Or.inl ⟨by rfl, ?_⟩) (by assumption) ?_
                rotate_left
                · (intro w hSw; have sx := HCe.out w hSw; obtain ⟨s1, s2, s3, s4⟩ := sx; clear hSw; first | (go_simp; done) | (go_simp; with_reducible rfl))
                try simp only [Act.put, List.getElem_toArray, List.getElem_cons_zero, List.getElem_cons_succ, List.setIfInBounds_toArray, List.set_cons_zero, List.set_cons_succ]
                refine wpH_one (i := 8) (by kernel_rfl) rfl (fun K hK => ?_)
                refine step_callG (by rfl) 23 Try.f23 Try.func23 (by kernel_rfl) (by kernel_rfl) _ _ rfl _ (by simp [Act.eval]) _ (HMk.out _) ?_
                rintro _ wm1 ⟨rfl, fm1⟩
                have hH1 : Hid (Fr [] V0 wm1) := hHeld.out.trans fm1 (by simp)
                clear fm1 hHeld
                refine hK.out _ _ hH1 (fun hHeld => ?_)
                clear hK K
                try simp only [Act.put, List.getElem_toArray, List.getElem_cons_zero, List.getElem_cons_succ, List.setIfInBounds_toArray, List.set_cons_zero, List.set_cons_succ]
                refine wpAnyH_take (i := 9) (v := ?_) rfl (by kernel_rfl) (by kernel_rfl) (by kernel_rfl) (fun _ _ _ h => h) (Or.inl ⟨by rfl, ?_⟩) (by assumption) ?_
                rotate_left
                · (intro w hSw; have sx := HCe.out w hSw; obtain ⟨s1, s2, s3, s4⟩ := sx; clear hSw; first | (go_simp; done) | (go_simp; with_reducible rfl))
                try simp only [Act.put, List.getElem_toArray, List.getElem_cons_zero, List.getElem_cons_succ, List.setIfInBounds_toArray, List.set_cons_zero, List.set_cons_succ]
                refine wpAnyH_take (i := 10) (v := ?_) rfl (by kernel_rfl) (by kernel_rfl) (by kernel_rfl) (fun _ _ _ h => h) (Or.inl ⟨by rfl, ?_⟩) (by assumption) ?_
                rotate_left
                · (intro w hSw; have sx := HCe.out w hSw; obtain ⟨s1, s2, s3, s4⟩ := sx; clear hSw; first | (go_simp; done) | (go_simp; with_reducible rfl))
                try simp only [Act.put, List.getElem_toArray, List.getElem_cons_zero, List.getElem_cons_succ, List.setIfInBounds_toArray, List.set_cons_zero, List.set_cons_succ]
                refine wpAnyH_take (i := 11) (v := ?_) rfl (by kernel_rfl) (by kernel_rfl) (by kernel_rfl) (fun _ _ _ h => h) (Or.inl ⟨by rfl, ?_⟩) (by assumption) ?_
                rotate_left
                · (intro w hSw; have sx := HCe.out w hSw; obtain ⟨s1, s2, s3, s4⟩ := sx; clear hSw; first | (go_simp; done) | (go_simp; with_reducible rfl))
                try simp only [Act.put, List.getElem_toArray, List.getElem_cons_zero, List.getElem_cons_succ, List.setIfInBounds_toArray, List.set_cons_zero, List.set_cons_succ]
                refine wpAnyH_take (i := 12) (v := ?_) rfl (by kernel_rfl) (by kernel_rfl) (by kernel_rfl) (fun _ _ _ h => h) (Or.inl ⟨by rfl, ?_⟩) (by assumption) ?_
                rotate_left
                · (intro w hSw; have sx := HCe.out w hSw; obtain ⟨s1, s2, s3, s4⟩ := sx; clear hSw; first | (go_simp; done) | (go_simp; with_reducible rfl))
                try simp only [Act.put, List.getElem_toArray, List.getElem_cons_zero, List.getElem_cons_succ, List.setIfInBounds_toArray, List.set_cons_zero, List.set_cons_succ]
                refine wpAnyH_take (i := 13) (v := ?_) rfl (by kernel_rfl) (by kernel_rfl) (by kernel_rfl) (fun _ _ _ h => h) (Or.inl ⟨by rfl, ?_⟩) (by assumption) ?_
                rotate_left
                · (intro w hSw; have sx := HCe.out w hSw; obtain ⟨s1, s2, s3, s4⟩ := sx; clear hSw; first | (go_simp; done) | (go_simp; with_reducible rfl))
                try simp only [Act.put, List.getElem_toArray, List.getElem_cons_zero, List.getElem_cons_succ, List.setIfInBounds_toArray, List.set_cons_zero, List.set_cons_succ]
                refine wpAnyH_take (i := 14) (v := ?_) rfl (by kernel_rfl) (by kernel_rfl) (by kernel_rfl) (fun _ _ _ h => h) (Or.inl ⟨by rfl, ?_⟩) (by assumption) ?_
                rotate_left
                · (intro w hSw; have sx := HCe.out w hSw; obtain ⟨s1, s2, s3, s4⟩ := sx; clear hSw; first | (go_simp; done) | (go_simp; with_reducible rfl))
                try simp only [Act.put, List.getElem_toArray, List.getElem_cons_zero, List.getElem_cons_succ, List.setIfInBounds_toArray, List.set_cons_zero, List.set_cons_succ]
                refine wpAnyH_take (i := 15) (v := ?_) rfl (by kernel_rfl) (by kernel_rfl) (by kernel_rfl) (fun _ _ _ h => h) (Or.inl ⟨by rfl, ?_⟩) (by assumption) ?_
                rotate_left
                · (intro w hSw; have sx := HCe.out w hSw; obtain ⟨s1, s2, s3, s4⟩ := sx; clear hSw; first | (go_simp; done) | (go_simp; with_reducible rfl))
                try simp only [Act.put, List.getElem_toArray, List.getElem_cons_zero, List.getElem_cons_succ, List.setIfInBounds_toArray, List.set_cons_zero, List.set_cons_succ]
                refine wpAnyH_take (i := 16) (v := ?_) rfl (by kernel_rfl) (by kernel_rfl) (by kernel_rfl) (fun _ _ _ h => h) (Or.inl ⟨by rfl, ?_⟩) (by assumption) ?_
                rotate_left
                · (intro w hSw; have sx := HCe.out w hSw; obtain ⟨s1, s2, s3, s4⟩ := sx; clear hSw; first | (go_simp; done) | (go_simp; with_reducible rfl))
                try simp only [Act.put, List.getElem_toArray, List.getElem_cons_zero, List.getElem_cons_succ, List.setIfInBounds_toArray, List.set_cons_zero, List.set_cons_succ]
                refine wpAnyH_take (i := 17) (v := ?_) rfl (by kernel_rfl) (by kernel_rfl) (by kernel_rfl) (fun _ _ _ h => h) (Or.inl ⟨by rfl, ?_⟩) (by assumption) ?_
                rotate_left
                · (intro w hSw; have sx := HCe.out w hSw; obtain ⟨s1, s2, s3, s4⟩ := sx; clear hSw; first | (go_simp; done) | (go_simp; with_reducible rfl))
                try simp only [Act.put, List.getElem_toArray, List.getElem_cons_zero, List.getElem_cons_succ, List.setIfInBounds_toArray, List.set_cons_zero, List.set_cons_succ]
                refine wpAnyH_take (i := 18) (v := ?_) rfl (by kernel_rfl) (by kernel_rfl) (by kernel_rfl) (fun _ _ _ h => h) (Or.inl ⟨by rfl, ?_⟩) (by assumption) ?_
                rotate_left
                · (intro w hSw; have sx := HCe.out w hSw; obtain ⟨s1, s2, s3, s4⟩ := sx; clear hSw; first | (go_simp; done) | (go_simp; with_reducible rfl))
                try simp only [Act.put, List.getElem_toArray, List.getElem_cons_zero, List.getElem_cons_succ, List.setIfInBounds_toArray, List.set_cons_zero, List.set_cons_succ]
                refine wpAnyH_take (i := 19) (v := ?_) rfl (by kernel_rfl) (by kernel_rfl) (by kernel_rfl) (fun _ _ _ h => h) (Or.inl ⟨by rfl, ?_⟩) (by assumption) ?_
                rotate_left
                · (intro w hSw; have sx := HCe.out w hSw; obtain ⟨s1, s2, s3, s4⟩ := sx; clear hSw; first | (go_simp; done) | (go_simp; with_reducible rfl))
                try simp only [Act.put, List.getElem_toArray, List.getElem_cons_zero, List.getElem_cons_succ, List.setIfInBounds_toArray, List.set_cons_zero, List.set_cons_succ]
                refine wpAnyH_take (i := 20) (v := ?_) rfl (by kernel_rfl) (by kernel_rfl) (by kernel_rfl) (fun _ _ _ h => h) (Or.inl ⟨by rfl, ?_⟩) (by assumption) ?_
                rotate_left
                · (intro w hSw; have sx := HCe.out w hSw; obtain ⟨s1, s2, s3, s4⟩ := sx; clear hSw; first | (go_simp; done) | (go_simp; with_reducible rfl))
                try simp only [Act.put, List.getElem_toArray, List.getElem_cons_zero, List.getElem_cons_succ, List.setIfInBounds_toArray, List.set_cons_zero, List.set_cons_succ]
                refine wpAnyH_take (i := 21) (v := ?_) rfl (by kernel_rfl) (by kernel_rfl) (by kernel_rfl) (fun _ _ _ h => h) (Or.inl ⟨by rfl, ?_⟩) (by assumption) ?_
                rotate_left
                · (intro w hSw; have sx := HCe.out w hSw; obtain ⟨s1, s2, s3, s4⟩ := sx; clear hSw; first | (go_simp; done) | (go_simp; with_reducible rfl))
                try simp only [Act.put, List.getElem_toArray, List.getElem_cons_zero, List.getElem_cons_succ, List.setIfInBounds_toArray, List.set_cons_zero, List.set_cons_succ]
                refine wpAnyH_take (i := 22) (v := ?_) rfl (by kernel_rfl) (by kernel_rfl) (by kernel_rfl) (fun _ _ _ h => h) (Or.inl ⟨by rfl, ?_⟩) (by assumption) ?_
                rotate_left
                · (intro w hSw; have sx := HCe.out w hSw; obtain ⟨s1, s2, s3, s4⟩ := sx; clear hSw; first | (go_simp; done) | (go_simp; with_reducible rfl))
                try simp only [Act.put, List.getElem_toArray, List.getElem_cons_zero, List.getElem_cons_succ, List.setIfInBounds_toArray, List.set_cons_zero, List.set_cons_succ]
                refine wpAnyH_take (i := 23) (v := ?_) rfl (by kernel_rfl) (by kernel_rfl) (by kernel_rfl) (fun _ _ _ h => h) (Or.inl ⟨by rfl, ?_⟩) (by assumption) ?_
                rotate_left
                · (intro w hSw; have sx := HCe.out w hSw; obtain ⟨s1, s2, s3, s4⟩ := sx; clear hSw; first | (go_simp; done) | (go_simp; with_reducible rfl))
                try simp only [Act.put, List.getElem_toArray, List.getElem_cons_zero, List.getElem_cons_succ, List.setIfInBounds_toArray, List.set_cons_zero, List.set_cons_succ]
                refine wpAnyH_take (i := 24) (v := ?_) rfl (by kernel_rfl) (by kernel_rfl) (by kernel_rfl) (fun _ _ _ h => h) (Or.inl ⟨by rfl, ?_⟩) (by assumption) ?_
                rotate_left
                · (intro w hSw; have sx := HCe.out w hSw; obtain ⟨s1, s2, s3, s4⟩ := sx; clear hSw; first | (go_simp; done) | (go_simp; with_reducible rfl))
                try simp only [Act.put, List.getElem_toArray, List.getElem_cons_zero, List.getElem_cons_succ, List.setIfInBounds_toArray, List.set_cons_zero, List.set_cons_succ]
                refine wpAnyH_take (i := 25) (v := ?_) rfl (by kernel_rfl) (by kernel_rfl) (by kernel_rfl) (fun _ _ _ h => h) (Or.inl ⟨by rfl, ?_⟩) (by assumption) ?_
                rotate_left
                · (intro w hSw; have sx := HCe.out w hSw; obtain ⟨s1, s2, s3, s4⟩ := sx; clear hSw; first | (go_simp; done) | (go_simp; with_reducible rfl))
                try simp only [Act.put, List.getElem_toArray, List.getElem_cons_zero, List.getElem_cons_succ, List.setIfInBounds_toArray, List.set_cons_zero, List.set_cons_succ]
                refine wpAnyH_take (i := 26) (v := ?_) rfl (by kernel_rfl) (by kernel_rfl) (by kernel_rfl) (fun _ _ _ h => h) (Or.inl ⟨by rfl, ?_⟩) (by assumption) ?_
                rotate_left
                · (intro w hSw; have sx := HCe.out w hSw; obtain ⟨s1, s2, s3, s4⟩ := sx; clear hSw; first | (go_simp; done) | (go_simp; with_reducible rfl))
                try simp only [Act.put, List.getElem_toArray, List.getElem_cons_zero, List.getElem_cons_succ, List.setIfInBounds_toArray, List.set_cons_zero, List.set_cons_succ]
                refine wpH_one (i := 27) (by kernel_rfl) rfl (fun K hK => ?_)
                refine step_callG (by rfl) 23 Try.f23 Try.func23 (by kernel_rfl) (by kernel_rfl) _ _ rfl _ (by simp [Act.eval]) _ (HMk.out _) ?_
                rintro _ wm2 ⟨rfl, fm2⟩
                have hH2 : Hid (Fr [] V0 wm2) := hHeld.out.trans fm2 (by simp)
                clear fm2 hHeld
                refine hK.out _ _ hH2 (fun hHeld => ?_)
                clear hK K
                try simp only [Act.put, List.getElem_toArray, List.getElem_cons_zero, List.getElem_cons_succ, List.setIfInBounds_toArray, List.set_cons_zero, List.set_cons_succ]
                refine wpAnyH_take (i := 28) (v := ?_) rfl (by kernel_rfl) (by kernel_rfl) (by kernel_rfl) (fun _ _ _ h => h) (Or.inl ⟨by rfl, ?_⟩) (by assumption) ?_
                rotate_left
                · (intro w hSw; have sx := HCe.out w hSw; obtain ⟨s1, s2, s3, s4⟩ := sx; clear hSw; first | (go_simp; done) | (go_simp; with_reducible rfl))
                try simp only [Act.put, List.getElem_toArray, List.getElem_cons_zero, List.getElem_cons_succ, List.setIfInBounds_toArray, List.set_cons_zero, List.set_cons_succ]
                refine wpAnyH_take (i := 29) (v := ?_) rfl (by kernel_rfl) (by kernel_rfl) (by kernel_rfl) (fun _ _ _ h => h) (Or.inl ⟨by rfl, ?_⟩) (by assumption) ?_
                rotate_left
                · (intro w hSw; have sx := HCe.out w hSw; obtain ⟨s1, s2, s3, s4⟩ := sx; clear hSw; first | (go_simp; done) | (go_simp; with_reducible rfl))
                try simp only [Act.put, List.getElem_toArray, List.getElem_cons_zero, List.getElem_cons_succ, List.setIfInBounds_toArray, List.set_cons_zero, List.set_cons_succ]
                refine wpAnyH_take (i := 30) (v := ?_) rfl (by kernel_rfl) (by kernel_rfl) (by kernel_rfl) (fun _ _ _ h => h) (Or.inl ⟨by rfl, ?_⟩) (by assumption) ?_
                rotate_left
                · (intro w hSw; have sx := HCe.out w hSw; obtain ⟨s1, s2, s3, s4⟩ := sx; clear hSw; first | (go_simp; done) | (go_simp; with_reducible rfl))
                try simp only [Act.put, List.getElem_toArray, List.getElem_cons_zero, List.getElem_cons_succ, List.setIfInBounds_toArray, List.set_cons_zero, List.set_cons_succ]
                refine wpAnyH_done (by kernel_rfl) ?_ _
                go_wp2_with fail
                go_roundw
                case rel => exact ⟨t + 1, by omega, by go_num, hHeld⟩
                case measure => simp [intOf]; omega
              · have t4 : (n : Int) ≤ (t : Int) := by omega
                have t5 : decide ((t : Int) < (n : Int)) = false := decide_eq_false (by omega)
                have HCe : Hid (∀ V, Hid (Fr [] V0 V) → V.cell? ⟨g7, i, none⟩ = some (.slice p n cc) ∧ V.cell? ⟨g8, i, none⟩ = some (.slice (some ⟨gq, oq, none⟩) (n + 64) d) ∧ V.cell? ⟨gq, oq + t, none⟩ = some (.string M) ∧ True) := fun V hV => ⟨(HC.out V hV.out).1, (HC.out V hV.out).2.1, (HC.out V hV.out).2.2 t hlt2, trivial⟩
                go_wp2_with fail
                refine wp_region_held_drew (S := fun V => Hid (Fr [] V0 V)) (by kernel_rfl) (mkHid (HV.out.trans (Fr.drew [] _) (by simp))) (fun hHeld => ?_)
                refine wpAnyH_take (i := 0) (v := ?_) rfl (by kernel_rfl) (by kernel_rfl) (by kernel_rfl) (fun _ _ _ h => h) (Or.inl ⟨by rfl, ?_⟩) (by assumption) ?_
                rotate_left
                · (intro w hSw; have sx := HCe.out w hSw; obtain ⟨s1, s2, s3, s4⟩ := sx; clear hSw; first | (go_simp; done) | (go_simp; with_reducible rfl))
                try simp only [Act.put, List.getElem_toArray, List.getElem_cons_zero, List.getElem_cons_succ, List.setIfInBounds_toArray, List.set_cons_zero, List.set_cons_succ]
                refine wpAnyH_take (i := 1) (v := ?_) rfl (by kernel_rfl) (by kernel_rfl) (by kernel_rfl) (fun _ _ _ h => h) (Or.inl ⟨by rfl, ?_⟩) (by assumption) ?_
                rotate_left
                · (intro w hSw; have sx := HCe.out w hSw; obtain ⟨s1, s2, s3, s4⟩ := sx; clear hSw; first | (go_simp; done) | (go_simp; with_reducible rfl))
                try simp only [Act.put, List.getElem_toArray, List.getElem_cons_zero, List.getElem_cons_succ, List.setIfInBounds_toArray, List.set_cons_zero, List.set_cons_succ]
                refine wpAnyH_take (i := 2) (v := ?_) rfl (by kernel_rfl) (by kernel_rfl) (by kernel_rfl) (fun _ _ _ h => h) (Or.inl ⟨by rfl, ?_⟩) (by assumption) ?_
                rotate_left
                · (intro w hSw; have sx := HCe.out w hSw; obtain ⟨s1, s2, s3, s4⟩ := sx; clear hSw; first | (go_simp; done) | (go_simp; with_reducible rfl))
                try simp only [Act.put, List.getElem_toArray, List.getElem_cons_zero, List.getElem_cons_succ, List.setIfInBounds_toArray, List.set_cons_zero, List.set_cons_succ]
                refine wpAnyH_take (i := 3) (v := ?_) rfl (by kernel_rfl) (by kernel_rfl) (by kernel_rfl) (fun _ _ _ h => h) (Or.inl ⟨by rfl, ?_⟩) (by assumption) ?_
                rotate_left
                · (intro w hSw; have sx := HCe.out w hSw; obtain ⟨s1, s2, s3, s4⟩ := sx; clear hSw; first | (go_simp; done) | (go_simp; with_reducible rfl))
                try simp only [Act.put, List.getElem_toArray, List.getElem_cons_zero, List.getElem_cons_succ, List.setIfInBounds_toArray, List.set_cons_zero, List.set_cons_succ]
                refine wpAnyH_take (i := 4) (v := ?_) rfl (by kernel_rfl) (by kernel_rfl) (by kernel_rfl) (fun _ _ _ h => h) (Or.inl ⟨by rfl, ?_⟩) (by assumption) ?_
                rotate_left
                · (intro w hSw; have sx := HCe.out w hSw; obtain ⟨s1, s2, s3, s4⟩ := sx; clear hSw; first | (go_simp; done) | (go_simp; with_reducible rfl))
                try simp only [Act.put, List.getElem_toArray, List.getElem_cons_zero, List.getElem_cons_succ, List.setIfInBounds_toArray, List.set_cons_zero, List.set_cons_succ]
                refine wpAnyH_take (i := 5) (v := ?_) rfl (by kernel_rfl) (by kernel_rfl) (by kernel_rfl) (fun _ _ _ h => h) (Or.inl ⟨by rfl, ?_⟩) (by assumption) ?_
                rotate_left
                · (intro w hSw; have sx := HCe.out w hSw; obtain ⟨s1, s2, s3, s4⟩ := sx; clear hSw; first | (go_simp; done) | (go_simp; with_reducible rfl))
                try simp only [Act.put, List.getElem_toArray, List.getElem_cons_zero, List.getElem_cons_succ, List.setIfInBounds_toArray, List.set_cons_zero, List.set_cons_succ]
                refine wpAnyH_take (i := 6) (v := ?_) rfl (by kernel_rfl) (by kernel_rfl) (by kernel_rfl) (fun _ _ _ h => h) (Or.inl ⟨by rfl, ?_⟩) (by assumption) ?_
                rotate_left
                · (intro w hSw; have sx := HCe.out w hSw; obtain ⟨s1, s2, s3, s4⟩ := sx; clear hSw; first | (go_simp; done) | (go_simp; with_reducible rfl))
                try simp only [Act.put, List.getElem_toArray, List.getElem_cons_zero, List.getElem_cons_succ, List.setIfInBounds_toArray, List.set_cons_zero, List.set_cons_succ]
                refine wpAnyH_take (i := 7) (v := ?_) rfl (by kernel_rfl) (by kernel_rfl) (by kernel_rfl) (fun _ _ _ h => h) (Or.inl ⟨by rfl, ?_⟩) (by assumption) ?_
                rotate_left
                · (intro w hSw; have sx := HCe.out w hSw; obtain ⟨s1, s2, s3, s4⟩ := sx; clear hSw; first | (go_simp; done) | (go_simp; with_reducible rfl))
                try simp only [Act.put, List.getElem_toArray, List.getElem_cons_zero, List.getElem_cons_succ, List.setIfInBounds_toArray, List.set_cons_zero, List.set_cons_succ]
                refine wpH_one (i := 8) (by kernel_rfl) rfl (fun K hK => ?_)
                refine step_callG (by rfl) 23 Try.f23 Try.func23 (by kernel_rfl) (by kernel_rfl) _ _ rfl _ (by simp [Act.eval]) _ (HMk.out _) ?_
                rintro _ wm1 ⟨rfl, fm1⟩
                have hH1 : Hid (Fr [] V0 wm1) := hHeld.out.trans fm1 (by simp)
                clear fm1 hHeld
                refine hK.out _ _ hH1 (fun hHeld => ?_)
                clear hK K
                try simp only [Act.put, List.getElem_toArray, List.getElem_cons_zero, List.getElem_cons_succ, List.setIfInBounds_toArray, List.set_cons_zero, List.set_cons_succ]
                refine wpAnyH_take (i := 9) (v := ?_) rfl (by kernel_rfl) (by kernel_rfl) (by kernel_rfl) (fun _ _ _ h => h) (Or.inl ⟨by rfl, ?_⟩) (by assumption) ?_
                rotate_left
                · (intro w hSw; have sx := HCe.out w hSw; obtain ⟨s1, s2, s3, s4⟩ := sx; clear hSw; first | (go_simp; done) | (go_simp; with_reducible rfl))
                try simp only [Act.put, List.getElem_toArray, List.getElem_cons_zero, List.getElem_cons_succ, List.setIfInBounds_toArray, List.set_cons_zero, List.set_cons_succ]
                refine wpAnyH_take (i := 10) (v := ?_) rfl (by kernel_rfl) (by kernel_rfl) (by kernel_rfl) (fun _ _ _ h => h) (Or.inl ⟨by rfl, ?_⟩) (by assumption) ?_
                rotate_left
                · (intro w hSw; have sx := HCe.out w hSw; obtain ⟨s1, s2, s3, s4⟩ := sx; clear hSw; first | (go_simp; done) | (go_simp; with_reducible rfl))
                try simp only [Act.put, List.getElem_toArray, List.getElem_cons_zero, List.getElem_cons_succ, List.setIfInBounds_toArray, List.set_cons_zero, List.set_cons_succ]
                refine wpAnyH_take (i := 11) (v := ?_) rfl (by kernel_rfl) (by kernel_rfl) (by kernel_rfl) (fun _ _ _ h => h) (Or.inl ⟨by rfl, ?_⟩) (by assumption) ?_
                rotate_left
                · (intro w hSw; have sx := HCe.out w hSw; obtain ⟨s1, s2, s3, s4⟩ := sx; clear hSw; first | (go_simp; done) | (go_simp; with_reducible rfl))
                try simp only [Act.put, List.getElem_toArray, List.getElem_cons_zero, List.getElem_cons_succ, List.setIfInBounds_toArray, List.set_cons_zero, List.set_cons_succ]
                refine wpAnyH_take (i := 12) (v := ?_) rfl (by kernel_rfl) (by kernel_rfl) (by kernel_rfl) (fun _ _ _ h => h) (Or.inl ⟨by rfl, ?_⟩) (by assumption) ?_
                rotate_left
                · (intro w hSw; have sx := HCe.out w hSw; obtain ⟨s1, s2, s3, s4⟩ := sx; clear hSw; first | (go_simp; done) | (go_simp; with_reducible rfl))
                try simp only [Act.put, List.getElem_toArray, List.getElem_cons_zero, List.getElem_cons_succ, List.setIfInBounds_toArray, List.set_cons_zero, List.set_cons_succ]
                refine wpAnyH_take (i := 13) (v := ?_) rfl (by kernel_rfl) (by kernel_rfl) (by kernel_rfl) (fun _ _ _ h => h) (Or.inl ⟨by rfl, ?_⟩) (by assumption) ?_
                rotate_left
                · (intro w hSw; have sx := HCe.out w hSw; obtain ⟨s1, s2, s3, s4⟩ := sx; clear hSw; first | (go_simp; done) | (go_simp; with_reducible rfl))
                try simp only [Act.put, List.getElem_toArray, List.getElem_cons_zero, List.getElem_cons_succ, List.setIfInBounds_toArray, List.set_cons_zero, List.set_cons_succ]
                refine wpAnyH_take (i := 14) (v := ?_) rfl (by kernel_rfl) (by kernel_rfl) (by kernel_rfl) (fun _ _ _ h => h) (Or.inl ⟨by rfl, ?_⟩) (by assumption) ?_
                rotate_left
                · (intro w hSw; have sx := HCe.out w hSw; obtain ⟨s1, s2, s3, s4⟩ := sx; clear hSw; first | (go_simp; done) | (go_simp; with_reducible rfl))
                try simp only [Act.put, List.getElem_toArray, List.getElem_cons_zero, List.getElem_cons_succ, List.setIfInBounds_toArray, List.set_cons_zero, List.set_cons_succ]
                refine wpAnyH_take (i := 15) (v := ?_) rfl (by kernel_rfl) (by kernel_rfl) (by kernel_rfl) (fun _ _ _ h => h) (Or.inl ⟨by rfl, ?_⟩) (by assumption) ?_
                rotate_left
                · (intro w hSw; have sx := HCe.out w hSw; obtain ⟨s1, s2, s3, s4⟩ := sx; clear hSw; first | (go_simp; done) | (go_simp; with_reducible rfl))
                try simp only [Act.put, List.getElem_toArray, List.getElem_cons_zero, List.getElem_cons_succ, List.setIfInBounds_toArray, List.set_cons_zero, List.set_cons_succ]
                refine wpAnyH_take (i := 16) (v := ?_) rfl (by kernel_rfl) (by kernel_rfl) (by kernel_rfl) (fun _ _ _ h => h) (Or.inl ⟨by rfl, ?_⟩) (by assumption) ?_
                rotate_left
                · (intro w hSw; have sx := HCe.out w hSw; obtain ⟨s1, s2, s3, s4⟩ := sx; clear hSw; first | (go_simp; done) | (go_simp; with_reducible rfl))
                try simp only [Act.put, List.getElem_toArray, List.getElem_cons_zero, List.getElem_cons_succ, List.setIfInBounds_toArray, List.set_cons_zero, List.set_cons_succ]
                refine wpAnyH_take (i := 17) (v := ?_) rfl (by kernel_rfl) (by kernel_rfl) (by kernel_rfl) (fun _ _ _ h => h) (Or.inl ⟨by rfl, ?_⟩) (by assumption) ?_
                rotate_left
                · (intro w hSw; have sx := HCe.out w hSw; obtain ⟨s1, s2, s3, s4⟩ := sx; clear hSw; first | (go_simp; done) | (go_simp; with_reducible rfl))
                try simp only [Act.put, List.getElem_toArray, List.getElem_cons_zero, List.getElem_cons_succ, List.setIfInBounds_toArray, List.set_cons_zero, List.set_cons_succ]
                refine wpAnyH_take (i := 18) (v := ?_) rfl (by kernel_rfl) (by kernel_rfl) (by kernel_rfl) (fun _ _ _ h => h) (Or.inl ⟨by rfl, ?_⟩) (by assumption) ?_
                rotate_left
                · (intro w hSw; have sx := HCe.out w hSw; obtain ⟨s1, s2, s3, s4⟩ := sx; clear hSw; first | (go_simp; done) | (go_simp; with_reducible rfl))
                try simp only [Act.put, List.getElem_toArray, List.getElem_cons_zero, List.getElem_cons_succ, List.setIfInBounds_toArray, List.set_cons_zero, List.set_cons_succ]
                refine wpAnyH_take (i := 19) (v := undef) rfl (by kernel_rfl) (by kernel_rfl) (by kernel_rfl) (fun _ _ _ h => h) (Or.inr ⟨by rfl, rfl⟩) (by assumption) ?_
                try simp only [Act.put, List.getElem_toArray, List.getElem_cons_zero, List.getElem_cons_succ, List.setIfInBounds_toArray, List.set_cons_zero, List.set_cons_succ]
                refine wpAnyH_take (i := 20) (v := undef) rfl (by kernel_rfl) (by kernel_rfl) (by kernel_rfl) (fun _ _ _ h => h) (Or.inr ⟨by rfl, rfl⟩) (by assumption) ?_
                try simp only [Act.put, List.getElem_toArray, List.getElem_cons_zero, List.getElem_cons_succ, List.setIfInBounds_toArray, List.set_cons_zero, List.set_cons_succ]
                refine wpAnyH_take (i := 21) (v := undef) rfl (by kernel_rfl) (by kernel_rfl) (by kernel_rfl) (fun _ _ _ h => h) (Or.inr ⟨by rfl, rfl⟩) (by assumption) ?_
                try simp only [Act.put, List.getElem_toArray, List.getElem_cons_zero, List.getElem_cons_succ, List.setIfInBounds_toArray, List.set_cons_zero, List.set_cons_succ]
                refine wpAnyH_take (i := 22) (v := undef) rfl (by kernel_rfl) (by kernel_rfl) (by kernel_rfl) (fun _ _ _ h => h) (Or.inr ⟨by rfl, rfl⟩) (by assumption) ?_
                try simp only [Act.put, List.getElem_toArray, List.getElem_cons_zero, List.getElem_cons_succ, List.setIfInBounds_toArray, List.set_cons_zero, List.set_cons_succ]
                refine wpAnyH_take (i := 23) (v := undef) rfl (by kernel_rfl) (by kernel_rfl) (by kernel_rfl) (fun _ _ _ h => h) (Or.inr ⟨by rfl, rfl⟩) (by assumption) ?_
                try simp only [Act.put, List.getElem_toArray, List.getElem_cons_zero, List.getElem_cons_succ, List.setIfInBounds_toArray, List.set_cons_zero, List.set_cons_succ]
                refine wpAnyH_take (i := 24) (v := undef) rfl (by kernel_rfl) (by kernel_rfl) (by kernel_rfl) (fun _ _ _ h => h) (Or.inr ⟨by rfl, rfl⟩) (by assumption) ?_
                try simp only [Act.put, List.getElem_toArray, List.getElem_cons_zero, List.getElem_cons_succ, List.setIfInBounds_toArray, List.set_cons_zero, List.set_cons_succ]
                refine wpAnyH_take (i := 25) (v := undef) rfl (by kernel_rfl) (by kernel_rfl) (by kernel_rfl) (fun _ _ _ h => h) (Or.inr ⟨by rfl, rfl⟩) (by assumption) ?_
                try simp only [Act.put, List.getElem_toArray, List.getElem_cons_zero, List.getElem_cons_succ, List.setIfInBounds_toArray, List.set_cons_zero, List.set_cons_succ]
                refine wpAnyH_take (i := 26) (v := undef) rfl (by kernel_rfl) (by kernel_rfl) (by kernel_rfl) (fun _ _ _ h => h) (Or.inr ⟨by rfl, rfl⟩) (by assumption) ?_
                try simp only [Act.put, List.getElem_toArray, List.getElem_cons_zero, List.getElem_cons_succ, List.setIfInBounds_toArray, List.set_cons_zero, List.set_cons_succ]
                refine wpAnyH_take (i := 27) (v := undef) rfl (by kernel_rfl) (by kernel_rfl) (by kernel_rfl) (fun _ _ _ h => h) (Or.inr ⟨by rfl, rfl⟩) (by assumption) ?_
                try simp only [Act.put, List.getElem_toArray, List.getElem_cons_zero, List.getElem_cons_succ, List.setIfInBounds_toArray, List.set_cons_zero, List.set_cons_succ]
                refine wpAnyH_take (i := 28) (v := undef) rfl (by kernel_rfl) (by kernel_rfl) (by kernel_rfl) (fun _ _ _ h => h) (Or.inr ⟨by rfl, rfl⟩) (by assumption) ?_
                try simp only [Act.put, List.getElem_toArray, List.getElem_cons_zero, List.getElem_cons_succ, List.setIfInBounds_toArray, List.set_cons_zero, List.set_cons_succ]
                refine wpAnyH_take (i := 29) (v := ?_) rfl (by kernel_rfl) (by kernel_rfl) (by kernel_rfl) (fun _ _ _ h => h) (Or.inl ⟨by rfl, ?_⟩) (by assumption) ?_
                rotate_left
                · (intro w hSw; have sx := HCe.out w hSw; obtain ⟨s1, s2, s3, s4⟩ := sx; clear hSw; first | (go_simp; done) | (go_simp; with_reducible rfl))
                try simp only [Act.put, List.getElem_toArray, List.getElem_cons_zero, List.getElem_cons_succ, List.setIfInBounds_toArray, List.set_cons_zero, List.set_cons_succ]
                refine wpAnyH_take (i := 30) (v := ?_) rfl (by kernel_rfl) (by kernel_rfl) (by kernel_rfl) (fun _ _ _ h => h) (Or.inl ⟨by rfl, ?_⟩) (by assumption) ?_
                rotate_left
                · (intro w hSw; have sx := HCe.out w hSw; obtain ⟨s1, s2, s3, s4⟩ := sx; clear hSw; first | (go_simp; done) | (go_simp; with_reducible rfl))
                try simp only [Act.put, List.getElem_toArray, List.getElem_cons_zero, List.getElem_cons_succ, List.setIfInBounds_toArray, List.set_cons_zero, List.set_cons_succ]
                refine wpAnyH_done (by kernel_rfl) ?_ _
                go_wp2_with fail
                go_roundw
                case rel => exact ⟨t + 1, by omega, by go_num, hHeld⟩
                case measure => simp [intOf]; omega
            · have hte : t = n + 64 := by omega
              subst hte
              have HO2 := mkHid (hst.out.idle HV.out)
              clear HMk HP HC
              go_wp2_with fail
              go_roundw
              case rel => exact ⟨i + 1, by omega, by go_num, HO2⟩
              case measure => simp [intOf]; omega
        · have hie : i = xs.length := by omega
          subst hie
          have HC1 := mkHid (ol_plays hst.out 4 0 0 ⟨#[]⟩ (by omega) (by omega) (by decide))
          have HC2 : Hid (∀ W v c, OL w W w.heap.size v c D xs ys p7 c7 p8 c8 → _) := mkHid (fun W v c hW => ol_plays hW 4 1 0 ⟨#[]⟩ (by omega) (by omega) (by decide))
          go_wp2_with (go_at_call 28; first
            | (refine (HC2.out _ _ _ HS3.out).mono ?_; rintro e w4 ⟨rfl, v4, c4, h4⟩; have HS4 := mkHid h4.sh_.fr; clear h4)
            | (refine HC1.out.mono ?_; rintro e w3 ⟨rfl, v3, c3, h3⟩; have HS3 := mkHid h3; clear h3))
          go_ret
          exact ⟨rfl, HS4.out⟩
end Go.Proofs.Ytjeeibokdnepgaa
