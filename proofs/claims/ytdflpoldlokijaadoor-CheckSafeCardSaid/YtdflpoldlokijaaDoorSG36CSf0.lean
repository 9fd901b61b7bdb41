import Derived.Test.YtdflpoldlokijaaDoorSG35CBey
import Derived.Test.YtdflpoldlokijaaDoorSG26CMk
namespace Go.Proofs.YtdflpoldlokijaaDoor
open Go.RowKit
set_option linter.unusedVariables false
set_option linter.unusedSimpArgs false
attribute [local go_sem ↓] Go.wp_at_zero Go.wp_at_succ
def AnyB (w : World) (e : Ending) (w' : World) : Prop := ∃ b, e = .returned (.bool b) ∧ Fr [] w w'
/-- the next level under way -/
def Nxt (w0 w wr : World) (k : Nat) (p : Option Addr) (c : Nat) (us : List LitT) : Prop := us.length = k ∧ wr.ownsRow w.heap.size 54 4 (.slice p k c) k (litCells us) ∧ (∀ u ∈ us, u.text.size ≤ 140737488355328 ∧ LitsR w0 u.p u.c u.kids) ∧ Fr [] w wr
theorem Nxt.lvr {w0 w wr : World} {k : Nat} {p : Option Addr} {c : Nat} {us : List LitT} (h : Nxt w0 w wr k p c us) (hk : k ≤ 2000000) : LvR w0 wr p c us := by
  refine ⟨fun hp => ?_, by rw [h.1]; omega, fun t ht => (h.2.2.1 t ht).1, fun t ht => (h.2.2.1 t ht).2⟩
  rcases h.2.1.2 with ⟨e, e0⟩ | ⟨g, cap, cur, e, q1, q2, q3, q4⟩
  · have := h.1; omega
  · injection e with e1 _ e3
    subst e1
    refine ⟨g, 0, rfl, lt_of_heap q2, fun i t hit => ?_⟩
    have hlt : i < us.length := (List.getElem?_eq_some_iff.1 hit).1
    have hc : ∀ j, j < 4 → wr.cell? ⟨g, i * 4 + j, none⟩ = (litc t)[j]? := fun j hj => by
      rw [h.2.1.cellAt (i * 4 + j) (by have := h.1; omega)]
      exact litCells_at _ i t j hit hj
    rw [Nat.zero_add]
    exact ⟨hc 0 (by omega), hc 1 (by omega), hc 2 (by omega), hc 3 (by omega)⟩
set_option maxRecDepth 100000 in
set_option maxHeartbeats 4000000 in
theorem beyond_ok (w : World) (p : Option Addr) (c : Nat) (ts : List LitT) (h : LitsR w p c ts) : Calls Tryd.prog 5 #[.slice p ts.length c] w fun e w' => AnyB w e w' := by
  have HL0 : Hid (LvR w w p c ts) := by
    cases h with
    | mk _ _ _ nil at_ short txt kids => exact ⟨at_, short, txt, kids⟩
  clear h
  go_enter Tryd.func5, Tryd.ntmps5
  go_wp2_with fail
  go_loopw [0, 3, 4] (fun l n d wr => ∃ (p : Option Addr) (c : Nat) (ts : List LitT) (N D : Nat), l = .slice p ts.length c ∧ n = .int .i64 N ∧ d = .int .i64 D ∧ N ≤ 1048576 ∧ D ≤ 65536 ∧ ts.length ≤ 2513169434916 ∧ Hid (LvR w wr p c ts ∧ Fr [] w wr)) (fun _ _ d _ => 65537 - (intOf d).toNat)
  case atStart => exact ⟨p, c, ts, 0, 0, rfl, rfl, rfl, by omega, by omega, HL0.out.short, HL0.out, Fr.refl _ _⟩
  case round =>
    clear HL0
    obtain ⟨p, c, ts, N, D, rfl, rfl, rfl, hN, hD, hsh, hst⟩ := hrel
    have N0 : (0 : Int) ≤ (N : Int) := by omega
    by_cases h0 : ts.length = 0
    · have d0 : ¬ (0 : Int) < (ts.length : Int) := by omega
      have d1 : decide ((0 : Int) < (ts.length : Int)) = false := decide_eq_false d0
      have HF := mkHid hst.out.2
      clear hst h0
      go_wp2_with fail
      go_ret
      exact ⟨_, rfl, HF.out⟩
    · have d0 : (0 : Int) < (ts.length : Int) := by omega
      by_cases hbig : 65536 ≤ D ∨ 1048576 < N + ts.length
      · have HF := mkHid hst.out.2
        by_cases hb1 : 65536 ≤ D
        · have e1 : (65536 : Int) ≤ (D : Int) := by omega
          clear hst h0 hbig hb1
          go_wp2_with fail
          go_ret
          exact ⟨_, rfl, HF.out⟩
        · have e1 : decide ((65536 : Int) ≤ (D : Int)) = false := decide_eq_false (by omega)
          have e2 : (1048576 : Int) < (N : Int) + (ts.length : Int) := by omega
          clear hst h0 hbig hb1
          go_wp2_with fail
          go_ret
          exact ⟨_, rfl, HF.out⟩
      · have e1 : decide ((65536 : Int) ≤ (D : Int)) = false := decide_eq_false (by omega)
        have e2 : decide ((1048576 : Int) < (N : Int) + (ts.length : Int)) = false := decide_eq_false (by omega)
        have hT : ts.length ≤ 1048576 := by omega
        have hD2 : D < 65536 := by omega
        have HL := mkHid hst.out.1
        have HF := mkHid hst.out.2
        have hNs : N + ts.length ≤ 1048576 := by omega
        clear hst h0 hbig
        go_wp2_with fail
        generalize wr = wo at *
        go_loopw [3, 5, 6] (fun n m q wr => ∃ (i N2 k : Nat) (p2 : Option Addr) (c2 : Nat), i ≤ ts.length ∧ q = .int .i64 i ∧ n = .int .i64 N2 ∧ N2 ≤ 1048576 ∧ m = .slice p2 k c2 ∧ k ≤ 1048576 ∧ Hid (∃ us, Nxt w wo wr k p2 c2 us)) (fun _ _ q _ => ts.length - (intOf q).toNat)
        case atStart => exact ⟨0, N + ts.length, 0, none, 0, Nat.zero_le _, rfl, by go_num, hNs, rfl, by omega, [], rfl, ⟨rfl, .inl ⟨rfl, rfl⟩⟩, fun u hu => by simp at hu, Fr.refl _ _⟩
        case round =>
          obtain ⟨i, N2, k, p2, c2, hin, rfl, rfl, hN2, rfl, hk, hst⟩ := hrel
          obtain ⟨us, hus⟩ := hst.out
          have i0 : (0 : Int) ≤ (i : Int) := by omega
          by_cases hlt : i < ts.length
          · have i1 : (i : Int) < (ts.length : Int) := by omega
            obtain ⟨ge, oe, rfl, hge, hce⟩ := HL.out.at_ (by omega)
            obtain ⟨t2, ht2⟩ : ∃ t2, ts[i]? = some t2 := ⟨_, List.getElem?_eq_getElem hlt⟩
            have hmem := List.mem_of_getElem? ht2
            obtain ⟨-, y1, -, y3'⟩ := (hce i t2 ht2).idle hus.2.2.2
            have y3 : wr.cell? ⟨ge, oe + i * 4 + 3, none⟩ = some (.slice t2.p t2.kids.length t2.c) := y3'
            have htx := HL.out.txt t2 hmem
            have hkr := HL.out.kids t2 hmem
            have hks : t2.kids.length ≤ 2513169434916 := by cases hkr with | mk _ _ _ _ _ sh _ _ => exact sh
            have tx0 : (0 : Int) ≤ (t2.text.size : Int) := by omega
            have FW0 : Fr [] w wr := HF.out.tr0 hus.2.2.2
            by_cases hov : 1048576 < N2 + t2.text.size / 64 + k + t2.kids.length
            · have HFx := mkHid FW0
              have e5 : (1048576 : Int) < (N2 : Int) + (t2.text.size : Int) / 64 + (k : Int) + (t2.kids.length : Int) := by omega
              clear hst hus hce ht2 hmem hkr y3' hov FW0
              generalize t2.kids.length = tn at *
              generalize t2.text = tt at *
              go_wp2_with fail
              go_ret
              exact ⟨_, rfl, HFx.out⟩
            · obtain ⟨p3, c3, w3, r3, o3, f3⟩ := push_lits hus.2.1 hus.1 hkr FW0 (by omega) hus.2.2.2.size
              have HR := mkHid r3
              have HNx : Hid (∃ us, Nxt w wo w3 (k + t2.kids.length) p3 c3 us) := by
                refine ⟨us ++ t2.kids, by simp [hus.1], o3, fun u hu => ?_, hus.2.2.2.trans f3 (fun g hg => .inr (own_lt hus.2.1 g ((blk_own _ _ _ _).2 hg)).1)⟩
                rcases List.mem_append.1 hu with hu | hu
                · exact hus.2.2.1 u hu
                · cases hkr with
                  | mk _ _ _ _ _ _ tx kk => exact ⟨tx u hu, kk u hu⟩
              have e5 : ¬ (1048576 : Int) < (N2 : Int) + (t2.text.size : Int) / 64 + (k : Int) + (t2.kids.length : Int) := by omega
              have e6 : decide ((1048576 : Int) < (N2 : Int) + (t2.text.size : Int) / 64 + (k : Int) + (t2.kids.length : Int)) = false := decide_eq_false e5
              have b1 : N2 + t2.text.size / 64 ≤ 1048576 := by omega
              have b2 : k + t2.kids.length ≤ 1048576 := by omega
              have ec : (N2 : Int) + (t2.text.size : Int) / 64 = ((N2 + t2.text.size / 64 : Nat) : Int) := by omega
              have HEc := mkHid ec
              clear hst hus hce ht2 hmem hkr y3' hov FW0 r3 o3 f3 ec
              generalize t2.kids.length = tn at *
              generalize t2.text = tt at *
              generalize t2.p = tp at *
              generalize t2.c = tc at *
              go_wp2_with (at_builtin; refine Lib.wpList_append_run _ rfl (.tmp 49) (.tmp 54) 22 22 rfl _ _ rfl rfl _ _ HR.out ?_)
              go_roundw
              case rel => exact ⟨_, _, _, _, ⟨i + 1, by omega, by go_num, N2 + tt.size / 64, by rw [HEc.out], b1, k + tn, p3, c3, rfl, b2, HNx.out⟩, rfl, rfl, rfl, rfl⟩
              case measure => simp [intOf]; omega
          · have i1 : ¬ (i : Int) < (ts.length : Int) := by omega
            have d9 : decide ((i : Int) < (ts.length : Int)) = false := decide_eq_false i1
            have HU := mkHid hus
            have hul := hus.1
            have HLv := mkHid (hus.lvr (by omega))
            have HFr := mkHid (HF.out.tr0 hus.2.2.2)
            clear hst hus
            go_wp2_with fail
            go_roundw
            case rel => exact ⟨p2, c2, us, N2, D + 1, by rw [hul], rfl, by go_num, hN2, by omega, by omega, HLv.out, HFr.out⟩
            case measure => simp [intOf]; omega
end Go.Proofs.YtdflpoldlokijaaDoor
namespace Go.Proofs.YtdflpoldlokijaaDoor
open Go.RowKit
set_option linter.unusedVariables false
set_option linter.unusedSimpArgs false
theorem inCells_len (l : List In) : (inCells l).length = l.length * 3 := by
  induction l with
  | nil => rfl
  | cons q l ih => rw [show inCells (q :: l) = inc q ++ inCells l by simp [inCells], List.length_append, ih]; simp [inc]; omega
theorem in_one (l : List In) : ∀ x ∈ inCells l, x.oneCell' = true := fun x hx => by
  obtain ⟨t, _, ht⟩ := List.mem_flatMap.1 hx
  simp only [inc, List.mem_cons, List.not_mem_nil, or_false] at ht
  rcases ht with rfl | rfl | rfl <;> rfl
theorem inCells_at (l : List In) : ∀ (i : Nat) (u : In) (j : Nat), l[i]? = some u → j < 3 → (inCells l)[i * 3 + j]? = (inc u)[j]? := by
  induction l with
  | nil => intro i u j h; simp at h
  | cons q l ih =>
    intro i u j h hj
    rw [show inCells (q :: l) = inc q ++ inCells l by simp [inCells]]
    cases i with
    | zero =>
      simp at h
      subst h
      rw [Nat.zero_mul, Nat.zero_add, List.getElem?_append_left (by simp [inc]; omega)]
    | succ i =>
      rw [List.getElem?_append_right (by simp [inc]; omega), show (i + 1) * 3 + j - (inc q).length = i * 3 + j by simp [inc]; omega]
      exact ih i u j (by simpa using h) hj
/-- all of a list of bodies behind an own row -/
theorem push_ins {w : World} {B B2 : Nat} {p : Option Addr} {n c : Nat} {us : List In} (h : w.ownsRow B 37 3 (.slice p n c) n (inCells us)) (hl : us.length = n) {q : Option Addr} {d : Nat} {ks : List In} (hk : w.ownsRow B2 37 3 (.slice q ks.length d) ks.length (inCells ks)) (hn : n + ks.length ≤ 2000000) (hB : B ≤ w.heap.size) :
    ∃ p' c' w', (Builtin.append_ #[38, 38] 38 #[.slice p n c, .slice q ks.length d]).run Tryd.prog w = .ok (.slice p' (n + ks.length) c') w' ∧ w'.ownsRow B 37 3 (.slice p' (n + ks.length) c') (n + ks.length) (inCells (us ++ ks)) ∧ Fr (blk p) w w' := by
  obtain ⟨i37, ii, iz, is, ib⟩ := info_parts info37
  have e : inCells (us ++ ks) = inCells us ++ inCells ks := by simp [inCells]
  rcases hk.2 with ⟨e1, e2⟩ | ⟨g, cap, cur, e1, q1, q2, q3, q4⟩
  · injection e1 with e1 _ e3
    have hs : ks = [] := List.length_eq_zero_iff.1 e2
    subst hs e1 e3
    exact ⟨p, c, w, run_append_owned_none (P := Tryd.prog) (w := w) B 38 38 37 i37 3 Tryd.underlying38 ii _ _ _ h, by rw [List.append_nil]; exact h, Fr.refl _ _⟩
  · injection e1 with e1 _ e3
    subst e1 e3
    have hnews : ∀ j x, (inCells ks)[j]? = some x → w.cell? ((⟨g, 0, none⟩ : Addr).add j) = some x := hk.cells (g := g) rfl
    obtain ⟨v', w', hr, h2, h3, _⟩ := run_append_own_wide (P := Tryd.prog) w B 38 38 37 i37 _ 3 40 Tryd.underlying38 ii iz is ib rfl (by decide) _ _ _ h ⟨g, 0, none⟩ ks.length d (inCells ks) (by rw [inCells_len]) hnews (in_one ks) (by unfold maxLen; omega) (by omega) hB
    obtain ⟨p', c', rfl⟩ : ∃ p' c', v' = .slice p' (n + ks.length) c' := by
      rcases h2.2 with ⟨rfl, e0⟩ | ⟨g', cap, cur, rfl, _⟩
      · exact ⟨none, 0, by rw [e0]⟩
      · exact ⟨_, _, rfl⟩
    exact ⟨p', c', w', hr, by rw [e]; exact h2, Fr.grown h3 (fun k hk => (blk_own p n c k).1 hk)⟩
/-- the law's list of bodies, in memory; its argument beside it -/
structure SL (w wr : World) (C : Cx) (h : Hd) (lp : Option Addr) (lc : Nat) (pw : Option Addr) (cw : Nat) (pls : List Pl) (inf : List Inf) (dep : List Int) (us : List In) (pl : Option Addr) (cl : Nat) : Prop where
  fr : Fr [] w wr
  cc : wr.heap[w.heap.size]? = some (.cells (cdv h lp C.lits lc pw C.ws.length cw) 25 (0, 0))
  cb : wr.heap[w.heap.size + 1]? = some (.cells (bnv C.b) 27 (0, 0))
  row : wr.ownsRow w.heap.size 37 3 (.slice pl us.length cl) us.length (inCells us)
  sc : ∀ u ∈ us, wr.ownsRow w.heap.size 3 1 (.slice u.p u.sc.length u.c) u.sc.length (u.sc.map I)
  bd : ∀ u ∈ us, BodyOk pls inf dep u.b u.e u.sc
section
variable {w wr : World} {C : Cx} {h : Hd} {lp : Option Addr} {lc : Nat} {pw : Option Addr} {cw : Nat} {pls : List Pl} {inf : List Inf} {dep : List Int} {us : List In} {pl : Option Addr} {cl : Nat}
theorem SL.idle {w' : World} (H : SL w wr C h lp lc pw cw pls inf dep us pl cl) (hf : Fr [] wr w') : SL w w' C h lp lc pw cw pls inf dep us pl cl :=
  ⟨H.fr.tr0 hf, hf.hb H.cc, hf.hb H.cb, own_congr H.row fun g hg => hf.block g (own_lt H.row g hg).2 (by simp), fun u hu => own_congr (H.sc u hu) fun g hg => hf.block g (own_lt (H.sc u hu) g hg).2 (by simp), H.bd⟩
theorem SL.more {B : Nat} (H : SL w wr C h lp lc pw cw pls inf dep us pl cl) {q : Option Addr} {d : Nat} {ks : List In} (hk : wr.ownsRow B 37 3 (.slice q ks.length d) ks.length (inCells ks)) (hs : ∀ u ∈ ks, wr.ownsRow B 3 1 (.slice u.p u.sc.length u.c) u.sc.length (u.sc.map I)) (hB : w.heap.size ≤ B) (hb : ∀ u ∈ ks, BodyOk pls inf dep u.b u.e u.sc) (hn : us.length + ks.length ≤ 2000000) :
    ∃ p' c' w', (Builtin.append_ #[38, 38] 38 #[.slice pl us.length cl, .slice q ks.length d]).run Tryd.prog wr = .ok (.slice p' (us.length + ks.length) c') w' ∧ SL w w' C h lp lc pw cw pls inf dep (us ++ ks) p' c' := by
  obtain ⟨p', c', w', hr, ho, hf⟩ := push_ins H.row rfl hk hn H.fr.size
  have hlo : ∀ g ∈ blk pl, w.heap.size ≤ g := fun g hg => (own_lt H.row g ((blk_own _ _ _ _).2 hg)).1
  have hne : ∀ {g : Nat} {cs : Array Value} {t : TypeId}, wr.heap[g]? = some (.cells cs t (0, 0)) → t ≠ 37 → g ∉ blk pl := fun {g cs t} hg ht hm => by
    obtain ⟨c2, h2⟩ := row_block H.row ((blk_own pl us.length cl g).2 hm)
    exact ty_ne hg h2 ht rfl
  have keep3 : ∀ {u : In} {B : Nat}, wr.ownsRow B 3 1 (.slice u.p u.sc.length u.c) u.sc.length (u.sc.map I) → w'.ownsRow B 3 1 (.slice u.p u.sc.length u.c) u.sc.length (u.sc.map I) := fun {u B} hu => own_congr hu fun g hg => hf.block g (own_lt hu g hg).2 (by
    obtain ⟨c1, h1⟩ := row_block hu hg
    exact hne h1 (by decide))
  refine ⟨p', c', w', hr, ⟨H.fr.trans hf (fun g hg => .inr (hlo g hg)), (hf.block _ (lt_of_heap H.cc) (hne H.cc (by decide))).trans H.cc, (hf.block _ (lt_of_heap H.cb) (hne H.cb (by decide))).trans H.cb, by rw [List.length_append]; exact ho, fun u hu => ?_, fun u hu => ?_⟩⟩
  · rcases List.mem_append.1 hu with hu | hu
    · exact keep3 (H.sc u hu)
    · have := keep3 (hs u hu)
      exact ⟨this.1, this.2.imp id (fun ⟨g, cap, cur, e1, q1, q2⟩ => ⟨g, cap, cur, e1, Nat.le_trans hB q1, q2⟩)⟩
  · rcases List.mem_append.1 hu with hu | hu
    · exact H.bd u hu
    · exact hb u hu
/-- a walker at the beginning of a body -/
theorem SL.walker {t : Nat} {V : World} (H : SL w wr C h lp lc pw cw pls inf dep us pl cl) (S : Safe C t h.stack pls inf dep) (hw : Rd w (.slice pw C.ws.length cw) C.ws) (n4 : C.ws.length ≤ 4096) (hst : 0 ≤ h.stack ∧ h.stack ≤ 256) (u : In) (hu : u ∈ us) (n : Nat) (sd : Int) (hsd : 0 ≤ sd ∧ sd < 2147483648) (hf : Fr [] wr V) :
    ∃ k, inf[k - 1]? = some (u.sc, u.b, u.e) ∧ WK (V.alloc (.cells (wcs ⟨C, h, lp, lc, pw, cw, u.b, u.e, u.p, u.c, u.sc, n⟩ ⟨u.b, 0, sd, false, false, 0⟩ none 0 0) 41)) V.heap.size V.heap.size ⟨C, h, lp, lc, pw, cw, u.b, u.e, u.p, u.c, u.sc, n⟩ ⟨u.b, 0, sd, false, false, 0⟩ none 0 [] ∧
      Iv pls dep ⟨C, h, lp, lc, pw, cw, u.b, u.e, u.p, u.c, u.sc, n⟩ k ⟨u.b, 0, sd, false, false, 0⟩ := by
  have hb := H.bd u hu
  obtain ⟨k, k1, k2, k3⟩ := hb.k
  obtain ⟨y1, y2, y3, y4, y5⟩ := there S k2 u.b (by rw [hb.zero]; decide) k3
  have hH := H.idle (hf.al (.cells (wcs ⟨C, h, lp, lc, pw, cw, u.b, u.e, u.p, u.c, u.sc, n⟩ ⟨u.b, 0, sd, false, false, 0⟩ none 0 0) 41))
  have en := y5.en
  have hsz : w.heap.size ≤ V.heap.size := Nat.le_trans H.fr.size hf.size
  have hsc := hH.sc u hu
  have hrd : Rd (V.alloc (.cells (wcs ⟨C, h, lp, lc, pw, cw, u.b, u.e, u.p, u.c, u.sc, n⟩ ⟨u.b, 0, sd, false, false, 0⟩ none 0 0) 41)) (.slice u.p u.sc.length u.c) (zN u.sc) := by
    have h25 := hb.s25
    have e1 := zN_len u.sc
    have e2 := zN_map u.sc
    have := hsc
    rw [← e2, ← e1] at this
    rw [← e1]
    exact own_rd this (by omega)
  refine ⟨k, k2, ⟨heap_alloc_new V _, Nat.le_refl _, hw.idle hH.fr, fun hp g hg => ?_, hrd, fun hp g hg => ?_, ⟨rfl, .inl ⟨rfl, rfl⟩⟩, fun u hu => by simp at hu, n4, en, hb.s1, hb.s25, hb.s32, by show u.b ≤ 4096; omega, by show 0 ≤ 5000; omega, by simp, by show (0 : Int) ≤ 0 ∧ (0 : Int) ≤ 300; omega, hst⟩, ⟨rfl, fun _ => ⟨hb.zero, k3⟩, Nat.zero_le _, by show u.b ≤ u.e; omega, hsd⟩⟩
  · exact Nat.lt_of_lt_of_le (hw.lt hp g hg) hsz
  · have h0 := H.sc u hu
    exact Nat.lt_of_lt_of_le (own_lt h0 g hg).2 hf.size
end
end Go.Proofs.YtdflpoldlokijaaDoor
