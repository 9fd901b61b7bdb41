import Derived.Test.YtdflpoldlokijaaDoorCRfB
import Derived.Test.YtdflpoldlokijaaDoorG39CRfF
import Derived.Test.YtdflpoldlokijaaDoorG41CRf2
import Derived.Test.YtdflpoldlokijaaDoorCRf3
import Derived.Test.YtdflpoldlokijaaDoorCRf4
namespace Go.Proofs.YtdflpoldlokijaaDoor
open Go.RowKit
set_option linter.unusedVariables false
set_option linter.unusedSimpArgs false
attribute [local go_sem ↓] Go.wp_at_zero Go.wp_at_succ
section
variable {w : World} {B x : Nat} {F : WFx} {bs : List Bd} {pb : Option Addr} {cb : Nat} {rs : List Ri} {pr : Option Addr} {cr : Nat} {el : Nat} {er : Int}
set_option maxHeartbeats 2000000 in
theorem rlits_no (h : WR w B x F bs pb cb rs pr cr el er) (hn : er ≠ 0) (p : Option Addr) (n c : Nat) (hn2 : n ≤ 2513169434916) : Calls Tryd.prog 36 #[.pointer (some ⟨x, 0, none⟩), .slice p n c, .bool true] w fun e w' => e = .returned (.tuple #[]) ∧ w' = w := by
  have c12 : w.cell? ⟨x, 12, none⟩ = some (.int .i64 er) := h.cell 12
  have q : (er == 0) = false := beq_eq_false_iff_ne.2 hn
  clear h
  go_enter Tryd.func36, Tryd.ntmps36
  go_wp2_with fail
  go_loopw [6] (fun q wr => wr = w ∧ q = .int .i64 0) (fun _ _ => 0)
  case atStart => exact ⟨rfl, rfl⟩
  case round =>
    obtain ⟨rfl, rfl⟩ := hrel
    by_cases hl : (0 : Int) < (n : Int)
    · go_wp2_with fail
      go_end0
      exact ⟨rfl, rfl⟩
    · have d : decide ((0 : Int) < (n : Int)) = false := decide_eq_false hl
      go_wp2_with fail
      go_end0
      exact ⟨rfl, rfl⟩
end
/-- the document's list and depths, against the program's depths -/
structure LsD (rs : List Ri) (ds dep : List Int) (n : Nat) : Prop where
  len : rs.length = ds.length
  short : rs.length ≤ n
  dl : dep.length = n
  at_ : ∀ (i : Nat) (r : Ri), rs[i]? = some r → r.at_ < n ∧ ds[i]? = some (depD dep r.at_)
  all : ∀ y, y < n → depD dep y ≠ -1 → ∃ (i : Nat) (r : Ri), rs[i]? = some r ∧ r.at_ = y
theorem lsd {l : List Pl} {rs : List Ri} (hj : RJ l rs) (hl : PlOk l) (hb : (plD l 0).body ≠ 0) (stack : Int) (h : (followP l stack).1 = 0) : LsD rs (dsOf l (followP l stack).2) (followP l stack).2 l.length := by
  have f := follow_sound hl hb stack h
  refine ⟨by rw [dsOf_len, hj.len], by rw [hj.len]; exact stK_len_le _ _, f.len, fun i r hr => ?_, fun y hy hd => ?_⟩
  · obtain ⟨h1, -⟩ := hj.rl.mem i r hr
    obtain ⟨h2, h3, h4⟩ := stK_inv _ _ _ _ h1
    exact ⟨h3, by rw [h2]; exact dsOf_get l _ _ h3 h4⟩
  · obtain ⟨y1, y2, -⟩ := f.bound y hd
    obtain ⟨r, h1, h2, -⟩ := hj.at_ _ y (stK_at l _ y y1 y2)
    exact ⟨_, r, h1, h2⟩
def LkP (w : World) (C : Cx) (h : Hd) (lp : Option Addr) (lc : Nat) (pw : Option Addr) (cw : Nat) (D : Int × List Int) (e : Ending) (w' : World) : Prop :=
  ∃ x v, e = .returned (.tuple #[.pointer (some ⟨x, 0, none⟩), .pointer (some ⟨v, 0, none⟩)]) ∧ Fr [] w w' ∧ ∃ bs pb cb rs pr cr el ds pd cd m c, WR w' w.heap.size x ⟨C, h, lp, lc, pw, cw⟩ bs pb cb rs pr cr el D.1 ∧ VW w' w.heap.size v ds pd cd m c ∧ (D.1 = 0 → LsD rs ds D.2 C.ws.length)
set_option maxRecDepth 100000 in
set_option maxHeartbeats 16000000 in
theorem look_ok2 (C : Cx) (h : Hd) (ts : List LitT) (lp : Option Addr) (lc : Nat) (pw : Option Addr) (cw : Nat) (w : World) (hc : CodeR w C ts lp lc pw cw) :
    Calls Tryd.prog 20 #[.agg (cdv h lp C.lits lc pw C.ws.length cw), .agg (bnv C.b)] w fun e w' => LkP w C h lp lc pw cw (depthsP C h (lookL C.b.symbols ts 0).1) e w' := by
  have hsh := hc.words.short
  have hls : C.lits ≤ 2513169434916 := by
    rw [← hc.ln]
    cases hc.lits with
    | mk _ _ _ nil at_ short txt kids => exact short
  unfold cdv bnv
  obtain ⟨D, hD⟩ : ∃ D, depthsP C h (lookL C.b.symbols ts 0).1 = D := ⟨_, rfl⟩
  rw [hD]
  -- the new work
  obtain ⟨W1, hW1⟩ : ∃ U, ((w.alloc (.cells #[.int .i64 h.args, .int .i64 h.temps, .int .i64 h.stack, .slice lp C.lits lc, .slice pw C.ws.length cw] 25)).alloc (.cells #[.int .i64 C.b.fields, .int .i64 C.b.classes, .int .i64 C.b.globals, .int .i64 C.b.symbols] 27)).alloc (.cells #[.int .i64 h.args, .int .i64 h.temps, .int .i64 h.stack, .slice lp C.lits lc, .slice pw C.ws.length cw, .int .i64 C.b.fields, .int .i64 C.b.classes, .int .i64 C.b.globals, .int .i64 C.b.symbols, .slice none 0 0, .slice none 0 0, .int .i64 0, .int .i64 0] 62) = U := ⟨_, rfl⟩
  have F1 : Fr [] w W1 := by rw [← hW1]; exact (((Fr.refl [] w).al _).al _).al _
  have G1 : W1.heap[w.heap.size + 2]? = some (.cells (wrc ⟨C, h, lp, lc, pw, cw⟩ none 0 0 none 0 0 0 0) 62 (0, 0)) := by
    rw [← hW1]
    have := heap_alloc_new ((w.alloc (.cells #[.int .i64 h.args, .int .i64 h.temps, .int .i64 h.stack, .slice lp C.lits lc, .slice pw C.ws.length cw] 25)).alloc (.cells #[.int .i64 C.b.fields, .int .i64 C.b.classes, .int .i64 C.b.globals, .int .i64 C.b.symbols] 27)) (.cells #[.int .i64 h.args, .int .i64 h.temps, .int .i64 h.stack, .slice lp C.lits lc, .slice pw C.ws.length cw, .int .i64 C.b.fields, .int .i64 C.b.classes, .int .i64 C.b.globals, .int .i64 C.b.symbols, .slice none 0 0, .slice none 0 0, .int .i64 0, .int .i64 0] 62)
    have e : ((w.alloc (.cells #[.int .i64 h.args, .int .i64 h.temps, .int .i64 h.stack, .slice lp C.lits lc, .slice pw C.ws.length cw] 25)).alloc (.cells #[.int .i64 C.b.fields, .int .i64 C.b.classes, .int .i64 C.b.globals, .int .i64 C.b.symbols] 27)).heap.size = w.heap.size + 2 := by simp
    rw [e] at this
    exact this
  have GC : W1.heap[w.heap.size]? = some (.cells #[.int .i64 h.args, .int .i64 h.temps, .int .i64 h.stack, .slice lp C.lits lc, .slice pw C.ws.length cw] 25 (0, 0)) := by
    rw [← hW1]
    exact al_old (al_old (heap_alloc_new w _) _) _
  have hw0 : WR W1 w.heap.size (w.heap.size + 2) ⟨C, h, lp, lc, pw, cw⟩ [] none 0 [] none 0 0 0 := ⟨G1, by omega, hc.words.idle F1, fun hp g hg => hc.words.lt hp g hg, World.ownsRow_nil _ _ _ _, World.ownsRow_nil _ _ _ _⟩
  obtain ⟨x, hx⟩ : ∃ x, w.heap.size + 2 = x := ⟨_, rfl⟩
  rw [hx] at hw0 G1
  have hxB : w.heap.size ≤ x := by omega
  have hxc : x ≠ w.heap.size := by omega
  have HKC : Hid (∀ U, Fr [x] W1 U → U.heap[w.heap.size]? = some (.cells #[.int .i64 h.args, .int .i64 h.temps, .int .i64 h.stack, .slice lp C.lits lc, .slice pw C.ws.length cw] 25 (0, 0)) ∧ Fr [] w U) := fun U hU => ⟨(hU.block _ (lt_of_heap GC) (by simp; omega)).trans GC, F1.trans hU (fun b hb => .inr (by simp at hb; omega))⟩
  have HHe := mkHid (heads_ok hw0 (by show C.ws.length ≤ _; omega) hls)
  have HXB := mkHid hxB
  by_cases h1 : headR C h = 0
  · have n4 : C.ws.length ≤ 4096 ∧ C.lits ≤ 64 := by
      unfold headR at h1
      split at h1
      · cases h1
      · omega
    have hsb : ¬(scopeB h.args h.temps = false ∨ inR h.stack 0 256 = false) := by
      unfold headR at h1
      split at h1
      · cases h1
      · split at h1
        · cases h1
        · assumption
    have hD2 : D = if (lookL C.b.symbols ts 0).1 ≠ 0 then ((lookL C.b.symbols ts 0).1, []) else wordsP C h := by
      rw [← hD]; unfold depthsP; rw [if_neg (by omega), if_neg hsb]
    have htp : 0 ≤ h.temps := by
      have : scopeB h.args h.temps = true := by simpa using (fun hh => hsb (.inl hh))
      unfold scopeB inR at this
      simp at this
      omega
    have HLt : Hid (∀ U, Fr [x] W1 U → WR U w.heap.size x ⟨C, h, lp, lc, pw, cw⟩ [] none 0 [] none 0 0 0 → Calls Tryd.prog 36 #[.pointer (some ⟨x, 0, none⟩), .slice lp C.lits lc, .bool true] U fun e w' => e = .returned (.tuple #[]) ∧ Fr [x] U w' ∧ WR w' w.heap.size x ⟨C, h, lp, lc, pw, cw⟩ [] none 0 [] none 0 (lookL C.b.symbols ts 0).2 (lookL C.b.symbols ts 0).1) := fun U hU hk => by
      have := rlits_ok (B := w.heap.size) (x := x) (F := ⟨C, h, lp, lc, pw, cw⟩) w lp lc ts hc.lits hxB true U 0 (HKC.out U hU).2 hk (by omega)
      rw [hc.ln] at this
      exact this.mono (fun e w' ⟨a, b, c, d⟩ => ⟨a, b, c⟩)
    rw [show headR (WFx.C ⟨C, h, lp, lc, pw, cw⟩) (WFx.h ⟨C, h, lp, lc, pw, cw⟩) = 0 from h1] at HHe
    by_cases h2 : (lookL C.b.symbols ts 0).1 = 0
    · rw [h2] at HLt
      rw [if_neg (by simpa using h2)] at hD2
      have HD2 := mkHid hD2
      have HRg := mkHid hc.rng
      -- the first body
      have HBd : Hid (∀ U, Fr [] w U → WR U w.heap.size x ⟨C, h, lp, lc, pw, cw⟩ [] none 0 [] none 0 (lookL C.b.symbols ts 0).2 0 → U.heap[w.heap.size]? = some (.cells #[.int .i64 h.args, .int .i64 h.temps, .int .i64 h.stack, .slice lp C.lits lc, .slice pw C.ws.length cw] 25 (0, 0)) → ∃ p' c' w4, (Builtin.append_ #[59, 59] 59 #[.slice none 0 0, .slice (some ⟨U.heap.size, 0, none⟩) 1 1]).run Tryd.prog ((U.drew).alloc (.cells #[.int .i64 0, .int .i64 (C.ws.length : Int), .int .i64 (-1), .int .i64 0, .int .i64 h.temps] 85)) = .ok (.slice p' 1 c') w4 ∧
          Hid (WR (w4.setCell ⟨x, 9, none⟩ (.slice p' 1 c')) w.heap.size x ⟨C, h, lp, lc, pw, cw⟩ [⟨0, C.ws.length, -1, 0, h.temps.toNat⟩] p' c' [] none 0 (lookL C.b.symbols ts 0).2 0 ∧ Fr [] w (w4.setCell ⟨x, 9, none⟩ (.slice p' 1 c'))) ∧ w4.cell? ⟨x, 9, none⟩ = some (.slice none 0 0) ∧ w4.frozen? ⟨x, 9, none⟩ = false ∧
          Hid (U.drew.cell? ⟨x, 9, none⟩ = some (.slice none 0 0) ∧ U.drew.cell? ⟨w.heap.size, 4, none⟩ = some (.slice pw C.ws.length cw) ∧ U.drew.cell? ⟨w.heap.size, 1, none⟩ = some (.int .i64 h.temps)) ∧ Hid ((U.drew.alloc (.cells #[.int .i64 0, .int .i64 (C.ws.length : Int), .int .i64 (-1), .int .i64 0, .int .i64 h.temps] 85)).cell? ⟨x, 9, none⟩ = some (.slice none 0 0) ∧ (U.drew.alloc (.cells #[.int .i64 0, .int .i64 (C.ws.length : Int), .int .i64 (-1), .int .i64 0, .int .i64 h.temps] 85)).cell? ⟨w.heap.size, 4, none⟩ = some (.slice pw C.ws.length cw) ∧ (U.drew.alloc (.cells #[.int .i64 0, .int .i64 (C.ws.length : Int), .int .i64 (-1), .int .i64 0, .int .i64 h.temps] 85)).cell? ⟨w.heap.size, 1, none⟩ = some (.int .i64 h.temps)) ∧ Hid (w4.cell? ⟨x, 9, none⟩ = some (.slice none 0 0) ∧ w4.cell? ⟨w.heap.size, 4, none⟩ = some (.slice pw C.ws.length cw) ∧ w4.cell? ⟨w.heap.size, 1, none⟩ = some (.int .i64 h.temps))) := fun U fU kU gU => by
        obtain ⟨p', c', w4, hr, hk, hf, t9, z9, hnw⟩ := (kU.dr 1).moreBd (Nat.le_trans (Nat.le_refl _) fU.size) ⟨0, C.ws.length, -1, 0, h.temps.toNat⟩ (by simp)
        have eb : (bdc ⟨0, C.ws.length, -1, 0, h.temps.toNat⟩).toArray = #[.int .i64 0, .int .i64 (C.ws.length : Int), .int .i64 (-1), .int .i64 0, .int .i64 h.temps] := by
          simp only [bdc, I]
          rw [Int.toNat_of_nonneg htp]
          rfl
        rw [eb] at hr
        simp only [List.length_nil, Nat.zero_add, List.nil_append] at hr hk hf t9
        have hwx : w.heap.size ≠ x := by omega
        have gE := (hf.block _ (lt_of_heap (w := U) gU) (by simp [blk]; omega)).trans gU
        have gF := (Below.heap_setCell w4 ⟨x, 9, none⟩ (.slice p' 1 c') _ hwx).symm.trans gE
        refine ⟨p', c', w4, hr, ⟨hk, fU.trans ((Fr.drewN _ U 1).trans hf (fun b hb => .inl hb)) (fun b hb => .inr (by simp [blk] at hb; omega))⟩, t9, z9, ⟨kU.cell 9, cell_in (w := U.drew) gU 4, cell_in (w := U.drew) gU 1⟩, ⟨cell_in (al_old (w := U.drew) kU.top _) 9, cell_in (al_old (w := U.drew) gU _) 4, cell_in (al_old (w := U.drew) gU _) 1⟩, ⟨t9, cell_in gF 4, cell_in gF 1⟩⟩
      have htn : ((h.temps.toNat : Nat) : Int) = h.temps := Int.toNat_of_nonneg htp
      -- the reading
      obtain ⟨⟨ZE, ZR⟩, hZ⟩ : ∃ Z, readP C (C.ws.length + 1) [h.temps.toNat] 0 C.ws.length 1 (startR C h.temps.toNat) = Z := ⟨_, rfl⟩
      have HRd : Hid (∀ U p' c', WR U w.heap.size x ⟨C, h, lp, lc, pw, cw⟩ [⟨0, C.ws.length, -1, 0, h.temps.toNat⟩] p' c' [] none 0 (lookL C.b.symbols ts 0).2 0 → Fr [] w U → Calls Tryd.prog 37 #[.pointer (some ⟨x, 0, none⟩), .int .i64 0] U fun e w' => e = .returned (.tuple #[]) ∧ Fr [] w w' ∧ ∃ bs' pb' cb' rs' pr' cr', WR w' w.heap.size x ⟨C, h, lp, lc, pw, cw⟩ bs' pb' cb' rs' pr' cr' (lookL C.b.symbols ts 0).2 ZE ∧ (ZE = 0 → BOk bs' ZR.inf ∧ rs' = lsR C ZR.pls C.ws.length ∧ BQ bs' ZR.pls 0 C.ws.length)) := fun U p' c' kU fU => by
        have hz0 : ∀ i, (plD (startR C h.temps.toNat).pls i).body = 0 := fun i => by show (plD (List.replicate C.ws.length noPl) i).body = 0; rw [plD_rep]; rfl
        have := rd_all (C.ws.length + 1) U w.heap.size x ⟨C, h, lp, lc, pw, cw⟩ [⟨0, C.ws.length, -1, 0, h.temps.toNat⟩] p' c' none 0 (lookL C.b.symbols ts 0).2 (startR C h.temps.toNat) 0 [h.temps.toNat] 0 C.ws.length kU fU.size n4.1 HRg.out
          ⟨rfl, fun k sc b e hk => by
            cases k with
            | zero =>
              simp [startR] at hk
              obtain ⟨rfl, rfl, rfl⟩ := hk
              exact ⟨_, rfl, rfl, rfl, rfl, rfl, fun _ => rfl, fun hh => by simp at hh⟩
            | succ k => simp [startR] at hk⟩
          ⟨fun y hy => by omega, fun b u hu => by
            cases b with
            | zero => simp at hu; subst hu; exact .inr ⟨rfl, rfl⟩
            | succ b => simp at hu⟩
          rfl (by simp) (by simp) (fun i _ => hz0 i) (by simp [startR]) (by omega) (by omega) (Nat.le_refl _) (by simp [startR]; omega)
        refine this.mono ?_
        rintro e w' ⟨rfl, f', bs', pb', cb', rs', pr', cr', k', -, -, h'⟩
        simp only [Nat.zero_add] at k' h'
        rw [hZ] at k' h'
        refine ⟨rfl, fU.trans f' (fun b hb => .inr ?_), bs', pb', cb', rs', pr', cr', k', fun hh => ?_⟩
        · have := (kU.footL b hb).1; exact this
        · obtain ⟨a1, a2, a3, a4⟩ := h' hh
          exact ⟨a1, a2, a4⟩
      have hDw : D = if ZE ≠ 0 then (ZE, []) else if (List.range C.ws.length).all (landP C ZR.pls) = false then (112, []) else followP (jumpN C ZR.pls C.ws.length) h.stack := by
        rw [HD2.out]
        unfold wordsP
        rw [hZ]
      have HDw := mkHid hDw
      have HZ := mkHid hZ
      have hinf := readP_inf C (C.ws.length + 1) [h.temps.toNat] 0 C.ws.length 1 (startR C h.temps.toNat)
      rw [hZ] at hinf
      simp [startR] at hinf
      have HIf := mkHid hinf
      have hpre := readP_pre C (C.ws.length + 1) [h.temps.toNat] 0 C.ws.length 1 (startR C h.temps.toNat)
      rw [hZ] at hpre
      have HPr := mkHid hpre
      clear hD hD2 hDw hZ hinf hpre hw0 hc G1 HD2 hsb h2 F1 GC
      generalize hel : (lookL C.b.symbols ts 0).2 = el0 at *
      have HC3 : Hid (∀ U, Fr [x] W1 U → U.cell? ⟨w.heap.size, 3, none⟩ = some (.slice lp C.lits lc)) := fun U hU => cell_in (HKC.out U hU).1 3
      have HK12 : Hid (∀ U, WR U w.heap.size x ⟨C, h, lp, lc, pw, cw⟩ [] none 0 [] none 0 el0 0 → U.cell? ⟨x, 12, none⟩ = some (.int .i64 0) ∧ x < U.heap.size) := fun U hU => ⟨hU.cell 12, lt_of_heap hU.top⟩
      go_enter Tryd.func20, Tryd.ntmps20
      go_upto_region 5 with (first
        | (go_at_call 35; refine HHe.out.mono ?_; rintro e w5 ⟨rfl, f5, k5⟩; have c3 := HC3.out w5 f5; have K5 := mkHid k5; have F5 := mkHid f5; clear f5 k5)
        | (go_at_call 36; refine (HLt.out _ F5.out K5.out).mono ?_; rintro e w6 ⟨rfl, f6, k6⟩; obtain ⟨g6, fw6⟩ := HKC.out _ (F5.out.trans f6 (fun b hb => .inl hb)); obtain ⟨c12, hxl⟩ := HK12.out w6 k6; obtain ⟨p', c', w4, hr4, HE4, t9, z9, Kp1, Kp2, Kp3⟩ := HBd.out w6 fw6 k6 g6; have HR4 := mkHid hr4; clear f6 k6 g6 fw6 hr4))
      go_cut [] (fun W => Hid (∃ p' c', WR W w.heap.size x ⟨C, h, lp, lc, pw, cw⟩ [⟨0, C.ws.length, -1, 0, h.temps.toNat⟩] p' c' [] none 0 el0 0 ∧ Fr [] w W))
      case first =>
        refine wp_region_last (L := 15) (S := (fun U => U.cell? ⟨x, 9, none⟩ = some (.slice none 0 0) ∧ U.cell? ⟨w.heap.size, 4, none⟩ = some (.slice pw C.ws.length cw) ∧ U.cell? ⟨w.heap.size, 1, none⟩ = some (.int .i64 h.temps))) (by kernel_rfl) (Kp1.out) (fun hHeld => ?_)
        refine wpLast_take (i := 0) (v := ?_) rfl (by kernel_rfl) (by kernel_rfl) (by kernel_rfl) (by decide) (by kernel_rfl) (fun _ _ _ h => h) (Or.inl ⟨by rfl, ?_⟩) (by assumption) ?_
        rotate_left
        · (intro w hSw; (try dsimp only at hSw); first | (go_simp; done) | (go_simp; with_reducible rfl))
        try simp only [Act.put, List.getElem_toArray, List.getElem_cons_zero, List.getElem_cons_succ, List.setIfInBounds_toArray, List.set_cons_zero, List.set_cons_succ]
        refine wpLast_take (i := 1) (v := ?_) rfl (by kernel_rfl) (by kernel_rfl) (by kernel_rfl) (by decide) (by kernel_rfl) (fun _ _ _ h => h) (Or.inl ⟨by rfl, ?_⟩) (by assumption) ?_
        rotate_left
        · (intro w hSw; (try dsimp only at hSw); first | (go_simp; done) | (go_simp; with_reducible rfl))
        try simp only [Act.put, List.getElem_toArray, List.getElem_cons_zero, List.getElem_cons_succ, List.setIfInBounds_toArray, List.set_cons_zero, List.set_cons_succ]
        refine wpLast_take (i := 2) (v := ?_) rfl (by kernel_rfl) (by kernel_rfl) (by kernel_rfl) (by decide) (by kernel_rfl) (fun _ _ _ h => h) (Or.inl ⟨by rfl, ?_⟩) (by assumption) ?_
        rotate_left
        · (intro w hSw; (try dsimp only at hSw); first | (go_simp; done) | (go_simp; with_reducible rfl))
        try simp only [Act.put, List.getElem_toArray, List.getElem_cons_zero, List.getElem_cons_succ, List.setIfInBounds_toArray, List.set_cons_zero, List.set_cons_succ]
        refine wpLast_take (i := 3) (v := ?_) rfl (by kernel_rfl) (by kernel_rfl) (by kernel_rfl) (by decide) (by kernel_rfl) (fun _ _ _ h => h) (Or.inl ⟨by rfl, ?_⟩) (by assumption) ?_
        rotate_left
        · (intro w hSw; (try dsimp only at hSw); first | (go_simp; done) | (go_simp; with_reducible rfl))
        try simp only [Act.put, List.getElem_toArray, List.getElem_cons_zero, List.getElem_cons_succ, List.setIfInBounds_toArray, List.set_cons_zero, List.set_cons_succ]
        refine wpLast_take (i := 4) (v := ?_) rfl (by kernel_rfl) (by kernel_rfl) (by kernel_rfl) (by decide) (by kernel_rfl) (fun _ _ _ h => h) (Or.inl ⟨by rfl, ?_⟩) (by assumption) ?_
        rotate_left
        · (intro w hSw; (try dsimp only at hSw); first | (go_simp; done) | (go_simp; with_reducible rfl))
        try simp only [Act.put, List.getElem_toArray, List.getElem_cons_zero, List.getElem_cons_succ, List.setIfInBounds_toArray, List.set_cons_zero, List.set_cons_succ]
        refine wpLast_take (i := 5) (v := ?_) rfl (by kernel_rfl) (by kernel_rfl) (by kernel_rfl) (by decide) (by kernel_rfl) (fun _ _ _ h => h) (Or.inl ⟨by rfl, ?_⟩) (by assumption) ?_
        rotate_left
        · (intro w hSw; (try dsimp only at hSw); first | (go_simp; done) | (go_simp; with_reducible rfl))
        try simp only [Act.put, List.getElem_toArray, List.getElem_cons_zero, List.getElem_cons_succ, List.setIfInBounds_toArray, List.set_cons_zero, List.set_cons_succ]
        refine wpLast_take (i := 6) (v := ?_) rfl (by kernel_rfl) (by kernel_rfl) (by kernel_rfl) (by decide) (by kernel_rfl) (fun _ _ _ h => h) (Or.inl ⟨by rfl, ?_⟩) (by assumption) ?_
        rotate_left
        · (intro w hSw; (try dsimp only at hSw); first | (go_simp; done) | (go_simp; with_reducible rfl))
        try simp only [Act.put, List.getElem_toArray, List.getElem_cons_zero, List.getElem_cons_succ, List.setIfInBounds_toArray, List.set_cons_zero, List.set_cons_succ]
        refine wpLast_take (i := 7) (v := ?_) rfl (by kernel_rfl) (by kernel_rfl) (by kernel_rfl) (by decide) (by kernel_rfl) (fun _ _ _ h => h) (Or.inl ⟨by rfl, ?_⟩) (by assumption) ?_
        rotate_left
        · (intro w hSw; (try dsimp only at hSw); first | (go_simp; done) | (go_simp; with_reducible rfl))
        try simp only [Act.put, List.getElem_toArray, List.getElem_cons_zero, List.getElem_cons_succ, List.setIfInBounds_toArray, List.set_cons_zero, List.set_cons_succ]
        refine wpLast_take (i := 8) (v := ?_) rfl (by kernel_rfl) (by kernel_rfl) (by kernel_rfl) (by decide) (by kernel_rfl) (fun _ _ _ h => h) (Or.inl ⟨by rfl, ?_⟩) (by assumption) ?_
        rotate_left
        · (intro w hSw; (try dsimp only at hSw); first | (go_simp; done) | (go_simp; with_reducible rfl))
        try simp only [Act.put, List.getElem_toArray, List.getElem_cons_zero, List.getElem_cons_succ, List.setIfInBounds_toArray, List.set_cons_zero, List.set_cons_succ]
        refine wpLast_take (i := 9) (v := ?_) rfl (by kernel_rfl) (by kernel_rfl) (by kernel_rfl) (by decide) (by kernel_rfl) (fun _ _ _ h => h) (Or.inl ⟨by rfl, ?_⟩) (by assumption) ?_
        rotate_left
        · (intro w hSw; (try dsimp only at hSw); first | (go_simp; done) | (go_simp; with_reducible rfl))
        try simp only [Act.put, List.getElem_toArray, List.getElem_cons_zero, List.getElem_cons_succ, List.setIfInBounds_toArray, List.set_cons_zero, List.set_cons_succ]
        refine wpLast_take (i := 10) (v := ?_) rfl (by kernel_rfl) (by kernel_rfl) (by kernel_rfl) (by decide) (by kernel_rfl) (fun _ _ _ h => h) (Or.inl ⟨by rfl, ?_⟩) (by assumption) ?_
        rotate_left
        · (intro w hSw; (try dsimp only at hSw); first | (go_simp; done) | (go_simp; with_reducible rfl))
        try simp only [Act.put, List.getElem_toArray, List.getElem_cons_zero, List.getElem_cons_succ, List.setIfInBounds_toArray, List.set_cons_zero, List.set_cons_succ]
        refine wpLast_one (i := 11) (by kernel_rfl) rfl (by decide) (fun K hK => ?_)
        go_simp
        refine hK.out _ _ (Kp2.out) (fun hHeld => ?_)
        clear hK K
        try simp only [Act.put, List.getElem_toArray, List.getElem_cons_zero, List.getElem_cons_succ, List.setIfInBounds_toArray, List.set_cons_zero, List.set_cons_succ]
        refine wpLast_one (i := 12) (by kernel_rfl) rfl (by decide) (fun K hK => ?_)
        refine step_append_run rfl (.tmp 27) (.tmp 34) 59 59 rfl (.slice none 0 0) (.slice (some ⟨w6.heap.size, 0, none⟩) 1 1) (by simp [Act.eval]) (by simp [Act.eval]) _ _ HR4.out ?_
        refine hK.out _ _ (Kp3.out) (fun hHeld => ?_)
        clear hK K
        try simp only [Act.put, List.getElem_toArray, List.getElem_cons_zero, List.getElem_cons_succ, List.setIfInBounds_toArray, List.set_cons_zero, List.set_cons_succ]
        refine wpLast_one (i := 13) (by kernel_rfl) rfl (by decide) (fun K hK => ?_)
        go_simp
        refine hK.out _ _ (Kp3.out) (fun hHeld => ?_)
        clear hK K
        try simp only [Act.put, List.getElem_toArray, List.getElem_cons_zero, List.getElem_cons_succ, List.setIfInBounds_toArray, List.set_cons_zero, List.set_cons_succ]
        refine wpLast_one (i := 14) (by kernel_rfl) rfl (by decide) (fun K hK => ?_)
        go_simp
        refine hK.out _ _ (Kp3.out) (fun hHeld => ?_)
        clear hK K
        try simp only [Act.put, List.getElem_toArray, List.getElem_cons_zero, List.getElem_cons_succ, List.setIfInBounds_toArray, List.set_cons_zero, List.set_cons_succ]
        refine wpLast_end (by kernel_rfl) rfl (by kernel_rfl) (fun K hK => ?_)
        go_simp
        refine hK.out _ _ ?_
        clear hK K
        try simp only [Act.put, List.getElem_toArray, List.getElem_cons_zero, List.getElem_cons_succ, List.setIfInBounds_toArray, List.set_cons_zero, List.set_cons_succ]
        go_wp2_with fail
        go_meet
        case rel => exact ⟨p', c', HE4.out⟩
      case rest =>
        obtain ⟨p', c', kc, fc⟩ := hcut.out
        have HR := mkHid (HRd.out wc p' c' kc fc)
        clear kc fc hcut HRd HBd HLt HHe HKC
        by_cases hE : ZE = 0
        · subst hE
          have hgood : Good C ZR := by
            have := read_good C h.temps.toNat (by rw [HZ.out])
            rw [HZ.out] at this
            exact this
          have hlen := hgood.len
          have HL0 := land_all hgood n4.1 HRg.out
          rw [hlen] at HL0
          have HJm : Hid (∀ U bs' pb' cb' pr' cr', WR U w.heap.size x ⟨C, h, lp, lc, pw, cw⟩ bs' pb' cb' (lsR C ZR.pls C.ws.length) pr' cr' el0 0 → Fr [] w U → Calls Tryd.prog 38 #[.pointer (some ⟨x, 0, none⟩)] U fun e w' => e = .returned (.tuple #[]) ∧ Fr [] w w' ∧ (((List.range C.ws.length).all (landP C ZR.pls) = true ∧ WR w' w.heap.size x ⟨C, h, lp, lc, pw, cw⟩ bs' pb' cb' ((lsR C ZR.pls C.ws.length).map jSet) pr' cr' el0 0) ∨ ((List.range C.ws.length).all (landP C ZR.pls) = false ∧ ∃ rs', WR w' w.heap.size x ⟨C, h, lp, lc, pw, cw⟩ bs' pb' cb' rs' pr' cr' el0 112))) := fun U bs' pb' cb' pr' cr' kU fU => by
            have := jumps_ok kU fU.size (by rw [lsR_len]; have := stK_len_le ZR.pls C.ws.length; omega) (fun i r hr => by
              obtain ⟨h1, -⟩ := (lsR_RL C ZR.pls C.ws.length).mem i r hr
              obtain ⟨-, h2, h3⟩ := stK_inv _ _ _ _ h1
              obtain ⟨sc, b0, e0, g1, g2, g3, g4, g5, g6⟩ := hgood.good r.at_ (by omega) h3
              have hi : (stK ZR.pls C.ws.length)[i]? = some r.at_ := h1
              have hr2 : r = riOf C (plD ZR.pls r.at_) r.at_ := by
                unfold lsR at hr
                rw [List.getElem?_map, hi] at hr
                simp at hr
                exact hr.symm
              have hgt := g5.gt
              have hfe := g5.fe
              have hop : r.op = (plD ZR.pls r.at_).op := by rw [hr2]; rfl
              have hsz : r.sz = (plD ZR.pls r.at_).fin - r.at_ := by rw [hr2]; rfl
              exact ⟨by rw [hop]; exact g5.lo, by rw [hop]; exact g5.hi, by omega⟩)
            refine this.mono ?_
            rintro e w' ⟨rfl, k', h'⟩
            rw [HL0] at h'
            exact ⟨rfl, k'.fr fU (Nat.le_refl _), h'⟩
          cases hla : (List.range C.ws.length).all (landP C ZR.pls)
          · have HJt : Hid (∀ U bs' pb' cb' pr' cr', WR U w.heap.size x ⟨C, h, lp, lc, pw, cw⟩ bs' pb' cb' (lsR C ZR.pls C.ws.length) pr' cr' el0 0 → Fr [] w U → Calls Tryd.prog 38 #[.pointer (some ⟨x, 0, none⟩)] U fun e w' => e = .returned (.tuple #[]) ∧ Fr [] w w' ∧ ∃ rs', WR w' w.heap.size x ⟨C, h, lp, lc, pw, cw⟩ bs' pb' cb' rs' pr' cr' el0 112) := fun U bs' pb' cb' pr' cr' kU fU => (HJm.out U bs' pb' cb' pr' cr' kU fU).mono (by
              rintro e w' ⟨rfl, f', h'⟩
              rcases h' with ⟨h1, -⟩ | ⟨-, h2⟩
              · rw [hla] at h1; cases h1
              · exact ⟨rfl, f', h2⟩)
            have HDe : Hid (D = (112, [])) := by show D = _; rw [HDw.out, if_neg (by simp), if_pos hla]
            have HAf : Hid (∀ U bs' pb' cb' rs' pr' cr', WR U w.heap.size x ⟨C, h, lp, lc, pw, cw⟩ bs' pb' cb' rs' pr' cr' el0 112 → Fr [] w U → U.cell? ⟨x, 12, none⟩ = some (.int .i64 112) ∧ x < U.heap.size ∧ Hid (LkP w C h lp lc pw cw D (.returned (.tuple #[.pointer (some ⟨x, 0, none⟩), .pointer (some ⟨U.heap.size, 0, none⟩)])) (U.alloc (.cells #[.slice none 0 0, .int .i64 0, .bool false] 76)))) := fun U bs' pb' cb' rs' pr' cr' hk f2 => by
              refine ⟨hk.cell 12, lt_of_heap hk.top, x, U.heap.size, rfl, f2.al _, bs', pb', cb', rs', pr', cr', el0, [], none, 0, 0, false, by rw [HDe.out]; exact hk.idle (Fr.alloc [] U _), ⟨heap_alloc_new U _, f2.size, World.ownsRow_nil _ _ _ _⟩, fun hh => absurd hh (by rw [HDe.out]; decide)⟩
            clear HDw HZ HPr HIf HJm HL0 hgood
            go_wp2_with (first
              | (go_at_call 37; refine HR.out.mono ?_; rintro e w7 ⟨rfl, f7, bs7, pb7, cb7, rs7, pr7, cr7, k7, h7⟩; obtain ⟨-, q2, -⟩ := h7 rfl; subst q2; have c12 : w7.cell? ⟨x, 12, none⟩ = some (.int .i64 0) := k7.cell 12; have K7 := mkHid k7; have F7 := mkHid f7; clear f7 k7 h7)
              | (go_at_call 38; refine (HJt.out _ _ _ _ _ _ K7.out F7.out).mono ?_; rintro e w8 ⟨rfl, f8, rs8, k8⟩; obtain ⟨c12b, hxl, HE5⟩ := HAf.out w8 _ _ _ _ _ _ k8 f8; clear f8 k8))
            go_ret2
            exact HE5.out
          · have HJt : Hid (∀ U bs' pb' cb' pr' cr', WR U w.heap.size x ⟨C, h, lp, lc, pw, cw⟩ bs' pb' cb' (lsR C ZR.pls C.ws.length) pr' cr' el0 0 → Fr [] w U → Calls Tryd.prog 38 #[.pointer (some ⟨x, 0, none⟩)] U fun e w' => e = .returned (.tuple #[]) ∧ Fr [] w w' ∧ WR w' w.heap.size x ⟨C, h, lp, lc, pw, cw⟩ bs' pb' cb' ((lsR C ZR.pls C.ws.length).map jSet) pr' cr' el0 0) := fun U bs' pb' cb' pr' cr' kU fU => (HJm.out U bs' pb' cb' pr' cr' kU fU).mono (by
              rintro e w' ⟨rfl, f', h'⟩
              rcases h' with ⟨-, h2⟩ | ⟨h1, -⟩
              · exact ⟨rfl, f', h2⟩
              · rw [hla] at h1; cases h1)
            have hDe : D = followP (jumpN C ZR.pls C.ws.length) h.stack := by rw [HDw.out, if_neg (by simp), if_neg (by rw [hla]; simp)]
            have hlaz : (List.range ZR.pls.length).all (landP C ZR.pls) = true := by rw [hlen]; exact hla
            obtain ⟨hj1, hj2⟩ := jumped hgood n4.1 HRg.out hlaz
            obtain ⟨hp1, hp2, -⟩ := hgood.pl hlaz
            rw [hlen] at hj1 hj2 hp1 hp2
            have hLn : (jumpN C ZR.pls C.ws.length).length = C.ws.length := by rw [jumpN_len, hlen]
            have HWy : Hid (∀ U bs' pb' cb' pr' cr', WR U w.heap.size x ⟨C, h, lp, lc, pw, cw⟩ bs' pb' cb' ((lsR C ZR.pls C.ws.length).map jSet) pr' cr' el0 0 → Fr [] w U → BOk bs' ZR.inf → BQ bs' ZR.pls 0 C.ws.length → Calls Tryd.prog 39 #[.pointer (some ⟨x, 0, none⟩)] U fun e w' => ∃ v, e = .returned (.pointer (some ⟨v, 0, none⟩)) ∧ LkP w C h lp lc pw cw D (.returned (.tuple #[.pointer (some ⟨x, 0, none⟩), .pointer (some ⟨v, 0, none⟩)])) w') := fun U bs' pb' cb' pr' cr' kU fU hbo hbq => by
              have hbj : BJ bs' (jumpN C ZR.pls C.ws.length) := by
                refine ⟨?_, fun b u hu hul => ?_, fun y hy hb ho => ?_, hj2⟩
                · obtain ⟨t, ht⟩ := HPr.out
                  have h0 : ZR.inf[0]? = some ([h.temps.toNat], 0, C.ws.length) := by rw [ht]; rfl
                  obtain ⟨u, u1, u2, -⟩ := hbo.at_ 0 _ _ _ h0
                  exact ⟨u, u1, u2⟩
                · rw [hLn] at hul
                  rw [jumpN_body]
                  rcases hbq.be b u hu with ⟨-, h2⟩ | ⟨-, h2⟩
                  · exact h2
                  · omega
                · rw [hLn] at hy
                  rw [jumpN_body] at hb
                  have hjq := hbq.bx y hy hb
                  have e := goto_same C (plD ZR.pls y) y
                  have hat : plD (jumpN C ZR.pls C.ws.length) y = (plD ZR.pls y).goto C y := by
                    have := jumpN_at C ZR.pls y
                    rw [hlen] at this
                    exact this
                  rw [hat] at ho ⊢
                  rw [e.1] at ho
                  rw [e.2.1, e.2.2.2.1]
                  exact hjq ho
              have hif := HIf.out
              have := ways_ok (l := jumpN C ZR.pls C.ws.length) kU fU.size (by rw [hLn]; exact n4.1) hj1 hp1 (by rw [hbo.len]; omega) hbj
              refine this.mono ?_
              rintro e w' ⟨v, rfl, f', k', ds, pd, cd, m, c, v', hd'⟩
              rw [show followP (jumpN C ZR.pls C.ws.length) (WFx.h ⟨C, h, lp, lc, pw, cw⟩).stack = D from hDe.symm] at k' hd'
              refine ⟨v, rfl, x, v, rfl, fU.trans f' (fun b hb => .inr (by simp at hb; omega)), bs', pb', cb', _, pr', cr', el0, ds, pd, cd, m, c, k', v', fun hh => ?_⟩
              rw [hd' hh]
              have hlp : 0 < C.ws.length := by
                rcases Nat.eq_zero_or_pos C.ws.length with h0 | h0
                · rw [hDe] at hh
                  unfold followP at hh
                  rw [if_pos (by rw [hLn]; exact h0)] at hh
                  cases hh
                · exact h0
              have := lsd hj1 hp1 (hp2 hlp) h.stack (by rw [← hDe]; exact hh)
              rw [hLn, ← hDe] at this
              exact this
            clear HDw HZ HPr HIf HJm HL0 hgood hj1 hj2 hp1 hp2 hDe hlaz
            go_wp2_with (first
              | (go_at_call 37; refine HR.out.mono ?_; rintro e w7 ⟨rfl, f7, bs7, pb7, cb7, rs7, pr7, cr7, k7, h7⟩; obtain ⟨q1, q2, q3⟩ := h7 rfl; subst q2; have c12 : w7.cell? ⟨x, 12, none⟩ = some (.int .i64 0) := k7.cell 12; have K7 := mkHid k7; have F7 := mkHid f7; have Q1 := mkHid q1; have Q3 := mkHid q3; clear f7 k7 h7 q1 q3)
              | (go_at_call 38; refine (HJt.out _ _ _ _ _ _ K7.out F7.out).mono ?_; rintro e w8 ⟨rfl, f8, k8⟩; have c12b : w8.cell? ⟨x, 12, none⟩ = some (.int .i64 0) := k8.cell 12; have hxl := lt_of_heap k8.top; have K8 := mkHid (k8.idle (Fr.alloc [] w8 (.cells #[.slice none 0 0, .int .i64 0, .bool false] 76))); have F8 := mkHid (f8.al (.cells #[.slice none 0 0, .int .i64 0, .bool false] 76)); clear f8 k8)
              | (go_at_call 39; refine (HWy.out _ _ _ _ _ _ K8.out F8.out Q1.out Q3.out).mono ?_; rintro e w9 ⟨v9, rfl, h9⟩; have H9 := mkHid h9; clear h9))
            go_ret2
            exact H9.out
        · have HDe : Hid (D = (ZE, [])) := by show D = _; rw [HDw.out, if_pos hE]
          have HAf : Hid (∀ U bs' pb' cb' rs' pr' cr', WR U w.heap.size x ⟨C, h, lp, lc, pw, cw⟩ bs' pb' cb' rs' pr' cr' el0 ZE → Fr [] w U → U.cell? ⟨x, 12, none⟩ = some (.int .i64 ZE) ∧ x < U.heap.size ∧ Hid (LkP w C h lp lc pw cw D (.returned (.tuple #[.pointer (some ⟨x, 0, none⟩), .pointer (some ⟨U.heap.size, 0, none⟩)])) (U.alloc (.cells #[.slice none 0 0, .int .i64 0, .bool false] 76)))) := fun U bs' pb' cb' rs' pr' cr' hk f2 => by
            refine ⟨hk.cell 12, lt_of_heap hk.top, x, U.heap.size, rfl, f2.al _, bs', pb', cb', rs', pr', cr', el0, [], none, 0, 0, false, by rw [HDe.out]; exact hk.idle (Fr.alloc [] U _), ⟨heap_alloc_new U _, f2.size, World.ownsRow_nil _ _ _ _⟩, fun hh => absurd hh (by rw [HDe.out]; exact hE)⟩
          have q0 : (ZE == 0) = false := beq_eq_false_iff_ne.2 hE
          clear HDw HZ HPr HIf
          go_wp2_with (go_at_call 37; refine HR.out.mono ?_; rintro e w7 ⟨rfl, f7, bs7, pb7, cb7, rs7, pr7, cr7, k7, -⟩; obtain ⟨c12, hxl, HE5⟩ := HAf.out w7 bs7 pb7 cb7 rs7 pr7 cr7 k7 f7; clear f7 k7)
          go_ret2
          exact HE5.out
    · have HDe : Hid (D = ((lookL C.b.symbols ts 0).1, [])) := by show D = _; rw [hD2, if_pos h2]
      have HAf : Hid (∀ U, Fr [] w U → WR U w.heap.size x ⟨C, h, lp, lc, pw, cw⟩ [] none 0 [] none 0 (lookL C.b.symbols ts 0).2 (lookL C.b.symbols ts 0).1 → U.cell? ⟨x, 12, none⟩ = some (.int .i64 (lookL C.b.symbols ts 0).1) ∧ x < U.heap.size ∧ Hid (LkP w C h lp lc pw cw D (.returned (.tuple #[.pointer (some ⟨x, 0, none⟩), .pointer (some ⟨U.heap.size, 0, none⟩)])) (U.alloc (.cells #[.slice none 0 0, .int .i64 0, .bool false] 76)))) := fun U f2 hk => by
        refine ⟨hk.cell 12, lt_of_heap hk.top, x, U.heap.size, rfl, f2.al _, [], none, 0, [], none, 0, _, [], none, 0, 0, false, by rw [HDe.out]; exact hk.idle (Fr.alloc [] U _), ⟨heap_alloc_new U _, f2.size, World.ownsRow_nil _ _ _ _⟩, fun hh => absurd hh (by rw [HDe.out]; exact h2)⟩
      have HC3 : Hid (∀ U, Fr [x] W1 U → U.cell? ⟨w.heap.size, 3, none⟩ = some (.slice lp C.lits lc)) := fun U hU => cell_in (HKC.out U hU).1 3
      have q0 : ((lookL C.b.symbols ts 0).1 == 0) = false := beq_eq_false_iff_ne.2 h2
      generalize (lookL C.b.symbols ts 0).1 = le at *
      generalize (lookL C.b.symbols ts 0).2 = le2 at *
      clear hD hD2 hw0 hc G1 F1 GC h1 h2
      go_enter Tryd.func20, Tryd.ntmps20
      go_wp2_with (first
        | (go_at_call 35; refine HHe.out.mono ?_; rintro e w5 ⟨rfl, f5, k5⟩; have c3 := HC3.out w5 f5; have K5 := mkHid k5; have F5 := mkHid f5; clear f5 k5)
        | (go_at_call 36; refine (HLt.out _ F5.out K5.out).mono ?_; rintro e w6 ⟨rfl, f6, k6⟩; obtain ⟨c12, hxl, HE5⟩ := HAf.out w6 ((HKC.out _ (F5.out.trans f6 (fun b hb => .inl hb))).2) k6; clear f6 k6))
      go_ret2
      exact HE5.out
  · have HDe : Hid (D.1 = headR C h ∧ D.1 ≠ 0) := by
      rw [← hD]
      unfold depthsP headR
      unfold headR at h1
      split at h1
      · rename_i hh; rw [if_pos hh, if_pos hh]; exact ⟨rfl, by decide⟩
      · rename_i hh
        rw [if_neg hh, if_neg hh]
        split at h1
        · rename_i h3; rw [if_pos h3, if_pos h3]; exact ⟨rfl, by decide⟩
        · exact absurd rfl h1
    rw [show headR (WFx.C ⟨C, h, lp, lc, pw, cw⟩) (WFx.h ⟨C, h, lp, lc, pw, cw⟩) = D.1 from HDe.out.1.symm] at HHe
    have HNo : Hid (∀ U, WR U w.heap.size x ⟨C, h, lp, lc, pw, cw⟩ [] none 0 [] none 0 0 D.1 → Calls Tryd.prog 36 #[.pointer (some ⟨x, 0, none⟩), .slice lp C.lits lc, .bool true] U fun e w' => e = .returned (.tuple #[]) ∧ w' = U) := fun U hU => rlits_no hU HDe.out.2 _ _ _ hls
    have HAf : Hid (∀ U, Fr [x] W1 U → WR U w.heap.size x ⟨C, h, lp, lc, pw, cw⟩ [] none 0 [] none 0 0 D.1 → U.cell? ⟨w.heap.size, 3, none⟩ = some (.slice lp C.lits lc) ∧ U.cell? ⟨x, 12, none⟩ = some (.int .i64 D.1) ∧ x < U.heap.size ∧ Hid (LkP w C h lp lc pw cw D (.returned (.tuple #[.pointer (some ⟨x, 0, none⟩), .pointer (some ⟨U.heap.size, 0, none⟩)])) (U.alloc (.cells #[.slice none 0 0, .int .i64 0, .bool false] 76)))) := fun U hU hk => by
      obtain ⟨g2, f2⟩ := HKC.out U hU
      refine ⟨cell_in g2 3, hk.cell 12, lt_of_heap hk.top, x, U.heap.size, rfl, f2.al _, [], none, 0, [], none, 0, 0, [], none, 0, 0, false, hk.idle (Fr.alloc [] U _), ⟨heap_alloc_new U _, f2.size, World.ownsRow_nil _ _ _ _⟩, fun hh => absurd hh HDe.out.2⟩
    have q0 : (D.1 == 0) = false := beq_eq_false_iff_ne.2 HDe.out.2
    generalize D.1 = de at *
    clear hD hw0 hc G1 F1 GC h1
    go_enter Tryd.func20, Tryd.ntmps20
    go_wp2_with (first
      | (go_at_call 35; refine HHe.out.mono ?_; rintro e w5 ⟨rfl, f5, k5⟩; obtain ⟨c3, c12, hxl, HE5⟩ := HAf.out w5 f5 k5; have K5 := mkHid k5; clear f5 k5)
      | (go_at_call 36; refine (HNo.out _ K5.out).mono ?_; rintro e w6 ⟨rfl, hw6⟩; rw [hw6]; clear hw6 w6))
    go_ret2
    exact HE5.out
end Go.Proofs.YtdflpoldlokijaaDoor
