import Derived.Test.YtjeeibokdnepgaaSAdd
import Derived.BigQuiet
import Derived.Deep.QuietTactic
namespace Go.Proofs.Ytjeeibokdnepgaa
open Go.RowKit Go.Maps Go.WideMaps
set_option linter.unusedVariables false
set_option linter.unusedSimpArgs false
/-- a list of texts that can be read, wherever it lies -/
structure RdS (w : World) (v : Value) (ss : List ByteArray) : Prop where
  at_ : ∃ p c, v = .slice p ss.length c ∧ (0 < ss.length → ∃ g off, p = some ⟨g, off, none⟩ ∧ g < w.heap.size ∧ ∀ i, i < ss.length → w.cell? ⟨g, off + i, none⟩ = some (.string (ss.getD i ⟨#[]⟩)))
  nil : ∀ c, v = .slice none ss.length c → c = 0
  short : ss.length ≤ 8796093022208
theorem own_rd {w : World} {base : Nat} {v : Value} {ss : List ByteArray} (h : w.ownsRow base 9 1 v ss.length (ss.map Value.string)) (hs : ss.length ≤ 8796093022208) : RdS w v ss := by
  rcases h.2 with ⟨h2, h3⟩ | ⟨g, cap, cur, h2, h3⟩
  · refine ⟨⟨none, 0, by rw [h2, h3], fun hp => by omega⟩, fun c hc => ?_, hs⟩
    rw [h2] at hc; injection hc with _ _ e3; exact e3.symm
  · refine ⟨⟨some ⟨g, 0, none⟩, cap, h2, fun hp => ?_⟩, fun c hc => ?_, hs⟩
    · rw [h2] at h
      obtain ⟨_, g', e, hc, _, hl⟩ := row_cell h hp
      injection e with e
      injection e with e
      subst e
      exact ⟨g, 0, rfl, hl, fun i hi => by rw [Nat.zero_add]; exact hc i hi⟩
    · rw [h2] at hc; injection hc with e3; cases e3
theorem RdS.keep {w w' : World} {v : Value} {ss : List ByteArray} {S : List Nat} (h : RdS w v ss) (hf : Fr S w w') (hd : 0 < ss.length → ∀ g, v.ownBlock = some g → g ∉ S) : RdS w' v ss := by
  obtain ⟨p, c, e, h1⟩ := h.at_
  refine ⟨⟨p, c, e, fun hp => ?_⟩, h.nil, h.short⟩
  obtain ⟨g, off, e2, h2, h3⟩ := h1 hp
  have hn := hd hp g (by rw [e, e2]; rfl)
  exact ⟨g, off, e2, by have := hf.size; omega, fun i hi => (hf.cell (p := ⟨g, off + i, none⟩) h2 hn).trans (h3 i hi)⟩
theorem RdS.idle {w w' : World} {v : Value} {ss : List ByteArray} (h : RdS w v ss) (hf : Fr [] w w') : RdS w' v ss := h.keep hf (by simp)
theorem RdS.lt {w : World} {v : Value} {ss : List ByteArray} (h : RdS w v ss) (hp : 0 < ss.length) (g : Nat) (hg : v.ownBlock = some g) : g < w.heap.size := by
  obtain ⟨p, c, e, h1⟩ := h.at_
  obtain ⟨g', off, e2, h2, h3⟩ := h1 hp
  rw [e, e2] at hg
  have : g' = g := by simpa [Value.ownBlock] using hg
  omega
/-- a list of texts is put behind another -/
theorem run_more (w : World) (v u : Value) (base : Nat) (ts ss : List ByteArray) (h : w.ownsRow base 9 1 v ts.length (ts.map Value.string)) (hu : RdS w u ss) (hs : ts.length + ss.length ≤ 8796093022208) (hB : base ≤ w.heap.size) :
    ∃ v' w', (Builtin.append_ #[22, 22] 22 #[v, u]).run Try.prog w = .ok v' w' ∧ w'.ownsRow base 9 1 v' (ts ++ ss).length ((ts ++ ss).map Value.string) ∧ w.grownBy w' v.ownBlock ∧ (v'.ownBlock = v.ownBlock ∨ v'.ownBlock = some w.heap.size) := by
  obtain ⟨p, c, rfl, h1⟩ := hu.at_
  obtain ⟨i9, ii, iz, is, ib⟩ := info_parts info9
  cases p with
  | none =>
    have h0 : ss.length = 0 := by
      rcases Nat.eq_zero_or_pos ss.length with h0 | h0
      · exact h0
      · obtain ⟨g, off, e2, _⟩ := h1 h0; cases e2
    have hs : ss = [] := List.length_eq_zero_iff.1 h0
    have hc := hu.nil c rfl
    subst hs
    subst hc
    rw [List.append_nil]
    exact ⟨_, _, run_append_owned_none (P := Try.prog) (w := w) base 22 22 9 i9 1 Try.underlying22 ii _ _ _ h, h, ⟨rfl, rfl, rfl, Nat.le_refl _, fun _ _ _ => rfl⟩, Or.inl rfl⟩
  | some ad =>
    have hnews : ∀ j x, (ss.map Value.string)[j]? = some x → w.cell? (ad.add j) = some x := fun j x hx => by
      rw [List.getElem?_map] at hx
      cases hz : ss[j]? with
      | none => rw [hz] at hx; simp at hx
      | some z =>
        rw [hz] at hx
        simp at hx
        obtain ⟨hj, hjz⟩ := List.getElem?_eq_some_iff.1 hz
        obtain ⟨g, off, e2, h2, h3⟩ := h1 (by omega)
        rw [Option.some.inj e2, Addr.add_lit, h3 j hj, List.getD_eq_getElem?_getD, hz, ← hx]
        rfl
    obtain ⟨v', w', hr, h2, h3, _, h5⟩ := run_append_own_at (P := Try.prog) w base 22 22 9 i9 (.string ⟨#[]⟩) 1 16 Try.underlying22 ii iz is ib rfl (by decide) _ _ _ h ad ss.length c (ss.map Value.string) (by simp) hnews (fun x hx => by obtain ⟨z, _, rfl⟩ := List.mem_map.1 hx; rfl) (by unfold maxLen; omega) (by omega) hB
    refine ⟨v', w', hr, ?_, h3, h5⟩
    rw [List.length_append, List.map_append]
    exact h2
set_option maxRecDepth 20000 in
set_option maxHeartbeats 1000000 in
/-- slices.Clone -/
theorem slices_Clone (ss : List ByteArray) (v : Value) (w : World) (h : RdS w v ss) :
    Calls Try.prog 34 #[v] w fun e w' => ∃ v', e = .returned v' ∧ w'.ownsRow w.heap.size 9 1 v' ss.length (ss.map Value.string) ∧ Fr [] w w' := by
  have q22 : ∀ (w : World) (a : Option Addr) (n c n' c' : Nat), (binOp .eql 22 (.slice a n c) (.slice none n' c')).run Try.prog w = .ok (.bool a.isNone) w := fun w a n c n' c' => Lib.run_eql_slice_nil w _ _ a n c n' c' Try.underlying22
  obtain ⟨p, c, e, h1⟩ := h.at_
  cases p with
  | none =>
    have h0 : ss.length = 0 := by
      rcases Nat.eq_zero_or_pos ss.length with h0 | h0
      · exact h0
      · obtain ⟨g, off, e2, _⟩ := h1 h0; cases e2
    have hs : ss = [] := List.length_eq_zero_iff.1 h0
    subst hs
    subst e
    clear h h1
    go_enter Try.func34, Try.ntmps34
    go_wp2
    go_ret
    exact ⟨_, rfl, World.ownsRow_nil _ _ _ _, Fr.refl _ _⟩
  | some ad =>
    have F0 : Fr [] w (w.alloc (.cells #[] 9)) := Fr.alloc [] w _
    obtain ⟨v', w', hr, ho, hg, hb⟩ := run_more (w.alloc (.cells #[] 9)) (.slice (some ⟨w.heap.size, 0, none⟩) 0 0) v w.heap.size [] ss (World.ownsRow_made w #[] 0 (Nat.le_refl _) (Nat.zero_le _) rfl) (h.idle F0) (by have := h.short; simpa using this) (by simp)
    have HF : Hid (Fr [] w w') := mkHid (F0.trans (Fr.grown (S := [w.heap.size]) hg (fun k hk => by simp [Value.ownBlock] at hk; simp [hk])) (by simp))
    rw [List.nil_append] at ho
    have HO := mkHid ho
    have HR := mkHid hr
    subst e
    clear h h1 F0 hg hb ho hr
    go_enter Try.func34, Try.ntmps34
    go_wp2_with (at_builtin; refine Lib.wpList_append_run _ rfl (.tmp 5) (.tmp 6) 22 22 rfl _ _ rfl rfl _ _ HR.out ?_)
    go_ret
    exact ⟨_, rfl, HO.out, HF.out⟩
set_option maxRecDepth 20000 in
set_option maxHeartbeats 1000000 in
theorem All_ok (a : Nat) (l : Lay) (most : Nat) (ts : List ByteArray) (w : World) (h : TRep w a l most ts) :
    Calls Try.prog 14 #[.pointer (some ⟨a, 0, none⟩)] w fun e w' => ∃ v', e = .returned v' ∧ w'.ownsRow w.heap.size 9 1 v' ts.length (ts.map Value.string) ∧ Fr [] w w' := by
  have c0 := h.c0
  have c2 := h.c2
  have HC := mkHid (slices_Clone ts _ w (own_rd h.row (by have := h.len; have := h.most; omega)))
  clear h
  go_enter Try.func14, Try.ntmps14
  go_wp2_with (first | (go_at_call 31; refine (made_yes _ _ c0).mono ?_; rintro e w' ⟨rfl, rfl⟩) | (go_at_call 34; refine HC.out.mono ?_; rintro e w1 ⟨v1, rfl, o1, f1⟩))
  go_ret
  exact ⟨_, rfl, o1, f1⟩
set_option maxRecDepth 20000 in
set_option maxHeartbeats 1000000 in
/-- two lists of texts -/
theorem sameTexts_ok (ss ts : List ByteArray) (v u : Value) (w : World) (hs : RdS w v ss) (ht : RdS w u ts) :
    Calls Try.prog 13 #[v, u] w fun e w' => e = .returned (.bool (decide (ss = ts))) ∧ Fr [] w w' := by
  obtain ⟨p, c, rfl, h1⟩ := hs.at_
  obtain ⟨q, d, rfl, h2⟩ := ht.at_
  have s1 := hs.short
  have s2 := ht.short
  by_cases hl : ss.length = ts.length
  rotate_left
  · have hb0 : ((ss.length : Int) != (ts.length : Int)) = true := by rw [bne_iff_ne]; omega
    have hr : decide (ss = ts) = false := decide_eq_false (fun e => hl (by rw [e]))
    rw [hr]
    clear hs ht h1 h2 hl hr
    go_enter Try.func13, Try.ntmps13
    go_wp2_with fail
    go_ret
    exact ⟨rfl, Fr.refl _ _⟩
  · have hb0 : ((ss.length : Int) != (ts.length : Int)) = false := by rw [bne_eq_false_iff_eq]; omega
    have H1 := mkHid h1
    have H2 := mkHid h2
    have hl2 : (ss.length : Int) = (ts.length : Int) := by omega
    have HL := mkHid hl
    clear hs ht h1 h2 hl hl2
    go_enter Try.func13, Try.ntmps13
    go_wp2_with fail
    go_loopw [5] (fun q wr => ∃ i : Nat, i ≤ ss.length ∧ q = .int .i64 i ∧ Hid (∀ m, m < i → ss.getD m ⟨#[]⟩ = ts.getD m ⟨#[]⟩) ∧ Hid (Fr [] w wr)) (fun q _ => ss.length - (intOf q).toNat)
    case atStart => exact ⟨0, Nat.zero_le _, rfl, mkHid (fun m hm => by omega), Fr.refl _ _⟩
    case round =>
      obtain ⟨i, hi, rfl, hst, hfr⟩ := hrel
      have i1 : (0 : Int) ≤ (i : Int) := by omega
      by_cases hlt : i < ss.length
      · have i2 : (i : Int) < (ss.length : Int) := by omega
        have i3 : (i : Int) < (ts.length : Int) := by have := HL.out; omega
        obtain ⟨g, off, rfl, x1, x2⟩ := H1.out (by omega)
        obtain ⟨g', off', rfl, y1, y2⟩ := H2.out (by have := HL.out; omega)
        have k1 := (hfr.out.cell (p := ⟨g, off + i, none⟩) x1 (by simp)).trans (x2 i hlt)
        have k2 := (hfr.out.cell (p := ⟨g', off' + i, none⟩) y1 (by simp)).trans (y2 i (by have := HL.out; omega))
        have HNx : Hid (ss.getD i ⟨#[]⟩ = ts.getD i ⟨#[]⟩ → ∀ m, m < i + 1 → ss.getD m ⟨#[]⟩ = ts.getD m ⟨#[]⟩) := fun hh m hm => by
          by_cases e : m = i
          · rw [e]; exact hh
          · exact hst.out m (by omega)
        have HBad : Hid (ss.getD i ⟨#[]⟩ ≠ ts.getD i ⟨#[]⟩ → decide (ss = ts) = false) := fun hh => decide_eq_false (fun e => hh (by rw [e]))
        generalize ss.getD i ⟨#[]⟩ = x at *
        generalize ts.getD i ⟨#[]⟩ = y at *
        clear x1 x2 y1 y2
        by_cases he : x = y
        · subst he
          have HN2 := mkHid (HNx.out rfl)
          clear HBad HNx
          go_wp2_with fail
          go_quiet (fail)
          go_wp2_with fail
          go_roundw
          case rel => exact ⟨i + 1, by omega, by go_num, HN2, mkHid (hfr.out.trans (Fr.drewN [] _ _) (by simp))⟩
          case measure => simp [intOf]; omega
        · have hb : (x.toList == y.toList) = false := by rw [tl_eq]; exact decide_eq_false he
          have HB2 := mkHid (HBad.out he)
          clear HBad HNx he
          go_wp2_with fail
          go_quiet (fail)
          go_wp2_with fail
          go_ret
          exact ⟨by rw [HB2.out]; rfl, hfr.out.trans (Fr.drewN [] _ _) (by simp)⟩
      · have hie : i = ss.length := by omega
        subst hie
        have HE : Hid (decide (ss = ts) = true) := decide_eq_true (by
          apply List.ext_getElem HL.out
          intro m h1 h2
          have := hst.out m h1
          rw [List.getD_eq_getElem?_getD, List.getElem?_eq_getElem h1, List.getD_eq_getElem?_getD, List.getElem?_eq_getElem h2] at this
          exact this)
        clear H1 H2
        go_wp2_with fail
        go_ret
        exact ⟨by rw [HE.out]; rfl, hfr.out⟩
end Go.Proofs.Ytjeeibokdnepgaa
