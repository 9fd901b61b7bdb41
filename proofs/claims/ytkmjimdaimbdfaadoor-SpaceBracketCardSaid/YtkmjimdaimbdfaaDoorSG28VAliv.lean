import Derived.Test.YtkmjimdaimbdfaaDoorSVAlw
namespace Go.Proofs.YtkmjimdaimbdfaaDoor
open Go.RowKit Go.Maps
set_option linter.unusedVariables false
set_option linter.unusedSimpArgs false
attribute [local go_sem ↓] Go.wp_at_zero Go.wp_at_succ
theorem own_cap {w : World} {b : Nat} {e : TypeId} {v : Value} {n : Nat} {xs : List Value} (h : w.ownsRow b e 1 v n xs) : ∀ p k c, v = .slice p k c → k ≤ c ∧ (c : Int) ≤ 9223372036854775807 := by
  intro p k c hv
  rcases h.2 with ⟨h2, h3⟩ | ⟨g, cap, cur, h2, h3, h4, h5, h6, h7⟩
  · rw [hv] at h2; injection h2 with e1 e2 e3; omega
  · rw [hv] at h2; injection h2 with e1 e2 e3; unfold maxLen at h6; omega
theorem Rd.takeK {w : World} {p : Option Addr} {c : Nat} {ss : List Int} (h : Rd w (.slice p ss.length c) ss) (k : Nat) (hk : k ≤ ss.length) : Rd w (.slice p k c) (ss.take k) := by
  have hl : (ss.take k).length = k := by simp; omega
  obtain ⟨p', c', e, h1⟩ := h.at_
  injection e with e1 e2 e3
  subst e1 e3
  refine ⟨⟨p, c, by rw [hl], fun hp => ?_⟩, fun c' hc => ?_, by have := h.short; omega⟩
  · rw [hl] at hp
    obtain ⟨g, off, e2, h2, h3⟩ := h1 (by omega)
    refine ⟨g, off, e2, h2, fun i hi => ?_⟩
    rw [hl] at hi
    rw [h3 i (by omega), List.getD_eq_getElem?_getD, List.getD_eq_getElem?_getD, List.getElem?_take, if_pos hi]
  · injection hc with e1 e2 e3
    subst e1
    rw [← e3]
    exact h.nil c rfl
/-- the law's small -/
def smN (n : Int) : Nat := ((n.tmod 2048 + 2048) % 2048).toNat
theorem smN_le (n : Int) : smN n ≤ 2047 := by
  unfold smN
  have t2 : n.tmod 2048 < 2048 := Int.tmod_lt_of_pos n (by omega)
  have t3 : -2048 < n.tmod 2048 := Int.lt_tmod_of_pos n (by omega)
  omega
set_option maxHeartbeats 1000000 in
theorem small_ok (n : Int) (w : World) : Calls Tryd.prog 10 #[.int .i64 n] w fun e w' => e = .returned (.int .i64 (smN n : Int)) ∧ w' = w := by
  have t2 : n.tmod 2048 < 2048 := Int.tmod_lt_of_pos n (by omega)
  have t3 : -2048 < n.tmod 2048 := Int.lt_tmod_of_pos n (by omega)
  have hs : Hid ((smN n : Int) = (n.tmod 2048 + 2048) % 2048) := by show (smN n : Int) = _; unfold smN; omega
  go_enter Tryd.func10, Tryd.ntmps10
  go_wp2
  go_ret
  exact ⟨ret_int (by have := hs.out; omega), rfl⟩
/-- the heap's Mark -/
theorem smark_ok {w : World} {s a : Nat} {l : Lay} {X : SpS} (h : Spc w s a l X) (k : Nat) (hk : (k : Int) ≤ 1073741824) :
    Calls Tryd.prog 13 #[.pointer (some ⟨a, 0, none⟩), .int .i64 (k : Int)] w fun e w' => e = .returned (.int .i64 0) ∧ Spc w' s a l { X with mark := k, H := { X.H with mark := k }, M := { X.M with mark := k } } ∧ Nx a l l w w' := by
  refine (Mark_in k a l X.H w h.rep hk).mono ?_
  rintro e w' ⟨rfl, h1, h2, -⟩
  exact ⟨rfl, h.heap h1 (h.ka.setMark k (by omega)) (Nx.fr h2), Nx.fr h2⟩
set_option maxRecDepth 20000 in
set_option maxHeartbeats 4000000 in
theorem keeps_k {w0 w : World} {s a t : Nat} {l : Lay} {kv : Value} {X : SpS} {n : Nat} (P : Pl w0 w s a t l kv X n) (ss : List Int) (lv : Value) (hl : Rd w0 lv ss) :
    Calls Tryd.prog 38 #[.pointer (some ⟨t, 0, none⟩), .pointer (some ⟨s, 0, none⟩), lv] w fun e w' => e = .returned (.bool true) ∧ Ps w0 s a t n w' := by
  have hlw := hl.idle P.pw.fr
  obtain ⟨vc, wc, hrc, hoc, hfc⟩ := run_copy ss lv w hlw
  have hPc := P.idle hfc
  have hsh := hl.short
  have HL : Hid (∀ V, Fr [] w0 V → Rd V lv ss) := fun V hV => hl.idle hV
  obtain ⟨pl, cl, rfl, -⟩ := hl.at_
  obtain ⟨pc, cc, rfl⟩ := row_is hoc
  have hrdc := own_rd hoc hsh
  obtain ⟨hT, hT2, hT0, -⟩ := hPc.pw.tabs
  have hstl := P.pw.stl
  have HR := mkHid hrc
  have HPc := mkHid hPc
  -- the loop over the words: finds a bad one, or not
  by_cases hb : badW ss = true
  · have HK := mkHid (keep_no hPc.pw.spc ss _ hrdc hT hT0 hstl 10 (.inl ⟨hb, rfl⟩))
    have HBad : Hid (∃ j, j < ss.length ∧ kindOf (ss.getD j 0) = 0 ∧ ∀ i, i < j → kindOf (ss.getD i 0) ≠ 0) := by
      show ∃ j, _
      cases hf : ss.findIdx? (fun z => decide (kindOf z = 0)) with
      | none =>
        obtain ⟨z, z1, z2⟩ := List.any_eq_true.1 hb
        have := List.findIdx?_eq_none_iff.1 hf z z1
        rw [z2] at this; cases this
      | some j =>
        obtain ⟨h1, h2, h3⟩ := List.findIdx?_eq_some_iff_getElem.1 hf
        refine ⟨j, h1, ?_, fun i hi => ?_⟩
        · rw [List.getD_eq_getElem?_getD, List.getElem?_eq_getElem h1]
          simpa using h2
        · rw [List.getD_eq_getElem?_getD, List.getElem?_eq_getElem (by omega)]
          simpa using h3 i hi
    obtain ⟨j, hj1, hj2, hj3⟩ := HBad.out
    have HJ := mkHid hj3
    have HJ2 := mkHid hj2
    clear hb hl hlw hPc hrc hoc hfc P hrdc hT hT2 hT0 HBad hj3 hj2
    go_enter Tryd.func38, Tryd.ntmps38
    go_wp2_with (at_builtin; refine Lib.wpList_append_run _ rfl (.const (.slice none 0 0)) (.tmp 10) 29 29 rfl _ _ rfl rfl _ _ HR.out ?_)
    refine Calls.mono HK.out ?_
    rintro e w2 ⟨rfl, hf2⟩
    have HP2 := mkHid (HPc.out.idle hf2)
    clear hf2 HK HR
    go_wp2_with fail
    go_loopw [8] (fun q wr => ∃ k : Nat, k ≤ j ∧ q = .int .i64 k ∧ wr = w2) (fun q _ => j - (intOf q).toNat)
    case atStart => exact ⟨0, Nat.zero_le _, rfl, rfl⟩
    case round =>
      obtain ⟨k, hk, rfl, rfl⟩ := hrel
      obtain ⟨pl', cl', e3, hpl⟩ := (HL.out wr HP2.out.pw.fr).at_
      cases e3
      obtain ⟨gl, ol, rfl, hgl, hcl⟩ := hpl (by omega)
      have x0 := hcl k (by omega)
      have HKd := mkHid (rKind_any (ss.getD k 0) wr)
      have k1 : (0 : Int) ≤ (k : Int) := by omega
      have k2 : (k : Int) < (ss.length : Int) := by omega
      by_cases hkj : k = j
      · have hz : kindOf (ss.getD k 0) = 0 := by rw [hkj]; exact HJ2.out
        rw [hz] at HKd
        have HZ : Hid (Ps w0 s a t n wr) := ⟨l, kv, X, HP2.out⟩
        clear hpl hcl hz hkj
        generalize ss.getD k 0 = z at *
        go_wp2_with (first
          | (go_at_call 33; refine Calls.mono HKd.out ?_; rintro e w' ⟨rfl, hw'⟩; rw [hw']; clear hw' w')
          | (go_at_call 11; refine Calls.mono (num_any _ _ (by omega) (by omega)) ?_; rintro e w' ⟨rfl, hw'⟩; rw [hw']; clear hw' w'))
        go_ret
        exact ⟨rfl, HZ.out⟩
      · have hz := HJ.out k (by omega)
        clear hpl hcl
        generalize ss.getD k 0 = z at *
        generalize kindOf z = kd at *
        have hbk : (kd == 0) = false := by simpa using hz
        clear hz
        go_wp2_with (go_at_call 33; refine Calls.mono HKd.out ?_; rintro e w' ⟨rfl, hw'⟩; rw [hw']; clear hw' w')
        go_roundw
        case rel => exact ⟨k + 1, by omega, by go_num, trivial⟩
        case measure => simp [intOf]; omega
  · have hb : badW ss = false := by simpa using hb
    have HGood : Hid (∀ i, i < ss.length → kindOf (ss.getD i 0) ≠ 0) := fun i hi hz => by
      have h1 := List.any_eq_false.1 hb (ss.getD i 0) (by rw [List.getD_eq_getElem?_getD, List.getElem?_eq_getElem hi]; exact List.getElem_mem _)
      exact h1 (decide_eq_true hz)
    by_cases hlen : 65536 < X.st.length + ss.length
    · have HK := mkHid (keep_no hPc.pw.spc ss _ hrdc hT hT0 hstl 22 (.inr ⟨hb, hlen, rfl⟩))
      clear hb hl hlw hPc hrc hoc hfc P hrdc hT hT2 hT0
      go_enter Tryd.func38, Tryd.ntmps38
      go_wp2_with (at_builtin; refine Lib.wpList_append_run _ rfl (.const (.slice none 0 0)) (.tmp 10) 29 29 rfl _ _ rfl rfl _ _ HR.out ?_)
      refine Calls.mono HK.out ?_
      rintro e w2 ⟨rfl, hf2⟩
      have HP2 := mkHid (HPc.out.idle hf2)
      clear hf2 HK HR
      go_wp2_with fail
      go_loopw [8] (fun q wr => ∃ k : Nat, k ≤ ss.length ∧ q = .int .i64 k ∧ wr = w2) (fun q _ => ss.length - (intOf q).toNat)
      case atStart => exact ⟨0, Nat.zero_le _, rfl, rfl⟩
      case round =>
        obtain ⟨k, hk, rfl, rfl⟩ := hrel
        by_cases hlt : k < ss.length
        · obtain ⟨pl', cl', e3, hpl⟩ := (HL.out wr HP2.out.pw.fr).at_
          cases e3
          obtain ⟨gl, ol, rfl, hgl, hcl⟩ := hpl (by omega)
          have x0 := hcl k (by omega)
          have HKd := mkHid (rKind_any (ss.getD k 0) wr)
          have k1 : (0 : Int) ≤ (k : Int) := by omega
          have k2 : (k : Int) < (ss.length : Int) := by omega
          have hz := HGood.out k hlt
          clear hpl hcl
          generalize ss.getD k 0 = z at *
          generalize kindOf z = kd at *
          have hbk : (kd == 0) = false := by simpa using hz
          clear hz
          go_wp2_with (go_at_call 33; refine Calls.mono HKd.out ?_; rintro e w' ⟨rfl, hw'⟩; rw [hw']; clear hw' w')
          go_roundw
          case rel => exact ⟨k + 1, by omega, by go_num, trivial⟩
          case measure => simp [intOf]; omega
        · have hke : k = ss.length := by omega
          subst hke
          obtain ⟨-, -, -, -, t4, -⟩ := HP2.out.pw.cells
          obtain ⟨pk, ck, hkv, -⟩ := HP2.out.pw.kept.at_
          rw [hkv] at t4
          have hg : (65536 : Int) < (X.st.length : Int) + (ss.length : Int) := by omega
          have HZ : Hid (Ps w0 s a t n wr) := ⟨l, kv, X, HP2.out⟩
          clear hkv hlt hlen
          go_wp2_with (go_at_call 11; refine Calls.mono (num_any _ _ (by omega) (by omega)) ?_; rintro e w' ⟨rfl, hw'⟩; rw [hw']; clear hw' w')
          go_ret
          exact ⟨rfl, HZ.out⟩
    · have HK := mkHid (keep_ok hPc.pw.spc ss _ hrdc hT hT0 hb (by omega))
      have hlen2 : X.st.length + ss.length ≤ 65536 := by omega
      clear hb hl hlw hPc hrc hoc hfc P hrdc hT hT2 hT0 hlen
      go_enter Tryd.func38, Tryd.ntmps38
      go_wp2_with (at_builtin; refine Lib.wpList_append_run _ rfl (.const (.slice none 0 0)) (.tmp 10) 29 29 rfl _ _ rfl rfl _ _ HR.out ?_)
      refine Calls.mono HK.out ?_
      rintro e w2 ⟨rfl, v2, hsp2, hf2, hn2⟩
      have HP2 : Hid (Pw w0 w2 s a t l kv { X with sv := v2, st := X.st ++ ss } X.root X.mark X.st) := HPc.out.pw.move hsp2 rfl rfl HPc.out.pw.br hf2 (fun b hb => by
        rcases List.mem_cons.1 hb with e | e
        · exact .inl e
        · exact .inr (.inr (by simpa [ob] using e))) (fun g hg => .inl hg) hn2
      clear hsp2 hf2 hn2 HK HR
      go_wp2_with fail
      go_loopw [8] (fun q wr => ∃ k : Nat, k ≤ ss.length ∧ q = .int .i64 k ∧ wr = w2) (fun q _ => ss.length - (intOf q).toNat)
      case atStart => exact ⟨0, Nat.zero_le _, rfl, rfl⟩
      case round =>
        obtain ⟨k, hk, rfl, rfl⟩ := hrel
        by_cases hlt : k < ss.length
        · obtain ⟨pl', cl', e3, hpl⟩ := (HL.out wr HP2.out.fr).at_
          cases e3
          obtain ⟨gl, ol, rfl, hgl, hcl⟩ := hpl (by omega)
          have x0 := hcl k (by omega)
          have HKd := mkHid (rKind_any (ss.getD k 0) wr)
          have k1 : (0 : Int) ≤ (k : Int) := by omega
          have k2 : (k : Int) < (ss.length : Int) := by omega
          have hz := HGood.out k hlt
          clear hpl hcl
          generalize ss.getD k 0 = z at *
          generalize kindOf z = kd at *
          have hbk : (kd == 0) = false := by simpa using hz
          clear hz
          go_wp2_with (go_at_call 33; refine Calls.mono HKd.out ?_; rintro e w' ⟨rfl, hw'⟩; rw [hw']; clear hw' w')
          go_roundw
          case rel => exact ⟨k + 1, by omega, by go_num, trivial⟩
          case measure => simp [intOf]; omega
        · have hke : k = ss.length := by omega
          subst hke
          have hP2 := HP2.out
          obtain ⟨-, -, -, -, t4, -⟩ := hP2.cells
          have fz := frozen_in hP2.told 4
          obtain ⟨v3, w3, hr3, ho3, hf3⟩ := run_copy X.st kv wr hP2.kept
          obtain ⟨v4, w4, hr4, ho4, hg4, hb4⟩ := run_moreW2 X.st ss v3 _ w3 wr.heap.size ho3 (HL.out w3 (hP2.fr.trans hf3 (by simp))) (by omega) hf3.size
          have hf4 : Fr [] wr w4 := hf3.trans (Fr.grown (S := ob v3) hg4 (fun k hk => by unfold ob; rw [hk]; simp)) (fun b hb => .inr (by
            have e : v3.ownBlock = some b := by simpa [ob] using hb
            exact (ho3.lt b e).1))
          have htl := lt_of_heap hP2.told
          have t4' : w4.cell? ⟨t, 4, none⟩ = some kv := (hf4.cell (p := ⟨t, 4, none⟩) htl (by simp)).trans t4
          have fz' : w4.frozen? ⟨t, 4, none⟩ = false := (hf4.frozen (p := ⟨t, 4, none⟩) htl (by simp)).trans fz
          have hstl2 : (X.st ++ ss).length ≤ 65536 := by rw [List.length_append]; omega
          have HZ : Hid (Ps w0 s a t n (w4.setCell ⟨t, 4, none⟩ v4)) := by
            refine ⟨l, v4, { X with sv := v2, st := X.st ++ ss }, ⟨hP2.write (kv' := v4) (st' := X.st ++ ss) hf4 (Fr.setCell (S := [t]) w4 ⟨t, 4, none⟩ _ (by simp)) ?_ (own_rd ho4 (by omega)) (fun hp g hg => .inr (ho4.lt g hg).1) hstl2 (own_cap ho4), HPc.out.root, HPc.out.good, HPc.out.age, HPc.out.oops, HPc.out.words⟩⟩
            rw [set_in ((hf4.block t htl (by simp)).trans hP2.told) 4 _]
            rfl
          obtain ⟨pk, ck, hkv, -⟩ := hP2.kept.at_
          obtain ⟨p3, c3, rfl⟩ := row_is ho3
          obtain ⟨p4, c4, rfl⟩ := row_is ho4
          have HR3 := mkHid hr3
          have HR4 := mkHid hr4
          rw [List.length_append] at HR4 HZ
          rw [hkv] at t4 t4' HR3
          have hg : (X.st.length : Int) + (ss.length : Int) ≤ (65536 : Int) := by omega
          clear hkv hlt hr3 hr4 ho3 ho4 hf3 hf4 hg4 hb4 hP2 HP2 HL HPc
          go_wp2_with (first
            | (go_at_call 11; refine Calls.mono (num_any _ _ (by omega) (by omega)) ?_; rintro e w' ⟨rfl, hw'⟩; rw [hw']; clear hw' w')
            | (at_builtin; refine Lib.wpList_append_run _ rfl (.const (.slice none 0 0)) (.tmp 44) 29 29 rfl _ _ rfl rfl _ _ HR3.out ?_)
            | (at_builtin; refine Lib.wpList_append_run _ rfl (.tmp 45) (.tmp 46) 29 29 rfl _ _ rfl rfl _ _ HR4.out ?_))
          go_ret
          exact ⟨rfl, HZ.out⟩
end Go.Proofs.YtkmjimdaimbdfaaDoor
namespace Go.Proofs.YtkmjimdaimbdfaaDoor
open Go.RowKit Go.Maps
set_option linter.unusedVariables false
set_option linter.unusedSimpArgs false
attribute [local go_sem ↓] Go.wp_at_zero Go.wp_at_succ
/-- a space that is new since w0 -/
structure Sq (w0 w : World) (s a : Nat) (l : Lay) (X : SpS) : Prop where
  spc : Spc w s a l X
  br : X.br = none
  fr : Fr [] w0 w
  geA : ∀ b ∈ foot a l, w0.heap.size ≤ b
  geS : w0.heap.size ≤ s
  geV : ∀ g, X.sv.ownBlock = some g → w0.heap.size ≤ g
  two : 2 ≤ w0.heap.size
  tab : Tab w0
  tab64 : Tab64 w0
section
variable {w0 w : World} {s a : Nat} {l : Lay} {X : SpS}
theorem Sq.idle {w' : World} (h : Sq w0 w s a l X) (hf : Fr [] w w') : Sq w0 w' s a l X := ⟨h.spc.idle hf, h.br, h.fr.trans hf (by simp), h.geA, h.geS, h.geV, h.two, h.tab, h.tab64⟩
theorem Sq.tabs (h : Sq w0 w s a l X) : Tab w ∧ Tab64 w ∧ 0 < w.heap.size ∧ 2 ≤ a := by
  have := h.two
  have := h.fr.size
  exact ⟨h.tab.fr h.fr (by omega), h.tab64.keep h.fr (by omega) (by simp), by omega, by have := h.geA a (by simp [foot]); omega⟩
theorem Sq.move {w' : World} {l' : Lay} {X' : SpS} {S : List Nat} (h : Sq w0 w s a l X) (hs : Spc w' s a l' X') (e3 : X'.br = none) (hf : Fr S w w') (hS : ∀ b ∈ S, b = s ∨ b ∈ foot a l ∨ X.sv.ownBlock = some b) (hl : ∀ g ∈ foot a l', g ∈ foot a l ∨ w.heap.size ≤ g) (hv : ∀ g, X'.sv.ownBlock = some g → X.sv.ownBlock = some g ∨ w.heap.size ≤ g) : Sq w0 w' s a l' X' := by
  have hz := h.fr.size
  refine ⟨hs, e3, h.fr.trans hf (fun b hb => .inr ?_), fun b hb => ?_, h.geS, fun g hg => ?_, h.two, h.tab, h.tab64⟩
  · rcases hS b hb with e | e | e
    · rw [e]; exact h.geS
    · exact h.geA b e
    · exact h.geV b e
  · rcases hl b hb with e | e
    · exact h.geA b e
    · omega
  · rcases hv g hg with e | e
    · exact h.geV g e
    · omega
/-- an allocation that fits -/
theorem Sq.fits (h : Sq w0 w s a l X) (cl : Int) (nn ff q : Nat) (he : aErrK X.words X.oops X.mark X.ks cl (nn : Int) (ff : Int) = 0) (hq : LowK X.ks q) :
    Calls Tryd.prog 18 #[.pointer (some ⟨s, 0, none⟩), .int .i64 cl, .int .i64 (nn : Int), .int .i64 (ff : Int)] w fun e w' => e = .returned (.tuple #[.int .i64 (4 * (q : Int)), .int .i64 0]) ∧ ∃ l' H' M', Sq w0 w' s a l' { X with mark := X.mark - 1, ks := X.ks ++ [newKey q cl nn ff], H := H', M := M' } ∧ H'.age = X.H.age := by
  obtain ⟨hT, hT2, hT0, ha⟩ := h.tabs
  refine (salloc_once h.spc cl nn ff hT hT0 (fun V hV => (h.idle hV).tabs.2.1) ha (.inl (by rw [he]; decide))).mono ?_
  rintro e w' ⟨V, hfV, hq2⟩
  rcases hq2 with ⟨g1, -⟩ | ⟨g1, q', l', H2, M2, g2, g3, g4, g5, g6, g7, g8⟩
  · exact absurd he g1
  · have e1 : q' = q := g2.one hq
    subst e1
    exact ⟨g4, l', H2, M2, (h.idle hfV).move g5 h.br g8.1 (fun b hb => .inr (.inl hb)) g8.2 (fun g hg => .inl hg), g7⟩
/-- an allocation that wants a collection -/
theorem Sq.wants (h : Sq w0 w s a l X) (cl : Int) (nn ff : Nat) (he : aErrK X.words X.oops X.mark X.ks cl (nn : Int) (ff : Int) = 23) (hst : X.st.length ≤ 100000) (hr : X.root = 0 ∨ (1 ≤ X.root ∧ X.root ≤ 65536)) (hag : X.H.age ≤ 1000) (m : List Nat) (hm : LvE X.ks (rts X.root X.st) m) (ks' : List Key) (hk : ∀ st, (∀ i, i < X.ks.length → (i ∈ m ↔ (X.ks.getD i noK).1.toNat ∈ st)) → keepK X.ks st = ks') :
    Calls Tryd.prog 18 #[.pointer (some ⟨s, 0, none⟩), .int .i64 cl, .int .i64 (nn : Int), .int .i64 (ff : Int)] w fun e w' => (aErrK X.words X.oops X.mark ks' cl (nn : Int) (ff : Int) = 23 → e = .returned (.tuple #[.int .i64 0, .int .i64 23]) ∧ Fr [] w0 w') ∧
      (aErrK X.words X.oops X.mark ks' cl (nn : Int) (ff : Int) = 0 → ∀ q, LowK ks' q → e = .returned (.tuple #[.int .i64 (4 * (q : Int)), .int .i64 0]) ∧ ∃ l' H' M', Sq w0 w' s a l' { X with mark := X.mark - 1, ks := ks' ++ [newKey q cl nn ff], H := H', M := M' } ∧ H'.age = X.H.age + 1) := by
  obtain ⟨hT, hT2, hT0, ha⟩ := h.tabs
  refine (salloc_full h.spc cl nn ff hst hr hag hT hT0 (fun V hV => ?_) ha he h.br).mono ?_
  · have hfr : Fr [] w0 V := h.fr.trans hV (fun b hb => .inr (h.geA b hb))
    have := h.two
    have := hfr.size
    exact ⟨h.tab.fr hfr (by omega), h.tab64.keep hfr (by omega) (by simp), by omega⟩
  · rintro e w' ⟨V, st, M0, H', M', hx, hfV, ⟨H0, hk0, hs0⟩, hage, hq⟩
    have hkk := hk st (hk0.live hs0 hm (rts_mem X))
    rw [hkk] at hq
    have hmv : ∀ (l' : Lay) (X' : SpS), Spc w' s a l' X' → X'.br = none → X'.sv = X.sv → Nx a l l' V w' → Sq w0 w' s a l' X' := fun l' X' h1 e3 e4 hN =>
      h.move h1 e3 (hfV.trans hN.1 (fun b hb => .inl hb)) (fun b hb => .inr (.inl hb)) (fun g hg => by
        rcases hN.2 g hg with h2 | h2
        · exact .inl h2
        · have := hfV.size; right; omega) (fun g hg => .inl (by rw [← e4]; exact hg))
    rcases hq with ⟨g1, g2, H2, M2, g3, g4, g5, g6⟩ | ⟨g1, q', l', H2, M2, g2, g3, g4, g5, g6, g7, g8⟩
    · have e0 : aErrK X.words X.oops X.mark ks' cl (nn : Int) (ff : Int) ≠ 0 := g1
      have g2' : e = .returned (.tuple #[.int .i64 0, .int .i64 (aErrK X.words X.oops X.mark ks' cl (nn : Int) (ff : Int))]) := g2
      refine ⟨fun h23 => ⟨by rw [h23] at g2'; exact g2', (hmv l _ g3 h.br rfl g6).fr⟩, fun h0 => absurd h0 e0⟩
    · have e0 : aErrK X.words X.oops X.mark ks' cl (nn : Int) (ff : Int) = 0 := g1
      refine ⟨fun h23 => (by rw [e0] at h23; cases h23), fun _ q hq => ?_⟩
      have e1 : q' = q := LowK.one (ks := ks') g2 hq
      subst e1
      exact ⟨g4, l', H2, M2, hmv l' _ g5 h.br rfl g8, by rw [g7]; exact hage⟩
end
def ka1 : Key := newKey 1 4 3 0
def ka2 : Key := newKey 2 4 10 0
def ka3 : Key := newKey 2 4 13 0
theorem low_0 : LowK [] 1 := ⟨by omega, fun k hk => by simp at hk, fun r h1 h2 => by omega⟩
theorem low_1 : LowK [ka1] 2 := by
  refine ⟨by omega, fun k hk => ?_, fun r h1 h2 => ⟨ka1, by simp, ?_⟩⟩
  · have e : k = ka1 := by simpa using hk
    rw [e]; decide
  · have e : r = 1 := by omega
    rw [e]; decide
theorem lv_a : LvE [ka1, ka2] (rts 1 []) [0] := by
  have hn : nmK [ka1, ka2] 4 = some 0 := by decide
  have hl : ∀ z ∈ lkK ka1, z = 4 := by decide
  have hr : ∀ z ∈ rts 1 [], z = 4 := by decide
  refine ⟨by decide, fun i hi => ?_, fun z hz => .inr fun i hi => ?_, fun j hj z hz i hi => ?_, fun h => absurd rfl h, Nat.le_refl _, fun h => absurd rfl h, fun z hz => by simp at hz, fun P h1 h2 i hi => ?_⟩
  · have e : i = 0 := by simpa using hi
    rw [e]; decide
  · rw [hr z hz, hn] at hi
    injection hi with e; simp [← e]
  · have e : j = 0 := by simp at hj; omega
    subst e
    rw [hl z hz, hn] at hi
    injection hi with e; simp [← e]
  · have e : i = 0 := by simpa using hi
    rw [e]
    exact h1 4 (by decide) 0 hn
theorem lv_b : LvE [ka1, ka3] (rts 1 [8]) [0, 1] := by
  have hn : nmK [ka1, ka3] 4 = some 0 := by decide
  have hn8 : nmK [ka1, ka3] 8 = some 1 := by decide
  have hl : ∀ z ∈ lkK ka1, z = 4 := by decide
  have hl3 : ∀ z ∈ lkK ka3, z = 4 := by decide
  have hr : ∀ z ∈ rts 1 [8], z = 4 ∨ z = 8 := by decide
  refine ⟨by decide, fun i hi => ?_, fun z hz => .inr fun i hi => ?_, fun j hj z hz i hi => ?_, fun h => absurd rfl h, Nat.le_refl _, fun h => absurd rfl h, fun z hz => by simp at hz, fun P h1 h2 i hi => ?_⟩
  · have e : i = 0 ∨ i = 1 := by simpa using hi
    rcases e with e | e <;> (rw [e]; decide)
  · rcases hr z hz with e | e
    · rw [e, hn] at hi
      injection hi with e; simp [← e]
    · rw [e, hn8] at hi
      injection hi with e; simp [← e]
  · have e : j = 0 ∨ j = 1 := by simp at hj; omega
    have hz4 : z = 4 := by
      rcases e with e | e
      · subst e; exact hl z hz
      · subst e; exact hl3 z hz
    rw [hz4, hn] at hi
    injection hi with e; simp [← e]
  · have e : i = 0 ∨ i = 1 := by simpa using hi
    rcases e with e | e
    · rw [e]; exact h1 4 (by decide) 0 hn
    · rw [e]; exact h1 8 (by decide) 1 hn8
theorem keep_a (st : List Nat) (h : ∀ i, i < [ka1, ka2].length → (i ∈ [0] ↔ ([ka1, ka2].getD i noK).1.toNat ∈ st)) : keepK [ka1, ka2] st = [ka1] := by
  have h0 : ka1.1.toNat ∈ st := (h 0 (by decide)).1 (by simp)
  have h1 : ka2.1.toNat ∉ st := fun hm => by
    have := (h 1 (by decide)).2 hm
    simp at this
  unfold keepK
  simp [h0, h1]
theorem keep_b (st : List Nat) (h : ∀ i, i < [ka1, ka3].length → (i ∈ [0, 1] ↔ ([ka1, ka3].getD i noK).1.toNat ∈ st)) : keepK [ka1, ka3] st = [ka1, ka3] := by
  have h0 : ka1.1.toNat ∈ st := (h 0 (by decide)).1 (by simp)
  have h1 : ka3.1.toNat ∈ st := (h 1 (by decide)).1 (by simp)
  unfold keepK
  simp [h0, h1]
theorem err_1 : aErrK 20 3 0 [] 4 3 0 = 0 := by decide
theorem err_2 : aErrK 20 3 0 [ka1] 4 10 0 = 0 := by decide
theorem err_3 : aErrK 20 3 0 [ka1, ka2] 4 13 0 = 23 := by decide
theorem err_4 : aErrK 20 3 0 [ka1] 4 13 0 = 0 := by decide
theorem err_5 : aErrK 20 3 0 [ka1, ka3] 4 0 0 = 23 := by decide
set_option maxRecDepth 20000 in
set_option maxHeartbeats 4000000 in
theorem alive_s (w : World) (hT : Tab w) (hT2 : Tab64 w) (h2 : 2 ≤ w.heap.size) : Calls Tryd.prog 9 #[] w fun e w' => e = .returned (.bool true) ∧ Fr [] w w' := by
  have HN := mkHid (sNew_ok 20 3 w (by omega) (by omega))
  have HT := mkHid hT
  have HT2 := mkHid hT2
  clear hT hT2
  go_enter Tryd.func9, Tryd.ntmps9
  go_wp2_with fail
  refine Calls.mono HN.out ?_
  rintro e w1 ⟨s, rfl, hsp, hs, hf⟩
  obtain ⟨a, ha⟩ : ∃ a, w.heap.size = a := ⟨_, rfl⟩
  have S1 : Sq w w1 s w.heap.size nilLay (sp0 20 3) := ⟨hsp, rfl, hf, fun b hb => by simp [foot, Lay.blocks, nilLay, blk] at hb; omega, hs, fun g hg => by simp [sp0, Value.ownBlock] at hg, h2, HT.out, HT2.out⟩
  rw [ha] at S1
  have HA1 := mkHid (S1.fits 4 3 0 1 err_1 low_0)
  clear hsp hs hf HN S1 ha
  go_wp2_with (go_at_call 11; refine Calls.mono (num_any _ _ (by omega) (by omega)) ?_; rintro e w' ⟨rfl, hw'⟩; rw [hw']; clear hw' w')
  refine Calls.mono HA1.out ?_
  rintro e w2 ⟨rfl, l2, H2, M2, S2, g2⟩
  have HC := mkHid (crown_ok S2.spc 1)
  have HS2 := mkHid S2
  clear S2 HA1
  go_wp2_with fail
  refine Calls.mono HC.out ?_
  rintro e w3 (⟨h1, -⟩ | ⟨-, rfl, hsp3, hf3⟩)
  · exact absurd h1 (by decide)
  have S3 : Sq w w3 s a l2 ⟨20, 3, 0, [ka1], H2, M2, 1, [], .slice none 0 0, none⟩ := HS2.out.move hsp3 rfl hf3 (fun b hb => .inl (by simpa using hb)) (fun g hg => .inl hg) (fun g hg => .inl hg)
  have HA3 := mkHid (S3.fits 4 10 0 2 err_2 low_1)
  have hg2 : H2.age = 0 := g2
  clear S3 hsp3 hf3 HS2 HC g2
  go_wp2_with fail
  refine Calls.mono HA3.out ?_
  rintro e w4 ⟨rfl, l4, H4, M4, S4, g4⟩
  have S4' : Sq w w4 s a l4 ⟨20, 3, 0, [ka1, ka2], H4, M4, 1, [], .slice none 0 0, none⟩ := S4
  have hg4 : H4.age = 0 := g4.trans hg2
  have HA4 := mkHid (S4'.wants 4 13 0 err_3 (by simp) (.inr ⟨by show (1 : Int) ≤ 1; omega, by show (1 : Int) ≤ 65536; omega⟩) (by show H4.age ≤ 1000; omega) [0] lv_a [ka1] keep_a)
  clear S4 S4' HA3 g4 hg2
  go_wp2_with fail
  refine Calls.mono HA4.out ?_
  intro e w5 h5
  obtain ⟨rfl, l5, H5, M5, S5, g5⟩ := h5.2 err_4 2 low_1
  have S5' : Sq w w5 s a l5 ⟨20, 3, 0, [ka1, ka3], H5, M5, 1, [], .slice none 0 0, none⟩ := S5
  have hg5 : H5.age = 1 := by rw [g5]; show H4.age + 1 = 1; omega
  have F6 : Fr [] w5 (w5.alloc (.cells #[.int .i64 8] 28)) := Fr.alloc [] _ _
  have S6 := S5'.idle F6
  obtain ⟨hT6, -, hT60, -⟩ := S6.tabs
  have HK := mkHid (keep_ok S6.spc [8] (.slice (some ⟨w5.heap.size, 0, none⟩) 1 1) (rd_one w5 8) hT6 hT60 (by decide) (by simp))
  have HS6 := mkHid S6
  clear S5 S5' S6 HA4 g5 h5 F6 hT6 hT60 hg4
  go_wp2_with fail
  refine Calls.mono HK.out ?_
  rintro e w7 ⟨rfl, v7, hsp7, hf7, hn7⟩
  have S7 : Sq w w7 s a l5 ⟨20, 3, 0, [ka1, ka3], H5, M5, 1, [8], v7, none⟩ := HS6.out.move hsp7 rfl hf7 (fun b hb => by
    rcases List.mem_cons.1 hb with e | e
    · exact .inl e
    · exact .inr (.inr (by simpa [ob] using e))) (fun g hg => .inl hg) hn7
  have HA7 := mkHid (S7.wants 4 0 0 err_5 (by simp) (.inr ⟨by show (1 : Int) ≤ 1; omega, by show (1 : Int) ≤ 65536; omega⟩) (by show H5.age ≤ 1000; omega) [0, 1] lv_b [ka1, ka3] keep_b)
  clear S7 hsp7 hf7 hn7 HK HS6 hg5
  go_wp2_with fail
  refine Calls.mono HA7.out ?_
  intro e w8 h8
  obtain ⟨rfl, hf8⟩ := h8.1 err_5
  have HZ := mkHid hf8
  clear h8 hf8 HA7
  go_wp2_with (go_at_call 11; refine Calls.mono (num_any _ _ (by omega) (by omega)) ?_; rintro e w' ⟨rfl, hw'⟩; rw [hw']; clear hw' w')
  go_ret
  exact ⟨rfl, HZ.out⟩
end Go.Proofs.YtkmjimdaimbdfaaDoor
