import Derived.Test.YtblbjgifhgfifaaPG23QCl2
import Derived.Test.YtblbjgifhgfifaaPG01NFds
import Derived.Test.YtblbjgifhgfifaaPQRsh
import Derived.Test.YtblbjgifhgfifaaPQNam
namespace Go.Proofs.Ytblbjgifhgfifaa
open Go.RowKit
set_option linter.unusedVariables false
set_option linter.unusedSimpArgs false
theorem seqB_ok (a b : List ByteArray) (i : Nat) (hl : a.length = b.length) (h : ∀ j, j < i → a.getD j ⟨#[]⟩ = b.getD j ⟨#[]⟩) (hi : i = a.length) : a = b := by
  apply List.ext_getElem?
  intro j
  by_cases hj : j < a.length
  · have := h j (by omega)
    rw [List.getD_eq_getElem?_getD, List.getD_eq_getElem?_getD, List.getElem?_eq_getElem hj, List.getElem?_eq_getElem (by omega)] at this
    rw [List.getElem?_eq_getElem hj, List.getElem?_eq_getElem (by omega)]
    simpa using this
  · rw [List.getElem?_eq_none (by omega), List.getElem?_eq_none (by omega)]
set_option maxRecDepth 20000 in
set_option maxHeartbeats 1000000 in
theorem equal_ok (a b : List ByteArray) (va vb : Value) (w : World) (ha : RdS w va a) (hb : RdS w vb b) :
    Calls Try.prog 41 #[va, vb] w fun e w' => e = .returned (.bool (decide (a = b))) ∧ Fr [] w w' := by
  obtain ⟨pa, ca, rfl, ha1⟩ := ha.at_
  obtain ⟨pb, cb, rfl, hb1⟩ := hb.at_
  have sa := ha.short
  have sb := hb.short
  have HA := mkHid ha1
  have HB := mkHid hb1
  clear ha hb ha1 hb1
  by_cases hl : a.length = b.length
  rotate_left
  · have hd : decide (a = b) = false := decide_eq_false (fun e => hl (by rw [e]))
    have hne : ((a.length : Int) != (b.length : Int)) = true := by simp; omega
    rw [hd]
    clear hd HA HB
    go_enter Try.func41, Try.ntmps41
    go_wp2_with fail
    go_ret
    exact ⟨rfl, Fr.refl _ _⟩
  have hne : ((a.length : Int) != (b.length : Int)) = false := by simp; omega
  have HL := mkHid hl
  clear hl
  go_enter Try.func41, Try.ntmps41
  go_wp2_with fail
  go_loopw [13] (fun q wr => ∃ i : Nat, i ≤ a.length ∧ q = .int .i64 i ∧ Hid (∀ j, j < i → a.getD j ⟨#[]⟩ = b.getD j ⟨#[]⟩) ∧ Hid (Fr [] w wr)) (fun q _ => a.length - (intOf q).toNat)
  case atStart => exact ⟨0, Nat.zero_le _, rfl, mkHid (fun j h => absurd h (Nat.not_lt_zero _)), mkHid (Fr.refl _ _)⟩
  case round =>
    obtain ⟨i, hi, rfl, hst, hfr⟩ := hrel
    have i0 : (0 : Int) ≤ (i : Int) := by omega
    by_cases hlt : i < a.length
    · have i1 : (i : Int) < (a.length : Int) := by omega
      have hlb : i < b.length := by have := HL.out; omega
      have i2 : (i : Int) < (b.length : Int) := by omega
      obtain ⟨g, off, rfl, x1, x2⟩ := HA.out (by omega)
      obtain ⟨g', off', rfl, y1, y2⟩ := HB.out (by omega)
      have k1 := (hfr.out.cell (p := ⟨g, off + i, none⟩) x1 (by simp)).trans (x2 i hlt)
      have k2 := (hfr.out.cell (p := ⟨g', off' + i, none⟩) y1 (by simp)).trans (y2 i hlb)
      have HNx : Hid (a.getD i ⟨#[]⟩ = b.getD i ⟨#[]⟩ → ∀ j, j < i + 1 → a.getD j ⟨#[]⟩ = b.getD j ⟨#[]⟩) := mkHid (fun h j hj => by
        by_cases e : j = i
        · rw [e]; exact h
        · exact hst.out j (by omega))
      have HNe : Hid (a.getD i ⟨#[]⟩ ≠ b.getD i ⟨#[]⟩ → decide (a = b) = false) := mkHid (fun h => decide_eq_false (fun e => h (by rw [e])))
      have HF2 : Hid (∀ n, Fr [] w (wr.drewN n)) := mkHid (fun n => hfr.out.trans (Fr.drewN [] _ n) (by simp))
      clear x1 x2 y1 y2 hst HA HB
      generalize a.getD i ⟨#[]⟩ = x at *
      generalize b.getD i ⟨#[]⟩ = y at *
      by_cases he : x = y
      · have HN2 := mkHid (HNx.out he)
        have hb : (x.toList == y.toList) = true := by rw [tl_eq]; exact decide_eq_true he
        have hb2 : (x.toList != y.toList) = false := by rw [bne, hb]; rfl
        clear HNx HNe he
        go_wp2_with fail
        go_quiet (fail)
        go_wp2_with fail
        go_roundw
        case rel => exact ⟨i + 1, by omega, by go_num, HN2, mkHid (HF2.out _)⟩
        case measure => simp [intOf]; omega
      · have HN2 := mkHid (HNe.out he)
        have hb : (x.toList == y.toList) = false := by rw [tl_eq]; exact decide_eq_false he
        have hb2 : (x.toList != y.toList) = true := by rw [bne, hb]; rfl
        clear HNx HNe he
        go_wp2_with fail
        go_quiet (fail)
        go_wp2_with fail
        go_ret
        exact ⟨by rw [HN2.out]; rfl, HF2.out _⟩
    · have hie : i = a.length := by omega
      have HE : Hid (decide (a = b) = true) := mkHid (decide_eq_true (seqB_ok a b i HL.out hst.out hie))
      subst hie
      clear HA HB hst
      go_wp2_with fail
      go_ret
      exact ⟨by rw [HE.out]; rfl, hfr.out⟩
end Go.Proofs.Ytblbjgifhgfifaa
namespace Go.Proofs.Ytblbjgifhgfifaa
open Go.RowKit Go.Maps Go.WideMaps
set_option linter.unusedVariables false
set_option linter.unusedSimpArgs false
/-- the family is the class, and those below it -/
theorem fam_cons (l : List Cl) (top : Nat) (ht : top < l.length) : affected l top l.length = top :: (List.range' (top + 1) (l.length - (top + 1))).filter (fun c => under l c top) := by
  unfold affected
  rw [show l.length - top = (l.length - (top + 1)) + 1 by omega, List.range'_succ, List.filter_cons]
  have : under l top top = true := by rw [under_eq]; simp
  rw [if_pos this]
theorem aff_mem {l : List Cl} {top c : Nat} (h : c ∈ affected l top l.length) : c < l.length ∧ top ≤ c := by
  unfold affected at h
  rw [List.mem_filter, List.mem_range'_1] at h
  omega
def famAt (l : List Cl) (top i : Nat) : Nat := (affected l top l.length).getD i 0
theorem famAt_lt {l : List Cl} {top i : Nat} (hi : i < (affected l top l.length).length) : famAt l top i < l.length := by
  unfold famAt
  rw [List.getD_eq_getElem?_getD, List.getElem?_eq_getElem hi]
  exact (aff_mem (List.getElem_mem hi)).1
theorem famZ_at {l : List Cl} {top i : Nat} (hi : i < (affected l top l.length).length) : (famZ l top l.length).getD i 0 = (famAt l top i : Int) := by
  unfold famZ famAt
  rw [List.getD_eq_getElem?_getD, List.getD_eq_getElem?_getD, List.getElem?_map, List.getElem?_eq_getElem hi]
  rfl
theorem famZ_len (l : List Cl) (top : Nat) : (famZ l top l.length).length = (affected l top l.length).length := by simp [famZ]
theorem famAt_zero {l : List Cl} {top : Nat} (ht : top < l.length) : famAt l top 0 = top := by unfold famAt; rw [fam_cons l top ht]; rfl
theorem fam_pos {l : List Cl} {top : Nat} (ht : top < l.length) : 0 < (affected l top l.length).length := by rw [fam_cons l top ht]; simp
/-- the list, all but the first so many -/
theorem below1_fam (l : List Cl) (top : Nat) (own : List ByteArray) (ht : top < l.length) : (List.range' (top + 1) (l.length - (top + 1))).any (below1 l top own) = (affected l top l.length).tail.any (fun c => (clAt l c).own.any (fun x => inB own x)) := by
  rw [fam_cons l top ht, List.tail_cons, List.any_filter]
  rfl
theorem below2_fam (l : List Cl) (top : Nat) (own : List ByteArray) : (List.range' top (l.length - top)).any (below2 l top own) = (affected l top l.length).any (fun c => decide (32 < (fields l (some top) own c).length)) := by
  unfold affected
  rw [List.any_filter]
  rfl
theorem any_take (l : List Cl) (top : Nat) (p : Nat → Bool) (i : Nat) (hi : i < (affected l top l.length).length) : ((affected l top l.length).take (i + 1)).any p = (((affected l top l.length).take i).any p || p (famAt l top i)) := by
  rw [List.take_succ_eq_append_getElem hi, List.any_append]
  unfold famAt
  rw [List.getD_eq_getElem?_getD, List.getElem?_eq_getElem hi]
  simp
/-- the places of a family in memory -/
theorem fam_cell {w : World} {l : List Cl} {top : Nat} {q : Option Addr} {d : Nat} (h : RdI w (.slice q (famZ l top l.length).length d) (famZ l top l.length)) {i : Nat} (hi : i < (affected l top l.length).length) :
    ∃ g off, q = some ⟨g, off, none⟩ ∧ g < w.heap.size ∧ w.cell? ⟨g, off + i, none⟩ = some (.int .i64 (famAt l top i : Int)) := by
  obtain ⟨g, off, e, h1, h2⟩ := h.cells (i := i) (by rw [famZ_len]; exact hi)
  exact ⟨g, off, e, h1, by rw [h2, famZ_at hi]⟩
theorem gatherO_ok (l : List Cl) (b6 b3 b1 gs : Nat) (k : Option Nat) (w : World) (hk : ∀ d, k = some d → d < l.length) (hG : Gth w l b6 b3 b1 gs) (hs : Small l) :
    Calls Try.prog 61 #[.int .i64 (zO k), .pointer (some ⟨b6, 0, none⟩), .pointer (some ⟨b3, 0, none⟩), .pointer (some ⟨b1, 0, none⟩)] w fun e w' => ∃ p d, e = .returned (.slice p (fieldsO l none [] k).length d) ∧ Mine w w' p d (fieldsO l none [] k) := by
  cases k with
  | none =>
    refine Calls.mono (gather_no b6 b3 b1 w) ?_
    rintro e w' ⟨rfl, rfl⟩
    exact ⟨none, 0, rfl, mine_nil _⟩
  | some d => exact gather_ok l b6 b3 b1 gs d w (hk d rfl) hG (hs d (hk d rfl))
/-- what the function behind gathers -/
theorem behind_ok (l : List Cl) (top : Nat) (own : List ByteArray) (ov : Value) (ht : top < l.length) (b6 b3 b1 gs : Nat) (c : Nat) (w : World) (hc : c < l.length) (hG : Gth w (turnC l top own ov) b6 b3 b1 gs) (hs : Small2 l top own) :
    Calls Try.prog 61 #[.int .i64 (c : Int), .pointer (some ⟨b6, 0, none⟩), .pointer (some ⟨b3, 0, none⟩), .pointer (some ⟨b1, 0, none⟩)] w fun e w' => ∃ p d, e = .returned (.slice p (fields l (some top) own c).length d) ∧ Mine w w' p d (fields l (some top) own c) := by
  have hT := turnC_trn l top own ov ht
  have := gather_ok (turnC l top own ov) b6 b3 b1 gs c w (by rw [turnC_len]; exact hc) hG (by rw [hT.fnew]; exact hs c hc)
  rw [hT.fnew] at this
  exact this
theorem Mine.rd {w0 w : World} {p : Option Addr} {c : Nat} {ts : List ByteArray} (h : Mine w0 w p c ts) (hs : ts.length ≤ 8796093022208) : RdS w (.slice p ts.length c) ts := own_rd h.row hs
set_option maxRecDepth 20000 in
set_option maxHeartbeats 2000000 in
theorem mayHold_ok (l : List Cl) (top : Nat) (own : List ByteArray) (v ov : Value) (b c : Nat) (w : World) (h : Rsh w v l top own ov b) (ht : top < l.length) (hc : c < l.length) (hs : Small2 l top own) :
    Calls Try.prog 55 #[.pointer (some ⟨b, 0, none⟩), .int .i64 c] w fun e w' => e = .returned (.int .i64 (if 32 < (fields l (some top) own c).length then 137 else 0)) ∧ Fr [] w w' := by
  obtain ⟨gc, oc, cc, ga, bf, m, b4, m4, q5, d5, b6, b3, b1, gs, c6, c3, c1, cs, po, no, co, rfl, rfl, hb, hL, hN, hF, hG, hB, hcp⟩ := h.ex
  have k7 : w.cell? ⟨b, 7, none⟩ = some (.func (.func 61) #[] #[.pointer (some ⟨c6, 0, none⟩), .pointer (some ⟨c3, 0, none⟩), .pointer (some ⟨c1, 0, none⟩)]) := by rw [cell_in hb]; rfl
  have HC := mkHid (behind_ok l top own _ ht c6 c3 c1 cs c w hc hB hs)
  have hlen := hs c hc
  clear h hb hL hN hF hG hB hcp
  by_cases hg : 32 < (fields l (some top) own c).length
  · rw [if_pos hg]
    have hgi : (32 : Int) < ((fields l (some top) own c).length : Int) := by omega
    generalize fields l (some top) own c = F at *
    go_enter Try.func55, Try.ntmps55
    go_wp2_with (first | (go_at_call 61; refine HC.out.mono ?_; rintro e w3 ⟨p3, d3, rfl, hm3⟩))
    go_ret
    exact ⟨rfl, hm3.fr⟩
  · rw [if_neg hg]
    have hgi : ¬ (32 : Int) < ((fields l (some top) own c).length : Int) := by omega
    generalize fields l (some top) own c = F at *
    go_enter Try.func55, Try.ntmps55
    go_wp2_with (first | (go_at_call 61; refine HC.out.mono ?_; rintro e w3 ⟨p3, d3, rfl, hm3⟩))
    go_ret
    exact ⟨rfl, hm3.fr⟩
set_option maxRecDepth 20000 in
set_option maxHeartbeats 2000000 in
theorem mayCount_ok (l : List Cl) (top : Nat) (own : List ByteArray) (v ov : Value) (b : Nat) (w : World) (h : Rsh w v l top own ov b) (ht : top < l.length) (hn : l.length ≤ 1048576) :
    Calls Try.prog 42 #[.pointer (some ⟨b, 0, none⟩)] w fun e w' => e = .returned (.int .i64 (if (affected l top l.length).any (full l) then 138 else 0)) ∧ Fr [] w w' := by
  obtain ⟨gc, oc, cc, ga, bf, m, b4, m4, q5, d5, b6, b3, b1, gs, c6, c3, c1, cs, po, no, co, rfl, rfl, hb, hL, hN, hF, hG, hB, hcp⟩ := h.ex
  have k0 : w.cell? ⟨b, 0, none⟩ = some (.slice (some ⟨gc, oc, none⟩) l.length cc) := by rw [cell_in hb]; rfl
  have k5 : w.cell? ⟨b, 5, none⟩ = some (.slice q5 (famZ l top l.length).length d5) := by rw [cell_in hb]; rfl
  have HF := mkHid (fun (i : Nat) hi => fam_cell hF (i := i) hi)
  have hfl := fam_len l top l.length
  obtain ⟨n, hnn⟩ : ∃ n, (affected l top l.length).length = n := ⟨_, rfl⟩
  rw [famZ_len, hnn] at k5 hfl
  rw [hnn] at HF
  obtain ⟨p', c', e, hcl⟩ := h.rdc.at_
  obtain ⟨g', o', e2, x1, x2⟩ := hcl (by omega)
  injection e with e _ _
  rw [← e] at e2
  injection e2 with e2
  injection e2 with e3 e4
  subst e3
  subst e4
  have HX : Hid (∀ k, k < l.length → w.cell? ⟨gc, oc + k * 4 + 3, none⟩ = some (.int .i64 (clAt l k).lay)) := mkHid (fun k hk => (x2 k hk).2.2.2)
  have HAll : Hid (∀ i, i < n → full l (famAt l top i) = true → (affected l top l.length).any (full l) = true) := mkHid (fun i hi hf => by
    rw [List.any_eq_true]
    refine ⟨famAt l top i, ?_, hf⟩
    unfold famAt
    rw [List.getD_eq_getElem?_getD, List.getElem?_eq_getElem (by omega)]
    exact List.getElem_mem (by omega))
  have HEnd : Hid (((affected l top l.length).take n).any (full l) = false → (affected l top l.length).any (full l) = false) := mkHid (fun h => by rwa [← hnn, List.take_length] at h)
  have HSt : Hid (∀ i, i < n → ((affected l top l.length).take i).any (full l) = false → full l (famAt l top i) = false → ((affected l top l.length).take (i + 1)).any (full l) = false) := mkHid (fun i hi h1 h2 => by rw [any_take l top _ i (by omega), h1, h2]; rfl)
  have HLt : Hid (∀ i, i < n → famAt l top i < l.length) := mkHid (fun i hi => famAt_lt (by omega))
  clear h hb hL hN hF hG hB hcl e x1 x2 hcp
  generalize hAny : (affected l top l.length).any (full l) = A at *
  generalize hTk : (fun i => ((affected l top l.length).take i).any (full l)) = T at *
  have HSt2 : Hid (∀ i, i < n → T i = false → full l (famAt l top i) = false → T (i + 1) = false) := mkHid (by subst hTk; exact HSt.out)
  have HEnd2 : Hid (T n = false → A = false) := mkHid (by subst hTk; exact HEnd.out)
  have HT0 : Hid (T 0 = false) := mkHid (by subst hTk; simp)
  clear HSt HEnd hTk hAny hnn
  go_enter Try.func42, Try.ntmps42
  go_wp2_with fail
  go_loopw [10] (fun q wr => ∃ i : Nat, i ≤ n ∧ q = .int .i64 i ∧ Hid (T i = false) ∧ wr = w) (fun q _ => n - (intOf q).toNat)
  case atStart => exact ⟨0, Nat.zero_le _, rfl, HT0, rfl⟩
  case round =>
    obtain ⟨i, hi, rfl, hst, rfl⟩ := hrel
    have i0 : (0 : Int) ≤ (i : Int) := by omega
    by_cases hlt : i < n
    · have i1 : (i : Int) < (n : Int) := by omega
      obtain ⟨gf, off, rfl, _, kf⟩ := HF.out i hlt
      have hp := HLt.out i hlt
      have p0 : (0 : Int) ≤ (famAt l top i : Int) := by omega
      have p1 : (famAt l top i : Int) < (l.length : Int) := by omega
      have kx := HX.out _ hp
      by_cases hf : 1073741823 ≤ (clAt l (famAt l top i)).lay
      · have hA := HAll.out i hlt (decide_eq_true hf)
        subst hA
        clear HF HX HAll HSt2 HEnd2 HLt hst hp HT0
        generalize (clAt l (famAt l top i)).lay = y at *
        generalize famAt l top i = pl at *
        go_wp2_with fail
        go_ret
        exact ⟨rfl, Fr.refl _ _⟩
      · have HS := mkHid (HSt2.out i hlt hst.out (decide_eq_false hf))
        clear HF HX HAll HSt2 HEnd2 HLt hst hp HT0
        generalize (clAt l (famAt l top i)).lay = y at *
        generalize famAt l top i = pl at *
        go_wp2_with fail
        go_roundw
        case rel => exact ⟨i + 1, by omega, by go_num, HS, by simp⟩
        case measure => simp [intOf]; omega
    · have hie : i = n := by omega
      subst hie
      have hA := HEnd2.out hst.out
      subst hA
      clear HF HX HAll HSt2 HEnd2 HLt hst HT0
      go_wp2_with fail
      go_ret
      exact ⟨rfl, Fr.refl _ _⟩
end Go.Proofs.Ytblbjgifhgfifaa
namespace Go.Proofs.Ytblbjgifhgfifaa
open Go.RowKit Go.Maps Go.WideMaps
set_option linter.unusedVariables false
set_option linter.unusedSimpArgs false
theorem make_intsC (n : Nat) (h2 : n ≤ 1048576) (W : World) :
    (Instr.makeSlice 34 (.int .i64 0) (.int .i64 (n : Int))).run Try.prog W = .ok (.slice (some ⟨W.heap.size, 0, none⟩) 0 n) (W.alloc (.cells (zerosI n).toArray 3)) := by
  obtain ⟨i0, hi, hz0, hz1, hz2⟩ := info_parts info3
  have h := run_make (P := Try.prog) W 34 3 i0 (.int .i64 0) Try.underlying34 hi hz0 .i64 .i64 0 n (by omega) (by omega) (by rw [hz2]; omega) (by omega)
  have e : madeCells (Value.int .i64 0).cells n = (zerosI n).toArray := by
    apply Array.toList_inj.1
    show (madeCells #[.int .i64 0] n).toList = _
    rw [toList_madeCells_one]
    apply List.ext_getElem?
    intro j
    by_cases hj : j < n
    · rw [List.getElem?_replicate, if_pos hj]
      exact (rowF_at (fun _ => 0) hj).symm
    · rw [List.getElem?_replicate, if_neg hj]
      exact (List.getElem?_eq_none (by rw [zerosI, rowF_len]; omega)).symm
  rw [h, hz1, Nat.mul_one, Int.toNat_natCast, e]
  rfl
theorem own_made (w : World) (n : Nat) (hn : n ≤ 1048576) : (w.alloc (.cells (zerosI n).toArray 3)).ownsRow w.heap.size 3 1 (.slice (some ⟨w.heap.size, 0, none⟩) 0 n) 0 (ints []) :=
  ⟨rfl, Or.inr ⟨w.heap.size, n, _, rfl, Nat.le_refl _, heap_alloc_new w _, Nat.zero_le _, by unfold maxLen; omega, by simp [zerosI, rowF_len], by simp [ints]⟩⟩
set_option maxRecDepth 20000 in
set_option maxHeartbeats 2000000 in
theorem origins_ok (old new : List ByteArray) (vo vn : Value) (w : World) (ho : RdS w vo old) (hn : RdS w vn new) (hz : ∀ s ∈ old, s.size ≤ maxLen) (hz2 : ∀ s ∈ new, s.size ≤ maxLen) (hl : new.length ≤ 1048576) :
    Calls Try.prog 56 #[vo, vn] w fun e w' => ∃ p d, e = .returned (.slice p (new.map (amongZ old)).length d) ∧ w'.ownsRow w.heap.size 3 1 (.slice p (new.map (amongZ old)).length d) (new.map (amongZ old)).length (ints (new.map (amongZ old))) ∧ Fr [] w w' := by
  obtain ⟨pn, cn, rfl, hn1⟩ := hn.at_
  obtain ⟨po, no, co, rfl⟩ : ∃ po no co, vo = .slice po no co := by obtain ⟨pv, cv, e, _⟩ := ho.at_; exact ⟨pv, _, cv, e⟩
  have HC51 := mkHid (finderS_ok old (.slice po no co) w ho hz)
  have HN1 := mkHid hn1
  have HZ2 := mkHid hz2
  have hmk := make_intsC new.length hl
  have HMd : Hid (∀ W : World, W.heap.size ≥ w.heap.size → (W.alloc (.cells (zerosI new.length).toArray 3)).ownsRow w.heap.size 3 1 (.slice (some ⟨W.heap.size, 0, none⟩) 0 new.length) 0 (ints [])) := mkHid (fun W hW => own_down (own_made W new.length hl) hW)
  clear ho hn hn1 hz hz2
  go_enter Try.func56, Try.ntmps56
  go_wp2_with (first | (go_at_call 51; refine HC51.out.mono ?_; rintro e w3 ⟨b, m, rfl, hfd, hf3, _, _⟩))
  have HF := mkHid (hfd.idle (Fr.alloc [] w3 (.cells (zerosI new.length).toArray 3)))
  have HFr : Hid (Fr [] w (w3.alloc (.cells (zerosI new.length).toArray 3))) := mkHid (hf3.trans (Fr.alloc [] _ _) (by simp))
  have HO := mkHid (HMd.out w3 hf3.size)
  clear hmk HMd hfd hf3 HC51
  generalize w3.alloc (.cells (zerosI new.length).toArray 3) = w4 at *
  generalize w3.heap.size = G at *
  go_wp2_with fail
  go_loopw [6, 16] (fun u q wr => ∃ (i : Nat) (p : Option Addr) (d : Nat), i ≤ new.length ∧ u = .slice p i d ∧ q = .int .i64 i ∧ Hid (wr.ownsRow w.heap.size 3 1 (.slice p i d) i (ints ((new.take i).map (amongZ old)))) ∧ Hid (Fnd wr b m old) ∧ Hid (Fr [] w wr)) (fun _ q _ => new.length - (intOf q).toNat)
  case atStart => exact ⟨0, _, _, Nat.zero_le _, rfl, rfl, mkHid (by rw [List.take_zero]; exact HO.out), HF, HFr⟩
  case round =>
    obtain ⟨i, p, d, hi, rfl, rfl, hrow, hfd, hfr⟩ := hrel
    have i0 : (0 : Int) ≤ (i : Int) := by omega
    by_cases hlt : i < new.length
    · have i1 : (i : Int) < (new.length : Int) := by omega
      obtain ⟨g, off, rfl, x1, x2⟩ := HN1.out (by omega)
      have k1 := (hfr.out.cell (p := ⟨g, off + i, none⟩) x1 (by simp)).trans (x2 i hlt)
      have hsz := HZ2.out (new.getD i ⟨#[]⟩) (by rw [List.getD_eq_getElem?_getD, List.getElem?_eq_getElem hlt]; exact List.getElem_mem hlt)
      have HCx := mkHid (find60 (new.getD i ⟨#[]⟩) b m old wr hfd.out hsz)
      have htl : ((new.take i).map (amongZ old)).length = i := by simp; omega
      have hpush := push_int wr w.heap.size p d ((new.take i).map (amongZ old)) (amongZ old (new.getD i ⟨#[]⟩)) (by rw [htl]; exact hrow.out) (by rw [htl]; omega) hfr.out.size
      rw [htl] at hpush
      obtain ⟨p5, c5, w5, q1, q2, q3⟩ := hpush
      have f5 : Fr (blk p) wr w5 := by
        rcases q3 with ⟨_, _, f⟩ | ⟨f, _⟩
        · exact f
        · exact f.mono (by simp)
      have e5 : (new.take i).map (amongZ old) ++ [amongZ old (new.getD i ⟨#[]⟩)] = (new.take (i + 1)).map (amongZ old) := by rw [← take_snoc hlt, List.map_append]; rfl
      rw [e5] at q2
      have HRow : Hid (w5.ownsRow w.heap.size 3 1 (.slice p5 (i + 1) c5) (i + 1) (ints ((new.take (i + 1)).map (amongZ old)))) := mkHid (by
        have hl2 : ((new.take (i + 1)).map (amongZ old)).length = i + 1 := by simp; omega
        rw [hl2] at q2; exact q2)
      have hbne : b ∉ blk p := fun hm => by
        obtain ⟨cur, hc⟩ := own_blk hrow.out _ hm
        have := hfd.out.box
        rw [hc] at this
        simp at this
      have hmne : m ∉ blk p := fun hm => by
        obtain ⟨cur, hc⟩ := own_blk hrow.out _ hm
        obtain ⟨nn, D, ⟨es, clock, q1, _⟩, _⟩ := hfd.out.map
        rw [hc] at q1
        cases q1
      have HF5 := mkHid (hfd.out.keep f5 hbne hmne)
      have HFr5 : Hid (Fr [] w w5) := mkHid (hfr.out.trans f5 (fun g hg => Or.inr (own_lt hrow.out g ((blk_own _ _ _ _).2 hg)).1))
      have HR5 := mkHid q1
      clear x1 x2 q1 q2 q3 f5 e5 hbne hmne hrow hfd hfr htl HN1 HZ2
      generalize new.getD i ⟨#[]⟩ = s at *
      generalize amongZ old s = z at *
      go_wp2_with (first
        | (go_at_call 60; refine HCx.out.mono ?_; rintro e w9 ⟨rfl, rfl⟩)
        | (at_builtin; refine Lib.wpList_append_run _ rfl (.tmp 20) (.tmp 24) 34 34 rfl _ _ rfl rfl _ _ HR5.out ?_))
      go_roundw
      case rel => exact ⟨i + 1, p5, c5, by omega, rfl, by go_num, HRow, HF5, HFr5⟩
      case measure => simp [intOf]; omega
    · have hie : i = new.length := by omega
      subst hie
      rw [List.take_length] at hrow
      clear HN1 HZ2 hfd
      go_wp2_with fail
      go_ret
      exact ⟨p, d, by rw [List.length_map]; rfl, by rw [List.length_map]; exact hrow.out, hfr.out⟩
end Go.Proofs.Ytblbjgifhgfifaa
