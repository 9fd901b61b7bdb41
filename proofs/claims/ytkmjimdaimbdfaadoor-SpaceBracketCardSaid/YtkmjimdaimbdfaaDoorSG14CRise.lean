import Derived.Test.YtkmjimdaimbdfaaDoorSG13HKeys
import Derived.BigQuiet
import Derived.Test.YtkmjimdaimbdfaaDoorSG06HTold
import Derived.RangeFuncNested
import Derived.RangeFuncBound
import Derived.RangeFuncCalls
import Derived.RangeFuncLeaves
import Derived.Shelf.Abstract
import Derived.Shelf.RegionOpen
import Derived.WalkKit
import Derived.OwnWalkIn
import Derived.TacticsInMore
import Derived.LoopNIn
import Derived.LoopIn
import Derived.Test.YtkmjimdaimbdfaaDoorSG08HInvE
namespace Go.Proofs.YtkmjimdaimbdfaaDoor
open Go.RowKit
set_option linter.unusedVariables false
attribute [local go_sem ↓] Go.wp_at_zero Go.wp_at_succ
set_option maxHeartbeats 1000000 in
theorem Oop_yes (n : Int) (w : World) (hT : Tab w) (hk : kindOf n = 3) : Calls Tryd.prog 101 #[.int .i64 n] w fun e w' => e = .returned (.tuple #[.int .i64 (n / 4), .int .i64 0]) ∧ w' = w := by
  have hK := kind_any n w hT
  rw [hk] at hK
  obtain ⟨h1, h2, h3⟩ := (kind3 n).1 hk
  have hd : n.tdiv 4 = n / 4 := Int.tdiv_eq_ediv_of_nonneg (by omega)
  have HK := mkHid hK
  clear hK hT hk
  go_enter Tryd.func101, Tryd.ntmps101
  go_wp2_with (go_at_call 92; refine Calls.mono HK.out ?_; rintro e w' ⟨rfl, hw'⟩; rw [hw']; clear hw' w')
  go_ret2
  refine ⟨?_, rfl⟩
  first | rfl | (rw [hd]) | (congr 4)
set_option maxHeartbeats 1000000 in
theorem Oop_no (n : Int) (w : World) (hT : Tab w) (hk : kindOf n ≠ 3) : Calls Tryd.prog 101 #[.int .i64 n] w fun e w' => e = .returned (.tuple #[.int .i64 0, .int .i64 10]) ∧ w' = w := by
  have hK := kind_any n w hT
  have hb : (kindOf n == 3) = false := by simpa using hk
  have HK := mkHid hK
  generalize kindOf n = kz at *
  clear hK hT hk
  go_enter Tryd.func101, Tryd.ntmps101
  go_wp2_with (go_at_call 92; refine Calls.mono HK.out ?_; rintro e w' ⟨rfl, hw'⟩; rw [hw']; clear hw' w')
  go_ret2
  exact ⟨rfl, rfl⟩
/-- does a word name an object of the heap? -/
def namesB (H : HS) (n : Int) : Bool := decide (kindOf n = 3) && has H (n / 4)
set_option maxHeartbeats 1000000 in
theorem named_yes (n : Int) (a : Nat) (l : Lay) (H : HS) (M : MS) (w : World) (h : Rep w a l H) (hi : Inv H M) (hT : Tab w) (hn : namesB H n = true) :
    Calls Tryd.prog 87 #[.pointer (some ⟨a, 0, none⟩), .int .i64 n] w fun e w' => e = .returned (.tuple #[.int .i64 (n / 4), .bool true]) ∧ Fr [] w w' := by
  unfold namesB at hn
  simp only [Bool.and_eq_true, decide_eq_true_eq] at hn
  obtain ⟨hk, hh⟩ := hn
  have hm : mhas M (n / 4) = true := by rw [← hi.hasM]; exact hh
  have hm2 := of_decide_eq_true hm
  obtain ⟨q, hq⟩ : ∃ q : Nat, n / 4 = (q : Int) + 1 := ⟨(n / 4).toNat - 1, by omega⟩
  have hb : (M.things.getD q noTh).there = true := by have := hm2.2.2; rwa [show (n / 4).toNat - 1 = q from by omega] at this
  have hI := hi.is q (th_in hb) hb
  have hmem : (H.mem.length : Int) ≤ 1048576 := by have := hi.safe.small.mem; have := hi.safe.small.words; omega
  have hr := hI.room
  have h22 := lenN_two (M.things.getD q noTh).slots.length (M.things.getD q noTh).fmt
  have HC := mkHid (Class_ok (q + 1) a l H w h hI.has (by omega) hmem)
  have HO := mkHid (Oop_yes n w hT hk)
  rw [hq] at HO ⊢
  generalize H.mem.getD (H.seats.getD (q + 1) (0, 0, 0)).1 0 = cz at *
  rw [show ((q + 1 : Nat) : Int) = (q : Int) + 1 from by omega] at HC
  clear hh hk hm hm2 hb hI hq h hi hT
  go_enter Tryd.func87, Tryd.ntmps87
  go_wp2_with (go_at_call 101; refine Calls.mono HO.out ?_; rintro e w' ⟨rfl, hw'⟩; rw [hw']; clear hw' w')
  refine Calls.mono HC.out ?_
  rintro e w2 ⟨rfl, hf2⟩
  go_wp2_with fail
  go_ret2
  exact ⟨rfl, hf2⟩
set_option maxHeartbeats 1000000 in
theorem named_no (n : Int) (a : Nat) (l : Lay) (H : HS) (w : World) (h : Rep w a l H) (hT : Tab w) (hn : namesB H n = false) :
    Calls Tryd.prog 87 #[.pointer (some ⟨a, 0, none⟩), .int .i64 n] w fun e w' => e = .returned (.tuple #[.int .i64 0, .bool false]) ∧ Fr [] w w' := by
  by_cases hk : kindOf n = 3
  · have hh : has H (n / 4) = false := by unfold namesB at hn; rw [decide_eq_true hk] at hn; simpa using hn
    have HC := mkHid (Class_no (n / 4) a l H w h hh)
    have HO := mkHid (Oop_yes n w hT hk)
    generalize n / 4 = q at *
    clear hh hk h hT hn
    go_enter Tryd.func87, Tryd.ntmps87
    go_wp2_with (go_at_call 101; refine Calls.mono HO.out ?_; rintro e w' ⟨rfl, hw'⟩; rw [hw']; clear hw' w')
    refine Calls.mono HC.out ?_
    rintro e w2 ⟨rfl, hf2⟩
    go_wp2_with fail
    go_ret2
    exact ⟨rfl, hf2⟩
  · have HO := mkHid (Oop_no n w hT hk)
    clear hk h hT hn
    go_enter Tryd.func87, Tryd.ntmps87
    go_wp2_with (go_at_call 101; refine Calls.mono HO.out ?_; rintro e w' ⟨rfl, hw'⟩; rw [hw']; clear hw' w')
    go_ret2
    exact ⟨rfl, Fr.refl _ _⟩
end Go.Proofs.YtkmjimdaimbdfaaDoor


namespace Go.Proofs.YtkmjimdaimbdfaaDoor
open Go.RowKit
set_option linter.unusedVariables false
attribute [local go_sem ↓] Go.wp_at_zero Go.wp_at_succ
set_option maxHeartbeats 1000000 in
theorem marks_nil (p : Option Addr) (c : Nat) (w : World) : Calls Tryd.prog 85 #[.slice p 0 c] w fun e w' => e = .returned (.slice none 0 0) ∧ w' = w := by
  go_enter Tryd.func85, Tryd.ntmps85
  go_wp2_with fail
  go_ret
  exact ⟨rfl, rfl⟩
set_option maxRecDepth 20000 in
set_option maxHeartbeats 1000000 in
theorem marks_ok (g : Nat) (c : Nat) (n z : Nat) (w : World) (hn : 0 < n) (hl : n ≤ 1048576) (hz : z < 1048576) (hc : w.cell? ⟨g, n - 1, none⟩ = some (.int .i64 (z : Int))) :
    Calls Tryd.prog 85 #[.slice (some ⟨g, 0, none⟩) n c] w fun e w' => e = .returned (.slice (some ⟨w.heap.size, 0, none⟩) (z + 1) (z + 1)) ∧ w' = w.alloc (.cells (keptL (z + 1) []).toArray 4) := by
  have k0 : ((n : Int) == 0) = false := by simpa using (by omega : ¬ (n : Int) = 0)
  have k1 : (0 : Int) ≤ (n : Int) - 1 := by omega
  have k2 : (n : Int) - 1 < (n : Int) := by omega
  have hmk := make_bools (z + 1) (by omega) w
  rw [show ((z + 1 : Nat) : Int) = (z : Int) + 1 from by omega] at hmk
  go_enter Tryd.func85, Tryd.ntmps85
  go_wp2_with fail
  go_ret
  exact ⟨rfl, rfl⟩
end Go.Proofs.YtkmjimdaimbdfaaDoor


namespace Go.Proofs.YtkmjimdaimbdfaaDoor
open Go.RowKit
set_option linter.unusedVariables false
attribute [local go_sem ↓] Go.wp_at_zero Go.wp_at_succ
/-- those of the first k that are marked -/
def markedTo (ks rs : List Nat) (k : Nat) : List Nat := (ks.take k).filter fun x => decide (x ∈ rs)
theorem markedTo_succ (ks rs : List Nat) (k : Nat) (hk : k < ks.length) : markedTo ks rs (k + 1) = markedTo ks rs k ++ (if ks.getD k 0 ∈ rs then [ks.getD k 0] else []) := by
  unfold markedTo
  have e : ks.getD k 0 = ks[k] := by rw [List.getD_eq_getElem?_getD, List.getElem?_eq_getElem hk]; rfl
  rw [List.take_succ_eq_append_getElem hk, List.filter_append, e]
  congr 1
  by_cases h : ks[k] ∈ rs
  · rw [if_pos h, List.filter_cons_of_pos (by simpa using h)]; rfl
  · rw [if_neg h, List.filter_cons_of_neg (by simpa using h)]; rfl
theorem markedTo_len (ks rs : List Nat) (k : Nat) : (markedTo ks rs k).length ≤ k := by
  have := List.length_filter_le (fun x => decide (x ∈ rs)) (ks.take k)
  unfold markedTo
  have h2 : (ks.take k).length ≤ k := by simp; omega
  omega
set_option maxRecDepth 20000 in
set_option maxHeartbeats 2000000 in
theorem marked_ok (ks rs : List Nat) (n : Nat) (p : Option Addr) (c : Nat) (ps : Option Addr) (sc : Nat) (w : World) (hr : Rd w (.slice p ks.length c) (ks.map fun x : Nat => (x : Int))) (hs : 0 < ks.length → ∃ sb, ps = some ⟨sb, 0, none⟩ ∧ sb < w.heap.size ∧ ∀ i, i < n → w.cell? ⟨sb, i, none⟩ = some (.bool (decide (i ∈ rs)))) (hlt : ∀ k ∈ ks, k < n) (hl : ks.length ≤ 1048576) (hn : n ≤ 1048576) :
    Calls Tryd.prog 89 #[.slice p ks.length c, .slice ps n sc] w fun e w' => ∃ v, e = .returned v ∧ w'.ownsRow w.heap.size 3 1 v (ks.filter fun x => decide (x ∈ rs)).length ((ks.filter fun x => decide (x ∈ rs)).map I) ∧ Fr [] w w' := by
  obtain ⟨j0, ji, jz0, jz1, jz2⟩ := info_parts info3
  have HRd := mkHid hr
  have HS := mkHid hs
  have HLt := mkHid hlt
  clear hr hs hlt
  go_enter Tryd.func89, Tryd.ntmps89
  go_wp2_with fail
  go_loopw [5, 10] (fun v q wr => ∃ k : Nat, k ≤ ks.length ∧ q = .int .i64 k ∧ wr.ownsRow w.heap.size 3 1 v (markedTo ks rs k).length ((markedTo ks rs k).map I) ∧ Hid (Fr [] w wr)) (fun _ q _ => ks.length - (intOf q).toNat)
  case atStart => exact ⟨0, Nat.zero_le _, rfl, World.ownsRow_nil _ _ _ _, Fr.refl _ _⟩
  case round =>
    obtain ⟨k, hkn, rfl, hown, hfr⟩ := hrel
    by_cases hk : k < ks.length
    · have hz := hfr.out.size
      obtain ⟨p', c', ee, hrow⟩ := (HRd.out.idle hfr.out).at_
      rw [List.length_map] at ee hrow
      injection ee with ee _ eec
      subst ee
      subst eec
      obtain ⟨g, off, rfl, hgl, hc⟩ := hrow (by omega)
      have q0 := hc k hk
      have hm : ks.getD k 0 ∈ ks := by rw [List.getD_eq_getElem?_getD, List.getElem?_eq_getElem hk]; exact List.getElem_mem hk
      have e1 : (ks.map fun x : Nat => (x : Int)).getD k 0 = ((ks.getD k 0 : Nat) : Int) := by
        rw [List.getD_eq_getElem?_getD, List.getD_eq_getElem?_getD, List.getElem?_map, List.getElem?_eq_getElem hk]; rfl
      rw [e1] at q0
      obtain ⟨sb, rfl, hsl, hsc⟩ := HS.out (by omega)
      have q1 := (hfr.out.cell (p := ⟨sb, ks.getD k 0, none⟩) hsl (by simp)).trans (hsc _ (HLt.out _ hm))
      have hx := HLt.out _ hm
      have hsu := markedTo_succ ks rs k hk
      have hle := markedTo_len ks rs k
      have k1 : (0 : Int) ≤ (k : Int) := by omega
      have k2 : (k : Int) < (ks.length : Int) := by omega
      have HSU := mkHid hsu
      clear hsu hrow hc e1 hm hsc
      generalize ks.getD k 0 = z at *
      have k3 : (0 : Int) ≤ (z : Int) := by omega
      have k4 : (z : Int) < (n : Int) := by omega
      generalize hX : markedTo ks rs k = X at *
      clear hX
      by_cases hy : z ∈ rs
      · rw [decide_eq_true hy] at q1
        have HS2 := HSU.out
        rw [if_pos hy] at HS2
        have HS3 := mkHid HS2
        clear HS2 HSU hy
        have hown2 := hown.alloc (.cells #[.int .i64 (z : Int)] 3)
        have HFA : Hid (Fr [] w (wr.alloc (.cells #[.int .i64 (z : Int)] 3))) := hfr.out.trans (Fr.alloc [] _ _) (by simp)
        clear hown
        go_wp2_with (first
          | (at_builtin; refine wpList_append_own _ rfl (.tmp 18) (.tmp 20) 47 rfl w.heap.size 3 j0 (.int .i64 0) 1 8 Tryd.underlying47 ji jz0 jz1 jz2 rfl (by decide) _ _ _ rfl hown2 ⟨wr.heap.size, 0, none⟩ 1 1 [.int .i64 (z : Int)] rfl rfl ?c1 ?c2 ?c3 ?c4 ?c5 ?_)
          | go_in)
        case c2 => first | rfl | (intro u hu; simp at hu; subst hu; rfl)
        case c3 => unfold maxLen; omega
        case c4 => omega
        case c5 => first | omega | (simp; omega)
        intro v' w1 hown' hgrow _
        have HG : Hid (Fr [] w w1) := by
          refine ⟨hgrow.os.trans HFA.out.os, hgrow.tape.trans HFA.out.tape, hgrow.output.trans HFA.out.output, Nat.le_trans HFA.out.size hgrow.size, fun i hi hn => ?_⟩
          rw [hgrow.block i (Nat.lt_of_lt_of_le hi HFA.out.size) (fun e => ?_)]
          · exact HFA.out.block i hi hn
          · have := (hown2.lt i e.symm).1
            omega
        have HO := mkHid hown'
        clear hown' hgrow hown2 HFA
        go_wp2
        go_roundw
        case rel => exact ⟨k + 1, by omega, by go_num, by rw [HS3.out]; simpa [I] using HO.out, HG⟩
        case measure => simp [intOf]; omega
      · rw [decide_eq_false hy] at q1
        have HS2 := HSU.out
        rw [if_neg hy, List.append_nil] at HS2
        have HS3 := mkHid HS2
        have HO := mkHid hown
        clear HS2 HSU hy hown
        go_wp2
        go_roundw
        case rel => exact ⟨k + 1, by omega, by go_num, by rw [HS3.out]; exact HO.out, hfr⟩
        case measure => simp [intOf]; omega
    · have hke : k = ks.length := by omega
      subst hke
      unfold markedTo at hown
      rw [List.take_length] at hown
      have HO := mkHid hown
      clear hown
      go_wp2
      go_ret
      exact ⟨_, rfl, HO.out, hfr.out⟩
end Go.Proofs.YtkmjimdaimbdfaaDoor


namespace Go.Proofs.YtkmjimdaimbdfaaDoor
open Go.RowKit
set_option linter.unusedVariables false
attribute [local go_sem ↓] Go.wp_at_zero Go.wp_at_succ
/-- how a walk over the heap stands: what was reached, and what is still to be gone from; all its blocks from B on -/
structure Rc (B : Nat) (W : World) (a bh br ba : Nat) (ps : Option Addr) (n sc : Nat) (rs ah : List Nat) (av : Value) : Prop where
  lo : B ≤ bh ∧ B ≤ br ∧ B ≤ ba
  hbox : W.heap[bh]? = some (.cells #[.pointer (some ⟨a, 0, none⟩)] 38 (0, 0))
  rbox : W.heap[br]? = some (.cells #[.slice ps n sc] 128 (0, 0))
  abox : W.heap[ba]? = some (.cells #[av] 47 (0, 0))
  row : W.ownsRow B 3 1 av ah.length (ah.map I)
  marksAt : 0 < n → ∃ sb, ps = some ⟨sb, 0, none⟩ ∧ B ≤ sb ∧ W.heap[sb]? = some (.cells (keptL n rs).toArray 4 (0, 0))
/-- the blocks that meet writes -/
def touch (ps : Option Addr) (ba : Nat) (av : Value) : List Nat := (ps.map (·.block)).toList ++ ba :: av.ownBlock.toList
theorem Rc.idle {B : Nat} {W V : World} {a bh br ba : Nat} {ps : Option Addr} {n sc : Nat} {rs ah : List Nat} {av : Value} (h : Rc B W a bh br ba ps n sc rs ah av) (hf : Fr [] W V) : Rc B V a bh br ba ps n sc rs ah av :=
  ⟨h.lo, (hf.block _ (lt_of_heap h.hbox) (by simp)).trans h.hbox, (hf.block _ (lt_of_heap h.rbox) (by simp)).trans h.rbox, (hf.block _ (lt_of_heap h.abox) (by simp)).trans h.abox, own_congr h.row fun g hg => hf.block g (h.row.lt g hg).2 (by simp), fun hn => by
    obtain ⟨sb, h1, h2, h3⟩ := h.marksAt hn
    exact ⟨sb, h1, h2, (hf.block _ (lt_of_heap h3) (by simp)).trans h3⟩⟩
set_option maxRecDepth 20000 in
set_option maxHeartbeats 1000000 in
theorem meet_no (z : Int) (B : Nat) (a bh br ba : Nat) (ps : Option Addr) (n sc : Nat) (rs ah : List Nat) (av : Value) (l : Lay) (H : HS) (w : World) (h : Rep w a l H) (hT : Tab w) (hr : Rc B w a bh br ba ps n sc rs ah av) (hz : namesB H z = false) :
    Calls Tryd.prog 86 #[.int .i64 z, .pointer (some ⟨bh, 0, none⟩), .pointer (some ⟨br, 0, none⟩), .pointer (some ⟨ba, 0, none⟩)] w fun e w' => e = .returned (.tuple #[]) ∧ Fr [] w w' := by
  have c0 : w.cell? ⟨bh, 0, none⟩ = some (.pointer (some ⟨a, 0, none⟩)) := by rw [cell_in hr.hbox]; rfl
  have HN := mkHid (named_no z a l H w h hT hz)
  clear h hT hr hz
  go_enter Tryd.func86, Tryd.ntmps86
  go_wp2_with fail
  refine Calls.mono HN.out ?_
  rintro e w2 ⟨rfl, hf2⟩
  go_wp2_with fail
  refine bodyPost_ret (results_none rfl _ _ _) rfl ?_
  exact ⟨rfl, hf2⟩
set_option maxRecDepth 20000 in
set_option maxHeartbeats 1000000 in
theorem meet_old (z : Int) (q : Nat) (B : Nat) (a bh br ba : Nat) (ps : Option Addr) (n sc : Nat) (rs ah : List Nat) (av : Value) (l : Lay) (H : HS) (M : MS) (w : World) (h : Rep w a l H) (hi : Inv H M) (hT : Tab w) (hr : Rc B w a bh br ba ps n sc rs ah av) (hz : namesB H z = true) (hq : z / 4 = (q : Int)) (hqn : q < n) (hn : n ≤ 1048576) (hm : q ∈ rs) :
    Calls Tryd.prog 86 #[.int .i64 z, .pointer (some ⟨bh, 0, none⟩), .pointer (some ⟨br, 0, none⟩), .pointer (some ⟨ba, 0, none⟩)] w fun e w' => e = .returned (.tuple #[]) ∧ Fr [] w w' := by
  have c0 : w.cell? ⟨bh, 0, none⟩ = some (.pointer (some ⟨a, 0, none⟩)) := by rw [cell_in hr.hbox]; rfl
  have hN := named_yes z a l H M w h hi hT hz
  rw [hq] at hN
  have HN := mkHid hN
  obtain ⟨sb, rfl, hsl, hsb⟩ := hr.marksAt (by omega)
  have HR := mkHid hr
  have HSB := mkHid hsb
  have k1 : (0 : Int) ≤ (q : Int) := by omega
  have k2 : (q : Int) < (n : Int) := by omega
  have HM : Hid (decide (q ∈ rs) = true) := decide_eq_true hm
  clear h hT hr hz hN hi hsb hm
  go_enter Tryd.func86, Tryd.ntmps86
  go_wp2_with fail
  refine Calls.mono HN.out ?_
  rintro e w2 ⟨rfl, hf2⟩
  have b1 := (hf2.block _ (lt_of_heap HR.out.rbox) (by simp)).trans HR.out.rbox
  have b2 := (hf2.block _ (lt_of_heap HSB.out) (by simp)).trans HSB.out
  have c1 : w2.cell? ⟨br, 0, none⟩ = some (.slice (some ⟨sb, 0, none⟩) n sc) := by rw [cell_in b1]; rfl
  have c2 : w2.cell? ⟨sb, q, none⟩ = some (.bool true) := by
    rw [cell_in b2]
    have := keptL_at n rs q (by omega)
    rw [HM.out] at this
    simpa using this
  have HF := mkHid hf2
  clear b1 b2 hf2
  go_wp2_with fail
  refine bodyPost_ret (results_none rfl _ _ _) rfl ?_
  exact ⟨rfl, HF.out⟩
set_option maxRecDepth 20000 in
set_option maxHeartbeats 1000000 in
theorem meet_new (z : Int) (q : Nat) (B : Nat) (a bh br ba : Nat) (ps : Option Addr) (n sc : Nat) (rs ah : List Nat) (av : Value) (l : Lay) (H : HS) (M : MS) (w : World) (h : Rep w a l H) (hi : Inv H M) (hT : Tab w) (hr : Rc B w a bh br ba ps n sc rs ah av) (hz : namesB H z = true) (hq : z / 4 = (q : Int)) (hqn : q < n) (hn : n ≤ 1048576) (hm : q ∉ rs) (hal : ah.length ≤ 1048576) :
    Calls Tryd.prog 86 #[.int .i64 z, .pointer (some ⟨bh, 0, none⟩), .pointer (some ⟨br, 0, none⟩), .pointer (some ⟨ba, 0, none⟩)] w fun e w' => e = .returned (.tuple #[]) ∧ ∃ av', Rc B w' a bh br ba ps n sc (rs ++ [q]) (ah ++ [q]) av' ∧ Fr (touch ps ba av) w w' ∧ (av'.ownBlock = av.ownBlock ∨ ∃ g, av'.ownBlock = some g ∧ w.heap.size ≤ g) := by
  obtain ⟨j0, ji, jz0, jz1, jz2⟩ := info_parts info3
  have c0 : w.cell? ⟨bh, 0, none⟩ = some (.pointer (some ⟨a, 0, none⟩)) := by rw [cell_in hr.hbox]; rfl
  have hN := named_yes z a l H M w h hi hT hz
  rw [hq] at hN
  have HN := mkHid hN
  obtain ⟨sb, rfl, hsl, hsb⟩ := hr.marksAt (by omega)
  obtain ⟨pa, ca, rfl⟩ : ∃ pa ca, av = .slice pa ah.length ca := by
    rcases hr.row.2 with ⟨h2, h3⟩ | ⟨g, cap, cur, h2, h3⟩
    · exact ⟨none, 0, by rw [h2, h3]⟩
    · exact ⟨some ⟨g, 0, none⟩, cap, h2⟩
  have HR := mkHid hr
  have HSB := mkHid hsb
  have k1 : (0 : Int) ≤ (q : Int) := by omega
  have k2 : (q : Int) < (n : Int) := by omega
  have HM : Hid (decide (q ∈ rs) = false) := decide_eq_false hm
  clear h hT hr hz hN hi hsb hm
  go_enter Tryd.func86, Tryd.ntmps86
  go_wp2_with fail
  refine Calls.mono HN.out ?_
  rintro e w2 ⟨rfl, hf2⟩
  have hr2 := HR.out.idle hf2
  have b2 := (hf2.block _ (lt_of_heap HSB.out) (by simp)).trans HSB.out
  have c1 : w2.cell? ⟨br, 0, none⟩ = some (.slice (some ⟨sb, 0, none⟩) n sc) := by rw [cell_in hr2.rbox]; rfl
  have c2 : w2.cell? ⟨sb, q, none⟩ = some (.bool false) := by
    rw [cell_in b2]
    have := keptL_at n rs q (by omega)
    rw [HM.out] at this
    simpa using this
  have f2 : w2.frozen? ⟨sb, q, none⟩ = false := frozen_in b2 q
  have n1 : sb ≠ ba := fun e => by have h1 := hr2.abox; rw [← e, b2] at h1; simp at h1
  have n2 : sb ≠ br := fun e => by have h1 := hr2.rbox; rw [← e, b2] at h1; simp at h1
  have n3 : sb ≠ bh := fun e => by have h1 := hr2.hbox; rw [← e, b2] at h1; simp at h1
  have n4 : ba ≠ br := fun e => by have h1 := hr2.abox; rw [e, hr2.rbox] at h1; simp at h1
  have n5 : ba ≠ bh := fun e => by have h1 := hr2.abox; rw [e, hr2.hbox] at h1; simp at h1
  have hrowne : ∀ b, (Value.slice pa ah.length ca).ownBlock = some b → b ≠ sb ∧ b ≠ ba ∧ b ≠ br ∧ b ≠ bh := fun b hb => by
    rcases hr2.row.2 with ⟨q1, _⟩ | ⟨g1, cap1, cur1, q1, q2, q3, _⟩
    · rw [q1] at hb; simp [Value.ownBlock] at hb
    · rw [q1] at hb
      have a1 : g1 = b := by simpa [Value.ownBlock] using hb
      subst a1
      refine ⟨fun e => ?_, fun e => ?_, fun e => ?_, fun e => ?_⟩
      · rw [e, b2] at q3; simp at q3
      · rw [e, hr2.abox] at q3; simp at q3
      · rw [e, hr2.rbox] at q3; simp at q3
      · rw [e, hr2.hbox] at q3; simp at q3
  have c3 : w2.cell? ⟨ba, 0, none⟩ = some (.slice pa ah.length ca) := by rw [cell_in hr2.abox]; rfl
  have f3 : w2.frozen? ⟨ba, 0, none⟩ = false := frozen_in hr2.abox 0
  have hrow3 : ((w2.setCell ⟨sb, q, none⟩ (.bool true)).alloc (.cells #[.int .i64 (q : Int)] 3)).ownsRow B 3 1 (.slice pa ah.length ca) ah.length (ah.map I) := (own_congr hr2.row fun g hg => set_else (hrowne g hg).1).alloc _
  have hz2 := lt_of_heap b2
  have hza := lt_of_heap hr2.abox
  have HR2 := mkHid hr2
  have HB2 := mkHid b2
  have HF2 := mkHid hf2
  have hBs : B ≤ w2.heap.size := by omega
  clear hr2 b2 hf2
  go_wp2_with (at_builtin; refine wpList_append_lies _ rfl (.tmp 24) (.tmp 26) 47 rfl B 3 j0 (.int .i64 0) 1 8 Tryd.underlying47 ji jz0 jz1 jz2 rfl (by decide) _ _ _ rfl hrow3 ⟨w2.heap.size, 0, none⟩ 1 1 [.int .i64 (q : Int)] rfl rfl ?c1 ?c2 (by decide) ?c3 ?c4 ?c5 (w2.heap.size + 1) (by simp) ?_)
  case c1 =>
    have hnn := World.news_of_block (heap_alloc_new (w2.setCell ⟨sb, q, none⟩ (.bool true)) (.cells #[.int .i64 (q : Int)] 3))
    have hsz : (w2.setCell ⟨sb, q, none⟩ (.bool true)).heap.size = w2.heap.size := by simp
    rw [hsz] at hnn
    exact hnn
  case c2 => intro u hu; simp at hu; subst hu; rfl
  case c3 => unfold maxLen; omega
  case c4 => omega
  case c5 => simp; omega
  intro g cap w3 hown3 hgrow3 hat3 hlt3
  have hsame : ∀ b, b < w2.heap.size → b ≠ sb → some b ≠ (Value.slice pa ah.length ca).ownBlock → w3.heap[b]? = w2.heap[b]? := fun b h1 h2 h3 => by
    rw [hgrow3.block b (by simp; omega) h3, Below.heap_alloc _ _ _ (by simp; omega), set_else h2]
  have e1 : w3.heap[ba]? = some (.cells #[.slice pa ah.length ca] 47 (0, 0)) := (hsame ba hza (fun e => n1 e.symm) (fun e => (hrowne ba e.symm).2.1 rfl)).trans HR2.out.abox
  have e2 : w3.heap[br]? = some (.cells #[.slice (some ⟨sb, 0, none⟩) n sc] 128 (0, 0)) := (hsame br (lt_of_heap HR2.out.rbox) (fun e => n2 e.symm) (fun e => (hrowne br e.symm).2.2.1 rfl)).trans HR2.out.rbox
  have e3 : w3.heap[bh]? = some (.cells #[.pointer (some ⟨a, 0, none⟩)] 38 (0, 0)) := (hsame bh (lt_of_heap HR2.out.hbox) (fun e => n3 e.symm) (fun e => (hrowne bh e.symm).2.2.2 rfl)).trans HR2.out.hbox
  have e4 : w3.heap[sb]? = some (.cells (keptL n (rs ++ [q])).toArray 4 (0, 0)) := by
    rw [hgrow3.block sb (by simp; omega) (fun e => (hrowne sb e.symm).1 rfl), Below.heap_alloc _ _ _ (by simp; omega), set_in HB2.out]
    rw [← keptL_snoc]
    simp
  have d3 : w3.cell? ⟨ba, 0, none⟩ = some (.slice pa ah.length ca) := by rw [cell_in e1]; rfl
  have g3 : w3.frozen? ⟨ba, 0, none⟩ = false := frozen_in e1 0
  have hg : g ≠ ba := by
    rcases hat3 with h1 | h1
    · exact (hrowne g h1).2.1
    · omega
  have hws := HF2.out.size
  have HE : Hid (∃ av', Rc B (w3.setCell ⟨ba, 0, none⟩ (.slice (some ⟨g, 0, none⟩) (ah.length + 1) cap)) a bh br ba (some ⟨sb, 0, none⟩) n sc (rs ++ [q]) (ah ++ [q]) av' ∧ Fr (touch (some ⟨sb, 0, none⟩) ba (Value.slice pa ah.length ca)) w (w3.setCell ⟨ba, 0, none⟩ (.slice (some ⟨g, 0, none⟩) (ah.length + 1) cap)) ∧ (av'.ownBlock = (Value.slice pa ah.length ca).ownBlock ∨ ∃ g, av'.ownBlock = some g ∧ w.heap.size ≤ g)) := by
    refine ⟨.slice (some ⟨g, 0, none⟩) (ah.length + 1) cap, ⟨HR2.out.lo, by rw [set_else (fun e => n5 e.symm)]; exact e3, by rw [set_else (fun e => n4 e.symm)]; exact e2, by rw [set_in e1]; rfl, ?_, fun _ => ⟨sb, rfl, hsl, by rw [set_else n1]; exact e4⟩⟩, ?_, ?_⟩
    · rw [List.length_append, List.map_append]
      exact own_congr hown3 fun g' hg' => set_else (by
        have : g = g' := by simpa [Value.ownBlock] using hg'
        omega)
    · show Fr (sb :: ba :: ((Value.slice pa ah.length ca).ownBlock).toList) w _
      have hF3 : Fr (sb :: ba :: ((Value.slice pa ah.length ca).ownBlock).toList) w w3 := by
        have h1 : Fr (sb :: ba :: ((Value.slice pa ah.length ca).ownBlock).toList) w ((w2.setCell ⟨sb, q, none⟩ (.bool true)).alloc (.cells #[.int .i64 (q : Int)] 3)) := ((HF2.out.mono (S' := sb :: ba :: ((Value.slice pa ah.length ca).ownBlock).toList) (by simp)).trans (Fr.setCell (S := [sb]) w2 _ _ (by simp)) (fun b hb => by simp at hb; left; simp [hb])).trans (Fr.alloc [] _ _) (by simp)
        exact h1.trans (Fr.grown (S := ((Value.slice pa ah.length ca).ownBlock).toList) hgrow3 (fun k hk => by rw [hk]; simp)) (fun b hb => .inl (by simp [hb]))
      exact hF3.trans (Fr.setCell (S := [ba]) w3 _ _ (by simp)) (fun b hb => by simp at hb; left; simp [hb])
    · rcases hat3 with h1 | h1
      · exact .inl (by rw [h1]; rfl)
      · exact .inr ⟨g, rfl, by omega⟩
  go_wp2_with fail
  go_end0
  exact ⟨rfl, HE.out⟩
/-- one word met: what was reached, and what is still ahead -/
def seen1 (H : HS) (s : List Nat × List Nat) (z : Int) : List Nat × List Nat := if namesB H z = true ∧ (z / 4).toNat ∉ s.1 then (s.1 ++ [(z / 4).toNat], s.2 ++ [(z / 4).toNat]) else s
theorem meet_any (z : Int) (B : Nat) (a bh br ba : Nat) (ps : Option Addr) (n sc : Nat) (rs ah : List Nat) (av : Value) (l : Lay) (H : HS) (M : MS) (w : World) (h : Rep w a l H) (hi : Inv H M) (hT : Tab w) (hr : Rc B w a bh br ba ps n sc rs ah av) (hqn : namesB H z = true → 0 ≤ z / 4 ∧ (z / 4).toNat < n) (hn : n ≤ 1048576) (hal : ah.length ≤ 1048576) :
    Calls Tryd.prog 86 #[.int .i64 z, .pointer (some ⟨bh, 0, none⟩), .pointer (some ⟨br, 0, none⟩), .pointer (some ⟨ba, 0, none⟩)] w fun e w' => e = .returned (.tuple #[]) ∧ ∃ av', Rc B w' a bh br ba ps n sc (seen1 H (rs, ah) z).1 (seen1 H (rs, ah) z).2 av' ∧ Fr (touch ps ba av) w w' ∧ (av'.ownBlock = av.ownBlock ∨ ∃ g, av'.ownBlock = some g ∧ w.heap.size ≤ g) := by
  cases hz : namesB H z with
  | false =>
    have e : seen1 H (rs, ah) z = (rs, ah) := by unfold seen1; rw [if_neg (by simp [hz])]
    rw [e]
    refine (meet_no z B a bh br ba ps n sc rs ah av l H w h hT hr hz).mono ?_
    rintro e w' ⟨rfl, hf⟩
    exact ⟨rfl, av, hr.idle hf, hf.mono (by simp), .inl rfl⟩
  | true =>
    obtain ⟨h1, h2⟩ := hqn hz
    have hq : z / 4 = ((z / 4).toNat : Int) := by omega
    by_cases hm : (z / 4).toNat ∈ rs
    · have e : seen1 H (rs, ah) z = (rs, ah) := by unfold seen1; rw [if_neg (fun c => c.2 hm)]
      rw [e]
      refine (meet_old z _ B a bh br ba ps n sc rs ah av l H M w h hi hT hr hz hq h2 hn hm).mono ?_
      rintro e w' ⟨rfl, hf⟩
      exact ⟨rfl, av, hr.idle hf, hf.mono (by simp), .inl rfl⟩
    · have e : seen1 H (rs, ah) z = (rs ++ [(z / 4).toNat], ah ++ [(z / 4).toNat]) := by unfold seen1; rw [if_pos ⟨hz, hm⟩]
      rw [e]
      exact meet_new z _ B a bh br ba ps n sc rs ah av l H M w h hi hT hr hz hq h2 hn hm hal
end Go.Proofs.YtkmjimdaimbdfaaDoor


namespace Go.Proofs.YtkmjimdaimbdfaaDoor
open Go.RowKit Go.Shelf
set_option linter.unusedVariables false
attribute [local go_sem] Oper.semAt_some
/-- what a round over an object's words keeps: all below B, and the two boxes -/
structure Kl (B bh bo : Nat) (W W' : World) : Prop where
  low : Below B W W'
  hb : W'.heap[bh]? = W.heap[bh]?
  ob : W'.heap[bo]? = W.heap[bo]?
theorem Kl.trans {B bh bo : Nat} {W V U : World} (h : Kl B bh bo W V) (k : Kl B bh bo V U) : Kl B bh bo W U := ⟨h.low.trans k.low, k.hb.trans h.hb, k.ob.trans h.ob⟩
theorem Kl.fr {B bh bo : Nat} {W V : World} (hB : B ≤ W.heap.size) (h1 : bh < W.heap.size) (h2 : bo < W.heap.size) (h : Fr [] W V) : Kl B bh bo W V := ⟨h.below hB (by simp), h.block _ h1 (by simp), h.block _ h2 (by simp)⟩
/-- where the iterator stands: the heap, and its two boxes -/
structure Li (B bh bo a : Nat) (l : Lay) (H : HS) (oop : Nat) (W : World) : Prop where
  rep : Rep W a l H
  foot : ∀ g ∈ foot a l, g < B
  size : B ≤ W.heap.size
  hb : W.heap[bh]? = some (.cells #[.pointer (some ⟨a, 0, none⟩)] 38 (0, 0))
  ob : W.heap[bo]? = some (.cells #[.int .i64 (oop : Int)] 3 (0, 0))
theorem Li.kl {B bh bo a : Nat} {l : Lay} {H : HS} {oop : Nat} {W V : World} (h : Li B bh bo a l H oop W) (k : Kl B bh bo W V) : Li B bh bo a l H oop V :=
  ⟨h.rep.congr fun g hg => k.low.block g (h.foot g hg), h.foot, Nat.le_trans h.size k.low.size, k.hb.trans h.hb, k.ob.trans h.ob⟩
theorem Li.fr {B bh bo a : Nat} {l : Lay} {H : HS} {oop : Nat} {W V : World} (h : Li B bh bo a l H oop W) (k : Fr [] W V) : Li B bh bo a l H oop V :=
  h.kl (Kl.fr h.size (lt_of_heap h.hb) (lt_of_heap h.ob) k)
theorem Li.c0 {B bh bo a : Nat} {l : Lay} {H : HS} {oop : Nat} {W : World} (h : Li B bh bo a l H oop W) : W.cell? ⟨bh, 0, none⟩ = some (.pointer (some ⟨a, 0, none⟩)) := by rw [cell_in h.hb]; rfl
theorem Li.c1 {B bh bo a : Nat} {l : Lay} {H : HS} {oop : Nat} {W : World} (h : Li B bh bo a l H oop W) : W.cell? ⟨bo, 0, none⟩ = some (.int .i64 (oop : Int)) := by rw [cell_in h.ob]; rfl
/-- the words by which a thing leads on -/
def leadsOf (t : Th) : List Int := t.cls :: (if t.fmt = 0 then t.slots else [])
set_option maxRecDepth 100000 in
set_option maxHeartbeats 2000000 in
theorem leads1_in (n : Nat) (hn : 1 ≤ n) (lp B bh bo a : Nat) (l : Lay) (H : HS) (oop : Nat) (t : Th) (hi : Is H oop t) (hm : (H.mem.length : Int) ≤ 1048576) (J Jx : List Int → World → Prop)
    (hJ : ∀ pre W V, J pre W → Fr [] W V → J pre V)
    (hY : ∀ pre x W, J pre W → pre.length < t.slots.length + 1 → YieldAt Fence.wide (n - 1) Tryd.prog lp #[.int .i64 x] W fun e W' =>
      (e = .returned (.bool true) ∧ J (pre ++ [x]) W' ∧ Kl B bh bo W W') ∨ (e = .returned (.bool false) ∧ Jx (pre ++ [x]) W'))
    (W : World) (h : Li B bh bo a l H oop W) (h0 : J [] W) :
    CallsIn Fence.wide n Tryd.prog 102 #[.func (.yield lp) #[] #[], .pointer (some ⟨bh, 0, none⟩), .pointer (some ⟨bo, 0, none⟩)] W fun e W' => (∃ v, e = .returned v) ∧
      ((∃ ys, ys = leadsOf t ∧ J ys W') ∨ (∃ pre, True ∧ Jx pre W')) := by
  have hr := hi.room
  have h2' := lenN_two t.slots.length t.fmt
  have hC : ∀ V, Li B bh bo a l H oop V → Calls Tryd.prog 55 #[.pointer (some ⟨a, 0, none⟩), .int .i64 (oop : Int)] V fun e w' => e = .returned (.tuple #[.int .i64 t.cls, .int .i64 0]) ∧ Fr [] V w' := fun V hV => by
    have := Class_ok oop a l H V hV.rep hi.has (by omega) hm
    rw [hi.cls] at this
    exact this
  have hS : ∀ V, Li B bh bo a l H oop V → Calls Tryd.prog 61 #[.pointer (some ⟨a, 0, none⟩), .int .i64 (oop : Int)] V fun e w' => e = .returned (.tuple #[.int .i64 (t.slots.length : Nat), .int .i64 (t.fmt : Nat), .int .i64 0]) ∧ Fr [] V w' := fun V hV =>
    Size_ok oop t.slots.length t.fmt a l H V hV.rep hi.has hm (by omega) hi.shape (by have := hi.fmt; omega)
  have hA : ∀ V, Li B bh bo a l H oop V → ∀ i, i < t.slots.length → Calls Tryd.prog 103 #[.pointer (some ⟨a, 0, none⟩), .int .i64 (oop : Int), .int .i64 (i : Nat)] V fun e w' => e = .returned (.tuple #[.int .i64 (t.slots.getD i 0), .int .i64 0]) ∧ Fr [] V w' := fun V hV i hin =>
    hi.at i hin a l hm V hV.rep
  have HC := mkHid hC
  have HS1 := mkHid hS
  have HA := mkHid hA
  have hle := hi.len
  have hff := hi.fmt
  have HL := mkHid h
  have c0 := h.c0
  have c1 := h.c1
  clear hC hS hA h hi hr h2'
  refine callsIn_of_wp Tryd.func102 rfl trivial ?_ rfl
  simp only [Tryd.ntmps102, List.size_toArray, List.length_cons, List.length_nil, Nat.reduceAdd, Nat.reduceSub, Array.replicate_succ, Array.replicate_zero, List.push_toArray, List.append_toArray, List.nil_append, List.cons_append]
  gi_wp2
  refine ⟨trivial, ?_⟩
  refine (callsIn_wide.2 (HC.out W HL.out)).mono ?_
  rintro e W1 ⟨rfl, hf1⟩
  have h1 := HL.out.fr hf1
  obtain ⟨fn, tmps, assign, body, hy, hR⟩ := hY [] t.cls W1 (hJ _ _ _ h0 hf1) (by simp)
  clear c0 c1 h0 hf1 HL
  have H1 := mkHid h1
  clear h1
  gi_wp2
  refine hR.mono ?_
  clear hy hR
  rintro e W2 (⟨rfl, hJ2, hk2⟩ | ⟨rfl, hJx2⟩)
  case inr =>
    gi_wp2
    refine bodyPost_ret (results_none rfl _ _ _) rfl ?_
    exact ⟨⟨_, rfl⟩, .inr ⟨_, trivial, hJx2⟩⟩
  have h2 := H1.out.kl hk2
  have c0 := h2.c0
  have c1 := h2.c1
  have H2 := mkHid h2
  clear h2 hk2 H1
  gi_wp2
  refine ⟨trivial, ?_⟩
  refine (callsIn_wide.2 (HS1.out W2 H2.out)).mono ?_
  rintro e W3 ⟨rfl, hf3⟩
  have h3 := H2.out.fr hf3
  have hJ3 := hJ _ _ _ hJ2 hf3
  have H3 := mkHid h3
  clear c0 c1 h3 hf3 H2 hJ2
  by_cases hf : t.fmt = 0
  case neg =>
    have hf1 : t.fmt = 1 := by omega
    have HE : Hid (leadsOf t = [t.cls]) := by show leadsOf t = [t.cls]; simp [leadsOf, hf]
    rw [hf1]
    gi_wp2
    refine bodyPost_ret (results_none rfl _ _ _) rfl ?_
    exact ⟨⟨_, rfl⟩, .inl ⟨_, HE.out.symm, hJ3⟩⟩
  have HE : Hid (leadsOf t = t.cls :: t.slots) := by show leadsOf t = t.cls :: t.slots; simp [leadsOf, hf]
  rw [hf]
  clear hf
  gi_wp2
  gi_loopw [32] (fun i wr => ∃ k : Nat, k ≤ t.slots.length ∧ i = .int .i64 k ∧ J (t.cls :: t.slots.take k) wr ∧ Hid (Li B bh bo a l H oop wr))
    (fun i _ => t.slots.length - (intOf i).toNat)
  case atStart => exact ⟨0, Nat.zero_le _, rfl, by simpa using hJ3, H3⟩
  case round =>
    obtain ⟨k, hk, rfl, hJs, HLr⟩ := hrel
    by_cases hlt : k < t.slots.length
    · have c0 := HLr.out.c0
      have c1 := HLr.out.c1
      gi_wp2
      refine ⟨trivial, ?_⟩
      refine (callsIn_wide.2 (HA.out wr HLr.out k hlt)).mono ?_
      rintro e W5 ⟨rfl, hf5⟩
      have h5 := HLr.out.fr hf5
      obtain ⟨fn, tmps, assign, body, hy, hR⟩ := hY _ (t.slots.getD k 0) W5 (hJ _ _ _ hJs hf5) (by simp; omega)
      have HL5 := mkHid h5
      have HT : Hid (t.cls :: t.slots.take (k + 1) = (t.cls :: t.slots.take k) ++ [t.slots.getD k 0]) := by
        show t.cls :: t.slots.take (k + 1) = (t.cls :: t.slots.take k) ++ [t.slots.getD k 0]
        rw [List.take_succ_eq_append_getElem hlt, List.getD_eq_getElem?_getD, List.getElem?_eq_getElem hlt]; rfl
      clear h5 hf5 hJs c0 c1
      generalize t.slots.getD k 0 = x at *
      gi_wp2
      refine hR.mono ?_
      clear hy hR
      rintro e W6 (⟨rfl, hJ6, hk6⟩ | ⟨rfl, hJx6⟩)
      · have HL6 := mkHid (HL5.out.kl hk6)
        gi_wp2
        go_roundw
        case rel => exact ⟨k + 1, by omega, by simp, by rw [HT.out]; exact hJ6, HL6⟩
        case measure => simp [intOf]; omega
      · gi_wp2
        refine bodyPost_ret (results_none rfl _ _ _) rfl ?_
        exact ⟨⟨_, rfl⟩, .inr ⟨_, trivial, hJx6⟩⟩
    · obtain rfl : k = t.slots.length := by omega
      gi_wp2
      go_end0
      exact ⟨⟨_, rfl⟩, .inl ⟨_, HE.out.symm, by simpa using hJs⟩⟩
end Go.Proofs.YtkmjimdaimbdfaaDoor


namespace Go.Proofs.YtkmjimdaimbdfaaDoor
open Go.RowKit Go.Shelf
set_option linter.unusedVariables false
attribute [local go_sem] Oper.semAt_some
theorem grown_of_fr {W V : World} (h : Fr [] W V) : W.grownBy V none := ⟨h.os, h.tape, h.output, h.size, fun k hk _ => h.block k hk (by simp)⟩
/-- the iterator's contract: all the words by which the thing leads on -/
theorem leads_stops (n : Nat) (hn : 1 ≤ n) (B bh bo a : Nat) (l : Lay) (H : HS) (oop : Nat) (t : Th) (hi : Is H oop t) (hm : (H.mem.length : Int) ≤ 1048576) (w : World) (h : Li B bh bo a l H oop w) :
    SeqStopsK Fence.wide n Tryd.prog 102 #[.pointer (some ⟨bh, 0, none⟩), .pointer (some ⟨bo, 0, none⟩)] (fun x : Int => #[Value.int .i64 x]) (Kl B bh bo) (fun ys => ys = leadsOf t) (fun _ => True) (t.slots.length + 1) w := fun lp J Jx W hW hJ _ hY h0 => by
  have hk : Kl B bh bo w W := ⟨hW.mono h.size, hW.block _ (lt_of_heap h.hb), hW.block _ (lt_of_heap h.ob)⟩
  exact leads1_in n hn lp B bh bo a l H oop t hi hm J Jx (fun pre V U hj hf => hJ pre V U none hj (grown_of_fr hf) (by simp)) hY W (h.kl hk) h0
set_option maxHeartbeats 1000000 in
/-- leads: the two arguments boxed -/
theorem leads_in (n : Nat) (a : Nat) (oop : Int) (w : World) :
    CallsIn Fence.wide n Tryd.prog 88 #[.pointer (some ⟨a, 0, none⟩), .int .i64 oop] w fun e w' => e = .returned (.func (.func 102) #[] #[.pointer (some ⟨w.heap.size, 0, none⟩), .pointer (some ⟨w.heap.size + 1, 0, none⟩)]) ∧ w' = (w.alloc (.cells #[.pointer (some ⟨a, 0, none⟩)] 38)).alloc (.cells #[.int .i64 oop] 3) := by
  refine callsIn_of_wp Tryd.func88 rfl trivial ?_ rfl
  simp only [Tryd.ntmps88, List.size_toArray, List.length_cons, List.length_nil, Nat.reduceAdd, Nat.reduceSub, Array.replicate_succ, Array.replicate_zero, List.push_toArray, List.append_toArray, List.nil_append, List.cons_append]
  gi_wp2
  go_ret
  exact ⟨rfl, rfl⟩
/-- the marks that the loops over iterators have left -/
def markOf (D : Nat) : Deferred := { target := .collected D, args := #[] }
/-- a world in which the marks' blocks are shut, all else as it was -/
structure ShutM (Ds : List Nat) (w w' : World) : Prop where
  fr : Fr Ds w w'
  size : w'.heap.size = w.heap.size
theorem leaves_marks {F : Fence} {n : Nat} {P : Program} {fn : Func} {tmps : Array Value} {R : Ending → World → Prop} : ∀ (Ds : List Nat) (w : World), Ds.Nodup → (∀ D ∈ Ds, w.heap[D]? = some (.deferred (some []))) →
    (∀ w', ShutM Ds w w' → LeavesIn F n P fn tmps R [] .returning w') → LeavesInM F n P fn tmps R (Ds.map markOf) .returning w
  | [], w, _, _, h => h w ⟨Fr.refl _ _, rfl⟩
  | D :: Ds, w, hd, hk, h => by
    have hD := hk D (by simp)
    obtain ⟨h1, h2⟩ := List.nodup_cons.1 hd
    have hg := grownBy_putObj' w D (.deferred none)
    refine ⟨by simp, .inl ⟨D, _, rfl, run_takeDeferred hD, leaves_marks Ds _ h2 (fun E hE => ?_) fun w' hw' => h w' ⟨?_, ?_⟩⟩⟩
    · rw [hg.block E (lt_of_heap (hk E (by simp [hE]))) (fun e => by cases e; exact h1 hE)]
      exact hk E (by simp [hE])
    · exact ((Fr.grown (S := [D]) hg (by simp)).mono (S' := D :: Ds) (by simp)).trans hw'.fr (fun b hb => .inl (by simp [hb]))
    · rw [hw'.size]; simp [World.putObj]
end Go.Proofs.YtkmjimdaimbdfaaDoor



namespace Go.Proofs.YtkmjimdaimbdfaaDoor
open Go.RowKit
set_option linter.unusedVariables false
theorem nodup_len : ∀ (n : Nat) (l : List Nat), l.Nodup → (∀ q ∈ l, q < n) → l.length ≤ n
  | 0, l, _, h => by
    cases l with
    | nil => simp
    | cons x l => exact absurd (h x (by simp)) (by omega)
  | n + 1, l, hd, h => by
    have h1 := nodup_len n (l.erase n) (hd.erase n) (fun q hq => by
      have h2 := (hd.mem_erase_iff).1 hq
      have := h q h2.2
      have := h2.1
      omega)
    have h3 := List.length_erase (a := n) (l := l)
    split at h3 <;> omega
/-- what the search's two lists keep to -/
structure Sh (n : Nat) (s : List Nat × List Nat) : Prop where
  rd : s.1.Nodup
  rlt : ∀ q ∈ s.1, q < n
  ad : s.2.Nodup
  sub : ∀ q ∈ s.2, q ∈ s.1
theorem Sh.rlen {n : Nat} {s : List Nat × List Nat} (h : Sh n s) : s.1.length ≤ n := nodup_len n _ h.rd h.rlt
theorem Sh.alen {n : Nat} {s : List Nat × List Nat} (h : Sh n s) : s.2.length ≤ n := nodup_len n _ h.ad fun q hq => h.rlt q (h.sub q hq)
theorem nodup_snoc {l : List Nat} {q : Nat} (h : l.Nodup) (hq : q ∉ l) : (l ++ [q]).Nodup := by
  rw [List.nodup_append]
  exact ⟨h, by simp, fun a ha b hb e => by simp at hb; exact hq (by rw [← hb, ← e]; exact ha)⟩
theorem Sh.step {n : Nat} {s : List Nat × List Nat} (h : Sh n s) (H : HS) (z : Int) (hz : namesB H z = true → (z / 4).toNat < n) : Sh n (seen1 H s z) := by
  unfold seen1
  split
  · rename_i c
    refine ⟨nodup_snoc h.rd c.2, fun q hq => ?_, nodup_snoc h.ad (fun hm => c.2 (h.sub _ hm)), fun q hq => ?_⟩
    · rcases List.mem_append.1 hq with h1 | h1
      · exact h.rlt q h1
      · have : q = (z / 4).toNat := by simpa using h1
        rw [this]; exact hz c.1
    · rcases List.mem_append.1 hq with h1 | h1
      · exact List.mem_append.2 (.inl (h.sub q h1))
      · exact List.mem_append.2 (.inr h1)
  · exact h
theorem Sh.fold {n : Nat} (H : HS) (hz : ∀ z, namesB H z = true → (z / 4).toNat < n) : ∀ (zs : List Int) (s : List Nat × List Nat), Sh n s → Sh n (zs.foldl (seen1 H) s)
  | [], s, h => h
  | z :: zs, s, h => Sh.fold H hz zs _ (h.step H z (hz z))
/-- both lists grow by as much -/
theorem seen1_len (H : HS) (s : List Nat × List Nat) (z : Int) : ∃ k, (seen1 H s z).1.length = s.1.length + k ∧ (seen1 H s z).2.length = s.2.length + k := by
  unfold seen1
  split
  · exact ⟨1, by simp, by simp⟩
  · exact ⟨0, rfl, rfl⟩
theorem fold_len (H : HS) : ∀ (zs : List Int) (s : List Nat × List Nat), ∃ k, (zs.foldl (seen1 H) s).1.length = s.1.length + k ∧ (zs.foldl (seen1 H) s).2.length = s.2.length + k
  | [], s => ⟨0, rfl, rfl⟩
  | z :: zs, s => by
    obtain ⟨k, h1, h2⟩ := seen1_len H s z
    obtain ⟨j, h3, h4⟩ := fold_len H zs (seen1 H s z)
    exact ⟨k + j, by rw [List.foldl_cons, h3, h1]; omega, by rw [List.foldl_cons, h4, h2]; omega⟩
/-- what was reached stays so; what is new is ahead; every word met that names is reached -/
theorem seen1_all (H : HS) (s : List Nat × List Nat) (z : Int) : (∀ q ∈ s.1, q ∈ (seen1 H s z).1) ∧ (∀ q ∈ s.2, q ∈ (seen1 H s z).2) ∧ (∀ q ∈ (seen1 H s z).1, q ∈ s.1 ∨ (q ∈ (seen1 H s z).2 ∧ namesB H z = true ∧ q = (z / 4).toNat)) ∧ (namesB H z = true → (z / 4).toNat ∈ (seen1 H s z).1) := by
  unfold seen1
  split
  · rename_i c
    refine ⟨fun q hq => by simp [hq], fun q hq => by simp [hq], fun q hq => ?_, fun _ => by simp⟩
    rcases List.mem_append.1 hq with h1 | h1
    · exact .inl h1
    · exact .inr ⟨List.mem_append.2 (.inr h1), c.1, by simpa using h1⟩
  · rename_i c
    exact ⟨fun q hq => hq, fun q hq => hq, fun q hq => .inl hq, fun hz => Classical.byContradiction fun hn => c ⟨hz, hn⟩⟩
theorem fold_all (H : HS) : ∀ (zs : List Int) (s : List Nat × List Nat), (∀ q ∈ s.1, q ∈ (zs.foldl (seen1 H) s).1) ∧ (∀ q ∈ s.2, q ∈ (zs.foldl (seen1 H) s).2) ∧
    (∀ q ∈ (zs.foldl (seen1 H) s).1, q ∈ s.1 ∨ (q ∈ (zs.foldl (seen1 H) s).2 ∧ ∃ z ∈ zs, namesB H z = true ∧ q = (z / 4).toNat)) ∧ (∀ z ∈ zs, namesB H z = true → (z / 4).toNat ∈ (zs.foldl (seen1 H) s).1)
  | [], s => ⟨fun q hq => hq, fun q hq => hq, fun q hq => .inl hq, fun z hz => by simp at hz⟩
  | z :: zs, s => by
    obtain ⟨a1, a2, a3, a4⟩ := seen1_all H s z
    obtain ⟨b1, b2, b3, b4⟩ := fold_all H zs (seen1 H s z)
    rw [List.foldl_cons]
    refine ⟨fun q hq => b1 q (a1 q hq), fun q hq => b2 q (a2 q hq), fun q hq => ?_, fun y hy hn => ?_⟩
    · rcases b3 q hq with h1 | ⟨h1, y, hy, h2⟩
      · rcases a3 q h1 with h3 | ⟨h3, h4⟩
        · exact .inl h3
        · exact .inr ⟨b2 q h3, z, by simp, h4⟩
      · exact .inr ⟨h1, y, by simp [hy], h2⟩
    · rcases List.mem_cons.1 hy with e | h1
      · rw [e] at hn ⊢; exact b1 _ (a4 hn)
      · exact b4 y h1 hn
/-- the words by which an oop leads on -/
def lk (M : MS) (q : Nat) : List Int := leadsOf (M.things.getD (q - 1) noTh)
/-- a set of oops that the roots lead into and that leads nowhere else -/
structure Cl (H : HS) (M : MS) (roots : List Int) (X : Nat → Prop) : Prop where
  root : ∀ z ∈ roots, namesB H z = true → X (z / 4).toNat
  on : ∀ q, X q → ∀ z ∈ lk M q, namesB H z = true → X (z / 4).toNat
/-- the search, part done -/
structure Sr (H : HS) (M : MS) (roots : List Int) (s : List Nat × List Nat) : Prop where
  there : ∀ q ∈ s.1, has H (q : Int) = true
  root : ∀ z ∈ roots, namesB H z = true → (z / 4).toNat ∈ s.1
  on : ∀ q ∈ s.1, q ∈ s.2 ∨ ∀ z ∈ lk M q, namesB H z = true → (z / 4).toNat ∈ s.1
  least : ∀ X, Cl H M roots X → ∀ q ∈ s.1, X q
theorem names_has {H : HS} {z : Int} (h : namesB H z = true) : has H (((z / 4).toNat : Nat) : Int) = true ∧ 0 ≤ z / 4 := by
  unfold namesB at h
  simp only [Bool.and_eq_true, decide_eq_true_eq] at h
  obtain ⟨h1, h2⟩ := h
  have h0 : 0 ≤ z / 4 := by have := (kind3 z).1 h1; omega
  refine ⟨?_, h0⟩
  rw [Int.toNat_of_nonneg h0]
  exact h2
theorem Sr.start (H : HS) (M : MS) (roots : List Int) : Sr H M roots (roots.foldl (seen1 H) ([], [])) := by
  obtain ⟨a1, a2, a3, a4⟩ := fold_all H roots ([], [])
  refine ⟨fun q hq => ?_, a4, fun q hq => ?_, fun X hX q hq => ?_⟩
  · rcases a3 q hq with h | ⟨_, z, _, h1, h2⟩
    · simp at h
    · rw [h2]; exact (names_has h1).1
  · rcases a3 q hq with h | ⟨h, _⟩
    · simp at h
    · exact .inl h
  · rcases a3 q hq with h | ⟨_, z, hz, h1, h2⟩
    · simp at h
    · rw [h2]; exact hX.root z hz h1
theorem Sr.step {H : HS} {M : MS} {roots : List Int} {rs ah : List Nat} {q : Nat} (h : Sr H M roots (rs, ah ++ [q])) (hq : q ∈ rs) : Sr H M roots ((lk M q).foldl (seen1 H) (rs, ah)) := by
  obtain ⟨a1, a2, a3, a4⟩ := fold_all H (lk M q) (rs, ah)
  refine ⟨fun p hp => ?_, fun z hz hn => a1 _ (h.root z hz hn), fun p hp => ?_, fun X hX p hp => ?_⟩
  · rcases a3 p hp with h1 | ⟨_, z, _, h1, h2⟩
    · exact h.there p h1
    · rw [h2]; exact (names_has h1).1
  · rcases a3 p hp with h1 | ⟨h1, _⟩
    · by_cases e : p = q
      · right; intro z hz hn; rw [e] at hz; exact a4 z hz hn
      · rcases h.on p h1 with h2 | h2
        · left
          rcases List.mem_append.1 h2 with h3 | h3
          · exact a2 p h3
          · simp at h3; exact absurd h3 e
        · right; intro z hz hn; exact a1 _ (h2 z hz hn)
    · exact .inl h1
  · rcases a3 p hp with h1 | ⟨_, z, hz, h1, h2⟩
    · exact h.least X hX p h1
    · rw [h2]; exact hX.on q (h.least X hX q hq) z hz h1
end Go.Proofs.YtkmjimdaimbdfaaDoor


namespace Go.Proofs.YtkmjimdaimbdfaaDoor
open Go.RowKit
set_option linter.unusedVariables false
attribute [local go_sem ↓] Go.wp_at_zero Go.wp_at_succ
/-- those of a rising list that are less than k -/
def upTo (A : List Nat) (k : Nat) : List Nat := A.filter fun q => decide (q < k)
theorem upTo_len (A : List Nat) (k : Nat) : (upTo A k).length ≤ A.length := List.length_filter_le _ _
theorem upTo_full (A : List Nat) (k : Nat) (h : (upTo A k).length = A.length) : upTo A k = A := by
  unfold upTo at h ⊢
  rw [List.filter_eq_self]
  exact List.length_filter_eq_length_iff.1 h
theorem upTo_all (A : List Nat) (k : Nat) (h : ∀ q ∈ A, q < k) : upTo A k = A := by
  unfold upTo
  rw [List.filter_eq_self]
  intro q hq
  simpa using h q hq
theorem upTo_succ (A : List Nat) (hp : A.Pairwise (· < ·)) (k : Nat) : upTo A (k + 1) = upTo A k ++ (if k ∈ A then [k] else []) := by
  unfold upTo
  induction A with
  | nil => simp
  | cons x A ih =>
    obtain ⟨h1, h2⟩ := List.pairwise_cons.1 hp
    have ih := ih h2
    rw [List.filter_cons, List.filter_cons]
    by_cases hx : x < k
    · rw [if_pos (by simpa using (by omega : x < k + 1)), if_pos (by simpa using hx), ih]
      have e : (k ∈ x :: A) ↔ k ∈ A := by
        rw [List.mem_cons]
        exact ⟨fun h => by rcases h with h | h; exact absurd h (by omega); exact h, fun h => .inr h⟩
      by_cases hk : k ∈ A
      · rw [if_pos hk, if_pos (e.2 hk)]; rfl
      · rw [if_neg hk, if_neg (fun h => hk (e.1 h))]; rfl
    · have h3 : A.filter (fun q => decide (q < k)) = [] := by
        rw [List.filter_eq_nil_iff]
        intro q hq
        have := h1 q hq
        simp; omega
      have h4 : A.filter (fun q => decide (q < k + 1)) = [] := by
        rw [List.filter_eq_nil_iff]
        intro q hq
        have := h1 q hq
        simp; omega
      rw [h3, h4, show decide (x < k) = false from decide_eq_false hx]
      by_cases hk : x = k
      · subst hk
        rw [show decide (x < x + 1) = true from decide_eq_true (by omega)]
        simp
      · have hn : k ∉ x :: A := fun h => by
          rcases List.mem_cons.1 h with h | h
          · exact hk h.symm
          · have := h1 k h; omega
        rw [if_neg hn, show decide (x < k + 1) = false from decide_eq_false (by omega)]; rfl
theorem row_is {w : World} {b : Nat} {e : TypeId} {s : Nat} {v : Value} {n : Nat} {xs : List Value} (h : w.ownsRow b e s v n xs) : ∃ p c, v = .slice p n c := by
  rcases h.2 with ⟨h2, h3⟩ | ⟨g, cap, cur, h2, h3⟩
  · exact ⟨none, 0, by rw [h2, h3]⟩
  · exact ⟨_, cap, h2⟩
/-- how a document's heap has a list of oops -/
structure RAs (R : RS) (A : List Nat) : Prop where
  rise : A.Pairwise (· < ·)
  mem : ∀ q : Nat, q ∈ A ↔ ¬ RNo R (q : Int)
  len : A.length = R.objs.length
  bound : ∀ q ∈ A, 1 ≤ q ∧ q ≤ 100000
end Go.Proofs.YtkmjimdaimbdfaaDoor


namespace Go.Proofs.YtkmjimdaimbdfaaDoor
open Go.RowKit
set_option linter.unusedVariables false
attribute [local go_sem ↓] Go.wp_at_zero Go.wp_at_succ
/-- the two heaps have the same objects -/
structure Tw (H : HS) (M : MS) (R : RS) : Prop where
  has : ∀ z : Int, has H z = true ↔ ¬ RNo R z
  at_ : ∀ k, k < R.objs.length → lk M (R.objs.getD k noRO).oop = (R.objs.getD k noRO).cls :: (if (R.objs.getD k noRO).fmt = 0 then (R.objs.getD k noRO).slots else [])
/-- the oop that a word names, or 0 -/
def namN (H : HS) (z : Int) : Nat := if namesB H z = true then (z / 4).toNat else 0
end Go.Proofs.YtkmjimdaimbdfaaDoor


namespace Go.Proofs.YtkmjimdaimbdfaaDoor
open Go.RowKit
set_option linter.unusedVariables false
attribute [local go_sem ↓] Go.wp_at_zero Go.wp_at_succ
end Go.Proofs.YtkmjimdaimbdfaaDoor


namespace Go.Proofs.YtkmjimdaimbdfaaDoor
open Go.RowKit
set_option linter.unusedVariables false
attribute [local go_sem ↓] Go.wp_at_zero Go.wp_at_succ
end Go.Proofs.YtkmjimdaimbdfaaDoor


namespace Go.Proofs.YtkmjimdaimbdfaaDoor
open Go.RowKit
set_option linter.unusedVariables false
attribute [local go_sem ↓] Go.wp_at_zero Go.wp_at_succ
end Go.Proofs.YtkmjimdaimbdfaaDoor


