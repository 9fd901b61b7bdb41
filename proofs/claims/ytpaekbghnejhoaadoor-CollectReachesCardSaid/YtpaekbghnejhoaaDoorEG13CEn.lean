import Derived.Test.YtpaekbghnejhoaaDoorEG12CPure
import Derived.Test.YtpaekbghnejhoaaDoorEG05HModelL
import Derived.Test.YtpaekbghnejhoaaDoorEG07HInv
namespace Go.Proofs.YtpaekbghnejhoaaDoor
open Go.RowKit
set_option linter.unusedVariables false
attribute [local go_sem ↓] Go.wp_at_zero Go.wp_at_succ
/-- those of a rising list that are less than k -/
def upTo (A : List Nat) (k : Nat) : List Nat := A.filter fun q => decide (q < k)
theorem upTo_len (A : List Nat) (k : Nat) : (upTo A k).length ≤ A.length := List.length_filter_le _ _
theorem upTo_full (A : List Nat) (k : Nat) (h : (upTo A k).length = A.length) : upTo A k = A := by
  unfold upTo at h ⊢
  rw [List.filter_eq_self]
  exact List.length_filter_eq_length_iff.1 h
theorem upTo_all (A : List Nat) (k : Nat) (h : ∀ q ∈ A, q < k) : upTo A k = A := by
  unfold upTo
  rw [List.filter_eq_self]
  intro q hq
  simpa using h q hq
theorem upTo_succ (A : List Nat) (hp : A.Pairwise (· < ·)) (k : Nat) : upTo A (k + 1) = upTo A k ++ (if k ∈ A then [k] else []) := by
  unfold upTo
  induction A with
  | nil => simp
  | cons x A ih =>
    obtain ⟨h1, h2⟩ := List.pairwise_cons.1 hp
    have ih := ih h2
    rw [List.filter_cons, List.filter_cons]
    by_cases hx : x < k
    · rw [if_pos (by simpa using (by omega : x < k + 1)), if_pos (by simpa using hx), ih]
      have e : (k ∈ x :: A) ↔ k ∈ A := by
        rw [List.mem_cons]
        exact ⟨fun h => by rcases h with h | h; exact absurd h (by omega); exact h, fun h => .inr h⟩
      by_cases hk : k ∈ A
      · rw [if_pos hk, if_pos (e.2 hk)]; rfl
      · rw [if_neg hk, if_neg (fun h => hk (e.1 h))]; rfl
    · have h3 : A.filter (fun q => decide (q < k)) = [] := by
        rw [List.filter_eq_nil_iff]
        intro q hq
        have := h1 q hq
        simp; omega
      have h4 : A.filter (fun q => decide (q < k + 1)) = [] := by
        rw [List.filter_eq_nil_iff]
        intro q hq
        have := h1 q hq
        simp; omega
      rw [h3, h4, show decide (x < k) = false from decide_eq_false hx]
      by_cases hk : x = k
      · subst hk
        rw [show decide (x < x + 1) = true from decide_eq_true (by omega)]
        simp
      · have hn : k ∉ x :: A := fun h => by
          rcases List.mem_cons.1 h with h | h
          · exact hk h.symm
          · have := h1 k h; omega
        rw [if_neg hn, show decide (x < k + 1) = false from decide_eq_false (by omega)]; rfl
theorem row_is {w : World} {b : Nat} {e : TypeId} {s : Nat} {v : Value} {n : Nat} {xs : List Value} (h : w.ownsRow b e s v n xs) : ∃ p c, v = .slice p n c := by
  rcases h.2 with ⟨h2, h3⟩ | ⟨g, cap, cur, h2, h3⟩
  · exact ⟨none, 0, by rw [h2, h3]⟩
  · exact ⟨_, cap, h2⟩
/-- how a document's heap has a list of oops -/
structure RAs (R : RS) (A : List Nat) : Prop where
  rise : A.Pairwise (· < ·)
  mem : ∀ q : Nat, q ∈ A ↔ ¬ RNo R (q : Int)
  len : A.length = R.objs.length
  bound : ∀ q ∈ A, 1 ≤ q ∧ q ≤ 100000
set_option maxRecDepth 20000 in
set_option maxHeartbeats 2000000 in
theorem rAll_ok (A : List Nat) (B r : Nat) (R : RS) (w : World) (h : RRep w B r R) (hA : RAs R A) :
    Calls Tryd.prog 68 #[.pointer (some ⟨r, 0, none⟩)] w fun e w' => ∃ v, e = .returned v ∧ w'.ownsRow w.heap.size 3 1 v A.length (A.map I) ∧ Fr [] w w' := by
  obtain ⟨j0, ji, jz0, jz1, jz2⟩ := info_parts info3
  have hlen : A.length ≤ 100001 := by
    exact nodup_len 100001 A (hA.rise.imp fun h => Nat.ne_of_lt h) fun q hq => by have := hA.bound q hq; omega
  have hol := hA.len
  obtain ⟨p, c, hov⟩ := h.ovIs
  have HR := mkHid h
  have HA := mkHid hA
  have HC : Hid (∀ V, Fr [] w V → V.cell? ⟨r, 5, none⟩ = some (.slice p R.objs.length c)) := fun V hV => by rw [(HR.out.idle hV).c, ← hov]; rfl
  clear h hA
  go_enter Tryd.func68, Tryd.ntmps68
  go_wp2_with fail
  rw [← hol] at HC
  go_loopw [3, 4] (fun v q wr => ∃ (k : Nat) (pv : Option Addr) (cv : Nat), 1 ≤ k ∧ v = .slice pv (upTo A k).length cv ∧ q = .int .i64 k ∧ (k ≤ 100001) ∧ wr.ownsRow w.heap.size 3 1 (.slice pv (upTo A k).length cv) (upTo A k).length ((upTo A k).map I) ∧ Hid (Fr [] w wr)) (fun _ q _ => 100001 - (intOf q).toNat)
  case atStart => exact ⟨1, none, 0, Nat.le_refl _, by
    have e : upTo A 1 = [] := by
      unfold upTo
      rw [List.filter_eq_nil_iff]
      intro q hq
      have := (HA.out.bound q hq).1
      simp; omega
    rw [e]; rfl, rfl, by omega, by
    have e : upTo A 1 = [] := by
      unfold upTo
      rw [List.filter_eq_nil_iff]
      intro q hq
      have := (HA.out.bound q hq).1
      simp; omega
    rw [e]; exact World.ownsRow_nil _ _ _ _, Fr.refl _ _⟩
  case round =>
    obtain ⟨k, pv, cv, hk1, rfl, rfl, hkn, hown, hfr⟩ := hrel
    have c5 := HC.out wr hfr.out
    have hul := upTo_len A k
    have hz := hfr.out.size
    by_cases hlt : (upTo A k).length < A.length
    · have hkl : k < 100001 := by
        refine Classical.byContradiction fun hn => ?_
        rw [upTo_all A k (fun q hq => by have := (HA.out.bound q hq).2; omega)] at hlt
        omega
      have k2 : ((upTo A k).length : Int) < (A.length : Int) := by omega
      have HSU := mkHid (upTo_succ A HA.out.rise k)
      have HF := mkHid (find_any (k : Int) B r R wr (HR.out.idle hfr.out) (by omega))
      have HM := mkHid (HA.out.mem k)
      generalize hX : upTo A k = X at *
      clear hX
      go_wp2_with fail
      refine Calls.mono HF.out ?_
      rintro e w2 ⟨z, rfl, hz, hw⟩
      rw [hw]
      clear hw w2 HF
      rcases hz with ⟨j, hj, rfl, ho, -⟩ | ⟨rfl, hno⟩
      · have hin : k ∈ A := HM.out.2 (fun hno => hno j hj ho)
        have HS2 := HSU.out
        rw [if_pos hin] at HS2
        have HS3 := mkHid HS2
        have j1 : (0 : Int) ≤ (j : Int) := by omega
        clear HS2 HSU hin ho HM
        have hown2 := hown.alloc (.cells #[.int .i64 (k : Int)] 3)
        have HFA : Hid (Fr [] w (wr.alloc (.cells #[.int .i64 (k : Int)] 3))) := hfr.out.trans (Fr.alloc [] _ _) (by simp)
        clear hown
        go_wp2_with (first
          | (at_builtin; refine wpList_append_own _ rfl (.tmp 22) (.tmp 24) 26 rfl w.heap.size 3 j0 (.int .i64 0) 1 8 Tryd.underlying26 ji jz0 jz1 jz2 rfl (by decide) _ _ _ rfl hown2 ⟨wr.heap.size, 0, none⟩ 1 1 [.int .i64 (k : Int)] rfl rfl ?c1 ?c2 ?c3 ?c4 ?c5 ?_)
          | go_in)
        case c1 =>
          have := World.news_of_block (heap_alloc_new wr (.cells #[.int .i64 (k : Int)] 3))
          simpa using this
        case c2 => first | rfl | (intro u hu; simp at hu; subst hu; rfl)
        case c3 => unfold maxLen; omega
        case c4 => omega
        case c5 => first | omega | (simp; omega)
        intro v' w1 hown' hgrow _
        have HG : Hid (Fr [] w w1) := by
          refine ⟨hgrow.os.trans HFA.out.os, hgrow.tape.trans HFA.out.tape, hgrow.output.trans HFA.out.output, Nat.le_trans HFA.out.size hgrow.size, fun i hi hn => ?_⟩
          rw [hgrow.block i (Nat.lt_of_lt_of_le hi HFA.out.size) (fun e => ?_)]
          · exact HFA.out.block i hi hn
          · have := (hown2.lt i e.symm).1
            omega
        have hown3 : w1.ownsRow w.heap.size 3 1 v' (upTo A (k + 1)).length ((upTo A (k + 1)).map I) := by rw [HS3.out]; simpa [I] using hown'
        obtain ⟨p3, c3', rfl⟩ := row_is hown3
        have HO := mkHid hown3
        have HLe : Hid ((upTo A (k + 1)).length = X.length + 1) := by rw [HS3.out]; simp [Hid]
        clear hown' hown3 hgrow hown2 HFA
        go_wp2
        go_roundw
        case rel => exact ⟨k + 1, p3, c3', by omega, rfl, by go_num, by omega, HO.out, HG⟩
        case measure => simp [intOf]; omega
      · have hin : k ∉ A := fun hin => HM.out.1 hin hno
        have HS2 := HSU.out
        rw [if_neg hin, List.append_nil] at HS2
        have HS3 := mkHid HS2
        have HO := mkHid hown
        clear HS2 HSU hin hown HM hno
        go_wp2_with fail
        go_roundw
        case rel => exact ⟨k + 1, pv, cv, by omega, by rw [HS3.out], by go_num, by omega, by rw [HS3.out]; exact HO.out, hfr⟩
        case measure => simp [intOf]; omega
    · have hle : (upTo A k).length = A.length := by omega
      have k2 : (A.length : Int) ≤ ((upTo A k).length : Int) := by omega
      rw [upTo_full A k hle] at hown ⊢
      have HO := mkHid hown
      clear hown
      go_wp2_with fail
      go_ret
      exact ⟨_, rfl, HO.out, hfr.out⟩
end Go.Proofs.YtpaekbghnejhoaaDoor
namespace Go.Proofs.YtpaekbghnejhoaaDoor
open Go.RowKit
set_option linter.unusedVariables false
attribute [local go_sem ↓] Go.wp_at_zero Go.wp_at_succ
set_option maxHeartbeats 1000000 in
theorem rOop_yes (n : Int) (w : World) (hk : kindOf n = 3) : Calls Tryd.prog 92 #[.int .i64 n] w fun e w' => e = .returned (.tuple #[.int .i64 (n / 4), .int .i64 0]) ∧ w' = w := by
  have hK := rKind_any n w
  rw [hk] at hK
  obtain ⟨h1, h2, h3⟩ := (kind3 n).1 hk
  have hd : n.tdiv 4 = n / 4 := Int.tdiv_eq_ediv_of_nonneg (by omega)
  have HK := mkHid hK
  clear hK hk
  go_enter Tryd.func92, Tryd.ntmps92
  go_wp2_with (go_at_call 89; refine Calls.mono HK.out ?_; rintro e w' ⟨rfl, hw'⟩; rw [hw']; clear hw' w')
  go_ret2
  refine ⟨?_, rfl⟩
  first | rfl | (rw [hd]) | (congr 4)
set_option maxHeartbeats 1000000 in
theorem rOop_no (n : Int) (w : World) (hk : kindOf n ≠ 3) : Calls Tryd.prog 92 #[.int .i64 n] w fun e w' => e = .returned (.tuple #[.int .i64 0, .int .i64 10]) ∧ w' = w := by
  have hK := rKind_any n w
  have hb : (kindOf n == 3) = false := by simpa using hk
  have HK := mkHid hK
  generalize kindOf n = kz at *
  clear hK hk
  go_enter Tryd.func92, Tryd.ntmps92
  go_wp2_with (go_at_call 89; refine Calls.mono HK.out ?_; rintro e w' ⟨rfl, hw'⟩; rw [hw']; clear hw' w')
  go_ret2
  exact ⟨rfl, rfl⟩
/-- the two heaps have the same objects -/
structure Tw (H : HS) (M : MS) (R : RS) : Prop where
  has : ∀ z : Int, has H z = true ↔ ¬ RNo R z
  at_ : ∀ k, k < R.objs.length → lk M (R.objs.getD k noRO).oop = (R.objs.getD k noRO).cls :: (if (R.objs.getD k noRO).fmt = 0 then (R.objs.getD k noRO).slots else [])
/-- the oop that a word names, or 0 -/
def namN (H : HS) (z : Int) : Nat := if namesB H z = true then (z / 4).toNat else 0
set_option maxHeartbeats 1000000 in
theorem rNamed_ok (z : Int) (H : HS) (M : MS) (B r : Nat) (R : RS) (w : World) (h : RRep w B r R) (hl : R.objs.length ≤ 1048576) (ht : Tw H M R) :
    Calls Tryd.prog 64 #[.pointer (some ⟨r, 0, none⟩), .int .i64 z] w fun e w' => e = .returned (.int .i64 (namN H z : Nat)) ∧ Fr [] w w' := by
  by_cases hk : kindOf z = 3
  · have HO := mkHid (rOop_yes z w hk)
    have HC := mkHid (rClass_any (z / 4) B r R w h hl)
    have hz := (kind3 z).1 hk
    have hyes : ¬ RNo R (z / 4) → ((namN H z : Nat) : Int) = z / 4 := fun hn => by
      have hb : namesB H z = true := by unfold namesB; rw [decide_eq_true hk, (ht.has _).2 hn]; rfl
      unfold namN
      rw [if_pos hb]; omega
    have hno : RNo R (z / 4) → ((namN H z : Nat) : Int) = 0 := fun hn => by
      have hb : ¬ namesB H z = true := by
        unfold namesB
        rw [decide_eq_true hk, Bool.true_and]
        exact fun h => (ht.has _).1 h hn
      unfold namN
      rw [if_neg hb]; rfl
    have HY := mkHid hyes
    have HN := mkHid hno
    generalize z / 4 = q at *
    generalize namN H z = nz at *
    clear h ht hk hz hyes hno
    go_enter Tryd.func64, Tryd.ntmps64
    go_wp2_with (go_at_call 92; refine Calls.mono HO.out ?_; rintro e w' ⟨rfl, hw'⟩; rw [hw']; clear hw' w')
    refine Calls.mono HC.out ?_
    rintro e w2 ⟨⟨k, hk, rfl⟩ | ⟨hn, rfl⟩, hf2⟩
    · have e1 := HY.out (fun hno => hno k hk.1 hk.2)
      have E1 := mkHid e1
      have HF := mkHid hf2
      clear hk e1 hf2
      go_wp2_with fail
      go_ret
      exact ⟨by rw [E1.out]; rfl, HF.out⟩
    · have E1 := mkHid (HN.out hn)
      have HF := mkHid hf2
      clear hn hf2
      go_wp2_with fail
      go_ret
      exact ⟨by rw [E1.out]; rfl, HF.out⟩
  · have HO := mkHid (rOop_no z w hk)
    have e1 : Hid (((namN H z : Nat) : Int) = 0) := by
      show ((namN H z : Nat) : Int) = 0
      unfold namN namesB
      rw [decide_eq_false hk]; simp
    generalize namN H z = nz at *
    clear h ht hk
    go_enter Tryd.func64, Tryd.ntmps64
    go_wp2_with (go_at_call 92; refine Calls.mono HO.out ?_; rintro e w' ⟨rfl, hw'⟩; rw [hw']; clear hw' w')
    go_ret
    exact ⟨by rw [e1.out]; rfl, Fr.refl _ _⟩
end Go.Proofs.YtpaekbghnejhoaaDoor
namespace Go.Proofs.YtpaekbghnejhoaaDoor
open Go.RowKit
set_option linter.unusedVariables false
attribute [local go_sem ↓] Go.wp_at_zero Go.wp_at_succ
set_option maxRecDepth 20000 in
set_option maxHeartbeats 1000000 in
theorem rIn_ok (ss : List Int) (z : Int) (va : Value) (w : World) (ha : Rd w va ss) :
    Calls Tryd.prog 69 #[va, .int .i64 z] w fun e w' => e = .returned (.bool (decide (z ∈ ss))) ∧ w' = w := by
  obtain ⟨pa, ca, rfl, hpa⟩ := ha.at_
  have hl := ha.short
  clear ha
  have HA := mkHid hpa
  clear hpa
  go_enter Tryd.func69, Tryd.ntmps69
  go_wp2_with fail
  go_loopw [5] (fun q wr => ∃ k : Nat, k ≤ ss.length ∧ q = .int .i64 k ∧ wr = w ∧ Hid (z ∉ ss.take k)) (fun q _ => ss.length - (intOf q).toNat)
  case atStart => exact ⟨0, Nat.zero_le _, rfl, rfl, mkHid (by simp)⟩
  case round =>
    obtain ⟨k, hkn, rfl, rfl, HZ⟩ := hrel
    by_cases hlt : k < ss.length
    · obtain ⟨ga, oa, rfl, -, hca⟩ := HA.out (by omega)
      have x1 := hca k hlt
      have k1 : (0 : Int) ≤ (k : Int) := by omega
      have k2 : (k : Int) < (ss.length : Int) := by omega
      have HT : Hid (ss.take (k + 1) = ss.take k ++ [ss.getD k 0]) := by
        show ss.take (k + 1) = ss.take k ++ [ss.getD k 0]
        rw [List.take_succ_eq_append_getElem hlt, List.getD_eq_getElem?_getD, List.getElem?_eq_getElem hlt]; rfl
      have HM : Hid (ss.getD k 0 ∈ ss) := by
        show ss.getD k 0 ∈ ss
        rw [List.getD_eq_getElem?_getD, List.getElem?_eq_getElem hlt]; exact List.getElem_mem _
      generalize ss.getD k 0 = y at *
      clear hca HA
      by_cases he : y = z
      · subst he
        have HD : Hid (decide (y ∈ ss) = true) := decide_eq_true HM.out
        clear HM HT HZ
        go_wp2_with fail
        go_ret
        exact ⟨by rw [HD.out]; rfl, rfl⟩
      · have hb : (y == z) = false := by simpa using he
        have HN : Hid (z ∉ ss.take (k + 1)) := by
          show z ∉ ss.take (k + 1)
          rw [HT.out, List.mem_append]
          rintro (h1 | h1)
          · exact HZ.out h1
          · simp at h1; exact he h1.symm
        clear HT HM HZ he
        go_wp2_with fail
        go_roundw
        case rel => exact ⟨k + 1, by omega, by go_num, trivial, HN⟩
        case measure => simp [intOf]; omega
    · have hke : k = ss.length := by omega
      subst hke
      have HD : Hid (decide (z ∈ ss) = false) := decide_eq_false (by have := HZ.out; rwa [List.take_length] at this)
      go_wp2_with fail
      go_ret
      exact ⟨by rw [HD.out]; rfl, rfl⟩
end Go.Proofs.YtpaekbghnejhoaaDoor
namespace Go.Proofs.YtpaekbghnejhoaaDoor
open Go.RowKit
set_option linter.unusedVariables false
attribute [local go_sem ↓] Go.wp_at_zero Go.wp_at_succ
set_option maxRecDepth 20000 in
set_option maxHeartbeats 1000000 in
theorem in_ok (ss : List Int) (z : Int) (va : Value) (w : World) (ha : Rd w va ss) :
    Calls Tryd.prog 15 #[va, .int .i64 z] w fun e w' => e = .returned (.bool (decide (z ∈ ss))) ∧ w' = w := by
  obtain ⟨pa, ca, rfl, hpa⟩ := ha.at_
  have hl := ha.short
  clear ha
  have HA := mkHid hpa
  clear hpa
  go_enter Tryd.func15, Tryd.ntmps15
  go_wp2_with fail
  go_loopw [5] (fun q wr => ∃ k : Nat, k ≤ ss.length ∧ q = .int .i64 k ∧ wr = w ∧ Hid (z ∉ ss.take k)) (fun q _ => ss.length - (intOf q).toNat)
  case atStart => exact ⟨0, Nat.zero_le _, rfl, rfl, mkHid (by simp)⟩
  case round =>
    obtain ⟨k, hkn, rfl, rfl, HZ⟩ := hrel
    by_cases hlt : k < ss.length
    · obtain ⟨ga, oa, rfl, -, hca⟩ := HA.out (by omega)
      have x1 := hca k hlt
      have k1 : (0 : Int) ≤ (k : Int) := by omega
      have k2 : (k : Int) < (ss.length : Int) := by omega
      have HT : Hid (ss.take (k + 1) = ss.take k ++ [ss.getD k 0]) := by
        show ss.take (k + 1) = ss.take k ++ [ss.getD k 0]
        rw [List.take_succ_eq_append_getElem hlt, List.getD_eq_getElem?_getD, List.getElem?_eq_getElem hlt]; rfl
      have HM : Hid (ss.getD k 0 ∈ ss) := by
        show ss.getD k 0 ∈ ss
        rw [List.getD_eq_getElem?_getD, List.getElem?_eq_getElem hlt]; exact List.getElem_mem _
      generalize ss.getD k 0 = y at *
      clear hca HA
      by_cases he : y = z
      · subst he
        have HD : Hid (decide (y ∈ ss) = true) := decide_eq_true HM.out
        clear HM HT HZ
        go_wp2_with fail
        go_ret
        exact ⟨by rw [HD.out]; rfl, rfl⟩
      · have hb : (y == z) = false := by simpa using he
        have HN : Hid (z ∉ ss.take (k + 1)) := by
          show z ∉ ss.take (k + 1)
          rw [HT.out, List.mem_append]
          rintro (h1 | h1)
          · exact HZ.out h1
          · simp at h1; exact he h1.symm
        clear HT HM HZ he
        go_wp2_with fail
        go_roundw
        case rel => exact ⟨k + 1, by omega, by go_num, trivial, HN⟩
        case measure => simp [intOf]; omega
    · have hke : k = ss.length := by omega
      subst hke
      have HD : Hid (decide (z ∈ ss) = false) := decide_eq_false (by have := HZ.out; rwa [List.take_length] at this)
      go_wp2_with fail
      go_ret
      exact ⟨by rw [HD.out]; rfl, rfl⟩
end Go.Proofs.YtpaekbghnejhoaaDoor
namespace Go.Proofs.YtpaekbghnejhoaaDoor
open Go.RowKit
set_option linter.unusedVariables false
attribute [local go_sem ↓] Go.wp_at_zero Go.wp_at_succ
set_option maxRecDepth 20000 in
set_option maxHeartbeats 1000000 in
theorem rising_ok (ss : List Int) (va : Value) (w : World) (ha : Rd w va ss) (hr : ∀ k, 0 < k → k < ss.length → ss.getD (k - 1) 0 < ss.getD k 0) :
    Calls Tryd.prog 20 #[va] w fun e w' => e = .returned (.bool true) ∧ Fr [] w w' := by
  obtain ⟨pa, ca, rfl, hpa⟩ := ha.at_
  have hl := ha.short
  clear ha
  have HA := mkHid hpa
  have HR := mkHid hr
  clear hpa hr
  go_enter Tryd.func20, Tryd.ntmps20
  go_wp2_with fail
  go_loopw [3] (fun q wr => ∃ k : Nat, 1 ≤ k ∧ k ≤ ss.length + 1 ∧ q = .int .i64 k ∧ Hid (∃ n, wr = w.drewN n)) (fun q _ => ss.length + 1 - (intOf q).toNat)
  case atStart => exact ⟨1, Nat.le_refl _, by omega, rfl, 0, rfl⟩
  case round =>
    obtain ⟨k, h1, hkn, rfl, hq⟩ := hrel
    by_cases hlt : k < ss.length
    · obtain ⟨ga, oa, rfl, -, hca⟩ := HA.out (by omega)
      obtain ⟨j, rfl⟩ : ∃ j, k = j + 1 := ⟨k - 1, by omega⟩
      obtain ⟨n, hn⟩ := hq.out
      have x1 : wr.cell? ⟨ga, oa + (j + 1), none⟩ = some (.int .i64 (ss.getD (j + 1) 0)) := by rw [hn]; exact hca (j + 1) hlt
      have x2 : wr.cell? ⟨ga, oa + j, none⟩ = some (.int .i64 (ss.getD j 0)) := by rw [hn]; exact hca j (by omega)
      have hrs := HR.out (j + 1) (by omega) hlt
      rw [show j + 1 - 1 = j from by omega] at hrs
      have k1 : (0 : Int) ≤ (j : Int) := by omega
      have k2 : (j : Int) + 1 < (ss.length : Int) := by omega
      have HD : Hid (∀ m, ∃ n, wr.drewN m = w.drewN n) := fun m => ⟨n + m, by rw [hn]; simp [World.drewN, Nat.add_assoc]⟩
      generalize ss.getD (j + 1) 0 = y at *
      generalize ss.getD j 0 = z at *
      have hle : ¬ y ≤ z := by omega
      clear hca hq hn HA HR
      go_wp2_with fail
      go_quiet (fail)
      go_wp2_with fail
      go_roundw
      case rel => exact ⟨j + 2, by omega, by omega, by go_num, HD.out _⟩
      case measure => simp [intOf]; omega
    · go_wp2_with fail
      go_ret
      obtain ⟨n, hn⟩ := hq.out
      exact ⟨rfl, by rw [hn]; exact Fr.drewN _ _ _⟩
end Go.Proofs.YtpaekbghnejhoaaDoor
namespace Go.Proofs.YtpaekbghnejhoaaDoor
open Go.RowKit
set_option linter.unusedVariables false
attribute [local go_sem ↓] Go.wp_at_zero Go.wp_at_succ
/-- an object as a value -/
def oiV (o : OI) : Value := .agg #[.int .i64 o.oop, .int .i64 o.cls, .int .i64 o.fmt, o.v]
def noV : Value := .agg #[.int .i64 0, .int .i64 0, .int .i64 0, .slice none 0 0]
/-- what at tells -/
def atR (l : List OI) (z : Int) : Value := match l.find? (fun o => decide (o.oop = z)) with | some o => .tuple #[oiV o, .bool true] | none => .tuple #[noV, .bool false]
theorem find_take {l : List OI} {z : Int} {k : Nat} {o : OI} (hk : l[k]? = some o) (hz : o.oop = z) (hn : ∀ x ∈ l.take k, x.oop ≠ z) : l.find? (fun o => decide (o.oop = z)) = some o := by
  have hlt : k < l.length := (List.getElem?_eq_some_iff.1 hk).1
  have e : l = l.take k ++ o :: l.drop (k + 1) := by
    have h1 := List.take_append_drop k l
    have h2 : l.drop k = o :: l.drop (k + 1) := by
      rw [List.drop_eq_getElem_cons hlt]
      congr 1
      have := List.getElem?_eq_some_iff.1 hk
      exact this.2
    rw [h2] at h1
    exact h1.symm
  rw [e, List.find?_append]
  rw [List.find?_eq_none.2 (fun x hx => by simpa using hn x hx)]
  simp [hz]
set_option maxRecDepth 20000 in
set_option maxHeartbeats 2000000 in
theorem at_ok (l : List OI) (z x1 x2 x3 : Int) (ov : Value) (w : World) (ha : SAt w ov l) :
    Calls Tryd.prog 59 #[.agg #[.int .i64 x1, .int .i64 x2, .int .i64 x3, ov], .int .i64 z] w fun e w' =>
      e = .returned (atR l z) ∧ Fr [] w w' := by
  have HS := mkHid ha
  obtain ⟨pa, ca, rfl, hpa⟩ := ha.at_
  have hl := ha.short
  clear ha hpa
  go_enter Tryd.func59, Tryd.ntmps59
  go_wp2_with fail
  obtain ⟨V, hV⟩ : ∃ V, (w.alloc (.cells #[.int .i64 x1, .int .i64 x2, .int .i64 x3, .slice pa l.length ca] 24)).alloc (.cells #[.int .i64 0, .int .i64 0, .int .i64 0, .slice none 0 0] 44) = V := ⟨_, rfl⟩
  rw [hV]
  have hfV : Fr [] w V := by rw [← hV]; exact (Fr.alloc [] _ _).trans (Fr.alloc [] _ _) (by simp)
  have hb1 : V.heap[w.heap.size]? = some (.cells #[.int .i64 x1, .int .i64 x2, .int .i64 x3, .slice pa l.length ca] 24 (0, 0)) := by
    rw [← hV, Below.heap_alloc _ _ _ (by simp)]; exact heap_alloc_new _ _
  have hb2 : V.heap[w.heap.size + 1]? = some (.cells #[.int .i64 0, .int .i64 0, .int .i64 0, .slice none 0 0] 44 (0, 0)) := by
    rw [← hV]
    have := heap_alloc_new (w.alloc (.cells #[.int .i64 x1, .int .i64 x2, .int .i64 x3, .slice pa l.length ca] 24)) (.cells #[.int .i64 0, .int .i64 0, .int .i64 0, .slice none 0 0] 44)
    simpa using this
  have c3 : V.cell? ⟨w.heap.size, 3, none⟩ = some (.slice pa l.length ca) := by rw [cell_in hb1]; rfl
  have d0 : V.cell? ⟨w.heap.size + 1, 0, none⟩ = some (.int .i64 0) := by rw [cell_in hb2]; rfl
  have d1 : V.cell? ⟨w.heap.size + 1, 1, none⟩ = some (.int .i64 0) := by rw [cell_in hb2]; rfl
  have d2 : V.cell? ⟨w.heap.size + 1, 2, none⟩ = some (.int .i64 0) := by rw [cell_in hb2]; rfl
  have d3 : V.cell? ⟨w.heap.size + 1, 3, none⟩ = some (.slice none 0 0) := by rw [cell_in hb2]; rfl
  have f0 : V.frozen? ⟨w.heap.size + 1, 0, none⟩ = false := frozen_in hb2 0
  have f1 : V.frozen? ⟨w.heap.size + 1, 1, none⟩ = false := frozen_in hb2 1
  have f2 : V.frozen? ⟨w.heap.size + 1, 2, none⟩ = false := frozen_in hb2 2
  have f3 : V.frozen? ⟨w.heap.size + 1, 3, none⟩ = false := frozen_in hb2 3
  obtain ⟨pa', ca', ep, hat⟩ := (HS.out.idle hfV).at_
  cases ep
  have HSl := mkHid (HS.out.idle hfV).slots
  have HA := mkHid hat
  have HF := mkHid hfV
  have HB := mkHid hb2
  clear hat hfV hV HS hb1 hb2
  go_loopw [6] (fun q wr => ∃ k : Nat, k ≤ l.length ∧ q = .int .i64 k ∧ wr = V ∧ Hid (∀ x ∈ l.take k, x.oop ≠ z)) (fun q _ => l.length - (intOf q).toNat)
  case atStart => exact ⟨0, Nat.zero_le _, rfl, rfl, mkHid (by simp)⟩
  case round =>
    obtain ⟨k, hkn, rfl, rfl, HZ⟩ := hrel
    by_cases hlt : k < l.length
    · obtain ⟨ga, oa, rfl, hca⟩ := HA.out (by omega)
      obtain ⟨o, ho, o0, o1, o2, o3⟩ := hca k hlt
      have k1 : (0 : Int) ≤ (k : Int) := by omega
      have k2 : (k : Int) < (l.length : Int) := by omega
      have HO := mkHid ho
      clear hca HA ho
      by_cases he : o.oop = z
      · have HFi := mkHid (find_take HO.out he HZ.out)
        obtain ⟨pv, cv, ev, _⟩ := (HSl.out o (List.mem_of_getElem? HO.out)).at_
        clear HZ HO
        subst he
        have HFv : Hid (atR l o.oop = .tuple #[.agg #[.int .i64 o.oop, .int .i64 o.cls, .int .i64 o.fmt, .slice pv o.slots.length cv], .bool true]) := by
          show atR l o.oop = _
          unfold atR
          rw [HFi.out, ← ev]; rfl
        rw [ev] at o3
        clear HFi ev
        go_wp2_with fail
        obtain ⟨U, hU⟩ : ∃ U, U = (((wr.setCell ⟨w.heap.size + 1, 0, none⟩ (.int .i64 o.oop)).setCell ⟨w.heap.size + 1, 1, none⟩ (.int .i64 o.cls)).setCell ⟨w.heap.size + 1, 2, none⟩ (.int .i64 o.fmt)).setCell ⟨w.heap.size + 1, 3, none⟩ (.slice pv o.slots.length cv) := ⟨_, rfl⟩
        have hUb : U.heap[w.heap.size + 1]? = some (.cells #[.int .i64 o.oop, .int .i64 o.cls, .int .i64 o.fmt, .slice pv o.slots.length cv] 44 (0, 0)) := by
          rw [hU, set_in (set_in (set_in (set_in HB.out 0 _) 1 _) 2 _) 3 _]
          rfl
        have F : Fr [w.heap.size + 1] wr U := by
          rw [hU]
          exact (((Fr.setCell (S := [w.heap.size + 1]) wr ⟨w.heap.size + 1, 0, none⟩ (.int .i64 o.oop) (by simp)).trans (Fr.setCell (S := [w.heap.size + 1]) _ ⟨w.heap.size + 1, 1, none⟩ (.int .i64 o.cls) (by simp)) (fun b hb => .inl hb)).trans (Fr.setCell (S := [w.heap.size + 1]) _ ⟨w.heap.size + 1, 2, none⟩ (.int .i64 o.fmt) (by simp)) (fun b hb => .inl hb)).trans (Fr.setCell (S := [w.heap.size + 1]) _ ⟨w.heap.size + 1, 3, none⟩ (.slice pv o.slots.length cv) (by simp)) (fun b hb => .inl hb)
        rw [← hU]
        clear hU
        have y0 : U.cell? ⟨w.heap.size + 1, 0, none⟩ = some (.int .i64 o.oop) := by rw [cell_in hUb]; rfl
        have y1 : U.cell? ⟨w.heap.size + 1, 1, none⟩ = some (.int .i64 o.cls) := by rw [cell_in hUb]; rfl
        have y2 : U.cell? ⟨w.heap.size + 1, 2, none⟩ = some (.int .i64 o.fmt) := by rw [cell_in hUb]; rfl
        have y3 : U.cell? ⟨w.heap.size + 1, 3, none⟩ = some (.slice pv o.slots.length cv) := by rw [cell_in hUb]; rfl
        refine bodyPost_ret (v := .tuple #[.agg #[.int .i64 o.oop, .int .i64 o.cls, .int .i64 o.fmt, .slice pv o.slots.length cv], .bool true]) (by simp [results, Tryd.results59, go_sem, y0, y1, y2, y3]) rfl ?_
        exact ⟨by rw [HFv.out], HF.out.trans F (fun b hb => .inr (by simp at hb; omega))⟩
      · have hb : (o.oop == z) = false := by simpa using he
        have HN : Hid (∀ x ∈ l.take (k + 1), x.oop ≠ z) := by
          show ∀ x ∈ l.take (k + 1), x.oop ≠ z
          intro x hx
          rw [List.take_add_one, HO.out] at hx
          rcases List.mem_append.1 hx with h1 | h1
          · exact HZ.out x h1
          · have : x = o := by simpa using h1
            rw [this]; exact he
        clear HO HZ he
        go_wp2_with fail
        go_roundw
        case rel => exact ⟨k + 1, by omega, by go_num, trivial, HN⟩
        case measure => simp [intOf]; omega
    · have hke : k = l.length := by omega
      subst hke
      have HD : Hid (l.find? (fun o => decide (o.oop = z)) = none) := List.find?_eq_none.2 (fun x hx => by have := HZ.out; rw [List.take_length] at this; simpa using this x hx)
      have HFv : Hid (atR l z = .tuple #[.agg #[.int .i64 0, .int .i64 0, .int .i64 0, .slice none 0 0], .bool false]) := by
        show atR l z = _
        unfold atR
        rw [HD.out]; rfl
      clear HZ HD
      go_wp2_with fail
      obtain ⟨U, hU⟩ : ∃ U, U = (((wr.setCell ⟨w.heap.size + 1, 0, none⟩ (.int .i64 0)).setCell ⟨w.heap.size + 1, 1, none⟩ (.int .i64 0)).setCell ⟨w.heap.size + 1, 2, none⟩ (.int .i64 0)).setCell ⟨w.heap.size + 1, 3, none⟩ (.slice none 0 0) := ⟨_, rfl⟩
      have hUb : U.heap[w.heap.size + 1]? = some (.cells #[.int .i64 0, .int .i64 0, .int .i64 0, .slice none 0 0] 44 (0, 0)) := by
        rw [hU, set_in (set_in (set_in (set_in HB.out 0 _) 1 _) 2 _) 3 _]
        rfl
      have F : Fr [w.heap.size + 1] wr U := by
        rw [hU]
        exact (((Fr.setCell (S := [w.heap.size + 1]) wr ⟨w.heap.size + 1, 0, none⟩ (.int .i64 0) (by simp)).trans (Fr.setCell (S := [w.heap.size + 1]) _ ⟨w.heap.size + 1, 1, none⟩ (.int .i64 0) (by simp)) (fun b hb => .inl hb)).trans (Fr.setCell (S := [w.heap.size + 1]) _ ⟨w.heap.size + 1, 2, none⟩ (.int .i64 0) (by simp)) (fun b hb => .inl hb)).trans (Fr.setCell (S := [w.heap.size + 1]) _ ⟨w.heap.size + 1, 3, none⟩ (.slice none 0 0) (by simp)) (fun b hb => .inl hb)
      rw [← hU]
      clear hU
      have y0 : U.cell? ⟨w.heap.size + 1, 0, none⟩ = some (.int .i64 0) := by rw [cell_in hUb]; rfl
      have y1 : U.cell? ⟨w.heap.size + 1, 1, none⟩ = some (.int .i64 0) := by rw [cell_in hUb]; rfl
      have y2 : U.cell? ⟨w.heap.size + 1, 2, none⟩ = some (.int .i64 0) := by rw [cell_in hUb]; rfl
      have y3 : U.cell? ⟨w.heap.size + 1, 3, none⟩ = some (.slice none 0 0) := by rw [cell_in hUb]; rfl
      refine bodyPost_ret (v := .tuple #[.agg #[.int .i64 0, .int .i64 0, .int .i64 0, .slice none 0 0], .bool false]) (by simp [results, Tryd.results59, go_sem, y0, y1, y2, y3]) rfl ?_
      exact ⟨by rw [HFv.out], HF.out.trans F (fun b hb => .inr (by simp at hb; omega))⟩
end Go.Proofs.YtpaekbghnejhoaaDoor
namespace Go.Proofs.YtpaekbghnejhoaaDoor
open Go.RowKit
set_option linter.unusedVariables false
attribute [local go_sem ↓] Go.wp_at_zero Go.wp_at_succ
/-- the law's names -/
def namesS (l : List OI) (z : Int) : Bool := decide (4 ≤ z ∧ z % 4 = 0 ∧ z ≤ 262144) && (l.find? (fun o => decide (o.oop = z / 4))).isSome
set_option maxRecDepth 20000 in
set_option maxHeartbeats 2000000 in
theorem names_no (l : List OI) (z x1 x2 x3 : Int) (ov : Value) (w : World) (hz : ¬ (4 ≤ z ∧ z % 4 = 0 ∧ z ≤ 262144)) :
    Calls Tryd.prog 58 #[.agg #[.int .i64 x1, .int .i64 x2, .int .i64 x3, ov], .int .i64 z] w fun e w' => e = .returned (.bool false) ∧ Fr [] w w' := by
  by_cases h1 : z < 4
  · clear hz
    go_enter Tryd.func58, Tryd.ntmps58
    go_wp2_with fail
    go_ret
    exact ⟨rfl, Fr.alloc _ _ _⟩
  · have hm : z.tmod 4 = z % 4 := Int.tmod_eq_emod_of_nonneg (by omega)
    by_cases h2 : z % 4 = 0
    · have h3 : z > 262144 := by omega
      rw [h2] at hm
      clear hz h2
      go_enter Tryd.func58, Tryd.ntmps58
      go_wp2_with fail
      go_ret
      exact ⟨rfl, Fr.alloc _ _ _⟩
    · have hb : (z.tmod 4 == 0) = false := by rw [hm]; simpa using h2
      have h4 : ¬ z < 4 := h1
      clear hz hm
      go_enter Tryd.func58, Tryd.ntmps58
      go_wp2_with fail
      go_ret
      exact ⟨rfl, Fr.alloc _ _ _⟩
set_option maxRecDepth 20000 in
set_option maxHeartbeats 2000000 in
theorem names_in (l : List OI) (z x1 x2 x3 : Int) (ov : Value) (w : World) (ha : SAt w ov l) (h1 : 4 ≤ z) (h2 : z % 4 = 0) (h3 : z ≤ 262144) :
    Calls Tryd.prog 58 #[.agg #[.int .i64 x1, .int .i64 x2, .int .i64 x3, ov], .int .i64 z] w fun e w' => e = .returned (.bool (l.find? (fun o => decide (o.oop = z / 4))).isSome) ∧ Fr [] w w' := by
  have hm : z.tmod 4 = 0 := by rw [Int.tmod_eq_emod_of_nonneg (by omega)]; exact h2
  have hd : z.tdiv 4 = z / 4 := Int.tdiv_eq_ediv_of_nonneg (by omega)
  have k1 : ¬ z < 4 := by omega
  have k3 : ¬ 262144 < z := by omega
  have HA := mkHid (at_ok l (z / 4) x1 x2 x3 ov (w.alloc (.cells #[.int .i64 x1, .int .i64 x2, .int .i64 x3, ov] 24)) (ha.idle (Fr.alloc _ _ _)))
  obtain ⟨a1, a2, a3, pu, nu, cu, hu⟩ : ∃ (a1 a2 a3 : Int) (pu : Option Addr) (nu cu : Nat), Hid (atR l (z / 4) = .tuple #[.agg #[.int .i64 a1, .int .i64 a2, .int .i64 a3, .slice pu nu cu], .bool (l.find? (fun o => decide (o.oop = z / 4))).isSome]) := by
    unfold atR
    cases hfi : l.find? (fun o => decide (o.oop = z / 4)) with
    | none => exact ⟨0, 0, 0, none, 0, 0, rfl⟩
    | some o =>
      obtain ⟨pv, cv, ev, _⟩ := (ha.slots o (List.mem_of_find?_eq_some hfi)).at_
      exact ⟨o.oop, o.cls, o.fmt, pv, _, cv, by show Value.tuple #[oiV o, .bool true] = _; unfold oiV; rw [ev]; rfl⟩
  rw [hu.out] at HA
  clear hu
  generalize (l.find? (fun o => decide (o.oop = z / 4))).isSome = b at *
  clear ha h2
  go_enter Tryd.func58, Tryd.ntmps58
  go_wp2_with fail
  refine Calls.mono HA.out ?_
  rintro e w2 ⟨rfl, hf2⟩
  go_wp2_with fail
  go_ret
  exact ⟨rfl, ((Fr.alloc [] _ _).trans hf2 (by simp)).trans (Fr.alloc [] _ _) (by simp)⟩
theorem names_ok (l : List OI) (z x1 x2 x3 : Int) (ov : Value) (w : World) (ha : SAt w ov l) :
    Calls Tryd.prog 58 #[.agg #[.int .i64 x1, .int .i64 x2, .int .i64 x3, ov], .int .i64 z] w fun e w' => e = .returned (.bool (namesS l z)) ∧ Fr [] w w' := by
  unfold namesS
  by_cases h : 4 ≤ z ∧ z % 4 = 0 ∧ z ≤ 262144
  · rw [decide_eq_true h, Bool.true_and]
    exact names_in l z x1 x2 x3 ov w ha h.1 h.2.1 h.2.2
  · rw [decide_eq_false h, Bool.false_and]
    exact names_no l z x1 x2 x3 ov w h
end Go.Proofs.YtpaekbghnejhoaaDoor
namespace Go.Proofs.YtpaekbghnejhoaaDoor
open Go.RowKit
set_option linter.unusedVariables false
attribute [local go_sem ↓] Go.wp_at_zero Go.wp_at_succ
set_option maxRecDepth 20000 in
set_option maxHeartbeats 2000000 in
theorem sameObject_ok (a1 a2 a3 : Int) (ss : List Int) (va vb : Value) (w : World) (ha : Rd w va ss) (hb : Rd w vb ss) :
    Calls Tryd.prog 24 #[.agg #[.int .i64 a1, .int .i64 a2, .int .i64 a3, va], .agg #[.int .i64 a1, .int .i64 a2, .int .i64 a3, vb]] w fun e w' => e = .returned (.bool true) ∧ Fr [] w w' := by
  have HA := mkHid ha
  have HB := mkHid hb
  obtain ⟨pa, ca, rfl, _⟩ := ha.at_
  obtain ⟨pb, cb, rfl, _⟩ := hb.at_
  clear ha hb
  go_enter Tryd.func24, Tryd.ntmps24
  go_wp2_with fail
  have hfr : Fr [] w ((w.alloc (.cells #[.int .i64 a1, .int .i64 a2, .int .i64 a3, .slice pa ss.length ca] 44)).alloc (.cells #[.int .i64 a1, .int .i64 a2, .int .i64 a3, .slice pb ss.length cb] 44)) := (Fr.alloc [] _ _).trans (Fr.alloc [] _ _) (by simp)
  refine Calls.mono (sameWords_ok ss _ _ _ (HA.out.idle hfr) (HB.out.idle hfr)) ?_
  rintro e w2 ⟨rfl, n, rfl⟩
  go_wp2_with fail
  go_ret
  exact ⟨rfl, hfr.trans (Fr.drewN [] _ _) (by simp)⟩
end Go.Proofs.YtpaekbghnejhoaaDoor
namespace Go.Proofs.YtpaekbghnejhoaaDoor
open Go.RowKit Go.Shelf
set_option linter.unusedVariables false
theorem Rc.cells {B : Nat} {W : World} {a bh br ba : Nat} {ps : Option Addr} {n sc : Nat} {rs ah : List Nat} {av : Value} (h : Rc B W a bh br ba ps n sc rs ah av) (hp : n = 0 → ps = none) : ∀ b ∈ touch ps ba av, B ≤ b ∧ b < W.heap.size ∧ ∃ cs t, W.heap[b]? = some (.cells cs t (0, 0)) := by
  intro b hb
  unfold touch at hb
  rcases List.mem_append.1 hb with h1 | h1
  · by_cases hn : n = 0
    · rw [hp hn] at h1; simp at h1
    · obtain ⟨sb, e, h2, h3⟩ := h.marksAt (by omega)
      rw [e] at h1
      have : b = sb := by simpa using h1
      rw [this]
      exact ⟨h2, lt_of_heap h3, _, _, h3⟩
  · rcases List.mem_cons.1 h1 with e | h1
    · rw [e]; exact ⟨h.lo.2.2, lt_of_heap h.abox, _, _, h.abox⟩
    · rcases h.row.2 with ⟨e, _⟩ | ⟨g, cap, cur, e, h2, h3, _⟩
      · rw [e] at h1; simp [Value.ownBlock] at h1
      · rw [e] at h1
        have : b = g := by simpa [Value.ownBlock] using h1
        rw [this]
        exact ⟨h2, lt_of_heap h3, _, _, h3⟩
theorem Rc.cong {B : Nat} {W V : World} {a bh br ba : Nat} {ps : Option Addr} {n sc : Nat} {rs ah : List Nat} {av : Value} (h : Rc B W a bh br ba ps n sc rs ah av) (hf : ∀ (b : Nat) (cs : Array Value) (t : TypeId), W.heap[b]? = some (Obj.cells cs t (0, 0)) → V.heap[b]? = W.heap[b]?) : Rc B V a bh br ba ps n sc rs ah av :=
  ⟨h.lo, (hf _ _ _ h.hbox).trans h.hbox, (hf _ _ _ h.rbox).trans h.rbox, (hf _ _ _ h.abox).trans h.abox, own_congr h.row fun g hg => by
    rcases h.row.2 with ⟨e, _⟩ | ⟨g', cap, cur, e, h2, h3, _⟩
    · rw [e] at hg; simp [Value.ownBlock] at hg
    · rw [e] at hg
      have : g' = g := by simpa [Value.ownBlock] using hg
      rw [← this]; exact hf _ _ _ h3, fun hn => by
    obtain ⟨sb, h1, h2, h3⟩ := h.marksAt hn
    exact ⟨sb, h1, h2, (hf _ _ _ h3).trans h3⟩⟩
/-- a stretch of the search, from the world V on -/
structure Wk (B : Nat) (a bh br ba : Nat) (ps : Option Addr) (n sc : Nat) (V : World) (av0 : Value) (s : List Nat × List Nat) (av : Value) (W : World) : Prop where
  rc : Rc B W a bh br ba ps n sc s.1 s.2 av
  fr : Fr (touch ps ba av0) V W
  own : av.ownBlock = av0.ownBlock ∨ ∃ g, av.ownBlock = some g ∧ V.heap.size ≤ g
theorem mem_touch {ps : Option Addr} {ba : Nat} {av : Value} {b : Nat} : b ∈ touch ps ba av ↔ (∃ p, ps = some p ∧ b = p.block) ∨ b = ba ∨ av.ownBlock = some b := by
  unfold touch
  rw [List.mem_append, List.mem_cons]
  cases ps <;> cases av.ownBlock <;> simp [eq_comm]
theorem Wk.far {B a bh br ba : Nat} {ps : Option Addr} {n sc : Nat} {V : World} {av0 : Value} {s : List Nat × List Nat} {av : Value} {W : World} (h : Wk B a bh br ba ps n sc V av0 s av W) : ∀ b ∈ touch ps ba av, b ∈ touch ps ba av0 ∨ V.heap.size ≤ b := by
  intro b hb
  rcases mem_touch.1 hb with h1 | h1 | h1
  · exact .inl (mem_touch.2 (.inl h1))
  · exact .inl (mem_touch.2 (.inr (.inl h1)))
  · rcases h.own with e | ⟨g, e, hg⟩
    · exact .inl (mem_touch.2 (.inr (.inr (e ▸ h1))))
    · rw [h1] at e; cases e; exact .inr hg
theorem Wk.refl {B a bh br ba : Nat} {ps : Option Addr} {n sc : Nat} {V : World} {s : List Nat × List Nat} {av : Value} (h : Rc B V a bh br ba ps n sc s.1 s.2 av) : Wk B a bh br ba ps n sc V av s av V := ⟨h, Fr.refl _ _, .inl rfl⟩
theorem Wk.step {B a bh br ba : Nat} {ps : Option Addr} {n sc : Nat} {V : World} {av0 : Value} {s s' : List Nat × List Nat} {av av' : Value} {W W' : World} (h : Wk B a bh br ba ps n sc V av0 s av W) (h1 : Rc B W' a bh br ba ps n sc s'.1 s'.2 av') (h2 : Fr (touch ps ba av) W W') (h3 : av'.ownBlock = av.ownBlock ∨ ∃ g, av'.ownBlock = some g ∧ W.heap.size ≤ g) : Wk B a bh br ba ps n sc V av0 s' av' W' := by
  refine ⟨h1, h.fr.trans h2 h.far, ?_⟩
  rcases h3 with e | ⟨g, e, hg⟩
  · rw [e]; exact h.own
  · exact .inr ⟨g, e, Nat.le_trans h.fr.size hg⟩
theorem Wk.grown {B a bh br ba : Nat} {ps : Option Addr} {n sc : Nat} {V : World} {av0 : Value} {s : List Nat × List Nat} {av : Value} {W W' : World} {row : Option Nat} (h : Wk B a bh br ba ps n sc V av0 s av W) (hg : W.grownBy W' row) (hr : ∀ r, row = some r → V.heap.size ≤ r ∧ ∃ o : Obj, W.heap[r]? = some o ∧ o.isCells = false) : Wk B a bh br ba ps n sc V av0 s av W' := by
  refine ⟨h.rc.cong fun b cs t hb => hg.block b (lt_of_heap hb) (fun e => ?_), ?_, h.own⟩
  · obtain ⟨_, o, h1, h2⟩ := hr b e.symm
    rw [hb] at h1; cases h1; simp [Obj.isCells] at h2
  · exact h.fr.trans (Fr.grown (S := row.toList) hg (fun k hk => by rw [hk]; simp)) (fun b hb => .inr (hr b (by simpa using hb)).1)
/-- the world's other things stand -/
theorem Wk.rep {B a bh br ba : Nat} {ps : Option Addr} {n sc : Nat} {V : World} {av0 : Value} {s : List Nat × List Nat} {av : Value} {W : World} {l : Lay} {H : HS} (h : Wk B a bh br ba ps n sc V av0 s av W) (hV : Rep V a l H) (hb : ∀ g ∈ foot a l, g < B) (ht : ∀ b ∈ touch ps ba av0, B ≤ b) : Rep W a l H :=
  hV.keep h.fr fun g hg hm => by have := hb g hg; have := ht g hm; omega
theorem Wk.tab {B a bh br ba : Nat} {ps : Option Addr} {n sc : Nat} {V : World} {av0 : Value} {s : List Nat × List Nat} {av : Value} {W : World} (h : Wk B a bh br ba ps n sc V av0 s av W) (hV : Tab V) (hB : 0 < B) (hs : 0 < V.heap.size) (ht : ∀ b ∈ touch ps ba av0, B ≤ b) : Tab W :=
  hV.keep h.fr hs fun hm => by have := ht 0 hm; omega
theorem keeps_of_fr {S : List Nat} {W W' : World} (h : Fr S W W') (hc : ∀ b ∈ S, ∃ cs t, W.heap[b]? = some (.cells cs t (0, 0))) : KeepsOthers W W' :=
  ⟨h.size, fun k o hk ho => by
    rw [h.block k (lt_of_heap hk) (fun hm => by obtain ⟨cs, t, e⟩ := hc k hm; rw [hk] at e; cases e; simp [Obj.isCells] at ho)]
    exact hk⟩
/-- one element taken off the end -/
theorem own_cut {W : World} {base e : Nat} {p : Option Addr} {c m : Nat} {xs : List Value} {x : Value} (h : W.ownsRow base e 1 (.slice p (m + 1) c) (m + 1) (xs ++ [x])) : W.ownsRow base e 1 (.slice p m c) m xs ∧ ∃ g, p = some ⟨g, 0, none⟩ ∧ W.cell? ⟨g, m, none⟩ = some x ∧ m + 1 ≤ c ∧ c ≤ maxLen ∧ xs.length = m := by
  obtain ⟨hl, h⟩ := h
  have hm : xs.length = m := by simp at hl; omega
  rcases h with ⟨h1, _⟩ | ⟨g, cap, cur, h1, h2, h3, h4, h5, h6, h7⟩
  · cases h1
  · cases h1
    have h8 : cur.toList.take m = xs := by
      have := congrArg (List.take m) h7
      rw [List.take_take] at this
      rw [show min m ((m + 1) * 1) = m by omega] at this
      rw [this, ← hm]; simp
    refine ⟨⟨by omega, .inr ⟨g, c, cur, rfl, h2, h3, by omega, h5, h6, by rw [Nat.mul_one]; exact h8⟩⟩, g, rfl, ?_, h4, h5, hm⟩
    rw [cell_in h3]
    have h9 : (cur.toList.take (m + 1))[m]? = some x := by rw [Nat.mul_one] at h7; rw [h7, ← hm]; simp
    rw [List.getElem?_take] at h9
    rw [if_pos (by omega)] at h9
    simpa using h9
end Go.Proofs.YtpaekbghnejhoaaDoor
namespace Go.Proofs.YtpaekbghnejhoaaDoor
open Go.RowKit Go.Shelf
set_option linter.unusedVariables false
theorem allTo_rise (H : HS) (k : Nat) : (allTo H k).Pairwise (· < ·) := by
  unfold allTo
  exact List.Pairwise.filter _ List.pairwise_lt_range
theorem rise_last {l : List Nat} (h : l.Pairwise (· < ·)) : ∀ q ∈ l, q ≤ l.getD (l.length - 1) 0 := by
  intro q hq
  obtain ⟨i, hi, e⟩ := List.getElem_of_mem hq
  have hl : l.length - 1 < l.length := by omega
  rw [List.getD_eq_getElem?_getD, List.getElem?_eq_getElem hl, Option.getD_some, ← e]
  by_cases c : i = l.length - 1
  · simp [c]
  · exact Nat.le_of_lt (List.pairwise_iff_getElem.1 h i (l.length - 1) hi hl (by omega))
theorem marks_any (H : HS) (ks : List Nat) (hks : ks = allTo H H.seats.length) (hs : (H.seats.length : Int) ≤ 65538) (base : Nat) (v : Value) (w : World) (h : w.ownsRow base 3 1 v ks.length (ks.map I)) :
    Calls Tryd.prog 53 #[v] w fun e w' => ∃ ps n sc, e = .returned (.slice ps n sc) ∧ (n = 0 → ps = none) ∧ Fr [] w w' ∧ n ≤ 1048576 ∧ (∀ q ∈ ks, q < n) ∧ (0 < n → ∃ sb, ps = some ⟨sb, 0, none⟩ ∧ w.heap.size ≤ sb ∧ w'.heap[sb]? = some (.cells (keptL n []).toArray 4 (0, 0))) := by
  have hlen : ks.length ≤ H.seats.length := by rw [hks]; exact allTo_len H _
  have hbig : ∀ q ∈ ks, q < H.seats.length := fun q hq => by rw [hks] at hq; unfold allTo at hq; simpa using (List.mem_filter.1 hq).1
  have hrise : ks.Pairwise (· < ·) := by rw [hks]; exact allTo_rise H _
  by_cases hk : ks.length = 0
  · have : ∃ p c, v = .slice p 0 c := by
      rcases h.2 with ⟨e, _⟩ | ⟨g, cap, cur, e, _⟩
      · exact ⟨_, _, e⟩
      · exact ⟨some ⟨g, 0, none⟩, cap, by rw [e, hk]⟩
    obtain ⟨p, c, rfl⟩ := this
    refine (marks_nil p c w).mono ?_
    rintro e w' ⟨rfl, rfl⟩
    have hnil : ks = [] := List.length_eq_zero_iff.1 hk
    exact ⟨none, 0, 0, rfl, fun _ => rfl, Fr.refl _ _, by omega, by simp [hnil], fun c => absurd c (by omega)⟩
  · obtain ⟨p, c, rfl, hc⟩ := own_slot (ss := ks.map fun x : Nat => (x : Int)) (by rw [List.length_map, List.map_map]; exact h)
    obtain ⟨g, rfl, hcell⟩ := hc (by simp; omega)
    have hl := hcell (ks.length - 1) (by simp; omega)
    have hz : (ks.map fun x : Nat => (x : Int)).getD (ks.length - 1) 0 = ((ks.getD (ks.length - 1) 0 : Nat) : Int) := by
      rw [List.getD_eq_getElem?_getD, List.getElem?_map, List.getD_eq_getElem?_getD, List.getElem?_eq_getElem (by omega)]; rfl
    rw [hz] at hl
    have hmem : ks.getD (ks.length - 1) 0 ∈ ks := by rw [List.getD_eq_getElem?_getD, List.getElem?_eq_getElem (by omega)]; exact List.getElem_mem _
    have hzl := hbig _ hmem
    rw [List.length_map]
    refine (marks_ok g c ks.length (ks.getD (ks.length - 1) 0) w (by omega) (by omega) (by omega) hl).mono ?_
    rintro e w' ⟨rfl, rfl⟩
    refine ⟨_, _, _, rfl, fun e => by omega, Fr.alloc _ _ _, by omega, fun q hq => by have := rise_last hrise q hq; omega, fun _ => ⟨_, rfl, Nat.le_refl _, ?_⟩⟩
    exact heap_alloc_new w _
end Go.Proofs.YtpaekbghnejhoaaDoor
namespace Go.Proofs.YtpaekbghnejhoaaDoor
open Go.RowKit Go.Shelf
set_option linter.unusedVariables false
def meetV (bh br ba : Nat) : Value := .func (.func 54) #[] #[.pointer (some ⟨bh, 0, none⟩), .pointer (some ⟨br, 0, none⟩), .pointer (some ⟨ba, 0, none⟩)]
/-- what stands around the search at a world X; T: what the search writes -/
structure En (w : World) (bh br ba bm : Nat) (v : Value) (ks : List Nat) (T : List Nat) (X : World) : Prop where
  fr : Fr [] w X
  mbox : X.heap[bm]? = some (.cells #[meetV bh br ba] 103 (0, 0))
  all : X.ownsRow w.heap.size 3 1 v ks.length (ks.map I)
  mT : bm ∉ T
  aT : ∀ g, v.ownBlock = some g → g ∉ T
  tT : ∀ b ∈ T, w.heap.size ≤ b
theorem En.step {w : World} {a bh br ba bm : Nat} {v : Value} {ks : List Nat} {ps : Option Addr} {n sc : Nat} {V W : World} {av0 av : Value} {s : List Nat × List Nat} (h : En w bh br ba bm v ks (touch ps ba av0) V) (k : Wk w.heap.size a bh br ba ps n sc V av0 s av W) : En w bh br ba bm v ks (touch ps ba av) W := by
  refine ⟨h.fr.trans k.fr (fun b hb => .inr (h.tT b hb)), (k.fr.block _ (lt_of_heap h.mbox) h.mT).trans h.mbox, own_congr h.all fun g hg => k.fr.block g (h.all.lt g hg).2 (h.aT g hg), fun hm => ?_, fun g hg hm => ?_, fun b hb => ?_⟩
  · rcases k.far _ hm with h1 | h1
    · exact h.mT h1
    · have := lt_of_heap h.mbox; omega
  · rcases k.far _ hm with h1 | h1
    · exact h.aT g hg h1
    · have := (h.all.lt g hg).2; omega
  · rcases k.far _ hb with h1 | h1
    · exact h.tT b h1
    · have := h.fr.size; omega
/-- .. where blocks are laid beside -/
theorem En.idle {w : World} {bh br ba bm : Nat} {v : Value} {ks T : List Nat} {V W : World} (h : En w bh br ba bm v ks T V) (k : Fr [] V W) : En w bh br ba bm v ks T W :=
  ⟨h.fr.trans k (by simp), (k.block _ (lt_of_heap h.mbox) (by simp)).trans h.mbox, own_congr h.all fun g hg => k.block g (h.all.lt g hg).2 (by simp), h.mT, h.aT, h.tT⟩
theorem En.cm {w : World} {bh br ba bm : Nat} {v : Value} {ks T : List Nat} {V : World} (h : En w bh br ba bm v ks T V) : V.cell? ⟨bm, 0, none⟩ = some (meetV bh br ba) := by rw [cell_in h.mbox]; rfl
theorem En.rep {w : World} {bh br ba bm : Nat} {v : Value} {ks T : List Nat} {V : World} (h : En w bh br ba bm v ks T V) {a : Nat} {l : Lay} {H : HS} (hr : Rep w a l H) : Rep V a l H := hr.keep h.fr (by simp)
theorem En.tab {w : World} {bh br ba bm : Nat} {v : Value} {ks T : List Nat} {V : World} (h : En w bh br ba bm v ks T V) {a : Nat} {l : Lay} {H : HS} (hr : Rep w a l H) (hT : Tab w) : Tab V := hT.fr h.fr (Nat.zero_lt_of_lt (lt_of_heap hr.top))
theorem has_all {H : HS} {q : Nat} (h : has H (q : Int) = true) : q ∈ allTo H H.seats.length := by
  obtain ⟨h1, h2, h3⟩ := has_yes h
  unfold allTo
  rw [List.mem_filter]
  exact ⟨List.mem_range.2 (by omega), decide_eq_true (by omega)⟩
theorem names_lt {H : HS} {n : Nat} (hlt : ∀ q ∈ allTo H H.seats.length, q < n) (z : Int) (hz : namesB H z = true) : 0 ≤ z / 4 ∧ (z / 4).toNat < n :=
  ⟨(names_has hz).2, hlt _ (has_all (names_has hz).1)⟩
theorem Sh.nil (n : Nat) : Sh n ([], []) := ⟨by simp, by simp, by simp, by simp⟩
/-- meet, in the midst of the search -/
theorem meet_in {w : World} {a bh br ba bm : Nat} {v : Value} {ks : List Nat} {ps : Option Addr} {n sc : Nat} {V W : World} {av0 av : Value} {s : List Nat × List Nat} {l : Lay} {H : HS} {M : MS} (hr : Rep w a l H) (hi : Inv H M) (hT : Tab w) (hlt : ∀ q ∈ allTo H H.seats.length, q < n) (hn : n ≤ 1048576) (hs : Sh n s)
    (h : En w bh br ba bm v ks (touch ps ba av0) V) (k : Wk w.heap.size a bh br ba ps n sc V av0 s av W) (z : Int) :
    Calls Tryd.prog 54 #[.int .i64 z, .pointer (some ⟨bh, 0, none⟩), .pointer (some ⟨br, 0, none⟩), .pointer (some ⟨ba, 0, none⟩)] W fun e W' => e = .returned (.tuple #[]) ∧ ∃ av', Wk w.heap.size a bh br ba ps n sc V av0 (seen1 H s z) av' W' ∧ Fr (touch ps ba av) W W' := by
  have hE := h.step k
  have ha := hs.alen
  refine (meet_any z w.heap.size a bh br ba ps n sc s.1 s.2 av l H M W (hE.rep hr) hi (hE.tab hr hT) k.rc (names_lt hlt z) hn (by omega)).mono ?_
  rintro e W' ⟨rfl, av', h1, h2, h3⟩
  exact ⟨rfl, av', k.step h1 h2 h3, h2⟩
end Go.Proofs.YtpaekbghnejhoaaDoor
