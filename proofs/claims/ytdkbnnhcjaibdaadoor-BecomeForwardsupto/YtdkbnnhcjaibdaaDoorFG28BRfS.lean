import Derived.Test.YtdkbnnhcjaibdaaDoorFG24BMap
import Derived.Test.YtdkbnnhcjaibdaaDoorFG14CMeet
import Derived.Test.YtdkbnnhcjaibdaaDoorFBSwap
import Derived.Test.YtdkbnnhcjaibdaaDoorFBRefK
namespace Go.Proofs.YtdkbnnhcjaibdaaDoor
open Go.RowKit Go.Maps
set_option linter.unusedVariables false
attribute [local go_sem ↓] Go.wp_at_zero Go.wp_at_succ
set_option maxHeartbeats 1000000 in
theorem objectWord_ok (k : Int) (w : World) (h1 : 0 ≤ k) (h2 : k ≤ 1000000000) : Calls Tryd.prog 149 #[.int .i64 k] w fun e w' => e = .returned (.int .i64 (4 * k)) ∧ w' = w := by
  go_enter Tryd.func149, Tryd.ntmps149
  go_wp2
  go_ret
  exact ⟨rfl, rfl⟩
set_option maxHeartbeats 1000000 in
theorem Object_ok (k : Int) (w : World) (h1 : 1 ≤ k) (h2 : k ≤ 65536) : Calls Tryd.prog 146 #[.int .i64 k] w fun e w' => e = .returned (.tuple #[.int .i64 (4 * k), .int .i64 0]) ∧ w' = w := by
  have HO := mkHid (objectWord_ok k w (by omega) (by omega))
  go_enter Tryd.func146, Tryd.ntmps146
  go_wp2_with (go_at_call 149; refine Calls.mono HO.out ?_; rintro e w' ⟨rfl, hw'⟩; rw [hw']; clear hw' w')
  go_ret2
  exact ⟨rfl, rfl⟩
/-- what a word is turned into, if it is -/
def turnW (f : List (Int × Int)) (z : Int) : Option Int := if kindOf z = 3 ∧ inK f (z / 4) = true ∧ look f (z / 4) ≠ z / 4 then some (4 * look f (z / 4)) else none
theorem look_mem {f : List (Int × Int)} {q : Int} (h : inK f q = true) : ∃ p ∈ f, p.1 = q ∧ look f q = p.2 := by
  unfold look
  cases hf : f.find? (fun p => decide (p.1 = q)) with
  | none =>
    obtain ⟨x, x1, x2⟩ := List.any_eq_true.1 h
    exact absurd x2 (by simpa using List.find?_eq_none.1 hf x x1)
  | some x => exact ⟨x, List.mem_of_find?_eq_some hf, by simpa using List.find?_some hf, rfl⟩
set_option maxRecDepth 20000 in
set_option maxHeartbeats 2000000 in
theorem turned_ok (z : Int) (b : Nat) (f : List (Int × Int)) (w : World) (h : MapIs w b f) (hT : Tab w) (hf : ∀ p ∈ f, 1 ≤ p.2 ∧ p.2 ≤ 65536) :
    Calls Tryd.prog 129 #[.int .i64 z, .map (some b)] w fun e w' => e = .returned (.tuple #[.int .i64 ((turnW f z).getD 0), .bool (turnW f z).isSome]) ∧ w' = w := by
  by_cases hk : kindOf z = 3
  · obtain ⟨n, D, hown, hn, hh, ha, hm⟩ := h.at_
    have hz := (kind3 z).1 hk
    have hkey : keyOf Tryd.prog 3 (.int .i64 (z / 4)) = some (.int .i64 (z / 4)) := keyOf_int_mk Tryd.underlying3 (wf_small (by omega) (by omega))
    have HO := mkHid (Oop_yes z w hT hk)
    have hhq := hh (z / 4)
    have haq := ha (z / 4)
    have HTn : Hid (turnW f z = if inK f (z / 4) = true ∧ look f (z / 4) ≠ z / 4 then some (4 * look f (z / 4)) else none) := by
      show turnW f z = _
      unfold turnW
      by_cases c : inK f (z / 4) = true ∧ look f (z / 4) ≠ z / 4
      · rw [if_pos c, if_pos ⟨hk, c⟩]
      · rw [if_neg c, if_neg (fun h => c h.2)]
    have hlk : inK f (z / 4) = true → 1 ≤ look f (z / 4) ∧ look f (z / 4) ≤ 65536 := fun hi => by
      obtain ⟨p, p1, p2, p3⟩ := look_mem hi
      rw [p3]; exact hf p p1
    generalize turnW f z = T at *
    generalize z / 4 = q at *
    clear h hT hf hk hz hh ha
    cases hi : inK f q with
    | false =>
      rw [hi] at hhq HTn
      have hT2 := HTn.out
      rw [if_neg (by simp)] at hT2
      have HT2 := mkHid hT2
      clear hT2 HTn hlk hi haq
      go_enter Tryd.func129, Tryd.ntmps129
      go_wp2_with (first
        | (go_at_call 145; refine Calls.mono HO.out ?_; rintro e w' ⟨rfl, hw'⟩; rw [hw']; clear hw' w')
        | (at_lookup; refine wpList_lookup_own_ok_int _ rfl _ _ 155 rfl 3 3 .i64 mlaw Tryd.underlying155 Tryd.underlying3 (mzero _) b n _ rfl hown _ _ rfl hkey ?_; intro c hat hwc; rw [hhq])
        | go_in)
      go_ret2
      exact ⟨by rw [HT2.out]; rfl, rfl⟩
    | true =>
      obtain ⟨l1, l2⟩ := hlk hi
      rw [hi] at hhq HTn
      by_cases he : look f q = q
      · have hT2 := HTn.out
        rw [if_neg (fun c => c.2 he)] at hT2
        have HT2 := mkHid hT2
        rw [he] at haq
        clear hT2 HTn hlk hi he
        go_enter Tryd.func129, Tryd.ntmps129
        go_wp2_with (first
          | (go_at_call 145; refine Calls.mono HO.out ?_; rintro e w' ⟨rfl, hw'⟩; rw [hw']; clear hw' w')
          | (at_lookup; refine wpList_lookup_own_ok_int _ rfl _ _ 155 rfl 3 3 .i64 mlaw Tryd.underlying155 Tryd.underlying3 (mzero _) b n _ rfl hown _ _ rfl hkey ?_; intro c hat hwc; rw [hhq]; have hc : c = q := (by rw [haq] at hat; injection hat with hat; injection hat with _ hat; exact hat.symm); subst hc; clear hat)
          | go_in)
        go_ret2
        exact ⟨by rw [HT2.out]; rfl, rfl⟩
      · have hT2 := HTn.out
        rw [if_pos ⟨rfl, he⟩] at hT2
        have HT2 := mkHid hT2
        have hb : (look f q == q) = false := by simpa using he
        have HOb := mkHid (Object_ok (look f q) w l1 l2)
        generalize look f q = v at *
        clear hT2 HTn hlk hi he
        go_enter Tryd.func129, Tryd.ntmps129
        go_wp2_with (first
          | (go_at_call 145; refine Calls.mono HO.out ?_; rintro e w' ⟨rfl, hw'⟩; rw [hw']; clear hw' w')
          | (go_at_call 146; refine Calls.mono HOb.out ?_; rintro e w' ⟨rfl, hw'⟩; rw [hw']; clear hw' w')
          | (at_lookup; refine wpList_lookup_own_ok_int _ rfl _ _ 155 rfl 3 3 .i64 mlaw Tryd.underlying155 Tryd.underlying3 (mzero _) b n _ rfl hown _ _ rfl hkey ?_; intro c hat hwc; rw [hhq]; have hc : c = v := (by rw [haq] at hat; injection hat with hat; injection hat with _ hat; exact hat.symm); subst hc; clear hat)
          | go_in)
        go_ret2
        exact ⟨by rw [HT2.out]; rfl, rfl⟩
  · have HO := mkHid (Oop_no z w hT hk)
    have HTn : Hid (turnW f z = none) := by
      show turnW f z = none
      unfold turnW
      rw [if_neg (fun h => hk h.1)]
    generalize turnW f z = T at *
    clear h hT hf hk
    go_enter Tryd.func129, Tryd.ntmps129
    go_wp2_with (go_at_call 145; refine Calls.mono HO.out ?_; rintro e w' ⟨rfl, hw'⟩; rw [hw']; clear hw' w')
    go_ret2
    exact ⟨by rw [HTn.out]; rfl, rfl⟩
end Go.Proofs.YtdkbnnhcjaibdaaDoor
namespace Go.Proofs.YtdkbnnhcjaibdaaDoor
open Go.RowKit Go.Maps
set_option linter.unusedVariables false
attribute [local go_sem ↓] Go.wp_at_zero Go.wp_at_succ
/-- a word as it is behind a Forward -/
def turnZ (f : List (Int × Int)) (z : Int) : Int := (turnW f z).getD z
def turnC (f : List (Int × Int)) (z : Int) : Nat := if (turnW f z).isSome then 1 else 0
/-- the pairs' second numbers are oops -/
def Good (f : List (Int × Int)) : Prop := ∀ p ∈ f, 1 ≤ p.2 ∧ p.2 ≤ 65536
theorem turnW_word {f : List (Int × Int)} (hf : Good f) {z v : Int} (h : turnW f z = some v) : isW v = true ∧ mayB v 0 = true := by
  unfold turnW at h
  split at h
  · rename_i c
    obtain ⟨p, p1, p2, p3⟩ := look_mem c.2.1
    have := hf p p1
    injection h with h
    have hk : kindOf v = 3 := (kind3 v).2 (by omega)
    have hw : isW v = true := by
      show (kindOf v != 0) = true
      rw [hk]; decide
    exact ⟨hw, by unfold mayB; rw [if_neg (by decide)]; exact hw⟩
  · cases h
section
variable {words oops mark : Nat} {ks : List Key} {H : HS} {M : MS} {a : Nat} {l : Lay}
theorem updK_self (h : KA words oops mark ks H M) {k : Key} (hk : k ∈ ks) : ks.map (updK k) = ks := by
  conv => rhs; rw [← List.map_id ks]
  refine List.map_congr_left fun x hx => ?_
  unfold updK
  by_cases e : x.1 = k.1
  · rw [if_pos e]; exact (h.uniq hk hx e).symm
  · rw [if_neg e]; rfl
set_option maxRecDepth 20000 in
set_option maxHeartbeats 1000000 in
theorem turnClass_ok (f : List (Int × Int)) (b : Nat) (w : World) (hR : Rep w a l H) (h : KA words oops mark ks H M) {k : Key} (hk : k ∈ ks) (hm : MapIs w b f) (hf : Good f) (hT : Tab w) (hb : b ∉ foot a l) (hW : 0 < w.heap.size) :
    Calls Tryd.prog 100 #[.pointer (some ⟨a, 0, none⟩), .int .i64 k.1, .map (some b)] w fun e w' => e = .returned (.int .i64 (turnC f k.2.1 : Nat)) ∧ ∃ H' M', Rep w' a l H' ∧ KA words oops mark (ks.map (updK (k.1, turnZ f k.2.1, k.2.2.1, k.2.2.2))) H' M' ∧ H'.age = H.age ∧ Nx a l l w w' := by
  have HC := mkHid (class_at hR h hk)
  have HR := mkHid hR
  have HK := mkHid h
  have Hk := mkHid hk
  have HTn : Hid (∀ V, Fr [] w V → Calls Tryd.prog 129 #[.int .i64 k.2.1, .map (some b)] V fun e w' => e = .returned (.tuple #[.int .i64 ((turnW f k.2.1).getD 0), .bool (turnW f k.2.1).isSome]) ∧ w' = V) := fun V hV => turned_ok k.2.1 b f V (hm.idle hV (by simp)) (hT.fr hV hW) hf
  have HSet : Hid (∀ V v, Fr [] w V → turnW f k.2.1 = some v → Calls Tryd.prog 58 #[.pointer (some ⟨a, 0, none⟩), .int .i64 k.1, .int .i64 v] V fun e w' => e = .returned (.int .i64 0) ∧ ∃ H' M', Rep w' a l H' ∧ KA words oops mark (ks.map (updK (k.1, v, k.2.2.1, k.2.2.2))) H' M' ∧ H'.age = H.age ∧ Nx a l l V w') := fun V v hV hv => setClass_at (hR.keep hV (by simp)) h hk v (turnW_word hf hv).1 (hT.fr hV hW)
  clear hR h hk hm hf hT
  cases ht : turnW f k.2.1 with
  | none =>
    rw [ht] at HTn
    have e1 : turnC f k.2.1 = 0 := by unfold turnC; rw [ht]; rfl
    have e2 : turnZ f k.2.1 = k.2.1 := by unfold turnZ; rw [ht]; rfl
    rw [e1, e2]
    have HRes : Hid (ks.map (updK (k.1, k.2.1, k.2.2.1, k.2.2.2)) = ks) := updK_self HK.out Hk.out
    clear ht e1 e2 HSet
    go_enter Tryd.func100, Tryd.ntmps100
    go_wp2_with fail
    refine Calls.mono HC.out ?_
    rintro e w2 ⟨rfl, hf2⟩
    have HF2 := mkHid hf2
    clear hf2
    go_wp2_with fail
    refine Calls.mono (HTn.out w2 HF2.out) ?_
    rintro e w' ⟨rfl, hw'⟩
    rw [hw']
    clear hw' w'
    simp only [Option.getD_none, Option.isSome_none]
    go_wp2_with fail
    go_ret
    exact ⟨rfl, H, M, HR.out.keep HF2.out (by simp), by rw [HRes.out]; exact HK.out, rfl, Nx.fr (HF2.out.mono (by simp))⟩
  | some v =>
    rw [ht] at HTn
    have e1 : turnC f k.2.1 = 1 := by unfold turnC; rw [ht]; rfl
    have e2 : turnZ f k.2.1 = v := by unfold turnZ; rw [ht]; rfl
    rw [e1, e2]
    have HS2 : Hid (∀ V, Fr [] w V → _) := fun V hV => HSet.out V v hV ht
    clear ht e1 e2 HSet
    go_enter Tryd.func100, Tryd.ntmps100
    go_wp2_with fail
    refine Calls.mono HC.out ?_
    rintro e w2 ⟨rfl, hf2⟩
    have HF2 := mkHid hf2
    clear hf2
    go_wp2_with fail
    refine Calls.mono (HTn.out w2 HF2.out) ?_
    rintro e w' ⟨rfl, hw'⟩
    rw [hw']
    clear hw' w'
    simp only [Option.getD_some, Option.isSome_some]
    go_wp2_with fail
    refine Calls.mono (HS2.out w2 HF2.out) ?_
    rintro e w3 ⟨rfl, H', M', h1, h2, h3, h4⟩
    have HZ : Hid (∃ H' M', Rep w3 a l H' ∧ KA words oops mark (ks.map (updK (k.1, v, k.2.2.1, k.2.2.2))) H' M' ∧ H'.age = H.age ∧ Nx a l l w w3) := ⟨H', M', h1, h2, h3, (Nx.fr (HF2.out.mono (by simp))).trans h4⟩
    clear h1 h2 h3 h4
    go_wp2_with fail
    go_ret
    exact ⟨rfl, HZ.out⟩
/-- the first i slots turned -/
def turnTo (f : List (Int × Int)) (ss : List Int) (i : Nat) : List Int := (ss.take i).map (turnZ f) ++ ss.drop i
def cntTo (f : List (Int × Int)) (ss : List Int) (i : Nat) : Nat := ((ss.take i).map (turnC f)).sum
theorem turnTo_len (f : List (Int × Int)) (ss : List Int) (i : Nat) : (turnTo f ss i).length = ss.length := by unfold turnTo; simp; omega
theorem turnTo_get (f : List (Int × Int)) (ss : List Int) (i : Nat) (hi : i < ss.length) : (turnTo f ss i).getD i 0 = ss.getD i 0 := by
  unfold turnTo
  rw [List.getD_eq_getElem?_getD, List.getElem?_append_right (by simp; omega), List.getElem?_drop, List.getD_eq_getElem?_getD]
  congr 2
  simp; omega
theorem turnTo_set (f : List (Int × Int)) (ss : List Int) (i : Nat) (hi : i < ss.length) : turnTo f ss (i + 1) = (turnTo f ss i).set i (turnZ f (ss.getD i 0)) := by
  unfold turnTo
  have hl : ((ss.take i).map (turnZ f)).length = i := by simp; omega
  rw [List.set_append_right _ _ (by omega), hl, Nat.sub_self, List.drop_eq_getElem_cons hi, List.set_cons_zero, take_get ss 0 i hi, List.map_append, List.append_assoc]
  rfl
theorem cntTo_succ (f : List (Int × Int)) (ss : List Int) (i : Nat) (hi : i < ss.length) : cntTo f ss (i + 1) = cntTo f ss i + turnC f (ss.getD i 0) := by
  unfold cntTo
  rw [take_get ss 0 i hi, List.map_append, List.sum_append]; simp
theorem turnTo_same (f : List (Int × Int)) (ss : List Int) (i : Nat) (hi : i < ss.length) (h : turnZ f (ss.getD i 0) = ss.getD i 0) : turnTo f ss (i + 1) = turnTo f ss i := by
  rw [turnTo_set f ss i hi, h]
  refine List.ext_getElem (by simp) fun j h1 h2 => ?_
  rw [List.getElem_set]
  split
  · rename_i e
    subst e
    have := turnTo_get f ss i hi
    rw [List.getD_eq_getElem?_getD, List.getElem?_eq_getElem h2] at this
    exact this.symm
  · rfl
theorem cntTo_le (f : List (Int × Int)) (ss : List Int) (i : Nat) : cntTo f ss i ≤ ss.length := by
  unfold cntTo
  have : ∀ l : List Int, (l.map (turnC f)).sum ≤ l.length := fun l => by
    induction l with
    | nil => simp
    | cons x t ih =>
      rw [List.map_cons, List.sum_cons, List.length_cons]
      have : turnC f x ≤ 1 := by unfold turnC; split <;> omega
      omega
  have h2 := this (ss.take i)
  rw [List.length_take] at h2
  omega
/-- one object after another -/
theorem upd_upd {k k' k'' : Key} (h1 : k'.1 = k.1) (h2 : k''.1 = k.1) (ks : List Key) : (ks.map (updK k')).map (updK k'') = ks.map (updK k'') := by
  rw [List.map_map]
  refine List.map_congr_left fun x hx => ?_
  show updK k'' (updK k' x) = updK k'' x
  by_cases e : x.1 = k.1
  · have e1 : updK k' x = k' := by unfold updK; rw [if_pos (by rw [h1]; exact e)]
    have e2 : updK k'' x = k'' := by unfold updK; rw [if_pos (by rw [h2]; exact e)]
    rw [e1, e2]
    unfold updK
    rw [if_pos (by rw [h1, h2])]
  · have e1 : updK k' x = x := by unfold updK; rw [if_neg (by rw [h1]; exact e)]
    rw [e1]
theorem upd_mem {k k' : Key} (hk : k ∈ ks) (h1 : k'.1 = k.1) : k' ∈ ks.map (updK k') := by
  refine List.mem_map.2 ⟨k, hk, ?_⟩
  unfold updK
  rw [if_pos h1.symm]
set_option maxRecDepth 20000 in
set_option maxHeartbeats 2000000 in
theorem turnSlots_ok (f : List (Int × Int)) (b : Nat) (w : World) (hR : Rep w a l H) (h : KA words oops mark ks H M) {k : Key} (hk : k ∈ ks) (hm : MapIs w b f) (hf : Good f) (hT : Tab w) (hb : b ∉ foot a l) (hW : 0 < w.heap.size) (h0 : 0 ∉ foot a l) :
    Calls Tryd.prog 101 #[.pointer (some ⟨a, 0, none⟩), .int .i64 k.1, .map (some b)] w fun e w' => e = .returned (.int .i64 ((if k.2.2.1 = 0 then cntTo f k.2.2.2 k.2.2.2.length else 0) : Nat)) ∧ ∃ H' M', Rep w' a l H' ∧ KA words oops mark (ks.map (updK (k.1, k.2.1, k.2.2.1, if k.2.2.1 = 0 then turnTo f k.2.2.2 k.2.2.2.length else k.2.2.2))) H' M' ∧ H'.age = H.age ∧ Nx a l l w w' := by
  have HC := mkHid (size_at hR h hk)
  have hsl := h.slots k hk
  have HR := mkHid hR
  have HK := mkHid h
  have Hk := mkHid hk
  have HMp := mkHid hm
  have HTb : Hid (∀ V, Fr (foot a l) w V → Tab V) := fun V hV => hT.keep hV hW h0
  obtain ⟨ko, kc, kf, ss⟩ := k
  dsimp only at *
  clear hR h hk hm hT
  by_cases hz : kf = 0
  rotate_left
  · have hb1 : (kf == 0) = false := by simpa using hz
    rw [if_neg hz, if_neg hz]
    have HRes : Hid (ks.map (updK (ko, kc, kf, ss)) = ks) := updK_self HK.out Hk.out
    clear hz
    go_enter Tryd.func101, Tryd.ntmps101
    go_wp2_with fail
    refine Calls.mono HC.out ?_
    rintro e w2 ⟨rfl, hf2⟩
    have HF2 := mkHid hf2
    clear hf2
    go_wp2_with fail
    go_ret
    exact ⟨rfl, H, M, HR.out.keep HF2.out (by simp), by rw [HRes.out]; exact HK.out, rfl, Nx.fr (HF2.out.mono (by simp))⟩
  · subst hz
    rw [if_pos rfl, if_pos rfl]
    go_enter Tryd.func101, Tryd.ntmps101
    go_wp2_with fail
    refine Calls.mono HC.out ?_
    rintro e w2 ⟨rfl, hf2⟩
    have HF2 := mkHid hf2
    clear hf2 HC
    go_wp2_with fail
    go_loopw [10, 26] (fun cv q wr => ∃ i : Nat, i ≤ ss.length ∧ q = .int .i64 i ∧ cv = .int .i64 (cntTo f ss i : Nat) ∧ Hid (∃ H' M', Rep wr a l H' ∧ KA words oops mark (ks.map (updK (ko, kc, 0, turnTo f ss i))) H' M' ∧ H'.age = H.age) ∧ Hid (Fr (foot a l) w wr)) (fun _ q _ => ss.length - (intOf q).toNat)
    case atStart => exact ⟨0, Nat.zero_le _, rfl, rfl, ⟨H, M, HR.out.keep HF2.out (by simp), by rw [show turnTo f ss 0 = ss from rfl, updK_self HK.out Hk.out]; exact HK.out, rfl⟩, HF2.out.mono (by simp)⟩
    case round =>
      obtain ⟨i, hin, rfl, rfl, hst, hfr⟩ := hrel
      have i1 : (0 : Int) ≤ (i : Int) := by omega
      by_cases hlt : i < ss.length
      · have i2 : (i : Int) < (ss.length : Int) := by omega
        obtain ⟨H', M', hr', hk', hag'⟩ := hst.out
        have hmem := upd_mem (k' := (ko, kc, 0, turnTo f ss i)) Hk.out rfl
        have HAt := mkHid (at_w hr' hk' hmem rfl i (by rw [turnTo_len]; exact hlt))
        rw [show ((ko, kc, (0 : Int), turnTo f ss i) : Key).2.2.2.getD i 0 = ss.getD i 0 from turnTo_get f ss i hlt] at HAt
        have HTn : Hid (∀ V, Fr [] wr V → Calls Tryd.prog 129 #[.int .i64 (ss.getD i 0), .map (some b)] V fun e w' => e = .returned (.tuple #[.int .i64 ((turnW f (ss.getD i 0)).getD 0), .bool (turnW f (ss.getD i 0)).isSome]) ∧ w' = V) := fun V hV => turned_ok _ b f V ((HMp.out.idle hfr.out hb).idle hV (by simp)) (HTb.out V (hfr.out.trans hV (by simp))) hf
        have HPut : Hid (∀ V v, Fr [] wr V → turnW f (ss.getD i 0) = some v → Calls Tryd.prog 51 #[.pointer (some ⟨a, 0, none⟩), .int .i64 ko, .int .i64 (i : Int), .int .i64 v] V fun e w' => e = .returned (.int .i64 0) ∧ ∃ H2 M2, Rep w' a l H2 ∧ KA words oops mark (ks.map (updK (ko, kc, 0, turnTo f ss (i + 1)))) H2 M2 ∧ H2.age = H.age ∧ Nx a l l V w') := fun V v hV hv => by
          refine (put_w (hr'.keep hV (by simp)) hk' hmem rfl i (by rw [turnTo_len]; exact hlt) v (turnW_word hf hv).2 (HTb.out V (hfr.out.trans hV (by simp)))).mono ?_
          rintro e w' ⟨he, H2, M2, h1, h2, h3, h4⟩
          rw [upd_upd (k := (ko, kc, 0, ss)) (k' := (ko, kc, 0, turnTo f ss i)) (k'' := (ko, kc, 0, (turnTo f ss i).set i v)) rfl rfl] at h2
          have e2 : turnTo f ss (i + 1) = (turnTo f ss i).set i v := by rw [turnTo_set f ss i hlt]; unfold turnZ; rw [hv]; rfl
          rw [e2]
          exact ⟨he, H2, M2, h1, h2, h3.trans hag', h4⟩
        have hcs := cntTo_succ f ss i hlt
        have hcl := cntTo_le f ss i
        have HSm : Hid (turnW f (ss.getD i 0) = none → turnTo f ss (i + 1) = turnTo f ss i) := fun hn => turnTo_same f ss i hlt (by unfold turnZ; rw [hn]; rfl)
        have HCs := mkHid hcs
        generalize ss.getD i 0 = z at *
        clear hcs hr' hk' hmem hag'
        go_wp2_with fail
        refine Calls.mono HAt.out ?_
        rintro e w3 ⟨rfl, hf3⟩
        have HF3 := mkHid hf3
        clear hf3
        go_wp2_with fail
        refine Calls.mono (HTn.out w3 HF3.out) ?_
        rintro e w' ⟨rfl, hw'⟩
        rw [hw']
        clear hw' w'
        cases ht : turnW f z with
        | none =>
          have e1 : turnC f z = 0 := by unfold turnC; rw [ht]; rfl
          have HS2 := mkHid (HSm.out ht)
          have HCs2 : Hid (cntTo f ss (i + 1) = cntTo f ss i) := by show cntTo f ss (i + 1) = _; rw [HCs.out, e1]; rfl
          simp only [Option.getD_none, Option.isSome_none]
          have HSt2 : Hid (∃ H' M', Rep w3 a l H' ∧ KA words oops mark (ks.map (updK (ko, kc, 0, turnTo f ss (i + 1)))) H' M' ∧ H'.age = H.age) := by
            obtain ⟨H', M', q1, q2, q3⟩ := hst.out
            exact ⟨H', M', q1.keep HF3.out (by simp), by rw [HS2.out]; exact q2, q3⟩
          have HF4 : Hid (Fr (foot a l) w w3) := hfr.out.trans HF3.out (by simp)
          clear ht e1 HSm HCs hst HPut HTn HAt
          go_wp2_with fail
          go_roundw
          case rel => exact ⟨i + 1, by omega, by go_num, by rw [HCs2.out], HSt2, HF4⟩
          case measure => simp [intOf]; omega
        | some v =>
          have e1 : turnC f z = 1 := by unfold turnC; rw [ht]; rfl
          have HCs2 : Hid (cntTo f ss (i + 1) = cntTo f ss i + 1) := by show cntTo f ss (i + 1) = _; rw [HCs.out, e1]
          have HP2 := mkHid (HPut.out w3 v HF3.out ht)
          simp only [Option.getD_some, Option.isSome_some]
          clear ht e1 HSm HCs hst HPut HTn HAt
          go_wp2_with fail
          refine Calls.mono HP2.out ?_
          rintro e w4 ⟨rfl, H2, M2, h1, h2, h3, h4⟩
          have HSt2 : Hid (∃ H' M', Rep w4 a l H' ∧ KA words oops mark (ks.map (updK (ko, kc, 0, turnTo f ss (i + 1)))) H' M' ∧ H'.age = H.age) := ⟨H2, M2, h1, h2, h3⟩
          have HF4 : Hid (Fr (foot a l) w w4) := (hfr.out.trans HF3.out (by simp)).trans h4.1 (fun b hb => .inl hb)
          clear h1 h2 h3 h4
          go_wp2_with fail
          go_roundw
          case rel => exact ⟨i + 1, by omega, by go_num, by rw [HCs2.out]; push_cast; rfl, HSt2, HF4⟩
          case measure => simp [intOf]; omega
      · have hie : i = ss.length := by omega
        subst hie
        have HZ : Hid (∃ H' M', Rep wr a l H' ∧ KA words oops mark (ks.map (updK (ko, kc, 0, turnTo f ss ss.length))) H' M' ∧ H'.age = H.age ∧ Nx a l l w wr) := by
          obtain ⟨H', M', q1, q2, q3⟩ := hst.out
          exact ⟨H', M', q1, q2, q3, hfr.out, fun b hb => .inl hb⟩
        clear hst
        go_wp2_with fail
        go_ret
        exact ⟨rfl, HZ.out⟩
end
end Go.Proofs.YtdkbnnhcjaibdaaDoor
namespace Go.Proofs.YtdkbnnhcjaibdaaDoor
open Go.RowKit
set_option linter.unusedVariables false
set_option linter.unusedSimpArgs false
/-- an object with another class and other slots -/
def RO.turnd (o : RO) (c : Int) (ss : List Int) : RO := { o with cls := c, slots := ss }
def RS.upd (R : RS) (m : Nat) (c : Int) (ss : List Int) : RS := { R with objs := R.objs.set m ((R.objs.getD m noRO).turnd c ss) }
/-- what a class and slots' words don't change -/
def RO.shape (o : RO) : Nat × Nat × Nat × Nat × Nat × Value := (o.oop, o.fmt, o.place, o.born, o.slots.length, o.v)
structure Alk (R R' : RS) : Prop where
  words : R'.words = R.words
  oops : R'.oops = R.oops
  mark : R'.mark = R.mark
  born : R'.born = R.born
  turn : R'.turn = R.turn
  ov : R'.ov = R.ov
  objs : R'.objs.map RO.shape = R.objs.map RO.shape
theorem Alk.refl (R : RS) : Alk R R := ⟨rfl, rfl, rfl, rfl, rfl, rfl, rfl⟩
theorem Alk.trans {R1 R2 R3 : RS} (h : Alk R1 R2) (g : Alk R2 R3) : Alk R1 R3 :=
  ⟨g.words.trans h.words, g.oops.trans h.oops, g.mark.trans h.mark, g.born.trans h.born, g.turn.trans h.turn, g.ov.trans h.ov, g.objs.trans h.objs⟩
theorem Alk.len {R R' : RS} (h : Alk R R') : R'.objs.length = R.objs.length := by
  have := congrArg List.length h.objs
  simpa using this
theorem Alk.upd (R : RS) (m : Nat) (c : Int) (ss : List Int) (hl : ss.length = (R.objs.getD m noRO).slots.length) : Alk R (R.upd m c ss) := by
  refine ⟨rfl, rfl, rfl, rfl, rfl, rfl, ?_⟩
  show (R.objs.set m _).map RO.shape = _
  refine List.ext_getElem? fun i => ?_
  rw [List.getElem?_map, List.getElem?_map, List.getElem?_set]
  by_cases e : m = i
  · subst e
    rw [if_pos rfl]
    by_cases hm : m < R.objs.length
    · rw [if_pos hm, List.getElem?_eq_getElem hm]
      have e2 : R.objs.getD m noRO = R.objs[m] := by rw [List.getD_eq_getElem?_getD, List.getElem?_eq_getElem hm]; rfl
      rw [e2] at hl ⊢
      simp [RO.shape, RO.turnd, hl]
    · rw [if_neg hm, List.getElem?_eq_none (by omega)]
  · rw [if_neg e]
theorem Alk.at_ {R R' : RS} (h : Alk R R') (m : Nat) (hm : m < R.objs.length) : (R'.objs.getD m noRO).shape = (R.objs.getD m noRO).shape := by
  have h1 := congrArg (fun l => l[m]?) h.objs
  simp only [List.getElem?_map] at h1
  have hm' : m < R'.objs.length := by rw [h.len]; exact hm
  rw [List.getElem?_eq_getElem hm, List.getElem?_eq_getElem hm'] at h1
  rw [List.getD_eq_getElem?_getD, List.getD_eq_getElem?_getD, List.getElem?_eq_getElem hm, List.getElem?_eq_getElem hm']
  simpa using h1
theorem Alk.oop {R R' : RS} (h : Alk R R') (m : Nat) (hm : m < R.objs.length) : (R'.objs.getD m noRO).oop = (R.objs.getD m noRO).oop := congrArg Prod.fst (h.at_ m hm)
theorem Alk.nodup {R R' : RS} (h : Alk R R') (hn : (R.objs.map fun o => o.oop).Nodup) : (R'.objs.map fun o => o.oop).Nodup := by
  have e : (R'.objs.map fun o => o.oop) = (R.objs.map fun o => o.oop) := by
    have h1 := congrArg (List.map fun x : Nat × Nat × Nat × Nat × Nat × Value => x.1) h.objs
    rw [List.map_map, List.map_map] at h1
    exact h1
  rw [e]; exact hn
def Lone (R : RS) : Prop := R.objs.Pairwise fun x o => ∀ g, o.v.ownBlock = some g → x.v.ownBlock ≠ some g
theorem Alk.lone {R R' : RS} (h : Alk R R') (hn : Lone R) : Lone R' := by
  have h1 : (R.objs.map RO.shape).Pairwise fun x o => ∀ g, o.2.2.2.2.2.ownBlock = some g → x.2.2.2.2.2.ownBlock ≠ some g := List.pairwise_map.2 hn
  rw [← h.objs] at h1
  exact List.pairwise_map.1 h1
theorem Lone.ne {R : RS} (h : Lone R) {i j : Nat} (hi : i < R.objs.length) (hj : j < R.objs.length) (hne : i ≠ j) {g : Nat} (hg : (R.objs.getD i noRO).v.ownBlock = some g) : (R.objs.getD j noRO).v.ownBlock ≠ some g := by
  have gi : R.objs.getD i noRO = R.objs[i] := by rw [List.getD_eq_getElem?_getD, List.getElem?_eq_getElem hi]; rfl
  have gj : R.objs.getD j noRO = R.objs[j] := by rw [List.getD_eq_getElem?_getD, List.getElem?_eq_getElem hj]; rfl
  rw [gi] at hg
  rw [gj]
  rcases Nat.lt_or_gt_of_ne hne with hlt | hlt
  · exact fun e => List.pairwise_iff_getElem.1 h i j hi hj hlt g e hg
  · exact List.pairwise_iff_getElem.1 h j i hj hi hlt g hg
/-- the keys of a heap in which one object is changed -/
theorem upd_keys {R : RS} {ks : List Key} (hnd : (R.objs.map fun o => o.oop).Nodup) (hk : R.objs.map roKey = ks) {q : Int} {m : Nat} (hm : RIs R q m) (c : Int) (ss : List Int) : (R.upd m c ss).objs.map roKey = ks.map (updK (q, c, ((R.objs.getD m noRO).fmt : Int), ss)) := by
  obtain ⟨h1, h2⟩ := hm
  subst hk
  show (R.objs.set m _).map roKey = _
  rw [List.map_map]
  refine List.ext_getElem? fun i => ?_
  rw [List.getElem?_map, List.getElem?_map, List.getElem?_set]
  by_cases e : m = i
  · subst e
    rw [if_pos rfl, if_pos h1, List.getElem?_eq_getElem h1]
    have e2 : R.objs.getD m noRO = R.objs[m] := by rw [List.getD_eq_getElem?_getD, List.getElem?_eq_getElem h1]; rfl
    rw [e2] at h2 ⊢
    show some (roKey _) = some (updK _ (roKey _))
    congr 1
    unfold updK
    rw [if_pos (show (roKey R.objs[m]).1 = q from h2)]
    show ((R.objs[m].oop : Int), c, (R.objs[m].fmt : Int), ss) = _
    rw [h2]
  · rw [if_neg e]
    by_cases hi : i < R.objs.length
    · rw [List.getElem?_eq_getElem hi]
      show some (roKey _) = some (updK _ (roKey _))
      congr 1
      unfold updK
      rw [if_neg]
      intro e3
      refine e (oop_one hnd h1 hi ?_)
      have e4 : R.objs.getD i noRO = R.objs[i] := by rw [List.getD_eq_getElem?_getD, List.getElem?_eq_getElem hi]; rfl
      rw [e4]
      have e5 : (R.objs[i].oop : Int) = q := e3
      omega
    · rw [List.getElem?_eq_none (by omega)]
      rfl
/-- .. and all that is known of it -/
theorem Alk.rk {words oops mark N : Nat} {ks ks' : List Key} {R R' : RS} (h : Alk R R') (hr : RK words oops mark ks N R.bare) (hk : R'.objs.map roKey = ks') (he : endK ks' = endK ks) : RK words oops mark ks' N R'.bare := by
  have key : ∀ o ∈ R'.objs, ∃ p ∈ R.objs, o.shape = p.shape := fun o ho => by
    have : o.shape ∈ R'.objs.map RO.shape := List.mem_map_of_mem ho
    rw [h.objs] at this
    obtain ⟨p, p1, p2⟩ := List.mem_map.1 this
    exact ⟨p, p1, p2.symm⟩
  refine ⟨h.words.trans hr.words, h.oops.trans hr.oops, h.mark.trans hr.mark, hk, ?_, fun o ho => ?_, fun o ho g hg => ?_, by show (0 : Nat) ≤ 1000; omega⟩
  · have e : rEnd R'.objs = rEnd R.objs := by
      unfold rEnd
      rw [h.len]
      split
      · rfl
      · have s := h.at_ (R.objs.length - 1) (by omega)
        unfold RO.shape at s
        simp only [Prod.mk.injEq] at s
        obtain ⟨s1, s2, s3, s4, s5, s6⟩ := s
        rw [s3, s5, s2]
    show ((rEnd R'.objs : Nat) : Int) = _
    rw [e, he]
    exact hr.fin
  · obtain ⟨p, p1, p2⟩ := key o ho
    unfold RO.shape at p2
    simp only [Prod.mk.injEq] at p2
    obtain ⟨s1, s2, s3, s4, s5, s6⟩ := p2
    rw [s3, s5]
    exact hr.slots p p1
  · obtain ⟨p, p1, p2⟩ := key o ho
    unfold RO.shape at p2
    simp only [Prod.mk.injEq] at p2
    obtain ⟨s1, s2, s3, s4, s5, s6⟩ := p2
    rw [s6] at hg
    exact hr.own p p1 g hg
end Go.Proofs.YtdkbnnhcjaibdaaDoor
namespace Go.Proofs.YtdkbnnhcjaibdaaDoor
open Go.RowKit
set_option linter.unusedVariables false
set_option linter.unusedSimpArgs false
attribute [local go_sem ↓] Go.wp_at_zero Go.wp_at_succ
theorem roCells_turnd (c : Int) : ∀ (l : List RO) (k : Nat), k < l.length → roCells (l.set k ((l.getD k noRO).turnd c (l.getD k noRO).slots)) = (roCells l).set (k * 6 + 4) (.int .i64 c)
  | [], k, h => by simp at h
  | o :: t, 0, _ => rfl
  | o :: t, k + 1, h => by
    have ih := roCells_turnd c t k (by simpa using h)
    have e : (o :: t).set (k + 1) (((o :: t).getD (k + 1) noRO).turnd c ((o :: t).getD (k + 1) noRO).slots) = o :: t.set k ((t.getD k noRO).turnd c (t.getD k noRO).slots) := by simp
    rw [e]
    show ro6 o ++ roCells (t.set k ((t.getD k noRO).turnd c (t.getD k noRO).slots)) = (ro6 o ++ roCells t).set ((k + 1) * 6 + 4) (.int .i64 c)
    rw [ih, List.set_append_right _ _ (by simp [ro6]; omega)]
    congr 2
    simp [ro6]; omega
theorem roCells_same (ss : List Int) : ∀ (l : List RO) (k : Nat), k < l.length → roCells (l.set k ((l.getD k noRO).turnd (l.getD k noRO).cls ss)) = roCells l
  | [], k, h => by simp at h
  | o :: t, 0, _ => rfl
  | o :: t, k + 1, h => by
    have ih := roCells_same ss t k (by simpa using h)
    have e : (o :: t).set (k + 1) (((o :: t).getD (k + 1) noRO).turnd ((o :: t).getD (k + 1) noRO).cls ss) = o :: t.set k ((t.getD k noRO).turnd (t.getD k noRO).cls ss) := by simp
    rw [e]
    show ro6 o ++ roCells (t.set k ((t.getD k noRO).turnd (t.getD k noRO).cls ss)) = ro6 o ++ roCells t
    rw [ih]
theorem RRep.setCls {w : World} {B r : Nat} {R : RS} (h : RRep w B r R) {g c : Nat} (hv : R.ov = .slice (some ⟨g, 0, none⟩) R.objs.length c) (k : Nat) (z : Int) (hk : k < R.objs.length) :
    RRep (w.setCell ⟨g, k * 6 + 4, none⟩ (.int .i64 z)) B r (R.upd k z (R.objs.getD k noRO).slots) := by
  have hb : R.ov.ownBlock = some g := by rw [hv]; rfl
  obtain ⟨cur, hcur⟩ := row_block h.row hb
  have hgr : g ≠ r := fun e => by rw [e, h.top] at hcur; injection hcur with hc; injection hc with _ ht _; exact absurd ht (by decide)
  have hko : R.objs.getD k noRO ∈ R.objs := roD_mem hk
  refine ⟨h.lo, ?_, ?_, fun o ho => ?_⟩
  · rw [Below.heap_setCell _ _ _ _ (fun e => hgr e.symm)]
    exact h.top
  · show (w.setCell ⟨g, k * 6 + 4, none⟩ (.int .i64 z)).ownsRow B 153 6 R.ov (R.objs.set k _).length (roCells (R.objs.set k _))
    rw [roCells_turnd z _ k hk, List.length_set]
    have h2 := h.row
    rw [hv] at h2 ⊢
    exact (h2.stored (k * 6 + 4) (.int .i64 z)).1
  · have key : ∀ x ∈ R.objs, (w.setCell ⟨g, k * 6 + 4, none⟩ (.int .i64 z)).ownsRow B 35 1 x.v x.slots.length (x.slots.map (Value.int .i64)) := fun x hx => by
      refine own_congr (h.slots x hx) fun b hb2 => Below.heap_setCell _ _ _ _ (fun e => ?_)
      obtain ⟨cur2, hc2⟩ := row_block (h.slots x hx) hb2
      rw [e, hcur] at hc2
      injection hc2 with hc; injection hc with _ ht _; exact absurd ht (by decide)
    rcases set_mem ho with h1 | h1
    · exact key o h1
    · rw [h1]; exact key (R.objs.getD k noRO) hko
theorem RRep.setSlot {w : World} {B r : Nat} {R : RS} (h : RRep w B r R) (hln : Lone R) (k : Nat) (hk : k < R.objs.length) {g c : Nat} (hv : (R.objs.getD k noRO).v = .slice (some ⟨g, 0, none⟩) (R.objs.getD k noRO).slots.length c) (i : Nat) (z : Int) :
    RRep (w.setCell ⟨g, i, none⟩ (.int .i64 z)) B r (R.upd k (R.objs.getD k noRO).cls ((R.objs.getD k noRO).slots.set i z)) := by
  have hko : R.objs.getD k noRO ∈ R.objs := roD_mem hk
  have hb : (R.objs.getD k noRO).v.ownBlock = some g := by rw [hv]; rfl
  obtain ⟨cur, hcur⟩ := row_block (h.slots _ hko) hb
  have hgr : r ≠ g := fun e => by rw [← e, h.top] at hcur; injection hcur with hc; injection hc with _ ht _; exact absurd ht (by decide)
  refine ⟨h.lo, ?_, ?_, fun o ho => ?_⟩
  · rw [Below.heap_setCell _ _ _ _ hgr]
    exact h.top
  · show (w.setCell ⟨g, i, none⟩ (.int .i64 z)).ownsRow B 153 6 R.ov (R.objs.set k _).length (roCells (R.objs.set k _))
    rw [roCells_same _ _ k hk, List.length_set]
    refine own_congr h.row fun b hb2 => Below.heap_setCell _ _ _ _ (fun e => ?_)
    obtain ⟨cur2, hc2⟩ := row_block h.row hb2
    rw [e, hcur] at hc2
    injection hc2 with hc; injection hc with _ ht _; exact absurd ht (by decide)
  · obtain ⟨m, hm, hmo⟩ := List.getElem_of_mem ho
    have hm0 : m < (R.objs.set k ((R.objs.getD k noRO).turnd (R.objs.getD k noRO).cls ((R.objs.getD k noRO).slots.set i z))).length := hm
    have hm2 : m < R.objs.length := by rw [List.length_set] at hm0; exact hm0
    have e1 : o = if k = m ∧ m < R.objs.length then (R.objs.getD k noRO).turnd (R.objs.getD k noRO).cls ((R.objs.getD k noRO).slots.set i z) else R.objs.getD m noRO := by
      rw [← set_get, List.getD_eq_getElem?_getD, List.getElem?_eq_getElem hm0, ← hmo]
      rfl
    by_cases e : k = m
    · rw [if_pos ⟨e, hm2⟩] at e1
      rw [e1]
      show (w.setCell ⟨g, i, none⟩ (.int .i64 z)).ownsRow B 35 1 (R.objs.getD k noRO).v ((R.objs.getD k noRO).slots.set i z).length (((R.objs.getD k noRO).slots.set i z).map (Value.int .i64))
      have h2 := h.slots _ hko
      rw [List.length_set, List.map_set]
      rw [hv] at h2 ⊢
      exact (h2.stored i (.int .i64 z)).1
    · rw [if_neg (fun h => e h.1)] at e1
      rw [e1]
      refine own_congr (h.slots _ (roD_mem hm2)) fun b hb2 => Below.heap_setCell _ _ _ _ (fun e2 => ?_)
      rw [e2] at hb2
      exact hln.ne hk hm2 e hb hb2
set_option maxRecDepth 20000 in
set_option maxHeartbeats 1000000 in
theorem rSetClass_ok (q : Int) (z : Int) (B r : Nat) (R : RS) (w : World) (h : RRep w B r R) (hl : R.objs.length ≤ 1048576) (hy : ¬ RNo R q) (hz : isW z = true) :
    Calls Tryd.prog 84 #[.pointer (some ⟨r, 0, none⟩), .int .i64 q, .int .i64 z] w fun e w' =>
      e = .returned (.int .i64 0) ∧ ∃ m g, RIs R q m ∧ R.ov.ownBlock = some g ∧ RRep w' B r (R.upd m z (R.objs.getD m noRO).slots) ∧ Fr [g] w w' := by
  obtain ⟨p, c, hov⟩ := h.ovIs
  have c5 : w.cell? ⟨r, 5, none⟩ = some (.slice p R.objs.length c) := by rw [h.c, ← hov]; rfl
  have HF := mkHid (find_any q B r R w h hl)
  have HK := mkHid (rKind_any z w)
  have HR := mkHid h
  have HY := mkHid hy
  have hkz : kindOf z ≠ 0 := by
    have : (kindOf z != 0) = true := hz
    simpa using this
  clear h hy hz
  go_enter Tryd.func84, Tryd.ntmps84
  go_wp2_with fail
  refine Calls.mono HF.out ?_
  rintro e w2 ⟨y, rfl, hz, hw⟩
  rw [hw]
  clear hw w2 HF
  rcases hz with ⟨m, hm, rfl, ho, -⟩ | ⟨-, hno⟩
  rotate_left
  · exact absurd hno HY.out
  obtain ⟨g, c', hv, hc⟩ := HR.out.at_ (by omega)
  have hv0 := hv
  rw [hov] at hv
  injection hv with e1 e2 e3
  subst e1
  obtain ⟨-, -, -, -, q4, -⟩ := hc m hm
  have hb : R.ov.ownBlock = some g := by rw [hv0]; rfl
  obtain ⟨cur, hcur⟩ := row_block HR.out.row hb
  have z0 := frozen_in hcur (m * 6 + 4)
  have k1 : (0 : Int) ≤ (m : Int) := by omega
  have k2 : (m : Int) < (R.objs.length : Int) := by omega
  have HIs : Hid (RIs R q m) := ⟨hm, ho⟩
  have HB := mkHid hb
  have HRz : Hid (RRep (w.setCell ⟨g, m * 6 + 4, none⟩ (.int .i64 z)) B r (R.upd m z (R.objs.getD m noRO).slots)) := HR.out.setCls hv0 m z hm
  obtain ⟨cz, hcz⟩ : ∃ cz, cz = (R.objs.getD m noRO).cls := ⟨_, rfl⟩
  rw [← hcz] at q4
  obtain ⟨kz, hkk⟩ : ∃ kz, kz = kindOf z := ⟨_, rfl⟩
  rw [← hkk] at HK hkz
  have hkb : ((kz : Int) == 0) = false := by
    rw [beq_eq_false_iff_ne]
    omega
  clear hc ho e2 e3 hcz hov hv0 hb hcur hkk
  go_wp2_with (first | (go_at_call 59; refine Calls.mono HK.out ?_; rintro e w' ⟨rfl, hw'⟩; rw [hw']; clear hw' w') | go_in)
  go_ret
  exact ⟨rfl, m, g, HIs.out, HB.out, HRz.out, Fr.setCell (S := [g]) w ⟨g, m * 6 + 4, none⟩ _ (by simp)⟩
set_option maxRecDepth 20000 in
set_option maxHeartbeats 2000000 in
theorem rPut_ok (q : Int) (i : Nat) (z : Int) (B r : Nat) (R : RS) (w : World) (h : RRep w B r R) (hln : Lone R) (hl : R.objs.length ≤ 1048576) (hn : ¬ RNo R q) (hy : ∀ m, RIs R q m → i < (R.objs.getD m noRO).slots.length ∧ mayB z (R.objs.getD m noRO).fmt = true) :
    Calls Tryd.prog 86 #[.pointer (some ⟨r, 0, none⟩), .int .i64 q, .int .i64 i, .int .i64 z] w fun e w' =>
      e = .returned (.int .i64 0) ∧ ∃ m g, RIs R q m ∧ (R.objs.getD m noRO).v.ownBlock = some g ∧ RRep w' B r (R.upd m (R.objs.getD m noRO).cls ((R.objs.getD m noRO).slots.set i z)) ∧ Fr [g] w w' := by
  obtain ⟨p, c, hov⟩ := h.ovIs
  have c5 : w.cell? ⟨r, 5, none⟩ = some (.slice p R.objs.length c) := by rw [h.c, ← hov]; rfl
  have HF := mkHid (find_any q B r R w h hl)
  have HM : Hid (∀ V f, Calls Tryd.prog 123 #[.int .i64 z, .int .i64 f] V fun e w' => e = .returned (.bool (mayB z f)) ∧ w' = V) := fun V f => rmay_any z f V
  have HR := mkHid h
  have HL := mkHid hln
  have HY := mkHid hy
  have HN := mkHid hn
  clear h hy hn hln
  go_enter Tryd.func86, Tryd.ntmps86
  go_wp2_with fail
  refine Calls.mono HF.out ?_
  rintro e w2 ⟨y, rfl, hz, hw⟩
  rw [hw]
  clear hw w2 HF
  rcases hz with ⟨m, hm, rfl, ho, -⟩ | ⟨-, hno⟩
  rotate_left
  · exact absurd hno HN.out
  obtain ⟨g, c', hv, hc⟩ := HR.out.at_ (by omega)
  have hv0 := hv
  rw [hov] at hv
  injection hv with e1 e2 e3
  subst e1
  obtain ⟨-, q1, -, -, -, q5⟩ := hc m hm
  obtain ⟨hi, hmay⟩ := HY.out m ⟨hm, ho⟩
  have hmm : R.objs.getD m noRO ∈ R.objs := roD_mem hm
  obtain ⟨p5, c5', hv5, hs5⟩ := own_slot (HR.out.slots _ hmm)
  obtain ⟨g5, rfl, hc5⟩ := hs5 (by omega)
  have q6 := hc5 i hi
  have hb5 : (R.objs.getD m noRO).v.ownBlock = some g5 := by rw [hv5]; rfl
  obtain ⟨cur5, hcur5⟩ := row_block (HR.out.slots _ hmm) hb5
  have z5 := frozen_in hcur5 i
  have HRz : Hid (RRep (w.setCell ⟨g5, i, none⟩ (.int .i64 z)) B r (R.upd m (R.objs.getD m noRO).cls ((R.objs.getD m noRO).slots.set i z))) := HR.out.setSlot HL.out m hm hv5 i z
  rw [hv5] at q5
  have k1 : (0 : Int) ≤ (m : Int) := by omega
  have k2 : (m : Int) < (R.objs.length : Int) := by omega
  have HIs : Hid (RIs R q m) := ⟨hm, ho⟩
  have HB := mkHid hb5
  obtain ⟨cz, hcz⟩ : ∃ cz, cz = (R.objs.getD m noRO).slots.length := ⟨_, rfl⟩
  obtain ⟨fz, hfz⟩ : ∃ fz, fz = (R.objs.getD m noRO).slots.getD i 0 := ⟨_, rfl⟩
  obtain ⟨ff, hff⟩ : ∃ ff, ff = (R.objs.getD m noRO).fmt := ⟨_, rfl⟩
  rw [← hcz] at q5 hi
  rw [← hfz] at q6
  rw [← hff] at q1 hmay
  simp only [I] at q1
  have i1 : (0 : Int) ≤ (i : Int) := by omega
  have i2 : (i : Int) < (cz : Int) := by omega
  have HM2 : Hid (∀ V, Calls Tryd.prog 123 #[.int .i64 z, .int .i64 (ff : Int)] V fun e w' => e = .returned (.bool true) ∧ w' = V) := fun V => by
    have := HM.out V (ff : Int)
    rw [hmay] at this
    exact this
  clear hcz hfz hff hc hc5 ho e2 e3 hv5 HY hov hv0 hb5 hcur5 hmay HM hmm
  go_wp2_with fail
  refine Calls.mono (HM2.out _) ?_
  rintro e w' ⟨rfl, hw'⟩
  rw [hw']
  clear hw' w'
  go_wp2_with fail
  go_ret
  exact ⟨rfl, m, g5, HIs.out, HB.out, HRz.out, Fr.setCell (S := [g5]) w ⟨g5, i, none⟩ _ (by simp)⟩
end Go.Proofs.YtdkbnnhcjaibdaaDoor
