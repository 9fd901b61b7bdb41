import Derived.Test.YtdkbnnhcjaibdaaDoorSG24BMap
import Derived.Test.YtdkbnnhcjaibdaaDoorSG14CMarked
import Derived.Test.YtdkbnnhcjaibdaaDoorSBSwap
namespace Go.Proofs.YtdkbnnhcjaibdaaDoor
open Go.RowKit Go.Maps
set_option linter.unusedVariables false
attribute [local go_sem ↓] Go.wp_at_zero Go.wp_at_succ
set_option maxHeartbeats 1000000 in
theorem objectWord_ok (k : Int) (w : World) (h1 : 0 ≤ k) (h2 : k ≤ 1000000000) : Calls Tryd.prog 149 #[.int .i64 k] w fun e w' => e = .returned (.int .i64 (4 * k)) ∧ w' = w := by
  go_enter Tryd.func149, Tryd.ntmps149
  go_wp2
  go_ret
  exact ⟨rfl, rfl⟩
set_option maxHeartbeats 1000000 in
theorem Object_ok (k : Int) (w : World) (h1 : 1 ≤ k) (h2 : k ≤ 65536) : Calls Tryd.prog 146 #[.int .i64 k] w fun e w' => e = .returned (.tuple #[.int .i64 (4 * k), .int .i64 0]) ∧ w' = w := by
  have HO := mkHid (objectWord_ok k w (by omega) (by omega))
  go_enter Tryd.func146, Tryd.ntmps146
  go_wp2_with (go_at_call 149; refine Calls.mono HO.out ?_; rintro e w' ⟨rfl, hw'⟩; rw [hw']; clear hw' w')
  go_ret2
  exact ⟨rfl, rfl⟩
/-- what a word is turned into, if it is -/
def turnW (f : List (Int × Int)) (z : Int) : Option Int := if kindOf z = 3 ∧ inK f (z / 4) = true ∧ look f (z / 4) ≠ z / 4 then some (4 * look f (z / 4)) else none
theorem look_mem {f : List (Int × Int)} {q : Int} (h : inK f q = true) : ∃ p ∈ f, p.1 = q ∧ look f q = p.2 := by
  unfold look
  cases hf : f.find? (fun p => decide (p.1 = q)) with
  | none =>
    obtain ⟨x, x1, x2⟩ := List.any_eq_true.1 h
    exact absurd x2 (by simpa using List.find?_eq_none.1 hf x x1)
  | some x => exact ⟨x, List.mem_of_find?_eq_some hf, by simpa using List.find?_some hf, rfl⟩
set_option maxRecDepth 20000 in
set_option maxHeartbeats 2000000 in
theorem turned_ok (z : Int) (b : Nat) (f : List (Int × Int)) (w : World) (h : MapIs w b f) (hT : Tab w) (hf : ∀ p ∈ f, 1 ≤ p.2 ∧ p.2 ≤ 65536) :
    Calls Tryd.prog 129 #[.int .i64 z, .map (some b)] w fun e w' => e = .returned (.tuple #[.int .i64 ((turnW f z).getD 0), .bool (turnW f z).isSome]) ∧ w' = w := by
  by_cases hk : kindOf z = 3
  · obtain ⟨n, D, hown, hn, hh, ha, hm⟩ := h.at_
    have hz := (kind3 z).1 hk
    have hkey : keyOf Tryd.prog 3 (.int .i64 (z / 4)) = some (.int .i64 (z / 4)) := keyOf_int_mk Tryd.underlying3 (wf_small (by omega) (by omega))
    have HO := mkHid (Oop_yes z w hT hk)
    have hhq := hh (z / 4)
    have haq := ha (z / 4)
    have HTn : Hid (turnW f z = if inK f (z / 4) = true ∧ look f (z / 4) ≠ z / 4 then some (4 * look f (z / 4)) else none) := by
      show turnW f z = _
      unfold turnW
      by_cases c : inK f (z / 4) = true ∧ look f (z / 4) ≠ z / 4
      · rw [if_pos c, if_pos ⟨hk, c⟩]
      · rw [if_neg c, if_neg (fun h => c h.2)]
    have hlk : inK f (z / 4) = true → 1 ≤ look f (z / 4) ∧ look f (z / 4) ≤ 65536 := fun hi => by
      obtain ⟨p, p1, p2, p3⟩ := look_mem hi
      rw [p3]; exact hf p p1
    generalize turnW f z = T at *
    generalize z / 4 = q at *
    clear h hT hf hk hz hh ha
    cases hi : inK f q with
    | false =>
      rw [hi] at hhq HTn
      have hT2 := HTn.out
      rw [if_neg (by simp)] at hT2
      have HT2 := mkHid hT2
      clear hT2 HTn hlk hi haq
      go_enter Tryd.func129, Tryd.ntmps129
      go_wp2_with (first
        | (go_at_call 145; refine Calls.mono HO.out ?_; rintro e w' ⟨rfl, hw'⟩; rw [hw']; clear hw' w')
        | (at_lookup; refine wpList_lookup_own_ok_int _ rfl _ _ 155 rfl 3 3 .i64 mlaw Tryd.underlying155 Tryd.underlying3 (mzero _) b n _ rfl hown _ _ rfl hkey ?_; intro c hat hwc; rw [hhq])
        | go_in)
      go_ret2
      exact ⟨by rw [HT2.out]; rfl, rfl⟩
    | true =>
      obtain ⟨l1, l2⟩ := hlk hi
      rw [hi] at hhq HTn
      by_cases he : look f q = q
      · have hT2 := HTn.out
        rw [if_neg (fun c => c.2 he)] at hT2
        have HT2 := mkHid hT2
        rw [he] at haq
        clear hT2 HTn hlk hi he
        go_enter Tryd.func129, Tryd.ntmps129
        go_wp2_with (first
          | (go_at_call 145; refine Calls.mono HO.out ?_; rintro e w' ⟨rfl, hw'⟩; rw [hw']; clear hw' w')
          | (at_lookup; refine wpList_lookup_own_ok_int _ rfl _ _ 155 rfl 3 3 .i64 mlaw Tryd.underlying155 Tryd.underlying3 (mzero _) b n _ rfl hown _ _ rfl hkey ?_; intro c hat hwc; rw [hhq]; have hc : c = q := (by rw [haq] at hat; injection hat with hat; injection hat with _ hat; exact hat.symm); subst hc; clear hat)
          | go_in)
        go_ret2
        exact ⟨by rw [HT2.out]; rfl, rfl⟩
      · have hT2 := HTn.out
        rw [if_pos ⟨rfl, he⟩] at hT2
        have HT2 := mkHid hT2
        have hb : (look f q == q) = false := by simpa using he
        have HOb := mkHid (Object_ok (look f q) w l1 l2)
        generalize look f q = v at *
        clear hT2 HTn hlk hi he
        go_enter Tryd.func129, Tryd.ntmps129
        go_wp2_with (first
          | (go_at_call 145; refine Calls.mono HO.out ?_; rintro e w' ⟨rfl, hw'⟩; rw [hw']; clear hw' w')
          | (go_at_call 146; refine Calls.mono HOb.out ?_; rintro e w' ⟨rfl, hw'⟩; rw [hw']; clear hw' w')
          | (at_lookup; refine wpList_lookup_own_ok_int _ rfl _ _ 155 rfl 3 3 .i64 mlaw Tryd.underlying155 Tryd.underlying3 (mzero _) b n _ rfl hown _ _ rfl hkey ?_; intro c hat hwc; rw [hhq]; have hc : c = v := (by rw [haq] at hat; injection hat with hat; injection hat with _ hat; exact hat.symm); subst hc; clear hat)
          | go_in)
        go_ret2
        exact ⟨by rw [HT2.out]; rfl, rfl⟩
  · have HO := mkHid (Oop_no z w hT hk)
    have HTn : Hid (turnW f z = none) := by
      show turnW f z = none
      unfold turnW
      rw [if_neg (fun h => hk h.1)]
    generalize turnW f z = T at *
    clear h hT hf hk
    go_enter Tryd.func129, Tryd.ntmps129
    go_wp2_with (go_at_call 145; refine Calls.mono HO.out ?_; rintro e w' ⟨rfl, hw'⟩; rw [hw']; clear hw' w')
    go_ret2
    exact ⟨by rw [HTn.out]; rfl, rfl⟩
end Go.Proofs.YtdkbnnhcjaibdaaDoor
namespace Go.Proofs.YtdkbnnhcjaibdaaDoor
open Go.RowKit Go.Maps
set_option linter.unusedVariables false
attribute [local go_sem ↓] Go.wp_at_zero Go.wp_at_succ
/-- a word as it is behind a Forward -/
def turnZ (f : List (Int × Int)) (z : Int) : Int := (turnW f z).getD z
def turnC (f : List (Int × Int)) (z : Int) : Nat := if (turnW f z).isSome then 1 else 0
/-- the pairs' second numbers are oops -/
def Good (f : List (Int × Int)) : Prop := ∀ p ∈ f, 1 ≤ p.2 ∧ p.2 ≤ 65536
theorem turnW_word {f : List (Int × Int)} (hf : Good f) {z v : Int} (h : turnW f z = some v) : isW v = true ∧ mayB v 0 = true := by
  unfold turnW at h
  split at h
  · rename_i c
    obtain ⟨p, p1, p2, p3⟩ := look_mem c.2.1
    have := hf p p1
    injection h with h
    have hk : kindOf v = 3 := (kind3 v).2 (by omega)
    have hw : isW v = true := by
      show (kindOf v != 0) = true
      rw [hk]; decide
    exact ⟨hw, by unfold mayB; rw [if_neg (by decide)]; exact hw⟩
  · cases h
section
variable {words oops mark : Nat} {ks : List Key} {H : HS} {M : MS} {a : Nat} {l : Lay}
theorem updK_self (h : KA words oops mark ks H M) {k : Key} (hk : k ∈ ks) : ks.map (updK k) = ks := by
  conv => rhs; rw [← List.map_id ks]
  refine List.map_congr_left fun x hx => ?_
  unfold updK
  by_cases e : x.1 = k.1
  · rw [if_pos e]; exact (h.uniq hk hx e).symm
  · rw [if_neg e]; rfl
set_option maxRecDepth 20000 in
set_option maxHeartbeats 1000000 in
theorem turnClass_ok (f : List (Int × Int)) (b : Nat) (w : World) (hR : Rep w a l H) (h : KA words oops mark ks H M) {k : Key} (hk : k ∈ ks) (hm : MapIs w b f) (hf : Good f) (hT : Tab w) (hb : b ∉ foot a l) (hW : 0 < w.heap.size) :
    Calls Tryd.prog 100 #[.pointer (some ⟨a, 0, none⟩), .int .i64 k.1, .map (some b)] w fun e w' => e = .returned (.int .i64 (turnC f k.2.1 : Nat)) ∧ ∃ H' M', Rep w' a l H' ∧ KA words oops mark (ks.map (updK (k.1, turnZ f k.2.1, k.2.2.1, k.2.2.2))) H' M' ∧ H'.age = H.age ∧ Nx a l l w w' := by
  have HC := mkHid (class_at hR h hk)
  have HR := mkHid hR
  have HK := mkHid h
  have Hk := mkHid hk
  have HTn : Hid (∀ V, Fr [] w V → Calls Tryd.prog 129 #[.int .i64 k.2.1, .map (some b)] V fun e w' => e = .returned (.tuple #[.int .i64 ((turnW f k.2.1).getD 0), .bool (turnW f k.2.1).isSome]) ∧ w' = V) := fun V hV => turned_ok k.2.1 b f V (hm.idle hV (by simp)) (hT.fr hV hW) hf
  have HSet : Hid (∀ V v, Fr [] w V → turnW f k.2.1 = some v → Calls Tryd.prog 58 #[.pointer (some ⟨a, 0, none⟩), .int .i64 k.1, .int .i64 v] V fun e w' => e = .returned (.int .i64 0) ∧ ∃ H' M', Rep w' a l H' ∧ KA words oops mark (ks.map (updK (k.1, v, k.2.2.1, k.2.2.2))) H' M' ∧ H'.age = H.age ∧ Nx a l l V w') := fun V v hV hv => setClass_at (hR.keep hV (by simp)) h hk v (turnW_word hf hv).1 (hT.fr hV hW)
  clear hR h hk hm hf hT
  cases ht : turnW f k.2.1 with
  | none =>
    rw [ht] at HTn
    have e1 : turnC f k.2.1 = 0 := by unfold turnC; rw [ht]; rfl
    have e2 : turnZ f k.2.1 = k.2.1 := by unfold turnZ; rw [ht]; rfl
    rw [e1, e2]
    have HRes : Hid (ks.map (updK (k.1, k.2.1, k.2.2.1, k.2.2.2)) = ks) := updK_self HK.out Hk.out
    clear ht e1 e2 HSet
    go_enter Tryd.func100, Tryd.ntmps100
    go_wp2_with fail
    refine Calls.mono HC.out ?_
    rintro e w2 ⟨rfl, hf2⟩
    have HF2 := mkHid hf2
    clear hf2
    go_wp2_with fail
    refine Calls.mono (HTn.out w2 HF2.out) ?_
    rintro e w' ⟨rfl, hw'⟩
    rw [hw']
    clear hw' w'
    simp only [Option.getD_none, Option.isSome_none]
    go_wp2_with fail
    go_ret
    exact ⟨rfl, H, M, HR.out.keep HF2.out (by simp), by rw [HRes.out]; exact HK.out, rfl, Nx.fr (HF2.out.mono (by simp))⟩
  | some v =>
    rw [ht] at HTn
    have e1 : turnC f k.2.1 = 1 := by unfold turnC; rw [ht]; rfl
    have e2 : turnZ f k.2.1 = v := by unfold turnZ; rw [ht]; rfl
    rw [e1, e2]
    have HS2 : Hid (∀ V, Fr [] w V → _) := fun V hV => HSet.out V v hV ht
    clear ht e1 e2 HSet
    go_enter Tryd.func100, Tryd.ntmps100
    go_wp2_with fail
    refine Calls.mono HC.out ?_
    rintro e w2 ⟨rfl, hf2⟩
    have HF2 := mkHid hf2
    clear hf2
    go_wp2_with fail
    refine Calls.mono (HTn.out w2 HF2.out) ?_
    rintro e w' ⟨rfl, hw'⟩
    rw [hw']
    clear hw' w'
    simp only [Option.getD_some, Option.isSome_some]
    go_wp2_with fail
    refine Calls.mono (HS2.out w2 HF2.out) ?_
    rintro e w3 ⟨rfl, H', M', h1, h2, h3, h4⟩
    have HZ : Hid (∃ H' M', Rep w3 a l H' ∧ KA words oops mark (ks.map (updK (k.1, v, k.2.2.1, k.2.2.2))) H' M' ∧ H'.age = H.age ∧ Nx a l l w w3) := ⟨H', M', h1, h2, h3, (Nx.fr (HF2.out.mono (by simp))).trans h4⟩
    clear h1 h2 h3 h4
    go_wp2_with fail
    go_ret
    exact ⟨rfl, HZ.out⟩
/-- the first i slots turned -/
def turnTo (f : List (Int × Int)) (ss : List Int) (i : Nat) : List Int := (ss.take i).map (turnZ f) ++ ss.drop i
def cntTo (f : List (Int × Int)) (ss : List Int) (i : Nat) : Nat := ((ss.take i).map (turnC f)).sum
theorem turnTo_len (f : List (Int × Int)) (ss : List Int) (i : Nat) : (turnTo f ss i).length = ss.length := by unfold turnTo; simp; omega
theorem turnTo_get (f : List (Int × Int)) (ss : List Int) (i : Nat) (hi : i < ss.length) : (turnTo f ss i).getD i 0 = ss.getD i 0 := by
  unfold turnTo
  rw [List.getD_eq_getElem?_getD, List.getElem?_append_right (by simp; omega), List.getElem?_drop, List.getD_eq_getElem?_getD]
  congr 2
  simp; omega
theorem turnTo_set (f : List (Int × Int)) (ss : List Int) (i : Nat) (hi : i < ss.length) : turnTo f ss (i + 1) = (turnTo f ss i).set i (turnZ f (ss.getD i 0)) := by
  unfold turnTo
  have hl : ((ss.take i).map (turnZ f)).length = i := by simp; omega
  rw [List.set_append_right _ _ (by omega), hl, Nat.sub_self, List.drop_eq_getElem_cons hi, List.set_cons_zero, take_get ss 0 i hi, List.map_append, List.append_assoc]
  rfl
theorem cntTo_succ (f : List (Int × Int)) (ss : List Int) (i : Nat) (hi : i < ss.length) : cntTo f ss (i + 1) = cntTo f ss i + turnC f (ss.getD i 0) := by
  unfold cntTo
  rw [take_get ss 0 i hi, List.map_append, List.sum_append]; simp
theorem turnTo_same (f : List (Int × Int)) (ss : List Int) (i : Nat) (hi : i < ss.length) (h : turnZ f (ss.getD i 0) = ss.getD i 0) : turnTo f ss (i + 1) = turnTo f ss i := by
  rw [turnTo_set f ss i hi, h]
  refine List.ext_getElem (by simp) fun j h1 h2 => ?_
  rw [List.getElem_set]
  split
  · rename_i e
    subst e
    have := turnTo_get f ss i hi
    rw [List.getD_eq_getElem?_getD, List.getElem?_eq_getElem h2] at this
    exact this.symm
  · rfl
theorem cntTo_le (f : List (Int × Int)) (ss : List Int) (i : Nat) : cntTo f ss i ≤ ss.length := by
  unfold cntTo
  have : ∀ l : List Int, (l.map (turnC f)).sum ≤ l.length := fun l => by
    induction l with
    | nil => simp
    | cons x t ih =>
      rw [List.map_cons, List.sum_cons, List.length_cons]
      have : turnC f x ≤ 1 := by unfold turnC; split <;> omega
      omega
  have h2 := this (ss.take i)
  rw [List.length_take] at h2
  omega
/-- one object after another -/
theorem upd_upd {k k' k'' : Key} (h1 : k'.1 = k.1) (h2 : k''.1 = k.1) (ks : List Key) : (ks.map (updK k')).map (updK k'') = ks.map (updK k'') := by
  rw [List.map_map]
  refine List.map_congr_left fun x hx => ?_
  show updK k'' (updK k' x) = updK k'' x
  by_cases e : x.1 = k.1
  · have e1 : updK k' x = k' := by unfold updK; rw [if_pos (by rw [h1]; exact e)]
    have e2 : updK k'' x = k'' := by unfold updK; rw [if_pos (by rw [h2]; exact e)]
    rw [e1, e2]
    unfold updK
    rw [if_pos (by rw [h1, h2])]
  · have e1 : updK k' x = x := by unfold updK; rw [if_neg (by rw [h1]; exact e)]
    rw [e1]
theorem upd_mem {k k' : Key} (hk : k ∈ ks) (h1 : k'.1 = k.1) : k' ∈ ks.map (updK k') := by
  refine List.mem_map.2 ⟨k, hk, ?_⟩
  unfold updK
  rw [if_pos h1.symm]
set_option maxRecDepth 20000 in
set_option maxHeartbeats 2000000 in
theorem turnSlots_ok (f : List (Int × Int)) (b : Nat) (w : World) (hR : Rep w a l H) (h : KA words oops mark ks H M) {k : Key} (hk : k ∈ ks) (hm : MapIs w b f) (hf : Good f) (hT : Tab w) (hb : b ∉ foot a l) (hW : 0 < w.heap.size) (h0 : 0 ∉ foot a l) :
    Calls Tryd.prog 101 #[.pointer (some ⟨a, 0, none⟩), .int .i64 k.1, .map (some b)] w fun e w' => e = .returned (.int .i64 ((if k.2.2.1 = 0 then cntTo f k.2.2.2 k.2.2.2.length else 0) : Nat)) ∧ ∃ H' M', Rep w' a l H' ∧ KA words oops mark (ks.map (updK (k.1, k.2.1, k.2.2.1, if k.2.2.1 = 0 then turnTo f k.2.2.2 k.2.2.2.length else k.2.2.2))) H' M' ∧ H'.age = H.age ∧ Nx a l l w w' := by
  have HC := mkHid (size_at hR h hk)
  have hsl := h.slots k hk
  have HR := mkHid hR
  have HK := mkHid h
  have Hk := mkHid hk
  have HMp := mkHid hm
  have HTb : Hid (∀ V, Fr (foot a l) w V → Tab V) := fun V hV => hT.keep hV hW h0
  obtain ⟨ko, kc, kf, ss⟩ := k
  dsimp only at *
  clear hR h hk hm hT
  by_cases hz : kf = 0
  rotate_left
  · have hb1 : (kf == 0) = false := by simpa using hz
    rw [if_neg hz, if_neg hz]
    have HRes : Hid (ks.map (updK (ko, kc, kf, ss)) = ks) := updK_self HK.out Hk.out
    clear hz
    go_enter Tryd.func101, Tryd.ntmps101
    go_wp2_with fail
    refine Calls.mono HC.out ?_
    rintro e w2 ⟨rfl, hf2⟩
    have HF2 := mkHid hf2
    clear hf2
    go_wp2_with fail
    go_ret
    exact ⟨rfl, H, M, HR.out.keep HF2.out (by simp), by rw [HRes.out]; exact HK.out, rfl, Nx.fr (HF2.out.mono (by simp))⟩
  · subst hz
    rw [if_pos rfl, if_pos rfl]
    go_enter Tryd.func101, Tryd.ntmps101
    go_wp2_with fail
    refine Calls.mono HC.out ?_
    rintro e w2 ⟨rfl, hf2⟩
    have HF2 := mkHid hf2
    clear hf2 HC
    go_wp2_with fail
    go_loopw [10, 26] (fun cv q wr => ∃ i : Nat, i ≤ ss.length ∧ q = .int .i64 i ∧ cv = .int .i64 (cntTo f ss i : Nat) ∧ Hid (∃ H' M', Rep wr a l H' ∧ KA words oops mark (ks.map (updK (ko, kc, 0, turnTo f ss i))) H' M' ∧ H'.age = H.age) ∧ Hid (Fr (foot a l) w wr)) (fun _ q _ => ss.length - (intOf q).toNat)
    case atStart => exact ⟨0, Nat.zero_le _, rfl, rfl, ⟨H, M, HR.out.keep HF2.out (by simp), by rw [show turnTo f ss 0 = ss from rfl, updK_self HK.out Hk.out]; exact HK.out, rfl⟩, HF2.out.mono (by simp)⟩
    case round =>
      obtain ⟨i, hin, rfl, rfl, hst, hfr⟩ := hrel
      have i1 : (0 : Int) ≤ (i : Int) := by omega
      by_cases hlt : i < ss.length
      · have i2 : (i : Int) < (ss.length : Int) := by omega
        obtain ⟨H', M', hr', hk', hag'⟩ := hst.out
        have hmem := upd_mem (k' := (ko, kc, 0, turnTo f ss i)) Hk.out rfl
        have HAt := mkHid (at_w hr' hk' hmem rfl i (by rw [turnTo_len]; exact hlt))
        rw [show ((ko, kc, (0 : Int), turnTo f ss i) : Key).2.2.2.getD i 0 = ss.getD i 0 from turnTo_get f ss i hlt] at HAt
        have HTn : Hid (∀ V, Fr [] wr V → Calls Tryd.prog 129 #[.int .i64 (ss.getD i 0), .map (some b)] V fun e w' => e = .returned (.tuple #[.int .i64 ((turnW f (ss.getD i 0)).getD 0), .bool (turnW f (ss.getD i 0)).isSome]) ∧ w' = V) := fun V hV => turned_ok _ b f V ((HMp.out.idle hfr.out hb).idle hV (by simp)) (HTb.out V (hfr.out.trans hV (by simp))) hf
        have HPut : Hid (∀ V v, Fr [] wr V → turnW f (ss.getD i 0) = some v → Calls Tryd.prog 51 #[.pointer (some ⟨a, 0, none⟩), .int .i64 ko, .int .i64 (i : Int), .int .i64 v] V fun e w' => e = .returned (.int .i64 0) ∧ ∃ H2 M2, Rep w' a l H2 ∧ KA words oops mark (ks.map (updK (ko, kc, 0, turnTo f ss (i + 1)))) H2 M2 ∧ H2.age = H.age ∧ Nx a l l V w') := fun V v hV hv => by
          refine (put_w (hr'.keep hV (by simp)) hk' hmem rfl i (by rw [turnTo_len]; exact hlt) v (turnW_word hf hv).2 (HTb.out V (hfr.out.trans hV (by simp)))).mono ?_
          rintro e w' ⟨he, H2, M2, h1, h2, h3, h4⟩
          rw [upd_upd (k := (ko, kc, 0, ss)) (k' := (ko, kc, 0, turnTo f ss i)) (k'' := (ko, kc, 0, (turnTo f ss i).set i v)) rfl rfl] at h2
          have e2 : turnTo f ss (i + 1) = (turnTo f ss i).set i v := by rw [turnTo_set f ss i hlt]; unfold turnZ; rw [hv]; rfl
          rw [e2]
          exact ⟨he, H2, M2, h1, h2, h3.trans hag', h4⟩
        have hcs := cntTo_succ f ss i hlt
        have hcl := cntTo_le f ss i
        have HSm : Hid (turnW f (ss.getD i 0) = none → turnTo f ss (i + 1) = turnTo f ss i) := fun hn => turnTo_same f ss i hlt (by unfold turnZ; rw [hn]; rfl)
        have HCs := mkHid hcs
        generalize ss.getD i 0 = z at *
        clear hcs hr' hk' hmem hag'
        go_wp2_with fail
        refine Calls.mono HAt.out ?_
        rintro e w3 ⟨rfl, hf3⟩
        have HF3 := mkHid hf3
        clear hf3
        go_wp2_with fail
        refine Calls.mono (HTn.out w3 HF3.out) ?_
        rintro e w' ⟨rfl, hw'⟩
        rw [hw']
        clear hw' w'
        cases ht : turnW f z with
        | none =>
          have e1 : turnC f z = 0 := by unfold turnC; rw [ht]; rfl
          have HS2 := mkHid (HSm.out ht)
          have HCs2 : Hid (cntTo f ss (i + 1) = cntTo f ss i) := by show cntTo f ss (i + 1) = _; rw [HCs.out, e1]; rfl
          simp only [Option.getD_none, Option.isSome_none]
          have HSt2 : Hid (∃ H' M', Rep w3 a l H' ∧ KA words oops mark (ks.map (updK (ko, kc, 0, turnTo f ss (i + 1)))) H' M' ∧ H'.age = H.age) := by
            obtain ⟨H', M', q1, q2, q3⟩ := hst.out
            exact ⟨H', M', q1.keep HF3.out (by simp), by rw [HS2.out]; exact q2, q3⟩
          have HF4 : Hid (Fr (foot a l) w w3) := hfr.out.trans HF3.out (by simp)
          clear ht e1 HSm HCs hst HPut HTn HAt
          go_wp2_with fail
          go_roundw
          case rel => exact ⟨i + 1, by omega, by go_num, by rw [HCs2.out], HSt2, HF4⟩
          case measure => simp [intOf]; omega
        | some v =>
          have e1 : turnC f z = 1 := by unfold turnC; rw [ht]; rfl
          have HCs2 : Hid (cntTo f ss (i + 1) = cntTo f ss i + 1) := by show cntTo f ss (i + 1) = _; rw [HCs.out, e1]
          have HP2 := mkHid (HPut.out w3 v HF3.out ht)
          simp only [Option.getD_some, Option.isSome_some]
          clear ht e1 HSm HCs hst HPut HTn HAt
          go_wp2_with fail
          refine Calls.mono HP2.out ?_
          rintro e w4 ⟨rfl, H2, M2, h1, h2, h3, h4⟩
          have HSt2 : Hid (∃ H' M', Rep w4 a l H' ∧ KA words oops mark (ks.map (updK (ko, kc, 0, turnTo f ss (i + 1)))) H' M' ∧ H'.age = H.age) := ⟨H2, M2, h1, h2, h3⟩
          have HF4 : Hid (Fr (foot a l) w w4) := (hfr.out.trans HF3.out (by simp)).trans h4.1 (fun b hb => .inl hb)
          clear h1 h2 h3 h4
          go_wp2_with fail
          go_roundw
          case rel => exact ⟨i + 1, by omega, by go_num, by rw [HCs2.out]; push_cast; rfl, HSt2, HF4⟩
          case measure => simp [intOf]; omega
      · have hie : i = ss.length := by omega
        subst hie
        have HZ : Hid (∃ H' M', Rep wr a l H' ∧ KA words oops mark (ks.map (updK (ko, kc, 0, turnTo f ss ss.length))) H' M' ∧ H'.age = H.age ∧ Nx a l l w wr) := by
          obtain ⟨H', M', q1, q2, q3⟩ := hst.out
          exact ⟨H', M', q1, q2, q3, hfr.out, fun b hb => .inl hb⟩
        clear hst
        go_wp2_with fail
        go_ret
        exact ⟨rfl, HZ.out⟩
end
end Go.Proofs.YtdkbnnhcjaibdaaDoor
