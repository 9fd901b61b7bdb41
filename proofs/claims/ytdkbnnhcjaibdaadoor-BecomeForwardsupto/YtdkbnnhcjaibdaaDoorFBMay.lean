import Derived.Test.YtdkbnnhcjaibdaaDoorFBRefK
import Derived.Test.YtdkbnnhcjaibdaaDoorFG30BTrn
import Derived.Test.YtdkbnnhcjaibdaaDoorFG14CMeet
import Derived.BigQuiet
namespace Go.Proofs.YtdkbnnhcjaibdaaDoor
open Go.RowKit Go.Maps
set_option linter.unusedVariables false
set_option linter.unusedSimpArgs false
attribute [local go_sem ↓] Go.wp_at_zero Go.wp_at_succ
/-- a list of ints, one more list put behind it -/
theorem run_moreI (ss ts : List Int) (v u : Value) (w : World) (B : Nat) (h : w.ownsRow B 3 1 v ss.length (ss.map (Value.int .i64))) (hu : Rd w u ts) (hb : ss.length + ts.length ≤ 1099511627776) (hB : B ≤ w.heap.size) :
    ∃ v' w', (Builtin.append_ #[36, 36] 36 #[v, u]).run Tryd.prog w = .ok v' w' ∧ w'.ownsRow B 3 1 v' (ss ++ ts).length ((ss ++ ts).map (Value.int .i64)) ∧ w.grownBy w' v.ownBlock := by
  obtain ⟨p, c, rfl, h1⟩ := hu.at_
  obtain ⟨i33, ii, iz, is, ib⟩ := info_parts info3
  cases p with
  | none =>
    have h0 : ts.length = 0 := by
      rcases Nat.eq_zero_or_pos ts.length with h0 | h0
      · exact h0
      · obtain ⟨g, off, e2, _⟩ := h1 h0; cases e2
    have hs : ts = [] := List.length_eq_zero_iff.1 h0
    have hc := hu.nil c rfl
    subst hs
    subst hc
    rw [List.append_nil]
    exact ⟨_, _, run_append_owned_none (P := Tryd.prog) (w := w) B 36 36 3 i33 1 Tryd.underlying36 ii _ _ _ h, h, ⟨rfl, rfl, rfl, Nat.le_refl _, fun _ _ _ => rfl⟩⟩
  | some ad =>
    have hnews : ∀ j x, (ts.map (Value.int .i64))[j]? = some x → w.cell? (ad.add j) = some x := fun j x hx => by
      rw [List.getElem?_map] at hx
      cases hz : ts[j]? with
      | none => rw [hz] at hx; simp at hx
      | some z =>
        rw [hz] at hx
        simp at hx
        obtain ⟨hj, hjz⟩ := List.getElem?_eq_some_iff.1 hz
        obtain ⟨g, off, e2, h2, h3⟩ := h1 (by omega)
        rw [Option.some.inj e2, Addr.add_mid, h3 j hj, List.getD_eq_getElem?_getD, hz, ← hx]
        rfl
    obtain ⟨v', w', hr, h2, h3, _, h5⟩ := run_append_own_at (P := Tryd.prog) w B 36 36 3 i33 (.int .i64 0) 1 8 Tryd.underlying36 ii iz is ib rfl (by decide) _ _ _ h ad ts.length c (ts.map (Value.int .i64)) (by simp) hnews (fun x hx => by obtain ⟨z, _, rfl⟩ := List.mem_map.1 hx; rfl) (by unfold maxLen; omega) (by omega) hB
    refine ⟨v', w', hr, ?_, h3⟩
    rw [List.length_append, List.map_append]
    exact h2
theorem nums_perm : ∀ (sa sb : List Int), sa.length = sb.length → (nums (sa.zip sb)).Perm (sa ++ sb)
  | [], [], _ => List.Perm.refl _
  | [], _ :: _, h => by simp at h
  | _ :: _, [], h => by simp at h
  | a :: sa, b :: sb, h => by
    have ih := nums_perm sa sb (by simpa using h)
    show (a :: b :: nums (sa.zip sb)).Perm (a :: (sa ++ b :: sb))
    exact ((ih.cons b).trans List.perm_middle.symm).cons a
/-- has the document's heap an object of that oop? -/
def rhas (R : RS) (q : Int) : Bool := R.objs.any fun o => decide ((o.oop : Int) = q)
theorem rhas_no {R : RS} {q : Int} (h : RNo R q) : rhas R q = false := by
  unfold rhas
  rw [List.any_eq_false]
  intro o ho e
  obtain ⟨m, hm, e2⟩ := List.getElem_of_mem ho
  exact h m hm (by rw [List.getD_eq_getElem?_getD, List.getElem?_eq_getElem hm]; show ((R.objs[m]).oop : Int) = q; rw [e2]; exact of_decide_eq_true e)
theorem rhas_yes {R : RS} {q : Int} {k : Nat} (h : RIs R q k) : rhas R q = true := by
  unfold rhas
  rw [List.any_eq_true]
  obtain ⟨h1, h2⟩ := h
  exact ⟨R.objs.getD k noRO, by rw [List.getD_eq_getElem?_getD, List.getElem?_eq_getElem h1]; exact List.getElem_mem h1, decide_eq_true h2⟩
theorem take_nodup {l : List Int} {i : Nat} (hi : i < l.length) (h : (l.take i).Nodup) (hn : ∀ m, m < i → l.getD m 0 ≠ l.getD i 0) : (l.take (i + 1)).Nodup := by
  rw [List.take_succ_eq_append_getElem hi, List.nodup_append]
  refine ⟨h, by simp, fun a ha b hb e => ?_⟩
  obtain ⟨m, hm, e2⟩ := List.getElem_of_mem ha
  have hm1 : m < i := by simp at hm; omega
  have hm2 : m < l.length := by omega
  refine hn m hm1 ?_
  have e3 : b = l[i] := by simpa using hb
  rw [List.getD_eq_getElem?_getD, List.getElem?_eq_getElem hm2, List.getD_eq_getElem?_getD, List.getElem?_eq_getElem hi]
  show l[m] = l[i]
  rw [← e3, ← e, ← e2, List.getElem_take]
theorem two_same {l : List Int} {i j : Nat} (hi : i < l.length) (hj : j < i) (e : l.getD i 0 = l.getD j 0) : ¬ l.Nodup := fun h => by
  have hj2 : j < l.length := by omega
  rw [List.getD_eq_getElem?_getD, List.getElem?_eq_getElem hi, List.getD_eq_getElem?_getD, List.getElem?_eq_getElem hj2] at e
  have e2 : l[i]? = l[j]? := by rw [List.getElem?_eq_getElem hi, List.getElem?_eq_getElem hj2]; exact congrArg some e
  have := (List.getElem?_inj hi h).1 e2
  omega
set_option maxRecDepth 20000 in
set_option maxHeartbeats 2000000 in
theorem may_ok (sa sb : List Int) (va vb : Value) (B r : Nat) (R : RS) (w : World) (h : RRep w B r R) (hl : R.objs.length ≤ 1048576) (hra : Rd w va sa) (hrb : Rd w vb sb) (hs : sa.length + sb.length ≤ 1099511627776) :
    Calls Tryd.prog 102 #[.pointer (some ⟨r, 0, none⟩), va, vb] w fun e w' => e = .returned (.int .i64 (fitN (rhas R) sa sb)) ∧ Fr [] w w' := by
  obtain ⟨F, hF⟩ : ∃ F, F = fitN (rhas R) sa sb := ⟨_, rfl⟩
  rw [← hF]
  have HR := mkHid h
  obtain ⟨v3, V3, hr3, ho3, hf3⟩ := run_copyI sa va w hra
  obtain ⟨v4, V4, hr4, ho4, hg4⟩ := run_moreI sa sb v3 vb V3 w.heap.size ho3 (hrb.idle hf3) hs hf3.size
  have hf4 : Fr [] w V4 := by
    refine ⟨hg4.os.trans hf3.os, hg4.tape.trans hf3.tape, hg4.output.trans hf3.output, Nat.le_trans hf3.size hg4.size, fun i hi hn => ?_⟩
    rw [hg4.block i (Nat.lt_of_lt_of_le hi hf3.size) (fun e => ?_)]
    · exact hf3.block i hi hn
    · have := (ho3.lt i e.symm).1
      omega
  have hrd := own_rd ho4 (by simp; omega)
  obtain ⟨pa, ca, rfl, -⟩ := hra.at_
  obtain ⟨pb, cb, rfl, -⟩ := hrb.at_
  obtain ⟨p3, c3, e3⟩ := row_is ho3
  subst e3
  obtain ⟨p4, c4, e4, hp4⟩ := hrd.at_
  subst e4
  have hll : (sa ++ sb).length = sa.length + sb.length := by simp
  have HP4 := mkHid hp4
  have HRu3 := mkHid hr3
  have HRu4 := mkHid hr4
  have HF4 := mkHid hf4
  have s2 := hra.short
  have s3 := hrb.short
  by_cases hlen : sa.length = sb.length
  rotate_left
  · have hb0 : ((sa.length : Int) != (sb.length : Int)) = true := by rw [bne_iff_ne]; omega
    have HFt : Hid (F = 26) := by show F = 26; rw [hF]; unfold fitN; rw [if_pos hlen]
    clear hlen hF h hra hrb hr3 hr4 ho3 ho4 hg4 hf3 hf4 hrd hp4
    go_enter Tryd.func102, Tryd.ntmps102
    go_wp2_with fail
    go_ret
    exact ⟨by rw [HFt.out]; rfl, Fr.refl _ _⟩
  · have hb0 : ((sa.length : Int) != (sb.length : Int)) = false := by rw [bne_eq_false_iff_eq]; omega
    have HFt : Hid (F = if (∀ q ∈ sa ++ sb, rhas R q = true) then (if (sa ++ sb).Nodup then 0 else 26) else 20) := by
      show F = _
      rw [hF]
      unfold fitN
      rw [if_neg (by simpa using hlen)]
      have hp := nums_perm sa sb hlen
      by_cases c1 : (sa.all (rhas R) && sb.all (rhas R)) = true
      · rw [if_neg (by simp [c1])]
        have c2 : ∀ q ∈ sa ++ sb, rhas R q = true := fun q hq => by
          rw [Bool.and_eq_true, List.all_eq_true, List.all_eq_true] at c1
          rcases List.mem_append.1 hq with h1 | h1
          · exact c1.1 q h1
          · exact c1.2 q h1
        rw [if_pos c2]
        by_cases c3 : (sa ++ sb).Nodup
        · rw [if_pos c3, if_pos (hp.nodup_iff.2 c3)]
        · rw [if_neg c3, if_neg (fun h => c3 (hp.nodup_iff.1 h))]
      · rw [if_pos (by simpa using c1), if_neg]
        intro c2
        refine c1 ?_
        rw [Bool.and_eq_true, List.all_eq_true, List.all_eq_true]
        exact ⟨fun q hq => c2 q (by simp [hq]), fun q hq => c2 q (by simp [hq])⟩
    clear hlen hF h hra hrb hr3 hr4 ho3 ho4 hg4 hf3 hf4 hrd hp4
    generalize sa ++ sb = all at *
    have hal : all.length ≤ 1099511627776 := by omega
    clear hll
    go_enter Tryd.func102, Tryd.ntmps102
    go_wp2_with (at_builtin; first | refine Lib.wpList_append_run _ rfl (.const (.slice none 0 0)) (.tmp 20) 36 36 rfl _ _ rfl rfl _ _ HRu3.out ?_ | refine Lib.wpList_append_run _ rfl (.tmp 22) (.tmp 23) 36 36 rfl _ _ rfl rfl _ _ HRu4.out ?_)
    clear HRu3 HRu4
    go_loopw [8] (fun q wr => ∃ i : Nat, i ≤ all.length ∧ q = .int .i64 i ∧ Hid (∀ m, m < i → rhas R (all.getD m 0) = true) ∧ Hid (Fr [] V4 wr)) (fun q _ => all.length - (intOf q).toNat)
    case atStart => exact ⟨0, Nat.zero_le _, rfl, mkHid (fun m hm => by omega), Fr.refl _ _⟩
    case round =>
      obtain ⟨i, hin, rfl, hAl, hq⟩ := hrel
      have i1 : (0 : Int) ≤ (i : Int) := by omega
      by_cases hi : i < all.length
      · have i2 : (i : Int) < (all.length : Int) := by omega
        obtain ⟨g, off, rfl, hgl, hc⟩ := HP4.out (by omega)
        have q0 := (hq.out.cell (p := ⟨g, off + i, none⟩) hgl (by simp)).trans (hc i hi)
        have hm : all.getD i 0 ∈ all := by rw [List.getD_eq_getElem?_getD, List.getElem?_eq_getElem hi]; exact List.getElem_mem hi
        have HNx : Hid (rhas R (all.getD i 0) = true → ∀ m, m < i + 1 → rhas R (all.getD m 0) = true) := fun hh m hm => by
          by_cases e : m = i
          · rw [e]; exact hh
          · exact hAl.out m (by omega)
        have HBad : Hid (rhas R (all.getD i 0) = false → F = 20) := fun hh => by
          rw [HFt.out, if_neg]
          intro hA
          rw [hA _ hm] at hh
          cases hh
        have HC := mkHid (rClass_any (all.getD i 0) B r R wr (HR.out.idle (HF4.out.trans hq.out (by simp))) hl)
        generalize all.getD i 0 = x at *
        clear hc hm
        go_wp2_with fail
        refine Calls.mono HC.out ?_
        rintro e w2 ⟨⟨k, hk, rfl⟩ | ⟨hno, rfl⟩, hf2⟩
        · have HF2 : Hid (Fr [] V4 w2) := hq.out.trans hf2 (by simp)
          have HN2 := mkHid (HNx.out (rhas_yes hk))
          clear hf2 hk
          go_wp2_with fail
          go_roundw
          case rel => exact ⟨i + 1, by omega, by go_num, HN2, HF2⟩
          case measure => simp [intOf]; omega
        · have HF2 : Hid (Fr [] w w2) := (HF4.out.trans hq.out (by simp)).trans hf2 (by simp)
          have HB2 := mkHid (HBad.out (rhas_no hno))
          clear hf2 hno
          go_wp2_with fail
          go_ret
          exact ⟨by rw [HB2.out]; rfl, HF2.out⟩
      · have hie : i = all.length := by omega
        subst hie
        have HA2 : Hid (F = if all.Nodup then 0 else 26) := by
          show F = _
          rw [HFt.out, if_pos]
          intro q hq2
          obtain ⟨m, hm, e⟩ := List.getElem_of_mem hq2
          have := hAl.out m hm
          rw [List.getD_eq_getElem?_getD, List.getElem?_eq_getElem hm] at this
          rw [← e]; exact this
        have HQ := hq
        clear hi hAl hq
        go_wp2_with fail
        go_loopw [11] (fun q wr => ∃ i : Nat, i ≤ all.length ∧ q = .int .i64 i ∧ Hid ((all.take i).Nodup) ∧ Hid (Fr [] V4 wr)) (fun q _ => all.length - (intOf q).toNat)
        case atStart => exact ⟨0, Nat.zero_le _, rfl, mkHid (by simp), HQ⟩
        case round =>
          obtain ⟨i, hin, rfl, hND, hq⟩ := hrel
          have i1 : (0 : Int) ≤ (i : Int) := by omega
          by_cases hi : i < all.length
          · have i2 : (i : Int) < (all.length : Int) := by omega
            obtain ⟨g, off, rfl, hgl, hc⟩ := HP4.out (by omega)
            have HCe : Hid (∀ V, Fr [] V4 V → ∀ m, m < all.length → V.cell? ⟨g, off + m, none⟩ = some (.int .i64 (all.getD m 0))) := fun V hV m hm => (hV.cell (p := ⟨g, off + m, none⟩) hgl (by simp)).trans (hc m hm)
            have HQ2 := hq
            clear hc hq HQ
            go_wp2_with fail
            go_loopw [12] (fun q wr => ∃ j : Nat, j ≤ i ∧ q = .int .i64 j ∧ Hid (∀ m, m < j → all.getD m 0 ≠ all.getD i 0) ∧ Hid (Fr [] V4 wr)) (fun q _ => i - (intOf q).toNat)
            case atStart => exact ⟨0, Nat.zero_le _, rfl, mkHid (fun m hm => by omega), HQ2⟩
            case round =>
              obtain ⟨j, hjn, rfl, hNe, hq⟩ := hrel
              have j1 : (0 : Int) ≤ (j : Int) := by omega
              by_cases hj : j < i
              · have j2 : (j : Int) < (i : Int) := by omega
                have j3 : (j : Int) < (all.length : Int) := by omega
                have q0 := HCe.out _ hq.out i hi
                have q1 := HCe.out _ hq.out j (by omega)
                have HNx : Hid (all.getD i 0 ≠ all.getD j 0 → ∀ m, m < j + 1 → all.getD m 0 ≠ all.getD i 0) := fun hh m hm => by
                  by_cases e : m = j
                  · rw [e]; exact fun e2 => hh e2.symm
                  · exact hNe.out m (by omega)
                have HBad : Hid (all.getD i 0 = all.getD j 0 → F = 26) := fun hh => by
                  rw [HA2.out, if_neg (two_same hi hj hh)]
                generalize all.getD i 0 = x at *
                generalize all.getD j 0 = y at *
                by_cases hxy : x = y
                · have hb : (x == y) = true := by simpa using hxy
                  have HB2 := mkHid (HBad.out hxy)
                  have HF2 : Hid (∀ n, Fr [] w (World.drewN _ n)) := fun n => (HF4.out.trans hq.out (by simp)).trans (Fr.drewN [] _ n) (by simp)
                  clear hxy HNx HBad
                  go_wp2_with fail
                  go_quiet (fail)
                  go_wp2_with fail
                  go_ret
                  exact ⟨by rw [HB2.out]; rfl, HF2.out _⟩
                · have hb : (x == y) = false := by simpa using hxy
                  have HN2 := mkHid (HNx.out hxy)
                  clear hxy HNx HBad
                  go_wp2_with fail
                  go_quiet (fail)
                  go_wp2_with fail
                  go_roundw
                  case rel => exact ⟨j + 1, by omega, by go_num, HN2, mkHid (hq.out.trans (Fr.drewN [] _ _) (by simp))⟩
                  case measure => simp [intOf]; omega
              · have hje : j = i := by omega
                subst hje
                have HN2 := mkHid (take_nodup hi hND.out hNe.out)
                clear hj
                go_wp2_with fail
                go_roundw
                case rel => exact ⟨j + 1, by omega, by go_num, HN2, hq⟩
                case measure => simp [intOf]; omega
          · have hie : i = all.length := by omega
            subst hie
            have HB2 : Hid (F = 0) := by
              show F = 0
              have := hND.out
              rw [List.take_length] at this
              rw [HA2.out, if_pos this]
            have HF2 : Hid (Fr [] w wr) := HF4.out.trans hq.out (by simp)
            go_wp2_with fail
            go_ret
            exact ⟨by rw [HB2.out]; rfl, HF2.out⟩
end Go.Proofs.YtdkbnnhcjaibdaaDoor
