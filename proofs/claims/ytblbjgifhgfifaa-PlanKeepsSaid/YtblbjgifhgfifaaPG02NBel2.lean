import Derived.Test.YtblbjgifhgfifaaPG01NFds
namespace Go.Proofs.Ytblbjgifhgfifaa
open Go.RowKit
set_option linter.unusedVariables false
set_option linter.unusedSimpArgs false
theorem nodup_snoc {f : List ByteArray} {j : Nat} (hj : j < f.length) (h : (f.take j).Nodup) (hn : f.getD j ⟨#[]⟩ ∉ f.take j) : (f.take (j + 1)).Nodup := by
  rw [← take_snoc hj, List.nodup_append]
  refine ⟨h, by simp, ?_⟩
  intro a ha b hb e
  rw [List.mem_singleton] at hb
  subst hb
  exact hn (e ▸ ha)
theorem nodup_bad {f : List ByteArray} {j : Nat} (hj : j < f.length) (hn : f.getD j ⟨#[]⟩ ∈ f.take j) : ¬ f.Nodup := by
  intro h
  have h2 : (f.take (j + 1)).Nodup := h.sublist (List.take_sublist _ _)
  rw [← take_snoc hj, List.nodup_append] at h2
  exact h2.2.2 _ hn _ (List.mem_singleton.2 rfl) rfl
theorem mine_rd {w0 w : World} {p : Option Addr} {c : Nat} {ts : List ByteArray} (h : Mine w0 w p c ts) (hs : ts.length ≤ 8796093022208) : RdS w (.slice p ts.length c) ts := own_rd h.row hs
theorem empty_ne (s : ByteArray) : (s.toList == ([] : List UInt8)) = decide (s = ⟨#[]⟩) := by
  have := tl_eq s ⟨#[]⟩
  rw [toList_data ⟨#[]⟩] at this
  exact this
def Small (l : List Cl) : Prop := ∀ c, c < l.length → (fields l none [] c).length ≤ 8796093022208
theorem rd_nil (w : World) : RdS w (.slice none 0 0) [] := ⟨⟨none, 0, rfl, fun h => by simp at h⟩, fun c hc => by injection hc with _ _ e; exact e.symm, by simp, fun p n c hc => by injection hc with _ e2 e3; omega⟩
set_option maxRecDepth 20000 in
set_option maxHeartbeats 2000000 in
theorem rMade_ok (l : List Cl) (v : Value) (w : World) (h : RdC w v l) (hs : Small l) :
    Calls Try.prog 29 #[v] w fun e w' => e = .returned (.bool (madeB l)) ∧ Fr [] w w' := by
  have HAt : Hid (∀ (W : World), Fr [] w W → ∀ (n : Nat) (s : ByteArray), n ≤ l.length → Calls Try.prog 30 #[v, .int .i64 n, .string s] W fun e w' => e = .returned (.int .i64 (atZ l n s)) ∧ w' = W) := mkHid (fun W hW n s hn => rAt_ok l n s v W (h.idle hW) hn)
  have HFs : Hid (∀ (W : World), Fr [] w W → ∀ (i : Nat), i < l.length → Calls Try.prog 31 #[v, .int .i64 i, .int .i64 (-1), .slice none 0 0] W fun e w' => ∃ p d, e = .returned (.slice p (fields l none [] i).length d) ∧ Mine W w' p d (fields l none [] i)) := mkHid (fun W hW i hi => rFields_ok l i none [] v _ W (h.idle hW) (rd_nil W) hi (hs i hi))
  obtain ⟨p, c0, rfl, h1⟩ := h.at_
  have s1 := h.short
  have H1 := mkHid h1
  have HS := mkHid hs
  clear h h1 hs
  go_enter Try.func29, Try.ntmps29
  go_wp2_with fail
  go_loopw [3] (fun q wr => ∃ i : Nat, i ≤ l.length ∧ q = .int .i64 i ∧ Hid (∀ m, m < i → named1 l m = true) ∧ wr = w) (fun q _ => l.length - (intOf q).toNat)
  case atStart => exact ⟨0, Nat.zero_le _, rfl, mkHid (fun m hm => by omega), rfl⟩
  case round =>
    obtain ⟨i, hi, rfl, hst, rfl⟩ := hrel
    have i1 : (0 : Int) ≤ (i : Int) := by omega
    by_cases hlt : i < l.length
    · have i2 : (i : Int) < (l.length : Int) := by omega
      obtain ⟨g, off, rfl, x1, x2⟩ := H1.out (by omega)
      have k1 := (x2 i hlt).1
      have k2 := (x2 i hlt).2.1
      have HC : Hid (∀ s, Calls Try.prog 30 #[.slice (some ⟨g, off, none⟩) l.length c0, .int .i64 i, .string s] wr fun e w' => e = .returned (.int .i64 (atZ l i s)) ∧ w' = wr) := mkHid (fun s => HAt.out wr (Fr.refl _ _) i s (by omega))
      have hA1 : atZ l i (clAt l i).name = zO (atN l i (clAt l i).name) := rfl
      have hA2 : atZ l i (clAt l i).sup = zO (upN l i) := rfl
      have HNx : Hid (named1 l i = true → ∀ m, m < i + 1 → named1 l m = true) := fun hh m hm => by
        by_cases e : m = i
        · rw [e]; exact hh
        · exact hst.out m (by omega)
      have HBad : Hid (named1 l i = false → madeB l = false) := fun hh => by
        unfold madeB
        rw [Bool.and_eq_false_iff]
        left
        rw [Bool.eq_false_iff]
        intro ha
        rw [List.all_eq_true] at ha
        rw [ha i (List.mem_range.2 hlt)] at hh
        cases hh
      have hnm : named1 l i = (decide ((clAt l i).name ≠ ⟨#[]⟩) && (atN l i (clAt l i).name).isNone && (decide ((clAt l i).sup = ⟨#[]⟩) || (upN l i).isSome)) := rfl
      rw [hnm] at HNx HBad
      clear hnm x1 x2 HAt hst HFs
      generalize upN l i = u at *
      generalize atN l i (clAt l i).name = a at *
      generalize atZ l i = A at *
      generalize (clAt l i).name = nm at *
      generalize (clAt l i).sup = sp at *
      have q1 := empty_ne nm
      have q2 := empty_ne sp
      by_cases e1 : nm = ⟨#[]⟩
      · have HB2 := mkHid (HBad.out (by simp [e1]))
        rw [decide_eq_true e1] at q1
        clear HNx HBad q2 e1 hA1 hA2 HC
        go_wp2_with fail
        go_ret
        exact ⟨by rw [HB2.out]; rfl, Fr.refl _ _⟩
      · rw [decide_eq_false e1] at q1
        cases a with
        | some k =>
          have HB2 := mkHid (HBad.out (by simp))
          clear HNx HBad q2 e1 hA2
          rw [show zO (some k) = (k : Int) from rfl] at hA1
          have kk : (0 : Int) ≤ (k : Int) := by omega
          go_wp2_with (go_at_call 30; refine (HC.out _).mono ?_; rintro e w1 ⟨rfl, rfl⟩)
          go_ret
          exact ⟨by rw [HB2.out]; rfl, Fr.refl _ _⟩
        | none =>
          rw [show zO none = -1 from rfl] at hA1
          by_cases e2 : sp = ⟨#[]⟩
          · have HN2 := mkHid (HNx.out (by simp [e1, e2]))
            rw [decide_eq_true e2] at q2
            clear HNx HBad e1 e2 hA2
            go_wp2_with (go_at_call 30; refine (HC.out _).mono ?_; rintro e w1 ⟨rfl, rfl⟩)
            go_roundw
            case rel => exact ⟨i + 1, by omega, by go_num, HN2, by simp⟩
            case measure => simp [intOf]; omega
          · rw [decide_eq_false e2] at q2
            cases u with
            | none =>
              have HB2 := mkHid (HBad.out (by simp [e2]))
              rw [show zO none = -1 from rfl] at hA2
              clear HNx HBad e1 e2
              go_wp2_with (go_at_call 30; refine (HC.out _).mono ?_; rintro e w1 ⟨rfl, rfl⟩)
              go_ret
              exact ⟨by rw [HB2.out]; rfl, Fr.refl _ _⟩
            | some k =>
              have HN2 := mkHid (HNx.out (by simp [e1]))
              rw [show zO (some k) = (k : Int) from rfl] at hA2
              have kk : ¬ (k : Int) < 0 := by omega
              clear HNx HBad e1 e2
              go_wp2_with (go_at_call 30; refine (HC.out _).mono ?_; rintro e w1 ⟨rfl, rfl⟩)
              go_roundw
              case rel => exact ⟨i + 1, by omega, by go_num, HN2, by simp⟩
              case measure => simp [intOf]; omega
    · have hie : i = l.length := by omega
      subst hie
      have HA : Hid ((List.range l.length).all (named1 l) = true) := mkHid (by
        rw [List.all_eq_true]; intro j hj; exact hst.out j (List.mem_range.1 hj))
      have HM : Hid (madeB l = (List.range l.length).all (fun i => decide (fields l none [] i).Nodup)) := mkHid (by
        unfold madeB; rw [HA.out]; rfl)
      clear HA hst H1 HAt
      obtain ⟨w0, rfl⟩ : ∃ x, x = wr := ⟨_, rfl⟩
      go_wp2_with fail
      go_loopw [4] (fun q wr => ∃ i : Nat, i ≤ l.length ∧ q = .int .i64 i ∧ Hid (∀ m, m < i → (fields l none [] m).Nodup) ∧ Hid (Fr [] w0 wr)) (fun q _ => l.length - (intOf q).toNat)
      case atStart => exact ⟨0, Nat.zero_le _, rfl, mkHid (fun m hm => by omega), mkHid (Fr.refl _ _)⟩
      case round =>
        obtain ⟨i, hi, rfl, hst, hfr⟩ := hrel
        have i1 : (0 : Int) ≤ (i : Int) := by omega
        by_cases hlt : i < l.length
        · have i2 : (i : Int) < (l.length : Int) := by omega
          have HC := mkHid (HFs.out wr hfr.out i hlt)
          have HNx : Hid ((fields l none [] i).Nodup → ∀ m, m < i + 1 → (fields l none [] m).Nodup) := fun hh m hm => by
            by_cases e : m = i
            · rw [e]; exact hh
            · exact hst.out m (by omega)
          have HBad : Hid (¬ (fields l none [] i).Nodup → madeB l = false) := fun hh => by
            rw [HM.out, Bool.eq_false_iff]
            intro ha
            rw [List.all_eq_true] at ha
            exact hh (of_decide_eq_true (ha i (List.mem_range.2 hlt)))
          have sz := HS.out i hlt
          clear hst HFs HM HS
          generalize fields l none [] i = f at *
          go_wp2_with (go_at_call 31; refine HC.out.mono ?_; rintro e w1 ⟨p1, d1, rfl, m1⟩)
          have HM1 := mkHid m1
          have HF1 : Hid (Fr [] w0 w1) := mkHid (hfr.out.trans m1.fr (by simp))
          have HR1 : Hid (0 < f.length → _) := mkHid (fun hp => own_front m1.row hp (k := f.length) (Nat.le_refl _) sz)
          have HT1 : Hid (∀ k, k ≤ f.length → 0 < f.length → RdS w1 (.slice p1 k d1) (f.take k)) := mkHid (fun k hk hp => by
            obtain ⟨_, _, _, _, _, _, hr⟩ := own_front m1.row hp (k := k) hk sz
            exact hr)
          clear m1 hfr HC
          go_loopw [6] (fun q wr => ∃ j : Nat, j ≤ f.length ∧ q = .int .i64 j ∧ Hid ((f.take j).Nodup) ∧ Hid (Fr [] w1 wr)) (fun q _ => f.length - (intOf q).toNat)
          case atStart => exact ⟨0, Nat.zero_le _, rfl, mkHid (by simp), mkHid (Fr.refl _ _)⟩
          case round =>
            obtain ⟨j, hj, rfl, hnd, hfj⟩ := hrel
            have j1 : (0 : Int) ≤ (j : Int) := by omega
            by_cases hjl : j < f.length
            · have j2 : (j : Int) < (f.length : Int) := by omega
              obtain ⟨g, rfl, y1, y2, y3, y4, y5⟩ := HR1.out (by omega)
              rw [List.take_length] at y5
              obtain ⟨p', c', e', yy⟩ := y5.at_
              injection e' with e1 e2 e3
              subst e1
              obtain ⟨g', off, e4, z1, z2⟩ := yy (by omega)
              injection e4 with e4
              injection e4 with e4 e5
              subst e4
              subst e5
              have kx := (hfj.out.cell (p := ⟨g, 0 + j, none⟩) z1 (by simp)).trans (z2 j hjl)
              rw [Nat.zero_add] at kx
              have hcap : (j : Int) ≤ (d1 : Int) := by omega
              have HA : Hid (∀ N, Calls Try.prog 36 #[.slice (some ⟨g, 0, none⟩) j d1, .string (f.getD j ⟨#[]⟩)] (wr.drewN N) fun e w' => e = .returned (.int .i64 (amongZ (f.take j) (f.getD j ⟨#[]⟩))) ∧ w' = wr.drewN N) := mkHid (fun N => rAmong_ok _ _ _ _ (((HT1.out j hj (by omega)).idle hfj.out).idle (Fr.drewN _ _ _)))
              have HNn : Hid (f.getD j ⟨#[]⟩ ∉ f.take j → (f.take (j + 1)).Nodup) := mkHid (fun hn => nodup_snoc hjl hnd.out hn)
              have HNb : Hid (f.getD j ⟨#[]⟩ ∈ f.take j → madeB l = false) := mkHid (fun hn => HBad.out (nodup_bad hjl hn))
              have hge := amongZ_ge (l := f.take j) (s := f.getD j ⟨#[]⟩)
              clear e2 e3 yy z1 z2 y5 HR1 HT1 HBad hnd HNx HM1
              generalize f.getD j ⟨#[]⟩ = x at *
              by_cases hin : x ∈ f.take j
              · have HB2 := mkHid (HNb.out hin)
                have b1 := hge.2 hin
                clear HNn HNb hge hin
                generalize amongZ (f.take j) x = z at *
                go_wp2_with fail
                go_quiet ((go_at_call 36; exact Calls.quiet_of_same (HA.out _)))
                go_wp2_with fail
                go_ret
                exact ⟨by rw [HB2.out]; rfl, (HF1.out.trans hfj.out (by simp)).trans (Fr.drewN [] _ _) (by simp)⟩
              · have HN2 := mkHid (HNn.out hin)
                have b1 : ¬ 0 ≤ amongZ (f.take j) x := fun h => hin (hge.1 h)
                clear HNn HNb hge hin
                generalize amongZ (f.take j) x = z at *
                go_wp2_with fail
                go_quiet ((go_at_call 36; exact Calls.quiet_of_same (HA.out _)))
                go_wp2_with fail
                go_roundw
                case rel => exact ⟨j + 1, by omega, by go_num, HN2, mkHid (hfj.out.trans (Fr.drewN [] _ _) (by simp))⟩
                case measure => simp [intOf]; omega
            · have hje : j = f.length := by omega
              subst hje
              have hnd2 := hnd.out
              rw [List.take_length] at hnd2
              have HN2 := mkHid (HNx.out hnd2)
              have HF2 : Hid (Fr [] w0 wr) := mkHid (HF1.out.trans hfj.out (by simp))
              clear hnd hnd2 HNx HBad HR1 HT1 HM1
              go_wp2_with fail
              go_roundw
              case rel => exact ⟨i + 1, by omega, by go_num, HN2, HF2⟩
              case measure => simp [intOf]; omega
        · have hie : i = l.length := by omega
          subst hie
          have HE : Hid (madeB l = true) := mkHid (by
            rw [HM.out, List.all_eq_true]; intro j hj; exact decide_eq_true (hst.out j (List.mem_range.1 hj)))
          clear hst HM HFs
          go_wp2_with fail
          go_ret
          exact ⟨by rw [HE.out]; rfl, hfr.out⟩
end Go.Proofs.Ytblbjgifhgfifaa
namespace Go.Proofs.Ytblbjgifhgfifaa
open Go.RowKit
set_option linter.unusedVariables false
set_option linter.unusedSimpArgs false
theorem RdS.front {w : World} {p : Option Addr} {c k : Nat} {ss : List ByteArray} (h : RdS w (.slice p ss.length c) ss) (hk : k ≤ ss.length) : RdS w (.slice p k c) (ss.take k) := by
  obtain ⟨p', c', e, h1⟩ := h.at_
  injection e with e1 e2 e3
  subst e1
  have hl : (ss.take k).length = k := by simp; omega
  refine ⟨⟨p, c, by rw [hl], fun hp => ?_⟩, fun c2 hc2 => ?_, by have := h.short; omega, fun p2 n2 c2 hc2 => by have := h.cap _ _ _ rfl; injection hc2 with _ e2 e3; omega⟩
  · rw [hl] at hp
    obtain ⟨g, off, e, h2, h3⟩ := h1 (by omega)
    refine ⟨g, off, e, h2, fun i hi => ?_⟩
    rw [hl] at hi
    rw [h3 i (by omega), List.getD_eq_getElem?_getD, List.getD_eq_getElem?_getD, List.getElem?_take, if_pos hi]
  · injection hc2 with q1 q2 q3
    have := h.nil c (by rw [q1])
    omega
theorem listedZ_step (inh pre : List ByteArray) (x : ByteArray) (r : List ByteArray) : listedZ inh pre (x :: r) = if fieldB x = false then 133 else if inB pre x then 134 else if inB inh x then 135 else listedZ inh (pre ++ [x]) r := rfl
theorem inB_amongZ (l : List ByteArray) (s : ByteArray) : inB l s = true ↔ 0 ≤ amongZ l s := by rw [inB_iff, amongZ_ge]
theorem drop_getD {l : List ByteArray} {i : Nat} (h : i < l.length) : l.drop i = l.getD i ⟨#[]⟩ :: l.drop (i + 1) := by
  rw [List.drop_eq_getElem_cons h, List.getD_eq_getElem?_getD, List.getElem?_eq_getElem h]; rfl
set_option maxRecDepth 20000 in
set_option maxHeartbeats 2000000 in
theorem rListed_ok (inh own : List ByteArray) (v u : Value) (w : World) (h : RdS w v inh) (ho : RdS w u own) (hcap : ∀ p n c, u = .slice p n c → n ≤ c ∧ c ≤ 9223372036854775807) :
    Calls Try.prog 32 #[v, u] w fun e w' => e = .returned (.int .i64 (listedZ inh [] own)) ∧ Fr [] w w' := by
  obtain ⟨p, c0, rfl, h1⟩ := ho.at_
  have s1 := ho.short
  have hcc := hcap _ _ _ rfl
  have H1 := mkHid h1
  have HI : Hid (∀ W, Fr [] w W → ∀ s, Calls Try.prog 36 #[v, .string s] W fun e w' => e = .returned (.int .i64 (amongZ inh s)) ∧ w' = W) := mkHid (fun W hW s => rAmong_ok _ _ _ _ (h.idle hW))
  have HP : Hid (∀ W, Fr [] w W → ∀ k s, k ≤ own.length → Calls Try.prog 36 #[.slice p k c0, .string s] W fun e w' => e = .returned (.int .i64 (amongZ (own.take k) s)) ∧ w' = W) := mkHid (fun W hW k s hk => rAmong_ok _ _ _ _ ((ho.front hk).idle hW))
  have hvs : ∃ pv nv cv, v = .slice pv nv cv := by obtain ⟨a, b, e, _⟩ := h.at_; exact ⟨a, _, b, e⟩
  obtain ⟨pv, nv, cv, rfl⟩ := hvs
  clear h h1 ho hcap
  go_enter Try.func32, Try.ntmps32
  go_wp2_with fail
  go_loopw [5] (fun q wr => ∃ i : Nat, i ≤ own.length ∧ q = .int .i64 i ∧ Hid (listedZ inh [] own = listedZ inh (own.take i) (own.drop i)) ∧ Hid (Fr [] w wr)) (fun q _ => own.length - (intOf q).toNat)
  case atStart => exact ⟨0, Nat.zero_le _, rfl, mkHid (by simp), mkHid (Fr.refl _ _)⟩
  case round =>
    obtain ⟨i, hi, rfl, hst, hfr⟩ := hrel
    have i1 : (0 : Int) ≤ (i : Int) := by omega
    by_cases hlt : i < own.length
    · have i2 : (i : Int) < (own.length : Int) := by omega
      have i3 : (i : Int) ≤ (c0 : Int) := by omega
      obtain ⟨g, off, rfl, x1, x2⟩ := H1.out (by omega)
      have k1 := (hfr.out.cell (p := ⟨g, off + i, none⟩) x1 (by simp)).trans (x2 i hlt)
      have hstep := hst.out
      rw [drop_getD hlt, listedZ_step, take_snoc hlt] at hstep
      have HStep := mkHid hstep
      have HF := mkHid (rField_ok (own.getD i ⟨#[]⟩))
      have HPi : Hid (∀ N s, Calls Try.prog 36 #[.slice (some ⟨g, off, none⟩) i c0, .string s] (wr.drewN N) fun e w' => e = .returned (.int .i64 (amongZ (own.take i) s)) ∧ w' = wr.drewN N) := mkHid (fun N s => HP.out _ (hfr.out.trans (Fr.drewN [] _ _) (by simp)) i s hi)
      have hz1 := inB_amongZ (own.take i) (own.getD i ⟨#[]⟩)
      have hz2 := inB_amongZ inh (own.getD i ⟨#[]⟩)
      clear x1 x2 hst hstep H1 HP
      generalize own.getD i ⟨#[]⟩ = x at *
      generalize hT : own.take i = T at *
      have HPx : Hid (∀ N, Calls Try.prog 36 #[.slice (some ⟨g, off, none⟩) i c0, .string x] (wr.drewN N) fun e w' => e = .returned (.int .i64 (amongZ T x)) ∧ w' = wr.drewN N) := mkHid (fun N => HPi.out N x)
      clear HPi
      by_cases f1 : fieldB x = false
      · have HE := HStep.out
        rw [if_pos f1] at HE
        have HE2 := mkHid HE
        rw [f1] at HF
        clear HE HStep HI HPx hz1 hz2
        go_wp2_with (go_at_call 8; refine (HF.out _).mono ?_; rintro e w1 ⟨rfl, rfl⟩)
        go_ret
        exact ⟨by rw [HE2.out]; rfl, hfr.out⟩
      · have f1' : fieldB x = true := by simpa using f1
        rw [f1'] at HF
        by_cases f2 : inB T x = true
        · have HE := HStep.out
          rw [if_neg f1, if_pos f2] at HE
          have HE2 := mkHid HE
          have b1 := hz1.1 f2
          clear HE HStep HI hz1 hz2 f1 f1' f2
          generalize amongZ T x = z at *
          go_wp2_with (go_at_call 8; refine (HF.out _).mono ?_; rintro e w1 ⟨rfl, rfl⟩)
          go_quiet ((go_at_call 36; exact Calls.quiet_of_same (HPx.out _)))
          go_wp2_with fail
          go_ret
          exact ⟨by rw [HE2.out]; rfl, hfr.out.trans (Fr.drewN [] _ _) (by simp)⟩
        · have b1 : ¬ 0 ≤ amongZ T x := fun h => f2 (hz1.2 h)
          have HIi : Hid (∀ N s, Calls Try.prog 36 #[.slice pv nv cv, .string s] (wr.drewN N) fun e w' => e = .returned (.int .i64 (amongZ inh s)) ∧ w' = wr.drewN N) := mkHid (fun N s => HI.out _ (hfr.out.trans (Fr.drewN [] _ _) (by simp)) s)
          by_cases f3 : inB inh x = true
          · have HE := HStep.out
            rw [if_neg f1, if_neg f2, if_pos f3] at HE
            have HE2 := mkHid HE
            have b2 := hz2.1 f3
            clear HE HStep HI hz1 hz2 f1 f1' f2 f3
            generalize amongZ T x = z at *
            generalize hZ2 : amongZ inh x = z2 at *
            have HIx : Hid (∀ N, Calls Try.prog 36 #[.slice pv nv cv, .string x] (wr.drewN N) fun e w' => e = .returned (.int .i64 z2) ∧ w' = wr.drewN N) := mkHid (fun N => by rw [← hZ2]; exact HIi.out N x)
            clear hZ2 HIi
            go_wp2_with (go_at_call 8; refine (HF.out _).mono ?_; rintro e w1 ⟨rfl, rfl⟩)
            go_quiet ((go_at_call 36; exact Calls.quiet_of_same (HPx.out _)))
            go_wp2_with (go_at_call 36; refine (HIx.out _).mono ?_; rintro e w1 ⟨rfl, rfl⟩)
            go_ret
            exact ⟨by rw [HE2.out]; rfl, hfr.out.trans (Fr.drewN [] _ _) (by simp)⟩
          · have HE := HStep.out
            rw [if_neg f1, if_neg f2, if_neg f3] at HE
            have HE2 := mkHid HE
            have b2 : ¬ 0 ≤ amongZ inh x := fun h => f3 (hz2.2 h)
            clear HE HStep HI hz1 hz2 f1 f1' f2 f3
            generalize amongZ T x = z at *
            generalize hZ2 : amongZ inh x = z2 at *
            have HIx : Hid (∀ N, Calls Try.prog 36 #[.slice pv nv cv, .string x] (wr.drewN N) fun e w' => e = .returned (.int .i64 z2) ∧ w' = wr.drewN N) := mkHid (fun N => by rw [← hZ2]; exact HIi.out N x)
            clear hZ2 HIi
            go_wp2_with (go_at_call 8; refine (HF.out _).mono ?_; rintro e w1 ⟨rfl, rfl⟩)
            go_quiet ((go_at_call 36; exact Calls.quiet_of_same (HPx.out _)))
            go_wp2_with (go_at_call 36; refine (HIx.out _).mono ?_; rintro e w1 ⟨rfl, rfl⟩)
            go_roundw
            case rel => exact ⟨i + 1, by omega, by go_num, HE2, mkHid (hfr.out.trans (Fr.drewN [] _ _) (by simp))⟩
            case measure => simp [intOf]; omega
    · have hie : i = own.length := by omega
      subst hie
      have HE : Hid (listedZ inh [] own = 0) := mkHid (by rw [hst.out, List.drop_length]; rfl)
      clear H1 hst HI HP
      go_wp2_with fail
      go_ret
      exact ⟨by rw [HE.out]; rfl, hfr.out⟩
end Go.Proofs.Ytblbjgifhgfifaa
namespace Go.Proofs.Ytblbjgifhgfifaa
open Go.RowKit
set_option linter.unusedVariables false
set_option linter.unusedSimpArgs false
def Small2 (l : List Cl) (top : Nat) (own : List ByteArray) : Prop := ∀ c, c < l.length → (fields l (some top) own c).length ≤ 8796093022208
theorem belowZ_1 {l : List Cl} {top : Nat} {own : List ByteArray} {c : Nat} (h1 : top < c) (h2 : c < l.length) (h : below1 l top own c = true) : belowZ l top own = 136 := by
  unfold belowZ
  rw [if_pos]
  rw [List.any_eq_true]
  exact ⟨c, by rw [List.mem_range'_1]; omega, h⟩
theorem belowZ_no {l : List Cl} {top : Nat} {own : List ByteArray} (h : ∀ c, top < c → c < l.length → below1 l top own c = false) : belowZ l top own = if (List.range' top (l.length - top)).any (below2 l top own) then 137 else 0 := by
  unfold belowZ
  rw [if_neg]
  rw [List.any_eq_true]
  rintro ⟨c, hc, hb⟩
  rw [List.mem_range'_1] at hc
  rw [h c (by omega) (by omega)] at hb
  cases hb
theorem below1_no {l : List Cl} {top : Nat} {own : List ByteArray} {c : Nat} (h : ∀ j, j < (clAt l c).own.length → (under l c top && inB own ((clAt l c).own.getD j ⟨#[]⟩)) = false) : below1 l top own c = false := by
  unfold below1
  rw [Bool.eq_false_iff]
  intro hb
  rw [Bool.and_eq_true, List.any_eq_true] at hb
  obtain ⟨hu, x, hx, hi⟩ := hb
  obtain ⟨j, hj, e⟩ := List.getElem_of_mem hx
  have := h j hj
  rw [hu, List.getD_eq_getElem?_getD, List.getElem?_eq_getElem hj, Option.getD_some, e, hi] at this
  cases this
theorem below1_yes {l : List Cl} {top : Nat} {own : List ByteArray} {c j : Nat} (hj : j < (clAt l c).own.length) (hu : under l c top = true) (hi : inB own ((clAt l c).own.getD j ⟨#[]⟩) = true) : below1 l top own c = true := by
  unfold below1
  rw [hu, Bool.true_and, List.any_eq_true]
  exact ⟨_, by rw [List.getD_eq_getElem?_getD, List.getElem?_eq_getElem hj]; exact List.getElem_mem hj, hi⟩
set_option maxRecDepth 20000 in
set_option maxHeartbeats 2000000 in
theorem rBelow_ok (l : List Cl) (top : Nat) (own : List ByteArray) (v ov : Value) (w : World) (h : RdC w v l) (ho : RdS w ov own) (ht : top < l.length) (hs : Small2 l top own) :
    Calls Try.prog 33 #[v, .int .i64 top, ov] w fun e w' => e = .returned (.int .i64 (belowZ l top own)) ∧ Fr [] w w' := by
  have HU : Hid (∀ (W : World), Fr [] w W → ∀ c, c < l.length → Calls Try.prog 35 #[v, .int .i64 c, .int .i64 top] W fun e w' => e = .returned (.bool (under l c top)) ∧ w' = W) := mkHid (fun W hW c hc => rUnder_ok l c top v W (h.idle hW) hc ht)
  have HA : Hid (∀ (W : World), Fr [] w W → ∀ s, Calls Try.prog 36 #[ov, .string s] W fun e w' => e = .returned (.int .i64 (amongZ own s)) ∧ w' = W) := mkHid (fun W hW s => rAmong_ok _ _ _ _ (ho.idle hW))
  have HF : Hid (∀ (W : World), Fr [] w W → ∀ c, c < l.length → Calls Try.prog 31 #[v, .int .i64 c, .int .i64 top, ov] W fun e w' => ∃ p d, e = .returned (.slice p (fields l (some top) own c).length d) ∧ Mine W w' p d (fields l (some top) own c)) := mkHid (fun W hW c hc => rFields_ok l c (some top) own v ov W (h.idle hW) (ho.idle hW) hc (hs c hc))
  have HO : Hid (∀ c, c < l.length → RdS w (clAt l c).v (clAt l c).own) := mkHid h.own
  obtain ⟨po, no, co, rfl⟩ : ∃ po no co, ov = .slice po no co := by obtain ⟨pv, cv, e, _⟩ := ho.at_; exact ⟨pv, _, cv, e⟩
  obtain ⟨p, c0, rfl, h1⟩ := h.at_
  have s1 := h.short
  have H1 := mkHid h1
  have HS := mkHid hs
  clear h h1 hs ho
  go_enter Try.func33, Try.ntmps33
  go_wp2_with fail
  go_loopw [7] (fun q wr => ∃ c : Nat, top < c ∧ c ≤ l.length ∧ q = .int .i64 c ∧ Hid (∀ m, top < m → m < c → below1 l top own m = false) ∧ wr = w) (fun q _ => l.length - (intOf q).toNat)
  case atStart => exact ⟨top + 1, by omega, by omega, by go_num, mkHid (fun m hm => by omega), rfl⟩
  case round =>
    obtain ⟨c, hc0, hc, rfl, hst, rfl⟩ := hrel
    have i1 : (0 : Int) ≤ (c : Int) := by omega
    by_cases hlt : c < l.length
    · have i2 : (c : Int) < (l.length : Int) := by omega
      obtain ⟨g, off, rfl, x1, x2⟩ := H1.out (by omega)
      have k1 := (x2 c hlt).2.2.1
      obtain ⟨px, cx, ex, hx⟩ := (HO.out c hlt).at_
      rw [ex] at k1
      have sx := (HO.out c hlt).short
      have HX := mkHid hx
      have HNx : Hid (below1 l top own c = false → ∀ m, top < m → m < c + 1 → below1 l top own m = false) := fun hh m hm1 hm => by
        by_cases e : m = c
        · rw [e]; exact hh
        · exact hst.out m hm1 (by omega)
      have HN := mkHid (below1_no (l := l) (top := top) (own := own) (c := c))
      have HY : Hid (∀ j, j < (clAt l c).own.length → under l c top = true → inB own ((clAt l c).own.getD j ⟨#[]⟩) = true → belowZ l top own = 136) := mkHid (fun j hj hu hi => belowZ_1 hc0 hlt (below1_yes hj hu hi))
      have HC1 := mkHid (HU.out wr (Fr.refl _ _) c hlt)
      have HC2 : Hid (∀ s, Calls Try.prog 36 #[.slice po no co, .string s] wr fun e w' => e = .returned (.int .i64 (amongZ own s)) ∧ w' = wr) := mkHid (fun s => HA.out wr (Fr.refl _ _) s)
      have HAm := mkHid (inB_amongZ own)
      clear x1 x2 hst HU HA HF HO ex hx
      generalize (clAt l c).own = X at *
      generalize under l c top = U at *
      generalize below1 l top own = B at *
      go_wp2_with fail
      go_loopw [8] (fun q wq => ∃ j : Nat, j ≤ X.length ∧ q = .int .i64 j ∧ Hid (∀ m, m < j → (U && inB own (X.getD m ⟨#[]⟩)) = false) ∧ wq = wr) (fun q _ => X.length - (intOf q).toNat)
      case atStart => exact ⟨0, Nat.zero_le _, rfl, mkHid (fun m hm => by omega), rfl⟩
      case round =>
        obtain ⟨j, hj, rfl, hst, rfl⟩ := hrel
        have j1 : (0 : Int) ≤ (j : Int) := by omega
        by_cases hjl : j < X.length
        · have j2 : (j : Int) < (X.length : Int) := by omega
          obtain ⟨gx, offx, rfl, z1, z2⟩ := HX.out (by omega)
          have kx := z2 j hjl
          have HJx : Hid ((U && inB own (X.getD j ⟨#[]⟩)) = false → ∀ m, m < j + 1 → (U && inB own (X.getD m ⟨#[]⟩)) = false) := fun hh m hm => by
            by_cases e : m = j
            · rw [e]; exact hh
            · exact hst.out m (by omega)
          have HYj := mkHid (HY.out j hjl)
          clear z1 z2 HX HY HN HNx
          cases U with
          | false =>
            have HJ2 := mkHid (HJx.out rfl)
            clear HJx HYj
            go_wp2_with (go_at_call 35; refine HC1.out.mono ?_; rintro e w1 ⟨rfl, rfl⟩)
            go_roundw
            case rel => exact ⟨j + 1, by omega, by go_num, HJ2, by simp⟩
            case measure => simp [intOf]; omega
          | true =>
            have hA := HAm.out (X.getD j ⟨#[]⟩)
            have HC3 := mkHid (HC2.out (X.getD j ⟨#[]⟩))
            generalize X.getD j ⟨#[]⟩ = x at *
            cases hb : inB own x with
            | true =>
              have HE := mkHid (HYj.out rfl hb)
              have b1 := hA.1 hb
              clear HJx HYj hA hb HC2
              generalize amongZ own x = z at *
              go_wp2_with (first | (go_at_call 35; refine HC1.out.mono ?_; rintro e w1 ⟨rfl, rfl⟩) | (go_at_call 36; refine HC3.out.mono ?_; rintro e w1 ⟨rfl, rfl⟩))
              go_ret
              exact ⟨by rw [HE.out]; rfl, Fr.refl _ _⟩
            | false =>
              have HJ2 := mkHid (HJx.out (by rw [hb]; rfl))
              have b1 : ¬ 0 ≤ amongZ own x := fun h => by rw [hA.2 h] at hb; cases hb
              clear HJx HYj hA hb HC2
              generalize amongZ own x = z at *
              go_wp2_with (first | (go_at_call 35; refine HC1.out.mono ?_; rintro e w1 ⟨rfl, rfl⟩) | (go_at_call 36; refine HC3.out.mono ?_; rintro e w1 ⟨rfl, rfl⟩))
              go_roundw
              case rel => exact ⟨j + 1, by omega, by go_num, HJ2, by simp⟩
              case measure => simp [intOf]; omega
        · have hje : j = X.length := by omega
          subst hje
          have HB := mkHid (HNx.out (HN.out hst.out))
          clear HX HY HN HNx hst HC1 HC2
          go_wp2_with fail
          go_roundw
          case rel => exact ⟨c + 1, by omega, by omega, by go_num, HB, by simp⟩
          case measure => simp [intOf]; omega
    · have hie : c = l.length := by omega
      subst hie
      have HZ := mkHid (belowZ_no hst.out)
      clear H1 hst HA HO
      obtain ⟨w0, rfl⟩ : ∃ x, x = wr := ⟨_, rfl⟩
      generalize hB2 : below2 l top own = B2 at *
      have HB2 : Hid (∀ c, B2 c = (under l c top && decide (32 < (fields l (some top) own c).length))) := mkHid (fun c => by rw [← hB2]; rfl)
      clear hB2
      go_wp2_with fail
      go_loopw [9] (fun q wq => ∃ c : Nat, top ≤ c ∧ c ≤ l.length ∧ q = .int .i64 c ∧ Hid (∀ m, top ≤ m → m < c → B2 m = false) ∧ Hid (Fr [] w0 wq)) (fun q _ => l.length - (intOf q).toNat)
      case atStart => exact ⟨top, by omega, by omega, rfl, mkHid (fun m hm => by omega), mkHid (Fr.refl _ _)⟩
      case round =>
        obtain ⟨c, hc0, hc, rfl, hst, hfr⟩ := hrel
        have i1 : (0 : Int) ≤ (c : Int) := by omega
        by_cases hlt : c < l.length
        · have i2 : (c : Int) < (l.length : Int) := by omega
          have HNx : Hid (B2 c = false → ∀ m, top ≤ m → m < c + 1 → B2 m = false) := fun hh m hm1 hm => by
            by_cases e : m = c
            · rw [e]; exact hh
            · exact hst.out m hm1 (by omega)
          have HYc : Hid (B2 c = true → belowZ l top own = 137) := mkHid (fun hh => by
            rw [HZ.out, if_pos]
            rw [List.any_eq_true]
            exact ⟨c, by rw [List.mem_range'_1]; omega, hh⟩)
          have HC1 := mkHid (HU.out wr hfr.out c hlt)
          have HC2 := mkHid (HF.out wr hfr.out c hlt)
          have hb2 := HB2.out c
          have sz := HS.out c hlt
          clear hst HU HF HZ HB2 HS
          generalize under l c top = U at *
          generalize fields l (some top) own c = f at *
          cases U with
          | false =>
            have HN2 := mkHid (HNx.out (by rw [hb2]; rfl))
            clear HNx HYc hb2 HC2
            go_wp2_with (go_at_call 35; refine HC1.out.mono ?_; rintro e w1 ⟨rfl, rfl⟩)
            go_roundw
            case rel => exact ⟨c + 1, by omega, by omega, by go_num, HN2, hfr⟩
            case measure => simp [intOf]; omega
          | true =>
            by_cases hf : 32 < f.length
            · have HE := mkHid (HYc.out (by rw [hb2, decide_eq_true hf]; rfl))
              have b1 : (32 : Int) < (f.length : Int) := by omega
              clear HNx HYc hb2
              go_wp2_with (first | (go_at_call 35; refine HC1.out.mono ?_; rintro e w1 ⟨rfl, rfl⟩) | (go_at_call 31; refine HC2.out.mono ?_; rintro e w2 ⟨p2, d2, rfl, m2⟩))
              go_ret
              exact ⟨by rw [HE.out]; rfl, hfr.out.trans m2.fr (by simp)⟩
            · have HN2 := mkHid (HNx.out (by rw [hb2, decide_eq_false hf]; rfl))
              have b1 : ¬ (32 : Int) < (f.length : Int) := by omega
              clear HNx HYc hb2
              go_wp2_with (first | (go_at_call 35; refine HC1.out.mono ?_; rintro e w1 ⟨rfl, rfl⟩) | (go_at_call 31; refine HC2.out.mono ?_; rintro e w2 ⟨p2, d2, rfl, m2⟩; have HM2 := mkHid m2; clear m2))
              go_roundw
              case rel => exact ⟨c + 1, by omega, by omega, by go_num, HN2, mkHid (hfr.out.trans HM2.out.fr (by simp))⟩
              case measure => simp [intOf]; omega
        · have hie : c = l.length := by omega
          subst hie
          have HE : Hid (belowZ l top own = 0) := mkHid (by
            rw [HZ.out, if_neg]
            rw [List.any_eq_true]
            rintro ⟨c, hc1, hb⟩
            rw [List.mem_range'_1] at hc1
            rw [hst.out c (by omega) (by omega)] at hb
            cases hb)
          clear hst HU HF HZ
          go_wp2_with fail
          go_ret
          exact ⟨by rw [HE.out]; rfl, hfr.out⟩
end Go.Proofs.Ytblbjgifhgfifaa
