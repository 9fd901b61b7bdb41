import Derived.Test.YtdkbnnhcjaibdaaDoorFG30BTrn
import Derived.Test.YtdkbnnhcjaibdaaDoorFG31BNil
import Derived.Test.YtdkbnnhcjaibdaaDoorFG34BPd
import Derived.Deep.DeepCutAuto
import Derived.Deep.RegionHeld3
namespace Go.Proofs.YtdkbnnhcjaibdaaDoor
open Go.RowKit Go.Maps
set_option linter.unusedVariables false
set_option linter.unusedSimpArgs false
attribute [local go_sem ↓] Go.wp_at_zero Go.wp_at_succ
section
variable {words oops mark N : Nat} {ks : List Key} {H : HS} {M : MS}
theorem updK_same {K : List Key} (hu : (K.map fun k => k.1).Nodup) {k : Key} (hk : k ∈ K) : K.map (updK k) = K := by
  conv => rhs; rw [← List.map_id K]
  refine List.map_congr_left fun x hx => ?_
  unfold updK
  by_cases e : x.1 = k.1
  · rw [if_pos e]
    obtain ⟨i, hi, ei⟩ := List.getElem_of_mem hx
    obtain ⟨j, hj, ej⟩ := List.getElem_of_mem hk
    have : i = j := (List.getElem?_inj (by simpa using hi) hu).1 (by rw [List.getElem?_map, List.getElem?_map, List.getElem?_eq_getElem hi, List.getElem?_eq_getElem hj, ei, ej]; exact congrArg some e)
    subst this
    rw [← ei, ← ej]; rfl
  · rw [if_neg e]; rfl
set_option maxRecDepth 20000 in
set_option maxHeartbeats 4000000 in
theorem rForward_ok (sa sb : List Int) (va vb : Value) (B r : Nat) (R : RS) (w : World) (h : RRep w B r R) (hln : Lone R) (hnd : (R.objs.map fun o => o.oop).Nodup) (hr : RK words oops mark ks N R.bare) (hka : KA words oops mark ks H M) (hbk : ∀ k ∈ ks, k.1 ≤ 65536) (hra : Rd w va sa) (hrb : Rd w vb sb) (hs : sa.length + sb.length ≤ 1048576)
    (hba : 0 < sa.length → ∀ g, va.ownBlock = some g → g ∉ fFoot R) (hbb : 0 < sb.length → ∀ g, vb.ownBlock = some g → g ∉ fFoot R) :
    Calls Tryd.prog 40 #[.pointer (some ⟨r, 0, none⟩), va, vb] w fun e w' =>
      (fitN (rhas R) sa sb ≠ 0 ∧ e = .returned (.tuple #[.int .i64 0, .int .i64 (fitN (rhas R) sa sb)]) ∧ Fr [] w w') ∨
      (fitN (rhas R) sa sb = 0 ∧ e = .returned (.tuple #[.int .i64 ((ks.map (cntKey (pf (sa.zip sb)))).sum : Nat), .int .i64 0]) ∧ RFs B r R w' (ks.map (turnKey (pf (sa.zip sb)))) ∧ Fr (fFoot R) w w') := by
  have hrl := hr.len
  have hlen : R.objs.length ≤ 65538 := by
    have := hka.klen
    have e : R.bare.objs.length = R.objs.length := rfl
    omega
  have HP := mkHid (may_ok sa sb va vb B r R w h (by omega) hra hrb (by omega))
  have hA0 := twin_ras hka hr
  have hA1 : RAs R (allTo H H.seats.length) := ⟨hA0.rise, hA0.mem, hA0.len, hA0.bound⟩
  obtain ⟨A, hA⟩ : ∃ A, A = allTo H H.seats.length := ⟨_, rfl⟩
  have HAll : Hid (∀ V, Fr [] w V → Calls Tryd.prog 92 #[.pointer (some ⟨r, 0, none⟩)] V fun e w' => ∃ v, e = .returned v ∧ w'.ownsRow V.heap.size 3 1 v A.length (A.map I) ∧ Fr [] V w') := fun V hV => by rw [hA]; exact rAll_ok _ B r R V (h.idle hV) hA1
  obtain ⟨f, hff⟩ : ∃ f, f = pf (sa.zip sb) := ⟨_, rfl⟩
  obtain ⟨F, hF⟩ : ∃ F, F = fitN (rhas R) sa sb := ⟨_, rfl⟩
  rw [← hF] at HP
  rw [← hF, ← hff]
  have hAl : A.length ≤ 65538 := by rw [hA, hA1.len]; omega
  have HND := mkHid (allTo_nodup H H.seats.length)
  have HMem : Hid (∀ q ∈ allTo H H.seats.length, ∃ k ∈ ks, k.1 = (q : Int)) := fun q hq => has_key hka (all_has hka.inv hq)
  have HAllK := mkHid (keysJ_all hka f)
  have HSm := mkHid (cnt_sum hka f)
  rw [← hA] at HND HMem HAllK HSm
  have hkeys : R.objs.map roKey = ks := hr.keys
  have HFt : Hid (F = 0 → (sa.length = sb.length ∧ (∀ x ∈ sa, 0 ≤ x ∧ x ≤ 65536) ∧ (∀ x ∈ sb, 0 ≤ x ∧ x ≤ 65536) ∧ (nums (sa.zip sb)).Nodup ∧ (∀ p ∈ sa.zip sb, 1 ≤ p.1 ∧ p.1 ≤ 65536) ∧ Good f)) := fun h0 => by
    rw [hF] at h0
    obtain ⟨f1, f2, f3, f4⟩ := fit0 h0
    have key : ∀ q, rhas R q = true → 1 ≤ q ∧ q ≤ 65536 := fun q hq => by
      rw [rhas_keys (R := R) (ks := ks) hkeys] at hq
      obtain ⟨k, k1, k2⟩ := List.any_eq_true.1 hq
      have e : k.1 = q := by simpa using k2
      have := hbk k k1
      have := (hka.at_ k k1).1
      omega
    refine ⟨f1, fun x hx => by have := key x (f2 x hx); omega, fun x hx => by have := key x (f3 x hx); omega, f4, fun p hp => key _ (f2 _ (List.of_mem_zip (a := p.1) (b := p.2) hp).1), ?_⟩
    rw [hff]
    exact good_pf hka hbk fun q hq => by rw [ka_hasL hka, ← rhas_keys (R := R) (ks := ks) hkeys]; exact f3 q hq
  have HRd : Hid (∀ V, Fr (fFoot R) w V → Rd V va sa ∧ Rd V vb sb) := fun V hV => ⟨hra.keep hV hba, hrb.keep hV hbb⟩
  have HR0 : Hid (RFs B r R w ks) := ⟨R, h, Alk.refl R, hkeys⟩
  have HFoot : Hid (∀ g ∈ fFoot R, g < w.heap.size) := fun g hg => by
    rcases mem_fFoot.1 hg with e | ⟨o, o1, e⟩
    · exact (h.row.lt g e).2
    · exact ((h.slots o o1).lt g e).2
  obtain ⟨pa, ca, rfl, -⟩ := hra.at_
  obtain ⟨pb, cb, rfl, -⟩ := hrb.at_
  have HK := mkHid hka
  have HFf := mkHid hff
  have HLn := mkHid hln
  have HNd := mkHid hnd
  have hse := hka.inv.told.seats
  clear h hln hnd hr hka hbk hra hrb hba hbb hA0 hA1 hF hff hkeys hrl hA
  go_enter Tryd.func40, Tryd.ntmps40
  go_wp2_with fail
  refine Calls.mono HP.out ?_
  rintro e w1 ⟨rfl, hf1⟩
  have HF1 := mkHid hf1
  clear hf1 HP
  by_cases h0 : F = 0
  rotate_left
  · have hb0 : (F != 0) = true := by simpa using h0
    have HNe := mkHid h0
    clear h0
    go_wp2_with fail
    go_ret2
    exact .inl ⟨HNe.out, rfl, HF1.out⟩
  · subst h0
    have hT := HFt.out rfl
    have HT := mkHid hT
    have HAl := mkHid (HAll.out w1 HF1.out)
    clear hT HFt HAll
    go_wp2_with fail
    refine Calls.mono HAl.out ?_
    rintro e w2 ⟨v2, rfl, hrow2, hf2⟩
    obtain ⟨p2, c2, rfl⟩ := row_is hrow2
    have HRow := mkHid hrow2
    have HF2 : Hid (Fr [] w w2) := HF1.out.trans hf2 (by simp)
    have hsz : w.heap.size ≤ w1.heap.size := HF1.out.size
    clear hrow2 hf2 HAl
    go_wp2_with fail
    go_loopw [9, 11] (fun cv q wr => ∃ j : Nat, j ≤ A.length ∧ q = .int .i64 j ∧ cv = .int .i64 (((A.take j).map (cntQ f ks)).sum : Nat) ∧ Hid (RFs B r R wr (keysJ f ks (A.take j))) ∧ Hid (Fr (fFoot R) w2 wr)) (fun _ q _ => A.length - (intOf q).toNat)
    case atStart => exact ⟨0, Nat.zero_le _, rfl, rfl, by rw [List.take_zero, keysJ_nil]; exact HR0.out.idle HF2.out, Fr.refl _ _⟩
    case round =>
      obtain ⟨j, hjn, rfl, rfl, hst, hfr⟩ := hrel
      have i1 : (0 : Int) ≤ (j : Int) := by omega
      by_cases hlt : j < A.length
      · have i2 : (j : Int) < (A.length : Int) := by omega
        have HCell : Hid (∀ V, Fr (fFoot R) w2 V → ∃ g c, Value.slice p2 A.length c2 = .slice (some ⟨g, 0, none⟩) A.length c ∧ V.cell? ⟨g, j, none⟩ = some (.int .i64 (A.getD j 0 : Nat))) := fun V hV => by
          have hrow := own_congr HRow.out (w' := V) fun g hg => hV.block g (HRow.out.lt g hg).2 (fun hm => by have h1 := (HRow.out.lt g hg).1; have h2 := HFoot.out g hm; omega)
          exact row_cell hrow j hlt
        obtain ⟨g, cg, eg, x1⟩ := HCell.out wr hfr.out
        injection eg with eg1 _ eg2
        subst eg1 eg2
        have hqm : A.getD j 0 ∈ A := by rw [List.getD_eq_getElem?_getD, List.getElem?_eq_getElem hlt]; exact List.getElem_mem hlt
        have htk := take_get A 0 j hlt
        have hnq : A.getD j 0 ∉ A.take j := fun hm => by
          have h1 := HND.out
          rw [← List.take_append_drop (j + 1) A, htk, List.append_assoc] at h1
          exact (List.nodup_append.1 h1).2.2 _ hm _ (by simp) rfl
        obtain ⟨k, hk, hkq⟩ := HMem.out _ hqm
        have hkn : k.1.toNat = A.getD j 0 := by omega
        have hkm := keysJ_mem f (A.take j) hk (by rw [hkn]; exact hnq)
        obtain ⟨K, hKK⟩ : ∃ K, K = keysJ f ks (A.take j) := ⟨_, rfl⟩
        have HNx : Hid (keysJ f ks (A.take (j + 1)) = K.map (updK (turnKey f k))) := by
          show _ = _
          rw [htk, keysJ_snoc HK.out f _ hk _ hkq hnq, hKK]
        rw [← hKK] at hst hkm
        have HUq : Hid ((K.map fun k => k.1).Nodup) := by
          show _
          have e : (K.map fun k => k.1) = ks.map fun k => k.1 := by
            rw [hKK]
            unfold keysJ
            rw [List.map_map]
            refine List.map_congr_left fun x hx => ?_
            show (if x.1.toNat ∈ A.take j then turnKey f x else x).1 = x.1
            split <;> rfl
          rw [e]
          have h1 := HK.out.nodup
          unfold List.Nodup at h1 ⊢
          rw [List.pairwise_map] at h1 ⊢
          exact h1.imp fun hab e => hab (by rw [e])
        have HCell2 : Hid (∀ V, Fr (fFoot R) w2 V → V.cell? ⟨g, j, none⟩ = some (.int .i64 k.1)) := fun V hV => by
          obtain ⟨g', cg', eg, y1⟩ := HCell.out V hV
          injection eg with eg1 _ eg2
          injection eg1 with eg1
          injection eg1 with eg1
          rw [eg1, y1, hkq]
        rw [← hkq] at x1
        obtain ⟨t1, t2, t3, t4, t5, t6⟩ := HT.out
        have HTn : Hid (∀ V z, Fr (fFoot R) w2 V → Calls Tryd.prog 103 #[.int .i64 z, .slice pa sa.length ca, .slice pb sb.length cb] V fun e w' => e = .returned (.tuple #[.int .i64 (turnZ f z), .bool (isTrn (sa.zip sb) z)]) ∧ w' = V) := fun V z hV => by
          have h1 := HRd.out V ((HF2.out.mono (by simp)).trans hV (fun b hb => .inl hb))
          have := rTurned_ok z sa sb _ _ V t1 t2 t3 h1.1 h1.2
          rw [← (trn_turn t4 t5 z).1, ← HFf.out] at this
          exact this
        have HTc : Hid (∀ z, turnC f z = if isTrn (sa.zip sb) z = true then 1 else 0) := fun z => by rw [HFf.out]; exact turn_is t4 t5 z
        have HTw : Hid (∀ z, isTrn (sa.zip sb) z = true → isW (turnZ f z) = true ∧ mayB (turnZ f z) 0 = true) := fun z hz => by
          have h1 := HTc.out z
          rw [if_pos hz] at h1
          unfold turnC at h1
          cases ht : turnW f z with
          | none => rw [ht] at h1; simp at h1
          | some v =>
            have e : turnZ f z = v := by unfold turnZ; rw [ht]; rfl
            rw [e]
            exact turnW_word t6 ht
        have HTs : Hid (∀ z, isTrn (sa.zip sb) z = false → turnZ f z = z) := fun z hz => by rw [HFf.out, (trn_turn t4 t5 z).1]; exact isTrn_not hz
        clear t1 t2 t3 t4 t5 t6
        have hcq := cntQ_of HK.out f hk _ hkq
        have hsum : ((A.take (j + 1)).map (cntQ f ks)).sum = ((A.take j).map (cntQ f ks)).sum + (turnC f k.2.1 + (if k.2.2.1 = 0 then cntTo f k.2.2.2 k.2.2.2.length else 0)) := by
          rw [htk, List.map_append, List.sum_append]
          simp only [List.map_cons, List.map_nil, List.sum_cons, List.sum_nil, Nat.add_zero]
          rw [hcq]
          rfl
        have hb1 := sum_le_mul (cntQ f ks) 8193 (cnt_le HK.out f) (A.take j)
        have hb2 : (A.take j).length ≤ 65538 := by rw [List.length_take]; omega
        have hb3 := Nat.mul_le_mul_right 8193 hb2
        have hb5 : k.2.2.2.length ≤ 8192 := HK.out.slots k hk
        have HSum := mkHid hsum
        generalize ((A.take j).map (cntQ f ks)).sum = n0 at *
        obtain ⟨q, cl, fm, ss⟩ := k
        dsimp only at *
        have hn0 : n0 ≤ 536952834 := by omega
        have HCl := mkHid (rf_class hst.out (by omega) HNd.out hkm)
        dsimp only at HCl
        have Hkm := mkHid hkm
        clear hb1 hb2 hb3 hsum hcq hkm hk hkq hkn hnq htk hqm hKK HCell
        go_wp2_with fail
        refine Calls.mono HCl.out ?_
        rintro e w3 ⟨rfl, hf3⟩
        have HF3 : Hid (Fr (fFoot R) w2 w3) := hfr.out.trans hf3 (by simp)
        have HS3 : Hid (RFs B r R w3 K) := hst.out.idle hf3
        clear hf3 hst HCl
        go_wp2_with fail
        refine Calls.mono (HTn.out w3 cl HF3.out) ?_
        rintro e w' ⟨rfl, hw'⟩
        rw [hw']
        clear hw' w'
        have HC1 := HTc.out cl
        obtain ⟨cz, hcz⟩ : ∃ cz, cz = turnZ f cl := ⟨_, rfl⟩
        rw [← hcz]
        cases hb : isTrn (sa.zip sb) cl
        case' false =>
          have e1 := HTs.out cl hb
          rw [hb, if_neg (by simp)] at HC1
          have HS4 : Hid (RFs B r R w3 (K.map (updK (q, cz, fm, ss)))) := by
            show RFs B r R w3 _
            rw [hcz, e1, updK_same HUq.out Hkm.out]
            exact HS3.out
          have x3 := HCell2.out w3 HF3.out
          have HCz := mkHid hcz
          have HCq := mkHid HC1
          have HF4 : Hid (Fr (fFoot R) w2 w3) := HF3.out
          have HC0 : Hid ((n0 : Int) = (n0 : Int) + (turnC f cl : Nat)) := by show _ = _; rw [HC1]; simp
          have hc1 : (0 : Int) ≤ (n0 : Int) := by omega
          have hc2 : (n0 : Int) ≤ 536952835 := by omega
          clear hb e1 hcz HC1 HS3 HF3 HCq
          go_wp2_with fail
          generalize hwc : w3 = wc at *
          rename Hid (RFs B r R wc (K.map (updK (q, cz, fm, ss)))) => HSc
          rename Hid (Fr (fFoot R) w2 wc) => HFc
          clear hwc
          generalize hc0 : (n0 : Int) = c0 at hc1 hc2 ⊢
          have HC0 : Hid (c0 = (n0 : Int) + (turnC f cl : Nat)) := by show _ = _; rw [← hc0]; exact HC0.out
        case' true =>
          rw [hb, if_pos rfl] at HC1
          have HSt := mkHid (rf_setClass HS3.out (by omega) HNd.out Hkm.out cz (by rw [hcz]; exact (HTw.out cl hb).1))
          dsimp only at HSt
          have x2 := HCell2.out w3 HF3.out
          have HCz := mkHid hcz
          have HC0 : Hid ((n0 : Int) + 1 = (n0 : Int) + (turnC f cl : Nat)) := by show _ = _; rw [HC1]; simp
          have hc1 : (0 : Int) ≤ (n0 : Int) + 1 := by omega
          have hc2 : (n0 : Int) + 1 ≤ 536952835 := by omega
          clear hb hcz HC1 HS3
          go_wp2_with fail
          refine Calls.mono HSt.out ?_
          rintro e wc ⟨rfl, hsc, hfc⟩
          have HSc := mkHid hsc
          have HFc : Hid (Fr (fFoot R) w2 wc) := HF3.out.trans hfc (fun b hb => .inl hb)
          have x3 := HCell2.out wc HFc.out
          clear hsc hfc HSt HF3 x2
          go_wp2_with fail
          generalize hc0 : (n0 : Int) + 1 = c0 at hc1 hc2 ⊢
          have HC0 : Hid (c0 = (n0 : Int) + (turnC f cl : Nat)) := by show _ = _; rw [← hc0]; exact HC0.out
        all_goals
          have HSz := mkHid (rf_size HSc.out (by omega) HNd.out (k := (q, cz, fm, ss)) (upd_mem Hkm.out rfl))
          dsimp only at HSz
          refine Calls.mono HSz.out ?_
          rintro e w5 ⟨rfl, hf5⟩
          have HF5 : Hid (Fr (fFoot R) w2 w5) := HFc.out.trans hf5 (by simp)
          have HS5 : Hid (RFs B r R w5 (K.map (updK (q, cz, fm, ss)))) := HSc.out.idle hf5
          clear hf5 HSz HSc HFc x3
          go_wp2_with fail
          go_loopw [9, 19] (fun cv qv wr => ∃ i : Nat, i ≤ ss.length ∧ (fm ≠ 0 → i = 0) ∧ qv = .int .i64 i ∧ cv = .int .i64 (c0 + (cntTo f ss i : Nat)) ∧ Hid (RFs B r R wr (K.map (updK (q, cz, fm, turnTo f ss i)))) ∧ Hid (Fr (fFoot R) w2 wr)) (fun _ qv _ => ss.length - (intOf qv).toNat)
          case atStart => exact ⟨0, Nat.zero_le _, fun _ => rfl, rfl, by simp [cntTo], by simpa [turnTo] using HS5, HF5⟩
          case round =>
            obtain ⟨i, hin, hfm, rfl, rfl, hst, hfr2⟩ := hrel
            have y1 : (0 : Int) ≤ (i : Int) := by omega
            have hcl := cntTo_le f ss i
            by_cases hf0 : fm = 0
            · subst hf0
              by_cases hi : i < ss.length
              · have y2 : (i : Int) < (ss.length : Int) := by omega
                have HAt := mkHid (rf_at hst.out (by omega) HNd.out (k := (q, cz, 0, turnTo f ss i)) (upd_mem Hkm.out rfl) i (by dsimp only; rw [turnTo_len]; exact hi))
                dsimp only at HAt
                rw [turnTo_get f ss i hi] at HAt
                have HTS := mkHid (turnTo_set f ss i hi)
                have HTM := mkHid (turnTo_same f ss i hi)
                have HCN := mkHid (cntTo_succ f ss i hi)
                have HTCn := mkHid (HTc.out (ss.getD i 0))
                have HPt : Hid (∀ V z, RFs B r R V (K.map (updK (q, cz, 0, turnTo f ss i))) → mayB z 0 = true → Calls Tryd.prog 86 #[.pointer (some ⟨r, 0, none⟩), .int .i64 q, .int .i64 i, .int .i64 z] V fun e w' => e = .returned (.int .i64 0) ∧ RFs B r R w' (K.map (updK (q, cz, 0, (turnTo f ss i).set i z))) ∧ Fr (fFoot R) V w') := fun V z hV hz => by
                  have := rf_put hV HLn.out (by omega) HNd.out (k := (q, cz, 0, turnTo f ss i)) (upd_mem Hkm.out rfl) i (by dsimp only; rw [turnTo_len]; exact hi) z hz
                  dsimp only at this
                  rw [upd_upd (k := (q, cz, 0, ss)) (k' := (q, cz, 0, turnTo f ss i)) (k'' := (q, cz, 0, (turnTo f ss i).set i z)) rfl rfl] at this
                  exact this
                have x5 := HCell2.out wr hfr2.out
                obtain ⟨sz, hsz2⟩ : ∃ sz, sz = ss.getD i 0 := ⟨_, rfl⟩
                rw [← hsz2] at HAt HTS HTM HCN HTCn
                have hcn := HCN.out
                generalize cntTo f ss i = ci at *
                clear hsz2 hfm
                go_wp2_with fail
                refine Calls.mono HAt.out ?_
                rintro e w6 ⟨rfl, hf6⟩
                have HF6 : Hid (Fr (fFoot R) w2 w6) := hfr2.out.trans hf6 (by simp)
                have HS6 : Hid (RFs B r R w6 (K.map (updK (q, cz, 0, turnTo f ss i)))) := hst.out.idle hf6
                clear hf6 HAt hst hfr2 x5
                go_wp2_with fail
                refine Calls.mono (HTn.out w6 sz HF6.out) ?_
                rintro e w' ⟨rfl, hw'⟩
                rw [hw']
                clear hw' w'
                obtain ⟨tz, htz⟩ : ∃ tz, tz = turnZ f sz := ⟨_, rfl⟩
                rw [← htz]
                cases hb : isTrn (sa.zip sb) sz with
                | false =>
                  have e1 := HTs.out sz hb
                  have e2 := HTCn.out
                  rw [hb, if_neg (by simp)] at e2
                  have HS7 : Hid (RFs B r R w6 (K.map (updK (q, cz, 0, turnTo f ss (i + 1))))) := by
                    show RFs B r R w6 _
                    rw [HTM.out e1]
                    exact HS6.out
                  have HC7 : Hid (cntTo f ss (i + 1) = ci) := by show _ = _; rw [hcn, e2, Nat.add_zero]
                  clear hb e1 e2 htz hcn HS6 HCN HTCn
                  go_wp2_with fail
                  go_roundw
                  case rel => exact ⟨i + 1, by omega, fun h => absurd rfl h, by go_num, by rw [HC7.out], HS7, HF6⟩
                  case measure => simp [intOf]; omega
                | true =>
                  have e2 := HTCn.out
                  rw [hb, if_pos rfl] at e2
                  have HC7 : Hid (cntTo f ss (i + 1) = ci + 1) := by show _ = _; rw [hcn, e2]
                  have HPz := mkHid (HPt.out w6 tz HS6.out (by rw [htz]; exact (HTw.out sz hb).2))
                  rw [htz, ← HTS.out, ← htz] at HPz
                  have x6 := HCell2.out w6 HF6.out
                  clear hb e2 htz hcn HS6 HCN HTCn HPt HTS HTM
                  go_wp2_with fail
                  refine Calls.mono HPz.out ?_
                  rintro e w7 ⟨rfl, hs7, hf7⟩
                  have HS7 := mkHid hs7
                  have HF7 : Hid (Fr (fFoot R) w2 w7) := HF6.out.trans hf7 (fun b hb => .inl hb)
                  clear hs7 hf7 HPz
                  go_wp2_with fail
                  go_roundw
                  case rel => exact ⟨i + 1, by omega, fun h => absurd rfl h, by go_num, by rw [HC7.out]; push_cast; first | rfl | (congr 1; omega), HS7, HF7⟩
                  case measure => simp [intOf]; omega
              · have hie : i = ss.length := by omega
                subst hie
                have HSn : Hid (RFs B r R wr (keysJ f ks (A.take (j + 1)))) := by
                  show RFs B r R wr _
                  rw [HNx.out]
                  unfold turnKey
                  dsimp only
                  rw [if_pos rfl, ← HCz.out]
                  exact hst.out
                have HCo : Hid (c0 + (cntTo f ss ss.length : Nat) = (((A.take (j + 1)).map (cntQ f ks)).sum : Nat)) := by
                  show _ = _
                  rw [HSum.out, if_pos rfl, HC0.out]
                  push_cast
                  omega
                generalize cntTo f ss ss.length = ci at *
                clear hst
                go_wp2_with fail
                go_roundw
                case rel => exact ⟨j + 1, by omega, by go_num, by rw [HCo.out], HSn, hfr2⟩
                case measure => simp [intOf]; omega
            · have hie := hfm hf0
              subst hie
              have hfb : (fm == 0) = false := by simpa using hf0
              have HSn : Hid (RFs B r R wr (keysJ f ks (A.take (j + 1)))) := by
                show RFs B r R wr _
                rw [HNx.out]
                unfold turnKey
                dsimp only
                rw [if_neg hf0, ← HCz.out]
                have := hst.out
                simpa [turnTo] using this
              have HCo : Hid (c0 + (cntTo f ss 0 : Nat) = (((A.take (j + 1)).map (cntQ f ks)).sum : Nat)) := by
                show _ = _
                rw [HSum.out, if_neg hf0, HC0.out]
                simp [cntTo]
              generalize cntTo f ss 0 = ci at *
              clear hst hfm
              by_cases hi : 0 < ss.length
              · have y2 : (0 : Int) < (ss.length : Int) := by omega
                go_wp2_with fail
                go_roundw
                case rel => exact ⟨j + 1, by omega, by go_num, by rw [HCo.out], HSn, hfr2⟩
                case measure => simp [intOf]; omega
              · have y2 : ¬ (0 : Int) < (ss.length : Int) := by omega
                go_wp2_with fail
                go_roundw
                case rel => exact ⟨j + 1, by omega, by go_num, by rw [HCo.out], HSn, hfr2⟩
                case measure => simp [intOf]; omega
      · have hje : j = A.length := by omega
        subst hje
        have HZz : Hid (RFs B r R wr (ks.map (turnKey f))) := by
          have := hst.out
          rw [List.take_length, HAllK.out] at this
          exact this
        have HCo : Hid (((A.take A.length).map (cntQ f ks)).sum = (ks.map (cntKey f)).sum) := by
          show _ = _
          rw [List.take_length, HSm.out]
        have HFz : Hid (Fr (fFoot R) w wr) := (HF2.out.mono (by simp)).trans hfr.out (fun b hb => .inl hb)
        rw [HCo.out]
        clear hst
        go_wp2_with fail
        go_ret2
        exact ⟨rfl, HZz.out, HFz.out⟩
end
end Go.Proofs.YtdkbnnhcjaibdaaDoor
