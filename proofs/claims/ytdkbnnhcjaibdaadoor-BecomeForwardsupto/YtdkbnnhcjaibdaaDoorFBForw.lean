import Derived.Test.YtdkbnnhcjaibdaaDoorFG28BRfS
import Derived.Test.YtdkbnnhcjaibdaaDoorFG15CEn
namespace Go.Proofs.YtdkbnnhcjaibdaaDoor
open Go.RowKit Go.Maps
set_option linter.unusedVariables false
set_option linter.unusedSimpArgs false
attribute [local go_sem ↓] Go.wp_at_zero Go.wp_at_succ
/-- an object as it is behind a Forward, and how many of its words are turned -/
def turnKey (f : List (Int × Int)) (k : Key) : Key := (k.1, turnZ f k.2.1, k.2.2.1, if k.2.2.1 = 0 then turnTo f k.2.2.2 k.2.2.2.length else k.2.2.2)
def cntKey (f : List (Int × Int)) (k : Key) : Nat := turnC f k.2.1 + (if k.2.2.1 = 0 then cntTo f k.2.2.2 k.2.2.2.length else 0)
def cntQ (f : List (Int × Int)) (ks : List Key) (q : Nat) : Nat := ((ks.find? fun k => decide (k.1 = (q : Int))).map (cntKey f)).getD 0
/-- those whose oops stand in a list are turned -/
def keysJ (f : List (Int × Int)) (ks : List Key) (qs : List Nat) : List Key := ks.map fun k => if k.1.toNat ∈ qs then turnKey f k else k
theorem turnKey_fst (f : List (Int × Int)) (k : Key) : (turnKey f k).1 = k.1 := rfl
theorem row_cell {wr : World} {b : Nat} {v : Value} {ls : List Nat} (h : wr.ownsRow b 3 1 v ls.length (ls.map I)) (k : Nat) (hk : k < ls.length) : ∃ g c, v = .slice (some ⟨g, 0, none⟩) ls.length c ∧ wr.cell? ⟨g, k, none⟩ = some (.int .i64 (ls.getD k 0 : Nat)) := by
  rcases h.2 with ⟨h2, h3⟩ | ⟨g, cap, cur, h2, h3⟩
  · omega
  · refine ⟨g, cap, h2, ?_⟩
    rw [h2] at h
    rw [h.cellAt k (by omega), List.getElem?_map, List.getD_eq_getElem?_getD, List.getElem?_eq_getElem hk]
    rfl
section
variable {words oops mark : Nat} {ks : List Key} {H : HS} {M : MS} {a : Nat} {l : Lay}
theorem cntQ_of (h : KA words oops mark ks H M) (f : List (Int × Int)) {k : Key} (hk : k ∈ ks) (q : Nat) (hq : k.1 = (q : Int)) : cntQ f ks q = cntKey f k := by
  unfold cntQ
  cases hf : ks.find? (fun k => decide (k.1 = (q : Int))) with
  | none => exact absurd hq (by simpa using List.find?_eq_none.1 hf k hk)
  | some x =>
    have hx := List.mem_of_find?_eq_some hf
    have he : x.1 = (q : Int) := by simpa using List.find?_some hf
    rw [h.uniq hk hx (he.trans hq.symm)]
    rfl
theorem keysJ_snoc (h : KA words oops mark ks H M) (f : List (Int × Int)) (qs : List Nat) {k : Key} (hk : k ∈ ks) (q : Nat) (hq : k.1 = (q : Int)) (hn : q ∉ qs) : keysJ f ks (qs ++ [q]) = (keysJ f ks qs).map (updK (turnKey f k)) := by
  unfold keysJ
  rw [List.map_map]
  refine List.map_congr_left fun x hx => ?_
  show _ = updK (turnKey f k) (if x.1.toNat ∈ qs then turnKey f x else x)
  have hp := (h.at_ x hx).1
  by_cases e : x.1 = k.1
  · have := h.uniq hk hx e
    subst this
    have e1 : x.1.toNat = q := by omega
    rw [e1, if_pos (by simp), if_neg hn]
    unfold updK
    rw [if_pos (show x.1 = (turnKey f x).1 from rfl)]
  · have e1 : x.1.toNat ≠ q := by omega
    have e2 : (x.1.toNat ∈ qs ++ [q]) ↔ x.1.toNat ∈ qs := by simp [e1]
    by_cases hm : x.1.toNat ∈ qs
    · rw [if_pos (e2.2 hm), if_pos hm]
      unfold updK
      rw [if_neg (by rw [turnKey_fst, turnKey_fst]; exact e)]
    · rw [if_neg (fun h => hm (e2.1 h)), if_neg hm]
      unfold updK
      rw [if_neg (by rw [turnKey_fst]; exact e)]
theorem keysJ_mem (f : List (Int × Int)) (qs : List Nat) {k : Key} (hk : k ∈ ks) (hn : k.1.toNat ∉ qs) : k ∈ keysJ f ks qs := List.mem_map.2 ⟨k, hk, by rw [if_neg hn]⟩
theorem keysJ_nil (f : List (Int × Int)) (ks : List Key) : keysJ f ks [] = ks := by
  unfold keysJ
  conv => rhs; rw [← List.map_id ks]
  exact List.map_congr_left fun x hx => by rw [if_neg (by simp)]; rfl
theorem keysJ_all (h : KA words oops mark ks H M) (f : List (Int × Int)) : keysJ f ks (allTo H H.seats.length) = ks.map (turnKey f) := by
  unfold keysJ
  refine List.map_congr_left fun x hx => ?_
  obtain ⟨b0, b1, -⟩ := h.at_ x hx
  rw [if_pos ((mem_all h.inv _).2 ⟨by omega, b1⟩)]
theorem cnt_le (h : KA words oops mark ks H M) (f : List (Int × Int)) (q : Nat) : cntQ f ks q ≤ 8193 := by
  unfold cntQ
  cases hf : ks.find? (fun k => decide (k.1 = (q : Int))) with
  | none => simp
  | some x =>
    have hx := List.mem_of_find?_eq_some hf
    have h1 := h.slots x hx
    show cntKey f x ≤ 8193
    unfold cntKey
    have h2 := cntTo_le f x.2.2.2 x.2.2.2.length
    have h3 : turnC f x.2.1 ≤ 1 := by unfold turnC; split <;> omega
    split <;> omega
theorem sum_le_mul (g : Nat → Nat) (B : Nat) (hg : ∀ q, g q ≤ B) : ∀ l : List Nat, (l.map g).sum ≤ l.length * B
  | [] => by simp
  | x :: t => by
    rw [List.map_cons, List.sum_cons, List.length_cons, Nat.add_mul, Nat.one_mul]
    have := sum_le_mul g B hg t
    have := hg x
    omega
theorem good_pf (h : KA words oops mark ks H M) (hbk : ∀ k ∈ ks, k.1 ≤ 65536) {sa sb : List Int} (hb : ∀ q ∈ sb, has H q = true) : Good (pf (sa.zip sb)) := by
  have key : ∀ ps : List (Int × Int), (∀ p ∈ ps, p.2 ∈ sb) → ∀ p ∈ pf ps, p.2 ∈ sb := fun ps => by
    induction ps with
    | nil => intro _ p hp; simp [pf] at hp
    | cons x t ih =>
      intro hx p hp
      have hp' : p ∈ x :: (x.2, x.2) :: pf t := hp
      rcases List.mem_cons.1 hp' with rfl | hp'
      · exact hx _ (by simp)
      · rcases List.mem_cons.1 hp' with rfl | hp'
        · exact hx x (by simp)
        · exact ih (fun p hp => hx p (by simp [hp])) p hp'
  intro p hp
  have hm := key (sa.zip sb) (fun p hp => (List.of_mem_zip (a := p.1) (b := p.2) hp).2) p hp
  obtain ⟨k, hk, hk1⟩ := has_key h (hb _ hm)
  have h1 := hbk k hk
  have h2 := (h.at_ k hk).1
  omega
set_option maxRecDepth 20000 in
set_option maxHeartbeats 2000000 in
theorem Forward_ok (sa sb : List Int) (va vb : Value) (w : World) (hR : Rep w a l H) (h : KA words oops mark ks H M) (hbk : ∀ k ∈ ks, k.1 ≤ 65536) (ha : Rd w va sa) (hb : Rd w vb sb) (hT : Tab w) (h0 : 0 ∉ foot a l) (hW : 0 < w.heap.size) :
    Calls Tryd.prog 39 #[.pointer (some ⟨a, 0, none⟩), va, vb] w fun e w' =>
      (fitN (has H) sa sb ≠ 0 ∧ e = .returned (.tuple #[.int .i64 0, .int .i64 (fitN (has H) sa sb)]) ∧ Fr [] w w') ∨
      (fitN (has H) sa sb = 0 ∧ e = .returned (.tuple #[.int .i64 (((allTo H H.seats.length).map (cntQ (pf (sa.zip sb)) ks)).sum : Nat), .int .i64 0]) ∧ ∃ H' M', Rep w' a l H' ∧ KA words oops mark (ks.map (turnKey (pf (sa.zip sb)))) H' M' ∧ H'.age = H.age ∧ Nx a l l w w') := by
  have HP := mkHid (pairs_ok sa sb va vb w hR h ha hb)
  obtain ⟨pa, ca, rfl, -⟩ := ha.at_
  obtain ⟨pb, cb, rfl, -⟩ := hb.at_
  have HR := mkHid hR
  have HK := mkHid h
  have HBk := mkHid hbk
  have HTb : Hid (∀ V, Fr (foot a l) w V → Tab V) := fun V hV => hT.keep hV hW h0
  clear hR h ha hb hbk hT
  obtain ⟨F, hF⟩ : ∃ F, F = fitN (has H) sa sb := ⟨_, rfl⟩
  obtain ⟨f, hff⟩ : ∃ f, f = pf (sa.zip sb) := ⟨_, rfl⟩
  obtain ⟨A, hA⟩ : ∃ A, A = allTo H H.seats.length := ⟨_, rfl⟩
  rw [← hF, ← hff] at HP ⊢
  rw [← hA]
  have HF := mkHid hF
  have HFf := mkHid hff
  have HAe := mkHid hA
  clear hF hff hA
  go_enter Tryd.func39, Tryd.ntmps39
  go_wp2_with fail
  refine Calls.mono HP.out ?_
  rintro e w1 ⟨⟨hne, rfl⟩ | ⟨hz, b, rfl, hmap, hbs⟩, hf1⟩
  · have hb0 : (F == 0) = false := by simpa using hne
    have HNe := mkHid (And.intro hne hf1)
    clear hne hf1
    go_wp2_with fail
    go_ret2
    exact .inl ⟨HNe.out.1, rfl, HNe.out.2⟩
  · rw [hz] at HF
    obtain ⟨f1, f2, f3, f4⟩ := fit0 HF.out.symm
    have hGd := good_pf HK.out HBk.out (sa := sa) f3
    rw [← HFf.out] at hGd
    have HGd := mkHid hGd
    have hbf : b ∉ foot a l := fun hm => by have := HR.out.lt b hm; omega
    have HMp := mkHid hmap
    have HF1 := mkHid hf1
    have HZ := mkHid hz
    have hse := HK.out.inv.told.seats
    have HAl := mkHid (All_ok a l H w1 (HR.out.keep hf1 (by simp)) hse)
    rw [← HAe.out] at HAl
    have hsz1 := HF1.out.size
    have hal := allTo_len H H.seats.length
    rw [← HAe.out] at hal
    clear f1 f2 f3 f4 hmap hf1 hz hGd
    go_wp2_with fail
    refine Calls.mono HAl.out ?_
    rintro e w2 ⟨v2, rfl, hrow2, hf2⟩
    have HM2 : Hid (Mine w1 w2 v2 A) := ⟨hrow2, hf2⟩
    obtain ⟨p2, c2, rfl⟩ := HM2.out.is
    have HF2 : Hid (Fr [] w w2) := HF1.out.trans hf2 (by simp)
    have HF2' := mkHid hf2
    have HND := mkHid (allTo_nodup H H.seats.length)
    have HMem : Hid (∀ q ∈ allTo H H.seats.length, ∃ k ∈ ks, k.1 = (q : Int)) := fun q hq => has_key HK.out (all_has HK.out.inv hq)
    have HAllK := mkHid (keysJ_all HK.out f)
    rw [← HAe.out] at HND HMem HAllK
    clear hrow2 hf2 HAl
    go_wp2_with fail
    go_loopw [10, 26] (fun cv q wr => ∃ j : Nat, j ≤ A.length ∧ q = .int .i64 j ∧ cv = .int .i64 (((A.take j).map (cntQ f ks)).sum : Nat) ∧ Hid (∃ H' M', Rep wr a l H' ∧ KA words oops mark (keysJ f ks (A.take j)) H' M' ∧ H'.age = H.age) ∧ Hid (Fr (foot a l) w2 wr)) (fun _ q _ => A.length - (intOf q).toNat)
    case atStart => exact ⟨0, Nat.zero_le _, rfl, rfl, ⟨H, M, HR.out.keep HF2.out (by simp), by rw [List.take_zero, keysJ_nil]; exact HK.out, rfl⟩, Fr.refl _ _⟩
    case round =>
      obtain ⟨j, hjn, rfl, rfl, hst, hfr⟩ := hrel
      have i1 : (0 : Int) ≤ (j : Int) := by omega
      by_cases hlt : j < A.length
      · have i2 : (j : Int) < (A.length : Int) := by omega
        have hrow := own_congr HM2.out.own (w' := wr) fun g hg => hfr.out.block g (HM2.out.own.lt g hg).2 (fun hm => by have h1 := (HM2.out.own.lt g hg).1; have h2 := HR.out.lt g hm; omega)
        obtain ⟨g, cg, eg, x1⟩ := row_cell hrow j hlt
        injection eg with eg1 _ eg2
        subst eg1 eg2
        have hqm : A.getD j 0 ∈ A := by rw [List.getD_eq_getElem?_getD, List.getElem?_eq_getElem hlt]; exact List.getElem_mem hlt
        have htk := take_get A 0 j hlt
        have hnq : A.getD j 0 ∉ A.take j := fun hm => by
          have h1 := HND.out
          rw [← List.take_append_drop (j + 1) A, htk, List.append_assoc] at h1
          exact (List.nodup_append.1 h1).2.2 _ hm _ (by simp) rfl
        obtain ⟨k, hk, hkq⟩ := HMem.out _ hqm
        obtain ⟨H', M', hr', hk', hag'⟩ := hst.out
        have hkn : k.1.toNat = A.getD j 0 := by omega
        have hkm := keysJ_mem f (A.take j) hk (by rw [hkn]; exact hnq)
        have hmp : MapIs wr b f := (HMp.out.idle (HF2'.out) (by simp)).idle hfr.out hbf
        have hfw : Fr (foot a l) w wr := (HF2.out.mono (by simp)).trans hfr.out (fun b hb => .inl hb)
        have hszr : 0 < wr.heap.size := Nat.lt_of_lt_of_le hW hfw.size
        have HTc := mkHid (turnClass_ok f b wr hr' hk' hkm hmp HGd.out (HTb.out wr hfw) hbf hszr)
        have HTs : Hid (∀ (V : World) (H3 : HS) (M3 : MS), Rep V a l H3 → KA words oops mark ((keysJ f ks (A.take j)).map (updK (k.1, turnZ f k.2.1, k.2.2.1, k.2.2.2))) H3 M3 → H3.age = H.age → Fr (foot a l) wr V → Calls Tryd.prog 101 #[.pointer (some ⟨a, 0, none⟩), .int .i64 k.1, .map (some b)] V fun e w' => e = .returned (.int .i64 ((if k.2.2.1 = 0 then cntTo f k.2.2.2 k.2.2.2.length else 0) : Nat)) ∧ (∃ H' M', Rep w' a l H' ∧ KA words oops mark (keysJ f ks (A.take (j + 1))) H' M' ∧ H'.age = H.age) ∧ Fr (foot a l) V w') := fun V H3 M3 q1 q2 q3 q4 => by
          refine (turnSlots_ok f b V q1 q2 (k := (k.1, turnZ f k.2.1, k.2.2.1, k.2.2.2)) (upd_mem hkm rfl) (hmp.idle q4 hbf) HGd.out (HTb.out V (hfw.trans q4 (fun b hb => .inl hb))) hbf (Nat.lt_of_lt_of_le hszr q4.size) h0).mono ?_
          rintro e w' ⟨he, H4, M4, r1, r2, r3, r4⟩
          have r2' : KA words oops mark (((keysJ f ks (A.take j)).map (updK (k.1, turnZ f k.2.1, k.2.2.1, k.2.2.2))).map (updK (turnKey f k))) H4 M4 := r2
          rw [upd_upd (k := k) (k' := (k.1, turnZ f k.2.1, k.2.2.1, k.2.2.2)) (k'' := turnKey f k) rfl rfl] at r2'
          refine ⟨he, ⟨H4, M4, r1, ?_, r3.trans q3⟩, r4.1⟩
          rw [htk, keysJ_snoc HK.out f _ hk _ hkq hnq]
          exact r2'
        have hcq := cntQ_of HK.out f hk _ hkq
        have hsum : ((A.take (j + 1)).map (cntQ f ks)).sum = ((A.take j).map (cntQ f ks)).sum + (turnC f k.2.1 + (if k.2.2.1 = 0 then cntTo f k.2.2.2 k.2.2.2.length else 0)) := by
          rw [htk, List.map_append, List.sum_append]
          simp only [List.map_cons, List.map_nil, List.sum_cons, List.sum_nil, Nat.add_zero]
          rw [hcq]
          rfl
        have hb1 := sum_le_mul (cntQ f ks) 8193 (cnt_le HK.out f) (A.take j)
        have hb2 : (A.take j).length ≤ 65538 := by rw [List.length_take]; omega
        have hb3 := Nat.mul_le_mul_right 8193 hb2
        have hb4 : turnC f k.2.1 ≤ 1 := by unfold turnC; split <;> omega
        have hb5 : (if k.2.2.1 = 0 then cntTo f k.2.2.2 k.2.2.2.length else 0) ≤ 8192 := by
          have := cntTo_le f k.2.2.2 k.2.2.2.length
          have := HK.out.slots k hk
          split <;> omega
        rw [← hkq] at x1
        have HSum := mkHid hsum
        have hag2 := hag'
        generalize (if k.2.2.1 = 0 then cntTo f k.2.2.2 k.2.2.2.length else 0) = n2 at *
        generalize turnC f k.2.1 = n1 at *
        generalize ((A.take j).map (cntQ f ks)).sum = n0 at *
        have HAg := mkHid hag2
        clear hrow hqm htk hnq hk hkm hmp hfw hszr hcq hsum hr' hk' hkn hkq hst hag' hag2
        go_wp2_with fail
        refine Calls.mono HTc.out ?_
        rintro e w3 ⟨rfl, H3, M3, q1, q2, q3, q4⟩
        have HT2 := mkHid (HTs.out w3 H3 M3 q1 q2 (q3.trans HAg.out) q4.1)
        have HF3 : Hid (Fr (foot a l) w2 w3) := hfr.out.trans q4.1 (fun b hb => .inl hb)
        clear q1 q2 q3 q4 HTc HTs
        go_wp2_with fail
        refine Calls.mono HT2.out ?_
        rintro e w4 ⟨rfl, hst4, hf4⟩
        have HS4 := mkHid hst4
        have HF4 : Hid (Fr (foot a l) w2 w4) := HF3.out.trans hf4 (fun b hb => .inl hb)
        clear hst4 hf4 HT2
        go_wp2_with fail
        go_roundw
        case rel => exact ⟨j + 1, by omega, by go_num, by rw [HSum.out]; push_cast; rfl, HS4, HF4⟩
        case measure => simp [intOf]; omega
      · have hje : j = A.length := by omega
        subst hje
        rw [List.take_length] at hst ⊢
        have HZz : Hid (∃ H' M', Rep wr a l H' ∧ KA words oops mark (ks.map (turnKey f)) H' M' ∧ H'.age = H.age ∧ Nx a l l w wr) := by
          obtain ⟨H', M', q1, q2, q3⟩ := hst.out
          rw [HAllK.out] at q2
          exact ⟨H', M', q1, q2, q3, (HF2.out.mono (by simp)).trans hfr.out (fun b hb => .inl hb), fun b hb => .inl hb⟩
        clear hst
        go_wp2_with fail
        go_ret2
        exact .inr ⟨HZ.out, rfl, HZz.out⟩
end
end Go.Proofs.YtdkbnnhcjaibdaaDoor
