import Derived.Test.YtdkbnnhcjaibdaaDoorFBPairs
namespace Go.Proofs.YtdkbnnhcjaibdaaDoor
open Go.RowKit Go.Maps
set_option linter.unusedVariables false
set_option linter.unusedSimpArgs false
attribute [local go_sem ↓] Go.wp_at_zero Go.wp_at_succ
theorem fit0 {hs : Int → Bool} {sa sb : List Int} (h : fitN hs sa sb = 0) : sa.length = sb.length ∧ (∀ q ∈ sa, hs q = true) ∧ (∀ q ∈ sb, hs q = true) ∧ (nums (sa.zip sb)).Nodup := by
  unfold fitN at h
  by_cases h1 : sa.length = sb.length
  rotate_left
  · rw [if_pos h1] at h; omega
  rw [if_neg (by simpa using h1)] at h
  by_cases h2 : (sa.all hs && sb.all hs) = true
  rotate_left
  · rw [if_pos (by simpa using h2)] at h; omega
  rw [if_neg (by rw [h2]; simp)] at h
  by_cases h3 : (nums (sa.zip sb)).Nodup
  rotate_left
  · rw [if_neg h3] at h; omega
  rw [Bool.and_eq_true, List.all_eq_true, List.all_eq_true] at h2
  exact ⟨h1, h2.1, h2.2, h3⟩
theorem mem_nums {ps : List (Int × Int)} {p : Int × Int} (h : p ∈ ps) : p.1 ∈ nums ps ∧ p.2 ∈ nums ps := by
  induction ps with
  | nil => simp at h
  | cons x t ih =>
    unfold nums
    rcases List.mem_cons.1 h with rfl | h
    · simp
    · exact ⟨by simp [(ih h).1], by simp [(ih h).2]⟩
theorem nums_mem : ∀ {ps : List (Int × Int)} {q : Int}, q ∈ nums ps → ∃ p ∈ ps, q = p.1 ∨ q = p.2
  | [], q, h => by simp [nums] at h
  | x :: t, q, h => by
    unfold nums at h
    rcases List.mem_cons.1 h with h | h
    · exact ⟨x, by simp, .inl h⟩
    · rcases List.mem_cons.1 h with h | h
      · exact ⟨x, by simp, .inr h⟩
      · obtain ⟨p, p1, p2⟩ := nums_mem h
        exact ⟨p, by simp [p1], p2⟩
theorem look_cons (x : Int × Int) (f : List (Int × Int)) (q : Int) : look (x :: f) q = if x.1 = q then x.2 else look f q := by
  unfold look
  rw [List.find?_cons]
  by_cases h : x.1 = q
  · rw [if_pos h]; simp [h]
  · rw [if_neg h]; simp [h]
theorem look_pf : ∀ (ps : List (Int × Int)), (nums ps).Nodup → ∀ p ∈ ps, look (pf ps) p.1 = p.2 ∧ look (pf ps) p.2 = p.2
  | [], _, p, h => by simp at h
  | x :: t, hd, p, h => by
    have hd' : (x.1 :: x.2 :: nums t).Nodup := hd
    obtain ⟨h1, h2⟩ := List.nodup_cons.1 hd'
    obtain ⟨h3, h4⟩ := List.nodup_cons.1 h2
    rw [List.mem_cons, not_or] at h1
    show look (x :: (x.2, x.2) :: pf t) p.1 = p.2 ∧ look (x :: (x.2, x.2) :: pf t) p.2 = p.2
    rcases List.mem_cons.1 h with rfl | h
    · rw [look_cons, if_pos rfl, look_cons, if_neg h1.1, look_cons, if_pos rfl]
      exact ⟨rfl, rfl⟩
    · obtain ⟨m1, m2⟩ := mem_nums h
      obtain ⟨i1, i2⟩ := look_pf t h4 p h
      rw [look_cons, if_neg (fun e => h1.2 (by rw [e]; exact m1)), look_cons, if_neg (fun e => h3 (by rw [show x.2 = p.1 from e]; exact m1)), i1, look_cons, if_neg (fun e => h1.2 (by rw [e]; exact m2)), look_cons, if_neg (fun e => h3 (by rw [show x.2 = p.2 from e]; exact m2)), i2]
      exact ⟨rfl, rfl⟩
theorem swap_snoc (ps : List (Int × Int)) (p : Int × Int) (ks : List Key) (hd : (nums (ps ++ [p])).Nodup) : swapK (ps ++ [p]) ks = (swapK ps ks).map (swk p.1 p.2) := by
  have hd2 : (nums ps).Nodup := by
    rw [nums_append] at hd
    exact (List.nodup_append.1 hd).1
  rw [← swap_fold _ _ hd, ← swap_fold _ _ hd2, List.foldl_append]
  rfl
theorem nodup_leI : ∀ (l m : List Int), l.Nodup → (∀ x ∈ l, x ∈ m) → l.length ≤ m.length
  | [], m, _, _ => by simp
  | x :: l, m, hd, h => by
    have hx := h x (by simp)
    have h1 := nodup_leI l (m.erase x) (List.nodup_cons.1 hd).2 (fun y hy => (List.mem_erase_of_ne (fun e => (List.nodup_cons.1 hd).1 (by rw [← e]; exact hy))).2 (h y (by simp [hy])))
    rw [List.length_erase_of_mem hx] at h1
    have := List.length_pos_of_mem hx
    simp only [List.length_cons]
    omega
theorem swapK_nil (ks : List Key) : swapK [] ks = ks := by
  unfold swapK
  conv => rhs; rw [← List.map_id ks]
  rfl
section
variable {words oops mark : Nat} {ks : List Key} {H : HS} {M : MS} {a : Nat} {l : Lay}
/-- who is there stays so -/
theorem swap_has {H' : HS} {M' : MS} (h : KA words oops mark ks H M) (ps : List (Int × Int)) (h' : KA words oops mark (swapK ps ks) H' M') (q : Int) (hq : has H q = true) (hn : q ∉ nums ps) : has H' q = true := by
  rw [h.has] at hq
  rw [h'.has]
  obtain ⟨k, k1, k2⟩ := List.any_eq_true.1 hq
  have e : k.1 = q := by simpa using k2
  refine List.any_eq_true.2 ⟨(partnerZ ps k.1, k.2), List.mem_map.2 ⟨k, k1, rfl⟩, ?_⟩
  show (partnerZ ps k.1 == q) = true
  rw [e, partner_out ps q hn]; simp
theorem ka_room (h : KA words oops mark ks H M) {ls : List Int} (hd : ls.Nodup) (hh : ∀ q ∈ ls, has H q = true) : ls.length ≤ 65538 := by
  have h1 := h.klen
  have h2 : ls.length ≤ (ks.map fun k => k.1).length := nodup_leI ls _ hd fun q hq => by
    obtain ⟨k, k1, k2⟩ := has_key h (hh q hq)
    exact List.mem_map.2 ⟨k, k1, k2⟩
  rw [List.length_map] at h2
  omega
set_option maxRecDepth 20000 in
set_option maxHeartbeats 2000000 in
theorem Swap_all (sa sb : List Int) (va vb : Value) (w : World) (hR : Rep w a l H) (h : KA words oops mark ks H M) (ha : Rd w va sa) (hb : Rd w vb sb) (hfa : 0 < sa.length → ∀ g, va.ownBlock = some g → g ∉ foot a l) (hage : H.age ≤ 100000) :
    Calls Tryd.prog 32 #[.pointer (some ⟨a, 0, none⟩), va, vb] w fun e w' =>
      (fitN (has H) sa sb ≠ 0 ∧ e = .returned (.int .i64 (fitN (has H) sa sb)) ∧ Fr [] w w') ∨
      (fitN (has H) sa sb = 0 ∧ e = .returned (.int .i64 0) ∧ ∃ H' M', Rep w' a l H' ∧ KA words oops mark (swapK (sa.zip sb) ks) H' M' ∧ H'.age = H.age + sa.length ∧ sa.length ≤ 65538 ∧ (sa.length = 0 → H' = H) ∧ Nx a l l w w') := by
  have HP := mkHid (pairs_ok sa sb va vb w hR h ha hb)
  obtain ⟨pa, ca, rfl, hpa⟩ := ha.at_
  obtain ⟨pb, cb, rfl, -⟩ := hb.at_
  have s1 := ha.short
  have HR := mkHid hR
  have HK := mkHid h
  have HPa := mkHid hpa
  have HArg := mkHid hfa
  clear hR h ha hb hpa hfa
  obtain ⟨F, hF⟩ : ∃ F, F = fitN (has H) sa sb := ⟨_, rfl⟩
  rw [← hF] at HP ⊢
  have HF := mkHid hF
  clear hF
  go_enter Tryd.func32, Tryd.ntmps32
  go_wp2_with fail
  refine Calls.mono HP.out ?_
  rintro e w1 ⟨⟨hne, rfl⟩ | ⟨h0, b, rfl, hmap, hbs⟩, hf1⟩
  · have hb0 : (F == 0) = false := by simpa using hne
    have HNe := mkHid (And.intro hne hf1)
    clear hne hf1
    go_wp2_with fail
    go_ret
    exact .inl ⟨HNe.out.1, rfl, HNe.out.2⟩
  · rw [h0] at HF
    obtain ⟨f1, f2, f3, f4⟩ := fit0 HF.out.symm
    have hlen : sa.length ≤ 65538 := by
      have h1 := ka_room HK.out f4 (fun q hq => by
        obtain ⟨p, p1, p2⟩ := nums_mem hq
        obtain ⟨m1, m2⟩ := List.of_mem_zip (a := p.1) (b := p.2) p1
        rcases p2 with e | e
        · rw [e]; exact f2 _ m1
        · rw [e]; exact f3 _ m2)
      have h2 : (nums (sa.zip sb)).length = 2 * (sa.zip sb).length := by
        have key : ∀ ps : List (Int × Int), (nums ps).length = 2 * ps.length := fun ps => by
          induction ps with
          | nil => rfl
          | cons x t ih => show (nums t).length + 1 + 1 = _; rw [ih]; simp; omega
        exact key _
      rw [List.length_zip] at h2
      omega
    have HFt := mkHid (And.intro f1 (And.intro f2 (And.intro f3 f4)))
    have HMap := mkHid hmap
    have HF1 := mkHid hf1
    have H0 := mkHid h0
    have hbf : ∀ g ∈ foot a l, g ≠ b := fun g hg e => by have := HR.out.lt g hg; omega
    have HBf := mkHid hbf
    clear f1 f2 f3 f4 hmap hf1 hbf h0
    go_wp2_with fail
    go_loopw [23] (fun q wr => ∃ k : Nat, k ≤ sa.length ∧ q = .int .i64 k ∧ Hid (∃ H' M', Rep wr a l H' ∧ KA words oops mark (swapK ((sa.zip sb).take k) ks) H' M' ∧ H'.age = H.age + k ∧ (k = 0 → H' = H)) ∧ Hid (Fr (foot a l) w1 wr)) (fun q _ => sa.length - (intOf q).toNat)
    case atStart => exact ⟨0, Nat.zero_le _, rfl, ⟨H, M, HR.out.keep HF1.out (by simp), by rw [List.take_zero, swapK_nil]; exact HK.out, rfl, fun _ => rfl⟩, Fr.refl _ _⟩
    case round =>
      obtain ⟨k, hkn, rfl, hst, hfr⟩ := hrel
      have k1 : (0 : Int) ≤ (k : Int) := by omega
      by_cases hlt : k < sa.length
      · have k2 : (k : Int) < (sa.length : Int) := by omega
        obtain ⟨f1, f2, f3, f4⟩ := HFt.out
        obtain ⟨g, off, rfl, hg, hc⟩ := HPa.out (by omega)
        have hsz := HF1.out.size
        have x1 : wr.cell? ⟨g, off + k, none⟩ = some (.int .i64 (sa.getD k 0)) := by
          rw [hfr.out.cell (p := ⟨g, off + k, none⟩) (by show g < w1.heap.size; omega) (HArg.out (by omega) g rfl), HF1.out.cell (p := ⟨g, off + k, none⟩) hg (by simp), hc k hlt]
        have htk := zip_get sa sb f1 k hlt
        have hpm : (sa.getD k 0, sb.getD k 0) ∈ sa.zip sb := by
          have : (sa.getD k 0, sb.getD k 0) ∈ (sa.zip sb).take (k + 1) := by rw [htk]; simp
          exact List.mem_of_mem_take this
        obtain ⟨lk1, -⟩ := look_pf _ f4 _ hpm
        have hnd := nodup_take (k + 1) f4
        rw [htk] at hnd
        have hxy : sa.getD k 0 ∉ nums ((sa.zip sb).take k) ∧ sb.getD k 0 ∉ nums ((sa.zip sb).take k) ∧ sa.getD k 0 ≠ sb.getD k 0 := by
          have h2 := hnd
          rw [nums_append] at h2
          obtain ⟨n1, n2, n3⟩ := List.nodup_append.1 h2
          refine ⟨fun hm => n3 _ hm _ (by simp) rfl, fun hm => n3 _ hm _ (by simp) rfl, fun e => ?_⟩
          exact (List.nodup_cons.1 n2).1 (List.mem_singleton.2 e)
        have hha := f2 _ (List.of_mem_zip hpm).1
        have hhb := f3 _ (List.of_mem_zip hpm).2
        obtain ⟨H', M', hr', hk', hag', -⟩ := hst.out
        have hea := swap_has HK.out _ hk' _ hha hxy.1
        have heb := swap_has HK.out _ hk' _ hhb hxy.2.1
        have HEx := mkHid (exchange_at hr' hk' hea heb hxy.2.2 (by omega))
        have HNx : Hid (swapK ((sa.zip sb).take (k + 1)) ks = (swapK ((sa.zip sb).take k) ks).map (swk (sa.getD k 0) (sb.getD k 0))) := by
          show swapK ((sa.zip sb).take (k + 1)) ks = _
          rw [htk, swap_snoc _ _ _ hnd]
        have hbd : ∀ q, has H q = true → -1000000000 ≤ q ∧ q ≤ 1000000000 := fun q hq => by
          have h1 := of_decide_eq_true hq
          have h2 := HK.out.inv.told.seats
          omega
        obtain ⟨a1, a2⟩ := hbd _ hha
        obtain ⟨nm, D, hown, hn, hh, hat0, hm⟩ := (HMap.out.idle hfr.out (fun hm => HBf.out b hm rfl)).at_
        have hkey : keyOf Tryd.prog 3 (.int .i64 (sa.getD k 0)) = some (.int .i64 (sa.getD k 0)) := keyOf_int_mk Tryd.underlying3 (wf_small a1 a2)
        have hlq := hat0 (sa.getD k 0)
        rw [lk1] at hlq
        have HAg : Hid (H'.age = H.age + k) := hag'
        generalize sa.getD k 0 = x at *
        generalize sb.getD k 0 = y at *
        clear hc f1 f2 f3 f4 htk hpm lk1 hnd hxy hha hhb hr' hk' hea heb hh hat0 hst hag' hbd
        go_wp2_with (at_lookup; refine wpList_lookup_own_int _ rfl _ _ 155 rfl 3 3 .i64 mlaw Tryd.underlying155 Tryd.underlying3 (mzero _) b nm _ rfl hown _ _ rfl hkey ?_; intro c hat hwc; have hc : c = y := (by rw [hlq] at hat; injection hat with hat; injection hat with _ hat; exact hat.symm); subst hc; clear hat)
        refine Calls.mono HEx.out ?_
        rintro e w3 ⟨rfl, H3, M3, hr3, hk3, hag3, hn3⟩
        rw [← HNx.out] at hk3
        have HS3 : Hid (∃ H' M', Rep w3 a l H' ∧ KA words oops mark (swapK ((sa.zip sb).take (k + 1)) ks) H' M' ∧ H'.age = H.age + (k + 1) ∧ (k + 1 = 0 → H' = H)) := ⟨H3, M3, hr3, hk3, by rw [hag3, HAg.out]; omega, fun e => by omega⟩
        have HF3 : Hid (Fr (foot a l) w1 w3) := hfr.out.trans hn3.1 (fun b hb => .inl hb)
        clear hr3 hk3 hag3 hn3 hown hkey hlq
        go_wp2_with fail
        go_roundw
        case rel => exact ⟨k + 1, by omega, by go_num, HS3, HF3⟩
        case measure => simp [intOf]; omega
      · have hke : k = sa.length := by omega
        subst hke
        obtain ⟨f1, f2, f3, f4⟩ := HFt.out
        have hz : (sa.zip sb).take sa.length = sa.zip sb := List.take_of_length_le (by rw [List.length_zip]; omega)
        rw [hz] at hst
        have HN : Hid (Nx a l l w wr) := ⟨(HF1.out.mono (by simp)).trans hfr.out (fun b hb => .inl hb), fun b hb => .inl hb⟩
        clear hz f1 f2 f3 f4
        go_wp2_with fail
        go_ret
        obtain ⟨H', M', hr', hk', hag', hsm'⟩ := hst.out
        exact .inr ⟨H0.out, rfl, H', M', hr', hk', hag', hlen, hsm', HN.out⟩
theorem Swap_ok (sa sb : List Int) (va vb : Value) (w : World) (hR : Rep w a l H) (h : KA words oops mark ks H M) (ha : Rd w va sa) (hb : Rd w vb sb) (hfa : 0 < sa.length → ∀ g, va.ownBlock = some g → g ∉ foot a l) (hage : H.age ≤ 100000) :
    Calls Tryd.prog 32 #[.pointer (some ⟨a, 0, none⟩), va, vb] w fun e w' =>
      (fitN (has H) sa sb ≠ 0 ∧ e = .returned (.int .i64 (fitN (has H) sa sb)) ∧ Fr [] w w') ∨
      (fitN (has H) sa sb = 0 ∧ e = .returned (.int .i64 0) ∧ ∃ H' M', Rep w' a l H' ∧ KA words oops mark (swapK (sa.zip sb) ks) H' M' ∧ H'.age ≤ H.age + 65538 ∧ Nx a l l w w') := by
  refine (Swap_all sa sb va vb w hR h ha hb hfa hage).mono ?_
  rintro e w' (h1 | ⟨h1, h2, H', M', h3, h4, h5, h6, -, h7⟩)
  · exact .inl h1
  · exact .inr ⟨h1, h2, H', M', h3, h4, by omega, h7⟩
end
end Go.Proofs.YtdkbnnhcjaibdaaDoor
