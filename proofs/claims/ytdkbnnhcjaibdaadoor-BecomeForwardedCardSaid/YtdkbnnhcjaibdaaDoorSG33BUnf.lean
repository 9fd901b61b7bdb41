import Derived.Test.YtdkbnnhcjaibdaaDoorSG30BCopy
import Derived.Test.YtdkbnnhcjaibdaaDoorSG15BPure
import Derived.BigQuiet
namespace Go.Proofs.YtdkbnnhcjaibdaaDoor
open Go.RowKit Go.Maps
set_option linter.unusedVariables false
set_option linter.unusedSimpArgs false
attribute [local go_sem ↓] Go.wp_at_zero Go.wp_at_succ
/-- a word as it must be behind a Forward -/
def trnZ : List (Int × Int) → Int → Int
  | [], z => z
  | p :: t, z => if z = 4 * p.1 then 4 * p.2 else trnZ t z
theorem apart : ∀ {ps : List (Int × Int)}, (nums ps).Nodup → ∀ p ∈ ps, ∀ r ∈ ps, p.2 ≠ r.1
  | [], _, p, h, _, _ => by simp at h
  | x :: t, hd, p, hp, r, hr => by
    have hd' : (x.1 :: x.2 :: nums t).Nodup := hd
    obtain ⟨h1, h2⟩ := List.nodup_cons.1 hd'
    obtain ⟨h3, h4⟩ := List.nodup_cons.1 h2
    rw [List.mem_cons, not_or] at h1
    rcases List.mem_cons.1 hp with e1 | hp1
    · rcases List.mem_cons.1 hr with e2 | hr1
      · exact fun e => h1.1 (by rw [e1, e2] at e; exact e.symm)
      · exact fun e => h3 (by rw [← e1, e]; exact (mem_nums hr1).1)
    · rcases List.mem_cons.1 hr with e2 | hr1
      · exact fun e => h1.2 (by rw [← e2, ← e]; exact (mem_nums hp1).2)
      · exact apart h4 p hp1 r hr1
theorem trn_in : ∀ {ps : List (Int × Int)}, (nums ps).Nodup → ∀ p ∈ ps, trnZ ps (4 * p.1) = 4 * p.2
  | [], _, p, h => by simp at h
  | x :: t, hd, p, hp => by
    have hd' : (x.1 :: x.2 :: nums t).Nodup := hd
    obtain ⟨h1, h2⟩ := List.nodup_cons.1 hd'
    obtain ⟨h3, h4⟩ := List.nodup_cons.1 h2
    rw [List.mem_cons, not_or] at h1
    unfold trnZ
    rcases List.mem_cons.1 hp with rfl | hp
    · rw [if_pos rfl]
    · rw [if_neg (fun e => h1.2 (by have : x.1 = p.1 := by omega
                                    rw [this]; exact (mem_nums hp).1)), trn_in h4 p hp]
theorem trn_out : ∀ {ps : List (Int × Int)} {z : Int}, (∀ p ∈ ps, z ≠ 4 * p.1) → trnZ ps z = z
  | [], z, _ => rfl
  | x :: t, z, h => by
    unfold trnZ
    rw [if_neg (h x (by simp)), trn_out fun p hp => h p (by simp [hp])]
theorem trn_not {ps : List (Int × Int)} (hd : (nums ps).Nodup) (z : Int) : ∀ p ∈ ps, trnZ ps z ≠ 4 * p.1 := fun p hp e => by
  by_cases h : ∃ r ∈ ps, z = 4 * r.1
  · obtain ⟨r, hr, rfl⟩ := h
    rw [trn_in hd r hr] at e
    exact apart hd r hr p hp (by omega)
  · rw [trn_out fun r hr e2 => h ⟨r, hr, e2⟩] at e
    exact h ⟨p, hp, e⟩
theorem trn_turn {ps : List (Int × Int)} (hd : (nums ps).Nodup) (hb : ∀ p ∈ ps, 1 ≤ p.1 ∧ p.1 ≤ 65536) (z : Int) : turnZ (pf ps) z = trnZ ps z ∧ turnC (pf ps) z = if trnZ ps z = z then 0 else 1 := by
  by_cases h : ∃ r ∈ ps, z = 4 * r.1
  · obtain ⟨r, hr, rfl⟩ := h
    have hb' := hb r hr
    have e1 : (4 * r.1) / 4 = r.1 := by omega
    have hk : kindOf (4 * r.1) = 3 := by unfold kindOf; rw [if_neg (by omega), if_neg (by omega), if_pos (by omega)]
    have hne := apart hd r hr r hr
    have hw : turnW (pf ps) (4 * r.1) = some (4 * r.2) := by
      unfold turnW
      rw [e1, (look_pf ps hd r hr).1, if_pos ⟨hk, by rw [inK_pf]; exact decide_eq_true (mem_nums hr).1, hne⟩]
    unfold turnZ turnC
    rw [hw, trn_in hd r hr]
    exact ⟨rfl, by rw [if_neg (show ¬ 4 * r.2 = 4 * r.1 by omega)]; rfl⟩
  · have hw : turnW (pf ps) z = none := by
      unfold turnW
      rw [if_neg]
      rintro ⟨h1, h2, h3⟩
      rw [inK_pf, decide_eq_true_eq] at h2
      have hz : z % 4 = 0 := by unfold kindOf at h1; split at h1 <;> split at h1 <;> first | omega | (split at h1 <;> omega)
      obtain ⟨r, hr, e | e⟩ := nums_mem h2
      · exact h ⟨r, hr, by omega⟩
      · rw [e] at h3
        exact h3 (look_pf ps hd r hr).2
    have e := trn_out (ps := ps) (z := z) fun r hr e2 => h ⟨r, hr, e2⟩
    unfold turnZ turnC
    rw [hw, e]
    exact ⟨rfl, by rw [if_pos rfl]; rfl⟩
set_option maxRecDepth 20000 in
set_option maxHeartbeats 1000000 in
theorem turned_ok' (q : Int) (sa sb : List Int) (va vb : Value) (w : World) (hl : sa.length = sb.length) (ba : ∀ x ∈ sa, 0 ≤ x ∧ x ≤ 65536) (bb : ∀ x ∈ sb, 0 ≤ x ∧ x ≤ 65536) (ha : Rd w va sa) (hb : Rd w vb sb) :
    Calls Tryd.prog 48 #[.int .i64 q, va, vb] w fun e w' => e = .returned (.int .i64 (trnZ (sa.zip sb) q)) ∧ w' = w := by
  obtain ⟨pa, ca, rfl, hpa⟩ := ha.at_
  obtain ⟨pb, cb, rfl, hpb⟩ := hb.at_
  have s1 := ha.short
  have HPa := mkHid hpa
  have HPb := mkHid hpb
  have HBa := mkHid ba
  have HBb := mkHid bb
  have HL := mkHid hl
  rw [← hl]
  clear ha hb hpa hpb hl ba bb
  go_enter Tryd.func48, Tryd.ntmps48
  go_wp2_with fail
  go_loopw [7] (fun i wr => ∃ k : Nat, k ≤ sa.length ∧ i = .int .i64 k ∧ Hid (wr = w) ∧ Hid (trnZ (sa.zip sb) q = trnZ ((sa.zip sb).drop k) q)) (fun i _ => sa.length - (intOf i).toNat)
  case atStart => exact ⟨0, Nat.zero_le _, rfl, mkHid rfl, mkHid rfl⟩
  case round =>
    obtain ⟨k, hkn, rfl, hw0, hp⟩ := hrel
    rw [hw0.out]
    clear hw0
    have k1 : (0 : Int) ≤ (k : Int) := by omega
    by_cases hlt : k < sa.length
    · have k2 : (k : Int) < (sa.length : Int) := by omega
      have hltb : k < sb.length := by have := HL.out; omega
      obtain ⟨ga, oa, rfl, hga, hca⟩ := HPa.out (by omega)
      obtain ⟨gb, ob, rfl, hgb, hcb⟩ := HPb.out (by omega)
      have x1 := hca k hlt
      have x2 := hcb k hltb
      have hz : k < (sa.zip sb).length := by rw [List.length_zip]; omega
      have hd : (sa.zip sb).drop k = (sa.getD k 0, sb.getD k 0) :: (sa.zip sb).drop (k + 1) := by
        rw [List.drop_eq_getElem_cons hz, List.getElem_zip, List.getD_eq_getElem?_getD, List.getElem?_eq_getElem hlt, List.getD_eq_getElem?_getD, List.getElem?_eq_getElem hltb]
        rfl
      have hp2 := hp.out
      rw [hd] at hp2
      have hp3 : trnZ (sa.zip sb) q = if q = 4 * sa.getD k 0 then 4 * sb.getD k 0 else trnZ ((sa.zip sb).drop (k + 1)) q := hp2
      have HP3 := mkHid hp3
      have hbx := HBa.out (sa.getD k 0) (by rw [List.getD_eq_getElem?_getD, List.getElem?_eq_getElem hlt]; exact List.getElem_mem hlt)
      have hby := HBb.out (sb.getD k 0) (by rw [List.getD_eq_getElem?_getD, List.getElem?_eq_getElem hltb]; exact List.getElem_mem hltb)
      generalize sa.getD k 0 = x at *
      generalize sb.getD k 0 = y at *
      have wx : IntKind.i64.wrap (4 * x) = 4 * x := by rw [iwrap]; unfold wrap64; omega
      have wy : IntKind.i64.wrap (4 * y) = 4 * y := by rw [iwrap]; unfold wrap64; omega
      clear hca hcb hd hp2 hp3 hp
      by_cases hx : q = 4 * x
      · have hbq : (q == 4 * x) = true := by simpa using hx
        have HR2 : Hid (trnZ (sa.zip sb) q = 4 * y) := by show trnZ (sa.zip sb) q = _; rw [HP3.out, if_pos hx]
        clear hx HP3
        go_wp2_with fail
        go_ret
        exact ⟨by rw [HR2.out]; rfl, rfl⟩
      · have hbq : (q == 4 * x) = false := by simpa using hx
        have HR2 : Hid (trnZ (sa.zip sb) q = trnZ ((sa.zip sb).drop (k + 1)) q) := by show trnZ (sa.zip sb) q = _; rw [HP3.out, if_neg hx]
        clear hx HP3
        go_wp2_with fail
        go_roundw
        case rel => exact ⟨k + 1, by omega, by go_num, by first | exact mkHid rfl | exact mkHid trivial, HR2⟩
        case measure => simp [intOf]; omega
    · have hke : k = sa.length := by omega
      subst hke
      have HR2 : Hid (trnZ (sa.zip sb) q = q) := by
        show trnZ (sa.zip sb) q = q
        rw [hp.out, List.drop_eq_nil_of_le (by rw [List.length_zip]; omega)]
        rfl
      go_wp2_with fail
      go_ret
      exact ⟨by rw [HR2.out]; rfl, rfl⟩
section
variable {words oops mark : Nat} {ks : List Key} {H : HS} {M : MS}
/-- from roots that are turned none of the first list is found -/
theorem turn_unfound {ps : List (Int × Int)} (hd : (nums ps).Nodup) (hb : ∀ p ∈ ps, 1 ≤ p.1 ∧ p.1 ≤ 65536) (h : KA words oops mark (ks.map (turnKey (pf ps))) H M) (roots : List Int) {rs : List Nat} (hs : Sr H M (roots.map (trnZ ps)) (rs, [])) : ∀ q ∈ rs, ∀ p ∈ ps, (q : Int) ≠ p.1 := by
  have key : ∀ z, namesB H (trnZ ps z) = true → ((∀ p ∈ ps, (((trnZ ps z) / 4).toNat : Int) ≠ p.1) ∧ 1 ≤ ((trnZ ps z) / 4).toNat ∧ (M.things.getD (((trnZ ps z) / 4).toNat - 1) noTh).there = true) := fun z hn => by
    have hk : kindOf (trnZ ps z) = 3 := by unfold namesB at hn; simp only [Bool.and_eq_true, decide_eq_true_eq] at hn; exact hn.1
    have hz : (trnZ ps z) % 4 = 0 ∧ 4 ≤ trnZ ps z := by
      have := (kind3 _).1 hk
      omega
    obtain ⟨h1, h2⟩ := names_has hn
    obtain ⟨k, k1, k2⟩ := has_key h h1
    obtain ⟨b0, b1, -⟩ := h.at_ k k1
    refine ⟨fun p hp e => trn_not hd z p hp (by omega), by omega, ?_⟩
    have e : ((trnZ ps z) / 4).toNat = k.1.toNat := by omega
    rw [e]
    exact b1
  have hcl : Cl H M (roots.map (trnZ ps)) (fun q => (∀ p ∈ ps, (q : Int) ≠ p.1) ∧ 1 ≤ q ∧ (M.things.getD (q - 1) noTh).there = true) := by
    refine ⟨fun z hz hn => ?_, fun q hq z hz hn => ?_⟩
    · obtain ⟨r, -, rfl⟩ := List.mem_map.1 hz
      exact key r hn
    · obtain ⟨-, q1, q2⟩ := hq
      obtain ⟨k, k1, k2⟩ := h.only _ q2
      obtain ⟨b0, b1, b2, b3, b4⟩ := h.at_ k k1
      have e : k.1.toNat - 1 = q - 1 := by omega
      rw [e] at b2 b3 b4
      obtain ⟨k0, k3, rfl⟩ := List.mem_map.1 k1
      unfold lk leadsOf at hz
      rw [b2, b4] at hz
      have hzz : ∃ z0, z = trnZ ps z0 := by
        rcases List.mem_cons.1 hz with e1 | e1
        · exact ⟨k0.2.1, by rw [e1]; exact (trn_turn hd hb _).1⟩
        · by_cases hf : (M.things.getD (q - 1) noTh).fmt = 0
          · rw [if_pos hf] at e1
            have hf2 : k0.2.2.1 = 0 := by have : (turnKey (pf ps) k0).2.2.1 = k0.2.2.1 := rfl; omega
            have e2 : (turnKey (pf ps) k0).2.2.2 = turnTo (pf ps) k0.2.2.2 k0.2.2.2.length := by show (if k0.2.2.1 = 0 then _ else _) = _; rw [if_pos hf2]
            rw [e2] at e1
            unfold turnTo at e1
            rw [List.take_length, List.drop_length, List.append_nil] at e1
            obtain ⟨z0, -, rfl⟩ := List.mem_map.1 e1
            exact ⟨z0, (trn_turn hd hb _).1⟩
          · rw [if_neg hf] at e1; simp at e1
      obtain ⟨z0, rfl⟩ := hzz
      exact key z0 hn
  exact fun q hq => (hs.least _ hcl q hq).1
end
end Go.Proofs.YtdkbnnhcjaibdaaDoor
namespace Go.Proofs.YtdkbnnhcjaibdaaDoor
open Go.RowKit Go.Maps
set_option linter.unusedVariables false
set_option linter.unusedSimpArgs false
attribute [local go_sem ↓] Go.wp_at_zero Go.wp_at_succ
theorem own_intsB {w : World} {base : Nat} {v : Value} {st : List Nat} (h : w.ownsRow base 3 1 v st.length (st.map I)) : w.ownsRow base 3 1 v (zs st).length ((zs st).map (Value.int .i64)) := by
  unfold zs
  rw [List.length_map, List.map_map]
  exact h
theorem fst_zip {sa sb : List Int} (hl : sa.length = sb.length) {x : Int} (hx : x ∈ sa) : ∃ p ∈ sa.zip sb, p.1 = x := by
  have h : (sa.zip sb).map Prod.fst = sa := List.map_fst_zip (by omega)
  rw [← h] at hx
  obtain ⟨p, h1, h2⟩ := List.mem_map.1 hx
  exact ⟨p, h1, h2⟩
/-- the roots, turned so far -/
def rootsTo (ps : List (Int × Int)) (roots : List Int) (k : Nat) : List Int := (roots.take k).map (trnZ ps)
theorem rootsTo_len (ps : List (Int × Int)) (roots : List Int) (k : Nat) (hk : k ≤ roots.length) : (rootsTo ps roots k).length = k := by unfold rootsTo; simp; omega
theorem rootsTo_succ (ps : List (Int × Int)) (roots : List Int) (k : Nat) (hk : k < roots.length) : rootsTo ps roots (k + 1) = rootsTo ps roots k ++ [trnZ ps (roots.getD k 0)] := by
  unfold rootsTo
  rw [List.take_succ_eq_append_getElem hk, List.map_append, List.getD_eq_getElem?_getD, List.getElem?_eq_getElem hk]
  rfl
set_option maxRecDepth 20000 in
set_option maxHeartbeats 2000000 in
theorem unfound_ok {words oops mark : Nat} {ks : List Key} {H : HS} {M : MS} {a : Nat} {l : Lay} (sa sb roots : List Int) (va vb rv : Value) (w : World) (hR : Rep w a l H) (h : KA words oops mark (ks.map (turnKey (pf (sa.zip sb)))) H M) (hd : (nums (sa.zip sb)).Nodup)
    (hl : sa.length = sb.length) (ba : ∀ x ∈ sa, 1 ≤ x ∧ x ≤ 65536) (bb : ∀ x ∈ sb, 1 ≤ x ∧ x ≤ 65536) (hra : Rd w va sa) (hrb : Rd w vb sb) (hrr : Rd w rv roots) (hT : Tab w) (hT0 : 0 < w.heap.size) :
    Calls Tryd.prog 49 #[.pointer (some ⟨a, 0, none⟩), va, vb, rv] w fun e w' => e = .returned (.bool true) ∧ Fr [] w w' := by
  obtain ⟨j0, ji, jz0, jz1, jz2⟩ := info_parts info33
  have HB1 : Hid (∀ p ∈ sa.zip sb, 1 ≤ p.1 ∧ p.1 ≤ 65536) := fun p hp => ba _ (List.of_mem_zip hp).1
  have HTu : Hid (∀ V z, Fr [] w V → Calls Tryd.prog 48 #[.int .i64 z, va, vb] V fun e w' => e = .returned (.int .i64 (trnZ (sa.zip sb) z)) ∧ w' = V) := fun V z hV =>
    turned_ok' z sa sb va vb V hl (fun x hx => by have := ba x hx; omega) (fun x hx => by have := bb x hx; omega) (hra.idle hV) (hrb.idle hV)
  have HRa : Hid (∀ V, Fr [] w V → Rd V va sa) := fun V hV => hra.idle hV
  have HRr : Hid (∀ V, Fr [] w V → Rd V rv roots) := fun V hV => hrr.idle hV
  have HT : Hid (∀ V, Fr [] w V → Tab V) := fun V hV => hT.fr hV hT0
  have HR := mkHid hR
  have HK := mkHid h
  have HD := mkHid hd
  have HL := mkHid hl
  obtain ⟨pa, ca, rfl, -⟩ := hra.at_
  obtain ⟨pb, cb, rfl, -⟩ := hrb.at_
  obtain ⟨pr, cr, rfl, -⟩ := hrr.at_
  have s1 := hra.short
  have s2 := hrr.short
  clear hR h hd hl ba bb hra hrb hrr hT hT0
  go_enter Tryd.func49, Tryd.ntmps49
  go_wp2_with fail
  go_loopw [9, 10] (fun v q wr => ∃ k : Nat, k ≤ roots.length ∧ q = .int .i64 k ∧ wr.ownsRow w.heap.size 35 1 v (rootsTo (sa.zip sb) roots k).length ((rootsTo (sa.zip sb) roots k).map (Value.int .i64)) ∧ Hid (Fr [] w wr)) (fun _ q _ => roots.length - (intOf q).toNat)
  case atStart => exact ⟨0, Nat.zero_le _, rfl, World.ownsRow_nil _ _ _ _, Fr.refl _ _⟩
  case round =>
    obtain ⟨k, hkn, rfl, hown, hfr⟩ := hrel
    have k1 : (0 : Int) ≤ (k : Int) := by omega
    by_cases hk : k < roots.length
    · have k2 : (k : Int) < (roots.length : Int) := by omega
      have hz := hfr.out.size
      obtain ⟨p', c', ee, hrow⟩ := (HRr.out wr hfr.out).at_
      injection ee with ee _ eec
      subst ee
      subst eec
      obtain ⟨g, off, rfl, hgl, hc⟩ := hrow (by omega)
      have q0 := hc k hk
      have HSU := mkHid (rootsTo_succ (sa.zip sb) roots k hk)
      have hle := rootsTo_len (sa.zip sb) roots k hkn
      have HTk := mkHid (HTu.out wr (roots.getD k 0) hfr.out)
      clear hrow hc
      generalize roots.getD k 0 = z at *
      generalize trnZ (sa.zip sb) z = y at *
      generalize rootsTo (sa.zip sb) roots k = X at *
      have hown2 := hown.alloc (.cells #[.int .i64 y] 35)
      have HFA : Hid (Fr [] w (wr.alloc (.cells #[.int .i64 y] 35))) := hfr.out.trans (Fr.alloc [] _ _) (by simp)
      clear hown
      go_wp2_with fail
      refine Calls.mono HTk.out ?_
      rintro e w' ⟨rfl, hw'⟩
      rw [hw']
      clear hw' w'
      go_wp2_with (first
        | (at_builtin; refine wpList_append_own _ rfl (.tmp 21) (.tmp 29) 61 rfl w.heap.size 35 j0 (.int .i64 0) 1 8 Tryd.underlying61 ji jz0 jz1 jz2 rfl (by decide) _ _ _ rfl hown2 ⟨wr.heap.size, 0, none⟩ 1 1 [.int .i64 y] rfl rfl ?c1 ?c2 ?c3 ?c4 ?c5 ?_)
        | go_in)
      case c1 => exact World.news_of_block (heap_alloc_new wr _)
      case c2 => first | rfl | (intro u hu; simp at hu; subst hu; rfl)
      case c3 => unfold maxLen; omega
      case c4 => omega
      case c5 => first | omega | (simp; omega)
      intro v' w1 hown' hgrow _
      have HG : Hid (Fr [] w w1) := by
        refine ⟨hgrow.os.trans HFA.out.os, hgrow.tape.trans HFA.out.tape, hgrow.output.trans HFA.out.output, Nat.le_trans HFA.out.size hgrow.size, fun i hi hn => ?_⟩
        rw [hgrow.block i (Nat.lt_of_lt_of_le hi HFA.out.size) (fun e => ?_)]
        · exact HFA.out.block i hi hn
        · have := (hown2.lt i e.symm).1
          omega
      have HO := mkHid hown'
      clear hown' hgrow hown2 HFA
      go_wp2_with fail
      go_roundw
      case rel => exact ⟨k + 1, by omega, by go_num, by rw [HSU.out]; simpa [hle] using HO.out, HG⟩
      case measure => simp [intOf]; omega
    · have hke : k = roots.length := by omega
      subst hke
      have hle := rootsTo_len (sa.zip sb) roots roots.length (Nat.le_refl _)
      have hrd := own_rd hown (by omega)
      obtain ⟨p9, c9, rfl, -⟩ := hrd.at_
      have hre : rootsTo (sa.zip sb) roots roots.length = roots.map (trnZ (sa.zip sb)) := by unfold rootsTo; rw [List.take_length]
      rw [hre] at hrd hle ⊢
      have HRc := mkHid (Reach_ok a l H M p9 c9 _ wr (HR.out.keep hfr.out (by simp)) HK.out.inv (HT.out wr hfr.out) hrd)
      rw [hle] at HRc ⊢
      clear hown hre hrd hle hk
      go_wp2_with fail
      refine Calls.mono HRc.out ?_
      clear HRc
      rintro e w3 ⟨v, rfl, rs, hsr, hrow, hf3⟩
      have hun := turn_unfound HD.out HB1.out HK.out roots hsr
      have HF3 : Hid (Fr [] w w3) := hfr.out.trans hf3 (by simp)
      have hne : ∀ q ∈ zs ((allTo H H.seats.length).filter fun x => decide (x ∈ rs)), ∀ x ∈ sa, q ≠ x := fun q hq x hx => by
        unfold zs at hq
        obtain ⟨n, n1, rfl⟩ := List.mem_map.1 hq
        obtain ⟨p, p1, p2⟩ := fst_zip HL.out hx
        rw [← p2]
        exact hun n (of_decide_eq_true (List.mem_filter.1 n1).2) p p1
      have hfl : (zs ((allTo H H.seats.length).filter fun x => decide (x ∈ rs))).length ≤ 17592186043904 := by
        unfold zs
        rw [List.length_map]
        have h1 := List.length_filter_le (fun x => decide (x ∈ rs)) (allTo H H.seats.length)
        have h2 := allTo_len H H.seats.length
        have h3 := HK.out.inv.told.seats
        omega
      have hrd := own_rd (own_intsB hrow) hfl
      generalize zs ((allTo H H.seats.length).filter fun x => decide (x ∈ rs)) = fl at *
      obtain ⟨pf_, cf, rfl, hpf⟩ := hrd.at_
      have HPF := mkHid hpf
      have HNe := mkHid hne
      have sz3 := hf3.size
      clear hsr hrow hf3 hun hne hrd hpf
      go_wp2_with fail
      refine Calls.mono (num4_any 0 w3) ?_
      rintro e w' ⟨rfl, hw'⟩
      rw [hw']
      clear hw' w'
      go_wp2_with fail
      go_loopw [13] (fun q wr => ∃ i : Nat, i ≤ fl.length ∧ q = .int .i64 i ∧ Hid (Fr [] w3 wr)) (fun q _ => fl.length - (intOf q).toNat)
      case atStart => exact ⟨0, Nat.zero_le _, rfl, Fr.refl _ _⟩
      case round =>
        obtain ⟨i, hin, rfl, hq⟩ := hrel
        have i1 : (0 : Int) ≤ (i : Int) := by omega
        by_cases hi : i < fl.length
        · have i2 : (i : Int) < (fl.length : Int) := by omega
          obtain ⟨gf, of_, rfl, hgf, hcf⟩ := HPF.out (by omega)
          have hfm : fl.getD i 0 ∈ fl := by rw [List.getD_eq_getElem?_getD, List.getElem?_eq_getElem hi]; exact List.getElem_mem hi
          have HX : Hid (∀ V, Fr [] w3 V → V.cell? ⟨gf, of_ + i, none⟩ = some (.int .i64 (fl.getD i 0))) := fun V hV => (hV.cell (p := ⟨gf, of_ + i, none⟩) hgf (by simp)).trans (hcf i hi)
          have HNx := mkHid (HNe.out _ hfm)
          generalize fl.getD i 0 = x at *
          clear hcf hfm
          go_wp2_with fail
          have HQ0 := hq
          clear hq
          go_loopw [14] (fun q wr => ∃ j : Nat, j ≤ sa.length ∧ q = .int .i64 j ∧ Hid (Fr [] w3 wr)) (fun q _ => sa.length - (intOf q).toNat)
          case atStart => exact ⟨0, Nat.zero_le _, rfl, HQ0⟩
          case round =>
            obtain ⟨j, hjn, rfl, hq⟩ := hrel
            have j1 : (0 : Int) ≤ (j : Int) := by omega
            by_cases hj : j < sa.length
            · have j2 : (j : Int) < (sa.length : Int) := by omega
              obtain ⟨p', c', ee, hrow⟩ := (HRa.out _ (HF3.out.trans hq.out (by simp))).at_
              injection ee with ee _ eec
              subst ee
              subst eec
              obtain ⟨g, off, rfl, hgl, hc⟩ := hrow (by omega)
              have q0 := hc j hj
              have q1 := HX.out _ hq.out
              have hxx : (x == sa.getD j 0) = false := by
                have := HNx.out (sa.getD j 0) (by rw [List.getD_eq_getElem?_getD, List.getElem?_eq_getElem hj]; exact List.getElem_mem hj)
                simpa using this
              generalize sa.getD j 0 = y at *
              clear hrow hc
              go_wp2_with fail
              go_quiet (fail)
              go_wp2_with fail
              go_roundw
              case rel => exact ⟨j + 1, by omega, by go_num, mkHid (hq.out.trans (Fr.drewN [] _ _) (by simp))⟩
              case measure => simp [intOf]; omega
            · have hje : j = sa.length := by omega
              subst hje
              go_wp2_with fail
              go_roundw
              case rel => exact ⟨i + 1, by omega, by go_num, hq⟩
              case measure => simp [intOf]; omega
        · have hie : i = fl.length := by omega
          subst hie
          go_wp2_with fail
          go_ret
          exact ⟨rfl, HF3.out.trans hq.out (by simp)⟩
end Go.Proofs.YtdkbnnhcjaibdaaDoor
