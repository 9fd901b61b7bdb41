import Derived.Test.YtklfnjlenbgmoaaDoorAHStepK1
import Derived.BigQuiet
import Derived.Laws.AppendOwnNone
namespace Go.Proofs.YtklfnjlenbgmoaaDoor
open Go.RowKit
set_option linter.unusedVariables false
attribute [local go_sem ↓] Go.wp_at_zero Go.wp_at_succ
theorem decide_mem_map (ks : List Nat) (k : Nat) : decide (((k : Int) + 1) ∈ ks.map (fun n : Nat => (n : Int))) = decide (k + 1 ∈ ks) := by
  apply decide_eq_decide.2
  constructor
  · intro h
    obtain ⟨n, h1, h2⟩ := List.mem_map.1 h
    have : n = k + 1 := by omega
    rw [← this]; exact h1
  · intro h
    exact List.mem_map.2 ⟨k + 1, h, by omega⟩
theorem mem_take_nat (ks : List Nat) (k j : Nat) (hj : j < ks.length) : decide (k + 1 ∈ ks.take (j + 1)) = (decide (k + 1 ∈ ks.take j) || (((ks.getD j 0 : Nat) : Int) == (k : Int) + 1)) := by
  rw [List.take_succ_eq_append_getElem hj, List.getD_eq_getElem?_getD, List.getElem?_eq_getElem hj]
  simp only [List.mem_append, List.mem_singleton, Option.getD_some]
  generalize ks.take j = L
  generalize ks[j] = z
  by_cases h1 : k + 1 ∈ L
  · simp [h1]
  · by_cases h2 : k + 1 = z
    · subst h2; simp
    · have h4 : ¬ ((z : Int) = (k : Int) + 1) := fun e => h2 (by omega)
      simp [h1, h2, h4]
theorem mfoot_stay {m : Nat} {M : MS} (ks : List Nat) : ∀ k, k ≤ M.things.length → ∀ g ∈ mfoot m { M with things := stayTo M.things ks k }, g ∈ mfoot m M := by
  intro k hk g hg
  simp only [mfoot, List.mem_cons, List.mem_append] at hg ⊢
  rcases hg with h1 | h1 | h1
  · exact .inl h1
  · exact .inr (.inl h1)
  · obtain ⟨u, hu, hb⟩ := List.mem_flatMap.1 h1
    have hu2 : u ∈ stayTo M.things ks k := hu
    obtain ⟨i, hi, hiu⟩ := th_of_mem hu2
    rw [stayTo_len] at hi
    have e := stayTo_at M.things ks k hk i
    rw [hiu] at e
    have hp : u.p = (M.things.getD i noTh).p := by
      rw [e]
      split <;> rfl
    rw [hp] at hb
    exact .inr (.inr (mslots_mem (getD_mem M.things i hi) hb))
theorem mfoot_stay' {m : Nat} {M : MS} (ks : List Nat) : ∀ k, k ≤ M.things.length → ∀ g ∈ mfoot m M, g ∈ mfoot m { M with things := stayTo M.things ks k } := by
  intro k hk g hg
  simp only [mfoot, List.mem_cons, List.mem_append] at hg ⊢
  rcases hg with h1 | h1 | h1
  · exact .inl h1
  · exact .inr (.inl h1)
  · obtain ⟨u, hu, hb⟩ := List.mem_flatMap.1 h1
    obtain ⟨i, hi, hiu⟩ := th_of_mem hu
    have e := stayTo_at M.things ks k hk i
    have hp : ((stayTo M.things ks k).getD i noTh).p = u.p := by
      rw [e, ← hiu]
      split <;> rfl
    rw [← hp] at hb
    exact .inr (.inr (mslots_mem (M := { M with things := stayTo M.things ks k }) (getD_mem (stayTo M.things ks k) i (by rw [stayTo_len]; exact hi)) hb))
theorem mfoot_alike {m : Nat} {M : MS} (T : List Th) (h : Alike T M.things) : ∀ g ∈ mfoot m { M with things := T }, g ∈ mfoot m M := by
  intro g hg
  simp only [mfoot, List.mem_cons, List.mem_append] at hg ⊢
  rcases hg with h1 | h1 | h1
  · exact .inl h1
  · exact .inr (.inl h1)
  · obtain ⟨u, hu, hb⟩ := List.mem_flatMap.1 h1
    have hu2 : u ∈ T := hu
    obtain ⟨i, hi, hiu⟩ := th_of_mem hu2
    have hp : u.p = (M.things.getD i noTh).p := by rw [← hiu]; exact (h.at_ i).2.2.2.2.1
    rw [hp] at hb
    exact .inr (.inr (mslots_mem (getD_mem M.things i (by rw [← h.len]; exact hi)) hb))
theorem slidN_alike : ∀ (n : Nat) (S : List Th) (A : Nat), Alike (slidN S A n) S := by
  intro n
  induction n with
  | zero => intro S A; exact Alike.refl S
  | succ n ih =>
    intro S A
    cases hp : pickTo S A S.length with
    | none => rw [slidN_none S A n hp]; exact Alike.refl S
    | some k =>
      rw [slidN_some S A n k hp]
      have h1 := ih (S.set k (placed (S.getD k noTh) A)) (A + lenN (S.getD k noTh).slots.length (S.getD k noTh).fmt)
      have h2 := (Alike.refl S).place k A (pickTo_lt S A S.length k hp).1
      refine ⟨h1.len.trans h2.len, fun i => ?_⟩
      obtain ⟨a1, a2, a3, a4, a5, a6⟩ := h1.at_ i
      obtain ⟨b1, b2, b3, b4, b5, b6⟩ := h2.at_ i
      exact ⟨a1.trans b1, a2.trans b2, a3.trans b3, a4.trans b4, a5.trans b5, a6.trans b6⟩
set_option maxRecDepth 20000 in
set_option maxHeartbeats 600000 in
theorem mkeep_in (ks : List Nat) (ao : Option Addr) (c : Nat) (D : List Nat) (w0 : World) (a m : Nat) (W : World) (l : Lay) (H : HS) (M : MS) (hS : Side D w0 a m W l H M) (hi : Inv H M) (hL : LsAt w0 ao c (ks.map (fun n : Nat => (n : Int)))) (hLD : ks ≠ [] → ∀ b off, ao = some ⟨b, off, none⟩ → b ∉ D) (hks : ∀ j ∈ ks, mhas M (j : Int) = true) (hage : H.age ≤ 1000000000) :
    Calls Tryd.prog 67 #[.pointer (some ⟨m, 0, none⟩), .pointer (some ⟨a, 0, none⟩), .slice ao ks.length c] W fun e w' => e = .returned (.bool true) ∧ Went D w0 a m H { M with things := keptTh M.things ks } w' := by
  have hsh := hL.short
  rw [List.length_map] at hsh
  have hlen := hi.model.len
  obtain ⟨hkok, hkinv⟩ := hi.keep ks hks hage
  have HS := mkHid hS
  have HI := mkHid hi
  have HKO := mkHid hkok
  have HKI := mkHid hkinv
  have HLs := mkHid hL
  have HKS := mkHid hks
  have HHas : Hid (∀ V, Hid (Fr [] W V) → ∀ z, mhas M z = true → Calls Tryd.prog 65 #[.pointer (some ⟨m, 0, none⟩), .int .i64 z] V fun e w' => e = .returned (.bool true) ∧ w' = V) := fun V hV z hz => by
    have := has_ok z m M V (hS.mrep.keep hV.out (by simp)) hlen
    rw [hz] at this
    exact this
  have HC : Hid (∀ V, Hid (Fr D w0 V) → ∀ j, j < ks.length → ∃ b off, ao = some ⟨b, off, none⟩ ∧ b < w0.heap.size ∧ V.cell? ⟨b, off + j, none⟩ = some (.int .i64 ((ks.getD j 0 : Nat) : Int))) := fun V hV j hj => by
    obtain ⟨b, off, h1, h2, h3⟩ := hL.row (by intro e; rw [List.map_eq_nil_iff] at e; rw [e] at hj; simp at hj)
    refine ⟨b, off, h1, h2, (hV.out.cell (p := ⟨b, off + j, none⟩) h2 (hLD (fun e => by rw [e] at hj; simp at hj) b off h1)).trans ?_⟩
    rw [h3 j (by simpa using hj), List.getD_eq_getElem?_getD, List.getElem?_map, List.getD_eq_getElem?_getD, List.getElem?_eq_getElem hj]
    rfl
  have HTh : Hid (∀ V, Hid (Fr [] W V) → Calls Tryd.prog 33 #[.pointer (some ⟨m, 0, none⟩)] V fun e w' => e = .returned (.int .i64 (thereTo M.things M.things.length : Nat)) ∧ w' = V) := fun V hV => there_ok m M V (hS.mrep.keep hV.out (by simp)) hlen
  have HEn : Hid (∀ V, Hid (Fr [] W V) → Calls Tryd.prog 32 #[.pointer (some ⟨m, 0, none⟩)] V fun e w' => e = .returned (.int .i64 (endTo M.things M.things.length : Nat)) ∧ Fr [] V w') := fun V hV => end_ok m M V (hS.mrep.keep hV.out (by simp)) hi.model
  obtain ⟨j0, hi0, hz0, hz1, hz2⟩ := info_parts info3
  have hzz : ks.length ≤ 9223372036854775807 := by omega
  have hfr0 := mkHid hS.fr
  clear hS hi hL hks hkok hkinv
  go_enter Tryd.func67, Tryd.ntmps67
  go_wp2_with fail
  go_loopw [7, 8] (fun x q wr => ∃ k : Nat, k ≤ ks.length ∧ q = .int .i64 k ∧ x = .bool true ∧ Hid (Fr [] W wr)) (fun _ q _ => ks.length - (intOf q).toNat)
  case atStart => exact ⟨0, Nat.zero_le _, rfl, rfl, Fr.refl _ _⟩
  case round =>
    obtain ⟨k, hkn, rfl, rfl, hw⟩ := hrel
    by_cases hlt : k < ks.length
    · obtain ⟨b, off, rfl, hb, hc⟩ := HC.out wr (hfr0.out.trans hw.out (by simp)) k hlt
      have k1 : (0 : Int) ≤ (k : Int) := by omega
      have k2 : (k : Int) < (ks.length : Int) := by omega
      have hmk : mhas M ((ks.getD k 0 : Nat) : Int) = true := HKS.out _ (by rw [List.getD_eq_getElem?_getD, List.getElem?_eq_getElem hlt]; exact List.getElem_mem hlt)
      have HH := mkHid (HHas.out wr hw _ hmk)
      generalize ks.getD k 0 = zv at *
      clear hmk HLs HC HTh HEn
      go_wp2_with (go_at_call 65; refine Calls.mono HH.out ?_; rintro e w1 ⟨rfl, rfl⟩)
      go_roundw
      case rel => exact ⟨k + 1, by omega, by go_num, rfl, hw⟩
      case measure => simp [intOf]; omega
    · have hke : k = ks.length := by omega
      subst hke
      have HTh1 := mkHid (HTh.out wr hw)
      have HEn1 := mkHid (HEn.out wr hw)
      have HS1 := mkHid (HS.out.idle hw.out)
      clear HTh HEn HS HHas hkn hlt
      go_wp2_with (go_at_call 33; refine Calls.mono HTh1.out ?_; rintro e w1 ⟨rfl, rfl⟩)
      refine Calls.mono HEn1.out ?_
      rintro e w2 ⟨rfl, hf2⟩
      have hS2 := HS1.out.idle hf2
      have HS2 := mkHid hS2
      clear hf2 HTh1 HEn1 HS1 hw
      have hown : w2.ownsRow w2.heap.size 3 1 (.slice none 0 0) 0 [] := World.ownsRow_nil _ _ _ _
      have e1 := HI.out.count
      have e2 := HKI.out.count
      have e3 := HI.out.fin
      have e4 := HKI.out.fin
      dsimp only at e2 e4
      have HKeep : Hid (∀ V p cc, LsNew w2 V (.slice p ks.length cc) (ks.map (fun n : Nat => (n : Int))) → Calls Tryd.prog 34 #[.pointer (some ⟨a, 0, none⟩), .slice p ks.length cc] V fun e w' => e = .returned (.tuple #[.int .i64 ((thereTo M.things M.things.length : Nat) - (thereTo (keptTh M.things ks) (keptTh M.things ks).length : Nat) : Int), .int .i64 ((endTo M.things M.things.length : Nat) - (endTo (keptTh M.things ks) (keptTh M.things ks).length : Nat) : Int), .int .i64 0]) ∧ Hid (Side D w0 a m w' l (keepH H ks) M)) := by
        intro V p cc hn
        have hS3 := HS2.out.idle hn.fr
        obtain ⟨p', c', e5, hat⟩ := hn.at_
        injection e5 with e5 _ e6
        subst e5
        have hk := Keep_any ks p cc a l H V hS3.rep HKO.out (fun j hj => by
          obtain ⟨g, g1, g2, g3, g4⟩ := hat j (by simpa using hj)
          refine ⟨g, g1, g2, fun hb => by have := HS2.out.rep.lt g hb; omega, ?_⟩
          rw [g4, List.getD_eq_getElem?_getD, List.getElem?_map, List.getD_eq_getElem?_getD, List.getElem?_eq_getElem hj]
          rfl) (by omega)
        rw [e1, e2, e3, e4] at hk
        refine Calls.mono hk ?_
        rintro e w' ⟨rfl, hr, hx⟩
        exact ⟨rfl, hS3.heap hr hx⟩
      clear e1 e2 e3 e4
      generalize hC0 : thereTo M.things M.things.length = C0 at *
      generalize hC1 : thereTo (keptTh M.things ks) (keptTh M.things ks).length = C1 at *
      generalize hE0 : endTo M.things M.things.length = E0 at *
      generalize hE1 : endTo (keptTh M.things ks) (keptTh M.things ks).length = E1 at *
      go_upto_region 8 with (fail)
      go_cut [11, 12, 13] (fun p q r V => p = .int .i64 ((C0 : Int) - (C1 : Int)) ∧ q = .int .i64 ((E0 : Int) - (E1 : Int)) ∧ r = .int .i64 0 ∧ Hid (Side D w0 a m V l (keepH H ks) M))
      case first =>
        clear hC0 hC1 hE0 hE1 hage
        rcases ao with _ | ad
        · obtain ⟨hnil, rfl⟩ := HLs.out.nil rfl
          have hk0 : ks = [] := by rw [List.map_eq_nil_iff] at hnil; exact hnil
          subst hk0
          have HK0 := mkHid (HKeep.out w2 none 0 ⟨Fr.refl _ _, none, 0, rfl, fun j hj => by simp at hj⟩)
          clear HKeep HC HLs hnil
          simp only [List.length_nil] at *
          go_wp2_with (first
            | (at_builtin; refine wpList_append_own_none rfl (.const (.slice none 0 0)) (.tmp 38) 22 rfl w2.heap.size 3 j0 1 Tryd.underlying22 hi0 _ _ _ rfl hown rfl ?_))
          refine Calls.mono HK0.out ?_
          rintro e w4 ⟨rfl, h4⟩
          go_wp2_with fail
          go_meet
          case rel => exact ⟨rfl, rfl, rfl, h4⟩
        · have hnews : ∀ j u, ((ks.map (fun n : Nat => (n : Int))).map (Value.int .i64))[j]? = some u → w2.cell? (ad.add j) = some u := fun j u hu => by
            have hj : j < ks.length := by
              obtain ⟨h1, _⟩ := List.getElem?_eq_some_iff.1 hu
              simpa using h1
            obtain ⟨b, off, h1, h2, h3⟩ := HC.out w2 HS2.out.fr j hj
            injection h1 with h1
            subst h1
            rw [Addr.add_mid, h3, ← hu, List.getElem?_map, List.getElem?_map, List.getElem?_eq_getElem hj, List.getD_eq_getElem?_getD, List.getElem?_eq_getElem hj]
            rfl
          clear HC HLs
          go_wp2_with (first
            | (at_builtin; refine wpList_append_own _ rfl (.const (.slice none 0 0)) (.tmp 38) 22 rfl w2.heap.size 3 j0 (.int .i64 0) 1 8 Tryd.underlying22 hi0 hz0 hz1 hz2 rfl (by decide) _ _ _ rfl hown ad ks.length c ((ks.map (fun n : Nat => (n : Int))).map (Value.int .i64)) rfl (by simp) hnews ?c2 ?c3 ?c4 (Nat.le_refl _) ?_)
            | go_in)
          case c2 => intro u hu; obtain ⟨z, _, rfl⟩ := List.mem_map.1 hu; rfl
          case c3 => unfold maxLen; omega
          case c4 => omega
          intro v' w3 hown' hgrow _
          have hnew : LsNew w2 w3 v' (ks.map (fun n : Nat => (n : Int))) := LsNew.of (by simpa using hown') hgrow
          obtain ⟨p, cc, hv', _⟩ := hnew.at_
          rw [List.length_map] at hv'
          subst hv'
          have HK0 := mkHid (HKeep.out w3 p cc hnew)
          clear HKeep hnews hown' hgrow hnew
          go_wp2_with fail
          refine Calls.mono HK0.out ?_
          rintro e w4 ⟨rfl, h4⟩
          go_wp2_with fail
          go_meet
          case rel => exact ⟨rfl, rfl, rfl, h4⟩
      case rest =>
        obtain ⟨rfl, rfl, rfl, hs4⟩ := hcut
        clear HKeep hown HS2
        have hcl : (C0 : Int) ≤ 65538 := by have := thereTo_le M.things M.things.length; omega
        have hel : (E0 : Int) ≤ 1048576 := by have := HI.out.safe.small.mem; have := HI.out.safe.small.words; have := HI.out.fin; omega
        have hcl1 : (C1 : Int) ≤ 65538 := by have := HKI.out.safe.small.count; have := HKI.out.safe.small.oops; have := HKI.out.count; dsimp only at this; omega
        have hel1 : (E1 : Int) ≤ 1048576 := by have := HKI.out.safe.small.mem; have := HKI.out.safe.small.words; have := HKI.out.fin; dsimp only at this; omega
        have HC0 := mkHid hC0
        have HC1 := mkHid hC1
        have HE0 := mkHid hE0
        have HE1 := mkHid hE1
        clear hC0 hC1 hE0 hE1
        go_wp2_with fail
        go_loopw [14] (fun q V => ∃ k : Nat, k ≤ M.things.length ∧ q = .int .i64 k ∧ Hid (Side D w0 a m V l (keepH H ks) { M with things := stayTo M.things ks k })) (fun q _ => M.things.length - (intOf q).toNat)
        case atStart => exact ⟨0, Nat.zero_le _, rfl, hs4⟩
        case round =>
          obtain ⟨k, hkn, rfl, hq⟩ := hrel
          obtain ⟨wo, hwo⟩ : ∃ wo, wo = wr := ⟨_, rfl⟩
          subst hwo
          have c3 := hq.out.mrep.c3
          dsimp only at c3
          rw [stayTo_len] at c3
          by_cases hlt : k < M.things.length
          · have k1 : (0 : Int) ≤ (k : Int) := by omega
            have k2 : (k : Int) < (M.things.length : Int) := by omega
            go_wp2_with fail
            go_loopw [15, 16] (fun x q V => ∃ j : Nat, j ≤ ks.length ∧ q = .int .i64 j ∧ x = .bool (decide (k + 1 ∈ ks.take j)) ∧ Hid (Fr [] wo V)) (fun _ q _ => ks.length - (intOf q).toNat)
            case atStart => exact ⟨0, Nat.zero_le _, rfl, by simp, Fr.refl _ _⟩
            case round =>
              obtain ⟨j, hjn, rfl, rfl, hfj⟩ := hrel
              by_cases hjl : j < ks.length
              · obtain ⟨b, off, rfl, hb, hc⟩ := HC.out wr (hq.out.fr.trans hfj.out (by simp)) j hjl
                have j1 : (0 : Int) ≤ (j : Int) := by omega
                have j2 : (j : Int) < (ks.length : Int) := by omega
                have hn := mem_take_nat ks k j hjl
                generalize ks.getD j 0 = zv at *
                cases hdk : decide (k + 1 ∈ ks.take j) with
                | true =>
                  rw [hdk] at hn
                  have HN := mkHid hn
                  clear hn hdk HC HLs
                  go_wp2_with fail
                  go_roundw
                  case rel => exact ⟨j + 1, by omega, by go_num, by rw [HN.out]; simp, hfj⟩
                  case measure => simp [intOf]; omega
                | false =>
                  rw [hdk] at hn
                  have HN := mkHid hn
                  clear hn hdk HC HLs
                  go_wp2_with fail
                  go_roundw
                  case rel => exact ⟨j + 1, by omega, by go_num, by rw [HN.out]; simp, hfj⟩
                  case measure => simp [intOf]; omega
              · have hje : j = ks.length := by omega
                subst hje
                rw [List.take_length]
                have hS5 := hq.out.idle hfj.out
                have hmr := hS5.mrep
                have d3 := hmr.c3
                dsimp only at d3
                rw [stayTo_len] at d3
                obtain ⟨g, hg, hcc, hf, hgl⟩ := hmr.thAt (by show 0 < (stayTo M.things ks k).length; rw [stayTo_len]; omega)
                dsimp only at hg hcc
                obtain ⟨y0, -⟩ := hcc k (by rw [stayTo_len]; exact hlt)
                have eT : (stayTo M.things ks k).getD k noTh = M.things.getD k noTh := by rw [stayTo_at _ _ _ (by omega), if_neg (by omega)]
                rw [eT] at y0
                have z0 := hf (k * 5)
                have HE : Hid (∀ V, Eqw (wr.setCell ⟨g, k * 5, none⟩ (.bool ((M.things.getD k noTh).there && decide (k + 1 ∈ ks)))) V → Side D w0 a m V l (keepH H ks) { M with things := stayTo M.things ks (k + 1) }) := by
                  intro V hV
                  have hset := hmr.set1 hg k 0 (.bool ((M.things.getD k noTh).there && decide (k + 1 ∈ ks))) (stayed (M.things.getD k noTh) (decide (k + 1 ∈ ks))) (by show k < (stayTo M.things ks k).length; rw [stayTo_len]; exact hlt) (by omega) (by dsimp only; rw [eT]; rfl) (by dsimp only; rw [eT]; rfl) (by dsimp only; rw [eT]; rfl) (by dsimp only; rw [eT]; rfl)
                  refine (hS5.model (M' := { M with things := stayTo M.things ks (k + 1) }) hset (Fr.setCell _ _ _ (by simp [mfoot, hg, blk])) (fun b hb => .inl ?_)).eqw hV
                  have h1 := mfoot_stay (m := m) (M := M) ks (k + 1) (by omega) b hb
                  exact mfoot_stay' (m := m) (M := M) ks k (by omega) b h1
                rw [hg] at d3
                generalize decide (k + 1 ∈ ks) = sb at *
                generalize (M.things.getD k noTh).there = th at *
                clear hmr hcc hf hS5 hg HC HLs eT
                cases th with
                | true =>
                  go_wp2_with fail
                  go_region
                  all_goals go_wp2_with fail
                  all_goals
                    go_roundw
                    case rel => exact ⟨k + 1, by omega, by go_num, HE.out _ ⟨rfl, rfl, rfl, rfl⟩⟩
                    case measure => simp [intOf]; omega
                | false =>
                  go_wp2_with fail
                  go_region
                  all_goals go_wp2_with fail
                  all_goals
                    go_roundw
                    case rel => exact ⟨k + 1, by omega, by go_num, HE.out _ ⟨rfl, rfl, rfl, rfl⟩⟩
                    case measure => simp [intOf]; omega
          · have hke : k = M.things.length := by omega
            subst hke
            have hmr := hq.out.mrep
            have hM1l : (({ M with things := stayTo M.things ks M.things.length } : MS).things.length : Int) ≤ 65538 := by show ((stayTo M.things ks M.things.length).length : Int) ≤ _; rw [stayTo_len]; exact hlen
            have hsl := slid_ok m _ wo hmr hM1l (fun i hi => by
              show (((stayTo M.things ks M.things.length).getD i noTh).slots.length : Int) ≤ 8192
              have hi2 : i < M.things.length := by have h1 : i < (stayTo M.things ks M.things.length).length := hi; rw [stayTo_len] at h1; exact h1
              rw [stayTo_at _ _ _ (Nat.le_refl _), if_pos hi2]
              exact HI.out.model.slots i hi2)
            have e5 : slidN ({ M with things := stayTo M.things ks M.things.length } : MS).things 0 (thereTo ({ M with things := stayTo M.things ks M.things.length } : MS).things ({ M with things := stayTo M.things ks M.things.length } : MS).things.length) = keptTh M.things ks := by
              show slidN (stayTo M.things ks M.things.length) 0 (thereTo (stayTo M.things ks M.things.length) (stayTo M.things ks M.things.length).length) = _
              rw [stayTo_len]
              rfl
            rw [e5] at hsl
            have HSL := mkHid hsl
            have HQ := mkHid hq.out
            clear hsl hmr e5 hM1l hq HC HLs
            go_wp2_with fail
            refine Calls.mono HSL.out ?_
            rintro e w5 ⟨rfl, hm5, hf5⟩
            have hS6 : Side D w0 a m w5 l (keepH H ks) { M with things := keptTh M.things ks } := by
              refine HQ.out.model hm5 (hf5.mono (fun b hb => .inl (by simp [mfoot, hb]))) (fun b hb => .inl ?_)
              exact mfoot_alike (M := { M with things := stayTo M.things ks M.things.length }) (keptTh M.things ks) (slidN_alike _ _ _) b hb
            have HTh6 := there_ok m _ w5 hS6.mrep HKI.out.model.len
            have HEn6 := end_ok m _ w5 hS6.mrep HKI.out.model
            dsimp only at HTh6 HEn6
            rw [HC1.out] at HTh6
            rw [HE1.out] at HEn6
            simp only [I] at HTh6 HEn6
            have HT6 := mkHid HTh6
            have HN6 := mkHid HEn6
            have HS6 := mkHid hS6
            clear hm5 hf5 hS6 HTh6 HEn6 HSL HQ
            have z1 : IntKind.i64.wrap ((C0 : Int) - (C1 : Int)) = (C0 : Int) - (C1 : Int) := by rw [iwrap]; unfold wrap64; omega
            have z2 : IntKind.i64.wrap ((E0 : Int) - (E1 : Int)) = (E0 : Int) - (E1 : Int) := by rw [iwrap]; unfold wrap64; omega
            go_wp2_with (first | (go_at_call 11; refine (num_any _ _ (by omega) (by omega)).mono ?_; rintro e w1 ⟨rfl, rfl⟩) | (go_at_call 33; refine Calls.mono HT6.out ?_; rintro e w1 ⟨rfl, rfl⟩))
            refine Calls.mono HN6.out ?_
            rintro e w6 ⟨rfl, hf6⟩
            have HE : Hid (Went D w0 a m H { M with things := keptTh M.things ks } w6) := ⟨l, keepH H ks, { M with things := keptTh M.things ks }, HS6.out.idle hf6, HKI.out, Nat.le_refl _, Lk.refl _⟩
            clear hf6
            go_wp2_with fail
            go_ret
            exact ⟨rfl, HE.out⟩
end Go.Proofs.YtklfnjlenbgmoaaDoor
