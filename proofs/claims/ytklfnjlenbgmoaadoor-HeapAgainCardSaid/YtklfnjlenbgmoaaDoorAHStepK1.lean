import Derived.Test.YtklfnjlenbgmoaaDoorAG27HStepK
namespace Go.Proofs.YtklfnjlenbgmoaaDoor
open Go.RowKit
set_option linter.unusedVariables false
attribute [local go_sem ↓] Go.wp_at_zero Go.wp_at_succ
/-- what the call made of the list: it lies in a block of its own -/
structure LsNew (W W' : World) (v : Value) (zs : List Int) : Prop where
  fr : Fr [] W W'
  at_ : ∃ p c, v = .slice p zs.length c ∧ ∀ j, j < zs.length → ∃ b, p = some ⟨b, 0, none⟩ ∧ b < W'.heap.size ∧ W.heap.size ≤ b ∧ W'.cell? ⟨b, j, none⟩ = some (.int .i64 (zs.getD j 0))
theorem LsNew.of {W W' : World} {v : Value} {zs : List Int} (h : W'.ownsRow W.heap.size 3 1 v zs.length (zs.map (Value.int .i64))) (hg : W.grownBy W' none) : LsNew W W' v zs := by
  refine ⟨Fr.grown hg (by simp), ?_⟩
  rcases h.2 with ⟨h2, h3⟩ | ⟨g, cap, cur, h2, h3⟩
  · exact ⟨none, 0, by rw [h2, h3], fun j hj => by omega⟩
  · refine ⟨some ⟨g, 0, none⟩, cap, h2, fun j hj => ⟨g, rfl, ?_, h3.1, ?_⟩⟩
    · exact lt_of_heap h3.2.1
    · rw [h2] at h
      rw [h.cellAt j (by omega)]
      exact slot_val zs j hj
set_option maxRecDepth 20000 in
set_option maxHeartbeats 1000000 in
theorem mkeep_no (zs : List Int) (ao : Option Addr) (c : Nat) (D : List Nat) (w0 : World) (a m : Nat) (W : World) (l : Lay) (H : HS) (M : MS) (hS : Side D w0 a m W l H M) (hi : Inv H M) (hL : LsAt w0 ao c zs) (hLD : zs ≠ [] → ∀ b off, ao = some ⟨b, off, none⟩ → b ∉ D) (hall : zs.all (mhas M) = false) :
    Calls Tryd.prog 67 #[.pointer (some ⟨m, 0, none⟩), .pointer (some ⟨a, 0, none⟩), .slice ao zs.length c] W fun e w' => e = .returned (.bool true) ∧ Went D w0 a m H M w' := by
  have hne : zs ≠ [] := fun e => by rw [e] at hall; simp at hall
  obtain ⟨b, off, rfl, hb, hcell⟩ := hL.row hne
  have hsh := hL.short
  have hlen := hi.model.len
  have HS := mkHid hS
  have HI := mkHid hi
  have HHas : Hid (∀ V, Hid (Fr [] W V) → ∀ z, Calls Tryd.prog 65 #[.pointer (some ⟨m, 0, none⟩), .int .i64 z] V fun e w' => e = .returned (.bool (mhas M z)) ∧ w' = V) := fun V hV z => has_ok z m M V (hS.mrep.keep hV.out (by simp)) hlen
  have HC : Hid (∀ V, Hid (Fr [] W V) → ∀ j, j < zs.length → V.cell? ⟨b, off + j, none⟩ = some (.int .i64 (zs.getD j 0))) := fun V hV j hj => ((hS.fr.trans hV.out (by simp)).cell (p := ⟨b, off + j, none⟩) hb (hLD hne b off rfl)).trans (hcell j hj)
  have HTh : Hid (∀ V, Hid (Fr [] W V) → Calls Tryd.prog 33 #[.pointer (some ⟨m, 0, none⟩)] V fun e w' => e = .returned (.int .i64 (thereTo M.things M.things.length : Nat)) ∧ w' = V) := fun V hV => there_ok m M V (hS.mrep.keep hV.out (by simp)) hlen
  have HEn : Hid (∀ V, Hid (Fr [] W V) → Calls Tryd.prog 32 #[.pointer (some ⟨m, 0, none⟩)] V fun e w' => e = .returned (.int .i64 (endTo M.things M.things.length : Nat)) ∧ Fr [] V w') := fun V hV => end_ok m M V (hS.mrep.keep hV.out (by simp)) hi.model
  have hOM := hi.model
  have HAll := mkHid hall
  obtain ⟨j0, hi0, hz0, hz1, hz2⟩ := info_parts info3
  have hzz : zs.length ≤ 9223372036854775807 := by omega
  clear hS hi hL hcell hall
  go_enter Tryd.func67, Tryd.ntmps67
  go_wp2_with fail
  go_loopw [7, 8] (fun x q wr => ∃ k : Nat, k ≤ zs.length ∧ q = .int .i64 k ∧ x = .bool ((zs.take k).all (mhas M)) ∧ Hid (Fr [] W wr)) (fun _ q _ => zs.length - (intOf q).toNat)
  case atStart => exact ⟨0, Nat.zero_le _, rfl, by simp, Fr.refl _ _⟩
  case round =>
    obtain ⟨k, hkn, rfl, rfl, hw⟩ := hrel
    by_cases hlt : k < zs.length
    · have hc := HC.out wr hw k hlt
      have hn := all_take_succ (mhas M) zs k hlt
      have k1 : (0 : Int) ≤ (k : Int) := by omega
      have k2 : (k : Int) < (zs.length : Int) := by omega
      have HH := mkHid (HHas.out wr hw (zs.getD k 0))
      cases hal : (zs.take k).all (mhas M) with
      | false =>
        rw [hal] at hn
        have HN := mkHid hn
        clear hn hal HH
        go_wp2_with fail
        go_roundw
        case rel => exact ⟨k + 1, by omega, by go_num, by rw [HN.out]; rfl, hw⟩
        case measure => simp [intOf]; omega
      | true =>
        rw [hal] at hn
        have HN := mkHid hn
        generalize mhas M (zs.getD k 0) = bz at *
        generalize zs.getD k 0 = zv at *
        clear hn hal
        go_wp2_with (go_at_call 65; refine Calls.mono HH.out ?_; rintro e w1 ⟨rfl, rfl⟩)
        go_roundw
        case rel => exact ⟨k + 1, by omega, by go_num, by rw [HN.out]; simp, hw⟩
        case measure => simp [intOf]; omega
    · have hke : k = zs.length := by omega
      subst hke
      rw [List.take_length, HAll.out]
      have HTh1 := mkHid (HTh.out wr hw)
      have HEn1 := mkHid (HEn.out wr hw)
      have HS1 := mkHid (HS.out.idle hw.out)
      have HC1 := mkHid (HC.out wr hw)
      clear HTh HEn HS HC HHas
      go_wp2_with (go_at_call 33; refine Calls.mono HTh1.out ?_; rintro e w1 ⟨rfl, rfl⟩)
      refine Calls.mono HEn1.out ?_
      rintro e w2 ⟨rfl, hf2⟩
      have hS2 := HS1.out.idle hf2
      have hown : w2.ownsRow w2.heap.size 3 1 (.slice none 0 0) 0 [] := World.ownsRow_nil _ _ _ _
      have hnews : ∀ j u, (zs.map (Value.int .i64))[j]? = some u → w2.cell? ((⟨b, off, none⟩ : Addr).add j) = some u := fun j u hu => by
        rw [List.getElem?_map] at hu
        cases hz : zs[j]? with
        | none => rw [hz] at hu; simp at hu
        | some z =>
          rw [hz] at hu
          simp at hu
          obtain ⟨hj, hjz⟩ := List.getElem?_eq_some_iff.1 hz
          have := (hf2.cell (p := ⟨b, off + j, none⟩) (World.block_lt_of_cell? _ _ (HC1.out j hj)) (by simp)).trans (HC1.out j hj)
          rw [Addr.add_mid, this, List.getD_eq_getElem?_getD, hz, ← hu]
          rfl
      have HS2 := mkHid hS2
      clear hS2 hf2
      go_wp2_with (first
        | (at_builtin; refine wpList_append_own _ rfl (.const (.slice none 0 0)) (.tmp 38) 22 rfl w2.heap.size 3 j0 (.int .i64 0) 1 8 Tryd.underlying22 hi0 hz0 hz1 hz2 rfl (by decide) _ _ _ rfl hown ⟨b, off, none⟩ zs.length c (zs.map (Value.int .i64)) rfl (by simp) hnews ?c2 ?c3 ?c4 (Nat.le_refl _) ?_)
        | go_in)
      case c2 => intro u hu; obtain ⟨z, _, rfl⟩ := List.mem_map.1 hu; rfl
      case c3 => unfold maxLen; omega
      case c4 => omega
      intro v' w3 hown' hgrow _
      have hnew : LsNew w2 w3 v' zs := LsNew.of (by simpa using hown') hgrow
      obtain ⟨p, cc, rfl, hat⟩ := hnew.at_
      have hS3 := HS2.out.idle hnew.fr
      obtain ⟨j0, b1, b2, b3⟩ := first_bad (mhas M) zs HAll.out
      obtain ⟨g, rfl, hgl, hgg, -⟩ := hat j0 b1
      have hgf : g ∉ foot a l := fun hb => by have := HS2.out.rep.lt g hb; omega
      have HK := mkHid (Keep_no zs j0 g 0 cc a l H w3 hS3.rep b1 (fun j hj => by rw [HI.out.hasM]; exact b2 j hj) (by rw [HI.out.hasM]; exact b3) (by have := HI.out.safe.seats; omega) hgl hgf (fun j hj => by
        obtain ⟨g2, e2, _, _, h4⟩ := hat j hj
        injection e2 with e2
        injection e2 with e2 _ _
        rw [Nat.zero_add, e2]
        exact h4) (by omega))
      have HS3 := mkHid hS3
      clear hS3 hat hnew hown' hgrow hnews hown
      go_wp2_with fail
      refine Calls.mono HK.out ?_
      rintro e w4 ⟨rfl, hr4, hx4⟩
      have HE : Hid (Went D w0 a m H M w4) := ⟨l, H, M, HS3.out.heap hr4 hx4, HI.out, by omega, Lk.refl _⟩
      clear hr4 hx4
      go_wp2_with (go_at_call 11; refine (num_any _ _ (by omega) (by omega)).mono ?_; rintro e w1 ⟨rfl, rfl⟩)
      go_ret
      exact ⟨rfl, HE.out⟩
end Go.Proofs.YtklfnjlenbgmoaaDoor
