import Derived.Test.YtimlomobbnnehaaGreatDoorG14LBld
import Derived.Test.YtimlomobbnnehaaGreatDoorG08LRefA
import Derived.Test.YtimlomobbnnehaaGreatDoorG09LPc
import Derived.Deep.DeepCutAuto
namespace Go.Proofs.YtimlomobbnnehaaGreatDoor
open Go.RowKit Go.Maps
set_option linter.unusedVariables false
set_option linter.unusedSimpArgs false
/-- a token as Go has it: kind, text, number, place -/
abbrev Z := Int × Bs × Int × Int
def noZ : Z := (0, [], 0, 0)
def tokOf (z : Z) : Tok := ⟨z.1.toNat, z.2.1, z.2.2.1.toNat⟩
/-- a list of them that can be read -/
def RdZ (w : World) (g off : Nat) (zs : List Z) : Prop := g < w.heap.size ∧ ∀ j, j < zs.length →
    w.cell? ⟨g, off + j * 4, none⟩ = some (.int .i64 (zs.getD j noZ).1) ∧ w.cell? ⟨g, off + j * 4 + 1, none⟩ = some (.string (ba (zs.getD j noZ).2.1)) ∧
    w.cell? ⟨g, off + j * 4 + 2, none⟩ = some (.int .i64 (zs.getD j noZ).2.2.1) ∧ w.cell? ⟨g, off + j * 4 + 3, none⟩ = some (.int .i64 (zs.getD j noZ).2.2.2)
theorem RdZ.keep {w w' : World} {g off : Nat} {zs : List Z} (h : RdZ w g off zs) (b : Bl w w') : RdZ w' g off zs := by
  have e : ∀ i, w'.cell? ⟨g, i, none⟩ = w.cell? ⟨g, i, none⟩ := fun i => World.cell?_of_block (w := w) (b.block g h.1)
  exact ⟨Nat.lt_of_lt_of_le h.1 b.size, fun j hj => by rw [e, e, e, e]; exact h.2 j hj⟩
def okAt (zs : List Z) (i : Nat) : Prop := canZ (zs.getD i noZ).1 (zs.getD i noZ).2.1 (zs.getD i noZ).2.2.1 ∧ ((zs.getD i noZ).1 = 18 ↔ i + 1 = zs.length)
theorem tok_can {z : Z} (h : canZ z.1 z.2.1 z.2.2.1) (h18 : z.1 ≠ 18) : canB (tokOf z) ∧ ((tokOf z).kind : Int) = z.1 ∧ ((tokOf z).num : Int) = z.2.2.1 ∧ (tokOf z).text = z.2.1 := by
  obtain ⟨k, x, m, a⟩ := z
  obtain ⟨h0, h⟩ := h
  simp only at h0 h h18
  have hk : 0 ≤ k := by omega
  have hm : 0 ≤ m := by
    by_cases h4 : k = 4
    · omega
    · rw [h0 h4]; omega
  have e1 : ((tokOf (k, x, m, a)).kind : Int) = k := by show ((k.toNat : Nat) : Int) = k; omega
  have e2 : ((tokOf (k, x, m, a)).num : Int) = m := by show ((m.toNat : Nat) : Int) = m; omega
  refine ⟨⟨fun h4 => ?_, ?_⟩, e1, e2, rfl⟩
  · have : k ≠ 4 := fun e => h4 (by omega)
    have := h0 this
    omega
  · have e3 : (tokOf (k, x, m, a)).text = x := rfl
    rw [e3]
    rcases h with ⟨h1 | h1, h2⟩ | ⟨h1, h2⟩ | ⟨h1, h2, h3⟩ | ⟨h1, h2⟩ | h1 | ⟨h1, h2, h3⟩
    · exact Or.inl ⟨Or.inl (by omega), h2⟩
    · exact Or.inl ⟨Or.inr (by omega), h2⟩
    · exact Or.inr (Or.inl ⟨by omega, h2⟩)
    · exact Or.inr (Or.inr (Or.inl ⟨by omega, h2, by omega⟩))
    · exact Or.inr (Or.inr (Or.inr (Or.inl ⟨by omega, h2⟩)))
    · exact Or.inr (Or.inr (Or.inr (Or.inr (Or.inl (by omega)))))
    · exact Or.inr (Or.inr (Or.inr (Or.inr (Or.inr ⟨by omega, by omega, h3⟩))))
theorem pr_snoc : ∀ (ts : List Tok) (t : Tok), ts ≠ [] → pr (ts ++ [t]) = pr ts ++ 32 :: wr t := by
  intro ts
  induction ts with
  | nil => intro t h; exact absurd rfl h
  | cons a r ih =>
    intro t _
    cases r with
    | nil => rfl
    | cons b r =>
      show wr a ++ 32 :: pr ((b :: r) ++ [t]) = (wr a ++ 32 :: pr (b :: r)) ++ 32 :: wr t
      rw [ih t (by simp)]
      simp
theorem own_congrF {w w' : World} {base : Nat} {v : Value} {n : Nat} {xs : List Value} (h : w.ownsRowF base 5 1 v n xs) (b : Bl w w') : w'.ownsRowF base 5 1 v n xs := by
  refine ⟨h.1, ?_⟩
  rcases h.2 with h2 | ⟨g, cap, cur, fz, rfl, h1, h2, h3⟩
  · exact Or.inl h2
  · exact Or.inr ⟨g, cap, cur, fz, rfl, h1, (b.block g (lt_of_heap h2)).trans h2, h3⟩
theorem bld_keep {w w' : World} {B b : Nat} {bs : List Value} (h : Lib.IsBuilderF 47 5 B b bs w) (k : Bl w w') : Lib.IsBuilderF 47 5 B b bs w' := by
  have key : ∀ p, Lib.BuilderAtF 47 5 B b p bs w → Lib.BuilderAtF 47 5 B b p bs w' := fun p ⟨hB, v, hb, ho, hn⟩ => ⟨hB, v, (k.block b (lt_of_heap hb)).trans hb, own_congrF ho k, hn⟩
  rcases h with h | h
  · exact Or.inl (key _ h)
  · exact Or.inr (key _ h)
theorem bld_new (w : World) : Lib.IsBuilderF 47 5 w.heap.size w.heap.size [] (w.alloc (.cells #[.pointer none, .slice none 0 0] 47)) :=
  Lib.IsBuilderF.of (Or.inl ⟨Nat.le_refl _, .slice none 0 0, heap_alloc_new w _, World.ownsRow_nil _ _ _ _, by simp [Value.ownBlock]⟩)
end Go.Proofs.YtimlomobbnnehaaGreatDoor

namespace Go.Proofs.YtimlomobbnnehaaGreatDoor
open Go.RowKit Go.Maps
set_option linter.unusedVariables false
set_option linter.unusedSimpArgs false
/-- what Print writes of a list that it takes -/
def prZ (zs : List Z) : Bs := pr ((zs.take (zs.length - 1)).map tokOf)
def goodZ (zs : List Z) : Prop := ∀ i, i < zs.length → okAt zs i
theorem prZ_step {zs : List Z} {i : Nat} (h : i < zs.length) : pr ((zs.take (i + 1)).map tokOf) = if i = 0 then wr (tokOf (zs.getD i noZ)) else pr ((zs.take i).map tokOf) ++ 32 :: wr (tokOf (zs.getD i noZ)) := by
  have e : zs.take (i + 1) = zs.take i ++ [zs.getD i noZ] := by
    rw [List.take_succ_eq_append_getElem h, List.getD_eq_getElem?_getD, List.getElem?_eq_getElem h]
    rfl
  rw [e, List.map_append]
  by_cases hi : i = 0
  · subst hi
    rw [if_pos rfl]
    rfl
  · rw [if_neg hi]
    refine pr_snoc _ _ ?_
    intro h2
    have h3 : ((zs.take i).map tokOf).length = 0 := by rw [h2]; rfl
    rw [List.length_map, List.length_take] at h3
    omega
theorem bytes_app (a b : Bs) : Lib.byteCells (a ++ 32 :: b) = Lib.byteCells a ++ ([.int .u8 32] ++ Lib.byteCells b) := by simp [Lib.byteCells]
set_option maxHeartbeats 8000000 in
set_option maxRecDepth 1000000 in
theorem print_ok (g off c : Nat) (zs : List Z) (w : World) (hT : Tab w) (hP : Pw w) (hr : RdZ w g off zs) (h0 : 0 < zs.length) (hn : zs.length ≤ 268435456) (hc : zs.length ≤ c) (hcm : c ≤ 9223372036854775807)
    (htx : ∀ i, i < zs.length → (zs.getD i noZ).2.1.length ≤ 268435456) (hpl : goodZ zs → ∀ i, i < zs.length → (pr ((zs.take i).map tokOf)).length ≤ 1099511627776) :
    Calls Tryz.prog 9 #[.slice (some ⟨g, off, none⟩) zs.length c] w fun e w' => ((goodZ zs ∧ e = .returned (.tuple #[.string (ba (prZ zs)), .int .i64 0])) ∨ (¬ goodZ zs ∧ e = .returned (.tuple #[.string ⟨#[]⟩, .int .i64 1]))) ∧ Bl w w' := by
  obtain ⟨n, hn'⟩ : ∃ n, zs.length = n := ⟨_, rfl⟩
  have HR := mkHid hr
  have HX := mkHid htx
  have HL := mkHid hpl
  have HC := mkHid (fun i (hi : i < zs.length) W => canBe_ok (zs.getD i noZ).1 (ba (zs.getD i noZ).2.1) (zs.getD i noZ).2.2.1 (zs.getD i noZ).2.2.2 W (by rw [← lst_len, lst_ba]; have := htx i hi; omega))
  simp only [lst_ba] at HC
  rw [hn'] at h0 hn hc HC HX HL ⊢
  have HN := mkHid hn'
  clear hr htx hpl hn'
  have v0 : IntKind.i64.wrap ((n : Int) - 1) = (n : Int) - 1 := wrap_id _ (by omega) (by omega)
  have v1 : ¬ (n : Int) - 1 < 0 := by omega
  have v2 : (n : Int) - 1 ≤ c := by omega
  have v3 : (0 : Int) ≤ (n : Int) - 1 := by omega
  have v4 : ((n : Int) - 1).toNat = n - 1 := by omega
  have HT := mkHid hT
  have HP := mkHid hP
  clear hT hP
  go_enter Tryz.func9, Tryz.ntmps9
  go_wp2_with fail
  go_loopw [17] (fun q wr => ∃ i : Nat, i ≤ n ∧ q = .int .i64 i ∧ Hid (∀ j, j < i → okAt zs j) ∧ Hid (Bl w wr)) (fun q _ => n - (intOf q).toNat)
  case atStart => exact ⟨0, Nat.zero_le _, rfl, (fun j hj => by omega), Bl.refl _⟩
  case round =>
    obtain ⟨i, hi, rfl, hok, hbl⟩ := hrel
    by_cases hin : i < n
    · have hii : (i : Int) < n := by omega
      have r1 := mkHid (HR.out.keep hbl.out)
      obtain ⟨x0, x1, x2, x3⟩ := r1.out.2 i (by rw [HN.out]; exact hin)
      have hgl := r1.out.1
      have hcb := HC.out i hin
      have hI : Hid (okAt zs i ↔ (canZ (zs.getD i noZ).1 (zs.getD i noZ).2.1 (zs.getD i noZ).2.2.1 ∧ ((zs.getD i noZ).1 = 18 ↔ i + 1 = n))) := mkHid (by unfold okAt; rw [HN.out])
      generalize zs.getD i noZ = z at *
      obtain ⟨k, x, m, a⟩ := z
      dsimp only at *
      have HW : Hid (∀ V, Bl (wr.alloc (.cells #[.int .i64 k, .string (ba x), .int .i64 m, .int .i64 a] 28)) V → Bl w V) := mkHid fun V hV => (hbl.out.trans (Bl.alloc _ _)).trans hV
      by_cases hcz : canZ k x m
      · have dc : decide (canZ k x m) = true := decide_eq_true hcz
        rw [dc] at hcb
        have HB := mkHid hcb
        have hcz' := mkHid hcz
        by_cases h18 : k = 18
        · by_cases hl : i + 1 = n
          · skip
            have b1 : (k == 18) = true := by simpa using h18
            have b2 : ((i : Int) == (n : Int) - 1) = true := by simp; omega
            have hl' := mkHid hl
            have h18' := mkHid h18
            clear hcb dc hcz hl h18
            go_wp2_with (go_at_call 15; refine (HB.out _).mono ?_; rintro e w1 ⟨rfl, b9⟩; have hz := blk_in b9; have c0 : w1.cell? ⟨wr.heap.size, 0, none⟩ = some (.int .i64 k) := by rw [cell_in hz]; rfl)
            go_roundw
            case rel => exact ⟨i + 1, by omega, by simp, (fun j hj => by
              by_cases he : j = i
              · rw [he]; exact hI.out.2 ⟨hcz'.out, ⟨fun _ => hl'.out, fun _ => h18'.out⟩⟩
              · exact hok.out j (by omega)), HW.out _ b9⟩
            case measure => simp [intOf]; omega
          · skip
            have b1 : (k == 18) = true := by simpa using h18
            have b2 : ((i : Int) == (n : Int) - 1) = false := by simp; omega
            have hl' := mkHid hl
            have h18' := mkHid h18
            clear hcb dc hcz hl h18
            go_wp2_with (go_at_call 15; refine (HB.out _).mono ?_; rintro e w1 ⟨rfl, b9⟩; have hz := blk_in b9; have c0 : w1.cell? ⟨wr.heap.size, 0, none⟩ = some (.int .i64 k) := by rw [cell_in hz]; rfl)
            go_ret2
            exact ⟨Or.inr ⟨fun h => hl'.out ((hI.out.1 (h i (by rw [HN.out]; exact hin))).2.1 h18'.out), rfl⟩, HW.out _ b9⟩
        · by_cases hl : i + 1 = n
          · skip
            have b1 : (k == 18) = false := by simpa using h18
            have b2 : ((i : Int) == (n : Int) - 1) = true := by simp; omega
            have hl' := mkHid hl
            have h18' := mkHid h18
            clear hcb dc hcz hl h18
            go_wp2_with (go_at_call 15; refine (HB.out _).mono ?_; rintro e w1 ⟨rfl, b9⟩; have hz := blk_in b9; have c0 : w1.cell? ⟨wr.heap.size, 0, none⟩ = some (.int .i64 k) := by rw [cell_in hz]; rfl)
            go_ret2
            exact ⟨Or.inr ⟨fun h => h18'.out ((hI.out.1 (h i (by rw [HN.out]; exact hin))).2.2 hl'.out), rfl⟩, HW.out _ b9⟩
          · skip
            have b1 : (k == 18) = false := by simpa using h18
            have b2 : ((i : Int) == (n : Int) - 1) = false := by simp; omega
            have hl' := mkHid hl
            have h18' := mkHid h18
            clear hcb dc hcz hl h18
            go_wp2_with (go_at_call 15; refine (HB.out _).mono ?_; rintro e w1 ⟨rfl, b9⟩; have hz := blk_in b9; have c0 : w1.cell? ⟨wr.heap.size, 0, none⟩ = some (.int .i64 k) := by rw [cell_in hz]; rfl)
            go_roundw
            case rel => exact ⟨i + 1, by omega, by simp, (fun j hj => by
              by_cases he : j = i
              · rw [he]; exact hI.out.2 ⟨hcz'.out, ⟨fun h => absurd h h18'.out, fun h => absurd h hl'.out⟩⟩
              · exact hok.out j (by omega)), HW.out _ b9⟩
            case measure => simp [intOf]; omega
      · have dc : decide (canZ k x m) = false := decide_eq_false hcz
        rw [dc] at hcb
        have HB := mkHid hcb
        have hcz' := mkHid hcz
        clear hcb dc hcz
        go_wp2_with (go_at_call 15; refine (HB.out _).mono ?_; rintro e w1 ⟨rfl, b9⟩; have hz := blk_in b9; have c0 : w1.cell? ⟨wr.heap.size, 0, none⟩ = some (.int .i64 k) := by rw [cell_in hz]; rfl)
        go_ret2
        exact ⟨Or.inr ⟨fun h => hcz'.out (hI.out.1 (h i (by rw [HN.out]; exact hin))).1, rfl⟩, HW.out _ b9⟩
    · have hie : ¬ (i : Int) < n := by omega
      have hgood : Hid (goodZ zs) := mkHid fun j hj => hok.out j (by rw [HN.out] at hj; omega)
      obtain ⟨W1, hW1⟩ : ∃ W1, W1 = wr := ⟨_, rfl⟩
      subst hW1
      have HB1 := mkHid hbl.out
      clear HC hok hbl
      go_wp2_with fail
      go_loopw [39] (fun q V => ∃ i : Nat, i ≤ n - 1 ∧ q = .int .i64 i ∧ Hid (Lib.IsBuilderF 47 5 W1.heap.size W1.heap.size (Lib.byteCells (pr ((zs.take i).map tokOf))) V ∧ Bl W1 V)) (fun q _ => n - 1 - (intOf q).toNat)
      case atStart => exact ⟨0, Nat.zero_le _, rfl, bld_new _, Bl.alloc _ _⟩
      case round =>
        obtain ⟨i, hi, rfl, hq'⟩ := hrel
        obtain ⟨wr0, hwr0⟩ : ∃ wr0, wr0 = wr := ⟨_, rfl⟩
        subst hwr0
        have hq := hq'.out
        have hbW : W1.heap.size < wr0.heap.size := by
          obtain ⟨p, hB, v, hb, _⟩ : ∃ p, Lib.BuilderAtF 47 5 W1.heap.size W1.heap.size p (Lib.byteCells (pr ((zs.take i).map tokOf))) wr0 := by
            rcases hq.1 with h | h
            · exact ⟨_, h⟩
            · exact ⟨_, h⟩
          exact lt_of_heap hb
        have r1 := mkHid (HR.out.keep (HB1.out.trans hq.2))
        by_cases hin2 : i < n - 1
        · have hii : (i : Int) < ((n - 1 : Nat) : Int) := by omega
          have hii2 : (i : Int) < (n : Int) - 1 := by omega
          by_cases hi0 : i = 0
          · skip
            obtain ⟨x0, x1, x2, x3⟩ := r1.out.2 i (by rw [HN.out]; omega)
            have hgl := r1.out.1
            obtain ⟨hcz, h18'⟩ := hgood.out i (by rw [HN.out]; omega)
            have h18 : (zs.getD i noZ).1 ≠ 18 := fun h => by have := h18'.1 h; rw [HN.out] at this; omega
            have hst := prZ_step (zs := zs) (i := i) (by rw [HN.out]; omega)
            have hl1 := HL.out hgood.out i (by omega)
            have hl2 := HL.out hgood.out (i + 1) (by omega)
            have htx := HX.out i (by omega)
            obtain ⟨tc1, tc2, tc3, tc4⟩ := tok_can hcz h18
            generalize zs.getD i noZ = z at *
            obtain ⟨k, x, m, a⟩ := z
            obtain ⟨t, ht⟩ : ∃ t, t = tokOf (k, x, m, a) := ⟨_, rfl⟩
            rw [← ht] at tc1 tc2 tc3 tc4 hst
            dsimp only at *
            have HWr : Hid (∀ V, Bl W1 V → Calls Tryz.prog 18 #[.agg #[.int .i64 k, .string (ba x), .int .i64 m, .int .i64 a]] V fun e w' => e = .returned (.string (ba (wr t))) ∧ Bl V w') := mkHid fun V hV => by
              have := written_ok t a V (HT.out.mono (HB1.out.trans hV)) (HP.out.mono (HB1.out.trans hV)) tc1 (by rw [tc4]; exact htx)
              rw [tc2, tc3, tc4] at this
              exact this
            have hws : (ba (wr t)).size = (wr t).length := by rw [← lst_len, lst_ba]
            have hsc : Lib.strCells (ba (wr t)) = Lib.byteCells (wr t) := by unfold Lib.strCells Lib.byteCells; rw [show (ba (wr t)).data.toList = wr t from lst_ba _]
            have hbc : (Lib.byteCells (pr ((zs.take i).map tokOf))).length = (pr ((zs.take i).map tokOf)).length := Lib.byteCells_length _
            rw [if_pos hi0] at hst
            rw [hst] at hl2
            have hi0i : ¬ (0 : Int) < i := by omega
            have hpe : Lib.byteCells (pr ((zs.take i).map tokOf)) = [] := by rw [hi0]; rfl
            have HST := mkHid hst
            have HI0 := mkHid hi0
            clear hcz h18' h18 tc1 tc2 tc3 tc4 ht hst hi0
            go_wp2_with (first
              | (go_at_call 18; refine (HWr.out _ (hq.2.trans (Bl.alloc _ _))).mono ?_; rintro e w2 ⟨rfl, b2⟩)
              | (go_at_call 17; refine (WriteString_k W1.heap.size W1.heap.size _ (ba (wr t)) _ (bld_keep hq.1 ((Bl.alloc _ _).trans b2)) (by rw [hbc, hws]; omega) ((hq.2.trans (Bl.alloc _ _)).trans b2).size).mono ?_; rintro e w3 ⟨rfl, q1, q2, q3⟩))
            go_roundw
            case rel => exact ⟨i + 1, by omega, by simp, (by rw [hpe, List.nil_append, hsc] at q1; rw [HST.out]; exact Or.inr q1), Below.trans ((hq.2.trans (Bl.alloc _ _)).trans b2) q2⟩
            case measure => simp [intOf]; omega
          · skip
            obtain ⟨x0, x1, x2, x3⟩ := r1.out.2 i (by rw [HN.out]; omega)
            have hgl := r1.out.1
            obtain ⟨hcz, h18'⟩ := hgood.out i (by rw [HN.out]; omega)
            have h18 : (zs.getD i noZ).1 ≠ 18 := fun h => by have := h18'.1 h; rw [HN.out] at this; omega
            have hst := prZ_step (zs := zs) (i := i) (by rw [HN.out]; omega)
            have hl1 := HL.out hgood.out i (by omega)
            have hl2 := HL.out hgood.out (i + 1) (by omega)
            have htx := HX.out i (by omega)
            obtain ⟨tc1, tc2, tc3, tc4⟩ := tok_can hcz h18
            generalize zs.getD i noZ = z at *
            obtain ⟨k, x, m, a⟩ := z
            obtain ⟨t, ht⟩ : ∃ t, t = tokOf (k, x, m, a) := ⟨_, rfl⟩
            rw [← ht] at tc1 tc2 tc3 tc4 hst
            dsimp only at *
            have HWr : Hid (∀ V, Bl W1 V → Calls Tryz.prog 18 #[.agg #[.int .i64 k, .string (ba x), .int .i64 m, .int .i64 a]] V fun e w' => e = .returned (.string (ba (wr t))) ∧ Bl V w') := mkHid fun V hV => by
              have := written_ok t a V (HT.out.mono (HB1.out.trans hV)) (HP.out.mono (HB1.out.trans hV)) tc1 (by rw [tc4]; exact htx)
              rw [tc2, tc3, tc4] at this
              exact this
            have hws : (ba (wr t)).size = (wr t).length := by rw [← lst_len, lst_ba]
            have hsc : Lib.strCells (ba (wr t)) = Lib.byteCells (wr t) := by unfold Lib.strCells Lib.byteCells; rw [show (ba (wr t)).data.toList = wr t from lst_ba _]
            have hbc : (Lib.byteCells (pr ((zs.take i).map tokOf))).length = (pr ((zs.take i).map tokOf)).length := Lib.byteCells_length _
            rw [if_neg hi0] at hst
            rw [hst] at hl2
            have hi0i : (0 : Int) < i := by omega
            have hwl : (wr t).length ≤ 1099511627776 := by rw [List.length_append, List.length_cons] at hl2; omega
            have HST := mkHid hst
            clear hcz h18' h18 tc1 tc2 tc3 tc4 ht hst hi0
            go_wp2_with (first
              | (go_at_call 16; refine (WriteByte_k W1.heap.size W1.heap.size _ 32 _ (bld_keep hq.1 (Bl.alloc _ _)) (by rw [hbc]; omega) (hq.2.trans (Bl.alloc _ _)).size).mono ?_; rintro e w1 ⟨rfl, p1, p2, p3⟩
                 have bw1 : Bl W1 w1 := Below.trans (hq.2.trans (Bl.alloc _ _)) p2
                 have hz := p3 wr0.heap.size _ (heap_alloc_new wr0 _) (by have := hbW; intro e; injection e with e; omega) (by intro c fz h; injection h with h1 h2; cases h2)
                 have d0 : w1.cell? ⟨wr0.heap.size, 0, none⟩ = some (.int .i64 k) := by rw [cell_in hz]; rfl
                 have d1 : w1.cell? ⟨wr0.heap.size, 1, none⟩ = some (.string (ba x)) := by rw [cell_in hz]; rfl
                 have d2 : w1.cell? ⟨wr0.heap.size, 2, none⟩ = some (.int .i64 m) := by rw [cell_in hz]; rfl
                 have d3 : w1.cell? ⟨wr0.heap.size, 3, none⟩ = some (.int .i64 a) := by rw [cell_in hz]; rfl)
              | (go_at_call 18; refine (HWr.out _ bw1).mono ?_; rintro e w2 ⟨rfl, b2⟩)
              | (go_at_call 17; refine (WriteString_k W1.heap.size W1.heap.size _ (ba (wr t)) _ (bld_keep (Or.inr p1) b2) (by rw [List.length_append, hbc, hws]; show _ + 1 + _ ≤ _; omega) (bw1.trans b2).size).mono ?_; rintro e w3 ⟨rfl, q1, q2, q3⟩))
            go_roundw
            case rel => exact ⟨i + 1, by omega, by simp, (by rw [hsc, List.append_assoc] at q1; rw [HST.out, bytes_app]; exact Or.inr q1), Below.trans (bw1.trans b2) q2⟩
            case measure => simp [intOf]; omega
        · have hii : ¬ (i : Int) < ((n - 1 : Nat) : Int) := by omega
          have hii2 : ¬ (i : Int) < (n : Int) - 1 := by omega
          have hie2 : Hid (pr ((zs.take i).map tokOf) = prZ zs) := mkHid (by unfold prZ; rw [HN.out, show i = n - 1 by omega])
          have hq1 := mkHid hq.1
          have hq2 := mkHid hq.2
          rw [hie2.out] at hq1
          clear hq hq' hie2
          go_wp2_with (go_at_call 19; refine (String_k W1.heap.size W1.heap.size (prZ zs) _ hq1.out hq2.out.size).mono ?_; rintro e w2 ⟨rfl, p1, p2, p3⟩)
          go_ret2
          exact ⟨Or.inl ⟨hgood.out, rfl⟩, HB1.out.trans (Below.trans hq2.out p2)⟩
end Go.Proofs.YtimlomobbnnehaaGreatDoor

namespace Go.Proofs.YtimlomobbnnehaaGreatDoor
open Go.RowKit Go.Maps
set_option linter.unusedVariables false
set_option linter.unusedSimpArgs false
/-- how much a list of tokens weighs (the bound of DOC.md) -/
def wt (zs : List Z) : Nat := (zs.map fun z => 24 + z.2.1.length).sum
theorem wt_step {zs : List Z} {i : Nat} (h : i < zs.length) : wt (zs.take (i + 1)) = wt (zs.take i) + 24 + (zs.getD i noZ).2.1.length := by
  have e : zs.take (i + 1) = zs.take i ++ [zs.getD i noZ] := by
    rw [List.take_succ_eq_append_getElem h, List.getD_eq_getElem?_getD, List.getElem?_eq_getElem h]
    rfl
  rw [e]
  unfold wt
  simp
  omega
theorem beyond_nil (p : Option Addr) (c : Nat) (w : World) : Calls Tryz.prog 4 #[.slice p 0 c] w fun e w' => e = .returned (.bool false) ∧ w' = w := by
  go_enter Tryz.func4, Tryz.ntmps4
  go_wp2
  go_loopw [4] (fun q wr => q = .int .i64 0 ∧ wr = w) (fun q _ => 0)
  case atStart => exact ⟨rfl, rfl⟩
  case round =>
    obtain ⟨rfl, rfl⟩ := hrel
    go_wp2
    go_wp2
    go_ret
    exact ⟨rfl, rfl⟩
set_option maxHeartbeats 8000000 in
set_option maxRecDepth 1000000 in
theorem beyond_ok (g off c : Nat) (zs : List Z) (w : World) (hr : RdZ w g off zs) (hn : zs.length ≤ 140737488355328) (hs : ∀ i, i < zs.length → (zs.getD i noZ).2.1.length ≤ 140737488355328) :
    Calls Tryz.prog 4 #[.slice (some ⟨g, off, none⟩) zs.length c] w fun e w' => (e = .returned (.bool true) ∨ (e = .returned (.bool false) ∧ wt zs ≤ 268435456)) ∧ Bl w w' := by
  obtain ⟨n, hn'⟩ : ∃ n, zs.length = n := ⟨_, rfl⟩
  have HR := mkHid hr
  have HX := mkHid hs
  rw [hn'] at hn HX ⊢
  have HN := mkHid hn'
  clear hr hs hn'
  go_enter Tryz.func4, Tryz.ntmps4
  go_wp2_with fail
  go_loopw [3, 4] (fun t q wr => ∃ i u : Nat, i ≤ n ∧ q = .int .i64 i ∧ t = .int .i64 u ∧ u ≤ 268435456 ∧ Hid (wt (zs.take i) = u) ∧ Hid (Bl w wr)) (fun _ q _ => n - (intOf q).toNat)
  case atStart => exact ⟨0, 0, Nat.zero_le _, rfl, rfl, Nat.zero_le _, rfl, Bl.refl _⟩
  case round =>
    obtain ⟨i, u, hi, rfl, rfl, hu, hw, hbl⟩ := hrel
    by_cases hin : i < n
    · have hii : (i : Int) < n := by omega
      have r1 := mkHid (HR.out.keep hbl.out)
      obtain ⟨x0, x1, x2, x3⟩ := r1.out.2 i (by rw [HN.out]; exact hin)
      have hgl := r1.out.1
      have hst := mkHid (wt_step (zs := zs) (i := i) (by rw [HN.out]; exact hin))
      have hxl := HX.out i hin
      generalize zs.getD i noZ = z at *
      obtain ⟨k, x, m, a⟩ := z
      dsimp only at *
      have hxs : (ba x).size = x.length := by rw [← lst_len, lst_ba]
      have v1 : IntKind.i64.wrap ((u : Int) + 24) = (u : Int) + 24 := wrap_id _ (by omega) (by omega)
      by_cases ha : (268435456 : Int) < (u : Int) + 24
      · go_wp2_with fail
        go_ret
        exact ⟨Or.inl rfl, hbl.out⟩
      · have v2 : IntKind.i64.wrap (268435456 - ((u : Int) + 24)) = 268435456 - ((u : Int) + 24) := wrap_id _ (by omega) (by omega)
        by_cases hb : 268435456 - ((u : Int) + 24) < ((ba x).size : Int)
        · have db : decide (268435456 - ((u : Int) + 24) < ((ba x).size : Int)) = true := decide_eq_true hb
          clear hxs
          have hb' := mkHid hb
          clear hb
          go_wp2_with fail
          go_ret
          exact ⟨Or.inl rfl, hbl.out⟩
        · have db : decide (268435456 - ((u : Int) + 24) < ((ba x).size : Int)) = false := decide_eq_false hb
          have v3 : IntKind.i64.wrap ((u : Int) + 24 + ((ba x).size : Int)) = (u : Int) + 24 + ((ba x).size : Int) := wrap_id _ (by omega) (by omega)
          have hxs' := mkHid hxs
          clear hxs
          go_wp2_with fail
          go_roundw
          case rel => exact ⟨i + 1, u + 24 + x.length, by omega, by simp, by simp [hxs'.out], (by rw [hxs'.out] at hb; omega), (by unfold Hid; rw [hst.out, hw.out]), hbl⟩
          case measure => simp [intOf]; omega
    · have hie : ¬ (i : Int) < n := by omega
      have hwn : Hid (wt zs = u) := mkHid (by rw [← hw.out, show i = zs.length by rw [HN.out]; omega, List.take_length])
      go_wp2_with fail
      go_wp2_with fail
      go_ret
      exact ⟨Or.inr ⟨rfl, by rw [hwn.out]; exact hu⟩, hbl.out⟩
end Go.Proofs.YtimlomobbnnehaaGreatDoor

namespace Go.Proofs.YtimlomobbnnehaaGreatDoor
open Go.RowKit Go.Maps
set_option linter.unusedVariables false
set_option linter.unusedSimpArgs false
def zOf (x : Tok × Nat) : Z := ((x.1.kind : Int), x.1.text, (x.1.num : Int), (x.2 : Int))
theorem zOf_get (ts : List (Tok × Nat)) {j : Nat} (hj : j < ts.length) : (ts.map zOf).getD j noZ = zOf (ts.getD j noT) := by
  rw [List.getD_eq_getElem?_getD, List.getElem?_map, List.getElem?_eq_getElem hj, List.getD_eq_getElem?_getD, List.getElem?_eq_getElem hj]
  rfl
theorem RdT.z {w : World} {g n cap : Nat} {ts : List (Tok × Nat)} (h : RdT w (.slice (some ⟨g, 0, none⟩) n cap) ts) (h0 : 0 < ts.length) : RdZ w g 0 (ts.map zOf) := by
  obtain ⟨p, c, e, hp⟩ := h.at_
  injection e with e1 e2 e3
  obtain ⟨b, off, e4, hb, hc⟩ := hp h0
  subst e1
  injection e4 with e4
  injection e4 with e5 e6
  subst e5 e6
  refine ⟨hb, fun j hj => ?_⟩
  rw [List.length_map] at hj
  rw [zOf_get ts hj]
  exact hc j hj
/-- but for places -/
def AgreeZ (za zb : List Z) : Prop := zb.length = za.length ∧ ∀ j, j < za.length → (zb.getD j noZ).1 = (za.getD j noZ).1 ∧ (zb.getD j noZ).2.1 = (za.getD j noZ).2.1 ∧ (zb.getD j noZ).2.2.1 = (za.getD j noZ).2.2.1
set_option maxHeartbeats 8000000 in
set_option maxRecDepth 1000000 in
theorem same_z (ga fa ca gb fb cb : Nat) (za zb : List Z) (w : World) (ha : RdZ w ga fa za) (hb : RdZ w gb fb zb) (hs : AgreeZ za zb) (hmax : za.length ≤ 140737488355328) :
    Calls Tryz.prog 12 #[.slice (some ⟨ga, fa, none⟩) za.length ca, .slice (some ⟨gb, fb, none⟩) zb.length cb, .bool false] w fun e w' => e = .returned (.bool true) ∧ Bl w w' := by
  obtain ⟨hlen, hag⟩ := hs
  have HA := mkHid ha
  have HB := mkHid hb
  have HG := mkHid hag
  clear ha hb hag
  rw [hlen]
  go_enter Tryz.func12, Tryz.ntmps12
  go_wp2_with fail
  go_loopw [7] (fun q wr => ∃ k : Nat, k ≤ za.length ∧ q = .int .i64 k ∧ Hid (Bl w wr)) (fun q _ => za.length - (intOf q).toNat)
  case atStart => exact ⟨0, Nat.zero_le _, rfl, Bl.refl _⟩
  case round =>
    obtain ⟨k, hk, rfl, hbl⟩ := hrel
    by_cases hlt : k < za.length
    · have hki : (k : Int) < za.length := by omega
      obtain ⟨hga, hca⟩ := HA.out.keep hbl.out
      obtain ⟨hgb, hcb⟩ := HB.out.keep hbl.out
      obtain ⟨x0, x1, x2, x3⟩ := hca k hlt
      obtain ⟨y0, y1, y2, y3⟩ := hcb k (by omega)
      obtain ⟨g1, g2, g3⟩ := HG.out k hlt
      rw [g1] at y0
      rw [g2] at y1
      rw [g3] at y2
      clear hca hcb g1 g2 g3
      generalize za.getD k noZ = z at *
      obtain ⟨tk, tt, tn, tp⟩ := z
      generalize (zb.getD k noZ).2.2.2 = bp at *
      dsimp only at *
      go_wp2_with fail
      go_quiet (fail)
      go_wp2_with fail
      go_roundw
      case rel => exact ⟨k + 1, by omega, by simp, hbl.out.trans (Bl.drewN _ _)⟩
      case measure => simp [intOf]; omega
    · have hke : k = za.length := by omega
      subst hke
      go_wp2
      go_wp2
      go_ret
      exact ⟨rfl, hbl.out⟩
end Go.Proofs.YtimlomobbnnehaaGreatDoor

namespace Go.Proofs.YtimlomobbnnehaaGreatDoor
open Go.RowKit Go.Maps
set_option linter.unusedVariables false
set_option linter.unusedSimpArgs false
theorem AgreeZ.tok {za zb : List Z} (h : AgreeZ za zb) : zb.map tokOf = za.map tokOf := by
  refine List.ext_getElem (by simp [h.1]) fun j h1 h2 => ?_
  rw [List.length_map] at h1 h2
  rw [List.getElem_map, List.getElem_map]
  obtain ⟨e1, e2, e3⟩ := h.2 j h2
  rw [List.getD_eq_getElem?_getD, List.getElem?_eq_getElem h1, List.getD_eq_getElem?_getD, List.getElem?_eq_getElem h2] at e1 e2 e3
  unfold tokOf
  rw [show zb[j].1 = za[j].1 from e1, show zb[j].2.1 = za[j].2.1 from e2, show zb[j].2.2.1 = za[j].2.2.1 from e3]
theorem AgreeZ.take {za zb : List Z} (h : AgreeZ za zb) (i : Nat) : pr ((zb.take i).map tokOf) = pr ((za.take i).map tokOf) := by
  rw [List.map_take, List.map_take, h.tok]
theorem AgreeZ.pr {za zb : List Z} (h : AgreeZ za zb) : prZ zb = prZ za := by
  unfold prZ
  rw [h.1]
  exact h.take _
theorem AgreeZ.good {za zb : List Z} (h : AgreeZ za zb) (g : goodZ za) : goodZ zb := by
  intro i hi
  rw [h.1] at hi
  obtain ⟨e1, e2, e3⟩ := h.2 i hi
  have := g i hi
  unfold okAt at this ⊢
  rw [e1, e2, e3, h.1]
  exact this
theorem nDig_le : ∀ (k u : Nat), u < 10 ^ (k + 1) → Lib.nDigits u ≤ k + 1 := by
  intro k
  induction k with
  | zero => intro u h; rw [Lib.nDigits_small (by simpa using h)]; exact Nat.le_refl _
  | succ k ih =>
    intro u h
    by_cases hu : u < 10
    · rw [Lib.nDigits_small hu]; omega
    · rw [Lib.nDigits_big hu]
      have := ih (u / 10) (by rw [Nat.pow_succ] at h; omega)
      omega
theorem wr_len {t : Tok} (h : canB t) : (wr t).length ≤ 2 * t.text.length + 12 := by
  obtain ⟨k, x, m⟩ := t
  obtain ⟨h0, h⟩ := h
  simp only at h0 h ⊢
  have hq := qt_len x
  rcases h with ⟨h1 | h1, h2⟩ | ⟨h1, h2⟩ | ⟨h1, h2, h3⟩ | ⟨h1, h2⟩ | h1 | ⟨h1, h2, h3⟩
  · subst h1
    show x.length ≤ _
    omega
  · subst h1
    show (x ++ [58]).length ≤ _
    simp
    omega
  · subst h1
    show x.length ≤ _
    omega
  · subst h1
    show (Lib.decDigits m).length ≤ _
    rw [Lib.decDigits_length]
    have := nDig_le 9 m (by omega)
    omega
  · subst h1
    show (35 :: x).length ≤ _
    simp
    omega
  · subst h1
    show (39 :: (qt x ++ [39])).length ≤ _
    simp
    omega
  · have : k = 7 ∨ k = 8 ∨ k = 9 ∨ k = 10 ∨ k = 11 ∨ k = 12 ∨ k = 13 ∨ k = 14 ∨ k = 15 ∨ k = 16 ∨ k = 17 := by omega
    rcases this with rfl | rfl | rfl | rfl | rfl | rfl | rfl | rfl | rfl | rfl | rfl <;> (unfold wr markT; simp)
theorem pr_len {zs : List Z} (g : goodZ zs) : ∀ i, i < zs.length → (pr ((zs.take i).map tokOf)).length ≤ 2 * wt (zs.take i) := by
  intro i
  induction i with
  | zero => intro _; exact Nat.zero_le _
  | succ i ih =>
    intro h
    have h1 := ih (by omega)
    obtain ⟨hc, h18⟩ := g i (by omega)
    have hne : (zs.getD i noZ).1 ≠ 18 := fun e => by have := h18.1 e; omega
    obtain ⟨c1, _, _, c4⟩ := tok_can hc hne
    have h2 := wr_len c1
    rw [c4] at h2
    rw [prZ_step (by omega), wt_step (by omega)]
    split
    · omega
    · rw [List.length_append, List.length_cons]
      omega
end Go.Proofs.YtimlomobbnnehaaGreatDoor

namespace Go.Proofs.YtimlomobbnnehaaGreatDoor
open Go.RowKit Go.Maps
set_option linter.unusedVariables false
set_option linter.unusedSimpArgs false
theorem zz_in {w W : World} (h : Bl (w.alloc (.cells #[.int .i64 0, .int .i64 0] 38)).drew W) : W.heap[w.heap.size]? = some (.cells #[.int .i64 0, .int .i64 0] 38 (0, 0)) := by
  have := h.block w.heap.size (by show w.heap.size < (w.heap.push _).size; simp)
  rw [this]
  exact heap_alloc_new w _
theorem tokens_w {s : ByteArray} {ts : List (Tok × Nat)} {c a : Nat} (hl : LexR (lst s) ts c a) (hs : s.size ≤ 140737488355328) (h0 : 0 < ts.length) (w : World) (hT : Tab w) : Calls Tryz.prog 13 #[.string s] w fun e w' =>
    ∃ g cap, e = .returned (.tuple #[.slice (some ⟨g, 0, none⟩) ts.length cap, .agg #[.int .i64 c, .int .i64 a]]) ∧ RdT w' (.slice (some ⟨g, 0, none⟩) ts.length cap) ts ∧ w.heap.size ≤ g ∧ ts.length ≤ cap ∧ cap ≤ maxLen ∧ Bl w w' := by
  refine (tokens_is hl hs w hT).mono ?_
  rintro e w' ⟨v, rfl, ho, hb⟩
  have hr := RdT.own ho
  rcases ho.2 with ⟨rfl, h2⟩ | ⟨g, cap, cur, rfl, h1, h2, h3, h4, h5, h6⟩
  · omega
  · exact ⟨g, cap, rfl, hr, h1, h3, h4, hb⟩
theorem RdT.set {w : World} {g n c B i : Nat} {v : Value} {ts : List (Tok × Nat)} (h : RdT w (.slice (some ⟨g, 0, none⟩) n c) ts) (hB : g ≠ B) : RdT (w.setCell ⟨B, i, none⟩ v) (.slice (some ⟨g, 0, none⟩) n c) ts := by
  obtain ⟨p, c', e, hp⟩ := h.at_
  refine ⟨p, c', e, fun h0 => ?_⟩
  obtain ⟨b, off, rfl, hb, hc⟩ := hp h0
  injection e with e1 e2 e3
  injection e1 with e1
  injection e1 with e4 e5
  subst e4
  refine ⟨g, off, rfl, by rw [size_set]; exact hb, fun j hj => ?_⟩
  have e : ∀ k, (w.setCell ⟨B, i, none⟩ v).cell? ⟨g, k, none⟩ = w.cell? ⟨g, k, none⟩ := fun k => World.cell?_of_block (w := w) (Below.heap_setCell _ _ _ _ hB)
  rw [e, e, e, e]
  exact hc j hj
end Go.Proofs.YtimlomobbnnehaaGreatDoor

namespace Go.Proofs.YtimlomobbnnehaaGreatDoor
open Go.RowKit Go.Maps
set_option linter.unusedVariables false
set_option linter.unusedSimpArgs false
theorem good_lex {zs : List Z} (g : goodZ zs) (h0 : 0 < zs.length) : ∃ us, Lx 0 (prZ zs) us none ∧ us.length + 1 = zs.length ∧ ∀ p, AgreeZ zs ((us ++ [(stopT, p)]).map zOf) := by
  have hg : ∀ j, j < zs.length - 1 → canB (tokOf (zs.getD j noZ)) ∧ ((tokOf (zs.getD j noZ)).kind : Int) = (zs.getD j noZ).1 ∧ ((tokOf (zs.getD j noZ)).num : Int) = (zs.getD j noZ).2.2.1 ∧ (tokOf (zs.getD j noZ)).text = (zs.getD j noZ).2.1 := fun j hj => by
    obtain ⟨hc, h18⟩ := g j (by omega)
    exact tok_can hc fun e => by have := h18.1 e; omega
  have hget : ∀ j (h : j < zs.length), zs.getD j noZ = zs[j] := fun j h => by rw [List.getD_eq_getElem?_getD, List.getElem?_eq_getElem h]; rfl
  obtain ⟨us, h1, h2⟩ := pr_lx ((zs.take (zs.length - 1)).map tokOf) 0 (fun t ht => by
    obtain ⟨z, hz, rfl⟩ := List.mem_map.1 ht
    obtain ⟨j, hj, rfl⟩ := List.getElem_of_mem hz
    rw [List.length_take] at hj
    rw [List.getElem_take, ← hget j (by omega)]
    exact (hg j (by omega)).1)
  have hlen : us.length = zs.length - 1 := by
    have := congrArg List.length h2
    rw [List.length_map, List.length_map, List.length_take] at this
    omega
  refine ⟨us, h1, by omega, fun p => ⟨by simp; omega, fun j hj => ?_⟩⟩
  rw [zOf_get _ (by simp; omega)]
  by_cases hl : j < us.length
  · rw [getD_mid us _ hl]
    have e : us[j].1 = tokOf (zs.getD j noZ) := by
      have e2 := congrArg (fun l => l[j]?) h2
      simp only [List.getElem?_map, List.getElem?_eq_getElem hl, List.getElem?_take, Option.map_some] at e2
      rw [if_pos (by omega), List.getElem?_eq_getElem hj] at e2
      rw [hget j hj]
      exact Option.some.inj e2
    obtain ⟨_, c2, c3, c4⟩ := hg j (by omega)
    unfold zOf
    rw [e]
    exact ⟨c2, c4, c3⟩
  · have hj2 : j = us.length := by omega
    rw [hj2, getD_last]
    obtain ⟨⟨hm, hc⟩, h18⟩ := g j hj
    have hk := h18.2 (by omega)
    rw [hj2] at hk hm hc
    have hm' := hm (by omega)
    have hx : (zs.getD us.length noZ).2.1 = [] := by
      rcases hc with ⟨h | h, _⟩ | ⟨h, _⟩ | ⟨h, _⟩ | ⟨h, _⟩ | h | ⟨_, _, h⟩
      · omega
      · omega
      · omega
      · omega
      · omega
      · omega
      · exact h
    rw [hk, hm', hx]
    exact ⟨rfl, rfl, rfl⟩
end Go.Proofs.YtimlomobbnnehaaGreatDoor

namespace Go.Proofs.YtimlomobbnnehaaGreatDoor
open Go.RowKit Go.Maps
set_option linter.unusedVariables false
set_option linter.unusedSimpArgs false
theorem wt_take_le (zs : List Z) (i : Nat) : wt (zs.take i) ≤ wt zs := by
  unfold wt
  conv => rhs; rw [← List.take_append_drop i zs]
  rw [List.map_append, List.sum_append]
  exact Nat.le_add_right _ _
theorem wt_text {zs : List Z} {i : Nat} (h : i < zs.length) : (zs.getD i noZ).2.1.length ≤ wt zs := by
  have := wt_step h
  have h2 := wt_take_le zs (i + 1)
  omega
theorem wt_len (zs : List Z) : zs.length ≤ wt zs := by
  induction zs with
  | nil => exact Nat.zero_le _
  | cons z r ih =>
    unfold wt at ih ⊢
    simp
    omega
theorem prZ_len {zs : List Z} (g : goodZ zs) (h0 : 0 < zs.length) (hw : wt zs ≤ 268435456) : (prZ zs).length ≤ 536870912 := by
  have h1 := pr_len g (zs.length - 1) (by omega)
  have h2 := wt_take_le zs (zs.length - 1)
  unfold prZ
  omega
end Go.Proofs.YtimlomobbnnehaaGreatDoor

namespace Go.Proofs.YtimlomobbnnehaaGreatDoor
open Go.RowKit Go.Maps
set_option linter.unusedVariables false
set_option linter.unusedSimpArgs false
theorem cut_text {l : Bs} {t : Tok} {n : Nat} (h : cut l = some (some t, n)) : t.text.length ≤ l.length := by
  have := (cutQ_bound l).1
  unfold cutQ at this
  rw [h] at this
  exact this
theorem Lx.texts {p : Nat} {l : Bs} {ts : List (Tok × Nat)} {e : Option Nat} (h : Lx p l ts e) : ∀ x ∈ ts, x.1.text.length ≤ l.length := by
  induction h with
  | stop p => intro x hx; simp at hx
  | bad p l h1 h2 => intro x hx; simp at hx
  | pass p l n ts e h1 h2 ih => intro x hx; have := ih x hx; simp at this; omega
  | tok p l t n ts e h1 h2 ih =>
    intro x hx
    rcases List.mem_cons.1 hx with rfl | hx
    · exact cut_text h1
    · have := ih x hx; simp at this; omega
theorem wt_bound (M : Nat) : ∀ zs : List Z, (∀ z ∈ zs, z.2.1.length ≤ M) → wt zs ≤ (24 + M) * zs.length := by
  intro zs
  induction zs with
  | nil => intro _; exact Nat.zero_le _
  | cons z r ih =>
    intro h
    have h1 := ih (fun x hx => h x (by simp [hx]))
    have h2 := h z (by simp)
    unfold wt at h1 ⊢
    simp only [List.map_cons, List.sum_cons, List.length_cons]
    rw [Nat.mul_add, Nat.mul_one]
    omega
theorem can_z {t : Tok} (h : canB t) (a : Int) : canZ (t.kind : Int) t.text (t.num : Int) ∧ t.kind ≤ 17 := by
  obtain ⟨k, x, m⟩ := t
  obtain ⟨h0, h⟩ := h
  simp only at h0 h ⊢
  refine ⟨⟨fun h4 => by have := h0 (by omega); omega, ?_⟩, by omega⟩
  rcases h with ⟨h1 | h1, h2⟩ | ⟨h1, h2⟩ | ⟨h1, h2, h3⟩ | ⟨h1, h2⟩ | h1 | ⟨h1, h2, h3⟩
  · exact Or.inl ⟨Or.inl (by omega), h2⟩
  · exact Or.inl ⟨Or.inr (by omega), h2⟩
  · exact Or.inr (Or.inl ⟨by omega, h2⟩)
  · exact Or.inr (Or.inr (Or.inl ⟨by omega, h2, by omega, by omega⟩))
  · exact Or.inr (Or.inr (Or.inr (Or.inl ⟨by omega, h2⟩)))
  · exact Or.inr (Or.inr (Or.inr (Or.inr (Or.inl (by omega)))))
  · exact Or.inr (Or.inr (Or.inr (Or.inr (Or.inr ⟨by omega, by omega, h3⟩))))
theorem src_good {l : Bs} {us : List (Tok × Nat)} (h : Lx 0 l us none) (hl : l.length ≤ 4096) (p : Nat) : goodZ ((us ++ [(stopT, p)]).map zOf) ∧ wt ((us ++ [(stopT, p)]).map zOf) ≤ 268435456 := by
  have hc := h.can
  have hx := h.texts
  have hn := h.places.2.1
  constructor
  · intro i hi
    have hi' : i < us.length + 1 := by simpa using hi
    unfold okAt
    rw [zOf_get _ (by simpa using hi')]
    by_cases hlt : i < us.length
    · rw [getD_mid us _ hlt]
      obtain ⟨c1, c2⟩ := can_z (hc us[i] (List.getElem_mem hlt)) 0
      refine ⟨c1, ⟨fun e => ?_, fun e => ?_⟩⟩
      · have e' : ((us[i].1.kind : Nat) : Int) = 18 := e
        omega
      · simp at e
        omega
    · have he : i = us.length := by omega
      rw [he, getD_last]
      refine ⟨⟨fun _ => rfl, Or.inr (Or.inr (Or.inr (Or.inr (Or.inr ⟨by show (7 : Int) ≤ 18; decide, by show (18 : Int) ≤ 18; decide, rfl⟩))))⟩, ⟨fun _ => by simp, fun _ => rfl⟩⟩
  · have := wt_bound 4096 ((us ++ [(stopT, p)]).map zOf) (fun z hz => by
      obtain ⟨x, hxm, rfl⟩ := List.mem_map.1 hz
      rcases List.mem_append.1 hxm with h1 | h1
      · have := hx x h1
        show x.1.text.length ≤ 4096
        omega
      · rw [List.mem_singleton.1 h1]
        exact Nat.zero_le _)
    have e : ((us ++ [(stopT, p)]).map zOf).length = us.length + 1 := by simp
    rw [e] at this
    omega
theorem print_nil (p : Option Addr) (c : Nat) (w : World) : Calls Tryz.prog 9 #[.slice p 0 c] w fun e w' => e = .returned (.tuple #[.string ⟨#[]⟩, .int .i64 1]) ∧ w' = w := by
  have v0 : IntKind.i64.wrap (0 - 1) = -1 := by decide
  go_enter Tryz.func9, Tryz.ntmps9
  go_wp2
  go_ret2
  exact ⟨rfl, rfl⟩
end Go.Proofs.YtimlomobbnnehaaGreatDoor

