import Derived.Test.YtkmjimdaimbdfaaDoorSG13HKeys
namespace Go.Proofs.YtkmjimdaimbdfaaDoor
open Go.RowKit
set_option linter.unusedVariables false
attribute [local go_sem ↓] Go.wp_at_zero Go.wp_at_succ
/-- a state is being loaded: what lies after k of its objects -/
structure LdW (w W1 : World) (A : Nat) (H0 : HS) (M0 : MS) (la : List OI) (k : Nat) (wr : World) (l : Lay) (H : HS) (M : MS) : Prop where
  rep : Rep wr A l H
  fr : Fr [] W1 wr
  new : ∀ b ∈ foot A l, W1.heap.size ≤ b
  lds : Lds H0 M0 ((la.take k).map oiKey) H M
set_option maxRecDepth 20000 in
set_option maxHeartbeats 1000000 in
theorem Load_any (words oops mark : Nat) (ov : Value) (la : List OI) (w : World) (ha : SAt w ov la) (hT : Tab w) (hT0 : 0 < w.heap.size) (h1 : (words : Int) ≤ 1048576) (h2 : (oops : Int) ≤ 65536) (hm : (mark : Int) ≤ 1073741824) :
    Calls Tryd.prog 56 #[.agg #[.int .i64 (words : Int), .int .i64 (oops : Int), .int .i64 (mark : Int), ov]] w fun e w' =>
      (∃ l H M, e = .returned (.tuple #[.pointer (some ⟨w.heap.size + 1, 0, none⟩), .int .i64 0]) ∧ LdW w w (w.heap.size + 1) { emptyH words oops with mark := mark } { emptyM words oops with mark := mark } la la.length w' l H M) ∨
      (∃ k o H M, e = .returned (.tuple #[.pointer none, .int .i64 27]) ∧ Fr [] w w' ∧ la[k]? = some o ∧ Lds { emptyH words oops with mark := mark } { emptyM words oops with mark := mark } ((la.take k).map oiKey) H M ∧ takesB H o.oop o.cls o.fmt o.slots = false) := by
  have HA := mkHid ha
  obtain ⟨p, c, rfl, -⟩ := ha.at_
  have hl := ha.short
  obtain ⟨W1, hW1⟩ : ∃ W1, W1 = w.alloc (.cells #[.int .i64 (words : Int), .int .i64 (oops : Int), .int .i64 (mark : Int), .slice p la.length c] 44) := ⟨_, rfl⟩
  have F1 : Hid (Fr [] w W1) := by rw [hW1]; exact Fr.alloc [] _ _
  have hS1 : W1.heap.size = w.heap.size + 1 := by rw [hW1]; simp
  have HB1 : Hid (W1.heap[w.heap.size]? = some (.cells #[.int .i64 (words : Int), .int .i64 (oops : Int), .int .i64 (mark : Int), .slice p la.length c] 44 (0, 0))) := by rw [Hid, hW1]; exact heap_alloc_new _ _
  have hN := New_in words oops W1 (by omega) h2
  rw [hS1] at hN
  have HN := mkHid hN
  have HI0 : Hid (Inv { emptyH words oops with mark := mark } { emptyM words oops with mark := mark }) := (inv_empty words oops h1 h2).setMark mark hm
  have HTb : Hid (∀ V, Hid (Fr [] w V) → Tab V) := fun V hV => hT.fr hV.out hT0
  have HS1 := mkHid hS1
  have hmk := fun V => isMark_any (mark : Int) V
  rw [show isM (mark : Int) = true from by simp [isM]; omega] at hmk
  have HMk := mkHid hmk
  clear ha hT hN hS1 hmk
  go_enter Tryd.func56, Tryd.ntmps56
  go_wp2_with fail
  rw [← hW1]
  clear hW1
  refine Calls.mono HN.out ?_
  rintro e w2 ⟨rfl, hr2, hf2, hs2⟩
  have f3 := hr2.frozen 3
  have c3 := hr2.c3
  have hb2 := (hf2.block _ (lt_of_heap HB1.out) (by simp)).trans HB1.out
  have e2 : w2.cell? ⟨w.heap.size, 2, none⟩ = some (.int .i64 (mark : Int)) := by rw [cell_in hb2]; rfl
  have e3 : w2.cell? ⟨w.heap.size, 3, none⟩ = some (.slice p la.length c) := by rw [cell_in hb2]; rfl
  have HR2 : Hid (∀ V, Eqw (w2.setCell ⟨w.heap.size + 1, 3, none⟩ (.int .i64 (mark : Int))) V → Rep V (w.heap.size + 1) nilLay { emptyH words oops with mark := mark } ∧ Fr [] W1 V) := fun V he => by
    refine ⟨(hr2.set (H' := { emptyH words oops with mark := mark }) 3 _ rfl rfl rfl rfl rfl).eqw he, ?_⟩
    have := HS1.out
    exact (hf2.trans (Fr.setCell (S := [w.heap.size + 1]) w2 ⟨w.heap.size + 1, 3, none⟩ _ (by simp)) (by simp; omega)).trans (he.fr []) (by simp)
  clear HN
  go_wp2_with (go_at_call 44; refine Calls.mono (HMk.out _) ?_; rintro e w' ⟨rfl, hw'⟩; rw [hw']; clear hw' w')
  generalize w2.setCell ⟨w.heap.size + 1, 3, none⟩ (.int .i64 (mark : Int)) = W3 at *
  go_loopw [32] (fun qq wr => ∃ k : Nat, k ≤ la.length ∧ qq = .int .i64 k ∧ Hid (∃ l H M, LdW w W1 (w.heap.size + 1) { emptyH words oops with mark := mark } { emptyM words oops with mark := mark } la k wr l H M)) (fun qq _ => la.length - (intOf qq).toNat)
  case atStart =>
    obtain ⟨r3, f3'⟩ := HR2.out W3 ⟨rfl, rfl, rfl, rfl⟩
    refine ⟨0, Nat.zero_le _, rfl, nilLay, _, { emptyM words oops with mark := mark }, ⟨r3, f3', fun b hb => ?_, ?_⟩⟩
    · have hs := HS1.out
      have hb' : b = w.heap.size + 1 := by simpa [foot, show nilLay.blocks = [] from rfl] using hb
      omega
    · exact Lds.nil
  case round =>
    obtain ⟨k, hkn, rfl, hqq⟩ := hrel
    obtain ⟨l, H, M, hw⟩ := hqq.out
    by_cases hlt : k < la.length
    · have Fk := F1.out.trans hw.fr (by simp)
      have hAk := HA.out.idle Fk
      obtain ⟨p', c', ee, hpa⟩ := hAk.at_
      injection ee with ee eeb eec
      subst ee
      subst eec
      clear eeb
      obtain ⟨g, off, rfl, hca⟩ := hpa (by omega)
      obtain ⟨o, h0, x0, x1, x2, x3⟩ := hca k hlt
      have x4 := hAk.slots o (List.mem_of_getElem? h0)
      obtain ⟨oo, oc, of_, os, ov⟩ := o
      dsimp only at *
      have k1 : (0 : Int) ≤ (k : Int) := by omega
      have k2 : (k : Int) < (la.length : Int) := by omega
      obtain ⟨p1, c1, rfl⟩ : ∃ p c, ov = .slice p os.length c := by
        obtain ⟨p, c, h, _⟩ := x4.at_
        exact ⟨p, c, h⟩
      have hI := hw.lds.inv HI0.out
      obtain ⟨W4, hW4⟩ : ∃ W4, W4 = wr.alloc (.cells #[.int .i64 oo, .int .i64 oc, .int .i64 of_, .slice p1 os.length c1] 90) := ⟨_, rfl⟩
      have F4 : Fr [] wr W4 := by rw [hW4]; exact Fr.alloc [] _ _
      have x5 := x4.idle F4
      have hB4 : W4.heap[wr.heap.size]? = some (.cells #[.int .i64 oo, .int .i64 oc, .int .i64 of_, .slice p1 os.length c1] 90 (0, 0)) := by rw [hW4]; exact heap_alloc_new _ _
      have HB4 := mkHid hB4
      have HF4 := mkHid F4
      have HTk := mkHid (takes_any oo oc of_ os (.slice p1 os.length c1) (w.heap.size + 1) l H W4 (hw.rep.keep F4 (by simp)) hI.safe.small (HTb.out W4 (Fk.trans F4 (by simp))) (by have := Fk.size; have := F4.size; omega) x5)
      have HX5 := mkHid x5
      have HW := mkHid hw
      have HI := mkHid hI
      have HFk := mkHid Fk
      have H0 := mkHid h0
      clear hqq hw hAk hpa hca x4 x5 Fk hI F4 hB4 h0
      by_cases ht : takesB H oo oc of_ os = true
      · obtain ⟨q, hq⟩ : ∃ q : Nat, oo = (q : Int) + 1 := ⟨(oo - 1).toNat, by have := (takesB_yes ht).2.1; omega⟩
        obtain ⟨fm, hfm⟩ : ∃ fm : Nat, of_ = (fm : Int) := ⟨of_.toNat, by have h5 := (takesB_yes ht).2.2.2.2.1; simp [isF] at h5; omega⟩
        have HLd : Hid (∀ V, Fr [] W4 V → Calls Tryd.prog 84 #[.pointer (some ⟨w.heap.size + 1, 0, none⟩), .agg #[.int .i64 oo, .int .i64 oc, .int .i64 of_, .slice p1 os.length c1]] V fun e w' => e = .returned (.tuple #[]) ∧ Hid (∃ l' H' M', LdW w W1 (w.heap.size + 1) { emptyH words oops with mark := mark } { emptyM words oops with mark := mark } la (k + 1) w' l' H' M')) := by
          intro V hV
          have hFV := HF4.out.trans hV (by simp)
          rw [hq, hfm] at ht ⊢
          have hmem := List.mem_of_getElem? H0.out
          have hsl := HA.out.slots _ hmem
          refine Calls.mono (load_taken q oc fm os (.slice p1 os.length c1) (w.heap.size + 1) l H M V (HW.out.rep.keep hFV (by simp)) HI.out ht (HX5.out.idle hV) (fun hp g hg hb => by
            have q1 := hsl.lt hp g hg
            have q2 := HW.out.new g hb
            have q3 := HS1.out
            omega)) ?_
          rintro e w' ⟨rfl, l', H', M', hr', hx', hl'⟩
          have hFV2 : Fr [] W1 V := HW.out.fr.trans hFV (by simp)
          refine ⟨rfl, l', H', M', hr', hFV2.trans hx'.1 (fun b hb => .inr (HW.out.new b hb)), fun b hb => ?_, ?_⟩
          · rcases hx'.2 b hb with h | h
            · exact HW.out.new b h
            · have := hFV2.size
              omega
          · have e : (la.take (k + 1)).map oiKey = (la.take k).map oiKey ++ [((q : Int) + 1, oc, (fm : Int), os)] := by
              have h0 := H0.out
              rw [List.getElem?_eq_getElem hlt] at h0
              have h0' := Option.some.inj h0
              rw [List.take_succ_eq_append_getElem hlt, List.map_append, h0', hq, hfm]
              rfl
            rw [e]
            exact Lds.snoc q oc fm os HW.out.lds ht hl'
        clear hq hfm
        rw [ht] at HTk
        have HT := mkHid ht
        clear ht
        generalize os.length = sn at *
        go_wp2_with fail
        rw [← hW4]
        clear hW4
        refine Calls.mono HTk.out ?_
        rintro e w5 ⟨rfl, hf5⟩
        have b5 := (hf5.block _ (lt_of_heap HB4.out) (by simp)).trans HB4.out
        have y0 : w5.cell? ⟨wr.heap.size, 0, none⟩ = some (.int .i64 oo) := by rw [cell_in b5]; rfl
        have y1 : w5.cell? ⟨wr.heap.size, 1, none⟩ = some (.int .i64 oc) := by rw [cell_in b5]; rfl
        have y2 : w5.cell? ⟨wr.heap.size, 2, none⟩ = some (.int .i64 of_) := by rw [cell_in b5]; rfl
        have y3 : w5.cell? ⟨wr.heap.size, 3, none⟩ = some (.slice p1 sn c1) := by rw [cell_in b5]; rfl
        have HL5 := mkHid (HLd.out w5 hf5)
        clear b5 x0 x1 x2 x3 HTk HLd HT HX5 HW HI HFk H0 HB4 hf5
        go_wp2_with (go_at_call 84; refine Calls.mono HL5.out ?_; rintro e w6 ⟨rfl, h6⟩)
        go_roundw
        case rel => exact ⟨k + 1, by omega, by go_num, h6⟩
        case measure => simp [intOf]; omega
      · have ht : takesB H oo oc of_ os = false := by simpa using ht
        rw [ht] at HTk
        have HT := mkHid ht
        clear ht
        generalize os.length = sn at *
        go_wp2_with fail
        rw [← hW4]
        clear hW4
        refine Calls.mono HTk.out ?_
        rintro e w5 ⟨rfl, hf5⟩
        have F5 : Hid (Fr [] w w5) := (HFk.out.trans HF4.out (by simp)).trans hf5 (by simp)
        clear hf5 HTk x0 x1 x2 x3
        go_wp2_with fail
        go_ret2
        exact .inr ⟨k, _, H, M, rfl, F5.out, H0.out, HW.out.lds, HT.out⟩
    · have hke : k = la.length := by omega
      subst hke
      clear hqq
      have HW := mkHid hw
      clear hw
      go_wp2_with fail
      go_ret2
      exact .inl ⟨rfl, l, H, M, ⟨HW.out.rep, F1.out.trans HW.out.fr (by simp), fun b hb => by have := HW.out.new b hb; have := HS1.out; omega, HW.out.lds⟩⟩
end Go.Proofs.YtkmjimdaimbdfaaDoor



