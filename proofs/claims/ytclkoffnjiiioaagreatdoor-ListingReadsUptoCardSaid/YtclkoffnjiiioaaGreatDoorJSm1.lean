import Derived.Test.YtclkoffnjiiioaaGreatDoorJRdK
import Derived.MapKept
namespace Go.Proofs.YtclkoffnjiiioaaGreatDoor
open Go.RowKit
set_option linter.unusedVariables false
set_option linter.unusedSimpArgs false
attribute [local go_sem ↓] Go.wp_at_zero Go.wp_at_succ
theorem bne_str (k : ByteArray) : (k != k) = false := by
  unfold bne
  rw [(Go.MapKept.bytes_beq k k).2 rfl]
  rfl
set_option maxRecDepth 100000 in
set_option maxHeartbeats 4000000 in
theorem sameLits_ok (w : World) (p : Option Addr) (c : Nat) (us : List LitT) (h : LitsR w p c us) : ∀ (k : Nat) (pl : Option Addr) (cl : Nat) (ts : List LitT), LitsR w pl cl ts → stL us = stL ts → Calls Tryz.prog 24 #[.slice p us.length c, .slice pl ts.length cl] (w.drewN k) fun e w' => e = .returned (.bool true) ∧ ∃ n, w' = (w.drewN k).drewN n := by
  induction h with
  | mk p c us nil at0 short txt kids ih =>
    intro k pl cl ts hr hst
    have hlen : us.length = ts.length := by rw [← stL_len, hst, stL_len]
    obtain ⟨at_, hks⟩ : (0 < ts.length → ∃ g off, pl = some ⟨g, off, none⟩ ∧ g < w.heap.size ∧ ∀ i t, ts[i]? = some t → LitAt w g (off + i * 4) t) ∧ ∀ t ∈ ts, LitsR w t.p t.c t.kids := by
      cases hr with
      | mk _ _ _ nil at_ short txt kids => exact ⟨at_, kids⟩
    have HAt := mkHid at_
    have HAt0 := mkHid at0
    have HKs := mkHid hks
    have HIh := mkHid ih
    have hsts : ∀ (i : Nat) (a b : LitT), us[i]? = some a → ts[i]? = some b → stT a = stT b := fun i a b ha hb => by
      have := congrArg (fun l => l[i]?) hst
      simp only [stL_map, List.getElem?_map, ha, hb, Option.map_some] at this
      exact Option.some.inj this
    have HSt := mkHid hsts
    rw [← hlen]
    clear at_ at0 hks ih hr hst hsts kids txt nil
    have HLen := mkHid hlen
    clear hlen
    generalize hnn : us.length = nn at *
    have hq : ((nn : Int) != (nn : Int)) = false := by simp
    go_enter Tryz.func24, Tryz.ntmps24
    go_wp2_with fail
    go_loopw [5] (fun q wr => (∃ n, wr = w.drewN n ∧ k ≤ n) ∧ ∃ i : Nat, i ≤ nn ∧ q = .int .i64 (i : Int)) (fun q _ => nn - (intOf q).toNat)
    case atStart => exact ⟨⟨k, rfl, Nat.le_refl _⟩, 0, by omega, rfl⟩
    case round =>
      obtain ⟨⟨n0, rfl, hkn⟩, i, hin, rfl⟩ := hrel
      have i0 : (0 : Int) ≤ (i : Int) := by omega
      by_cases hlt : i < nn
      · have i1 : (i : Int) < (nn : Int) := by omega
        obtain ⟨a, ha⟩ : ∃ a, us[i]? = some a := ⟨us[i]'(by omega), List.getElem?_eq_getElem _⟩
        obtain ⟨b, hb⟩ : ∃ b, ts[i]? = some b := ⟨ts[i]'(by have := HLen.out; omega), List.getElem?_eq_getElem _⟩
        obtain ⟨e1, e2, e3, e4⟩ := stT_inj (HSt.out i a b ha hb)
        obtain ⟨g, oa, rfl, hg, hca⟩ := HAt0.out (by omega)
        obtain ⟨gl, off, rfl, hgl, hcb⟩ := HAt.out (by have := HLen.out; omega)
        obtain ⟨b0, b1, b2, b3'⟩ := hcb i b hb
        have b3 : w.cell? ⟨gl, off + i * 4 + 3, none⟩ = some (.slice b.p b.kids.length b.c) := b3'
        obtain ⟨a0, a1, a2, a3'⟩ := hca i a ha
        have a3 : w.cell? ⟨g, oa + i * 4 + 3, none⟩ = some (.slice a.p a.kids.length a.c) := a3'
        have HC3 : Hid (Calls Tryz.prog 24 #[.slice a.p a.kids.length a.c, .slice b.p b.kids.length b.c] ((w.drewN n0).drew) fun e w' => e = .returned (.bool true) ∧ ∃ n, n0 ≤ n ∧ w' = w.drewN n) := by
          have := HIh.out a (List.mem_of_getElem? ha) (n0 + 1) b.p b.c b.kids (HKs.out b (List.mem_of_getElem? hb)) e4
          refine Calls.mono (show Calls Tryz.prog 24 _ ((w.drewN n0).drew) _ from this) ?_
          rintro e w' ⟨rfl, n, rfl⟩
          exact ⟨rfl, n0 + 1 + n, by omega, by rw [World.drewN_drewN]⟩
        rw [e1] at a0
        rw [e2] at a1
        rw [e3] at a2
        clear hcb hca ha hb e1 e2 e3 e4 b3' a3' HAt HAt0 HIh HSt HKs hg hgl
        generalize b.kind = k0 at *
        generalize b.text = k1 at *
        generalize b.num = k2 at *
        generalize a.p = ap at *
        generalize a.c = ac at *
        generalize b.p = bp at *
        generalize b.c = bc at *
        generalize a.kids.length = an at *
        generalize b.kids.length = bn at *
        have q0 : (k0 != k0) = false := by simp
        have q1 : (k1 != k1) = false := bne_str k1
        have q2 : (k2 != k2) = false := by simp
        go_wp2_with fail
        go_region_held3 (fun U => U.cell? ⟨g, oa + i * 4, none⟩ = some (.int .i64 k0) ∧ U.cell? ⟨g, oa + i * 4 + 1, none⟩ = some (.string k1) ∧ U.cell? ⟨g, oa + i * 4 + 2, none⟩ = some (.int .i64 k2) ∧ U.cell? ⟨g, oa + i * 4 + 3, none⟩ = some (.slice ap an ac) ∧ U.cell? ⟨gl, off + i * 4, none⟩ = some (.int .i64 k0) ∧ U.cell? ⟨gl, off + i * 4 + 1, none⟩ = some (.string k1) ∧ U.cell? ⟨gl, off + i * 4 + 2, none⟩ = some (.int .i64 k2) ∧ U.cell? ⟨gl, off + i * 4 + 3, none⟩ = some (.slice bp bn bc))
          (exact ⟨a0, a1, a2, a3, b0, b1, b2, b3⟩)
          ((go_at_call 24; refine HC3.out.mono ?_; rintro e2 w2 ⟨rfl, n2, hn2, hw2⟩; rw [hw2]; clear hw2 w2))
        all_goals go_wp2_with fail
        all_goals
          go_roundw
          case rel => exact ⟨⟨n2, rfl, by omega⟩, i + 1, by omega, by go_num⟩
          case measure => simp [intOf]; omega
      · have i1 : decide ((i : Int) < (nn : Int)) = false := decide_eq_false (by omega)
        go_wp2_with fail
        go_ret
        exact ⟨rfl, n0 - k, by rw [World.drewN_drewN, show k + (n0 - k) = n0 by omega]⟩
end Go.Proofs.YtclkoffnjiiioaaGreatDoor
