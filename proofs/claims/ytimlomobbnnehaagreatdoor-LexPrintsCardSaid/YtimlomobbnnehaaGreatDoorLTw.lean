import Derived.Test.YtimlomobbnnehaaGreatDoorLRprW
namespace Go.Proofs.YtimlomobbnnehaaGreatDoor
open Go.RowKit Go.Maps Go.WideMaps
set_option linter.unusedVariables false
set_option linter.unusedSimpArgs false
theorem zcs_take {zs : List Zt} {i : Nat} (h : i < zs.length) : zcs (zs.take (i + 1)) = zcs (zs.take i) ++ zc (zs.getD i noZ) := by
  rw [List.take_succ_eq_append_getElem h, zcs_app, List.getD_eq_getElem?_getD, List.getElem?_eq_getElem h]
  simp [zcs]
set_option maxHeartbeats 8000000 in
set_option maxRecDepth 1000000 in
theorem twin_ok (p : Option Addr) (c : Nat) (zs : List Zt) (w : World) (hr : RdV w (.slice p zs.length c) zs) (hn : zs.length ≤ 1099511627776) :
    Calls Tryz.prog 6 #[.slice p zs.length c] w fun e w' => ∃ p' c', e = .returned (.slice p' zs.length c') ∧ w'.ownsRow w.heap.size 28 4 (.slice p' zs.length c') zs.length (zcs zs) ∧ Bl w w' := by
  have HRd : Hid (∀ V, Bl w V → RdV V (.slice p zs.length c) zs) := mkHid fun V b => hr.frame (Fr.ofBl b []) (fun _ _ _ hm => by cases hm)
  clear hr
  obtain ⟨i0, ii, hz0, hz1, hz2⟩ := info_parts info30
  go_enter Tryz.func6, Tryz.ntmps6
  go_wp2_with fail
  go_loopw [3, 4] (fun v q wr => ∃ i : Nat, i ≤ zs.length ∧ q = .int .i64 i ∧ Hid (wr.ownsRow w.heap.size 28 4 v i (zcs (zs.take i))) ∧ Hid (Bl w wr)) (fun _ q _ => zs.length - (intOf q).toNat)
  case atStart => exact ⟨0, Nat.zero_le _, rfl, World.ownsRow_nil _ _ _ _, Bl.refl _⟩
  case round =>
    obtain ⟨i, hi1, rfl, ho, hb⟩ := hrel
    by_cases hlt : i < zs.length
    · have hli : (i : Int) < zs.length := by omega
      obtain ⟨q, d, e, hq⟩ := (HRd.out wr hb.out).at_
      injection e with e1 e2 e3
      obtain ⟨b, off, e4, hbl, hc⟩ := hq (by omega)
      rw [← e1] at e4
      subst e4
      obtain ⟨x0, x1, x2, x3⟩ := hc i hlt
      have hown := ho.out
      have hws := hb.out.size
      have HN := mkHid (zcs_take hlt)
      have HL := mkHid (fun g => (own_block (g := g) ho.out))
      rw [show (noY : Zt) = noZ from rfl] at x0 x1 x2 x3
      generalize zs.getD i noZ = zi at *
      obtain ⟨k, x, m, a⟩ := zi
      dsimp only at x0 x1 x2 x3
      clear hq hc e1 e2 e3 HRd
      go_wp2_with (at_builtin; refine wpList_append_lies _ rfl (.tmp 11) (.tmp 16) 22 rfl w.heap.size 28 i0 (.agg #[.int .i64 0, .string ⟨#[]⟩, .int .i64 0, .int .i64 0]) 4 40 Tryz.underlying22 ii hz0 hz1 hz2 rfl (by decide) _ _ _ rfl (hown.alloc _) ⟨wr.heap.size, 0, none⟩ 1 1 [.int .i64 k, .string (ba x), .int .i64 m, .int .i64 a] rfl rfl ?c1 ?c2 (by omega) ?c3 ?c4 ?c5 (wr.heap.size + 1) (by simp) ?_)
      case c1 => exact World.news_of_block (heap_alloc_new wr _)
      case c2 => intro u hu; simp at hu; rcases hu with rfl | rfl | rfl | rfl <;> rfl
      case c3 => unfold maxLen; omega
      case c4 => omega
      case c5 => simp; omega
      intro g3 cap w5 hown' hgrow hat hlt5
      have HT5 : Hid (w5.ownsRow w.heap.size 28 4 (.slice (some ⟨g3, 0, none⟩) (i + 1) cap) (i + 1) (zcs (zs.take (i + 1)))) := by unfold Hid; rw [HN.out]; exact hown'
      have HB5 : Hid (Bl w w5) := by
        have hbb := hb.out.trans (Bl.alloc wr (.cells #[.int .i64 k, .string (ba x), .int .i64 m, .int .i64 a] 28))
        exact ⟨hgrow.os.trans hbb.os, hgrow.tape.trans hbb.tape, hgrow.output.trans hbb.output, Nat.le_trans hbb.size hgrow.size, fun j hj => by
          rw [hgrow.block j (Nat.lt_of_lt_of_le hj hbb.size) (fun e => by have := (HL.out j e.symm).1; omega)]
          exact hbb.block j hj⟩
      clear hown' hgrow hown hat
      go_wp2_with fail
      go_roundw
      case rel => exact ⟨i + 1, by omega, by simp, HT5, HB5⟩
      case measure => simp [intOf]; omega
    · have hie : i = zs.length := by omega
      have hli : ¬ (i : Int) < zs.length := by omega
      have HO : Hid (wr.ownsRow w.heap.size 28 4 u3 zs.length (zcs zs)) := by
        have := ho.out
        rw [hie, List.take_length] at this
        exact this
      obtain ⟨p', c', e⟩ := own_sl HO.out
      have HE := mkHid e
      clear hie e
      go_wp2_with fail
      go_wp2_with fail
      go_ret
      exact ⟨p', c', by rw [← HE.out]; rfl, by rw [← HE.out]; exact HO.out, hb.out⟩
set_option maxHeartbeats 8000000 in
set_option maxRecDepth 1000000 in
theorem same_v (pa : Option Addr) (ca : Nat) (pb : Option Addr) (cb : Nat) (zs : List Zt) (w : World) (ha : RdV w (.slice pa zs.length ca) zs) (hb : RdV w (.slice pb zs.length cb) zs) (hmax : zs.length ≤ 140737488355328) :
    Calls Tryz.prog 12 #[.slice pa zs.length ca, .slice pb zs.length cb, .bool true] w fun e w' => e = .returned (.bool true) ∧ Bl w w' := by
  have HA : Hid (∀ V, Bl w V → RdV V (.slice pa zs.length ca) zs) := mkHid fun V b => ha.frame (Fr.ofBl b []) (fun _ _ _ hm => by cases hm)
  have HB : Hid (∀ V, Bl w V → RdV V (.slice pb zs.length cb) zs) := mkHid fun V b => hb.frame (Fr.ofBl b []) (fun _ _ _ hm => by cases hm)
  clear ha hb
  go_enter Tryz.func12, Tryz.ntmps12
  go_wp2_with fail
  go_loopw [7] (fun q wr => ∃ k : Nat, k ≤ zs.length ∧ q = .int .i64 k ∧ Hid (Bl w wr)) (fun q _ => zs.length - (intOf q).toNat)
  case atStart => exact ⟨0, Nat.zero_le _, rfl, Bl.refl _⟩
  case round =>
    obtain ⟨k, hk, rfl, hbl⟩ := hrel
    by_cases hlt : k < zs.length
    · have hki : (k : Int) < zs.length := by omega
      obtain ⟨pa', ca', ea, hpa⟩ := (HA.out wr hbl.out).at_
      injection ea with ea1 ea2 ea3
      subst ea1 ea3
      obtain ⟨pb', cb', eb, hpb⟩ := (HB.out wr hbl.out).at_
      injection eb with eb1 eb2 eb3
      subst eb1 eb3
      obtain ⟨ga, fa, rfl, hga, hca⟩ := hpa (by omega)
      obtain ⟨gb, fb, rfl, hgb, hcb⟩ := hpb (by omega)
      obtain ⟨x0, x1, x2, x3⟩ := hca k hlt
      obtain ⟨y0, y1, y2, y3⟩ := hcb k hlt
      clear hca hcb ea2 eb2 hpa hpb HA HB
      generalize zs.getD k noY = z at *
      obtain ⟨tk, tt, tn, tp⟩ := z
      dsimp only at *
      go_wp2_with fail
      go_quiet (fail)
      go_wp2_with fail
      go_roundw
      case rel => exact ⟨k + 1, by omega, by simp, hbl.out.trans (Bl.drewN _ _)⟩
      case measure => simp [intOf]; omega
    · have hke : k = zs.length := by omega
      have hki : ¬ (k : Int) < zs.length := by omega
      clear hke
      go_wp2_with fail
      go_wp2_with fail
      go_ret
      exact ⟨rfl, hbl.out⟩
end Go.Proofs.YtimlomobbnnehaaGreatDoor
