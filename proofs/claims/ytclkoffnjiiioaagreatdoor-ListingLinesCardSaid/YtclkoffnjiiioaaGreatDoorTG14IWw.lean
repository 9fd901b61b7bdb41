import Derived.Test.YtclkoffnjiiioaaGreatDoorTG13IHd
import Derived.Test.YtclkoffnjiiioaaGreatDoorTG11CLast
namespace Go.Proofs.YtclkoffnjiiioaaGreatDoor
open Go.RowKit
set_option linter.unusedVariables false
set_option linter.unusedSimpArgs false
attribute [local go_sem ↓] Go.wp_at_zero Go.wp_at_succ
def litW (t : LitT) : List UInt8 := (if t.kind = 2 then [116, 101, 120, 116, 32] else [97, 114, 114, 97, 121, 32]) ++ wrT t ++ [10]
set_option maxRecDepth 100000 in
set_option maxHeartbeats 8000000 in
theorem writeObject_ok {W W0 : World} {B : Nat} {v x : Value} {bs : List UInt8} (h : Pg W B v bs) (t : LitT) (hx : EW W0 B x t) (hb : Below B W0 W) (hl : bs.length + (wrT t).length + 128 ≤ 70368744177664) :
    Calls Tryz.prog 20 #[v, .int .i64 t.kind, x] W fun e w' => WrP W B bs (litW t) e w' := by
  obtain ⟨T, u, K0, rfl, hm, hen, hna, hK⟩ := hx
  obtain ⟨wd, hwd⟩ : ∃ wd : List UInt8, wd = if t.kind = 2 then [116, 101, 120, 116, 32] else [97, 114, 114, 97, 121, 32] := ⟨_, rfl⟩
  have hwl : wd.length ≤ 6 := by rw [hwd]; split <;> simp
  have h0 : Pg W.drew B v bs := h.dr 1
  obtain ⟨va, wa, hra, hpa, hfa⟩ := h0.str ⟨wd.toArray⟩ (by show bs.length + wd.toArray.size ≤ _; rw [List.size_toArray]; omega)
  have f0 : Pf B W W.drew := (Pf.refl B W).dn h.low 1
  have hpa2 : Pg wa B va (bs ++ wd) := by simpa using hpa
  have HKl := mkHid (hK wa va (bs ++ wd) ((hb.trans f0.below).trans hfa.below) hpa2 (by rw [List.length_append]; omega))
  have HEl : Hid (∀ (V : World) (pg : Value), Pg V B pg (bs ++ wd ++ wrT t) → Calls Tryz.prog 31 #[pg] V fun e w' => WrP V B (bs ++ wd ++ wrT t) [10] e w') := fun V pg hp => endLine_ok hp (by simp only [List.length_append]; omega)
  have HFin : Hid (∀ v' w' V, Pf B wa V → Pg w' B v' (bs ++ wd ++ wrT t ++ [10]) → Pf B V w' → WrP W B bs (litW t) (.returned v') w') := fun v' w' V h2 h1 h3 => ⟨v', rfl, by unfold litW; rw [← hwd, ← List.append_assoc, ← List.append_assoc]; exact h1, ((f0.trans hfa).trans h2).trans h3⟩
  have hmf : ∀ (fn : Fn) (first cap : Array Value) (w : World), (Instr.makeFunc fn first cap).run Tryz.prog w = .ok (.func fn first cap) w := fun _ _ _ _ => rfl
  have HRa := mkHid hra
  have HWd := mkHid hwd
  clear h h0 hra hpa hfa f0 hpa2 hK hwd hb
  by_cases hk : t.kind = 2
  · have HWe : Hid (wd = [116, 101, 120, 116, 32]) := by have := HWd.out; rw [if_pos hk] at this; exact this
    rw [HWe.out] at HRa
    rw [hk]
    clear HWd
    go_enter Tryz.func20, Tryz.ntmps20
    go_upto_region 4 with fail
    refine wp_region_last (L := 9) (S := (fun _ => True)) (by kernel_rfl) (trivial) (fun hHeld => ?_)
    refine wpLast_take (i := 0) (v := ?_) rfl (by kernel_rfl) (by kernel_rfl) (by kernel_rfl) (by decide) (by kernel_rfl) (fun _ _ _ h => h) (Or.inl ⟨by rfl, ?_⟩) (by assumption) ?_
    rotate_left
    · (intro w hSw; (try dsimp only at hSw); first | (go_simp; done) | (go_simp; with_reducible rfl))
    try simp only [Act.put, List.getElem_toArray, List.getElem_cons_zero, List.getElem_cons_succ, List.setIfInBounds_toArray, List.set_cons_zero, List.set_cons_succ]
    refine wpLast_take (i := 1) (v := ?_) rfl (by kernel_rfl) (by kernel_rfl) (by kernel_rfl) (by decide) (by kernel_rfl) (fun _ _ _ h => h) (Or.inl ⟨by rfl, ?_⟩) (by assumption) ?_
    rotate_left
    · (intro w hSw; (try dsimp only at hSw); first | (go_simp; done) | (go_simp; with_reducible rfl))
    try simp only [Act.put, List.getElem_toArray, List.getElem_cons_zero, List.getElem_cons_succ, List.setIfInBounds_toArray, List.set_cons_zero, List.set_cons_succ]
    refine wpLast_take (i := 2) (v := ?_) rfl (by kernel_rfl) (by kernel_rfl) (by kernel_rfl) (by decide) (by kernel_rfl) (fun _ _ _ h => h) (Or.inl ⟨by rfl, ?_⟩) (by assumption) ?_
    rotate_left
    · (intro w hSw; (try dsimp only at hSw); first | (go_simp; done) | (go_simp; with_reducible rfl))
    try simp only [Act.put, List.getElem_toArray, List.getElem_cons_zero, List.getElem_cons_succ, List.setIfInBounds_toArray, List.set_cons_zero, List.set_cons_succ]
    refine wpLast_take (i := 4) (v := ?_) rfl (by kernel_rfl) (by kernel_rfl) (by kernel_rfl) (by decide) (by kernel_rfl) (fun _ _ _ h => h) (Or.inl ⟨by rfl, ?_⟩) (by assumption) ?_
    rotate_left
    · (intro w hSw; (try dsimp only at hSw); first | (go_simp; done) | (go_simp; with_reducible rfl))
    try simp only [Act.put, List.getElem_toArray, List.getElem_cons_zero, List.getElem_cons_succ, List.setIfInBounds_toArray, List.set_cons_zero, List.set_cons_succ]
    refine wpLast_take (i := 5) (v := ?_) rfl (by kernel_rfl) (by kernel_rfl) (by kernel_rfl) (by decide) (by kernel_rfl) (fun _ _ _ h => h) (Or.inl ⟨by rfl, ?_⟩) (by assumption) ?_
    rotate_left
    · (intro w hSw; (try dsimp only at hSw); first | (go_simp; done) | (go_simp; with_reducible rfl))
    try simp only [Act.put, List.getElem_toArray, List.getElem_cons_zero, List.getElem_cons_succ, List.setIfInBounds_toArray, List.set_cons_zero, List.set_cons_succ]
    refine wpLast_take (i := 6) (v := ?_) rfl (by kernel_rfl) (by kernel_rfl) (by kernel_rfl) (by decide) (by kernel_rfl) (fun _ _ _ h => h) (Or.inl ⟨by rfl, ?_⟩) (by assumption) ?_
    rotate_left
    · (intro w hSw; (try dsimp only at hSw); first | (go_simp; done) | (go_simp; with_reducible rfl))
    try simp only [Act.put, List.getElem_toArray, List.getElem_cons_zero, List.getElem_cons_succ, List.setIfInBounds_toArray, List.set_cons_zero, List.set_cons_succ]
    refine wpLast_one (i := 3) (by kernel_rfl) rfl (by decide) (fun K hK => ?_)
    refine step_append_run rfl (.tmp 11) (.tmp 12) 57 9 rfl v (.string ⟨#[116, 101, 120, 116, 32]⟩) (by simp [Act.eval]) (by simp [Act.eval]) _ _ HRa.out ?_
    refine hK.out _ _ (trivial) (fun hHeld => ?_)
    clear hK K
    try simp only [Act.put, List.getElem_toArray, List.getElem_cons_zero, List.getElem_cons_succ, List.setIfInBounds_toArray, List.set_cons_zero, List.set_cons_succ]
    refine wpLast_one (i := 7) (by kernel_rfl) rfl (by decide) (fun K hK => ?_)
    go_simp
    go_wp2_with fail
    refine HKl.out.mono ?_
    rintro e w7 ⟨v7, rfl, hp7, hf7⟩
    have H7 := mkHid (And.intro hp7 hf7)
    clear hp7 hf7
    refine hK.out _ _ (trivial) (fun hHeld => ?_)
    clear hK K
    try simp only [Act.put, List.getElem_toArray, List.getElem_cons_zero, List.getElem_cons_succ, List.setIfInBounds_toArray, List.set_cons_zero, List.set_cons_succ]
    refine wpLast_one (i := 8) (by kernel_rfl) rfl (by decide) (fun K hK => ?_)
    go_simp
    go_wp2_with fail
    refine (HEl.out _ _ H7.out.1).mono ?_
    rintro e w8 ⟨v8, rfl, hp8, hf8⟩
    have H8 := mkHid (HFin.out v8 w8 _ H7.out.2 hp8 hf8)
    clear hp8 hf8
    refine hK.out _ _ (trivial) (fun hHeld => ?_)
    clear hK K
    try simp only [Act.put, List.getElem_toArray, List.getElem_cons_zero, List.getElem_cons_succ, List.setIfInBounds_toArray, List.set_cons_zero, List.set_cons_succ]
    refine wpLast_end (by kernel_rfl) rfl (by kernel_rfl) (fun K hK => ?_)
    go_simp
    refine hK.out _ _ ?_
    clear hK K
    try simp only [Act.put, List.getElem_toArray, List.getElem_cons_zero, List.getElem_cons_succ, List.setIfInBounds_toArray, List.set_cons_zero, List.set_cons_succ]
    go_wp2_with fail
    go_ret
    exact H8.out
  · have HWe : Hid (wd = [97, 114, 114, 97, 121, 32]) := by have := HWd.out; rw [if_neg hk] at this; exact this
    rw [HWe.out] at HRa
    have q2 : (t.kind == 2) = false := beq_eq_false_iff_ne.2 hk
    generalize t.kind = kd at *
    clear HWd
    go_enter Tryz.func20, Tryz.ntmps20
    go_upto_region 4 with fail
    refine wp_region_last (L := 9) (S := (fun _ => True)) (by kernel_rfl) (trivial) (fun hHeld => ?_)
    refine wpLast_take (i := 0) (v := ?_) rfl (by kernel_rfl) (by kernel_rfl) (by kernel_rfl) (by decide) (by kernel_rfl) (fun _ _ _ h => h) (Or.inl ⟨by rfl, ?_⟩) (by assumption) ?_
    rotate_left
    · (intro w hSw; (try dsimp only at hSw); first | (go_simp; done) | (go_simp; with_reducible rfl))
    try simp only [Act.put, List.getElem_toArray, List.getElem_cons_zero, List.getElem_cons_succ, List.setIfInBounds_toArray, List.set_cons_zero, List.set_cons_succ]
    refine wpLast_take (i := 1) (v := ?_) rfl (by kernel_rfl) (by kernel_rfl) (by kernel_rfl) (by decide) (by kernel_rfl) (fun _ _ _ h => h) (Or.inl ⟨by rfl, ?_⟩) (by assumption) ?_
    rotate_left
    · (intro w hSw; (try dsimp only at hSw); first | (go_simp; done) | (go_simp; with_reducible rfl))
    try simp only [Act.put, List.getElem_toArray, List.getElem_cons_zero, List.getElem_cons_succ, List.setIfInBounds_toArray, List.set_cons_zero, List.set_cons_succ]
    refine wpLast_take (i := 2) (v := ?_) rfl (by kernel_rfl) (by kernel_rfl) (by kernel_rfl) (by decide) (by kernel_rfl) (fun _ _ _ h => h) (Or.inl ⟨by rfl, ?_⟩) (by assumption) ?_
    rotate_left
    · (intro w hSw; (try dsimp only at hSw); first | (go_simp; done) | (go_simp; with_reducible rfl))
    try simp only [Act.put, List.getElem_toArray, List.getElem_cons_zero, List.getElem_cons_succ, List.setIfInBounds_toArray, List.set_cons_zero, List.set_cons_succ]
    refine wpLast_take (i := 4) (v := ?_) rfl (by kernel_rfl) (by kernel_rfl) (by kernel_rfl) (by decide) (by kernel_rfl) (fun _ _ _ h => h) (Or.inl ⟨by rfl, ?_⟩) (by assumption) ?_
    rotate_left
    · (intro w hSw; (try dsimp only at hSw); first | (go_simp; done) | (go_simp; with_reducible rfl))
    try simp only [Act.put, List.getElem_toArray, List.getElem_cons_zero, List.getElem_cons_succ, List.setIfInBounds_toArray, List.set_cons_zero, List.set_cons_succ]
    refine wpLast_take (i := 5) (v := ?_) rfl (by kernel_rfl) (by kernel_rfl) (by kernel_rfl) (by decide) (by kernel_rfl) (fun _ _ _ h => h) (Or.inl ⟨by rfl, ?_⟩) (by assumption) ?_
    rotate_left
    · (intro w hSw; (try dsimp only at hSw); first | (go_simp; done) | (go_simp; with_reducible rfl))
    try simp only [Act.put, List.getElem_toArray, List.getElem_cons_zero, List.getElem_cons_succ, List.setIfInBounds_toArray, List.set_cons_zero, List.set_cons_succ]
    refine wpLast_take (i := 6) (v := ?_) rfl (by kernel_rfl) (by kernel_rfl) (by kernel_rfl) (by decide) (by kernel_rfl) (fun _ _ _ h => h) (Or.inl ⟨by rfl, ?_⟩) (by assumption) ?_
    rotate_left
    · (intro w hSw; (try dsimp only at hSw); first | (go_simp; done) | (go_simp; with_reducible rfl))
    try simp only [Act.put, List.getElem_toArray, List.getElem_cons_zero, List.getElem_cons_succ, List.setIfInBounds_toArray, List.set_cons_zero, List.set_cons_succ]
    refine wpLast_one (i := 3) (by kernel_rfl) rfl (by decide) (fun K hK => ?_)
    refine step_append_run rfl (.tmp 11) (.tmp 12) 57 9 rfl v (.string ⟨#[97, 114, 114, 97, 121, 32]⟩) (by simp [Act.eval]) (by simp [Act.eval]) _ _ HRa.out ?_
    refine hK.out _ _ (trivial) (fun hHeld => ?_)
    clear hK K
    try simp only [Act.put, List.getElem_toArray, List.getElem_cons_zero, List.getElem_cons_succ, List.setIfInBounds_toArray, List.set_cons_zero, List.set_cons_succ]
    refine wpLast_one (i := 7) (by kernel_rfl) rfl (by decide) (fun K hK => ?_)
    go_simp
    go_wp2_with fail
    refine HKl.out.mono ?_
    rintro e w7 ⟨v7, rfl, hp7, hf7⟩
    have H7 := mkHid (And.intro hp7 hf7)
    clear hp7 hf7
    refine hK.out _ _ (trivial) (fun hHeld => ?_)
    clear hK K
    try simp only [Act.put, List.getElem_toArray, List.getElem_cons_zero, List.getElem_cons_succ, List.setIfInBounds_toArray, List.set_cons_zero, List.set_cons_succ]
    refine wpLast_one (i := 8) (by kernel_rfl) rfl (by decide) (fun K hK => ?_)
    go_simp
    go_wp2_with fail
    refine (HEl.out _ _ H7.out.1).mono ?_
    rintro e w8 ⟨v8, rfl, hp8, hf8⟩
    have H8 := mkHid (HFin.out v8 w8 _ H7.out.2 hp8 hf8)
    clear hp8 hf8
    refine hK.out _ _ (trivial) (fun hHeld => ?_)
    clear hK K
    try simp only [Act.put, List.getElem_toArray, List.getElem_cons_zero, List.getElem_cons_succ, List.setIfInBounds_toArray, List.set_cons_zero, List.set_cons_succ]
    refine wpLast_end (by kernel_rfl) rfl (by kernel_rfl) (fun K hK => ?_)
    go_simp
    refine hK.out _ _ ?_
    clear hK K
    try simp only [Act.put, List.getElem_toArray, List.getElem_cons_zero, List.getElem_cons_succ, List.setIfInBounds_toArray, List.set_cons_zero, List.set_cons_succ]
    go_wp2_with fail
    go_ret
    exact H8.out
end Go.Proofs.YtclkoffnjiiioaaGreatDoor

namespace Go.Proofs.YtclkoffnjiiioaaGreatDoor
open Go.RowKit
set_option linter.unusedVariables false
set_option linter.unusedSimpArgs false
attribute [local go_sem ↓] Go.wp_at_zero Go.wp_at_succ
set_option maxRecDepth 100000 in
set_option maxHeartbeats 8000000 in
theorem writeWords_ok {W W0 : World} {B : Nat} {v : Value} {bs : List UInt8} (h : Pg W B v bs) (ws : List Int) (p : Option Addr) (c : Nat) (hw : Rd W0 (.slice p ws.length c) ws) (hcap : ws.length ≤ c) (hB : W0.heap.size ≤ B) (hb : Below B W0 W) (ht : Tb W0) (hn : ws.length ≤ 4096) (hr : ∀ i, -9223372036854775808 ≤ ws.getD i 0 ∧ ws.getD i 0 ≤ 9223372036854775807) (out : List UInt8) (ho : lnW ws (ws.length + 1) 0 = some out) (hl : bs.length + out.length + 256 ≤ 17592186044416) :
    Calls Tryz.prog 21 #[v, .slice p ws.length c] W fun e w' => WrP W B bs out e w' := by
  have hlo := h.low
  have HAt : Hid (0 < ws.length → ∃ g off, p = some ⟨g, off, none⟩ ∧ ∀ V, Below B W0 V → ∀ i, i < ws.length → V.cell? ⟨g, off + i, none⟩ = some (.int .i64 (ws.getD i 0))) := fun hp => by
    obtain ⟨p', c', e, hh⟩ := hw.at_
    injection e with e1 _ _
    subst e1
    obtain ⟨g, off, e2, hg, hc⟩ := hh hp
    exact ⟨g, off, e2, fun V hV i hi => (World.cell?_of_block (w := W0) (a := ⟨g, off + i, none⟩) (hV.block g (Nat.lt_of_lt_of_le hg hB))).trans (hc i hi)⟩
  have HTb : Hid (∀ V, Below B W0 V → Tb V) := fun V hV => ht.low hV (Nat.lt_of_lt_of_le ht.pos hB)
  have HBl := mkHid hb
  have HRg := mkHid hr
  have H1 := mkHid h
  have HO := mkHid ho
  have HLo := mkHid hlo
  clear h hw hb ht hr ho hlo
  go_enter Tryz.func21, Tryz.ntmps21
  go_wp2_with fail
  go_loopw [0, 5] (fun pg q wr => ∃ a : Nat, a ≤ ws.length ∧ q = .int .i64 (a : Int) ∧ Hid (∃ done rest f, Pg wr B pg (bs ++ done) ∧ Pf B W wr ∧ done ++ rest = out ∧ lnW ws f a = some rest)) (fun _ q _ => ws.length - (intOf q).toNat)
  case atStart => exact ⟨0, Nat.zero_le _, rfl, [], out, ws.length + 1, by simpa using H1.out, Pf.refl _ _, rfl, HO.out⟩
  case round =>
    clear H1 HO
    obtain ⟨a, ha, rfl, hst⟩ := hrel
    have a0 : (0 : Int) ≤ (a : Int) := by omega
    obtain ⟨done, rest, f, hp, hf, hd, hln⟩ := hst.out
    have hbl := HBl.out.trans hf.below
    by_cases hlt : a < ws.length
    · have a1 : (a : Int) < (ws.length : Int) := by omega
      obtain ⟨g, off, rfl, hcs⟩ := HAt.out (by omega)
      have c0 := hcs wr hbl a hlt
      cases f with
      | zero => cases hln
      | succ f =>
      unfold lnW at hln
      rw [if_pos hlt] at hln
      obtain ⟨o, hoo⟩ : ∃ o, ws.getD a 0 = o := ⟨_, rfl⟩
      rw [hoo] at hln c0
      by_cases hc2 : isOp o = true ∧ a + 1 + opd o.toNat ≤ ws.length
      rotate_left
      · rw [if_neg hc2] at hln; cases hln
      rw [if_pos hc2] at hln
      have hop1 : 1 ≤ o ∧ o ≤ 28 := by have := hc2.1; unfold isOp at this; simpa using this
      obtain ⟨m, rfl⟩ : ∃ m : Nat, o = (m : Int) := ⟨o.toNat, by omega⟩
      rw [Int.toNat_natCast] at hln hc2
      obtain ⟨rest', hrest, hre⟩ : ∃ r', lnW ws f (a + 1 + opd m) = some r' ∧ insW a m ((ws.drop (a + 1)).take (opd m)) ++ r' = rest := by
        cases hq : lnW ws f (a + 1 + opd m) with
        | none => rw [hq] at hln; cases hln
        | some r' => rw [hq] at hln; exact ⟨r', rfl, by simpa using hln⟩
      obtain ⟨ns, hns⟩ : ∃ ns, (ws.drop (a + 1)).take (opd m) = ns := ⟨_, rfl⟩
      rw [hns] at hre
      have hnl : ns.length = opd m := by rw [← hns, List.length_take, List.length_drop]; omega
      have hnr : ∀ n ∈ ns, -9223372036854775808 ≤ n ∧ n ≤ 9223372036854775807 := fun n hn => by
        rw [← hns] at hn
        obtain ⟨i, hi⟩ := List.getElem?_of_mem (List.mem_of_mem_drop (List.mem_of_mem_take hn))
        have := HRg.out i
        rw [List.getD_eq_getElem?_getD, hi] at this
        exact this
      have hni : ∀ i (hi : i < ns.length), ws.getD (a + 1 + i) 0 = ns[i] := fun i hi => by
        subst hns
        rw [List.getElem_take, List.getElem_drop, List.getD_eq_getElem?_getD, List.getElem?_eq_getElem (by rw [hnl] at hi; omega)]
        rfl
      obtain ⟨t0, t1⟩ := HTb.out wr hbl m (by omega)
      have hod := opd_le m
      have hnm := nmB_le m
      obtain ⟨bx, hbx⟩ : ∃ o : Obj, o = .cells #[.string (nmB m), .int .i64 (opd m : Int)] 82 := ⟨_, rfl⟩
      have hg : (wr.alloc bx).heap[wr.heap.size]? = some (.cells #[.string (nmB m), .int .i64 (opd m : Int)] 82 (0, 0)) := by rw [hbx]; exact heap_alloc_new wr _
      have HS : Hid (∀ U, Pf B (wr.alloc bx) U → U.cell? ⟨wr.heap.size, 0, none⟩ = some (.string (nmB m))) := fun U hU => cell_in (hU.hb hg (by intro c fz e; injection e with _ e; cases e)) 0
      have hlow : B ≤ wr.heap.size := hp.low
      have hlow1 : B ≤ (wr.alloc bx).heap.size := (hp.al bx).low
      have hfw : Pf B wr (wr.alloc bx) := (Pf.refl B wr).alloc hlow bx
      have htot : done.length + rest.length = out.length := by rw [← hd, List.length_append]
      have hrl : (insW a m ns).length + rest'.length = rest.length := by rw [← hre, List.length_append]
      have hil : (insW a m ns).length = (Lib.itoa (a : Int)).length + 1 + (nmB m).data.toList.length + (numsW ns).length + 1 := by unfold insW; simp only [List.length_append, List.length_singleton]
      have HNm := mkHid ((hp.al bx).num (a : Int) (by omega) (by omega) (by rw [List.length_append]; omega))
      have HSp : Hid (∀ (V : World) (pg : Value), Pg V B pg (bs ++ done ++ Lib.itoa (a : Int)) → Pf B (wr.alloc bx) V → ∃ v3 w3 v4 w4, (Builtin.append_ #[57, 57] 57 #[pg, .slice (some ⟨V.heap.size, 0, none⟩) 1 1]).run Tryz.prog (V.alloc (.cells #[.int .u8 32] 5)) = .ok v3 w3 ∧ Hid (Pf B (wr.alloc bx) w3.drew) ∧ (Builtin.append_ #[57, 9] 57 #[v3, .string (nmB m)]).run Tryz.prog w3.drew = .ok v4 w4 ∧ Hid (Pg w4 B v4 (bs ++ done ++ Lib.itoa (a : Int) ++ [32] ++ (nmB m).data.toList) ∧ Pf B (wr.alloc bx) w4)) := fun V pg hV fV => by
        obtain ⟨v3, w3, hr3, hp3, hf3⟩ := hV.push [32] (by simp only [List.length_append, List.length_singleton]; omega)
        have h3d : Pg w3.drew B v3 (bs ++ done ++ Lib.itoa (a : Int) ++ [32]) := hp3.dr 1
        obtain ⟨v4, w4, hr4, hp4, hf4⟩ := h3d.str (nmB m) (by simp only [List.length_append, List.length_singleton]; omega)
        have f3 : Pf B (wr.alloc bx) w3.drew := (fV.trans hf3).dn hlow1 1
        exact ⟨v3, w3, v4, w4, hr3, f3, hr4, hp4, f3.trans hf4⟩
      have HN2 : Hid (∀ (V : World) (pg : Value) (p' : Option Addr) (c' : Nat), Pg V B pg (bs ++ done ++ Lib.itoa (a : Int) ++ [32] ++ (nmB m).data.toList) → Pf B (wr.alloc bx) V → (0 < opd m → p' = some ⟨g, off + (a + 1), none⟩) → Calls Tryz.prog 32 #[pg, .slice p' (opd m) c'] V fun e w' => WrP V B (bs ++ done ++ Lib.itoa (a : Int) ++ [32] ++ (nmB m).data.toList) (numsW ns) e w') := fun V pg p' c' hV fV hp' => by
        have := numbers_ok hV ns p' c' hnr (by omega) (by simp only [List.length_append, List.length_singleton]; omega) (fun W' hW' hpos => ⟨g, off + (a + 1), hp' (by omega), fun i hi => by
          rw [← hni i hi, show off + (a + 1) + i = off + (a + 1 + i) by omega]
          exact hcs W' (((hbl.trans hfw.below).trans fV.below).trans hW'.below) (a + 1 + i) (by omega)⟩)
        rw [hnl] at this
        exact this
      have HEl : Hid (∀ (V : World) (pg : Value), Pg V B pg (bs ++ done ++ Lib.itoa (a : Int) ++ [32] ++ (nmB m).data.toList ++ numsW ns) → Calls Tryz.prog 31 #[pg] V fun e w' => WrP V B (bs ++ done ++ Lib.itoa (a : Int) ++ [32] ++ (nmB m).data.toList ++ numsW ns) [10] e w') := fun V pg hV => endLine_ok hV (by simp only [List.length_append, List.length_singleton]; omega)
      have HFin : Hid (∀ v' w', Pg w' B v' (bs ++ done ++ Lib.itoa (a : Int) ++ [32] ++ (nmB m).data.toList ++ numsW ns ++ [10]) → Pf B (wr.alloc bx) w' → ∃ done rest f, Pg w' B v' (bs ++ done) ∧ Pf B W w' ∧ done ++ rest = out ∧ lnW ws f (a + 1 + opd m) = some rest) := fun v' w' h1 h2 => ⟨done ++ insW a m ns, rest', f, by
        have e : bs ++ (done ++ insW a m ns) = bs ++ done ++ Lib.itoa (a : Int) ++ [32] ++ (nmB m).data.toList ++ numsW ns ++ [10] := by unfold insW; simp
        rw [e]; exact h1, (hf.trans hfw).trans h2, by rw [List.append_assoc, hre]; exact hd, hrest⟩
      have m0 : (0 : Int) ≤ (m : Int) := by omega
      have m1 : (m : Int) < 29 := by omega
      have hbnd : a + 1 + opd m ≤ ws.length := hc2.2
      rw [hbx] at HS HNm HSp HN2 HFin
      clear hst hp hf hd hln hcs hoo hc2 hop1 hrest hre hns hnl hnr hni hbx hg hlow hlow1 hfw htot hrl hil hbl hnm
      clear bx
      generalize opd m = od at *
      generalize nmB m = nm at *
      have b1 : (0 : Int) ≤ (a : Int) + 1 := by omega
      have b2 : (a : Int) + 1 ≤ (a : Int) + 1 + (od : Int) := by omega
      have b3 : (a : Int) + 1 + (od : Int) ≤ (c : Int) := by omega
      have b4 : (0 : Int) ≤ (a : Int) + 1 + (od : Int) := by omega
      have wr1 : IntKind.i64.wrap ((a : Int) + 1) = (a : Int) + 1 := iwrap_id (by omega) (by omega)
      have mx1 : max ((a : Int) + 1 + (od : Int)) 0 = (a : Int) + 1 + (od : Int) := by omega
      have tn1 : ((a : Int) + 1).toNat = a + 1 := by omega
      have tn2 : ((a : Int) + 1 + (od : Int)).toNat = a + 1 + od := by omega
      have sb1 : a + 1 + od - (a + 1) = od := by omega
      obtain ⟨p', hp'⟩ : ∃ p' : Option Addr, (if c = a + 1 then some (⟨g, off, none⟩ : Addr) else some ⟨g, off + (a + 1), none⟩) = p' := ⟨_, rfl⟩
      have HP' : Hid (0 < od → p' = some ⟨g, off + (a + 1), none⟩) := fun h => by rw [← hp', if_neg (by omega)]
      go_wp2_with fail
      refine HNm.out.mono ?_
      rintro e w2 ⟨v2, rfl, hp2, hf2⟩
      obtain ⟨v3, w3, v4, w4, hr3, F3, hr4, H4⟩ := HSp.out w2 v2 hp2 hf2
      have HR3 := mkHid hr3
      have HR4 := mkHid hr4
      clear hp2 hf2 hr3 hr4 HNm HSp
      go_wp2_with (at_builtin; refine Lib.wpList_append_run _ rfl (.tmp 25) (.tmp 26) 57 57 rfl _ _ rfl rfl _ _ HR3.out ?_)
      refine wp_region_last (L := 11) (S := (fun U => U.cell? ⟨wr.heap.size, 0, none⟩ = some (.string nm))) (by kernel_rfl) (HS.out _ F3.out) (fun hHeld => ?_)
      refine wpLast_take (i := 0) (v := ?_) rfl (by kernel_rfl) (by kernel_rfl) (by kernel_rfl) (by decide) (by kernel_rfl) (fun _ _ _ h => h) (Or.inl ⟨by rfl, ?_⟩) (by assumption) ?_
      rotate_left
      · (intro w hSw; (try dsimp only at hSw); first | (go_simp; done) | (go_simp; with_reducible rfl))
      try simp only [Act.put, List.getElem_toArray, List.getElem_cons_zero, List.getElem_cons_succ, List.setIfInBounds_toArray, List.set_cons_zero, List.set_cons_succ]
      refine wpLast_take (i := 1) (v := ?_) rfl (by kernel_rfl) (by kernel_rfl) (by kernel_rfl) (by decide) (by kernel_rfl) (fun _ _ _ h => h) (Or.inl ⟨by rfl, ?_⟩) (by assumption) ?_
      rotate_left
      · (intro w hSw; (try dsimp only at hSw); first | (go_simp; done) | (go_simp; with_reducible rfl))
      try simp only [Act.put, List.getElem_toArray, List.getElem_cons_zero, List.getElem_cons_succ, List.setIfInBounds_toArray, List.set_cons_zero, List.set_cons_succ]
      refine wpLast_take (i := 2) (v := ?_) rfl (by kernel_rfl) (by kernel_rfl) (by kernel_rfl) (by decide) (by kernel_rfl) (fun _ _ _ h => h) (Or.inl ⟨by rfl, ?_⟩) (by assumption) ?_
      rotate_left
      · (intro w hSw; (try dsimp only at hSw); first | (go_simp; done) | (go_simp; with_reducible rfl))
      try simp only [Act.put, List.getElem_toArray, List.getElem_cons_zero, List.getElem_cons_succ, List.setIfInBounds_toArray, List.set_cons_zero, List.set_cons_succ]
      refine wpLast_take (i := 4) (v := ?_) rfl (by kernel_rfl) (by kernel_rfl) (by kernel_rfl) (by decide) (by kernel_rfl) (fun _ _ _ h => h) (Or.inl ⟨by rfl, ?_⟩) (by assumption) ?_
      rotate_left
      · (intro w hSw; (try dsimp only at hSw); first | (go_simp; done) | (go_simp; with_reducible rfl))
      try simp only [Act.put, List.getElem_toArray, List.getElem_cons_zero, List.getElem_cons_succ, List.setIfInBounds_toArray, List.set_cons_zero, List.set_cons_succ]
      refine wpLast_take (i := 5) (v := ?_) rfl (by kernel_rfl) (by kernel_rfl) (by kernel_rfl) (by decide) (by kernel_rfl) (fun _ _ _ h => h) (Or.inl ⟨by rfl, ?_⟩) (by assumption) ?_
      rotate_left
      · (intro w hSw; (try dsimp only at hSw); first | (go_simp; done) | (go_simp; with_reducible rfl))
      try simp only [Act.put, List.getElem_toArray, List.getElem_cons_zero, List.getElem_cons_succ, List.setIfInBounds_toArray, List.set_cons_zero, List.set_cons_succ]
      refine wpLast_take (i := 6) (v := ?_) rfl (by kernel_rfl) (by kernel_rfl) (by kernel_rfl) (by decide) (by kernel_rfl) (fun _ _ _ h => h) (Or.inl ⟨by rfl, ?_⟩) (by assumption) ?_
      rotate_left
      · (intro w hSw; (try dsimp only at hSw); first | (go_simp; done) | (go_simp; with_reducible rfl))
      try simp only [Act.put, List.getElem_toArray, List.getElem_cons_zero, List.getElem_cons_succ, List.setIfInBounds_toArray, List.set_cons_zero, List.set_cons_succ]
      refine wpLast_take (i := 7) (v := ?_) rfl (by kernel_rfl) (by kernel_rfl) (by kernel_rfl) (by decide) (by kernel_rfl) (fun _ _ _ h => h) (Or.inl ⟨by rfl, ?_⟩) (by assumption) ?_
      rotate_left
      · (intro w hSw; (try dsimp only at hSw); first | (go_simp; done) | (go_simp; with_reducible rfl))
      try simp only [Act.put, List.getElem_toArray, List.getElem_cons_zero, List.getElem_cons_succ, List.setIfInBounds_toArray, List.set_cons_zero, List.set_cons_succ]
      refine wpLast_take (i := 8) (v := .slice p' od (c - (a + 1))) rfl (by kernel_rfl) (by kernel_rfl) (by kernel_rfl) (by decide) (by kernel_rfl) (fun _ _ _ h => h) (Or.inl ⟨by rfl, ?_⟩) (by assumption) ?_
      · (intro w hSw; (try dsimp only at hSw); go_simp)
      try simp only [Act.put, List.getElem_toArray, List.getElem_cons_zero, List.getElem_cons_succ, List.setIfInBounds_toArray, List.set_cons_zero, List.set_cons_succ]
      refine wpLast_one (i := 3) (by kernel_rfl) rfl (by decide) (fun K hK => ?_)
      refine step_append_run rfl (.tmp 28) (.tmp 30) 57 9 rfl v3 (.string nm) (by simp [Act.eval]) (by simp [Act.eval]) _ _ HR4.out ?_
      refine hK.out _ _ (HS.out _ H4.out.2) (fun hHeld => ?_)
      clear hK K
      try simp only [Act.put, List.getElem_toArray, List.getElem_cons_zero, List.getElem_cons_succ, List.setIfInBounds_toArray, List.set_cons_zero, List.set_cons_succ]
      refine wpLast_one (i := 9) (by kernel_rfl) rfl (by decide) (fun K hK => ?_)
      go_simp
      go_wp2_with fail
      refine (HN2.out _ _ _ _ H4.out.1 H4.out.2 HP'.out).mono ?_
      rintro e w7 ⟨v7, rfl, hp7, hf7⟩
      have H7 := mkHid (And.intro hp7 hf7)
      clear hp7 hf7
      refine hK.out _ _ (HS.out _ (H4.out.2.trans H7.out.2)) (fun hHeld => ?_)
      clear hK K
      try simp only [Act.put, List.getElem_toArray, List.getElem_cons_zero, List.getElem_cons_succ, List.setIfInBounds_toArray, List.set_cons_zero, List.set_cons_succ]
      refine wpLast_one (i := 10) (by kernel_rfl) rfl (by decide) (fun K hK => ?_)
      go_simp
      go_wp2_with fail
      refine (HEl.out _ _ H7.out.1).mono ?_
      rintro e w8 ⟨v8, rfl, hp8, hf8⟩
      have H8 := mkHid (HFin.out v8 w8 hp8 ((H4.out.2.trans H7.out.2).trans hf8))
      have H9 := mkHid hf8
      clear hp8 hf8
      refine hK.out _ _ (HS.out _ ((H4.out.2.trans H7.out.2).trans H9.out)) (fun hHeld => ?_)
      clear hK K
      try simp only [Act.put, List.getElem_toArray, List.getElem_cons_zero, List.getElem_cons_succ, List.setIfInBounds_toArray, List.set_cons_zero, List.set_cons_succ]
      refine wpLast_end (by kernel_rfl) rfl (by kernel_rfl) (fun K hK => ?_)
      go_simp
      refine hK.out _ _ ?_
      clear hK K
      try simp only [Act.put, List.getElem_toArray, List.getElem_cons_zero, List.getElem_cons_succ, List.setIfInBounds_toArray, List.set_cons_zero, List.set_cons_succ]
      go_wp2_with fail
      go_roundw
      case rel => exact ⟨a + 1 + od, by omega, by go_num, H8.out⟩
      case measure => simp [intOf]; omega
    · have hie : a = ws.length := by omega
      subst hie
      have hrn : rest = [] := by
        cases f with
        | zero => cases hln
        | succ f =>
          unfold lnW at hln
          rw [if_neg (by omega)] at hln
          exact (Option.some.inj hln).symm
      have HX : Hid (WrP W B bs out (.returned u0) wr) := ⟨u0, rfl, by rw [← hd, hrn, List.append_nil]; exact hp, hf⟩
      clear hst hp hf hd hln hrn hbl
      go_wp2_with fail
      go_ret
      exact HX.out
end Go.Proofs.YtclkoffnjiiioaaGreatDoor

