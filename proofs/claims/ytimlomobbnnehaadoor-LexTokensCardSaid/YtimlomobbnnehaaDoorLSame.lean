import Derived.Test.YtimlomobbnnehaaDoorLTokC
import Derived.BigQuiet
namespace Go.Proofs.YtimlomobbnnehaaDoor
open Go.RowKit Go.Maps
set_option linter.unusedVariables false
set_option linter.unusedSimpArgs false
def noT : Tok × Nat := (⟨0, [], 0⟩, 0)
/-- a list of tokens that can be read -/
structure RdT (w : World) (v : Value) (ts : List (Tok × Nat)) : Prop where
  at_ : ∃ p c, v = .slice p ts.length c ∧ (0 < ts.length → ∃ b off, p = some ⟨b, off, none⟩ ∧ b < w.heap.size ∧ ∀ j, j < ts.length →
    w.cell? ⟨b, off + j * 4, none⟩ = some (.int .i64 (ts.getD j noT).1.kind) ∧ w.cell? ⟨b, off + j * 4 + 1, none⟩ = some (.string (ba (ts.getD j noT).1.text)) ∧
    w.cell? ⟨b, off + j * 4 + 2, none⟩ = some (.int .i64 (ts.getD j noT).1.num) ∧ w.cell? ⟨b, off + j * 4 + 3, none⟩ = some (.int .i64 (ts.getD j noT).2))
theorem RdT.keep {w w' : World} {v : Value} {ts : List (Tok × Nat)} (h : RdT w v ts) (b : Bl w w') : RdT w' v ts := by
  obtain ⟨p, c, rfl, hp⟩ := h.at_
  refine ⟨p, c, rfl, fun h0 => ?_⟩
  obtain ⟨g, off, rfl, hg, hc⟩ := hp h0
  have e : ∀ i, w'.cell? ⟨g, i, none⟩ = w.cell? ⟨g, i, none⟩ := fun i => World.cell?_of_block (w := w) (b.block g hg)
  exact ⟨g, off, rfl, Nat.lt_of_lt_of_le hg b.size, fun j hj => by rw [e, e, e, e]; exact hc j hj⟩
theorem tcs_get : ∀ (ts : List (Tok × Nat)) (j i : Nat), j < ts.length → i < 4 → (tcs ts)[j * 4 + i]? = (tc (ts.getD j noT))[i]? := by
  intro ts
  induction ts with
  | nil => intro j i h; simp at h
  | cons x ts ih =>
    intro j i hj hi
    have e : tcs (x :: ts) = tc x ++ tcs ts := by simp [tcs]
    rw [e]
    have l4 : (tc x).length = 4 := rfl
    cases j with
    | zero => rw [List.getElem?_append_left (by omega)]; simp
    | succ j =>
      rw [List.getElem?_append_right (by omega), l4, show (j + 1) * 4 + i - 4 = j * 4 + i by omega, ih j i (by simpa using hj) hi]
      rfl
theorem RdT.own {w : World} {base : Nat} {v : Value} {ts : List (Tok × Nat)} (h : w.ownsRow base 41 4 v ts.length (tcs ts)) : RdT w v ts := by
  rcases h.2 with ⟨rfl, h2⟩ | ⟨g, cap, cur, rfl, h1, h2, h3, h4, h5, h6⟩
  · exact ⟨none, 0, by rw [h2], fun h => by omega⟩
  · refine ⟨_, cap, rfl, fun h0 => ⟨g, 0, rfl, lt_of_heap h2, fun j hj => ?_⟩⟩
    have key : ∀ i, i < 4 → w.cell? ⟨g, 0 + j * 4 + i, none⟩ = (tc (ts.getD j noT))[i]? := fun i hi => by
      rw [cell_in h2, ← tcs_get ts j i hj hi, ← h6, List.getElem?_take, if_pos (by omega), Array.getElem?_toList, Nat.zero_add]
    exact ⟨key 0 (by omega), key 1 (by omega), key 2 (by omega), key 3 (by omega)⟩
/-- a part of a list that can be read -/
theorem RdT.part {w : World} {p : Option Addr} {b off n c : Nat} {ts : List (Tok × Nat)} (h : RdT w (.slice (some ⟨b, off, none⟩) n c) ts) {i k c' : Nat} (hi : i + k ≤ ts.length) : RdT w (.slice (some ⟨b, off + i * 4, none⟩) k c') ((ts.drop i).take k) := by
  have hl : ((ts.drop i).take k).length = k := by simp; omega
  refine ⟨_, c', by rw [hl], fun h0 => ?_⟩
  rw [hl] at h0
  obtain ⟨p', c2, e, hp⟩ := h.at_
  injection e with e e2 e3
  obtain ⟨b', off', e4, hb, hc⟩ := hp (by omega)
  subst e
  injection e4 with e4
  injection e4 with e5 e6
  subst e5 e6
  refine ⟨b, off + i * 4, rfl, hb, fun j hj => ?_⟩
  rw [hl] at hj
  have hg : ((ts.drop i).take k).getD j noT = ts.getD (i + j) noT := by
    rw [List.getD_eq_getElem?_getD, List.getD_eq_getElem?_getD, List.getElem?_take, if_pos hj, List.getElem?_drop]
  rw [hg]
  have := hc (i + j) (by omega)
  rw [show off + (i + j) * 4 = off + i * 4 + j * 4 by omega] at this
  exact this
theorem Bl.drewN (w : World) (n : Nat) : Bl w (w.drewN n) := ⟨rfl, rfl, rfl, Nat.le_refl _, fun _ _ => rfl⟩
def AgreeT (pl : Bool) (ts us : List (Tok × Nat)) : Prop := us.length = ts.length ∧ ∀ j, j < ts.length → (us.getD j noT).1 = (ts.getD j noT).1 ∧ (pl = true → (us.getD j noT).2 = (ts.getD j noT).2)
set_option maxHeartbeats 8000000 in
set_option maxRecDepth 1000000 in
theorem same_q (va vb : Value) (ta tb : List (Tok × Nat)) (pl : Bool) (w : World) (ha : RdT w va ta) (hb : RdT w vb tb) (hs : AgreeT pl ta tb) (hmax : ta.length ≤ 140737488355328) :
    Calls Tryd.prog 6 #[va, vb, .bool pl] w fun e w' => e = .returned (.bool true) ∧ ∃ n, w' = w.drewN n := by
  obtain ⟨hlen, hag⟩ := hs
  obtain ⟨pa, ca, rfl, hpa⟩ := ha.at_
  obtain ⟨pb, cb, rfl, hpb⟩ := hb.at_
  have HA := mkHid ha
  have HB := mkHid hb
  have HG := mkHid hag
  clear ha hb hpa hpb hag
  rw [hlen] at HB ⊢
  go_enter Tryd.func6, Tryd.ntmps6
  go_wp2_with fail
  go_loopw [7] (fun q wr => ∃ k : Nat, k ≤ ta.length ∧ q = .int .i64 k ∧ Hid (∃ m, wr = w.drewN m)) (fun q _ => ta.length - (intOf q).toNat)
  case atStart => exact ⟨0, Nat.zero_le _, rfl, 0, rfl⟩
  case round =>
    obtain ⟨k, hk, rfl, hbq⟩ := hrel
    have hbl : Hid (Bl w wr) := by obtain ⟨m, rfl⟩ := hbq.out; exact Bl.drewN w m
    have hnx : Hid (∀ n, ∃ m, wr.drewN n = w.drewN m) := fun n => by obtain ⟨m, rfl⟩ := hbq.out; exact ⟨m + n, by simp [World.drewN, Nat.add_assoc]⟩
    by_cases hlt : k < ta.length
    · have hki : (k : Int) < ta.length := by omega
      obtain ⟨pa', ca', ea, hpa⟩ := (HA.out.keep hbl.out).at_
      injection ea with ea1 ea2 ea3
      subst ea1 ea3
      obtain ⟨pb', cb', eb, hpb⟩ := (HB.out.keep hbl.out).at_
      injection eb with eb1 eb2 eb3
      subst eb1 eb3
      obtain ⟨ga, fa, rfl, hga, hca⟩ := hpa (by omega)
      obtain ⟨gb, fb, rfl, hgb, hcb⟩ := hpb (by omega)
      obtain ⟨x0, x1, x2, x3⟩ := hca k hlt
      obtain ⟨y0, y1, y2, y3⟩ := hcb k (by omega)
      obtain ⟨g1, g2⟩ := HG.out k hlt
      rw [g1] at y0 y1 y2
      clear hca hcb ea2 eb2 g1
      obtain ⟨⟨tk, tt, tn⟩, tp⟩ := ta.getD k noT
      generalize tb.getD k noT = bt at *
      obtain ⟨⟨bk, bt', bn⟩, bp⟩ := bt
      dsimp only at *
      cases pl with
      | true =>
        have g3 := g2 rfl
        subst g3
        go_wp2_with fail
        go_quiet (fail)
        go_wp2_with fail
        go_roundw
        case rel => exact ⟨k + 1, by omega, by simp, hnx.out _⟩
        case measure => simp [intOf]; omega
      | false =>
        go_wp2_with fail
        go_quiet (fail)
        go_wp2_with fail
        go_roundw
        case rel => exact ⟨k + 1, by omega, by simp, hnx.out _⟩
        case measure => simp [intOf]; omega
    · have hke : k = ta.length := by omega
      subst hke
      go_wp2
      go_wp2
      go_ret
      exact ⟨rfl, hbq.out⟩
theorem same_ok (va vb : Value) (ta tb : List (Tok × Nat)) (pl : Bool) (w : World) (ha : RdT w va ta) (hb : RdT w vb tb) (hs : AgreeT pl ta tb) (hmax : ta.length ≤ 140737488355328) :
    Calls Tryd.prog 6 #[va, vb, .bool pl] w fun e w' => e = .returned (.bool true) ∧ Bl w w' := by
  refine (same_q va vb ta tb pl w ha hb hs hmax).mono ?_
  rintro e w' ⟨rfl, n, rfl⟩
  exact ⟨rfl, Bl.drewN w n⟩
end Go.Proofs.YtimlomobbnnehaaDoor

