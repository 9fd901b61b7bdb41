import Derived.Test.YtimlomobbnnehaaGreatDoorG06LTokC
import Derived.BigQuiet
import Derived.Test.YtimlomobbnnehaaGreatDoorG02LCut
import Derived.Test.YtimlomobbnnehaaGreatDoorLTokD
namespace Go.Proofs.YtimlomobbnnehaaGreatDoor
open Go.RowKit Go.Maps
set_option linter.unusedVariables false
set_option linter.unusedSimpArgs false
def noT : Tok × Nat := (⟨0, [], 0⟩, 0)
/-- a list of tokens that can be read -/
structure RdT (w : World) (v : Value) (ts : List (Tok × Nat)) : Prop where
  at_ : ∃ p c, v = .slice p ts.length c ∧ (0 < ts.length → ∃ b off, p = some ⟨b, off, none⟩ ∧ b < w.heap.size ∧ ∀ j, j < ts.length →
    w.cell? ⟨b, off + j * 4, none⟩ = some (.int .i64 (ts.getD j noT).1.kind) ∧ w.cell? ⟨b, off + j * 4 + 1, none⟩ = some (.string (ba (ts.getD j noT).1.text)) ∧
    w.cell? ⟨b, off + j * 4 + 2, none⟩ = some (.int .i64 (ts.getD j noT).1.num) ∧ w.cell? ⟨b, off + j * 4 + 3, none⟩ = some (.int .i64 (ts.getD j noT).2))
theorem RdT.keep {w w' : World} {v : Value} {ts : List (Tok × Nat)} (h : RdT w v ts) (b : Bl w w') : RdT w' v ts := by
  obtain ⟨p, c, rfl, hp⟩ := h.at_
  refine ⟨p, c, rfl, fun h0 => ?_⟩
  obtain ⟨g, off, rfl, hg, hc⟩ := hp h0
  have e : ∀ i, w'.cell? ⟨g, i, none⟩ = w.cell? ⟨g, i, none⟩ := fun i => World.cell?_of_block (w := w) (b.block g hg)
  exact ⟨g, off, rfl, Nat.lt_of_lt_of_le hg b.size, fun j hj => by rw [e, e, e, e]; exact hc j hj⟩
theorem tcs_get : ∀ (ts : List (Tok × Nat)) (j i : Nat), j < ts.length → i < 4 → (tcs ts)[j * 4 + i]? = (tc (ts.getD j noT))[i]? := by
  intro ts
  induction ts with
  | nil => intro j i h; simp at h
  | cons x ts ih =>
    intro j i hj hi
    have e : tcs (x :: ts) = tc x ++ tcs ts := by simp [tcs]
    rw [e]
    have l4 : (tc x).length = 4 := rfl
    cases j with
    | zero => rw [List.getElem?_append_left (by omega)]; simp
    | succ j =>
      rw [List.getElem?_append_right (by omega), l4, show (j + 1) * 4 + i - 4 = j * 4 + i by omega, ih j i (by simpa using hj) hi]
      rfl
theorem RdT.own {w : World} {base : Nat} {v : Value} {ts : List (Tok × Nat)} (h : w.ownsRow base 28 4 v ts.length (tcs ts)) : RdT w v ts := by
  rcases h.2 with ⟨rfl, h2⟩ | ⟨g, cap, cur, rfl, h1, h2, h3, h4, h5, h6⟩
  · exact ⟨none, 0, by rw [h2], fun h => by omega⟩
  · refine ⟨_, cap, rfl, fun h0 => ⟨g, 0, rfl, lt_of_heap h2, fun j hj => ?_⟩⟩
    have key : ∀ i, i < 4 → w.cell? ⟨g, 0 + j * 4 + i, none⟩ = (tc (ts.getD j noT))[i]? := fun i hi => by
      rw [cell_in h2, ← tcs_get ts j i hj hi, ← h6, List.getElem?_take, if_pos (by omega), Array.getElem?_toList, Nat.zero_add]
    exact ⟨key 0 (by omega), key 1 (by omega), key 2 (by omega), key 3 (by omega)⟩
/-- a part of a list that can be read -/
theorem RdT.part {w : World} {p : Option Addr} {b off n c : Nat} {ts : List (Tok × Nat)} (h : RdT w (.slice (some ⟨b, off, none⟩) n c) ts) {i k c' : Nat} (hi : i + k ≤ ts.length) : RdT w (.slice (some ⟨b, off + i * 4, none⟩) k c') ((ts.drop i).take k) := by
  have hl : ((ts.drop i).take k).length = k := by simp; omega
  refine ⟨_, c', by rw [hl], fun h0 => ?_⟩
  rw [hl] at h0
  obtain ⟨p', c2, e, hp⟩ := h.at_
  injection e with e e2 e3
  obtain ⟨b', off', e4, hb, hc⟩ := hp (by omega)
  subst e
  injection e4 with e4
  injection e4 with e5 e6
  subst e5 e6
  refine ⟨b, off + i * 4, rfl, hb, fun j hj => ?_⟩
  rw [hl] at hj
  have hg : ((ts.drop i).take k).getD j noT = ts.getD (i + j) noT := by
    rw [List.getD_eq_getElem?_getD, List.getD_eq_getElem?_getD, List.getElem?_take, if_pos hj, List.getElem?_drop]
  rw [hg]
  have := hc (i + j) (by omega)
  rw [show off + (i + j) * 4 = off + i * 4 + j * 4 by omega] at this
  exact this
theorem Bl.drewN (w : World) (n : Nat) : Bl w (w.drewN n) := ⟨rfl, rfl, rfl, Nat.le_refl _, fun _ _ => rfl⟩
def AgreeT (pl : Bool) (ts us : List (Tok × Nat)) : Prop := us.length = ts.length ∧ ∀ j, j < ts.length → (us.getD j noT).1 = (ts.getD j noT).1 ∧ (pl = true → (us.getD j noT).2 = (ts.getD j noT).2)
set_option maxHeartbeats 8000000 in
set_option maxRecDepth 1000000 in
theorem same_q (va vb : Value) (ta tb : List (Tok × Nat)) (pl : Bool) (w : World) (ha : RdT w va ta) (hb : RdT w vb tb) (hs : AgreeT pl ta tb) (hmax : ta.length ≤ 140737488355328) :
    Calls Tryz.prog 12 #[va, vb, .bool pl] w fun e w' => e = .returned (.bool true) ∧ ∃ n, w' = w.drewN n := by
  obtain ⟨hlen, hag⟩ := hs
  obtain ⟨pa, ca, rfl, hpa⟩ := ha.at_
  obtain ⟨pb, cb, rfl, hpb⟩ := hb.at_
  have HA := mkHid ha
  have HB := mkHid hb
  have HG := mkHid hag
  clear ha hb hpa hpb hag
  rw [hlen] at HB ⊢
  go_enter Tryz.func12, Tryz.ntmps12
  go_wp2_with fail
  go_loopw [7] (fun q wr => ∃ k : Nat, k ≤ ta.length ∧ q = .int .i64 k ∧ Hid (∃ m, wr = w.drewN m)) (fun q _ => ta.length - (intOf q).toNat)
  case atStart => exact ⟨0, Nat.zero_le _, rfl, 0, rfl⟩
  case round =>
    obtain ⟨k, hk, rfl, hbq⟩ := hrel
    have hbl : Hid (Bl w wr) := by obtain ⟨m, rfl⟩ := hbq.out; exact Bl.drewN w m
    have hnx : Hid (∀ n, ∃ m, wr.drewN n = w.drewN m) := fun n => by obtain ⟨m, rfl⟩ := hbq.out; exact ⟨m + n, by simp [World.drewN, Nat.add_assoc]⟩
    by_cases hlt : k < ta.length
    · have hki : (k : Int) < ta.length := by omega
      obtain ⟨pa', ca', ea, hpa⟩ := (HA.out.keep hbl.out).at_
      injection ea with ea1 ea2 ea3
      subst ea1 ea3
      obtain ⟨pb', cb', eb, hpb⟩ := (HB.out.keep hbl.out).at_
      injection eb with eb1 eb2 eb3
      subst eb1 eb3
      obtain ⟨ga, fa, rfl, hga, hca⟩ := hpa (by omega)
      obtain ⟨gb, fb, rfl, hgb, hcb⟩ := hpb (by omega)
      obtain ⟨x0, x1, x2, x3⟩ := hca k hlt
      obtain ⟨y0, y1, y2, y3⟩ := hcb k (by omega)
      obtain ⟨g1, g2⟩ := HG.out k hlt
      rw [g1] at y0 y1 y2
      clear hca hcb ea2 eb2 g1
      obtain ⟨⟨tk, tt, tn⟩, tp⟩ := ta.getD k noT
      generalize tb.getD k noT = bt at *
      obtain ⟨⟨bk, bt', bn⟩, bp⟩ := bt
      dsimp only at *
      cases pl with
      | true =>
        have g3 := g2 rfl
        subst g3
        go_wp2_with fail
        go_quiet (fail)
        go_wp2_with fail
        go_roundw
        case rel => exact ⟨k + 1, by omega, by simp, hnx.out _⟩
        case measure => simp [intOf]; omega
      | false =>
        go_wp2_with fail
        go_quiet (fail)
        go_wp2_with fail
        go_roundw
        case rel => exact ⟨k + 1, by omega, by simp, hnx.out _⟩
        case measure => simp [intOf]; omega
    · have hke : k = ta.length := by omega
      subst hke
      go_wp2
      go_wp2
      go_ret
      exact ⟨rfl, hbq.out⟩
theorem same_ok (va vb : Value) (ta tb : List (Tok × Nat)) (pl : Bool) (w : World) (ha : RdT w va ta) (hb : RdT w vb tb) (hs : AgreeT pl ta tb) (hmax : ta.length ≤ 140737488355328) :
    Calls Tryz.prog 12 #[va, vb, .bool pl] w fun e w' => e = .returned (.bool true) ∧ Bl w w' := by
  refine (same_q va vb ta tb pl w ha hb hs hmax).mono ?_
  rintro e w' ⟨rfl, n, rfl⟩
  exact ⟨rfl, Bl.drewN w n⟩
end Go.Proofs.YtimlomobbnnehaaGreatDoor

namespace Go.Proofs.YtimlomobbnnehaaGreatDoor
open Go.RowKit
set_option linter.unusedVariables false
set_option linter.unusedSimpArgs false
def nameB (l : Bs) : Bool := decide (l ≠ [] ∧ nameLen l = l.length)
def opB (l : Bs) : Bool := decide (l ≠ [] ∧ opLen l = l.length)
def symB (l : Bs) : Bool := decide (l ≠ [] ∧ symLen l = l.length)
def smallB (l : Bs) : Bool := isS (hd l)
def resB (l : Bs) : Bool := decide (l = [115, 101, 108, 102] ∨ l = [115, 117, 112, 101, 114] ∨ l = [110, 105, 108] ∨ l = [116, 114, 117, 101] ∨ l = [102, 97, 108, 115, 101])
def kwsNF : Nat → Bs → Option Nat
  | 0, l => if l = [] then some 0 else none
  | f + 1, l => if l = [] then some 0 else if kwLen l = 0 ∨ isS (hd l) = false then none else (kwsNF f (l.drop (kwLen l))).map (· + 1)
def kwsN (l : Bs) : Option Nat := kwsNF l.length l
theorem kwsNF_any : ∀ (f g : Nat) (l : Bs), l.length ≤ f → l.length ≤ g → kwsNF f l = kwsNF g l := by
  intro f
  induction f with
  | zero =>
    intro g l hf hg
    have : l = [] := List.length_eq_zero_iff.1 (by omega)
    subst this
    cases g <;> simp [kwsNF]
  | succ f ih =>
    intro g l hf hg
    by_cases hl : l = []
    · subst hl; cases g <;> simp [kwsNF]
    · have := List.length_pos_iff.2 hl
      obtain ⟨g, rfl⟩ : ∃ g', g = g' + 1 := ⟨g - 1, by omega⟩
      unfold kwsNF
      rw [if_neg hl, if_neg hl]
      by_cases hk : kwLen l = 0 ∨ isS (hd l) = false
      · rw [if_pos hk, if_pos hk]
      · rw [if_neg hk, if_neg hk, ih g (l.drop (kwLen l)) (by simp; omega) (by simp; omega)]
theorem kwsN_step (l : Bs) : kwsN l = if l = [] then some 0 else if kwLen l = 0 ∨ isS (hd l) = false then none else (kwsN (l.drop (kwLen l))).map (· + 1) := by
  by_cases hl : l = []
  · subst hl; rfl
  · have := List.length_pos_iff.2 hl
    unfold kwsN
    obtain ⟨n, hn⟩ : ∃ n, l.length = n + 1 := ⟨l.length - 1, by omega⟩
    rw [hn]
    unfold kwsNF
    rw [if_neg hl, if_neg hl]
    by_cases hk : kwLen l = 0 ∨ isS (hd l) = false
    · rw [if_pos hk, if_pos hk]
    · rw [if_neg hk, if_neg hk, kwsNF_any n (l.drop (kwLen l)).length _ (by simp; omega) (Nat.le_refl _)]
      cases (l.drop (kwLen l)).length <;> rfl
def kwAns (o : Option Nat) : Nat × Nat := match o with | some (n + 1) => (n + 1, 0) | _ => (0, 1)
/-- how many arguments, and the error's number -/
def sel (l : Bs) : Nat × Nat := if nameB l = true ∧ smallB l = true ∧ resB l = false then (0, 0) else if opB l = true then (1, 0) else kwAns (kwsN l)
def vari (l : Bs) : Nat := if resB l = true then 78 else if nameB l = true then 0 else 1
theorem lst_nil {s : ByteArray} : lst s = [] ↔ s.size = 0 := by
  rw [← lst_len]; exact List.length_eq_zero_iff.symm
theorem tl_lst (s : ByteArray) : s.toList = lst s := ByteArray.toList_eq s
set_option maxHeartbeats 4000000 in
theorem isName_ok (s : ByteArray) (w : World) (hs : s.size ≤ 140737488355328) : Calls Tryz.prog 25 #[.string s] w fun e w' => e = .returned (.bool (nameB (lst s))) ∧ Bl w w' := by
  by_cases h0 : s.size = 0
  · have hE : s.toList.isEmpty = true := isEmpty_of h0
    have e : nameB (lst s) = false := decide_eq_false (fun h => h.1 (lst_nil.2 h0))
    go_enter Tryz.func25, Tryz.ntmps25
    go_wp2_with (go_at_call 50; refine (nameLength_ok s w hs).mono ?_; rintro e w1 ⟨rfl, b1⟩)
    go_ret
    exact ⟨by rw [e]; rfl, Bl.refl w⟩
  · have hE : s.toList.isEmpty = false := not_empty_of h0
    have e : Hid (nameB (lst s) = ((nameLen (lst s) : Int) == (s.size : Int))) := by
      unfold Hid nameB
      rw [Bool.eq_iff_iff, lst_len]
      simp only [decide_eq_true_eq, beq_iff_eq, lst_nil, ne_eq]
      omega
    go_enter Tryz.func25, Tryz.ntmps25
    go_wp2_with (go_at_call 50; refine (nameLength_ok s w hs).mono ?_; rintro e w1 ⟨rfl, b1⟩)
    all_goals (go_ret; exact ⟨by rw [e.out]; rfl, b1⟩)
set_option maxHeartbeats 4000000 in
theorem isOp_ok (s : ByteArray) (w : World) (hs : s.size ≤ 140737488355328) : Calls Tryz.prog 28 #[.string s] w fun e w' => e = .returned (.bool (opB (lst s))) ∧ w' = w := by
  by_cases h0 : s.size = 0
  · have hE : s.toList.isEmpty = true := isEmpty_of h0
    have e : opB (lst s) = false := decide_eq_false (fun h => h.1 (lst_nil.2 h0))
    go_enter Tryz.func28, Tryz.ntmps28
    go_wp2_with (go_at_call 51; refine (opLength_ok s w hs).mono ?_; rintro e w1 ⟨rfl, rfl⟩)
    go_ret
    exact ⟨by rw [e]; rfl, rfl⟩
  · have hE : s.toList.isEmpty = false := not_empty_of h0
    have e : Hid (opB (lst s) = ((opLen (lst s) : Int) == (s.size : Int))) := by
      unfold Hid opB
      rw [Bool.eq_iff_iff, lst_len]
      simp only [decide_eq_true_eq, beq_iff_eq, lst_nil, ne_eq]
      omega
    go_enter Tryz.func28, Tryz.ntmps28
    go_wp2_with (go_at_call 51; refine (opLength_ok s w hs).mono ?_; rintro e w1 ⟨rfl, rfl⟩)
    all_goals (go_ret; exact ⟨by rw [e.out]; rfl, rfl⟩)
set_option maxHeartbeats 4000000 in
theorem isSym_ok (s : ByteArray) (w : World) (hs : s.size ≤ 140737488355328) : Calls Tryz.prog 30 #[.string s] w fun e w' => e = .returned (.bool (symB (lst s))) ∧ Bl w w' := by
  by_cases h0 : s.size = 0
  · have hE : s.toList.isEmpty = true := isEmpty_of h0
    have e : symB (lst s) = false := decide_eq_false (fun h => h.1 (lst_nil.2 h0))
    go_enter Tryz.func30, Tryz.ntmps30
    go_wp2_with (go_at_call 53; refine (symLength_ok s w hs).mono ?_; rintro e w1 ⟨rfl, b1⟩)
    go_ret
    exact ⟨by rw [e]; rfl, Bl.refl w⟩
  · have hE : s.toList.isEmpty = false := not_empty_of h0
    have e : Hid (symB (lst s) = ((symLen (lst s) : Int) == (s.size : Int))) := by
      unfold Hid symB
      rw [Bool.eq_iff_iff, lst_len]
      simp only [decide_eq_true_eq, beq_iff_eq, lst_nil, ne_eq]
      omega
    go_enter Tryz.func30, Tryz.ntmps30
    go_wp2_with (go_at_call 53; refine (symLength_ok s w hs).mono ?_; rintro e w1 ⟨rfl, b1⟩)
    all_goals (go_ret; exact ⟨by rw [e.out]; rfl, b1⟩)
set_option maxHeartbeats 4000000 in
theorem isSmall_ok (s : ByteArray) (w : World) : Calls Tryz.prog 26 #[.string s] w fun e w' => e = .returned (.bool (smallB (lst s))) ∧ w' = w := by
  by_cases h0 : s.size = 0
  · have hE : s.toList.isEmpty = true := isEmpty_of h0
    have e : smallB (lst s) = false := by rw [lst_nil.2 h0]; rfl
    go_enter Tryz.func26, Tryz.ntmps26
    go_wp2
    go_ret
    exact ⟨by rw [e]; rfl, rfl⟩
  · have hE : s.toList.isEmpty = false := not_empty_of h0
    have hp : 0 < s.size := by omega
    have b0 : Hid (hd (lst s) = (s[0]'hp).toNat) := get_lst s 0 hp
    go_enter Tryz.func26, Tryz.ntmps26
    go_wp2
    all_goals (go_ret; exact ⟨congrArg (fun b => Ending.returned (Value.bool b)) (by unfold smallB; rw [b0.out, Bool.eq_iff_iff, isS_iff]; simp <;> omega), rfl⟩)
set_option maxHeartbeats 4000000 in
theorem isRes_ok (s : ByteArray) (w : World) : Calls Tryz.prog 27 #[.string s] w fun e w' => e = .returned (.bool (resB (lst s))) ∧ w' = w := by
  have e : Hid (resB (lst s) = (s.toList == [115, 101, 108, 102] || (s.toList == [115, 117, 112, 101, 114] || (s.toList == [110, 105, 108] || (s.toList == [116, 114, 117, 101] || s.toList == [102, 97, 108, 115, 101]))))) := by
    unfold Hid resB
    rw [tl_lst, Bool.eq_iff_iff]
    simp
  go_enter Tryz.func27, Tryz.ntmps27
  go_wp2
  all_goals (go_ret; refine ⟨?_, rfl⟩; rw [e.out]; simp_all)
end Go.Proofs.YtimlomobbnnehaaGreatDoor

namespace Go.Proofs.YtimlomobbnnehaaGreatDoor
open Go.RowKit
set_option linter.unusedVariables false
set_option linter.unusedSimpArgs false
theorem kwsN_le : ∀ (f : Nat) (l : Bs) (n : Nat), kwsNF f l = some n → n ≤ l.length := by
  intro f
  induction f with
  | zero => intro l n h; unfold kwsNF at h; split at h; (cases h; omega); cases h
  | succ f ih =>
    intro l n h
    unfold kwsNF at h
    split at h
    · cases h; omega
    · split at h
      · cases h
      · rename_i h1 h2
        obtain ⟨m, hm, rfl⟩ := Option.map_eq_some_iff.1 h
        have := ih _ _ hm
        have := kwLen_le l
        simp at *
        omega
theorem kwAns_zero {o : Option Nat} (h : o = none ∨ o = some 0) : kwAns o = (0, 1) := by rcases h with rfl | rfl <;> rfl
theorem kwAns_pos {n : Nat} (h : n ≠ 0) : kwAns (some n) = (n, 0) := by obtain ⟨m, rfl⟩ : ∃ m, n = m + 1 := ⟨n - 1, by omega⟩; rfl
set_option maxHeartbeats 4000000 in
set_option maxRecDepth 1000000 in
theorem keywords_ok (s : ByteArray) (w : World) (hs : s.size ≤ 140737488355328) :
    Calls Tryz.prog 29 #[.string s] w fun e w' => e = .returned (.tuple #[.int .i64 (kwAns (kwsN (lst s))).1, .int .i64 (kwAns (kwsN (lst s))).2]) ∧ Bl w w' := by
  go_enter Tryz.func29, Tryz.ntmps29
  go_wp2
  go_loopw [0, 4] (fun a c wr => ∃ (t : ByteArray) (n : Nat), a = .string t ∧ c = .int .i64 n ∧ t.size + n ≤ s.size ∧ Hid (kwsN (lst s) = (kwsN (lst t)).map (· + n) ∧ Bl w wr)) (fun a _ _ => strN a)
  case atStart => exact ⟨s, 0, rfl, rfl, by omega, by simp, Bl.refl w⟩
  case round =>
    obtain ⟨t, n, rfl, rfl, hz, hH⟩ := hrel
    have hst := kwsN_step (lst t)
    have hts : t.size ≤ 140737488355328 := by omega
    by_cases h0 : t.size = 0
    · have hE : t.toList.isEmpty = true := isEmpty_of h0
      rw [if_pos (lst_nil.2 h0)] at hst
      have hv : kwsN (lst s) = some n := by rw [hH.out.1, hst]; simp
      clear hst
      by_cases n0 : n = 0
      · have hf := kwAns_zero (o := kwsN (lst s)) (Or.inr (by rw [hv, n0]))
        clear hv
        subst n0
        go_wp2
        go_wp2
        go_ret2
        exact ⟨by rw [hf]; rfl, hH.out.2⟩
      · have hf : kwAns (kwsN (lst s)) = (n, 0) := by rw [hv]; exact kwAns_pos n0
        clear hv
        go_wp2
        go_wp2
        go_ret2
        exact ⟨by rw [hf]; rfl, hH.out.2⟩
    · have hE : t.toList.isEmpty = false := not_empty_of h0
      rw [if_neg (fun h => h0 (lst_nil.1 h))] at hst
      have hk := kwLength_ok t wr hts
      have hle := kwLen_le (lst t)
      rw [lst_len] at hle
      by_cases k0 : kwLen (lst t) = 0
      · have hf := kwAns_zero (o := kwsN (lst s)) (Or.inl (by rw [hH.out.1, hst, if_pos (Or.inl k0)]; rfl))
        rw [k0] at hk
        clear hst hle k0
        go_wp2_with (first | (go_at_call 52; refine hk.mono ?_; rintro e w1 ⟨rfl, b1⟩) | (go_at_call 26; refine (isSmall_ok t _).mono ?_; rintro e w2 ⟨rfl, rfl⟩))
        go_ret2
        exact ⟨by rw [hf]; rfl, hH.out.2.trans b1⟩
      · by_cases cS : smallB (lst t) = true
        · rw [if_neg (by rintro (h | h); exact k0 h; unfold smallB at cS; rw [cS] at h; cases h), ← lst_from] at hst
          have hsz := size_from t (kwLen (lst t))
          have hx : Hid (kwsN (lst s) = (kwsN (lst (t.extract (kwLen (lst t)) t.size))).map (· + (n + 1))) := by
            unfold Hid
            rw [hH.out.1, hst, Option.map_map]
            congr 1
            funext x
            simp
            omega
          clear hst
          generalize kwLen (lst t) = d at *
          have hi : (d : Int) ≤ t.size := by omega
          have hi0 : (0 : Int) < d := by omega
          go_wp2_with (first | (go_at_call 52; refine hk.mono ?_; rintro e w1 ⟨rfl, b1⟩) | (go_at_call 26; refine (isSmall_ok t _).mono ?_; rintro e w2 ⟨rfl, rfl⟩))
          go_roundw
          case rel => exact ⟨t.extract d t.size, n + 1, rfl, by simp, by rw [hsz]; omega, hx.out, hH.out.2.trans b1⟩
          case measure => simp only [strN]; rw [hsz]; omega
        · have cS' : smallB (lst t) = false := by simpa using cS
          have hf := kwAns_zero (o := kwsN (lst s)) (Or.inl (by rw [hH.out.1, hst, if_pos (Or.inr (show isS (hd (lst t)) = false from cS'))]; rfl))
          clear hst cS
          generalize kwLen (lst t) = d at *
          go_wp2_with (first | (go_at_call 52; refine hk.mono ?_; rintro e w1 ⟨rfl, b1⟩) | (go_at_call 26; refine (isSmall_ok t _).mono ?_; rintro e w2 ⟨rfl, rfl⟩))
          go_ret2
          exact ⟨by rw [hf]; rfl, hH.out.2.trans b1⟩
set_option maxHeartbeats 4000000 in
theorem sel_ok (s : ByteArray) (w : World) (hs : s.size ≤ 140737488355328) :
    Calls Tryz.prog 14 #[.string s] w fun e w' => e = .returned (.tuple #[.int .i64 (sel (lst s)).1, .int .i64 (sel (lst s)).2]) ∧ Bl w w' := by
  have hn := isName_ok s w hs
  have e : Hid (sel (lst s) = if nameB (lst s) = true ∧ smallB (lst s) = true ∧ resB (lst s) = false then (0, 0) else if opB (lst s) = true then (1, 0) else kwAns (kwsN (lst s))) := mkHid rfl
  have hsm := isSmall_ok s
  have hre := isRes_ok s
  have hop := fun w => isOp_ok s w hs
  have hkw := fun w => keywords_ok s w hs
  generalize sel (lst s) = v at *
  generalize kwAns (kwsN (lst s)) = k at *
  generalize nameB (lst s) = b1 at *
  generalize smallB (lst s) = b2 at *
  generalize resB (lst s) = b3 at *
  generalize opB (lst s) = b4 at *
  obtain ⟨k1, k2⟩ := k
  cases b1 <;> cases b2 <;> cases b3 <;> cases b4
  all_goals go_enter Tryz.func14, Tryz.ntmps14
  all_goals go_wp2_with (first | (go_at_call 25; refine hn.mono ?_; rintro e w1 ⟨rfl, q1⟩) | (go_at_call 26; refine (hsm _).mono ?_; rintro e w2 ⟨rfl, rfl⟩) | (go_at_call 27; refine (hre _).mono ?_; rintro e w2 ⟨rfl, rfl⟩) | (go_at_call 28; refine (hop _).mono ?_; rintro e w2 ⟨rfl, rfl⟩) | (go_at_call 29; refine (hkw _).mono ?_; rintro e w3 ⟨rfl, q2⟩))
  all_goals go_ret2
  all_goals first | exact ⟨by rw [e.out]; rfl, q1⟩ | exact ⟨by rw [e.out]; rfl, q1.trans q2⟩
end Go.Proofs.YtimlomobbnnehaaGreatDoor

namespace Go.Proofs.YtimlomobbnnehaaGreatDoor
open Go.RowKit Go.Maps
set_option linter.unusedVariables false
set_option linter.unusedSimpArgs false
set_option maxHeartbeats 8000000 in
set_option maxRecDepth 1000000 in
/-- Tokens of any source -/
theorem tokens_ok (s : ByteArray) (w : World) (hT : Tab w) (hs : s.size ≤ 140737488355328) : Calls Tryz.prog 13 #[.string s] w fun e w' =>
    ∃ v ts c a, e = .returned (.tuple #[v, .agg #[.int .i64 (c : Nat), .int .i64 (a : Nat)]]) ∧ LexR (lst s) ts c a ∧ w'.ownsRow w.heap.size 28 4 v ts.length (tcs ts) ∧ Bl w w' := by
  by_cases h : s.size ≤ 4096
  · exact tokens_small s w hT h
  · have hsi : (4096 : Int) < s.size := by omega
    go_enter Tryz.func13, Tryz.ntmps13
    go_wp2_with fail
    have hb : Bl w (w.alloc (.cells #[.int .i64 73, .int .i64 4096] 38)) := Bl.alloc _ _
    exact ret26 (ts := []) (c := 73) (a := 4096) (heap_alloc_new w _) rfl rfl (Or.inl ⟨by rw [lst_len]; omega, rfl, rfl, rfl⟩) ⟨rfl, Or.inl ⟨rfl, rfl⟩⟩ hb
def lexF : Nat → Nat → Bs → Option (List (Tok × Nat) × Option Nat)
  | 0, _, _ => none
  | f + 1, p, l => if l = [] then some ([], none) else match cut l with
    | none => some ([], some p)
    | some (none, n) => lexF f (p + n) (l.drop n)
    | some (some t, n) => (lexF f (p + n) (l.drop n)).map (fun x => ((t, p) :: x.1, x.2))
/-- what a source's tokens are, told by a reckoning -/
theorem lx_of (f : Nat) : ∀ (p : Nat) (l : Bs) (ts : List (Tok × Nat)) (e : Option Nat), lexF f p l = some (ts, e) → Lx p l ts e := by
  induction f with
  | zero => intro p l ts e h; cases h
  | succ f ih =>
    intro p l ts e h
    unfold lexF at h
    by_cases hl : l = []
    · rw [if_pos hl] at h; cases h; subst hl; exact .stop p
    · rw [if_neg hl] at h
      cases hc : cut l with
      | none => rw [hc] at h; cases h; exact .bad p l hl hc
      | some x =>
        obtain ⟨x, n⟩ := x
        rw [hc] at h
        cases x with
        | none => exact .pass p l n ts e hc (ih _ _ _ _ h)
        | some t =>
          simp only at h
          obtain ⟨⟨us, e'⟩, h1, h2⟩ := Option.map_eq_some_iff.1 h
          simp at h2
          obtain ⟨rfl, rfl⟩ := h2
          exact .tok p l t n us _ hc (ih _ _ _ _ h1)
end Go.Proofs.YtimlomobbnnehaaGreatDoor

namespace Go.Proofs.YtimlomobbnnehaaGreatDoor
open Go.RowKit Go.Maps
set_option linter.unusedVariables false
set_option linter.unusedSimpArgs false
def src1 : ByteArray := ⟨#[120, 32, 58, 61, 32, 51, 45, 45, 35, 97, 58, 98, 58, 32, 39, 105, 116, 39, 39, 115, 39]⟩
def src2 : ByteArray := ⟨#[97, 32, 35, 32, 98]⟩
def src3 : ByteArray := ⟨#[97, 116, 58, 112, 117, 116, 58]⟩
def toks1 : List (Tok × Nat) := [(⟨1, [120], 0⟩, 0), (⟨14, [], 0⟩, 2), (⟨4, [], 3⟩, 5), (⟨3, [45], 0⟩, 6), (⟨3, [45], 0⟩, 7), (⟨5, [97, 58, 98, 58], 0⟩, 8), (⟨6, [105, 116, 39, 115], 0⟩, 14), (stopT, 21)]
def want1 : List (Tok × Nat) := [(⟨1, [120], 0⟩, 0), (⟨14, [], 0⟩, 0), (⟨4, [], 3⟩, 0), (⟨3, [45], 0⟩, 0), (⟨3, [45], 0⟩, 0), (⟨5, [97, 58, 98, 58], 0⟩, 0), (⟨6, [105, 116, 39, 115], 0⟩, 0), (stopT, 0)]
theorem lex1 : LexR (lst src1) toks1 0 0 := by
  refine Or.inr ⟨by decide, toks1.take 7, none, lx_of 20 0 _ _ _ (by decide +kernel), Or.inl ⟨rfl, rfl, rfl, rfl⟩⟩
theorem lex2 : LexR (lst src2) [] 70 2 := by
  refine Or.inr ⟨by decide, [(⟨1, [97], 0⟩, 0)], some 2, lx_of 20 0 _ _ _ (by decide +kernel), Or.inr ⟨2, rfl, rfl, rfl, rfl⟩⟩
theorem agree1 : AgreeT false toks1 want1 := by
  refine ⟨rfl, fun j hj => ⟨?_, fun h => by cases h⟩⟩
  have hj : j < 8 := hj
  have : j = 0 ∨ j = 1 ∨ j = 2 ∨ j = 3 ∨ j = 4 ∨ j = 5 ∨ j = 6 ∨ j = 7 := by omega
  rcases this with rfl | rfl | rfl | rfl | rfl | rfl | rfl | rfl <;> rfl
theorem tokens_is {s : ByteArray} {ts : List (Tok × Nat)} {c a : Nat} (hl : LexR (lst s) ts c a) (hs : s.size ≤ 140737488355328) (w : World) (hT : Tab w) : Calls Tryz.prog 13 #[.string s] w fun e w' =>
    ∃ v, e = .returned (.tuple #[v, .agg #[.int .i64 c, .int .i64 a]]) ∧ w'.ownsRow w.heap.size 28 4 v ts.length (tcs ts) ∧ Bl w w' := by
  refine (tokens_ok s w hT hs).mono ?_
  rintro e w' ⟨v, ts', c', a', rfl, h1, h2, h3⟩
  obtain ⟨rfl, rfl, rfl⟩ := hl.unique h1
  exact ⟨v, rfl, h2, h3⟩
theorem sel3 (w : World) : Calls Tryz.prog 14 #[.string src3] w fun e w' => e = .returned (.tuple #[.int .i64 2, .int .i64 0]) ∧ Bl w w' := by
  have h := sel_ok src3 w (by decide)
  have e : sel (lst src3) = (2, 0) := by decide +kernel
  rw [e] at h
  exact h
def wantC : Array Value := (tcs want1).toArray
theorem want_rd (X : World) : RdT (X.alloc (.cells wantC 28)) (.slice (some ⟨X.heap.size, 0, none⟩) 8 8) want1 := by
  refine RdT.own (base := 0) (ts := want1) ⟨rfl, Or.inr ⟨X.heap.size, 8, wantC, rfl, Nat.zero_le _, heap_alloc_new X _, by decide, by decide, rfl, ?_⟩⟩
  rfl
theorem want_rd2 (X : World) (o : Obj) : RdT ((X.alloc o).alloc (.cells wantC 28)) (.slice (some ⟨X.heap.size + 1, 0, none⟩) 8 8) want1 := by
  have h := want_rd (X.alloc o)
  rwa [show (X.alloc o).heap.size = X.heap.size + 1 from by show (X.heap.push o).size = _; simp] at h
theorem blk_in {X W : World} {o : Obj} (b : Bl (X.alloc o) W) : W.heap[X.heap.size]? = some o := (b.block _ (by show X.heap.size < (X.heap.push o).size; simp)).trans (heap_alloc_new X o)
end Go.Proofs.YtimlomobbnnehaaGreatDoor

namespace Go.Proofs.YtimlomobbnnehaaGreatDoor
open Go.RowKit Go.Maps
set_option linter.unusedVariables false
set_option linter.unusedSimpArgs false
set_option maxHeartbeats 8000000 in
set_option maxRecDepth 1000000 in
theorem known_ok (w : World) (hT : Tab w) : Calls Tryz.prog 8 #[] w fun e w' => e = .returned (.bool true) ∧ Bl w w' := by
  have HT1 := mkHid (tokens_is lex1 (by decide))
  have HT2 := mkHid (tokens_is lex2 (by decide))
  go_enter Tryz.func8, Tryz.ntmps8
  go_wp2_with (first
    | (go_at_call 12; have hh := M3; refine (same_ok _ _ toks1 want1 false _ R1.out R2.out agree1 (by decide)).mono ?_; rintro e w4 ⟨rfl, b4⟩
       have d2 : w4.cell? ⟨w2.heap.size, 0, none⟩ = some (.int .i64 70) := by rw [cell_in ((b4.block _ (lt_of_heap hF2.out)).trans hF2.out)]; rfl
       have d3 : w4.cell? ⟨w2.heap.size, 1, none⟩ = some (.int .i64 2) := by rw [cell_in ((b4.block _ (lt_of_heap hF2.out)).trans hF2.out)]; rfl
       have B4 := mkHid ((hT3.out).trans b4))
    | (go_at_call 14; have hh := M2; refine (sel3 _).mono ?_; rintro e w3 ⟨rfl, b3⟩
       have hF2 := mkHid (blk_in b3)
       have bb := mkHid (((Bl.alloc w2 _).trans b3))
       have hF1 := mkHid (((b2.trans bb.out).block _ (by show w1.heap.size < ((w1.heap.push _).push _).size; simp; omega)).trans (show ((w1.alloc (.cells #[.int .i64 0, .int .i64 0] 38)).alloc _).heap[w1.heap.size]? = _ from (Below.heap_alloc _ _ _ (by show w1.heap.size < (w1.heap.push _).size; simp)).trans (heap_alloc_new w1 _)))
       have d1 : w3.cell? ⟨w1.heap.size, 0, none⟩ = some (.int .i64 0) := by rw [cell_in hF1.out]; rfl
       have R1 := mkHid ((RdT.own o1).keep (((Bl.alloc2 w1 _ _).trans b2).trans bb.out))
       have R2 := mkHid ((want_rd2 w1 (.cells #[.int .i64 0, .int .i64 0] 38)).keep (b2.trans bb.out))
       have hT3 := mkHid ((b1.trans ((Bl.alloc2 w1 _ _).trans b2)).trans bb.out)
       have M3 := trivial)
    | (go_at_call 13; have hh := M1; refine (HT2.out _ (hT.mono (b1.trans (Bl.alloc2 w1 _ _)))).mono ?_; rintro e w2 ⟨v2, rfl, o2, b2⟩; have M2 := trivial)
    | (go_at_call 13; (fail_if_success (have hh := M1)); refine (HT1.out _ hT).mono ?_; rintro e w1 ⟨v1, rfl, o1, b1⟩; have M1 := trivial)
    | (go_at_call 11; go_in))
  go_ret
  exact ⟨rfl, B4.out⟩
end Go.Proofs.YtimlomobbnnehaaGreatDoor

namespace Go.Proofs.YtimlomobbnnehaaGreatDoor
open Go.RowKit Go.Maps
set_option linter.unusedVariables false
set_option linter.unusedSimpArgs false
theorem LexR.total (l : Bs) : ∃ ts c a, LexR l ts c a ∧ (c = 0 ∨ (ts = [] ∧ c ≠ 0)) := by
  by_cases h : 4096 < l.length
  · exact ⟨[], 73, 4096, Or.inl ⟨h, rfl, rfl, rfl⟩, Or.inr ⟨rfl, by omega⟩⟩
  · obtain ⟨us, er, hx⟩ := Lx.total l.length 0 l (Nat.le_refl _)
    cases er with
    | none => exact ⟨_, 0, 0, Or.inr ⟨by omega, us, none, hx, Or.inl ⟨rfl, rfl, rfl, rfl⟩⟩, Or.inl rfl⟩
    | some p => exact ⟨[], 70, p, Or.inr ⟨by omega, us, some p, hx, Or.inr ⟨p, rfl, rfl, rfl, rfl⟩⟩, Or.inr ⟨rfl, by omega⟩⟩
theorem LexR.good {l : Bs} {ts : List (Tok × Nat)} {a : Nat} (h : LexR l ts 0 a) : a = 0 ∧ l.length ≤ 4096 ∧ ∃ us, Lx 0 l us none ∧ ts = us ++ [(stopT, l.length)] := by
  rcases h with ⟨_, _, h, _⟩ | ⟨h1, us, er, hx, h⟩
  · cases h
  · rcases h with ⟨rfl, h2, _, h3⟩ | ⟨p, _, _, h4, _⟩
    · exact ⟨h3, h1, us, hx, h2⟩
    · cases h4
theorem LexR.mk {l : Bs} {us : List (Tok × Nat)} (h1 : l.length ≤ 4096) (h : Lx 0 l us none) : LexR l (us ++ [(stopT, l.length)]) 0 0 := Or.inr ⟨h1, us, none, h, Or.inl ⟨rfl, rfl, rfl, rfl⟩⟩
theorem tokens_v {s : ByteArray} {ts : List (Tok × Nat)} {c a : Nat} (hl : LexR (lst s) ts c a) (hs : s.size ≤ 140737488355328) (w : World) (hT : Tab w) : Calls Tryz.prog 13 #[.string s] w fun e w' =>
    ∃ p cap, e = .returned (.tuple #[.slice p ts.length cap, .agg #[.int .i64 c, .int .i64 a]]) ∧ RdT w' (.slice p ts.length cap) ts ∧ (0 < ts.length → ∃ g, p = some ⟨g, 0, none⟩) ∧ ts.length ≤ cap ∧ cap ≤ maxLen ∧ Bl w w' := by
  refine (tokens_is hl hs w hT).mono ?_
  rintro e w' ⟨v, rfl, ho, hb⟩
  have hr := RdT.own ho
  rcases ho.2 with ⟨rfl, h2⟩ | ⟨g, cap, cur, rfl, h1, h2, h3, h4, h5, h6⟩
  · exact ⟨none, 0, by rw [h2], by rw [h2]; exact hr, fun h => by omega, by omega, by unfold maxLen; omega, hb⟩
  · exact ⟨_, cap, rfl, hr, fun _ => ⟨g, rfl⟩, h3, h4, hb⟩
theorem wrap_id (n : Int) (h0 : -9223372036854775808 ≤ n) (h1 : n < 9223372036854775808) : IntKind.i64.wrap n = n := by rw [IntKind.wrap_i64]; omega
theorem blk2 {X W : World} {o : Obj} (b : Bl (X.alloc o) W) : W.heap[X.heap.size]? = some o := blk_in b
theorem RdT.cells {w : World} {g n cap : Nat} {ts : List (Tok × Nat)} (h : RdT w (.slice (some ⟨g, 0, none⟩) n cap) ts) : ∀ j, j < ts.length →
    w.cell? ⟨g, j * 4, none⟩ = some (.int .i64 (ts.getD j noT).1.kind) ∧ w.cell? ⟨g, j * 4 + 1, none⟩ = some (.string (ba (ts.getD j noT).1.text)) ∧
    w.cell? ⟨g, j * 4 + 2, none⟩ = some (.int .i64 (ts.getD j noT).1.num) ∧ w.cell? ⟨g, j * 4 + 3, none⟩ = some (.int .i64 (ts.getD j noT).2) := by
  intro j hj
  obtain ⟨p, c, e, hp⟩ := h.at_
  injection e with e1 e2 e3
  obtain ⟨b, off, e4, hb, hc⟩ := hp (by omega)
  subst e1
  injection e4 with e4
  injection e4 with e5 e6
  subst e5 e6
  have := hc j hj
  rw [Nat.zero_add] at this
  exact this
theorem Lx.blank {p : Nat} {l : Bs} {ts : List (Tok × Nat)} {e : Option Nat} (h : Lx (p + 1) l ts e) : Lx p (32 :: l) ts e := .pass _ _ 1 _ _ rfl h
/-- two sources with a blank between them -/
theorem LexR.joined {l m : Bs} {us vs : List (Tok × Nat)} (hl : Lx 0 l us none) (hm : Lx 0 m vs none) : Lx 0 (l ++ 32 :: m) (us ++ Lx.sh (l.length + 1) vs) none := by
  refine Lx.join (Or.inr (Or.inl rfl)) hl rfl ?_
  rw [Nat.zero_add]
  refine Lx.blank ?_
  have := hm.shift (l.length + 1)
  rw [Nat.zero_add] at this
  exact this
theorem append_lst (a b : ByteArray) : lst (a ++ b) = lst a ++ lst b := by
  unfold lst
  simp
end Go.Proofs.YtimlomobbnnehaaGreatDoor

namespace Go.Proofs.YtimlomobbnnehaaGreatDoor
open Go.RowKit Go.Maps
set_option linter.unusedVariables false
set_option linter.unusedSimpArgs false
theorem rSmall_ok (n : Nat) (w : World) : Calls Tryz.prog 90 #[.int .u8 n] w fun e w' => e = .returned (.bool (isS n)) ∧ w' = w := by
  go_enter Tryz.func90, Tryz.ntmps90
  go_wp2
  all_goals (go_ret; exact ⟨congrArg (fun b => Ending.returned (Value.bool b)) (by rw [Bool.eq_iff_iff, isS_iff]; simp <;> omega), rfl⟩)
theorem rDigit_ok (n : Nat) (w : World) : Calls Tryz.prog 71 #[.int .u8 n] w fun e w' => e = .returned (.bool (isD n)) ∧ w' = w := by
  go_enter Tryz.func71, Tryz.ntmps71
  go_wp2
  all_goals (go_ret; exact ⟨congrArg (fun b => Ending.returned (Value.bool b)) (by rw [Bool.eq_iff_iff, isD_iff]; simp <;> omega), rfl⟩)
theorem rLetter_ok (n : Nat) (w : World) : Calls Tryz.prog 68 #[.int .u8 n] w fun e w' => e = .returned (.bool (isL n)) ∧ w' = w := by
  have key : isL n = (isS n || decide (65 ≤ n ∧ n ≤ 90)) := by rw [Bool.eq_iff_iff, isL_iff]; simp [isS]
  rw [key]
  have hs := rSmall_ok n
  cases hS : isS n with
  | true =>
    rw [hS] at hs
    go_enter Tryz.func68, Tryz.ntmps68
    go_wp2_with (go_at_call 90; refine (hs _).mono ?_; rintro e w1 ⟨rfl, rfl⟩)
    go_ret
    exact ⟨rfl, rfl⟩
  | false =>
    rw [hS] at hs
    go_enter Tryz.func68, Tryz.ntmps68
    go_wp2_with (go_at_call 90; refine (hs _).mono ?_; rintro e w1 ⟨rfl, rfl⟩)
    all_goals (go_ret; exact ⟨congrArg (fun b => Ending.returned (Value.bool b)) (by rw [Bool.eq_iff_iff]; simp <;> omega), rfl⟩)
theorem opsT : ∀ n, n < 256 → (isO n = true ↔ ∃ j, j < 14 ∧ ([43, 45, 42, 47, 92, 60, 62, 61, 126, 44, 37, 38, 63, 64] : List Nat).getD j 999 = n) := by
  intro n hn
  rw [isO_iff]
  constructor
  · intro h
    rcases h with h | h | h | h | h | h | h | h | h | h | h | h | h | h <;> subst h
    · exact ⟨0, by omega, rfl⟩
    · exact ⟨1, by omega, rfl⟩
    · exact ⟨2, by omega, rfl⟩
    · exact ⟨3, by omega, rfl⟩
    · exact ⟨4, by omega, rfl⟩
    · exact ⟨5, by omega, rfl⟩
    · exact ⟨6, by omega, rfl⟩
    · exact ⟨7, by omega, rfl⟩
    · exact ⟨8, by omega, rfl⟩
    · exact ⟨9, by omega, rfl⟩
    · exact ⟨10, by omega, rfl⟩
    · exact ⟨11, by omega, rfl⟩
    · exact ⟨12, by omega, rfl⟩
    · exact ⟨13, by omega, rfl⟩
  · rintro ⟨j, hj, rfl⟩
    have : j = 0 ∨ j = 1 ∨ j = 2 ∨ j = 3 ∨ j = 4 ∨ j = 5 ∨ j = 6 ∨ j = 7 ∨ j = 8 ∨ j = 9 ∨ j = 10 ∨ j = 11 ∨ j = 12 ∨ j = 13 := by omega
    rcases this with h | h | h | h | h | h | h | h | h | h | h | h | h | h <;> subst h <;> simp
theorem opsG : ∀ k (hk : k < (⟨#[43, 45, 42, 47, 92, 60, 62, 61, 126, 44, 37, 38, 63, 64]⟩ : ByteArray).size), ((⟨#[43, 45, 42, 47, 92, 60, 62, 61, 126, 44, 37, 38, 63, 64]⟩ : ByteArray)[k]'hk).toNat = ([43, 45, 42, 47, 92, 60, 62, 61, 126, 44, 37, 38, 63, 64] : List Nat).getD k 999 := by
  intro k hk
  have : k < 14 := hk
  have : k = 0 ∨ k = 1 ∨ k = 2 ∨ k = 3 ∨ k = 4 ∨ k = 5 ∨ k = 6 ∨ k = 7 ∨ k = 8 ∨ k = 9 ∨ k = 10 ∨ k = 11 ∨ k = 12 ∨ k = 13 := by omega
  rcases this with h | h | h | h | h | h | h | h | h | h | h | h | h | h <;> subst h <;> rfl
set_option maxHeartbeats 4000000 in
set_option maxRecDepth 1000000 in
theorem rOp_ok (n : Nat) (hn : n < 256) (w : World) : Calls Tryz.prog 75 #[.int .u8 n] w fun e w' => e = .returned (.bool (isO n)) ∧ w' = w := by
  have hO := mkHid (opsT n hn)
  go_enter Tryz.func75, Tryz.ntmps75
  go_wp2
  go_loopw [3] (fun q wr => ∃ k : Nat, k ≤ 14 ∧ q = .int .i64 k ∧ wr = w ∧ Hid (∀ j, j < k → ([43, 45, 42, 47, 92, 60, 62, 61, 126, 44, 37, 38, 63, 64] : List Nat).getD j 999 ≠ n)) (fun q _ => 14 - (intOf q).toNat)
  case atStart => exact ⟨0, by omega, rfl, rfl, fun j h => by omega⟩
  case round =>
    obtain ⟨k, hk, rfl, rfl, hj⟩ := hrel
    by_cases hlt : k < 14
    · have hki : (k : Int) < 14 := by omega
      have hg := opsG k hlt
      by_cases he : ([43, 45, 42, 47, 92, 60, 62, 61, 126, 44, 37, 38, 63, 64] : List Nat).getD k 999 = n
      · have hT : isO n = true := hO.out.2 ⟨k, hlt, he⟩
        have HT := mkHid hT
        have hx : (((⟨#[43, 45, 42, 47, 92, 60, 62, 61, 126, 44, 37, 38, 63, 64]⟩ : ByteArray)[k]'hlt).toNat : Int) = n := by rw [hg, he]
        clear he hT hg
        go_wp2
        go_ret
        exact ⟨by rw [HT.out]; rfl, rfl⟩
      · have hx : ¬ (((⟨#[43, 45, 42, 47, 92, 60, 62, 61, 126, 44, 37, 38, 63, 64]⟩ : ByteArray)[k]'hlt).toNat : Int) = n := by rw [hg]; omega
        have HE := mkHid he
        clear he hg
        go_wp2
        go_roundw
        case rel => exact ⟨k + 1, by omega, by simp, by simp, fun j h => by
          by_cases hjk : j < k
          · exact hj.out j hjk
          · have : j = k := by omega
            subst this; exact HE.out⟩
        case measure => simp [intOf]; omega
    · have hF : isO n = false := by
        rw [Bool.eq_false_iff]
        intro h
        obtain ⟨j, hj1, hj2⟩ := hO.out.1 h
        exact hj.out j (by omega) hj2
      have hke : k = 14 := by omega
      have HF := mkHid hF
      clear hF
      subst hke
      go_wp2
      go_wp2
      go_ret
      exact ⟨by rw [HF.out]; rfl, rfl⟩
end Go.Proofs.YtimlomobbnnehaaGreatDoor

