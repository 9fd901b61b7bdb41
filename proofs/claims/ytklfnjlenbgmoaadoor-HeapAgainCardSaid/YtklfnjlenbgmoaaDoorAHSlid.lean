import Derived.Test.YtklfnjlenbgmoaaDoorAHMSet
namespace Go.Proofs.YtklfnjlenbgmoaaDoor
open Go.RowKit
set_option linter.unusedVariables false
attribute [local go_sem ↓] Go.wp_at_zero Go.wp_at_succ
/-- the first thing of the first i that lies lowest, of those that lie at A or above -/
def pickTo (S : List Th) (A : Nat) : Nat → Option Nat
  | 0 => none
  | i + 1 => match pickTo S A i with
    | none => if (S.getD i noTh).there = true ∧ A ≤ (S.getD i noTh).place then some i else none
    | some b => if (S.getD i noTh).there = true ∧ A ≤ (S.getD i noTh).place ∧ (S.getD i noTh).place < (S.getD b noTh).place then some i else some b
theorem pickTo_none (S : List Th) (A i : Nat) (h : pickTo S A i = none) : pickTo S A (i + 1) = if (S.getD i noTh).there = true ∧ A ≤ (S.getD i noTh).place then some i else none := by
  conv => lhs; unfold pickTo
  rw [h]
theorem pickTo_some (S : List Th) (A i b : Nat) (h : pickTo S A i = some b) : pickTo S A (i + 1) = if (S.getD i noTh).there = true ∧ A ≤ (S.getD i noTh).place ∧ (S.getD i noTh).place < (S.getD b noTh).place then some i else some b := by
  conv => lhs; unfold pickTo
  rw [h]
theorem pickTo_lt (S : List Th) (A : Nat) : ∀ i b, pickTo S A i = some b → b < i ∧ (S.getD b noTh).there = true ∧ A ≤ (S.getD b noTh).place := by
  intro i
  induction i with
  | zero => intro b h; simp [pickTo] at h
  | succ i ih =>
    intro b h
    cases hp : pickTo S A i with
    | none =>
      rw [pickTo_none S A i hp] at h
      split at h
      · rename_i hc; injection h with h; subst h; exact ⟨by omega, hc⟩
      · simp at h
    | some c =>
      rw [pickTo_some S A i c hp] at h
      split at h
      · rename_i hc; injection h with h; subst h; exact ⟨by omega, hc.1, hc.2.1⟩
      · injection h with h; subst h
        have := ih _ hp
        exact ⟨by omega, this.2⟩
def pv : Option Nat → Int
  | none => -1
  | some b => b
def placed (t : Th) (A : Nat) : Th := { t with place := A }
/-- n of them slide, from A on -/
def slidN (S : List Th) (A : Nat) : Nat → List Th
  | 0 => S
  | n + 1 => match pickTo S A S.length with
    | none => S
    | some k => slidN (S.set k (placed (S.getD k noTh) A)) (A + lenN (S.getD k noTh).slots.length (S.getD k noTh).fmt) n
theorem slidN_none (S : List Th) (A n : Nat) (h : pickTo S A S.length = none) : slidN S A (n + 1) = S := by conv => lhs; unfold slidN; rw [h]
theorem slidN_some (S : List Th) (A n k : Nat) (h : pickTo S A S.length = some k) : slidN S A (n + 1) = slidN (S.set k (placed (S.getD k noTh) A)) (A + lenN (S.getD k noTh).slots.length (S.getD k noTh).fmt) n := by
  conv => lhs; unfold slidN
  rw [h]
/-- two lists of things that differ in their places alone -/
structure Alike (S T : List Th) : Prop where
  len : S.length = T.length
  at_ : ∀ i, (S.getD i noTh).there = (T.getD i noTh).there ∧ (S.getD i noTh).slots = (T.getD i noTh).slots ∧ (S.getD i noTh).fmt = (T.getD i noTh).fmt ∧ (S.getD i noTh).cls = (T.getD i noTh).cls ∧ (S.getD i noTh).p = (T.getD i noTh).p ∧ (S.getD i noTh).c = (T.getD i noTh).c
theorem Alike.refl (S : List Th) : Alike S S := ⟨rfl, fun _ => ⟨rfl, rfl, rfl, rfl, rfl, rfl⟩⟩
theorem Alike.place {S T : List Th} (h : Alike S T) (k A : Nat) (hk : k < S.length) : Alike (S.set k (placed (S.getD k noTh) A)) T := by
  refine ⟨by rw [List.length_set]; exact h.len, fun i => ?_⟩
  rw [getD_set S k i _ hk]
  split
  · rename_i e; subst e; exact h.at_ i
  · exact h.at_ i
theorem Alike.there {S T : List Th} (h : Alike S T) : ∀ k, k ≤ S.length → thereTo S k = thereTo T k := by
  intro k
  induction k with
  | zero => intro _; rfl
  | succ k ih =>
    intro hk
    rw [thereTo_succ S k (by omega), thereTo_succ T k (by have := h.len; omega), ih (by omega), (h.at_ k).1]
set_option maxRecDepth 20000 in
set_option maxHeartbeats 4000000 in
theorem slid_ok (m : Nat) (M : MS) (w : World) (h : MRep w m M) (hlen : (M.things.length : Int) ≤ 65538) (hsl : ∀ k, k < M.things.length → ((M.things.getD k noTh).slots.length : Int) ≤ 8192) :
    Calls Tryd.prog 36 #[.pointer (some ⟨m, 0, none⟩)] w fun e w' => e = .returned (.tuple #[]) ∧ MRep w' m { M with things := slidN M.things 0 (thereTo M.things M.things.length) } ∧ Fr (blk M.pt) w w' := by
  have hTl := thereTo_le M.things M.things.length
  have HM := mkHid h
  have HSl := mkHid hsl
  clear h hsl
  generalize hT : thereTo M.things M.things.length = T at *
  have HT := mkHid hT
  clear hT
  go_enter Tryd.func36, Tryd.ntmps36
  go_wp2
  go_loopw [2, 3] (fun x q wr => ∃ (n A : Nat) (S : List Th), n ≤ T ∧ q = .int .i64 n ∧ x = .int .i64 A ∧ A ≤ n * 8194 ∧ Hid (Alike S M.things ∧ MRep wr m { M with things := S } ∧ Fr (blk M.pt) w wr ∧ slidN M.things 0 T = slidN S A (T - n))) (fun _ q _ => T - (intOf q).toNat)
  case atStart => exact ⟨0, 0, M.things, Nat.zero_le _, rfl, rfl, by omega, Alike.refl _, HM.out, Fr.refl _ _, rfl⟩
  case round =>
    obtain ⟨n, A, S, hn, rfl, rfl, hA, hq⟩ := hrel
    obtain ⟨wo, hwo⟩ : ∃ wo, wo = wr := ⟨_, rfl⟩
    subst hwo
    obtain ⟨hal, hmr, hfr, hsd⟩ := hq.out
    clear hq
    have hSl := hal.len
    have hth := there_ok m _ wo hmr (by show (S.length : Int) ≤ 65538; omega)
    have e1 : thereTo S S.length = T := by rw [hal.there _ (Nat.le_refl _), hal.len]; exact HT.out
    have hth2 : Calls Tryd.prog 33 #[.pointer (some ⟨m, 0, none⟩)] wo fun e w' => e = .returned (.int .i64 (T : Nat)) ∧ w' = wo := by rw [← e1]; exact hth
    have HTh := mkHid hth2
    have HMr := mkHid hmr
    have HAl := mkHid hal
    have HFr := mkHid hfr
    have HSd := mkHid hsd
    have HSL := mkHid hSl
    have hS5 : (S.length : Int) ≤ 65538 := by omega
    clear hth hth2 hmr hal hfr hsd e1 hSl
    by_cases hlt : n < T
    · have n1 : (n : Int) < (T : Int) := by omega
      have hml := HMr.out.lt m (by simp [mfoot])
      go_wp2_with (go_at_call 33; refine HTh.out.mono ?_; rintro e w1 ⟨rfl, hw1⟩; rw [hw1]; clear hw1 w1)
      go_loopw [4, 5] (fun x q W => ∃ i : Nat, i ≤ S.length ∧ q = .int .i64 i ∧ x = .int .i64 (pv (pickTo S A i)) ∧ Hid (Fr [] wo W)) (fun _ q _ => S.length - (intOf q).toNat)
      case atStart => exact ⟨0, Nat.zero_le _, rfl, rfl, Fr.refl _ _⟩
      case round =>
        obtain ⟨i, hi, rfl, rfl, hfi⟩ := hrel
        have hmi := HMr.out.keep hfi.out (by simp)
        have hmw := hmi.lt m (by simp [mfoot])
        have c3 := hmi.c3
        dsimp only at c3
        by_cases hil : i < S.length
        · obtain ⟨g, hg, hc, hf, hgl⟩ := hmi.thAt (by show 0 < S.length; omega)
          dsimp only at hg hc
          obtain ⟨q0, q1, q2, q3, q4⟩ := hc i hil
          rw [hg] at c3
          simp only [I] at q2 q3
          have k1 : (0 : Int) ≤ (i : Int) := by omega
          have k2 : (i : Int) < (S.length : Int) := by omega
          have HC := mkHid hc
          clear hmi hc hf hg HTh
          cases hpk : pickTo S A i with
          | none =>
            have HP := mkHid (pickTo_none S A i hpk)
            clear HC hpk
            generalize S.getD i noTh = t at *
            obtain ⟨th, tcl, fm, pl, sl, tp, tc⟩ := t
            dsimp only at *
            generalize sl.length = sn at *
            have HFA : Hid (∀ nq, Fr [] wo ((wr.alloc (.cells #[.bool th, .int .i64 tcl, .int .i64 fm, .int .i64 pl, .slice tp sn tc] 119)).drewN nq)) := fun nq => (hfi.out.trans (Fr.alloc [] _ _) (by simp)).trans (Fr.drewN [] _ _) (by simp)
            simp only [show pv none = -1 from rfl]
            cases th with
            | false =>
              have HP2 : Hid (pv (pickTo S A (i + 1)) = -1) := by show pv (pickTo S A (i + 1)) = -1; rw [HP.out, if_neg (by simp)]; rfl
              clear HP
              go_wp2
              go_quiet (fail)
              go_wp2
              go_roundw
              case rel => exact ⟨i + 1, by omega, by go_num, by rw [HP2.out], HFA.out _⟩
              case measure => simp [intOf]; omega
            | true =>
              by_cases hpa : A ≤ pl
              · have HP2 : Hid (pv (pickTo S A (i + 1)) = i) := by show pv (pickTo S A (i + 1)) = i; rw [HP.out, if_pos ⟨rfl, hpa⟩]; rfl
                have z1 : (A : Int) ≤ (pl : Int) := by omega
                clear HP
                go_wp2
                go_quiet (fail)
                go_wp2
                go_roundw
                case rel => exact ⟨i + 1, by omega, by go_num, by rw [HP2.out], HFA.out _⟩
                case measure => simp [intOf]; omega
              · have HP2 : Hid (pv (pickTo S A (i + 1)) = -1) := by show pv (pickTo S A (i + 1)) = -1; rw [HP.out, if_neg (by simp; omega)]; rfl
                have z1 : decide ((A : Int) ≤ (pl : Int)) = false := decide_eq_false (by omega)
                clear HP
                go_wp2
                go_quiet (fail)
                go_wp2
                go_roundw
                case rel => exact ⟨i + 1, by omega, by go_num, by rw [HP2.out], HFA.out _⟩
                case measure => simp [intOf]; omega
          | some b =>
            have HP := mkHid (pickTo_some S A i b hpk)
            obtain ⟨b1, b2, b3⟩ := pickTo_lt S A i b hpk
            obtain ⟨_, _, _, y3, _⟩ := HC.out b (by omega)
            simp only [I] at y3
            have k3 : (0 : Int) ≤ (b : Int) := by omega
            have k4 : (b : Int) < (S.length : Int) := by omega
            have k5 : decide ((b : Int) < 0) = false := decide_eq_false (by omega)
            clear HC hpk b2 b3
            generalize (S.getD b noTh).place = pb at *
            generalize S.getD i noTh = t at *
            obtain ⟨th, tcl, fm, pl, sl, tp, tc⟩ := t
            dsimp only at *
            generalize sl.length = sn at *
            have HFA : Hid (∀ nq, Fr [] wo ((wr.alloc (.cells #[.bool th, .int .i64 tcl, .int .i64 fm, .int .i64 pl, .slice tp sn tc] 119)).drewN nq)) := fun nq => (hfi.out.trans (Fr.alloc [] _ _) (by simp)).trans (Fr.drewN [] _ _) (by simp)
            simp only [show pv (some b) = (b : Int) from rfl]
            cases th with
            | false =>
              have HP2 : Hid (pv (pickTo S A (i + 1)) = b) := by show pv (pickTo S A (i + 1)) = b; rw [HP.out, if_neg (by simp)]; rfl
              clear HP
              go_wp2
              go_quiet (fail)
              go_wp2
              go_roundw
              case rel => exact ⟨i + 1, by omega, by go_num, by rw [HP2.out], HFA.out _⟩
              case measure => simp [intOf]; omega
            | true =>
              by_cases hpa : A ≤ pl
              · have z1 : (A : Int) ≤ (pl : Int) := by omega
                by_cases hpb : pl < pb
                · have HP2 : Hid (pv (pickTo S A (i + 1)) = i) := by show pv (pickTo S A (i + 1)) = i; rw [HP.out, if_pos ⟨rfl, hpa, hpb⟩]; rfl
                  have z2 : (pl : Int) < (pb : Int) := by omega
                  clear HP
                  go_wp2
                  go_quiet (fail)
                  go_wp2
                  go_roundw
                  case rel => exact ⟨i + 1, by omega, by go_num, by rw [HP2.out], HFA.out _⟩
                  case measure => simp [intOf]; omega
                · have HP2 : Hid (pv (pickTo S A (i + 1)) = b) := by show pv (pickTo S A (i + 1)) = b; rw [HP.out, if_neg (by simp; omega)]; rfl
                  have z2 : decide ((pl : Int) < (pb : Int)) = false := decide_eq_false (by omega)
                  clear HP
                  go_wp2
                  go_quiet (fail)
                  go_wp2
                  go_roundw
                  case rel => exact ⟨i + 1, by omega, by go_num, by rw [HP2.out], HFA.out _⟩
                  case measure => simp [intOf]; omega
              · have HP2 : Hid (pv (pickTo S A (i + 1)) = b) := by show pv (pickTo S A (i + 1)) = b; rw [HP.out, if_neg (by simp; omega)]; rfl
                have z1 : decide ((A : Int) ≤ (pl : Int)) = false := decide_eq_false (by omega)
                clear HP
                go_wp2
                go_quiet (fail)
                go_wp2
                go_roundw
                case rel => exact ⟨i + 1, by omega, by go_num, by rw [HP2.out], HFA.out _⟩
                case measure => simp [intOf]; omega
        · have hie : i = S.length := by omega
          subst hie
          cases hpk : pickTo S A S.length with
          | none =>
            have HP := mkHid (slidN_none S A (T - (n + 1)) hpk)
            clear hpk
            simp only [show pv none = -1 from rfl]
            clear HTh
            go_wp2
            refine bodyPost_ret (v := .tuple #[]) (by simp [results, Tryd.results36, go_sem]) rfl ?_
            refine ⟨rfl, ?_, HFr.out.trans hfi.out (by simp)⟩
            rw [HSd.out, show T - n = T - (n + 1) + 1 from by omega, HP.out]
            exact hmi
          | some b =>
            have HP := mkHid (slidN_some S A (T - (n + 1)) b hpk)
            obtain ⟨b1, b2, b3⟩ := pickTo_lt S A _ b hpk
            obtain ⟨g, hg, hc, hf, hgl⟩ := hmi.thAt (by show 0 < S.length; omega)
            dsimp only at hg hc
            obtain ⟨y0, y1, y2, y3, y4⟩ := hc b (by omega)
            have k3 : (0 : Int) ≤ (b : Int) := by omega
            have k4 : (b : Int) < (S.length : Int) := by omega
            have k5 : decide ((b : Int) < 0) = false := decide_eq_false (by omega)
            simp only [show pv (some b) = (b : Int) from rfl]
            have hgm := (hmi.pt_ne hg).1
            have hfz := hf (b * 5 + 3)
            have hset := hmi.set1 hg b 3 (I A) (placed (S.getD b noTh) A) (by show b < S.length; omega) (by omega) rfl rfl rfl rfl
            have HAl2 := mkHid (HAl.out.place b A (by omega))
            have hslb := HSl.out b (by have := HSL.out; omega)
            rw [← (HAl.out.at_ b).2.1] at hslb
            have hLb := lenN_le (S.getD b noTh).slots.length (S.getD b noTh).fmt
            have HL := mkHid (refLen_any (S.getD b noTh).slots.length (S.getD b noTh).fmt)
            have hgp : g ∈ blk M.pt := by rw [hg]; simp [blk]
            have HFs := mkHid ((HFr.out.trans hfi.out (by simp)).trans (Fr.setCell (S := blk M.pt) wr ⟨g, b * 5 + 3, none⟩ (I A) hgp) (fun x hx => .inl hx))
            have d3 : (wr.setCell ⟨g, b * 5 + 3, none⟩ (I A)).cell? ⟨m, 3, none⟩ = some (.slice (some ⟨g, 0, none⟩) S.length M.ct) := by
              have := hset.c3
              dsimp only at this
              rw [List.length_set, hg] at this
              exact this
            have d2 : (wr.setCell ⟨g, b * 5 + 3, none⟩ (I A)).cell? ⟨g, b * 5 + 2, none⟩ = some (I (S.getD b noTh).fmt) ∧ (wr.setCell ⟨g, b * 5 + 3, none⟩ (I A)).cell? ⟨g, b * 5 + 4, none⟩ = some (.slice (S.getD b noTh).p (S.getD b noTh).slots.length (S.getD b noTh).c) := by
              obtain ⟨g', hg', hc', _, _⟩ := hset.thAt (by dsimp only; rw [List.length_set]; omega)
              dsimp only at hg' hc'
              have e : g' = g := by
                rw [hg] at hg'
                injection hg' with e
                injection e with e _ _
                exact e.symm
              subst e
              have := hc' b (by rw [List.length_set]; omega)
              rw [getD_set S b b _ (by omega), if_pos rfl] at this
              exact ⟨this.2.2.1, this.2.2.2.2⟩
            obtain ⟨d2, d4⟩ := d2
            have HSet := mkHid hset
            rw [hg] at c3
            simp only [I] at y2 y3 HFs HSet d2 d3 d4
            clear hset hpk b2 b3 hc hf HTh hgp hg
            generalize hLn : lenN (S.getD b noTh).slots.length (S.getD b noTh).fmt = L at *
            generalize hTb : S.getD b noTh = t at *
            obtain ⟨th, tcl, fm, pl, sl, tp, tc⟩ := t
            dsimp only at *
            generalize hsn : sl.length = sn at *
            clear hmi
            go_wp2
            generalize wr.setCell ⟨g, b * 5 + 3, none⟩ (.int .i64 (A : Int)) = W1 at *
            clear c3 y0 y1 y2 y3 y4
            go_quiet ((go_at_call 59; exact Calls.quiet_of_same (HL.out _ (by omega))))
            go_wp2
            go_roundw
            case rel =>
              refine ⟨n + 1, A + L, _, by omega, by go_num, by go_num, by omega, HAl2.out, HSet.out.congr fun _ _ => rfl, HFs.out.trans (Fr.drewN (blk M.pt) _ _) (fun x hx => .inl hx), ?_⟩
              rw [HSd.out, show T - n = T - (n + 1) + 1 from by omega, HP.out]
            case measure => simp [intOf]; omega
    · have hnT : n = T := by omega
      subst hnT
      have n1 : ¬ (n : Int) < (n : Int) := by omega
      go_wp2_with (go_at_call 33; refine HTh.out.mono ?_; rintro e w1 ⟨rfl, hw1⟩; rw [hw1]; clear hw1 w1)
      go_end0
      refine ⟨rfl, ?_, HFr.out⟩
      rw [HSd.out, Nat.sub_self]
      exact HMr.out
end Go.Proofs.YtklfnjlenbgmoaaDoor
