import Derived.Test.YtdkbnnhcjaibdaaDoorFG08HMSet
import Derived.Deep.RegionLaw
namespace Go.Proofs.YtdkbnnhcjaibdaaDoor
open Go.RowKit
set_option linter.unusedVariables false
attribute [local go_sem ↓] Go.wp_at_zero Go.wp_at_succ
/-- the first thing of the first i that lies lowest, of those that lie at A or above -/
def pickTo (S : List Th) (A : Nat) : Nat → Option Nat
  | 0 => none
  | i + 1 => match pickTo S A i with
    | none => if (S.getD i noTh).there = true ∧ A ≤ (S.getD i noTh).place then some i else none
    | some b => if (S.getD i noTh).there = true ∧ A ≤ (S.getD i noTh).place ∧ (S.getD i noTh).place < (S.getD b noTh).place then some i else some b
theorem pickTo_none (S : List Th) (A i : Nat) (h : pickTo S A i = none) : pickTo S A (i + 1) = if (S.getD i noTh).there = true ∧ A ≤ (S.getD i noTh).place then some i else none := by
  conv => lhs; unfold pickTo
  rw [h]
theorem pickTo_some (S : List Th) (A i b : Nat) (h : pickTo S A i = some b) : pickTo S A (i + 1) = if (S.getD i noTh).there = true ∧ A ≤ (S.getD i noTh).place ∧ (S.getD i noTh).place < (S.getD b noTh).place then some i else some b := by
  conv => lhs; unfold pickTo
  rw [h]
theorem pickTo_lt (S : List Th) (A : Nat) : ∀ i b, pickTo S A i = some b → b < i ∧ (S.getD b noTh).there = true ∧ A ≤ (S.getD b noTh).place := by
  intro i
  induction i with
  | zero => intro b h; simp [pickTo] at h
  | succ i ih =>
    intro b h
    cases hp : pickTo S A i with
    | none =>
      rw [pickTo_none S A i hp] at h
      split at h
      · rename_i hc; injection h with h; subst h; exact ⟨by omega, hc⟩
      · simp at h
    | some c =>
      rw [pickTo_some S A i c hp] at h
      split at h
      · rename_i hc; injection h with h; subst h; exact ⟨by omega, hc.1, hc.2.1⟩
      · injection h with h; subst h
        have := ih _ hp
        exact ⟨by omega, this.2⟩
def pv : Option Nat → Int
  | none => -1
  | some b => b
def placed (t : Th) (A : Nat) : Th := { t with place := A }
/-- n of them slide, from A on -/
def slidN (S : List Th) (A : Nat) : Nat → List Th
  | 0 => S
  | n + 1 => match pickTo S A S.length with
    | none => S
    | some k => slidN (S.set k (placed (S.getD k noTh) A)) (A + lenN (S.getD k noTh).slots.length (S.getD k noTh).fmt) n
theorem slidN_none (S : List Th) (A n : Nat) (h : pickTo S A S.length = none) : slidN S A (n + 1) = S := by conv => lhs; unfold slidN; rw [h]
theorem slidN_some (S : List Th) (A n k : Nat) (h : pickTo S A S.length = some k) : slidN S A (n + 1) = slidN (S.set k (placed (S.getD k noTh) A)) (A + lenN (S.getD k noTh).slots.length (S.getD k noTh).fmt) n := by
  conv => lhs; unfold slidN
  rw [h]
/-- two lists of things that differ in their places alone -/
structure Alike (S T : List Th) : Prop where
  len : S.length = T.length
  at_ : ∀ i, (S.getD i noTh).there = (T.getD i noTh).there ∧ (S.getD i noTh).slots = (T.getD i noTh).slots ∧ (S.getD i noTh).fmt = (T.getD i noTh).fmt ∧ (S.getD i noTh).cls = (T.getD i noTh).cls ∧ (S.getD i noTh).p = (T.getD i noTh).p ∧ (S.getD i noTh).c = (T.getD i noTh).c
theorem Alike.refl (S : List Th) : Alike S S := ⟨rfl, fun _ => ⟨rfl, rfl, rfl, rfl, rfl, rfl⟩⟩
theorem Alike.place {S T : List Th} (h : Alike S T) (k A : Nat) (hk : k < S.length) : Alike (S.set k (placed (S.getD k noTh) A)) T := by
  refine ⟨by rw [List.length_set]; exact h.len, fun i => ?_⟩
  rw [getD_set S k i _ hk]
  split
  · rename_i e; subst e; exact h.at_ i
  · exact h.at_ i
theorem Alike.there {S T : List Th} (h : Alike S T) : ∀ k, k ≤ S.length → thereTo S k = thereTo T k := by
  intro k
  induction k with
  | zero => intro _; rfl
  | succ k ih =>
    intro hk
    rw [thereTo_succ S k (by omega), thereTo_succ T k (by have := h.len; omega), ih (by omega), (h.at_ k).1]
set_option maxRecDepth 20000 in
set_option maxHeartbeats 4000000 in
theorem slid_ok (m : Nat) (M : MS) (w : World) (h : MRep w m M) (hlen : (M.things.length : Int) ≤ 65538) (hsl : ∀ k, k < M.things.length → ((M.things.getD k noTh).slots.length : Int) ≤ 8192) :
    Calls Tryd.prog 16 #[.pointer (some ⟨m, 0, none⟩)] w fun e w' => e = .returned (.tuple #[]) ∧ MRep w' m { M with things := slidN M.things 0 (thereTo M.things M.things.length) } ∧ Fr (blk M.pt) w w' := by
  have hTl := thereTo_le M.things M.things.length
  have HM := mkHid h
  have HSl := mkHid hsl
  clear h hsl
  generalize hT : thereTo M.things M.things.length = T at *
  have HT := mkHid hT
  clear hT
  go_enter Tryd.func16, Tryd.ntmps16
  go_wp2
  go_loopw [2, 3] (fun x q wr => ∃ (n A : Nat) (S : List Th), n ≤ T ∧ q = .int .i64 n ∧ x = .int .i64 A ∧ A ≤ n * 8194 ∧ Hid (Alike S M.things ∧ MRep wr m { M with things := S } ∧ Fr (blk M.pt) w wr ∧ slidN M.things 0 T = slidN S A (T - n))) (fun _ q _ => T - (intOf q).toNat)
  case atStart => exact ⟨0, 0, M.things, Nat.zero_le _, rfl, rfl, by omega, Alike.refl _, HM.out, Fr.refl _ _, rfl⟩
  case round =>
    obtain ⟨n, A, S, hn, rfl, rfl, hA, hq⟩ := hrel
    obtain ⟨wo, hwo⟩ : ∃ wo, wo = wr := ⟨_, rfl⟩
    subst hwo
    obtain ⟨hal, hmr, hfr, hsd⟩ := hq.out
    clear hq
    have hSl := hal.len
    have hth := there_ok m _ wo hmr (by show (S.length : Int) ≤ 65538; omega)
    have e1 : thereTo S S.length = T := by rw [hal.there _ (Nat.le_refl _), hal.len]; exact HT.out
    have hth2 : Calls Tryd.prog 66 #[.pointer (some ⟨m, 0, none⟩)] wo fun e w' => e = .returned (.int .i64 (T : Nat)) ∧ w' = wo := by rw [← e1]; exact hth
    have HTh := mkHid hth2
    have HMr := mkHid hmr
    have HAl := mkHid hal
    have HFr := mkHid hfr
    have HSd := mkHid hsd
    have HSL := mkHid hSl
    have hS5 : (S.length : Int) ≤ 65538 := by omega
    clear hth hth2 hmr hal hfr hsd e1 hSl
    by_cases hlt : n < T
    · have n1 : (n : Int) < (T : Int) := by omega
      have hml := HMr.out.lt m (by simp [mfoot])
      go_wp2_with (go_at_call 66; refine HTh.out.mono ?_; rintro e w1 ⟨rfl, hw1⟩; rw [hw1]; clear hw1 w1)
      go_loopw [4, 5] (fun x q W => ∃ i : Nat, i ≤ S.length ∧ q = .int .i64 i ∧ x = .int .i64 (pv (pickTo S A i)) ∧ Hid (Fr [] wo W)) (fun _ q _ => S.length - (intOf q).toNat)
      case atStart => exact ⟨0, Nat.zero_le _, rfl, rfl, Fr.refl _ _⟩
      case round =>
        obtain ⟨i, hi, rfl, rfl, hfi⟩ := hrel
        have hmi := HMr.out.keep hfi.out (by simp)
        have hmw := hmi.lt m (by simp [mfoot])
        have c3 := hmi.c3
        dsimp only at c3
        by_cases hil : i < S.length
        · obtain ⟨g, hg, hc, hf, hgl⟩ := hmi.thAt (by show 0 < S.length; omega)
          dsimp only at hg hc
          obtain ⟨q0, q1, q2, q3, q4⟩ := hc i hil
          rw [hg] at c3
          simp only [I] at q2 q3
          have k1 : (0 : Int) ≤ (i : Int) := by omega
          have k2 : (i : Int) < (S.length : Int) := by omega
          have HC := mkHid hc
          clear hmi hc hf hg HTh
          cases hpk : pickTo S A i with
          | none =>
            have HP := mkHid (pickTo_none S A i hpk)
            clear HC hpk
            generalize S.getD i noTh = t at *
            obtain ⟨th, tcl, fm, pl, sl, tp, tc⟩ := t
            dsimp only at *
            generalize sl.length = sn at *
            have HFA : Hid (∀ nq, Fr [] wo ((wr.alloc (.cells #[.bool th, .int .i64 tcl, .int .i64 fm, .int .i64 pl, .slice tp sn tc] 116)).drewN nq)) := fun nq => (hfi.out.trans (Fr.alloc [] _ _) (by simp)).trans (Fr.drewN [] _ _) (by simp)
            simp only [show pv none = -1 from rfl]
            cases th with
            | false =>
              have HP2 : Hid (pv (pickTo S A (i + 1)) = -1) := by show pv (pickTo S A (i + 1)) = -1; rw [HP.out, if_neg (by simp)]; rfl
              clear HP
              go_wp2
              go_quiet (fail)
              go_wp2
              go_roundw
              case rel => exact ⟨i + 1, by omega, by go_num, by rw [HP2.out], HFA.out _⟩
              case measure => simp [intOf]; omega
            | true =>
              by_cases hpa : A ≤ pl
              · have HP2 : Hid (pv (pickTo S A (i + 1)) = i) := by show pv (pickTo S A (i + 1)) = i; rw [HP.out, if_pos ⟨rfl, hpa⟩]; rfl
                have z1 : (A : Int) ≤ (pl : Int) := by omega
                clear HP
                go_wp2
                go_quiet (fail)
                go_wp2
                go_roundw
                case rel => exact ⟨i + 1, by omega, by go_num, by rw [HP2.out], HFA.out _⟩
                case measure => simp [intOf]; omega
              · have HP2 : Hid (pv (pickTo S A (i + 1)) = -1) := by show pv (pickTo S A (i + 1)) = -1; rw [HP.out, if_neg (by simp; omega)]; rfl
                have z1 : decide ((A : Int) ≤ (pl : Int)) = false := decide_eq_false (by omega)
                clear HP
                go_wp2
                go_quiet (fail)
                go_wp2
                go_roundw
                case rel => exact ⟨i + 1, by omega, by go_num, by rw [HP2.out], HFA.out _⟩
                case measure => simp [intOf]; omega
          | some b =>
            have HP := mkHid (pickTo_some S A i b hpk)
            obtain ⟨b1, b2, b3⟩ := pickTo_lt S A i b hpk
            obtain ⟨_, _, _, y3, _⟩ := HC.out b (by omega)
            simp only [I] at y3
            have k3 : (0 : Int) ≤ (b : Int) := by omega
            have k4 : (b : Int) < (S.length : Int) := by omega
            have k5 : decide ((b : Int) < 0) = false := decide_eq_false (by omega)
            clear HC hpk b2 b3
            generalize (S.getD b noTh).place = pb at *
            generalize S.getD i noTh = t at *
            obtain ⟨th, tcl, fm, pl, sl, tp, tc⟩ := t
            dsimp only at *
            generalize sl.length = sn at *
            have HFA : Hid (∀ nq, Fr [] wo ((wr.alloc (.cells #[.bool th, .int .i64 tcl, .int .i64 fm, .int .i64 pl, .slice tp sn tc] 116)).drewN nq)) := fun nq => (hfi.out.trans (Fr.alloc [] _ _) (by simp)).trans (Fr.drewN [] _ _) (by simp)
            simp only [show pv (some b) = (b : Int) from rfl]
            cases th with
            | false =>
              have HP2 : Hid (pv (pickTo S A (i + 1)) = b) := by show pv (pickTo S A (i + 1)) = b; rw [HP.out, if_neg (by simp)]; rfl
              clear HP
              go_wp2
              go_quiet (fail)
              go_wp2
              go_roundw
              case rel => exact ⟨i + 1, by omega, by go_num, by rw [HP2.out], HFA.out _⟩
              case measure => simp [intOf]; omega
            | true =>
              by_cases hpa : A ≤ pl
              · have z1 : (A : Int) ≤ (pl : Int) := by omega
                by_cases hpb : pl < pb
                · have HP2 : Hid (pv (pickTo S A (i + 1)) = i) := by show pv (pickTo S A (i + 1)) = i; rw [HP.out, if_pos ⟨rfl, hpa, hpb⟩]; rfl
                  have z2 : (pl : Int) < (pb : Int) := by omega
                  clear HP
                  go_wp2
                  go_quiet (fail)
                  go_wp2
                  go_roundw
                  case rel => exact ⟨i + 1, by omega, by go_num, by rw [HP2.out], HFA.out _⟩
                  case measure => simp [intOf]; omega
                · have HP2 : Hid (pv (pickTo S A (i + 1)) = b) := by show pv (pickTo S A (i + 1)) = b; rw [HP.out, if_neg (by simp; omega)]; rfl
                  have z2 : decide ((pl : Int) < (pb : Int)) = false := decide_eq_false (by omega)
                  clear HP
                  go_wp2
                  go_quiet (fail)
                  go_wp2
                  go_roundw
                  case rel => exact ⟨i + 1, by omega, by go_num, by rw [HP2.out], HFA.out _⟩
                  case measure => simp [intOf]; omega
              · have HP2 : Hid (pv (pickTo S A (i + 1)) = b) := by show pv (pickTo S A (i + 1)) = b; rw [HP.out, if_neg (by simp; omega)]; rfl
                have z1 : decide ((A : Int) ≤ (pl : Int)) = false := decide_eq_false (by omega)
                clear HP
                go_wp2
                go_quiet (fail)
                go_wp2
                go_roundw
                case rel => exact ⟨i + 1, by omega, by go_num, by rw [HP2.out], HFA.out _⟩
                case measure => simp [intOf]; omega
        · have hie : i = S.length := by omega
          subst hie
          cases hpk : pickTo S A S.length with
          | none =>
            have HP := mkHid (slidN_none S A (T - (n + 1)) hpk)
            clear hpk
            simp only [show pv none = -1 from rfl]
            clear HTh
            go_wp2
            refine bodyPost_ret (v := .tuple #[]) (by simp [results, Tryd.results16, go_sem]) rfl ?_
            refine ⟨rfl, ?_, HFr.out.trans hfi.out (by simp)⟩
            rw [HSd.out, show T - n = T - (n + 1) + 1 from by omega, HP.out]
            exact hmi
          | some b =>
            have HP := mkHid (slidN_some S A (T - (n + 1)) b hpk)
            obtain ⟨b1, b2, b3⟩ := pickTo_lt S A _ b hpk
            obtain ⟨g, hg, hc, hf, hgl⟩ := hmi.thAt (by show 0 < S.length; omega)
            dsimp only at hg hc
            obtain ⟨y0, y1, y2, y3, y4⟩ := hc b (by omega)
            have k3 : (0 : Int) ≤ (b : Int) := by omega
            have k4 : (b : Int) < (S.length : Int) := by omega
            have k5 : decide ((b : Int) < 0) = false := decide_eq_false (by omega)
            simp only [show pv (some b) = (b : Int) from rfl]
            have hgm := (hmi.pt_ne hg).1
            have hfz := hf (b * 5 + 3)
            have hset := hmi.set1 hg b 3 (I A) (placed (S.getD b noTh) A) (by show b < S.length; omega) (by omega) rfl rfl rfl rfl
            have HAl2 := mkHid (HAl.out.place b A (by omega))
            have hslb := HSl.out b (by have := HSL.out; omega)
            rw [← (HAl.out.at_ b).2.1] at hslb
            have hLb := lenN_le (S.getD b noTh).slots.length (S.getD b noTh).fmt
            have HL := mkHid (refLen_any (S.getD b noTh).slots.length (S.getD b noTh).fmt)
            have hgp : g ∈ blk M.pt := by rw [hg]; simp [blk]
            have HFs := mkHid ((HFr.out.trans hfi.out (by simp)).trans (Fr.setCell (S := blk M.pt) wr ⟨g, b * 5 + 3, none⟩ (I A) hgp) (fun x hx => .inl hx))
            have d3 : (wr.setCell ⟨g, b * 5 + 3, none⟩ (I A)).cell? ⟨m, 3, none⟩ = some (.slice (some ⟨g, 0, none⟩) S.length M.ct) := by
              have := hset.c3
              dsimp only at this
              rw [List.length_set, hg] at this
              exact this
            have d2 : (wr.setCell ⟨g, b * 5 + 3, none⟩ (I A)).cell? ⟨g, b * 5 + 2, none⟩ = some (I (S.getD b noTh).fmt) ∧ (wr.setCell ⟨g, b * 5 + 3, none⟩ (I A)).cell? ⟨g, b * 5 + 4, none⟩ = some (.slice (S.getD b noTh).p (S.getD b noTh).slots.length (S.getD b noTh).c) := by
              obtain ⟨g', hg', hc', _, _⟩ := hset.thAt (by dsimp only; rw [List.length_set]; omega)
              dsimp only at hg' hc'
              have e : g' = g := by
                rw [hg] at hg'
                injection hg' with e
                injection e with e _ _
                exact e.symm
              subst e
              have := hc' b (by rw [List.length_set]; omega)
              rw [getD_set S b b _ (by omega), if_pos rfl] at this
              exact ⟨this.2.2.1, this.2.2.2.2⟩
            obtain ⟨d2, d4⟩ := d2
            have HSet := mkHid hset
            rw [hg] at c3
            simp only [I] at y2 y3 HFs HSet d2 d3 d4
            clear hset hpk b2 b3 hc hf HTh hgp hg
            generalize hLn : lenN (S.getD b noTh).slots.length (S.getD b noTh).fmt = L at *
            generalize hTb : S.getD b noTh = t at *
            obtain ⟨th, tcl, fm, pl, sl, tp, tc⟩ := t
            dsimp only at *
            generalize hsn : sl.length = sn at *
            clear hmi
            go_wp2
            generalize wr.setCell ⟨g, b * 5 + 3, none⟩ (.int .i64 (A : Int)) = W1 at *
            clear c3 y0 y1 y2 y3 y4
            go_quiet ((go_at_call 67; exact Calls.quiet_of_same (HL.out _ (by omega))))
            go_wp2
            go_roundw
            case rel =>
              refine ⟨n + 1, A + L, _, by omega, by go_num, by go_num, by omega, HAl2.out, HSet.out.congr fun _ _ => rfl, HFs.out.trans (Fr.drewN (blk M.pt) _ _) (fun x hx => .inl hx), ?_⟩
              rw [HSd.out, show T - n = T - (n + 1) + 1 from by omega, HP.out]
            case measure => simp [intOf]; omega
    · have hnT : n = T := by omega
      subst hnT
      have n1 : ¬ (n : Int) < (n : Int) := by omega
      go_wp2_with (go_at_call 66; refine HTh.out.mono ?_; rintro e w1 ⟨rfl, hw1⟩; rw [hw1]; clear hw1 w1)
      go_end0
      refine ⟨rfl, ?_, HFr.out⟩
      rw [HSd.out, Nat.sub_self]
      exact HMr.out
end Go.Proofs.YtdkbnnhcjaibdaaDoor

namespace Go.Proofs.YtdkbnnhcjaibdaaDoor
open Go.RowKit
set_option linter.unusedVariables false
attribute [local go_sem ↓] Go.wp_at_zero Go.wp_at_succ
def newX (f : Nat) : Int := if f = 1 then 0 else 4
def thObj (cl : Int) (f E : Nat) (v : Value) : Obj := .cells #[.bool true, .int .i64 cl, .int .i64 f, .int .i64 E, v] 116 (0, 0)
/-- the thing under way: its block is B, it has k slots -/
structure Way (w wr : World) (B : Nat) (cl : Int) (f E : Nat) (k : Nat) : Prop where
  fr : Fr [] w wr
  lt : w.heap.size ≤ B
  at_ : ∃ v, wr.heap[B]? = some (thObj cl f E v) ∧ wr.ownsRow (B + 1) 35 1 v k ((List.replicate k (newX f)).map (Value.int .i64))
theorem Way.next {w wr w2 : World} {B : Nat} {cl : Int} {f E k : Nat} {v v' : Value} {o : Obj} (h : Way w wr B cl f E k) (hv : wr.heap[B]? = some (thObj cl f E v)) (hown : wr.ownsRow (B + 1) 35 1 v k ((List.replicate k (newX f)).map (Value.int .i64)))
    (hg : (wr.alloc o).grownBy w2 v.ownBlock) (ho : w2.ownsRow (B + 1) 35 1 v' (k + 1) ((List.replicate k (newX f)).map (Value.int .i64) ++ [.int .i64 (newX f)])) : Way w (w2.setCell ⟨B, 4, none⟩ v') B cl f E (k + 1) := by
  have hBl := lt_of_heap hv
  have hob : ∀ b, v.ownBlock = some b → B + 1 ≤ b := fun b hb => (hown.lt b hb).1
  have hB2 : w2.heap[B]? = some (thObj cl f E v) := by
    rw [hg.block B (by simp; omega) (fun e => by have := hob B e.symm; omega), Below.heap_alloc _ _ _ hBl]
    exact hv
  have F2 : Fr [B] w w2 := by
    refine ⟨hg.os.trans h.fr.os, hg.tape.trans h.fr.tape, hg.output.trans h.fr.output, Nat.le_trans h.fr.size (Nat.le_trans (by simp) hg.size), fun i hi hn => ?_⟩
    have hiB : i < wr.heap.size := Nat.lt_of_lt_of_le hi h.fr.size
    rw [hg.block i (by simp; omega) (fun e => by have := hob i e.symm; have := h.lt; omega), Below.heap_alloc _ _ _ hiB]
    exact h.fr.block i hi (by simp)
  refine ⟨(F2.trans (Fr.setCell (S := [B]) w2 ⟨B, 4, none⟩ v' (by simp)) (fun b hb => .inl hb)).mono (fun b hb => ?_), h.lt, v', ?_, ?_⟩
  · simp at hb; subst hb; exact .inr h.lt
  · unfold thObj at hB2 ⊢
    rw [set_in hB2]
    rfl
  · have : (List.replicate (k + 1) (newX f)).map (Value.int .i64) = (List.replicate k (newX f)).map (Value.int .i64) ++ [.int .i64 (newX f)] := by
      rw [List.replicate_succ', List.map_append]; rfl
    rw [this]
    exact own_congr ho fun b hb => set_else (by have := (ho.lt b hb).1; omega)
end Go.Proofs.YtdkbnnhcjaibdaaDoor

namespace Go.Proofs.YtdkbnnhcjaibdaaDoor
open Go.RowKit
set_option linter.unusedVariables false
attribute [local go_sem ↓] Go.wp_at_zero Go.wp_at_succ
def putTh (S : List Th) (k : Nat) (t : Th) : List Th := if k < S.length then S.set k t else S ++ [t]
/-- one thing is new, the others are as they were -/
theorem MRep.renew {w w2 : World} {m : Nat} {M : MS} (h : MRep w m M) (S : List Th) (pt : Option Addr) (ct : Nat) (t : Th) (k : Nat) (hk : k < S.length)
    (hat : ∀ i, i < S.length → S.getD i noTh = if i = k then t else M.things.getD i noTh) (hlen : ∀ i, i < S.length → i ≠ k → i < M.things.length)
    (htop : w2.heap[m]? = some (.cells (mcells { M with things := S, pt := pt, ct := ct }) 33 (0, 0)))
    (hrow : w2.ownsRow 0 116 5 (.slice pt S.length ct) S.length (thCells S)) (hkeep : ∀ g ∈ mslots M, w2.heap[g]? = w.heap[g]?)
    (hnew : w2.ownsRow 0 35 1 (.slice t.p t.slots.length t.c) t.slots.length (t.slots.map (Value.int .i64))) (hap : ∀ g ∈ blk t.p, g ∉ mslots M) :
    MRep w2 m { M with things := S, pt := pt, ct := ct } := by
  refine ⟨htop, hrow, ?_, ?_⟩
  · intro u hu
    obtain ⟨i, hi, hiu⟩ := List.getElem_of_mem hu
    have e : S.getD i noTh = u := by rw [List.getD_eq_getElem?_getD, List.getElem?_eq_getElem hi, hiu]; rfl
    rw [hat i hi] at e
    split at e
    · rw [← e]; exact hnew
    · rename_i hik
      have hm := getD_mem M.things i (hlen i hi hik)
      rw [e] at hm
      exact own_congr (h.slots u hm) fun b hb => hkeep b (mslots_mem hm ((blk_own _ _ _ _).1 hb))
  · intro i j hi hj hij g hg
    dsimp only at hi hj hg ⊢
    rw [hat i hi] at hg
    rw [hat j hj]
    by_cases hik : i = k
    · rw [if_pos hik] at hg
      rw [if_neg (by omega)]
      exact fun hb => hap g hg (mslots_mem (getD_mem M.things j (hlen j hj (by omega))) hb)
    · rw [if_neg hik] at hg
      have hmi := mslots_mem (getD_mem M.things i (hlen i hi hik)) hg
      by_cases hjk : j = k
      · rw [if_pos hjk]; exact fun hb => hap g hb hmi
      · rw [if_neg hjk]; exact h.apart i j (hlen i hi hik) (hlen j hj hjk) hij g hg
theorem putTh_at (S : List Th) (k : Nat) (t : Th) (hk : k ≤ S.length) : ∀ i, i < (putTh S k t).length → (putTh S k t).getD i noTh = if i = k then t else S.getD i noTh := by
  intro i hi
  unfold putTh at hi ⊢
  by_cases h : k < S.length
  · rw [if_pos h] at hi ⊢
    exact getD_set S k i t h
  · rw [if_neg h] at hi ⊢
    have hke : k = S.length := by omega
    simp at hi
    by_cases e : i = k
    · rw [if_pos e, e, hke, List.getD_eq_getElem?_getD, List.getElem?_append_right (by omega)]; simp
    · rw [if_neg e, List.getD_eq_getElem?_getD, List.getD_eq_getElem?_getD, List.getElem?_append_left (by omega)]
theorem putTh_len (S : List Th) (k : Nat) (t : Th) (hk : k ≤ S.length) : k < (putTh S k t).length ∧ ∀ i, i < (putTh S k t).length → i ≠ k → i < S.length := by
  unfold putTh
  by_cases h : k < S.length
  · rw [if_pos h]; simp; exact ⟨h, fun i hi _ => hi⟩
  · rw [if_neg h]; simp; exact ⟨by omega, fun i hi hne => by omega⟩
theorem thCells_append (S : List Th) (t : Th) : thCells (S ++ [t]) = thCells S ++ th5 t := by simp [thCells, th5]
/-- a whole thing is written -/
theorem thCells_setAll (S : List Th) (k : Nat) (t : Th) (hk : k < S.length) : thCells (S.set k t) = (((((thCells S).set (k * 5) (.bool t.there)).set (k * 5 + 1) (.int .i64 t.cls)).set (k * 5 + 2) (I t.fmt)).set (k * 5 + 3) (I t.place)).set (k * 5 + 4) (.slice t.p t.slots.length t.c) := by
  apply List.ext_getElem?
  intro i
  rw [thCells_get, List.getElem?_set, List.getElem?_set, List.getElem?_set, List.getElem?_set, List.getElem?_set, List.getElem?_set]
  simp only [List.length_set, thCells_len]
  by_cases h1 : i / 5 = k
  · rw [if_pos h1.symm, if_pos (by omega)]
    simp only [Option.bind_some]
    have h5 : i = k * 5 ∨ i = k * 5 + 1 ∨ i = k * 5 + 2 ∨ i = k * 5 + 3 ∨ i = k * 5 + 4 := by omega
    rcases h5 with e | e | e | e | e
    · rw [if_neg (by omega), if_neg (by omega), if_neg (by omega), if_neg (by omega), if_pos (by omega), if_pos (by omega), show i % 5 = 0 from by omega]; rfl
    · rw [if_neg (by omega), if_neg (by omega), if_neg (by omega), if_pos (by omega), if_pos (by omega), show i % 5 = 1 from by omega]; rfl
    · rw [if_neg (by omega), if_neg (by omega), if_pos (by omega), if_pos (by omega), show i % 5 = 2 from by omega]; rfl
    · rw [if_neg (by omega), if_pos (by omega), if_pos (by omega), show i % 5 = 3 from by omega]; rfl
    · rw [if_pos (by omega), if_pos (by omega), show i % 5 = 4 from by omega]; rfl
  · rw [if_neg (fun e => h1 e.symm), if_neg (by omega), if_neg (by omega), if_neg (by omega), if_neg (by omega), if_neg (by omega), thCells_get]
end Go.Proofs.YtdkbnnhcjaibdaaDoor

namespace Go.Proofs.YtdkbnnhcjaibdaaDoor
open Go.RowKit
set_option linter.unusedVariables false
attribute [local go_sem ↓] Go.wp_at_zero Go.wp_at_succ
def setTh (w : World) (g q : Nat) (t : Th) : World :=
  ((((w.setCell ⟨g, q * 5, none⟩ (.bool t.there)).setCell ⟨g, q * 5 + 1, none⟩ (.int .i64 t.cls)).setCell ⟨g, q * 5 + 2, none⟩ (.int .i64 t.fmt)).setCell ⟨g, q * 5 + 3, none⟩ (.int .i64 t.place)).setCell ⟨g, q * 5 + 4, none⟩ (.slice t.p t.slots.length t.c)
theorem setTh_else {w : World} {g q : Nat} {t : Th} {i : Nat} (h : i ≠ g) : (setTh w g q t).heap[i]? = w.heap[i]? := by
  unfold setTh
  rw [set_else h, set_else h, set_else h, set_else h, set_else h]
theorem setTh_fr (w : World) (g q : Nat) (t : Th) (S : List Nat) (h : g ∈ S) : Fr S w (setTh w g q t) := by
  unfold setTh
  exact ((((Fr.setCell w _ _ h).trans (Fr.setCell (S := S) _ _ _ h) (fun b hb => .inl hb)).trans (Fr.setCell (S := S) _ _ _ h) (fun b hb => .inl hb)).trans (Fr.setCell (S := S) _ _ _ h) (fun b hb => .inl hb)).trans (Fr.setCell (S := S) _ _ _ h) (fun b hb => .inl hb)
theorem setTh_row {w : World} {S : List Th} {g c q : Nat} {t : Th} (h : w.ownsRow 0 116 5 (.slice (some ⟨g, 0, none⟩) S.length c) S.length (thCells S)) (hq : q < S.length) :
    (setTh w g q t).ownsRow 0 116 5 (.slice (some ⟨g, 0, none⟩) S.length c) S.length (thCells (S.set q t)) := by
  rw [thCells_setAll S q t hq]
  exact own_stored (own_stored (own_stored (own_stored (own_stored h _ _) _ _) _ _) _ _) _ _
theorem MRep.putAll {w : World} {m : Nat} {M : MS} {g : Nat} (h : MRep w m M) (hg : M.pt = some ⟨g, 0, none⟩) (q : Nat) (hq : q < M.things.length) (t : Th)
    (hnew : w.ownsRow 0 35 1 (.slice t.p t.slots.length t.c) t.slots.length (t.slots.map (Value.int .i64))) (hap : ∀ b ∈ blk t.p, b ∉ mslots M) :
    MRep (setTh w g q t) m { M with things := M.things.set q t } := by
  obtain ⟨n1, n2⟩ := h.pt_ne hg
  have hgt : g ∉ blk t.p := fun hb => by
    obtain ⟨c1, hc1⟩ := own_blk hnew g hb
    obtain ⟨c2, hc2⟩ := own_blk h.row g (by rw [hg]; simp [blk])
    rw [hc1] at hc2
    simp at hc2
  have hrow := h.row
  rw [hg] at hrow
  refine h.renew (M.things.set q t) M.pt M.ct t q (by simpa using hq) (fun i hi => getD_set M.things q i t hq) (fun i hi _ => by simpa using hi) ?_ ?_ (fun b hb => setTh_else (fun e => n2 (e ▸ hb))) (own_congr hnew fun b hb => setTh_else (fun e => hgt (e ▸ (blk_own _ _ _ _).1 hb))) hap
  · rw [setTh_else (fun e => n1 e.symm), h.top]
    simp [mcells]
  · rw [List.length_set, hg]
    exact setTh_row hrow hq
theorem MRep.drew {w : World} {m : Nat} {M : MS} (h : MRep w m M) : MRep w.drew m M := h.congr fun g _ => rfl
end Go.Proofs.YtdkbnnhcjaibdaaDoor

namespace Go.Proofs.YtdkbnnhcjaibdaaDoor
open Go.RowKit
set_option linter.unusedVariables false
attribute [local go_sem ↓] Go.wp_at_zero Go.wp_at_succ
theorem info119 : (Tryd.prog.info? 116).map (fun i => (i.zero, i.size, i.bytes)) = some (some (.agg #[.bool false, .int .i64 0, .int .i64 0, .int .i64 0, .slice none 0 0]), 5, 56) := by kernel_rfl
set_option maxRecDepth 20000 in
set_option maxHeartbeats 4000000 in
theorem made_ok (q : Nat) (cl : Int) (n f : Nat) (m : Nat) (M : MS) (w : World) (h : MRep w m M) (ho : MOk M) (hf : f ≤ 1) (hn : (n : Int) ≤ 8192) (h2 : q ≤ M.things.length) :
    Calls Tryd.prog 116 #[.pointer (some ⟨m, 0, none⟩), .int .i64 ((q : Int) + 1), .int .i64 cl, .int .i64 n, .int .i64 f] w fun e w' => e = .returned (.tuple #[]) ∧ ∃ p c pt ct,
      MRep w' m { M with things := putTh M.things q ⟨true, cl, f, endTo M.things M.things.length, List.replicate n (newX f), p, c⟩, pt := pt, ct := ct } ∧ Fr (m :: blk M.pt) w w' ∧ (∀ g ∈ blk p, w.heap.size ≤ g) ∧ (∀ g ∈ blk pt, g ∈ blk M.pt ∨ w.heap.size ≤ g) := by
  have hml := h.lt m (by simp [mfoot])
  have hlen := ho.len
  have HEnd := mkHid (end_ok m M w h ho)
  have HM := mkHid h
  obtain ⟨j0, ji, jz0, jz1, jz2⟩ := info_parts info33
  clear h ho
  generalize endTo M.things M.things.length = E at *
  go_enter Tryd.func116, Tryd.ntmps116
  go_wp2_with fail
  refine Calls.mono HEnd.out ?_
  rintro e w1 ⟨rfl, hf1⟩
  have F1 := mkHid hf1
  have hs1 := hf1.size
  clear hf1 HEnd
  simp only [I]
  go_wp2_with fail
  have HW0 : Hid (Way w (w1.alloc (.cells #[.bool true, .int .i64 cl, .int .i64 f, .int .i64 E, .slice none 0 0] 116)) w1.heap.size cl f E 0) :=
    ⟨F1.out.trans (Fr.alloc [] _ _) (by simp), hs1, _, heap_alloc_new _ _, World.ownsRow_nil _ _ _ _⟩
  go_loopw [11] (fun q wr => ∃ k : Nat, k ≤ n ∧ q = .int .i64 k ∧ Hid (Way w wr w1.heap.size cl f E k)) (fun q _ => n - (intOf q).toNat)
  case atStart => exact ⟨0, Nat.zero_le _, rfl, HW0⟩
  case round =>
    obtain ⟨k, hkn, rfl, hw⟩ := hrel
    by_cases hlt : k < n
    · have k2 : (k : Int) < (n : Int) := by omega
      obtain ⟨v, hv, hown⟩ := hw.out.at_
      have hBl := lt_of_heap hv
      have d4 : wr.cell? ⟨w1.heap.size, 4, none⟩ = some v := by unfold thObj at hv; rw [cell_in hv]; rfl
      rcases (show f = 1 ∨ f = 0 from by omega) with hfe | hfe
      · have hfb : ((f : Int) == 1) = true := by rw [hfe]; rfl
        have HX : Hid (newX f = 0) := by rw [hfe]; rfl
        clear hfe
        have hown2 := hown.alloc (.cells #[.int .i64 0] 35)
        have HN := mkHid (fun w2 v' (hg : (wr.alloc (.cells #[.int .i64 0] 35)).grownBy w2 v.ownBlock) => hw.out.next (v' := v') hv hown hg)
        have hBo : ∀ b, v.ownBlock = some b → w1.heap.size + 1 ≤ b := fun b hb => (hown.lt b hb).1
        have HV := mkHid hv
        clear hown hv hw HW0
        go_wp2_with (first
          | (at_builtin; refine wpList_append_own _ rfl (.tmp 25) (.tmp 26) 61 rfl (w1.heap.size + 1) 35 j0 (.int .i64 0) 1 8 Tryd.underlying61 ji jz0 jz1 jz2 rfl (by decide) _ _ _ rfl hown2 ⟨wr.heap.size, 0, none⟩ 1 1 [.int .i64 0] rfl rfl ?c1 ?c2 ?c3 ?c4 ?c5 ?_)
          | go_in)
        case c1 => exact World.news_of_block (heap_alloc_new wr (.cells #[.int .i64 0] 35))
        case c2 => intro u hu; simp at hu; subst hu; rfl
        case c3 => unfold maxLen; omega
        case c4 => omega
        case c5 => simp; omega
        intro v' w2 hown' hgrow _
        have hB2 : w2.heap[w1.heap.size]? = some (thObj cl f E v) := by
          rw [hgrow.block _ (by simp; omega) (fun e => by have := hBo _ e.symm; omega), Below.heap_alloc _ _ _ hBl]
          exact HV.out
        unfold thObj at hB2
        have fz := frozen_in hB2 4
        have cz := cell_in hB2 4
        simp at cz
        have HNx := mkHid (HN.out w2 v' hgrow (by have hx := hown'; have e := HX.out; rw [e] at hx ⊢; simpa using hx))
        obtain ⟨gv, cv, hv', _, _⟩ := hown'.form (by omega)
        subst hv'
        clear hown' hgrow hown2 HN hB2 HV hBo
        go_wp2
        go_roundw
        case rel => exact ⟨k + 1, by omega, by go_num, HNx⟩
        case measure => simp [intOf]; omega
      · have hfb : ((f : Int) == 1) = false := by rw [hfe]; rfl
        have HX : Hid (newX f = 4) := by rw [hfe]; rfl
        clear hfe
        have hown2 := hown.alloc (.cells #[.int .i64 4] 35)
        have HN := mkHid (fun w2 v' (hg : (wr.alloc (.cells #[.int .i64 4] 35)).grownBy w2 v.ownBlock) => hw.out.next (v' := v') hv hown hg)
        have hBo : ∀ b, v.ownBlock = some b → w1.heap.size + 1 ≤ b := fun b hb => (hown.lt b hb).1
        have HV := mkHid hv
        clear hown hv hw HW0
        go_wp2_with (first
          | (at_builtin; refine wpList_append_own _ rfl (.tmp 30) (.tmp 31) 61 rfl (w1.heap.size + 1) 35 j0 (.int .i64 0) 1 8 Tryd.underlying61 ji jz0 jz1 jz2 rfl (by decide) _ _ _ rfl hown2 ⟨wr.heap.size, 0, none⟩ 1 1 [.int .i64 4] rfl rfl ?c1 ?c2 ?c3 ?c4 ?c5 ?_)
          | go_in)
        case c1 => exact World.news_of_block (heap_alloc_new wr (.cells #[.int .i64 4] 35))
        case c2 => intro u hu; simp at hu; subst hu; rfl
        case c3 => unfold maxLen; omega
        case c4 => omega
        case c5 => simp; omega
        intro v' w2 hown' hgrow _
        have hB2 : w2.heap[w1.heap.size]? = some (thObj cl f E v) := by
          rw [hgrow.block _ (by simp; omega) (fun e => by have := hBo _ e.symm; omega), Below.heap_alloc _ _ _ hBl]
          exact HV.out
        unfold thObj at hB2
        have fz := frozen_in hB2 4
        have cz := cell_in hB2 4
        simp at cz
        have HNx := mkHid (HN.out w2 v' hgrow (by have hx := hown'; have e := HX.out; rw [e] at hx ⊢; simpa using hx))
        obtain ⟨gv, cv, hv', _, _⟩ := hown'.form (by omega)
        subst hv'
        clear hown' hgrow hown2 HN hB2 HV hBo
        go_wp2
        go_roundw
        case rel => exact ⟨k + 1, by omega, by go_num, HNx⟩
        case measure => simp [intOf]; omega
    · have hke : k = n := by omega
      subst hke
      obtain ⟨v, hv, hown⟩ := hw.out.at_
      obtain ⟨p, c, hvs⟩ : ∃ p c, v = .slice p k c := by
        rcases hown.2 with ⟨h2, h3⟩ | ⟨g, cap, cur, h2, _⟩
        · exact ⟨none, 0, by rw [h2, h3]⟩
        · exact ⟨_, cap, h2⟩
      subst hvs
      have hBl := lt_of_heap hv
      have hmr := HM.out.keep hw.out.fr (by simp)
      have hmw := hmr.lt m (by simp [mfoot])
      have c3 := hmr.c3
      have hmB : m ≠ w1.heap.size := by omega
      unfold thObj at hv
      have b0 := cell_in hv 0
      have b1 := cell_in hv 1
      have b2 := cell_in hv 2
      have b3 := cell_in hv 3
      have b4 := cell_in hv 4
      simp at b0 b1 b2 b3 b4
      have HMr := mkHid hmr
      have HWy := mkHid hw.out
      have HOw := mkHid hown
      have HV := mkHid hv
      clear hmr hw hown hv HW0
      by_cases hq : q < M.things.length
      · obtain ⟨g, hg, hc, hfz, hgl⟩ := HMr.out.thAt (by omega)
        obtain ⟨y0, y1, y2, y3, y4⟩ := hc q hq
        rw [hg] at c3
        have hgm := (HMr.out.pt_ne hg).1
        have hgB : g ≠ w1.heap.size := by
          have := HM.out.lt g (by simp [mfoot, hg, blk])
          omega
        have k1 : (0 : Int) ≤ (q : Int) := by omega
        have k2 : (q : Int) < (M.things.length : Int) := by omega
        have k3 : (q : Int) + 1 ≤ (M.things.length : Int) := by omega
        have z0 := hfz (q * 5)
        have z1 := hfz (q * 5 + 1)
        have z2 := hfz (q * 5 + 2)
        have z3 := hfz (q * 5 + 3)
        have z4 := hfz (q * 5 + 4)
        have HG := mkHid hg
        have wq : IntKind.i64.wrap (q : Int) = (q : Int) := by rw [iwrap]; unfold wrap64; omega
        clear hc hfz hg
        go_wp2
        go_region_held3 (fun w' => w'.cell? ⟨m, 3, none⟩ = some (.slice (some ⟨g, 0, none⟩) M.things.length M.ct) ∧ w'.cell? ⟨w1.heap.size, 0, none⟩ = some (.bool true) ∧ w'.cell? ⟨w1.heap.size, 1, none⟩ = some (.int .i64 cl) ∧ w'.cell? ⟨w1.heap.size, 2, none⟩ = some (.int .i64 (f : Int)) ∧ w'.cell? ⟨w1.heap.size, 3, none⟩ = some (.int .i64 (E : Int)) ∧ w'.cell? ⟨w1.heap.size, 4, none⟩ = some (.slice p k c)) (go_keep) (fail)
        go_end0
        have hlow : ∀ b ∈ blk p, w.heap.size ≤ b := fun b hb => by
          have := (HOw.out.lt b ((blk_own _ _ _ _).2 hb)).1
          omega
        have hnw : wr.ownsRow 0 35 1 (.slice p k c) k ((List.replicate k (newX f)).map (Value.int .i64)) := ⟨HOw.out.1, by
          rcases HOw.out.2 with h2 | ⟨g2, cap, cur, e1, e2, e3⟩
          · exact .inl h2
          · exact .inr ⟨g2, cap, cur, e1, Nat.zero_le _, e3⟩⟩
        have hput := HMr.out.putAll HG.out q hq ⟨true, cl, f, E, List.replicate k (newX f), p, c⟩ (by simpa using hnw) (fun b hb hm => by
          have h1 := hlow b hb
          have h2 := HM.out.lt b (by simp [mfoot, hm])
          omega)
        refine ⟨rfl, p, c, M.pt, M.ct, ?_, ?_, hlow, fun b hb => .inl hb⟩
        · have e : putTh M.things q ⟨true, cl, f, E, List.replicate k (newX f), p, c⟩ = M.things.set q ⟨true, cl, f, E, List.replicate k (newX f), p, c⟩ := if_pos hq
          rw [e]
          have hp2 := hput.drew
          unfold setTh at hp2
          simpa using hp2
        · have hgp : g ∈ m :: blk M.pt := by rw [HG.out]; simp [blk]
          have hx := ((HWy.out.fr.mono (by simp)).trans (setTh_fr wr g q ⟨true, cl, f, E, List.replicate k (newX f), p, c⟩ (m :: blk M.pt) hgp) (fun b hb => .inl hb)).trans (Fr.drew (m :: blk M.pt) _) (fun b hb => .inl hb)
          unfold setTh at hx
          simpa using hx
      · have hqe : q = M.things.length := by omega
        subst hqe
        obtain ⟨i0, hi, hz0, hz1, hz2⟩ := info_parts info119
        have HRow := mkHid ((own_congr HMr.out.row fun _ _ => rfl : wr.drew.ownsRow 0 116 5 (.slice M.pt M.things.length M.ct) M.things.length (thCells M.things)).alloc (.cells #[.bool true, .int .i64 cl, .int .i64 f, .int .i64 E, .slice p k c] 116))
        have HNews := mkHid (World.news_of_block (heap_alloc_new wr.drew (.cells #[.bool true, .int .i64 cl, .int .i64 f, .int .i64 E, .slice p k c] 116)))
        have hne : ∀ b, (Value.slice M.pt M.things.length M.ct).ownBlock = some b → b ≠ m ∧ b ≠ w1.heap.size := fun b hb => by
          have hb2 := (blk_own _ _ _ _).1 hb
          have h1 := HM.out.lt b (by simp [mfoot, hb2])
          refine ⟨fun e => ?_, by omega⟩
          obtain ⟨c1, hc1⟩ := own_blk HM.out.row b hb2
          have ht := HM.out.top
          rw [← e, hc1] at ht
          simp at ht
        have KS : Hid (∀ w2, (wr.drew.alloc (.cells #[.bool true, .int .i64 cl, .int .i64 f, .int .i64 E, .slice p k c] 116)).grownBy w2 (Value.slice M.pt M.things.length M.ct).ownBlock → w2.cell? ⟨m, 3, none⟩ = some (.slice M.pt M.things.length M.ct) ∧ w2.cell? ⟨w1.heap.size, 0, none⟩ = some (.bool true) ∧ w2.cell? ⟨w1.heap.size, 1, none⟩ = some (.int .i64 cl) ∧ w2.cell? ⟨w1.heap.size, 2, none⟩ = some (.int .i64 (f : Int)) ∧ w2.cell? ⟨w1.heap.size, 3, none⟩ = some (.int .i64 (E : Int)) ∧ w2.cell? ⟨w1.heap.size, 4, none⟩ = some (.slice p k c)) := by
          intro w2 hg
          have em : w2.heap[m]? = wr.heap[m]? := by
            rw [hg.block m (by simp; exact Nat.lt_succ_of_lt hmw) (fun e => (hne m e.symm).1 rfl)]
            exact Below.heap_alloc _ _ _ hmw
          have eB : w2.heap[w1.heap.size]? = wr.heap[w1.heap.size]? := by
            rw [hg.block _ (by simp; exact Nat.lt_succ_of_lt hBl) (fun e => (hne _ e.symm).2 rfl)]
            exact Below.heap_alloc _ _ _ hBl
          exact ⟨(World.cell?_of_block (w := wr) (a := ⟨m, 3, none⟩) em).trans c3, (World.cell?_of_block (w := wr) (a := ⟨w1.heap.size, 0, none⟩) eB).trans b0, (World.cell?_of_block (w := wr) (a := ⟨w1.heap.size, 1, none⟩) eB).trans b1, (World.cell?_of_block (w := wr) (a := ⟨w1.heap.size, 2, none⟩) eB).trans b2, (World.cell?_of_block (w := wr) (a := ⟨w1.heap.size, 3, none⟩) eB).trans b3, (World.cell?_of_block (w := wr) (a := ⟨w1.heap.size, 4, none⟩) eB).trans b4⟩
        have KF : Hid (∀ w2, (wr.drew.alloc (.cells #[.bool true, .int .i64 cl, .int .i64 f, .int .i64 E, .slice p k c] 116)).grownBy w2 (Value.slice M.pt M.things.length M.ct).ownBlock → w2.heap[m]? = wr.heap[m]? ∧ w2.frozen? ⟨m, 3, none⟩ = false) := by
          intro w2 hg
          have em : w2.heap[m]? = wr.heap[m]? := by
            rw [hg.block m (by simp; exact Nat.lt_succ_of_lt hmw) (fun e => (hne m e.symm).1 rfl)]
            exact Below.heap_alloc _ _ _ hmw
          exact ⟨em, frozen_in (em.trans HMr.out.top) 3⟩
        have HFin : Hid (∀ g2 cap w2, w2.ownsRow 0 116 5 (.slice (some ⟨g2, 0, none⟩) (M.things.length + 1) cap) (M.things.length + 1) (thCells M.things ++ [.bool true, .int .i64 cl, .int .i64 f, .int .i64 E, .slice p k c]) →
            (wr.drew.alloc (.cells #[.bool true, .int .i64 cl, .int .i64 f, .int .i64 E, .slice p k c] 116)).grownBy w2 (Value.slice M.pt M.things.length M.ct).ownBlock → ((Value.slice M.pt M.things.length M.ct).ownBlock = some g2 ∨ g2 = (wr.drew.alloc (.cells #[.bool true, .int .i64 cl, .int .i64 f, .int .i64 E, .slice p k c] 116)).heap.size) →
            ∃ p c pt ct, MRep (w2.setCell ⟨m, 3, none⟩ (.slice (some ⟨g2, 0, none⟩) (M.things.length + 1) cap)) m { M with things := putTh M.things M.things.length ⟨true, cl, f, E, List.replicate k (newX f), p, c⟩, pt := pt, ct := ct } ∧ Fr (m :: blk M.pt) w (w2.setCell ⟨m, 3, none⟩ (.slice (some ⟨g2, 0, none⟩) (M.things.length + 1) cap)) ∧ (∀ g ∈ blk p, w.heap.size ≤ g) ∧ (∀ g ∈ blk pt, g ∈ blk M.pt ∨ w.heap.size ≤ g)) := by
          intro g2 cap w2 hown2 hgrow hat
          have hsz : (wr.drew.alloc (.cells #[.bool true, .int .i64 cl, .int .i64 f, .int .i64 E, .slice p k c] 116)).heap.size = wr.heap.size + 1 := by simp
          rw [hsz] at hat
          have hwz := HWy.out.fr.size
          have hlow : ∀ b ∈ blk p, w1.heap.size + 1 ≤ b ∧ b < wr.heap.size := fun b hb => HOw.out.lt b ((blk_own _ _ _ _).2 hb)
          have hown1 : ∀ b, (Value.slice M.pt M.things.length M.ct).ownBlock = some b → b < w.heap.size ∧ b ∉ mslots M := fun b hb => by
            have hb2 := (blk_own _ _ _ _).1 hb
            refine ⟨HM.out.lt b (by simp [mfoot, hb2]), fun hm => ?_⟩
            obtain ⟨t, ht, hbt⟩ := List.mem_flatMap.1 hm
            obtain ⟨c1, hc1⟩ := own_blk HM.out.row b hb2
            obtain ⟨c2, hc2⟩ := own_blk (HM.out.slots t ht) b hbt
            rw [hc1] at hc2
            simp at hc2
          have hsame : ∀ b, b < wr.heap.size → (∀ o, (Value.slice M.pt M.things.length M.ct).ownBlock = some o → b ≠ o) → b ≠ m → (w2.setCell ⟨m, 3, none⟩ (.slice (some ⟨g2, 0, none⟩) (M.things.length + 1) cap)).heap[b]? = wr.heap[b]? := fun b hb ho hm => by
            rw [set_else hm, hgrow.block b (by rw [hsz]; omega) (fun e => ho b e.symm rfl)]
            exact Below.heap_alloc _ _ _ hb
          have em : w2.heap[m]? = wr.heap[m]? := by
            rw [hgrow.block m (by rw [hsz]; omega) (fun e => (hne m e.symm).1 rfl)]
            exact Below.heap_alloc _ _ _ hmw
          have hg2 : g2 ≠ m := by
            rcases hat with h1 | h1
            · exact (hne g2 h1).1
            · omega
          have hmsl : ∀ b ∈ mslots M, b < w.heap.size ∧ b ≠ m := fun b hb => by
            refine ⟨HM.out.lt b (by simp [mfoot, hb]), fun e => ?_⟩
            obtain ⟨t, ht, hbt⟩ := List.mem_flatMap.1 hb
            obtain ⟨c2, hc2⟩ := own_blk (HM.out.slots t ht) b hbt
            have ht2 := HM.out.top
            rw [← e, hc2] at ht2
            simp at ht2
          have hnw : wr.ownsRow 0 35 1 (.slice p k c) k ((List.replicate k (newX f)).map (Value.int .i64)) := ⟨HOw.out.1, by
            rcases HOw.out.2 with h2 | ⟨g2, cap, cur, e1, e2, e3⟩
            · exact .inl h2
            · exact .inr ⟨g2, cap, cur, e1, Nat.zero_le _, e3⟩⟩
          have epl : (putTh M.things M.things.length ⟨true, cl, f, E, List.replicate k (newX f), p, c⟩).length = M.things.length + 1 := by unfold putTh; rw [if_neg (by omega)]; simp
          refine ⟨p, c, some ⟨g2, 0, none⟩, cap, ?_, ?_, fun b hb => by have := hlow b hb; omega, fun b hb => ?_⟩
          · refine HMr.out.renew _ (some ⟨g2, 0, none⟩) cap ⟨true, cl, f, E, List.replicate k (newX f), p, c⟩ M.things.length (putTh_len M.things _ _ (Nat.le_refl _)).1 (putTh_at M.things _ _ (Nat.le_refl _)) (putTh_len M.things _ _ (Nat.le_refl _)).2 ?_ ?_ ?_ ?_ ?_
            · rw [set_in (em.trans HMr.out.top)]
              simp only [mcells, epl]
              rfl
            · rw [epl]
              have e : thCells (putTh M.things M.things.length ⟨true, cl, f, E, List.replicate k (newX f), p, c⟩) = thCells M.things ++ [.bool true, .int .i64 cl, .int .i64 f, .int .i64 E, .slice p k c] := by
                unfold putTh
                rw [if_neg (by omega), thCells_append]
                simp [th5, I]
              rw [e]
              exact own_congr hown2 fun b hb => set_else (by simp [Value.ownBlock] at hb; rw [← hb]; exact hg2)
            · intro b hb
              exact hsame b (by have := (hmsl b hb).1; omega) (fun o ho e => (hown1 o ho).2 (e ▸ hb)) (hmsl b hb).2
            · have hnw2 : wr.ownsRow 0 35 1 (.slice p (List.replicate k (newX f)).length c) (List.replicate k (newX f)).length ((List.replicate k (newX f)).map (Value.int .i64)) := by rw [List.length_replicate]; exact hnw
              exact own_congr hnw2 fun b hb => by
                have h1 := hlow b ((blk_own _ _ _ _).1 hb)
                exact hsame b h1.2 (fun o ho e => by have := (hown1 o ho).1; omega) (by omega)
            · intro b hb hm
              have h1 := hlow b hb
              have h2 := (hmsl b hm).1
              omega
          · have F2 : Fr (m :: blk M.pt) w w2 := by
              refine ⟨hgrow.os.trans HWy.out.fr.os, hgrow.tape.trans HWy.out.fr.tape, hgrow.output.trans HWy.out.fr.output, Nat.le_trans hwz (Nat.le_trans (by rw [hsz]; omega) hgrow.size), fun i hi hn => ?_⟩
              rw [hgrow.block i (by rw [hsz]; omega) (fun e => hn (List.mem_cons_of_mem _ ((blk_own _ _ _ _).1 e.symm)))]
              exact (Below.heap_alloc _ _ _ (by exact Nat.lt_of_lt_of_le hi hwz)).trans (HWy.out.fr.block i hi (by simp))
            exact F2.trans (Fr.setCell (S := m :: blk M.pt) w2 ⟨m, 3, none⟩ _ (by simp)) (fun b hb => .inl hb)
          · simp [blk] at hb
            subst hb
            rcases hat with h1 | h1
            · exact .inl ((blk_own _ _ _ _).1 h1)
            · exact .inr (by omega)
        clear hne
        have wq : IntKind.i64.wrap ((M.things.length : Int) + 1) = (M.things.length : Int) + 1 := by rw [iwrap]; unfold wrap64; omega
        go_wp2
        go_region_law
          (first
            | (refine step_append_lies _ rfl (.tmp 45) (.tmp 47) 31 rfl 0 116 i0 (.agg #[.bool false, .int .i64 0, .int .i64 0, .int .i64 0, .slice none 0 0]) 5 56 Tryd.underlying31 hi hz0 hz1 hz2 rfl (by decide) (.slice M.pt M.things.length M.ct) M.things.length (thCells M.things) (by simp [Act.eval]) HRow.out ⟨wr.heap.size, 0, none⟩ 1 1 [.bool true, .int .i64 cl, .int .i64 f, .int .i64 E, .slice p k c] (by simp [Act.eval]) rfl HNews.out (by simp [Value.oneCell']) (by decide) (by unfold maxLen; omega) (by omega) (by simp) _ rfl ?_; intro g2 cap w2 hown2 hgrow hat hlt2; have fz3 := (KF.out _ hgrow).2; have cz3 := (KS.out _ hgrow).1))
        all_goals
          go_end0
          exact ⟨rfl, HFin.out g2 cap w2 hown2 hgrow hat⟩
end Go.Proofs.YtdkbnnhcjaibdaaDoor

namespace Go.Proofs.YtdkbnnhcjaibdaaDoor
open Go.RowKit
set_option linter.unusedVariables false
/-- the heap and the model say the same, but for words that may lie idle at the end -/
structure InvV (H : HS) (M : MS) : Prop where
  safe : Safe H
  words : H.words = M.words
  oops : H.oops = M.oops
  mark : H.mark = M.mark
  len : H.seats.length ≤ M.things.length + 1
  seat0 : (H.seats.getD 0 (0, 0, 0)).2.1 = 0
  there : ∀ k, k < M.things.length → ((M.things.getD k noTh).there = true ↔ (H.seats.getD (k + 1) (0, 0, 0)).2.1 ≠ 0)
  seat : ∀ k, k < M.things.length → (M.things.getD k noTh).there = true → (H.seats.getD (k + 1) (0, 0, 0)).1 = (M.things.getD k noTh).place ∧ (H.seats.getD (k + 1) (0, 0, 0)).2.1 = lenN (M.things.getD k noTh).slots.length (M.things.getD k noTh).fmt
  is : ∀ k, k < M.things.length → (M.things.getD k noTh).there = true → Is H (k + 1) (M.things.getD k noTh)
  count : H.count = thereTo M.things M.things.length
  turn : ∀ k, k < M.things.length → (M.things.getD k noTh).there = true → (H.seats.getD (k + 1) (0, 0, 0)).2.2 < H.order.length ∧ H.order.getD (H.seats.getD (k + 1) (0, 0, 0)).2.2 0 = k + 1
  order : ∀ j, j < H.order.length → H.order.getD j 0 ≠ 0 → H.order.getD j 0 ≤ M.things.length ∧ (M.things.getD (H.order.getD j 0 - 1) noTh).there = true ∧ (H.seats.getD (H.order.getD j 0) (0, 0, 0)).2.2 = j
  rise : ∀ i j, i < j → j < H.order.length → H.order.getD i 0 ≠ 0 → H.order.getD j 0 ≠ 0 → (H.seats.getD (H.order.getD i 0) (0, 0, 0)).1 + (H.seats.getD (H.order.getD i 0) (0, 0, 0)).2.1 ≤ (H.seats.getD (H.order.getD j 0) (0, 0, 0)).1
  gaps : ∀ p, p < H.mem.length → (∀ k, k < M.things.length → (M.things.getD k noTh).there = true → p < (M.things.getD k noTh).place ∨ (M.things.getD k noTh).place + lenN (M.things.getD k noTh).slots.length (M.things.getD k noTh).fmt ≤ p) → H.mem.getD p 0 = 0
  bit : ∀ k, (H.bits.getD (k / 64) 0).testBit (k % 64) = (M.things.getD k noTh).there
  low : ∀ i, i < H.low → H.bits.getD i 0 = full
  model : MOk M
  deep : ∀ j, j < H.order.length → H.order.getD j 0 ≠ 0 → 2 * j ≤ (H.seats.getD (H.order.getD j 0) (0, 0, 0)).1
  most : M.things.length ≤ M.oops
  room : (H.words : Int) ≤ 1048576
/-- the heap and the model say the same: what every step keeps -/
structure Inv (H : HS) (M : MS) : Prop extends InvV H M where
  fin : H.mem.length = endTo M.things M.things.length
  last : ∀ j, H.order.length = j + 1 → H.order.getD j 0 ≠ 0
theorem Inv.allLen {H : HS} {M : MS} (h : Inv H M) : ∀ k, k ≤ M.things.length → (allTo H (k + 1)).length = thereTo M.things k := by
  intro k
  induction k with
  | zero =>
    intro _
    rw [allTo_succ, h.seat0]
    rfl
  | succ k ih =>
    intro hk
    rw [allTo_succ, List.length_append, ih (by omega), thereTo_succ M.things k (by omega)]
    have ht := h.there k (by omega)
    cases hb : (M.things.getD k noTh).there with
    | true => rw [if_pos (by have := ht.1 hb; omega)]; rfl
    | false =>
      have : ¬ 0 < (H.seats.getD (k + 1) (0, 0, 0)).2.1 := fun hp => by
        have := ht.2 (by omega)
        rw [hb] at this
        simp at this
      rw [if_neg this]; rfl
theorem Inv.allAt {H : HS} {M : MS} (h : Inv H M) (k : Nat) (hb : (M.things.getD k noTh).there = true) : ∀ n, k < n → n ≤ M.things.length → (allTo H (n + 1))[thereTo M.things k]? = some (k + 1) := by
  intro n
  induction n with
  | zero => intro h1; omega
  | succ n ih =>
    intro h1 h2
    by_cases e : k = n
    · subst e
      have hl := h.allLen k (by omega)
      rw [allTo_succ, if_pos (by have := (h.there k (by omega)).1 hb; omega), List.getElem?_append_right (by omega), hl, Nat.sub_self]
      rfl
    · have := ih (by omega) (by omega)
      rw [allTo_succ, List.getElem?_append_left ?_]
      · exact this
      · exact (List.getElem?_eq_some_iff.1 this).1
theorem allTo_out (H : HS) : ∀ n, allTo H (H.seats.length + n) = allTo H H.seats.length
  | 0 => rfl
  | n + 1 => by
    rw [← Nat.add_assoc, allTo_succ, allTo_out H n, List.getD_eq_getElem?_getD, List.getElem?_eq_none (by omega)]
    simp
theorem Inv.allEnd {H : HS} {M : MS} (h : Inv H M) : allTo H H.seats.length = allTo H (M.things.length + 1) := by
  have hl := h.len
  have := allTo_out H (M.things.length + 1 - H.seats.length)
  rw [Nat.add_sub_cancel' hl] at this
  exact this.symm
theorem InvV.seatIn {H : HS} {M : MS} (h : InvV H M) (k : Nat) (hk : k < M.things.length) (hb : (M.things.getD k noTh).there = true) : k + 1 < H.seats.length := by
  have h1 := (h.there k hk).1 hb
  by_cases hc : k + 1 < H.seats.length
  · exact hc
  · rw [List.getD_eq_getElem?_getD, List.getElem?_eq_none (by omega)] at h1
    exact absurd rfl h1
theorem Inv.has {H : HS} {M : MS} (h : Inv H M) (k : Nat) (hk : k < M.things.length) : has H ((k : Int) + 1) = (M.things.getD k noTh).there := by
  have e : ((k : Int) + 1).toNat = k + 1 := by omega
  cases hb : (M.things.getD k noTh).there with
  | true => exact decide_eq_true ⟨by omega, by have := h.seatIn k hk hb; omega, by rw [e]; exact (h.there k hk).1 hb⟩
  | false =>
    refine decide_eq_false (fun hc => ?_)
    rw [e] at hc
    have := (h.there k hk).2 hc.2.2
    rw [hb] at this
    simp at this
theorem Inv.told {H : HS} {M : MS} (h : Inv H M) : Told H M where
  small := h.safe.small
  words := h.words
  oops := h.oops
  mark := h.mark
  fin := h.fin
  cnt := h.count
  is := h.is
  none := fun k hk hb => by rw [h.has k hk, hb]
  all := fun k hk hb => by rw [h.allEnd]; exact h.allAt k hb _ hk (Nat.le_refl _)
  allLen := by rw [h.allEnd]; exact h.allLen _ (Nat.le_refl _)
  seats := h.safe.seats
/-- no other object is there -/
theorem Inv.hasM {H : HS} {M : MS} (h : Inv H M) (oop : Int) : Go.Proofs.YtdkbnnhcjaibdaaDoor.has H oop = mhas M oop := by
  by_cases h1 : 1 ≤ oop ∧ oop ≤ M.things.length
  · obtain ⟨k, rfl⟩ : ∃ k : Nat, oop = (k : Int) + 1 := ⟨oop.toNat - 1, by omega⟩
    rw [h.has k (by omega)]
    cases hb : (M.things.getD k noTh).there with
    | true => exact (mhas_of k (by omega) hb).symm
    | false => exact (decide_eq_false (by rw [show ((k : Int) + 1).toNat - 1 = k from by omega, hb]; simp)).symm
  · have e1 : mhas M oop = false := decide_eq_false (by omega)
    rw [e1]
    refine decide_eq_false (fun hc => ?_)
    have hl := h.len
    omega
end Go.Proofs.YtdkbnnhcjaibdaaDoor

namespace Go.Proofs.YtdkbnnhcjaibdaaDoor
open Go.RowKit
set_option linter.unusedVariables false
theorem ctz_bits (x : Nat) (h0 : x ≠ 0) (hx : x < 18446744073709551616) : x.testBit (Lib.ctz 64 x) = true ∧ ∀ i, i < Lib.ctz 64 x → x.testBit i = false := by
  have e : Lib.ctz 64 x = Lib.ctzFrom 64 x := by unfold Lib.ctz; rw [if_neg h0]
  obtain ⟨m, h1, h2⟩ := Lib.ctzFrom_spec 64 x (by omega) hx
  rw [e]
  generalize Lib.ctzFrom 64 x = c at *
  rw [h1]
  refine ⟨?_, fun i hi => ?_⟩
  · rw [Nat.testBit_two_pow_mul]; simp
  · rw [Nat.testBit_two_pow_mul]; simp; omega
theorem not_bits (b i : Nat) (hb : b ≤ full) (hi : i < 64) : (full - b).testBit i = !b.testBit i := by
  unfold full at *
  rw [show (18446744073709551615 - b : Nat) = 2 ^ 64 - (b + 1) from by omega, Nat.testBit_two_pow_sub_succ (by omega)]
  simp [hi]
theorem full_bits (i : Nat) (hi : i < 64) : full.testBit i = true := by
  unfold full
  rw [show (18446744073709551615 : Nat) = 2 ^ 64 - 1 from rfl, Nat.testBit_two_pow_sub_one]
  simpa using hi
/-- the lowest free bit is the model's lowest free oop -/
theorem Inv.lowest {H : HS} {M : MS} (h : Inv H M) (k : Nat) (hk : LowTo H.bits H.low k) (hkf : k < H.bits.length → H.bits.getD k 0 ≠ full) : oopN H.bits k = lowTo M.things := by
  obtain ⟨x, hx⟩ : ∃ x, oopN H.bits k = x + 1 ∧ k * 64 ≤ x ∧ x < k * 64 + 64 ∧ (∀ j, k * 64 ≤ j → j < x → (H.bits.getD k 0).testBit (j % 64) = true) ∧ (H.bits.getD k 0).testBit (x % 64) = false := by
    unfold oopN
    by_cases e : k = H.bits.length
    · rw [if_pos e]
      refine ⟨k * 64, rfl, by omega, by omega, fun j h1 h2 => by omega, ?_⟩
      rw [List.getD_eq_getElem?_getD, List.getElem?_eq_none (by omega)]
      simp
    · rw [if_neg e]
      have hl : k < H.bits.length := by have := hk.le; omega
      have hb := h.safe.bits k
      have hne := hkf hl
      have h0 : full - H.bits.getD k 0 ≠ 0 := by omega
      have h1 : full - H.bits.getD k 0 < 18446744073709551616 := by unfold full; omega
      have hc := ctz_lt _ h0 h1
      obtain ⟨b1, b2⟩ := ctz_bits _ h0 h1
      generalize Lib.ctz 64 (full - H.bits.getD k 0) = c at *
      refine ⟨k * 64 + c, rfl, by omega, by omega, fun j h1 h2 => ?_, ?_⟩
      · have := b2 (j % 64) (by omega)
        rw [not_bits _ _ hb (by omega)] at this
        simpa using this
      · rw [not_bits _ _ hb hc] at b1
        rw [show (k * 64 + c) % 64 = c from by omega]
        simpa using b1
  obtain ⟨e1, e2, e3, e4, e5⟩ := hx
  rw [e1]
  have hup : ∀ j, j < x → (M.things.getD j noTh).there = true := by
    intro j hj
    rw [← h.bit j]
    by_cases hjk : j < k * 64
    · have hw : H.bits.getD (j / 64) 0 = full := by
        by_cases hl : j / 64 < H.low
        · exact h.low _ hl
        · exact hk.ful _ (by omega) (by omega)
      rw [hw]
      exact full_bits _ (by omega)
    · rw [show j / 64 = k from by omega]
      exact e4 j (by omega) hj
  have hno : (M.things.getD x noTh).there = false := by
    rw [← h.bit x, show x / 64 = k from by omega]
    exact e5
  have hin : ∀ j, (M.things.getD j noTh).there = true → j < M.things.length := by
    intro j hj
    by_cases hl : j < M.things.length
    · exact hl
    · rw [List.getD_eq_getElem?_getD, List.getElem?_eq_none (by omega)] at hj
      simp [noTh] at hj
  by_cases hxl : x < M.things.length
  · exact (lowTo_at M.things x hxl hup hno).symm
  · have hxe : x = M.things.length := by
      by_cases h0 : x = 0
      · omega
      · have := hin (x - 1) (hup _ (by omega))
        omega
    rw [lowTo_full M.things (fun j hj => hup j (by omega)), hxe]
theorem lowTo_le (S : List Th) : lowTo S ≤ S.length + 1 ∧ 1 ≤ lowTo S := by
  unfold lowTo
  have := List.IsPrefix.length_le (List.takeWhile_prefix (p := fun t : Th => t.there) (l := S))
  omega
end Go.Proofs.YtdkbnnhcjaibdaaDoor

