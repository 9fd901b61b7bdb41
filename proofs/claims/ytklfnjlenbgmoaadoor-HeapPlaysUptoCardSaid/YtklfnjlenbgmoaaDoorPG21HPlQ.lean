import Derived.Test.YtklfnjlenbgmoaaDoorPG15HLoadW
import Derived.BigQuiet
import Derived.Test.YtklfnjlenbgmoaaDoorPG13HAg1
import Derived.Test.YtklfnjlenbgmoaaDoorPG20HAgC
set_option linter.unusedVariables false
namespace Go.Proofs.YtklfnjlenbgmoaaDoor
open Go.RowKit
attribute [local go_sem ↓] Go.wp_at_zero Go.wp_at_succ
set_option maxRecDepth 20000 in
set_option maxHeartbeats 600000 in
theorem sameWords_ok (ss : List Int) (va vb : Value) (w : World) (ha : Rd w va ss) (hb : Rd w vb ss) :
  Calls Tryd.prog 60 #[va, vb] w fun e w' => e = .returned (.bool true) ∧ ∃ n, w' = w.drewN n := by
 obtain ⟨pa, ca, rfl, hpa⟩ := ha.at_
 obtain ⟨pb, cb, rfl, hpb⟩ := hb.at_
 have hl := ha.short
 clear ha hb
 have HA := mkHid hpa
 have HB := mkHid hpb
 clear hpa hpb
 go_enter Tryd.func60, Tryd.ntmps60
 go_wp2_with fail
 go_loopw [5] (fun q wr => ∃ k : Nat, k ≤ ss.length ∧ q = .int .i64 k ∧ Hid (∃ n, wr = w.drewN n)) (fun q _ => ss.length - (intOf q).toNat)
 case atStart => exact ⟨0, Nat.zero_le _, rfl, 0, rfl⟩
 case round =>
  obtain ⟨k, hkn, rfl, hq⟩ := hrel
  by_cases hlt : k < ss.length
  ·obtain ⟨ga, oa, rfl, -, hca⟩ := HA.out (by omega)
   obtain ⟨gb, ob, rfl, -, hcb⟩ := HB.out (by omega)
   obtain ⟨n, hn⟩ := hq.out
   have x1 : wr.cell? ⟨ga, oa + k, none⟩ = some (.int .i64 (ss.getD k 0)) := by rw [hn]; exact hca k hlt
   have x2 : wr.cell? ⟨gb, ob + k, none⟩ = some (.int .i64 (ss.getD k 0)) := by rw [hn]; exact hcb k hlt
   have k1 : (0 : Int) ≤ (k : Int) := by omega
   have k2 : (k : Int) < (ss.length : Int) := by omega
   have HD : Hid (∀ m, ∃ n, wr.drewN m = w.drewN n) := fun m => ⟨n + m, by rw [hn]; simp [World.drewN, Nat.add_assoc]⟩
   generalize ss.getD k 0 = z at *
   clear hca hcb hq hn HA HB
   go_wp2_with fail
   go_quiet (fail)
   go_wp2_with fail
   go_roundw
   case rel => exact ⟨k + 1, by omega, by go_num, HD.out _⟩
   case measure => simp [intOf]; omega
  ·have hke : k = ss.length := by omega
   subst hke
   go_wp2_with fail
   go_ret
   exact ⟨rfl, hq.out⟩
set_option maxRecDepth 20000 in
set_option maxHeartbeats 1000000 in
theorem sameState_at (x y z : Int) (oa ob : Value) (la lb : List OI) (w : World) (ha : SAt w oa la) (hb : SAt w ob lb) (hk : la.map oiKey = lb.map oiKey) :
  Calls Tryd.prog 22 #[.agg #[.int .i64 x, .int .i64 y, .int .i64 z, oa], .agg #[.int .i64 x, .int .i64 y, .int .i64 z, ob]] w fun e w' => e = .returned (.bool true) ∧ Fr [] w w' := by
 have hll : lb.length = la.length := by have := congrArg List.length hk; simpa using this.symm
 have HA := mkHid ha
 have HB := mkHid hb
 have HK := mkHid hk
 have hl := ha.short
 obtain ⟨pa, ca, rfl, -⟩ := ha.at_
 obtain ⟨pb, cb, rfl, -⟩ := hb.at_
 rw [hll] at HB ⊢
 clear ha hb hk
 obtain ⟨W1, hW1⟩ : ∃ W1, W1 = (w.alloc (.cells #[.int .i64 x, .int .i64 y, .int .i64 z, .slice pa la.length ca] 38)).alloc (.cells #[.int .i64 x, .int .i64 y, .int .i64 z, .slice pb la.length cb] 38) := ⟨_, rfl⟩
 have F1 : Hid (Fr [] w W1) := by rw [hW1]; exact (Fr.alloc [] _ _).trans (Fr.alloc [] _ _) (by simp)
 have HC : Hid (W1.heap[w.heap.size]? = some (.cells #[.int .i64 x, .int .i64 y, .int .i64 z, .slice pa la.length ca] 38 (0, 0)) ∧ W1.heap[w.heap.size + 1]? = some (.cells #[.int .i64 x, .int .i64 y, .int .i64 z, .slice pb la.length cb] 38 (0, 0))) := by
  rw [hW1]
  refine ⟨?_, ?_⟩
  ·rw [Below.heap_alloc _ _ _ (by simp)]; exact heap_alloc_new _ _
  ·have := heap_alloc_new (w.alloc (.cells #[.int .i64 x, .int .i64 y, .int .i64 z, .slice pa la.length ca] 38)) (.cells #[.int .i64 x, .int .i64 y, .int .i64 z, .slice pb la.length cb] 38)
   simpa using this
 go_enter Tryd.func22, Tryd.ntmps22
 go_wp2_with fail
 rw [← hW1]
 clear hW1
 go_loopw [5] (fun q wr => ∃ k : Nat, k ≤ la.length ∧ q = .int .i64 k ∧ Hid (Fr [] W1 wr)) (fun q _ => la.length - (intOf q).toNat)
 case atStart => exact ⟨0, Nat.zero_le _, rfl, Fr.refl _ _⟩
 case round =>
  obtain ⟨k, hkn, rfl, hf⟩ := hrel
  have b0 := (hf.out.block _ (lt_of_heap HC.out.1) (by simp)).trans HC.out.1
  have b1 := (hf.out.block _ (lt_of_heap HC.out.2) (by simp)).trans HC.out.2
  have e0 : wr.cell? ⟨w.heap.size, 3, none⟩ = some (.slice pa la.length ca) := by rw [cell_in b0]; rfl
  have e1 : wr.cell? ⟨w.heap.size + 1, 3, none⟩ = some (.slice pb la.length cb) := by rw [cell_in b1]; rfl
  have hB1 := lt_of_heap b1
  by_cases hlt : k < la.length
  ·have Fk := F1.out.trans hf.out (by simp)
   have hAk := HA.out.idle Fk
   have hBk := HB.out.idle Fk
   obtain ⟨pa', ca', e2, hpa⟩ := hAk.at_
   injection e2 with e2 e2b e2c
   subst e2
   subst e2c
   clear e2b
   obtain ⟨pb', cb', e3, hpb⟩ := hBk.at_
   injection e3 with e3 e3b e3c
   subst e3
   subst e3c
   clear e3b
   obtain ⟨ga, fa, rfl, hca⟩ := hpa (by omega)
   obtain ⟨gb, fb, rfl, hcb⟩ := hpb (by omega)
   obtain ⟨o, h0, x0, x1, x2, x3⟩ := hca k hlt
   have x4 := hAk.slots o (List.mem_of_getElem? h0)
   obtain ⟨o', h0', y0, y1, y2, y3⟩ := hcb k (by omega)
   have y4 := hBk.slots o' (List.mem_of_getElem? h0')
   have hkey : oiKey o = oiKey o' := by
    have := congrArg (fun l => l[k]?) HK.out
    simp only [List.getElem?_map, h0, h0'] at this
    simpa using this
   have hgl : ga < wr.heap.size := World.block_lt_of_cell? wr ⟨ga, fa + k * 4, none⟩ x0
   have hgl2 : gb < wr.heap.size := World.block_lt_of_cell? wr ⟨gb, fb + k * 4, none⟩ y0
   obtain ⟨oo, oc, of_, os, ov⟩ := o
   obtain ⟨oo', oc', of', os', ov'⟩ := o'
   simp only [oiKey, Prod.mk.injEq] at hkey
   obtain ⟨rfl, rfl, rfl, rfl⟩ := hkey
   dsimp only at *
   have HSW : Hid (∀ V, Hid (Fr [] wr V) → Calls Tryd.prog 60 #[ov, ov'] V fun e w' => e = .returned (.bool true) ∧ Hid (Fr [] wr w')) := by
    intro V hV
    refine Calls.mono (sameWords_ok os ov ov' V (x4.idle hV.out) (y4.idle hV.out)) ?_
    rintro e w' ⟨rfl, n, rfl⟩
    exact ⟨rfl, hV.out.trans (Fr.drewN [] _ _) (by simp)⟩
   obtain ⟨p1, c1, rfl⟩ : ∃ p c, ov = .slice p os.length c := by
    obtain ⟨p, c, h, _⟩ := x4.at_
    exact ⟨p, c, h⟩
   obtain ⟨p2, c2, rfl⟩ : ∃ p c, ov' = .slice p os.length c := by
    obtain ⟨p, c, h, _⟩ := y4.at_
    exact ⟨p, c, h⟩
   have k1 : (0 : Int) ≤ (k : Int) := by omega
   have k2 : (k : Int) < (la.length : Int) := by omega
   have HS2 := mkHid (HSW.out ((wr.alloc (.cells #[.int .i64 oo, .int .i64 oc, .int .i64 of_, .slice p1 os.length c1] 106)).alloc (.cells #[.int .i64 oo, .int .i64 oc, .int .i64 of_, .slice p2 os.length c2] 106)) ((Fr.alloc [] _ _).trans (Fr.alloc [] _ _) (by simp)))
   generalize os.length = sn at *
   clear hAk hBk hca hcb hpa hpb x4 y4 b0 b1 HSW HK HA HB h0 h0' Fk hll
   go_wp2_with (go_at_call 60; refine Calls.mono HS2.out ?_; rintro e w5 ⟨rfl, hf5⟩)
   go_roundw
   case rel => exact ⟨k + 1, by omega, by go_num, hf.out.trans hf5.out (by simp)⟩
   case measure => simp [intOf]; omega
  ·have hke : k = la.length := by omega
   subst hke
   go_wp2_with fail
   go_ret
   exact ⟨rfl, F1.out.trans hf.out (by simp)⟩
theorem sameState_ok (x y z : Nat) (oa ob : Value) (la lb : List OS) (ba bb : Nat) (w : World) (ha : SRep w ba oa la) (hb : SRep w bb ob lb) (hk : la.map osKey = lb.map osKey) (hl : la.length ≤ 1048576) (hsl : ∀ o ∈ la, o.slots.length ≤ 8192) :
  Calls Tryd.prog 22 #[.agg #[.int .i64 (x : Int), .int .i64 (y : Int), .int .i64 (z : Int), oa], .agg #[.int .i64 (x : Int), .int .i64 (y : Int), .int .i64 (z : Int), ob]] w fun e w' => e = .returned (.bool true) ∧ Fr [] w w' := by
 have hll : lb.length = la.length := by have := congrArg List.length hk; simpa using this.symm
 have hsb : ∀ o ∈ lb, o.slots.length ≤ 8192 := fun o ho => by
  have h1 : osKey o ∈ la.map osKey := by rw [hk]; exact List.mem_map_of_mem ho
  obtain ⟨u, hu, he⟩ := List.mem_map.1 h1
  have e2 : u.slots = o.slots := by simp only [osKey, Prod.mk.injEq] at he; exact he.2.2.2
  rw [← e2]; exact hsl u hu
 refine sameState_at x y z oa ob (la.map toOI) (lb.map toOI) w (ha.sat (by omega) (fun o ho => by have := hsl o ho; omega)) (hb.sat (by omega) (fun o ho => by have := hsb o ho; omega)) ?_
 have e : oiKey ∘ toOI = (fun k : Nat × Int × Nat × List Int => ((k.1 : Int), k.2.1, (k.2.2.1 : Int), k.2.2.2)) ∘ osKey := rfl
 rw [List.map_map, List.map_map, e, ← List.map_map, ← List.map_map, hk]
end Go.Proofs.YtklfnjlenbgmoaaDoor
namespace Go.Proofs.YtklfnjlenbgmoaaDoor
open Go.RowKit
theorem toOI_keys (l : List OS) : (l.map toOI).map oiKey = (l.map osKey).map natKey2 := by rw [List.map_map, List.map_map]; rfl
theorem SRep.state {w : World} {base : Nat} {ov : Value} {ls : List OS} {H : HS} {M : MS} (h : SRep w base ov ls) (hi : Inv H M) (hk : ls.map osKey = stKeys H M.things H.order.length) : SAt w ov (ls.map toOI) ∧ (ls.map toOI).map oiKey = keysH H M ∧ ls.length ≤ 1048576 ∧ ∀ o ∈ ls, o.slots.length ≤ 8192 := by
 have hl : ls.length ≤ 1048576 := by
  have e1 : ls.length = (stKeys H M.things H.order.length).length := by rw [← hk, List.length_map]
  rw [e1]
  unfold stKeys
  rw [List.length_map]
  refine Nat.le_trans (List.length_filter_le _ _) ?_
  rw [List.take_length]
  have := hi.safe.order
  omega
 have hs : ∀ o ∈ ls, o.slots.length ≤ 8192 := fun o ho => by
  have : osKey o ∈ stKeys H M.things H.order.length := by rw [← hk]; exact List.mem_map_of_mem ho
  unfold stKeys at this
  obtain ⟨x, hx1, hx2⟩ := List.mem_map.1 this
  have hsl : o.slots = (M.things.getD (x - 1) noTh).slots := by
   have := congrArg (fun z => z.2.2.2) hx2
   exact this.symm
  rw [hsl]
  by_cases hxl : x - 1 < M.things.length
  ·have := hi.model.slots (x - 1) hxl; omega
  ·rw [List.getD_eq_getElem?_getD, List.getElem?_eq_none (by omega)]; simp [noTh]
 refine ⟨h.sat (by omega) (fun o ho => by have := hs o ho; omega), ?_, hl, hs⟩
 rw [toOI_keys, hk, stKeys_live]
 rfl
theorem keysH_le {H : HS} {M : MS} (h : Inv H M) : ∀ k ∈ keysH H M, k.1 ≤ (M.things.length : Int) := by
 intro k hk
 obtain ⟨u, u1, u2⟩ := List.mem_map.1 hk
 obtain ⟨x, x1, x2⟩ := List.mem_map.1 u1
 obtain ⟨i, e, hi, -⟩ := h.toInvV.liveIn x x1
 rw [← u2, ← x2]
 show (x : Int) ≤ _
 omega
theorem slid_good {M : MS} (h : Good M) : Good { M with things := slidN M.things 0 (thereTo M.things M.things.length) } := good_slid _ _ _ h
theorem Put_inv3 (k i : Nat) (v : Int) (a : Nat) (l : Lay) (H : HS) (M : MS) (w : World) (h : Rep w a l H) (hi : Inv H M) (hk : k < M.things.length) (hb : (M.things.getD k noTh).there = true) (hil : i < (M.things.getD k noTh).slots.length) (hm : mayB v ((M.things.getD k noTh).fmt : Int) = true) (hT : Tab w) :
  ∃ H', Inv H' { M with things := M.things.set k (withSlot (M.things.getD k noTh) i v) } ∧ H'.age = H.age ∧ H'.words = H.words ∧ H'.oops = H.oops ∧ H'.mark = H.mark ∧ H'.order = H.order ∧ Calls Tryd.prog 29 #[.pointer (some ⟨a, 0, none⟩), .int .i64 ((k : Int) + 1), .int .i64 i, .int .i64 v] w fun e w' => e = .returned (.int .i64 0) ∧ Rep w' a l H' ∧ Nx a l l w w' := by
 have hI := hi.is k hk hb
 obtain ⟨h1, h2, h3⟩ := has_yes hI.has
 have hmem : (H.mem.length : Int) ≤ 1048576 := by have := hi.safe.small.mem; have := hi.safe.small.words; omega
 have hroom := hI.room
 have h22 := lenN_two (M.things.getD k noTh).slots.length (M.things.getD k noTh).fmt
 have hfl := hI.fmt
 have hlen := hI.len
 have e1 : ((k + 1 : Nat) : Int) = (k : Int) + 1 := by omega
 rw [← e1]
 rcases (show (M.things.getD k noTh).fmt = 0 ∨ (M.things.getD k noTh).fmt = 1 from by omega) with hf | hf
 ·have hw := lenN_word (M.things.getD k noTh).slots.length i (M.things.getD k noTh).fmt hf hil
  refine ⟨_, hi.putW k hk hb i v hil hf, rfl, rfl, rfl, rfl, rfl, ?_⟩
  exact Put_ok (k + 1) i (M.things.getD k noTh).slots.length (M.things.getD k noTh).fmt v a l H _ w h hmem h1 h2 h3 (by omega) hI.shape (by omega) (by omega) (by omega) hm hT (fun V hV => by
   rw [hf]
   exact setSlot_w (H.seats.getD (k + 1) (0, 0, 0)) i v a l H V hV (by omega) hmem)
 ·have hw := lenN_byte (M.things.getD k noTh).slots.length i hil
  rw [← hf] at hw
  obtain ⟨old, o1, o2, o3⟩ := hI.byte hf i hil
  have hv : 0 ≤ v ∧ v ≤ 255 := by
   unfold mayB at hm
   rw [if_pos (by omega)] at hm
   exact of_decide_eq_true hm
  obtain ⟨vn, rfl⟩ : ∃ vn : Nat, v = (vn : Int) := ⟨v.toNat, by omega⟩
  refine ⟨_, hi.putB' k hk hb i vn old hil hf (by omega) o1 o2, rfl, rfl, rfl, rfl, rfl, ?_⟩
  exact Put_ok (k + 1) i (M.things.getD k noTh).slots.length (M.things.getD k noTh).fmt vn a l H _ w h hmem h1 h2 h3 (by omega) hI.shape (by omega) (by omega) (by omega) hm hT (fun V hV => by
   rw [hf]
   exact setB_any (H.seats.getD (k + 1) (0, 0, 0)) i vn old a l H V hV (by omega) hmem o1 (by omega) (by omega) o2)
def putA (M : MS) (A B X : Int) : Int := if mhas M A = true then (if 0 ≤ B ∧ B < ((M.things.getD (A.toNat - 1) noTh).slots.length : Int) then (if mayB X ((M.things.getD (A.toNat - 1) noTh).fmt : Int) = true then 0 else 10) else 21) else 20
def atA (M : MS) (A B : Int) : Int × Int := if mhas M A = true then (if 0 ≤ B ∧ B < ((M.things.getD (A.toNat - 1) noTh).slots.length : Int) then ((M.things.getD (A.toNat - 1) noTh).slots.getD B.toNat 0, 0) else (0, 21)) else (0, 20)
theorem pPut (A B X : Int) (a : Nat) (l : Lay) (H : HS) (M : MS) (w : World) (h : Rep w a l H) (hi : Inv H M) (hT : Tab w) :
  Calls Tryd.prog 29 #[.pointer (some ⟨a, 0, none⟩), .int .i64 A, .int .i64 B, .int .i64 X] w fun e w' => e = .returned (.int .i64 (putA M A B X)) ∧ PN false a l H (putN M A B X) w w' := by
 have hmem : (H.mem.length : Int) ≤ 1048576 := by have := hi.safe.small.mem; have := hi.safe.small.words; omega
 unfold putA
 cases hA : mhas M A with
 | false =>
  rw [if_neg (by simp), show putN M A B X = M from if_neg (by rw [hA]; simp)]
  refine Calls.mono (Put_no A B X a l H w h (by rw [hi.hasM]; exact hA)) ?_
  rintro e w' ⟨rfl, hf⟩
  exact ⟨rfl, PN.same h hi hf⟩
 | true =>
  rw [if_pos rfl]
  have hA2 := hA
  obtain ⟨k, rfl, hk, hb⟩ := mhas_yes hA
  have hI := hi.is k hk hb
  have h22 := lenN_two (M.things.getD k noTh).slots.length (M.things.getD k noTh).fmt
  have hroom := hI.room
  have hfm := hI.fmt
  have hln := hI.len
  rw [sub1]
  by_cases hB : 0 ≤ B ∧ B < ((M.things.getD k noTh).slots.length : Int)
  ·rw [if_pos hB]
   obtain ⟨i, rfl⟩ : ∃ i : Nat, B = (i : Int) := ⟨B.toNat, by omega⟩
   cases hX : mayB X ((M.things.getD k noTh).fmt : Int) with
   | false =>
    rw [if_neg (by simp), show putN M ((k : Int) + 1) i X = M from if_neg (by rw [sub1, hX]; simp)]
    have hf := Put_word (k + 1) i _ _ X a l H w h hI.has hmem (by omega) hI.shape (by omega) (by omega) hX hT
    rw [show ((k + 1 : Nat) : Int) = (k : Int) + 1 from by omega] at hf
    refine Calls.mono hf ?_
    rintro e w' ⟨rfl, hf⟩
    exact ⟨rfl, PN.same h hi hf⟩
   | true =>
    rw [if_pos rfl, show putN M ((k : Int) + 1) i X = { M with things := M.things.set k (withSlot (M.things.getD k noTh) i X) } from by unfold putN; rw [sub1, if_pos ⟨hA2, by omega, by omega, hX⟩]; rfl]
    obtain ⟨H', hinv, hage, -, -, -, hor, hcall⟩ := Put_inv3 k i X a l H M w h hi hk hb (by omega) hX hT
    refine Calls.mono hcall ?_
    rintro e w' ⟨rfl, hr, hx⟩
    exact ⟨rfl, l, H', hr, hinv, hx, Old.same hage hor⟩
  ·rw [if_neg hB, show putN M ((k : Int) + 1) B X = M from if_neg (by rw [sub1]; omega)]
   have hf := Put_slot (k + 1) _ _ B X a l H w h hI.has hmem (by omega) hI.shape (by omega) (by omega)
   rw [show ((k + 1 : Nat) : Int) = (k : Int) + 1 from by omega] at hf
   refine Calls.mono hf ?_
   rintro e w' ⟨rfl, hf⟩
   exact ⟨rfl, PN.same h hi hf⟩
theorem exch_no_any (A B : Int) (a : Nat) (l : Lay) (H : HS) (M : MS) (w : World) (h : Rep w a l H) (hi : Inv H M) (hn : ¬ (mhas M A = true ∧ mhas M B = true)) :
  Calls Tryd.prog 46 #[.pointer (some ⟨a, 0, none⟩), .int .i64 A, .int .i64 B] w fun e w' => e = .returned (.int .i64 20) ∧ Fr [] w w' := by
 cases hA : mhas M A with
 | false => exact Exchange_no1 A B a l H w h (by rw [hi.hasM]; exact hA)
 | true =>
  have hB : mhas M B = false := by
   cases hB : mhas M B with
   | false => rfl
   | true => exact absurd ⟨hA, hB⟩ hn
  have hA2 := hA
  obtain ⟨k, rfl, hk, hb⟩ := mhas_yes hA
  have e : ((k + 1 : Nat) : Int) = (k : Int) + 1 := by omega
  have hf := Exchange_no2 (k + 1) B a l H w h (by rw [e, hi.hasM]; exact hA2) (by rw [hi.hasM]; exact hB)
  rw [e] at hf
  exact hf
theorem pExch (A B : Int) (a : Nat) (l : Lay) (H : HS) (M : MS) (w : World) (h : Rep w a l H) (hi : Inv H M) (hage : (H.age : Int) ≤ 1000000000) :
  Calls Tryd.prog 46 #[.pointer (some ⟨a, 0, none⟩), .int .i64 A, .int .i64 B] w fun e w' => e = .returned (.int .i64 (if mhas M A = true ∧ mhas M B = true then 0 else 20)) ∧ PN (mhas M A && mhas M B) a l H (exchN M A B) w w' := by
 unfold exchN
 by_cases hAB : mhas M A = true ∧ mhas M B = true
 ·rw [if_pos hAB, if_pos hAB]
  obtain ⟨hA, hB⟩ := hAB
  have hA0 := hA
  have hB0 := hB
  obtain ⟨x, rfl, hx, bx⟩ := mhas_yes hA
  obtain ⟨y, rfl, hy, by_⟩ := mhas_yes hB
  rw [sub1, sub1]
  refine Calls.mono (Exch_inv x y a l H M w h hi hx hy bx by_ hage) ?_
  rintro e w' ⟨rfl, hr, hx'⟩
  exact ⟨rfl, l, _, hr, hi.exch x y hx hy bx by_, hx', .inr ⟨by rw [hA0, hB0]; rfl, rfl⟩⟩
 ·rw [if_neg hAB, if_neg hAB]
  have hfl : (mhas M A && mhas M B) = false := by
   rw [Bool.eq_false_iff]
   intro hc
   exact hAB (by simpa using hc)
  rw [hfl]
  refine Calls.mono (exch_no_any A B a l H M w h hi hAB) ?_
  rintro e w' ⟨rfl, hf⟩
  exact ⟨rfl, PN.same h hi hf⟩
theorem pClass (A : Int) (a : Nat) (l : Lay) (H : HS) (M : MS) (w : World) (h : Rep w a l H) (hi : Inv H M) :
  Calls Tryd.prog 68 #[.pointer (some ⟨a, 0, none⟩), .int .i64 A] w fun e w' => e = .returned (.tuple #[.int .i64 (if mhas M A = true then (M.things.getD (A.toNat - 1) noTh).cls else 0), .int .i64 (if mhas M A = true then 0 else 20)]) ∧ Fr [] w w' := by
 cases hA : mhas M A with
 | false =>
  rw [if_neg (by simp), if_neg (by simp)]
  exact Class_no A a l H w h (by rw [hi.hasM]; exact hA)
 | true =>
  rw [if_pos rfl, if_pos rfl]
  obtain ⟨k, rfl, hk, hb⟩ := mhas_yes hA
  have hI := hi.is k hk hb
  have h22 := lenN_two (M.things.getD k noTh).slots.length (M.things.getD k noTh).fmt
  have hroom := hI.room
  have hf := Class_ok (k + 1) a l H w h hI.has (by omega) (by have := hi.safe.small.mem; have := hi.safe.small.words; omega)
  rw [show ((k + 1 : Nat) : Int) = (k : Int) + 1 from by omega, hI.cls] at hf
  rw [sub1]
  exact hf
theorem pSize (A : Int) (a : Nat) (l : Lay) (H : HS) (M : MS) (w : World) (h : Rep w a l H) (hi : Inv H M) :
  Calls Tryd.prog 81 #[.pointer (some ⟨a, 0, none⟩), .int .i64 A] w fun e w' => e = .returned (.tuple #[.int .i64 (if mhas M A = true then ((M.things.getD (A.toNat - 1) noTh).slots.length : Int) else 0), .int .i64 (if mhas M A = true then ((M.things.getD (A.toNat - 1) noTh).fmt : Int) else 0), .int .i64 (if mhas M A = true then 0 else 20)]) ∧ Fr [] w w' := by
 cases hA : mhas M A with
 | false =>
  rw [if_neg (by simp), if_neg (by simp), if_neg (by simp)]
  exact Size_no A a l H w h (by rw [hi.hasM]; exact hA)
 | true =>
  rw [if_pos rfl, if_pos rfl, if_pos rfl]
  obtain ⟨k, rfl, hk, hb⟩ := mhas_yes hA
  have hI := hi.is k hk hb
  have h22 := lenN_two (M.things.getD k noTh).slots.length (M.things.getD k noTh).fmt
  have hroom := hI.room
  have hf := Size_ok (k + 1) _ _ a l H w h hI.has (by have := hi.safe.small.mem; have := hi.safe.small.words; omega) (by omega) hI.shape (by have := hI.fmt; omega)
  rw [show ((k + 1 : Nat) : Int) = (k : Int) + 1 from by omega] at hf
  rw [sub1]
  exact hf
theorem pAt (A B : Int) (a : Nat) (l : Lay) (H : HS) (M : MS) (w : World) (h : Rep w a l H) (hi : Inv H M) :
  Calls Tryd.prog 47 #[.pointer (some ⟨a, 0, none⟩), .int .i64 A, .int .i64 B] w fun e w' => e = .returned (.tuple #[.int .i64 (atA M A B).1, .int .i64 (atA M A B).2]) ∧ Fr [] w w' := by
 have hmem : (H.mem.length : Int) ≤ 1048576 := by have := hi.safe.small.mem; have := hi.safe.small.words; omega
 unfold atA
 cases hA : mhas M A with
 | false =>
  rw [if_neg (by simp)]
  exact At_no A B a l H w h (by rw [hi.hasM]; exact hA)
 | true =>
  rw [if_pos rfl]
  obtain ⟨k, rfl, hk, hb⟩ := mhas_yes hA
  have hI := hi.is k hk hb
  have h22 := lenN_two (M.things.getD k noTh).slots.length (M.things.getD k noTh).fmt
  have hroom := hI.room
  have hln := hI.len
  rw [sub1]
  by_cases hB : 0 ≤ B ∧ B < ((M.things.getD k noTh).slots.length : Int)
  ·rw [if_pos hB]
   obtain ⟨i, rfl⟩ : ∃ i : Nat, B = (i : Int) := ⟨B.toNat, by omega⟩
   have hf := hI.at i (by omega) a l hmem w h
   rw [show ((k + 1 : Nat) : Int) = (k : Int) + 1 from by omega] at hf
   exact hf
  ·rw [if_neg hB]
   have hf := At_slot (k + 1) _ _ B a l H w h hI.has hmem (by omega) hI.shape (by have := hI.fmt; omega) (by omega)
   rw [show ((k + 1 : Nat) : Int) = (k : Int) + 1 from by omega] at hf
   exact hf
theorem pRoom (a : Nat) (l : Lay) (H : HS) (M : MS) (w : World) (h : Rep w a l H) (hi : Inv H M) :
  Calls Tryd.prog 20 #[.pointer (some ⟨a, 0, none⟩)] w fun e w' => e = .returned (.tuple #[.int .i64 ((M.words : Int) - (endTo M.things M.things.length : Nat)), .int .i64 ((M.oops : Int) - (thereTo M.things M.things.length : Nat))]) ∧ Fr [] w w' := by
 have hr := Room_any a l H w h hi.safe.small
 rw [hi.words, hi.oops, hi.fin, hi.count] at hr
 refine Calls.mono hr ?_
 rintro e w' ⟨rfl, hf⟩
 exact ⟨rfl, by first | exact hf | exact hf.1 | (subst hf; exact Fr.refl _ _) | (obtain ⟨k, rfl⟩ := hf; exact Fr.drewN _ _ _)⟩
theorem pMarked (a : Nat) (l : Lay) (H : HS) (M : MS) (w : World) (h : Rep w a l H) (hi : Inv H M) :
  Calls Tryd.prog 15 #[.pointer (some ⟨a, 0, none⟩)] w fun e w' => e = .returned (.int .i64 (M.mark : Int)) ∧ Fr [] w w' := by
 have hr := Marked_any a l H w h
 rw [hi.mark] at hr
 refine Calls.mono hr ?_
 rintro e w' ⟨rfl, hf⟩
 exact ⟨rfl, by first | exact hf | (subst hf; exact Fr.refl _ _)⟩
def allM (M : MS) : List Nat := (List.range (M.things.length + 1)).filter (fun o => decide (1 ≤ o) && (M.things.getD (o - 1) noTh).there)
theorem Inv.allM {H : HS} {M : MS} (h : Inv H M) : allTo H H.seats.length = Go.Proofs.YtklfnjlenbgmoaaDoor.allM M := by
 rw [h.allEnd]
 unfold allTo Go.Proofs.YtklfnjlenbgmoaaDoor.allM
 refine List.filter_congr (fun o ho => ?_)
 have hol := List.mem_range.1 ho
 by_cases h0 : o = 0
 ·subst h0
  rw [h.seat0]
  rfl
 ·have ht := h.there (o - 1) (by omega)
  rw [show o - 1 + 1 = o from by omega] at ht
  rw [Bool.eq_iff_iff]
  simp only [decide_eq_true_eq, Bool.and_eq_true]
  constructor
  ·intro hp; exact ⟨by omega, ht.2 (by omega)⟩
  ·intro hp; have := ht.1 hp.2; omega
theorem pAll (a : Nat) (l : Lay) (H : HS) (M : MS) (w : World) (h : Rep w a l H) (hi : Inv H M) :
  Calls Tryd.prog 35 #[.pointer (some ⟨a, 0, none⟩)] w fun e w' => ∃ v, e = .returned v ∧ w'.ownsRow w.heap.size 3 1 v (allM M).length ((allM M).map I) ∧ Fr [] w w' := by
 have := All_ok a l H w h hi.safe.seats
 rw [hi.allM] at this
 exact this
end Go.Proofs.YtklfnjlenbgmoaaDoor
