import Derived.Test.YtclkoffnjiiioaaGreatDoorG02IOpen
import Derived.Laws.IdiomStrings
import Derived.OwnWalk
import Derived.Test.YtclkoffnjiiioaaGreatDoorG00CSy5
namespace Go.Proofs.YtclkoffnjiiioaaGreatDoor
open Go.RowKit
set_option linter.unusedVariables false
set_option linter.unusedSimpArgs false
attribute [local go_sem ↓] Go.wp_at_zero Go.wp_at_succ
/-- a text in memory -/
def bA (l : List UInt8) : ByteArray := ⟨l.toArray⟩
theorem bA_list (l : List UInt8) : (bA l).data.toList = l := by simp [bA]
theorem bA_size (l : List UInt8) : (bA l).size = l.length := by simp [bA, ByteArray.size]
theorem bA_of (s : ByteArray) : bA s.data.toList = s := by simp [bA]
theorem bA_tl (l : List UInt8) : (bA l).toList = l := by rw [Lib.toList_data, bA_list]
/-- the reader's values -/
structure Rv where
  a : Int
  t : Int
  s : Int
  lv : Value
  wv : Value
  text : Bs
  taken : Nat
  rest : Bs
  els : Nat
def Rv.c (S : Rv) : Array Value := #[.int .i64 S.a, .int .i64 S.t, .int .i64 S.s, S.lv, S.wv, .string (bA S.text), .int .i64 (S.taken : Int), .string (bA S.rest), .int .i64 (S.els : Int)]
/-- the reader in memory -/
structure RB (W : World) (r : Nat) (S : Rv) : Prop where
  blk : W.heap[r]? = some (.cells S.c 66 (0, 0))
  small : S.text.length ≤ 281474976710656 ∧ S.rest.length ≤ 281474976710656
theorem RB.lt {W : World} {r : Nat} {S : Rv} (h : RB W r S) : r < W.heap.size := lt_of_heap h.blk
theorem RB.cl {W : World} {r : Nat} {S : Rv} (h : RB W r S) (i : Nat) : W.cell? ⟨r, i, none⟩ = S.c[i]? := cell_in h.blk i
theorem RB.fz {W : World} {r : Nat} {S : Rv} (h : RB W r S) (i : Nat) : W.frozen? ⟨r, i, none⟩ = false := frozen_in h.blk i
theorem RB.fr {W W' : World} {r : Nat} {S : Rv} {L : List Nat} (h : RB W r S) (f : Fr L W W') (hn : r ∉ L) : RB W' r S := ⟨(f.block r h.lt hn).trans h.blk, h.small⟩
theorem RB.setRest {W : World} {r : Nat} {S : Rv} (h : RB W r S) (x : Bs) (hx : x.length ≤ 281474976710656) : RB (W.setCell ⟨r, 7, none⟩ (.string (bA x))) r { S with rest := x } := ⟨set_in h.blk 7 _, h.small.1, hx⟩
theorem RB.setText {W : World} {r : Nat} {S : Rv} (h : RB W r S) (x : Bs) (hx : x.length ≤ 281474976710656) : RB (W.setCell ⟨r, 5, none⟩ (.string (bA x))) r { S with text := x } := ⟨set_in h.blk 5 _, hx, h.small.2⟩
theorem RB.setTaken {W : World} {r : Nat} {S : Rv} (h : RB W r S) (x : Nat) : RB (W.setCell ⟨r, 6, none⟩ (.int .i64 (x : Int))) r { S with taken := x } := ⟨set_in h.blk 6 _, h.small⟩
theorem RB.setEls {W : World} {r : Nat} {S : Rv} (h : RB W r S) (x : Nat) : RB (W.setCell ⟨r, 8, none⟩ (.int .i64 (x : Int))) r { S with els := x } := ⟨set_in h.blk 8 _, h.small⟩
theorem RB.setLits {W : World} {r : Nat} {S : Rv} (h : RB W r S) (v : Value) : RB (W.setCell ⟨r, 3, none⟩ v) r { S with lv := v } := ⟨set_in h.blk 3 _, h.small⟩
theorem RB.setWords {W : World} {r : Nat} {S : Rv} (h : RB W r S) (v : Value) : RB (W.setCell ⟨r, 4, none⟩ v) r { S with wv := v } := ⟨set_in h.blk 4 _, h.small⟩
theorem trimP_len (s p : Bs) : (Lib.trimPrefix s p).length ≤ s.length := by
  unfold Lib.trimPrefix
  split
  · rw [List.length_drop]; omega
  · omega
set_option maxHeartbeats 2000000 in
theorem cutPrefix_ok (s p : Bs) (hs : s.length ≤ 281474976710656) (w : World) : Calls Tryz.prog 66 #[.string (bA s), .string (bA p)] w fun e w' => e = .returned (.tuple #[.string (bA (Lib.trimPrefix s p)), .bool (Lib.hasPrefix s p)]) ∧ w' = w := by
  have h78 : Calls Tryz.prog 78 #[.string (bA s), .string (bA p)] w fun e w' => e = .returned (.tuple #[.string (bA (Lib.trimPrefix s p)), .bool (Lib.hasPrefix s p)]) ∧ w' = w := by
    have hH := mkHid (Tryz.stringslite_HasPrefix (bA s) (bA p) w)
    rw [bA_list, bA_list] at hH
    cases hb : Lib.hasPrefix s p
    · rw [hb] at hH
      have HT : Hid (bA (Lib.trimPrefix s p) = bA s) := by unfold Lib.trimPrefix; rw [hb]; rfl
      go_enter Tryz.func78, Tryz.ntmps78
      go_wp2_with fail
      refine (hH.out).mono ?_
      rintro e w1 ⟨rfl, rfl⟩
      go_wp2_with fail
      go_ret2
      exact ⟨by rw [HT.out]; rfl, rfl⟩
    · rw [hb] at hH
      have hle : p.length ≤ s.length := by
        unfold Lib.hasPrefix at hb
        exact (List.isPrefixOf_iff_prefix.1 hb).length_le
      have h1 : ((bA p).size : Int) ≤ ((bA s).size : Int) := by rw [bA_size, bA_size]; omega
      have h0 : (0 : Int) ≤ ((bA p).size : Int) := by omega
      have hz : (bA s).size ≤ 9223372036854775807 := by rw [bA_size]; omega
      have HT : Hid ((bA s).extract (bA p).size (bA s).size = bA (Lib.trimPrefix s p)) := by
        unfold Lib.trimPrefix
        rw [hb]
        apply ByteArray.ext
        rw [ByteArray.data_extract]
        apply Array.toList_inj.1
        simp [bA, ByteArray.size]
        rw [List.take_of_length_le (by rw [List.length_drop]; omega)]
      go_enter Tryz.func78, Tryz.ntmps78
      go_wp2_with fail
      refine (hH.out).mono ?_
      rintro e w1 ⟨rfl, rfl⟩
      go_wp2_with fail
      go_ret2
      exact ⟨by rw [← HT.out]; rfl, rfl⟩
  have H := mkHid h78
  clear h78
  go_enter Tryz.func66, Tryz.ntmps66
  go_wp2_with fail
  refine H.out.mono ?_
  rintro e w1 ⟨rfl, rfl⟩
  go_wp2_with fail
  go_ret2
  exact ⟨rfl, rfl⟩
/-- a line cut at one byte -/
def cutB (s : Bs) (c : UInt8) : Bs × Bs × Bool := if Lib.indexByte s c < 0 then (s, [], false) else (s.take (Lib.indexByte s c).toNat, s.drop ((Lib.indexByte s c).toNat + 1), true)
theorem ix_lt : ∀ (l : Bs) (c : UInt8), Lib.indexByte l c < (l.length : Int)
  | [], c => by simp [Lib.indexByte]
  | b :: l, c => by
    have := ix_lt l c
    rw [Lib.indexByte, List.length_cons]
    split
    · omega
    · split <;> omega
set_option maxHeartbeats 2000000 in
theorem cut_ok (s : Bs) (c : UInt8) (hs : s.length ≤ 281474976710656) (w : World) : Calls Tryz.prog 51 #[.string (bA s), .string ⟨#[c]⟩] w fun e w' => e = .returned (.tuple #[.string (bA (cutB s c).1), .string (bA (cutB s c).2.1), .bool (cutB s c).2.2]) ∧ Fr [] w w' := by
  have h65 : Calls Tryz.prog 65 #[.string (bA s), .string ⟨#[c]⟩] w fun e w' => e = .returned (.tuple #[.string (bA (cutB s c).1), .string (bA (cutB s c).2.1), .bool (cutB s c).2.2]) ∧ Fr [] w w' := by
    have hH := mkHid (Tryz.stringslite_Index_one (bA s) c w)
    rw [bA_list] at hH
    have hlt := ix_lt s c
    by_cases hn : Lib.indexByte s c < 0
    · have HT : Hid (cutB s c = (s, [], false)) := by unfold cutB; rw [if_pos hn]; exact rfl
      generalize Lib.indexByte s c = n at *
      have hd : decide (n ≥ 0) = false := decide_eq_false (by omega)
      go_enter Tryz.func65, Tryz.ntmps65
      go_wp2_with fail
      refine (hH.out).mono ?_
      rintro e w1 ⟨rfl, rfl⟩
      go_wp2_with fail
      go_ret3
      exact ⟨by rw [HT.out]; rfl, Fr.refl _ _⟩
    · obtain ⟨k, hk⟩ : ∃ k : Nat, Lib.indexByte s c = (k : Int) := ⟨(Lib.indexByte s c).toNat, by omega⟩
      have HT : Hid (cutB s c = (s.take k, s.drop (k + 1), true)) := by unfold cutB; rw [if_neg hn, hk]; exact rfl
      rw [hk] at hH hlt
      have hks : k < s.length := by omega
      have h0 : (0 : Int) ≤ (k : Int) := by omega
      have h1 : (k : Int) ≤ ((bA s).size : Int) := by rw [bA_size]; omega
      have h2 : (k : Int) + 1 ≤ ((bA s).size : Int) := by rw [bA_size]; omega
      have h3 : (0 : Int) ≤ (k : Int) + 1 := by omega
      have hz : (bA s).size ≤ 281474976710656 := by rw [bA_size]; omega
      have hwr : IntKind.i64.wrap ((k : Int) + 1) = (k : Int) + 1 := iwrap_id (by omega) (by omega)
      have HA : Hid ((bA s).extract 0 k = bA (s.take k)) := by
        apply ByteArray.ext
        rw [ByteArray.data_extract]
        apply Array.toList_inj.1
        simp [bA]
      have HB : Hid ((bA s).extract (k + 1) (bA s).size = bA (s.drop (k + 1))) := by
        apply ByteArray.ext
        rw [ByteArray.data_extract]
        apply Array.toList_inj.1
        simp [bA, ByteArray.size]
        rw [List.take_of_length_le (by rw [List.length_drop]; omega)]
      clear hn hk
      go_enter Tryz.func65, Tryz.ntmps65
      go_wp2_with fail
      refine (hH.out).mono ?_
      rintro e w1 ⟨rfl, rfl⟩
      go_wp2_with fail
      try go_quiet (fail)
      try go_wp2_with fail
      go_ret3
      exact ⟨by rw [HT.out, ← HA.out, ← HB.out]; rfl, Fr.drewN [] _ _⟩
  have H := mkHid h65
  clear h65
  go_enter Tryz.func51, Tryz.ntmps51
  go_wp2_with fail
  refine H.out.mono ?_
  rintro e w1 ⟨rfl, f1⟩
  go_wp2_with fail
  go_ret3
  exact ⟨rfl, f1⟩
end Go.Proofs.YtclkoffnjiiioaaGreatDoor
namespace Go.Proofs.YtclkoffnjiiioaaGreatDoor
open Go.RowKit
set_option linter.unusedVariables false
set_option linter.unusedSimpArgs false
attribute [local go_sem ↓] Go.wp_at_zero Go.wp_at_succ
/-- a list of numbers in memory, however long -/
def Rc (w : World) (p : Option Addr) (ss : List Int) : Prop := 0 < ss.length → ∃ g off, p = some ⟨g, off, none⟩ ∧ ∀ i, i < ss.length → w.cell? ⟨g, off + i, none⟩ = some (.int .i64 (ss.getD i 0))
theorem own_rc {w : World} {B n c : Nat} {p : Option Addr} {ss : List Int} (h : w.ownsRow B 3 1 (.slice p n c) n (ss.map (Value.int .i64))) : Rc w p ss := fun hp => by
  have hl : ss.length = n := by have := h.1; simp at this; omega
  subst hl
  rcases h.2 with ⟨e, e0⟩ | ⟨g, cap, cur, e, q1, q2, q3, q4⟩
  · omega
  · injection e with e1 _ e3
    subst e1 e3
    exact ⟨g, 0, rfl, fun i hi => by rw [Nat.zero_add]; exact own_get h i hi⟩
theorem own_base {w : World} {B B' : Nat} {e : TypeId} {s n : Nat} {v : Value} {xs : List Value} (h : w.ownsRow B e s v n xs) (hb : B' ≤ B) : w.ownsRow B' e s v n xs := ⟨h.1, h.2.imp id (fun ⟨g, cap, cur, e1, q1, q2⟩ => ⟨g, cap, cur, e1, Nat.le_trans hb q1, q2⟩)⟩
set_option maxRecDepth 100000 in
set_option maxHeartbeats 2000000 in
theorem same_is (l : List Int) (n : Nat) (hn : l.length = n) (hs : n ≤ 17592186044000) (pa pb : Option Addr) (ca cb : Nat) (w : World) (ha : Rc w pa l) (hb : Rc w pb l) : Calls Tryz.prog 22 #[.slice pa n ca, .slice pb n cb] w fun e w' => e = .returned (.bool true) ∧ Fr [] w w' := by
  subst hn
  have HA := mkHid ha
  have HB := mkHid hb
  clear ha hb
  go_enter Tryz.func22, Tryz.ntmps22
  go_wp2_with fail
  go_loopw [5] (fun q wr => ∃ i : Nat, i ≤ l.length ∧ q = .int .i64 i ∧ Hid (Fr [] w wr)) (fun q _ => l.length - (intOf q).toNat)
  case atStart => exact ⟨0, Nat.zero_le _, rfl, Fr.refl _ _⟩
  case round =>
    obtain ⟨i, hi, rfl, hf⟩ := hrel
    have i0 : (0 : Int) ≤ (i : Int) := by omega
    by_cases hlt : i < l.length
    · have i1 : (i : Int) < (l.length : Int) := by omega
      obtain ⟨ga, oa, rfl, hca⟩ := HA.out (by omega)
      obtain ⟨gb, ob, rfl, hcb⟩ := HB.out (by omega)
      have x1 := hf.out.cl (hca i hlt)
      have x2 := hf.out.cl (hcb i hlt)
      generalize l.getD i 0 = z at *
      have HD : Hid (∀ n, Fr [] w (wr.drewN n)) := fun n => hf.out.dn n
      clear hca hcb
      go_wp2_with fail
      try go_quiet (fail)
      try go_wp2_with fail
      go_roundw
      case rel => exact ⟨i + 1, by omega, by go_num, by first | exact HD.out _ | exact hf⟩
      case measure => simp [intOf]; omega
    · have hie : i = l.length := by omega
      subst hie
      go_wp2_with fail
      go_ret
      exact ⟨rfl, hf.out⟩
theorem nmT_st {t : LitT} (h : NmT t) : ∀ u, stT u = stT t → NmT u := by
  induction h with
  | mk t h k ih =>
    intro u hu
    obtain ⟨-, -, h3, h4⟩ := stT_inj hu
    refine .mk u (by rw [h3]; exact h) (fun v hv => ?_)
    rw [stL_map, stL_map] at h4
    have : stT v ∈ t.kids.map stT := by rw [← h4]; exact List.mem_map_of_mem hv
    obtain ⟨t', ht', e⟩ := List.mem_map.1 this
    exact ih t' ht' v e.symm
theorem nmL_st {ts us : List LitT} (h : stL us = stL ts) (hs : ∀ t ∈ ts, NmT t) : ∀ u ∈ us, NmT u := fun v hv => by
  rw [stL_map, stL_map] at h
  have : stT v ∈ ts.map stT := by rw [← h]; exact List.mem_map_of_mem hv
  obtain ⟨t', ht', e⟩ := List.mem_map.1 this
  exact nmT_st (hs t' ht') v e.symm
theorem num_ok (n : Int) (w : World) : Calls Tryz.prog 8 #[.int .i64 n] w fun e w' => e = .returned (.int .i64 n) ∧ w' = w := by
  go_enter Tryz.func8, Tryz.ntmps8
  go_wp2_with fail
  go_ret
  exact ⟨rfl, rfl⟩
end Go.Proofs.YtclkoffnjiiioaaGreatDoor
namespace Go.Proofs.YtclkoffnjiiioaaGreatDoor
open Go.RowKit
set_option linter.unusedVariables false
set_option linter.unusedSimpArgs false
theorem may_st {a b : LitT} (h : stT a = stT b) : mayB a = mayB b := by
  obtain ⟨h1, h2, h3, h4⟩ := stT_inj h
  have hl : a.kids.length = b.kids.length := by rw [← stL_len, ← stL_len b.kids, h4]
  unfold mayB
  rw [h1, h2, h3, hl]
theorem top_st {a b : LitT} (h : stT a = stT b) : topB a = topB b := by
  unfold topB
  rw [may_st h, (stT_inj h).1]
mutual
theorem st_T : ∀ (a b : LitT), stT a = stT b → (∀ n, gaT a n = gaT b n) ∧ wrT a = wrT b
  | .mk k x m p c ks, b, h => by
    obtain ⟨h1, h2, h3, h4⟩ := stT_inj h
    have hL := st_L ks b.kids h4
    refine ⟨fun n => ?_, ?_⟩
    · rw [gaT_at, gaT_at b, h1]
      show (if b.kind = 4 then gaL ks n else (0, n)) = _
      rw [hL.1 n]
    · rw [wrT_at, wrT_at b, h1, h2, h3]
      show (if b.kind = 1 then Lib.itoa b.num else if b.kind = 2 then textW b.text else if b.kind = 3 then 35 :: Lib.itoa b.num else if b.kind = 5 then [110, 105, 108] else if b.kind = 6 then [116, 114, 117, 101] else if b.kind = 7 then [102, 97, 108, 115, 101] else 40 :: (wrL ks true ++ [41])) = _
      rw [hL.2 true]
theorem st_L : ∀ (xs ys : List LitT), stL xs = stL ys → (∀ n, gaL xs n = gaL ys n) ∧ ∀ f, wrL xs f = wrL ys f
  | [], ys, h => by
    cases ys with
    | nil => exact ⟨fun _ => rfl, fun _ => rfl⟩
    | cons b ys => rw [stL_nil, stL_cons] at h; cases h
  | a :: xs, ys, h => by
    cases ys with
    | nil => rw [stL_nil, stL_cons] at h; cases h
    | cons b ys =>
      rw [stL_cons, stL_cons] at h
      injection h with ha hr
      have hT := st_T a b ha
      have hL := st_L xs ys hr
      refine ⟨fun n => ?_, fun f => ?_⟩
      · rw [gaL_cons, gaL_cons, may_st ha, hT.1, hL.1]
      · rw [wrL_cons, wrL_cons, hT.2, hL.2]
end
theorem st_U : ∀ (xs ys : List LitT), stL xs = stL ys → (∀ n, gaU xs n = gaU ys n) ∧ xs.flatMap litW = ys.flatMap litW
  | [], ys, h => by
    cases ys with
    | nil => exact ⟨fun _ => rfl, rfl⟩
    | cons b ys => rw [stL_nil, stL_cons] at h; cases h
  | a :: xs, ys, h => by
    cases ys with
    | nil => rw [stL_nil, stL_cons] at h; cases h
    | cons b ys =>
      rw [stL_cons, stL_cons] at h
      injection h with ha hr
      have hT := st_T a b ha
      have hL := st_U xs ys hr
      refine ⟨fun n => ?_, ?_⟩
      · show (if topB a = false then (120, n) else if (gaT a n).1 ≠ 0 then gaT a n else gaU xs (gaT a n).2) = (if topB b = false then (120, n) else if (gaT b n).1 ≠ 0 then gaT b n else gaU ys (gaT b n).2)
        rw [top_st ha, hT.1, hL.1]
      · rw [List.flatMap_cons, List.flatMap_cons, hL.2]
        unfold litW
        rw [(stT_inj ha).1, hT.2]
/-- what Print answers hangs on what a code says alone -/
theorem prP_st (K : Co) (us : List LitT) (h : stL us = stL K.ts) : prP ⟨K.args, K.temps, K.stack, us, K.ws⟩ = prP K := by
  have hu := st_U us K.ts h
  have hl : us.length = K.ts.length := by rw [← stL_len, ← stL_len K.ts, h]
  unfold prP
  simp only [hl, hu.1, hu.2]
end Go.Proofs.YtclkoffnjiiioaaGreatDoor

namespace Go.Proofs.YtclkoffnjiiioaaGreatDoor
open Go.RowKit
set_option linter.unusedVariables false
set_option linter.unusedSimpArgs false
attribute [local go_sem ↓] Go.wp_at_zero Go.wp_at_succ
/-- what a variable of the library's holds -/
def Er (W : World) (g : Nat) : Prop := ∃ ev, W.cell? ⟨g, 0, none⟩ = some ev ∧ (ev = .nilIface ∨ ∃ te pe, ev = .iface te pe)
/-- what lies in the program's variables -/
structure Ev (W : World) : Prop where
  tb : Tb W
  pw : Pw W
  e3 : Er W 3
  e4 : Er W 4
theorem Er.fr {W W' : World} {g : Nat} {L : List Nat} (h : Er W g) (f : Fr L W W') (hg : g ∉ L) : Er W' g := by
  obtain ⟨ev, h1, h2⟩ := h
  exact ⟨ev, (f.cell (p := ⟨g, 0, none⟩) (World.block_lt_of_cell? W _ h1) hg).trans h1, h2⟩
theorem Tb.fr {W W' : World} {L : List Nat} (h : Tb W) (f : Fr L W W') (hg : 0 ∉ L) : Tb W' := fun i hi => by
  have h1 : W'.heap[0]? = W.heap[0]? := f.block 0 h.pos hg
  exact ⟨(World.cell?_of_block (w := W) (a := ⟨0, i * 2, none⟩) h1).trans (h i hi).1, (World.cell?_of_block (w := W) (a := ⟨0, i * 2 + 1, none⟩) h1).trans (h i hi).2⟩
theorem gPow1 : Tryz.prog.globalNamed "internal/strconv.uint64pow10" = some 1 := by kernel_rfl
theorem Pw.fr {W W' : World} {L : List Nat} (h : Pw W) (f : Fr L W W') (hg : 1 ∉ L) : Pw W' := by
  unfold Pw Lib.TabIs World.var? at h ⊢
  rw [gPow1] at h ⊢
  simp only [Option.bind_some] at h ⊢
  have hlt : 1 < W.heap.size := by
    rcases Nat.lt_or_ge 1 W.heap.size with h1 | h1
    · exact h1
    · rw [Array.getElem?_eq_none h1] at h
      cases h
  rw [f.block 1 hlt hg]
  exact h
theorem Ev.fr {W W' : World} {L : List Nat} (h : Ev W) (f : Fr L W W') (hL : ∀ g ∈ L, 9 ≤ g) : Ev W' :=
  ⟨h.tb.fr f (fun hm => by have := hL 0 hm; omega), h.pw.fr f (fun hm => by have := hL 1 hm; omega), h.e3.fr f (fun hm => by have := hL 3 hm; omega), h.e4.fr f (fun hm => by have := hL 4 hm; omega)⟩
theorem Ev.fr1 {W W' : World} {r : Nat} (h : Ev W) (f : Fr [r] W W') (hr : 9 ≤ r) : Ev W' := h.fr f (fun g hg => by simp at hg; omega)
theorem Ev.fr0 {W W' : World} (h : Ev W) (f : Fr [] W W') : Ev W' := h.fr f (fun g hg => by simp at hg)
abbrev pt (r : Nat) : Value := .pointer (some ⟨r, 0, none⟩)
/-- a piece is read -/
def TokR (W : World) (r : Nat) (S : Rv) (p : Bs) (e : Ending) (w' : World) : Prop := e = .returned (.bool (Lib.hasPrefix S.rest p)) ∧ RB w' r { S with rest := Lib.trimPrefix S.rest p } ∧ Fr [r] W w'
set_option maxHeartbeats 2000000 in
theorem token_ok (W : World) (r : Nat) (S : Rv) (p : Bs) (h : RB W r S) : Calls Tryz.prog 52 #[pt r, .string (bA p)] W fun e w' => TokR W r S p e w' := by
  have HC := mkHid (cutPrefix_ok S.rest p h.small.2 W)
  have c7 : W.cell? ⟨r, 7, none⟩ = some (.string (bA S.rest)) := h.cl 7
  have z7 := h.fz 7
  have HR := mkHid (h.setRest (Lib.trimPrefix S.rest p) (Nat.le_trans (trimP_len _ _) h.small.2))
  have HF : Hid (Fr [r] W (W.setCell ⟨r, 7, none⟩ (.string (bA (Lib.trimPrefix S.rest p))))) := Fr.setCell (S := [r]) W ⟨r, 7, none⟩ _ (by simp)
  clear h
  go_enter Tryz.func52, Tryz.ntmps52
  go_wp2_with fail
  refine HC.out.mono ?_
  rintro e w1 ⟨rfl, rfl⟩
  go_wp2_with fail
  go_ret
  exact ⟨rfl, HR.out, HF.out⟩
/-- a piece that is given in bytes -/
theorem tok_hit {S : Rv} {p x : Bs} (h : tokP p S.rest = some x) : Lib.hasPrefix S.rest p = true ∧ Lib.trimPrefix S.rest p = x := by
  unfold tokP at h
  split at h
  · next hp => injection h with h; exact ⟨hp, by unfold Lib.trimPrefix; rw [if_pos hp]; exact h⟩
  · cases h
theorem tok_miss {S : Rv} {p : Bs} (h : tokP p S.rest = none) : Lib.hasPrefix S.rest p = false ∧ Lib.trimPrefix S.rest p = S.rest := by
  unfold tokP at h
  split at h
  · cases h
  · next hp => exact ⟨by simpa using hp, by unfold Lib.trimPrefix; rw [if_neg hp]⟩
theorem token_hit {W : World} {r : Nat} {S : Rv} {p x : Bs} (h : RB W r S) (ht : tokP p S.rest = some x) : Calls Tryz.prog 52 #[pt r, .string (bA p)] W fun e w' => e = .returned (.bool true) ∧ RB w' r { S with rest := x } ∧ Fr [r] W w' := by
  obtain ⟨h1, h2⟩ := tok_hit ht
  refine (token_ok W r S p h).mono ?_
  rintro e w' ⟨rfl, a, b⟩
  rw [h1]; rw [h2] at a
  exact ⟨rfl, a, b⟩
theorem token_miss {W : World} {r : Nat} {S : Rv} {p : Bs} (h : RB W r S) (ht : tokP p S.rest = none) : Calls Tryz.prog 52 #[pt r, .string (bA p)] W fun e w' => e = .returned (.bool false) ∧ RB w' r S ∧ Fr [r] W w' := by
  obtain ⟨h1, h2⟩ := tok_miss ht
  refine (token_ok W r S p h).mono ?_
  rintro e w' ⟨rfl, a, b⟩
  rw [h1]; rw [h2] at a
  exact ⟨rfl, a, b⟩
set_option maxHeartbeats 2000000 in
theorem first_ok (W : World) (r : Nat) (S : Rv) (h : RB W r S) : Calls Tryz.prog 80 #[pt r] W fun e w' => e = .returned (.int .u8 ((fstB S.rest).toNat : Int)) ∧ w' = W := by
  have c7 : W.cell? ⟨r, 7, none⟩ = some (.string (bA S.rest)) := h.cl 7
  clear h
  cases hr : S.rest with
  | nil =>
    rw [hr] at c7
    have q : (bA []).toList.isEmpty = true := by rw [bA_tl]; rfl
    go_enter Tryz.func80, Tryz.ntmps80
    go_wp2_with fail
    go_ret
    exact ⟨rfl, rfl⟩
  | cons c l =>
    rw [hr] at c7
    have q : (bA (c :: l)).toList.isEmpty = false := by rw [bA_tl]; rfl
    have hz : 0 < (bA (c :: l)).size := by rw [bA_size]; simp
    have hi : (0 : Int) < ((bA (c :: l)).size : Int) := by omega
    have he : (bA (c :: l))[0] = c := rfl
    go_enter Tryz.func80, Tryz.ntmps80
    go_wp2_with fail
    go_ret
    exact ⟨rfl, rfl⟩
/-- what number answers -/
def NumR (W : World) (r : Nat) (S : Rv) (e : Ending) (w' : World) : Prop :=
  match numP S.rest with
  | some (v, x) => e = .returned (.tuple #[.int .i64 v, .bool true]) ∧ RB w' r { S with rest := x } ∧ Fr [r] W w'
  | none => e = .returned (.tuple #[.int .i64 0, .bool false]) ∧ RB w' r S ∧ Fr [r] W w'
theorem info147 : (Tryz.prog.info? (Tryz.lays161_ren.t 116)).map (fun i => (i.zero, i.size)) = some (some (.agg (Array.replicate 256 (.bool false))), 256) := by kernel_rfl
theorem trim_ok (s : Bs) (w : World) : Calls Tryz.prog 69 #[.string (bA s), .string ⟨#[45, 48, 49, 50, 51, 52, 53, 54, 55, 56, 57]⟩] w fun e w' => e = .returned (.string (bA (s.dropWhile isNB))) ∧ Fr [] w w' := by
  refine (Any.strings_TrimLeft_laid Tryz.lays161 info147 (bA s) ⟨#[45, 48, 49, 50, 51, 52, 53, 54, 55, 56, 57]⟩ w (by decide) (ascii_of_all (by decide))).mono ?_
  rintro e w' ⟨rfl, b⟩
  refine ⟨?_, below_fr b⟩
  rw [bA_list]
  rfl
theorem tw_len (s : Bs) : (s.takeWhile isNB).length + (s.dropWhile isNB).length = s.length := by
  rw [← List.length_append, List.takeWhile_append_dropWhile]
theorem tw_take (s : Bs) : s.take (s.takeWhile isNB).length = s.takeWhile isNB := by
  have h := List.takeWhile_append_dropWhile (p := isNB) (l := s)
  have : s.take (s.takeWhile isNB).length = (s.takeWhile isNB ++ s.dropWhile isNB).take (s.takeWhile isNB).length := by rw [h]
  rw [this]
  exact List.take_left
/-- Atoi: a number, or an error -/
theorem atoi_ok (b : Bs) (hb : b.length ≤ 281474976710656) (w : World) (h : Ev w) : Calls Tryz.prog 70 #[.string (bA b)] w fun e w' => (match Lib.atoiAll b with | .ok v => e = .returned (.tuple #[.int .i64 v, .nilIface]) | _ => ∃ n N, e = .returned (.tuple #[.int .i64 n, .iface 166 (.pointer (some ⟨N, 0, none⟩))])) ∧ Fr [] w w' := by
  cases ha : Lib.atoiAll b with
  | ok v =>
    refine (Tryz.strconv_Atoi_ok (bA b) (by rw [bA_size]; omega) v (by rw [bA_list]; exact ha) w).mono ?_
    rintro e w' ⟨rfl, hw⟩
    refine ⟨rfl, ?_⟩
    rcases hw with rfl | ⟨t, rfl⟩
    · exact Fr.refl _ _
    · exact below_fr (Lib.bytesWorld_below _ _ _)
  | «syntax» =>
    obtain ⟨ev, h1, h2⟩ := h.e3
    refine (Tryz.strconv_Atoi_syntax (bA b) (by rw [bA_size]; omega) (by rw [bA_list]; exact ha) ev w h1 h2).mono ?_
    rintro e w' ⟨N, rfl, _, _, hw⟩
    exact ⟨⟨_, N, rfl⟩, below_fr hw⟩
  | range =>
    obtain ⟨ev, h1, h2⟩ := h.e4
    refine (Tryz.strconv_Atoi_range (bA b) (by rw [bA_size]; omega) (by rw [bA_list]; exact ha) ev w h1 h2).mono ?_
    rintro e w' ⟨N, rfl, _, _, hw⟩
    exact ⟨⟨_, N, rfl⟩, below_fr hw⟩
theorem itoa_ok (n : Int) (h : r64 n) (w : World) (hp : Pw w) : Calls Tryz.prog 46 #[.int .i64 n] w fun e w' => e = .returned (.string (bA (Lib.itoa n))) ∧ Fr [] w w' := by
  refine (Tryz.strconv_Itoa n h.1 h.2 w hp).mono ?_
  rintro e w' ⟨rfl, k, os, rfl⟩
  refine ⟨rfl, rfl, rfl, rfl, ?_, fun j hj _ => ?_⟩
  · show w.heap.size ≤ (w.heap ++ os).size
    simp
  · show (w.heap ++ os)[j]? = w.heap[j]?
    rw [Array.getElem?_append_left hj]
end Go.Proofs.YtclkoffnjiiioaaGreatDoor
namespace Go.Proofs.YtclkoffnjiiioaaGreatDoor
open Go.RowKit
set_option linter.unusedVariables false
set_option linter.unusedSimpArgs false
attribute [local go_sem ↓] Go.wp_at_zero Go.wp_at_succ
theorem num_hit {S : Rv} {v : Int} (ha : Lib.atoiAll (S.rest.takeWhile isNB) = .ok v) (hi : Lib.itoa v = S.rest.takeWhile isNB) : numP S.rest = some (v, S.rest.dropWhile isNB) := by
  unfold numP
  rw [ha]
  simp only
  rw [if_pos hi]
theorem num_miss {S : Rv} {v : Int} (ha : Lib.atoiAll (S.rest.takeWhile isNB) = .ok v) (hi : Lib.itoa v ≠ S.rest.takeWhile isNB) : numP S.rest = none := by
  unfold numP
  rw [ha]
  simp only
  rw [if_neg hi]
theorem num_bad {S : Rv} (ha : ∀ v, Lib.atoiAll (S.rest.takeWhile isNB) ≠ .ok v) : numP S.rest = none := by
  unfold numP
  cases h : Lib.atoiAll (S.rest.takeWhile isNB) with
  | ok v => exact absurd h (ha v)
  | «syntax» => rfl
  | range => rfl
theorem ba_ne {a b : Bs} (h : a ≠ b) : ((bA a).toList == (bA b).toList) = false := by
  rw [bA_tl, bA_tl]
  simpa using h
theorem atoi_r64 {l : Bs} {v : Int} (h : Lib.atoiAll l = .ok v) : r64 v := Lib.atoiAll_bounds h
set_option maxRecDepth 100000 in
set_option maxHeartbeats 4000000 in
theorem rnum_ok (W : World) (r : Nat) (S : Rv) (h : RB W r S) (hE : Ev W) (hr : 9 ≤ r) : Calls Tryz.prog 57 #[pt r] W fun e w' => NumR W r S e w' := by
  have HT := mkHid (trim_ok S.rest W)
  have c7 : W.cell? ⟨r, 7, none⟩ = some (.string (bA S.rest)) := h.cl 7
  have hl := tw_len S.rest
  have hs := h.small.2
  have HX : Hid ((bA S.rest).extract 0 (S.rest.takeWhile isNB).length = bA (S.rest.takeWhile isNB)) := by
    apply ByteArray.ext
    rw [ByteArray.data_extract]
    apply Array.toList_inj.1
    have := tw_take S.rest
    simp [bA, this]
  have hwr : IntKind.i64.wrap (((bA S.rest).size : Int) - ((bA (S.rest.dropWhile isNB)).size : Int)) = ((S.rest.takeWhile isNB).length : Int) := by
    rw [bA_size, bA_size, iwrap_id (by omega) (by omega)]
    omega
  have k0 : (0 : Int) ≤ ((S.rest.takeWhile isNB).length : Int) := by omega
  have k1 : ((S.rest.takeWhile isNB).length : Int) ≤ ((bA S.rest).size : Int) := by rw [bA_size]; omega
  have hz : (bA S.rest).size ≤ 281474976710656 := by rw [bA_size]; omega
  have HA : Hid (∀ V, Fr [] W V → Calls Tryz.prog 70 #[.string (bA (S.rest.takeWhile isNB))] V fun e w' => (match Lib.atoiAll (S.rest.takeWhile isNB) with | .ok v => e = .returned (.tuple #[.int .i64 v, .nilIface]) | _ => ∃ n N, e = .returned (.tuple #[.int .i64 n, .iface 166 (.pointer (some ⟨N, 0, none⟩))])) ∧ Fr [] V w') := fun V hV => atoi_ok _ (by omega) V (hE.fr0 hV)
  have HI : Hid (∀ v, r64 v → ∀ V, Fr [] W V → Calls Tryz.prog 46 #[.int .i64 v] V fun e w' => e = .returned (.string (bA (Lib.itoa v))) ∧ Fr [] V w') := fun v hv V hV => itoa_ok v hv V (hE.fr0 hV).pw
  have HC : Hid (∀ V, Fr [] W V → V.cell? ⟨r, 7, none⟩ = some (.string (bA S.rest)) ∧ V.frozen? ⟨r, 7, none⟩ = false ∧ RB V r S ∧ (RB (V.setCell ⟨r, 7, none⟩ (.string (bA (S.rest.dropWhile isNB)))) r { S with rest := S.rest.dropWhile isNB }) ∧ Fr [r] W (V.setCell ⟨r, 7, none⟩ (.string (bA (S.rest.dropWhile isNB))))) := fun V hV => by
    have hb := h.fr hV (by simp)
    exact ⟨hb.cl 7, hb.fz 7, hb, hb.setRest _ (by omega), (hV.mono (S' := [r]) (by simp)).trans (Fr.setCell (S := [r]) V ⟨r, 7, none⟩ _ (by simp)) (by simp)⟩
  clear h hE
  have HOk : Hid (∀ v, Lib.atoiAll (S.rest.takeWhile isNB) = .ok v → Lib.itoa v = S.rest.takeWhile isNB → ∀ e w', (e = .returned (.tuple #[.int .i64 v, .bool true]) ∧ RB w' r { S with rest := S.rest.dropWhile isNB } ∧ Fr [r] W w') → NumR W r S e w') := fun v ha hi e w' hq => by
    unfold NumR
    rw [num_hit ha hi]
    exact hq
  have HNo : Hid (((∀ v, Lib.atoiAll (S.rest.takeWhile isNB) ≠ .ok v) ∨ ∃ v, Lib.atoiAll (S.rest.takeWhile isNB) = .ok v ∧ Lib.itoa v ≠ S.rest.takeWhile isNB) → ∀ e w', (e = .returned (.tuple #[.int .i64 0, .bool false]) ∧ RB w' r S ∧ Fr [r] W w') → NumR W r S e w') := fun hc e w' hq => by
    unfold NumR
    rw [show numP S.rest = none from by rcases hc with hc | ⟨v, ha, hi⟩; exact num_bad hc; exact num_miss ha hi]
    exact hq
  generalize hT : S.rest.takeWhile isNB = T at *
  generalize hD : S.rest.dropWhile isNB = D at *
  clear hT hD
  generalize hn : T.length = n at *
  go_enter Tryz.func57, Tryz.ntmps57
  go_wp2_with fail
  refine HT.out.mono ?_
  rintro e w1 ⟨rfl, f1⟩
  obtain ⟨c1, z1, -, -, -⟩ := HC.out w1 f1
  have F1 := mkHid f1
  clear f1 c7
  go_wp2_with fail
  go_quiet (fail)
  rename_i nq
  rw [HX.out]
  go_wp2_with fail
  have F2 : Hid (Fr [] W (w1.drewN nq)) := F1.out.dn nq
  refine (HA.out _ F2.out).mono ?_
  rintro e w2 ⟨he, f2⟩
  have F3 : Hid (Fr [] W w2) := F2.out.tr0 f2
  clear f2 F2 F1 c1 z1 HA HT HX hwr
  cases ha : Lib.atoiAll T with
  | ok v =>
    rw [ha] at he
    simp only at he
    subst he
    have hv := atoi_r64 ha
    have HAo := mkHid ha
    clear ha
    by_cases hi : Lib.itoa v = T
    · have HIo := mkHid hi
      have hb : ((bA (Lib.itoa v)).toList == (bA T).toList) = true := by rw [hi]; simp
      clear hi
      go_wp2_with fail
      refine (HI.out v hv w2 F3.out).mono ?_
      rintro e w3 ⟨rfl, f3⟩
      obtain ⟨c1, z1, -, hrb, hfr⟩ := HC.out w3 (F3.out.tr0 f3)
      have HRb := mkHid hrb
      have HFr := mkHid hfr
      clear hrb hfr f3 HC
      go_wp2_with fail
      go_ret2
      exact HOk.out v HAo.out HIo.out _ _ ⟨rfl, HRb.out, HFr.out⟩
    · have HIo := mkHid hi
      have hb : ((bA (Lib.itoa v)).toList == (bA T).toList) = false := ba_ne hi
      clear hi
      go_wp2_with fail
      refine (HI.out v hv w2 F3.out).mono ?_
      rintro e w3 ⟨rfl, f3⟩
      obtain ⟨-, -, hrb, -, -⟩ := HC.out w3 (F3.out.tr0 f3)
      have HRb := mkHid hrb
      have HFr : Hid (Fr [r] W w3) := (F3.out.tr0 f3).mono (by simp)
      clear hrb f3 HC
      go_wp2_with fail
      go_ret2
      exact HNo.out (.inr ⟨v, HAo.out, HIo.out⟩) _ _ ⟨rfl, HRb.out, HFr.out⟩
  | «syntax» =>
    rw [ha] at he
    simp only at he
    obtain ⟨n2, N, rfl⟩ := he
    have HAo : Hid (∀ v, Lib.atoiAll T ≠ .ok v) := fun v e => by rw [ha] at e; cases e
    clear ha
    obtain ⟨-, -, hrb, -, -⟩ := HC.out w2 F3.out
    have HRb := mkHid hrb
    have HFr : Hid (Fr [r] W w2) := F3.out.mono (by simp)
    clear hrb HC
    go_wp2_with fail
    go_ret2
    exact HNo.out (.inl HAo.out) _ _ ⟨rfl, HRb.out, HFr.out⟩
  | range =>
    rw [ha] at he
    simp only at he
    obtain ⟨n2, N, rfl⟩ := he
    have HAo : Hid (∀ v, Lib.atoiAll T ≠ .ok v) := fun v e => by rw [ha] at e; cases e
    clear ha
    obtain ⟨-, -, hrb, -, -⟩ := HC.out w2 F3.out
    have HRb := mkHid hrb
    have HFr : Hid (Fr [r] W w2) := F3.out.mono (by simp)
    clear hrb HC
    go_wp2_with fail
    go_ret2
    exact HNo.out (.inl HAo.out) _ _ ⟨rfl, HRb.out, HFr.out⟩
end Go.Proofs.YtclkoffnjiiioaaGreatDoor
