import Derived.Test.YtclkoffnjiiioaaGreatDoorG05CLitX
import Derived.Test.YtclkoffnjiiioaaGreatDoorG01IPm
namespace Go.Proofs.YtclkoffnjiiioaaGreatDoor
open Go.RowKit
set_option linter.unusedVariables false
set_option linter.unusedSimpArgs false
attribute [local go_sem ↓] Go.wp_at_zero Go.wp_at_succ
def litv (t : LitT) : Value := .agg #[.int .i64 t.kind, .string t.text, .int .i64 t.num, t.items]
/-- what the reading of an element answers -/
def ElQ (W : World) (r : Nat) (S : Rv) (res : Option (LitS × Bs × Nat)) (e : Ending) (w' : World) : Prop :=
  ∃ (t : LitT) (ok : Bool) (x : Bs) (n : Nat), e = .returned (.tuple #[litv t, .bool ok]) ∧ RB w' r { S with rest := x, els := n } ∧ Fr [r] W w' ∧ LitsX w' (fun g => W.heap.size ≤ g) t.p t.c t.kids ∧ t.text.size ≤ 140737488355328 ∧ res = (if ok = true then some (stT t, x, n) else none)
/-- a literal without elements -/
def flat (k : Int) (tx : ByteArray) (n : Int) : LitT := .mk k tx n none 0 []
theorem flatO (w : World) (Ok : Nat → Prop) (k : Int) (tx : ByteArray) (n : Int) : LitsX w Ok (flat k tx n).p (flat k tx n).c (flat k tx n).kids := LitsX.empty w Ok
theorem flat_st (k : Int) (tx : ByteArray) (n : Int) : stT (flat k tx n) = .mk k tx n [] := by unfold flat; rw [stT, stL_nil]
/-- an answer that counts nothing -/
def up (res : Option (LitS × Bs)) (n : Nat) : Option (LitS × Bs × Nat) := match res with | some (x, r) => some (x, r, n) | none => none
theorem flat_tx (k n : Int) : (flat k ⟨#[]⟩ n).text.size ≤ 140737488355328 := by show (0 : Nat) ≤ _; omega
abbrev st4 (V : World) (g : Nat) (a0 a1 a2 a3 : Value) : World := (((V.setCell ⟨g, 0, none⟩ a0).setCell ⟨g, 1, none⟩ a1).setCell ⟨g, 2, none⟩ a2).setCell ⟨g, 3, none⟩ a3
theorem st4_ok {V : World} {g : Nat} {b0 b1 b2 b3 : Value} (a0 a1 a2 a3 : Value) (h : V.heap[g]? = some (.cells #[b0, b1, b2, b3] 49 (0, 0))) : (st4 V g a0 a1 a2 a3).heap[g]? = some (.cells #[a0, a1, a2, a3] 49 (0, 0)) ∧ Fr [g] V (st4 V g a0 a1 a2 a3) := by
  refine ⟨set_in (set_in (set_in (set_in h 0 a0) 1 a1) 2 a2) 3 a3, ?_⟩
  exact (((Fr.setCell (S := [g]) V ⟨g, 0, none⟩ a0 (by simp)).trans (Fr.setCell (S := [g]) _ ⟨g, 1, none⟩ a1 (by simp)) (by simp)).trans (Fr.setCell (S := [g]) _ ⟨g, 2, none⟩ a2 (by simp)) (by simp)).trans (Fr.setCell (S := [g]) _ ⟨g, 3, none⟩ a3 (by simp)) (by simp)
abbrev z49 : Obj := .cells #[.int .i64 0, .string ⟨#[]⟩, .int .i64 0, .slice none 0 0] 49 (0, 0)
/-- a literal is handed back by name -/
theorem fin {f : Func} {W w1 : World} {r : Nat} {S : Rv} {res : Option (LitS × Bs × Nat)} {tm : Array Value} {b0 b1 b2 b3 : Value} {x : Bs} {n : Nat} (t : LitT) (ok : Bool) (hres : f.results = #[.cell 2 49, .tmp 3]) (hg : w1.heap[W.heap.size]? = some (.cells #[b0, b1, b2, b3] 49 (0, 0))) (hf : Fr [r] W w1) (hlt : r < W.heap.size) (hb : RB w1 r { S with rest := x, els := n }) (hk : LitsX w1 (fun b => W.heap.size < b) t.p t.c t.kids) (ht : t.text.size ≤ 140737488355328) (hr : res = (if ok = true then some (stT t, x, n) else none)) (h2 : tm.getD 2 undef = .pointer (some ⟨W.heap.size, 0, none⟩)) (h3 : tm.getD 3 undef = .bool ok) :
    bodyPost Tryz.prog f (fun e w' => ElQ W r S res e w') .ret ⟨tm, []⟩ (st4 w1 W.heap.size (.int .i64 t.kind) (.string t.text) (.int .i64 t.num) t.items) := by
  obtain ⟨h4, f4⟩ := st4_ok (.int .i64 t.kind) (.string t.text) (.int .i64 t.num) t.items hg
  refine ret49 hres h4 h2 h3 ⟨t, ok, x, n, rfl, hb.fr f4 (by simp; omega), hf.trans f4 (fun b hb => .inr (by simp at hb; omega)), hk.keep f4 (fun g hg _ => by simp; omega) (fun g hg _ => by omega), ht, hr⟩
theorem noneO (w : World) (Ok : Nat → Prop) : LitsX w Ok none 0 [] := LitsX.empty w Ok
/-- the cells of the result's block -/
structure Z4 (V : World) (g : Nat) : Prop where
  c0 : V.cell? ⟨g, 0, none⟩ = some (.int .i64 0)
  c1 : V.cell? ⟨g, 1, none⟩ = some (.string ⟨#[]⟩)
  c2 : V.cell? ⟨g, 2, none⟩ = some (.int .i64 0)
  c3 : V.cell? ⟨g, 3, none⟩ = some (.slice none 0 0)
  z0 : V.frozen? ⟨g, 0, none⟩ = false
  z1 : V.frozen? ⟨g, 1, none⟩ = false
  z2 : V.frozen? ⟨g, 2, none⟩ = false
  z3 : V.frozen? ⟨g, 3, none⟩ = false
theorem z4_of {V : World} {g : Nat} (h : V.heap[g]? = some z49) : Z4 V g := ⟨cell_in h 0, cell_in h 1, cell_in h 2, cell_in h 3, frozen_in h 0, frozen_in h 1, frozen_in h 2, frozen_in h 3⟩
/-- a world behind the making of the result's block -/
structure Wz (W W0 : World) : Prop where
  fr : Fr [] W W0
  blk : W0.heap[W.heap.size]? = some z49
theorem wz_of (W : World) : Wz W (W.alloc (.cells #[.int .i64 0, .string ⟨#[]⟩, .int .i64 0, .slice none 0 0] 49)) := ⟨Fr.alloc [] W _, heap_alloc_new W _⟩
theorem Wz.on {W W0 V : World} {r : Nat} (h : Wz W W0) (hr : r < W.heap.size) (f : Fr [r] W0 V) : Fr [r] W V ∧ V.heap[W.heap.size]? = some z49 := ⟨(h.fr.mono (S' := [r]) (by simp)).trans f (by simp), (f.block _ (lt_of_heap h.blk) (by simp; omega)).trans h.blk⟩
set_option maxRecDepth 100000 in
set_option maxHeartbeats 4000000 in
theorem rinteger_ok (W : World) (r : Nat) (S : Rv) (h : RB W r S) (hE : Ev W) (hr : 9 ≤ r) : Calls Tryz.prog 103 #[pt r] W fun e w' => ElQ W r S (up (intP S.rest) S.els) e w' := by
  have hlt := h.lt
  have hz := wz_of W
  obtain ⟨W0, hW0⟩ : ∃ V, W.alloc (.cells #[.int .i64 0, .string ⟨#[]⟩, .int .i64 0, .slice none 0 0] 49) = V := ⟨_, rfl⟩
  rw [hW0] at hz
  have HN := mkHid (rnum_ok W0 r S (h.fr hz.fr (by simp)) (hE.fr0 hz.fr) hr)
  have HW0 := mkHid hW0
  have HZ := mkHid hz
  clear h hE hz hW0
  go_enter Tryz.func103, Tryz.ntmps103
  go_wp2_with fail
  rw [HW0.out]
  refine HN.out.mono ?_
  rintro e w1 hq
  unfold NumR at hq
  cases hn : numP S.rest with
  | none =>
    rw [hn] at hq
    simp only at hq
    obtain ⟨rfl, hb, hf⟩ := hq
    obtain ⟨f1, b1⟩ := HZ.out.on hlt hf
    obtain ⟨c0, c1, c2, c3, z0, z1, z2, z3⟩ := z4_of b1
    have HB := mkHid hb
    have HF := mkHid f1
    have HB1 := mkHid b1
    have HQ : Hid (up (intP S.rest) S.els = none) := by unfold intP; rw [hn]; rfl
    clear hb hf f1 b1 hn
    go_wp2_with fail
    exact fin (flat 1 ⟨#[]⟩ 0) false Tryz.results103 HB1.out HF.out hlt HB.out (noneO _ _) (flat_tx _ _) HQ.out rfl rfl
  | some q =>
    obtain ⟨v, x⟩ := q
    rw [hn] at hq
    simp only at hq
    obtain ⟨rfl, hb, hf⟩ := hq
    obtain ⟨f1, b1⟩ := HZ.out.on hlt hf
    obtain ⟨c0, c1, c2, c3, z0, z1, z2, z3⟩ := z4_of b1
    have HB := mkHid hb
    have HF := mkHid f1
    have HB1 := mkHid b1
    have HQ : Hid (up (intP S.rest) S.els = some (stT (flat 1 ⟨#[]⟩ v), x, S.els)) := by rw [flat_st]; unfold intP; rw [hn]; rfl
    clear hb hf f1 b1 hn
    go_wp2_with fail
    exact fin (flat 1 ⟨#[]⟩ v) true Tryz.results103 HB1.out HF.out hlt HB.out (noneO _ _) (flat_tx _ _) HQ.out rfl rfl
set_option maxRecDepth 100000 in
set_option maxHeartbeats 4000000 in
theorem rsymbol_ok (W : World) (r : Nat) (S : Rv) (h : RB W r S) (hE : Ev W) (hr : 9 ≤ r) (x0 : Bs) (hx : tokP [35] S.rest = some x0) : Calls Tryz.prog 101 #[pt r] W fun e w' => ElQ W r S (up (symP S.rest) S.els) e w' := by
  have hlt := h.lt
  have hz := wz_of W
  obtain ⟨W0, hW0⟩ : ∃ V, W.alloc (.cells #[.int .i64 0, .string ⟨#[]⟩, .int .i64 0, .slice none 0 0] 49) = V := ⟨_, rfl⟩
  rw [hW0] at hz
  have HT := mkHid (token_hit (h.fr hz.fr (by simp)) hx)
  have HN : Hid (∀ V, RB V r { S with rest := x0 } → Fr [r] W0 V → Calls Tryz.prog 57 #[pt r] V fun e w' => NumR V r { S with rest := x0 } e w') := fun V hb hf => rnum_ok V r _ hb ((hE.fr0 hz.fr).fr1 hf hr) hr
  have HP : Hid (symP S.rest = match numP x0 with | none => none | some (n, r2) => some (.mk 3 noTx n [], r2)) := by unfold symP; rw [hx]; rfl
  have HW0 := mkHid hW0
  have HZ := mkHid hz
  clear h hE hz hW0 hx
  go_enter Tryz.func101, Tryz.ntmps101
  go_wp2_with fail
  rw [HW0.out]
  refine HT.out.mono ?_
  rintro e w1 ⟨rfl, hb1, hf1⟩
  have HF1 := mkHid hf1
  have HN1 := mkHid (HN.out w1 hb1 hf1)
  clear hb1 hf1 HN
  go_wp2_with fail
  refine HN1.out.mono ?_
  rintro e w2 hq
  unfold NumR at hq
  simp only at hq
  cases hn : numP x0 with
  | none =>
    rw [hn] at hq
    simp only at hq
    obtain ⟨rfl, hb, hf⟩ := hq
    obtain ⟨f1, b1⟩ := HZ.out.on hlt (HF1.out.trans hf (by simp))
    obtain ⟨c0, c1, c2, c3, z0, z1, z2, z3⟩ := z4_of b1
    have HB := mkHid hb
    have HF := mkHid f1
    have HB1 := mkHid b1
    have HQ : Hid (up (symP S.rest) S.els = none) := by rw [HP.out, hn]; rfl
    clear hb hf f1 b1 hn
    go_wp2_with fail
    exact fin (flat 3 ⟨#[]⟩ 0) false Tryz.results101 HB1.out HF.out hlt HB.out (noneO _ _) (flat_tx _ _) HQ.out rfl rfl
  | some q =>
    obtain ⟨v, x⟩ := q
    rw [hn] at hq
    simp only at hq
    obtain ⟨rfl, hb, hf⟩ := hq
    obtain ⟨f1, b1⟩ := HZ.out.on hlt (HF1.out.trans hf (by simp))
    obtain ⟨c0, c1, c2, c3, z0, z1, z2, z3⟩ := z4_of b1
    have HB := mkHid hb
    have HF := mkHid f1
    have HB1 := mkHid b1
    have HQ : Hid (up (symP S.rest) S.els = some (stT (flat 3 ⟨#[]⟩ v), x, S.els)) := by rw [flat_st, HP.out, hn]; rfl
    clear hb hf f1 b1 hn
    go_wp2_with fail
    exact fin (flat 3 ⟨#[]⟩ v) true Tryz.results101 HB1.out HF.out hlt HB.out (noneO _ _) (flat_tx _ _) HQ.out rfl rfl
end Go.Proofs.YtclkoffnjiiioaaGreatDoor
namespace Go.Proofs.YtclkoffnjiiioaaGreatDoor
open Go.RowKit
set_option linter.unusedVariables false
set_option linter.unusedSimpArgs false
attribute [local go_sem ↓] Go.wp_at_zero Go.wp_at_succ
/-- what the reading of a byte answers -/
def OnR (W : World) (r : Nat) (S : Rv) (res : Option (UInt8 × Bs)) (e : Ending) (w' : World) : Prop :=
  ∃ (c : UInt8) (ok : Bool) (x : Bs), e = .returned (.tuple #[.int .u8 (c.toNat : Int), .bool ok]) ∧ RB w' r { S with rest := x } ∧ Fr [r] W w' ∧ res = (if ok = true then some (c, x) else none)
def hx (a : UInt8) : Int := Lib.indexByte hexT a
theorem hx_ok (a : UInt8) (w : World) : Calls Tryz.prog 100 #[.string ⟨#[48, 49, 50, 51, 52, 53, 54, 55, 56, 57, 97, 98, 99, 100, 101, 102]⟩, .int .u8 (a.toNat : Int)] w fun e w' => e = .returned (.int .i64 (hx a)) ∧ w' = w := by
  refine (Tryz.strings_IndexByte _ _ w).mono ?_
  rintro e w' ⟨rfl, rfl⟩
  refine ⟨?_, rfl⟩
  have : ((a.toNat : Int).toNat.toUInt8) = a := by simp
  rw [this]
  rfl
theorem hid_no {a b : UInt8} {l : Bs} (h : hx a < 0 ∨ hx b < 0) : hidP (a :: b :: l) = none := by
  unfold hidP
  simp only
  rw [if_pos (show Lib.indexByte hexT a < 0 ∨ Lib.indexByte hexT b < 0 from h)]
theorem hid_is {a b : UInt8} {l : Bs} {p q : Nat} (ha : hx a = (p : Int)) (hb : hx b = (q : Int)) : hidP (a :: b :: l) = (if (!plainB (UInt8.ofNat (p * 16 + q)) && !markB (UInt8.ofNat (p * 16 + q))) = true then some (UInt8.ofNat (p * 16 + q), l) else none) := by
  unfold hidP
  simp only
  have ha' : Lib.indexByte hexT a = (p : Int) := ha
  have hb' : Lib.indexByte hexT b = (q : Int) := hb
  rw [ha', hb', if_neg (by omega)]
  simp only [Int.toNat_natCast]
  cases plainB (UInt8.ofNat (p * 16 + q)) <;> cases markB (UInt8.ofNat (p * 16 + q)) <;> simp
theorem bit_tab : ∀ p q : Fin 16, bits BinOp.or IntKind.i64 ((p.val : Int) * 16) (q.val : Int) % 256 = (((UInt8.ofNat (p.val * 16 + q.val)).toNat : Nat) : Int) := by decide +kernel
theorem mkB_is (c : UInt8) : mkB c = markB c := by
  unfold mkB markB
  by_cases h1 : c = 39
  · simp [h1]
  · by_cases h2 : c = 92
    · simp [h2]
    · simp [h1, h2]
theorem plB_is (c : UInt8) : (decide (32 ≤ c.toNat) && decide (c.toNat ≤ 126) && !mkB c) = plainB c := by
  unfold plainB
  rw [mkB_is]
  rfl
theorem rplain_ok (c : UInt8) (w : World) : Calls Tryz.prog 82 #[.int .u8 (c.toNat : Int)] w fun e w' => e = .returned (.bool (plainB c)) ∧ w' = w := by rw [← plB_is]; exact isPlain_ok c w
theorem rmark_ok (c : UInt8) (w : World) : Calls Tryz.prog 81 #[.int .u8 (c.toNat : Int)] w fun e w' => e = .returned (.bool (markB c)) ∧ w' = w := by rw [← mkB_is]; exact isMark_ok c w
theorem ext_drop (s : Bs) (k : Nat) : (bA s).extract k (bA s).size = bA (s.drop k) := by
  apply ByteArray.ext
  rw [ByteArray.data_extract]
  apply Array.toList_inj.1
  simp [bA, ByteArray.size]
  rw [List.take_of_length_le (by rw [List.length_drop]; omega)]
set_option maxRecDepth 100000 in
set_option maxHeartbeats 4000000 in
theorem hidden_ok (W : World) (r : Nat) (S : Rv) (h : RB W r S) : Calls Tryz.prog 79 #[pt r] W fun e w' => OnR W r S (hidP S.rest) e w' := by
  have c7 : W.cell? ⟨r, 7, none⟩ = some (.string (bA S.rest)) := h.cl 7
  have z7 := h.fz 7
  by_cases hl : S.rest.length < 2
  · have HQ : Hid (hidP S.rest = none) := by
      match hS : S.rest, hl with
      | [], _ => rfl
      | [a], _ => rfl
      | a :: b :: l, hl => simp at hl; omega
    have hd : ((bA S.rest).size : Int) < 2 := by rw [bA_size]; omega
    have HB := mkHid h
    clear h hl
    go_enter Tryz.func79, Tryz.ntmps79
    go_wp2_with fail
    go_ret2
    exact ⟨0, false, S.rest, rfl, HB.out, Fr.refl _ _, HQ.out⟩
  · obtain ⟨a, b, l, hS⟩ : ∃ a b l, S.rest = a :: b :: l := by
      match hS : S.rest, hl with
      | [], hl => simp at hl
      | [a], hl => simp at hl
      | a :: b :: l, hl => exact ⟨a, b, l, rfl⟩
    rw [hS] at c7
    have hd : ¬ ((bA (a :: b :: l)).size : Int) < 2 := by rw [bA_size]; simp; omega
    have s0 : 0 < (bA (a :: b :: l)).size := by rw [bA_size]; simp
    have s1 : 1 < (bA (a :: b :: l)).size := by rw [bA_size]; simp
    have s2 : (0 : Int) < ((bA (a :: b :: l)).size : Int) := by omega
    have s3 : (1 : Int) < ((bA (a :: b :: l)).size : Int) := by omega
    have e0 : (bA (a :: b :: l))[0] = a := rfl
    have e1 : (bA (a :: b :: l))[1] = b := rfl
    have HI : Hid (∀ (u : UInt8) q, Calls Tryz.prog 100 #[.string ⟨#[48, 49, 50, 51, 52, 53, 54, 55, 56, 57, 97, 98, 99, 100, 101, 102]⟩, .int .u8 (u.toNat : Int)] (W.drewN q) fun e w' => e = .returned (.int .i64 (hx u)) ∧ w' = W.drewN q) := fun u q => hx_ok u _
    have HB := mkHid h
    clear h hl
    go_enter Tryz.func79, Tryz.ntmps79
    go_wp2_with fail
    go_quiet (first | (go_at_call 100; refine (HI.out _ _).mono ?_; rintro e w'' ⟨rfl, rfl⟩; exact ⟨rfl, _, rfl⟩))
    rename_i nq
    have fV : Fr [] W (W.drewN nq) := Fr.drewN [] W nq
    have hV0 : RB (W.drewN nq) r S := HB.out.fr fV (by simp)
    obtain ⟨V, hV⟩ : ∃ V, W.drewN nq = V := ⟨_, rfl⟩
    rw [hV] at fV hV0
    rw [hV]
    clear hV c7 z7 HI
    have c7 : V.cell? ⟨r, 7, none⟩ = some (.string (bA (a :: b :: l))) := by have := hV0.cl 7; rw [show S.c[7]? = some (.string (bA S.rest)) from rfl, hS] at this; exact this
    have z7 := hV0.fz 7
    have HF : Hid (Fr [r] W V) := fV.mono (by simp)
    have HV0 := mkHid hV0
    clear fV hV0
    by_cases ha : hx a < 0
    · have HQ : Hid (hidP S.rest = none) := by rw [hS]; exact hid_no (.inl ha)
      go_wp2_with fail
      go_ret2
      exact ⟨0, false, S.rest, rfl, HV0.out, HF.out, by first | exact HQ.out | (rw [← hS]; exact HQ.out)⟩
    by_cases hb : hx b < 0
    · have HQ : Hid (hidP S.rest = none) := by rw [hS]; exact hid_no (.inr hb)
      go_wp2_with fail
      go_ret2
      exact ⟨0, false, S.rest, rfl, HV0.out, HF.out, by first | exact HQ.out | (rw [← hS]; exact HQ.out)⟩
    obtain ⟨p, hp, hp16⟩ : ∃ p : Nat, hx a = (p : Int) ∧ p < 16 := by
      rcases hex_byte a with h | ⟨h, -⟩
      · exact absurd h ha
      · exact ⟨(hx a).toNat, by omega, h⟩
    obtain ⟨q, hq, hq16⟩ : ∃ q : Nat, hx b = (q : Int) ∧ q < 16 := by
      rcases hex_byte b with h | ⟨h, -⟩
      · exact absurd h hb
      · exact ⟨(hx b).toNat, by omega, h⟩
    have hbt := bit_tab ⟨p, hp16⟩ ⟨q, hq16⟩
    simp only at hbt
    have HQ : Hid (hidP S.rest = (if (!plainB (UInt8.ofNat (p * 16 + q)) && !markB (UInt8.ofNat (p * 16 + q))) = true then some (UInt8.ofNat (p * 16 + q), l) else none)) := by rw [hS]; exact hid_is hp hq
    have HBt := mkHid hbt
    have HX : Hid ((bA (a :: b :: l)).extract 2 (bA (a :: b :: l)).size = bA l) := ext_drop (a :: b :: l) 2
    have hsm := HV0.out.small
    rw [hS] at hsm
    have HR := mkHid (HV0.out.setRest l (by have := hsm.2; simp at this; omega))
    have HF2 : Hid (Fr [r] W (V.setCell ⟨r, 7, none⟩ (.string (bA l)))) := HF.out.trans (Fr.setCell (S := [r]) V ⟨r, 7, none⟩ _ (by simp)) (by simp)
    rw [hp] at ha ⊢
    rw [hq] at hb ⊢
    clear hp hq hbt hsm
    generalize UInt8.ofNat (p * 16 + q) = c at *
    have p0 : (0 : Int) ≤ (p : Int) := by omega
    have p1 : (p : Int) < 16 := by omega
    go_wp2_with fail
    rw [HX.out, HBt.out]
    refine (rplain_ok c _).mono ?_
    rintro e w2 ⟨rfl, rfl⟩
    cases hpl : plainB c
    · rw [hpl] at HQ
      go_wp2_with fail
      refine (rmark_ok c _).mono ?_
      rintro e w2 ⟨rfl, rfl⟩
      go_wp2_with fail
      go_ret2
      exact ⟨c, !markB c, l, rfl, HR.out, HF2.out, by rw [HQ.out]; rfl⟩
    · rw [hpl] at HQ
      go_wp2_with fail
      go_ret2
      exact ⟨c, false, l, rfl, HR.out, HF2.out, by rw [HQ.out]; rfl⟩
set_option maxRecDepth 100000 in
set_option maxHeartbeats 4000000 in
theorem oneByte_ok (W : World) (r : Nat) (S : Rv) (h : RB W r S) : Calls Tryz.prog 67 #[pt r] W fun e w' => OnR W r S (oneP S.rest) e w' := by
  have hsm := h.small.2
  cases h1 : tokP [92, 120] S.rest with
  | some x =>
    have HT := mkHid (token_hit h h1)
    have HQ : Hid (oneP S.rest = hidP x) := by unfold oneP; rw [h1]; rfl
    have HH : Hid (∀ V, RB V r { S with rest := x } → Calls Tryz.prog 79 #[pt r] V fun e w' => OnR V r { S with rest := x } (hidP x) e w') := fun V hV => hidden_ok V r _ hV
    clear h h1
    go_enter Tryz.func67, Tryz.ntmps67
    go_wp2_with fail
    refine HT.out.mono ?_
    rintro e w1 ⟨rfl, hb, hf⟩
    have H2 := mkHid (HH.out w1 hb)
    have HF := mkHid hf
    clear hb hf HH
    go_wp2_with fail
    refine H2.out.mono ?_
    rintro e w2 ⟨c, ok, y, rfl, hb, hf, hq⟩
    have HB := mkHid hb
    have HF2 := mkHid (HF.out.trans hf (by simp))
    have HQ2 := mkHid hq
    clear hb hf hq
    go_wp2_with fail
    go_ret2
    exact ⟨c, ok, y, rfl, HB.out, HF2.out, by rw [HQ.out]; exact HQ2.out⟩
  | none =>
    have HT := mkHid (token_miss h h1)
    cases h2 : tokP [92] S.rest with
    | some x =>
      have HT2 : Hid (∀ V, RB V r S → Calls Tryz.prog 52 #[pt r, .string (bA [92])] V fun e w' => e = .returned (.bool true) ∧ RB w' r { S with rest := x } ∧ Fr [r] V w') := fun V hV => token_hit hV h2
      have HFs : Hid (∀ V, RB V r { S with rest := x } → Calls Tryz.prog 80 #[pt r] V fun e w' => e = .returned (.int .u8 ((fstB x).toNat : Int)) ∧ w' = V) := fun V hV => first_ok V r _ hV
      have hxl : x.length ≤ 281474976710656 := by
        have := tok_some h2
        rw [this] at hsm
        simp at hsm
        omega
      have HQ : Hid (oneP S.rest = (if markB (fstB x) = true then some (fstB x, x.drop 1) else none) ∧ (markB (fstB x) = true → 0 < x.length)) := by
        unfold oneP
        rw [h1, h2]
        cases x with
        | nil => exact ⟨rfl, fun h => by cases h⟩
        | cons c l => exact ⟨rfl, fun _ => by simp⟩
      clear h h1 h2
      go_enter Tryz.func67, Tryz.ntmps67
      go_wp2_with fail
      refine HT.out.mono ?_
      rintro e w1 ⟨rfl, hb, hf⟩
      have H2 := mkHid (HT2.out w1 hb)
      have HF := mkHid hf
      clear hb hf HT2
      go_wp2_with fail
      refine H2.out.mono ?_
      rintro e w2 ⟨rfl, hb, hf⟩
      have H3 := mkHid (HFs.out w2 hb)
      have HB := mkHid hb
      have HF2 := mkHid (HF.out.trans hf (by simp))
      have c7 : w2.cell? ⟨r, 7, none⟩ = some (.string (bA x)) := hb.cl 7
      have z7 := hb.fz 7
      have HR := mkHid (hb.setRest (x.drop 1) (by rw [List.length_drop]; simp; omega))
      have HF3 : Hid (Fr [r] W (w2.setCell ⟨r, 7, none⟩ (.string (bA (x.drop 1))))) := HF2.out.trans (Fr.setCell (S := [r]) w2 ⟨r, 7, none⟩ _ (by simp)) (by simp)
      have HX : Hid ((bA x).extract 1 (bA x).size = bA (x.drop 1)) := ext_drop x 1
      clear hb hf HFs
      go_wp2_with fail
      refine H3.out.mono ?_
      rintro e w3 ⟨rfl, rfl⟩
      generalize fstB x = c at *
      go_wp2_with fail
      refine (rmark_ok c _).mono ?_
      rintro e w4 ⟨rfl, rfl⟩
      cases hm : markB c
      · rw [hm] at HQ
        go_wp2_with fail
        go_ret2
        exact ⟨0, false, x, rfl, HB.out, HF2.out, by rw [HQ.out.1]; rfl⟩
      · rw [hm] at HQ
        have hpos := HQ.out.2 rfl
        have k1 : (1 : Int) ≤ ((bA x).size : Int) := by rw [bA_size]; omega
        have k2 : (bA x).size ≤ 281474976710656 := by rw [bA_size]; exact hxl
        go_wp2_with fail
        rw [HX.out]
        go_ret2
        exact ⟨c, true, x.drop 1, rfl, HR.out, HF3.out, by rw [HQ.out.1]; rfl⟩
    | none =>
      have HT2 : Hid (∀ V, RB V r S → Calls Tryz.prog 52 #[pt r, .string (bA [92])] V fun e w' => e = .returned (.bool false) ∧ RB w' r S ∧ Fr [r] V w') := fun V hV => token_miss hV h2
      have HFs : Hid (∀ V, RB V r S → Calls Tryz.prog 80 #[pt r] V fun e w' => e = .returned (.int .u8 ((fstB S.rest).toNat : Int)) ∧ w' = V) := fun V hV => first_ok V r _ hV
      have HQ : Hid (oneP S.rest = (if plainB (fstB S.rest) = true then some (fstB S.rest, S.rest.drop 1) else none) ∧ (plainB (fstB S.rest) = true → 0 < S.rest.length)) := by
        unfold oneP
        rw [h1, h2]
        cases S.rest with
        | nil => exact ⟨rfl, fun h => by cases h⟩
        | cons c l => exact ⟨rfl, fun _ => by simp⟩
      clear h h1 h2
      go_enter Tryz.func67, Tryz.ntmps67
      go_wp2_with fail
      refine HT.out.mono ?_
      rintro e w1 ⟨rfl, hb, hf⟩
      have H2 := mkHid (HT2.out w1 hb)
      have HF := mkHid hf
      clear hb hf HT2
      go_wp2_with fail
      refine H2.out.mono ?_
      rintro e w2 ⟨rfl, hb, hf⟩
      have H3 := mkHid (HFs.out w2 hb)
      have HB := mkHid hb
      have HF2 := mkHid (HF.out.trans hf (by simp))
      have c7 : w2.cell? ⟨r, 7, none⟩ = some (.string (bA S.rest)) := hb.cl 7
      have z7 := hb.fz 7
      have HR := mkHid (hb.setRest (S.rest.drop 1) (by rw [List.length_drop]; omega))
      have HF3 : Hid (Fr [r] W (w2.setCell ⟨r, 7, none⟩ (.string (bA (S.rest.drop 1))))) := HF2.out.trans (Fr.setCell (S := [r]) w2 ⟨r, 7, none⟩ _ (by simp)) (by simp)
      have HX : Hid ((bA S.rest).extract 1 (bA S.rest).size = bA (S.rest.drop 1)) := ext_drop S.rest 1
      clear hb hf HFs
      go_wp2_with fail
      refine H3.out.mono ?_
      rintro e w3 ⟨rfl, rfl⟩
      generalize fstB S.rest = c at *
      go_wp2_with fail
      refine (rplain_ok c _).mono ?_
      rintro e w4 ⟨rfl, rfl⟩
      cases hm : plainB c
      · rw [hm] at HQ
        go_wp2_with fail
        go_ret2
        exact ⟨0, false, S.rest, rfl, HB.out, HF2.out, by rw [HQ.out.1]; rfl⟩
      · rw [hm] at HQ
        have hpos := HQ.out.2 rfl
        have k1 : (1 : Int) ≤ ((bA S.rest).size : Int) := by rw [bA_size]; omega
        have k2 : (bA S.rest).size ≤ 281474976710656 := by rw [bA_size]; exact hsm
        go_wp2_with fail
        rw [HX.out]
        go_ret2
        exact ⟨c, true, S.rest.drop 1, rfl, HR.out, HF3.out, by rw [HQ.out.1]; rfl⟩
end Go.Proofs.YtclkoffnjiiioaaGreatDoor
namespace Go.Proofs.YtclkoffnjiiioaaGreatDoor
open Go.RowKit
set_option linter.unusedVariables false
set_option linter.unusedSimpArgs false
attribute [local go_sem ↓] Go.wp_at_zero Go.wp_at_succ
/-- a byte more behind a row of bytes -/
theorem push_byte (w : World) (base : Nat) (p : Option Addr) (c : Nat) (bs : Bs) (b : UInt8) (h : w.ownsRow base 5 1 (.slice p bs.length c) bs.length (Lib.byteCells bs)) (hb : bs.length + 1 ≤ 1000000) (hB : base ≤ w.heap.size) :
    ∃ p' c' w', (Builtin.append_ #[57, 57] 57 #[.slice p bs.length c, .slice (some ⟨w.heap.size, 0, none⟩) 1 1]).run Tryz.prog (w.alloc (.cells #[.int .u8 (b.toNat : Int)] 5)) = .ok (.slice p' (bs.length + 1) c') w' ∧
      w'.ownsRow base 5 1 (.slice p' (bs ++ [b]).length c') (bs ++ [b]).length (Lib.byteCells (bs ++ [b])) ∧ ((p' = p ∧ c' = c ∧ Fr (blk p) w w') ∨ (Fr [] w w' ∧ ∀ g ∈ blk p', w.heap.size ≤ g)) := by
  obtain ⟨i5, ii, iz, is, ib⟩ := info_parts info5
  have hl : (Lib.byteCells bs).length = bs.length := by simp [Lib.byteCells]
  have := push2 Tryz.underlying57 ii iz is ib rfl w base p c (Lib.byteCells bs) (.int .u8 (b.toNat : Int)) (by rw [hl]; exact h) rfl (by rw [hl]; unfold maxLen; omega) (by rw [hl]; omega) hB
  rw [hl] at this
  obtain ⟨p', c', w', r1, r2, r3⟩ := this
  exact ⟨p', c', w', r1, by rw [List.length_append, Lib.byteCells_append]; exact r2, r3⟩
/-- a row of bytes becomes a text -/
theorem row_conv {W : World} {B : Nat} {v : Value} {bs : Bs} (hr : W.ownsRow B 5 1 v bs.length (Lib.byteCells bs)) : (convert 57 9 v).run Tryz.prog W = .ok (.string (bA bs)) W := by
  rcases hr.2 with ⟨rfl, h0⟩ | ⟨g, cap, cur, rfl, h1, h2, h3, h4, h5, h6⟩
  · have hb : bs = [] := List.length_eq_zero_iff.1 h0
    subst hb
    exact run_convert_bytes_nil W 57 5 Tryz.underlying57 Tryz.underlying5 0 0 9 Tryz.underlying9
  · refine run_convert_bytes_back W 57 9 5 ⟨g, 0, none⟩ cap bs Tryz.underlying57 Tryz.underlying5 Tryz.underlying9 (fun j hj => ?_)
    have hp : (⟨g, 0, none⟩ : Addr).add j = ⟨g, j, none⟩ := by rw [Addr.add_mid]; simp
    rw [hp, hr.cellAt j (by omega)]
    simp [Lib.byteCells, List.getElem?_eq_getElem hj]
/-- how much of the line is left -/
def lenW (r : Nat) (w : World) : Nat := match w.cell? ⟨r, 7, none⟩ with | some (.string s) => s.size | _ => 0
theorem lenW_is {W : World} {r : Nat} {S : Rv} (h : RB W r S) : lenW r W = S.rest.length := by
  unfold lenW
  rw [h.cl 7]
  show (bA S.rest).size = _
  exact bA_size _
/-- a text under way -/
def QS (W : World) (r : Nat) (S : Rv) (R : Option (Bs × Bs)) (v : Value) (wr : World) : Prop :=
  ∃ (p : Option Addr) (c : Nat) (acc x : Bs) (f : Nat), v = .slice p acc.length c ∧ wr.ownsRow (W.heap.size + 1) 5 1 (.slice p acc.length c) acc.length (Lib.byteCells acc) ∧ RB wr r { S with rest := x } ∧ Fr [r] W wr ∧ wr.heap[W.heap.size]? = some z49 ∧ quoP f x acc = R ∧ x.length < f ∧ acc.length ≤ 256
theorem own_keep {w w' : World} {base r : Nat} {e : TypeId} {s n : Nat} {v : Value} {xs : List Value} (h : w.ownsRow base e s v n xs) (f : Fr [r] w w') (hr : r < base) : w'.ownsRow base e s v n xs := own_congr h fun g hg => f.block g (own_lt h g hg).2 (by have := (own_lt h g hg).1; simp; omega)
theorem one_lt {x y : Bs} {c : UInt8} (h : oneP x = some (c, y)) : y.length < x.length := by
  rw [one_some h, List.length_append]
  have := esc_len1 c
  omega
set_option maxRecDepth 100000 in
set_option maxHeartbeats 8000000 in
theorem quoted_ok (W : World) (r : Nat) (S : Rv) (h : RB W r S) : Calls Tryz.prog 55 #[pt r] W fun e w' => ElQ W r S (up (txtP S.rest) S.els) e w' := by
  have hlt := h.lt
  have hz := wz_of W
  obtain ⟨W0, hW0⟩ : ∃ V, W.alloc (.cells #[.int .i64 0, .string ⟨#[]⟩, .int .i64 0, .slice none 0 0] 49) = V := ⟨_, rfl⟩
  rw [hW0] at hz
  have hb0 := h.fr hz.fr (by simp)
  have HW0 := mkHid hW0
  have HZ := mkHid hz
  clear h hz hW0
  cases h1 : tokP [39] S.rest with
  | none =>
    have HT := mkHid (token_miss hb0 h1)
    have HQ : Hid (up (txtP S.rest) S.els = none) := by unfold txtP; rw [h1]; rfl
    clear h1 hb0
    go_enter Tryz.func55, Tryz.ntmps55
    go_wp2_with fail
    rw [HW0.out]
    refine HT.out.mono ?_
    rintro e w1 ⟨rfl, hb, hf⟩
    obtain ⟨f1, b1⟩ := HZ.out.on hlt hf
    obtain ⟨c0, c1, c2, c3, z0, z1, z2, z3⟩ := z4_of b1
    have HB := mkHid hb
    have HF := mkHid f1
    have HB1 := mkHid b1
    clear hb hf f1 b1
    go_wp2_with fail
    exact fin (flat 0 ⟨#[]⟩ 0) false Tryz.results55 HB1.out HF.out hlt HB.out (noneO _ _) (flat_tx _ _) HQ.out rfl rfl
  | some x0 =>
    have HT := mkHid (token_hit hb0 h1)
    have hsm : x0.length ≤ 281474976710656 := by
      have h2 := hb0.small.2
      rw [tok_some h1] at h2
      simp at h2
      omega
    obtain ⟨R, hR⟩ : ∃ R, quoP (x0.length + 1) x0 [] = R := ⟨_, rfl⟩
    have HQ0 : Hid (R = none → up (txtP S.rest) S.els = none) := fun e => by unfold txtP; rw [h1]; simp only; rw [hR, e]; rfl
    have HQ1 : Hid (∀ b y, R = some (b, y) → up (txtP S.rest) S.els = some (stT (flat 2 (bA b) 0), y, S.els)) := fun b y e => by rw [flat_st]; unfold txtP; rw [h1]; simp only; rw [hR, e]; rfl
    have HR := mkHid hR
    clear h1 hb0 hR
    go_enter Tryz.func55, Tryz.ntmps55
    go_wp2_with fail
    rw [HW0.out]
    refine HT.out.mono ?_
    rintro e w1 ⟨rfl, hb, hf⟩
    obtain ⟨f1, b1⟩ := HZ.out.on hlt hf
    have HS : Hid (QS W r S R (.slice none 0 0) w1) := ⟨none, 0, [], x0, x0.length + 1, rfl, ⟨rfl, .inl ⟨rfl, rfl⟩⟩, hb, f1, b1, HR.out, by omega, by simp⟩
    clear hb hf f1 b1 HT HR HZ HW0
    go_wp2_with fail
    go_loopw [4] (fun v wr => Hid (QS W r S R v wr)) (fun _ wr => lenW r wr)
    case atStart => exact HS.out
    case round =>
      clear HS
      obtain ⟨p, c, acc, x, f, rfl, hrow, hb, hf, b1, hq, hxf, hacc⟩ := hrel.out
      have hmes := lenW_is hb
      simp only at hmes
      cases f with
      | zero => omega
      | succ f =>
      rw [quoP] at hq
      cases ht : tokP [39] x with
      | some y =>
        rw [ht] at hq
        simp only at hq
        have HT := mkHid (token_hit hb ht)
        have HQ := mkHid (HQ1.out acc y hq.symm)
        have HK : Hid (∀ V, Fr [r] wr V → Fr [r] W V ∧ V.heap[W.heap.size]? = some z49 ∧ (convert 57 9 (.slice p acc.length c)).run Tryz.prog V = .ok (.string (bA acc)) V) := fun V fV => ⟨hf.trans fV (by simp), (fV.block _ (lt_of_heap b1) (by simp; omega)).trans b1, row_conv (own_keep hrow fV (by omega))⟩
        have htx : (flat 2 (bA acc) 0).text.size ≤ 140737488355328 := by show (bA acc).size ≤ _; rw [bA_size]; omega
        clear hrel hrow hb hf b1 hq ht HQ0 HQ1
        go_wp2_with fail
        refine HT.out.mono ?_
        rintro e w2 ⟨rfl, hb2, hf2⟩
        obtain ⟨f2, b2, hcv⟩ := HK.out w2 hf2
        obtain ⟨c0, c1, c2, c3, z0, z1, z2, z3⟩ := z4_of b2
        have HB := mkHid hb2
        have HF := mkHid f2
        have HB1 := mkHid b2
        clear hb2 hf2 f2 b2 HK
        go_wp2_with fail
        exact fin (flat 2 (bA acc) 0) true Tryz.results55 HB1.out HF.out hlt HB.out (noneO _ _) htx HQ.out rfl rfl
      | none =>
        rw [ht] at hq
        simp only at hq
        have HT := mkHid (token_miss hb ht)
        have HO : Hid (∀ V, RB V r { S with rest := x } → Calls Tryz.prog 67 #[pt r] V fun e w' => OnR V r { S with rest := x } (oneP x) e w') := fun V hV => oneByte_ok V r _ hV
        have HK : Hid (∀ V, Fr [r] wr V → Fr [r] W V ∧ V.heap[W.heap.size]? = some z49 ∧ V.ownsRow (W.heap.size + 1) 5 1 (.slice p acc.length c) acc.length (Lib.byteCells acc)) := fun V fV => ⟨hf.trans fV (by simp), (fV.block _ (lt_of_heap b1) (by simp; omega)).trans b1, own_keep hrow fV (by omega)⟩
        have HLt := mkHid (lt_of_heap b1)
        have HQq := mkHid hq
        clear hrel hrow hb hf b1 hq ht HQ1
        go_wp2_with fail
        refine HT.out.mono ?_
        rintro e w2 ⟨rfl, hb2, hf2⟩
        have H2 := mkHid (HO.out w2 hb2)
        have HF2 := mkHid hf2
        clear hb2 hf2 HO HT
        go_wp2_with fail
        refine H2.out.mono ?_
        rintro e w3 ⟨b, ok, y, rfl, hb3, hf3, ho⟩
        have hf23 := HF2.out.trans hf3 (by simp)
        obtain ⟨f2, b2, hrow⟩ := HK.out w3 hf23
        obtain ⟨c0, c1, c2, c3, z0, z1, z2, z3⟩ := z4_of b2
        have HB := mkHid hb3
        have HF := mkHid f2
        have HB1 := mkHid b2
        cases ok with
        | false =>
          have HQ : Hid (up (txtP S.rest) S.els = none) := HQ0.out (by rw [← HQq.out, ho]; rfl)
          clear hb3 hf3 f2 b2 HK hf23 hrow ho HQq HQ0 HF2
          go_wp2_with fail
          exact fin (flat 0 ⟨#[]⟩ 0) false Tryz.results55 HB1.out HF.out hlt HB.out (noneO _ _) (flat_tx _ _) HQ.out rfl rfl
        | true =>
          simp only [if_true] at ho
          have hq2 := HQq.out
          rw [ho] at hq2
          simp only at hq2
          by_cases h256 : acc.length = 256
          · have HQ : Hid (up (txtP S.rest) S.els = none) := HQ0.out (by rw [← hq2, if_pos h256])
            have h256' : ((acc.length : Int) == 256) = true := by rw [h256]; rfl
            clear hb3 hf3 f2 b2 HK hf23 hrow ho HQq HQ0 HF2 hq2 h256
            go_wp2_with fail
            exact fin (flat 0 ⟨#[]⟩ 0) false Tryz.results55 HB1.out HF.out hlt HB.out (noneO _ _) (flat_tx _ _) HQ.out rfl rfl
          · rw [if_neg h256] at hq2
            have hsz := HLt.out
            have hsz3 : W.heap.size + 1 ≤ w3.heap.size := lt_of_heap b2
            obtain ⟨p', c', w4, hr4, hrow4, hcase⟩ := push_byte w3 (W.heap.size + 1) p c acc b hrow (by omega) hsz3
            have hone := one_lt ho
            have HR4 := mkHid hr4
            have hrk : ∀ g ∈ blk p, W.heap.size + 1 ≤ g := fun g hg => (own_lt hrow g ((blk_own _ _ _ _).2 hg)).1
            have hf4 : Fr (blk p) w3 w4 := by
              rcases hcase with ⟨-, -, q⟩ | ⟨q, -⟩
              · exact q
              · exact q.mono (by simp)
            have hb4 := hb3.fr hf4 (fun hm => by have := hrk r hm; omega)
            have HS : Hid (QS W r S R (.slice p' (acc.length + 1) c') w4) := ⟨p', c', acc ++ [b], y, f, by simp, hrow4, hb4, f2.trans hf4 (fun g hg => .inr (by have := hrk g hg; omega)), (hf4.block _ (lt_of_heap b2) (fun hm => by have := hrk _ hm; omega)).trans b2, hq2, by omega, by simp; omega⟩
            have hm4 := lenW_is hb4
            simp only at hm4
            have h256' : ((acc.length : Int) == 256) = false := by simpa using (show ¬ (acc.length : Int) = 256 by omega)
            clear hb3 hf3 f2 b2 HK hf23 hrow ho HQq HQ0 HF2 hq2 h256 hr4 hrow4 hcase hrk hf4 hb4
            go_wp2_with (at_builtin; refine Lib.wpList_append_run _ rfl (.tmp 27) (.tmp 29) 57 57 rfl _ _ rfl rfl _ _ HR4.out ?_)
            go_roundw
            case rel => exact HS.out
            case measure => rw [hm4, hmes]; exact hone
end Go.Proofs.YtclkoffnjiiioaaGreatDoor
