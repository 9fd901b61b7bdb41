import Derived.Test.YtclkoffnjiiioaaGreatDoorTG17JRd3
import Derived.Test.YtclkoffnjiiioaaGreatDoorTJLin
import Derived.Test.YtclkoffnjiiioaaGreatDoorTG12INum
namespace Go.Proofs.YtclkoffnjiiioaaGreatDoor
open Go.RowKit
set_option linter.unusedVariables false
set_option linter.unusedSimpArgs false
attribute [local go_sem ↓] Go.wp_at_zero Go.wp_at_succ
/-- a Lit that is a result by name -/
theorem ret49 {f : Func} {V : World} {B p q : Nat} {tm : Array Value} {a0 a1 a2 a3 b : Value} {R : Ending → World → Prop} (hres : f.results = #[.cell p 49, .tmp q]) (hVb : V.heap[B]? = some (.cells #[a0, a1, a2, a3] 49 (0, 0)))
    (h2 : tm.getD p undef = .pointer (some ⟨B, 0, none⟩)) (h3 : tm.getD q undef = b) (hR : R (.returned (.tuple #[.agg #[a0, a1, a2, a3], b])) V) : bodyPost Tryz.prog f R .ret ⟨tm, []⟩ V := by
  have x0 : V.cell? ⟨B, 0, none⟩ = some a0 := by rw [cell_in hVb]; rfl
  have x1 : V.cell? ⟨B, 1, none⟩ = some a1 := by rw [cell_in hVb]; rfl
  have x2 : V.cell? ⟨B, 2, none⟩ = some a2 := by rw [cell_in hVb]; rfl
  have x3 : V.cell? ⟨B, 3, none⟩ = some a3 := by rw [cell_in hVb]; rfl
  have h2' : tm[p]?.getD undef = .pointer (some ⟨B, 0, none⟩) := by simpa using h2
  have h3' : tm[q]?.getD undef = b := by simpa using h3
  refine bodyPost_ret (v := .tuple #[.agg #[a0, a1, a2, a3], b]) (by simp [results, hres, go_sem, h2, h2', h3, h3', x0, x1, x2, x3]) rfl hR
theorem opN_none {b : Bs} (h : ∀ j, 1 ≤ j → j ≤ 28 → (nmB j).data.toList ≠ b) : opN b = 0 := by
  by_cases h0 : opN b = 0
  · exact h0
  · obtain ⟨h1, h2, h3⟩ := opN_some h0
    exact absurd h3 (h _ h1 h2)
set_option maxHeartbeats 2000000 in
theorem numberOf_ok (b : Bs) (W : World) (ht : Tb W) : Calls Tryz.prog 71 #[.string (bA b)] W fun e w' => e = .returned (.int .i64 (opN b : Int)) ∧ w' = W := by
  have HT := mkHid ht
  have HR : Hid (∀ i : Nat, 1 ≤ i → i ≤ 28 → (nmB i).data.toList = b → opN b = i) := fun i h1 h2 e => by rw [← e]; exact (nm_is i (by omega)).2 h1
  have HN : Hid ((∀ j, 1 ≤ j → j ≤ 28 → (nmB j).data.toList ≠ b) → opN b = 0) := opN_none
  clear ht
  go_enter Tryz.func71, Tryz.ntmps71
  go_wp2_with fail
  go_loopw [3] (fun q wr => wr = W ∧ ∃ i : Nat, 1 ≤ i ∧ i ≤ 29 ∧ q = .int .i64 (i : Int) ∧ Hid (∀ j, 1 ≤ j → j < i → (nmB j).data.toList ≠ b)) (fun q _ => 29 - (intOf q).toNat)
  case atStart => exact ⟨rfl, 1, by omega, by omega, rfl, fun j h1 h2 => by omega⟩
  case round =>
    obtain ⟨rfl, i, h1, h2, rfl, hst⟩ := hrel
    have i0 : (0 : Int) ≤ (i : Int) := by omega
    by_cases hlt : i ≤ 28
    · have i1 : (i : Int) ≤ 28 := by omega
      have i2 : (i : Int) < 29 := by omega
      have c0 := (HT.out i (by omega)).1
      by_cases he : (nmB i).data.toList = b
      · have hb : ((nmB i).toList == (bA b).toList) = true := by rw [Lib.toList_data, bA_tl, he]; simp
        have HE := mkHid (HR.out i h1 hlt he)
        clear he hst
        go_wp2_with fail
        go_ret
        exact ⟨by rw [HE.out]; rfl, rfl⟩
      · have hb : ((nmB i).toList == (bA b).toList) = false := by rw [Lib.toList_data, bA_tl]; simpa using he
        have HE : Hid (∀ j, 1 ≤ j → j < i + 1 → (nmB j).data.toList ≠ b) := fun j q1 q2 => by
          by_cases hj : j = i
          · rw [hj]; exact he
          · exact hst.out j q1 (by omega)
        clear he hst
        go_wp2_with fail
        go_roundw
        case rel => exact ⟨trivial, i + 1, by omega, by omega, by go_num, HE.out⟩
        case measure => simp [intOf]; omega
    · have : i = 29 := by omega
      subst this
      have HE := mkHid (HN.out (fun j q1 q2 => hst.out j q1 (by omega)))
      clear hst
      go_wp2_with fail
      go_ret
      exact ⟨by rw [HE.out]; rfl, rfl⟩
theorem ixB : ∀ (s : Bs) (c : UInt8), (Lib.indexByte s c < 0 ∧ s.takeWhile (· != c) = s ∧ s.dropWhile (· != c) = []) ∨ (Lib.indexByte s c = ((s.takeWhile (· != c)).length : Int) ∧ s.dropWhile (· != c) ≠ [])
  | [], c => .inl ⟨by simp [Lib.indexByte], rfl, rfl⟩
  | b :: s, c => by
    rw [Lib.indexByte]
    by_cases hb : b = c
    · subst hb
      right
      simp
    · have hb2 : (b == c) = false := by simpa using hb
      have hb3 : (b != c) = true := by simpa using hb
      rw [hb2]
      simp only [Bool.false_eq_true, if_false]
      rcases ixB s c with ⟨h1, h2, h3⟩ | ⟨h1, h2⟩
      · left
        have hge : -1 ≤ Lib.indexByte s c := Lib.indexByte_ge s c
        have : Lib.indexByte s c = -1 := by omega
        rw [this]
        simp [hb3, h2, h3]
      · right
        rw [h1, if_neg (by simp)]
        simp [hb3, h2]
theorem cutB_1 (s : Bs) (c : UInt8) : (cutB s c).1 = s.takeWhile (· != c) := by
  unfold cutB
  rcases ixB s c with ⟨h1, h2, h3⟩ | ⟨h1, h2⟩
  · rw [if_pos h1]; exact h2.symm
  · rw [if_neg (by omega), h1]
    simp only [Int.toNat_natCast]
    have h := List.takeWhile_append_dropWhile (p := (· != c)) (l := s)
    have : s.take (s.takeWhile (· != c)).length = (s.takeWhile (· != c) ++ s.dropWhile (· != c)).take (s.takeWhile (· != c)).length := by rw [h]
    rw [this]
    exact List.take_left
theorem tw_drop (s : Bs) (p : UInt8 → Bool) : s.drop (s.takeWhile p).length = s.dropWhile p := by
  have h := List.takeWhile_append_dropWhile (p := p) (l := s)
  have : s.drop (s.takeWhile p).length = (s.takeWhile p ++ s.dropWhile p).drop (s.takeWhile p).length := by rw [h]
  rw [this]
  exact List.drop_left
theorem opN_le (b : Bs) : opN b ≤ 28 := by
  by_cases h0 : opN b = 0
  · omega
  · exact (opN_some h0).2.1
set_option maxRecDepth 100000 in
set_option maxHeartbeats 2000000 in
theorem operation_ok (W : World) (r : Nat) (S : Rv) (h : RB W r S) (ht : Tb W) (hr : 9 ≤ r) : Calls Tryz.prog 58 #[pt r] W fun e w' => e = .returned (.tuple #[.int .i64 (opN (S.rest.takeWhile (· != 32)) : Int), .bool (decide (opN (S.rest.takeWhile (· != 32)) ≠ 0))]) ∧ RB w' r { S with rest := S.rest.dropWhile (· != 32) } ∧ Fr [r] W w' := by
  have HC := mkHid (cut_ok S.rest 32 h.small.2 W)
  rw [cutB_1] at HC
  have hs := h.small.2
  have hl : (S.rest.takeWhile (· != 32)).length + (S.rest.dropWhile (· != 32)).length = S.rest.length := by rw [← List.length_append, List.takeWhile_append_dropWhile]
  have HX : Hid ((bA S.rest).extract (bA (S.rest.takeWhile (· != 32))).size (bA S.rest).size = bA (S.rest.dropWhile (· != 32))) := by
    apply ByteArray.ext
    rw [ByteArray.data_extract]
    apply Array.toList_inj.1
    have := tw_drop S.rest (· != 32)
    simp [bA, ByteArray.size]
    rw [List.take_of_length_le (by rw [List.length_drop]; omega)]
    exact this
  have k1 : ((bA (S.rest.takeWhile (· != 32))).size : Int) ≤ ((bA S.rest).size : Int) := by rw [bA_size, bA_size]; omega
  have k0 : (0 : Int) ≤ ((bA (S.rest.takeWhile (· != 32))).size : Int) := by omega
  have hz : (bA S.rest).size ≤ 281474976710656 := by rw [bA_size]; omega
  have HV : Hid (∀ V, Fr [] W V → V.cell? ⟨r, 7, none⟩ = some (.string (bA S.rest)) ∧ V.frozen? ⟨r, 7, none⟩ = false ∧ (RB (V.setCell ⟨r, 7, none⟩ (.string (bA (S.rest.dropWhile (· != 32))))) r { S with rest := S.rest.dropWhile (· != 32) }) ∧ Fr [r] W (V.setCell ⟨r, 7, none⟩ (.string (bA (S.rest.dropWhile (· != 32))))) ∧ Tb (V.setCell ⟨r, 7, none⟩ (.string (bA (S.rest.dropWhile (· != 32)))))) := fun V hV => by
    have hb := h.fr hV (by simp)
    have hf := (hV.mono (S' := [r]) (by simp)).trans (Fr.setCell (S := [r]) V ⟨r, 7, none⟩ (.string (bA (S.rest.dropWhile (· != 32)))) (by simp)) (by simp)
    exact ⟨hb.cl 7, hb.fz 7, hb.setRest _ (by omega), hf, ht.fr hf (by simp; omega)⟩
  have c7 : W.cell? ⟨r, 7, none⟩ = some (.string (bA S.rest)) := h.cl 7
  have hop : isOp (opN (S.rest.takeWhile (· != 32)) : Int) = decide (opN (S.rest.takeWhile (· != 32)) ≠ 0) := by
    have := opN_le (S.rest.takeWhile (· != 32))
    unfold isOp
    by_cases h0 : opN (S.rest.takeWhile (· != 32)) = 0
    · rw [h0]; rfl
    · rw [decide_eq_true (by omega), decide_eq_true (by omega), decide_eq_true h0]; rfl
  have HI : Hid (∀ w, Calls Tryz.prog 30 #[.int .i64 (opN (S.rest.takeWhile (· != 32)) : Int)] w fun e w' => e = .returned (.bool (decide (opN (S.rest.takeWhile (· != 32)) ≠ 0))) ∧ w' = w) := fun w => by rw [← hop]; exact isOperation_ok _ w
  have HN : Hid (∀ w, Tb w → Calls Tryz.prog 71 #[.string (bA (S.rest.takeWhile (· != 32)))] w fun e w' => e = .returned (.int .i64 (opN (S.rest.takeWhile (· != 32)) : Int)) ∧ w' = w) := fun w hw => numberOf_ok _ w hw
  clear h ht hop
  generalize S.rest.takeWhile (· != 32) = T at *
  generalize S.rest.dropWhile (· != 32) = D at *
  generalize opN T = o at *
  generalize decide (o ≠ 0) = bo at *
  go_enter Tryz.func58, Tryz.ntmps58
  go_wp2_with fail
  refine HC.out.mono ?_
  rintro e w1 ⟨rfl, f1⟩
  obtain ⟨c1, z1, hrb, hfr, htb⟩ := HV.out w1 f1
  have HRb := mkHid hrb
  have HFr := mkHid hfr
  have HTb := mkHid htb
  clear hrb hfr htb f1 c7 HV
  go_wp2_with fail
  rw [HX.out]
  refine (HN.out _ HTb.out).mono ?_
  rintro e w2 ⟨rfl, rfl⟩
  go_wp2_with fail
  refine (HI.out _).mono ?_
  rintro e w2 ⟨rfl, rfl⟩
  go_wp2_with fail
  go_ret2
  exact ⟨rfl, HRb.out, HFr.out⟩
end Go.Proofs.YtclkoffnjiiioaaGreatDoor
namespace Go.Proofs.YtclkoffnjiiioaaGreatDoor
open Go.RowKit
set_option linter.unusedVariables false
set_option linter.unusedSimpArgs false
attribute [local go_sem ↓] Go.wp_at_zero Go.wp_at_succ
def litv (t : LitT) : Value := .agg #[.int .i64 t.kind, .string t.text, .int .i64 t.num, t.items]
/-- what the reading of an element answers -/
def ElQ (W : World) (r : Nat) (S : Rv) (res : Option (LitS × Bs × Nat)) (e : Ending) (w' : World) : Prop :=
  ∃ (t : LitT) (ok : Bool) (x : Bs) (n : Nat), e = .returned (.tuple #[litv t, .bool ok]) ∧ RB w' r { S with rest := x, els := n } ∧ Fr [r] W w' ∧ LitsO w' (fun g => W.heap.size ≤ g) t.p t.c t.kids ∧ t.text.size ≤ 140737488355328 ∧ res = (if ok = true then some (stT t, x, n) else none)
/-- a literal without elements -/
def flat (k : Int) (tx : ByteArray) (n : Int) : LitT := .mk k tx n none 0 []
theorem flatO (w : World) (Ok : Nat → Prop) (k : Int) (tx : ByteArray) (n : Int) : LitsO w Ok (flat k tx n).p (flat k tx n).c (flat k tx n).kids := .mk none 0 [] (fun _ => rfl) (fun h => by simp at h) (by simp) (fun t ht => by simp at ht) (fun t ht => by simp at ht)
theorem flat_st (k : Int) (tx : ByteArray) (n : Int) : stT (flat k tx n) = .mk k tx n [] := by unfold flat; rw [stT, stL_nil]
theorem ElQ.flat {W w' : World} {r : Nat} {S : Rv} {res : Option (LitS × Bs × Nat)} {k n : Int} {tx : ByteArray} {ok : Bool} {x : Bs} {m : Nat} (h1 : RB w' r { S with rest := x, els := m }) (h2 : Fr [r] W w') (h3 : tx.size ≤ 140737488355328) (h4 : res = (if ok = true then some (.mk k tx n [], x, m) else none)) :
    ElQ W r S res (.returned (.tuple #[.agg #[.int .i64 k, .string tx, .int .i64 n, .slice none 0 0], .bool ok])) w' :=
  ⟨YtclkoffnjiiioaaGreatDoor.flat k tx n, ok, x, m, rfl, h1, h2, flatO _ _ _ _ _, h3, by rw [flat_st]; exact h4⟩
/-- an answer that counts nothing -/
def up (res : Option (LitS × Bs)) (n : Nat) : Option (LitS × Bs × Nat) := match res with | some (x, r) => some (x, r, n) | none => none
theorem flat_tx (k n : Int) : (flat k ⟨#[]⟩ n).text.size ≤ 140737488355328 := by show (0 : Nat) ≤ _; omega
abbrev st4 (V : World) (g : Nat) (a0 a1 a2 a3 : Value) : World := (((V.setCell ⟨g, 0, none⟩ a0).setCell ⟨g, 1, none⟩ a1).setCell ⟨g, 2, none⟩ a2).setCell ⟨g, 3, none⟩ a3
theorem st4_ok {V : World} {g : Nat} {b0 b1 b2 b3 : Value} (a0 a1 a2 a3 : Value) (h : V.heap[g]? = some (.cells #[b0, b1, b2, b3] 49 (0, 0))) : (st4 V g a0 a1 a2 a3).heap[g]? = some (.cells #[a0, a1, a2, a3] 49 (0, 0)) ∧ Fr [g] V (st4 V g a0 a1 a2 a3) := by
  refine ⟨set_in (set_in (set_in (set_in h 0 a0) 1 a1) 2 a2) 3 a3, ?_⟩
  exact (((Fr.setCell (S := [g]) V ⟨g, 0, none⟩ a0 (by simp)).trans (Fr.setCell (S := [g]) _ ⟨g, 1, none⟩ a1 (by simp)) (by simp)).trans (Fr.setCell (S := [g]) _ ⟨g, 2, none⟩ a2 (by simp)) (by simp)).trans (Fr.setCell (S := [g]) _ ⟨g, 3, none⟩ a3 (by simp)) (by simp)
abbrev z49 : Obj := .cells #[.int .i64 0, .string ⟨#[]⟩, .int .i64 0, .slice none 0 0] 49 (0, 0)
/-- a literal is handed back by name -/
theorem fin {f : Func} {W w1 : World} {r : Nat} {S : Rv} {res : Option (LitS × Bs × Nat)} {tm : Array Value} {b0 b1 b2 b3 : Value} {x : Bs} {n : Nat} (t : LitT) (ok : Bool) (hres : f.results = #[.cell 2 49, .tmp 3]) (hg : w1.heap[W.heap.size]? = some (.cells #[b0, b1, b2, b3] 49 (0, 0))) (hf : Fr [r] W w1) (hlt : r < W.heap.size) (hb : RB w1 r { S with rest := x, els := n }) (hk : LitsO w1 (fun b => W.heap.size < b) t.p t.c t.kids) (ht : t.text.size ≤ 140737488355328) (hr : res = (if ok = true then some (stT t, x, n) else none)) (h2 : tm.getD 2 undef = .pointer (some ⟨W.heap.size, 0, none⟩)) (h3 : tm.getD 3 undef = .bool ok) :
    bodyPost Tryz.prog f (fun e w' => ElQ W r S res e w') .ret ⟨tm, []⟩ (st4 w1 W.heap.size (.int .i64 t.kind) (.string t.text) (.int .i64 t.num) t.items) := by
  obtain ⟨h4, f4⟩ := st4_ok (.int .i64 t.kind) (.string t.text) (.int .i64 t.num) t.items hg
  refine ret49 hres h4 h2 h3 ⟨t, ok, x, n, rfl, hb.fr f4 (by simp; omega), hf.trans f4 (fun b hb => .inr (by simp at hb; omega)), hk.keep f4 (fun g hg _ => by simp; omega) (fun g hg _ => by omega), ht, hr⟩
theorem noneO (w : World) (Ok : Nat → Prop) : LitsO w Ok none 0 [] := .mk none 0 [] (fun _ => rfl) (fun h => by simp at h) (by simp) (fun t ht => by simp at ht) (fun t ht => by simp at ht)
/-- the cells of the result's block -/
structure Z4 (V : World) (g : Nat) : Prop where
  c0 : V.cell? ⟨g, 0, none⟩ = some (.int .i64 0)
  c1 : V.cell? ⟨g, 1, none⟩ = some (.string ⟨#[]⟩)
  c2 : V.cell? ⟨g, 2, none⟩ = some (.int .i64 0)
  c3 : V.cell? ⟨g, 3, none⟩ = some (.slice none 0 0)
  z0 : V.frozen? ⟨g, 0, none⟩ = false
  z1 : V.frozen? ⟨g, 1, none⟩ = false
  z2 : V.frozen? ⟨g, 2, none⟩ = false
  z3 : V.frozen? ⟨g, 3, none⟩ = false
theorem z4_of {V : World} {g : Nat} (h : V.heap[g]? = some z49) : Z4 V g := ⟨cell_in h 0, cell_in h 1, cell_in h 2, cell_in h 3, frozen_in h 0, frozen_in h 1, frozen_in h 2, frozen_in h 3⟩
/-- a world behind the making of the result's block -/
structure Wz (W W0 : World) : Prop where
  fr : Fr [] W W0
  blk : W0.heap[W.heap.size]? = some z49
theorem wz_of (W : World) : Wz W (W.alloc (.cells #[.int .i64 0, .string ⟨#[]⟩, .int .i64 0, .slice none 0 0] 49)) := ⟨Fr.alloc [] W _, heap_alloc_new W _⟩
theorem Wz.on {W W0 V : World} {r : Nat} (h : Wz W W0) (hr : r < W.heap.size) (f : Fr [r] W0 V) : Fr [r] W V ∧ V.heap[W.heap.size]? = some z49 := ⟨(h.fr.mono (S' := [r]) (by simp)).trans f (by simp), (f.block _ (lt_of_heap h.blk) (by simp; omega)).trans h.blk⟩
set_option maxRecDepth 100000 in
set_option maxHeartbeats 4000000 in
theorem rinteger_ok (W : World) (r : Nat) (S : Rv) (h : RB W r S) (hE : Ev W) (hr : 9 ≤ r) : Calls Tryz.prog 103 #[pt r] W fun e w' => ElQ W r S (up (intP S.rest) S.els) e w' := by
  have hlt := h.lt
  have hz := wz_of W
  obtain ⟨W0, hW0⟩ : ∃ V, W.alloc (.cells #[.int .i64 0, .string ⟨#[]⟩, .int .i64 0, .slice none 0 0] 49) = V := ⟨_, rfl⟩
  rw [hW0] at hz
  have HN := mkHid (rnum_ok W0 r S (h.fr hz.fr (by simp)) (hE.fr0 hz.fr) hr)
  have HW0 := mkHid hW0
  have HZ := mkHid hz
  clear h hE hz hW0
  go_enter Tryz.func103, Tryz.ntmps103
  go_wp2_with fail
  rw [HW0.out]
  refine HN.out.mono ?_
  rintro e w1 hq
  unfold NumR at hq
  cases hn : numP S.rest with
  | none =>
    rw [hn] at hq
    simp only at hq
    obtain ⟨rfl, hb, hf⟩ := hq
    obtain ⟨f1, b1⟩ := HZ.out.on hlt hf
    obtain ⟨c0, c1, c2, c3, z0, z1, z2, z3⟩ := z4_of b1
    have HB := mkHid hb
    have HF := mkHid f1
    have HB1 := mkHid b1
    have HQ : Hid (up (intP S.rest) S.els = none) := by unfold intP; rw [hn]; rfl
    clear hb hf f1 b1 hn
    go_wp2_with fail
    exact fin (flat 1 ⟨#[]⟩ 0) false Tryz.results103 HB1.out HF.out hlt HB.out (noneO _ _) (flat_tx _ _) HQ.out rfl rfl
  | some q =>
    obtain ⟨v, x⟩ := q
    rw [hn] at hq
    simp only at hq
    obtain ⟨rfl, hb, hf⟩ := hq
    obtain ⟨f1, b1⟩ := HZ.out.on hlt hf
    obtain ⟨c0, c1, c2, c3, z0, z1, z2, z3⟩ := z4_of b1
    have HB := mkHid hb
    have HF := mkHid f1
    have HB1 := mkHid b1
    have HQ : Hid (up (intP S.rest) S.els = some (stT (flat 1 ⟨#[]⟩ v), x, S.els)) := by rw [flat_st]; unfold intP; rw [hn]; rfl
    clear hb hf f1 b1 hn
    go_wp2_with fail
    exact fin (flat 1 ⟨#[]⟩ v) true Tryz.results103 HB1.out HF.out hlt HB.out (noneO _ _) (flat_tx _ _) HQ.out rfl rfl
set_option maxRecDepth 100000 in
set_option maxHeartbeats 4000000 in
theorem rsymbol_ok (W : World) (r : Nat) (S : Rv) (h : RB W r S) (hE : Ev W) (hr : 9 ≤ r) (x0 : Bs) (hx : tokP [35] S.rest = some x0) : Calls Tryz.prog 101 #[pt r] W fun e w' => ElQ W r S (up (symP S.rest) S.els) e w' := by
  have hlt := h.lt
  have hz := wz_of W
  obtain ⟨W0, hW0⟩ : ∃ V, W.alloc (.cells #[.int .i64 0, .string ⟨#[]⟩, .int .i64 0, .slice none 0 0] 49) = V := ⟨_, rfl⟩
  rw [hW0] at hz
  have HT := mkHid (token_hit (h.fr hz.fr (by simp)) hx)
  have HN : Hid (∀ V, RB V r { S with rest := x0 } → Fr [r] W0 V → Calls Tryz.prog 57 #[pt r] V fun e w' => NumR V r { S with rest := x0 } e w') := fun V hb hf => rnum_ok V r _ hb ((hE.fr0 hz.fr).fr1 hf hr) hr
  have HP : Hid (symP S.rest = match numP x0 with | none => none | some (n, r2) => some (.mk 3 noTx n [], r2)) := by unfold symP; rw [hx]; rfl
  have HW0 := mkHid hW0
  have HZ := mkHid hz
  clear h hE hz hW0 hx
  go_enter Tryz.func101, Tryz.ntmps101
  go_wp2_with fail
  rw [HW0.out]
  refine HT.out.mono ?_
  rintro e w1 ⟨rfl, hb1, hf1⟩
  have HF1 := mkHid hf1
  have HN1 := mkHid (HN.out w1 hb1 hf1)
  clear hb1 hf1 HN
  go_wp2_with fail
  refine HN1.out.mono ?_
  rintro e w2 hq
  unfold NumR at hq
  simp only at hq
  cases hn : numP x0 with
  | none =>
    rw [hn] at hq
    simp only at hq
    obtain ⟨rfl, hb, hf⟩ := hq
    obtain ⟨f1, b1⟩ := HZ.out.on hlt (HF1.out.trans hf (by simp))
    obtain ⟨c0, c1, c2, c3, z0, z1, z2, z3⟩ := z4_of b1
    have HB := mkHid hb
    have HF := mkHid f1
    have HB1 := mkHid b1
    have HQ : Hid (up (symP S.rest) S.els = none) := by rw [HP.out, hn]; rfl
    clear hb hf f1 b1 hn
    go_wp2_with fail
    exact fin (flat 3 ⟨#[]⟩ 0) false Tryz.results101 HB1.out HF.out hlt HB.out (noneO _ _) (flat_tx _ _) HQ.out rfl rfl
  | some q =>
    obtain ⟨v, x⟩ := q
    rw [hn] at hq
    simp only at hq
    obtain ⟨rfl, hb, hf⟩ := hq
    obtain ⟨f1, b1⟩ := HZ.out.on hlt (HF1.out.trans hf (by simp))
    obtain ⟨c0, c1, c2, c3, z0, z1, z2, z3⟩ := z4_of b1
    have HB := mkHid hb
    have HF := mkHid f1
    have HB1 := mkHid b1
    have HQ : Hid (up (symP S.rest) S.els = some (stT (flat 3 ⟨#[]⟩ v), x, S.els)) := by rw [flat_st, HP.out, hn]; rfl
    clear hb hf f1 b1 hn
    go_wp2_with fail
    exact fin (flat 3 ⟨#[]⟩ v) true Tryz.results101 HB1.out HF.out hlt HB.out (noneO _ _) (flat_tx _ _) HQ.out rfl rfl
end Go.Proofs.YtclkoffnjiiioaaGreatDoor
namespace Go.Proofs.YtclkoffnjiiioaaGreatDoor
open Go.RowKit
set_option linter.unusedVariables false
set_option linter.unusedSimpArgs false
attribute [local go_sem ↓] Go.wp_at_zero Go.wp_at_succ
/-- what the reading of a byte answers -/
def OnR (W : World) (r : Nat) (S : Rv) (res : Option (UInt8 × Bs)) (e : Ending) (w' : World) : Prop :=
  ∃ (c : UInt8) (ok : Bool) (x : Bs), e = .returned (.tuple #[.int .u8 (c.toNat : Int), .bool ok]) ∧ RB w' r { S with rest := x } ∧ Fr [r] W w' ∧ res = (if ok = true then some (c, x) else none)
def hx (a : UInt8) : Int := Lib.indexByte hexT a
theorem hx_ok (a : UInt8) (w : World) : Calls Tryz.prog 100 #[.string ⟨#[48, 49, 50, 51, 52, 53, 54, 55, 56, 57, 97, 98, 99, 100, 101, 102]⟩, .int .u8 (a.toNat : Int)] w fun e w' => e = .returned (.int .i64 (hx a)) ∧ w' = w := by
  refine (Tryz.strings_IndexByte _ _ w).mono ?_
  rintro e w' ⟨rfl, rfl⟩
  refine ⟨?_, rfl⟩
  have : ((a.toNat : Int).toNat.toUInt8) = a := by simp
  rw [this]
  rfl
theorem hid_no {a b : UInt8} {l : Bs} (h : hx a < 0 ∨ hx b < 0) : hidP (a :: b :: l) = none := by
  unfold hidP
  simp only
  rw [if_pos (show Lib.indexByte hexT a < 0 ∨ Lib.indexByte hexT b < 0 from h)]
theorem hid_is {a b : UInt8} {l : Bs} {p q : Nat} (ha : hx a = (p : Int)) (hb : hx b = (q : Int)) : hidP (a :: b :: l) = (if (!plainB (UInt8.ofNat (p * 16 + q)) && !markB (UInt8.ofNat (p * 16 + q))) = true then some (UInt8.ofNat (p * 16 + q), l) else none) := by
  unfold hidP
  simp only
  have ha' : Lib.indexByte hexT a = (p : Int) := ha
  have hb' : Lib.indexByte hexT b = (q : Int) := hb
  rw [ha', hb', if_neg (by omega)]
  simp only [Int.toNat_natCast]
  cases plainB (UInt8.ofNat (p * 16 + q)) <;> cases markB (UInt8.ofNat (p * 16 + q)) <;> simp
theorem bit_tab : ∀ p q : Fin 16, bits BinOp.or IntKind.i64 ((p.val : Int) * 16) (q.val : Int) % 256 = (((UInt8.ofNat (p.val * 16 + q.val)).toNat : Nat) : Int) := by decide +kernel
theorem mkB_is (c : UInt8) : mkB c = markB c := by
  unfold mkB markB
  by_cases h1 : c = 39
  · simp [h1]
  · by_cases h2 : c = 92
    · simp [h2]
    · simp [h1, h2]
theorem plB_is (c : UInt8) : (decide (32 ≤ c.toNat) && decide (c.toNat ≤ 126) && !mkB c) = plainB c := by
  unfold plainB
  rw [mkB_is]
  rfl
theorem rplain_ok (c : UInt8) (w : World) : Calls Tryz.prog 82 #[.int .u8 (c.toNat : Int)] w fun e w' => e = .returned (.bool (plainB c)) ∧ w' = w := by rw [← plB_is]; exact isPlain_ok c w
theorem rmark_ok (c : UInt8) (w : World) : Calls Tryz.prog 81 #[.int .u8 (c.toNat : Int)] w fun e w' => e = .returned (.bool (markB c)) ∧ w' = w := by rw [← mkB_is]; exact isMark_ok c w
theorem ext_drop (s : Bs) (k : Nat) : (bA s).extract k (bA s).size = bA (s.drop k) := by
  apply ByteArray.ext
  rw [ByteArray.data_extract]
  apply Array.toList_inj.1
  simp [bA, ByteArray.size]
  rw [List.take_of_length_le (by rw [List.length_drop]; omega)]
set_option maxRecDepth 100000 in
set_option maxHeartbeats 4000000 in
theorem hidden_ok (W : World) (r : Nat) (S : Rv) (h : RB W r S) : Calls Tryz.prog 79 #[pt r] W fun e w' => OnR W r S (hidP S.rest) e w' := by
  have c7 : W.cell? ⟨r, 7, none⟩ = some (.string (bA S.rest)) := h.cl 7
  have z7 := h.fz 7
  by_cases hl : S.rest.length < 2
  · have HQ : Hid (hidP S.rest = none) := by
      match hS : S.rest, hl with
      | [], _ => rfl
      | [a], _ => rfl
      | a :: b :: l, hl => simp at hl; omega
    have hd : ((bA S.rest).size : Int) < 2 := by rw [bA_size]; omega
    have HB := mkHid h
    clear h hl
    go_enter Tryz.func79, Tryz.ntmps79
    go_wp2_with fail
    go_ret2
    exact ⟨0, false, S.rest, rfl, HB.out, Fr.refl _ _, HQ.out⟩
  · obtain ⟨a, b, l, hS⟩ : ∃ a b l, S.rest = a :: b :: l := by
      match hS : S.rest, hl with
      | [], hl => simp at hl
      | [a], hl => simp at hl
      | a :: b :: l, hl => exact ⟨a, b, l, rfl⟩
    rw [hS] at c7
    have hd : ¬ ((bA (a :: b :: l)).size : Int) < 2 := by rw [bA_size]; simp; omega
    have s0 : 0 < (bA (a :: b :: l)).size := by rw [bA_size]; simp
    have s1 : 1 < (bA (a :: b :: l)).size := by rw [bA_size]; simp
    have s2 : (0 : Int) < ((bA (a :: b :: l)).size : Int) := by omega
    have s3 : (1 : Int) < ((bA (a :: b :: l)).size : Int) := by omega
    have e0 : (bA (a :: b :: l))[0] = a := rfl
    have e1 : (bA (a :: b :: l))[1] = b := rfl
    have HI : Hid (∀ (u : UInt8) q, Calls Tryz.prog 100 #[.string ⟨#[48, 49, 50, 51, 52, 53, 54, 55, 56, 57, 97, 98, 99, 100, 101, 102]⟩, .int .u8 (u.toNat : Int)] (W.drewN q) fun e w' => e = .returned (.int .i64 (hx u)) ∧ w' = W.drewN q) := fun u q => hx_ok u _
    have HB := mkHid h
    clear h hl
    go_enter Tryz.func79, Tryz.ntmps79
    go_wp2_with fail
    go_quiet (first | (go_at_call 100; refine (HI.out _ _).mono ?_; rintro e w'' ⟨rfl, rfl⟩; exact ⟨rfl, _, rfl⟩))
    rename_i nq
    have fV : Fr [] W (W.drewN nq) := Fr.drewN [] W nq
    have hV0 : RB (W.drewN nq) r S := HB.out.fr fV (by simp)
    obtain ⟨V, hV⟩ : ∃ V, W.drewN nq = V := ⟨_, rfl⟩
    rw [hV] at fV hV0
    rw [hV]
    clear hV c7 z7 HI
    have c7 : V.cell? ⟨r, 7, none⟩ = some (.string (bA (a :: b :: l))) := by have := hV0.cl 7; rw [show S.c[7]? = some (.string (bA S.rest)) from rfl, hS] at this; exact this
    have z7 := hV0.fz 7
    have HF : Hid (Fr [r] W V) := fV.mono (by simp)
    have HV0 := mkHid hV0
    clear fV hV0
    by_cases ha : hx a < 0
    · have HQ : Hid (hidP S.rest = none) := by rw [hS]; exact hid_no (.inl ha)
      go_wp2_with fail
      go_ret2
      exact ⟨0, false, S.rest, rfl, HV0.out, HF.out, by first | exact HQ.out | (rw [← hS]; exact HQ.out)⟩
    by_cases hb : hx b < 0
    · have HQ : Hid (hidP S.rest = none) := by rw [hS]; exact hid_no (.inr hb)
      go_wp2_with fail
      go_ret2
      exact ⟨0, false, S.rest, rfl, HV0.out, HF.out, by first | exact HQ.out | (rw [← hS]; exact HQ.out)⟩
    obtain ⟨p, hp, hp16⟩ : ∃ p : Nat, hx a = (p : Int) ∧ p < 16 := by
      rcases hex_byte a with h | ⟨h, -⟩
      · exact absurd h ha
      · exact ⟨(hx a).toNat, by omega, h⟩
    obtain ⟨q, hq, hq16⟩ : ∃ q : Nat, hx b = (q : Int) ∧ q < 16 := by
      rcases hex_byte b with h | ⟨h, -⟩
      · exact absurd h hb
      · exact ⟨(hx b).toNat, by omega, h⟩
    have hbt := bit_tab ⟨p, hp16⟩ ⟨q, hq16⟩
    simp only at hbt
    have HQ : Hid (hidP S.rest = (if (!plainB (UInt8.ofNat (p * 16 + q)) && !markB (UInt8.ofNat (p * 16 + q))) = true then some (UInt8.ofNat (p * 16 + q), l) else none)) := by rw [hS]; exact hid_is hp hq
    have HBt := mkHid hbt
    have HX : Hid ((bA (a :: b :: l)).extract 2 (bA (a :: b :: l)).size = bA l) := ext_drop (a :: b :: l) 2
    have hsm := HV0.out.small
    rw [hS] at hsm
    have HR := mkHid (HV0.out.setRest l (by have := hsm.2; simp at this; omega))
    have HF2 : Hid (Fr [r] W (V.setCell ⟨r, 7, none⟩ (.string (bA l)))) := HF.out.trans (Fr.setCell (S := [r]) V ⟨r, 7, none⟩ _ (by simp)) (by simp)
    rw [hp] at ha ⊢
    rw [hq] at hb ⊢
    clear hp hq hbt hsm
    generalize UInt8.ofNat (p * 16 + q) = c at *
    have p0 : (0 : Int) ≤ (p : Int) := by omega
    have p1 : (p : Int) < 16 := by omega
    go_wp2_with fail
    rw [HX.out, HBt.out]
    refine (rplain_ok c _).mono ?_
    rintro e w2 ⟨rfl, rfl⟩
    cases hpl : plainB c
    · rw [hpl] at HQ
      go_wp2_with fail
      refine (rmark_ok c _).mono ?_
      rintro e w2 ⟨rfl, rfl⟩
      go_wp2_with fail
      go_ret2
      exact ⟨c, !markB c, l, rfl, HR.out, HF2.out, by rw [HQ.out]; rfl⟩
    · rw [hpl] at HQ
      go_wp2_with fail
      go_ret2
      exact ⟨c, false, l, rfl, HR.out, HF2.out, by rw [HQ.out]; rfl⟩
set_option maxRecDepth 100000 in
set_option maxHeartbeats 4000000 in
theorem oneByte_ok (W : World) (r : Nat) (S : Rv) (h : RB W r S) : Calls Tryz.prog 67 #[pt r] W fun e w' => OnR W r S (oneP S.rest) e w' := by
  have hsm := h.small.2
  cases h1 : tokP [92, 120] S.rest with
  | some x =>
    have HT := mkHid (token_hit h h1)
    have HQ : Hid (oneP S.rest = hidP x) := by unfold oneP; rw [h1]; rfl
    have HH : Hid (∀ V, RB V r { S with rest := x } → Calls Tryz.prog 79 #[pt r] V fun e w' => OnR V r { S with rest := x } (hidP x) e w') := fun V hV => hidden_ok V r _ hV
    clear h h1
    go_enter Tryz.func67, Tryz.ntmps67
    go_wp2_with fail
    refine HT.out.mono ?_
    rintro e w1 ⟨rfl, hb, hf⟩
    have H2 := mkHid (HH.out w1 hb)
    have HF := mkHid hf
    clear hb hf HH
    go_wp2_with fail
    refine H2.out.mono ?_
    rintro e w2 ⟨c, ok, y, rfl, hb, hf, hq⟩
    have HB := mkHid hb
    have HF2 := mkHid (HF.out.trans hf (by simp))
    have HQ2 := mkHid hq
    clear hb hf hq
    go_wp2_with fail
    go_ret2
    exact ⟨c, ok, y, rfl, HB.out, HF2.out, by rw [HQ.out]; exact HQ2.out⟩
  | none =>
    have HT := mkHid (token_miss h h1)
    cases h2 : tokP [92] S.rest with
    | some x =>
      have HT2 : Hid (∀ V, RB V r S → Calls Tryz.prog 52 #[pt r, .string (bA [92])] V fun e w' => e = .returned (.bool true) ∧ RB w' r { S with rest := x } ∧ Fr [r] V w') := fun V hV => token_hit hV h2
      have HFs : Hid (∀ V, RB V r { S with rest := x } → Calls Tryz.prog 80 #[pt r] V fun e w' => e = .returned (.int .u8 ((fstB x).toNat : Int)) ∧ w' = V) := fun V hV => first_ok V r _ hV
      have hxl : x.length ≤ 281474976710656 := by
        have := tok_some h2
        rw [this] at hsm
        simp at hsm
        omega
      have HQ : Hid (oneP S.rest = (if markB (fstB x) = true then some (fstB x, x.drop 1) else none) ∧ (markB (fstB x) = true → 0 < x.length)) := by
        unfold oneP
        rw [h1, h2]
        cases x with
        | nil => exact ⟨rfl, fun h => by cases h⟩
        | cons c l => exact ⟨rfl, fun _ => by simp⟩
      clear h h1 h2
      go_enter Tryz.func67, Tryz.ntmps67
      go_wp2_with fail
      refine HT.out.mono ?_
      rintro e w1 ⟨rfl, hb, hf⟩
      have H2 := mkHid (HT2.out w1 hb)
      have HF := mkHid hf
      clear hb hf HT2
      go_wp2_with fail
      refine H2.out.mono ?_
      rintro e w2 ⟨rfl, hb, hf⟩
      have H3 := mkHid (HFs.out w2 hb)
      have HB := mkHid hb
      have HF2 := mkHid (HF.out.trans hf (by simp))
      have c7 : w2.cell? ⟨r, 7, none⟩ = some (.string (bA x)) := hb.cl 7
      have z7 := hb.fz 7
      have HR := mkHid (hb.setRest (x.drop 1) (by rw [List.length_drop]; simp; omega))
      have HF3 : Hid (Fr [r] W (w2.setCell ⟨r, 7, none⟩ (.string (bA (x.drop 1))))) := HF2.out.trans (Fr.setCell (S := [r]) w2 ⟨r, 7, none⟩ _ (by simp)) (by simp)
      have HX : Hid ((bA x).extract 1 (bA x).size = bA (x.drop 1)) := ext_drop x 1
      clear hb hf HFs
      go_wp2_with fail
      refine H3.out.mono ?_
      rintro e w3 ⟨rfl, rfl⟩
      generalize fstB x = c at *
      go_wp2_with fail
      refine (rmark_ok c _).mono ?_
      rintro e w4 ⟨rfl, rfl⟩
      cases hm : markB c
      · rw [hm] at HQ
        go_wp2_with fail
        go_ret2
        exact ⟨0, false, x, rfl, HB.out, HF2.out, by rw [HQ.out.1]; rfl⟩
      · rw [hm] at HQ
        have hpos := HQ.out.2 rfl
        have k1 : (1 : Int) ≤ ((bA x).size : Int) := by rw [bA_size]; omega
        have k2 : (bA x).size ≤ 281474976710656 := by rw [bA_size]; exact hxl
        go_wp2_with fail
        rw [HX.out]
        go_ret2
        exact ⟨c, true, x.drop 1, rfl, HR.out, HF3.out, by rw [HQ.out.1]; rfl⟩
    | none =>
      have HT2 : Hid (∀ V, RB V r S → Calls Tryz.prog 52 #[pt r, .string (bA [92])] V fun e w' => e = .returned (.bool false) ∧ RB w' r S ∧ Fr [r] V w') := fun V hV => token_miss hV h2
      have HFs : Hid (∀ V, RB V r S → Calls Tryz.prog 80 #[pt r] V fun e w' => e = .returned (.int .u8 ((fstB S.rest).toNat : Int)) ∧ w' = V) := fun V hV => first_ok V r _ hV
      have HQ : Hid (oneP S.rest = (if plainB (fstB S.rest) = true then some (fstB S.rest, S.rest.drop 1) else none) ∧ (plainB (fstB S.rest) = true → 0 < S.rest.length)) := by
        unfold oneP
        rw [h1, h2]
        cases S.rest with
        | nil => exact ⟨rfl, fun h => by cases h⟩
        | cons c l => exact ⟨rfl, fun _ => by simp⟩
      clear h h1 h2
      go_enter Tryz.func67, Tryz.ntmps67
      go_wp2_with fail
      refine HT.out.mono ?_
      rintro e w1 ⟨rfl, hb, hf⟩
      have H2 := mkHid (HT2.out w1 hb)
      have HF := mkHid hf
      clear hb hf HT2
      go_wp2_with fail
      refine H2.out.mono ?_
      rintro e w2 ⟨rfl, hb, hf⟩
      have H3 := mkHid (HFs.out w2 hb)
      have HB := mkHid hb
      have HF2 := mkHid (HF.out.trans hf (by simp))
      have c7 : w2.cell? ⟨r, 7, none⟩ = some (.string (bA S.rest)) := hb.cl 7
      have z7 := hb.fz 7
      have HR := mkHid (hb.setRest (S.rest.drop 1) (by rw [List.length_drop]; omega))
      have HF3 : Hid (Fr [r] W (w2.setCell ⟨r, 7, none⟩ (.string (bA (S.rest.drop 1))))) := HF2.out.trans (Fr.setCell (S := [r]) w2 ⟨r, 7, none⟩ _ (by simp)) (by simp)
      have HX : Hid ((bA S.rest).extract 1 (bA S.rest).size = bA (S.rest.drop 1)) := ext_drop S.rest 1
      clear hb hf HFs
      go_wp2_with fail
      refine H3.out.mono ?_
      rintro e w3 ⟨rfl, rfl⟩
      generalize fstB S.rest = c at *
      go_wp2_with fail
      refine (rplain_ok c _).mono ?_
      rintro e w4 ⟨rfl, rfl⟩
      cases hm : plainB c
      · rw [hm] at HQ
        go_wp2_with fail
        go_ret2
        exact ⟨0, false, S.rest, rfl, HB.out, HF2.out, by rw [HQ.out.1]; rfl⟩
      · rw [hm] at HQ
        have hpos := HQ.out.2 rfl
        have k1 : (1 : Int) ≤ ((bA S.rest).size : Int) := by rw [bA_size]; omega
        have k2 : (bA S.rest).size ≤ 281474976710656 := by rw [bA_size]; exact hsm
        go_wp2_with fail
        rw [HX.out]
        go_ret2
        exact ⟨c, true, S.rest.drop 1, rfl, HR.out, HF3.out, by rw [HQ.out.1]; rfl⟩
end Go.Proofs.YtclkoffnjiiioaaGreatDoor
