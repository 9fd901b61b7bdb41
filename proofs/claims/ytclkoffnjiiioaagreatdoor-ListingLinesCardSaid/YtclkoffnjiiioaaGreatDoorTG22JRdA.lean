import Derived.Test.YtclkoffnjiiioaaGreatDoorTG21JRd7
namespace Go.Proofs.YtclkoffnjiiioaaGreatDoor
open Go.RowKit
set_option linter.unusedVariables false
set_option linter.unusedSimpArgs false
attribute [local go_sem ↓] Go.wp_at_zero Go.wp_at_succ
/-- a byte more behind a row of bytes -/
theorem push_byte (w : World) (base : Nat) (p : Option Addr) (c : Nat) (bs : Bs) (b : UInt8) (h : w.ownsRow base 5 1 (.slice p bs.length c) bs.length (Lib.byteCells bs)) (hb : bs.length + 1 ≤ 1000000) (hB : base ≤ w.heap.size) :
    ∃ p' c' w', (Builtin.append_ #[57, 57] 57 #[.slice p bs.length c, .slice (some ⟨w.heap.size, 0, none⟩) 1 1]).run Tryz.prog (w.alloc (.cells #[.int .u8 (b.toNat : Int)] 5)) = .ok (.slice p' (bs.length + 1) c') w' ∧
      w'.ownsRow base 5 1 (.slice p' (bs ++ [b]).length c') (bs ++ [b]).length (Lib.byteCells (bs ++ [b])) ∧ ((p' = p ∧ c' = c ∧ Fr (blk p) w w') ∨ (Fr [] w w' ∧ ∀ g ∈ blk p', w.heap.size ≤ g)) := by
  obtain ⟨i5, ii, iz, is, ib⟩ := info_parts info5
  have hl : (Lib.byteCells bs).length = bs.length := by simp [Lib.byteCells]
  have := push2 Tryz.underlying57 ii iz is ib rfl w base p c (Lib.byteCells bs) (.int .u8 (b.toNat : Int)) (by rw [hl]; exact h) rfl (by rw [hl]; unfold maxLen; omega) (by rw [hl]; omega) hB
  rw [hl] at this
  obtain ⟨p', c', w', r1, r2, r3⟩ := this
  exact ⟨p', c', w', r1, by rw [List.length_append, Lib.byteCells_append]; exact r2, r3⟩
/-- a row of bytes becomes a text -/
theorem row_conv {W : World} {B : Nat} {v : Value} {bs : Bs} (hr : W.ownsRow B 5 1 v bs.length (Lib.byteCells bs)) : (convert 57 9 v).run Tryz.prog W = .ok (.string (bA bs)) W := by
  rcases hr.2 with ⟨rfl, h0⟩ | ⟨g, cap, cur, rfl, h1, h2, h3, h4, h5, h6⟩
  · have hb : bs = [] := List.length_eq_zero_iff.1 h0
    subst hb
    exact run_convert_bytes_nil W 57 5 Tryz.underlying57 Tryz.underlying5 0 0 9 Tryz.underlying9
  · refine run_convert_bytes_back W 57 9 5 ⟨g, 0, none⟩ cap bs Tryz.underlying57 Tryz.underlying5 Tryz.underlying9 (fun j hj => ?_)
    have hp : (⟨g, 0, none⟩ : Addr).add j = ⟨g, j, none⟩ := by rw [Addr.add_mid]; simp
    rw [hp, hr.cellAt j (by omega)]
    simp [Lib.byteCells, List.getElem?_eq_getElem hj]
/-- how much of the line is left -/
def lenW (r : Nat) (w : World) : Nat := match w.cell? ⟨r, 7, none⟩ with | some (.string s) => s.size | _ => 0
theorem lenW_is {W : World} {r : Nat} {S : Rv} (h : RB W r S) : lenW r W = S.rest.length := by
  unfold lenW
  rw [h.cl 7]
  show (bA S.rest).size = _
  exact bA_size _
/-- a text under way -/
def QS (W : World) (r : Nat) (S : Rv) (R : Option (Bs × Bs)) (v : Value) (wr : World) : Prop :=
  ∃ (p : Option Addr) (c : Nat) (acc x : Bs) (f : Nat), v = .slice p acc.length c ∧ wr.ownsRow (W.heap.size + 1) 5 1 (.slice p acc.length c) acc.length (Lib.byteCells acc) ∧ RB wr r { S with rest := x } ∧ Fr [r] W wr ∧ wr.heap[W.heap.size]? = some z49 ∧ quoP f x acc = R ∧ x.length < f ∧ acc.length ≤ 256
theorem own_keep {w w' : World} {base r : Nat} {e : TypeId} {s n : Nat} {v : Value} {xs : List Value} (h : w.ownsRow base e s v n xs) (f : Fr [r] w w') (hr : r < base) : w'.ownsRow base e s v n xs := own_congr h fun g hg => f.block g (own_lt h g hg).2 (by have := (own_lt h g hg).1; simp; omega)
theorem one_lt {x y : Bs} {c : UInt8} (h : oneP x = some (c, y)) : y.length < x.length := by
  rw [one_some h, List.length_append]
  have := esc_len1 c
  omega
set_option maxRecDepth 100000 in
set_option maxHeartbeats 8000000 in
theorem quoted_ok (W : World) (r : Nat) (S : Rv) (h : RB W r S) : Calls Tryz.prog 55 #[pt r] W fun e w' => ElQ W r S (up (txtP S.rest) S.els) e w' := by
  have hlt := h.lt
  have hz := wz_of W
  obtain ⟨W0, hW0⟩ : ∃ V, W.alloc (.cells #[.int .i64 0, .string ⟨#[]⟩, .int .i64 0, .slice none 0 0] 49) = V := ⟨_, rfl⟩
  rw [hW0] at hz
  have hb0 := h.fr hz.fr (by simp)
  have HW0 := mkHid hW0
  have HZ := mkHid hz
  clear h hz hW0
  cases h1 : tokP [39] S.rest with
  | none =>
    have HT := mkHid (token_miss hb0 h1)
    have HQ : Hid (up (txtP S.rest) S.els = none) := by unfold txtP; rw [h1]; rfl
    clear h1 hb0
    go_enter Tryz.func55, Tryz.ntmps55
    go_wp2_with fail
    rw [HW0.out]
    refine HT.out.mono ?_
    rintro e w1 ⟨rfl, hb, hf⟩
    obtain ⟨f1, b1⟩ := HZ.out.on hlt hf
    obtain ⟨c0, c1, c2, c3, z0, z1, z2, z3⟩ := z4_of b1
    have HB := mkHid hb
    have HF := mkHid f1
    have HB1 := mkHid b1
    clear hb hf f1 b1
    go_wp2_with fail
    exact fin (flat 0 ⟨#[]⟩ 0) false Tryz.results55 HB1.out HF.out hlt HB.out (noneO _ _) (flat_tx _ _) HQ.out rfl rfl
  | some x0 =>
    have HT := mkHid (token_hit hb0 h1)
    have hsm : x0.length ≤ 281474976710656 := by
      have h2 := hb0.small.2
      rw [tok_some h1] at h2
      simp at h2
      omega
    obtain ⟨R, hR⟩ : ∃ R, quoP (x0.length + 1) x0 [] = R := ⟨_, rfl⟩
    have HQ0 : Hid (R = none → up (txtP S.rest) S.els = none) := fun e => by unfold txtP; rw [h1]; simp only; rw [hR, e]; rfl
    have HQ1 : Hid (∀ b y, R = some (b, y) → up (txtP S.rest) S.els = some (stT (flat 2 (bA b) 0), y, S.els)) := fun b y e => by rw [flat_st]; unfold txtP; rw [h1]; simp only; rw [hR, e]; rfl
    have HR := mkHid hR
    clear h1 hb0 hR
    go_enter Tryz.func55, Tryz.ntmps55
    go_wp2_with fail
    rw [HW0.out]
    refine HT.out.mono ?_
    rintro e w1 ⟨rfl, hb, hf⟩
    obtain ⟨f1, b1⟩ := HZ.out.on hlt hf
    have HS : Hid (QS W r S R (.slice none 0 0) w1) := ⟨none, 0, [], x0, x0.length + 1, rfl, ⟨rfl, .inl ⟨rfl, rfl⟩⟩, hb, f1, b1, HR.out, by omega, by simp⟩
    clear hb hf f1 b1 HT HR HZ HW0
    go_wp2_with fail
    go_loopw [4] (fun v wr => Hid (QS W r S R v wr)) (fun _ wr => lenW r wr)
    case atStart => exact HS.out
    case round =>
      clear HS
      obtain ⟨p, c, acc, x, f, rfl, hrow, hb, hf, b1, hq, hxf, hacc⟩ := hrel.out
      have hmes := lenW_is hb
      simp only at hmes
      cases f with
      | zero => omega
      | succ f =>
      rw [quoP] at hq
      cases ht : tokP [39] x with
      | some y =>
        rw [ht] at hq
        simp only at hq
        have HT := mkHid (token_hit hb ht)
        have HQ := mkHid (HQ1.out acc y hq.symm)
        have HK : Hid (∀ V, Fr [r] wr V → Fr [r] W V ∧ V.heap[W.heap.size]? = some z49 ∧ (convert 57 9 (.slice p acc.length c)).run Tryz.prog V = .ok (.string (bA acc)) V) := fun V fV => ⟨hf.trans fV (by simp), (fV.block _ (lt_of_heap b1) (by simp; omega)).trans b1, row_conv (own_keep hrow fV (by omega))⟩
        have htx : (flat 2 (bA acc) 0).text.size ≤ 140737488355328 := by show (bA acc).size ≤ _; rw [bA_size]; omega
        clear hrel hrow hb hf b1 hq ht HQ0 HQ1
        go_wp2_with fail
        refine HT.out.mono ?_
        rintro e w2 ⟨rfl, hb2, hf2⟩
        obtain ⟨f2, b2, hcv⟩ := HK.out w2 hf2
        obtain ⟨c0, c1, c2, c3, z0, z1, z2, z3⟩ := z4_of b2
        have HB := mkHid hb2
        have HF := mkHid f2
        have HB1 := mkHid b2
        clear hb2 hf2 f2 b2 HK
        go_wp2_with fail
        exact fin (flat 2 (bA acc) 0) true Tryz.results55 HB1.out HF.out hlt HB.out (noneO _ _) htx HQ.out rfl rfl
      | none =>
        rw [ht] at hq
        simp only at hq
        have HT := mkHid (token_miss hb ht)
        have HO : Hid (∀ V, RB V r { S with rest := x } → Calls Tryz.prog 67 #[pt r] V fun e w' => OnR V r { S with rest := x } (oneP x) e w') := fun V hV => oneByte_ok V r _ hV
        have HK : Hid (∀ V, Fr [r] wr V → Fr [r] W V ∧ V.heap[W.heap.size]? = some z49 ∧ V.ownsRow (W.heap.size + 1) 5 1 (.slice p acc.length c) acc.length (Lib.byteCells acc)) := fun V fV => ⟨hf.trans fV (by simp), (fV.block _ (lt_of_heap b1) (by simp; omega)).trans b1, own_keep hrow fV (by omega)⟩
        have HLt := mkHid (lt_of_heap b1)
        have HQq := mkHid hq
        clear hrel hrow hb hf b1 hq ht HQ1
        go_wp2_with fail
        refine HT.out.mono ?_
        rintro e w2 ⟨rfl, hb2, hf2⟩
        have H2 := mkHid (HO.out w2 hb2)
        have HF2 := mkHid hf2
        clear hb2 hf2 HO HT
        go_wp2_with fail
        refine H2.out.mono ?_
        rintro e w3 ⟨b, ok, y, rfl, hb3, hf3, ho⟩
        have hf23 := HF2.out.trans hf3 (by simp)
        obtain ⟨f2, b2, hrow⟩ := HK.out w3 hf23
        obtain ⟨c0, c1, c2, c3, z0, z1, z2, z3⟩ := z4_of b2
        have HB := mkHid hb3
        have HF := mkHid f2
        have HB1 := mkHid b2
        cases ok with
        | false =>
          have HQ : Hid (up (txtP S.rest) S.els = none) := HQ0.out (by rw [← HQq.out, ho]; rfl)
          clear hb3 hf3 f2 b2 HK hf23 hrow ho HQq HQ0 HF2
          go_wp2_with fail
          exact fin (flat 0 ⟨#[]⟩ 0) false Tryz.results55 HB1.out HF.out hlt HB.out (noneO _ _) (flat_tx _ _) HQ.out rfl rfl
        | true =>
          simp only [if_true] at ho
          have hq2 := HQq.out
          rw [ho] at hq2
          simp only at hq2
          by_cases h256 : acc.length = 256
          · have HQ : Hid (up (txtP S.rest) S.els = none) := HQ0.out (by rw [← hq2, if_pos h256])
            have h256' : ((acc.length : Int) == 256) = true := by rw [h256]; rfl
            clear hb3 hf3 f2 b2 HK hf23 hrow ho HQq HQ0 HF2 hq2 h256
            go_wp2_with fail
            exact fin (flat 0 ⟨#[]⟩ 0) false Tryz.results55 HB1.out HF.out hlt HB.out (noneO _ _) (flat_tx _ _) HQ.out rfl rfl
          · rw [if_neg h256] at hq2
            have hsz := HLt.out
            have hsz3 : W.heap.size + 1 ≤ w3.heap.size := lt_of_heap b2
            obtain ⟨p', c', w4, hr4, hrow4, hcase⟩ := push_byte w3 (W.heap.size + 1) p c acc b hrow (by omega) hsz3
            have hone := one_lt ho
            have HR4 := mkHid hr4
            have hrk : ∀ g ∈ blk p, W.heap.size + 1 ≤ g := fun g hg => (own_lt hrow g ((blk_own _ _ _ _).2 hg)).1
            have hf4 : Fr (blk p) w3 w4 := by
              rcases hcase with ⟨-, -, q⟩ | ⟨q, -⟩
              · exact q
              · exact q.mono (by simp)
            have hb4 := hb3.fr hf4 (fun hm => by have := hrk r hm; omega)
            have HS : Hid (QS W r S R (.slice p' (acc.length + 1) c') w4) := ⟨p', c', acc ++ [b], y, f, by simp, hrow4, hb4, f2.trans hf4 (fun g hg => .inr (by have := hrk g hg; omega)), (hf4.block _ (lt_of_heap b2) (fun hm => by have := hrk _ hm; omega)).trans b2, hq2, by omega, by simp; omega⟩
            have hm4 := lenW_is hb4
            simp only at hm4
            have h256' : ((acc.length : Int) == 256) = false := by simpa using (show ¬ (acc.length : Int) = 256 by omega)
            clear hb3 hf3 f2 b2 HK hf23 hrow ho HQq HQ0 HF2 hq2 h256 hr4 hrow4 hcase hrk hf4 hb4
            go_wp2_with (at_builtin; refine Lib.wpList_append_run _ rfl (.tmp 27) (.tmp 29) 57 57 rfl _ _ rfl rfl _ _ HR4.out ?_)
            go_roundw
            case rel => exact HS.out
            case measure => rw [hm4, hmes]; exact hone
end Go.Proofs.YtclkoffnjiiioaaGreatDoor
namespace Go.Proofs.YtclkoffnjiiioaaGreatDoor
open Go.RowKit
set_option linter.unusedVariables false
set_option linter.unusedSimpArgs false
attribute [local go_sem ↓] Go.wp_at_zero Go.wp_at_succ
/-- what the reading of numbers answers -/
def NsR (W : World) (r : Nat) (S : Rv) (k : Nat) (e : Ending) (w' : World) : Prop :=
  ∃ (ok : Bool) (p : Option Addr) (c : Nat) (ns : List Int) (x : Bs), e = .returned (.tuple #[.slice p ns.length c, .bool ok]) ∧ RB w' r { S with rest := x } ∧ Fr [r] W w' ∧ w'.ownsRow W.heap.size 3 1 (.slice p ns.length c) ns.length (ns.map (Value.int .i64)) ∧ ns.length ≤ k ∧ numsP k S.rest = (if ok = true then some (ns, x) else none)
def nsUp (acc : List Int) (q : Option (List Int × Bs)) : Option (List Int × Bs) := match q with | none => none | some (l, y) => some (acc ++ l, y)
def NS (W : World) (r : Nat) (S : Rv) (k : Nat) (v q : Value) (wr : World) : Prop :=
  ∃ (i : Nat) (p : Option Addr) (c : Nat) (acc : List Int) (x : Bs), i ≤ k ∧ q = .int .i64 (i : Int) ∧ v = .slice p i c ∧ acc.length = i ∧ wr.ownsRow W.heap.size 3 1 (.slice p acc.length c) acc.length (acc.map (Value.int .i64)) ∧ RB wr r { S with rest := x } ∧ Fr [r] W wr ∧ numsP k S.rest = nsUp acc (numsP (k - i) x)
theorem row0 (w : World) (B : Nat) : w.ownsRow B 3 1 (.slice none ([] : List Int).length 0) ([] : List Int).length (([] : List Int).map (Value.int .i64)) := ⟨rfl, .inl ⟨rfl, rfl⟩⟩
set_option maxRecDepth 100000 in
set_option maxHeartbeats 8000000 in
theorem rnums_ok (W : World) (r : Nat) (S : Rv) (k : Nat) (hk : k ≤ 100) (h : RB W r S) (hE : Ev W) (hr : 9 ≤ r) : Calls Tryz.prog 53 #[pt r, .int .i64 (k : Int)] W fun e w' => NsR W r S k e w' := by
  have hlt := h.lt
  have HS : Hid (NS W r S k (.slice none 0 0) (.int .i64 0) W) := ⟨0, none, 0, [], S.rest, by omega, rfl, rfl, rfl, row0 W _, h, Fr.refl _ _, by rw [Nat.sub_zero]; cases numsP k S.rest <;> rfl⟩
  have HE := mkHid hE
  clear h hE
  go_enter Tryz.func53, Tryz.ntmps53
  go_wp2_with fail
  go_loopw [6, 10] (fun v q wr => Hid (NS W r S k v q wr)) (fun _ q _ => k - (intOf q).toNat)
  case atStart => exact HS.out
  case round =>
    clear HS
    obtain ⟨i, p, c, acc, x, hi, rfl, rfl, hal, hrow, hb, hf, hq⟩ := hrel.out
    have i0 : (0 : Int) ≤ (i : Int) := by omega
    by_cases hik : i < k
    · have i1 : (i : Int) < (k : Int) := by omega
      rw [show k - i = (k - (i + 1)) + 1 by omega, numsP] at hq
      have HEw := mkHid (HE.out.fr1 hf hr)
      cases ht : tokP [32] x with
      | none =>
        have HT := mkHid (token_miss hb ht)
        rw [ht] at hq
        simp only [nsUp] at hq
        have HQ := mkHid hq
        have HF := mkHid hf
        clear hrel hrow hb hf hq ht
        go_wp2_with fail
        refine HT.out.mono ?_
        rintro e w2 ⟨rfl, hb2, hf2⟩
        have HB := mkHid hb2
        have HF2 := mkHid (HF.out.trans hf2 (by simp))
        clear hb2 hf2
        go_wp2_with fail
        go_ret2
        exact ⟨false, none, 0, [], x, rfl, HB.out, HF2.out, row0 _ _, Nat.zero_le _, HQ.out⟩
      | some y =>
        have HT := mkHid (token_hit hb ht)
        rw [ht] at hq
        simp only at hq
        have HN : Hid (∀ V, RB V r { S with rest := y } → Fr [r] wr V → Calls Tryz.prog 57 #[pt r] V fun e w' => NumR V r { S with rest := y } e w') := fun V hV fV => rnum_ok V r _ hV (HEw.out.fr1 fV hr) hr
        have HK : Hid (∀ V, Fr [r] wr V → Fr [r] W V ∧ V.ownsRow W.heap.size 3 1 (.slice p acc.length c) acc.length (acc.map (Value.int .i64))) := fun V fV => ⟨hf.trans fV (by simp), own_keep hrow fV hlt⟩
        have HQ := mkHid hq
        clear hrel hrow hb hf hq ht
        go_wp2_with fail
        refine HT.out.mono ?_
        rintro e w2 ⟨rfl, hb2, hf2⟩
        have H2 := mkHid (HN.out w2 hb2 hf2)
        have HF2 := mkHid hf2
        clear hb2 hf2 HN HT
        go_wp2_with fail
        refine H2.out.mono ?_
        rintro e w3 hn3
        unfold NumR at hn3
        simp only at hn3
        cases hn : numP y with
        | none =>
          rw [hn] at hn3
          simp only at hn3
          obtain ⟨rfl, hb3, hf3⟩ := hn3
          have hq2 := HQ.out
          rw [hn] at hq2
          simp only [nsUp] at hq2
          have HQ2 := mkHid hq2
          have HB := mkHid hb3
          have HF3 := mkHid (HK.out w3 (HF2.out.trans hf3 (by simp))).1
          clear hb3 hf3 hq2 hn HK HQ
          go_wp2_with fail
          go_ret2
          exact ⟨false, none, 0, [], y, rfl, HB.out, HF3.out, row0 _ _, Nat.zero_le _, HQ2.out⟩
        | some vz =>
          obtain ⟨v, z⟩ := vz
          rw [hn] at hn3
          simp only at hn3
          obtain ⟨rfl, hb3, hf3⟩ := hn3
          have hq2 := HQ.out
          rw [hn] at hq2
          simp only at hq2
          obtain ⟨f3, hrow⟩ := HK.out w3 (HF2.out.trans hf3 (by simp))
          obtain ⟨p', c', w4, hr4, hrow4, hcase⟩ := push_int w3 W.heap.size p c acc v hrow (by omega) f3.size
          rw [hal] at hr4
          have HR4 := mkHid hr4
          have hrk : ∀ g ∈ blk p, W.heap.size ≤ g := fun g hg => (own_lt hrow g ((blk_own _ _ _ _).2 hg)).1
          have hf4 : Fr (blk p) w3 w4 := by
            rcases hcase with ⟨-, -, q⟩ | ⟨q, -⟩
            · exact q
            · exact q.mono (by simp)
          have hb4 := hb3.fr hf4 (fun hm => by have := hrk r hm; omega)
          have HS : Hid (NS W r S k (.slice p' (i + 1) c') (.int .i64 ((i : Int) + 1)) w4) := ⟨i + 1, p', c', acc ++ [v], z, by omega, by simp, rfl, by simp [hal], hrow4, hb4, f3.trans hf4 (fun g hg => .inr (hrk g hg)), by
            rw [hq2]
            cases numsP (k - (i + 1)) z with
            | none => rfl
            | some q => simp [nsUp]⟩
          clear hb3 hf3 f3 hrow hq2 hn HK HQ hr4 hrow4 hcase hrk hf4 hb4
          go_wp2_with (at_builtin; refine Lib.wpList_append_run _ rfl (.tmp 22) (.tmp 24) 23 23 rfl _ _ rfl rfl _ _ HR4.out ?_)
          go_roundw
          case rel => exact HS.out
          case measure => simp [intOf]; omega
    · have hik2 : i = k := by omega
      subst hik2
      rw [Nat.sub_self, numsP] at hq
      have hq3 : numsP i S.rest = some (acc, x) := by rw [hq]; simp [nsUp]
      have HQ := mkHid hq3
      clear hq3
      have HB := mkHid hb
      have HF := mkHid hf
      have HRw := mkHid hrow
      have HL := mkHid hal
      clear hrel hrow hb hf hq hal
      go_wp2_with fail
      go_ret2
      exact ⟨true, p, c, acc, x, by rw [HL.out]; rfl, HB.out, HF.out, HRw.out, Nat.le_of_eq HL.out, HQ.out⟩
end Go.Proofs.YtclkoffnjiiioaaGreatDoor
namespace Go.Proofs.YtclkoffnjiiioaaGreatDoor
open Go.RowKit
set_option linter.unusedVariables false
set_option linter.unusedSimpArgs false
attribute [local go_sem ↓] Go.wp_at_zero Go.wp_at_succ
set_option maxRecDepth 100000 in
set_option maxHeartbeats 4000000 in
theorem rconst_ok (W : World) (r : Nat) (S : Rv) (h : RB W r S) : Calls Tryz.prog 102 #[pt r] W fun e w' => ElQ W r S (up (conP S.rest) S.els) e w' := by
  have hlt := h.lt
  have hz := wz_of W
  obtain ⟨W0, hW0⟩ : ∃ V, W.alloc (.cells #[.int .i64 0, .string ⟨#[]⟩, .int .i64 0, .slice none 0 0] 49) = V := ⟨_, rfl⟩
  rw [hW0] at hz
  have hb0 := h.fr hz.fr (by simp)
  have HW0 := mkHid hW0
  have HZ := mkHid hz
  clear h hz hW0
  cases h1 : tokP [110, 105, 108] S.rest with
  | some x =>
    have HT := mkHid (token_hit hb0 h1)
    have HQ : Hid (up (conP S.rest) S.els = some (stT (flat 5 ⟨#[]⟩ 0), x, S.els)) := by rw [flat_st]; unfold conP; rw [h1]; rfl
    clear h1 hb0
    go_enter Tryz.func102, Tryz.ntmps102
    go_wp2_with fail
    rw [HW0.out]
    refine HT.out.mono ?_
    rintro e w1 ⟨rfl, hb, hf⟩
    obtain ⟨f1, b1⟩ := HZ.out.on hlt hf
    obtain ⟨c0, c1, c2, c3, z0, z1, z2, z3⟩ := z4_of b1
    have HB := mkHid hb
    have HF := mkHid f1
    have HB1 := mkHid b1
    clear hb hf f1 b1
    go_wp2_with fail
    exact fin (flat 5 ⟨#[]⟩ 0) true Tryz.results102 HB1.out HF.out hlt HB.out (noneO _ _) (flat_tx _ _) HQ.out rfl rfl
  | none =>
    have HT := mkHid (token_miss hb0 h1)
    cases h2 : tokP [116, 114, 117, 101] S.rest with
    | some x =>
      have HT2 : Hid (∀ V, RB V r S → Calls Tryz.prog 52 #[pt r, .string (bA [116, 114, 117, 101])] V fun e w' => e = .returned (.bool true) ∧ RB w' r { S with rest := x } ∧ Fr [r] V w') := fun V hV => token_hit hV h2
      have HQ : Hid (up (conP S.rest) S.els = some (stT (flat 6 ⟨#[]⟩ 0), x, S.els)) := by rw [flat_st]; unfold conP; rw [h1, h2]; rfl
      clear h1 h2 hb0
      go_enter Tryz.func102, Tryz.ntmps102
      go_wp2_with fail
      rw [HW0.out]
      refine HT.out.mono ?_
      rintro e w1 ⟨rfl, hb, hf⟩
      have HT3 := mkHid (HT2.out w1 hb)
      have HF1 := mkHid hf
      clear hb hf HT2
      go_wp2_with fail
      refine HT3.out.mono ?_
      rintro e w2 ⟨rfl, hb, hf⟩
      obtain ⟨f1, b1⟩ := HZ.out.on hlt (HF1.out.trans hf (by simp))
      obtain ⟨c0, c1, c2, c3, z0, z1, z2, z3⟩ := z4_of b1
      have HB := mkHid hb
      have HF := mkHid f1
      have HB1 := mkHid b1
      clear hb hf f1 b1
      go_wp2_with fail
      exact fin (flat 6 ⟨#[]⟩ 0) true Tryz.results102 HB1.out HF.out hlt HB.out (noneO _ _) (flat_tx _ _) HQ.out rfl rfl
    | none =>
      have HT2 : Hid (∀ V, RB V r S → Calls Tryz.prog 52 #[pt r, .string (bA [116, 114, 117, 101])] V fun e w' => e = .returned (.bool false) ∧ RB w' r S ∧ Fr [r] V w') := fun V hV => token_miss hV h2
      cases h3 : tokP [102, 97, 108, 115, 101] S.rest with
      | some x =>
        have HT4 : Hid (∀ V, RB V r S → Calls Tryz.prog 52 #[pt r, .string (bA [102, 97, 108, 115, 101])] V fun e w' => e = .returned (.bool true) ∧ RB w' r { S with rest := x } ∧ Fr [r] V w') := fun V hV => token_hit hV h3
        have HQ : Hid (up (conP S.rest) S.els = some (stT (flat 7 ⟨#[]⟩ 0), x, S.els)) := by rw [flat_st]; unfold conP; rw [h1, h2, h3]; rfl
        clear h1 h2 h3 hb0
        go_enter Tryz.func102, Tryz.ntmps102
        go_wp2_with fail
        rw [HW0.out]
        refine HT.out.mono ?_
        rintro e w1 ⟨rfl, hb, hf⟩
        have HT3 := mkHid (HT2.out w1 hb)
        have HF1 := mkHid hf
        clear hb hf HT2
        go_wp2_with fail
        refine HT3.out.mono ?_
        rintro e w2 ⟨rfl, hb, hf⟩
        have HT5 := mkHid (HT4.out w2 hb)
        have HF2 := mkHid (HF1.out.trans hf (by simp))
        clear hb hf HT4 HT3 HF1
        go_wp2_with fail
        refine HT5.out.mono ?_
        rintro e w3 ⟨rfl, hb, hf⟩
        obtain ⟨f1, b1⟩ := HZ.out.on hlt (HF2.out.trans hf (by simp))
        obtain ⟨c0, c1, c2, c3, z0, z1, z2, z3⟩ := z4_of b1
        have HB := mkHid hb
        have HF := mkHid f1
        have HB1 := mkHid b1
        clear hb hf f1 b1
        go_wp2_with fail
        exact fin (flat 7 ⟨#[]⟩ 0) true Tryz.results102 HB1.out HF.out hlt HB.out (noneO _ _) (flat_tx _ _) HQ.out rfl rfl
      | none =>
        have HT4 : Hid (∀ V, RB V r S → Calls Tryz.prog 52 #[pt r, .string (bA [102, 97, 108, 115, 101])] V fun e w' => e = .returned (.bool false) ∧ RB w' r S ∧ Fr [r] V w') := fun V hV => token_miss hV h3
        have HQ : Hid (up (conP S.rest) S.els = none) := by unfold conP; rw [h1, h2, h3]; rfl
        clear h1 h2 h3 hb0
        go_enter Tryz.func102, Tryz.ntmps102
        go_wp2_with fail
        rw [HW0.out]
        refine HT.out.mono ?_
        rintro e w1 ⟨rfl, hb, hf⟩
        have HT3 := mkHid (HT2.out w1 hb)
        have HF1 := mkHid hf
        clear hb hf HT2
        go_wp2_with fail
        refine HT3.out.mono ?_
        rintro e w2 ⟨rfl, hb, hf⟩
        have HT5 := mkHid (HT4.out w2 hb)
        have HF2 := mkHid (HF1.out.trans hf (by simp))
        clear hb hf HT4 HT3 HF1
        go_wp2_with fail
        refine HT5.out.mono ?_
        rintro e w3 ⟨rfl, hb, hf⟩
        obtain ⟨f1, b1⟩ := HZ.out.on hlt (HF2.out.trans hf (by simp))
        obtain ⟨c0, c1, c2, c3, z0, z1, z2, z3⟩ := z4_of b1
        have HB := mkHid hb
        have HF := mkHid f1
        have HB1 := mkHid b1
        clear hb hf f1 b1
        go_wp2_with fail
        exact fin (flat 0 ⟨#[]⟩ 0) false Tryz.results102 HB1.out HF.out hlt HB.out (noneO _ _) (flat_tx _ _) HQ.out rfl rfl
end Go.Proofs.YtclkoffnjiiioaaGreatDoor
namespace Go.Proofs.YtclkoffnjiiioaaGreatDoor
open Go.RowKit
set_option linter.unusedVariables false
set_option linter.unusedSimpArgs false
attribute [local go_sem ↓] Go.wp_at_zero Go.wp_at_succ
/-- a row of literals of one's own, with all that is in them, in blocks from B on -/
def TR (B : Nat) (wr : World) (p : Option Addr) (c : Nat) (us : List LitT) : Prop :=
  wr.ownsRow B 49 4 (.slice p us.length c) us.length (litCells us) ∧ ∀ u ∈ us, u.text.size ≤ 140737488355328 ∧ LitsO wr (fun g => B ≤ g ∧ g ∉ blk p) u.p u.c u.kids
theorem TR.nil (B : Nat) (wr : World) : TR B wr none 0 [] := ⟨⟨rfl, .inl ⟨rfl, rfl⟩⟩, fun u hu => by cases hu⟩
theorem TR.blk {B : Nat} {wr : World} {p : Option Addr} {c : Nat} {us : List LitT} (h : TR B wr p c us) : ∀ g ∈ blk p, B ≤ g ∧ g < wr.heap.size := fun g hg => own_lt h.1 g ((blk_own _ _ _ _).2 hg)
theorem TR.keep {B : Nat} {wr V : World} {S : List Nat} {p : Option Addr} {c : Nat} {us : List LitT} (h : TR B wr p c us) (f : Fr S wr V) (hS : ∀ g ∈ S, g < B ∨ wr.heap.size ≤ g) : TR B V p c us := by
  refine ⟨own_congr h.1 fun g hg => f.block g (own_lt h.1 g hg).2 (fun hm => by have := own_lt h.1 g hg; rcases hS g hm with q | q <;> omega), fun u hu => ⟨(h.2 u hu).1, (h.2 u hu).2.keep f (fun g hg hl hm => by rcases hS g hm with q | q <;> omega) (fun g hg _ => hg)⟩⟩
theorem TR.push {B : Nat} {V : World} {p : Option Addr} {c : Nat} {us : List LitT} (h : TR B V p c us) (hi : us.length ≤ 1000000) (hB : B ≤ V.heap.size) (u : LitT) (hu : u.text.size ≤ 140737488355328) (hk : LitsO V (fun g => B ≤ g ∧ g ∉ YtclkoffnjiiioaaGreatDoor.blk p) u.p u.c u.kids) :
    ∃ p2 c2 w3, (Builtin.append_ #[22, 22] 22 #[.slice p us.length c, .slice (some ⟨V.heap.size, 0, none⟩) 1 1]).run Tryz.prog (V.alloc (.cells (litc u).toArray 49)) = .ok (.slice p2 (us.length + 1) c2) w3 ∧ TR B w3 p2 c2 (us ++ [u]) ∧ Fr (YtclkoffnjiiioaaGreatDoor.blk p) V w3 := by
  obtain ⟨ho, hks⟩ := h
  obtain ⟨p2, c2, w3, r, o3, m⟩ := pushS (t := 22) (e := 49) Tryz.underlying22 info54 rfl (by decide) V B p c us.length (litCells us) (litc u) rfl ho (by simp [litc, Value.oneCell', LitT.items]) (by unfold maxLen; omega) (by omega) hB
  have hall : ∀ y ∈ us ++ [u], y.text.size ≤ 140737488355328 ∧ LitsO V (fun g => B ≤ g ∧ g ∉ YtclkoffnjiiioaaGreatDoor.blk p) y.p y.c y.kids := fun y hy => by
    rcases List.mem_append.1 hy with hy | hy
    · exact hks y hy
    · have : y = u := by simpa using hy
      subst this; exact ⟨hu, hk⟩
  refine ⟨p2, c2, w3, r, ⟨?_, fun y hy => ⟨(hall y hy).1, ?_⟩⟩, ?_⟩
  · have e : litCells (us ++ [u]) = litCells us ++ litc u := by simp [litCells]
    rw [e, List.length_append]; exact o3
  · rcases m with ⟨rfl, -, e3⟩ | ⟨e1, e2⟩
    · exact (hall y hy).2.keep e3 (fun g hg _ => hg.2) (fun g hg _ => hg)
    · exact (hall y hy).2.keep e1 (fun g hg _ => by simp) (fun g hg hl => ⟨hg.1, fun hm => by have := e2 g hm; omega⟩)
  · rcases m with ⟨-, -, e3⟩ | ⟨e1, -⟩
    · exact e3
    · exact e1.mono (by simp)
/-- the row is a list that can be read -/
theorem TR.lits {B : Nat} {wr : World} {p : Option Addr} {c : Nat} {us : List LitT} (h : TR B wr p c us) (hs : us.length ≤ 1000000) : LitsO wr (fun g => B ≤ g) p c us := by
  by_cases h0 : us.length = 0
  · have : us = [] := List.length_eq_zero_iff.1 h0
    subst this
    refine .mk p c [] (fun e => ?_) (fun h => by simp at h) (by simp) (fun t ht => by cases ht) (fun t ht => by cases ht)
    subst e
    rcases h.1.2 with ⟨e, -⟩ | ⟨g, cap, cur, e, -⟩
    · injection e
    · cases e
  · refine row_lits (rest := []) (by rw [List.append_nil]; exact h.1) (by simp) (by omega) (fun g hg => (h.blk g hg).1) (by omega) (fun t ht => (h.2 t ht).1) (fun t ht => (h.2 t ht).2.keep (Fr.refl [] wr) (fun _ _ _ => by simp) (fun g hg _ => hg.1))
/-- who reads what begins here -/
def who (b : UInt8) : Nat := if b = 39 then 55 else if b = 40 then 56 else if b = 35 then 101 else if b = 110 ∨ b = 116 ∨ b = 102 then 102 else 103
theorem u8_beq (b : UInt8) (n : Nat) (hn : n < 256) : ((b.toNat : Int) == (n : Int)) = decide (b = UInt8.ofNat n) := by
  by_cases h : b = UInt8.ofNat n
  · rw [decide_eq_true h, h]
    simp [UInt8.toNat_ofNat', Nat.mod_eq_of_lt hn]
  · rw [decide_eq_false h]
    have : b.toNat ≠ n := fun e => h (by rw [← e]; simp)
    simp
    omega
set_option maxRecDepth 100000 in
set_option maxHeartbeats 4000000 in
theorem ahead_ok (W : World) (r : Nat) (S : Rv) (h : RB W r S) : Calls Tryz.prog 83 #[pt r] W fun e w' => e = .returned (.func (.func (who (fstB S.rest))) #[pt r] #[]) ∧ w' = W := by
  have HF := mkHid (first_ok W r S h)
  clear h
  generalize fstB S.rest = b at *
  have e1 := u8_beq b 39 (by decide)
  have e2 := u8_beq b 40 (by decide)
  have e3 := u8_beq b 35 (by decide)
  have e4 := u8_beq b 110 (by decide)
  have e5 := u8_beq b 116 (by decide)
  have e6 := u8_beq b 102 (by decide)
  have hw : who b = if b = 39 then 55 else if b = 40 then 56 else if b = 35 then 101 else if b = 110 ∨ b = 116 ∨ b = 102 then 102 else 103 := rfl
  by_cases h1 : b = 39
  · rw [decide_eq_true (show b = UInt8.ofNat 39 from h1)] at e1
    rw [if_pos h1] at hw
    have HW := mkHid hw
    clear hw h1 e2 e3 e4 e5 e6
    go_enter Tryz.func83, Tryz.ntmps83
    go_wp2_with fail
    refine HF.out.mono ?_
    rintro e w1 ⟨rfl, rfl⟩
    go_wp2_with fail
    go_ret
    exact ⟨by rw [HW.out]; rfl, rfl⟩
  rw [decide_eq_false (show ¬ b = UInt8.ofNat 39 from h1)] at e1
  rw [if_neg h1] at hw
  by_cases h2 : b = 40
  · rw [decide_eq_true (show b = UInt8.ofNat 40 from h2)] at e2
    rw [if_pos h2] at hw
    have HW := mkHid hw
    clear hw h1 h2 e3 e4 e5 e6
    go_enter Tryz.func83, Tryz.ntmps83
    go_wp2_with fail
    refine HF.out.mono ?_
    rintro e w1 ⟨rfl, rfl⟩
    go_wp2_with fail
    go_ret
    exact ⟨by rw [HW.out]; rfl, rfl⟩
  rw [decide_eq_false (show ¬ b = UInt8.ofNat 40 from h2)] at e2
  rw [if_neg h2] at hw
  by_cases h3 : b = 35
  · rw [decide_eq_true (show b = UInt8.ofNat 35 from h3)] at e3
    rw [if_pos h3] at hw
    have HW := mkHid hw
    clear hw h1 h2 h3 e4 e5 e6
    go_enter Tryz.func83, Tryz.ntmps83
    go_wp2_with fail
    refine HF.out.mono ?_
    rintro e w1 ⟨rfl, rfl⟩
    go_wp2_with fail
    go_ret
    exact ⟨by rw [HW.out]; rfl, rfl⟩
  rw [decide_eq_false (show ¬ b = UInt8.ofNat 35 from h3)] at e3
  rw [if_neg h3] at hw
  by_cases h4 : b = 110
  · rw [decide_eq_true (show b = UInt8.ofNat 110 from h4)] at e4
    rw [if_pos (.inl h4)] at hw
    have HW := mkHid hw
    clear hw h1 h2 h3 h4 e5 e6
    go_enter Tryz.func83, Tryz.ntmps83
    go_wp2_with fail
    refine HF.out.mono ?_
    rintro e w1 ⟨rfl, rfl⟩
    go_wp2_with fail
    go_ret
    exact ⟨by rw [HW.out]; rfl, rfl⟩
  rw [decide_eq_false (show ¬ b = UInt8.ofNat 110 from h4)] at e4
  by_cases h5 : b = 116
  · rw [decide_eq_true (show b = UInt8.ofNat 116 from h5)] at e5
    rw [if_pos (.inr (.inl h5))] at hw
    have HW := mkHid hw
    clear hw h1 h2 h3 h4 h5 e6
    go_enter Tryz.func83, Tryz.ntmps83
    go_wp2_with fail
    refine HF.out.mono ?_
    rintro e w1 ⟨rfl, rfl⟩
    go_wp2_with fail
    go_ret
    exact ⟨by rw [HW.out]; rfl, rfl⟩
  rw [decide_eq_false (show ¬ b = UInt8.ofNat 116 from h5)] at e5
  by_cases h6 : b = 102
  · rw [decide_eq_true (show b = UInt8.ofNat 102 from h6)] at e6
    rw [if_pos (.inr (.inr h6))] at hw
    have HW := mkHid hw
    clear hw h1 h2 h3 h4 h5 h6
    go_enter Tryz.func83, Tryz.ntmps83
    go_wp2_with fail
    refine HF.out.mono ?_
    rintro e w1 ⟨rfl, rfl⟩
    go_wp2_with fail
    go_ret
    exact ⟨by rw [HW.out]; rfl, rfl⟩
  · rw [decide_eq_false (show ¬ b = UInt8.ofNat 102 from h6)] at e6
    rw [if_neg (by rintro (h | h | h); exact h4 h; exact h5 h; exact h6 h)] at hw
    have HW := mkHid hw
    clear hw h1 h2 h3 h4 h5 h6
    go_enter Tryz.func83, Tryz.ntmps83
    go_wp2_with fail
    refine HF.out.mono ?_
    rintro e w1 ⟨rfl, rfl⟩
    go_wp2_with fail
    go_ret
    exact ⟨by rw [HW.out]; rfl, rfl⟩
end Go.Proofs.YtclkoffnjiiioaaGreatDoor
