import Derived.Test.YtclkoffnjiiioaaGreatDoorG06JRd8
namespace Go.Proofs.YtclkoffnjiiioaaGreatDoor
open Go.RowKit
set_option linter.unusedVariables false
set_option linter.unusedSimpArgs false
attribute [local go_sem ↓] Go.wp_at_zero Go.wp_at_succ
/-- what the reading of numbers answers -/
def NsR (W : World) (r : Nat) (S : Rv) (k : Nat) (e : Ending) (w' : World) : Prop :=
  ∃ (ok : Bool) (p : Option Addr) (c : Nat) (ns : List Int) (x : Bs), e = .returned (.tuple #[.slice p ns.length c, .bool ok]) ∧ RB w' r { S with rest := x } ∧ Fr [r] W w' ∧ w'.ownsRow W.heap.size 3 1 (.slice p ns.length c) ns.length (ns.map (Value.int .i64)) ∧ ns.length ≤ k ∧ numsP k S.rest = (if ok = true then some (ns, x) else none)
def nsUp (acc : List Int) (q : Option (List Int × Bs)) : Option (List Int × Bs) := match q with | none => none | some (l, y) => some (acc ++ l, y)
def NS (W : World) (r : Nat) (S : Rv) (k : Nat) (v q : Value) (wr : World) : Prop :=
  ∃ (i : Nat) (p : Option Addr) (c : Nat) (acc : List Int) (x : Bs), i ≤ k ∧ q = .int .i64 (i : Int) ∧ v = .slice p i c ∧ acc.length = i ∧ wr.ownsRow W.heap.size 3 1 (.slice p acc.length c) acc.length (acc.map (Value.int .i64)) ∧ RB wr r { S with rest := x } ∧ Fr [r] W wr ∧ numsP k S.rest = nsUp acc (numsP (k - i) x)
theorem row0 (w : World) (B : Nat) : w.ownsRow B 3 1 (.slice none ([] : List Int).length 0) ([] : List Int).length (([] : List Int).map (Value.int .i64)) := ⟨rfl, .inl ⟨rfl, rfl⟩⟩
set_option maxRecDepth 100000 in
set_option maxHeartbeats 8000000 in
theorem rnums_ok (W : World) (r : Nat) (S : Rv) (k : Nat) (hk : k ≤ 100) (h : RB W r S) (hE : Ev W) (hr : 9 ≤ r) : Calls Tryz.prog 53 #[pt r, .int .i64 (k : Int)] W fun e w' => NsR W r S k e w' := by
  have hlt := h.lt
  have HS : Hid (NS W r S k (.slice none 0 0) (.int .i64 0) W) := ⟨0, none, 0, [], S.rest, by omega, rfl, rfl, rfl, row0 W _, h, Fr.refl _ _, by rw [Nat.sub_zero]; cases numsP k S.rest <;> rfl⟩
  have HE := mkHid hE
  clear h hE
  go_enter Tryz.func53, Tryz.ntmps53
  go_wp2_with fail
  go_loopw [6, 10] (fun v q wr => Hid (NS W r S k v q wr)) (fun _ q _ => k - (intOf q).toNat)
  case atStart => exact HS.out
  case round =>
    clear HS
    obtain ⟨i, p, c, acc, x, hi, rfl, rfl, hal, hrow, hb, hf, hq⟩ := hrel.out
    have i0 : (0 : Int) ≤ (i : Int) := by omega
    by_cases hik : i < k
    · have i1 : (i : Int) < (k : Int) := by omega
      rw [show k - i = (k - (i + 1)) + 1 by omega, numsP] at hq
      have HEw := mkHid (HE.out.fr1 hf hr)
      cases ht : tokP [32] x with
      | none =>
        have HT := mkHid (token_miss hb ht)
        rw [ht] at hq
        simp only [nsUp] at hq
        have HQ := mkHid hq
        have HF := mkHid hf
        clear hrel hrow hb hf hq ht
        go_wp2_with fail
        refine HT.out.mono ?_
        rintro e w2 ⟨rfl, hb2, hf2⟩
        have HB := mkHid hb2
        have HF2 := mkHid (HF.out.trans hf2 (by simp))
        clear hb2 hf2
        go_wp2_with fail
        go_ret2
        exact ⟨false, none, 0, [], x, rfl, HB.out, HF2.out, row0 _ _, Nat.zero_le _, HQ.out⟩
      | some y =>
        have HT := mkHid (token_hit hb ht)
        rw [ht] at hq
        simp only at hq
        have HN : Hid (∀ V, RB V r { S with rest := y } → Fr [r] wr V → Calls Tryz.prog 57 #[pt r] V fun e w' => NumR V r { S with rest := y } e w') := fun V hV fV => rnum_ok V r _ hV (HEw.out.fr1 fV hr) hr
        have HK : Hid (∀ V, Fr [r] wr V → Fr [r] W V ∧ V.ownsRow W.heap.size 3 1 (.slice p acc.length c) acc.length (acc.map (Value.int .i64))) := fun V fV => ⟨hf.trans fV (by simp), own_keep hrow fV hlt⟩
        have HQ := mkHid hq
        clear hrel hrow hb hf hq ht
        go_wp2_with fail
        refine HT.out.mono ?_
        rintro e w2 ⟨rfl, hb2, hf2⟩
        have H2 := mkHid (HN.out w2 hb2 hf2)
        have HF2 := mkHid hf2
        clear hb2 hf2 HN HT
        go_wp2_with fail
        refine H2.out.mono ?_
        rintro e w3 hn3
        unfold NumR at hn3
        simp only at hn3
        cases hn : numP y with
        | none =>
          rw [hn] at hn3
          simp only at hn3
          obtain ⟨rfl, hb3, hf3⟩ := hn3
          have hq2 := HQ.out
          rw [hn] at hq2
          simp only [nsUp] at hq2
          have HQ2 := mkHid hq2
          have HB := mkHid hb3
          have HF3 := mkHid (HK.out w3 (HF2.out.trans hf3 (by simp))).1
          clear hb3 hf3 hq2 hn HK HQ
          go_wp2_with fail
          go_ret2
          exact ⟨false, none, 0, [], y, rfl, HB.out, HF3.out, row0 _ _, Nat.zero_le _, HQ2.out⟩
        | some vz =>
          obtain ⟨v, z⟩ := vz
          rw [hn] at hn3
          simp only at hn3
          obtain ⟨rfl, hb3, hf3⟩ := hn3
          have hq2 := HQ.out
          rw [hn] at hq2
          simp only at hq2
          obtain ⟨f3, hrow⟩ := HK.out w3 (HF2.out.trans hf3 (by simp))
          obtain ⟨p', c', w4, hr4, hrow4, hcase⟩ := push_int w3 W.heap.size p c acc v hrow (by omega) f3.size
          rw [hal] at hr4
          have HR4 := mkHid hr4
          have hrk : ∀ g ∈ blk p, W.heap.size ≤ g := fun g hg => (own_lt hrow g ((blk_own _ _ _ _).2 hg)).1
          have hf4 : Fr (blk p) w3 w4 := by
            rcases hcase with ⟨-, -, q⟩ | ⟨q, -⟩
            · exact q
            · exact q.mono (by simp)
          have hb4 := hb3.fr hf4 (fun hm => by have := hrk r hm; omega)
          have HS : Hid (NS W r S k (.slice p' (i + 1) c') (.int .i64 ((i : Int) + 1)) w4) := ⟨i + 1, p', c', acc ++ [v], z, by omega, by simp, rfl, by simp [hal], hrow4, hb4, f3.trans hf4 (fun g hg => .inr (hrk g hg)), by
            rw [hq2]
            cases numsP (k - (i + 1)) z with
            | none => rfl
            | some q => simp [nsUp]⟩
          clear hb3 hf3 f3 hrow hq2 hn HK HQ hr4 hrow4 hcase hrk hf4 hb4
          go_wp2_with (at_builtin; refine Lib.wpList_append_run _ rfl (.tmp 22) (.tmp 24) 23 23 rfl _ _ rfl rfl _ _ HR4.out ?_)
          go_roundw
          case rel => exact HS.out
          case measure => simp [intOf]; omega
    · have hik2 : i = k := by omega
      subst hik2
      rw [Nat.sub_self, numsP] at hq
      have hq3 : numsP i S.rest = some (acc, x) := by rw [hq]; simp [nsUp]
      have HQ := mkHid hq3
      clear hq3
      have HB := mkHid hb
      have HF := mkHid hf
      have HRw := mkHid hrow
      have HL := mkHid hal
      clear hrel hrow hb hf hq hal
      go_wp2_with fail
      go_ret2
      exact ⟨true, p, c, acc, x, by rw [HL.out]; rfl, HB.out, HF.out, HRw.out, Nat.le_of_eq HL.out, HQ.out⟩
end Go.Proofs.YtclkoffnjiiioaaGreatDoor
namespace Go.Proofs.YtclkoffnjiiioaaGreatDoor
open Go.RowKit
set_option linter.unusedVariables false
set_option linter.unusedSimpArgs false
attribute [local go_sem ↓] Go.wp_at_zero Go.wp_at_succ
set_option maxRecDepth 100000 in
set_option maxHeartbeats 4000000 in
theorem rconst_ok (W : World) (r : Nat) (S : Rv) (h : RB W r S) : Calls Tryz.prog 102 #[pt r] W fun e w' => ElQ W r S (up (conP S.rest) S.els) e w' := by
  have hlt := h.lt
  have hz := wz_of W
  obtain ⟨W0, hW0⟩ : ∃ V, W.alloc (.cells #[.int .i64 0, .string ⟨#[]⟩, .int .i64 0, .slice none 0 0] 49) = V := ⟨_, rfl⟩
  rw [hW0] at hz
  have hb0 := h.fr hz.fr (by simp)
  have HW0 := mkHid hW0
  have HZ := mkHid hz
  clear h hz hW0
  cases h1 : tokP [110, 105, 108] S.rest with
  | some x =>
    have HT := mkHid (token_hit hb0 h1)
    have HQ : Hid (up (conP S.rest) S.els = some (stT (flat 5 ⟨#[]⟩ 0), x, S.els)) := by rw [flat_st]; unfold conP; rw [h1]; rfl
    clear h1 hb0
    go_enter Tryz.func102, Tryz.ntmps102
    go_wp2_with fail
    rw [HW0.out]
    refine HT.out.mono ?_
    rintro e w1 ⟨rfl, hb, hf⟩
    obtain ⟨f1, b1⟩ := HZ.out.on hlt hf
    obtain ⟨c0, c1, c2, c3, z0, z1, z2, z3⟩ := z4_of b1
    have HB := mkHid hb
    have HF := mkHid f1
    have HB1 := mkHid b1
    clear hb hf f1 b1
    go_wp2_with fail
    exact fin (flat 5 ⟨#[]⟩ 0) true Tryz.results102 HB1.out HF.out hlt HB.out (noneO _ _) (flat_tx _ _) HQ.out rfl rfl
  | none =>
    have HT := mkHid (token_miss hb0 h1)
    cases h2 : tokP [116, 114, 117, 101] S.rest with
    | some x =>
      have HT2 : Hid (∀ V, RB V r S → Calls Tryz.prog 52 #[pt r, .string (bA [116, 114, 117, 101])] V fun e w' => e = .returned (.bool true) ∧ RB w' r { S with rest := x } ∧ Fr [r] V w') := fun V hV => token_hit hV h2
      have HQ : Hid (up (conP S.rest) S.els = some (stT (flat 6 ⟨#[]⟩ 0), x, S.els)) := by rw [flat_st]; unfold conP; rw [h1, h2]; rfl
      clear h1 h2 hb0
      go_enter Tryz.func102, Tryz.ntmps102
      go_wp2_with fail
      rw [HW0.out]
      refine HT.out.mono ?_
      rintro e w1 ⟨rfl, hb, hf⟩
      have HT3 := mkHid (HT2.out w1 hb)
      have HF1 := mkHid hf
      clear hb hf HT2
      go_wp2_with fail
      refine HT3.out.mono ?_
      rintro e w2 ⟨rfl, hb, hf⟩
      obtain ⟨f1, b1⟩ := HZ.out.on hlt (HF1.out.trans hf (by simp))
      obtain ⟨c0, c1, c2, c3, z0, z1, z2, z3⟩ := z4_of b1
      have HB := mkHid hb
      have HF := mkHid f1
      have HB1 := mkHid b1
      clear hb hf f1 b1
      go_wp2_with fail
      exact fin (flat 6 ⟨#[]⟩ 0) true Tryz.results102 HB1.out HF.out hlt HB.out (noneO _ _) (flat_tx _ _) HQ.out rfl rfl
    | none =>
      have HT2 : Hid (∀ V, RB V r S → Calls Tryz.prog 52 #[pt r, .string (bA [116, 114, 117, 101])] V fun e w' => e = .returned (.bool false) ∧ RB w' r S ∧ Fr [r] V w') := fun V hV => token_miss hV h2
      cases h3 : tokP [102, 97, 108, 115, 101] S.rest with
      | some x =>
        have HT4 : Hid (∀ V, RB V r S → Calls Tryz.prog 52 #[pt r, .string (bA [102, 97, 108, 115, 101])] V fun e w' => e = .returned (.bool true) ∧ RB w' r { S with rest := x } ∧ Fr [r] V w') := fun V hV => token_hit hV h3
        have HQ : Hid (up (conP S.rest) S.els = some (stT (flat 7 ⟨#[]⟩ 0), x, S.els)) := by rw [flat_st]; unfold conP; rw [h1, h2, h3]; rfl
        clear h1 h2 h3 hb0
        go_enter Tryz.func102, Tryz.ntmps102
        go_wp2_with fail
        rw [HW0.out]
        refine HT.out.mono ?_
        rintro e w1 ⟨rfl, hb, hf⟩
        have HT3 := mkHid (HT2.out w1 hb)
        have HF1 := mkHid hf
        clear hb hf HT2
        go_wp2_with fail
        refine HT3.out.mono ?_
        rintro e w2 ⟨rfl, hb, hf⟩
        have HT5 := mkHid (HT4.out w2 hb)
        have HF2 := mkHid (HF1.out.trans hf (by simp))
        clear hb hf HT4 HT3 HF1
        go_wp2_with fail
        refine HT5.out.mono ?_
        rintro e w3 ⟨rfl, hb, hf⟩
        obtain ⟨f1, b1⟩ := HZ.out.on hlt (HF2.out.trans hf (by simp))
        obtain ⟨c0, c1, c2, c3, z0, z1, z2, z3⟩ := z4_of b1
        have HB := mkHid hb
        have HF := mkHid f1
        have HB1 := mkHid b1
        clear hb hf f1 b1
        go_wp2_with fail
        exact fin (flat 7 ⟨#[]⟩ 0) true Tryz.results102 HB1.out HF.out hlt HB.out (noneO _ _) (flat_tx _ _) HQ.out rfl rfl
      | none =>
        have HT4 : Hid (∀ V, RB V r S → Calls Tryz.prog 52 #[pt r, .string (bA [102, 97, 108, 115, 101])] V fun e w' => e = .returned (.bool false) ∧ RB w' r S ∧ Fr [r] V w') := fun V hV => token_miss hV h3
        have HQ : Hid (up (conP S.rest) S.els = none) := by unfold conP; rw [h1, h2, h3]; rfl
        clear h1 h2 h3 hb0
        go_enter Tryz.func102, Tryz.ntmps102
        go_wp2_with fail
        rw [HW0.out]
        refine HT.out.mono ?_
        rintro e w1 ⟨rfl, hb, hf⟩
        have HT3 := mkHid (HT2.out w1 hb)
        have HF1 := mkHid hf
        clear hb hf HT2
        go_wp2_with fail
        refine HT3.out.mono ?_
        rintro e w2 ⟨rfl, hb, hf⟩
        have HT5 := mkHid (HT4.out w2 hb)
        have HF2 := mkHid (HF1.out.trans hf (by simp))
        clear hb hf HT4 HT3 HF1
        go_wp2_with fail
        refine HT5.out.mono ?_
        rintro e w3 ⟨rfl, hb, hf⟩
        obtain ⟨f1, b1⟩ := HZ.out.on hlt (HF2.out.trans hf (by simp))
        obtain ⟨c0, c1, c2, c3, z0, z1, z2, z3⟩ := z4_of b1
        have HB := mkHid hb
        have HF := mkHid f1
        have HB1 := mkHid b1
        clear hb hf f1 b1
        go_wp2_with fail
        exact fin (flat 0 ⟨#[]⟩ 0) false Tryz.results102 HB1.out HF.out hlt HB.out (noneO _ _) (flat_tx _ _) HQ.out rfl rfl
end Go.Proofs.YtclkoffnjiiioaaGreatDoor
namespace Go.Proofs.YtclkoffnjiiioaaGreatDoor
open Go.RowKit
set_option linter.unusedVariables false
set_option linter.unusedSimpArgs false
attribute [local go_sem ↓] Go.wp_at_zero Go.wp_at_succ
/-- a row of literals of one's own, with all that is in them, in blocks from B on -/
def TR (B : Nat) (wr : World) (p : Option Addr) (c : Nat) (us : List LitT) : Prop :=
  wr.ownsRow B 49 4 (.slice p us.length c) us.length (litCells us) ∧ (∀ u ∈ us, u.text.size ≤ 140737488355328 ∧ LitsX wr (fun g => B ≤ g ∧ g ∉ blk p) u.p u.c u.kids) ∧ (ftL us).Nodup
theorem TR.nil (B : Nat) (wr : World) : TR B wr none 0 [] := ⟨⟨rfl, .inl ⟨rfl, rfl⟩⟩, (fun u hu => by cases hu), by rw [ftL_nil]; simp⟩
theorem TR.blk {B : Nat} {wr : World} {p : Option Addr} {c : Nat} {us : List LitT} (h : TR B wr p c us) : ∀ g ∈ blk p, B ≤ g ∧ g < wr.heap.size := fun g hg => own_lt h.1 g ((blk_own _ _ _ _).2 hg)
theorem TR.feet {B : Nat} {wr : World} {p : Option Addr} {c : Nat} {us : List LitT} (h : TR B wr p c us) : ∀ g ∈ ftL us, B ≤ g ∧ g ∉ YtclkoffnjiiioaaGreatDoor.blk p ∧ g < wr.heap.size := fun g hg => by
  obtain ⟨t, ht, hg⟩ := ftL_mem hg
  rw [ftT_at] at hg
  have := (h.2.1 t ht).2.feet g hg
  exact ⟨this.1.1, this.1.2, this.2⟩
theorem TR.keep {B : Nat} {wr V : World} {S : List Nat} {p : Option Addr} {c : Nat} {us : List LitT} (h : TR B wr p c us) (f : Fr S wr V) (hS : ∀ g ∈ S, g < B ∨ wr.heap.size ≤ g) : TR B V p c us := by
  refine ⟨own_congr h.1 fun g hg => f.block g (own_lt h.1 g hg).2 (fun hm => by have := own_lt h.1 g hg; rcases hS g hm with q | q <;> omega), fun u hu => ⟨(h.2.1 u hu).1, (h.2.1 u hu).2.keep f (fun g hg hl hm => by rcases hS g hm with q | q <;> omega) (fun g hg _ => hg)⟩, h.2.2⟩
theorem nd_snoc {us : List LitT} {u : LitT} {w : World} {Ok : Nat → Prop} (h : (ftL us).Nodup) (hk : LitsX w Ok u.p u.c u.kids) (hn : ∀ g, Ok g → g ∉ ftL us) : (ftL (us ++ [u])).Nodup := by
  rw [ftL_app, ftL_cons, ftL_nil, List.append_nil, ftT_at, List.nodup_append]
  exact ⟨h, hk.top.2.1, fun a ha b hb e => hn b (hk.feet b hb).1 (e ▸ ha)⟩
theorem TR.push {B : Nat} {V : World} {p : Option Addr} {c : Nat} {us : List LitT} (h : TR B V p c us) (hi : us.length ≤ 1000000) (hB : B ≤ V.heap.size) (u : LitT) (hu : u.text.size ≤ 140737488355328) (hk : LitsX V (fun g => B ≤ g ∧ g ∉ YtclkoffnjiiioaaGreatDoor.blk p ∧ g ∉ ftL us) u.p u.c u.kids) :
    ∃ p2 c2 w3, (Builtin.append_ #[22, 22] 22 #[.slice p us.length c, .slice (some ⟨V.heap.size, 0, none⟩) 1 1]).run Tryz.prog (V.alloc (.cells (litc u).toArray 49)) = .ok (.slice p2 (us.length + 1) c2) w3 ∧ TR B w3 p2 c2 (us ++ [u]) ∧ Fr (YtclkoffnjiiioaaGreatDoor.blk p) V w3 := by
  obtain ⟨ho, hks, hnd⟩ := h
  obtain ⟨p2, c2, w3, r, o3, m⟩ := pushS (t := 22) (e := 49) Tryz.underlying22 info54 rfl (by decide) V B p c us.length (litCells us) (litc u) rfl ho (by simp [litc, Value.oneCell', LitT.items]) (by unfold maxLen; omega) (by omega) hB
  have hnd2 := nd_snoc hnd hk (fun g hg => hg.2.2)
  have hall : ∀ y ∈ us ++ [u], y.text.size ≤ 140737488355328 ∧ LitsX V (fun g => B ≤ g ∧ g ∉ YtclkoffnjiiioaaGreatDoor.blk p) y.p y.c y.kids := fun y hy => by
    rcases List.mem_append.1 hy with hy | hy
    · exact hks y hy
    · have : y = u := by simpa using hy
      subst this; exact ⟨hu, hk.keep (Fr.refl [] V) (fun _ _ _ => by simp) (fun g hg _ => ⟨hg.1, hg.2.1⟩)⟩
  refine ⟨p2, c2, w3, r, ⟨?_, fun y hy => ⟨(hall y hy).1, ?_⟩, hnd2⟩, ?_⟩
  · have e : litCells (us ++ [u]) = litCells us ++ litc u := by simp [litCells]
    rw [e, List.length_append]; exact o3
  · rcases m with ⟨rfl, -, e3⟩ | ⟨e1, e2⟩
    · exact (hall y hy).2.keep e3 (fun g hg _ => hg.2) (fun g hg _ => hg)
    · exact (hall y hy).2.keep e1 (fun g hg _ => by simp) (fun g hg hl => ⟨hg.1, fun hm => by have := e2 g hm; omega⟩)
  · rcases m with ⟨-, -, e3⟩ | ⟨e1, -⟩
    · exact e3
    · exact e1.mono (by simp)
/-- the row is a list that can be read -/
theorem TR.lits {B : Nat} {wr : World} {p : Option Addr} {c : Nat} {us : List LitT} (h : TR B wr p c us) (hs : us.length ≤ 1000000) : LitsX wr (fun g => B ≤ g) p c us := by
  have hd : (YtclkoffnjiiioaaGreatDoor.blk p ++ ftL us).Nodup := by
    rw [List.nodup_append]
    refine ⟨by unfold YtclkoffnjiiioaaGreatDoor.blk; split <;> simp, h.2.2, fun a ha b hb e => (h.feet b hb).2.1 (e ▸ ha)⟩
  refine .mk p c us ?_ (fun g hg => (h.blk g hg).1) hd (by omega) (fun t ht => (h.2.1 t ht).1) (fun t ht => (h.2.1 t ht).2.keep (Fr.refl [] wr) (fun _ _ _ => by simp) (fun g hg _ => hg.1))
  refine ⟨h.1.1, ?_⟩
  rcases h.1.2 with q | ⟨g, cap, cur, e, q1, q2⟩
  · exact .inl q
  · exact .inr ⟨g, cap, cur, e, Nat.zero_le _, q2⟩
/-- who reads what begins here -/
def who (b : UInt8) : Nat := if b = 39 then 55 else if b = 40 then 56 else if b = 35 then 101 else if b = 110 ∨ b = 116 ∨ b = 102 then 102 else 103
theorem u8_beq (b : UInt8) (n : Nat) (hn : n < 256) : ((b.toNat : Int) == (n : Int)) = decide (b = UInt8.ofNat n) := by
  by_cases h : b = UInt8.ofNat n
  · rw [decide_eq_true h, h]
    simp [UInt8.toNat_ofNat', Nat.mod_eq_of_lt hn]
  · rw [decide_eq_false h]
    have : b.toNat ≠ n := fun e => h (by rw [← e]; simp)
    simp
    omega
set_option maxRecDepth 100000 in
set_option maxHeartbeats 4000000 in
theorem ahead_ok (W : World) (r : Nat) (S : Rv) (h : RB W r S) : Calls Tryz.prog 83 #[pt r] W fun e w' => e = .returned (.func (.func (who (fstB S.rest))) #[pt r] #[]) ∧ w' = W := by
  have HF := mkHid (first_ok W r S h)
  clear h
  generalize fstB S.rest = b at *
  have e1 := u8_beq b 39 (by decide)
  have e2 := u8_beq b 40 (by decide)
  have e3 := u8_beq b 35 (by decide)
  have e4 := u8_beq b 110 (by decide)
  have e5 := u8_beq b 116 (by decide)
  have e6 := u8_beq b 102 (by decide)
  have hw : who b = if b = 39 then 55 else if b = 40 then 56 else if b = 35 then 101 else if b = 110 ∨ b = 116 ∨ b = 102 then 102 else 103 := rfl
  by_cases h1 : b = 39
  · rw [decide_eq_true (show b = UInt8.ofNat 39 from h1)] at e1
    rw [if_pos h1] at hw
    have HW := mkHid hw
    clear hw h1 e2 e3 e4 e5 e6
    go_enter Tryz.func83, Tryz.ntmps83
    go_wp2_with fail
    refine HF.out.mono ?_
    rintro e w1 ⟨rfl, rfl⟩
    go_wp2_with fail
    go_ret
    exact ⟨by rw [HW.out]; rfl, rfl⟩
  rw [decide_eq_false (show ¬ b = UInt8.ofNat 39 from h1)] at e1
  rw [if_neg h1] at hw
  by_cases h2 : b = 40
  · rw [decide_eq_true (show b = UInt8.ofNat 40 from h2)] at e2
    rw [if_pos h2] at hw
    have HW := mkHid hw
    clear hw h1 h2 e3 e4 e5 e6
    go_enter Tryz.func83, Tryz.ntmps83
    go_wp2_with fail
    refine HF.out.mono ?_
    rintro e w1 ⟨rfl, rfl⟩
    go_wp2_with fail
    go_ret
    exact ⟨by rw [HW.out]; rfl, rfl⟩
  rw [decide_eq_false (show ¬ b = UInt8.ofNat 40 from h2)] at e2
  rw [if_neg h2] at hw
  by_cases h3 : b = 35
  · rw [decide_eq_true (show b = UInt8.ofNat 35 from h3)] at e3
    rw [if_pos h3] at hw
    have HW := mkHid hw
    clear hw h1 h2 h3 e4 e5 e6
    go_enter Tryz.func83, Tryz.ntmps83
    go_wp2_with fail
    refine HF.out.mono ?_
    rintro e w1 ⟨rfl, rfl⟩
    go_wp2_with fail
    go_ret
    exact ⟨by rw [HW.out]; rfl, rfl⟩
  rw [decide_eq_false (show ¬ b = UInt8.ofNat 35 from h3)] at e3
  rw [if_neg h3] at hw
  by_cases h4 : b = 110
  · rw [decide_eq_true (show b = UInt8.ofNat 110 from h4)] at e4
    rw [if_pos (.inl h4)] at hw
    have HW := mkHid hw
    clear hw h1 h2 h3 h4 e5 e6
    go_enter Tryz.func83, Tryz.ntmps83
    go_wp2_with fail
    refine HF.out.mono ?_
    rintro e w1 ⟨rfl, rfl⟩
    go_wp2_with fail
    go_ret
    exact ⟨by rw [HW.out]; rfl, rfl⟩
  rw [decide_eq_false (show ¬ b = UInt8.ofNat 110 from h4)] at e4
  by_cases h5 : b = 116
  · rw [decide_eq_true (show b = UInt8.ofNat 116 from h5)] at e5
    rw [if_pos (.inr (.inl h5))] at hw
    have HW := mkHid hw
    clear hw h1 h2 h3 h4 h5 e6
    go_enter Tryz.func83, Tryz.ntmps83
    go_wp2_with fail
    refine HF.out.mono ?_
    rintro e w1 ⟨rfl, rfl⟩
    go_wp2_with fail
    go_ret
    exact ⟨by rw [HW.out]; rfl, rfl⟩
  rw [decide_eq_false (show ¬ b = UInt8.ofNat 116 from h5)] at e5
  by_cases h6 : b = 102
  · rw [decide_eq_true (show b = UInt8.ofNat 102 from h6)] at e6
    rw [if_pos (.inr (.inr h6))] at hw
    have HW := mkHid hw
    clear hw h1 h2 h3 h4 h5 h6
    go_enter Tryz.func83, Tryz.ntmps83
    go_wp2_with fail
    refine HF.out.mono ?_
    rintro e w1 ⟨rfl, rfl⟩
    go_wp2_with fail
    go_ret
    exact ⟨by rw [HW.out]; rfl, rfl⟩
  · rw [decide_eq_false (show ¬ b = UInt8.ofNat 102 from h6)] at e6
    rw [if_neg (by rintro (h | h | h); exact h4 h; exact h5 h; exact h6 h)] at hw
    have HW := mkHid hw
    clear hw h1 h2 h3 h4 h5 h6
    go_enter Tryz.func83, Tryz.ntmps83
    go_wp2_with fail
    refine HF.out.mono ?_
    rintro e w1 ⟨rfl, rfl⟩
    go_wp2_with fail
    go_ret
    exact ⟨by rw [HW.out]; rfl, rfl⟩
end Go.Proofs.YtclkoffnjiiioaaGreatDoor
namespace Go.Proofs.YtclkoffnjiiioaaGreatDoor
open Go.RowKit
set_option linter.unusedVariables false
set_option linter.unusedSimpArgs false
attribute [local go_sem ↓] Go.wp_at_zero Go.wp_at_succ
set_option maxRecDepth 100000 in
set_option maxHeartbeats 4000000 in
/-- an element is read by who reads what begins here -/
theorem elem_by (N : Nat) (hent : ∀ args w, (callFunc N args).run Tryz.prog w = .ok (.enter N args) w) (W : World) (r : Nat) (S : Rv) (res : Option (LitS × Bs × Nat)) (h : RB W r S) (hwho : who (fstB S.rest) = N) (hN : ∀ V, Wz W V → RB V r S → Fr [] W V → Calls Tryz.prog N #[pt r] V fun e w' => ElQ V r S res e w') : Calls Tryz.prog 68 #[pt r] W fun e w' => ElQ W r S res e w' := by
  have hlt := h.lt
  have hz := wz_of W
  have hsz : (W.alloc (.cells #[.int .i64 0, .string ⟨#[]⟩, .int .i64 0, .slice none 0 0] 49)).heap.size = W.heap.size + 1 := by simp
  obtain ⟨W0, hW0⟩ : ∃ V, W.alloc (.cells #[.int .i64 0, .string ⟨#[]⟩, .int .i64 0, .slice none 0 0] 49) = V := ⟨_, rfl⟩
  rw [hW0] at hz hsz
  have hb0 := h.fr hz.fr (by simp)
  have HA := mkHid (ahead_ok W0 r S hb0)
  rw [hwho] at HA
  have HN := mkHid (hN W0 hz hb0 hz.fr)
  have HW0 := mkHid hW0
  have HZ := mkHid hz
  clear h hz hW0 hb0 hN hwho
  go_enter Tryz.func68, Tryz.ntmps68
  go_wp2_with fail
  rw [HW0.out]
  refine HA.out.mono ?_
  rintro e w1 ⟨rfl, rfl⟩
  go_wp2_with fail
  refine HN.out.mono ?_
  rintro e w2 ⟨t, ok, x, n, rfl, hb, hf, hk, ht, hq⟩
  obtain ⟨f1, b1⟩ := HZ.out.on hlt hf
  obtain ⟨c0, c1, c2, c3, z0, z1, z2, z3⟩ := z4_of b1
  have HB := mkHid hb
  have HF := mkHid f1
  have HB1 := mkHid b1
  have HK : Hid (LitsX w2 (fun b => W.heap.size < b) t.p t.c t.kids) := hk.keep (Fr.refl [] w2) (fun _ _ _ => by simp) (fun g hg _ => by omega)
  have HQ := mkHid hq
  clear hb hf f1 b1 hk hq
  unfold litv LitT.items
  go_wp2_with fail
  refine fin t ok Tryz.results68 HB1.out HF.out hlt HB.out HK.out ht HQ.out ?_ ?_
  · rfl
  · rfl
/-- an array behind its bracket -/
def arrF (f : Nat) (r : Bs) (n : Nat) : Option (LitS × Bs × Nat) :=
  match tokP [40] r with
  | none => none
  | some r' =>
    match arrP f r' n [] with
    | none => none
    | some (l, r2, n2) => some (.mk 4 noTx 0 l, r2, n2)
def EleC (f : Nat) : Prop := ∀ (W : World) (r : Nat) (S : Rv), RB W r S → Ev W → 9 ≤ r → S.els ≤ 4096 → 2 * S.rest.length + 1 ≤ f → Calls Tryz.prog 68 #[pt r] W fun e w' => ElQ W r S (eleP f S.rest S.els) e w'
def ArrC (f : Nat) : Prop := ∀ (W : World) (r : Nat) (S : Rv), RB W r S → Ev W → 9 ≤ r → S.els ≤ 4096 → 2 * S.rest.length ≤ f → Calls Tryz.prog 56 #[pt r] W fun e w' => ElQ W r S (arrF f S.rest S.els) e w'
theorem ent55 : ∀ args w, (callFunc 55 args).run Tryz.prog w = .ok (.enter 55 args) w := fun _ _ => by kernel_rfl
theorem ent56 : ∀ args w, (callFunc 56 args).run Tryz.prog w = .ok (.enter 56 args) w := fun _ _ => by kernel_rfl
theorem ent101 : ∀ args w, (callFunc 101 args).run Tryz.prog w = .ok (.enter 101 args) w := fun _ _ => by kernel_rfl
theorem ent102 : ∀ args w, (callFunc 102 args).run Tryz.prog w = .ok (.enter 102 args) w := fun _ _ => by kernel_rfl
theorem ent103 : ∀ args w, (callFunc 103 args).run Tryz.prog w = .ok (.enter 103 args) w := fun _ _ => by kernel_rfl
theorem fst_tok {r : Bs} {c : UInt8} (h : fstB r = c) (hc : c ≠ 10) : ∃ x, tokP [c] r = some x := by
  cases r with
  | nil => exact absurd h.symm hc
  | cons d l =>
    have : d = c := h
    subst this
    exact ⟨l, tok_app [d] l⟩
theorem up_ele (q : Option (LitS × Bs)) (n : Nat) : (match q with | none => none | some (x, r2) => some (x, r2, n)) = up q n := by cases q <;> rfl
/-- the contract of element, out of that of array -/
theorem eleC {f : Nat} (hA : ∀ g, g < f → ArrC g) : EleC f := by
  intro W r S h hE hr hn hf
  cases f with
  | zero => omega
  | succ f =>
  by_cases h40 : fstB S.rest = 40
  · refine elem_by 56 ent56 W r S _ h (by unfold who; rw [if_neg (by rw [h40]; decide), if_pos h40]) (fun V hz hb fV => ?_)
    have e : eleP (f + 1) S.rest S.els = arrF f S.rest S.els := by rw [eleP, if_pos h40]; rfl
    rw [e]
    exact hA f (by omega) V r S hb (hE.fr0 fV) hr hn (by omega)
  · have e : eleP (f + 1) S.rest S.els = up (if fstB S.rest = 39 then txtP S.rest else if fstB S.rest = 35 then symP S.rest else if fstB S.rest = 110 ∨ fstB S.rest = 116 ∨ fstB S.rest = 102 then conP S.rest else intP S.rest) S.els := by
      rw [eleP, if_neg h40]
      exact up_ele _ _
    rw [e]
    by_cases h39 : fstB S.rest = 39
    · rw [if_pos h39]
      exact elem_by 55 ent55 W r S _ h (by unfold who; rw [if_pos h39]) (fun V hz hb fV => quoted_ok V r S hb)
    rw [if_neg h39]
    by_cases h35 : fstB S.rest = 35
    · rw [if_pos h35]
      obtain ⟨x, hx⟩ := fst_tok h35 (by decide)
      exact elem_by 101 ent101 W r S _ h (by unfold who; rw [if_neg h39, if_neg h40, if_pos h35]) (fun V hz hb fV => rsymbol_ok V r S hb (hE.fr0 fV) hr x hx)
    rw [if_neg h35]
    by_cases hc : fstB S.rest = 110 ∨ fstB S.rest = 116 ∨ fstB S.rest = 102
    · rw [if_pos hc]
      exact elem_by 102 ent102 W r S _ h (by unfold who; rw [if_neg h39, if_neg h40, if_neg h35, if_pos hc]) (fun V hz hb fV => rconst_ok V r S hb)
    · rw [if_neg hc]
      exact elem_by 103 ent103 W r S _ h (by unfold who; rw [if_neg h39, if_neg h40, if_neg h35, if_neg hc]) (fun V hz hb fV => rinteger_ok V r S hb (hE.fr0 fV) hr)
end Go.Proofs.YtclkoffnjiiioaaGreatDoor
