import Derived.Test.YtclkoffnjiiioaaGreatDoorG21IRa
import Derived.Test.YtclkoffnjiiioaaGreatDoorG06JRd8
import Derived.Test.YtclkoffnjiiioaaGreatDoorIRc
import Derived.Test.YtclkoffnjiiioaaGreatDoorG09JRdD
import Derived.Test.YtclkoffnjiiioaaGreatDoorG01IPm
namespace Go.Proofs.YtclkoffnjiiioaaGreatDoor
open Go.RowKit
set_option linter.unusedVariables false
set_option linter.unusedSimpArgs false
attribute [local go_sem ↓] Go.wp_at_zero Go.wp_at_succ
/-- a byte more behind a row of bytes, a long one -/
theorem push_byteL (w : World) (base : Nat) (p : Option Addr) (c : Nat) (bs : Bs) (b : UInt8) (h : w.ownsRow base 5 1 (.slice p bs.length c) bs.length (Lib.byteCells bs)) (hb : bs.length + 1 ≤ 100000000) (hB : base ≤ w.heap.size) :
    ∃ p' c' w', (Builtin.append_ #[57, 57] 57 #[.slice p bs.length c, .slice (some ⟨w.heap.size, 0, none⟩) 1 1]).run Tryz.prog (w.alloc (.cells #[.int .u8 (b.toNat : Int)] 5)) = .ok (.slice p' (bs.length + 1) c') w' ∧
      w'.ownsRow base 5 1 (.slice p' (bs ++ [b]).length c') (bs ++ [b]).length (Lib.byteCells (bs ++ [b])) ∧ ((p' = p ∧ c' = c ∧ Fr (blk p) w w') ∨ (Fr [] w w' ∧ ∀ g ∈ blk p', w.heap.size ≤ g)) := by
  obtain ⟨i5, ii, iz, is, ib⟩ := info_parts info5
  have hl : (Lib.byteCells bs).length = bs.length := by simp [Lib.byteCells]
  have := push2 Tryz.underlying57 ii iz is ib rfl w base p c (Lib.byteCells bs) (.int .u8 (b.toNat : Int)) (by rw [hl]; exact h) rfl (by rw [hl]; unfold maxLen; omega) (by rw [hl]; omega) hB
  rw [hl] at this
  obtain ⟨p', c', w', r1, r2, r3⟩ := this
  exact ⟨p', c', w', r1, by rw [List.length_append, Lib.byteCells_append]; exact r2, r3⟩
/-- what is left of a text's reading: each round makes it less -/
def mesQ (r L : Nat) (w : World) : Nat := match w.cell? ⟨r, 1, none⟩, w.cell? ⟨r, 3, none⟩ with
  | some (.int _ n), some (.bool b) => 2 * (L - n.toNat) + (if b then 0 else 1)
  | _, _ => 0
theorem mesQ_is {W : World} {r : Nat} {S : Bs} {k d : Nat} {bad : Bool} (h : QB W r S k d bad) : mesQ r S.length W = 2 * (S.length - k) + (if bad then 0 else 1) := by
  unfold mesQ
  rw [show W.cell? ⟨r, 1, none⟩ = some (.int .i64 (k : Int)) from h.cl 1, show W.cell? ⟨r, 3, none⟩ = some (.bool bad) from h.cl 3]
  simp
/-- the document's text under way -/
def QT (W : World) (r : Nat) (S : Bs) (a d : Nat) (R : Option (Bs × Bs)) (v : Value) (wr : World) : Prop :=
  ∃ (p : Option Addr) (c : Nat) (acc : Bs) (k : Nat) (bad : Bool), v = .slice p acc.length c ∧ wr.ownsRow W.heap.size 5 1 (.slice p acc.length c) acc.length (Lib.byteCells acc) ∧ QB wr r S k d bad ∧ Fr [r] W wr ∧ acc.length ≤ k ∧ (R ≠ none → a ≤ k) ∧ (bad = true → R = none) ∧ (bad = false → ∃ f, quoQ f (S.drop k) acc = R ∧ (S.drop k).length < f)
/-- what the document's text leaves -/
def TxR (W : World) (r : Nat) (S : Bs) (a d : Nat) (e : Ending) (w' : World) : Prop :=
  Fr [r] W w' ∧ match txtQ (S.drop a) with
  | some (x, r2) => ∃ s : ByteArray, e = .returned (.string s) ∧ x = .mk 2 s 0 [] ∧ s.size ≤ 2000000 ∧ QB w' r S (S.length - r2.length) d false
  | none => e = .returned (.string ⟨#[]⟩) ∧ ∃ k, QB w' r S k d true
theorem u8_ex (n : Int) : ∃ b : UInt8, IntKind.u8.wrap n = (b.toNat : Int) := by
  have h := wrap_within .u8 n
  simp only [IntKind.min, IntKind.max, IntKind.signed, IntKind.bits] at h
  refine ⟨UInt8.ofNat (IntKind.u8.wrap n).toNat, ?_⟩
  rw [UInt8.toNat_ofNat']
  simp at h
  omega
theorem has_tok {S : Bs} {k : Nat} {p x : Bs} (h : tokP p (S.drop k) = some x) : hasQ S k false p = true := by
  unfold hasQ
  unfold tokP at h
  split at h
  · next e => rw [e]; rfl
  · cases h
theorem has_no {S : Bs} {k : Nat} {p : Bs} (h : tokP p (S.drop k) = none) : hasQ S k false p = false := by
  unfold hasQ
  unfold tokP at h
  split at h
  · cases h
  · next e => simp [e]
theorem tok_ln {p x y : Bs} (h : tokP p x = some y) : x.length = p.length + y.length := by rw [tok_some h, List.length_append]
theorem drop_tok {S : Bs} {k : Nat} {p x : Bs} (h : tokP p (S.drop k) = some x) : S.drop (k + p.length) = x := by
  rw [← List.drop_drop, tok_some h, List.drop_left]
theorem drop_one {S : Bs} {k : Nat} {c : UInt8} {x : Bs} (h : S.drop k = c :: x) : S.drop (k + 1) = x ∧ S[k]? = some c := by
  constructor
  · rw [← List.drop_drop, h]; rfl
  · have : (S.drop k)[0]? = S[k]? := by rw [List.getElem?_drop]; rfl
    rw [← this, h]; rfl
theorem hasQ_bad (S : Bs) (k : Nat) (p : Bs) : hasQ S k true p = false := rfl
/-- what a text that was gone through comes to -/
def finT (x : Bs) (R : Option (Bs × Bs)) : Option (LitS × Bs) := match R with
  | none => none
  | some (b, r2) => if textW ⟨b.toArray⟩ = x.take (x.length - r2.length) then some (.mk 2 ⟨b.toArray⟩ 0 [], r2) else none
def hdQ : Bs → Option (UInt8 × Bs)
  | c :: r' => some (c, r')
  | [] => none
theorem step_a {r : Bs} {a b : UInt8} {r' : Bs} (h : tokP [92, 120] r = some (a :: b :: r')) : stepQ r = if Lib.indexByte hexT a < 0 ∨ Lib.indexByte hexT b < 0 then none else some (UInt8.ofNat (16 * (Lib.indexByte hexT a).toNat + (Lib.indexByte hexT b).toNat), r') := by
  unfold stepQ
  rw [h]
theorem step_b {r : Bs} {c : UInt8} {r' : Bs} (hn : ∀ a b y, tokP [92, 120] r ≠ some (a :: b :: y)) (h : tokP [92] r = some (c :: r')) : stepQ r = some (c, r') := by
  unfold stepQ
  split
  · next a b y e => exact absurd e (hn a b y)
  · rw [h]
theorem step_c {r : Bs} (hn : ∀ a b y, tokP [92, 120] r ≠ some (a :: b :: y)) (h : ∀ c y, tokP [92] r ≠ some (c :: y)) : stepQ r = hdQ r := by
  unfold stepQ
  split
  · next a b y e => exact absurd e (hn a b y)
  · split
    · next c y e => exact absurd e (h c y)
    · cases r <;> rfl
/-- a byte more, and on -/
theorem QT_push {W wr V : World} {r : Nat} {S : Bs} {a d : Nat} {R : Option (Bs × Bs)} {p : Option Addr} {c : Nat} {acc : Bs} {k : Nat} {bad : Bool} (hrow : wr.ownsRow W.heap.size 5 1 (.slice p acc.length c) acc.length (Lib.byteCells acc)) (hf : Fr [r] W wr) (hal : acc.length ≤ k) (hka : R ≠ none → a ≤ k) (hr : r < W.heap.size) (fV : Fr [r] wr V) (hb : QB V r S k d bad) (b : UInt8) :
    ∃ p' c' w', (Builtin.append_ #[57, 57] 57 #[.slice p acc.length c, .slice (some ⟨V.heap.size, 0, none⟩) 1 1]).run Tryz.prog (V.alloc (.cells #[.int .u8 (b.toNat : Int)] 5)) = .ok (.slice p' (acc.length + 1) c') w' ∧ w'.cell? ⟨r, 1, none⟩ = some (.int .i64 (k : Int)) ∧ w'.cell? ⟨r, 0, none⟩ = some (.string (bA S)) ∧ w'.frozen? ⟨r, 1, none⟩ = false ∧
      ∀ k', k < k' → k' ≤ S.length → (bad = true → R = none) → (bad = false → ∃ f, quoQ f (S.drop k') (acc ++ [b]) = R ∧ (S.drop k').length < f) → QT W r S a d R (.slice p' (acc.length + 1) c') (w'.setCell ⟨r, 1, none⟩ (.int .i64 (k' : Int))) ∧ mesQ r S.length (w'.setCell ⟨r, 1, none⟩ (.int .i64 (k' : Int))) ≤ 2 * (S.length - k') + 1 := by
  have hle := hb.le
  have hsm := hb.small.1
  have hs1 := hf.size
  have hs2 := fV.size
  have hrV := own_keep hrow fV hr
  obtain ⟨p', c', w', hr', ho, hm⟩ := push_byteL V W.heap.size p c acc b hrV (by omega) (by omega)
  have fw : Fr (blk p) V w' := by
    rcases hm with ⟨-, -, q⟩ | ⟨q, -⟩
    · exact q
    · exact q.mono (by simp)
  have hnp : ∀ g ∈ blk p, W.heap.size ≤ g := fun g hg => (own_lt hrV g ((blk_own _ _ _ _).2 hg)).1
  have hb' := hb.fr fw (fun hm => by have := hnp _ hm; omega)
  refine ⟨p', c', w', hr', hb'.cl 1, hb'.cl 0, hb'.fz 1, fun k' h1 h2 h3 h4 => ?_⟩
  have hq := hb'.setAt k' h2
  have fs := fr_set w' r 1 (.int .i64 (k' : Int))
  have hl : (acc ++ [b]).length = acc.length + 1 := by simp
  refine ⟨⟨p', c', acc ++ [b], k', bad, by rw [hl], own_keep ho fs hr, hq, ((hf.trans fV (by simp)).trans fw (fun g hg => .inr (hnp g hg))).trans fs (by simp), by rw [hl]; omega, fun e => by have := hka e; omega, h3, h4⟩, ?_⟩
  rw [mesQ_is hq]
  split <;> omega
theorem hex_rng (c : UInt8) : -1 ≤ Lib.indexByte hexT c ∧ Lib.indexByte hexT c ≤ 15 := by
  have h : ∀ n : Fin 256, -1 ≤ Lib.indexByte hexT (UInt8.ofNat n.val) ∧ Lib.indexByte hexT (UInt8.ofNat n.val) ≤ 15 := by decide +kernel
  have := h ⟨c.toNat, c.toNat_lt⟩
  simpa using this
set_option maxRecDepth 100000 in
set_option maxHeartbeats 16000000 in
/-- the document's text -/
theorem rtxt_ok (W : World) (r : Nat) (S : Bs) (a d : Nat) (h : QB W r S a d false) (hP : ∀ V, Fr [r] W V → Pw V) : Calls Tryz.prog 43 #[pt r] W fun e w' => TxR W r S a d e w' := by
  have hlt := h.lt
  have hle0 := h.le
  have hsz := h.small.1
  have hss : (bA S).size = S.length := bA_size S
  have HPW := mkHid hP
  obtain ⟨R, hR⟩ : ∃ R, R = (match tokP [39] (S.drop a) with | none => none | some r1 => quoQ (r1.length + 1) r1 []) := ⟨_, rfl⟩
  have HTx : Hid (txtQ (S.drop a) = finT (S.drop a) R) := by
    show _ = _
    rw [hR]
    unfold txtQ finT
    cases tokP [39] (S.drop a) <;> rfl
  have HTb0 : Hid (R = none → ∀ (V : World) (k : Nat), Fr [r] W V → QB V r S k d true → TxR W r S a d (.returned (.string ⟨#[]⟩)) V) := fun hn V k fV hb => by
    refine ⟨fV, ?_⟩
    rw [HTx.out, hn]
    exact ⟨rfl, k, hb⟩
  have HE0 := mkHid (eat_ok W r S a d false h [39] (by decide))
  have HIn : Hid (∀ w1, Fr [r] W w1 → (if hasQ S a false [39] = true then QB w1 r S (a + [39].length) d false else QB w1 r S a d true) → ∃ (k1 : Nat) (bad : Bool), QB w1 r S k1 d bad ∧ (k1 : Int) - 1 ≤ 2000000 ∧ QT W r S a d R (.slice none 0 0) w1 ∧ (R ≠ none → k1 = a + 1)) := fun w1 f1 hq => by
    have hrow0 : w1.ownsRow W.heap.size 5 1 (.slice none ([] : Bs).length 0) ([] : Bs).length (Lib.byteCells []) := ⟨rfl, .inl ⟨rfl, rfl⟩⟩
    cases ht : tokP [39] (S.drop a) with
    | none =>
      have hn : R = none := by rw [hR, ht]
      rw [has_no ht, if_neg Bool.false_ne_true] at hq
      exact ⟨a, true, hq, by omega, ⟨none, 0, [], a, true, rfl, hrow0, hq, f1, Nat.zero_le _, fun _ => Nat.le_refl _, fun _ => hn, fun e => by cases e⟩, fun e => absurd hn e⟩
    | some r1 =>
      have hd := drop_tok ht
      rw [has_tok ht, if_pos rfl] at hq
      have hR2 : R = quoQ (r1.length + 1) r1 [] := by rw [hR, ht]
      have hk := hq.le
      simp only [List.length_singleton] at hq hk hd
      exact ⟨a + 1, false, hq, by omega, ⟨none, 0, [], a + 1, false, rfl, hrow0, hq, f1, Nat.zero_le _, fun _ => Nat.le_succ _, (fun e => by cases e), fun _ => ⟨r1.length + 1, by rw [hd, hR2], by rw [hd]; omega⟩⟩, fun _ => rfl⟩
  clear h hP hR
  go_enter Tryz.func43, Tryz.ntmps43
  go_wp2_with fail
  refine HE0.out.mono ?_
  rintro e w1 ⟨rfl, f1, hq1⟩
  obtain ⟨k1, bad1, hb1, hk1, hqt, hkk⟩ := HIn.out w1 f1 hq1
  have hc1 : w1.cell? ⟨r, 1, none⟩ = some (.int .i64 (k1 : Int)) := hb1.cl 1
  have hwf : IntKind.i64.wrap ((k1 : Int) - 1) = (k1 : Int) - 1 := iwrap_id (by omega) (by omega)
  have HS := mkHid hqt
  have HKK := mkHid hkk
  clear f1 hq1 hqt hb1 HIn HE0 hkk
  go_wp2_with fail
  go_loopw [3] (fun v wr => Hid (QT W r S a d R v wr)) (fun _ wr => mesQ r S.length wr)
  case atStart => exact HS.out
  case round =>
    clear HS hc1 hwf
    obtain ⟨p, c, acc, k, bad, rfl, hrow, hb, hf, hal, hka0, hbt, hbf⟩ := hrel.out
    have HKa := mkHid hka0
    clear hka0
    have hle := hb.le
    have hm0 := mesQ_is hb
    have c0 : wr.cell? ⟨r, 0, none⟩ = some (.string (bA S)) := hb.cl 0
    have c1 : wr.cell? ⟨r, 1, none⟩ = some (.int .i64 (k : Int)) := hb.cl 1
    have c3 : wr.cell? ⟨r, 3, none⟩ = some (.bool bad) := hb.cl 3
    clear hrel
    cases bad with
    | true =>
      have HTb : Hid (∀ V, Fr [r] W V → QB V r S k d true → TxR W r S a d (.returned (.string ⟨#[]⟩)) V) := fun V fV hq => HTb0.out (hbt rfl) V k fV hq
      have HE : Hid (∀ V, QB V r S k d true → Calls Tryz.prog 39 #[pt r, .string (bA [39])] V fun e w' => e = .returned (.tuple #[]) ∧ Fr [r] V w' ∧ QB w' r S k d true) := fun V hV => (eat_ok V r S k d true hV [39] (by decide)).mono (by
        rintro e w' ⟨h1, h2, h3⟩
        rw [hasQ_bad, if_neg Bool.false_ne_true] at h3
        exact ⟨h1, h2, h3⟩)
      have HQ1 := mkHid hb
      clear hb hbt hbf HTb0 HTx hm0 HKK c0 c1
      go_wp2_with fail
      refine (HE.out _ HQ1.out).mono ?_
      rintro e w2 ⟨rfl, f2, hb2⟩
      have HB2 : Hid (QB w2 r S k d true) := hb2
      have e3 : w2.drew.cell? ⟨r, 3, none⟩ = some (.bool true) := HB2.out.cl 3
      have HF2 := mkHid (hf.trans f2 (by simp))
      clear f2 hb2 hf hrow
      go_wp2_with fail
      refine wp_region_h (S := fun V => V.cell? ⟨r, 3, none⟩ = some (.bool true)) (by kernel_rfl) e3 (fun hHeld => ?_)
      refine wpAnyH_take (i := 0) (v := ?_) rfl (by kernel_rfl) (by kernel_rfl) (by kernel_rfl) (fun _ _ _ h => h) (Or.inl ⟨by rfl, ?_⟩) (by assumption) ?_
      rotate_left
      · (intro w hSw; (try dsimp only at hSw); first | (go_simp; done) | (go_simp; with_reducible rfl))
      try simp only [Act.put, qT, qZ, qS, qB, qY, qX]
      refine wpAnyH_take (i := 1) (v := ?_) rfl (by kernel_rfl) (by kernel_rfl) (by kernel_rfl) (fun _ _ _ h => h) (Or.inl ⟨by rfl, ?_⟩) (by assumption) ?_
      rotate_left
      · (intro w hSw; (try dsimp only at hSw); first | (go_simp; done) | (go_simp; with_reducible rfl))
      try simp only [Act.put, qT, qZ, qS, qB, qY, qX]
      refine wpAnyH_take (i := 2) (v := ?_) rfl (by kernel_rfl) (by kernel_rfl) (by kernel_rfl) (fun _ _ _ h => h) (Or.inl ⟨by rfl, ?_⟩) (by assumption) ?_
      rotate_left
      · (intro w hSw; (try dsimp only at hSw); first | (go_simp; done) | (go_simp; with_reducible rfl))
      try simp only [Act.put, qT, qZ, qS, qB, qY, qX]
      refine wpAnyH_take (i := 3) (v := .bool true) rfl (by kernel_rfl) (by kernel_rfl) (by kernel_rfl) (fun _ _ _ h => h) (Or.inl ⟨by rfl, ?_⟩) (by assumption) ?_
      · (intro w hSw; (try dsimp only at hSw); first | (go_simp; done) | (go_simp; with_reducible rfl))
      try simp only [Act.put, qT, qZ, qS, qB, qY, qX]
      refine wpAnyH_take (i := 4) (v := .bool true) rfl (by kernel_rfl) (by kernel_rfl) (by kernel_rfl) (fun _ _ _ h => h) (Or.inl ⟨by rfl, ?_⟩) (by assumption) ?_
      · (intro w hSw; (try dsimp only at hSw); first | (go_simp; done) | (go_simp; with_reducible rfl))
      try simp only [Act.put, qT, qZ, qS, qB, qY, qX]
      refine wpAnyH_take (i := 5) (v := undef) rfl (by kernel_rfl) (by kernel_rfl) (by kernel_rfl) (fun _ _ _ h => h) (Or.inr ⟨by rfl, rfl⟩) (by assumption) ?_
      try simp only [Act.put, qT, qZ, qS, qB, qY, qX]
      refine wpAnyH_take (i := 6) (v := undef) rfl (by kernel_rfl) (by kernel_rfl) (by kernel_rfl) (fun _ _ _ h => h) (Or.inr ⟨by rfl, rfl⟩) (by assumption) ?_
      try simp only [Act.put, qT, qZ, qS, qB, qY, qX]
      refine wpAnyH_take (i := 7) (v := undef) rfl (by kernel_rfl) (by kernel_rfl) (by kernel_rfl) (fun _ _ _ h => h) (Or.inr ⟨by rfl, rfl⟩) (by assumption) ?_
      try simp only [Act.put, qT, qZ, qS, qB, qY, qX]
      refine wpAnyH_take (i := 8) (v := undef) rfl (by kernel_rfl) (by kernel_rfl) (by kernel_rfl) (fun _ _ _ h => h) (Or.inr ⟨by rfl, rfl⟩) (by assumption) ?_
      try simp only [Act.put, qT, qZ, qS, qB, qY, qX]
      refine wpAnyH_take (i := 9) (v := undef) rfl (by kernel_rfl) (by kernel_rfl) (by kernel_rfl) (fun _ _ _ h => h) (Or.inr ⟨by rfl, rfl⟩) (by assumption) ?_
      try simp only [Act.put, qT, qZ, qS, qB, qY, qX]
      refine wpAnyH_take (i := 10) (v := undef) rfl (by kernel_rfl) (by kernel_rfl) (by kernel_rfl) (fun _ _ _ h => h) (Or.inr ⟨by rfl, rfl⟩) (by assumption) ?_
      try simp only [Act.put, qT, qZ, qS, qB, qY, qX]
      refine wpAnyH_take (i := 11) (v := undef) rfl (by kernel_rfl) (by kernel_rfl) (by kernel_rfl) (fun _ _ _ h => h) (Or.inr ⟨by rfl, rfl⟩) (by assumption) ?_
      try simp only [Act.put, qT, qZ, qS, qB, qY, qX]
      refine wpAnyH_take (i := 12) (v := undef) rfl (by kernel_rfl) (by kernel_rfl) (by kernel_rfl) (fun _ _ _ h => h) (Or.inr ⟨by rfl, rfl⟩) (by assumption) ?_
      try simp only [Act.put, qT, qZ, qS, qB, qY, qX]
      refine wpAnyH_take (i := 13) (v := undef) rfl (by kernel_rfl) (by kernel_rfl) (by kernel_rfl) (fun _ _ _ h => h) (Or.inr ⟨by rfl, rfl⟩) (by assumption) ?_
      try simp only [Act.put, qT, qZ, qS, qB, qY, qX]
      refine wpAnyH_take (i := 14) (v := undef) rfl (by kernel_rfl) (by kernel_rfl) (by kernel_rfl) (fun _ _ _ h => h) (Or.inr ⟨by rfl, rfl⟩) (by assumption) ?_
      try simp only [Act.put, qT, qZ, qS, qB, qY, qX]
      refine wpAnyH_take (i := 15) (v := undef) rfl (by kernel_rfl) (by kernel_rfl) (by kernel_rfl) (fun _ _ _ h => h) (Or.inr ⟨by rfl, rfl⟩) (by assumption) ?_
      try simp only [Act.put, qT, qZ, qS, qB, qY, qX]
      refine wpAnyH_take (i := 16) (v := undef) rfl (by kernel_rfl) (by kernel_rfl) (by kernel_rfl) (fun _ _ _ h => h) (Or.inr ⟨by rfl, rfl⟩) (by assumption) ?_
      try simp only [Act.put, qT, qZ, qS, qB, qY, qX]
      refine wpAnyH_take (i := 17) (v := undef) rfl (by kernel_rfl) (by kernel_rfl) (by kernel_rfl) (fun _ _ _ h => h) (Or.inr ⟨by rfl, rfl⟩) (by assumption) ?_
      try simp only [Act.put, qT, qZ, qS, qB, qY, qX]
      refine wpAnyH_take (i := 18) (v := undef) rfl (by kernel_rfl) (by kernel_rfl) (by kernel_rfl) (fun _ _ _ h => h) (Or.inr ⟨by rfl, rfl⟩) (by assumption) ?_
      try simp only [Act.put, qT, qZ, qS, qB, qY, qX]
      refine wpAnyH_take (i := 19) (v := .bool true) rfl (by kernel_rfl) (by kernel_rfl) (by kernel_rfl) (fun _ _ _ h => h) (Or.inl ⟨by rfl, ?_⟩) (by assumption) ?_
      · (intro w hSw; (try dsimp only at hSw); first | (go_simp; done) | (go_simp; with_reducible rfl))
      try simp only [Act.put, qT, qZ, qS, qB, qY, qX]
      refine wpAnyH_done (by kernel_rfl) ?_ _
      clear hHeld
      have HB3 := (HB2.out.fr (Fr.drew [] w2) (by simp))
      have q3 := HB3.fz 3
      have HFin := mkHid (HTb.out _ ((HF2.out.trans (Fr.drew [] w2) (by simp)).trans (fr_set _ r 3 (.bool true)) (by simp)) (HB3.setBad true))
      clear HB3
      go_wp2_with fail
      go_ret
      exact HFin.out
    | false =>
      clear hbt
      obtain ⟨f, hq, hfl⟩ := hbf rfl
      clear hbf
      have hdl : (S.drop k).length = S.length - k := List.length_drop
      have HQB : Hid (∀ V, Fr [] wr V → QB V r S k d false) := fun V fV => hb.fr fV (by simp)
      have HC : Hid (∀ V, Fr [] wr V → V.cell? ⟨r, 0, none⟩ = some (.string (bA S)) ∧ V.cell? ⟨r, 1, none⟩ = some (.int .i64 (k : Int)) ∧ V.cell? ⟨r, 3, none⟩ = some (.bool false) ∧ V.frozen? ⟨r, 1, none⟩ = false ∧ V.frozen? ⟨r, 3, none⟩ = false) := fun V fV => ⟨(HQB.out V fV).cl 0, (HQB.out V fV).cl 1, (HQB.out V fV).cl 3, (HQB.out V fV).fz 1, (HQB.out V fV).fz 3⟩
      have HH : ∀ (q : Bs) (v : Bool), q.length ≤ 100 → hasQ S k false q = v → Hid (∀ V, Fr [] wr V → Calls Tryz.prog 42 #[pt r, .string (bA q)] V fun e w' => e = .returned (.bool v) ∧ Fr [] V w') := fun q v hl hv V fV => by
        rw [← hv]
        exact has_ok V r S k d false (HQB.out V fV) q hl
      have hwk : ∀ (j : Nat), j ≤ 10 → ∀ x : Nat, x = k + j → IntKind.i64.wrap ((k : Int) + (j : Int)) = (x : Int) := fun j hj x hx => by rw [iwrap_id (by omega) (by omega)]; omega
      have k0 : (0 : Int) ≤ (k : Int) := by omega
      simp only [Bool.false_eq_true, if_false] at hm0
      cases f with
      | zero => omega
      | succ f =>
      rw [quoQ] at hq
      cases h39 : tokP [39] (S.drop k) with
      | some y =>
        rw [h39] at hq
        simp only at hq
        have hh39 := has_tok h39
        have hy := tok_ln h39
        simp only [List.length_singleton] at hy
        obtain ⟨kn, hkn⟩ : ∃ x, x = k + 1 := ⟨_, rfl⟩
        have H1 := HH [39] true (by decide) hh39
        have hka : k1 = a + 1 := HKK.out (by rw [← hq]; simp)
        have hfrom : (k1 : Int) - 1 = (a : Int) := by omega
        have ha1 : a ≤ kn := by have := HKa.out (by rw [← hq]; simp); omega
        have HTg : Hid (textW (bA acc) = (S.drop a).take (kn - a) → ∀ V, Fr [r] W V → QB V r S kn d false → TxR W r S a d (.returned (.string (bA acc))) V) := fun hit V fV hb => by
          refine ⟨fV, ?_⟩
          rw [HTx.out, ← hq]
          unfold finT
          simp only
          rw [if_pos (by
            rw [show (S.drop a).length - y.length = kn - a by rw [List.length_drop]; omega]
            exact hit)]
          exact ⟨bA acc, rfl, rfl, by rw [bA_size]; omega, by rw [show S.length - y.length = kn by omega]; exact hb⟩
        have HTn : Hid (¬ textW (bA acc) = (S.drop a).take (kn - a) → ∀ V, Fr [r] W V → QB V r S kn d true → TxR W r S a d (.returned (.string ⟨#[]⟩)) V) := fun hit V fV hb => by
          refine ⟨fV, ?_⟩
          rw [HTx.out, ← hq]
          unfold finT
          simp only
          rw [if_neg (by
            rw [show (S.drop a).length - y.length = kn - a by rw [List.length_drop]; omega]
            exact hit)]
          refine ⟨?_, _, hb⟩
          first | rfl | trivial
        have HXt : Hid (((ba (textW (bA acc))).toList == ((bA S).extract a kn).toList) = decide (textW (bA acc) = (S.drop a).take (kn - a))) := by
          show _ = _
          rw [ext_is S a kn ha1 (by omega)]
          exact ba_eqb _ _
        have HE : Hid (∀ V, QB V r S k d false → Calls Tryz.prog 39 #[pt r, .string (bA [39])] V fun e w' => EatR V r S k d false [39] e w') := fun V hV => eat_ok V r S k d false hV [39] (by decide)
        have ai0 : (0 : Int) ≤ (a : Int) := by omega
        have ai1 : (a : Int) ≤ (kn : Int) := by omega
        have ai2 : (kn : Int) ≤ (S.length : Int) := by omega
        have HH39 := mkHid hh39
        have HKn := mkHid hkn
        have hacc : acc.length ≤ 2000000 := by omega
        rw [hfrom]
        clear hq h39 HKK HTb0 HTx HH hb hfl hfrom hka hk1 hwk hm0 hh39 hkn hdl hy
        go_wp2_with fail
        refine (H1.out _ (Fr.refl [] wr)).mono ?_
        rintro e w39 ⟨rfl, f39⟩
        have F39 := mkHid f39
        have HQ1 := mkHid (HQB.out w39 f39)
        have hrow := own_keep hrow (f39.mono (S' := [r]) (by simp)) hlt
        clear f39 H1
        go_wp2_with fail
        refine (HE.out _ HQ1.out).mono ?_
        rintro e w2 ⟨rfl, f2, hb2⟩
        rw [if_pos HH39.out] at hb2
        have HB2 : Hid (∀ V, Fr [] w2 V → QB V r S kn d false) := fun V fV => by rw [HKn.out]; exact hb2.fr fV (by simp)
        have HRw : Hid (∀ V, Fr [] w2 V → (convert 57 9 (.slice p acc.length c)).run Tryz.prog V = .ok (.string (bA acc)) V) := fun V fV => row_conv (own_keep (own_keep hrow f2 hlt) (fV.mono (S' := [r]) (by simp)) hlt)
        have HF2 : Hid (∀ V, Fr [] w2 V → Fr [r] W V) := fun V fV => (hf.trans (F39.out.mono (S' := [r]) (by simp)) (by simp)).trans (f2.trans fV (by simp)) (by simp)
        have HPw : Hid (∀ V, Fr [] w2 V → Calls Tryz.prog 60 #[.string (bA acc)] V fun e w' => e = .returned (.string (ba (textW (bA acc)))) ∧ Fr [] V w') := fun V fV => rtext_ok (bA acc) (by rw [bA_size]; exact hacc) V (HPW.out V (HF2.out V fV))
        have HS0 : Hid (w2.drew.cell? ⟨r, 0, none⟩ = some (.string (bA S)) ∧ w2.drew.cell? ⟨r, 1, none⟩ = some (.int .i64 (kn : Int)) ∧ w2.drew.cell? ⟨r, 3, none⟩ = some (.bool false) ∧ (convert 57 9 (.slice p acc.length c)).run Tryz.prog w2.drew = .ok (.string (bA acc)) w2.drew ∧ Hid (Fr [] w2 w2.drew)) := ⟨(HB2.out _ (Fr.drew [] w2)).cl 0, (HB2.out _ (Fr.drew [] w2)).cl 1, (HB2.out _ (Fr.drew [] w2)).cl 3, HRw.out _ (Fr.drew [] w2), Fr.drew [] w2⟩
        clear f2 hb2 hf hrow
        go_wp2_with fail
        refine wp_region_h (S := fun V => V.cell? ⟨r, 0, none⟩ = some (.string (bA S)) ∧ V.cell? ⟨r, 1, none⟩ = some (.int .i64 (kn : Int)) ∧ V.cell? ⟨r, 3, none⟩ = some (.bool false) ∧ (convert 57 9 (.slice p acc.length c)).run Tryz.prog V = .ok (.string (bA acc)) V ∧ Hid (Fr [] w2 V)) (by kernel_rfl) HS0.out (fun hHeld => ?_)
        refine wpAnyH_take (i := 0) (v := ?_) rfl (by kernel_rfl) (by kernel_rfl) (by kernel_rfl) (fun _ _ _ h => h) (Or.inl ⟨by rfl, ?_⟩) (by assumption) ?_
        rotate_left
        · (intro w hSw; (try dsimp only at hSw); first | (go_simp; done) | (go_simp; with_reducible rfl))
        try simp only [Act.put, qT, qZ, qS, qB, qY, qX]
        refine wpAnyH_take (i := 1) (v := ?_) rfl (by kernel_rfl) (by kernel_rfl) (by kernel_rfl) (fun _ _ _ h => h) (Or.inl ⟨by rfl, ?_⟩) (by assumption) ?_
        rotate_left
        · (intro w hSw; (try dsimp only at hSw); first | (go_simp; done) | (go_simp; with_reducible rfl))
        try simp only [Act.put, qT, qZ, qS, qB, qY, qX]
        refine wpAnyH_take (i := 2) (v := ?_) rfl (by kernel_rfl) (by kernel_rfl) (by kernel_rfl) (fun _ _ _ h => h) (Or.inl ⟨by rfl, ?_⟩) (by assumption) ?_
        rotate_left
        · (intro w hSw; (try dsimp only at hSw); first | (go_simp; done) | (go_simp; with_reducible rfl))
        try simp only [Act.put, qT, qZ, qS, qB, qY, qX]
        refine wpAnyH_take (i := 3) (v := .bool false) rfl (by kernel_rfl) (by kernel_rfl) (by kernel_rfl) (fun _ _ _ h => h) (Or.inl ⟨by rfl, ?_⟩) (by assumption) ?_
        · (intro w hSw; (try dsimp only at hSw); first | (go_simp; done) | (go_simp; with_reducible rfl))
        try simp only [Act.put, qT, qZ, qS, qB, qY, qX]
        refine wpAnyH_take (i := 4) (v := .bool false) rfl (by kernel_rfl) (by kernel_rfl) (by kernel_rfl) (fun _ _ _ h => h) (Or.inl ⟨by rfl, ?_⟩) (by assumption) ?_
        · (intro w hSw; (try dsimp only at hSw); first | (go_simp; done) | (go_simp; with_reducible rfl))
        try simp only [Act.put, qT, qZ, qS, qB, qY, qX]
        refine wpAnyH_take (i := 5) (v := ?_) rfl (by kernel_rfl) (by kernel_rfl) (by kernel_rfl) (fun _ _ _ h => h) (Or.inl ⟨by rfl, ?_⟩) (by assumption) ?_
        rotate_left
        · (intro w hSw; (try dsimp only at hSw); first | (go_simp; done) | (go_simp; with_reducible rfl))
        try simp only [Act.put, qT, qZ, qS, qB, qY, qX]
        refine wpAnyH_take (i := 6) (v := ?_) rfl (by kernel_rfl) (by kernel_rfl) (by kernel_rfl) (fun _ _ _ h => h) (Or.inl ⟨by rfl, ?_⟩) (by assumption) ?_
        rotate_left
        · (intro w hSw; (try dsimp only at hSw); first | (go_simp; done) | (go_simp; with_reducible rfl))
        try simp only [Act.put, qT, qZ, qS, qB, qY, qX]
        refine wpAnyH_take (i := 8) (v := ?_) rfl (by kernel_rfl) (by kernel_rfl) (by kernel_rfl) (fun _ _ _ h => h) (Or.inl ⟨by rfl, ?_⟩) (by assumption) ?_
        rotate_left
        · (intro w hSw; (try dsimp only at hSw); first | (go_simp; done) | (go_simp; with_reducible rfl))
        try simp only [Act.put, qT, qZ, qS, qB, qY, qX]
        refine wpAnyH_take (i := 9) (v := ?_) rfl (by kernel_rfl) (by kernel_rfl) (by kernel_rfl) (fun _ _ _ h => h) (Or.inl ⟨by rfl, ?_⟩) (by assumption) ?_
        rotate_left
        · (intro w hSw; (try dsimp only at hSw); first | (go_simp; done) | (go_simp; with_reducible rfl))
        try simp only [Act.put, qT, qZ, qS, qB, qY, qX]
        refine wpAnyH_take (i := 10) (v := ?_) rfl (by kernel_rfl) (by kernel_rfl) (by kernel_rfl) (fun _ _ _ h => h) (Or.inl ⟨by rfl, ?_⟩) (by assumption) ?_
        rotate_left
        · (intro w hSw; (try dsimp only at hSw); first | (go_simp; done) | (go_simp; with_reducible rfl))
        try simp only [Act.put, qT, qZ, qS, qB, qY, qX]
        refine wpAnyH_take (i := 11) (v := ?_) rfl (by kernel_rfl) (by kernel_rfl) (by kernel_rfl) (fun _ _ _ h => h) (Or.inl ⟨by rfl, ?_⟩) (by assumption) ?_
        rotate_left
        · (intro w hSw; (try dsimp only at hSw); first | (go_simp; done) | (go_simp; with_reducible rfl))
        try simp only [Act.put, qT, qZ, qS, qB, qY, qX]
        refine wpAnyH_take (i := 12) (v := ?_) rfl (by kernel_rfl) (by kernel_rfl) (by kernel_rfl) (fun _ _ _ h => h) (Or.inl ⟨by rfl, ?_⟩) (by assumption) ?_
        rotate_left
        · (intro w hSw; (try dsimp only at hSw); first | (go_simp; done) | (go_simp; with_reducible rfl))
        try simp only [Act.put, qT, qZ, qS, qB, qY, qX]
        refine wpAnyH_take (i := 13) (v := ?_) rfl (by kernel_rfl) (by kernel_rfl) (by kernel_rfl) (fun _ _ _ h => h) (Or.inl ⟨by rfl, ?_⟩) (by assumption) ?_
        rotate_left
        · (intro w hSw; (try dsimp only at hSw); first | (go_simp; done) | (go_simp; with_reducible rfl))
        try simp only [Act.put, qT, qZ, qS, qB, qY, qX]
        refine wpAnyH_take (i := 14) (v := ?_) rfl (by kernel_rfl) (by kernel_rfl) (by kernel_rfl) (fun _ _ _ h => h) (Or.inl ⟨by rfl, ?_⟩) (by assumption) ?_
        rotate_left
        · (intro w hSw; (try dsimp only at hSw); first | (go_simp; done) | (go_simp; with_reducible rfl))
        try simp only [Act.put, qT, qZ, qS, qB, qY, qX]
        refine wpAnyH_take (i := 15) (v := ?_) rfl (by kernel_rfl) (by kernel_rfl) (by kernel_rfl) (fun _ _ _ h => h) (Or.inl ⟨by rfl, ?_⟩) (by assumption) ?_
        rotate_left
        · (intro w hSw; (try dsimp only at hSw); first | (go_simp; done) | (go_simp; with_reducible rfl))
        try simp only [Act.put, qT, qZ, qS, qB, qY, qX]
        refine wpAnyH_take (i := 16) (v := ?_) rfl (by kernel_rfl) (by kernel_rfl) (by kernel_rfl) (fun _ _ _ h => h) (Or.inl ⟨by rfl, ?_⟩) (by assumption) ?_
        rotate_left
        · (intro w hSw; (try dsimp only at hSw); first | (go_simp; done) | (go_simp; with_reducible rfl))
        try simp only [Act.put, qT, qZ, qS, qB, qY, qX]
        refine wpAnyH_take (i := 17) (v := ?_) rfl (by kernel_rfl) (by kernel_rfl) (by kernel_rfl) (fun _ _ _ h => h) (Or.inl ⟨by rfl, ?_⟩) (by assumption) ?_
        rotate_left
        · (intro w hSw; (try dsimp only at hSw); first | (go_simp; done) | (go_simp; with_reducible rfl))
        try simp only [Act.put, qT, qZ, qS, qB, qY, qX]
        refine wpH_one (i := 7) (by kernel_rfl) rfl (fun K hK => ?_)
        go_simp
        refine (HPw.out _ HS0.out.2.2.2.2.out).mono ?_
        rintro e w3 ⟨rfl, f3'⟩
        have HF3 : Hid (Fr [] w2 w3) := HS0.out.2.2.2.2.out.tr0 f3'
        have hb3 := HB2.out w3 HF3.out
        have y0 : w3.cell? ⟨r, 0, none⟩ = some (.string (bA S)) := hb3.cl 0
        have y1 : w3.cell? ⟨r, 1, none⟩ = some (.int .i64 (kn : Int)) := hb3.cl 1
        have y3 : w3.cell? ⟨r, 3, none⟩ = some (.bool false) := hb3.cl 3
        have z3 := hb3.fz 3
        have yc := HRw.out w3 HF3.out
        have HB3 := mkHid hb3
        clear f3' HS0 hHeld hb3
        try go_wp2_with fail
        refine hK.out _ _ ⟨y0, y1, y3, yc, HF3⟩ (fun hHeld => ?_)
        clear hK K
        try simp only [Act.put, qT, qZ, qS, qB, qY, qX]
        by_cases hit : textW (bA acc) = (S.drop a).take (kn - a)
        · have hbb : ((ba (textW (bA acc))).toList == ((bA S).extract a kn).toList) = true := by rw [HXt.out]; exact decide_eq_true hit
          have HFin := mkHid (HTg.out hit w3 (HF2.out w3 HF3.out) HB3.out)
          clear hit
          refine wpAnyH_take (i := 18) (v := .bool false) rfl (by kernel_rfl) (by kernel_rfl) (by kernel_rfl) (fun _ _ _ h => h) (Or.inl ⟨by rfl, ?_⟩) (by assumption) ?_
          · (intro w hSw; (try dsimp only at hSw); first | (go_simp; done) | (go_simp; with_reducible rfl))
          try simp only [Act.put, qT, qZ, qS, qB, qY, qX]
          refine wpAnyH_take (i := 19) (v := .bool false) rfl (by kernel_rfl) (by kernel_rfl) (by kernel_rfl) (fun _ _ _ h => h) (Or.inl ⟨by rfl, ?_⟩) (by assumption) ?_
          · (intro w hSw; (try dsimp only at hSw); first | (go_simp; done) | (go_simp; with_reducible rfl))
          try simp only [Act.put, qT, qZ, qS, qB, qY, qX]
          refine wpAnyH_done (by kernel_rfl) ?_ _
          clear hHeld
          go_wp2_with fail
          go_ret
          exact HFin.out
        · have hbb : ((ba (textW (bA acc))).toList == ((bA S).extract a kn).toList) = false := by rw [HXt.out]; exact decide_eq_false hit
          have HFin := mkHid (HTn.out hit _ ((HF2.out w3 HF3.out).trans (fr_set w3 r 3 (.bool true)) (by simp)) (HB3.out.setBad true))
          clear hit
          refine wpAnyH_take (i := 18) (v := .bool true) rfl (by kernel_rfl) (by kernel_rfl) (by kernel_rfl) (fun _ _ _ h => h) (Or.inl ⟨by rfl, ?_⟩) (by assumption) ?_
          · (intro w hSw; (try dsimp only at hSw); first | (go_simp; done) | (go_simp; with_reducible rfl))
          try simp only [Act.put, qT, qZ, qS, qB, qY, qX]
          refine wpAnyH_take (i := 19) (v := .bool true) rfl (by kernel_rfl) (by kernel_rfl) (by kernel_rfl) (fun _ _ _ h => h) (Or.inl ⟨by rfl, ?_⟩) (by assumption) ?_
          · (intro w hSw; (try dsimp only at hSw); first | (go_simp; done) | (go_simp; with_reducible rfl))
          try simp only [Act.put, qT, qZ, qS, qB, qY, qX]
          refine wpAnyH_done (by kernel_rfl) ?_ _
          clear hHeld
          go_wp2_with fail
          go_ret
          exact HFin.out
      | none =>
        rw [h39] at hq
        simp only at hq
        have H1 := HH [39] false (by decide) (has_no h39)
        have H1f : Hid (∀ V, Fr [] wr V → Fr [] wr V) := fun V h => h
        have HIn1 : ∀ {V1 : World}, Fr [] wr V1 → Hid (Fr [] wr V1) := fun h => h
        by_cases h1 : ∃ b1 b2 y, tokP [92, 120] (S.drop k) = some (b1 :: b2 :: y)
        · obtain ⟨b1, b2, y, h1⟩ := h1
          have hln := tok_ln h1
          simp only [List.length_cons, List.length_nil] at hln
          have HH2 := HH [92, 120] true (by decide) (has_tok h1)
          have hdr := drop_tok h1
          simp only [List.length_cons, List.length_nil] at hdr
          have g2 := drop_one hdr
          have g3 := drop_one g2.1
          obtain ⟨k2, hk2⟩ : ∃ x, x = k + 2 := ⟨_, rfl⟩
          obtain ⟨k3, hk3⟩ : ∃ x, x = k + 3 := ⟨_, rfl⟩
          obtain ⟨k4, hk4⟩ : ∃ x, x = k + 4 := ⟨_, rfl⟩
          obtain ⟨hi2, hb2⟩ := byte_at S k2 b1 (by rw [hk2]; simpa using g2.2)
          obtain ⟨hi3, hb3⟩ := byte_at S k3 b2 (by rw [hk3]; simpa using g3.2)
          have hwk2 : IntKind.i64.wrap ((k : Int) + 2) = (k2 : Int) := hwk 2 (by omega) k2 hk2
          have hwk3 : IntKind.i64.wrap ((k : Int) + 3) = (k3 : Int) := hwk 3 (by omega) k3 hk3
          have hwk4 : IntKind.i64.wrap ((k : Int) + 4) = (k4 : Int) := hwk 4 (by omega) k4 hk4
          have hd4 : decide ((k4 : Int) ≤ (S.length : Int)) = true := decide_eq_true (by omega)
          have hd4' : (k4 : Int) ≤ (S.length : Int) := by omega
          have i2 : (0 : Int) ≤ (k2 : Int) := by omega
          have i2' : (k2 : Int) < (S.length : Int) := by omega
          have i3 : (0 : Int) ≤ (k3 : Int) := by omega
          have i3' : (k3 : Int) < (S.length : Int) := by omega
          have HLt : Hid (k < k4 ∧ k4 ≤ S.length) := ⟨by omega, by omega⟩
          have HD1 : Hid (∀ V, Calls Tryz.prog 59 #[.int .u8 (b1.toNat : Int)] V fun e w' => e = .returned (.int .i64 (Lib.indexByte hexT b1)) ∧ w' = V) := fun V => digit_ok b1 V
          have HD2 : Hid (∀ V, Calls Tryz.prog 59 #[.int .u8 (b2.toNat : Int)] V fun e w' => e = .returned (.int .i64 (Lib.indexByte hexT b2)) ∧ w' = V) := fun V => digit_ok b2 V
          have hst := step_a h1
          have hx1 := hex_rng b1
          have hx2 := hex_rng b2
          have hdy : S.drop k4 = y := by rw [hk4]; simpa using g3.1
          clear h1 hdr g2 g3
          generalize Lib.indexByte hexT b1 = ih at *
          generalize Lib.indexByte hexT b2 = il at *
          have w16 : IntKind.i64.wrap (16 * ih) = 16 * ih := iwrap_id (by omega) (by omega)
          have w17 : IntKind.i64.wrap (16 * ih + il) = 16 * ih + il := iwrap_id (by omega) (by omega)
          by_cases hneg : ih < 0 ∨ il < 0
          · have HNone : Hid (R = none) := by
              rw [hst, if_pos hneg] at hq
              exact hq.symm
            obtain ⟨bb, hcv⟩ := u8_ex (16 * ih + il)
            have hor : decide (ih < 0) = true ∨ (decide (ih < 0) = false ∧ decide (il < 0) = true) := by
              rcases hneg with q | q
              · exact .inl (decide_eq_true q)
              · by_cases q0 : ih < 0
                · exact .inl (decide_eq_true q0)
                · exact .inr ⟨decide_eq_false q0, decide_eq_true q⟩
            clear hq hst hneg h39 HKK HTb0 HTx HH hb hfl hx1 hx2 hdy hk2 hk3 hk4 hwk hdl hln hle
            rcases hor with o1 | ⟨o1, o2⟩
            all_goals
              go_wp2_with fail
              refine (H1.out _ (Fr.refl [] wr)).mono ?_
              rintro e V1 ⟨rfl, f39⟩
              have HF1 := mkHid f39
              clear f39 H1
              go_wp2_with fail
              have HS0 : Hid ((V1).drew.cell? ⟨r, 0, none⟩ = some (.string (bA S)) ∧ (V1).drew.cell? ⟨r, 1, none⟩ = some (.int .i64 (k : Int)) ∧ Hid (Fr [] wr (V1).drew)) := ⟨(HC.out _ ((HF1.out).tr0 (Fr.drew [] _))).1, (HC.out _ ((HF1.out).tr0 (Fr.drew [] _))).2.1, (HF1.out).tr0 (Fr.drew [] _)⟩
              refine wp_region_h (S := fun V => V.cell? ⟨r, 0, none⟩ = some (.string (bA S)) ∧ V.cell? ⟨r, 1, none⟩ = some (.int .i64 (k : Int)) ∧ Hid (Fr [] wr V)) (by kernel_rfl) HS0.out (fun hHeld => ?_)
              refine wpAnyH_take (i := 0) (v := ?_) rfl (by kernel_rfl) (by kernel_rfl) (by kernel_rfl) (fun _ _ _ h => h) (Or.inl ⟨by rfl, ?_⟩) (by assumption) ?_
              rotate_left
              · (intro w hSw; (try dsimp only at hSw); first | (go_simp; done) | (go_simp; with_reducible rfl))
              try simp only [Act.put, qT, qZ, qS, qB, qY, qX]
              refine wpH_one (i := 1) (by kernel_rfl) rfl (fun K hK => ?_)
              go_simp
              refine (HH2.out _ HS0.out.2.2.out).mono ?_
              rintro e V2 ⟨rfl, f1'⟩
              have HF2 : Hid (Fr [] wr V2) := HS0.out.2.2.out.tr0 f1'
              obtain ⟨y0, y1, y3, z1, z3⟩ := HC.out V2 HF2.out
              clear f1' HS0 hHeld
              try go_wp2_with fail
              refine hK.out _ _ ⟨y0, y1, HF2⟩ (fun hHeld => ?_)
              clear hK K
              try simp only [Act.put, qT, qZ, qS, qB, qY, qX]
              refine wpAnyH_take (i := 2) (v := .bool true) rfl (by kernel_rfl) (by kernel_rfl) (by kernel_rfl) (fun _ _ _ h => h) (Or.inl ⟨by rfl, ?_⟩) (by assumption) ?_
              · (intro w hSw; (try dsimp only at hSw); first | (go_simp; done) | (go_simp; with_reducible rfl))
              try simp only [Act.put, qT, qZ, qS, qB, qY, qX]
              refine wpAnyH_take (i := 3) (v := ?_) rfl (by kernel_rfl) (by kernel_rfl) (by kernel_rfl) (fun _ _ _ h => h) (Or.inl ⟨by rfl, ?_⟩) (by assumption) ?_
              rotate_left
              · (intro w hSw; (try dsimp only at hSw); first | (go_simp; done) | (go_simp; with_reducible rfl))
              try simp only [Act.put, qT, qZ, qS, qB, qY, qX]
              refine wpAnyH_take (i := 4) (v := ?_) rfl (by kernel_rfl) (by kernel_rfl) (by kernel_rfl) (fun _ _ _ h => h) (Or.inl ⟨by rfl, ?_⟩) (by assumption) ?_
              rotate_left
              · (intro w hSw; (try dsimp only at hSw); first | (go_simp; done) | (go_simp; with_reducible rfl))
              try simp only [Act.put, qT, qZ, qS, qB, qY, qX]
              refine wpAnyH_take (i := 5) (v := ?_) rfl (by kernel_rfl) (by kernel_rfl) (by kernel_rfl) (fun _ _ _ h => h) (Or.inl ⟨by rfl, ?_⟩) (by assumption) ?_
              rotate_left
              · (intro w hSw; (try dsimp only at hSw); first | (go_simp; done) | (go_simp; with_reducible rfl))
              try simp only [Act.put, qT, qZ, qS, qB, qY, qX]
              refine wpAnyH_take (i := 6) (v := ?_) rfl (by kernel_rfl) (by kernel_rfl) (by kernel_rfl) (fun _ _ _ h => h) (Or.inl ⟨by rfl, ?_⟩) (by assumption) ?_
              rotate_left
              · (intro w hSw; (try dsimp only at hSw); first | (go_simp; done) | (go_simp; with_reducible rfl))
              try simp only [Act.put, qT, qZ, qS, qB, qY, qX]
              refine wpAnyH_take (i := 7) (v := ?_) rfl (by kernel_rfl) (by kernel_rfl) (by kernel_rfl) (fun _ _ _ h => h) (Or.inl ⟨by rfl, ?_⟩) (by assumption) ?_
              rotate_left
              · (intro w hSw; (try dsimp only at hSw); first | (go_simp; done) | (go_simp; with_reducible rfl))
              try simp only [Act.put, qT, qZ, qS, qB, qY, qX]
              refine wpAnyH_take (i := 8) (v := ?_) rfl (by kernel_rfl) (by kernel_rfl) (by kernel_rfl) (fun _ _ _ h => h) (Or.inl ⟨by rfl, ?_⟩) (by assumption) ?_
              rotate_left
              · (intro w hSw; (try dsimp only at hSw); first | (go_simp; done) | (go_simp; with_reducible rfl))
              try simp only [Act.put, qT, qZ, qS, qB, qY, qX]
              refine wpAnyH_take (i := 9) (v := ?_) rfl (by kernel_rfl) (by kernel_rfl) (by kernel_rfl) (fun _ _ _ h => h) (Or.inl ⟨by rfl, ?_⟩) (by assumption) ?_
              rotate_left
              · (intro w hSw; (try dsimp only at hSw); first | (go_simp; done) | (go_simp; with_reducible rfl))
              try simp only [Act.put, qT, qZ, qS, qB, qY, qX]
              refine wpAnyH_take (i := 10) (v := ?_) rfl (by kernel_rfl) (by kernel_rfl) (by kernel_rfl) (fun _ _ _ h => h) (Or.inl ⟨by rfl, ?_⟩) (by assumption) ?_
              rotate_left
              · (intro w hSw; (try dsimp only at hSw); first | (go_simp; done) | (go_simp; with_reducible rfl))
              try simp only [Act.put, qT, qZ, qS, qB, qY, qX]
              refine wpAnyH_take (i := 11) (v := ?_) rfl (by kernel_rfl) (by kernel_rfl) (by kernel_rfl) (fun _ _ _ h => h) (Or.inl ⟨by rfl, ?_⟩) (by assumption) ?_
              rotate_left
              · (intro w hSw; (try dsimp only at hSw); first | (go_simp; done) | (go_simp; with_reducible rfl))
              try simp only [Act.put, qT, qZ, qS, qB, qY, qX]
              refine wpAnyH_take (i := 12) (v := ?_) rfl (by kernel_rfl) (by kernel_rfl) (by kernel_rfl) (fun _ _ _ h => h) (Or.inl ⟨by rfl, ?_⟩) (by assumption) ?_
              rotate_left
              · (intro w hSw; (try dsimp only at hSw); first | (go_simp; done) | (go_simp; with_reducible rfl))
              try simp only [Act.put, qT, qZ, qS, qB, qY, qX]
              refine wpAnyH_take (i := 13) (v := .bool true) rfl (by kernel_rfl) (by kernel_rfl) (by kernel_rfl) (fun _ _ _ h => h) (Or.inl ⟨by rfl, ?_⟩) (by assumption) ?_
              · (intro w hSw; (try dsimp only at hSw); first | (go_simp; done) | (go_simp; with_reducible rfl))
              try simp only [Act.put, qT, qZ, qS, qB, qY, qX]
              refine wpAnyH_take (i := 14) (v := .bool true) rfl (by kernel_rfl) (by kernel_rfl) (by kernel_rfl) (fun _ _ _ h => h) (Or.inl ⟨by rfl, ?_⟩) (by assumption) ?_
              · (intro w hSw; (try dsimp only at hSw); first | (go_simp; done) | (go_simp; with_reducible rfl))
              try simp only [Act.put, qT, qZ, qS, qB, qY, qX]
              refine wpAnyH_done (by kernel_rfl) ?_ _
              clear hHeld
              clear y0 y1 y3 z1 z3
              go_wp2_with fail
              have HS0 : Hid ((V2).drew.cell? ⟨r, 0, none⟩ = some (.string (bA S)) ∧ (V2).drew.cell? ⟨r, 1, none⟩ = some (.int .i64 (k : Int)) ∧ Hid (Fr [] wr (V2).drew)) := ⟨(HC.out _ ((HF2.out).tr0 (Fr.drew [] _))).1, (HC.out _ ((HF2.out).tr0 (Fr.drew [] _))).2.1, (HF2.out).tr0 (Fr.drew [] _)⟩
              refine wp_region_h (S := fun V => V.cell? ⟨r, 0, none⟩ = some (.string (bA S)) ∧ V.cell? ⟨r, 1, none⟩ = some (.int .i64 (k : Int)) ∧ Hid (Fr [] wr V)) (by kernel_rfl) HS0.out (fun hHeld => ?_)
              refine wpAnyH_take (i := 0) (v := ?_) rfl (by kernel_rfl) (by kernel_rfl) (by kernel_rfl) (fun _ _ _ h => h) (Or.inl ⟨by rfl, ?_⟩) (by assumption) ?_
              rotate_left
              · (intro w hSw; (try dsimp only at hSw); first | (go_simp; done) | (go_simp; with_reducible rfl))
              try simp only [Act.put, qT, qZ, qS, qB, qY, qX]
              refine wpAnyH_take (i := 1) (v := ?_) rfl (by kernel_rfl) (by kernel_rfl) (by kernel_rfl) (fun _ _ _ h => h) (Or.inl ⟨by rfl, ?_⟩) (by assumption) ?_
              rotate_left
              · (intro w hSw; (try dsimp only at hSw); first | (go_simp; done) | (go_simp; with_reducible rfl))
              try simp only [Act.put, qT, qZ, qS, qB, qY, qX]
              refine wpAnyH_take (i := 2) (v := ?_) rfl (by kernel_rfl) (by kernel_rfl) (by kernel_rfl) (fun _ _ _ h => h) (Or.inl ⟨by rfl, ?_⟩) (by assumption) ?_
              rotate_left
              · (intro w hSw; (try dsimp only at hSw); first | (go_simp; done) | (go_simp; with_reducible rfl))
              try simp only [Act.put, qT, qZ, qS, qB, qY, qX]
              refine wpAnyH_take (i := 3) (v := ?_) rfl (by kernel_rfl) (by kernel_rfl) (by kernel_rfl) (fun _ _ _ h => h) (Or.inl ⟨by rfl, ?_⟩) (by assumption) ?_
              rotate_left
              · (intro w hSw; (try dsimp only at hSw); first | (go_simp; done) | (go_simp; with_reducible rfl))
              try simp only [Act.put, qT, qZ, qS, qB, qY, qX]
              refine wpAnyH_take (i := 4) (v := ?_) rfl (by kernel_rfl) (by kernel_rfl) (by kernel_rfl) (fun _ _ _ h => h) (Or.inl ⟨by rfl, ?_⟩) (by assumption) ?_
              rotate_left
              · (intro w hSw; (try dsimp only at hSw); first | (go_simp; done) | (go_simp; with_reducible rfl))
              try simp only [Act.put, qT, qZ, qS, qB, qY, qX]
              refine wpAnyH_take (i := 5) (v := ?_) rfl (by kernel_rfl) (by kernel_rfl) (by kernel_rfl) (fun _ _ _ h => h) (Or.inl ⟨by rfl, ?_⟩) (by assumption) ?_
              rotate_left
              · (intro w hSw; (try dsimp only at hSw); first | (go_simp; done) | (go_simp; with_reducible rfl))
              try simp only [Act.put, qT, qZ, qS, qB, qY, qX]
              refine wpAnyH_take (i := 6) (v := ?_) rfl (by kernel_rfl) (by kernel_rfl) (by kernel_rfl) (fun _ _ _ h => h) (Or.inl ⟨by rfl, ?_⟩) (by assumption) ?_
              rotate_left
              · (intro w hSw; (try dsimp only at hSw); first | (go_simp; done) | (go_simp; with_reducible rfl))
              try simp only [Act.put, qT, qZ, qS, qB, qY, qX]
              refine wpAnyH_take (i := 7) (v := ?_) rfl (by kernel_rfl) (by kernel_rfl) (by kernel_rfl) (fun _ _ _ h => h) (Or.inl ⟨by rfl, ?_⟩) (by assumption) ?_
              rotate_left
              · (intro w hSw; (try dsimp only at hSw); first | (go_simp; done) | (go_simp; with_reducible rfl))
              try simp only [Act.put, qT, qZ, qS, qB, qY, qX]
              refine wpAnyH_take (i := 8) (v := ?_) rfl (by kernel_rfl) (by kernel_rfl) (by kernel_rfl) (fun _ _ _ h => h) (Or.inl ⟨by rfl, ?_⟩) (by assumption) ?_
              rotate_left
              · (intro w hSw; (try dsimp only at hSw); first | (go_simp; done) | (go_simp; with_reducible rfl))
              try simp only [Act.put, qT, qZ, qS, qB, qY, qX]
              refine wpAnyH_take (i := 9) (v := ?_) rfl (by kernel_rfl) (by kernel_rfl) (by kernel_rfl) (fun _ _ _ h => h) (Or.inl ⟨by rfl, ?_⟩) (by assumption) ?_
              rotate_left
              · (intro w hSw; (try dsimp only at hSw); first | (go_simp; done) | (go_simp; with_reducible rfl))
              try simp only [Act.put, qT, qZ, qS, qB, qY, qX]
              refine wpH_one (i := 10) (by kernel_rfl) rfl (fun K hK => ?_)
              go_simp
              refine (HD1.out _).mono ?_
              rintro e w2 ⟨rfl, rfl⟩
              try go_wp2_with fail
              refine hK.out _ _ HS0.out (fun hHeld => ?_)
              clear hK K
              try simp only [Act.put, qT, qZ, qS, qB, qY, qX]
              refine wpAnyH_take (i := 11) (v := ?_) rfl (by kernel_rfl) (by kernel_rfl) (by kernel_rfl) (fun _ _ _ h => h) (Or.inl ⟨by rfl, ?_⟩) (by assumption) ?_
              rotate_left
              · (intro w hSw; (try dsimp only at hSw); first | (go_simp; done) | (go_simp; with_reducible rfl))
              try simp only [Act.put, qT, qZ, qS, qB, qY, qX]
              refine wpAnyH_done (by kernel_rfl) ?_ _
              clear hHeld
              clear HS0
              obtain ⟨V3, hVn⟩ : ∃ V, (V2).drew = V := ⟨_, rfl⟩
              rw [hVn]
              have HF3 : Hid (Fr [] wr V3) := by rw [← hVn]; exact (HF2.out).tr0 (Fr.drew [] _)
              clear hVn
              go_wp2_with fail
              have HS0 : Hid ((V3).drew.cell? ⟨r, 0, none⟩ = some (.string (bA S)) ∧ (V3).drew.cell? ⟨r, 1, none⟩ = some (.int .i64 (k : Int)) ∧ Hid (Fr [] wr (V3).drew)) := ⟨(HC.out _ ((HF3.out).tr0 (Fr.drew [] _))).1, (HC.out _ ((HF3.out).tr0 (Fr.drew [] _))).2.1, (HF3.out).tr0 (Fr.drew [] _)⟩
              refine wp_region_h (S := fun V => V.cell? ⟨r, 0, none⟩ = some (.string (bA S)) ∧ V.cell? ⟨r, 1, none⟩ = some (.int .i64 (k : Int)) ∧ Hid (Fr [] wr V)) (by kernel_rfl) HS0.out (fun hHeld => ?_)
              refine wpAnyH_take (i := 0) (v := ?_) rfl (by kernel_rfl) (by kernel_rfl) (by kernel_rfl) (fun _ _ _ h => h) (Or.inl ⟨by rfl, ?_⟩) (by assumption) ?_
              rotate_left
              · (intro w hSw; (try dsimp only at hSw); first | (go_simp; done) | (go_simp; with_reducible rfl))
              try simp only [Act.put, qT, qZ, qS, qB, qY, qX]
              refine wpAnyH_take (i := 1) (v := ?_) rfl (by kernel_rfl) (by kernel_rfl) (by kernel_rfl) (fun _ _ _ h => h) (Or.inl ⟨by rfl, ?_⟩) (by assumption) ?_
              rotate_left
              · (intro w hSw; (try dsimp only at hSw); first | (go_simp; done) | (go_simp; with_reducible rfl))
              try simp only [Act.put, qT, qZ, qS, qB, qY, qX]
              refine wpAnyH_take (i := 2) (v := ?_) rfl (by kernel_rfl) (by kernel_rfl) (by kernel_rfl) (fun _ _ _ h => h) (Or.inl ⟨by rfl, ?_⟩) (by assumption) ?_
              rotate_left
              · (intro w hSw; (try dsimp only at hSw); first | (go_simp; done) | (go_simp; with_reducible rfl))
              try simp only [Act.put, qT, qZ, qS, qB, qY, qX]
              refine wpAnyH_take (i := 3) (v := ?_) rfl (by kernel_rfl) (by kernel_rfl) (by kernel_rfl) (fun _ _ _ h => h) (Or.inl ⟨by rfl, ?_⟩) (by assumption) ?_
              rotate_left
              · (intro w hSw; (try dsimp only at hSw); first | (go_simp; done) | (go_simp; with_reducible rfl))
              try simp only [Act.put, qT, qZ, qS, qB, qY, qX]
              refine wpAnyH_take (i := 4) (v := ?_) rfl (by kernel_rfl) (by kernel_rfl) (by kernel_rfl) (fun _ _ _ h => h) (Or.inl ⟨by rfl, ?_⟩) (by assumption) ?_
              rotate_left
              · (intro w hSw; (try dsimp only at hSw); first | (go_simp; done) | (go_simp; with_reducible rfl))
              try simp only [Act.put, qT, qZ, qS, qB, qY, qX]
              refine wpAnyH_take (i := 5) (v := ?_) rfl (by kernel_rfl) (by kernel_rfl) (by kernel_rfl) (fun _ _ _ h => h) (Or.inl ⟨by rfl, ?_⟩) (by assumption) ?_
              rotate_left
              · (intro w hSw; (try dsimp only at hSw); first | (go_simp; done) | (go_simp; with_reducible rfl))
              try simp only [Act.put, qT, qZ, qS, qB, qY, qX]
              refine wpAnyH_take (i := 6) (v := ?_) rfl (by kernel_rfl) (by kernel_rfl) (by kernel_rfl) (fun _ _ _ h => h) (Or.inl ⟨by rfl, ?_⟩) (by assumption) ?_
              rotate_left
              · (intro w hSw; (try dsimp only at hSw); first | (go_simp; done) | (go_simp; with_reducible rfl))
              try simp only [Act.put, qT, qZ, qS, qB, qY, qX]
              refine wpAnyH_take (i := 7) (v := ?_) rfl (by kernel_rfl) (by kernel_rfl) (by kernel_rfl) (fun _ _ _ h => h) (Or.inl ⟨by rfl, ?_⟩) (by assumption) ?_
              rotate_left
              · (intro w hSw; (try dsimp only at hSw); first | (go_simp; done) | (go_simp; with_reducible rfl))
              try simp only [Act.put, qT, qZ, qS, qB, qY, qX]
              refine wpAnyH_take (i := 8) (v := ?_) rfl (by kernel_rfl) (by kernel_rfl) (by kernel_rfl) (fun _ _ _ h => h) (Or.inl ⟨by rfl, ?_⟩) (by assumption) ?_
              rotate_left
              · (intro w hSw; (try dsimp only at hSw); first | (go_simp; done) | (go_simp; with_reducible rfl))
              try simp only [Act.put, qT, qZ, qS, qB, qY, qX]
              refine wpAnyH_take (i := 9) (v := ?_) rfl (by kernel_rfl) (by kernel_rfl) (by kernel_rfl) (fun _ _ _ h => h) (Or.inl ⟨by rfl, ?_⟩) (by assumption) ?_
              rotate_left
              · (intro w hSw; (try dsimp only at hSw); first | (go_simp; done) | (go_simp; with_reducible rfl))
              try simp only [Act.put, qT, qZ, qS, qB, qY, qX]
              refine wpH_one (i := 10) (by kernel_rfl) rfl (fun K hK => ?_)
              go_simp
              refine (HD2.out _).mono ?_
              rintro e w2 ⟨rfl, rfl⟩
              try go_wp2_with fail
              refine hK.out _ _ HS0.out (fun hHeld => ?_)
              clear hK K
              try simp only [Act.put, qT, qZ, qS, qB, qY, qX]
              refine wpAnyH_take (i := 11) (v := ?_) rfl (by kernel_rfl) (by kernel_rfl) (by kernel_rfl) (fun _ _ _ h => h) (Or.inl ⟨by rfl, ?_⟩) (by assumption) ?_
              rotate_left
              · (intro w hSw; (try dsimp only at hSw); first | (go_simp; done) | (go_simp; with_reducible rfl))
              try simp only [Act.put, qT, qZ, qS, qB, qY, qX]
              refine wpAnyH_done (by kernel_rfl) ?_ _
              clear hHeld
              clear HS0
              obtain ⟨V4, hVn⟩ : ∃ V, (V3).drew = V := ⟨_, rfl⟩
              rw [hVn]
              have HF4 : Hid (Fr [] wr V4) := by rw [← hVn]; exact (HF3.out).tr0 (Fr.drew [] _)
              clear hVn
              have hbV := (HQB.out _ (HF4.out)).setBad true
              have fB := ((HF4.out).mono (S' := [r]) (by simp)).trans (fr_set _ r 3 (.bool true)) (by simp)
              obtain ⟨Vb, hVb⟩ : ∃ V, (V4).setCell ⟨r, 3, none⟩ (.bool true) = V := ⟨_, rfl⟩
              rw [hVb] at hbV fB
              obtain ⟨p', c', w', hr2, u1, u0, uz, hQ⟩ := QT_push hrow hf hal HKa.out hlt fB hbV bb
              have HQT := mkHid (hQ k4 HLt.out.1 HLt.out.2 (fun _ => HNone.out) (fun e => by cases e))
              clear fB
              have HR2 := mkHid hr2
              obtain ⟨v0, v1, v3, x1, x3⟩ := HC.out _ (HF4.out)
              clear hr2 hQ hbV hrow hf
              go_wp2_with (at_builtin; refine Lib.wpList_append_run _ rfl (.tmp 70) (.tmp 76) 57 57 rfl _ _ rfl rfl _ _ HR2.out ?_)
              go_roundw
              case rel => exact HQT.out.1
              case measure => rw [hm0]; have := HQT.out.2; have := HLt.out; omega
          · have hr1 : 0 ≤ ih ∧ ih ≤ 15 := by omega
            have hr2' : 0 ≤ il ∧ il ≤ 15 := by omega
            have o1 : decide (ih < 0) = false := decide_eq_false (by omega)
            have o2 : decide (il < 0) = false := decide_eq_false (by omega)
            obtain ⟨bb, hbb⟩ : ∃ b, b = UInt8.ofNat (16 * ih.toNat + il.toNat) := ⟨_, rfl⟩
            have hcv : IntKind.u8.wrap (16 * ih + il) = (bb.toNat : Int) := by
              rw [hbb, UInt8.toNat_ofNat', show (16 * ih + il) = ((16 * ih.toNat + il.toNat : Nat) : Int) by omega, u8wrap _ (by omega), Nat.mod_eq_of_lt (by omega)]
            have HStep : Hid (∃ f, quoQ f (S.drop k4) (acc ++ [bb]) = R ∧ (S.drop k4).length < f) := by
              rw [hst, if_neg hneg] at hq
              simp only at hq
              rw [hdy, hbb]
              exact ⟨f, hq, by omega⟩
            clear hq hst hneg h39 HKK HTb0 HTx HH hb hfl hx1 hx2 hr1 hr2' hdy hbb hk2 hk3 hk4 hwk hdl hln hle
            go_wp2_with fail
            refine (H1.out _ (Fr.refl [] wr)).mono ?_
            rintro e V1 ⟨rfl, f39⟩
            have HF1 := mkHid f39
            clear f39 H1
            go_wp2_with fail
            have HS0 : Hid ((V1).drew.cell? ⟨r, 0, none⟩ = some (.string (bA S)) ∧ (V1).drew.cell? ⟨r, 1, none⟩ = some (.int .i64 (k : Int)) ∧ Hid (Fr [] wr (V1).drew)) := ⟨(HC.out _ ((HF1.out).tr0 (Fr.drew [] _))).1, (HC.out _ ((HF1.out).tr0 (Fr.drew [] _))).2.1, (HF1.out).tr0 (Fr.drew [] _)⟩
            refine wp_region_h (S := fun V => V.cell? ⟨r, 0, none⟩ = some (.string (bA S)) ∧ V.cell? ⟨r, 1, none⟩ = some (.int .i64 (k : Int)) ∧ Hid (Fr [] wr V)) (by kernel_rfl) HS0.out (fun hHeld => ?_)
            refine wpAnyH_take (i := 0) (v := ?_) rfl (by kernel_rfl) (by kernel_rfl) (by kernel_rfl) (fun _ _ _ h => h) (Or.inl ⟨by rfl, ?_⟩) (by assumption) ?_
            rotate_left
            · (intro w hSw; (try dsimp only at hSw); first | (go_simp; done) | (go_simp; with_reducible rfl))
            try simp only [Act.put, qT, qZ, qS, qB, qY, qX]
            refine wpH_one (i := 1) (by kernel_rfl) rfl (fun K hK => ?_)
            go_simp
            refine (HH2.out _ HS0.out.2.2.out).mono ?_
            rintro e V2 ⟨rfl, f1'⟩
            have HF2 : Hid (Fr [] wr V2) := HS0.out.2.2.out.tr0 f1'
            obtain ⟨y0, y1, y3, z1, z3⟩ := HC.out V2 HF2.out
            clear f1' HS0 hHeld
            try go_wp2_with fail
            refine hK.out _ _ ⟨y0, y1, HF2⟩ (fun hHeld => ?_)
            clear hK K
            try simp only [Act.put, qT, qZ, qS, qB, qY, qX]
            refine wpAnyH_take (i := 2) (v := .bool true) rfl (by kernel_rfl) (by kernel_rfl) (by kernel_rfl) (fun _ _ _ h => h) (Or.inl ⟨by rfl, ?_⟩) (by assumption) ?_
            · (intro w hSw; (try dsimp only at hSw); first | (go_simp; done) | (go_simp; with_reducible rfl))
            try simp only [Act.put, qT, qZ, qS, qB, qY, qX]
            refine wpAnyH_take (i := 3) (v := ?_) rfl (by kernel_rfl) (by kernel_rfl) (by kernel_rfl) (fun _ _ _ h => h) (Or.inl ⟨by rfl, ?_⟩) (by assumption) ?_
            rotate_left
            · (intro w hSw; (try dsimp only at hSw); first | (go_simp; done) | (go_simp; with_reducible rfl))
            try simp only [Act.put, qT, qZ, qS, qB, qY, qX]
            refine wpAnyH_take (i := 4) (v := ?_) rfl (by kernel_rfl) (by kernel_rfl) (by kernel_rfl) (fun _ _ _ h => h) (Or.inl ⟨by rfl, ?_⟩) (by assumption) ?_
            rotate_left
            · (intro w hSw; (try dsimp only at hSw); first | (go_simp; done) | (go_simp; with_reducible rfl))
            try simp only [Act.put, qT, qZ, qS, qB, qY, qX]
            refine wpAnyH_take (i := 5) (v := ?_) rfl (by kernel_rfl) (by kernel_rfl) (by kernel_rfl) (fun _ _ _ h => h) (Or.inl ⟨by rfl, ?_⟩) (by assumption) ?_
            rotate_left
            · (intro w hSw; (try dsimp only at hSw); first | (go_simp; done) | (go_simp; with_reducible rfl))
            try simp only [Act.put, qT, qZ, qS, qB, qY, qX]
            refine wpAnyH_take (i := 6) (v := ?_) rfl (by kernel_rfl) (by kernel_rfl) (by kernel_rfl) (fun _ _ _ h => h) (Or.inl ⟨by rfl, ?_⟩) (by assumption) ?_
            rotate_left
            · (intro w hSw; (try dsimp only at hSw); first | (go_simp; done) | (go_simp; with_reducible rfl))
            try simp only [Act.put, qT, qZ, qS, qB, qY, qX]
            refine wpAnyH_take (i := 7) (v := ?_) rfl (by kernel_rfl) (by kernel_rfl) (by kernel_rfl) (fun _ _ _ h => h) (Or.inl ⟨by rfl, ?_⟩) (by assumption) ?_
            rotate_left
            · (intro w hSw; (try dsimp only at hSw); first | (go_simp; done) | (go_simp; with_reducible rfl))
            try simp only [Act.put, qT, qZ, qS, qB, qY, qX]
            refine wpAnyH_take (i := 8) (v := ?_) rfl (by kernel_rfl) (by kernel_rfl) (by kernel_rfl) (fun _ _ _ h => h) (Or.inl ⟨by rfl, ?_⟩) (by assumption) ?_
            rotate_left
            · (intro w hSw; (try dsimp only at hSw); first | (go_simp; done) | (go_simp; with_reducible rfl))
            try simp only [Act.put, qT, qZ, qS, qB, qY, qX]
            refine wpAnyH_take (i := 9) (v := ?_) rfl (by kernel_rfl) (by kernel_rfl) (by kernel_rfl) (fun _ _ _ h => h) (Or.inl ⟨by rfl, ?_⟩) (by assumption) ?_
            rotate_left
            · (intro w hSw; (try dsimp only at hSw); first | (go_simp; done) | (go_simp; with_reducible rfl))
            try simp only [Act.put, qT, qZ, qS, qB, qY, qX]
            refine wpAnyH_take (i := 10) (v := ?_) rfl (by kernel_rfl) (by kernel_rfl) (by kernel_rfl) (fun _ _ _ h => h) (Or.inl ⟨by rfl, ?_⟩) (by assumption) ?_
            rotate_left
            · (intro w hSw; (try dsimp only at hSw); first | (go_simp; done) | (go_simp; with_reducible rfl))
            try simp only [Act.put, qT, qZ, qS, qB, qY, qX]
            refine wpAnyH_take (i := 11) (v := ?_) rfl (by kernel_rfl) (by kernel_rfl) (by kernel_rfl) (fun _ _ _ h => h) (Or.inl ⟨by rfl, ?_⟩) (by assumption) ?_
            rotate_left
            · (intro w hSw; (try dsimp only at hSw); first | (go_simp; done) | (go_simp; with_reducible rfl))
            try simp only [Act.put, qT, qZ, qS, qB, qY, qX]
            refine wpAnyH_take (i := 12) (v := ?_) rfl (by kernel_rfl) (by kernel_rfl) (by kernel_rfl) (fun _ _ _ h => h) (Or.inl ⟨by rfl, ?_⟩) (by assumption) ?_
            rotate_left
            · (intro w hSw; (try dsimp only at hSw); first | (go_simp; done) | (go_simp; with_reducible rfl))
            try simp only [Act.put, qT, qZ, qS, qB, qY, qX]
            refine wpAnyH_take (i := 13) (v := .bool true) rfl (by kernel_rfl) (by kernel_rfl) (by kernel_rfl) (fun _ _ _ h => h) (Or.inl ⟨by rfl, ?_⟩) (by assumption) ?_
            · (intro w hSw; (try dsimp only at hSw); first | (go_simp; done) | (go_simp; with_reducible rfl))
            try simp only [Act.put, qT, qZ, qS, qB, qY, qX]
            refine wpAnyH_take (i := 14) (v := .bool true) rfl (by kernel_rfl) (by kernel_rfl) (by kernel_rfl) (fun _ _ _ h => h) (Or.inl ⟨by rfl, ?_⟩) (by assumption) ?_
            · (intro w hSw; (try dsimp only at hSw); first | (go_simp; done) | (go_simp; with_reducible rfl))
            try simp only [Act.put, qT, qZ, qS, qB, qY, qX]
            refine wpAnyH_done (by kernel_rfl) ?_ _
            clear hHeld
            clear y0 y1 y3 z1 z3
            go_wp2_with fail
            have HS0 : Hid ((V2).drew.cell? ⟨r, 0, none⟩ = some (.string (bA S)) ∧ (V2).drew.cell? ⟨r, 1, none⟩ = some (.int .i64 (k : Int)) ∧ Hid (Fr [] wr (V2).drew)) := ⟨(HC.out _ ((HF2.out).tr0 (Fr.drew [] _))).1, (HC.out _ ((HF2.out).tr0 (Fr.drew [] _))).2.1, (HF2.out).tr0 (Fr.drew [] _)⟩
            refine wp_region_h (S := fun V => V.cell? ⟨r, 0, none⟩ = some (.string (bA S)) ∧ V.cell? ⟨r, 1, none⟩ = some (.int .i64 (k : Int)) ∧ Hid (Fr [] wr V)) (by kernel_rfl) HS0.out (fun hHeld => ?_)
            refine wpAnyH_take (i := 0) (v := ?_) rfl (by kernel_rfl) (by kernel_rfl) (by kernel_rfl) (fun _ _ _ h => h) (Or.inl ⟨by rfl, ?_⟩) (by assumption) ?_
            rotate_left
            · (intro w hSw; (try dsimp only at hSw); first | (go_simp; done) | (go_simp; with_reducible rfl))
            try simp only [Act.put, qT, qZ, qS, qB, qY, qX]
            refine wpAnyH_take (i := 1) (v := ?_) rfl (by kernel_rfl) (by kernel_rfl) (by kernel_rfl) (fun _ _ _ h => h) (Or.inl ⟨by rfl, ?_⟩) (by assumption) ?_
            rotate_left
            · (intro w hSw; (try dsimp only at hSw); first | (go_simp; done) | (go_simp; with_reducible rfl))
            try simp only [Act.put, qT, qZ, qS, qB, qY, qX]
            refine wpAnyH_take (i := 2) (v := ?_) rfl (by kernel_rfl) (by kernel_rfl) (by kernel_rfl) (fun _ _ _ h => h) (Or.inl ⟨by rfl, ?_⟩) (by assumption) ?_
            rotate_left
            · (intro w hSw; (try dsimp only at hSw); first | (go_simp; done) | (go_simp; with_reducible rfl))
            try simp only [Act.put, qT, qZ, qS, qB, qY, qX]
            refine wpAnyH_take (i := 3) (v := ?_) rfl (by kernel_rfl) (by kernel_rfl) (by kernel_rfl) (fun _ _ _ h => h) (Or.inl ⟨by rfl, ?_⟩) (by assumption) ?_
            rotate_left
            · (intro w hSw; (try dsimp only at hSw); first | (go_simp; done) | (go_simp; with_reducible rfl))
            try simp only [Act.put, qT, qZ, qS, qB, qY, qX]
            refine wpAnyH_take (i := 4) (v := ?_) rfl (by kernel_rfl) (by kernel_rfl) (by kernel_rfl) (fun _ _ _ h => h) (Or.inl ⟨by rfl, ?_⟩) (by assumption) ?_
            rotate_left
            · (intro w hSw; (try dsimp only at hSw); first | (go_simp; done) | (go_simp; with_reducible rfl))
            try simp only [Act.put, qT, qZ, qS, qB, qY, qX]
            refine wpAnyH_take (i := 5) (v := ?_) rfl (by kernel_rfl) (by kernel_rfl) (by kernel_rfl) (fun _ _ _ h => h) (Or.inl ⟨by rfl, ?_⟩) (by assumption) ?_
            rotate_left
            · (intro w hSw; (try dsimp only at hSw); first | (go_simp; done) | (go_simp; with_reducible rfl))
            try simp only [Act.put, qT, qZ, qS, qB, qY, qX]
            refine wpAnyH_take (i := 6) (v := ?_) rfl (by kernel_rfl) (by kernel_rfl) (by kernel_rfl) (fun _ _ _ h => h) (Or.inl ⟨by rfl, ?_⟩) (by assumption) ?_
            rotate_left
            · (intro w hSw; (try dsimp only at hSw); first | (go_simp; done) | (go_simp; with_reducible rfl))
            try simp only [Act.put, qT, qZ, qS, qB, qY, qX]
            refine wpAnyH_take (i := 7) (v := ?_) rfl (by kernel_rfl) (by kernel_rfl) (by kernel_rfl) (fun _ _ _ h => h) (Or.inl ⟨by rfl, ?_⟩) (by assumption) ?_
            rotate_left
            · (intro w hSw; (try dsimp only at hSw); first | (go_simp; done) | (go_simp; with_reducible rfl))
            try simp only [Act.put, qT, qZ, qS, qB, qY, qX]
            refine wpAnyH_take (i := 8) (v := ?_) rfl (by kernel_rfl) (by kernel_rfl) (by kernel_rfl) (fun _ _ _ h => h) (Or.inl ⟨by rfl, ?_⟩) (by assumption) ?_
            rotate_left
            · (intro w hSw; (try dsimp only at hSw); first | (go_simp; done) | (go_simp; with_reducible rfl))
            try simp only [Act.put, qT, qZ, qS, qB, qY, qX]
            refine wpAnyH_take (i := 9) (v := ?_) rfl (by kernel_rfl) (by kernel_rfl) (by kernel_rfl) (fun _ _ _ h => h) (Or.inl ⟨by rfl, ?_⟩) (by assumption) ?_
            rotate_left
            · (intro w hSw; (try dsimp only at hSw); first | (go_simp; done) | (go_simp; with_reducible rfl))
            try simp only [Act.put, qT, qZ, qS, qB, qY, qX]
            refine wpH_one (i := 10) (by kernel_rfl) rfl (fun K hK => ?_)
            go_simp
            refine (HD1.out _).mono ?_
            rintro e w2 ⟨rfl, rfl⟩
            try go_wp2_with fail
            refine hK.out _ _ HS0.out (fun hHeld => ?_)
            clear hK K
            try simp only [Act.put, qT, qZ, qS, qB, qY, qX]
            refine wpAnyH_take (i := 11) (v := ?_) rfl (by kernel_rfl) (by kernel_rfl) (by kernel_rfl) (fun _ _ _ h => h) (Or.inl ⟨by rfl, ?_⟩) (by assumption) ?_
            rotate_left
            · (intro w hSw; (try dsimp only at hSw); first | (go_simp; done) | (go_simp; with_reducible rfl))
            try simp only [Act.put, qT, qZ, qS, qB, qY, qX]
            refine wpAnyH_done (by kernel_rfl) ?_ _
            clear hHeld
            clear HS0
            obtain ⟨V3, hVn⟩ : ∃ V, (V2).drew = V := ⟨_, rfl⟩
            rw [hVn]
            have HF3 : Hid (Fr [] wr V3) := by rw [← hVn]; exact (HF2.out).tr0 (Fr.drew [] _)
            clear hVn
            go_wp2_with fail
            have HS0 : Hid ((V3).drew.cell? ⟨r, 0, none⟩ = some (.string (bA S)) ∧ (V3).drew.cell? ⟨r, 1, none⟩ = some (.int .i64 (k : Int)) ∧ Hid (Fr [] wr (V3).drew)) := ⟨(HC.out _ ((HF3.out).tr0 (Fr.drew [] _))).1, (HC.out _ ((HF3.out).tr0 (Fr.drew [] _))).2.1, (HF3.out).tr0 (Fr.drew [] _)⟩
            refine wp_region_h (S := fun V => V.cell? ⟨r, 0, none⟩ = some (.string (bA S)) ∧ V.cell? ⟨r, 1, none⟩ = some (.int .i64 (k : Int)) ∧ Hid (Fr [] wr V)) (by kernel_rfl) HS0.out (fun hHeld => ?_)
            refine wpAnyH_take (i := 0) (v := ?_) rfl (by kernel_rfl) (by kernel_rfl) (by kernel_rfl) (fun _ _ _ h => h) (Or.inl ⟨by rfl, ?_⟩) (by assumption) ?_
            rotate_left
            · (intro w hSw; (try dsimp only at hSw); first | (go_simp; done) | (go_simp; with_reducible rfl))
            try simp only [Act.put, qT, qZ, qS, qB, qY, qX]
            refine wpAnyH_take (i := 1) (v := ?_) rfl (by kernel_rfl) (by kernel_rfl) (by kernel_rfl) (fun _ _ _ h => h) (Or.inl ⟨by rfl, ?_⟩) (by assumption) ?_
            rotate_left
            · (intro w hSw; (try dsimp only at hSw); first | (go_simp; done) | (go_simp; with_reducible rfl))
            try simp only [Act.put, qT, qZ, qS, qB, qY, qX]
            refine wpAnyH_take (i := 2) (v := ?_) rfl (by kernel_rfl) (by kernel_rfl) (by kernel_rfl) (fun _ _ _ h => h) (Or.inl ⟨by rfl, ?_⟩) (by assumption) ?_
            rotate_left
            · (intro w hSw; (try dsimp only at hSw); first | (go_simp; done) | (go_simp; with_reducible rfl))
            try simp only [Act.put, qT, qZ, qS, qB, qY, qX]
            refine wpAnyH_take (i := 3) (v := ?_) rfl (by kernel_rfl) (by kernel_rfl) (by kernel_rfl) (fun _ _ _ h => h) (Or.inl ⟨by rfl, ?_⟩) (by assumption) ?_
            rotate_left
            · (intro w hSw; (try dsimp only at hSw); first | (go_simp; done) | (go_simp; with_reducible rfl))
            try simp only [Act.put, qT, qZ, qS, qB, qY, qX]
            refine wpAnyH_take (i := 4) (v := ?_) rfl (by kernel_rfl) (by kernel_rfl) (by kernel_rfl) (fun _ _ _ h => h) (Or.inl ⟨by rfl, ?_⟩) (by assumption) ?_
            rotate_left
            · (intro w hSw; (try dsimp only at hSw); first | (go_simp; done) | (go_simp; with_reducible rfl))
            try simp only [Act.put, qT, qZ, qS, qB, qY, qX]
            refine wpAnyH_take (i := 5) (v := ?_) rfl (by kernel_rfl) (by kernel_rfl) (by kernel_rfl) (fun _ _ _ h => h) (Or.inl ⟨by rfl, ?_⟩) (by assumption) ?_
            rotate_left
            · (intro w hSw; (try dsimp only at hSw); first | (go_simp; done) | (go_simp; with_reducible rfl))
            try simp only [Act.put, qT, qZ, qS, qB, qY, qX]
            refine wpAnyH_take (i := 6) (v := ?_) rfl (by kernel_rfl) (by kernel_rfl) (by kernel_rfl) (fun _ _ _ h => h) (Or.inl ⟨by rfl, ?_⟩) (by assumption) ?_
            rotate_left
            · (intro w hSw; (try dsimp only at hSw); first | (go_simp; done) | (go_simp; with_reducible rfl))
            try simp only [Act.put, qT, qZ, qS, qB, qY, qX]
            refine wpAnyH_take (i := 7) (v := ?_) rfl (by kernel_rfl) (by kernel_rfl) (by kernel_rfl) (fun _ _ _ h => h) (Or.inl ⟨by rfl, ?_⟩) (by assumption) ?_
            rotate_left
            · (intro w hSw; (try dsimp only at hSw); first | (go_simp; done) | (go_simp; with_reducible rfl))
            try simp only [Act.put, qT, qZ, qS, qB, qY, qX]
            refine wpAnyH_take (i := 8) (v := ?_) rfl (by kernel_rfl) (by kernel_rfl) (by kernel_rfl) (fun _ _ _ h => h) (Or.inl ⟨by rfl, ?_⟩) (by assumption) ?_
            rotate_left
            · (intro w hSw; (try dsimp only at hSw); first | (go_simp; done) | (go_simp; with_reducible rfl))
            try simp only [Act.put, qT, qZ, qS, qB, qY, qX]
            refine wpAnyH_take (i := 9) (v := ?_) rfl (by kernel_rfl) (by kernel_rfl) (by kernel_rfl) (fun _ _ _ h => h) (Or.inl ⟨by rfl, ?_⟩) (by assumption) ?_
            rotate_left
            · (intro w hSw; (try dsimp only at hSw); first | (go_simp; done) | (go_simp; with_reducible rfl))
            try simp only [Act.put, qT, qZ, qS, qB, qY, qX]
            refine wpH_one (i := 10) (by kernel_rfl) rfl (fun K hK => ?_)
            go_simp
            refine (HD2.out _).mono ?_
            rintro e w2 ⟨rfl, rfl⟩
            try go_wp2_with fail
            refine hK.out _ _ HS0.out (fun hHeld => ?_)
            clear hK K
            try simp only [Act.put, qT, qZ, qS, qB, qY, qX]
            refine wpAnyH_take (i := 11) (v := ?_) rfl (by kernel_rfl) (by kernel_rfl) (by kernel_rfl) (fun _ _ _ h => h) (Or.inl ⟨by rfl, ?_⟩) (by assumption) ?_
            rotate_left
            · (intro w hSw; (try dsimp only at hSw); first | (go_simp; done) | (go_simp; with_reducible rfl))
            try simp only [Act.put, qT, qZ, qS, qB, qY, qX]
            refine wpAnyH_done (by kernel_rfl) ?_ _
            clear hHeld
            clear HS0
            obtain ⟨V4, hVn⟩ : ∃ V, (V3).drew = V := ⟨_, rfl⟩
            rw [hVn]
            have HF4 : Hid (Fr [] wr V4) := by rw [← hVn]; exact (HF3.out).tr0 (Fr.drew [] _)
            clear hVn
            have hbV := HQB.out _ (HF4.out)
            obtain ⟨p', c', w', hr2, u1, u0, uz, hQ⟩ := QT_push hrow hf hal HKa.out hlt ((HF4.out).mono (by simp)) hbV bb
            have HQT := mkHid (hQ k4 HLt.out.1 HLt.out.2 (fun e => by cases e) (fun _ => HStep.out))
            have HR2 := mkHid hr2
            obtain ⟨v0, v1, v3, x1, x3⟩ := HC.out _ (HF4.out)
            clear hr2 hQ hbV hrow hf
            go_wp2_with (at_builtin; refine Lib.wpList_append_run _ rfl (.tmp 70) (.tmp 76) 57 57 rfl _ _ rfl rfl _ _ HR2.out ?_)
            go_roundw
            case rel => exact HQT.out.1
            case measure => rw [hm0]; have := HQT.out.2; have := HLt.out; omega
        have hn1 : ∀ b1 b2 y, tokP [92, 120] (S.drop k) ≠ some (b1 :: b2 :: y) := fun b1 b2 y e => h1 ⟨b1, b2, y, e⟩
        by_cases h2 : ∃ b1 y, tokP [92] (S.drop k) = some (b1 :: y)
        · obtain ⟨bb, y, h2⟩ := h2
          have hln := tok_ln h2
          simp only [List.length_cons, List.length_nil] at hln
          have HH3 := HH [92] true (by decide) (has_tok h2)
          have hdr := drop_tok h2
          simp only [List.length_cons, List.length_nil] at hdr
          have g1 := drop_one hdr
          obtain ⟨k1', hk1'⟩ : ∃ x, x = k + 1 := ⟨_, rfl⟩
          obtain ⟨k2, hk2⟩ : ∃ x, x = k + 2 := ⟨_, rfl⟩
          obtain ⟨k4, hk4⟩ : ∃ x, x = k + 4 := ⟨_, rfl⟩
          obtain ⟨hi1, hb1⟩ := byte_at S k1' bb (by rw [hk1']; simpa using g1.2)
          have hwk1 : IntKind.i64.wrap ((k : Int) + 1) = (k1' : Int) := hwk 1 (by omega) k1' hk1'
          have hwk2 : IntKind.i64.wrap ((k : Int) + 2) = (k2 : Int) := hwk 2 (by omega) k2 hk2
          have hwk4 : IntKind.i64.wrap ((k : Int) + 4) = (k4 : Int) := hwk 4 (by omega) k4 hk4
          have hd2 : decide ((k2 : Int) ≤ (S.length : Int)) = true := decide_eq_true (by omega)
          have hd2' : (k2 : Int) ≤ (S.length : Int) := by omega
          have i1 : (0 : Int) ≤ (k1' : Int) := by omega
          have i1' : (k1' : Int) < (S.length : Int) := by omega
          have HLt : Hid (k < k2 ∧ k2 ≤ S.length) := ⟨by omega, by omega⟩
          have HStep : Hid (∃ f, quoQ f (S.drop k2) (acc ++ [bb]) = R ∧ (S.drop k2).length < f) := by
            rw [step_b hn1 h2] at hq
            simp only at hq
            have hdy : S.drop (k + 2) = y := by simpa using g1.1
            rw [hk2, hdy]
            exact ⟨f, hq, by omega⟩
          cases hb12 : hasQ S k false [92, 120] with
          | true =>
            have HH2 := HH [92, 120] true (by decide) hb12
            have hd4' : ¬ (k4 : Int) ≤ (S.length : Int) := by
              cases ht : tokP [92, 120] (S.drop k) with
              | none => rw [has_no ht] at hb12; cases hb12
              | some z =>
                have hl3 := tok_ln ht
                match z, ht, hl3 with
                | [], ht, hl3 => simp at hl3; omega
                | [_], ht, hl3 => simp at hl3; omega
                | b1 :: b2 :: y, ht, hl3 => exact absurd ht (hn1 b1 b2 y)
            have hd4 : decide ((k4 : Int) ≤ (S.length : Int)) = false := decide_eq_false hd4'
            have hd4n : S.length < k4 := by omega
            have hd4m : ¬ k4 ≤ S.length := by omega
            clear hq h39 HKK HTb0 HTx HH hb hfl hn1 h1 h2 hdr g1 hb12 hk1' hk2 hk4 hwk hdl hln hle
            go_wp2_with fail
            refine (H1.out _ (Fr.refl [] wr)).mono ?_
            rintro e V1 ⟨rfl, f39⟩
            have HF1 := mkHid f39
            clear f39 H1
            go_wp2_with fail
            have HS0 : Hid ((V1).drew.cell? ⟨r, 0, none⟩ = some (.string (bA S)) ∧ (V1).drew.cell? ⟨r, 1, none⟩ = some (.int .i64 (k : Int)) ∧ Hid (Fr [] wr (V1).drew)) := ⟨(HC.out _ ((HF1.out).tr0 (Fr.drew [] _))).1, (HC.out _ ((HF1.out).tr0 (Fr.drew [] _))).2.1, (HF1.out).tr0 (Fr.drew [] _)⟩
            refine wp_region_h (S := fun V => V.cell? ⟨r, 0, none⟩ = some (.string (bA S)) ∧ V.cell? ⟨r, 1, none⟩ = some (.int .i64 (k : Int)) ∧ Hid (Fr [] wr V)) (by kernel_rfl) HS0.out (fun hHeld => ?_)
            refine wpAnyH_take (i := 0) (v := ?_) rfl (by kernel_rfl) (by kernel_rfl) (by kernel_rfl) (fun _ _ _ h => h) (Or.inl ⟨by rfl, ?_⟩) (by assumption) ?_
            rotate_left
            · (intro w hSw; (try dsimp only at hSw); first | (go_simp; done) | (go_simp; with_reducible rfl))
            try simp only [Act.put, qT, qZ, qS, qB, qY, qX]
            refine wpH_one (i := 1) (by kernel_rfl) rfl (fun K hK => ?_)
            go_simp
            refine (HH2.out _ HS0.out.2.2.out).mono ?_
            rintro e V2 ⟨rfl, f1'⟩
            have HF2 : Hid (Fr [] wr V2) := HS0.out.2.2.out.tr0 f1'
            obtain ⟨y0, y1, y3, z1, z3⟩ := HC.out V2 HF2.out
            clear f1' HS0 hHeld
            try go_wp2_with fail
            refine hK.out _ _ ⟨y0, y1, HF2⟩ (fun hHeld => ?_)
            clear hK K
            try simp only [Act.put, qT, qZ, qS, qB, qY, qX]
            refine wpAnyH_take (i := 2) (v := .bool true) rfl (by kernel_rfl) (by kernel_rfl) (by kernel_rfl) (fun _ _ _ h => h) (Or.inl ⟨by rfl, ?_⟩) (by assumption) ?_
            · (intro w hSw; (try dsimp only at hSw); first | (go_simp; done) | (go_simp; with_reducible rfl))
            try simp only [Act.put, qT, qZ, qS, qB, qY, qX]
            refine wpAnyH_take (i := 3) (v := ?_) rfl (by kernel_rfl) (by kernel_rfl) (by kernel_rfl) (fun _ _ _ h => h) (Or.inl ⟨by rfl, ?_⟩) (by assumption) ?_
            rotate_left
            · (intro w hSw; (try dsimp only at hSw); first | (go_simp; done) | (go_simp; with_reducible rfl))
            try simp only [Act.put, qT, qZ, qS, qB, qY, qX]
            refine wpAnyH_take (i := 4) (v := ?_) rfl (by kernel_rfl) (by kernel_rfl) (by kernel_rfl) (fun _ _ _ h => h) (Or.inl ⟨by rfl, ?_⟩) (by assumption) ?_
            rotate_left
            · (intro w hSw; (try dsimp only at hSw); first | (go_simp; done) | (go_simp; with_reducible rfl))
            try simp only [Act.put, qT, qZ, qS, qB, qY, qX]
            refine wpAnyH_take (i := 5) (v := ?_) rfl (by kernel_rfl) (by kernel_rfl) (by kernel_rfl) (fun _ _ _ h => h) (Or.inl ⟨by rfl, ?_⟩) (by assumption) ?_
            rotate_left
            · (intro w hSw; (try dsimp only at hSw); first | (go_simp; done) | (go_simp; with_reducible rfl))
            try simp only [Act.put, qT, qZ, qS, qB, qY, qX]
            refine wpAnyH_take (i := 6) (v := ?_) rfl (by kernel_rfl) (by kernel_rfl) (by kernel_rfl) (fun _ _ _ h => h) (Or.inl ⟨by rfl, ?_⟩) (by assumption) ?_
            rotate_left
            · (intro w hSw; (try dsimp only at hSw); first | (go_simp; done) | (go_simp; with_reducible rfl))
            try simp only [Act.put, qT, qZ, qS, qB, qY, qX]
            refine wpAnyH_take (i := 7) (v := ?_) rfl (by kernel_rfl) (by kernel_rfl) (by kernel_rfl) (fun _ _ _ h => h) (Or.inl ⟨by rfl, ?_⟩) (by assumption) ?_
            rotate_left
            · (intro w hSw; (try dsimp only at hSw); first | (go_simp; done) | (go_simp; with_reducible rfl))
            try simp only [Act.put, qT, qZ, qS, qB, qY, qX]
            refine wpAnyH_take (i := 8) (v := ?_) rfl (by kernel_rfl) (by kernel_rfl) (by kernel_rfl) (fun _ _ _ h => h) (Or.inl ⟨by rfl, ?_⟩) (by assumption) ?_
            rotate_left
            · (intro w hSw; (try dsimp only at hSw); first | (go_simp; done) | (go_simp; with_reducible rfl))
            try simp only [Act.put, qT, qZ, qS, qB, qY, qX]
            refine wpAnyH_take (i := 9) (v := ?_) rfl (by kernel_rfl) (by kernel_rfl) (by kernel_rfl) (fun _ _ _ h => h) (Or.inl ⟨by rfl, ?_⟩) (by assumption) ?_
            rotate_left
            · (intro w hSw; (try dsimp only at hSw); first | (go_simp; done) | (go_simp; with_reducible rfl))
            try simp only [Act.put, qT, qZ, qS, qB, qY, qX]
            refine wpAnyH_take (i := 10) (v := ?_) rfl (by kernel_rfl) (by kernel_rfl) (by kernel_rfl) (fun _ _ _ h => h) (Or.inl ⟨by rfl, ?_⟩) (by assumption) ?_
            rotate_left
            · (intro w hSw; (try dsimp only at hSw); first | (go_simp; done) | (go_simp; with_reducible rfl))
            try simp only [Act.put, qT, qZ, qS, qB, qY, qX]
            refine wpAnyH_take (i := 11) (v := ?_) rfl (by kernel_rfl) (by kernel_rfl) (by kernel_rfl) (fun _ _ _ h => h) (Or.inl ⟨by rfl, ?_⟩) (by assumption) ?_
            rotate_left
            · (intro w hSw; (try dsimp only at hSw); first | (go_simp; done) | (go_simp; with_reducible rfl))
            try simp only [Act.put, qT, qZ, qS, qB, qY, qX]
            refine wpAnyH_take (i := 12) (v := ?_) rfl (by kernel_rfl) (by kernel_rfl) (by kernel_rfl) (fun _ _ _ h => h) (Or.inl ⟨by rfl, ?_⟩) (by assumption) ?_
            rotate_left
            · (intro w hSw; (try dsimp only at hSw); first | (go_simp; done) | (go_simp; with_reducible rfl))
            try simp only [Act.put, qT, qZ, qS, qB, qY, qX]
            refine wpAnyH_take (i := 13) (v := .bool false) rfl (by kernel_rfl) (by kernel_rfl) (by kernel_rfl) (fun _ _ _ h => h) (Or.inl ⟨by rfl, ?_⟩) (by assumption) ?_
            · (intro w hSw; (try dsimp only at hSw); first | (go_simp; done) | (go_simp; with_reducible rfl))
            try simp only [Act.put, qT, qZ, qS, qB, qY, qX]
            refine wpAnyH_take (i := 14) (v := .bool false) rfl (by kernel_rfl) (by kernel_rfl) (by kernel_rfl) (fun _ _ _ h => h) (Or.inl ⟨by rfl, ?_⟩) (by assumption) ?_
            · (intro w hSw; (try dsimp only at hSw); first | (go_simp; done) | (go_simp; with_reducible rfl))
            try simp only [Act.put, qT, qZ, qS, qB, qY, qX]
            refine wpAnyH_done (by kernel_rfl) ?_ _
            clear hHeld
            clear y0 y1 y3 z1 z3
            go_wp2_with fail
            have HS0 : Hid ((V2).drew.cell? ⟨r, 0, none⟩ = some (.string (bA S)) ∧ (V2).drew.cell? ⟨r, 1, none⟩ = some (.int .i64 (k : Int)) ∧ Hid (Fr [] wr (V2).drew)) := ⟨(HC.out _ ((HF2.out).tr0 (Fr.drew [] _))).1, (HC.out _ ((HF2.out).tr0 (Fr.drew [] _))).2.1, (HF2.out).tr0 (Fr.drew [] _)⟩
            refine wp_region_h (S := fun V => V.cell? ⟨r, 0, none⟩ = some (.string (bA S)) ∧ V.cell? ⟨r, 1, none⟩ = some (.int .i64 (k : Int)) ∧ Hid (Fr [] wr V)) (by kernel_rfl) HS0.out (fun hHeld => ?_)
            refine wpAnyH_take (i := 0) (v := ?_) rfl (by kernel_rfl) (by kernel_rfl) (by kernel_rfl) (fun _ _ _ h => h) (Or.inl ⟨by rfl, ?_⟩) (by assumption) ?_
            rotate_left
            · (intro w hSw; (try dsimp only at hSw); first | (go_simp; done) | (go_simp; with_reducible rfl))
            try simp only [Act.put, qT, qZ, qS, qB, qY, qX]
            refine wpH_one (i := 1) (by kernel_rfl) rfl (fun K hK => ?_)
            go_simp
            refine (HH3.out _ HS0.out.2.2.out).mono ?_
            rintro e V3 ⟨rfl, f1'⟩
            have HF3 : Hid (Fr [] wr V3) := HS0.out.2.2.out.tr0 f1'
            obtain ⟨y0, y1, y3, z1, z3⟩ := HC.out V3 HF3.out
            clear f1' HS0 hHeld
            try go_wp2_with fail
            refine hK.out _ _ ⟨y0, y1, HF3⟩ (fun hHeld => ?_)
            clear hK K
            try simp only [Act.put, qT, qZ, qS, qB, qY, qX]
            refine wpAnyH_take (i := 2) (v := .bool true) rfl (by kernel_rfl) (by kernel_rfl) (by kernel_rfl) (fun _ _ _ h => h) (Or.inl ⟨by rfl, ?_⟩) (by assumption) ?_
            · (intro w hSw; (try dsimp only at hSw); first | (go_simp; done) | (go_simp; with_reducible rfl))
            try simp only [Act.put, qT, qZ, qS, qB, qY, qX]
            refine wpAnyH_take (i := 3) (v := ?_) rfl (by kernel_rfl) (by kernel_rfl) (by kernel_rfl) (fun _ _ _ h => h) (Or.inl ⟨by rfl, ?_⟩) (by assumption) ?_
            rotate_left
            · (intro w hSw; (try dsimp only at hSw); first | (go_simp; done) | (go_simp; with_reducible rfl))
            try simp only [Act.put, qT, qZ, qS, qB, qY, qX]
            refine wpAnyH_take (i := 4) (v := ?_) rfl (by kernel_rfl) (by kernel_rfl) (by kernel_rfl) (fun _ _ _ h => h) (Or.inl ⟨by rfl, ?_⟩) (by assumption) ?_
            rotate_left
            · (intro w hSw; (try dsimp only at hSw); first | (go_simp; done) | (go_simp; with_reducible rfl))
            try simp only [Act.put, qT, qZ, qS, qB, qY, qX]
            refine wpAnyH_take (i := 5) (v := ?_) rfl (by kernel_rfl) (by kernel_rfl) (by kernel_rfl) (fun _ _ _ h => h) (Or.inl ⟨by rfl, ?_⟩) (by assumption) ?_
            rotate_left
            · (intro w hSw; (try dsimp only at hSw); first | (go_simp; done) | (go_simp; with_reducible rfl))
            try simp only [Act.put, qT, qZ, qS, qB, qY, qX]
            refine wpAnyH_take (i := 6) (v := ?_) rfl (by kernel_rfl) (by kernel_rfl) (by kernel_rfl) (fun _ _ _ h => h) (Or.inl ⟨by rfl, ?_⟩) (by assumption) ?_
            rotate_left
            · (intro w hSw; (try dsimp only at hSw); first | (go_simp; done) | (go_simp; with_reducible rfl))
            try simp only [Act.put, qT, qZ, qS, qB, qY, qX]
            refine wpAnyH_take (i := 7) (v := ?_) rfl (by kernel_rfl) (by kernel_rfl) (by kernel_rfl) (fun _ _ _ h => h) (Or.inl ⟨by rfl, ?_⟩) (by assumption) ?_
            rotate_left
            · (intro w hSw; (try dsimp only at hSw); first | (go_simp; done) | (go_simp; with_reducible rfl))
            try simp only [Act.put, qT, qZ, qS, qB, qY, qX]
            refine wpAnyH_take (i := 8) (v := ?_) rfl (by kernel_rfl) (by kernel_rfl) (by kernel_rfl) (fun _ _ _ h => h) (Or.inl ⟨by rfl, ?_⟩) (by assumption) ?_
            rotate_left
            · (intro w hSw; (try dsimp only at hSw); first | (go_simp; done) | (go_simp; with_reducible rfl))
            try simp only [Act.put, qT, qZ, qS, qB, qY, qX]
            refine wpAnyH_take (i := 9) (v := ?_) rfl (by kernel_rfl) (by kernel_rfl) (by kernel_rfl) (fun _ _ _ h => h) (Or.inl ⟨by rfl, ?_⟩) (by assumption) ?_
            rotate_left
            · (intro w hSw; (try dsimp only at hSw); first | (go_simp; done) | (go_simp; with_reducible rfl))
            try simp only [Act.put, qT, qZ, qS, qB, qY, qX]
            refine wpAnyH_take (i := 10) (v := ?_) rfl (by kernel_rfl) (by kernel_rfl) (by kernel_rfl) (fun _ _ _ h => h) (Or.inl ⟨by rfl, ?_⟩) (by assumption) ?_
            rotate_left
            · (intro w hSw; (try dsimp only at hSw); first | (go_simp; done) | (go_simp; with_reducible rfl))
            try simp only [Act.put, qT, qZ, qS, qB, qY, qX]
            refine wpAnyH_take (i := 11) (v := ?_) rfl (by kernel_rfl) (by kernel_rfl) (by kernel_rfl) (fun _ _ _ h => h) (Or.inl ⟨by rfl, ?_⟩) (by assumption) ?_
            rotate_left
            · (intro w hSw; (try dsimp only at hSw); first | (go_simp; done) | (go_simp; with_reducible rfl))
            try simp only [Act.put, qT, qZ, qS, qB, qY, qX]
            refine wpAnyH_take (i := 12) (v := ?_) rfl (by kernel_rfl) (by kernel_rfl) (by kernel_rfl) (fun _ _ _ h => h) (Or.inl ⟨by rfl, ?_⟩) (by assumption) ?_
            rotate_left
            · (intro w hSw; (try dsimp only at hSw); first | (go_simp; done) | (go_simp; with_reducible rfl))
            try simp only [Act.put, qT, qZ, qS, qB, qY, qX]
            refine wpAnyH_take (i := 13) (v := .bool true) rfl (by kernel_rfl) (by kernel_rfl) (by kernel_rfl) (fun _ _ _ h => h) (Or.inl ⟨by rfl, ?_⟩) (by assumption) ?_
            · (intro w hSw; (try dsimp only at hSw); first | (go_simp; done) | (go_simp; with_reducible rfl))
            try simp only [Act.put, qT, qZ, qS, qB, qY, qX]
            refine wpAnyH_take (i := 14) (v := .bool true) rfl (by kernel_rfl) (by kernel_rfl) (by kernel_rfl) (fun _ _ _ h => h) (Or.inl ⟨by rfl, ?_⟩) (by assumption) ?_
            · (intro w hSw; (try dsimp only at hSw); first | (go_simp; done) | (go_simp; with_reducible rfl))
            try simp only [Act.put, qT, qZ, qS, qB, qY, qX]
            refine wpAnyH_done (by kernel_rfl) ?_ _
            clear hHeld
            clear y0 y1 y3 z1 z3
            go_wp2_with fail
            have hbV := HQB.out (V3).drew ((HF3.out).tr0 (Fr.drew [] _))
            obtain ⟨p', c', w', hr2, u1, u0, uz, hQ⟩ := QT_push hrow hf hal HKa.out hlt (((HF3.out).tr0 (Fr.drew [] _)).mono (by simp)) hbV bb
            have HR2 := mkHid hr2
            have HQT := mkHid (hQ k2 HLt.out.1 HLt.out.2 (fun e => by cases e) (fun _ => HStep.out))
            have HU : Hid (w'.cell? ⟨r, 0, none⟩ = some (.string (bA S)) ∧ w'.cell? ⟨r, 1, none⟩ = some (.int .i64 (k : Int))) := ⟨u0, u1⟩
            have HV0 : Hid (∀ o, (((V3).drew).alloc o).cell? ⟨r, 0, none⟩ = some (.string (bA S)) ∧ (((V3).drew).alloc o).cell? ⟨r, 1, none⟩ = some (.int .i64 (k : Int))) := fun o => ⟨(HC.out _ (((HF3.out).tr0 (Fr.drew [] _)).al o)).1, (HC.out _ (((HF3.out).tr0 (Fr.drew [] _)).al o)).2.1⟩
            have HS0 : Hid (((V3).drew).cell? ⟨r, 0, none⟩ = some (.string (bA S)) ∧ ((V3).drew).cell? ⟨r, 1, none⟩ = some (.int .i64 (k : Int))) := ⟨hbV.cl 0, hbV.cl 1⟩
            clear hr2 hQ hbV hrow hf
            refine wp_region_last (L := 13) (S := fun V => V.cell? ⟨r, 0, none⟩ = some (.string (bA S)) ∧ V.cell? ⟨r, 1, none⟩ = some (.int .i64 (k : Int))) (by kernel_rfl) HS0.out (fun hHeld => ?_)
            refine wpLast_take (i := 0) (v := ?_) rfl (by kernel_rfl) (by kernel_rfl) (by kernel_rfl) (by decide) (by kernel_rfl) (fun _ _ _ h => h) (Or.inl ⟨by rfl, ?_⟩) (by assumption) ?_
            rotate_left
            · (intro w hSw; (try dsimp only at hSw); first | (go_simp; done) | (go_simp; with_reducible rfl))
            try simp only [Act.put, qT, qZ, qS, qB, qY, qX]
            refine wpLast_take (i := 1) (v := ?_) rfl (by kernel_rfl) (by kernel_rfl) (by kernel_rfl) (by decide) (by kernel_rfl) (fun _ _ _ h => h) (Or.inl ⟨by rfl, ?_⟩) (by assumption) ?_
            rotate_left
            · (intro w hSw; (try dsimp only at hSw); first | (go_simp; done) | (go_simp; with_reducible rfl))
            try simp only [Act.put, qT, qZ, qS, qB, qY, qX]
            refine wpLast_take (i := 2) (v := ?_) rfl (by kernel_rfl) (by kernel_rfl) (by kernel_rfl) (by decide) (by kernel_rfl) (fun _ _ _ h => h) (Or.inl ⟨by rfl, ?_⟩) (by assumption) ?_
            rotate_left
            · (intro w hSw; (try dsimp only at hSw); first | (go_simp; done) | (go_simp; with_reducible rfl))
            try simp only [Act.put, qT, qZ, qS, qB, qY, qX]
            refine wpLast_take (i := 3) (v := ?_) rfl (by kernel_rfl) (by kernel_rfl) (by kernel_rfl) (by decide) (by kernel_rfl) (fun _ _ _ h => h) (Or.inl ⟨by rfl, ?_⟩) (by assumption) ?_
            rotate_left
            · (intro w hSw; (try dsimp only at hSw); first | (go_simp; done) | (go_simp; with_reducible rfl))
            try simp only [Act.put, qT, qZ, qS, qB, qY, qX]
            refine wpLast_take (i := 4) (v := ?_) rfl (by kernel_rfl) (by kernel_rfl) (by kernel_rfl) (by decide) (by kernel_rfl) (fun _ _ _ h => h) (Or.inl ⟨by rfl, ?_⟩) (by assumption) ?_
            rotate_left
            · (intro w hSw; (try dsimp only at hSw); first | (go_simp; done) | (go_simp; with_reducible rfl))
            try simp only [Act.put, qT, qZ, qS, qB, qY, qX]
            refine wpLast_take (i := 5) (v := ?_) rfl (by kernel_rfl) (by kernel_rfl) (by kernel_rfl) (by decide) (by kernel_rfl) (fun _ _ _ h => h) (Or.inl ⟨by rfl, ?_⟩) (by assumption) ?_
            rotate_left
            · (intro w hSw; (try dsimp only at hSw); first | (go_simp; done) | (go_simp; with_reducible rfl))
            try simp only [Act.put, qT, qZ, qS, qB, qY, qX]
            refine wpLast_take (i := 6) (v := ?_) rfl (by kernel_rfl) (by kernel_rfl) (by kernel_rfl) (by decide) (by kernel_rfl) (fun _ _ _ h => h) (Or.inl ⟨by rfl, ?_⟩) (by assumption) ?_
            rotate_left
            · (intro w hSw; (try dsimp only at hSw); first | (go_simp; done) | (go_simp; with_reducible rfl))
            try simp only [Act.put, qT, qZ, qS, qB, qY, qX]
            refine wpLast_take (i := 7) (v := ?_) rfl (by kernel_rfl) (by kernel_rfl) (by kernel_rfl) (by decide) (by kernel_rfl) (fun _ _ _ h => h) (Or.inl ⟨by rfl, ?_⟩) (by assumption) ?_
            rotate_left
            · (intro w hSw; (try dsimp only at hSw); first | (go_simp; done) | (go_simp; with_reducible rfl))
            try simp only [Act.put, qT, qZ, qS, qB, qY, qX]
            refine wpLast_take (i := 8) (v := ?_) rfl (by kernel_rfl) (by kernel_rfl) (by kernel_rfl) (by decide) (by kernel_rfl) (fun _ _ _ h => h) (Or.inl ⟨by rfl, ?_⟩) (by assumption) ?_
            rotate_left
            · (intro w hSw; (try dsimp only at hSw); first | (go_simp; done) | (go_simp; with_reducible rfl))
            try simp only [Act.put, qT, qZ, qS, qB, qY, qX]
            refine wpLast_take (i := 9) (v := ?_) rfl (by kernel_rfl) (by kernel_rfl) (by kernel_rfl) (by decide) (by kernel_rfl) (fun _ _ _ h => h) (Or.inl ⟨by rfl, ?_⟩) (by assumption) ?_
            rotate_left
            · (intro w hSw; (try dsimp only at hSw); first | (go_simp; done) | (go_simp; with_reducible rfl))
            try simp only [Act.put, qT, qZ, qS, qB, qY, qX]
            refine wpLast_take (i := 10) (v := ?_) rfl (by kernel_rfl) (by kernel_rfl) (by kernel_rfl) (by decide) (by kernel_rfl) (fun _ _ _ h => h) (Or.inl ⟨by rfl, ?_⟩) (by assumption) ?_
            rotate_left
            · (intro w hSw; (try dsimp only at hSw); first | (go_simp; done) | (go_simp; with_reducible rfl))
            try simp only [Act.put, qT, qZ, qS, qB, qY, qX]
            refine wpLast_one (i := 11) (by kernel_rfl) rfl (by decide) (fun K hK => ?_)
            go_simp
            refine hK.out _ _ (HV0.out _) (fun hHeld => ?_)
            clear hK K
            try simp only [Act.put, qT, qZ, qS, qB, qY, qX]
            refine wpLast_one (i := 12) (by kernel_rfl) rfl (by decide) (fun K hK => ?_)
            refine step_append_run rfl (.tmp 101) (.tmp 112) 57 57 rfl (.slice p acc.length c) (.slice (some ⟨((V3).drew).heap.size, 0, none⟩) 1 1) (by simp [Act.eval]) (by simp [Act.eval]) _ _ HR2.out ?_
            refine hK.out _ _ HU.out (fun hHeld => ?_)
            clear hK K
            try simp only [Act.put, qT, qZ, qS, qB, qY, qX]
            refine wpLast_end (by kernel_rfl) rfl (by kernel_rfl) (fun K hK => ?_)
            go_simp
            refine hK.out _ _ ?_
            clear hK K
            try simp only [Act.put, qT, qZ, qS, qB, qY, qX]
            clear HS0 HV0
            go_wp2_with fail
            go_roundw
            case rel => exact HQT.out.1
            case measure => rw [hm0]; have := HQT.out.2; have := HLt.out; omega
          | false =>
            have HH2 := HH [92, 120] false (by decide) hb12
            clear hq h39 HKK HTb0 HTx HH hb hfl hn1 h1 h2 hdr g1 hb12 hk1' hk2 hk4 hwk hdl hln hle
            go_wp2_with fail
            refine (H1.out _ (Fr.refl [] wr)).mono ?_
            rintro e V1 ⟨rfl, f39⟩
            have HF1 := mkHid f39
            clear f39 H1
            go_wp2_with fail
            have HS0 : Hid ((V1).drew.cell? ⟨r, 0, none⟩ = some (.string (bA S)) ∧ (V1).drew.cell? ⟨r, 1, none⟩ = some (.int .i64 (k : Int)) ∧ Hid (Fr [] wr (V1).drew)) := ⟨(HC.out _ ((HF1.out).tr0 (Fr.drew [] _))).1, (HC.out _ ((HF1.out).tr0 (Fr.drew [] _))).2.1, (HF1.out).tr0 (Fr.drew [] _)⟩
            refine wp_region_h (S := fun V => V.cell? ⟨r, 0, none⟩ = some (.string (bA S)) ∧ V.cell? ⟨r, 1, none⟩ = some (.int .i64 (k : Int)) ∧ Hid (Fr [] wr V)) (by kernel_rfl) HS0.out (fun hHeld => ?_)
            refine wpAnyH_take (i := 0) (v := ?_) rfl (by kernel_rfl) (by kernel_rfl) (by kernel_rfl) (fun _ _ _ h => h) (Or.inl ⟨by rfl, ?_⟩) (by assumption) ?_
            rotate_left
            · (intro w hSw; (try dsimp only at hSw); first | (go_simp; done) | (go_simp; with_reducible rfl))
            try simp only [Act.put, qT, qZ, qS, qB, qY, qX]
            refine wpH_one (i := 1) (by kernel_rfl) rfl (fun K hK => ?_)
            go_simp
            refine (HH2.out _ HS0.out.2.2.out).mono ?_
            rintro e V2 ⟨rfl, f1'⟩
            have HF2 : Hid (Fr [] wr V2) := HS0.out.2.2.out.tr0 f1'
            obtain ⟨y0, y1, y3, z1, z3⟩ := HC.out V2 HF2.out
            clear f1' HS0 hHeld
            try go_wp2_with fail
            refine hK.out _ _ ⟨y0, y1, HF2⟩ (fun hHeld => ?_)
            clear hK K
            try simp only [Act.put, qT, qZ, qS, qB, qY, qX]
            refine wpAnyH_take (i := 2) (v := .bool false) rfl (by kernel_rfl) (by kernel_rfl) (by kernel_rfl) (fun _ _ _ h => h) (Or.inl ⟨by rfl, ?_⟩) (by assumption) ?_
            · (intro w hSw; (try dsimp only at hSw); first | (go_simp; done) | (go_simp; with_reducible rfl))
            try simp only [Act.put, qT, qZ, qS, qB, qY, qX]
            refine wpAnyH_take (i := 3) (v := undef) rfl (by kernel_rfl) (by kernel_rfl) (by kernel_rfl) (fun _ _ _ h => h) (Or.inr ⟨by rfl, rfl⟩) (by assumption) ?_
            try simp only [Act.put, qT, qZ, qS, qB, qY, qX]
            refine wpAnyH_take (i := 4) (v := undef) rfl (by kernel_rfl) (by kernel_rfl) (by kernel_rfl) (fun _ _ _ h => h) (Or.inr ⟨by rfl, rfl⟩) (by assumption) ?_
            try simp only [Act.put, qT, qZ, qS, qB, qY, qX]
            refine wpAnyH_take (i := 5) (v := undef) rfl (by kernel_rfl) (by kernel_rfl) (by kernel_rfl) (fun _ _ _ h => h) (Or.inr ⟨by rfl, rfl⟩) (by assumption) ?_
            try simp only [Act.put, qT, qZ, qS, qB, qY, qX]
            refine wpAnyH_take (i := 6) (v := undef) rfl (by kernel_rfl) (by kernel_rfl) (by kernel_rfl) (fun _ _ _ h => h) (Or.inr ⟨by rfl, rfl⟩) (by assumption) ?_
            try simp only [Act.put, qT, qZ, qS, qB, qY, qX]
            refine wpAnyH_take (i := 7) (v := undef) rfl (by kernel_rfl) (by kernel_rfl) (by kernel_rfl) (fun _ _ _ h => h) (Or.inr ⟨by rfl, rfl⟩) (by assumption) ?_
            try simp only [Act.put, qT, qZ, qS, qB, qY, qX]
            refine wpAnyH_take (i := 8) (v := undef) rfl (by kernel_rfl) (by kernel_rfl) (by kernel_rfl) (fun _ _ _ h => h) (Or.inr ⟨by rfl, rfl⟩) (by assumption) ?_
            try simp only [Act.put, qT, qZ, qS, qB, qY, qX]
            refine wpAnyH_take (i := 9) (v := undef) rfl (by kernel_rfl) (by kernel_rfl) (by kernel_rfl) (fun _ _ _ h => h) (Or.inr ⟨by rfl, rfl⟩) (by assumption) ?_
            try simp only [Act.put, qT, qZ, qS, qB, qY, qX]
            refine wpAnyH_take (i := 10) (v := undef) rfl (by kernel_rfl) (by kernel_rfl) (by kernel_rfl) (fun _ _ _ h => h) (Or.inr ⟨by rfl, rfl⟩) (by assumption) ?_
            try simp only [Act.put, qT, qZ, qS, qB, qY, qX]
            refine wpAnyH_take (i := 11) (v := undef) rfl (by kernel_rfl) (by kernel_rfl) (by kernel_rfl) (fun _ _ _ h => h) (Or.inr ⟨by rfl, rfl⟩) (by assumption) ?_
            try simp only [Act.put, qT, qZ, qS, qB, qY, qX]
            refine wpAnyH_take (i := 12) (v := undef) rfl (by kernel_rfl) (by kernel_rfl) (by kernel_rfl) (fun _ _ _ h => h) (Or.inr ⟨by rfl, rfl⟩) (by assumption) ?_
            try simp only [Act.put, qT, qZ, qS, qB, qY, qX]
            refine wpAnyH_take (i := 13) (v := undef) rfl (by kernel_rfl) (by kernel_rfl) (by kernel_rfl) (fun _ _ _ h => h) (Or.inr ⟨by rfl, rfl⟩) (by assumption) ?_
            try simp only [Act.put, qT, qZ, qS, qB, qY, qX]
            refine wpAnyH_take (i := 14) (v := .bool false) rfl (by kernel_rfl) (by kernel_rfl) (by kernel_rfl) (fun _ _ _ h => h) (Or.inl ⟨by rfl, ?_⟩) (by assumption) ?_
            · (intro w hSw; (try dsimp only at hSw); first | (go_simp; done) | (go_simp; with_reducible rfl))
            try simp only [Act.put, qT, qZ, qS, qB, qY, qX]
            refine wpAnyH_done (by kernel_rfl) ?_ _
            clear hHeld
            clear y0 y1 y3 z1 z3
            go_wp2_with fail
            have HS0 : Hid ((V2).drew.cell? ⟨r, 0, none⟩ = some (.string (bA S)) ∧ (V2).drew.cell? ⟨r, 1, none⟩ = some (.int .i64 (k : Int)) ∧ Hid (Fr [] wr (V2).drew)) := ⟨(HC.out _ ((HF2.out).tr0 (Fr.drew [] _))).1, (HC.out _ ((HF2.out).tr0 (Fr.drew [] _))).2.1, (HF2.out).tr0 (Fr.drew [] _)⟩
            refine wp_region_h (S := fun V => V.cell? ⟨r, 0, none⟩ = some (.string (bA S)) ∧ V.cell? ⟨r, 1, none⟩ = some (.int .i64 (k : Int)) ∧ Hid (Fr [] wr V)) (by kernel_rfl) HS0.out (fun hHeld => ?_)
            refine wpAnyH_take (i := 0) (v := ?_) rfl (by kernel_rfl) (by kernel_rfl) (by kernel_rfl) (fun _ _ _ h => h) (Or.inl ⟨by rfl, ?_⟩) (by assumption) ?_
            rotate_left
            · (intro w hSw; (try dsimp only at hSw); first | (go_simp; done) | (go_simp; with_reducible rfl))
            try simp only [Act.put, qT, qZ, qS, qB, qY, qX]
            refine wpH_one (i := 1) (by kernel_rfl) rfl (fun K hK => ?_)
            go_simp
            refine (HH3.out _ HS0.out.2.2.out).mono ?_
            rintro e V3 ⟨rfl, f1'⟩
            have HF3 : Hid (Fr [] wr V3) := HS0.out.2.2.out.tr0 f1'
            obtain ⟨y0, y1, y3, z1, z3⟩ := HC.out V3 HF3.out
            clear f1' HS0 hHeld
            try go_wp2_with fail
            refine hK.out _ _ ⟨y0, y1, HF3⟩ (fun hHeld => ?_)
            clear hK K
            try simp only [Act.put, qT, qZ, qS, qB, qY, qX]
            refine wpAnyH_take (i := 2) (v := .bool true) rfl (by kernel_rfl) (by kernel_rfl) (by kernel_rfl) (fun _ _ _ h => h) (Or.inl ⟨by rfl, ?_⟩) (by assumption) ?_
            · (intro w hSw; (try dsimp only at hSw); first | (go_simp; done) | (go_simp; with_reducible rfl))
            try simp only [Act.put, qT, qZ, qS, qB, qY, qX]
            refine wpAnyH_take (i := 3) (v := ?_) rfl (by kernel_rfl) (by kernel_rfl) (by kernel_rfl) (fun _ _ _ h => h) (Or.inl ⟨by rfl, ?_⟩) (by assumption) ?_
            rotate_left
            · (intro w hSw; (try dsimp only at hSw); first | (go_simp; done) | (go_simp; with_reducible rfl))
            try simp only [Act.put, qT, qZ, qS, qB, qY, qX]
            refine wpAnyH_take (i := 4) (v := ?_) rfl (by kernel_rfl) (by kernel_rfl) (by kernel_rfl) (fun _ _ _ h => h) (Or.inl ⟨by rfl, ?_⟩) (by assumption) ?_
            rotate_left
            · (intro w hSw; (try dsimp only at hSw); first | (go_simp; done) | (go_simp; with_reducible rfl))
            try simp only [Act.put, qT, qZ, qS, qB, qY, qX]
            refine wpAnyH_take (i := 5) (v := ?_) rfl (by kernel_rfl) (by kernel_rfl) (by kernel_rfl) (fun _ _ _ h => h) (Or.inl ⟨by rfl, ?_⟩) (by assumption) ?_
            rotate_left
            · (intro w hSw; (try dsimp only at hSw); first | (go_simp; done) | (go_simp; with_reducible rfl))
            try simp only [Act.put, qT, qZ, qS, qB, qY, qX]
            refine wpAnyH_take (i := 6) (v := ?_) rfl (by kernel_rfl) (by kernel_rfl) (by kernel_rfl) (fun _ _ _ h => h) (Or.inl ⟨by rfl, ?_⟩) (by assumption) ?_
            rotate_left
            · (intro w hSw; (try dsimp only at hSw); first | (go_simp; done) | (go_simp; with_reducible rfl))
            try simp only [Act.put, qT, qZ, qS, qB, qY, qX]
            refine wpAnyH_take (i := 7) (v := ?_) rfl (by kernel_rfl) (by kernel_rfl) (by kernel_rfl) (fun _ _ _ h => h) (Or.inl ⟨by rfl, ?_⟩) (by assumption) ?_
            rotate_left
            · (intro w hSw; (try dsimp only at hSw); first | (go_simp; done) | (go_simp; with_reducible rfl))
            try simp only [Act.put, qT, qZ, qS, qB, qY, qX]
            refine wpAnyH_take (i := 8) (v := ?_) rfl (by kernel_rfl) (by kernel_rfl) (by kernel_rfl) (fun _ _ _ h => h) (Or.inl ⟨by rfl, ?_⟩) (by assumption) ?_
            rotate_left
            · (intro w hSw; (try dsimp only at hSw); first | (go_simp; done) | (go_simp; with_reducible rfl))
            try simp only [Act.put, qT, qZ, qS, qB, qY, qX]
            refine wpAnyH_take (i := 9) (v := ?_) rfl (by kernel_rfl) (by kernel_rfl) (by kernel_rfl) (fun _ _ _ h => h) (Or.inl ⟨by rfl, ?_⟩) (by assumption) ?_
            rotate_left
            · (intro w hSw; (try dsimp only at hSw); first | (go_simp; done) | (go_simp; with_reducible rfl))
            try simp only [Act.put, qT, qZ, qS, qB, qY, qX]
            refine wpAnyH_take (i := 10) (v := ?_) rfl (by kernel_rfl) (by kernel_rfl) (by kernel_rfl) (fun _ _ _ h => h) (Or.inl ⟨by rfl, ?_⟩) (by assumption) ?_
            rotate_left
            · (intro w hSw; (try dsimp only at hSw); first | (go_simp; done) | (go_simp; with_reducible rfl))
            try simp only [Act.put, qT, qZ, qS, qB, qY, qX]
            refine wpAnyH_take (i := 11) (v := ?_) rfl (by kernel_rfl) (by kernel_rfl) (by kernel_rfl) (fun _ _ _ h => h) (Or.inl ⟨by rfl, ?_⟩) (by assumption) ?_
            rotate_left
            · (intro w hSw; (try dsimp only at hSw); first | (go_simp; done) | (go_simp; with_reducible rfl))
            try simp only [Act.put, qT, qZ, qS, qB, qY, qX]
            refine wpAnyH_take (i := 12) (v := ?_) rfl (by kernel_rfl) (by kernel_rfl) (by kernel_rfl) (fun _ _ _ h => h) (Or.inl ⟨by rfl, ?_⟩) (by assumption) ?_
            rotate_left
            · (intro w hSw; (try dsimp only at hSw); first | (go_simp; done) | (go_simp; with_reducible rfl))
            try simp only [Act.put, qT, qZ, qS, qB, qY, qX]
            refine wpAnyH_take (i := 13) (v := .bool true) rfl (by kernel_rfl) (by kernel_rfl) (by kernel_rfl) (fun _ _ _ h => h) (Or.inl ⟨by rfl, ?_⟩) (by assumption) ?_
            · (intro w hSw; (try dsimp only at hSw); first | (go_simp; done) | (go_simp; with_reducible rfl))
            try simp only [Act.put, qT, qZ, qS, qB, qY, qX]
            refine wpAnyH_take (i := 14) (v := .bool true) rfl (by kernel_rfl) (by kernel_rfl) (by kernel_rfl) (fun _ _ _ h => h) (Or.inl ⟨by rfl, ?_⟩) (by assumption) ?_
            · (intro w hSw; (try dsimp only at hSw); first | (go_simp; done) | (go_simp; with_reducible rfl))
            try simp only [Act.put, qT, qZ, qS, qB, qY, qX]
            refine wpAnyH_done (by kernel_rfl) ?_ _
            clear hHeld
            clear y0 y1 y3 z1 z3
            go_wp2_with fail
            have hbV := HQB.out (V3).drew ((HF3.out).tr0 (Fr.drew [] _))
            obtain ⟨p', c', w', hr2, u1, u0, uz, hQ⟩ := QT_push hrow hf hal HKa.out hlt (((HF3.out).tr0 (Fr.drew [] _)).mono (by simp)) hbV bb
            have HR2 := mkHid hr2
            have HQT := mkHid (hQ k2 HLt.out.1 HLt.out.2 (fun e => by cases e) (fun _ => HStep.out))
            have HU : Hid (w'.cell? ⟨r, 0, none⟩ = some (.string (bA S)) ∧ w'.cell? ⟨r, 1, none⟩ = some (.int .i64 (k : Int))) := ⟨u0, u1⟩
            have HV0 : Hid (∀ o, (((V3).drew).alloc o).cell? ⟨r, 0, none⟩ = some (.string (bA S)) ∧ (((V3).drew).alloc o).cell? ⟨r, 1, none⟩ = some (.int .i64 (k : Int))) := fun o => ⟨(HC.out _ (((HF3.out).tr0 (Fr.drew [] _)).al o)).1, (HC.out _ (((HF3.out).tr0 (Fr.drew [] _)).al o)).2.1⟩
            have HS0 : Hid (((V3).drew).cell? ⟨r, 0, none⟩ = some (.string (bA S)) ∧ ((V3).drew).cell? ⟨r, 1, none⟩ = some (.int .i64 (k : Int))) := ⟨hbV.cl 0, hbV.cl 1⟩
            clear hr2 hQ hbV hrow hf
            refine wp_region_last (L := 13) (S := fun V => V.cell? ⟨r, 0, none⟩ = some (.string (bA S)) ∧ V.cell? ⟨r, 1, none⟩ = some (.int .i64 (k : Int))) (by kernel_rfl) HS0.out (fun hHeld => ?_)
            refine wpLast_take (i := 0) (v := ?_) rfl (by kernel_rfl) (by kernel_rfl) (by kernel_rfl) (by decide) (by kernel_rfl) (fun _ _ _ h => h) (Or.inl ⟨by rfl, ?_⟩) (by assumption) ?_
            rotate_left
            · (intro w hSw; (try dsimp only at hSw); first | (go_simp; done) | (go_simp; with_reducible rfl))
            try simp only [Act.put, qT, qZ, qS, qB, qY, qX]
            refine wpLast_take (i := 1) (v := ?_) rfl (by kernel_rfl) (by kernel_rfl) (by kernel_rfl) (by decide) (by kernel_rfl) (fun _ _ _ h => h) (Or.inl ⟨by rfl, ?_⟩) (by assumption) ?_
            rotate_left
            · (intro w hSw; (try dsimp only at hSw); first | (go_simp; done) | (go_simp; with_reducible rfl))
            try simp only [Act.put, qT, qZ, qS, qB, qY, qX]
            refine wpLast_take (i := 2) (v := ?_) rfl (by kernel_rfl) (by kernel_rfl) (by kernel_rfl) (by decide) (by kernel_rfl) (fun _ _ _ h => h) (Or.inl ⟨by rfl, ?_⟩) (by assumption) ?_
            rotate_left
            · (intro w hSw; (try dsimp only at hSw); first | (go_simp; done) | (go_simp; with_reducible rfl))
            try simp only [Act.put, qT, qZ, qS, qB, qY, qX]
            refine wpLast_take (i := 3) (v := ?_) rfl (by kernel_rfl) (by kernel_rfl) (by kernel_rfl) (by decide) (by kernel_rfl) (fun _ _ _ h => h) (Or.inl ⟨by rfl, ?_⟩) (by assumption) ?_
            rotate_left
            · (intro w hSw; (try dsimp only at hSw); first | (go_simp; done) | (go_simp; with_reducible rfl))
            try simp only [Act.put, qT, qZ, qS, qB, qY, qX]
            refine wpLast_take (i := 4) (v := ?_) rfl (by kernel_rfl) (by kernel_rfl) (by kernel_rfl) (by decide) (by kernel_rfl) (fun _ _ _ h => h) (Or.inl ⟨by rfl, ?_⟩) (by assumption) ?_
            rotate_left
            · (intro w hSw; (try dsimp only at hSw); first | (go_simp; done) | (go_simp; with_reducible rfl))
            try simp only [Act.put, qT, qZ, qS, qB, qY, qX]
            refine wpLast_take (i := 5) (v := ?_) rfl (by kernel_rfl) (by kernel_rfl) (by kernel_rfl) (by decide) (by kernel_rfl) (fun _ _ _ h => h) (Or.inl ⟨by rfl, ?_⟩) (by assumption) ?_
            rotate_left
            · (intro w hSw; (try dsimp only at hSw); first | (go_simp; done) | (go_simp; with_reducible rfl))
            try simp only [Act.put, qT, qZ, qS, qB, qY, qX]
            refine wpLast_take (i := 6) (v := ?_) rfl (by kernel_rfl) (by kernel_rfl) (by kernel_rfl) (by decide) (by kernel_rfl) (fun _ _ _ h => h) (Or.inl ⟨by rfl, ?_⟩) (by assumption) ?_
            rotate_left
            · (intro w hSw; (try dsimp only at hSw); first | (go_simp; done) | (go_simp; with_reducible rfl))
            try simp only [Act.put, qT, qZ, qS, qB, qY, qX]
            refine wpLast_take (i := 7) (v := ?_) rfl (by kernel_rfl) (by kernel_rfl) (by kernel_rfl) (by decide) (by kernel_rfl) (fun _ _ _ h => h) (Or.inl ⟨by rfl, ?_⟩) (by assumption) ?_
            rotate_left
            · (intro w hSw; (try dsimp only at hSw); first | (go_simp; done) | (go_simp; with_reducible rfl))
            try simp only [Act.put, qT, qZ, qS, qB, qY, qX]
            refine wpLast_take (i := 8) (v := ?_) rfl (by kernel_rfl) (by kernel_rfl) (by kernel_rfl) (by decide) (by kernel_rfl) (fun _ _ _ h => h) (Or.inl ⟨by rfl, ?_⟩) (by assumption) ?_
            rotate_left
            · (intro w hSw; (try dsimp only at hSw); first | (go_simp; done) | (go_simp; with_reducible rfl))
            try simp only [Act.put, qT, qZ, qS, qB, qY, qX]
            refine wpLast_take (i := 9) (v := ?_) rfl (by kernel_rfl) (by kernel_rfl) (by kernel_rfl) (by decide) (by kernel_rfl) (fun _ _ _ h => h) (Or.inl ⟨by rfl, ?_⟩) (by assumption) ?_
            rotate_left
            · (intro w hSw; (try dsimp only at hSw); first | (go_simp; done) | (go_simp; with_reducible rfl))
            try simp only [Act.put, qT, qZ, qS, qB, qY, qX]
            refine wpLast_take (i := 10) (v := ?_) rfl (by kernel_rfl) (by kernel_rfl) (by kernel_rfl) (by decide) (by kernel_rfl) (fun _ _ _ h => h) (Or.inl ⟨by rfl, ?_⟩) (by assumption) ?_
            rotate_left
            · (intro w hSw; (try dsimp only at hSw); first | (go_simp; done) | (go_simp; with_reducible rfl))
            try simp only [Act.put, qT, qZ, qS, qB, qY, qX]
            refine wpLast_one (i := 11) (by kernel_rfl) rfl (by decide) (fun K hK => ?_)
            go_simp
            refine hK.out _ _ (HV0.out _) (fun hHeld => ?_)
            clear hK K
            try simp only [Act.put, qT, qZ, qS, qB, qY, qX]
            refine wpLast_one (i := 12) (by kernel_rfl) rfl (by decide) (fun K hK => ?_)
            refine step_append_run rfl (.tmp 101) (.tmp 112) 57 57 rfl (.slice p acc.length c) (.slice (some ⟨((V3).drew).heap.size, 0, none⟩) 1 1) (by simp [Act.eval]) (by simp [Act.eval]) _ _ HR2.out ?_
            refine hK.out _ _ HU.out (fun hHeld => ?_)
            clear hK K
            try simp only [Act.put, qT, qZ, qS, qB, qY, qX]
            refine wpLast_end (by kernel_rfl) rfl (by kernel_rfl) (fun K hK => ?_)
            go_simp
            refine hK.out _ _ ?_
            clear hK K
            try simp only [Act.put, qT, qZ, qS, qB, qY, qX]
            clear HS0 HV0
            go_wp2_with fail
            go_roundw
            case rel => exact HQT.out.1
            case measure => rw [hm0]; have := HQT.out.2; have := HLt.out; omega
        have hn2 : ∀ b1 y, tokP [92] (S.drop k) ≠ some (b1 :: y) := fun b1 y e => h2 ⟨b1, y, e⟩
        have hst := step_c hn1 hn2
        have hb12 : hasQ S k false [92, 120] = false := by
          cases ht : tokP [92, 120] (S.drop k) with
          | none => exact has_no ht
          | some z => exact absurd (by rw [tok_some ht]; exact tok_app [92] (120 :: z)) (hn2 120 z)
        have HH2 := HH [92, 120] false (by decide) hb12
        cases hx : S.drop k with
        | nil =>
          rw [hx] at hst hdl
          simp only [List.length_nil] at hdl
          have HNone : Hid (R = none) := by
            rw [hx, hst] at hq
            exact hq.symm
          have HH3 := HH [92] false (by decide) (has_no (by rw [hx]; exact tok_nil))
          have hd1 : decide ((k : Int) < (S.length : Int)) = false := decide_eq_false (by omega)
          have hd1' : ¬ (k : Int) < (S.length : Int) := by omega
          clear hq h39 HKK HTb0 HTx HH hb hfl hn1 h1 h2 hn2 hst hx hb12 hwk hdl hle
          go_wp2_with fail
          refine (H1.out _ (Fr.refl [] wr)).mono ?_
          rintro e V1 ⟨rfl, f39⟩
          have HF1 := mkHid f39
          clear f39 H1
          go_wp2_with fail
          have HS0 : Hid ((V1).drew.cell? ⟨r, 0, none⟩ = some (.string (bA S)) ∧ (V1).drew.cell? ⟨r, 1, none⟩ = some (.int .i64 (k : Int)) ∧ Hid (Fr [] wr (V1).drew)) := ⟨(HC.out _ ((HF1.out).tr0 (Fr.drew [] _))).1, (HC.out _ ((HF1.out).tr0 (Fr.drew [] _))).2.1, (HF1.out).tr0 (Fr.drew [] _)⟩
          refine wp_region_h (S := fun V => V.cell? ⟨r, 0, none⟩ = some (.string (bA S)) ∧ V.cell? ⟨r, 1, none⟩ = some (.int .i64 (k : Int)) ∧ Hid (Fr [] wr V)) (by kernel_rfl) HS0.out (fun hHeld => ?_)
          refine wpAnyH_take (i := 0) (v := ?_) rfl (by kernel_rfl) (by kernel_rfl) (by kernel_rfl) (fun _ _ _ h => h) (Or.inl ⟨by rfl, ?_⟩) (by assumption) ?_
          rotate_left
          · (intro w hSw; (try dsimp only at hSw); first | (go_simp; done) | (go_simp; with_reducible rfl))
          try simp only [Act.put, qT, qZ, qS, qB, qY, qX]
          refine wpH_one (i := 1) (by kernel_rfl) rfl (fun K hK => ?_)
          go_simp
          refine (HH2.out _ HS0.out.2.2.out).mono ?_
          rintro e V2 ⟨rfl, f1'⟩
          have HF2 : Hid (Fr [] wr V2) := HS0.out.2.2.out.tr0 f1'
          obtain ⟨y0, y1, y3, z1, z3⟩ := HC.out V2 HF2.out
          clear f1' HS0 hHeld
          try go_wp2_with fail
          refine hK.out _ _ ⟨y0, y1, HF2⟩ (fun hHeld => ?_)
          clear hK K
          try simp only [Act.put, qT, qZ, qS, qB, qY, qX]
          refine wpAnyH_take (i := 2) (v := .bool false) rfl (by kernel_rfl) (by kernel_rfl) (by kernel_rfl) (fun _ _ _ h => h) (Or.inl ⟨by rfl, ?_⟩) (by assumption) ?_
          · (intro w hSw; (try dsimp only at hSw); first | (go_simp; done) | (go_simp; with_reducible rfl))
          try simp only [Act.put, qT, qZ, qS, qB, qY, qX]
          refine wpAnyH_take (i := 3) (v := undef) rfl (by kernel_rfl) (by kernel_rfl) (by kernel_rfl) (fun _ _ _ h => h) (Or.inr ⟨by rfl, rfl⟩) (by assumption) ?_
          try simp only [Act.put, qT, qZ, qS, qB, qY, qX]
          refine wpAnyH_take (i := 4) (v := undef) rfl (by kernel_rfl) (by kernel_rfl) (by kernel_rfl) (fun _ _ _ h => h) (Or.inr ⟨by rfl, rfl⟩) (by assumption) ?_
          try simp only [Act.put, qT, qZ, qS, qB, qY, qX]
          refine wpAnyH_take (i := 5) (v := undef) rfl (by kernel_rfl) (by kernel_rfl) (by kernel_rfl) (fun _ _ _ h => h) (Or.inr ⟨by rfl, rfl⟩) (by assumption) ?_
          try simp only [Act.put, qT, qZ, qS, qB, qY, qX]
          refine wpAnyH_take (i := 6) (v := undef) rfl (by kernel_rfl) (by kernel_rfl) (by kernel_rfl) (fun _ _ _ h => h) (Or.inr ⟨by rfl, rfl⟩) (by assumption) ?_
          try simp only [Act.put, qT, qZ, qS, qB, qY, qX]
          refine wpAnyH_take (i := 7) (v := undef) rfl (by kernel_rfl) (by kernel_rfl) (by kernel_rfl) (fun _ _ _ h => h) (Or.inr ⟨by rfl, rfl⟩) (by assumption) ?_
          try simp only [Act.put, qT, qZ, qS, qB, qY, qX]
          refine wpAnyH_take (i := 8) (v := undef) rfl (by kernel_rfl) (by kernel_rfl) (by kernel_rfl) (fun _ _ _ h => h) (Or.inr ⟨by rfl, rfl⟩) (by assumption) ?_
          try simp only [Act.put, qT, qZ, qS, qB, qY, qX]
          refine wpAnyH_take (i := 9) (v := undef) rfl (by kernel_rfl) (by kernel_rfl) (by kernel_rfl) (fun _ _ _ h => h) (Or.inr ⟨by rfl, rfl⟩) (by assumption) ?_
          try simp only [Act.put, qT, qZ, qS, qB, qY, qX]
          refine wpAnyH_take (i := 10) (v := undef) rfl (by kernel_rfl) (by kernel_rfl) (by kernel_rfl) (fun _ _ _ h => h) (Or.inr ⟨by rfl, rfl⟩) (by assumption) ?_
          try simp only [Act.put, qT, qZ, qS, qB, qY, qX]
          refine wpAnyH_take (i := 11) (v := undef) rfl (by kernel_rfl) (by kernel_rfl) (by kernel_rfl) (fun _ _ _ h => h) (Or.inr ⟨by rfl, rfl⟩) (by assumption) ?_
          try simp only [Act.put, qT, qZ, qS, qB, qY, qX]
          refine wpAnyH_take (i := 12) (v := undef) rfl (by kernel_rfl) (by kernel_rfl) (by kernel_rfl) (fun _ _ _ h => h) (Or.inr ⟨by rfl, rfl⟩) (by assumption) ?_
          try simp only [Act.put, qT, qZ, qS, qB, qY, qX]
          refine wpAnyH_take (i := 13) (v := undef) rfl (by kernel_rfl) (by kernel_rfl) (by kernel_rfl) (fun _ _ _ h => h) (Or.inr ⟨by rfl, rfl⟩) (by assumption) ?_
          try simp only [Act.put, qT, qZ, qS, qB, qY, qX]
          refine wpAnyH_take (i := 14) (v := .bool false) rfl (by kernel_rfl) (by kernel_rfl) (by kernel_rfl) (fun _ _ _ h => h) (Or.inl ⟨by rfl, ?_⟩) (by assumption) ?_
          · (intro w hSw; (try dsimp only at hSw); first | (go_simp; done) | (go_simp; with_reducible rfl))
          try simp only [Act.put, qT, qZ, qS, qB, qY, qX]
          refine wpAnyH_done (by kernel_rfl) ?_ _
          clear hHeld
          clear y0 y1 y3 z1 z3
          go_wp2_with fail
          have HS0 : Hid ((V2).drew.cell? ⟨r, 0, none⟩ = some (.string (bA S)) ∧ (V2).drew.cell? ⟨r, 1, none⟩ = some (.int .i64 (k : Int)) ∧ Hid (Fr [] wr (V2).drew)) := ⟨(HC.out _ ((HF2.out).tr0 (Fr.drew [] _))).1, (HC.out _ ((HF2.out).tr0 (Fr.drew [] _))).2.1, (HF2.out).tr0 (Fr.drew [] _)⟩
          refine wp_region_h (S := fun V => V.cell? ⟨r, 0, none⟩ = some (.string (bA S)) ∧ V.cell? ⟨r, 1, none⟩ = some (.int .i64 (k : Int)) ∧ Hid (Fr [] wr V)) (by kernel_rfl) HS0.out (fun hHeld => ?_)
          refine wpAnyH_take (i := 0) (v := ?_) rfl (by kernel_rfl) (by kernel_rfl) (by kernel_rfl) (fun _ _ _ h => h) (Or.inl ⟨by rfl, ?_⟩) (by assumption) ?_
          rotate_left
          · (intro w hSw; (try dsimp only at hSw); first | (go_simp; done) | (go_simp; with_reducible rfl))
          try simp only [Act.put, qT, qZ, qS, qB, qY, qX]
          refine wpH_one (i := 1) (by kernel_rfl) rfl (fun K hK => ?_)
          go_simp
          refine (HH3.out _ HS0.out.2.2.out).mono ?_
          rintro e V3 ⟨rfl, f1'⟩
          have HF3 : Hid (Fr [] wr V3) := HS0.out.2.2.out.tr0 f1'
          obtain ⟨y0, y1, y3, z1, z3⟩ := HC.out V3 HF3.out
          clear f1' HS0 hHeld
          try go_wp2_with fail
          refine hK.out _ _ ⟨y0, y1, HF3⟩ (fun hHeld => ?_)
          clear hK K
          try simp only [Act.put, qT, qZ, qS, qB, qY, qX]
          refine wpAnyH_take (i := 2) (v := .bool false) rfl (by kernel_rfl) (by kernel_rfl) (by kernel_rfl) (fun _ _ _ h => h) (Or.inl ⟨by rfl, ?_⟩) (by assumption) ?_
          · (intro w hSw; (try dsimp only at hSw); first | (go_simp; done) | (go_simp; with_reducible rfl))
          try simp only [Act.put, qT, qZ, qS, qB, qY, qX]
          refine wpAnyH_take (i := 3) (v := undef) rfl (by kernel_rfl) (by kernel_rfl) (by kernel_rfl) (fun _ _ _ h => h) (Or.inr ⟨by rfl, rfl⟩) (by assumption) ?_
          try simp only [Act.put, qT, qZ, qS, qB, qY, qX]
          refine wpAnyH_take (i := 4) (v := undef) rfl (by kernel_rfl) (by kernel_rfl) (by kernel_rfl) (fun _ _ _ h => h) (Or.inr ⟨by rfl, rfl⟩) (by assumption) ?_
          try simp only [Act.put, qT, qZ, qS, qB, qY, qX]
          refine wpAnyH_take (i := 5) (v := undef) rfl (by kernel_rfl) (by kernel_rfl) (by kernel_rfl) (fun _ _ _ h => h) (Or.inr ⟨by rfl, rfl⟩) (by assumption) ?_
          try simp only [Act.put, qT, qZ, qS, qB, qY, qX]
          refine wpAnyH_take (i := 6) (v := undef) rfl (by kernel_rfl) (by kernel_rfl) (by kernel_rfl) (fun _ _ _ h => h) (Or.inr ⟨by rfl, rfl⟩) (by assumption) ?_
          try simp only [Act.put, qT, qZ, qS, qB, qY, qX]
          refine wpAnyH_take (i := 7) (v := undef) rfl (by kernel_rfl) (by kernel_rfl) (by kernel_rfl) (fun _ _ _ h => h) (Or.inr ⟨by rfl, rfl⟩) (by assumption) ?_
          try simp only [Act.put, qT, qZ, qS, qB, qY, qX]
          refine wpAnyH_take (i := 8) (v := undef) rfl (by kernel_rfl) (by kernel_rfl) (by kernel_rfl) (fun _ _ _ h => h) (Or.inr ⟨by rfl, rfl⟩) (by assumption) ?_
          try simp only [Act.put, qT, qZ, qS, qB, qY, qX]
          refine wpAnyH_take (i := 9) (v := undef) rfl (by kernel_rfl) (by kernel_rfl) (by kernel_rfl) (fun _ _ _ h => h) (Or.inr ⟨by rfl, rfl⟩) (by assumption) ?_
          try simp only [Act.put, qT, qZ, qS, qB, qY, qX]
          refine wpAnyH_take (i := 10) (v := undef) rfl (by kernel_rfl) (by kernel_rfl) (by kernel_rfl) (fun _ _ _ h => h) (Or.inr ⟨by rfl, rfl⟩) (by assumption) ?_
          try simp only [Act.put, qT, qZ, qS, qB, qY, qX]
          refine wpAnyH_take (i := 11) (v := undef) rfl (by kernel_rfl) (by kernel_rfl) (by kernel_rfl) (fun _ _ _ h => h) (Or.inr ⟨by rfl, rfl⟩) (by assumption) ?_
          try simp only [Act.put, qT, qZ, qS, qB, qY, qX]
          refine wpAnyH_take (i := 12) (v := undef) rfl (by kernel_rfl) (by kernel_rfl) (by kernel_rfl) (fun _ _ _ h => h) (Or.inr ⟨by rfl, rfl⟩) (by assumption) ?_
          try simp only [Act.put, qT, qZ, qS, qB, qY, qX]
          refine wpAnyH_take (i := 13) (v := undef) rfl (by kernel_rfl) (by kernel_rfl) (by kernel_rfl) (fun _ _ _ h => h) (Or.inr ⟨by rfl, rfl⟩) (by assumption) ?_
          try simp only [Act.put, qT, qZ, qS, qB, qY, qX]
          refine wpAnyH_take (i := 14) (v := .bool false) rfl (by kernel_rfl) (by kernel_rfl) (by kernel_rfl) (fun _ _ _ h => h) (Or.inl ⟨by rfl, ?_⟩) (by assumption) ?_
          · (intro w hSw; (try dsimp only at hSw); first | (go_simp; done) | (go_simp; with_reducible rfl))
          try simp only [Act.put, qT, qZ, qS, qB, qY, qX]
          refine wpAnyH_done (by kernel_rfl) ?_ _
          clear hHeld
          clear y0 y1 y3 z1 z3
          go_wp2_with fail
          have hc0 := (HC.out _ (HF3.out)).1
          have hc1 := (HC.out _ (HF3.out)).2.1
          go_quiet (fail)
          rename_i nq
          have hc3 := (HC.out _ ((HF3.out).dn nq)).2.2.1
          have hz3 := (HC.out _ ((HF3.out).dn nq)).2.2.2.2
          have HQT : Hid (QT W r S a d R (.slice p acc.length c) (((V3).drewN nq).setCell ⟨r, 3, none⟩ (.bool true)) ∧ mesQ r S.length (((V3).drewN nq).setCell ⟨r, 3, none⟩ (.bool true)) ≤ 2 * (S.length - k)) := by
            have hq := (HQB.out _ ((HF3.out).dn nq)).setBad true
            have fs := (((HF3.out).dn nq).mono (S' := [r]) (by simp)).trans (fr_set _ r 3 (.bool true)) (by simp)
            refine ⟨⟨p, c, acc, k, true, rfl, own_keep hrow fs hlt, hq, hf.trans fs (by simp), hal, HKa.out, fun _ => HNone.out, fun e => by cases e⟩, ?_⟩
            rw [mesQ_is hq]
            simp
          clear hrow hf hc0 hc1
          go_wp2_with fail
          go_roundw
          case rel => exact HQT.out.1
          case measure => rw [hm0]; have := HQT.out.2; omega
        | cons bb y =>
          rw [hx] at hst hdl
          simp only [List.length_cons] at hdl
          have g0 := drop_one hx
          obtain ⟨hi0, hb0⟩ := byte_at S k bb g0.2
          obtain ⟨k2, hk2⟩ : ∃ k2, k2 = k + 1 := ⟨_, rfl⟩
          obtain ⟨k3, hk3⟩ : ∃ k2, k2 = k + 2 := ⟨_, rfl⟩
          have HStep : Hid (∃ f, quoQ f (S.drop k2) (acc ++ [bb]) = R ∧ (S.drop k2).length < f) := by
            rw [hx, hst] at hq
            rw [hk2, g0.1]
            exact ⟨f, hq, by rw [hx] at hfl; simp only [List.length_cons] at hfl; omega⟩
          have hwk1 : IntKind.i64.wrap ((k : Int) + 1) = (k2 : Int) := hwk 1 (by omega) k2 hk2
          have hwk2 : IntKind.i64.wrap ((k : Int) + 2) = (k3 : Int) := hwk 2 (by omega) k3 hk3
          have HLt : Hid (k < k2 ∧ k2 ≤ S.length) := ⟨by omega, by omega⟩
          have hd1 : decide ((k : Int) < (S.length : Int)) = true := decide_eq_true (by omega)
          have hd1' : (k : Int) < (S.length : Int) := by omega
          cases hb2 : hasQ S k false [92] with
          | true =>
            have HH3 := HH [92] true (by decide) hb2
            have hd2' : ¬ (k3 : Int) ≤ (S.length : Int) := by
              cases ht : tokP [92] (S.drop k) with
              | none => rw [has_no ht] at hb2; cases hb2
              | some z =>
                have hl3 := tok_ln ht
                match z, ht, hl3 with
                | [], ht, hl3 => rw [hx] at hl3; simp at hl3; rw [hl3] at hdl; simp at hdl; omega
                | b1 :: y, ht, hl3 => exact absurd ht (hn2 b1 y)
            have hd2 : decide ((k3 : Int) ≤ (S.length : Int)) = false := decide_eq_false hd2'
            have hd2n : S.length < k3 := by omega
            have hd2m : ¬ k3 ≤ S.length := by omega
            clear hq h39 HKK HTb0 HTx HH hb hfl hn1 h1 h2 hn2 hst hx hb12 g0 hb2 hk2 hk3 hwk hdl hle
            go_wp2_with fail
            refine (H1.out _ (Fr.refl [] wr)).mono ?_
            rintro e V1 ⟨rfl, f39⟩
            have HF1 := mkHid f39
            clear f39 H1
            go_wp2_with fail
            have HS0 : Hid ((V1).drew.cell? ⟨r, 0, none⟩ = some (.string (bA S)) ∧ (V1).drew.cell? ⟨r, 1, none⟩ = some (.int .i64 (k : Int)) ∧ Hid (Fr [] wr (V1).drew)) := ⟨(HC.out _ ((HF1.out).tr0 (Fr.drew [] _))).1, (HC.out _ ((HF1.out).tr0 (Fr.drew [] _))).2.1, (HF1.out).tr0 (Fr.drew [] _)⟩
            refine wp_region_h (S := fun V => V.cell? ⟨r, 0, none⟩ = some (.string (bA S)) ∧ V.cell? ⟨r, 1, none⟩ = some (.int .i64 (k : Int)) ∧ Hid (Fr [] wr V)) (by kernel_rfl) HS0.out (fun hHeld => ?_)
            refine wpAnyH_take (i := 0) (v := ?_) rfl (by kernel_rfl) (by kernel_rfl) (by kernel_rfl) (fun _ _ _ h => h) (Or.inl ⟨by rfl, ?_⟩) (by assumption) ?_
            rotate_left
            · (intro w hSw; (try dsimp only at hSw); first | (go_simp; done) | (go_simp; with_reducible rfl))
            try simp only [Act.put, qT, qZ, qS, qB, qY, qX]
            refine wpH_one (i := 1) (by kernel_rfl) rfl (fun K hK => ?_)
            go_simp
            refine (HH2.out _ HS0.out.2.2.out).mono ?_
            rintro e V2 ⟨rfl, f1'⟩
            have HF2 : Hid (Fr [] wr V2) := HS0.out.2.2.out.tr0 f1'
            obtain ⟨y0, y1, y3, z1, z3⟩ := HC.out V2 HF2.out
            clear f1' HS0 hHeld
            try go_wp2_with fail
            refine hK.out _ _ ⟨y0, y1, HF2⟩ (fun hHeld => ?_)
            clear hK K
            try simp only [Act.put, qT, qZ, qS, qB, qY, qX]
            refine wpAnyH_take (i := 2) (v := .bool false) rfl (by kernel_rfl) (by kernel_rfl) (by kernel_rfl) (fun _ _ _ h => h) (Or.inl ⟨by rfl, ?_⟩) (by assumption) ?_
            · (intro w hSw; (try dsimp only at hSw); first | (go_simp; done) | (go_simp; with_reducible rfl))
            try simp only [Act.put, qT, qZ, qS, qB, qY, qX]
            refine wpAnyH_take (i := 3) (v := undef) rfl (by kernel_rfl) (by kernel_rfl) (by kernel_rfl) (fun _ _ _ h => h) (Or.inr ⟨by rfl, rfl⟩) (by assumption) ?_
            try simp only [Act.put, qT, qZ, qS, qB, qY, qX]
            refine wpAnyH_take (i := 4) (v := undef) rfl (by kernel_rfl) (by kernel_rfl) (by kernel_rfl) (fun _ _ _ h => h) (Or.inr ⟨by rfl, rfl⟩) (by assumption) ?_
            try simp only [Act.put, qT, qZ, qS, qB, qY, qX]
            refine wpAnyH_take (i := 5) (v := undef) rfl (by kernel_rfl) (by kernel_rfl) (by kernel_rfl) (fun _ _ _ h => h) (Or.inr ⟨by rfl, rfl⟩) (by assumption) ?_
            try simp only [Act.put, qT, qZ, qS, qB, qY, qX]
            refine wpAnyH_take (i := 6) (v := undef) rfl (by kernel_rfl) (by kernel_rfl) (by kernel_rfl) (fun _ _ _ h => h) (Or.inr ⟨by rfl, rfl⟩) (by assumption) ?_
            try simp only [Act.put, qT, qZ, qS, qB, qY, qX]
            refine wpAnyH_take (i := 7) (v := undef) rfl (by kernel_rfl) (by kernel_rfl) (by kernel_rfl) (fun _ _ _ h => h) (Or.inr ⟨by rfl, rfl⟩) (by assumption) ?_
            try simp only [Act.put, qT, qZ, qS, qB, qY, qX]
            refine wpAnyH_take (i := 8) (v := undef) rfl (by kernel_rfl) (by kernel_rfl) (by kernel_rfl) (fun _ _ _ h => h) (Or.inr ⟨by rfl, rfl⟩) (by assumption) ?_
            try simp only [Act.put, qT, qZ, qS, qB, qY, qX]
            refine wpAnyH_take (i := 9) (v := undef) rfl (by kernel_rfl) (by kernel_rfl) (by kernel_rfl) (fun _ _ _ h => h) (Or.inr ⟨by rfl, rfl⟩) (by assumption) ?_
            try simp only [Act.put, qT, qZ, qS, qB, qY, qX]
            refine wpAnyH_take (i := 10) (v := undef) rfl (by kernel_rfl) (by kernel_rfl) (by kernel_rfl) (fun _ _ _ h => h) (Or.inr ⟨by rfl, rfl⟩) (by assumption) ?_
            try simp only [Act.put, qT, qZ, qS, qB, qY, qX]
            refine wpAnyH_take (i := 11) (v := undef) rfl (by kernel_rfl) (by kernel_rfl) (by kernel_rfl) (fun _ _ _ h => h) (Or.inr ⟨by rfl, rfl⟩) (by assumption) ?_
            try simp only [Act.put, qT, qZ, qS, qB, qY, qX]
            refine wpAnyH_take (i := 12) (v := undef) rfl (by kernel_rfl) (by kernel_rfl) (by kernel_rfl) (fun _ _ _ h => h) (Or.inr ⟨by rfl, rfl⟩) (by assumption) ?_
            try simp only [Act.put, qT, qZ, qS, qB, qY, qX]
            refine wpAnyH_take (i := 13) (v := undef) rfl (by kernel_rfl) (by kernel_rfl) (by kernel_rfl) (fun _ _ _ h => h) (Or.inr ⟨by rfl, rfl⟩) (by assumption) ?_
            try simp only [Act.put, qT, qZ, qS, qB, qY, qX]
            refine wpAnyH_take (i := 14) (v := .bool false) rfl (by kernel_rfl) (by kernel_rfl) (by kernel_rfl) (fun _ _ _ h => h) (Or.inl ⟨by rfl, ?_⟩) (by assumption) ?_
            · (intro w hSw; (try dsimp only at hSw); first | (go_simp; done) | (go_simp; with_reducible rfl))
            try simp only [Act.put, qT, qZ, qS, qB, qY, qX]
            refine wpAnyH_done (by kernel_rfl) ?_ _
            clear hHeld
            clear y0 y1 y3 z1 z3
            go_wp2_with fail
            have HS0 : Hid ((V2).drew.cell? ⟨r, 0, none⟩ = some (.string (bA S)) ∧ (V2).drew.cell? ⟨r, 1, none⟩ = some (.int .i64 (k : Int)) ∧ Hid (Fr [] wr (V2).drew)) := ⟨(HC.out _ ((HF2.out).tr0 (Fr.drew [] _))).1, (HC.out _ ((HF2.out).tr0 (Fr.drew [] _))).2.1, (HF2.out).tr0 (Fr.drew [] _)⟩
            refine wp_region_h (S := fun V => V.cell? ⟨r, 0, none⟩ = some (.string (bA S)) ∧ V.cell? ⟨r, 1, none⟩ = some (.int .i64 (k : Int)) ∧ Hid (Fr [] wr V)) (by kernel_rfl) HS0.out (fun hHeld => ?_)
            refine wpAnyH_take (i := 0) (v := ?_) rfl (by kernel_rfl) (by kernel_rfl) (by kernel_rfl) (fun _ _ _ h => h) (Or.inl ⟨by rfl, ?_⟩) (by assumption) ?_
            rotate_left
            · (intro w hSw; (try dsimp only at hSw); first | (go_simp; done) | (go_simp; with_reducible rfl))
            try simp only [Act.put, qT, qZ, qS, qB, qY, qX]
            refine wpH_one (i := 1) (by kernel_rfl) rfl (fun K hK => ?_)
            go_simp
            refine (HH3.out _ HS0.out.2.2.out).mono ?_
            rintro e V3 ⟨rfl, f1'⟩
            have HF3 : Hid (Fr [] wr V3) := HS0.out.2.2.out.tr0 f1'
            obtain ⟨y0, y1, y3, z1, z3⟩ := HC.out V3 HF3.out
            clear f1' HS0 hHeld
            try go_wp2_with fail
            refine hK.out _ _ ⟨y0, y1, HF3⟩ (fun hHeld => ?_)
            clear hK K
            try simp only [Act.put, qT, qZ, qS, qB, qY, qX]
            refine wpAnyH_take (i := 2) (v := .bool true) rfl (by kernel_rfl) (by kernel_rfl) (by kernel_rfl) (fun _ _ _ h => h) (Or.inl ⟨by rfl, ?_⟩) (by assumption) ?_
            · (intro w hSw; (try dsimp only at hSw); first | (go_simp; done) | (go_simp; with_reducible rfl))
            try simp only [Act.put, qT, qZ, qS, qB, qY, qX]
            refine wpAnyH_take (i := 3) (v := ?_) rfl (by kernel_rfl) (by kernel_rfl) (by kernel_rfl) (fun _ _ _ h => h) (Or.inl ⟨by rfl, ?_⟩) (by assumption) ?_
            rotate_left
            · (intro w hSw; (try dsimp only at hSw); first | (go_simp; done) | (go_simp; with_reducible rfl))
            try simp only [Act.put, qT, qZ, qS, qB, qY, qX]
            refine wpAnyH_take (i := 4) (v := ?_) rfl (by kernel_rfl) (by kernel_rfl) (by kernel_rfl) (fun _ _ _ h => h) (Or.inl ⟨by rfl, ?_⟩) (by assumption) ?_
            rotate_left
            · (intro w hSw; (try dsimp only at hSw); first | (go_simp; done) | (go_simp; with_reducible rfl))
            try simp only [Act.put, qT, qZ, qS, qB, qY, qX]
            refine wpAnyH_take (i := 5) (v := ?_) rfl (by kernel_rfl) (by kernel_rfl) (by kernel_rfl) (fun _ _ _ h => h) (Or.inl ⟨by rfl, ?_⟩) (by assumption) ?_
            rotate_left
            · (intro w hSw; (try dsimp only at hSw); first | (go_simp; done) | (go_simp; with_reducible rfl))
            try simp only [Act.put, qT, qZ, qS, qB, qY, qX]
            refine wpAnyH_take (i := 6) (v := ?_) rfl (by kernel_rfl) (by kernel_rfl) (by kernel_rfl) (fun _ _ _ h => h) (Or.inl ⟨by rfl, ?_⟩) (by assumption) ?_
            rotate_left
            · (intro w hSw; (try dsimp only at hSw); first | (go_simp; done) | (go_simp; with_reducible rfl))
            try simp only [Act.put, qT, qZ, qS, qB, qY, qX]
            refine wpAnyH_take (i := 7) (v := ?_) rfl (by kernel_rfl) (by kernel_rfl) (by kernel_rfl) (fun _ _ _ h => h) (Or.inl ⟨by rfl, ?_⟩) (by assumption) ?_
            rotate_left
            · (intro w hSw; (try dsimp only at hSw); first | (go_simp; done) | (go_simp; with_reducible rfl))
            try simp only [Act.put, qT, qZ, qS, qB, qY, qX]
            refine wpAnyH_take (i := 8) (v := ?_) rfl (by kernel_rfl) (by kernel_rfl) (by kernel_rfl) (fun _ _ _ h => h) (Or.inl ⟨by rfl, ?_⟩) (by assumption) ?_
            rotate_left
            · (intro w hSw; (try dsimp only at hSw); first | (go_simp; done) | (go_simp; with_reducible rfl))
            try simp only [Act.put, qT, qZ, qS, qB, qY, qX]
            refine wpAnyH_take (i := 9) (v := ?_) rfl (by kernel_rfl) (by kernel_rfl) (by kernel_rfl) (fun _ _ _ h => h) (Or.inl ⟨by rfl, ?_⟩) (by assumption) ?_
            rotate_left
            · (intro w hSw; (try dsimp only at hSw); first | (go_simp; done) | (go_simp; with_reducible rfl))
            try simp only [Act.put, qT, qZ, qS, qB, qY, qX]
            refine wpAnyH_take (i := 10) (v := ?_) rfl (by kernel_rfl) (by kernel_rfl) (by kernel_rfl) (fun _ _ _ h => h) (Or.inl ⟨by rfl, ?_⟩) (by assumption) ?_
            rotate_left
            · (intro w hSw; (try dsimp only at hSw); first | (go_simp; done) | (go_simp; with_reducible rfl))
            try simp only [Act.put, qT, qZ, qS, qB, qY, qX]
            refine wpAnyH_take (i := 11) (v := ?_) rfl (by kernel_rfl) (by kernel_rfl) (by kernel_rfl) (fun _ _ _ h => h) (Or.inl ⟨by rfl, ?_⟩) (by assumption) ?_
            rotate_left
            · (intro w hSw; (try dsimp only at hSw); first | (go_simp; done) | (go_simp; with_reducible rfl))
            try simp only [Act.put, qT, qZ, qS, qB, qY, qX]
            refine wpAnyH_take (i := 12) (v := ?_) rfl (by kernel_rfl) (by kernel_rfl) (by kernel_rfl) (fun _ _ _ h => h) (Or.inl ⟨by rfl, ?_⟩) (by assumption) ?_
            rotate_left
            · (intro w hSw; (try dsimp only at hSw); first | (go_simp; done) | (go_simp; with_reducible rfl))
            try simp only [Act.put, qT, qZ, qS, qB, qY, qX]
            refine wpAnyH_take (i := 13) (v := .bool false) rfl (by kernel_rfl) (by kernel_rfl) (by kernel_rfl) (fun _ _ _ h => h) (Or.inl ⟨by rfl, ?_⟩) (by assumption) ?_
            · (intro w hSw; (try dsimp only at hSw); first | (go_simp; done) | (go_simp; with_reducible rfl))
            try simp only [Act.put, qT, qZ, qS, qB, qY, qX]
            refine wpAnyH_take (i := 14) (v := .bool false) rfl (by kernel_rfl) (by kernel_rfl) (by kernel_rfl) (fun _ _ _ h => h) (Or.inl ⟨by rfl, ?_⟩) (by assumption) ?_
            · (intro w hSw; (try dsimp only at hSw); first | (go_simp; done) | (go_simp; with_reducible rfl))
            try simp only [Act.put, qT, qZ, qS, qB, qY, qX]
            refine wpAnyH_done (by kernel_rfl) ?_ _
            clear hHeld
            clear y0 y1 y3 z1 z3
            go_wp2_with fail
            have hc0 := (HC.out _ (HF3.out)).1
            have hc1 := (HC.out _ (HF3.out)).2.1
            go_quiet (fail)
            rename_i nq
            go_wp2_with fail
            clear hc0 hc1
            have hbV := HQB.out ((V3).drewN nq).drew (((HF3.out).dn nq).tr0 (Fr.drew [] _))
            obtain ⟨p', c', w', hr2, u1, u0, uz, hQ⟩ := QT_push hrow hf hal HKa.out hlt ((((HF3.out).dn nq).tr0 (Fr.drew [] _)).mono (by simp)) hbV bb
            have HR2 := mkHid hr2
            have HQT := mkHid (hQ k2 HLt.out.1 HLt.out.2 (fun e => by cases e) (fun _ => HStep.out))
            have HU : Hid (w'.cell? ⟨r, 0, none⟩ = some (.string (bA S)) ∧ w'.cell? ⟨r, 1, none⟩ = some (.int .i64 (k : Int))) := ⟨u0, u1⟩
            have HV0 : Hid (∀ o, ((((V3).drewN nq).drew).alloc o).cell? ⟨r, 0, none⟩ = some (.string (bA S)) ∧ ((((V3).drewN nq).drew).alloc o).cell? ⟨r, 1, none⟩ = some (.int .i64 (k : Int))) := fun o => ⟨(HC.out _ ((((HF3.out).dn nq).tr0 (Fr.drew [] _)).al o)).1, (HC.out _ ((((HF3.out).dn nq).tr0 (Fr.drew [] _)).al o)).2.1⟩
            have HS0 : Hid ((((V3).drewN nq).drew).cell? ⟨r, 0, none⟩ = some (.string (bA S)) ∧ (((V3).drewN nq).drew).cell? ⟨r, 1, none⟩ = some (.int .i64 (k : Int))) := ⟨hbV.cl 0, hbV.cl 1⟩
            clear hr2 hQ hbV hrow hf
            refine wp_region_last (L := 12) (S := fun V => V.cell? ⟨r, 0, none⟩ = some (.string (bA S)) ∧ V.cell? ⟨r, 1, none⟩ = some (.int .i64 (k : Int))) (by kernel_rfl) HS0.out (fun hHeld => ?_)
            refine wpLast_take (i := 0) (v := ?_) rfl (by kernel_rfl) (by kernel_rfl) (by kernel_rfl) (by decide) (by kernel_rfl) (fun _ _ _ h => h) (Or.inl ⟨by rfl, ?_⟩) (by assumption) ?_
            rotate_left
            · (intro w hSw; (try dsimp only at hSw); first | (go_simp; done) | (go_simp; with_reducible rfl))
            try simp only [Act.put, qT, qZ, qS, qB, qY, qX]
            refine wpLast_take (i := 1) (v := ?_) rfl (by kernel_rfl) (by kernel_rfl) (by kernel_rfl) (by decide) (by kernel_rfl) (fun _ _ _ h => h) (Or.inl ⟨by rfl, ?_⟩) (by assumption) ?_
            rotate_left
            · (intro w hSw; (try dsimp only at hSw); first | (go_simp; done) | (go_simp; with_reducible rfl))
            try simp only [Act.put, qT, qZ, qS, qB, qY, qX]
            refine wpLast_take (i := 2) (v := ?_) rfl (by kernel_rfl) (by kernel_rfl) (by kernel_rfl) (by decide) (by kernel_rfl) (fun _ _ _ h => h) (Or.inl ⟨by rfl, ?_⟩) (by assumption) ?_
            rotate_left
            · (intro w hSw; (try dsimp only at hSw); first | (go_simp; done) | (go_simp; with_reducible rfl))
            try simp only [Act.put, qT, qZ, qS, qB, qY, qX]
            refine wpLast_take (i := 3) (v := ?_) rfl (by kernel_rfl) (by kernel_rfl) (by kernel_rfl) (by decide) (by kernel_rfl) (fun _ _ _ h => h) (Or.inl ⟨by rfl, ?_⟩) (by assumption) ?_
            rotate_left
            · (intro w hSw; (try dsimp only at hSw); first | (go_simp; done) | (go_simp; with_reducible rfl))
            try simp only [Act.put, qT, qZ, qS, qB, qY, qX]
            refine wpLast_take (i := 4) (v := ?_) rfl (by kernel_rfl) (by kernel_rfl) (by kernel_rfl) (by decide) (by kernel_rfl) (fun _ _ _ h => h) (Or.inl ⟨by rfl, ?_⟩) (by assumption) ?_
            rotate_left
            · (intro w hSw; (try dsimp only at hSw); first | (go_simp; done) | (go_simp; with_reducible rfl))
            try simp only [Act.put, qT, qZ, qS, qB, qY, qX]
            refine wpLast_take (i := 5) (v := ?_) rfl (by kernel_rfl) (by kernel_rfl) (by kernel_rfl) (by decide) (by kernel_rfl) (fun _ _ _ h => h) (Or.inl ⟨by rfl, ?_⟩) (by assumption) ?_
            rotate_left
            · (intro w hSw; (try dsimp only at hSw); first | (go_simp; done) | (go_simp; with_reducible rfl))
            try simp only [Act.put, qT, qZ, qS, qB, qY, qX]
            refine wpLast_take (i := 6) (v := ?_) rfl (by kernel_rfl) (by kernel_rfl) (by kernel_rfl) (by decide) (by kernel_rfl) (fun _ _ _ h => h) (Or.inl ⟨by rfl, ?_⟩) (by assumption) ?_
            rotate_left
            · (intro w hSw; (try dsimp only at hSw); first | (go_simp; done) | (go_simp; with_reducible rfl))
            try simp only [Act.put, qT, qZ, qS, qB, qY, qX]
            refine wpLast_take (i := 7) (v := ?_) rfl (by kernel_rfl) (by kernel_rfl) (by kernel_rfl) (by decide) (by kernel_rfl) (fun _ _ _ h => h) (Or.inl ⟨by rfl, ?_⟩) (by assumption) ?_
            rotate_left
            · (intro w hSw; (try dsimp only at hSw); first | (go_simp; done) | (go_simp; with_reducible rfl))
            try simp only [Act.put, qT, qZ, qS, qB, qY, qX]
            refine wpLast_take (i := 8) (v := ?_) rfl (by kernel_rfl) (by kernel_rfl) (by kernel_rfl) (by decide) (by kernel_rfl) (fun _ _ _ h => h) (Or.inl ⟨by rfl, ?_⟩) (by assumption) ?_
            rotate_left
            · (intro w hSw; (try dsimp only at hSw); first | (go_simp; done) | (go_simp; with_reducible rfl))
            try simp only [Act.put, qT, qZ, qS, qB, qY, qX]
            refine wpLast_take (i := 9) (v := ?_) rfl (by kernel_rfl) (by kernel_rfl) (by kernel_rfl) (by decide) (by kernel_rfl) (fun _ _ _ h => h) (Or.inl ⟨by rfl, ?_⟩) (by assumption) ?_
            rotate_left
            · (intro w hSw; (try dsimp only at hSw); first | (go_simp; done) | (go_simp; with_reducible rfl))
            try simp only [Act.put, qT, qZ, qS, qB, qY, qX]
            refine wpLast_one (i := 10) (by kernel_rfl) rfl (by decide) (fun K hK => ?_)
            go_simp
            refine hK.out _ _ (HV0.out _) (fun hHeld => ?_)
            clear hK K
            try simp only [Act.put, qT, qZ, qS, qB, qY, qX]
            refine wpLast_one (i := 11) (by kernel_rfl) rfl (by decide) (fun K hK => ?_)
            refine step_append_run rfl (.tmp 132) (.tmp 142) 57 57 rfl (.slice p acc.length c) (.slice (some ⟨(((V3).drewN nq).drew).heap.size, 0, none⟩) 1 1) (by simp [Act.eval]) (by simp [Act.eval]) _ _ HR2.out ?_
            refine hK.out _ _ HU.out (fun hHeld => ?_)
            clear hK K
            try simp only [Act.put, qT, qZ, qS, qB, qY, qX]
            refine wpLast_end (by kernel_rfl) rfl (by kernel_rfl) (fun K hK => ?_)
            go_simp
            refine hK.out _ _ ?_
            clear hK K
            try simp only [Act.put, qT, qZ, qS, qB, qY, qX]
            clear HS0 HV0
            go_wp2_with fail
            go_roundw
            case rel => exact HQT.out.1
            case measure => rw [hm0]; have := HQT.out.2; have := HLt.out; omega
          | false =>
            have HH3 := HH [92] false (by decide) hb2
            clear hq h39 HKK HTb0 HTx HH hb hfl hn1 h1 h2 hn2 hst hx hb12 g0 hb2 hk2 hk3 hwk hdl hle
            go_wp2_with fail
            refine (H1.out _ (Fr.refl [] wr)).mono ?_
            rintro e V1 ⟨rfl, f39⟩
            have HF1 := mkHid f39
            clear f39 H1
            go_wp2_with fail
            have HS0 : Hid ((V1).drew.cell? ⟨r, 0, none⟩ = some (.string (bA S)) ∧ (V1).drew.cell? ⟨r, 1, none⟩ = some (.int .i64 (k : Int)) ∧ Hid (Fr [] wr (V1).drew)) := ⟨(HC.out _ ((HF1.out).tr0 (Fr.drew [] _))).1, (HC.out _ ((HF1.out).tr0 (Fr.drew [] _))).2.1, (HF1.out).tr0 (Fr.drew [] _)⟩
            refine wp_region_h (S := fun V => V.cell? ⟨r, 0, none⟩ = some (.string (bA S)) ∧ V.cell? ⟨r, 1, none⟩ = some (.int .i64 (k : Int)) ∧ Hid (Fr [] wr V)) (by kernel_rfl) HS0.out (fun hHeld => ?_)
            refine wpAnyH_take (i := 0) (v := ?_) rfl (by kernel_rfl) (by kernel_rfl) (by kernel_rfl) (fun _ _ _ h => h) (Or.inl ⟨by rfl, ?_⟩) (by assumption) ?_
            rotate_left
            · (intro w hSw; (try dsimp only at hSw); first | (go_simp; done) | (go_simp; with_reducible rfl))
            try simp only [Act.put, qT, qZ, qS, qB, qY, qX]
            refine wpH_one (i := 1) (by kernel_rfl) rfl (fun K hK => ?_)
            go_simp
            refine (HH2.out _ HS0.out.2.2.out).mono ?_
            rintro e V2 ⟨rfl, f1'⟩
            have HF2 : Hid (Fr [] wr V2) := HS0.out.2.2.out.tr0 f1'
            obtain ⟨y0, y1, y3, z1, z3⟩ := HC.out V2 HF2.out
            clear f1' HS0 hHeld
            try go_wp2_with fail
            refine hK.out _ _ ⟨y0, y1, HF2⟩ (fun hHeld => ?_)
            clear hK K
            try simp only [Act.put, qT, qZ, qS, qB, qY, qX]
            refine wpAnyH_take (i := 2) (v := .bool false) rfl (by kernel_rfl) (by kernel_rfl) (by kernel_rfl) (fun _ _ _ h => h) (Or.inl ⟨by rfl, ?_⟩) (by assumption) ?_
            · (intro w hSw; (try dsimp only at hSw); first | (go_simp; done) | (go_simp; with_reducible rfl))
            try simp only [Act.put, qT, qZ, qS, qB, qY, qX]
            refine wpAnyH_take (i := 3) (v := undef) rfl (by kernel_rfl) (by kernel_rfl) (by kernel_rfl) (fun _ _ _ h => h) (Or.inr ⟨by rfl, rfl⟩) (by assumption) ?_
            try simp only [Act.put, qT, qZ, qS, qB, qY, qX]
            refine wpAnyH_take (i := 4) (v := undef) rfl (by kernel_rfl) (by kernel_rfl) (by kernel_rfl) (fun _ _ _ h => h) (Or.inr ⟨by rfl, rfl⟩) (by assumption) ?_
            try simp only [Act.put, qT, qZ, qS, qB, qY, qX]
            refine wpAnyH_take (i := 5) (v := undef) rfl (by kernel_rfl) (by kernel_rfl) (by kernel_rfl) (fun _ _ _ h => h) (Or.inr ⟨by rfl, rfl⟩) (by assumption) ?_
            try simp only [Act.put, qT, qZ, qS, qB, qY, qX]
            refine wpAnyH_take (i := 6) (v := undef) rfl (by kernel_rfl) (by kernel_rfl) (by kernel_rfl) (fun _ _ _ h => h) (Or.inr ⟨by rfl, rfl⟩) (by assumption) ?_
            try simp only [Act.put, qT, qZ, qS, qB, qY, qX]
            refine wpAnyH_take (i := 7) (v := undef) rfl (by kernel_rfl) (by kernel_rfl) (by kernel_rfl) (fun _ _ _ h => h) (Or.inr ⟨by rfl, rfl⟩) (by assumption) ?_
            try simp only [Act.put, qT, qZ, qS, qB, qY, qX]
            refine wpAnyH_take (i := 8) (v := undef) rfl (by kernel_rfl) (by kernel_rfl) (by kernel_rfl) (fun _ _ _ h => h) (Or.inr ⟨by rfl, rfl⟩) (by assumption) ?_
            try simp only [Act.put, qT, qZ, qS, qB, qY, qX]
            refine wpAnyH_take (i := 9) (v := undef) rfl (by kernel_rfl) (by kernel_rfl) (by kernel_rfl) (fun _ _ _ h => h) (Or.inr ⟨by rfl, rfl⟩) (by assumption) ?_
            try simp only [Act.put, qT, qZ, qS, qB, qY, qX]
            refine wpAnyH_take (i := 10) (v := undef) rfl (by kernel_rfl) (by kernel_rfl) (by kernel_rfl) (fun _ _ _ h => h) (Or.inr ⟨by rfl, rfl⟩) (by assumption) ?_
            try simp only [Act.put, qT, qZ, qS, qB, qY, qX]
            refine wpAnyH_take (i := 11) (v := undef) rfl (by kernel_rfl) (by kernel_rfl) (by kernel_rfl) (fun _ _ _ h => h) (Or.inr ⟨by rfl, rfl⟩) (by assumption) ?_
            try simp only [Act.put, qT, qZ, qS, qB, qY, qX]
            refine wpAnyH_take (i := 12) (v := undef) rfl (by kernel_rfl) (by kernel_rfl) (by kernel_rfl) (fun _ _ _ h => h) (Or.inr ⟨by rfl, rfl⟩) (by assumption) ?_
            try simp only [Act.put, qT, qZ, qS, qB, qY, qX]
            refine wpAnyH_take (i := 13) (v := undef) rfl (by kernel_rfl) (by kernel_rfl) (by kernel_rfl) (fun _ _ _ h => h) (Or.inr ⟨by rfl, rfl⟩) (by assumption) ?_
            try simp only [Act.put, qT, qZ, qS, qB, qY, qX]
            refine wpAnyH_take (i := 14) (v := .bool false) rfl (by kernel_rfl) (by kernel_rfl) (by kernel_rfl) (fun _ _ _ h => h) (Or.inl ⟨by rfl, ?_⟩) (by assumption) ?_
            · (intro w hSw; (try dsimp only at hSw); first | (go_simp; done) | (go_simp; with_reducible rfl))
            try simp only [Act.put, qT, qZ, qS, qB, qY, qX]
            refine wpAnyH_done (by kernel_rfl) ?_ _
            clear hHeld
            clear y0 y1 y3 z1 z3
            go_wp2_with fail
            have HS0 : Hid ((V2).drew.cell? ⟨r, 0, none⟩ = some (.string (bA S)) ∧ (V2).drew.cell? ⟨r, 1, none⟩ = some (.int .i64 (k : Int)) ∧ Hid (Fr [] wr (V2).drew)) := ⟨(HC.out _ ((HF2.out).tr0 (Fr.drew [] _))).1, (HC.out _ ((HF2.out).tr0 (Fr.drew [] _))).2.1, (HF2.out).tr0 (Fr.drew [] _)⟩
            refine wp_region_h (S := fun V => V.cell? ⟨r, 0, none⟩ = some (.string (bA S)) ∧ V.cell? ⟨r, 1, none⟩ = some (.int .i64 (k : Int)) ∧ Hid (Fr [] wr V)) (by kernel_rfl) HS0.out (fun hHeld => ?_)
            refine wpAnyH_take (i := 0) (v := ?_) rfl (by kernel_rfl) (by kernel_rfl) (by kernel_rfl) (fun _ _ _ h => h) (Or.inl ⟨by rfl, ?_⟩) (by assumption) ?_
            rotate_left
            · (intro w hSw; (try dsimp only at hSw); first | (go_simp; done) | (go_simp; with_reducible rfl))
            try simp only [Act.put, qT, qZ, qS, qB, qY, qX]
            refine wpH_one (i := 1) (by kernel_rfl) rfl (fun K hK => ?_)
            go_simp
            refine (HH3.out _ HS0.out.2.2.out).mono ?_
            rintro e V3 ⟨rfl, f1'⟩
            have HF3 : Hid (Fr [] wr V3) := HS0.out.2.2.out.tr0 f1'
            obtain ⟨y0, y1, y3, z1, z3⟩ := HC.out V3 HF3.out
            clear f1' HS0 hHeld
            try go_wp2_with fail
            refine hK.out _ _ ⟨y0, y1, HF3⟩ (fun hHeld => ?_)
            clear hK K
            try simp only [Act.put, qT, qZ, qS, qB, qY, qX]
            refine wpAnyH_take (i := 2) (v := .bool false) rfl (by kernel_rfl) (by kernel_rfl) (by kernel_rfl) (fun _ _ _ h => h) (Or.inl ⟨by rfl, ?_⟩) (by assumption) ?_
            · (intro w hSw; (try dsimp only at hSw); first | (go_simp; done) | (go_simp; with_reducible rfl))
            try simp only [Act.put, qT, qZ, qS, qB, qY, qX]
            refine wpAnyH_take (i := 3) (v := undef) rfl (by kernel_rfl) (by kernel_rfl) (by kernel_rfl) (fun _ _ _ h => h) (Or.inr ⟨by rfl, rfl⟩) (by assumption) ?_
            try simp only [Act.put, qT, qZ, qS, qB, qY, qX]
            refine wpAnyH_take (i := 4) (v := undef) rfl (by kernel_rfl) (by kernel_rfl) (by kernel_rfl) (fun _ _ _ h => h) (Or.inr ⟨by rfl, rfl⟩) (by assumption) ?_
            try simp only [Act.put, qT, qZ, qS, qB, qY, qX]
            refine wpAnyH_take (i := 5) (v := undef) rfl (by kernel_rfl) (by kernel_rfl) (by kernel_rfl) (fun _ _ _ h => h) (Or.inr ⟨by rfl, rfl⟩) (by assumption) ?_
            try simp only [Act.put, qT, qZ, qS, qB, qY, qX]
            refine wpAnyH_take (i := 6) (v := undef) rfl (by kernel_rfl) (by kernel_rfl) (by kernel_rfl) (fun _ _ _ h => h) (Or.inr ⟨by rfl, rfl⟩) (by assumption) ?_
            try simp only [Act.put, qT, qZ, qS, qB, qY, qX]
            refine wpAnyH_take (i := 7) (v := undef) rfl (by kernel_rfl) (by kernel_rfl) (by kernel_rfl) (fun _ _ _ h => h) (Or.inr ⟨by rfl, rfl⟩) (by assumption) ?_
            try simp only [Act.put, qT, qZ, qS, qB, qY, qX]
            refine wpAnyH_take (i := 8) (v := undef) rfl (by kernel_rfl) (by kernel_rfl) (by kernel_rfl) (fun _ _ _ h => h) (Or.inr ⟨by rfl, rfl⟩) (by assumption) ?_
            try simp only [Act.put, qT, qZ, qS, qB, qY, qX]
            refine wpAnyH_take (i := 9) (v := undef) rfl (by kernel_rfl) (by kernel_rfl) (by kernel_rfl) (fun _ _ _ h => h) (Or.inr ⟨by rfl, rfl⟩) (by assumption) ?_
            try simp only [Act.put, qT, qZ, qS, qB, qY, qX]
            refine wpAnyH_take (i := 10) (v := undef) rfl (by kernel_rfl) (by kernel_rfl) (by kernel_rfl) (fun _ _ _ h => h) (Or.inr ⟨by rfl, rfl⟩) (by assumption) ?_
            try simp only [Act.put, qT, qZ, qS, qB, qY, qX]
            refine wpAnyH_take (i := 11) (v := undef) rfl (by kernel_rfl) (by kernel_rfl) (by kernel_rfl) (fun _ _ _ h => h) (Or.inr ⟨by rfl, rfl⟩) (by assumption) ?_
            try simp only [Act.put, qT, qZ, qS, qB, qY, qX]
            refine wpAnyH_take (i := 12) (v := undef) rfl (by kernel_rfl) (by kernel_rfl) (by kernel_rfl) (fun _ _ _ h => h) (Or.inr ⟨by rfl, rfl⟩) (by assumption) ?_
            try simp only [Act.put, qT, qZ, qS, qB, qY, qX]
            refine wpAnyH_take (i := 13) (v := undef) rfl (by kernel_rfl) (by kernel_rfl) (by kernel_rfl) (fun _ _ _ h => h) (Or.inr ⟨by rfl, rfl⟩) (by assumption) ?_
            try simp only [Act.put, qT, qZ, qS, qB, qY, qX]
            refine wpAnyH_take (i := 14) (v := .bool false) rfl (by kernel_rfl) (by kernel_rfl) (by kernel_rfl) (fun _ _ _ h => h) (Or.inl ⟨by rfl, ?_⟩) (by assumption) ?_
            · (intro w hSw; (try dsimp only at hSw); first | (go_simp; done) | (go_simp; with_reducible rfl))
            try simp only [Act.put, qT, qZ, qS, qB, qY, qX]
            refine wpAnyH_done (by kernel_rfl) ?_ _
            clear hHeld
            clear y0 y1 y3 z1 z3
            go_wp2_with fail
            have hc0 := (HC.out _ (HF3.out)).1
            have hc1 := (HC.out _ (HF3.out)).2.1
            go_quiet (fail)
            rename_i nq
            go_wp2_with fail
            clear hc0 hc1
            have hbV := HQB.out ((V3).drewN nq).drew (((HF3.out).dn nq).tr0 (Fr.drew [] _))
            obtain ⟨p', c', w', hr2, u1, u0, uz, hQ⟩ := QT_push hrow hf hal HKa.out hlt ((((HF3.out).dn nq).tr0 (Fr.drew [] _)).mono (by simp)) hbV bb
            have HR2 := mkHid hr2
            have HQT := mkHid (hQ k2 HLt.out.1 HLt.out.2 (fun e => by cases e) (fun _ => HStep.out))
            have HU : Hid (w'.cell? ⟨r, 0, none⟩ = some (.string (bA S)) ∧ w'.cell? ⟨r, 1, none⟩ = some (.int .i64 (k : Int))) := ⟨u0, u1⟩
            have HV0 : Hid (∀ o, ((((V3).drewN nq).drew).alloc o).cell? ⟨r, 0, none⟩ = some (.string (bA S)) ∧ ((((V3).drewN nq).drew).alloc o).cell? ⟨r, 1, none⟩ = some (.int .i64 (k : Int))) := fun o => ⟨(HC.out _ ((((HF3.out).dn nq).tr0 (Fr.drew [] _)).al o)).1, (HC.out _ ((((HF3.out).dn nq).tr0 (Fr.drew [] _)).al o)).2.1⟩
            have HS0 : Hid ((((V3).drewN nq).drew).cell? ⟨r, 0, none⟩ = some (.string (bA S)) ∧ (((V3).drewN nq).drew).cell? ⟨r, 1, none⟩ = some (.int .i64 (k : Int))) := ⟨hbV.cl 0, hbV.cl 1⟩
            clear hr2 hQ hbV hrow hf
            refine wp_region_last (L := 12) (S := fun V => V.cell? ⟨r, 0, none⟩ = some (.string (bA S)) ∧ V.cell? ⟨r, 1, none⟩ = some (.int .i64 (k : Int))) (by kernel_rfl) HS0.out (fun hHeld => ?_)
            refine wpLast_take (i := 0) (v := ?_) rfl (by kernel_rfl) (by kernel_rfl) (by kernel_rfl) (by decide) (by kernel_rfl) (fun _ _ _ h => h) (Or.inl ⟨by rfl, ?_⟩) (by assumption) ?_
            rotate_left
            · (intro w hSw; (try dsimp only at hSw); first | (go_simp; done) | (go_simp; with_reducible rfl))
            try simp only [Act.put, qT, qZ, qS, qB, qY, qX]
            refine wpLast_take (i := 1) (v := ?_) rfl (by kernel_rfl) (by kernel_rfl) (by kernel_rfl) (by decide) (by kernel_rfl) (fun _ _ _ h => h) (Or.inl ⟨by rfl, ?_⟩) (by assumption) ?_
            rotate_left
            · (intro w hSw; (try dsimp only at hSw); first | (go_simp; done) | (go_simp; with_reducible rfl))
            try simp only [Act.put, qT, qZ, qS, qB, qY, qX]
            refine wpLast_take (i := 2) (v := ?_) rfl (by kernel_rfl) (by kernel_rfl) (by kernel_rfl) (by decide) (by kernel_rfl) (fun _ _ _ h => h) (Or.inl ⟨by rfl, ?_⟩) (by assumption) ?_
            rotate_left
            · (intro w hSw; (try dsimp only at hSw); first | (go_simp; done) | (go_simp; with_reducible rfl))
            try simp only [Act.put, qT, qZ, qS, qB, qY, qX]
            refine wpLast_take (i := 3) (v := ?_) rfl (by kernel_rfl) (by kernel_rfl) (by kernel_rfl) (by decide) (by kernel_rfl) (fun _ _ _ h => h) (Or.inl ⟨by rfl, ?_⟩) (by assumption) ?_
            rotate_left
            · (intro w hSw; (try dsimp only at hSw); first | (go_simp; done) | (go_simp; with_reducible rfl))
            try simp only [Act.put, qT, qZ, qS, qB, qY, qX]
            refine wpLast_take (i := 4) (v := ?_) rfl (by kernel_rfl) (by kernel_rfl) (by kernel_rfl) (by decide) (by kernel_rfl) (fun _ _ _ h => h) (Or.inl ⟨by rfl, ?_⟩) (by assumption) ?_
            rotate_left
            · (intro w hSw; (try dsimp only at hSw); first | (go_simp; done) | (go_simp; with_reducible rfl))
            try simp only [Act.put, qT, qZ, qS, qB, qY, qX]
            refine wpLast_take (i := 5) (v := ?_) rfl (by kernel_rfl) (by kernel_rfl) (by kernel_rfl) (by decide) (by kernel_rfl) (fun _ _ _ h => h) (Or.inl ⟨by rfl, ?_⟩) (by assumption) ?_
            rotate_left
            · (intro w hSw; (try dsimp only at hSw); first | (go_simp; done) | (go_simp; with_reducible rfl))
            try simp only [Act.put, qT, qZ, qS, qB, qY, qX]
            refine wpLast_take (i := 6) (v := ?_) rfl (by kernel_rfl) (by kernel_rfl) (by kernel_rfl) (by decide) (by kernel_rfl) (fun _ _ _ h => h) (Or.inl ⟨by rfl, ?_⟩) (by assumption) ?_
            rotate_left
            · (intro w hSw; (try dsimp only at hSw); first | (go_simp; done) | (go_simp; with_reducible rfl))
            try simp only [Act.put, qT, qZ, qS, qB, qY, qX]
            refine wpLast_take (i := 7) (v := ?_) rfl (by kernel_rfl) (by kernel_rfl) (by kernel_rfl) (by decide) (by kernel_rfl) (fun _ _ _ h => h) (Or.inl ⟨by rfl, ?_⟩) (by assumption) ?_
            rotate_left
            · (intro w hSw; (try dsimp only at hSw); first | (go_simp; done) | (go_simp; with_reducible rfl))
            try simp only [Act.put, qT, qZ, qS, qB, qY, qX]
            refine wpLast_take (i := 8) (v := ?_) rfl (by kernel_rfl) (by kernel_rfl) (by kernel_rfl) (by decide) (by kernel_rfl) (fun _ _ _ h => h) (Or.inl ⟨by rfl, ?_⟩) (by assumption) ?_
            rotate_left
            · (intro w hSw; (try dsimp only at hSw); first | (go_simp; done) | (go_simp; with_reducible rfl))
            try simp only [Act.put, qT, qZ, qS, qB, qY, qX]
            refine wpLast_take (i := 9) (v := ?_) rfl (by kernel_rfl) (by kernel_rfl) (by kernel_rfl) (by decide) (by kernel_rfl) (fun _ _ _ h => h) (Or.inl ⟨by rfl, ?_⟩) (by assumption) ?_
            rotate_left
            · (intro w hSw; (try dsimp only at hSw); first | (go_simp; done) | (go_simp; with_reducible rfl))
            try simp only [Act.put, qT, qZ, qS, qB, qY, qX]
            refine wpLast_one (i := 10) (by kernel_rfl) rfl (by decide) (fun K hK => ?_)
            go_simp
            refine hK.out _ _ (HV0.out _) (fun hHeld => ?_)
            clear hK K
            try simp only [Act.put, qT, qZ, qS, qB, qY, qX]
            refine wpLast_one (i := 11) (by kernel_rfl) rfl (by decide) (fun K hK => ?_)
            refine step_append_run rfl (.tmp 132) (.tmp 142) 57 57 rfl (.slice p acc.length c) (.slice (some ⟨(((V3).drewN nq).drew).heap.size, 0, none⟩) 1 1) (by simp [Act.eval]) (by simp [Act.eval]) _ _ HR2.out ?_
            refine hK.out _ _ HU.out (fun hHeld => ?_)
            clear hK K
            try simp only [Act.put, qT, qZ, qS, qB, qY, qX]
            refine wpLast_end (by kernel_rfl) rfl (by kernel_rfl) (fun K hK => ?_)
            go_simp
            refine hK.out _ _ ?_
            clear hK K
            try simp only [Act.put, qT, qZ, qS, qB, qY, qX]
            clear HS0 HV0
            go_wp2_with fail
            go_roundw
            case rel => exact HQT.out.1
            case measure => rw [hm0]; have := HQT.out.2; have := HLt.out; omega
end Go.Proofs.YtclkoffnjiiioaaGreatDoor
