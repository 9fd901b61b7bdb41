import Derived.Test.YtclkoffnjiiioaaGreatDoorG20JQ2
import Derived.Test.YtclkoffnjiiioaaGreatDoorG03JRd3
import Derived.Test.YtclkoffnjiiioaaGreatDoorG01IPm
import Derived.Test.YtclkoffnjiiioaaGreatDoorG02IOpen
namespace Go.Proofs.YtclkoffnjiiioaaGreatDoor
open Go.RowKit
set_option linter.unusedVariables false
set_option linter.unusedSimpArgs false
theorem opt_eq {α : Type} {a b : Option α} (h1 : ∀ x, a = some x → b = some x) (h2 : ∀ x, b = some x → a = some x) : a = b := by
  cases a with
  | none =>
    cases b with
    | none => rfl
    | some y => exact h2 y rfl
  | some x => exact (h1 x rfl).symm
/-- the head's line, as the document reads it -/
def headD (l : Bs) : Option (List Int) :=
  match tokP [99, 111, 100, 101] l with
  | none => none
  | some r =>
    match numsQ 3 r with
    | some (ns, []) => some ns
    | _ => none
theorem headD_eq (l : Bs) : headD l = headP l := by
  refine opt_eq (fun ns h => ?_) (fun ns h => ?_)
  · unfold headD at h
    split at h
    · cases h
    · next r h1 =>
      split at h
      · next ms h2 =>
        injection h with h
        subst h
        obtain ⟨a1, a2, a3⟩ := numsQ_some 3 r ms [] h2
        match ms, a2 with
        | [a, b, d], _ =>
          rw [tok_some h1, a1, List.append_nil]
          exact head_W a b d (a3 a (by simp)) (a3 b (by simp)) (a3 d (by simp))
      · cases h
  · obtain ⟨a, b, d, rfl, rfl, ha, hb, hd⟩ := head_some h
    unfold headD
    rw [tok_app]
    have := numsQ_W [a, b, d] [] (fun n hn => by simp at hn; rcases hn with rfl | rfl | rfl; exact ha; exact hb; exact hd) nn_nil
    rw [List.append_nil] at this
    simp only
    rw [show (3 : Nat) = [a, b, d].length from rfl, this]
/-- an instruction's line, as the document reads it -/
def insD (l : Bs) (k : Nat) : Option (List Int) :=
  match tokP (Lib.itoa (k : Int) ++ [32]) l with
  | none => none
  | some r1 =>
    if opN (r1.takeWhile (· != 32)) = 0 ∨ 4096 < k + 1 + opd (opN (r1.takeWhile (· != 32))) then none
    else
      match numsQ (opd (opN (r1.takeWhile (· != 32)))) (r1.dropWhile (· != 32)) with
      | some (ns, []) => some ((opN (r1.takeWhile (· != 32)) : Int) :: ns)
      | _ => none
theorem insD_eq (l : Bs) (k : Nat) : insD l k = insP l k := by
  refine opt_eq (fun vs h => ?_) (fun vs h => ?_)
  · unfold insD at h
    split at h
    · cases h
    · next r1 h2 =>
      split at h
      · cases h
      · next ho =>
        split at h
        · next ns h3 =>
          injection h with h
          subst h
          obtain ⟨a1, a2, a3⟩ := numsQ_some _ _ _ _ h3
          obtain ⟨c1, c2, c3⟩ := opN_some (b := r1.takeWhile (· != 32)) (fun e => ho (.inl e))
          rw [List.append_nil] at a1
          have e : l = insL k (opN (r1.takeWhile (· != 32))) ns := by
            unfold insL
            rw [c3, ← a1, List.append_assoc, List.takeWhile_append_dropWhile, tok_some h2]
          rw [e]
          exact ins_W k _ ns c1 c2 a2 a3 (by omega)
        · cases h
  · obtain ⟨o, ns, rfl, h1, h2, hl, hr, hk, rfl⟩ := ins_some h
    unfold insD insL
    rw [List.append_assoc, List.append_assoc, ← List.append_assoc (Lib.itoa (k : Int)), tok_app]
    simp only
    obtain ⟨e1, e2⟩ := take_app (p := (· != 32)) (nmB o).data.toList (numsW ns) (fun b hb => by simpa using ((nm_is o (by omega)).1 b hb).2) (fun b hb => by
      cases ns with
      | nil => simp [numsW] at hb
      | cons n ns => rw [nums_cons] at hb; have : 32 = b := by simpa using hb
                     rw [← this]; rfl)
    rw [e1, e2, (nm_is o (by omega)).2 h1, if_neg (by omega)]
    have := numsQ_W ns [] hr nn_nil
    rw [List.append_nil, hl] at this
    rw [this]
/-- may a literal be? -/
def chkQ (x : LitS) (k n : Nat) : Option (LitS × Nat) := if k = 64 then none else if topB (unS x) = true ∧ (gaT (unS x) n).1 = 0 then some (x, (gaT (unS x) n).2) else none
/-- a literal's line, as the document reads it -/
def litD (l : Bs) (k n : Nat) : Option (LitS × Nat) :=
  match tokP [116, 101, 120, 116, 32] l with
  | some r =>
    (match txtQ r with
    | some (x, []) => chkQ x k n
    | _ => none)
  | none =>
    match tokP [97, 114, 114, 97, 121, 32] l with
    | some r =>
      (match tokP [40] r with
      | none => none
      | some r' =>
        match arrQ (2 * r'.length + 2) r' 1 [] with
        | some (xs, [], _) => chkQ (.mk 4 noTx 0 xs) k n
        | _ => none)
    | none => none
theorem chk_some {x y : LitS} {k n m : Nat} (h : chkQ x k n = some (y, m)) : y = x ∧ k ≠ 64 ∧ topB (unS x) = true ∧ (gaT (unS x) n).1 = 0 ∧ m = (gaT (unS x) n).2 := by
  unfold chkQ at h
  split at h
  · cases h
  · next hk =>
    split at h
    · next hc =>
      simp only [Option.some.injEq, Prod.mk.injEq] at h
      exact ⟨h.1.symm, hk, hc.1, hc.2, h.2.symm⟩
    · cases h
theorem litD_eq (l : Bs) (k n : Nat) (hn : n ≤ 4096) : litD l k n = litP l k n := by
  refine opt_eq (fun p h => ?_) (fun p h => ?_)
  · obtain ⟨y, m⟩ := p
    have key : ∀ (x : LitS), l = litL (unS x) → NmT (unS x) → chkQ x k n = some (y, m) → litP l k n = some (y, m) := fun x e hN hc => by
      obtain ⟨rfl, hk, ht, hg, rfl⟩ := chk_some hc
      have := (lit_W (unS y) k n ht hN hg hn hk).1
      rw [st_un] at this
      rw [e]
      exact this
    unfold litD at h
    split at h
    · next r h1 =>
      split at h
      · next x h2 =>
        obtain ⟨s, rfl, e⟩ := txtQ_some h2
        refine key _ ?_ ?_ h
        · rw [unS_mk, unL_nil]
          unfold litL
          rw [wrT, if_pos (show LitT.kind (.mk 2 s 0 none 0 []) = 2 from rfl), if_neg (by decide), if_pos rfl, tok_some h1, e, List.append_nil]
        · rw [unS_mk, unL_nil]; exact nm_flat _ _ _ r64_0
      · cases h
    · split at h
      · next r h1 =>
        split at h
        · cases h
        · next r' h2 =>
          split at h
          · next xs d h3 =>
            obtain ⟨ys, b1, b2, b3⟩ := (backQ_all _).2 r' 1 [] xs [] d h3
            simp only [List.nil_append] at b1
            subst b1
            simp only [List.length_nil, decide_true] at b2
            refine key _ ?_ ?_ h
            · rw [unS_mk]
              unfold litL
              rw [if_neg (show ¬ LitT.kind (.mk 4 noTx 0 none 0 (unL xs)) = 2 by show ¬ (4 : Int) = 2; decide), wrT, if_neg (by decide), if_neg (by decide), if_neg (by decide), if_neg (by decide), if_neg (by decide), if_neg (by decide), tok_some h1, tok_some h2, b2]
              simp
            · rw [unS_mk]; exact .mk _ r64_0 b3
          · cases h
      · cases h
  · obtain ⟨x, m⟩ := p
    obtain ⟨e, ht, hg, hN, hm, hk⟩ := lit_some h hn
    have hchk : ∀ y, y = x → chkQ y k n = some (x, m) := fun y hy => by
      subst hy
      unfold chkQ
      rw [if_neg hk, if_pos ⟨ht, by rw [hg]⟩, hg]
    have hst := st_un x
    obtain ⟨h1 | h1, hmay⟩ := top_is ht
    · have hw := wrT_at (unS x)
      rw [if_neg (by omega), if_pos h1] at hw
      rcases may_is hmay with ⟨h | h, -⟩ | ⟨h, h2, h3, h4⟩ | ⟨h, -⟩ | ⟨h | h | h, -⟩
      all_goals try omega
      have hx : LitS.mk 2 (unS x).text 0 [] = x := by
        have e5 := hst
        rw [stT_mk, h1, h3, h4, stL_nil] at e5
        exact e5
      rw [e]
      unfold litD litL
      rw [if_pos h1, tok_app]
      simp only
      have := txtQ_W (unS x).text []
      rw [List.append_nil] at this
      rw [hw, this]
      simp only
      exact hchk _ hx
    · have hw := wrT_at (unS x)
      rcases may_is hmay with ⟨h | h, -⟩ | ⟨h, -⟩ | ⟨h, h2, h3, h4⟩ | ⟨h | h | h, -⟩
      all_goals try omega
      rw [if_neg (by omega), if_neg (by omega), if_neg (by omega), if_neg (by omega), if_neg (by omega), if_neg (by omega)] at hw
      have hx : LitS.mk 4 noTx 0 (stL (unS x).kids) = x := by
        have e5 := hst
        rw [stT_mk, h1, h3, h4] at e5
        exact e5
      have hg2 := hg
      rw [gaT_at, if_pos h1] at hg2
      rw [e]
      unfold litD litL
      rw [if_neg (by omega), show tokP [116, 101, 120, 116, 32] ([97, 114, 114, 97, 121, 32] ++ wrT (unS x)) = none from tok_ne (by decide), tok_app]
      simp only
      rw [hw, show (40 :: (wrL (unS x).kids true ++ [41]) : Bs) = [40] ++ (wrL (unS x).kids true ++ [41]) from rfl, tok_app]
      simp only
      obtain ⟨d2, k1, -, -⟩ := (readQ_all (2 * (wrL (unS x).kids true ++ [41]).length + 2)).2 (unS x).kids [] n 1 [] hN.kids (by rw [hg2]) hn (by omega) (by simp)
      simp only [List.length_nil, decide_true, List.nil_append] at k1
      rw [k1]
      simp only
      exact hchk _ hx
end Go.Proofs.YtclkoffnjiiioaaGreatDoor
namespace Go.Proofs.YtclkoffnjiiioaaGreatDoor
open Go.RowKit
set_option linter.unusedVariables false
set_option linter.unusedSimpArgs false
/-- does a literal's line begin so? -/
def hasL (l : Bs) : Bool := (tokP [116, 101, 120, 116, 32] l).isSome || (tokP [97, 114, 114, 97, 121, 32] l).isSome
/-- the lines, one behind the other, as the document reads them -/
def loopQ : Nat → Bs → Nat → List Int → List LitS → List Int → Nat → Nat → CoS ⊕ Nat
  | 0, _, _, _, _, _, _, _ => .inr 0
  | f + 1, t, st, hd, ls, ws, n, k =>
    if t = [] then (if st = 0 then .inr 1 else .inl ⟨hd, ls, ws⟩)
    else
      match cutP t with
      | none => .inr (k + 1)
      | some (l, b) =>
        if st = 0 then
          (match headD l with
          | none => .inr (k + 1)
          | some ns => loopQ f b 1 ns ls ws n (k + 1))
        else if st = 1 ∧ hasL l = true then
          (match litD l ls.length n with
          | none => .inr (k + 1)
          | some (x, n2) => loopQ f b 1 hd (ls ++ [x]) ws n2 (k + 1))
        else
          (match insD l ws.length with
          | none => .inr (k + 1)
          | some vs => loopQ f b 2 hd ls (ws ++ vs) n (k + 1))
def parQ (t : Bs) : CoS ⊕ Nat := loopQ (t.length + 1) t 0 [] [] [] 0 0
/-- what the lines come to -/
def finQ (hd : List Int) (ls : List LitS) (c : Bs × List Int × Nat) : CoS ⊕ Nat := if c.1 = [] then .inl ⟨hd, ls, c.2.1⟩ else .inr (c.2.2 + 1)
theorem cut_lt {t l b : Bs} (h : cutP t = some (l, b)) : b.length < t.length := by
  rw [(cut_some h).1, List.length_append, List.length_cons]
  omega
theorem loop2 : ∀ (f g : Nat) (t : Bs) (hd : List Int) (ls : List LitS) (ws : List Int) (n k : Nat), t.length < f → t.length < g → loopQ f t 2 hd ls ws n k = finQ hd ls (inssP g t ws k)
  | 0, g, t, hd, ls, ws, n, k, hf, hg => by omega
  | f + 1, 0, t, hd, ls, ws, n, k, hf, hg => by omega
  | f + 1, g + 1, t, hd, ls, ws, n, k, hf, hg => by
    rw [loopQ, inssP]
    by_cases ht : t = []
    · subst ht
      rw [if_pos rfl, cut_nil]
      rfl
    rw [if_neg ht]
    cases hc : cutP t with
    | none =>
      simp only
      unfold finQ
      rw [if_neg ht]
    | some p =>
      obtain ⟨l, b⟩ := p
      have hlt := cut_lt hc
      simp only
      rw [if_neg (by decide), if_neg (by simp), insD_eq]
      cases hi : insP l ws.length with
      | none =>
        simp only
        unfold finQ
        rw [if_neg ht]
      | some vs =>
        simp only
        exact loop2 f g b hd ls _ n (k + 1) (by omega) (by omega)
theorem has_nn {l : Bs} (h : hasL l = true) : NoN l := by
  unfold hasL at h
  rw [Bool.or_eq_true] at h
  rcases h with h | h
  · obtain ⟨r, hr⟩ := Option.isSome_iff_exists.1 h
    rw [tok_some hr]
    exact nn_cons (by decide)
  · obtain ⟨r, hr⟩ := Option.isSome_iff_exists.1 h
    rw [tok_some hr]
    exact nn_cons (by decide)
theorem has_none {l : Bs} (h : hasL l = false) (k n : Nat) : litP l k n = none := by
  unfold hasL at h
  rw [Bool.or_eq_false_iff] at h
  have h1 : tokP [116, 101, 120, 116, 32] l = none := by simpa using h.1
  have h2 : tokP [97, 114, 114, 97, 121, 32] l = none := by simpa using h.2
  unfold litP
  rw [h1, h2]
  split <;> rfl
theorem loop1 : ∀ (f g : Nat) (t : Bs) (hd : List Int) (ls : List LitS) (n k : Nat), t.length < f → t.length < g → n ≤ 4096 → ls.length ≤ 64 → loopQ f t 1 hd ls [] n k = finQ hd (litsP g t n ls k).2.1 (inssP ((litsP g t n ls k).1.length + 1) (litsP g t n ls k).1 [] (litsP g t n ls k).2.2)
  | 0, g, t, hd, ls, n, k, hf, hg, _, _ => by omega
  | f + 1, 0, t, hd, ls, n, k, hf, hg, _, _ => by omega
  | f + 1, g + 1, t, hd, ls, n, k, hf, hg, hn, hl => by
    rw [loopQ, litsP]
    by_cases ht : t = []
    · subst ht
      rw [if_pos rfl, cut_nil]
      rfl
    rw [if_neg ht]
    cases hc : cutP t with
    | none =>
      simp only
      rw [inssP, hc]
      simp only
      unfold finQ
      rw [if_neg ht]
    | some p =>
      obtain ⟨l, b⟩ := p
      have hlt := cut_lt hc
      simp only
      rw [if_neg (by decide)]
      by_cases hh : hasL l = true
      · rw [if_pos (by simp [hh]), litD_eq l ls.length n hn]
        cases hi : litP l ls.length n with
        | none =>
          simp only
          rw [inssP, hc]
          simp only
          rw [ins_none (has_nn hh)]
          simp only
          unfold finQ
          rw [if_neg ht]
        | some q =>
          obtain ⟨x, n2⟩ := q
          obtain ⟨-, -, -, -, hn2, hk⟩ := lit_some hi hn
          simp only
          exact loop1 f g b hd (ls ++ [x]) n2 (k + 1) (by omega) (by omega) hn2 (by simp; omega)
      · rw [if_neg (by simp [hh]), has_none (by simpa using hh) ls.length n, insD_eq]
        simp only
        rw [inssP, hc]
        simp only [List.length_nil]
        cases hi : insP l 0 with
        | none =>
          simp only
          unfold finQ
          rw [if_neg ht]
        | some vs =>
          simp only
          exact loop2 f t.length b hd ls _ n (k + 1) (by omega) hlt
/-- the document's reading is the program's -/
theorem parQ_eq (t : Bs) : parQ t = parP t := by
  unfold parQ parP
  rw [loopQ]
  by_cases ht : t = []
  · subst ht
    rfl
  rw [if_neg ht]
  cases hc : cutP t with
  | none => rfl
  | some p =>
    obtain ⟨l, b⟩ := p
    have hlt := cut_lt hc
    simp only
    rw [if_pos trivial, headD_eq]
    cases hh : headP l with
    | none => rfl
    | some ns =>
      simp only
      rw [loop1 t.length (b.length + 1) b ns [] 0 1 hlt (by omega) (by omega) (by simp)]
      rfl
end Go.Proofs.YtclkoffnjiiioaaGreatDoor
namespace Go.Proofs.YtclkoffnjiiioaaGreatDoor
open Go.RowKit
set_option linter.unusedVariables false
set_option linter.unusedSimpArgs false
attribute [local go_sem ↓] Go.wp_at_zero Go.wp_at_succ
/-- the document's reader, its cells -/
def qc (S : Bs) (a d : Nat) (bad : Bool) : Array Value := #[.string (bA S), .int .i64 (a : Int), .int .i64 (d : Int), .bool bad]
/-- the document's reader in memory -/
structure QB (W : World) (r : Nat) (S : Bs) (a d : Nat) (bad : Bool) : Prop where
  blk : W.heap[r]? = some (.cells (qc S a d bad) 91 (0, 0))
  le : a ≤ S.length
  small : S.length ≤ 2000000 ∧ d ≤ 2000000
theorem QB.lt {W : World} {r : Nat} {S : Bs} {a d : Nat} {bad : Bool} (h : QB W r S a d bad) : r < W.heap.size := lt_of_heap h.blk
theorem QB.cl {W : World} {r : Nat} {S : Bs} {a d : Nat} {bad : Bool} (h : QB W r S a d bad) (i : Nat) : W.cell? ⟨r, i, none⟩ = (qc S a d bad)[i]? := cell_in h.blk i
theorem QB.fz {W : World} {r : Nat} {S : Bs} {a d : Nat} {bad : Bool} (h : QB W r S a d bad) (i : Nat) : W.frozen? ⟨r, i, none⟩ = false := frozen_in h.blk i
theorem QB.fr {W W' : World} {r : Nat} {S : Bs} {a d : Nat} {bad : Bool} {L : List Nat} (h : QB W r S a d bad) (f : Fr L W W') (hn : r ∉ L) : QB W' r S a d bad := ⟨(f.block r h.lt hn).trans h.blk, h.le, h.small⟩
theorem QB.setAt {W : World} {r : Nat} {S : Bs} {a d : Nat} {bad : Bool} (h : QB W r S a d bad) (x : Nat) (hx : x ≤ S.length) : QB (W.setCell ⟨r, 1, none⟩ (.int .i64 (x : Int))) r S x d bad := ⟨set_in h.blk 1 _, hx, h.small⟩
theorem QB.setDeep {W : World} {r : Nat} {S : Bs} {a d : Nat} {bad : Bool} (h : QB W r S a d bad) (x : Nat) (hx : x ≤ 2000000) : QB (W.setCell ⟨r, 2, none⟩ (.int .i64 (x : Int))) r S a x bad := ⟨set_in h.blk 2 _, h.le, h.small.1, hx⟩
theorem QB.setBad {W : World} {r : Nat} {S : Bs} {a d : Nat} {bad : Bool} (h : QB W r S a d bad) (x : Bool) : QB (W.setCell ⟨r, 3, none⟩ (.bool x)) r S a d x := ⟨set_in h.blk 3 _, h.le, h.small⟩
theorem fr_set (W : World) (r i : Nat) (v : Value) : Fr [r] W (W.setCell ⟨r, i, none⟩ v) := Fr.setCell (S := [r]) W ⟨r, i, none⟩ v (by simp)
/-- does a piece stand ahead? -/
def hasQ (S : Bs) (a : Nat) (bad : Bool) (p : Bs) : Bool := !bad && Lib.hasPrefix (S.drop a) p
theorem ext_is (S : Bs) (a b : Nat) (hab : a ≤ b) (hb : b ≤ S.length) : (bA S).extract a b = bA ((S.drop a).take (b - a)) := by
  apply ByteArray.ext
  rw [ByteArray.data_extract]
  apply Array.toList_inj.1
  simp [bA]
theorem ba_eqb (x y : Bs) : ((bA x).toList == (bA y).toList) = decide (x = y) := by
  rw [bA_tl, bA_tl]
  by_cases h : x = y
  · simp [h]
  · simp [h]
theorem pre_take (r p : Bs) (h : p.length ≤ r.length) : decide (r.take p.length = p) = Lib.hasPrefix r p := by
  unfold Lib.hasPrefix
  by_cases hp : r.take p.length = p
  · rw [decide_eq_true hp]
    have : p <+: r := ⟨r.drop p.length, by conv => lhs; arg 1; rw [← hp]
                                           exact List.take_append_drop _ _⟩
    exact (List.isPrefixOf_iff_prefix.2 this).symm
  · rw [decide_eq_false hp]
    cases hb : p.isPrefixOf r with
    | false => rfl
    | true =>
      obtain ⟨t, rfl⟩ := List.isPrefixOf_iff_prefix.1 hb
      exact absurd (by simp) hp
set_option maxHeartbeats 2000000 in
theorem has_ok (W : World) (r : Nat) (S : Bs) (a d : Nat) (bad : Bool) (h : QB W r S a d bad) (p : Bs) (hp : p.length ≤ 100) : Calls Tryz.prog 42 #[pt r, .string (bA p)] W fun e w' => e = .returned (.bool (hasQ S a bad p)) ∧ Fr [] W w' := by
  have c0 : W.cell? ⟨r, 0, none⟩ = some (.string (bA S)) := h.cl 0
  have c1 : W.cell? ⟨r, 1, none⟩ = some (.int .i64 (a : Int)) := h.cl 1
  have c3 : W.cell? ⟨r, 3, none⟩ = some (.bool bad) := h.cl 3
  have hsz := h.small.1
  have hle := h.le
  have hps : (bA p).size = p.length := bA_size p
  have hss : (bA S).size = S.length := bA_size S
  cases bad with
  | true =>
    clear h
    go_enter Tryz.func42, Tryz.ntmps42
    go_wp2_with fail
    go_quiet (fail)
    rename_i nq
    go_wp2_with fail
    go_ret
    exact ⟨rfl, (Fr.refl [] W).dn nq⟩
  | false =>
    have hwr : IntKind.i64.wrap ((a : Int) + (p.length : Int)) = (a : Int) + (p.length : Int) := iwrap_id (by omega) (by omega)
    by_cases hl : a + p.length ≤ S.length
    · have hd : decide ((a : Int) + (p.length : Int) ≤ (S.length : Int)) = true := decide_eq_true (by omega)
      have a0 : (0 : Int) ≤ (a : Int) := by omega
      have a1 : (a : Int) ≤ (a : Int) + (p.length : Int) := by omega
      have a2 : (a : Int) + (p.length : Int) ≤ (S.length : Int) := by omega
      have HX : Hid ((((bA S).extract a (a + p.length)).toList == (bA p).toList) = hasQ S a false p) := by
        rw [ext_is S a _ (by omega) hl, ba_eqb, Nat.add_sub_cancel_left, pre_take _ _ (by rw [List.length_drop]; omega)]
        rfl
      clear h
      go_enter Tryz.func42, Tryz.ntmps42
      go_wp2_with fail
      go_quiet (fail)
      rename_i nq
      go_wp2_with fail
      go_ret
      exact ⟨by rw [HX.out]; rfl, (Fr.refl [] W).dn nq⟩
    · have hd : decide ((a : Int) + (p.length : Int) ≤ (S.length : Int)) = false := decide_eq_false (by omega)
      have HX : Hid (false = hasQ S a false p) := by
        unfold hasQ Lib.hasPrefix
        cases hb : p.isPrefixOf (S.drop a) with
        | false => rfl
        | true =>
          obtain ⟨t, ht⟩ := List.isPrefixOf_iff_prefix.1 hb
          have := congrArg List.length ht
          rw [List.length_append, List.length_drop] at this
          omega
      clear h
      go_enter Tryz.func42, Tryz.ntmps42
      go_wp2_with fail
      go_quiet (fail)
      rename_i nq
      go_wp2_with fail
      go_ret
      exact ⟨by rw [← HX.out]; rfl, (Fr.refl [] W).dn nq⟩
/-- what eating a piece leaves -/
def EatR (W : World) (r : Nat) (S : Bs) (a d : Nat) (bad : Bool) (p : Bs) (e : Ending) (w' : World) : Prop :=
  e = .returned (.tuple #[]) ∧ Fr [r] W w' ∧ (if hasQ S a bad p = true then QB w' r S (a + p.length) d bad else QB w' r S a d true)
set_option maxHeartbeats 2000000 in
theorem eat_ok (W : World) (r : Nat) (S : Bs) (a d : Nat) (bad : Bool) (h : QB W r S a d bad) (p : Bs) (hp : p.length ≤ 100) : Calls Tryz.prog 39 #[pt r, .string (bA p)] W fun e w' => EatR W r S a d bad p e w' := by
  have H := mkHid (has_ok W r S a d bad h p hp)
  have HB : Hid (∀ V, Fr [] W V → QB V r S a d bad) := fun V f => h.fr f (by simp)
  have hsz := h.small.1
  have hle := h.le
  have hps : (bA p).size = p.length := bA_size p
  clear h
  unfold EatR
  cases hb : hasQ S a bad p with
  | false =>
    rw [hb] at H
    clear hb
    go_enter Tryz.func39, Tryz.ntmps39
    go_wp2_with fail
    refine H.out.mono ?_
    rintro e w1 ⟨rfl, f1⟩
    have hq := HB.out w1 f1
    have c3 : w1.cell? ⟨r, 3, none⟩ = some (.bool bad) := hq.cl 3
    have z3 := hq.fz 3
    have HE : Hid (Fr [r] W (w1.setCell ⟨r, 3, none⟩ (.bool true)) ∧ QB (w1.setCell ⟨r, 3, none⟩ (.bool true)) r S a d true) := ⟨(f1.mono (S' := [r]) (by simp)).trans (fr_set w1 r 3 _) (by simp), hq.setBad true⟩
    clear f1 hq HB
    go_wp2_with fail
    refine bodyPost_ret (results_none rfl _ _ _) rfl ?_
    exact ⟨rfl, HE.out.1, by simpa using HE.out.2⟩
  | true =>
    rw [hb] at H
    have hlen : a + p.length ≤ S.length := by
      unfold hasQ at hb
      rw [Bool.and_eq_true] at hb
      obtain ⟨t, ht⟩ := List.isPrefixOf_iff_prefix.1 hb.2
      have := congrArg List.length ht
      rw [List.length_append, List.length_drop] at this
      omega
    have hwr : IntKind.i64.wrap ((a : Int) + (p.length : Int)) = (a : Int) + (p.length : Int) := iwrap_id (by omega) (by omega)
    clear hb
    go_enter Tryz.func39, Tryz.ntmps39
    go_wp2_with fail
    refine H.out.mono ?_
    rintro e w1 ⟨rfl, f1⟩
    have hq := HB.out w1 f1
    have c1 : w1.cell? ⟨r, 1, none⟩ = some (.int .i64 (a : Int)) := hq.cl 1
    have z1 := hq.fz 1
    have HE : Hid (Fr [r] W (w1.setCell ⟨r, 1, none⟩ (.int .i64 ((a : Int) + (p.length : Int)))) ∧ QB (w1.setCell ⟨r, 1, none⟩ (.int .i64 ((a : Int) + (p.length : Int)))) r S (a + p.length) d bad) := ⟨(f1.mono (S' := [r]) (by simp)).trans (fr_set w1 r 1 _) (by simp), by have := hq.setAt (a + p.length) hlen; rwa [show (((a + p.length : Nat)) : Int) = (a : Int) + (p.length : Int) by omega] at this⟩
    clear f1 hq HB
    go_wp2_with fail
    go_end0
    exact ⟨rfl, HE.out.1, by simpa using HE.out.2⟩
set_option maxHeartbeats 2000000 in
theorem ends_ok (W : World) (r : Nat) (S : Bs) (a d : Nat) (bad : Bool) (h : QB W r S a d bad) : Calls Tryz.prog 41 #[pt r] W fun e w' => e = .returned (.bool (!bad && decide (S.drop a = []))) ∧ Fr [] W w' := by
  have c0 : W.cell? ⟨r, 0, none⟩ = some (.string (bA S)) := h.cl 0
  have c1 : W.cell? ⟨r, 1, none⟩ = some (.int .i64 (a : Int)) := h.cl 1
  have c3 : W.cell? ⟨r, 3, none⟩ = some (.bool bad) := h.cl 3
  have hss : (bA S).size = S.length := bA_size S
  have hx : ((a : Int) == (S.length : Int)) = decide (S.drop a = []) := by
    have hle := h.le
    by_cases ha : a = S.length
    · rw [decide_eq_true (by rw [ha, List.drop_length])]
      simp [ha]
    · rw [decide_eq_false (by rw [List.drop_eq_nil_iff]; omega)]
      simpa using (show ¬ (a : Int) = (S.length : Int) by omega)
  have HX := mkHid hx
  clear h hx
  cases bad with
  | true =>
    go_enter Tryz.func41, Tryz.ntmps41
    go_wp2_with fail
    go_quiet (fail)
    rename_i nq
    go_wp2_with fail
    go_ret
    exact ⟨rfl, (Fr.refl [] W).dn nq⟩
  | false =>
    go_enter Tryz.func41, Tryz.ntmps41
    go_wp2_with fail
    go_quiet (fail)
    rename_i nq
    go_wp2_with fail
    go_ret
    exact ⟨by rw [← HX.out]; rfl, (Fr.refl [] W).dn nq⟩
end Go.Proofs.YtclkoffnjiiioaaGreatDoor
namespace Go.Proofs.YtclkoffnjiiioaaGreatDoor
open Go.RowKit
set_option linter.unusedVariables false
set_option linter.unusedSimpArgs false
attribute [local go_sem ↓] Go.wp_at_zero Go.wp_at_succ
theorem tw_get {p : UInt8 → Bool} : ∀ (l : Bs), (∀ j, j < (l.takeWhile p).length → ∃ b, l[j]? = some b ∧ p b = true) ∧ ((l.takeWhile p).length = l.length ∨ ∃ b, l[(l.takeWhile p).length]? = some b ∧ p b = false)
  | [] => ⟨fun j hj => by simp at hj, .inl rfl⟩
  | c :: l => by
    obtain ⟨h1, h2⟩ := tw_get l
    by_cases hc : p c = true
    · rw [List.takeWhile_cons_of_pos hc, List.length_cons]
      refine ⟨fun j hj => ?_, ?_⟩
      · cases j with
        | zero => exact ⟨c, rfl, hc⟩
        | succ j => exact h1 j (by omega)
      · rcases h2 with h2 | ⟨b, h2, h3⟩
        · left; rw [List.length_cons, h2]
        · right; exact ⟨b, h2, h3⟩
    · rw [List.takeWhile_cons_of_neg hc]
      exact ⟨fun j hj => by simp at hj, .inr ⟨c, rfl, by simpa using hc⟩⟩
/-- where the digits begin -/
def sgn (S : Bs) (a : Nat) : Nat := if S[a]? = some 45 then 1 else 0
theorem piece_len (S : Bs) (a : Nat) : (pieceQ (S.drop a)).length = sgn S a + ((S.drop (a + sgn S a)).takeWhile dgB).length := by
  have h0 : S[a]? = (S.drop a)[0]? := by rw [List.getElem?_drop]; rfl
  unfold sgn
  rw [h0]
  cases hr : S.drop a with
  | nil =>
    have : S.drop (a + 0) = [] := by rw [Nat.add_zero]; exact hr
    simp [pieceQ, hr]
  | cons c t =>
    rw [piece_cons, List.getElem?_cons_zero]
    by_cases hc : c = 45
    · subst hc
      rw [if_pos rfl, if_pos rfl, List.length_cons, ← List.drop_drop, hr, List.drop_succ_cons, List.drop_zero]
      omega
    · rw [if_neg hc, if_neg (by simpa using hc), Nat.add_zero, hr]
      omega
theorem piece_dg : ∀ (r : Bs), ∀ b ∈ pieceQ r, b ≠ 45 → 48 ≤ b.toNat ∧ b.toNat ≤ 57
  | [], b, h, _ => by cases h
  | c :: r, b, h, hb => by
    have key : ∀ l : Bs, b ∈ l.takeWhile dgB → 48 ≤ b.toNat ∧ b.toNat ≤ 57 := fun l hm => by
      have := List.all_eq_true.1 (List.all_takeWhile (p := dgB) (l := l)) b hm
      unfold dgB at this
      rw [Bool.and_eq_true] at this
      exact ⟨of_decide_eq_true this.1, of_decide_eq_true this.2⟩
    rw [piece_cons] at h
    split at h
    · rcases List.mem_cons.1 h with h | h
      · exact absurd h hb
      · exact key _ h
    · exact key _ h
theorem byte_at (S : Bs) (i : Nat) (b : UInt8) (h : S[i]? = some b) : ∃ hi : i < (bA S).size, (bA S)[i] = b := by
  obtain ⟨hi, e⟩ := List.getElem?_eq_some_iff.1 h
  exact ⟨by rw [bA_size]; exact hi, e⟩
theorem u8wrap (n : Nat) (h : n < 256) : IntKind.u8.wrap (n : Int) = (n : Int) := by
  simp [IntKind.wrap, IntKind.signed, IntKind.bits]
  omega
theorem w64 (n : Int) : IntKind.i64.wrap n = wrap64 n := by simp only [wrap64, IntKind.wrap_i64]
theorem val_r64 (p : Bs) : r64 (valQ p) := by
  unfold valQ
  split
  · exact wrap_r64 _
  · exact acc_r64 _ _ r64_0
/-- what the document's number leaves -/
def NuR (W : World) (r : Nat) (S : Bs) (a d : Nat) (bad : Bool) (e : Ending) (w' : World) : Prop :=
  Fr [r] W w' ∧ match numQ (S.drop a) with
    | some (v, _) => e = .returned (.int .i64 v) ∧ QB w' r S (a + (pieceQ (S.drop a)).length) d bad
    | none => e = .returned (.int .i64 0) ∧ QB w' r S a d true
end Go.Proofs.YtclkoffnjiiioaaGreatDoor
namespace Go.Proofs.YtclkoffnjiiioaaGreatDoor
open Go.RowKit
set_option linter.unusedVariables false
set_option linter.unusedSimpArgs false
attribute [local go_sem ↓] Go.wp_at_zero Go.wp_at_succ
theorem hex_at : ∀ (k : Fin 16), Lib.indexByte hexT (hexD k.val) = ((k.val : Nat) : Int) := by decide +kernel
theorem hex_none : ∀ n : Fin 256, (∀ k : Fin 16, hexD k.val ≠ UInt8.ofNat n.val) → Lib.indexByte hexT (UInt8.ofNat n.val) = -1 := by decide +kernel
theorem ix16i (k : Nat) (hk : k < 16) (w : World) : (Instr.index 9 (.string ⟨#[48, 49, 50, 51, 52, 53, 54, 55, 56, 57, 97, 98, 99, 100, 101, 102]⟩) (.int .i64 (k : Int))).run Tryz.prog w = .ok (.int .u8 ((hexD k).toNat : Int)) w := by
  rcases (show k = 0 ∨ k = 1 ∨ k = 2 ∨ k = 3 ∨ k = 4 ∨ k = 5 ∨ k = 6 ∨ k = 7 ∨ k = 8 ∨ k = 9 ∨ k = 10 ∨ k = 11 ∨ k = 12 ∨ k = 13 ∨ k = 14 ∨ k = 15 by omega) with rfl | rfl | rfl | rfl | rfl | rfl | rfl | rfl | rfl | rfl | rfl | rfl | rfl | rfl | rfl | rfl <;> kernel_rfl
set_option maxHeartbeats 2000000 in
/-- a digit's number -/
theorem digit_ok (c : UInt8) (W : World) : Calls Tryz.prog 59 #[.int .u8 (c.toNat : Int)] W fun e w' => e = .returned (.int .i64 (Lib.indexByte hexT c)) ∧ w' = W := by
  go_enter Tryz.func59, Tryz.ntmps59
  go_wp2_with fail
  go_loopw [3] (fun q wr => wr = W ∧ ∃ k : Nat, k ≤ 16 ∧ q = .int .i64 (k : Int) ∧ Hid (∀ j, j < k → hexD j ≠ c)) (fun q _ => 16 - (intOf q).toNat)
  case atStart => exact ⟨rfl, 0, by omega, rfl, fun j hj => by omega⟩
  case round =>
    obtain ⟨rfl, k, hk, rfl, hne⟩ := hrel
    by_cases hlt : k < 16
    · have h1 := ix16i k hlt
      have hd : decide ((k : Int) < 16) = true := decide_eq_true (by omega)
      have hwk : IntKind.i64.wrap ((k : Int) + 1) = (k : Int) + 1 := iwrap_id (by omega) (by omega)
      by_cases hc : hexD k = c
      · have hq : (((hexD k).toNat : Int) == (c.toNat : Int)) = true := by rw [hc]; simp
        have HR : Hid (Lib.indexByte hexT c = (k : Int)) := by rw [← hc]; exact hex_at ⟨k, hlt⟩
        clear hc hne
        go_wp2_with fail
        go_ret
        exact ⟨by rw [HR.out]; rfl, rfl⟩
      · have hq : (((hexD k).toNat : Int) == (c.toNat : Int)) = false := by
          have : ¬ ((hexD k).toNat : Int) = (c.toNat : Int) := fun e => hc (UInt8.toNat_inj.1 (by omega))
          simpa using this
        have HN : Hid (∀ j, j < k + 1 → hexD j ≠ c) := fun j hj => by
          rcases Nat.lt_or_ge j k with q | q
          · exact hne.out j q
          · rw [show j = k by omega]; exact hc
        clear hc hne
        go_wp2_with fail
        go_roundw
        case rel => exact ⟨trivial, k + 1, by omega, by congr 1, HN.out⟩
        case measure => simp [intOf]; omega
    · have hk16 : k = 16 := by omega
      subst hk16
      have HR : Hid (Lib.indexByte hexT c = -1) := by
        have := hex_none ⟨c.toNat, c.toNat_lt⟩ (fun j => by simp; exact hne.out j.val j.isLt)
        show _ = _
        simpa using this
      clear hne hlt hk
      go_wp2_with fail
      go_ret
      exact ⟨by rw [HR.out]; rfl, rfl⟩
end Go.Proofs.YtclkoffnjiiioaaGreatDoor
namespace Go.Proofs.YtclkoffnjiiioaaGreatDoor
open Go.RowKit
set_option linter.unusedVariables false
set_option linter.unusedSimpArgs false
attribute [local go_sem ↓] Go.wp_at_zero Go.wp_at_succ
def okB (top : Bool) (t : LitT) : Bool := if top then topB t else mayB t
/-- what looking at one literal comes to -/
def lit1 (top : Bool) (t : LitT) (n : Nat) : Int × Nat := if okB top t = false then (120, n) else if top then gaT t n else if 4096 < n + 1 then (73, n + 1) else gaT t (n + 1)
theorem gaL_lit (t : LitT) (ts : List LitT) (n : Nat) : gaL (t :: ts) n = if (lit1 false t n).1 ≠ 0 then lit1 false t n else gaL ts (lit1 false t n).2 := by
  rw [gaL_cons]
  unfold lit1 okB
  simp only [Bool.false_eq_true, if_false]
  by_cases h1 : mayB t = false
  · rw [if_pos h1, if_pos h1, if_pos (show (120 : Int) ≠ 0 by decide)]
  · rw [if_neg h1, if_neg h1]
    by_cases h2 : 4096 < n + 1
    · rw [if_pos h2, if_pos h2, if_pos (show (73 : Int) ≠ 0 by decide)]
    · rw [if_neg h2, if_neg h2]
def wkc (n : Nat) (er : Int) : Array Value := #[.int .i64 (n : Int), .int .i64 er]
set_option maxHeartbeats 1000000 in
theorem rfails_ok (x n : Nat) (e : Int) (V : World) (h : V.heap[x]? = some (.cells (wkc n 0) 70 (0, 0))) : Calls Tryz.prog 62 #[.pointer (some ⟨x, 0, none⟩), .int .i64 e] V fun en w' => en = .returned (.tuple #[]) ∧ Fr [x] V w' ∧ w'.heap[x]? = some (.cells (wkc n e) 70 (0, 0)) := by
  have c1 : V.cell? ⟨x, 1, none⟩ = some (.int .i64 0) := cell_in h 1
  have z1 := frozen_in h 1
  have HE : Hid (Fr [x] V (V.setCell ⟨x, 1, none⟩ (.int .i64 e)) ∧ (V.setCell ⟨x, 1, none⟩ (.int .i64 e)).heap[x]? = some (.cells (wkc n e) 70 (0, 0))) := ⟨Fr.setCell (S := [x]) V ⟨x, 1, none⟩ _ (by simp), by rw [set_in h 1 _]; rfl⟩
  clear h
  go_enter Tryz.func62, Tryz.ntmps62
  go_wp2_with fail
  go_end0
  exact ⟨rfl, HE.out⟩
/-- what looking at a literal leaves -/
def LtP (V : World) (x : Nat) (R : Int × Nat) (e : Ending) (w' : World) : Prop := e = .returned (.tuple #[]) ∧ Fr [x] V w' ∧ w'.heap[x]? = some (.cells (wkc R.2 R.1) 70 (0, 0))
set_option maxRecDepth 100000 in
set_option maxHeartbeats 1000000 in
theorem literal_no (x n : Nat) (er : Int) (hn : er ≠ 0) (t : LitT) (top : Bool) (V : World) (h : V.heap[x]? = some (.cells (wkc n er) 70 (0, 0))) : Calls Tryz.prog 45 #[.pointer (some ⟨x, 0, none⟩), .agg #[.int .i64 t.kind, .string t.text, .int .i64 t.num, t.items], .bool top] V fun e w' => LtP V x (er, n) e w' := by
  have hxl := lt_of_heap h
  have HE : Hid (∀ o, LtP V x (er, n) (.returned (.tuple #[])) (V.alloc o)) := fun o => ⟨rfl, (Fr.alloc [x] V o), al_old h o⟩
  have c1 : V.cell? ⟨x, 1, none⟩ = some (.int .i64 er) := cell_in h 1
  have q1 : (er != 0) = true := by simpa using hn
  unfold LitT.items
  generalize t.kids.length = kl at *
  clear h
  go_enter Tryz.func45, Tryz.ntmps45
  go_wp2_with fail
  go_end0
  exact HE.out _
end Go.Proofs.YtclkoffnjiiioaaGreatDoor

