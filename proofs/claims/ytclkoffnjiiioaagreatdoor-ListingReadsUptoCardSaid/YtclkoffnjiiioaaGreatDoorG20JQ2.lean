import Derived.Test.YtclkoffnjiiioaaGreatDoorG05CLitX
import Derived.Laws.Closers25b
namespace Go.Proofs.YtclkoffnjiiioaaGreatDoor
open Go.RowKit
set_option linter.unusedVariables false
set_option linter.unusedSimpArgs false
/-- a digit -/
def dgB (b : UInt8) : Bool := decide (48 ≤ b.toNat) && decide (b.toNat ≤ 57)
theorem dgB_dg {b : UInt8} (h : isDg b) : dgB b = true := by unfold dgB; rw [decide_eq_true h.1, decide_eq_true h.2]; rfl
theorem dgB_nb {b : UInt8} (h : isNB b = false) : dgB b = false := by
  cases hb : dgB b with
  | false => rfl
  | true =>
    unfold dgB at hb
    rw [Bool.and_eq_true] at hb
    have := nb_dg (b := b) ⟨of_decide_eq_true hb.1, of_decide_eq_true hb.2⟩
    rw [h] at this
    cases this
/-- the document's number: what it takes -/
def pieceQ : Bs → Bs
  | [] => []
  | c :: r => if c = 45 then 45 :: r.takeWhile dgB else (c :: r).takeWhile dgB
/-- what its digits come to, below 0 -/
def accQ : Bs → Int → Int
  | [], n => n
  | b :: r, n => accQ r (if b = 45 then n else IntKind.i64.wrap (IntKind.i64.wrap (10 * n) - ((b.toNat - 48 : Nat) : Int)))
def valQ (p : Bs) : Int := if p ≠ [] ∧ p.head? ≠ some 45 then IntKind.i64.wrap (-(accQ p 0)) else accQ p 0
def numQ (r : Bs) : Option (Int × Bs) := if Lib.itoa (valQ (pieceQ r)) = pieceQ r then some (valQ (pieceQ r), r.drop (pieceQ r).length) else none
theorem tw_pre {p : UInt8 → Bool} (r : Bs) : r = r.takeWhile p ++ r.drop (r.takeWhile p).length := by
  have h := List.takeWhile_append_dropWhile (p := p) (l := r)
  have h2 : r.drop (r.takeWhile p).length = r.dropWhile p := by
    conv => lhs; arg 2; rw [← h]
    exact List.drop_left
  rw [h2, h]
theorem piece_cons (c : UInt8) (r : Bs) : pieceQ (c :: r) = if c = 45 then 45 :: r.takeWhile dgB else (c :: r).takeWhile dgB := rfl
theorem piece_pre : ∀ r : Bs, r = pieceQ r ++ r.drop (pieceQ r).length
  | [] => rfl
  | c :: r => by
    rw [piece_cons]
    split
    · next h =>
      subst h
      rw [List.cons_append, List.length_cons, List.drop_succ_cons, ← tw_pre]
    · exact tw_pre _
theorem wrap_r64 (n : Int) : r64 (IntKind.i64.wrap n) := by
  have := wrap_within .i64 n
  unfold r64
  exact this
theorem acc_r64 : ∀ (p : Bs) (n : Int), r64 n → r64 (accQ p n)
  | [], n, h => h
  | b :: r, n, h => by
    rw [accQ]
    refine acc_r64 r _ ?_
    split
    · exact h
    · exact wrap_r64 _
theorem numQ_some {r r' : Bs} {v : Int} (h : numQ r = some (v, r')) : r = Lib.itoa v ++ r' ∧ r64 v := by
  unfold numQ at h
  split at h
  · next he =>
    simp only [Option.some.injEq, Prod.mk.injEq] at h
    obtain ⟨rfl, rfl⟩ := h
    refine ⟨by rw [he]; exact piece_pre r, ?_⟩
    unfold valQ
    split
    · exact wrap_r64 _
    · exact acc_r64 _ _ r64_0
  · cases h
theorem acc_app : ∀ (a b : Bs) (n : Int), accQ (a ++ b) n = accQ b (accQ a n)
  | [], b, n => rfl
  | c :: a, b, n => by rw [List.cons_append, accQ, accQ, acc_app a b]
theorem acc_one (d : Nat) (h : d < 10) (n : Int) (h1 : -9223372036854775808 ≤ 10 * n - d) (h2 : n ≤ 0) : accQ [UInt8.ofNat (48 + d)] n = 10 * n - d := by
  have e := dg_of d h
  have hne : UInt8.ofNat (48 + d) ≠ 45 := fun e2 => by
    have := e.1
    rw [e2] at this
    unfold isDg at this
    exact absurd this.1 (by decide)
  rw [accQ, accQ, if_neg hne, e.2, iwrap_id (n := 10 * n) (by omega) (by omega), iwrap_id (by omega) (by omega)]
theorem acc_dec : ∀ u : Nat, u ≤ 9223372036854775808 → accQ (Lib.decDigits u) 0 = -(u : Int) := by
  intro u
  induction u using Nat.strongRecOn with
  | _ u ih =>
    intro hu
    rw [Lib.decDigits]
    split
    · next h =>
      rw [acc_one u h 0 (by omega) (by omega)]
      omega
    · rw [acc_app, ih (u / 10) (by omega) (by omega), acc_one (u % 10) (by omega) _ (by omega) (by omega)]
      omega
theorem dec_tw (u : Nat) (r : Bs) (hr : NoN r) : (Lib.decDigits u ++ r).takeWhile dgB = Lib.decDigits u :=
  (take_app (p := dgB) (Lib.decDigits u) r (fun b hb => dgB_dg (dec_dg u b hb)) (fun b hb => dgB_nb (hr b hb))).1
theorem piece_itoa (v : Int) (r : Bs) (hr : NoN r) : pieceQ (Lib.itoa v ++ r) = Lib.itoa v := by
  unfold Lib.itoa
  split
  · rw [List.cons_append]
    rw [piece_cons, if_pos rfl, dec_tw _ _ hr]
  · have h := dec_tw v.toNat r hr
    cases hd : Lib.decDigits v.toNat with
    | nil => exact absurd hd (dec_ne _)
    | cons c s =>
      have hc := dec_dg v.toNat c (by rw [hd]; simp)
      rw [hd] at h
      rw [List.cons_append] at h ⊢
      rw [piece_cons, if_neg (by rintro rfl; unfold isDg at hc; exact absurd hc.1 (by decide)), h]
theorem val_itoa (v : Int) (h : r64 v) : valQ (Lib.itoa v) = v := by
  unfold r64 at h
  unfold Lib.itoa
  by_cases hn : v < 0
  · rw [if_pos hn]
    unfold valQ
    rw [if_neg (by simp), accQ, if_pos rfl, acc_dec _ (by omega)]
    omega
  · rw [if_neg hn]
    have hacc := acc_dec v.toNat (by omega)
    cases hd : Lib.decDigits v.toNat with
    | nil => exact absurd hd (dec_ne _)
    | cons c s =>
      have hc := dec_dg v.toNat c (by rw [hd]; simp)
      rw [hd] at hacc
      unfold valQ
      rw [if_pos ⟨by simp, by simp; rintro rfl; unfold isDg at hc; exact absurd hc.1 (by decide)⟩, hacc, iwrap_id (by omega) (by omega)]
      omega
theorem numQ_itoa (v : Int) (h : r64 v) (r : Bs) (hr : NoN r) : numQ (Lib.itoa v ++ r) = some (v, r) := by
  unfold numQ
  rw [piece_itoa v r hr, val_itoa v h, if_pos rfl]
  simp
/-- so many numbers, a blank ahead of each -/
def numsQ : Nat → Bs → Option (List Int × Bs)
  | 0, r => some ([], r)
  | k + 1, r =>
    match tokP [32] r with
    | none => none
    | some r1 =>
      match numQ r1 with
      | none => none
      | some (n, r2) =>
        match numsQ k r2 with
        | none => none
        | some (l, r3) => some (n :: l, r3)
theorem numsQ_W : ∀ (ns : List Int) (r : Bs), (∀ n ∈ ns, r64 n) → NoN r → numsQ ns.length (numsW ns ++ r) = some (ns, r)
  | [], r, _, _ => by rw [List.length_nil, numsQ]; rfl
  | n :: ns, r, h, hr => by
    rw [List.length_cons, numsQ, nums_cons, List.cons_append, List.append_assoc, show (32 :: (Lib.itoa n ++ (numsW ns ++ r)) : Bs) = [32] ++ (Lib.itoa n ++ (numsW ns ++ r)) from rfl, tok_app]
    simp only
    rw [numQ_itoa n (h n (by simp)) _ (nn_nums ns r hr)]
    simp only
    rw [numsQ_W ns r (fun m hm => h m (by simp [hm])) hr]
theorem numsQ_some : ∀ (k : Nat) (r : Bs) (ns : List Int) (r' : Bs), numsQ k r = some (ns, r') → r = numsW ns ++ r' ∧ ns.length = k ∧ ∀ n ∈ ns, r64 n
  | 0, r, ns, r', h => by
    rw [numsQ] at h
    simp only [Option.some.injEq, Prod.mk.injEq] at h
    obtain ⟨rfl, rfl⟩ := h
    exact ⟨rfl, rfl, fun n hn => by cases hn⟩
  | k + 1, r, ns, r', h => by
    rw [numsQ] at h
    split at h
    · cases h
    · next r1 h1 =>
      split at h
      · cases h
      · next n r2 h2 =>
        split at h
        · cases h
        · next l r3 h3 =>
          simp only [Option.some.injEq, Prod.mk.injEq] at h
          obtain ⟨rfl, rfl⟩ := h
          obtain ⟨a1, a2, a3⟩ := numsQ_some k r2 l r3 h3
          obtain ⟨b1, b2⟩ := numQ_some h2
          refine ⟨?_, by simp [a2], fun m hm => ?_⟩
          · rw [nums_cons, tok_some h1, b1, a1]
            simp
          · rcases List.mem_cons.1 hm with rfl | hm
            · exact b2
            · exact a3 m hm
/-- a byte of a text, as the document reads it -/
def stepQ (r : Bs) : Option (UInt8 × Bs) :=
  match tokP [92, 120] r with
  | some (a :: b :: r') => if Lib.indexByte hexT a < 0 ∨ Lib.indexByte hexT b < 0 then none else some (UInt8.ofNat (16 * (Lib.indexByte hexT a).toNat + (Lib.indexByte hexT b).toNat), r')
  | _ =>
    match tokP [92] r with
    | some (c :: r') => some (c, r')
    | _ =>
      match r with
      | c :: r' => some (c, r')
      | [] => none
def quoQ : Nat → Bs → Bs → Option (Bs × Bs)
  | 0, _, _ => none
  | f + 1, r, acc =>
    match tokP [39] r with
    | some r' => some (acc, r')
    | none =>
      match stepQ r with
      | none => none
      | some (c, r') => quoQ f r' (acc ++ [c])
def txtQ (r : Bs) : Option (LitS × Bs) :=
  match tokP [39] r with
  | none => none
  | some r1 =>
    match quoQ (r1.length + 1) r1 [] with
    | none => none
    | some (b, r2) => if textW ⟨b.toArray⟩ = r.take (r.length - r2.length) then some (.mk 2 ⟨b.toArray⟩ 0 [], r2) else none
theorem step_esc (c : UInt8) (r : Bs) : stepQ (escB c ++ r) = some (c, r) := by
  rcases esc_is c with ⟨h1, h2, h3⟩ | ⟨h1, h0, h2, h3, h4⟩ | ⟨h1, h2, h3⟩
  · rw [h2]
    unfold stepQ
    rw [List.cons_append, List.cons_append, List.nil_append, tok_ne2 (by exact fun e => h3 e.symm)]
    simp only
    rw [show (92 :: c :: r : Bs) = [92] ++ (c :: r) from rfl, tok_app]
  · rw [h2]
    unfold stepQ
    rw [List.cons_append, List.nil_append, tok_ne (by exact fun e => h3 e.symm), tok_ne (by exact fun e => h3 e.symm)]
  · rw [h3]
    unfold stepQ
    rw [show ([92, 120, hexD (c.toNat / 16), hexD (c.toNat % 16)] ++ r : Bs) = [92, 120] ++ (hexD (c.toNat / 16) :: hexD (c.toNat % 16) :: r) from rfl, tok_app]
    obtain ⟨e1, e2⟩ := hex_tab ⟨c.toNat, c.toNat_lt⟩
    simp only at e1 e2
    simp only
    rw [e1, e2]
    rw [if_neg (by omega)]
    have e3 : UInt8.ofNat (16 * ((c.toNat / 16 : Nat) : Int).toNat + ((c.toNat % 16 : Nat) : Int).toNat) = c := by
      rw [Int.toNat_natCast, Int.toNat_natCast, show 16 * (c.toNat / 16) + c.toNat % 16 = c.toNat by omega]
      simp
    simp only [e3]
theorem step_suf {r r' : Bs} {c : UInt8} (h : stepQ r = some (c, r')) : ∃ p, r = p ++ r' ∧ p ≠ [] := by
  unfold stepQ at h
  split at h
  · next a b r1 h1 =>
    split at h
    · cases h
    · simp only [Option.some.injEq, Prod.mk.injEq] at h
      obtain ⟨-, rfl⟩ := h
      exact ⟨[92, 120, a, b], by rw [tok_some h1]; rfl, by simp⟩
  · split at h
    · next d r1 h1 =>
      simp only [Option.some.injEq, Prod.mk.injEq] at h
      obtain ⟨-, rfl⟩ := h
      exact ⟨[92, d], by rw [tok_some h1]; rfl, by simp⟩
    · split at h
      · rename_i d r1 _ _
        simp only [Option.some.injEq, Prod.mk.injEq] at h
        obtain ⟨-, rfl⟩ := h
        exact ⟨[d], rfl, by simp⟩
      · cases h
theorem quoQ_suf : ∀ (f : Nat) (r acc b r' : Bs), quoQ f r acc = some (b, r') → ∃ p, r = p ++ r'
  | 0, r, acc, b, r', h => by rw [quoQ] at h; cases h
  | f + 1, r, acc, b, r', h => by
    rw [quoQ] at h
    split at h
    · next r1 h1 =>
      simp only [Option.some.injEq, Prod.mk.injEq] at h
      obtain ⟨-, rfl⟩ := h
      exact ⟨[39], tok_some h1⟩
    · split at h
      · cases h
      · next c r1 h1 =>
        obtain ⟨p, hp, -⟩ := step_suf h1
        obtain ⟨q, hq⟩ := quoQ_suf f r1 _ b r' h
        exact ⟨p ++ q, by rw [hp, hq]; simp⟩
theorem quoQ_esc : ∀ (b : Bs) (f : Nat) (r acc : Bs), (b.flatMap escB).length < f → quoQ f (b.flatMap escB ++ 39 :: r) acc = some (acc ++ b, r)
  | [], 0, r, acc, hf => by simp at hf
  | [], f + 1, r, acc, _ => by
    rw [quoQ, List.flatMap_nil, List.nil_append, show (39 :: r : Bs) = [39] ++ r from rfl, tok_app]
    simp
  | c :: b, 0, r, acc, hf => by simp at hf
  | c :: b, f + 1, r, acc, hf => by
    rw [List.flatMap_cons, List.length_append] at hf
    have := esc_len1 c
    obtain ⟨d, s, e, hd⟩ := esc_head c (b.flatMap escB ++ 39 :: r)
    rw [List.flatMap_cons, List.append_assoc, quoQ]
    have ht : tokP [39] (escB c ++ (b.flatMap escB ++ 39 :: r)) = none := by rw [e]; exact tok_ne (fun e => hd e.symm)
    rw [ht, step_esc]
    simp only
    rw [quoQ_esc b f r (acc ++ [c]) (by omega)]
    simp
theorem txtQ_W (s : ByteArray) (r : Bs) : txtQ (textW s ++ r) = some (.mk 2 s 0 [], r) := by
  have e : textW s ++ r = [39] ++ (s.data.toList.flatMap escB ++ 39 :: r) := by unfold textW; simp
  unfold txtQ
  rw [e, tok_app]
  simp only
  rw [quoQ_esc _ _ r [] (by rw [List.length_append]; omega)]
  simp only [List.nil_append]
  have hs : (⟨s.data.toList.toArray⟩ : ByteArray) = s := by simp
  rw [hs, ← e, if_pos (by rw [List.length_append, Nat.add_sub_cancel, List.take_left])]
theorem txtQ_some {r r' : Bs} {x : LitS} (h : txtQ r = some (x, r')) : ∃ s : ByteArray, x = .mk 2 s 0 [] ∧ r = textW s ++ r' := by
  unfold txtQ at h
  split at h
  · cases h
  · next r1 h1 =>
    split at h
    · cases h
    · next b r2 h2 =>
      split at h
      · next he =>
        simp only [Option.some.injEq, Prod.mk.injEq] at h
        obtain ⟨rfl, rfl⟩ := h
        obtain ⟨p, hp⟩ := quoQ_suf _ _ _ _ _ h2
        refine ⟨_, rfl, ?_⟩
        rw [he, tok_some h1, hp, ← List.append_assoc, List.length_append (bs := r2), Nat.add_sub_cancel, List.take_left]
      · cases h
end Go.Proofs.YtclkoffnjiiioaaGreatDoor
namespace Go.Proofs.YtclkoffnjiiioaaGreatDoor
open Go.RowKit
set_option linter.unusedVariables false
set_option linter.unusedSimpArgs false
mutual
/-- an element, as the document reads it -/
def eleQ : Nat → Bs → Nat → Option (LitS × Bs × Nat)
  | 0, _, _ => none
  | f + 1, r, d =>
    match tokP [39] r with
    | some _ =>
      (match txtQ r with
      | none => none
      | some (x, r2) => some (x, r2, d))
    | none =>
      match tokP [35] r with
      | some r1 =>
        (match numQ r1 with
        | none => none
        | some (n, r2) => some (.mk 3 noTx n [], r2, d))
      | none =>
        match tokP [110, 105, 108] r with
        | some r1 => some (.mk 5 noTx 0 [], r1, d)
        | none =>
          match tokP [116, 114, 117, 101] r with
          | some r1 => some (.mk 6 noTx 0 [], r1, d)
          | none =>
            match tokP [102, 97, 108, 115, 101] r with
            | some r1 => some (.mk 7 noTx 0 [], r1, d)
            | none =>
              match tokP [40] r with
              | some r1 =>
                if 4097 < d + 1 then none
                else
                  (match arrQ f r1 (d + 1) [] with
                  | none => none
                  | some (l, r2, d2) => some (.mk 4 noTx 0 l, r2, d2))
              | none =>
                match numQ r with
                | none => none
                | some (n, r2) => some (.mk 1 noTx n [], r2, d)
/-- elements, up to the array's end -/
def arrQ : Nat → Bs → Nat → List LitS → Option (List LitS × Bs × Nat)
  | 0, _, _, _ => none
  | f + 1, r, d, acc =>
    match tokP [41] r with
    | some r' => some (acc, r', d)
    | none =>
      match (if acc.length = 0 then some r else tokP [32] r) with
      | none => none
      | some r1 =>
        match eleQ f r1 d with
        | none => none
        | some (x, r2, d2) => arrQ f r2 d2 (acc ++ [x])
end
def EleQc (f : Nat) : Prop := ∀ (t : LitT) (r : Bs) (n d : Nat), mayB t = true → NmT t → (gaT t n).1 = 0 → n ≤ 4096 → d ≤ n → NoN r → 2 * (wrT t ++ r).length + 1 ≤ f → ∃ d2, eleQ f (wrT t ++ r) d = some (stT t, r, d2) ∧ d2 ≤ (gaT t n).2 + 1 ∧ (gaT t n).2 ≤ 4096
def ArrQc (f : Nat) : Prop := ∀ (ts : List LitT) (r : Bs) (n d : Nat) (acc : List LitS), (∀ t ∈ ts, NmT t) → (gaL ts n).1 = 0 → n ≤ 4096 → d ≤ n + 1 → 2 * (wrL ts (decide (acc.length = 0)) ++ 41 :: r).length + 2 ≤ f → ∃ d2, arrQ f (wrL ts (decide (acc.length = 0)) ++ 41 :: r) d acc = some (acc ++ stL ts, r, d2) ∧ d2 ≤ (gaL ts n).2 + 1 ∧ (gaL ts n).2 ≤ 4096
theorem arrQC {f : Nat} (ihE : ∀ g, g < f → EleQc g) (ihA : ∀ g, g < f → ArrQc g) : ArrQc f := by
  intro ts r n d acc hN hg hn hdn hf
  cases f with
  | zero => omega
  | succ f =>
    cases ts with
    | nil =>
      rw [arrQ, wrL_nil, List.nil_append, show (41 :: r : Bs) = [41] ++ r from rfl, tok_app, gaL_nil, stL_nil]
      exact ⟨d, by simp, hdn, hn⟩
    | cons t ts =>
      rw [gaL_cons] at hg ⊢
      by_cases hm : mayB t = false
      · rw [if_pos hm] at hg; cases hg
      rw [if_neg hm] at hg ⊢
      by_cases h3 : 4096 < n + 1
      · rw [if_pos h3] at hg; cases hg
      rw [if_neg h3] at hg ⊢
      by_cases h4 : (gaT t (n + 1)).1 ≠ 0
      · rw [if_pos h4] at hg; exact absurd hg h4
      rw [if_neg h4] at hg ⊢
      have h5 : (gaT t (n + 1)).1 = 0 := by simpa using h4
      have hmt : mayB t = true := by simpa using hm
      obtain ⟨b, s, ew, hd⟩ := wr_head t hmt
      have hnx : NoN (wrL ts false ++ 41 :: r) := by
        cases ts with
        | nil => rw [wrL_nil]; exact nn_cons (by decide)
        | cons u us => rw [wrL_cons, List.append_assoc, List.append_assoc]; exact nn_cons (by decide)
      have hlen : 1 ≤ (wrT t).length := by rw [ew]; simp
      have hl2 : (acc ++ [stT t]).length = acc.length + 1 := by simp
      have hd2 : decide ((acc ++ [stT t]).length = 0) = false := by rw [hl2]; simp
      rw [wrL_cons] at hf ⊢
      by_cases ha : acc.length = 0
      · have hd1 : decide (acc.length = 0) = true := decide_eq_true ha
        rw [hd1] at hf ⊢
        rw [if_pos rfl, List.nil_append, List.append_assoc] at hf ⊢
        obtain ⟨d2, e1, e2, e3⟩ := ihE f (by omega) t (wrL ts false ++ 41 :: r) (n + 1) d hmt (hN t (by simp)) h5 (by omega) hdn hnx (by omega)
        rw [arrQ]
        have ht : tokP [41] (wrT t ++ (wrL ts false ++ 41 :: r)) = none := by rw [ew]; exact tok_ne (fun e => hd e.symm)
        rw [ht]
        simp only
        rw [if_pos ha]
        simp only
        rw [e1]
        simp only
        rw [List.length_append] at hf
        obtain ⟨d3, k1, k2, k3⟩ := ihA f (by omega) ts r (gaT t (n + 1)).2 d2 (acc ++ [stT t]) (fun u hu => hN u (by simp [hu])) hg e3 e2 (by rw [hd2]; omega)
        rw [hd2] at k1
        rw [k1, stL_cons]
        exact ⟨d3, by simp, k2, k3⟩
      · have hd1 : decide (acc.length = 0) = false := decide_eq_false ha
        rw [hd1] at hf ⊢
        rw [if_neg Bool.false_ne_true, List.append_assoc, List.append_assoc] at hf ⊢
        rw [List.length_append] at hf
        obtain ⟨d2, e1, e2, e3⟩ := ihE f (by omega) t (wrL ts false ++ 41 :: r) (n + 1) d hmt (hN t (by simp)) h5 (by omega) hdn hnx (by omega)
        rw [arrQ]
        have ht : tokP [41] ([32] ++ (wrT t ++ (wrL ts false ++ 41 :: r))) = none := tok_ne (by decide)
        rw [ht]
        simp only
        rw [if_neg ha, tok_app]
        simp only
        rw [e1]
        simp only
        rw [List.length_append] at hf
        obtain ⟨d3, k1, k2, k3⟩ := ihA f (by omega) ts r (gaT t (n + 1)).2 d2 (acc ++ [stT t]) (fun u hu => hN u (by simp [hu])) hg e3 e2 (by rw [hd2]; omega)
        rw [hd2] at k1
        rw [k1, stL_cons]
        exact ⟨d3, by simp, k2, k3⟩
theorem tok_hd {c d : UInt8} {p r s : Bs} (e : r = d :: s) (h : c ≠ d) : tokP (c :: p) r = none := by rw [e]; exact tok_ne h
theorem eleQC {f : Nat} (ihA : ∀ g, g < f → ArrQc g) : EleQc f := by
  intro t r n d hm hN hg hn hdn hr hf
  cases f with
  | zero => omega
  | succ f =>
    have hw := wrT_at t
    rcases may_is hm with ⟨h1 | h1, h2, h3⟩ | ⟨h1, h2, h3, h4⟩ | ⟨h1, h2, h3, h4⟩ | ⟨h1 | h1 | h1, h2, h3, h4⟩
    · rw [if_pos h1] at hw
      obtain ⟨b, s, e, hd⟩ := itoa_head t.num
      have hne := nb_ne hd
      have e2 : Lib.itoa t.num ++ r = b :: (s ++ r) := by rw [e]; rfl
      rw [ga_kids (by omega), hw, eleQ, tok_hd e2 (fun q => hne.1 q.symm), tok_hd e2 (fun q => hne.2.2.1 q.symm), tok_hd e2 (fun q => hne.2.2.2.1 q.symm), tok_hd e2 (fun q => hne.2.2.2.2.1 q.symm), tok_hd e2 (fun q => hne.2.2.2.2.2.1 q.symm), tok_hd e2 (fun q => hne.2.1 q.symm)]
      simp only
      rw [numQ_itoa t.num hN.num r hr]
      exact ⟨d, by rw [st_at t 1 noTx t.num h1 h2 rfl h3], Nat.le_succ_of_le hdn, hn⟩
    · rw [if_neg (by omega), if_neg (by omega), if_pos h1] at hw
      rw [ga_kids (by omega), hw, eleQ, List.cons_append, tok_ne (by decide), show (35 :: (Lib.itoa t.num ++ r) : Bs) = [35] ++ (Lib.itoa t.num ++ r) from rfl, tok_app]
      simp only
      rw [numQ_itoa t.num hN.num r hr]
      exact ⟨d, by rw [st_at t 3 noTx t.num h1 h2 rfl h3], Nat.le_succ_of_le hdn, hn⟩
    · rw [if_neg (by omega), if_pos h1] at hw
      have e : textW t.text ++ r = [39] ++ (t.text.data.toList.flatMap escB ++ 39 :: r) := by unfold textW; simp
      rw [ga_kids (by omega), hw, eleQ]
      rw [e, tok_app]
      simp only
      rw [← e, txtQ_W]
      exact ⟨d, by rw [st_at t 2 t.text 0 h1 rfl h3 h4], Nat.le_succ_of_le hdn, hn⟩
    · rw [if_neg (by omega), if_neg (by omega), if_neg (by omega), if_neg (by omega), if_neg (by omega), if_neg (by omega)] at hw
      rw [gaT_at, if_pos h1] at hg ⊢
      rw [hw] at hf ⊢
      rw [eleQ, List.cons_append, List.append_assoc, List.singleton_append, tok_ne (by decide), tok_ne (by decide), tok_ne (by decide), tok_ne (by decide), tok_ne (by decide), show (40 :: (wrL t.kids true ++ 41 :: r) : Bs) = [40] ++ (wrL t.kids true ++ 41 :: r) from rfl, tok_app]
      simp only
      rw [if_neg (by omega)]
      rw [List.cons_append, List.length_cons, List.append_assoc, List.singleton_append] at hf
      obtain ⟨d2, k1, k2, k3⟩ := ihA f (by omega) t.kids r n (d + 1) [] hN.kids hg hn (by omega) (by simp only [List.length_nil, decide_true]; omega)
      simp only [List.length_nil, decide_true, List.nil_append] at k1
      rw [k1]
      exact ⟨d2, by rw [stT_mk, h1, h3, h4], k2, k3⟩
    · rw [if_neg (by omega), if_neg (by omega), if_neg (by omega), if_pos h1] at hw
      rw [ga_kids (by omega), hw, eleQ, show tokP [39] ([110, 105, 108] ++ r) = none from tok_ne (by decide), show tokP [35] ([110, 105, 108] ++ r) = none from tok_ne (by decide), tok_app]
      exact ⟨d, by rw [st_at t 5 noTx 0 h1 h3 h2 h4], Nat.le_succ_of_le hdn, hn⟩
    · rw [if_neg (by omega), if_neg (by omega), if_neg (by omega), if_neg (by omega), if_pos h1] at hw
      rw [ga_kids (by omega), hw, eleQ, show tokP [39] ([116, 114, 117, 101] ++ r) = none from tok_ne (by decide), show tokP [35] ([116, 114, 117, 101] ++ r) = none from tok_ne (by decide), show tokP [110, 105, 108] ([116, 114, 117, 101] ++ r) = none from tok_ne (by decide), tok_app]
      exact ⟨d, by rw [st_at t 6 noTx 0 h1 h3 h2 h4], Nat.le_succ_of_le hdn, hn⟩
    · rw [if_neg (by omega), if_neg (by omega), if_neg (by omega), if_neg (by omega), if_neg (by omega), if_pos h1] at hw
      rw [ga_kids (by omega), hw, eleQ, show tokP [39] ([102, 97, 108, 115, 101] ++ r) = none from tok_ne (by decide), show tokP [35] ([102, 97, 108, 115, 101] ++ r) = none from tok_ne (by decide), show tokP [110, 105, 108] ([102, 97, 108, 115, 101] ++ r) = none from tok_ne (by decide), show tokP [116, 114, 117, 101] ([102, 97, 108, 115, 101] ++ r) = none from tok_ne (by decide), tok_app]
      exact ⟨d, by rw [st_at t 7 noTx 0 h1 h3 h2 h4], Nat.le_succ_of_le hdn, hn⟩
theorem readQ_all : ∀ f, EleQc f ∧ ArrQc f := by
  intro f
  induction f using Nat.strongRecOn with
  | _ f ih => exact ⟨eleQC fun g hg => (ih g hg).2, arrQC (fun g hg => (ih g hg).1) (fun g hg => (ih g hg).2)⟩
def EleQd (f : Nat) : Prop := ∀ (r : Bs) (d : Nat) (x : LitS) (r2 : Bs) (d2 : Nat), eleQ f r d = some (x, r2, d2) → r = wrT (unS x) ++ r2 ∧ NmT (unS x)
def ArrQd (f : Nat) : Prop := ∀ (r : Bs) (d : Nat) (acc l : List LitS) (r2 : Bs) (d2 : Nat), arrQ f r d acc = some (l, r2, d2) → ∃ xs, l = acc ++ xs ∧ r = wrL (unL xs) (decide (acc.length = 0)) ++ 41 :: r2 ∧ (∀ t ∈ unL xs, NmT t)
theorem arrQD {f : Nat} (ihE : ∀ g, g < f → EleQd g) (ihA : ∀ g, g < f → ArrQd g) : ArrQd f := by
  intro r d acc l r2 d2 h
  cases f with
  | zero => rw [arrQ] at h; cases h
  | succ f =>
    rw [arrQ] at h
    split at h
    · next r1 h1 =>
      simp only [Option.some.injEq, Prod.mk.injEq] at h
      obtain ⟨rfl, rfl, rfl⟩ := h
      refine ⟨[], by simp, ?_, ?_⟩
      · rw [unL_nil, wrL_nil, tok_some h1]; rfl
      · rw [unL_nil]; intro t ht; cases ht
    · split at h
      · cases h
      · next r1 h1 =>
        split at h
        · cases h
        · next x r3 d3 h3 =>
          obtain ⟨a1, a2⟩ := ihE f (by omega) r1 d x r3 d3 h3
          obtain ⟨xs, b1, b3, b5⟩ := ihA f (by omega) r3 d3 (acc ++ [x]) l r2 d2 h
          have hd2 : decide ((acc ++ [x]).length = 0) = false := by simp
          rw [hd2] at b3
          refine ⟨x :: xs, by rw [b1]; simp, ?_, ?_⟩
          · rw [unL_cons, wrL_cons]
            by_cases ha : acc.length = 0
            · rw [if_pos ha] at h1
              injection h1 with h1
              rw [decide_eq_true ha, if_pos rfl, h1, a1, b3]
              simp
            · rw [if_neg ha] at h1
              rw [decide_eq_false ha, if_neg Bool.false_ne_true, tok_some h1, a1, b3]
              simp
          · rw [unL_cons]
            intro t ht
            rcases List.mem_cons.1 ht with rfl | ht
            · exact a2
            · exact b5 t ht
theorem eleQD {f : Nat} (ihA : ∀ g, g < f → ArrQd g) : EleQd f := by
  intro r d x r2 d2 h
  cases f with
  | zero => rw [eleQ] at h; cases h
  | succ f =>
    rw [eleQ] at h
    split at h
    · split at h
      · cases h
      · next y r3 h3 =>
        simp only [Option.some.injEq, Prod.mk.injEq] at h
        obtain ⟨rfl, rfl, rfl⟩ := h
        obtain ⟨s, rfl, e⟩ := txtQ_some h3
        rw [unS_mk, unL_nil]
        exact ⟨by rw [wrT, if_neg (by decide), if_pos rfl, e], nm_flat _ _ _ r64_0⟩
    · split at h
      · next r1 h1 =>
        split at h
        · cases h
        · next v r3 h3 =>
          simp only [Option.some.injEq, Prod.mk.injEq] at h
          obtain ⟨rfl, rfl, rfl⟩ := h
          obtain ⟨e, hv⟩ := numQ_some h3
          rw [unS_mk, unL_nil]
          exact ⟨by rw [wrT, if_neg (by decide), if_neg (by decide), if_pos rfl, tok_some h1, e]; simp, nm_flat _ _ _ hv⟩
      · split at h
        · next r1 h1 =>
          simp only [Option.some.injEq, Prod.mk.injEq] at h
          obtain ⟨rfl, rfl, rfl⟩ := h
          rw [unS_mk, unL_nil]
          exact ⟨by rw [wrT, if_neg (by decide), if_neg (by decide), if_neg (by decide), if_pos rfl, tok_some h1], nm_flat _ _ _ r64_0⟩
        · split at h
          · next r1 h1 =>
            simp only [Option.some.injEq, Prod.mk.injEq] at h
            obtain ⟨rfl, rfl, rfl⟩ := h
            rw [unS_mk, unL_nil]
            exact ⟨by rw [wrT, if_neg (by decide), if_neg (by decide), if_neg (by decide), if_neg (by decide), if_pos rfl, tok_some h1], nm_flat _ _ _ r64_0⟩
          · split at h
            · next r1 h1 =>
              simp only [Option.some.injEq, Prod.mk.injEq] at h
              obtain ⟨rfl, rfl, rfl⟩ := h
              rw [unS_mk, unL_nil]
              exact ⟨by rw [wrT, if_neg (by decide), if_neg (by decide), if_neg (by decide), if_neg (by decide), if_neg (by decide), if_pos rfl, tok_some h1], nm_flat _ _ _ r64_0⟩
            · split at h
              · next r1 h1 =>
                split at h
                · cases h
                · split at h
                  · cases h
                  · next l r3 d3 h3 =>
                    simp only [Option.some.injEq, Prod.mk.injEq] at h
                    obtain ⟨rfl, rfl, rfl⟩ := h
                    obtain ⟨xs, b1, b3, b5⟩ := ihA f (by omega) r1 (d + 1) [] l r3 d3 h3
                    simp only [List.nil_append] at b1
                    subst b1
                    simp only [List.length_nil, decide_true] at b3
                    rw [unS_mk]
                    refine ⟨?_, .mk _ r64_0 b5⟩
                    rw [wrT, if_neg (by decide), if_neg (by decide), if_neg (by decide), if_neg (by decide), if_neg (by decide), if_neg (by decide), tok_some h1, b3]
                    simp
              · split at h
                · cases h
                · next v r3 h3 =>
                  simp only [Option.some.injEq, Prod.mk.injEq] at h
                  obtain ⟨rfl, rfl, rfl⟩ := h
                  obtain ⟨e, hv⟩ := numQ_some h3
                  rw [unS_mk, unL_nil]
                  exact ⟨by rw [wrT, if_pos rfl, e], nm_flat _ _ _ hv⟩
theorem backQ_all : ∀ f, EleQd f ∧ ArrQd f := by
  intro f
  induction f using Nat.strongRecOn with
  | _ f ih => exact ⟨eleQD fun g hg => (ih g hg).2, arrQD (fun g hg => (ih g hg).1) (fun g hg => (ih g hg).2)⟩
end Go.Proofs.YtclkoffnjiiioaaGreatDoor
