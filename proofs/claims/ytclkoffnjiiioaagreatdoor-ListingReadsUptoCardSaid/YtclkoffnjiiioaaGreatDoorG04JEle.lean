import Derived.Test.YtclkoffnjiiioaaGreatDoorG02IOpen
import Derived.Test.YtclkoffnjiiioaaGreatDoorG03JRd3
namespace Go.Proofs.YtclkoffnjiiioaaGreatDoor
open Go.RowKit
set_option linter.unusedVariables false
set_option linter.unusedSimpArgs false
/-- digits alone -/
def isDg (b : UInt8) : Prop := 48 ≤ b.toNat ∧ b.toNat ≤ 57
theorem dg_of (d : Nat) (h : d < 10) : isDg (UInt8.ofNat (48 + d)) ∧ (UInt8.ofNat (48 + d)).toNat - 48 = d := by
  have : (UInt8.ofNat (48 + d)).toNat = 48 + d := by
    rw [UInt8.toNat_ofNat']
    exact Nat.mod_eq_of_lt (by omega)
  unfold isDg
  rw [this]
  omega
theorem dec_dg : ∀ (u : Nat), ∀ b ∈ Lib.decDigits u, isDg b := by
  intro u
  induction u using Nat.strongRecOn with
  | _ u ih =>
    intro b hb
    rw [Lib.decDigits] at hb
    split at hb
    · next h => rw [List.mem_singleton.1 hb]; exact (dg_of u h).1
    · rcases List.mem_append.1 hb with hb | hb
      · exact ih (u / 10) (by omega) b hb
      · rw [List.mem_singleton.1 hb]; exact (dg_of (u % 10) (by omega)).1
theorem dec_ne (u : Nat) : Lib.decDigits u ≠ [] := by
  rw [Lib.decDigits]
  split <;> simp
theorem pu_app : ∀ (l : Bs) (acc : Nat) (m : Bs), Lib.parseUint10 acc (l ++ m) = (match Lib.parseUint10 acc l with | .ok u => Lib.parseUint10 u m | .«syntax» => .«syntax» | .range => .range)
  | [], acc, m => by simp [Lib.parseUint10]
  | c :: r, acc, m => by
    rw [List.cons_append, Lib.parseUint10, Lib.parseUint10]
    split
    · split
      · rfl
      · split
        · rfl
        · exact pu_app r _ m
    · rfl
theorem pu_dec : ∀ u : Nat, u < 18446744073709551616 → Lib.parseUint10 0 (Lib.decDigits u) = .ok u := by
  intro u
  induction u using Nat.strongRecOn with
  | _ u ih =>
    intro hu
    rw [Lib.decDigits]
    split
    · next h =>
      have h1 := dg_of u h
      have h2 := h1.1
      unfold isDg at h2
      rw [Lib.parseUint10, if_pos h2, if_neg (by omega), if_neg (by rw [h1.2]; omega), h1.2]
      simp [Lib.parseUint10]
    · have h1 := dg_of (u % 10) (by omega)
      have h2 := h1.1
      unfold isDg at h2
      rw [pu_app, ih (u / 10) (by omega) (by omega)]
      show Lib.parseUint10 (u / 10) _ = _
      rw [Lib.parseUint10, if_pos h2, if_neg (by omega), if_neg (by rw [h1.2]; omega), h1.2]
      rw [Lib.parseUint10]
      congr 1
      omega
theorem pm_dec (u : Nat) (hu : u < 18446744073709551616) : Lib.parseMag (Lib.decDigits u) = .ok u := by
  unfold Lib.parseMag
  rw [if_neg (dec_ne u), pu_dec u hu]
theorem atoi_itoa (v : Int) (h : r64 v) : Lib.atoiAll (Lib.itoa v) = .ok v := by
  unfold r64 at h
  unfold Lib.itoa
  by_cases hn : v < 0
  · rw [if_pos hn]
    unfold Lib.atoiAll
    simp only
    rw [if_pos (by right; rfl), pm_dec _ (by omega)]
    simp only
    rw [if_neg (by simp), if_neg (by omega), if_pos (show UInt8.toNat 45 = 45 from rfl)]
    congr 1
    omega
  · rw [if_neg hn]
    cases hd : Lib.decDigits v.toNat with
    | nil => exact absurd hd (dec_ne _)
    | cons c r =>
      have hc := dec_dg v.toNat c (by rw [hd]; simp)
      unfold isDg at hc
      unfold Lib.atoiAll
      simp only
      rw [if_neg (by omega), ← hd, pm_dec _ (by omega)]
      simp only
      rw [if_neg (by omega), if_neg (by omega), if_neg (by omega)]
      congr 1
      omega
theorem nb_dg {b : UInt8} (h : isDg b) : isNB b = true := by
  have key : ∀ n : Fin 256, 48 ≤ n.val ∧ n.val ≤ 57 → isNB (UInt8.ofNat n.val) = true := by decide +kernel
  have := key ⟨b.toNat, b.toNat_lt⟩ h
  simpa using this
theorem itoa_nb (v : Int) : ∀ b ∈ Lib.itoa v, isNB b = true := by
  intro b hb
  unfold Lib.itoa at hb
  split at hb
  · rcases List.mem_cons.1 hb with rfl | hb
    · rfl
    · exact nb_dg (dec_dg _ b hb)
  · exact nb_dg (dec_dg _ b hb)
theorem itoa_ne (v : Int) : Lib.itoa v ≠ [] := by
  unfold Lib.itoa
  split
  · simp
  · exact dec_ne _
/-- no number goes on here -/
def NoN (r : Bs) : Prop := ∀ b, r.head? = some b → isNB b = false
theorem take_app {p : UInt8 → Bool} : ∀ (a r : Bs), (∀ b ∈ a, p b = true) → (∀ b, r.head? = some b → p b = false) → (a ++ r).takeWhile p = a ∧ (a ++ r).dropWhile p = r
  | [], r, _, hr => by
    cases r with
    | nil => exact ⟨rfl, rfl⟩
    | cons c r =>
      have := hr c rfl
      simp [this]
  | c :: a, r, ha, hr => by
    have hc := ha c (by simp)
    have := take_app a r (fun b hb => ha b (by simp [hb])) hr
    simp [hc, this]
theorem numP_itoa (v : Int) (h : r64 v) (r : Bs) (hr : NoN r) : numP (Lib.itoa v ++ r) = some (v, r) := by
  obtain ⟨h1, h2⟩ := take_app (p := isNB) (Lib.itoa v) r (itoa_nb v) hr
  unfold numP
  rw [h1, h2, atoi_itoa v h]
  simp
theorem atoi_rng {l : Bs} {v : Int} (h : Lib.atoiAll l = .ok v) : r64 v := by
  unfold Lib.atoiAll at h
  unfold r64
  split at h
  · cases h
  · simp only at h
    split at h
    · cases h
    · cases h
    · split at h
      · cases h
      · split at h
        · cases h
        · next h1 h2 =>
          injection h with h
          subst h
          split <;> omega
theorem dw_head {p : UInt8 → Bool} : ∀ (r : Bs) (b : UInt8), (r.dropWhile p).head? = some b → p b = false
  | [], b, h => by cases h
  | c :: r, b, h => by
    rw [List.dropWhile_cons] at h
    split at h
    · exact dw_head r b h
    · next hc =>
      have : c = b := by simpa using h
      subst this
      simpa using hc
theorem numP_some {r r' : Bs} {v : Int} (h : numP r = some (v, r')) : r = Lib.itoa v ++ r' ∧ r64 v ∧ NoN r' := by
  unfold numP at h
  split at h
  · next u hu =>
    split at h
    · next he =>
      simp only [Option.some.injEq, Prod.mk.injEq] at h
      obtain ⟨rfl, rfl⟩ := h
      exact ⟨by rw [he]; exact (List.takeWhile_append_dropWhile).symm, atoi_rng hu, fun b hb => dw_head r b hb⟩
    · cases h
  · cases h
theorem tok_app (p r : Bs) : tokP p (p ++ r) = some r := by
  unfold tokP Lib.hasPrefix
  rw [if_pos (by simp)]
  simp
theorem tok_some {p r r' : Bs} (h : tokP p r = some r') : r = p ++ r' := by
  unfold tokP Lib.hasPrefix at h
  split at h
  · next hp =>
    injection h with h
    obtain ⟨t, rfl⟩ := List.isPrefixOf_iff_prefix.1 hp
    simp at h
    rw [h]
  · cases h
theorem tok_ne {c d : UInt8} {p r : Bs} (h : c ≠ d) : tokP (c :: p) (d :: r) = none := by
  unfold tokP Lib.hasPrefix
  rw [if_neg (by simp [h])]
theorem tok_nil {c : UInt8} {p : Bs} : tokP (c :: p) [] = none := by
  unfold tokP Lib.hasPrefix
  rw [if_neg (by simp)]
theorem tok_ne2 {b c d : UInt8} {p r : Bs} (h : c ≠ d) : tokP (b :: c :: p) (b :: d :: r) = none := by
  unfold tokP Lib.hasPrefix
  rw [if_neg (by simp [h])]
/-- what is not told by its first byte -/
theorem tok_head {c : UInt8} {p r r' : Bs} (h : tokP (c :: p) r = some r') : r.head? = some c := by
  rw [tok_some h]; rfl
theorem hex_tab : ∀ n : Fin 256, (Lib.indexByte hexT (hexD (n.val / 16)) = ((n.val / 16 : Nat) : Int)) ∧ (Lib.indexByte hexT (hexD (n.val % 16)) = ((n.val % 16 : Nat) : Int)) := by decide +kernel
theorem hex_back : ∀ n : Fin 256, Lib.indexByte hexT (UInt8.ofNat n.val) < 0 ∨ ((Lib.indexByte hexT (UInt8.ofNat n.val)).toNat < 16 ∧ hexD (Lib.indexByte hexT (UInt8.ofNat n.val)).toNat = UInt8.ofNat n.val) := by decide +kernel
theorem hex_byte (c : UInt8) : Lib.indexByte hexT c < 0 ∨ ((Lib.indexByte hexT c).toNat < 16 ∧ hexD (Lib.indexByte hexT c).toNat = c) := by
  have := hex_back ⟨c.toNat, c.toNat_lt⟩
  simpa using this
theorem esc_tab : ∀ n : Fin 256, (markB (UInt8.ofNat n.val) = true ∧ escB (UInt8.ofNat n.val) = [92, UInt8.ofNat n.val] ∧ (UInt8.ofNat n.val) ≠ 120) ∨ (plainB (UInt8.ofNat n.val) = true ∧ markB (UInt8.ofNat n.val) = false ∧ escB (UInt8.ofNat n.val) = [UInt8.ofNat n.val] ∧ UInt8.ofNat n.val ≠ 92 ∧ UInt8.ofNat n.val ≠ 39) ∨ (plainB (UInt8.ofNat n.val) = false ∧ markB (UInt8.ofNat n.val) = false ∧ escB (UInt8.ofNat n.val) = [92, 120, hexD (n.val / 16), hexD (n.val % 16)]) := by decide +kernel
theorem esc_is (c : UInt8) : (markB c = true ∧ escB c = [92, c] ∧ c ≠ 120) ∨ (plainB c = true ∧ markB c = false ∧ escB c = [c] ∧ c ≠ 92 ∧ c ≠ 39) ∨ (plainB c = false ∧ markB c = false ∧ escB c = [92, 120, hexD (c.toNat / 16), hexD (c.toNat % 16)]) := by
  have := esc_tab ⟨c.toNat, c.toNat_lt⟩
  simpa using this
theorem one_esc (c : UInt8) (r : Bs) : oneP (escB c ++ r) = some (c, r) := by
  rcases esc_is c with ⟨h1, h2, h3⟩ | ⟨h1, h0, h2, h3, h4⟩ | ⟨h1, h2, h3⟩
  · rw [h2]
    unfold oneP
    rw [List.cons_append, List.cons_append, List.nil_append, tok_ne2 (by exact fun e => h3 e.symm)]
    simp only
    rw [show (92 :: c :: r : Bs) = [92] ++ (c :: r) from rfl, tok_app]
    simp [h1]
  · rw [h2]
    unfold oneP
    rw [List.cons_append, List.nil_append, tok_ne (by exact fun e => h3 e.symm), tok_ne (by exact fun e => h3 e.symm)]
    simp [h1]
  · rw [h3]
    unfold oneP
    rw [show ([92, 120, hexD (c.toNat / 16), hexD (c.toNat % 16)] ++ r : Bs) = [92, 120] ++ (hexD (c.toNat / 16) :: hexD (c.toNat % 16) :: r) from rfl, tok_app]
    obtain ⟨e1, e2⟩ := hex_tab ⟨c.toNat, c.toNat_lt⟩
    simp only at e1 e2
    simp only
    unfold hidP
    simp only
    rw [e1, e2]
    rw [if_neg (by omega)]
    have e3 : UInt8.ofNat (((c.toNat / 16 : Nat) : Int).toNat * 16 + ((c.toNat % 16 : Nat) : Int).toNat) = c := by
      rw [Int.toNat_natCast, Int.toNat_natCast, show c.toNat / 16 * 16 + c.toNat % 16 = c.toNat by omega]
      simp
    simp only [e3]
    rw [if_pos ⟨h1, h2⟩]
theorem one_some {r r' : Bs} {c : UInt8} (h : oneP r = some (c, r')) : r = escB c ++ r' := by
  unfold oneP at h
  split at h
  · next r1 h1 =>
    have e := tok_some h1
    unfold hidP at h
    split at h
    · next a b r2 =>
      split at h
      · cases h
      · next hab =>
        simp only at h
        split at h
        · next hc =>
          simp only [Option.some.injEq, Prod.mk.injEq] at h
          obtain ⟨h2, rfl⟩ := h
          rw [h2] at hc
          rcases hex_byte a with ha | ⟨ha, ha'⟩
          · exact absurd (.inl ha) hab
          rcases hex_byte b with hb | ⟨hb, hb'⟩
          · exact absurd (.inr hb) hab
          rcases esc_is c with ⟨q1, -, -⟩ | ⟨q1, -, -⟩ | ⟨q1, q2, q3⟩
          · rw [hc.2] at q1; cases q1
          · rw [hc.1] at q1; cases q1
          · have hn : c.toNat = (Lib.indexByte hexT a).toNat * 16 + (Lib.indexByte hexT b).toNat := by
              rw [← h2, UInt8.toNat_ofNat', Nat.mod_eq_of_lt (by omega)]
            rw [e, q3, show c.toNat / 16 = (Lib.indexByte hexT a).toNat by omega, show c.toNat % 16 = (Lib.indexByte hexT b).toNat by omega, ha', hb']
            rfl
        · cases h
    · cases h
  · split at h
    · next d r1 h1 =>
      split at h
      · next hm =>
        simp only [Option.some.injEq, Prod.mk.injEq] at h
        obtain ⟨rfl, rfl⟩ := h
        rcases esc_is d with ⟨-, q2, -⟩ | ⟨-, q2, -⟩ | ⟨-, q2, -⟩
        · rw [tok_some h1, q2]; rfl
        · rw [hm] at q2; cases q2
        · rw [hm] at q2; cases q2
      · cases h
    · cases h
    · split at h
      · rename_i d r1 _ _
        split at h
        · next hp =>
          simp only [Option.some.injEq, Prod.mk.injEq] at h
          obtain ⟨rfl, rfl⟩ := h
          rcases esc_is d with ⟨q1, -⟩ | ⟨-, -, q2, -⟩ | ⟨q1, -⟩
          · unfold plainB at hp; rw [q1] at hp; simp at hp
          · rw [q2]; rfl
          · rw [hp] at q1; cases q1
        · cases h
      · cases h
theorem esc_head (c : UInt8) (r : Bs) : ∃ d s, escB c ++ r = d :: s ∧ d ≠ 39 := by
  rcases esc_is c with ⟨h1, h2, h3⟩ | ⟨h1, h0, h2, h3, h4⟩ | ⟨h1, h2, h3⟩
  · exact ⟨92, c :: r, by rw [h2]; rfl, by decide⟩
  · exact ⟨c, r, by rw [h2]; rfl, h4⟩
  · exact ⟨92, _, by rw [h3]; rfl, by decide⟩
theorem esc_len1 (c : UInt8) : 1 ≤ (escB c).length := by
  rcases esc_is c with ⟨h1, h2, h3⟩ | ⟨h1, h0, h2, h3, h4⟩ | ⟨h1, h2, h3⟩
  · rw [h2]; simp
  · rw [h2]; simp
  · rw [h3]; simp
theorem quo_esc : ∀ (b : Bs) (f : Nat) (r acc : Bs), (b.flatMap escB).length < f → acc.length + b.length ≤ 256 → quoP f (b.flatMap escB ++ 39 :: r) acc = some (acc ++ b, r)
  | [], 0, r, acc, hf, _ => by simp at hf
  | [], f + 1, r, acc, _, _ => by
    rw [quoP, List.flatMap_nil, List.nil_append, show (39 :: r : Bs) = [39] ++ r from rfl, tok_app]
    simp
  | c :: b, 0, r, acc, hf, _ => by simp at hf
  | c :: b, f + 1, r, acc, hf, ha => by
    rw [List.flatMap_cons, List.length_append] at hf
    have := esc_len1 c
    rw [List.length_cons] at ha
    obtain ⟨d, s, e, hd⟩ := esc_head c (b.flatMap escB ++ 39 :: r)
    rw [List.flatMap_cons, List.append_assoc, quoP]
    have ht : tokP [39] (escB c ++ (b.flatMap escB ++ 39 :: r)) = none := by rw [e]; exact tok_ne (fun e => hd e.symm)
    rw [ht, one_esc]
    simp only
    rw [if_neg (by omega), quo_esc b f r (acc ++ [c]) (by omega) (by rw [List.length_append]; simp; omega)]
    simp
theorem quo_some : ∀ (f : Nat) (r acc b r' : Bs), quoP f r acc = some (b, r') → acc.length ≤ 256 → ∃ x, b = acc ++ x ∧ b.length ≤ 256 ∧ r = x.flatMap escB ++ 39 :: r'
  | 0, r, acc, b, r', h, _ => by rw [quoP] at h; cases h
  | f + 1, r, acc, b, r', h, ha => by
    rw [quoP] at h
    split at h
    · next r1 h1 =>
      simp only [Option.some.injEq, Prod.mk.injEq] at h
      obtain ⟨rfl, rfl⟩ := h
      exact ⟨[], by simp, ha, by rw [tok_some h1]; rfl⟩
    · split at h
      · cases h
      · next c r1 h1 =>
        split at h
        · cases h
        · next hl =>
          obtain ⟨x, e1, e2, e3⟩ := quo_some f r1 (acc ++ [c]) b r' h (by rw [List.length_append]; simp; omega)
          exact ⟨c :: x, by rw [e1]; simp, e2, by rw [one_some h1, e3]; simp⟩
mutual
def unS : LitS → LitT
  | .mk k a n kids => .mk k a n none 0 (unL kids)
def unL : List LitS → List LitT
  | [] => []
  | t :: ts => unS t :: unL ts
end
theorem unL_nil : unL [] = [] := by rw [unL]
theorem unL_cons (t : LitS) (ts : List LitS) : unL (t :: ts) = unS t :: unL ts := by rw [unL]
theorem unS_mk (k : Int) (a : ByteArray) (n : Int) (l : List LitS) : unS (.mk k a n l) = .mk k a n none 0 (unL l) := by rw [unS]
theorem unL_len : ∀ ts : List LitS, (unL ts).length = ts.length
  | [] => by rw [unL_nil]; rfl
  | t :: ts => by rw [unL_cons, List.length_cons, List.length_cons, unL_len ts]
mutual
theorem st_un : ∀ s : LitS, stT (unS s) = s
  | .mk k a n kids => by rw [unS_mk, stT, st_unL kids]
theorem st_unL : ∀ l : List LitS, stL (unL l) = l
  | [] => by rw [unL_nil, stL_nil]
  | t :: ts => by rw [unL_cons, stL_cons, st_un t, st_unL ts]
end
theorem ba_nil {a : ByteArray} (h : a.toList.isEmpty = true) : a = ⟨#[]⟩ := by
  rw [Lib.toList_data, List.isEmpty_iff] at h
  apply ByteArray.ext
  exact Array.toList_inj.1 h
/-- what a literal that may be one is -/
theorem may_is {t : LitT} (h : mayB t = true) :
    ((t.kind = 1 ∨ t.kind = 3) ∧ t.text = noTx ∧ t.kids = []) ∨ (t.kind = 2 ∧ t.text.size ≤ 256 ∧ t.num = 0 ∧ t.kids = []) ∨ (t.kind = 4 ∧ t.kids.length ≤ 32 ∧ t.num = 0 ∧ t.text = noTx) ∨ ((t.kind = 5 ∨ t.kind = 6 ∨ t.kind = 7) ∧ t.num = 0 ∧ t.text = noTx ∧ t.kids = []) := by
  have hk : ∀ {l : List LitT}, ((l.length : Int) == 0) = true → l = [] := fun {l} h => List.eq_nil_of_length_eq_zero (by simpa using h)
  unfold mayB at h
  split at h
  · next h1 =>
    rw [Bool.and_eq_true] at h
    exact .inl ⟨h1, ba_nil h.1, hk h.2⟩
  · split at h
    · next h1 =>
      rw [Bool.and_eq_true, Bool.and_eq_true] at h
      exact .inr (.inl ⟨h1, by have := of_decide_eq_true h.1.1; omega, by simpa using h.1.2, hk h.2⟩)
    · split at h
      · next h1 =>
        rw [Bool.and_eq_true, Bool.and_eq_true] at h
        exact .inr (.inr (.inl ⟨h1, by have := of_decide_eq_true h.1.1; omega, by simpa using h.1.2, ba_nil h.2⟩))
      · split at h
        · next h1 =>
          rw [Bool.and_eq_true, Bool.and_eq_true] at h
          exact .inr (.inr (.inr ⟨h1, by simpa using h.1.1, ba_nil h.1.2, hk h.2⟩))
        · cases h
theorem itoa_head (v : Int) : ∃ d s, Lib.itoa v = d :: s ∧ isNB d = true := by
  cases h : Lib.itoa v with
  | nil => exact absurd h (itoa_ne v)
  | cons d s => exact ⟨d, s, rfl, itoa_nb v d (by rw [h]; simp)⟩
theorem nb_ne {d : UInt8} (h : isNB d = true) : d ≠ 39 ∧ d ≠ 40 ∧ d ≠ 35 ∧ d ≠ 110 ∧ d ≠ 116 ∧ d ≠ 102 ∧ d ≠ 41 ∧ d ≠ 32 ∧ d ≠ 10 := by
  refine ⟨?_, ?_, ?_, ?_, ?_, ?_, ?_, ?_, ?_⟩ <;> (rintro rfl; exact absurd h (by decide))
theorem nn_cons {c : UInt8} {r : Bs} (h : isNB c = false) : NoN (c :: r) := fun b hb => by
  have : c = b := by simpa using hb
  rw [← this]; exact h
theorem fst_cons (c : UInt8) (r : Bs) : fstB (c :: r) = c := rfl
theorem wr_head (t : LitT) (h : mayB t = true) : ∃ d s, wrT t = d :: s ∧ d ≠ 41 := by
  rw [wrT_at]
  rcases may_is h with ⟨h1 | h1, -⟩ | ⟨h1, -⟩ | ⟨h1, -⟩ | ⟨h1 | h1 | h1, -⟩
  · rw [if_pos h1]
    obtain ⟨d, s, e, hd⟩ := itoa_head t.num
    exact ⟨d, s, e, (nb_ne hd).2.2.2.2.2.2.1⟩
  all_goals simp only [h1]
  · exact ⟨35, _, rfl, by decide⟩
  · exact ⟨39, _, rfl, by decide⟩
  · exact ⟨40, _, rfl, by decide⟩
  · exact ⟨110, _, rfl, by decide⟩
  · exact ⟨116, _, rfl, by decide⟩
  · exact ⟨102, _, rfl, by decide⟩
theorem txt_W (s : ByteArray) (hs : s.size ≤ 256) (r : Bs) : txtP (textW s ++ r) = some (.mk 2 s 0 [], r) := by
  unfold txtP textW
  rw [List.cons_append, List.append_assoc, show (39 :: (s.data.toList.flatMap escB ++ ([39] ++ r)) : Bs) = [39] ++ (s.data.toList.flatMap escB ++ 39 :: r) from rfl, tok_app]
  simp only
  rw [quo_esc s.data.toList _ r [] (by rw [List.length_append]; omega) (by rw [← Lib.size_eq]; simpa using hs)]
  simp only [List.nil_append]
theorem txt_some {r r' : Bs} {x : LitS} (h : txtP r = some (x, r')) : ∃ s : ByteArray, x = .mk 2 s 0 [] ∧ s.size ≤ 256 ∧ r = textW s ++ r' := by
  unfold txtP at h
  split at h
  · cases h
  · next r1 h1 =>
    split at h
    · cases h
    · next b r2 h2 =>
      simp only [Option.some.injEq, Prod.mk.injEq] at h
      obtain ⟨rfl, rfl⟩ := h
      obtain ⟨y, e1, e2, e3⟩ := quo_some _ _ _ _ _ h2 (by simp)
      simp at e1
      subst e1
      refine ⟨⟨b.toArray⟩, rfl, by rw [Lib.size_eq]; simpa using e2, ?_⟩
      rw [tok_some h1, e3]
      unfold textW
      simp
end Go.Proofs.YtclkoffnjiiioaaGreatDoor
namespace Go.Proofs.YtclkoffnjiiioaaGreatDoor
open Go.RowKit
set_option linter.unusedVariables false
set_option linter.unusedSimpArgs false
theorem ga_kids {t : LitT} (h4 : t.kind ≠ 4) (n : Nat) : gaT t n = (0, n) := by rw [gaT_at, if_neg h4]
/-- of a literal that is written, its reading: elements -/
def EleA (f : Nat) : Prop := ∀ (t : LitT) (r : Bs) (n : Nat), mayB t = true → NmT t → (gaT t n).1 = 0 → n ≤ 4096 → NoN r → 2 * (wrT t ++ r).length + 1 ≤ f → eleP f (wrT t ++ r) n = some (stT t, r, (gaT t n).2) ∧ (gaT t n).2 ≤ 4096
def ArrA (f : Nat) : Prop := ∀ (ts : List LitT) (r : Bs) (n : Nat) (acc : List LitS), (∀ t ∈ ts, NmT t) → (gaL ts n).1 = 0 → n ≤ 4096 → acc.length + ts.length ≤ 32 → 2 * (wrL ts (decide (acc.length = 0)) ++ 41 :: r).length + 2 ≤ f → arrP f (wrL ts (decide (acc.length = 0)) ++ 41 :: r) n acc = some (acc ++ stL ts, r, (gaL ts n).2) ∧ (gaL ts n).2 ≤ 4096
theorem arrA {f : Nat} (ihE : ∀ g, g < f → EleA g) (ihA : ∀ g, g < f → ArrA g) : ArrA f := by
  intro ts r n acc hN hg hn hl hf
  cases f with
  | zero => omega
  | succ f =>
    cases ts with
    | nil =>
      rw [arrP, wrL_nil, List.nil_append, show (41 :: r : Bs) = [41] ++ r from rfl, tok_app, gaL_nil, stL_nil]
      simp [hn]
    | cons t ts =>
      rw [gaL_cons] at hg ⊢
      by_cases hm : mayB t = false
      · rw [if_pos hm] at hg; cases hg
      rw [if_neg hm] at hg ⊢
      by_cases h3 : 4096 < n + 1
      · rw [if_pos h3] at hg; cases hg
      rw [if_neg h3] at hg ⊢
      by_cases h4 : (gaT t (n + 1)).1 ≠ 0
      · rw [if_pos h4] at hg; exact absurd hg h4
      rw [if_neg h4] at hg ⊢
      have h5 : (gaT t (n + 1)).1 = 0 := by simpa using h4
      have hmt : mayB t = true := by simpa using hm
      obtain ⟨d, s, ew, hd⟩ := wr_head t hmt
      rw [List.length_cons] at hl
      have hnx : NoN (wrL ts false ++ 41 :: r) := by
        cases ts with
        | nil => rw [wrL_nil]; exact nn_cons (by decide)
        | cons u us => rw [wrL_cons, List.append_assoc, List.append_assoc]; exact nn_cons (by decide)
      have hlen : 1 ≤ (wrT t).length := by rw [ew]; simp
      rw [wrL_cons] at hf ⊢
      by_cases ha : acc.length = 0
      · have hd1 : decide (acc.length = 0) = true := decide_eq_true ha
        rw [hd1] at hf ⊢
        rw [if_pos rfl, List.nil_append, List.append_assoc] at hf ⊢
        obtain ⟨e1, e2⟩ := ihE f (by omega) t (wrL ts false ++ 41 :: r) (n + 1) hmt (hN t (by simp)) h5 (by omega) hnx (by omega)
        rw [arrP]
        have ht : tokP [41] (wrT t ++ (wrL ts false ++ 41 :: r)) = none := by rw [ew]; exact tok_ne (fun e => hd e.symm)
        rw [ht]
        simp only
        rw [if_pos ha]
        simp only
        rw [if_neg (by omega), e1]
        simp only
        have hl2 : (acc ++ [stT t]).length = acc.length + 1 := by simp
        have hd2 : decide ((acc ++ [stT t]).length = 0) = false := by rw [hl2]; simp
        rw [List.length_append] at hf
        have := ihA f (by omega) ts r (gaT t (n + 1)).2 (acc ++ [stT t]) (fun u hu => hN u (by simp [hu])) hg e2 (by rw [hl2]; omega) (by rw [hd2]; omega)
        rw [hd2] at this
        rw [this.1, stL_cons]
        exact ⟨by simp, this.2⟩
      · have hd1 : decide (acc.length = 0) = false := decide_eq_false ha
        rw [hd1] at hf ⊢
        rw [if_neg Bool.false_ne_true, List.append_assoc, List.append_assoc] at hf ⊢
        rw [List.length_append] at hf
        obtain ⟨e1, e2⟩ := ihE f (by omega) t (wrL ts false ++ 41 :: r) (n + 1) hmt (hN t (by simp)) h5 (by omega) hnx (by omega)
        rw [arrP]
        have ht : tokP [41] ([32] ++ (wrT t ++ (wrL ts false ++ 41 :: r))) = none := tok_ne (by decide)
        rw [ht]
        simp only
        rw [if_neg ha, tok_app]
        simp only
        rw [if_neg (by omega), e1]
        simp only
        have hl2 : (acc ++ [stT t]).length = acc.length + 1 := by simp
        have hd2 : decide ((acc ++ [stT t]).length = 0) = false := by rw [hl2]; simp
        rw [List.length_append] at hf
        have := ihA f (by omega) ts r (gaT t (n + 1)).2 (acc ++ [stT t]) (fun u hu => hN u (by simp [hu])) hg e2 (by rw [hl2]; omega) (by rw [hd2]; omega)
        rw [hd2] at this
        rw [this.1, stL_cons]
        exact ⟨by simp, this.2⟩
theorem st_at (t : LitT) (k : Int) (a : ByteArray) (n : Int) (h1 : t.kind = k) (h2 : t.text = a) (h3 : t.num = n) (h4 : t.kids = []) : stT t = .mk k a n [] := by
  rw [stT_mk, h1, h2, h3, h4, stL_nil]
theorem eleA {f : Nat} (ihA : ∀ g, g < f → ArrA g) : EleA f := by
  intro t r n hm hN hg hn hr hf
  cases f with
  | zero => omega
  | succ f =>
    have hw := wrT_at t
    rcases may_is hm with ⟨h1 | h1, h2, h3⟩ | ⟨h1, h2, h3, h4⟩ | ⟨h1, h2, h3, h4⟩ | ⟨h1 | h1 | h1, h2, h3, h4⟩
    · rw [if_pos h1] at hw
      obtain ⟨d, s, e, hd⟩ := itoa_head t.num
      have hne := nb_ne hd
      rw [ga_kids (by omega), hw, eleP]
      have hfst : fstB (Lib.itoa t.num ++ r) = d := by rw [e]; rfl
      rw [hfst, if_neg hne.2.1, if_neg hne.1, if_neg hne.2.2.1, if_neg (by rintro (h | h | h); exact hne.2.2.2.1 h; exact hne.2.2.2.2.1 h; exact hne.2.2.2.2.2.1 h)]
      unfold intP
      rw [numP_itoa t.num hN.num r hr]
      simp only
      exact ⟨by rw [st_at t 1 noTx t.num h1 h2 rfl h3], hn⟩
    · rw [if_neg (by omega), if_neg (by omega), if_pos h1] at hw
      rw [ga_kids (by omega), hw, eleP, List.cons_append]
      rw [fst_cons, if_neg (by decide), if_neg (by decide), if_pos rfl]
      unfold symP
      rw [show (35 :: (Lib.itoa t.num ++ r) : Bs) = [35] ++ (Lib.itoa t.num ++ r) from rfl, tok_app]
      simp only
      rw [numP_itoa t.num hN.num r hr]
      simp only
      exact ⟨by rw [st_at t 3 noTx t.num h1 h2 rfl h3], hn⟩
    · rw [if_neg (by omega), if_pos h1] at hw
      rw [ga_kids (by omega), hw, eleP]
      have hfst : fstB (textW t.text ++ r) = 39 := rfl
      rw [hfst, if_neg (by decide), if_pos rfl, txt_W t.text h2 r]
      simp only
      exact ⟨by rw [st_at t 2 t.text 0 h1 rfl h3 h4], hn⟩
    · rw [if_neg (by omega), if_neg (by omega), if_neg (by omega), if_neg (by omega), if_neg (by omega), if_neg (by omega)] at hw
      rw [gaT_at, if_pos h1] at hg ⊢
      rw [hw] at hf ⊢
      rw [eleP, List.cons_append, fst_cons, if_pos rfl, List.append_assoc, List.singleton_append, show (40 :: (wrL t.kids true ++ 41 :: r) : Bs) = [40] ++ (wrL t.kids true ++ 41 :: r) from rfl, tok_app]
      simp only
      rw [List.cons_append, List.length_cons, List.append_assoc, List.singleton_append] at hf
      have := ihA f (by omega) t.kids r n [] hN.kids hg hn (by simpa using h2) (by simp only [List.length_nil, decide_true]; omega)
      simp only [List.length_nil, decide_true, List.nil_append] at this
      rw [this.1]
      simp only
      refine ⟨?_, this.2⟩
      rw [stT_mk, h1, h3, h4]
    · rw [if_neg (by omega), if_neg (by omega), if_neg (by omega), if_pos h1] at hw
      rw [ga_kids (by omega), hw, eleP]
      have hfst : fstB ([110, 105, 108] ++ r) = 110 := rfl
      rw [hfst, if_neg (by decide), if_neg (by decide), if_neg (by decide), if_pos (.inl rfl)]
      unfold conP
      rw [tok_app]
      simp only
      exact ⟨by rw [st_at t 5 noTx 0 h1 h3 h2 h4], hn⟩
    · rw [if_neg (by omega), if_neg (by omega), if_neg (by omega), if_neg (by omega), if_pos h1] at hw
      rw [ga_kids (by omega), hw, eleP]
      have hfst : fstB ([116, 114, 117, 101] ++ r) = 116 := rfl
      rw [hfst, if_neg (by decide), if_neg (by decide), if_neg (by decide), if_pos (.inr (.inl rfl))]
      unfold conP
      rw [show tokP [110, 105, 108] ([116, 114, 117, 101] ++ r) = none from tok_ne (by decide), tok_app]
      simp only
      exact ⟨by rw [st_at t 6 noTx 0 h1 h3 h2 h4], hn⟩
    · rw [if_neg (by omega), if_neg (by omega), if_neg (by omega), if_neg (by omega), if_neg (by omega), if_pos h1] at hw
      rw [ga_kids (by omega), hw, eleP]
      have hfst : fstB ([102, 97, 108, 115, 101] ++ r) = 102 := rfl
      rw [hfst, if_neg (by decide), if_neg (by decide), if_neg (by decide), if_pos (.inr (.inr rfl))]
      unfold conP
      rw [show tokP [110, 105, 108] ([102, 97, 108, 115, 101] ++ r) = none from tok_ne (by decide), show tokP [116, 114, 117, 101] ([102, 97, 108, 115, 101] ++ r) = none from tok_ne (by decide), tok_app]
      simp only
      exact ⟨by rw [st_at t 7 noTx 0 h1 h3 h2 h4], hn⟩
theorem read_all : ∀ f, EleA f ∧ ArrA f := by
  intro f
  induction f using Nat.strongRecOn with
  | _ f ih => exact ⟨eleA fun g hg => (ih g hg).2, arrA (fun g hg => (ih g hg).1) (fun g hg => (ih g hg).2)⟩
def EleB (f : Nat) : Prop := ∀ (r : Bs) (n : Nat) (x : LitS) (r2 : Bs) (n2 : Nat), eleP f r n = some (x, r2, n2) → n ≤ 4096 → r = wrT (unS x) ++ r2 ∧ mayB (unS x) = true ∧ gaT (unS x) n = (0, n2) ∧ NmT (unS x) ∧ n2 ≤ 4096
def ArrB (f : Nat) : Prop := ∀ (r : Bs) (n : Nat) (acc l : List LitS) (r2 : Bs) (n2 : Nat), arrP f r n acc = some (l, r2, n2) → n ≤ 4096 → acc.length ≤ 32 → ∃ xs, l = acc ++ xs ∧ l.length ≤ 32 ∧ r = wrL (unL xs) (decide (acc.length = 0)) ++ 41 :: r2 ∧ gaL (unL xs) n = (0, n2) ∧ (∀ t ∈ unL xs, NmT t) ∧ n2 ≤ 4096
theorem arrB {f : Nat} (ihE : ∀ g, g < f → EleB g) (ihA : ∀ g, g < f → ArrB g) : ArrB f := by
  intro r n acc l r2 n2 h hn hl
  cases f with
  | zero => rw [arrP] at h; cases h
  | succ f =>
    rw [arrP] at h
    split at h
    · next r1 h1 =>
      simp only [Option.some.injEq, Prod.mk.injEq] at h
      obtain ⟨rfl, rfl, rfl⟩ := h
      refine ⟨[], by simp, hl, ?_, ?_, ?_, hn⟩
      · rw [unL_nil, wrL_nil, tok_some h1]; rfl
      · rw [unL_nil, gaL_nil]
      · rw [unL_nil]; intro t ht; cases ht
    · split at h
      · cases h
      · next r1 h1 =>
        split at h
        · cases h
        · next hb =>
          split at h
          · cases h
          · next x r3 n3 h3 =>
            obtain ⟨a1, a2, a3, a4, a5⟩ := ihE f (by omega) r1 (n + 1) x r3 n3 h3 (by omega)
            obtain ⟨xs, b1, b2, b3, b4, b5, b6⟩ := ihA f (by omega) r3 n3 (acc ++ [x]) l r2 n2 h a5 (by simp; omega)
            have hd2 : decide ((acc ++ [x]).length = 0) = false := by simp
            rw [hd2] at b3
            refine ⟨x :: xs, by rw [b1]; simp, b2, ?_, ?_, ?_, b6⟩
            · rw [unL_cons, wrL_cons]
              by_cases ha : acc.length = 0
              · rw [if_pos ha] at h1
                injection h1 with h1
                rw [decide_eq_true ha, if_pos rfl, h1, a1, b3]
                simp
              · rw [if_neg ha] at h1
                rw [decide_eq_false ha, if_neg Bool.false_ne_true, tok_some h1, a1, b3]
                simp
            · rw [unL_cons, gaL_cons, if_neg (by rw [a2]; simp), if_neg (by omega), a3]
              simp [b4]
            · rw [unL_cons]
              intro t ht
              rcases List.mem_cons.1 ht with rfl | ht
              · exact a4
              · exact b5 t ht
theorem noTx_e : noTx.toList.isEmpty = true := by rw [Lib.toList_data]; rfl
theorem may_mk (k : Int) (a : ByteArray) (n : Int) (l : List LitT) : mayB (.mk k a n none 0 l) = (if k = 1 ∨ k = 3 then a.toList.isEmpty && ((l.length : Int) == 0)
  else if k = 2 then decide ((a.size : Int) ≤ 256) && (n == 0) && ((l.length : Int) == 0)
  else if k = 4 then decide ((l.length : Int) ≤ 32) && (n == 0) && a.toList.isEmpty
  else if k = 5 ∨ k = 6 ∨ k = 7 then (n == 0) && a.toList.isEmpty && ((l.length : Int) == 0)
  else false) := rfl
theorem may_int (k : Int) (h : k = 1 ∨ k = 3) (n : Int) : mayB (.mk k noTx n none 0 []) = true := by
  rw [may_mk, if_pos h, noTx_e]
  rfl
theorem may_con (k : Int) (h : k = 5 ∨ k = 6 ∨ k = 7) : mayB (.mk k noTx 0 none 0 []) = true := by
  rw [may_mk, if_neg (by omega), if_neg (by omega), if_neg (by omega), if_pos h, noTx_e]
  rfl
theorem may_txt (s : ByteArray) (h : s.size ≤ 256) : mayB (.mk 2 s 0 none 0 []) = true := by
  rw [may_mk, if_neg (by decide), if_pos rfl, decide_eq_true (by omega)]
  rfl
theorem may_arr1 (l : List LitT) (h : l.length ≤ 32) : mayB (.mk 4 noTx 0 none 0 l) = true := by
  rw [may_mk, if_neg (by decide), if_neg (by decide), if_pos rfl, decide_eq_true (by omega), noTx_e]
  rfl
theorem nm_flat (k : Int) (a : ByteArray) (n : Int) (h : r64 n) : NmT (.mk k a n none 0 []) := .mk _ h (fun u hu => by cases hu)
theorem r64_0 : r64 0 := by unfold r64; omega
theorem eleB {f : Nat} (ihA : ∀ g, g < f → ArrB g) : EleB f := by
  intro r n x r2 n2 h hn
  cases f with
  | zero => rw [eleP] at h; cases h
  | succ f =>
    rw [eleP] at h
    split at h
    · split at h
      · cases h
      · next r1 h1 =>
        split at h
        · cases h
        · next l r3 n3 h3 =>
          simp only [Option.some.injEq, Prod.mk.injEq] at h
          obtain ⟨rfl, rfl, rfl⟩ := h
          obtain ⟨xs, b1, b2, b3, b4, b5, b6⟩ := ihA f (by omega) r1 n [] l r3 n3 h3 hn (by simp)
          simp only [List.nil_append] at b1
          subst b1
          simp only [List.length_nil, decide_true] at b3
          rw [unS_mk]
          refine ⟨?_, may_arr1 _ (by rw [unL_len]; exact b2), ?_, .mk _ r64_0 b5, b6⟩
          · rw [wrT, if_neg (by decide), if_neg (by decide), if_neg (by decide), if_neg (by decide), if_neg (by decide), if_neg (by decide), tok_some h1, b3]
            simp
          · rw [gaT, if_pos rfl, b4]
    · split at h
      · cases h
      · next y r3 h3 =>
        simp only [Option.some.injEq, Prod.mk.injEq] at h
        obtain ⟨rfl, rfl, rfl⟩ := h
        split at h3
        · obtain ⟨s, rfl, hs, e⟩ := txt_some h3
          rw [unS_mk, unL_nil]
          exact ⟨by rw [wrT, if_neg (by decide), if_pos rfl, e], may_txt s hs, ga_kids (by show (2 : Int) ≠ 4; decide) n, nm_flat _ _ _ r64_0, hn⟩
        · split at h3
          · unfold symP at h3
            split at h3
            · cases h3
            · next r4 h4 =>
              split at h3
              · cases h3
              · next v r5 h5 =>
                simp only [Option.some.injEq, Prod.mk.injEq] at h3
                obtain ⟨rfl, rfl⟩ := h3
                obtain ⟨e, hv, -⟩ := numP_some h5
                rw [unS_mk, unL_nil]
                exact ⟨by rw [wrT, if_neg (by decide), if_neg (by decide), if_pos rfl, tok_some h4, e]; simp, may_int 3 (.inr rfl) v, ga_kids (by show (3 : Int) ≠ 4; decide) n, nm_flat _ _ _ hv, hn⟩
          · split at h3
            · unfold conP at h3
              split at h3
              · next r4 h4 =>
                simp only [Option.some.injEq, Prod.mk.injEq] at h3
                obtain ⟨rfl, rfl⟩ := h3
                rw [unS_mk, unL_nil]
                exact ⟨by rw [wrT, if_neg (by decide), if_neg (by decide), if_neg (by decide), if_pos rfl, tok_some h4], may_con 5 (by decide), ga_kids (by show (5 : Int) ≠ 4; decide) n, nm_flat _ _ _ r64_0, hn⟩
              · split at h3
                · next r4 h4 =>
                  simp only [Option.some.injEq, Prod.mk.injEq] at h3
                  obtain ⟨rfl, rfl⟩ := h3
                  rw [unS_mk, unL_nil]
                  exact ⟨by rw [wrT, if_neg (by decide), if_neg (by decide), if_neg (by decide), if_neg (by decide), if_pos rfl, tok_some h4], may_con 6 (by decide), ga_kids (by show (6 : Int) ≠ 4; decide) n, nm_flat _ _ _ r64_0, hn⟩
                · split at h3
                  · next r4 h4 =>
                    simp only [Option.some.injEq, Prod.mk.injEq] at h3
                    obtain ⟨rfl, rfl⟩ := h3
                    rw [unS_mk, unL_nil]
                    exact ⟨by rw [wrT, if_neg (by decide), if_neg (by decide), if_neg (by decide), if_neg (by decide), if_neg (by decide), if_pos rfl, tok_some h4], may_con 7 (by decide), ga_kids (by show (7 : Int) ≠ 4; decide) n, nm_flat _ _ _ r64_0, hn⟩
                  · cases h3
            · unfold intP at h3
              split at h3
              · cases h3
              · next v r5 h5 =>
                simp only [Option.some.injEq, Prod.mk.injEq] at h3
                obtain ⟨rfl, rfl⟩ := h3
                obtain ⟨e, hv, -⟩ := numP_some h5
                rw [unS_mk, unL_nil]
                exact ⟨by rw [wrT, if_pos rfl, e], may_int 1 (.inl rfl) v, ga_kids (by show (1 : Int) ≠ 4; decide) n, nm_flat _ _ _ hv, hn⟩
theorem back_all : ∀ f, EleB f ∧ ArrB f := by
  intro f
  induction f using Nat.strongRecOn with
  | _ f ih => exact ⟨eleB fun g hg => (ih g hg).2, arrB (fun g hg => (ih g hg).1) (fun g hg => (ih g hg).2)⟩
end Go.Proofs.YtclkoffnjiiioaaGreatDoor
