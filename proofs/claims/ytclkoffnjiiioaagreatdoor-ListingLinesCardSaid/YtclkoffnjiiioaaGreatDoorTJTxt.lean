import Derived.Test.YtclkoffnjiiioaaGreatDoorTG15JPure
import Derived.Test.YtclkoffnjiiioaaGreatDoorTG17JRd3
namespace Go.Proofs.YtclkoffnjiiioaaGreatDoor
open Go.RowKit
set_option linter.unusedVariables false
set_option linter.unusedSimpArgs false
/-- digits alone -/
def isDg (b : UInt8) : Prop := 48 ≤ b.toNat ∧ b.toNat ≤ 57
theorem dg_of (d : Nat) (h : d < 10) : isDg (UInt8.ofNat (48 + d)) ∧ (UInt8.ofNat (48 + d)).toNat - 48 = d := by
  have : (UInt8.ofNat (48 + d)).toNat = 48 + d := by
    rw [UInt8.toNat_ofNat']
    exact Nat.mod_eq_of_lt (by omega)
  unfold isDg
  rw [this]
  omega
theorem dec_dg : ∀ (u : Nat), ∀ b ∈ Lib.decDigits u, isDg b := by
  intro u
  induction u using Nat.strongRecOn with
  | _ u ih =>
    intro b hb
    rw [Lib.decDigits] at hb
    split at hb
    · next h => rw [List.mem_singleton.1 hb]; exact (dg_of u h).1
    · rcases List.mem_append.1 hb with hb | hb
      · exact ih (u / 10) (by omega) b hb
      · rw [List.mem_singleton.1 hb]; exact (dg_of (u % 10) (by omega)).1
theorem dec_ne (u : Nat) : Lib.decDigits u ≠ [] := by
  rw [Lib.decDigits]
  split <;> simp
theorem pu_app : ∀ (l : Bs) (acc : Nat) (m : Bs), Lib.parseUint10 acc (l ++ m) = (match Lib.parseUint10 acc l with | .ok u => Lib.parseUint10 u m | .«syntax» => .«syntax» | .range => .range)
  | [], acc, m => by simp [Lib.parseUint10]
  | c :: r, acc, m => by
    rw [List.cons_append, Lib.parseUint10, Lib.parseUint10]
    split
    · split
      · rfl
      · split
        · rfl
        · exact pu_app r _ m
    · rfl
theorem pu_dec : ∀ u : Nat, u < 18446744073709551616 → Lib.parseUint10 0 (Lib.decDigits u) = .ok u := by
  intro u
  induction u using Nat.strongRecOn with
  | _ u ih =>
    intro hu
    rw [Lib.decDigits]
    split
    · next h =>
      have h1 := dg_of u h
      have h2 := h1.1
      unfold isDg at h2
      rw [Lib.parseUint10, if_pos h2, if_neg (by omega), if_neg (by rw [h1.2]; omega), h1.2]
      simp [Lib.parseUint10]
    · have h1 := dg_of (u % 10) (by omega)
      have h2 := h1.1
      unfold isDg at h2
      rw [pu_app, ih (u / 10) (by omega) (by omega)]
      show Lib.parseUint10 (u / 10) _ = _
      rw [Lib.parseUint10, if_pos h2, if_neg (by omega), if_neg (by rw [h1.2]; omega), h1.2]
      rw [Lib.parseUint10]
      congr 1
      omega
theorem pm_dec (u : Nat) (hu : u < 18446744073709551616) : Lib.parseMag (Lib.decDigits u) = .ok u := by
  unfold Lib.parseMag
  rw [if_neg (dec_ne u), pu_dec u hu]
theorem atoi_itoa (v : Int) (h : r64 v) : Lib.atoiAll (Lib.itoa v) = .ok v := by
  unfold r64 at h
  unfold Lib.itoa
  by_cases hn : v < 0
  · rw [if_pos hn]
    unfold Lib.atoiAll
    simp only
    rw [if_pos (by right; rfl), pm_dec _ (by omega)]
    simp only
    rw [if_neg (by simp), if_neg (by omega), if_pos (show UInt8.toNat 45 = 45 from rfl)]
    congr 1
    omega
  · rw [if_neg hn]
    cases hd : Lib.decDigits v.toNat with
    | nil => exact absurd hd (dec_ne _)
    | cons c r =>
      have hc := dec_dg v.toNat c (by rw [hd]; simp)
      unfold isDg at hc
      unfold Lib.atoiAll
      simp only
      rw [if_neg (by omega), ← hd, pm_dec _ (by omega)]
      simp only
      rw [if_neg (by omega), if_neg (by omega), if_neg (by omega)]
      congr 1
      omega
theorem nb_dg {b : UInt8} (h : isDg b) : isNB b = true := by
  have key : ∀ n : Fin 256, 48 ≤ n.val ∧ n.val ≤ 57 → isNB (UInt8.ofNat n.val) = true := by decide +kernel
  have := key ⟨b.toNat, b.toNat_lt⟩ h
  simpa using this
theorem itoa_nb (v : Int) : ∀ b ∈ Lib.itoa v, isNB b = true := by
  intro b hb
  unfold Lib.itoa at hb
  split at hb
  · rcases List.mem_cons.1 hb with rfl | hb
    · rfl
    · exact nb_dg (dec_dg _ b hb)
  · exact nb_dg (dec_dg _ b hb)
theorem itoa_ne (v : Int) : Lib.itoa v ≠ [] := by
  unfold Lib.itoa
  split
  · simp
  · exact dec_ne _
/-- no number goes on here -/
def NoN (r : Bs) : Prop := ∀ b, r.head? = some b → isNB b = false
theorem take_app {p : UInt8 → Bool} : ∀ (a r : Bs), (∀ b ∈ a, p b = true) → (∀ b, r.head? = some b → p b = false) → (a ++ r).takeWhile p = a ∧ (a ++ r).dropWhile p = r
  | [], r, _, hr => by
    cases r with
    | nil => exact ⟨rfl, rfl⟩
    | cons c r =>
      have := hr c rfl
      simp [this]
  | c :: a, r, ha, hr => by
    have hc := ha c (by simp)
    have := take_app a r (fun b hb => ha b (by simp [hb])) hr
    simp [hc, this]
theorem numP_itoa (v : Int) (h : r64 v) (r : Bs) (hr : NoN r) : numP (Lib.itoa v ++ r) = some (v, r) := by
  obtain ⟨h1, h2⟩ := take_app (p := isNB) (Lib.itoa v) r (itoa_nb v) hr
  unfold numP
  rw [h1, h2, atoi_itoa v h]
  simp
theorem atoi_rng {l : Bs} {v : Int} (h : Lib.atoiAll l = .ok v) : r64 v := by
  unfold Lib.atoiAll at h
  unfold r64
  split at h
  · cases h
  · simp only at h
    split at h
    · cases h
    · cases h
    · split at h
      · cases h
      · split at h
        · cases h
        · next h1 h2 =>
          injection h with h
          subst h
          split <;> omega
theorem dw_head {p : UInt8 → Bool} : ∀ (r : Bs) (b : UInt8), (r.dropWhile p).head? = some b → p b = false
  | [], b, h => by cases h
  | c :: r, b, h => by
    rw [List.dropWhile_cons] at h
    split at h
    · exact dw_head r b h
    · next hc =>
      have : c = b := by simpa using h
      subst this
      simpa using hc
theorem numP_some {r r' : Bs} {v : Int} (h : numP r = some (v, r')) : r = Lib.itoa v ++ r' ∧ r64 v ∧ NoN r' := by
  unfold numP at h
  split at h
  · next u hu =>
    split at h
    · next he =>
      simp only [Option.some.injEq, Prod.mk.injEq] at h
      obtain ⟨rfl, rfl⟩ := h
      exact ⟨by rw [he]; exact (List.takeWhile_append_dropWhile).symm, atoi_rng hu, fun b hb => dw_head r b hb⟩
    · cases h
  · cases h
theorem tok_app (p r : Bs) : tokP p (p ++ r) = some r := by
  unfold tokP Lib.hasPrefix
  rw [if_pos (by simp)]
  simp
theorem tok_some {p r r' : Bs} (h : tokP p r = some r') : r = p ++ r' := by
  unfold tokP Lib.hasPrefix at h
  split at h
  · next hp =>
    injection h with h
    obtain ⟨t, rfl⟩ := List.isPrefixOf_iff_prefix.1 hp
    simp at h
    rw [h]
  · cases h
theorem tok_ne {c d : UInt8} {p r : Bs} (h : c ≠ d) : tokP (c :: p) (d :: r) = none := by
  unfold tokP Lib.hasPrefix
  rw [if_neg (by simp [h])]
theorem tok_nil {c : UInt8} {p : Bs} : tokP (c :: p) [] = none := by
  unfold tokP Lib.hasPrefix
  rw [if_neg (by simp)]
theorem tok_ne2 {b c d : UInt8} {p r : Bs} (h : c ≠ d) : tokP (b :: c :: p) (b :: d :: r) = none := by
  unfold tokP Lib.hasPrefix
  rw [if_neg (by simp [h])]
/-- what is not told by its first byte -/
theorem tok_head {c : UInt8} {p r r' : Bs} (h : tokP (c :: p) r = some r') : r.head? = some c := by
  rw [tok_some h]; rfl
theorem hex_tab : ∀ n : Fin 256, (Lib.indexByte hexT (hexD (n.val / 16)) = ((n.val / 16 : Nat) : Int)) ∧ (Lib.indexByte hexT (hexD (n.val % 16)) = ((n.val % 16 : Nat) : Int)) := by decide +kernel
theorem hex_back : ∀ n : Fin 256, Lib.indexByte hexT (UInt8.ofNat n.val) < 0 ∨ ((Lib.indexByte hexT (UInt8.ofNat n.val)).toNat < 16 ∧ hexD (Lib.indexByte hexT (UInt8.ofNat n.val)).toNat = UInt8.ofNat n.val) := by decide +kernel
theorem hex_byte (c : UInt8) : Lib.indexByte hexT c < 0 ∨ ((Lib.indexByte hexT c).toNat < 16 ∧ hexD (Lib.indexByte hexT c).toNat = c) := by
  have := hex_back ⟨c.toNat, c.toNat_lt⟩
  simpa using this
theorem esc_tab : ∀ n : Fin 256, (markB (UInt8.ofNat n.val) = true ∧ escB (UInt8.ofNat n.val) = [92, UInt8.ofNat n.val] ∧ (UInt8.ofNat n.val) ≠ 120) ∨ (plainB (UInt8.ofNat n.val) = true ∧ markB (UInt8.ofNat n.val) = false ∧ escB (UInt8.ofNat n.val) = [UInt8.ofNat n.val] ∧ UInt8.ofNat n.val ≠ 92 ∧ UInt8.ofNat n.val ≠ 39) ∨ (plainB (UInt8.ofNat n.val) = false ∧ markB (UInt8.ofNat n.val) = false ∧ escB (UInt8.ofNat n.val) = [92, 120, hexD (n.val / 16), hexD (n.val % 16)]) := by decide +kernel
theorem esc_is (c : UInt8) : (markB c = true ∧ escB c = [92, c] ∧ c ≠ 120) ∨ (plainB c = true ∧ markB c = false ∧ escB c = [c] ∧ c ≠ 92 ∧ c ≠ 39) ∨ (plainB c = false ∧ markB c = false ∧ escB c = [92, 120, hexD (c.toNat / 16), hexD (c.toNat % 16)]) := by
  have := esc_tab ⟨c.toNat, c.toNat_lt⟩
  simpa using this
theorem one_esc (c : UInt8) (r : Bs) : oneP (escB c ++ r) = some (c, r) := by
  rcases esc_is c with ⟨h1, h2, h3⟩ | ⟨h1, h0, h2, h3, h4⟩ | ⟨h1, h2, h3⟩
  · rw [h2]
    unfold oneP
    rw [List.cons_append, List.cons_append, List.nil_append, tok_ne2 (by exact fun e => h3 e.symm)]
    simp only
    rw [show (92 :: c :: r : Bs) = [92] ++ (c :: r) from rfl, tok_app]
    simp [h1]
  · rw [h2]
    unfold oneP
    rw [List.cons_append, List.nil_append, tok_ne (by exact fun e => h3 e.symm), tok_ne (by exact fun e => h3 e.symm)]
    simp [h1]
  · rw [h3]
    unfold oneP
    rw [show ([92, 120, hexD (c.toNat / 16), hexD (c.toNat % 16)] ++ r : Bs) = [92, 120] ++ (hexD (c.toNat / 16) :: hexD (c.toNat % 16) :: r) from rfl, tok_app]
    obtain ⟨e1, e2⟩ := hex_tab ⟨c.toNat, c.toNat_lt⟩
    simp only at e1 e2
    simp only
    unfold hidP
    simp only
    rw [e1, e2]
    rw [if_neg (by omega)]
    have e3 : UInt8.ofNat (((c.toNat / 16 : Nat) : Int).toNat * 16 + ((c.toNat % 16 : Nat) : Int).toNat) = c := by
      rw [Int.toNat_natCast, Int.toNat_natCast, show c.toNat / 16 * 16 + c.toNat % 16 = c.toNat by omega]
      simp
    simp only [e3]
    rw [if_pos ⟨h1, h2⟩]
theorem one_some {r r' : Bs} {c : UInt8} (h : oneP r = some (c, r')) : r = escB c ++ r' := by
  unfold oneP at h
  split at h
  · next r1 h1 =>
    have e := tok_some h1
    unfold hidP at h
    split at h
    · next a b r2 =>
      split at h
      · cases h
      · next hab =>
        simp only at h
        split at h
        · next hc =>
          simp only [Option.some.injEq, Prod.mk.injEq] at h
          obtain ⟨h2, rfl⟩ := h
          rw [h2] at hc
          rcases hex_byte a with ha | ⟨ha, ha'⟩
          · exact absurd (.inl ha) hab
          rcases hex_byte b with hb | ⟨hb, hb'⟩
          · exact absurd (.inr hb) hab
          rcases esc_is c with ⟨q1, -, -⟩ | ⟨q1, -, -⟩ | ⟨q1, q2, q3⟩
          · rw [hc.2] at q1; cases q1
          · rw [hc.1] at q1; cases q1
          · have hn : c.toNat = (Lib.indexByte hexT a).toNat * 16 + (Lib.indexByte hexT b).toNat := by
              rw [← h2, UInt8.toNat_ofNat', Nat.mod_eq_of_lt (by omega)]
            rw [e, q3, show c.toNat / 16 = (Lib.indexByte hexT a).toNat by omega, show c.toNat % 16 = (Lib.indexByte hexT b).toNat by omega, ha', hb']
            rfl
        · cases h
    · cases h
  · split at h
    · next d r1 h1 =>
      split at h
      · next hm =>
        simp only [Option.some.injEq, Prod.mk.injEq] at h
        obtain ⟨rfl, rfl⟩ := h
        rcases esc_is d with ⟨-, q2, -⟩ | ⟨-, q2, -⟩ | ⟨-, q2, -⟩
        · rw [tok_some h1, q2]; rfl
        · rw [hm] at q2; cases q2
        · rw [hm] at q2; cases q2
      · cases h
    · cases h
    · split at h
      · rename_i d r1 _ _
        split at h
        · next hp =>
          simp only [Option.some.injEq, Prod.mk.injEq] at h
          obtain ⟨rfl, rfl⟩ := h
          rcases esc_is d with ⟨q1, -⟩ | ⟨-, -, q2, -⟩ | ⟨q1, -⟩
          · unfold plainB at hp; rw [q1] at hp; simp at hp
          · rw [q2]; rfl
          · rw [hp] at q1; cases q1
        · cases h
      · cases h
theorem esc_head (c : UInt8) (r : Bs) : ∃ d s, escB c ++ r = d :: s ∧ d ≠ 39 := by
  rcases esc_is c with ⟨h1, h2, h3⟩ | ⟨h1, h0, h2, h3, h4⟩ | ⟨h1, h2, h3⟩
  · exact ⟨92, c :: r, by rw [h2]; rfl, by decide⟩
  · exact ⟨c, r, by rw [h2]; rfl, h4⟩
  · exact ⟨92, _, by rw [h3]; rfl, by decide⟩
theorem esc_len1 (c : UInt8) : 1 ≤ (escB c).length := by
  rcases esc_is c with ⟨h1, h2, h3⟩ | ⟨h1, h0, h2, h3, h4⟩ | ⟨h1, h2, h3⟩
  · rw [h2]; simp
  · rw [h2]; simp
  · rw [h3]; simp
theorem quo_esc : ∀ (b : Bs) (f : Nat) (r acc : Bs), (b.flatMap escB).length < f → acc.length + b.length ≤ 256 → quoP f (b.flatMap escB ++ 39 :: r) acc = some (acc ++ b, r)
  | [], 0, r, acc, hf, _ => by simp at hf
  | [], f + 1, r, acc, _, _ => by
    rw [quoP, List.flatMap_nil, List.nil_append, show (39 :: r : Bs) = [39] ++ r from rfl, tok_app]
    simp
  | c :: b, 0, r, acc, hf, _ => by simp at hf
  | c :: b, f + 1, r, acc, hf, ha => by
    rw [List.flatMap_cons, List.length_append] at hf
    have := esc_len1 c
    rw [List.length_cons] at ha
    obtain ⟨d, s, e, hd⟩ := esc_head c (b.flatMap escB ++ 39 :: r)
    rw [List.flatMap_cons, List.append_assoc, quoP]
    have ht : tokP [39] (escB c ++ (b.flatMap escB ++ 39 :: r)) = none := by rw [e]; exact tok_ne (fun e => hd e.symm)
    rw [ht, one_esc]
    simp only
    rw [if_neg (by omega), quo_esc b f r (acc ++ [c]) (by omega) (by rw [List.length_append]; simp; omega)]
    simp
theorem quo_some : ∀ (f : Nat) (r acc b r' : Bs), quoP f r acc = some (b, r') → acc.length ≤ 256 → ∃ x, b = acc ++ x ∧ b.length ≤ 256 ∧ r = x.flatMap escB ++ 39 :: r'
  | 0, r, acc, b, r', h, _ => by rw [quoP] at h; cases h
  | f + 1, r, acc, b, r', h, ha => by
    rw [quoP] at h
    split at h
    · next r1 h1 =>
      simp only [Option.some.injEq, Prod.mk.injEq] at h
      obtain ⟨rfl, rfl⟩ := h
      exact ⟨[], by simp, ha, by rw [tok_some h1]; rfl⟩
    · split at h
      · cases h
      · next c r1 h1 =>
        split at h
        · cases h
        · next hl =>
          obtain ⟨x, e1, e2, e3⟩ := quo_some f r1 (acc ++ [c]) b r' h (by rw [List.length_append]; simp; omega)
          exact ⟨c :: x, by rw [e1]; simp, e2, by rw [one_some h1, e3]; simp⟩
mutual
def unS : LitS → LitT
  | .mk k a n kids => .mk k a n none 0 (unL kids)
def unL : List LitS → List LitT
  | [] => []
  | t :: ts => unS t :: unL ts
end
theorem unL_nil : unL [] = [] := by rw [unL]
theorem unL_cons (t : LitS) (ts : List LitS) : unL (t :: ts) = unS t :: unL ts := by rw [unL]
theorem unS_mk (k : Int) (a : ByteArray) (n : Int) (l : List LitS) : unS (.mk k a n l) = .mk k a n none 0 (unL l) := by rw [unS]
theorem unL_len : ∀ ts : List LitS, (unL ts).length = ts.length
  | [] => by rw [unL_nil]; rfl
  | t :: ts => by rw [unL_cons, List.length_cons, List.length_cons, unL_len ts]
theorem unL_app : ∀ a b : List LitS, unL (a ++ b) = unL a ++ unL b
  | [], b => by rw [unL_nil]; rfl
  | t :: a, b => by rw [List.cons_append, unL_cons, unL_cons, unL_app a b]; rfl
mutual
theorem st_un : ∀ s : LitS, stT (unS s) = s
  | .mk k a n kids => by rw [unS_mk, stT, st_unL kids]
theorem st_unL : ∀ l : List LitS, stL (unL l) = l
  | [] => by rw [unL_nil, stL_nil]
  | t :: ts => by rw [unL_cons, stL_cons, st_un t, st_unL ts]
end
theorem ba_nil {a : ByteArray} (h : a.toList.isEmpty = true) : a = ⟨#[]⟩ := by
  rw [Lib.toList_data, List.isEmpty_iff] at h
  apply ByteArray.ext
  exact Array.toList_inj.1 h
/-- what a literal that may be one is -/
theorem may_is {t : LitT} (h : mayB t = true) :
    ((t.kind = 1 ∨ t.kind = 3) ∧ t.text = noTx ∧ t.kids = []) ∨ (t.kind = 2 ∧ t.text.size ≤ 256 ∧ t.num = 0 ∧ t.kids = []) ∨ (t.kind = 4 ∧ t.kids.length ≤ 32 ∧ t.num = 0 ∧ t.text = noTx) ∨ ((t.kind = 5 ∨ t.kind = 6 ∨ t.kind = 7) ∧ t.num = 0 ∧ t.text = noTx ∧ t.kids = []) := by
  have hk : ∀ {l : List LitT}, ((l.length : Int) == 0) = true → l = [] := fun {l} h => List.eq_nil_of_length_eq_zero (by simpa using h)
  unfold mayB at h
  split at h
  · next h1 =>
    rw [Bool.and_eq_true] at h
    exact .inl ⟨h1, ba_nil h.1, hk h.2⟩
  · split at h
    · next h1 =>
      rw [Bool.and_eq_true, Bool.and_eq_true] at h
      exact .inr (.inl ⟨h1, by have := of_decide_eq_true h.1.1; omega, by simpa using h.1.2, hk h.2⟩)
    · split at h
      · next h1 =>
        rw [Bool.and_eq_true, Bool.and_eq_true] at h
        exact .inr (.inr (.inl ⟨h1, by have := of_decide_eq_true h.1.1; omega, by simpa using h.1.2, ba_nil h.2⟩))
      · split at h
        · next h1 =>
          rw [Bool.and_eq_true, Bool.and_eq_true] at h
          exact .inr (.inr (.inr ⟨h1, by simpa using h.1.1, ba_nil h.1.2, hk h.2⟩))
        · cases h
theorem itoa_head (v : Int) : ∃ d s, Lib.itoa v = d :: s ∧ isNB d = true := by
  cases h : Lib.itoa v with
  | nil => exact absurd h (itoa_ne v)
  | cons d s => exact ⟨d, s, rfl, itoa_nb v d (by rw [h]; simp)⟩
theorem nb_ne {d : UInt8} (h : isNB d = true) : d ≠ 39 ∧ d ≠ 40 ∧ d ≠ 35 ∧ d ≠ 110 ∧ d ≠ 116 ∧ d ≠ 102 ∧ d ≠ 41 ∧ d ≠ 32 ∧ d ≠ 10 := by
  refine ⟨?_, ?_, ?_, ?_, ?_, ?_, ?_, ?_, ?_⟩ <;> (rintro rfl; exact absurd h (by decide))
theorem nn_cons {c : UInt8} {r : Bs} (h : isNB c = false) : NoN (c :: r) := fun b hb => by
  have : c = b := by simpa using hb
  rw [← this]; exact h
theorem fst_cons (c : UInt8) (r : Bs) : fstB (c :: r) = c := rfl
theorem wr_head (t : LitT) (h : mayB t = true) : ∃ d s, wrT t = d :: s ∧ d ≠ 41 := by
  rw [wrT_at]
  rcases may_is h with ⟨h1 | h1, -⟩ | ⟨h1, -⟩ | ⟨h1, -⟩ | ⟨h1 | h1 | h1, -⟩
  · rw [if_pos h1]
    obtain ⟨d, s, e, hd⟩ := itoa_head t.num
    exact ⟨d, s, e, (nb_ne hd).2.2.2.2.2.2.1⟩
  all_goals simp only [h1]
  · exact ⟨35, _, rfl, by decide⟩
  · exact ⟨39, _, rfl, by decide⟩
  · exact ⟨40, _, rfl, by decide⟩
  · exact ⟨110, _, rfl, by decide⟩
  · exact ⟨116, _, rfl, by decide⟩
  · exact ⟨102, _, rfl, by decide⟩
theorem txt_W (s : ByteArray) (hs : s.size ≤ 256) (r : Bs) : txtP (textW s ++ r) = some (.mk 2 s 0 [], r) := by
  unfold txtP textW
  rw [List.cons_append, List.append_assoc, show (39 :: (s.data.toList.flatMap escB ++ ([39] ++ r)) : Bs) = [39] ++ (s.data.toList.flatMap escB ++ 39 :: r) from rfl, tok_app]
  simp only
  rw [quo_esc s.data.toList _ r [] (by rw [List.length_append]; omega) (by rw [← Lib.size_eq]; simpa using hs)]
  simp only [List.nil_append]
theorem txt_some {r r' : Bs} {x : LitS} (h : txtP r = some (x, r')) : ∃ s : ByteArray, x = .mk 2 s 0 [] ∧ s.size ≤ 256 ∧ r = textW s ++ r' := by
  unfold txtP at h
  split at h
  · cases h
  · next r1 h1 =>
    split at h
    · cases h
    · next b r2 h2 =>
      simp only [Option.some.injEq, Prod.mk.injEq] at h
      obtain ⟨rfl, rfl⟩ := h
      obtain ⟨y, e1, e2, e3⟩ := quo_some _ _ _ _ _ h2 (by simp)
      simp at e1
      subst e1
      refine ⟨⟨b.toArray⟩, rfl, by rw [Lib.size_eq]; simpa using e2, ?_⟩
      rw [tok_some h1, e3]
      unfold textW
      simp
end Go.Proofs.YtclkoffnjiiioaaGreatDoor
