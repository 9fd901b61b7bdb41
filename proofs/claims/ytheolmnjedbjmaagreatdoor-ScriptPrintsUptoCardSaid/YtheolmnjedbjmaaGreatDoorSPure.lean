import Derived.Lib.ItoaNum
import Derived.Lib.Bytealg
import Derived.Lib.Strings
import Derived.Lib.DecodeN
import Derived.Laws.RangeAny
import Derived.WalkKit
namespace Go.Proofs.YtheolmnjedbjmaaGreatDoor
set_option linter.unusedVariables false
set_option linter.unusedSimpArgs false
abbrev Bs := List UInt8
/-- the bytes that stand for themselves -/
def plB : Bs := [97, 98, 99, 100, 101, 102, 103, 104, 105, 106, 107, 108, 109, 110, 111, 112, 113, 114, 115, 116, 117, 118, 119, 120, 121, 122, 65, 66, 67, 68, 69, 70, 71, 72, 73, 74, 75, 76, 77, 78, 79, 80, 81, 82, 83, 84, 85, 86, 87, 88, 89, 90, 48, 49, 50, 51, 52, 53, 54, 55, 56, 57, 46, 95, 45, 58, 94, 43, 91, 93, 40, 41]
def hxB : Bs := [48, 49, 50, 51, 52, 53, 54, 55, 56, 57, 97, 98, 99, 100, 101, 102]
def plainB (c : UInt8) : Bool := decide (0 ≤ Lib.indexByte plB c)
def plainN (n : Nat) : Bool := decide (97 ≤ n ∧ n ≤ 122 ∨ 65 ≤ n ∧ n ≤ 90 ∨ 48 ≤ n ∧ n ≤ 57 ∨ n = 46 ∨ n = 95 ∨ n = 45 ∨ n = 58 ∨ n = 94 ∨ n = 43 ∨ n = 91 ∨ n = 93 ∨ n = 40 ∨ n = 41)
theorem plain_all : ∀ n : Nat, n < 256 → plainB (UInt8.ofNat n) = plainN n := by decide +kernel
theorem plain_n (c : UInt8) : plainB c = plainN c.toNat := by
  have := plain_all c.toNat c.toNat_lt
  rwa [UInt8.ofNat_toNat] at this
theorem plain_high (c : UInt8) (h : 128 ≤ c.toNat) : plainB c = false := by
  rw [plain_n]
  unfold plainN
  rw [decide_eq_false]
  omega
def hexD (k : Nat) : UInt8 := hxB.getD k 0
def escB (c : UInt8) : Bs := if plainB c then [c] else [37, hexD (c.toNat / 16), hexD (c.toNat % 16)]
def esc (s : Bs) : Bs := s.flatMap escB
def wordB (s : Bs) : Bs := 61 :: esc s
theorem esc_append (a b : Bs) : esc (a ++ b) = esc a ++ esc b := by simp [esc]
theorem esc_one (c : UInt8) : esc [c] = escB c := by simp [esc]
theorem escB_len (c : UInt8) : (escB c).length ≤ 3 := by unfold escB; split <;> simp
theorem esc_len (s : Bs) : (esc s).length ≤ 3 * s.length := by
  induction s with
  | nil => simp [esc]
  | cons c r ih =>
    have := escB_len c
    unfold esc at ih ⊢
    rw [List.flatMap_cons, List.length_append, List.length_cons]
    omega
theorem esc_ge (s : Bs) : s.length ≤ (esc s).length := by
  induction s with
  | nil => simp [esc]
  | cons c r ih =>
    unfold esc at ih ⊢
    rw [List.flatMap_cons, List.length_append, List.length_cons]
    have : 1 ≤ (escB c).length := by unfold escB; split <;> simp
    omega
/-- what stands for no byte: hidden, byte by byte -/
def hidB (s : Bs) : Bs := s.flatMap fun c => [37, hexD (c.toNat / 16), hexD (c.toNat % 16)]
theorem hidB_append (a b : Bs) : hidB (a ++ b) = hidB a ++ hidB b := by simp [hidB]
theorem hid_esc (s : Bs) (h : ∀ c ∈ s, plainB c = false) : hidB s = esc s := by
  induction s with
  | nil => rfl
  | cons c r ih =>
    unfold hidB esc at ih ⊢
    rw [List.flatMap_cons, List.flatMap_cons, ih (fun c hc => h c (by simp [hc]))]
    unfold escB
    rw [h c (by simp)]
    simp
theorem hid_len (s : Bs) : (hidB s).length = 3 * s.length := by
  induction s with
  | nil => simp [hidB]
  | cons c r ih =>
    unfold hidB at ih ⊢
    rw [List.flatMap_cons, List.length_append, List.length_cons, ih]
    simp
    omega
/-- numbers, each behind a blank -/
def numsW (ns : List Int) : Bs := ns.flatMap fun n => 32 :: Lib.itoa n
theorem numsW_take (ns : List Int) (i : Nat) (hi : i < ns.length) : numsW (ns.take (i + 1)) = numsW (ns.take i) ++ (32 :: Lib.itoa ns[i]) := by
  unfold numsW
  rw [List.take_succ_eq_append_getElem hi, List.flatMap_append]
  simp
theorem dec_len : ∀ (k n : Nat), n < 10 ^ (k + 1) → (Lib.decDigits n).length ≤ k + 1
  | 0, n, h => by
    rw [Lib.decDigits]
    rw [dif_pos (by simpa using h)]
    simp
  | k + 1, n, h => by
    rw [Lib.decDigits]
    by_cases hn : n < 10
    · rw [dif_pos hn]; simp
    · rw [dif_neg hn, List.length_append]
      have := dec_len k (n / 10) (by rw [Nat.div_lt_iff_lt_mul (by decide)]; rw [Nat.pow_succ] at h; exact h)
      simp
      omega
theorem itoa_len (n : Int) (h0 : -9223372036854775808 ≤ n) (h1 : n ≤ 9223372036854775807) : (Lib.itoa n).length ≤ 20 := by
  unfold Lib.itoa
  split
  · rw [List.length_cons]
    have := dec_len 18 n.natAbs (by omega)
    omega
  · have := dec_len 18 n.toNat (by omega)
    omega
theorem numsW_len (ns : List Int) (h : ∀ n ∈ ns, -9223372036854775808 ≤ n ∧ n ≤ 9223372036854775807) : (numsW ns).length ≤ 21 * ns.length := by
  induction ns with
  | nil => simp [numsW]
  | cons a l ih =>
    unfold numsW at ih ⊢
    rw [List.flatMap_cons, List.length_append, List.length_cons, List.length_cons]
    have h1 := itoa_len a (h a (by simp)).1 (h a (by simp)).2
    have h2 := ih (fun n hn => h n (by simp [hn]))
    omega
/-- the lines of a text, each with its newline -/
def linesT : Bs → List Bs
  | [] => []
  | c :: r => if c = 10 then [10] :: linesT r else match linesT r with | [] => [[c]] | x :: xs => (c :: x) :: xs
def cutNl (l : Bs) : Bs := Lib.trimSuffix l [10]
def linesB (t : Bs) : List Bs := (linesT t).map cutNl
theorem linesT_nl (p r : Bs) (h : (10 : UInt8) ∉ p) : linesT (p ++ 10 :: r) = (p ++ [10]) :: linesT r := by
  induction p with
  | nil => simp [linesT]
  | cons c p ih =>
    rw [List.cons_append, linesT, if_neg (by intro e; exact h (by simp [e])), ih (fun hm => h (by simp [hm]))]
    rfl
theorem linesT_last (p : Bs) (h : (10 : UInt8) ∉ p) (hp : p ≠ []) : linesT p = [p] := by
  induction p with
  | nil => exact absurd rfl hp
  | cons c p ih =>
    rw [linesT, if_neg (by intro e; exact h (by simp [e]))]
    cases p with
    | nil => rfl
    | cons d q =>
      rw [ih (fun hm => h (by simp [hm])) (by simp)]
theorem cutNl_nl (p : Bs) : cutNl (p ++ [10]) = p := by
  unfold cutNl Lib.trimSuffix Lib.hasSuffix
  simp
theorem cutNl_last (p : Bs) (h : (10 : UInt8) ∉ p) : cutNl p = p := by
  unfold cutNl Lib.trimSuffix
  rw [if_neg]
  intro hc
  unfold Lib.hasSuffix at hc
  obtain ⟨q, hq⟩ := List.isSuffixOf_iff_suffix.1 hc
  apply h
  rw [← hq]
  simp
theorem linesB_nl (p r : Bs) (h : (10 : UInt8) ∉ p) : linesB (p ++ 10 :: r) = p :: linesB r := by
  unfold linesB
  rw [linesT_nl p r h, List.map_cons, cutNl_nl]
theorem linesB_last (p : Bs) (h : (10 : UInt8) ∉ p) (hp : p ≠ []) : linesB p = [p] := by
  unfold linesB
  rw [linesT_last p h hp, List.map_cons, cutNl_last p h]; rfl
/-- where the first newline stands -/
theorem lines_at : ∀ (l : Bs), l ≠ [] → (Lib.indexByte l 10 = -1 ∧ linesT l = [l] ∧ (10 : UInt8) ∉ l) ∨ ∃ k : Nat, Lib.indexByte l 10 = k ∧ k < l.length ∧ linesT l = l.take (k + 1) :: linesT (l.drop (k + 1)) := by
  intro l
  induction l with
  | nil => intro h; exact absurd rfl h
  | cons c r ih =>
    intro _
    unfold Lib.indexByte
    by_cases hc : c = 10
    · subst hc
      exact Or.inr ⟨0, by simp, by simp, by simp [linesT]⟩
    · have hb : (c == 10) = false := by simpa using hc
      rw [hb]
      by_cases hr : r = []
      · subst hr
        exact Or.inl ⟨rfl, by simp [linesT, hc], by simp [Ne.symm hc]⟩
      · rcases ih hr with ⟨h1, h2, h3⟩ | ⟨k, h1, h2, h3⟩
        · refine Or.inl ⟨by rw [h1]; rfl, ?_, by simp [Ne.symm hc, h3]⟩
          rw [linesT, if_neg hc, h2]
        · refine Or.inr ⟨k + 1, ?_, by simp; omega, ?_⟩
          · rw [h1]
            have : ((k : Int) == -1) = false := by rw [beq_eq_false_iff_ne]; omega
            rw [this]
            simp
          · rw [linesT, if_neg hc, h3]
            simp
/-- what came of an act, as text -/
def tellLines (ls : List Bs) : Bs := ls.flatMap fun l => 46 :: 32 :: (l ++ [10])
def tellP (code num state used at_ : Int) (cls sel text : Bs) : Bs :=
  [97, 110, 115, 119, 101, 114] ++ numsW [code, num, state, used, at_] ++ (32 :: wordB cls) ++ (32 :: wordB sel) ++ [10] ++ tellLines (linesB text)
theorem lines_len (t : Bs) : ((linesT t).map List.length).sum = t.length := by
  induction t with
  | nil => rfl
  | cons c r ih =>
    unfold linesT
    split
    · simp; omega
    · cases h : linesT r with
      | nil =>
        have : r.length = 0 := by rw [← ih, h]; rfl
        simp [this]
      | cons x xs => rw [h] at ih; simp at ih ⊢; omega
/-- a rune's bytes -/
theorem rune_bytes (s : ByteArray) (pos : Nat) (h : pos < s.size) (ha : 128 ≤ (s[pos]'h).toNat) : pos + (Utf8.decode s pos).2 ≤ s.size ∧ ∀ k, k < (Utf8.decode s pos).2 → 128 ≤ (s.get! (pos + k)).toNat := by
  have h0 : (s.get! (pos + 0)).toNat = (s[pos]'h).toNat := by rw [get_at s pos h]
  rw [Lib.decode_at]
  rw [Nat.add_zero] at h0
  have g1 := (s.get! (pos + 1)).toNat_lt
  have g2 := (s.get! (pos + 2)).toNat_lt
  have g3 := (s.get! (pos + 3)).toNat_lt
  unfold Lib.decodeN
  have p0 : 128 ≤ (s.get! (pos + 0)).toNat := by rw [Nat.add_zero, h0]; exact ha
  have one : ∀ k, k < 1 → 128 ≤ (s.get! (pos + k)).toNat := fun k hk => by
    obtain rfl : k = 0 := by omega
    exact p0
  have two : 128 ≤ (s.get! (pos + 1)).toNat → ∀ k, k < 2 → 128 ≤ (s.get! (pos + k)).toNat := fun h1 k hk => by
    rcases (by omega : k = 0 ∨ k = 1) with rfl | rfl
    · exact p0
    · exact h1
  have three : 128 ≤ (s.get! (pos + 1)).toNat → 128 ≤ (s.get! (pos + 2)).toNat → ∀ k, k < 3 → 128 ≤ (s.get! (pos + k)).toNat := fun h1 h2 k hk => by
    rcases (by omega : k = 0 ∨ k = 1 ∨ k = 2) with rfl | rfl | rfl
    · exact p0
    · exact h1
    · exact h2
  have four : 128 ≤ (s.get! (pos + 1)).toNat → 128 ≤ (s.get! (pos + 2)).toNat → 128 ≤ (s.get! (pos + 3)).toNat → ∀ k, k < 4 → 128 ≤ (s.get! (pos + k)).toNat := fun h1 h2 h3 k hk => by
    rcases (by omega : k = 0 ∨ k = 1 ∨ k = 2 ∨ k = 3) with rfl | rfl | rfl | rfl
    · exact p0
    · exact h1
    · exact h2
    · exact h3
  repeat' split
  · omega
  · exact ⟨by show pos + 2 ≤ s.size; omega, two (by omega)⟩
  · exact ⟨by show pos + 1 ≤ s.size; omega, one⟩
  · exact ⟨by show pos + 3 ≤ s.size; omega, three (by omega) (by omega)⟩
  · exact ⟨by show pos + 1 ≤ s.size; omega, one⟩
  · exact ⟨by show pos + 4 ≤ s.size; omega, four (by omega) (by omega) (by omega)⟩
  · exact ⟨by show pos + 1 ≤ s.size; omega, one⟩
  · exact ⟨by show pos + 1 ≤ s.size; omega, one⟩
end Go.Proofs.YtheolmnjedbjmaaGreatDoor

