import Derived.Test.YtklfnjlenbgmoaaDoorPG09HModelL
import Derived.Deep.RegionLaw
set_option linter.unusedVariables false
namespace Go.Proofs.YtklfnjlenbgmoaaDoor
open Go.RowKit
theorem tm2 (n : Int) (h : n < 0) : n.tmod 2 = if n % 2 = 0 then 0 else -1 := by
 rw [Int.tmod_eq_emod]; split <;> split <;> omega
theorem tm4 (n : Int) (h : n < 0) : n.tmod 4 = if n % 4 = 0 then 0 else n % 4 - 4 := by
 rw [Int.tmod_eq_emod]; split <;> split <;> omega
set_option maxHeartbeats 400000 in
theorem rKind_0_p_in (n : Int) (w : World) (hr : n % 4 = 0) (hs : 0 ≤ n) (h0 : 4 ≤ n) (h1 : n ≤ 262144) :
  Calls Tryd.prog 56 #[.int .i64 n] w fun e w' => e = .returned (.int .i64 (3)) ∧ w' = w := by
 have h2 : n % 2 = 0 := by omega
 go_enter Tryd.func56, Tryd.ntmps56
 go_wp2
 go_ret
 exact ⟨rfl, rfl⟩
set_option maxHeartbeats 400000 in
theorem rKind_0_p_out (n : Int) (w : World) (hr : n % 4 = 0) (hs : 0 ≤ n) (h : n < 4 ∨ 262144 < n) :
  Calls Tryd.prog 56 #[.int .i64 n] w fun e w' => e = .returned (.int .i64 (0)) ∧ w' = w := by
 have h2 : n % 2 = 0 := by omega
 rcases h with h | h
 all_goals
  go_enter Tryd.func56, Tryd.ntmps56
  go_wp2
  go_ret
  exact ⟨rfl, rfl⟩
set_option maxHeartbeats 400000 in
theorem rKind_0_n_out (n : Int) (w : World) (hr : n % 4 = 0) (hs : n < 0) (h : n < 4) :
  Calls Tryd.prog 56 #[.int .i64 n] w fun e w' => e = .returned (.int .i64 (0)) ∧ w' = w := by
 have e2 : n.tmod 2 = 0 := by rw [tm2 n hs]; split <;> omega
 have e4 : n.tmod 4 = 0 := by rw [tm4 n hs, hr]; rfl
 clear hr
 go_enter Tryd.func56, Tryd.ntmps56
 go_wp2
 go_ret
 exact ⟨rfl, rfl⟩
set_option maxHeartbeats 400000 in
theorem rKind_1_p_in (n : Int) (w : World) (hr : n % 4 = 1) (hs : 0 ≤ n) (h0 : -2147483647 ≤ n) (h1 : n ≤ 2147483647) :
  Calls Tryd.prog 56 #[.int .i64 n] w fun e w' => e = .returned (.int .i64 (1)) ∧ w' = w := by
 have h2 : n % 2 = 1 := by omega
 go_enter Tryd.func56, Tryd.ntmps56
 go_wp2
 go_ret
 exact ⟨rfl, rfl⟩
set_option maxHeartbeats 400000 in
theorem rKind_1_p_out (n : Int) (w : World) (hr : n % 4 = 1) (hs : 0 ≤ n) (h : 2147483647 < n) :
  Calls Tryd.prog 56 #[.int .i64 n] w fun e w' => e = .returned (.int .i64 (0)) ∧ w' = w := by
 have h2 : n % 2 = 1 := by omega
 go_enter Tryd.func56, Tryd.ntmps56
 go_wp2
 go_ret
 exact ⟨rfl, rfl⟩
set_option maxHeartbeats 400000 in
theorem rKind_1_n_in (n : Int) (w : World) (hr : n % 4 = 1) (hs : n < 0) (h0 : -2147483647 ≤ n) (h1 : n ≤ 2147483647) :
  Calls Tryd.prog 56 #[.int .i64 n] w fun e w' => e = .returned (.int .i64 (1)) ∧ w' = w := by
 have e2 : n.tmod 2 = -1 := by rw [tm2 n hs]; split <;> omega
 have e4 : n.tmod 4 = -3 := by rw [tm4 n hs, hr]; rfl
 clear hr
 go_enter Tryd.func56, Tryd.ntmps56
 go_wp2
 go_ret
 exact ⟨rfl, rfl⟩
set_option maxHeartbeats 400000 in
theorem rKind_1_n_out (n : Int) (w : World) (hr : n % 4 = 1) (hs : n < 0) (h : n < -2147483647) :
  Calls Tryd.prog 56 #[.int .i64 n] w fun e w' => e = .returned (.int .i64 (0)) ∧ w' = w := by
 have e2 : n.tmod 2 = -1 := by rw [tm2 n hs]; split <;> omega
 have e4 : n.tmod 4 = -3 := by rw [tm4 n hs, hr]; rfl
 clear hr
 go_enter Tryd.func56, Tryd.ntmps56
 go_wp2
 go_ret
 exact ⟨rfl, rfl⟩
set_option maxHeartbeats 400000 in
theorem rKind_2_p_in (n : Int) (w : World) (hr : n % 4 = 2) (hs : 0 ≤ n) (h0 : 2 ≤ n) (h1 : n ≤ 16382) :
  Calls Tryd.prog 56 #[.int .i64 n] w fun e w' => e = .returned (.int .i64 (2)) ∧ w' = w := by
 have h2 : n % 2 = 0 := by omega
 go_enter Tryd.func56, Tryd.ntmps56
 go_wp2
 go_ret
 exact ⟨rfl, rfl⟩
set_option maxHeartbeats 400000 in
theorem rKind_2_p_out (n : Int) (w : World) (hr : n % 4 = 2) (hs : 0 ≤ n) (h : 16382 < n) :
  Calls Tryd.prog 56 #[.int .i64 n] w fun e w' => e = .returned (.int .i64 (0)) ∧ w' = w := by
 have h2 : n % 2 = 0 := by omega
 go_enter Tryd.func56, Tryd.ntmps56
 go_wp2
 go_ret
 exact ⟨rfl, rfl⟩
set_option maxHeartbeats 400000 in
theorem rKind_2_n_out (n : Int) (w : World) (hr : n % 4 = 2) (hs : n < 0) (h : n < 2) :
  Calls Tryd.prog 56 #[.int .i64 n] w fun e w' => e = .returned (.int .i64 (0)) ∧ w' = w := by
 have e2 : n.tmod 2 = 0 := by rw [tm2 n hs]; split <;> omega
 have e4 : n.tmod 4 = -2 := by rw [tm4 n hs, hr]; rfl
 clear hr
 go_enter Tryd.func56, Tryd.ntmps56
 go_wp2
 go_ret
 exact ⟨rfl, rfl⟩
set_option maxHeartbeats 400000 in
theorem rKind_3_p_in (n : Int) (w : World) (hr : n % 4 = 3) (hs : 0 ≤ n) (h0 : -2147483647 ≤ n) (h1 : n ≤ 2147483647) :
  Calls Tryd.prog 56 #[.int .i64 n] w fun e w' => e = .returned (.int .i64 (1)) ∧ w' = w := by
 have h2 : n % 2 = 1 := by omega
 go_enter Tryd.func56, Tryd.ntmps56
 go_wp2
 go_ret
 exact ⟨rfl, rfl⟩
set_option maxHeartbeats 400000 in
theorem rKind_3_p_out (n : Int) (w : World) (hr : n % 4 = 3) (hs : 0 ≤ n) (h : 2147483647 < n) :
  Calls Tryd.prog 56 #[.int .i64 n] w fun e w' => e = .returned (.int .i64 (0)) ∧ w' = w := by
 have h2 : n % 2 = 1 := by omega
 go_enter Tryd.func56, Tryd.ntmps56
 go_wp2
 go_ret
 exact ⟨rfl, rfl⟩
set_option maxHeartbeats 400000 in
theorem rKind_3_n_in (n : Int) (w : World) (hr : n % 4 = 3) (hs : n < 0) (h0 : -2147483647 ≤ n) (h1 : n ≤ 2147483647) :
  Calls Tryd.prog 56 #[.int .i64 n] w fun e w' => e = .returned (.int .i64 (1)) ∧ w' = w := by
 have e2 : n.tmod 2 = -1 := by rw [tm2 n hs]; split <;> omega
 have e4 : n.tmod 4 = -1 := by rw [tm4 n hs, hr]; rfl
 clear hr
 go_enter Tryd.func56, Tryd.ntmps56
 go_wp2
 go_ret
 exact ⟨rfl, rfl⟩
set_option maxHeartbeats 400000 in
theorem rKind_3_n_out (n : Int) (w : World) (hr : n % 4 = 3) (hs : n < 0) (h : n < -2147483647) :
  Calls Tryd.prog 56 #[.int .i64 n] w fun e w' => e = .returned (.int .i64 (0)) ∧ w' = w := by
 have e2 : n.tmod 2 = -1 := by rw [tm2 n hs]; split <;> omega
 have e4 : n.tmod 4 = -1 := by rw [tm4 n hs, hr]; rfl
 clear hr
 go_enter Tryd.func56, Tryd.ntmps56
 go_wp2
 go_ret
 exact ⟨rfl, rfl⟩
theorem rKind_any (n : Int) (w : World) :
  Calls Tryd.prog 56 #[.int .i64 n] w fun e w' => e = .returned (.int .i64 (kindOf n)) ∧ w' = w := by
 have h4 : n % 4 = 0 ∨ n % 4 = 1 ∨ n % 4 = 2 ∨ n % 4 = 3 := by omega
 by_cases hs : 0 ≤ n
 ·rcases h4 with h4 | h4 | h4 | h4
  ·by_cases h : 4 ≤ n ∧ n ≤ 262144
   ·rw [(kind3 n).2 ⟨h4, h⟩]; exact rKind_0_p_in n w h4 hs h.1 h.2
   ·have e : kindOf n = 0 := by unfold kindOf; (repeat' split) <;> omega
    rw [e]; exact rKind_0_p_out n w h4 hs (by omega)
  ·by_cases h : n ≤ 2147483647
   ·rw [(kind1 n).2 (by omega)]; exact rKind_1_p_in n w h4 hs (by omega) h
   ·have e : kindOf n = 0 := by unfold kindOf; (repeat' split) <;> omega
    rw [e]; exact rKind_1_p_out n w h4 hs (by omega)
  ·by_cases h : n ≤ 16382
   ·rw [(kind2 n).2 (by omega)]; exact rKind_2_p_in n w h4 hs (by omega) h
   ·have e : kindOf n = 0 := by unfold kindOf; (repeat' split) <;> omega
    rw [e]; exact rKind_2_p_out n w h4 hs (by omega)
  ·by_cases h : n ≤ 2147483647
   ·rw [(kind1 n).2 (by omega)]; exact rKind_3_p_in n w h4 hs (by omega) h
   ·have e : kindOf n = 0 := by unfold kindOf; (repeat' split) <;> omega
    rw [e]; exact rKind_3_p_out n w h4 hs (by omega)
 ·have hs' : n < 0 := by omega
  rcases h4 with h4 | h4 | h4 | h4
  ·have e : kindOf n = 0 := by unfold kindOf; (repeat' split) <;> omega
   rw [e]; exact rKind_0_n_out n w h4 hs' (by omega)
  ·by_cases h : -2147483647 ≤ n
   ·rw [(kind1 n).2 (by omega)]; exact rKind_1_n_in n w h4 hs' h (by omega)
   ·have e : kindOf n = 0 := by unfold kindOf; (repeat' split) <;> omega
    rw [e]; exact rKind_1_n_out n w h4 hs' (by omega)
  ·have e : kindOf n = 0 := by unfold kindOf; (repeat' split) <;> omega
   rw [e]; exact rKind_2_n_out n w h4 hs' (by omega)
  ·by_cases h : -2147483647 ≤ n
   ·rw [(kind1 n).2 (by omega)]; exact rKind_3_n_in n w h4 hs' h (by omega)
   ·have e : kindOf n = 0 := by unfold kindOf; (repeat' split) <;> omega
    rw [e]; exact rKind_3_n_out n w h4 hs' (by omega)
end Go.Proofs.YtklfnjlenbgmoaaDoor
namespace Go.Proofs.YtklfnjlenbgmoaaDoor
open Go.RowKit
attribute [local go_sem ↓] Go.wp_at_zero Go.wp_at_succ
structure Is (H : HS) (oop : Nat) (t : Th) : Prop where
 has : has H oop = true
 room : (H.seats.getD oop (0, 0, 0)).1 + lenN t.slots.length t.fmt ≤ H.mem.length
 cls : H.mem.getD (H.seats.getD oop (0, 0, 0)).1 0 = t.cls
 shape : H.mem.getD ((H.seats.getD oop (0, 0, 0)).1 + 1) 0 = ((2 * t.slots.length + t.fmt : Nat) : Int)
 fmt : t.fmt ≤ 1
 len : t.slots.length ≤ 8192
 word : t.fmt = 0 → ∀ i, i < t.slots.length → H.mem.getD ((H.seats.getD oop (0, 0, 0)).1 + 2 + i) 0 = t.slots.getD i 0
 byte : t.fmt = 1 → ∀ i, i < t.slots.length → ∃ old : Nat, H.mem.getD ((H.seats.getD oop (0, 0, 0)).1 + 2 + i / 4) 0 = (old : Int) ∧ (old : Int) ≤ 4294967295 ∧ t.slots.getD i 0 = ((getB old (i % 4) : Nat) : Int)
theorem lenN_byte (n i : Nat) (h : i < n) : 2 + i / 4 < lenN n 1 := by unfold lenN; rw [if_pos rfl]; omega
theorem lenN_word (n i f : Nat) (hf : f = 0) (h : i < n) : 2 + i < lenN n f := by unfold lenN; rw [if_neg (by omega)]; omega
theorem lenN_two (n f : Nat) : 2 ≤ lenN n f := by unfold lenN; split <;> omega
theorem Is.at {H : HS} {oop : Nat} {t : Th} (hi : Is H oop t) (i : Nat) (hin : i < t.slots.length) (a : Nat) (l : Lay) (hb : (H.mem.length : Int) ≤ 1048576) (w : World) (h : Rep w a l H) :
  Calls Tryd.prog 47 #[.pointer (some ⟨a, 0, none⟩), .int .i64 oop, .int .i64 i] w fun e w' => e = .returned (.tuple #[.int .i64 (t.slots.getD i 0), .int .i64 0]) ∧ Fr [] w w' := by
 obtain ⟨h1, h2, h3⟩ := has_yes hi.has
 have hr := hi.room
 have hl := hi.len
 have h2' := lenN_two t.slots.length t.fmt
 refine At_ok oop i t.slots.length t.fmt (t.slots.getD i 0) a l H w h hb h1 h2 h3 (by omega) hi.shape (by have := hi.fmt; omega) (by omega) (by omega) ?_
 intro W hW
 rcases (show t.fmt = 0 ∨ t.fmt = 1 from by have := hi.fmt; omega) with hf | hf
 ·have := lenN_word t.slots.length i t.fmt hf hin
  rw [hf, ← hi.word hf i hin]
  exact slot_w _ i a l H W hW (by omega) hb
 ·obtain ⟨old, o1, o2, o3⟩ := hi.byte hf i hin
  have := lenN_byte t.slots.length i hin
  rw [← hf] at this
  rw [hf, o3]
  exact getB_any _ i old a l H W hW (by omega) hb o1 (by omega)
theorem hid_drew {S : List Nat} {w W : World} (h : Hid (Fr S w W)) : Hid (Fr S w W.drew) := h.out.trans (Fr.drew S W) (fun b hb => .inl hb)
theorem thereTo_lt (S : List Th) (k : Nat) (hk : k < S.length) (h : (S.getD k noTh).there = true) : thereTo S k < thereTo S S.length := by
 have h1 := thereTo_succ S k hk
 rw [if_pos h] at h1
 have : ∀ n, k + 1 ≤ n → n ≤ S.length → thereTo S (k + 1) ≤ thereTo S n := by
  intro n hn hl
  induction n with
  | zero => omega
  | succ n ih =>
   by_cases e : k + 1 = n + 1
   ·rw [e]; exact Nat.le_refl _
   ·have := ih (by omega) (by omega)
    have := thereTo_succ S n (by omega)
    omega
 have := this S.length (by omega) (Nat.le_refl _)
 omega
theorem getD_set (S : List Th) (k i : Nat) (t : Th) (hk : k < S.length) : (S.set k t).getD i noTh = if i = k then t else S.getD i noTh := by
 rw [List.getD_eq_getElem?_getD, List.getD_eq_getElem?_getD, List.getElem?_set]
 by_cases h : k = i
 ·rw [if_pos h, if_pos h.symm, if_pos (by omega)]; rfl
 ·rw [if_neg h, if_neg (fun e => h e.symm)]
def pickTo (S : List Th) (A : Nat) : Nat → Option Nat
 | 0 => none
 | i + 1 => match pickTo S A i with
  | none => if (S.getD i noTh).there = true ∧ A ≤ (S.getD i noTh).place then some i else none
  | some b => if (S.getD i noTh).there = true ∧ A ≤ (S.getD i noTh).place ∧ (S.getD i noTh).place < (S.getD b noTh).place then some i else some b
theorem pickTo_none (S : List Th) (A i : Nat) (h : pickTo S A i = none) : pickTo S A (i + 1) = if (S.getD i noTh).there = true ∧ A ≤ (S.getD i noTh).place then some i else none := by
 conv => lhs; unfold pickTo
 rw [h]
theorem pickTo_some (S : List Th) (A i b : Nat) (h : pickTo S A i = some b) : pickTo S A (i + 1) = if (S.getD i noTh).there = true ∧ A ≤ (S.getD i noTh).place ∧ (S.getD i noTh).place < (S.getD b noTh).place then some i else some b := by
 conv => lhs; unfold pickTo
 rw [h]
theorem pickTo_lt (S : List Th) (A : Nat) : ∀ i b, pickTo S A i = some b → b < i ∧ (S.getD b noTh).there = true ∧ A ≤ (S.getD b noTh).place := by
 intro i
 induction i with
 | zero => intro b h; simp [pickTo] at h
 | succ i ih =>
  intro b h
  cases hp : pickTo S A i with
  | none =>
   rw [pickTo_none S A i hp] at h
   split at h
   ·rename_i hc; injection h with h; subst h; exact ⟨by omega, hc⟩
   ·simp at h
  | some c =>
   rw [pickTo_some S A i c hp] at h
   split at h
   ·rename_i hc; injection h with h; subst h; exact ⟨by omega, hc.1, hc.2.1⟩
   ·injection h with h; subst h
    have := ih _ hp
    exact ⟨by omega, this.2⟩
def pv : Option Nat → Int
 | none => -1
 | some b => b
def placed (t : Th) (A : Nat) : Th := { t with place := A }
def slidN (S : List Th) (A : Nat) : Nat → List Th
 | 0 => S
 | n + 1 => match pickTo S A S.length with
  | none => S
  | some k => slidN (S.set k (placed (S.getD k noTh) A)) (A + lenN (S.getD k noTh).slots.length (S.getD k noTh).fmt) n
theorem slidN_none (S : List Th) (A n : Nat) (h : pickTo S A S.length = none) : slidN S A (n + 1) = S := by conv => lhs; unfold slidN; rw [h]
theorem slidN_some (S : List Th) (A n k : Nat) (h : pickTo S A S.length = some k) : slidN S A (n + 1) = slidN (S.set k (placed (S.getD k noTh) A)) (A + lenN (S.getD k noTh).slots.length (S.getD k noTh).fmt) n := by
 conv => lhs; unfold slidN
 rw [h]
structure Alike (S T : List Th) : Prop where
 len : S.length = T.length
 at_ : ∀ i, (S.getD i noTh).there = (T.getD i noTh).there ∧ (S.getD i noTh).slots = (T.getD i noTh).slots ∧ (S.getD i noTh).fmt = (T.getD i noTh).fmt ∧ (S.getD i noTh).cls = (T.getD i noTh).cls ∧ (S.getD i noTh).p = (T.getD i noTh).p ∧ (S.getD i noTh).c = (T.getD i noTh).c
theorem Alike.refl (S : List Th) : Alike S S := ⟨rfl, fun _ => ⟨rfl, rfl, rfl, rfl, rfl, rfl⟩⟩
theorem Alike.place {S T : List Th} (h : Alike S T) (k A : Nat) (hk : k < S.length) : Alike (S.set k (placed (S.getD k noTh) A)) T := by
 refine ⟨by rw [List.length_set]; exact h.len, fun i => ?_⟩
 rw [getD_set S k i _ hk]
 split
 ·rename_i e; subst e; exact h.at_ i
 ·exact h.at_ i
theorem Alike.there {S T : List Th} (h : Alike S T) : ∀ k, k ≤ S.length → thereTo S k = thereTo T k := by
 intro k
 induction k with
 | zero => intro _; rfl
 | succ k ih =>
  intro hk
  rw [thereTo_succ S k (by omega), thereTo_succ T k (by have := h.len; omega), ih (by omega), (h.at_ k).1]
def newX (f : Nat) : Int := if f = 1 then 0 else 4
def putTh (S : List Th) (k : Nat) (t : Th) : List Th := if k < S.length then S.set k t else S ++ [t]
theorem putTh_at (S : List Th) (k : Nat) (t : Th) (hk : k ≤ S.length) : ∀ i, i < (putTh S k t).length → (putTh S k t).getD i noTh = if i = k then t else S.getD i noTh := by
 intro i hi
 unfold putTh at hi ⊢
 by_cases h : k < S.length
 ·rw [if_pos h] at hi ⊢
  exact getD_set S k i t h
 ·rw [if_neg h] at hi ⊢
  have hke : k = S.length := by omega
  simp at hi
  by_cases e : i = k
  ·rw [if_pos e, e, hke, List.getD_eq_getElem?_getD, List.getElem?_append_right (by omega)]; simp
  ·rw [if_neg e, List.getD_eq_getElem?_getD, List.getD_eq_getElem?_getD, List.getElem?_append_left (by omega)]
theorem putTh_len (S : List Th) (k : Nat) (t : Th) (hk : k ≤ S.length) : k < (putTh S k t).length ∧ ∀ i, i < (putTh S k t).length → i ≠ k → i < S.length := by
 unfold putTh
 by_cases h : k < S.length
 ·rw [if_pos h]; simp; exact ⟨h, fun i hi _ => hi⟩
 ·rw [if_neg h]; simp; exact ⟨by omega, fun i hi hne => by omega⟩
end Go.Proofs.YtklfnjlenbgmoaaDoor
namespace Go.Proofs.YtklfnjlenbgmoaaDoor
open Go.RowKit
structure InvV (H : HS) (M : MS) : Prop where
 safe : Safe H
 words : H.words = M.words
 oops : H.oops = M.oops
 mark : H.mark = M.mark
 len : H.seats.length ≤ M.things.length + 1
 seat0 : (H.seats.getD 0 (0, 0, 0)).2.1 = 0
 there : ∀ k, k < M.things.length → ((M.things.getD k noTh).there = true ↔ (H.seats.getD (k + 1) (0, 0, 0)).2.1 ≠ 0)
 seat : ∀ k, k < M.things.length → (M.things.getD k noTh).there = true → (H.seats.getD (k + 1) (0, 0, 0)).1 = (M.things.getD k noTh).place ∧ (H.seats.getD (k + 1) (0, 0, 0)).2.1 = lenN (M.things.getD k noTh).slots.length (M.things.getD k noTh).fmt
 is : ∀ k, k < M.things.length → (M.things.getD k noTh).there = true → Is H (k + 1) (M.things.getD k noTh)
 count : H.count = thereTo M.things M.things.length
 turn : ∀ k, k < M.things.length → (M.things.getD k noTh).there = true → (H.seats.getD (k + 1) (0, 0, 0)).2.2 < H.order.length ∧ H.order.getD (H.seats.getD (k + 1) (0, 0, 0)).2.2 0 = k + 1
 order : ∀ j, j < H.order.length → H.order.getD j 0 ≠ 0 → H.order.getD j 0 ≤ M.things.length ∧ (M.things.getD (H.order.getD j 0 - 1) noTh).there = true ∧ (H.seats.getD (H.order.getD j 0) (0, 0, 0)).2.2 = j
 rise : ∀ i j, i < j → j < H.order.length → H.order.getD i 0 ≠ 0 → H.order.getD j 0 ≠ 0 → (H.seats.getD (H.order.getD i 0) (0, 0, 0)).1 + (H.seats.getD (H.order.getD i 0) (0, 0, 0)).2.1 ≤ (H.seats.getD (H.order.getD j 0) (0, 0, 0)).1
 gaps : ∀ p, p < H.mem.length → (∀ k, k < M.things.length → (M.things.getD k noTh).there = true → p < (M.things.getD k noTh).place ∨ (M.things.getD k noTh).place + lenN (M.things.getD k noTh).slots.length (M.things.getD k noTh).fmt ≤ p) → H.mem.getD p 0 = 0
 bit : ∀ k, (H.bits.getD (k / 64) 0).testBit (k % 64) = (M.things.getD k noTh).there
 low : ∀ i, i < H.low → H.bits.getD i 0 = full
 model : MOk M
 deep : ∀ j, j < H.order.length → H.order.getD j 0 ≠ 0 → 2 * j ≤ (H.seats.getD (H.order.getD j 0) (0, 0, 0)).1
 most : M.things.length ≤ M.oops
 room : (H.words : Int) ≤ 1048576
structure Inv (H : HS) (M : MS) : Prop extends InvV H M where
 fin : H.mem.length = endTo M.things M.things.length
 last : ∀ j, H.order.length = j + 1 → H.order.getD j 0 ≠ 0
theorem allTo_out (H : HS) : ∀ n, allTo H (H.seats.length + n) = allTo H H.seats.length
 | 0 => rfl
 | n + 1 => by
  rw [← Nat.add_assoc, allTo_succ, allTo_out H n, List.getD_eq_getElem?_getD, List.getElem?_eq_none (by omega)]
  simp
theorem Inv.allEnd {H : HS} {M : MS} (h : Inv H M) : allTo H H.seats.length = allTo H (M.things.length + 1) := by
 have hl := h.len
 have := allTo_out H (M.things.length + 1 - H.seats.length)
 rw [Nat.add_sub_cancel' hl] at this
 exact this.symm
theorem InvV.seatIn {H : HS} {M : MS} (h : InvV H M) (k : Nat) (hk : k < M.things.length) (hb : (M.things.getD k noTh).there = true) : k + 1 < H.seats.length := by
 have h1 := (h.there k hk).1 hb
 by_cases hc : k + 1 < H.seats.length
 ·exact hc
 ·rw [List.getD_eq_getElem?_getD, List.getElem?_eq_none (by omega)] at h1
  exact absurd rfl h1
theorem Inv.has {H : HS} {M : MS} (h : Inv H M) (k : Nat) (hk : k < M.things.length) : has H ((k : Int) + 1) = (M.things.getD k noTh).there := by
 have e : ((k : Int) + 1).toNat = k + 1 := by omega
 cases hb : (M.things.getD k noTh).there with
 | true => exact decide_eq_true ⟨by omega, by have := h.seatIn k hk hb; omega, by rw [e]; exact (h.there k hk).1 hb⟩
 | false =>
  refine decide_eq_false (fun hc => ?_)
  rw [e] at hc
  have := (h.there k hk).2 hc.2.2
  rw [hb] at this
  simp at this
theorem Inv.hasM {H : HS} {M : MS} (h : Inv H M) (oop : Int) : Go.Proofs.YtklfnjlenbgmoaaDoor.has H oop = mhas M oop := by
 by_cases h1 : 1 ≤ oop ∧ oop ≤ M.things.length
 ·obtain ⟨k, rfl⟩ : ∃ k : Nat, oop = (k : Int) + 1 := ⟨oop.toNat - 1, by omega⟩
  rw [h.has k (by omega)]
  cases hb : (M.things.getD k noTh).there with
  | true => exact (mhas_of k (by omega) hb).symm
  | false => exact (decide_eq_false (by rw [show ((k : Int) + 1).toNat - 1 = k from by omega, hb]; simp)).symm
 ·have e1 : mhas M oop = false := decide_eq_false (by omega)
  rw [e1]
  refine decide_eq_false (fun hc => ?_)
  have hl := h.len
  omega
theorem ctz_bits (x : Nat) (h0 : x ≠ 0) (hx : x < 18446744073709551616) : x.testBit (Lib.ctz 64 x) = true ∧ ∀ i, i < Lib.ctz 64 x → x.testBit i = false := by
 have e : Lib.ctz 64 x = Lib.ctzFrom 64 x := by unfold Lib.ctz; rw [if_neg h0]
 obtain ⟨m, h1, h2⟩ := Lib.ctzFrom_spec 64 x (by omega) hx
 rw [e]
 generalize Lib.ctzFrom 64 x = c at *
 rw [h1]
 refine ⟨?_, fun i hi => ?_⟩
 ·rw [Nat.testBit_two_pow_mul]; simp
 ·rw [Nat.testBit_two_pow_mul]; simp; omega
theorem not_bits (b i : Nat) (hb : b ≤ full) (hi : i < 64) : (full - b).testBit i = !b.testBit i := by
 unfold full at *
 rw [show (18446744073709551615 - b : Nat) = 2 ^ 64 - (b + 1) from by omega, Nat.testBit_two_pow_sub_succ (by omega)]
 simp [hi]
theorem full_bits (i : Nat) (hi : i < 64) : full.testBit i = true := by
 unfold full
 rw [show (18446744073709551615 : Nat) = 2 ^ 64 - 1 from rfl, Nat.testBit_two_pow_sub_one]
 simpa using hi
theorem Inv.lowest {H : HS} {M : MS} (h : Inv H M) (k : Nat) (hk : LowTo H.bits H.low k) (hkf : k < H.bits.length → H.bits.getD k 0 ≠ full) : oopN H.bits k = lowTo M.things := by
 obtain ⟨x, hx⟩ : ∃ x, oopN H.bits k = x + 1 ∧ k * 64 ≤ x ∧ x < k * 64 + 64 ∧ (∀ j, k * 64 ≤ j → j < x → (H.bits.getD k 0).testBit (j % 64) = true) ∧ (H.bits.getD k 0).testBit (x % 64) = false := by
  unfold oopN
  by_cases e : k = H.bits.length
  ·rw [if_pos e]
   refine ⟨k * 64, rfl, by omega, by omega, fun j h1 h2 => by omega, ?_⟩
   rw [List.getD_eq_getElem?_getD, List.getElem?_eq_none (by omega)]
   simp
  ·rw [if_neg e]
   have hl : k < H.bits.length := by have := hk.le; omega
   have hb := h.safe.bits k
   have hne := hkf hl
   have h0 : full - H.bits.getD k 0 ≠ 0 := by omega
   have h1 : full - H.bits.getD k 0 < 18446744073709551616 := by unfold full; omega
   have hc := ctz_lt _ h0 h1
   obtain ⟨b1, b2⟩ := ctz_bits _ h0 h1
   generalize Lib.ctz 64 (full - H.bits.getD k 0) = c at *
   refine ⟨k * 64 + c, rfl, by omega, by omega, fun j h1 h2 => ?_, ?_⟩
   ·have := b2 (j % 64) (by omega)
    rw [not_bits _ _ hb (by omega)] at this
    simpa using this
   ·rw [not_bits _ _ hb hc] at b1
    rw [show (k * 64 + c) % 64 = c from by omega]
    simpa using b1
 obtain ⟨e1, e2, e3, e4, e5⟩ := hx
 rw [e1]
 have hup : ∀ j, j < x → (M.things.getD j noTh).there = true := by
  intro j hj
  rw [← h.bit j]
  by_cases hjk : j < k * 64
  ·have hw : H.bits.getD (j / 64) 0 = full := by
    by_cases hl : j / 64 < H.low
    ·exact h.low _ hl
    ·exact hk.ful _ (by omega) (by omega)
   rw [hw]
   exact full_bits _ (by omega)
  ·rw [show j / 64 = k from by omega]
   exact e4 j (by omega) hj
 have hno : (M.things.getD x noTh).there = false := by
  rw [← h.bit x, show x / 64 = k from by omega]
  exact e5
 have hin : ∀ j, (M.things.getD j noTh).there = true → j < M.things.length := by
  intro j hj
  by_cases hl : j < M.things.length
  ·exact hl
  ·rw [List.getD_eq_getElem?_getD, List.getElem?_eq_none (by omega)] at hj
   simp [noTh] at hj
 by_cases hxl : x < M.things.length
 ·exact (lowTo_at M.things x hxl hup hno).symm
 ·have hxe : x = M.things.length := by
   by_cases h0 : x = 0
   ·omega
   ·have := hin (x - 1) (hup _ (by omega))
    omega
  rw [lowTo_full M.things (fun j hj => hup j (by omega)), hxe]
theorem lowTo_le (S : List Th) : lowTo S ≤ S.length + 1 ∧ 1 ≤ lowTo S := by
 unfold lowTo
 have := List.IsPrefix.length_le (List.takeWhile_prefix (p := fun t : Th => t.there) (l := S))
 omega
def emptyM (words oops : Nat) : MS := ⟨words, oops, 0, [], none, 0⟩
theorem inv_empty (words oops : Nat) (h1 : (words : Int) ≤ 1048576) (h2 : (oops : Int) ≤ 65536) : Inv (emptyH words oops) (emptyM words oops) where
 safe := ⟨⟨by show (words : Int) ≤ _; omega, h2, by show ((0 : Nat) : Int) ≤ (words : Int); omega, by show ((0 : Nat) : Int) ≤ (oops : Int); omega, by show ((0 : Nat) : Int) ≤ _; omega⟩, Nat.le_refl _, by show ((0 : Nat) : Int) ≤ _; omega, fun k => by simp [emptyH, full], by show ((0 : Nat) : Int) ≤ _; omega, by show ((0 : Nat) : Int) ≤ _; omega⟩
 words := rfl
 oops := rfl
 mark := rfl
 len := Nat.zero_le _
 seat0 := rfl
 there := fun k hk => by simp [emptyM] at hk
 seat := fun k hk => by simp [emptyM] at hk
 is := fun k hk => by simp [emptyM] at hk
 count := rfl
 fin := rfl
 turn := fun k hk => by simp [emptyM] at hk
 order := fun j hj => by simp [emptyH] at hj
 rise := fun i j _ hj => by simp [emptyH] at hj
 last := fun j hj => by simp [emptyH] at hj
 gaps := fun p hp => by simp [emptyH] at hp
 bit := fun k => by simp [emptyH, emptyM, noTh]
 low := fun i hi => by simp [emptyH] at hi
 model := ⟨by show ((0 : Nat) : Int) ≤ _; omega, fun k hk => by simp [emptyM] at hk, fun k hk => by simp [emptyM] at hk⟩
 deep := fun j hj => by simp [emptyH] at hj
 most := Nat.zero_le _
 room := h1
theorem Inv.short {H : HS} {M : MS} (h : Inv H M) : 2 * H.order.length ≤ H.mem.length := by
 cases hl : H.order.length with
 | zero => omega
 | succ j =>
  have hn := h.last j hl
  have hd := h.deep j (by omega) hn
  obtain ⟨o1, o2, o3⟩ := h.order j (by omega) hn
  have hi := h.is (H.order.getD j 0 - 1) (by omega) o2
  have hr := hi.room
  rw [show H.order.getD j 0 - 1 + 1 = H.order.getD j 0 from by omega] at hr
  have := lenN_two (M.things.getD (H.order.getD j 0 - 1) noTh).slots.length (M.things.getD (H.order.getD j 0 - 1) noTh).fmt
  omega
theorem th_in {S : List Th} {j : Nat} (hj : (S.getD j noTh).there = true) : j < S.length := by
 by_cases hl : j < S.length
 ·exact hl
 ·rw [List.getD_eq_getElem?_getD, List.getElem?_eq_none (by omega)] at hj
  simp [noTh] at hj
theorem lowTo_free (S : List Th) : (S.getD (lowTo S - 1) noTh).there = false ∧ ∀ j, j < lowTo S - 1 → (S.getD j noTh).there = true := by
 unfold lowTo
 induction S with
 | nil => simp [noTh]
 | cons s S ih =>
  by_cases hs : s.there = true
  ·rw [List.takeWhile_cons_of_pos hs]
   simp only [List.length_cons, Nat.add_sub_cancel] at ih ⊢
   refine ⟨by simpa using ih.1, fun j hj => ?_⟩
   cases j with
   | zero => simpa using hs
   | succ j => simpa using ih.2 j (by simpa using hj)
  ·rw [List.takeWhile_cons_of_neg hs]
   simp
   simpa using hs
theorem thereTo_all (S : List Th) : ∀ k, k ≤ S.length → (∀ j, j < k → (S.getD j noTh).there = true) → thereTo S k = k := by
 intro k
 induction k with
 | zero => intro _ _; rfl
 | succ k ih =>
  intro h1 h2
  rw [thereTo_succ S k (by omega), ih (by omega) (fun j hj => h2 j (by omega)), if_pos (h2 k (by omega))]
theorem thereTo_mono (S : List Th) : ∀ n k, k ≤ n → n ≤ S.length → thereTo S k ≤ thereTo S n := by
 intro n
 induction n with
 | zero => intro k h1 _; rw [show k = 0 from by omega]; exact Nat.le_refl _
 | succ n ih =>
  intro k h1 h2
  by_cases e : k = n + 1
  ·rw [e]; exact Nat.le_refl _
  ·have := ih k (by omega) (by omega)
   have := thereTo_succ S n (by omega)
   omega
theorem Inv.low_le {H : HS} {M : MS} (h : Inv H M) : lowTo M.things - 1 ≤ H.count := by
 have hf := lowTo_free M.things
 have hl := lowTo_le M.things
 have h1 := thereTo_all M.things (lowTo M.things - 1) (by omega) hf.2
 have h2 := thereTo_mono M.things M.things.length (lowTo M.things - 1) (by omega) (Nat.le_refl _)
 rw [h.count]
 omega
theorem getD_pad (S : List (Nat × Nat × Nat)) (n i : Nat) : (padSeats S n).getD i (0, 0, 0) = S.getD i (0, 0, 0) := by
 unfold padSeats
 rw [List.getD_eq_getElem?_getD, List.getD_eq_getElem?_getD]
 by_cases h : i < S.length
 ·rw [List.getElem?_append_left h]
 ·rw [List.getElem?_append_right (by omega), List.getElem?_eq_none (l := S) (by omega), List.getElem?_replicate]
  split <;> rfl
theorem laySeat (S : List (Nat × Nat × Nat)) (o i : Nat) (s : Nat × Nat × Nat) : ((padSeats S (o + 1)).set o s).getD i (0, 0, 0) = if i = o then s else S.getD i (0, 0, 0) := by
 rw [List.getD_eq_getElem?_getD, List.getElem?_set]
 by_cases h : o = i
 ·rw [if_pos h, if_pos h.symm, if_pos (by unfold padSeats; simp; omega)]; rfl
 ·rw [if_neg h, if_neg (fun e => h e.symm), ← List.getD_eq_getElem?_getD, getD_pad]
theorem padTo_len (bits : List Nat) (n : Nat) : (padTo bits n).length = max bits.length n := by unfold padTo; simp; omega
theorem padTo_getD (bits : List Nat) (n i : Nat) : (padTo bits n).getD i 0 = bits.getD i 0 := by
 unfold padTo
 rw [List.getD_eq_getElem?_getD, List.getD_eq_getElem?_getD]
 by_cases h : i < bits.length
 ·rw [List.getElem?_append_left h]
 ·rw [List.getElem?_append_right (by omega), List.getElem?_eq_none (l := bits) (by omega), List.getElem?_replicate]
  split <;> rfl
theorem addBits_len (bits : List Nat) (k : Nat) : (addBits bits k).length = max bits.length ((k - 1) / 64 + 1) := by unfold addBits; rw [List.length_set, padTo_len]
theorem addBits_getD (bits : List Nat) (k i : Nat) : (addBits bits k).getD i 0 = if i = (k - 1) / 64 then bits.getD i 0 ||| 2 ^ ((k - 1) % 64) else bits.getD i 0 := by
 unfold addBits
 rw [List.getD_eq_getElem?_getD, List.getElem?_set]
 by_cases h : (k - 1) / 64 = i
 ·rw [if_pos h, if_pos h.symm, if_pos (by rw [padTo_len]; omega), padTo_getD, h]; rfl
 ·rw [if_neg h, if_neg (fun e => h e.symm), ← List.getD_eq_getElem?_getD, padTo_getD]
theorem addBits_le (bits : List Nat) (k : Nat) (hb : ∀ i, bits.getD i 0 ≤ full) (i : Nat) : (addBits bits k).getD i 0 ≤ full := by
 rw [addBits_getD]
 split
 ·have h1 := hb i
  have h2 : bits.getD i 0 ||| 2 ^ ((k - 1) % 64) < 2 ^ 64 := Nat.or_lt_two_pow (by unfold full at h1; omega) (Nat.pow_lt_pow_right (by omega) (by omega))
  unfold full
  omega
 ·exact hb i
theorem addBits_bit (bits : List Nat) (k j : Nat) (hk : 1 ≤ k) : ((addBits bits k).getD (j / 64) 0).testBit (j % 64) = (if j = k - 1 then true else (bits.getD (j / 64) 0).testBit (j % 64)) := by
 rw [addBits_getD]
 by_cases h : j / 64 = (k - 1) / 64
 ·rw [if_pos h, Nat.testBit_or, Nat.testBit_two_pow]
  by_cases e : j = k - 1
  ·rw [if_pos e, e]; simp
  ·rw [if_neg e]
   have : ¬ (k - 1) % 64 = j % 64 := by omega
   simp [this]
 ·rw [if_neg h, if_neg (fun e => h (by rw [e]))]
theorem objCells_len (cl : Int) (n f : Nat) (hf : f ≤ 1) : (objCells cl n f).length = lenN n f := by
 unfold objCells lenN
 rcases (show f = 0 ∨ f = 1 from by omega) with rfl | rfl <;> simp <;> omega
theorem putTh_get (S : List Th) (q i : Nat) (t : Th) (hq : q ≤ S.length) : (putTh S q t).getD i noTh = if i = q then t else S.getD i noTh := by
 by_cases hi : i < (putTh S q t).length
 ·exact putTh_at S q t hq i hi
 ·have h1 := (putTh_len S q t hq).1
  rw [if_neg (by omega), List.getD_eq_getElem?_getD, List.getElem?_eq_none (by omega), List.getD_eq_getElem?_getD, List.getElem?_eq_none ?_]
  unfold putTh at hi
  split at hi
  ·simp at hi; omega
  ·simp at hi; omega
theorem putTh_length (S : List Th) (q : Nat) (t : Th) (hq : q ≤ S.length) : (putTh S q t).length = max S.length (q + 1) := by
 unfold putTh
 split
 ·simp; omega
 ·simp; omega
theorem endTo_ge (S : List Th) : ∀ k j, j < k → (S.getD j noTh).there = true → (S.getD j noTh).place + lenN (S.getD j noTh).slots.length (S.getD j noTh).fmt ≤ endTo S k := by
 intro k
 induction k with
 | zero => intro j h; omega
 | succ k ih =>
  intro j h hb
  rw [endTo_succ]
  by_cases e : j = k
  ·subst e
   split
   ·exact Nat.le_refl _
   ·rename_i hc
    simp only [hb, true_and] at hc
    omega
  ·have := ih j (by omega) hb
   split <;> omega
theorem endTo_is (S : List Th) (E : Nat) : ∀ k, (∀ j, j < k → (S.getD j noTh).there = true → (S.getD j noTh).place + lenN (S.getD j noTh).slots.length (S.getD j noTh).fmt ≤ E) → (E = 0 ∨ ∃ j, j < k ∧ (S.getD j noTh).there = true ∧ (S.getD j noTh).place + lenN (S.getD j noTh).slots.length (S.getD j noTh).fmt = E) → endTo S k = E := by
 intro k h1 h2
 have hle : ∀ k, (∀ j, j < k → (S.getD j noTh).there = true → (S.getD j noTh).place + lenN (S.getD j noTh).slots.length (S.getD j noTh).fmt ≤ E) → endTo S k ≤ E := by
  intro k
  induction k with
  | zero => intro _; exact Nat.zero_le _
  | succ k ih =>
   intro h
   rw [endTo_succ]
   split
   ·rename_i hc; exact h k (by omega) hc.1
   ·exact ih fun j hj => h j (by omega)
 have h3 := hle k h1
 rcases h2 with h2 | ⟨j, j1, j2, j3⟩
 ·omega
 ·have := endTo_ge S k j j1 j2
  omega
theorem Is.same {H H' : HS} {oop : Nat} {t : Th} (h : Is H oop t) (hs : H'.seats.getD oop (0, 0, 0) = H.seats.getD oop (0, 0, 0)) (hl : oop < H'.seats.length) (hr : (H.seats.getD oop (0, 0, 0)).1 + lenN t.slots.length t.fmt ≤ H'.mem.length)
  (hm : ∀ p, (H.seats.getD oop (0, 0, 0)).1 ≤ p → p < (H.seats.getD oop (0, 0, 0)).1 + lenN t.slots.length t.fmt → H'.mem.getD p 0 = H.mem.getD p 0) : Is H' oop t := by
 have h2 := lenN_two t.slots.length t.fmt
 obtain ⟨a1, a2, a3⟩ := has_yes h.has
 refine ⟨?_, by rw [hs]; exact hr, ?_, ?_, h.fmt, h.len, ?_, ?_⟩
 ·exact decide_eq_true ⟨a1, by omega, by simp only [Int.toNat_natCast]; rw [hs]; exact a3⟩
 ·rw [hs, hm _ (by omega) (by omega)]; exact h.cls
 ·rw [hs, hm _ (by omega) (by omega)]; exact h.shape
 ·intro hf i hi
  have := lenN_word t.slots.length i t.fmt hf hi
  rw [hs, hm _ (by omega) (by omega)]
  exact h.word hf i hi
 ·intro hf i hi
  have := lenN_byte t.slots.length i hi
  rw [← hf] at this
  rw [hs, hm _ (by omega) (by omega)]
  exact h.byte hf i hi
theorem getD_left (A B : List Int) (p : Nat) (h : p < A.length) : (A ++ B).getD p 0 = A.getD p 0 := by
 rw [List.getD_eq_getElem?_getD, List.getD_eq_getElem?_getD, List.getElem?_append_left h]
theorem getD_right (A B : List Int) (i : Nat) : (A ++ B).getD (A.length + i) 0 = B.getD i 0 := by
 rw [List.getD_eq_getElem?_getD, List.getD_eq_getElem?_getD, List.getElem?_append_right (by omega), show A.length + i - A.length = i from by omega]
theorem getD_rep (n i : Nat) (x : Int) (h : i < n) : (List.replicate n x).getD i 0 = x := by
 rw [List.getD_eq_getElem?_getD, List.getElem?_replicate, if_pos h]; rfl
theorem is_laid (H : HS) (q : Nat) (cl : Int) (n f : Nat) (t : Th) (hf : f ≤ 1) (hn : n ≤ 8192) (h1 : t.cls = cl) (h2 : t.fmt = f) (h3 : t.slots = List.replicate n (newX f)) : Is (layH H (q + 1) cl n f) (q + 1) t := by
 have hs : (layH H (q + 1) cl n f).seats.getD (q + 1) (0, 0, 0) = (H.mem.length, lenN n f, H.order.length) := by show ((padSeats H.seats (q + 1 + 1)).set (q + 1) _).getD (q + 1) (0, 0, 0) = _; rw [laySeat, if_pos rfl]
 have hl2 := lenN_two n f
 have hsl : t.slots.length = n := by rw [h3]; simp
 have hm : (layH H (q + 1) cl n f).mem = H.mem ++ objCells cl n f := rfl
 refine ⟨?_, ?_, ?_, ?_, by omega, by omega, ?_, ?_⟩
 ·refine decide_eq_true ⟨by omega, ?_, ?_⟩
  ·show ((q + 1 : Nat) : Int) < ((padSeats H.seats (q + 1 + 1)).set (q + 1) _).length
   unfold padSeats
   simp
   omega
  ·simp only [Int.toNat_natCast]
   rw [hs]
   show lenN n f ≠ 0
   omega
 ·rw [hs, hm, List.length_append, objCells_len cl n f hf, hsl, h2]; exact Nat.le_refl _
 ·rw [hs, hm]
  rw [h1]
  exact getD_right H.mem (objCells cl n f) 0
 ·rw [hs, hm, getD_right H.mem (objCells cl n f) 1, hsl, h2]
  rfl
 ·intro hf0 i hi
  rw [hsl] at hi
  have hf1 : f = 0 := by omega
  rw [hs, hm]
  show (H.mem ++ objCells cl n f).getD (H.mem.length + 2 + i) 0 = _
  rw [show H.mem.length + 2 + i = H.mem.length + (2 + i) from by omega, getD_right, h3, getD_rep n i _ hi]
  subst hf1
  unfold objCells
  rw [if_pos rfl, show (2 + i) = [cl, ((2 * n + 0 : Nat) : Int)].length + i from rfl, getD_right, getD_rep n i _ hi]
  rfl
 ·intro hf1 i hi
  rw [hsl] at hi
  have hf1 : f = 1 := by omega
  refine ⟨0, ?_, by omega, ?_⟩
  ·rw [hs, hm]
   show (H.mem ++ objCells cl n f).getD (H.mem.length + 2 + i / 4) 0 = _
   rw [show H.mem.length + 2 + i / 4 = H.mem.length + (2 + i / 4) from by omega, getD_right]
   subst hf1
   unfold objCells
   rw [if_neg (by omega), show (2 + i / 4) = [cl, ((2 * n + 1 : Nat) : Int)].length + i / 4 from rfl, getD_right, getD_rep _ _ _ (by omega)]
   rfl
  ·rw [h3, getD_rep n i _ hi, hf1]
   simp [newX, getB]
end Go.Proofs.YtklfnjlenbgmoaaDoor
