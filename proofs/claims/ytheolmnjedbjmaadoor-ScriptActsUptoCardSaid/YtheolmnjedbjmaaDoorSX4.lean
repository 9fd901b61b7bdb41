import Derived.Test.YtheolmnjedbjmaaDoorSW2
import Derived.Test.YtheolmnjedbjmaaDoorSX3
namespace Go.Proofs.YtheolmnjedbjmaaDoor
open Go.RowKit
set_option linter.unusedVariables false
set_option linter.unusedSimpArgs false
attribute [local go_sem ↓] Go.wp_at_zero Go.wp_at_succ
/-- an act's cells -/
def akC (a : AK) (p : Option Addr) (c : Nat) : Array Value := #[.int .i64 a.kind, .string a.name, .string a.other, .slice p a.names.length c, .string a.text, .int .i64 a.num, .int .i64 a.fuel]
/-- sizes of an act's fields -/
structure Ak1 (a : AK) : Prop where
  name : a.name.size ≤ 2305843009213693952
  other : a.other.size ≤ 2305843009213693952
  text : a.text.size ≤ 2305843009213693952
  names : ∀ s ∈ a.names, s.size ≤ 2305843009213693952
  len : a.names.length ≤ 2305843009213693952
  num : -9223372036854775808 ≤ a.num ∧ a.num ≤ 9223372036854775807
  fuel : -9223372036854775808 ≤ a.fuel ∧ a.fuel ≤ 9223372036854775807
theorem sF_enters (k : Int) (h : 1 ≤ k ∧ k ≤ 12) : ∀ args w, (callFunc (sF k.toNat) args).run Tryd.prog w = .ok (.enter (sF k.toNat) args) w := by
  rcases kinds h with rfl | rfl | rfl | rfl | rfl | rfl | rfl | rfl | rfl | rfl | rfl | rfl
  · exact enters_of Tryd.func50 (by kernel_rfl) rfl
  · exact enters_of Tryd.func52 (by kernel_rfl) rfl
  · exact enters_of Tryd.func54 (by kernel_rfl) rfl
  · exact enters_of Tryd.func56 (by kernel_rfl) rfl
  · exact enters_of Tryd.func58 (by kernel_rfl) rfl
  · exact enters_of Tryd.func60 (by kernel_rfl) rfl
  · exact enters_of Tryd.func62 (by kernel_rfl) rfl
  · exact enters_of Tryd.func64 (by kernel_rfl) rfl
  · exact enters_of Tryd.func64 (by kernel_rfl) rfl
  · exact enters_of Tryd.func66 (by kernel_rfl) rfl
  · exact enters_of Tryd.func64 (by kernel_rfl) rfl
  · exact enters_of Tryd.func58 (by kernel_rfl) rfl
theorem write_ok {W w1 : World} {B wb fb : Nat} {p : Option Addr} {c : Nat} (a : AK) (hk : 1 ≤ a.kind ∧ a.kind ≤ 12) (ha : Ak1 a) (h : Sj W w1 B wb fb (akC a p c) 38 (false, wdK a.kind.toNat)) (hBw : B ≤ wb) (hBf : B ≤ fb) (hne : wb ≠ fb) (hc : ∀ U, Wf B [wb, fb] W U → Rs U p a.names) :
    Calls Tryd.prog (sF a.kind.toNat) #[.pointer (some ⟨wb, 0, none⟩), .pointer (some ⟨fb, 0, none⟩)] w1 fun e w' => (∃ u, e = .returned u) ∧ ∃ p' c', Sj W w' B wb fb (akC (restK a) p' c') 38 (stK a) := by
  have hcs : ∀ k, (wdK k).length ≤ 1000000 := fun k => by
    unfold wdK
    split <;> simp
  obtain ⟨k, n, o, l, t, x, y⟩ := a
  obtain ⟨h1, h2, h3, h4, h5, h6, h7⟩ := ha
  simp only [akC] at *
  rcases kinds hk with rfl | rfl | rfl | rfl | rfl | rfl | rfl | rfl | rfl | rfl | rfl | rfl
  · refine (classW_ok h hBw hBf hne (Nat.le_trans (hcs 1) (by omega)) n rfl h1 o rfl h2 l p c rfl h5 h4 hc).mono ?_
    rintro e w' ⟨he, hS⟩
    exact ⟨he, none, 0, hS⟩
  · refine (methodW_ok h hBw hBf hne (Nat.le_trans (hcs 2) (by omega)) n rfl h1 t rfl h3).mono ?_
    rintro e w' ⟨he, hS⟩
    exact ⟨he, p, c, hS⟩
  · refine (removeW_ok h hBw hBf hne (Nat.le_trans (hcs 3) (by omega)) n rfl h1 o rfl h2).mono ?_
    rintro e w' ⟨he, hS⟩
    exact ⟨he, p, c, hS⟩
  · refine (nameW_ok h hBw hBf hne (Nat.le_trans (hcs 4) (by omega)) n rfl h1).mono ?_
    rintro e w' ⟨he, hS⟩
    exact ⟨he, p, c, hS⟩
  · refine (textW_ok h hBw hBf hne (Nat.le_trans (hcs 5) (by omega)) t rfl h3).mono ?_
    rintro e w' ⟨he, hS⟩
    exact ⟨he, p, c, hS⟩
  · refine (runW_ok h hBw hBf hne (Nat.le_trans (hcs 6) (by omega)) x rfl h6 y rfl h7).mono ?_
    rintro e w' ⟨he, hS⟩
    exact ⟨he, p, c, hS⟩
  · refine (reshapeW_ok h hBw hBf hne (Nat.le_trans (hcs 7) (by omega)) n rfl h1 l p c rfl h5 h4 hc).mono ?_
    rintro e w' ⟨he, hS⟩
    exact ⟨he, none, 0, hS⟩
  · refine (noW_ok w1 _ _).mono ?_
    rintro e w' ⟨he, rfl⟩
    exact ⟨he, p, c, h⟩
  · refine (noW_ok w1 _ _).mono ?_
    rintro e w' ⟨he, rfl⟩
    exact ⟨he, p, c, h⟩
  · refine (numW_ok h hBw hBf hne (Nat.le_trans (hcs 10) (by omega)) x rfl h6).mono ?_
    rintro e w' ⟨he, hS⟩
    exact ⟨he, p, c, hS⟩
  · refine (noW_ok w1 _ _).mono ?_
    rintro e w' ⟨he, rfl⟩
    exact ⟨he, p, c, h⟩
  · refine (textW_ok h hBw hBf hne (Nat.le_trans (hcs 12) (by omega)) t rfl h3).mono ?_
    rintro e w' ⟨he, hS⟩
    exact ⟨he, p, c, hS⟩
end Go.Proofs.YtheolmnjedbjmaaDoor
