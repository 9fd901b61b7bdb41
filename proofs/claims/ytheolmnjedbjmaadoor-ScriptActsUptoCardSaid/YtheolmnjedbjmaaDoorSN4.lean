import Derived.Test.YtheolmnjedbjmaaDoorSN3
namespace Go.Proofs.YtheolmnjedbjmaaDoor
open Go.RowKit
set_option linter.unusedVariables false
set_option linter.unusedSimpArgs false
attribute [local go_sem ↓] Go.wp_at_zero Go.wp_at_succ
def actsC : Array Value := #[.string ⟨#[]⟩, .string ⟨#[99, 108, 97, 115, 115]⟩, .string ⟨#[109, 101, 116, 104, 111, 100]⟩, .string ⟨#[114, 101, 109, 111, 118, 101]⟩, .string ⟨#[103, 108, 111, 98, 97, 108]⟩, .string ⟨#[115, 112, 97, 119, 110]⟩, .string ⟨#[114, 117, 110]⟩, .string ⟨#[114, 101, 115, 104, 97, 112, 101]⟩, .string ⟨#[99, 111, 108, 108, 101, 99, 116]⟩, .string ⟨#[105, 110, 115, 112, 101, 99, 116]⟩, .string ⟨#[109, 97, 114, 107]⟩, .string ⟨#[115, 97, 118, 101]⟩, .string ⟨#[108, 111, 97, 100]⟩]
def shapesC : Array Value := #[.string ⟨#[]⟩, .string ⟨#[110, 111, 42]⟩, .string ⟨#[110, 116]⟩, .string ⟨#[110, 111]⟩, .string ⟨#[110]⟩, .string ⟨#[116]⟩, .string ⟨#[35, 102]⟩, .string ⟨#[110, 42]⟩, .string ⟨#[]⟩, .string ⟨#[]⟩, .string ⟨#[35]⟩, .string ⟨#[]⟩, .string ⟨#[116]⟩]
theorem num_ok (W : World) (n : Int) : Calls Tryd.prog 10 #[.int .i64 n] W fun e w' => e = .returned (.int .i64 n) ∧ Bl W w' := by
  go_enter Tryd.func10, Tryd.ntmps10
  go_wp2_with fail
  go_ret
  exact ⟨rfl, Bl.refl _⟩
set_option maxRecDepth 100000 in
theorem racts_ok (W : World) : Calls Tryd.prog 35 #[] W fun e w' => e = .returned (.slice (some ⟨W.heap.size, 0, none⟩) 13 13) ∧ w' = W.alloc (.cells actsC 9) := by
  go_enter Tryd.func35, Tryd.ntmps35
  go_wp2_with fail
  go_ret
  exact ⟨rfl, rfl⟩
set_option maxRecDepth 100000 in
theorem rshapes_ok (W : World) : Calls Tryd.prog 36 #[] W fun e w' => e = .returned (.slice (some ⟨W.heap.size, 0, none⟩) 13 13) ∧ w' = W.alloc (.cells shapesC 9) := by
  go_enter Tryd.func36, Tryd.ntmps36
  go_wp2_with fail
  go_ret
  exact ⟨rfl, rfl⟩
end Go.Proofs.YtheolmnjedbjmaaDoor
