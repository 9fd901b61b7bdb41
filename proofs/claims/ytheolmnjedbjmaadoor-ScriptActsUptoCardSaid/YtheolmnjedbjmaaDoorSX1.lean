import Derived.Test.YtheolmnjedbjmaaDoorSN4
namespace Go.Proofs.YtheolmnjedbjmaaDoor
open Go.RowKit
set_option linter.unusedVariables false
set_option linter.unusedSimpArgs false
attribute [local go_sem ↓] Go.wp_at_zero Go.wp_at_succ
def stepsC : Array Value := #[.int .i64 1, .string ⟨#[99, 108, 97, 115, 115]⟩, .int .i64 3, .bool true, .func (.func 50) #[] #[], .func (.func 51) #[] #[], .int .i64 2, .string ⟨#[109, 101, 116, 104, 111, 100]⟩, .int .i64 3, .bool false, .func (.func 52) #[] #[], .func (.func 53) #[] #[], .int .i64 3, .string ⟨#[114, 101, 109, 111, 118, 101]⟩, .int .i64 3, .bool false, .func (.func 54) #[] #[], .func (.func 55) #[] #[], .int .i64 4, .string ⟨#[103, 108, 111, 98, 97, 108]⟩, .int .i64 2, .bool false, .func (.func 56) #[] #[], .func (.func 57) #[] #[], .int .i64 5, .string ⟨#[115, 112, 97, 119, 110]⟩, .int .i64 2, .bool false, .func (.func 58) #[] #[], .func (.func 59) #[] #[], .int .i64 6, .string ⟨#[114, 117, 110]⟩, .int .i64 3, .bool false, .func (.func 60) #[] #[], .func (.func 61) #[] #[], .int .i64 7, .string ⟨#[114, 101, 115, 104, 97, 112, 101]⟩, .int .i64 2, .bool true, .func (.func 62) #[] #[], .func (.func 63) #[] #[], .int .i64 8, .string ⟨#[99, 111, 108, 108, 101, 99, 116]⟩, .int .i64 1, .bool false, .func (.func 64) #[] #[], .func (.func 65) #[] #[], .int .i64 9, .string ⟨#[105, 110, 115, 112, 101, 99, 116]⟩, .int .i64 1, .bool false, .func (.func 64) #[] #[], .func (.func 65) #[] #[], .int .i64 10, .string ⟨#[109, 97, 114, 107]⟩, .int .i64 2, .bool false, .func (.func 66) #[] #[], .func (.func 67) #[] #[], .int .i64 11, .string ⟨#[115, 97, 118, 101]⟩, .int .i64 1, .bool false, .func (.func 64) #[] #[], .func (.func 65) #[] #[], .int .i64 12, .string ⟨#[108, 111, 97, 100]⟩, .int .i64 2, .bool false, .func (.func 58) #[] #[], .func (.func 59) #[] #[]]
set_option maxRecDepth 100000 in
set_option maxHeartbeats 4000000 in
theorem steps_ok (W : World) : Calls Tryd.prog 45 #[] W fun e w' => e = .returned (.slice (some ⟨W.heap.size, 0, none⟩) 12 12) ∧ w' = W.alloc (.cells stepsC 65) := by
  go_enter Tryd.func45, Tryd.ntmps45
  go_wp2_with fail
  go_ret
  exact ⟨rfl, rfl⟩
end Go.Proofs.YtheolmnjedbjmaaDoor
