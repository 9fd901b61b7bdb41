import Derived.Test.YtclkoffnjiiioaaDoorIRd
import Derived.Test.YtclkoffnjiiioaaDoorIRb
import Derived.Test.YtclkoffnjiiioaaDoorCLast
namespace Go.Proofs.YtclkoffnjiiioaaDoor
open Go.RowKit
set_option linter.unusedVariables false
set_option linter.unusedSimpArgs false
attribute [local go_sem ↓] Go.wp_at_zero Go.wp_at_succ
theorem wrL_mem : ∀ (ts : List LitT) (f : Bool) (u : LitT), u ∈ ts → (wrT u).length ≤ (wrL ts f).length
  | [], f, u, h => by simp at h
  | t :: ts, f, u, h => by
    rw [wrL_cons, List.length_append, List.length_append]
    rcases List.mem_cons.1 h with e | h
    · rw [e]; omega
    · have := wrL_mem ts false u h; omega
theorem relement_all (w0 : World) (hpw : Pw w0) (p : Option Addr) (c : Nat) (ts : List LitT) (h : LitsR w0 p c ts) : ∀ t ∈ ts, FineT t → (wrT t).length ≤ 1000000000 → ∀ V, Fr [] w0 V → Calls Tryd.prog 32 #[.agg #[.int .i64 t.kind, .string t.text, .int .i64 t.num, t.items]] V fun e w' => e = .returned (.string (ba (wrT t))) ∧ Fr [] V w' := by
  induction h with
  | mk p c ts nil at_ short txt kids ih =>
    intro t ht hF hl V hf
    refine relement_step t w0 V (kids t ht) hf hpw hF hl (fun hk u hu U hU => ?_)
    refine ih t ht u hu ?_ ?_ U hU
    · obtain ⟨_, h0, h1, h2, h3, k⟩ := hF
      exact k hk u hu
    · rw [wrT_at, if_neg (by omega), if_neg (by omega), if_neg (by omega), if_neg (by omega), if_neg (by omega), if_neg (by omega)] at hl
      have := wrL_mem t.kids true u hu
      simp at hl
      omega
theorem rliteral_all (x : Nat) (w0 : World) (hx : w0.heap.size ≤ x) (p : Option Addr) (c : Nat) (ts : List LitT) (h : LitsR w0 p c ts) : ∀ t ∈ ts, ∀ (top : Bool) (V : World) (n : Nat), Fr [] w0 V → V.heap[x]? = some (.cells (wkc n 0) 55 (0, 0)) → n ≤ 4096 → Calls Tryd.prog 18 #[.pointer (some ⟨x, 0, none⟩), .agg #[.int .i64 t.kind, .string t.text, .int .i64 t.num, t.items], .bool top] V fun e w' => LtP V x (lit1 top t n) e w' := by
  induction h with
  | mk p c ts nil at_ short txt kids ih =>
    intro t ht top V n hf hh hn
    exact literal_step x n t top w0 V hx (kids t ht) hf hh hn (txt t ht) (fun u hu U m hU hm hm4 => ih t ht u hu false U m hU hm hm4)
end Go.Proofs.YtclkoffnjiiioaaDoor
