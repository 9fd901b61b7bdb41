import Derived.Test.YtclkoffnjiiioaaGreatDoorTIMay
namespace Go.Proofs.YtclkoffnjiiioaaGreatDoor
open Go.RowKit
set_option linter.unusedVariables false
set_option linter.unusedSimpArgs false
attribute [local go_sem ↓] Go.wp_at_zero Go.wp_at_succ
/-- an element as the gatherer makes it: an interface's value, arrays in rows of their own -/
inductive ElR (w : World) (Ok : Nat → Prop) : Value → LitT → Prop
  | int (t : LitT) (h : t.kind = 1) : ElR w Ok (.iface 100 (.int .i64 t.num)) t
  | text (t : LitT) (h : t.kind = 2) : ElR w Ok (.iface 101 (.string t.text)) t
  | sym (t : LitT) (h : t.kind = 3) : ElR w Ok (.iface 102 (.int .i64 t.num)) t
  | nil (t : LitT) (h : t.kind = 5) : ElR w Ok (.iface 104 (.agg #[])) t
  | yes (t : LitT) (h : t.kind = 6) : ElR w Ok (.iface 105 (.agg #[])) t
  | no (t : LitT) (h : t.kind = 7) : ElR w Ok (.iface 106 (.agg #[])) t
  | arr (t : LitT) (h : t.kind = 4) (p : Option Addr) (c : Nat) (vs : List Value) (row : w.ownsRow 0 60 1 (.slice p t.kids.length c) t.kids.length vs) (ok : ∀ b ∈ blk p, Ok b) (kids : ∀ (i : Nat) (u : LitT) (v : Value), t.kids[i]? = some u → vs[i]? = some v → ElR w Ok v u) : ElR w Ok (.iface 107 (.slice p t.kids.length c)) t
theorem ElR.keep {w w' : World} {Ok Ok' : Nat → Prop} {v : Value} {t : LitT} (h : ElR w Ok v t) (hb : ∀ b, Ok b → b < w.heap.size → w'.heap[b]? = w.heap[b]?) (ho : ∀ b, Ok b → b < w.heap.size → Ok' b) : ElR w' Ok' v t := by
  induction h with
  | int t h => exact .int t h
  | text t h => exact .text t h
  | sym t h => exact .sym t h
  | nil t h => exact .nil t h
  | yes t h => exact .yes t h
  | no t h => exact .no t h
  | arr t h p c vs row ok kids ih => exact .arr t h p c vs (own_congr row fun b hb' => hb b (ok b ((blk_own _ _ _ _).1 hb')) (own_lt row b hb').2) (fun b hb' => ho b (ok b hb') (own_lt row b ((blk_own _ _ _ _).2 hb')).2) (fun i u v hu hv => ih i u v hu hv)
/-- elements in a row -/
structure ElsR (w : World) (Ok : Nat → Prop) (p : Option Addr) (c : Nat) (ts : List LitT) (vs : List Value) : Prop where
  row : w.ownsRow 0 60 1 (.slice p ts.length c) ts.length vs
  ok : ∀ b ∈ blk p, Ok b
  els : ∀ (i : Nat) (u : LitT) (v : Value), ts[i]? = some u → vs[i]? = some v → ElR w Ok v u
/-- what gathering leaves -/
def GaP (V : World) (x : Nat) (ts : List LitT) (R : Int × Nat) (e : Ending) (w' : World) : Prop :=
  ∃ v, e = .returned (.tuple #[v, .int .i64 R.1]) ∧ Fr [x] V w' ∧ w'.heap[x]? = some (.cells #[.int .i64 (R.2 : Int)] 51 (0, 0)) ∧ (R.1 ≠ 0 → v = .slice none 0 0) ∧ (R.1 = 0 → ∃ p c vs, v = .slice p ts.length c ∧ ElsR w' (fun b => V.heap.size ≤ b) p c ts vs)
def GeP (V : World) (x : Nat) (t : LitT) (R : Int × Nat) (e : Ending) (w' : World) : Prop :=
  ∃ v, e = .returned (.tuple #[v, .int .i64 R.1]) ∧ Fr [x] V w' ∧ w'.heap[x]? = some (.cells #[.int .i64 (R.2 : Int)] 51 (0, 0)) ∧ (R.1 = 0 → ElR w' (fun b => V.heap.size ≤ b) v t)
set_option maxRecDepth 100000 in
set_option maxHeartbeats 4000000 in
theorem element_ok (x g off n : Nat) (t : LitT) (V : World) (h : LitAt V g off t) (hm : mayB t = true) (hx : V.heap[x]? = some (.cells #[.int .i64 (n : Int)] 51 (0, 0)))
    (hA : Calls Tryz.prog 16 #[.pointer (some ⟨x, 0, none⟩), .slice t.p t.kids.length t.c, .func (.func 49) #[.pointer (some ⟨x, 0, none⟩)] #[]] V fun e w' => GaP V x t.kids (gaL t.kids n) e w') :
    Calls Tryz.prog 28 #[.pointer (some ⟨x, 0, none⟩), .pointer (some ⟨g, off, none⟩)] V fun e w' => GeP V x t (gaT t n) e w' := by
  have hk : t.kind = 1 ∨ t.kind = 2 ∨ t.kind = 3 ∨ t.kind = 5 ∨ t.kind = 6 ∨ t.kind = 7 ∨ t.kind = 4 := by
    unfold mayB at hm
    by_cases h1 : t.kind = 1 ∨ t.kind = 3
    · omega
    · rw [if_neg h1] at hm
      by_cases h2 : t.kind = 2
      · omega
      · rw [if_neg h2] at hm
        by_cases h4 : t.kind = 4
        · omega
        · rw [if_neg h4] at hm
          by_cases h5 : t.kind = 5 ∨ t.kind = 6 ∨ t.kind = 7
          · omega
          · rw [if_neg h5] at hm; cases hm
  obtain ⟨c0, c1, c2, c3'⟩ := h
  have c3 : V.cell? ⟨g, off + 3, none⟩ = some (.slice t.p t.kids.length t.c) := c3'
  have HX := mkHid hx
  have hmf : ∀ (fn : Fn) (first cap : Array Value) (w : World), (Instr.makeFunc fn first cap).run Tryz.prog w = .ok (.func fn first cap) w := fun _ _ _ _ => rfl
  clear c3' hm hx
  rcases hk with hk | hk | hk | hk | hk | hk | hk
  case inr.inr.inr.inr.inr.inr =>
    have HG : Hid (gaT t n = gaL t.kids n) := by rw [show gaT t n = _ from gaT_at t n, if_pos hk]; exact rfl
    rw [HG.out]
    have HA := mkHid hA
    rw [hk] at c0
    have HK := mkHid hk
    clear hA hk
    go_enter Tryz.func28, Tryz.ntmps28
    go_wp2_with fail
    refine HA.out.mono ?_
    rintro e w1 ⟨v, rfl, f1, hx1, hn1, hy1⟩
    by_cases hz : (gaL t.kids n).1 = 0
    · obtain ⟨p, c, vs, rfl, hE⟩ := hy1 hz
      have H1 := mkHid (And.intro f1 (And.intro hx1 hE))
      clear f1 hx1 hn1 hy1 hE
      go_wp2_with fail
      go_ret2
      obtain ⟨f1, hx1, hE⟩ := H1.out
      exact ⟨_, by rw [hz]; rfl, f1, hx1, fun _ => .arr t HK.out p c vs hE.row hE.ok hE.els⟩
    · obtain rfl := hn1 hz
      have H1 := mkHid (And.intro f1 hx1)
      clear f1 hx1 hn1 hy1
      go_wp2_with fail
      go_ret2
      obtain ⟨f1, hx1⟩ := H1.out
      exact ⟨_, rfl, f1, hx1, fun hh => absurd hh hz⟩
  all_goals
    have HG : Hid (gaT t n = (0, n)) := by rw [show gaT t n = _ from gaT_at t n, if_neg (by omega)]; exact rfl
    rw [HG.out]
    rw [hk] at c0
    have HK := mkHid hk
    clear hA hk HG
    go_enter Tryz.func28, Tryz.ntmps28
    go_wp2_with fail
    go_ret2
    refine ⟨_, rfl, Fr.refl _ _, HX.out, fun _ => ?_⟩
    first | exact .int t HK.out | exact .text t HK.out | exact .sym t HK.out | exact .nil t HK.out | exact .yes t HK.out | exact .no t HK.out
end Go.Proofs.YtclkoffnjiiioaaGreatDoor

