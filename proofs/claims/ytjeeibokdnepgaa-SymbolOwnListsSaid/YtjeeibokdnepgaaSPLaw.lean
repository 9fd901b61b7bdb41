import Derived.Test.YtjeeibokdnepgaaSBegin
import Derived.Test.YtjeeibokdnepgaaSOpen
namespace Go.Proofs.Ytjeeibokdnepgaa
open Go.RowKit Go.Maps Go.WideMaps
set_option linter.unusedVariables false
set_option linter.unusedSimpArgs false
/-- a step as it was handed in -/
structure StepI where
  k : Int
  a : Int
  n : Int
  s : ByteArray
structure ArgP (w : World) (v : Value) (l : List StepI) : Prop where
  at_ : ∃ p c, v = .slice p l.length c ∧ (0 < l.length → ∃ g off, p = some ⟨g, off, none⟩ ∧ g < w.heap.size ∧ ∀ i, i < l.length → ∃ x, l[i]? = some x ∧ w.cell? ⟨g, off + i * 4, none⟩ = some (.int .i64 x.k) ∧ w.cell? ⟨g, off + i * 4 + 1, none⟩ = some (.int .i64 x.a) ∧ w.cell? ⟨g, off + i * 4 + 2, none⟩ = some (.int .i64 x.n) ∧ w.cell? ⟨g, off + i * 4 + 3, none⟩ = some (.string x.s))
  ok : ∀ x ∈ l, (-9223372036854775808 ≤ x.a ∧ x.a ≤ 9223372036854775807) ∧ x.s.size ≤ 140737488355328
  short : l.length ≤ 8796093022208
/-- two worlds of the caller: the shelf is laid -/
theorem shelf_new (w : World) : (w.alloc (.cells #[.pointer none, .pointer none, .pointer none, .pointer none] 57)).heap[w.heap.size]? = some (.cells #[.pointer none, .pointer none, .pointer none, .pointer none] 57 (0, 0)) := heap_alloc_new w _
set_option maxRecDepth 20000 in
set_option maxHeartbeats 2000000 in
theorem plays_any (m n : Int) (l : List StepI) (v : Value) (w : World) (hm : (Lit.int .i64 m).wf = true) (hn : (Lit.int .i64 n).wf = true) (h : ArgP w v l) :
    Calls Try.prog 6 #[.int .i64 m, .int .i64 n, v] w fun e w' => e = .returned (.bool true) ∧ Fr [] w w' := by
  obtain ⟨p, c, rfl, h1⟩ := h.at_
  have H1 := mkHid h1
  have HA := mkHid h
  have s1 := h.short
  obtain ⟨W1, hW1⟩ : ∃ W1, W1 = w.alloc (.cells #[.pointer none, .pointer none, .pointer none, .pointer none] 57) := ⟨_, rfl⟩
  have HB := mkHid (begins_ok m n w W1 w.heap.size (by rw [hW1]; exact shelf_new w) (Nat.le_refl _) (by rw [hW1]; exact Fr.alloc [] w _))
  clear h h1 hm hn
  go_enter Try.func6, Try.ntmps6
  go_wp2_with (go_at_call 27; rw [← hW1]; refine HB.out.mono ?_; rintro e w1 ⟨rfl, v1, c1, q1, q2⟩; have HS := mkHid q1; have HE := mkHid q2; clear q1 q2)
  go_loopw [8, 9] (fun u q wr => ∃ i : Nat, i ≤ l.length ∧ q = .int .i64 i ∧ Hid (∃ v' c', Sh w wr w.heap.size v' c' (fun _ _ => False) ∧ Even c')) (fun _ q _ => l.length - (intOf q).toNat)
  case atStart => exact ⟨0, Nat.zero_le _, rfl, mkHid ⟨v1, c1, HS.out, HE.out⟩⟩
  case round =>
    obtain ⟨i, hi, rfl, hst⟩ := hrel
    have i1 : (0 : Int) ≤ (i : Int) := by omega
    clear HS HE HB hW1
    by_cases hlt : i < l.length
    · have i2 : (i : Int) < (l.length : Int) := by omega
      obtain ⟨v2, c2, q1, q2⟩ := hst.out
      obtain ⟨g, off, rfl, x1, x2⟩ := H1.out (by omega)
      obtain ⟨x, hx, a0, a1, a2, a3⟩ := x2 i hlt
      obtain ⟨⟨o1, o2⟩, o3⟩ := HA.out.ok x (List.mem_of_getElem? hx)
      have k0 := (q1.fr.cell (p := ⟨g, off + i * 4, none⟩) x1 (by simp)).trans a0
      have k1 := (q1.fr.cell (p := ⟨g, off + i * 4 + 1, none⟩) x1 (by simp)).trans a1
      have k2 := (q1.fr.cell (p := ⟨g, off + i * 4 + 2, none⟩) x1 (by simp)).trans a2
      have k3 := (q1.fr.cell (p := ⟨g, off + i * 4 + 3, none⟩) x1 (by simp)).trans a3
      have HC := mkHid (plays_ok q1 q2 x.k x.a x.n x.s o1 o2 o3)
      obtain ⟨xk, xa, xn, xs⟩ := x
      clear x1 x2 hx a0 a1 a2 a3 q1 q2 hst H1 HA o1 o2 o3
      go_wp2_with (go_at_call 28; refine HC.out.mono ?_; rintro e w3 ⟨rfl, h3⟩; have HS3 := mkHid h3; clear h3)
      go_roundw
      case rel => exact ⟨i + 1, by omega, by go_num, HS3⟩
      case measure => simp [intOf]; omega
    · have hie : i = l.length := by omega
      subst hie
      have HC : Hid (∀ W, (∃ v' c', Sh w W w.heap.size v' c' (fun _ _ => False) ∧ Even c') → ∀ (k a n : Int) (s : ByteArray), -9223372036854775808 ≤ a → a ≤ 9223372036854775807 → s.size ≤ 140737488355328 → _) := mkHid (fun W ⟨v', c', q1, q2⟩ k a n s o1 o2 o3 => plays_ok q1 q2 k a n s o1 o2 o3)
      clear H1 HA
      go_wp2_with (go_at_call 28; first
        | (have hh := K3; refine (HC.out _ HS5.out 3 0 0 ⟨#[]⟩ (by omega) (by omega) (by decide)).mono ?_; rintro e w6 ⟨rfl, h6⟩; have HS6 := mkHid h6; clear h6)
        | (have hh := K2; refine (HC.out _ HS4.out 1 0 0 ⟨#[108, 97, 115, 116]⟩ (by omega) (by omega) (by decide)).mono ?_; rintro e w5 ⟨rfl, h5⟩; have HS5 := mkHid h5; clear h5; have K3 := trivial)
        | (have hh := K1; refine (HC.out _ HS3.out 4 1 0 ⟨#[]⟩ (by omega) (by omega) (by decide)).mono ?_; rintro e w4 ⟨rfl, h4⟩; have HS4 := mkHid h4; clear h4; have K2 := trivial)
        | (refine (HC.out _ hst.out 4 0 0 ⟨#[]⟩ (by omega) (by omega) (by decide)).mono ?_; rintro e w3 ⟨rfl, h3⟩; have HS3 := mkHid h3; clear h3; have K1 := trivial))
      go_ret
      obtain ⟨v9, c9, q9, _⟩ := HS6.out
      exact ⟨rfl, q9.fr⟩
end Go.Proofs.Ytjeeibokdnepgaa
