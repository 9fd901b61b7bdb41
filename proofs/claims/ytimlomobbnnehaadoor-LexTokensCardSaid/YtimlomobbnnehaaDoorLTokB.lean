import Derived.Test.YtimlomobbnnehaaDoorLOpen
import Derived.Laws.Tables
import Derived.Maps.OwnOps
import Derived.Maps.OwnSet
import Derived.Maps.Views
import Derived.Maps.AppendAt
import Derived.Deep.AppendLies
import Derived.Deep.RegionHeld3
import Derived.Deep.RegionHeldLaw
namespace Go.Proofs.YtimlomobbnnehaaDoor
open Go.RowKit Go.Maps
set_option linter.unusedVariables false
set_option linter.unusedSimpArgs false
def tc (x : Tok × Nat) : List Value := [.int .i64 x.1.kind, .string (ba x.1.text), .int .i64 x.1.num, .int .i64 x.2]
def tcs (ts : List (Tok × Nat)) : List Value := ts.flatMap tc
theorem tcs_len (ts : List (Tok × Nat)) : (tcs ts).length = 4 * ts.length := by
  induction ts with
  | nil => rfl
  | cons x ts ih => simp [tcs, tc] at ih ⊢; omega
theorem tcs_app (ts us : List (Tok × Nat)) : tcs (ts ++ us) = tcs ts ++ tcs us := by simp [tcs]
def stopT : Tok := ⟨18, [], 0⟩
/-- what Tokens answers: the tokens, the error's number and place -/
def LexR (l : Bs) (ts : List (Tok × Nat)) (c a : Nat) : Prop :=
  (4096 < l.length ∧ ts = [] ∧ c = 73 ∧ a = 4096) ∨ (l.length ≤ 4096 ∧ ∃ us er, Lx 0 l us er ∧ ((er = none ∧ ts = us ++ [(stopT, l.length)] ∧ c = 0 ∧ a = 0) ∨ (∃ p, er = some p ∧ ts = [] ∧ c = 70 ∧ a = p)))
theorem LexR.unique {l : Bs} {ts ts' : List (Tok × Nat)} {c a c' a' : Nat} (h : LexR l ts c a) (h' : LexR l ts' c' a') : ts' = ts ∧ c' = c ∧ a' = a := by
  rcases h with ⟨h1, rfl, rfl, rfl⟩ | ⟨h1, us, er, hx, hr⟩
  · rcases h' with ⟨_, rfl, rfl, rfl⟩ | ⟨h2, _⟩
    · exact ⟨rfl, rfl, rfl⟩
    · omega
  · rcases h' with ⟨h2, _⟩ | ⟨h2, us', er', hx', hr'⟩
    · omega
    · obtain ⟨rfl, rfl⟩ := hx.unique hx'
      rcases hr with ⟨rfl, rfl, rfl, rfl⟩ | ⟨p, rfl, rfl, rfl, rfl⟩
      · rcases hr' with ⟨_, rfl, rfl, rfl⟩ | ⟨p, h, _⟩
        · exact ⟨rfl, rfl, rfl⟩
        · cases h
      · rcases hr' with ⟨h, _⟩ | ⟨p', h, rfl, rfl, rfl⟩
        · cases h
        · cases h; exact ⟨rfl, rfl, rfl⟩
structure TL (w : World) (s : ByteArray) (acc : List (Tok × Nat)) (at' : Nat) (v : Value) (W : World) : Prop where
  res : W.heap[w.heap.size]? = some (.cells #[.int .i64 0, .int .i64 0] 25 (0, 0))
  tab : W.heap[w.heap.size + 2]? = some (.cells openA 37 (0, 0))
  own : W.ownsRow (w.heap.size + 3) 41 4 v acc.length (tcs acc)
  bl : Bl w W
  lx : ∀ ts e, Lx at' ((lst s).drop at') ts e → Lx 0 (lst s) (acc ++ ts) e
  le : at' ≤ s.size
  al : acc.length ≤ at'
theorem cutQ_none {l : Bs} (h : (cutQ l).2.2.2 = 0) : cut l = none := by
  unfold cutQ at h
  split at h
  · assumption
  · rename_i n hc; have := (cut_n hc).1; simp at h; omega
  · rename_i t n hc; have := (cut_n hc).1; simp at h; omega
theorem cutQ_some {l : Bs} (h : (cutQ l).2.2.2 ≠ 0) : (∃ n, cut l = some (none, n) ∧ cutQ l = (0, [], 0, n)) ∨ ∃ t n, cut l = some (some t, n) ∧ cutQ l = (t.kind, t.text, t.num, n) := by
  unfold cutQ at *
  split at h
  · exact absurd rfl h
  · rename_i n hc; left; exact ⟨n, hc, rfl⟩
  · rename_i t n hc; right; exact ⟨t, n, hc, rfl⟩
theorem cut_passed {l : Bs} {x : Option Tok} {n : Nat} (h : cut l = some (x, n)) : (isB (hd l) = true ∨ hd l = 34) ↔ x = none := by
  unfold cut at h
  split at h
  · cases h
  · rename_i c r
    show isB c.toNat = true ∨ c.toNat = 34 ↔ _
    split at h
    · rename_i hb; simp at h; simp [← h.1, hb]
    rename_i hb
    split at h
    · rename_i hq
      obtain ⟨y, hy, e⟩ := Option.map_eq_some_iff.1 h
      simp at e
      simp [← e.1, hq]
    rename_i hq
    have hno : ¬ (isB c.toNat = true ∨ c.toNat = 34) := by rintro (h1 | h1); exact hb h1; exact hq h1
    have : x ≠ none := by
      rintro rfl
      repeat' split at h
      all_goals (simp [mk] at h; done)
    exact ⟨fun h => absurd h hno, fun h => absurd h this⟩
theorem txt_len : ∀ (k : Nat) (l : Bs) (x : Bs × Nat), l.length ≤ k → txt l = some x → x.1.length ≤ l.length := by
  intro k
  induction k with
  | zero => intro l x hk h; have : l = [] := List.length_eq_zero_iff.1 (by omega); subst this; simp [txt] at h
  | succ k ih =>
    intro l x hk h
    cases l with
    | nil => simp [txt] at h
    | cons c l =>
      by_cases hc : c.toNat = 39
      · cases l with
        | nil => rw [txt_end hc (by simp [hd])] at h; cases h; simp
        | cons d r =>
          by_cases hd' : d.toNat = 39
          · rw [txt_two c d r hc hd'] at h
            obtain ⟨y, hy, rfl⟩ := Option.map_eq_some_iff.1 h
            have := ih r y (by simp at hk; omega) hy
            simp; omega
          · rw [txt_end hc (by exact hd')] at h; cases h; simp
      · rw [txt_one hc] at h
        obtain ⟨y, hy, rfl⟩ := Option.map_eq_some_iff.1 h
        have := ih l y (by simp at hk; omega) hy
        simp; omega
theorem cutQ_bound (l : Bs) : (cutQ l).2.1.length ≤ l.length ∧ (cutQ l).2.2.2 ≤ l.length := by
  unfold cutQ
  split
  · simp
  · rename_i n hc; have := (cut_n hc).2; simp; omega
  · rename_i t n hc
    refine ⟨?_, (cut_n hc).2⟩
    show t.text.length ≤ l.length
    unfold cut at hc
    split at hc
    · cases hc
    · rename_i c r
      repeat' split at hc
      all_goals first
        | (simp [mk] at hc; done)
        | (simp only [mk, Option.some.injEq, Prod.mk.injEq] at hc; obtain ⟨rfl, _⟩ := hc; simp [List.length_take]; omega)
        | (simp only [mk, Option.some.injEq, Prod.mk.injEq] at hc; obtain ⟨rfl, _⟩ := hc; simp)
        | (obtain ⟨y, hy, e⟩ := Option.map_eq_some_iff.1 hc; simp at e; done)
        | (obtain ⟨y, hy, e⟩ := Option.map_eq_some_iff.1 hc; simp only [Prod.mk.injEq, Option.some.injEq] at e; obtain ⟨rfl, _⟩ := e; have := txt_len _ _ _ (Nat.le_refl _) hy; simp; omega)
theorem resD {X W : World} (h : Bl ((X.alloc (.cells #[.int .i64 0, .string ⟨#[]⟩, .int .i64 0, .int .i64 0] 41)).drew) W) : W.heap[X.heap.size]? = some z4 := by
  have := h.block X.heap.size (by show X.heap.size < (X.heap.push _).size; simp)
  rw [this]
  exact heap_alloc_new X _
end Go.Proofs.YtimlomobbnnehaaDoor

