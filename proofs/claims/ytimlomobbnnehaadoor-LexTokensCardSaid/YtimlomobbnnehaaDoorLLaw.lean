import Derived.Test.YtimlomobbnnehaaDoorLKnown
namespace Go.Proofs.YtimlomobbnnehaaDoor
open Go.RowKit Go.Maps
set_option linter.unusedVariables false
set_option linter.unusedSimpArgs false
theorem LexR.total (l : Bs) : ∃ ts c a, LexR l ts c a ∧ (c = 0 ∨ (ts = [] ∧ c ≠ 0)) := by
  by_cases h : 4096 < l.length
  · exact ⟨[], 73, 4096, Or.inl ⟨h, rfl, rfl, rfl⟩, Or.inr ⟨rfl, by omega⟩⟩
  · obtain ⟨us, er, hx⟩ := Lx.total l.length 0 l (Nat.le_refl _)
    cases er with
    | none => exact ⟨_, 0, 0, Or.inr ⟨by omega, us, none, hx, Or.inl ⟨rfl, rfl, rfl, rfl⟩⟩, Or.inl rfl⟩
    | some p => exact ⟨[], 70, p, Or.inr ⟨by omega, us, some p, hx, Or.inr ⟨p, rfl, rfl, rfl, rfl⟩⟩, Or.inr ⟨rfl, by omega⟩⟩
theorem LexR.good {l : Bs} {ts : List (Tok × Nat)} {a : Nat} (h : LexR l ts 0 a) : a = 0 ∧ l.length ≤ 4096 ∧ ∃ us, Lx 0 l us none ∧ ts = us ++ [(stopT, l.length)] := by
  rcases h with ⟨_, _, h, _⟩ | ⟨h1, us, er, hx, h⟩
  · cases h
  · rcases h with ⟨rfl, h2, _, h3⟩ | ⟨p, _, _, h4, _⟩
    · exact ⟨h3, h1, us, hx, h2⟩
    · cases h4
theorem LexR.mk {l : Bs} {us : List (Tok × Nat)} (h1 : l.length ≤ 4096) (h : Lx 0 l us none) : LexR l (us ++ [(stopT, l.length)]) 0 0 := Or.inr ⟨h1, us, none, h, Or.inl ⟨rfl, rfl, rfl, rfl⟩⟩
theorem tokens_v {s : ByteArray} {ts : List (Tok × Nat)} {c a : Nat} (hl : LexR (lst s) ts c a) (hs : s.size ≤ 140737488355328) (w : World) (hT : Tab w) : Calls Tryd.prog 5 #[.string s] w fun e w' =>
    ∃ p cap, e = .returned (.tuple #[.slice p ts.length cap, .agg #[.int .i64 c, .int .i64 a]]) ∧ RdT w' (.slice p ts.length cap) ts ∧ (0 < ts.length → ∃ g, p = some ⟨g, 0, none⟩) ∧ ts.length ≤ cap ∧ cap ≤ maxLen ∧ Bl w w' := by
  refine (tokens_is hl hs w hT).mono ?_
  rintro e w' ⟨v, rfl, ho, hb⟩
  have hr := RdT.own ho
  rcases ho.2 with ⟨rfl, h2⟩ | ⟨g, cap, cur, rfl, h1, h2, h3, h4, h5, h6⟩
  · exact ⟨none, 0, by rw [h2], by rw [h2]; exact hr, fun h => by omega, by omega, by unfold maxLen; omega, hb⟩
  · exact ⟨_, cap, rfl, hr, fun _ => ⟨g, rfl⟩, h3, h4, hb⟩
theorem wrap_id (n : Int) (h0 : -9223372036854775808 ≤ n) (h1 : n < 9223372036854775808) : IntKind.i64.wrap n = n := by rw [IntKind.wrap_i64]; omega
theorem blk2 {X W : World} {o : Obj} (b : Bl (X.alloc o) W) : W.heap[X.heap.size]? = some o := blk_in b
theorem RdT.cells {w : World} {g n cap : Nat} {ts : List (Tok × Nat)} (h : RdT w (.slice (some ⟨g, 0, none⟩) n cap) ts) : ∀ j, j < ts.length →
    w.cell? ⟨g, j * 4, none⟩ = some (.int .i64 (ts.getD j noT).1.kind) ∧ w.cell? ⟨g, j * 4 + 1, none⟩ = some (.string (ba (ts.getD j noT).1.text)) ∧
    w.cell? ⟨g, j * 4 + 2, none⟩ = some (.int .i64 (ts.getD j noT).1.num) ∧ w.cell? ⟨g, j * 4 + 3, none⟩ = some (.int .i64 (ts.getD j noT).2) := by
  intro j hj
  obtain ⟨p, c, e, hp⟩ := h.at_
  injection e with e1 e2 e3
  obtain ⟨b, off, e4, hb, hc⟩ := hp (by omega)
  subst e1
  injection e4 with e4
  injection e4 with e5 e6
  subst e5 e6
  have := hc j hj
  rw [Nat.zero_add] at this
  exact this
theorem Lx.blank {p : Nat} {l : Bs} {ts : List (Tok × Nat)} {e : Option Nat} (h : Lx (p + 1) l ts e) : Lx p (32 :: l) ts e := .pass _ _ 1 _ _ rfl h
/-- two sources with a blank between them -/
theorem LexR.joined {l m : Bs} {us vs : List (Tok × Nat)} (hl : Lx 0 l us none) (hm : Lx 0 m vs none) : Lx 0 (l ++ 32 :: m) (us ++ Lx.sh (l.length + 1) vs) none := by
  refine Lx.join (Or.inr (Or.inl rfl)) hl rfl ?_
  rw [Nat.zero_add]
  refine Lx.blank ?_
  have := hm.shift (l.length + 1)
  rw [Nat.zero_add] at this
  exact this
theorem append_lst (a b : ByteArray) : lst (a ++ b) = lst a ++ lst b := by
  unfold lst
  simp
end Go.Proofs.YtimlomobbnnehaaDoor

