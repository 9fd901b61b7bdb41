import Derived.Test.YtklfnjlenbgmoaaDoorAHSlid
namespace Go.Proofs.YtklfnjlenbgmoaaDoor
open Go.RowKit
set_option linter.unusedVariables false
attribute [local go_sem ↓] Go.wp_at_zero Go.wp_at_succ
def newX (f : Nat) : Int := if f = 1 then 0 else 4
def thObj (cl : Int) (f E : Nat) (v : Value) : Obj := .cells #[.bool true, .int .i64 cl, .int .i64 f, .int .i64 E, v] 119 (0, 0)
/-- the thing under way: its block is B, it has k slots -/
structure Way (w wr : World) (B : Nat) (cl : Int) (f E : Nat) (k : Nat) : Prop where
  fr : Fr [] w wr
  lt : w.heap.size ≤ B
  at_ : ∃ v, wr.heap[B]? = some (thObj cl f E v) ∧ wr.ownsRow (B + 1) 33 1 v k ((List.replicate k (newX f)).map (Value.int .i64))
theorem Way.next {w wr w2 : World} {B : Nat} {cl : Int} {f E k : Nat} {v v' : Value} {o : Obj} (h : Way w wr B cl f E k) (hv : wr.heap[B]? = some (thObj cl f E v)) (hown : wr.ownsRow (B + 1) 33 1 v k ((List.replicate k (newX f)).map (Value.int .i64)))
    (hg : (wr.alloc o).grownBy w2 v.ownBlock) (ho : w2.ownsRow (B + 1) 33 1 v' (k + 1) ((List.replicate k (newX f)).map (Value.int .i64) ++ [.int .i64 (newX f)])) : Way w (w2.setCell ⟨B, 4, none⟩ v') B cl f E (k + 1) := by
  have hBl := lt_of_heap hv
  have hob : ∀ b, v.ownBlock = some b → B + 1 ≤ b := fun b hb => (hown.lt b hb).1
  have hB2 : w2.heap[B]? = some (thObj cl f E v) := by
    rw [hg.block B (by simp; omega) (fun e => by have := hob B e.symm; omega), Below.heap_alloc _ _ _ hBl]
    exact hv
  have F2 : Fr [B] w w2 := by
    refine ⟨hg.os.trans h.fr.os, hg.tape.trans h.fr.tape, hg.output.trans h.fr.output, Nat.le_trans h.fr.size (Nat.le_trans (by simp) hg.size), fun i hi hn => ?_⟩
    have hiB : i < wr.heap.size := Nat.lt_of_lt_of_le hi h.fr.size
    rw [hg.block i (by simp; omega) (fun e => by have := hob i e.symm; have := h.lt; omega), Below.heap_alloc _ _ _ hiB]
    exact h.fr.block i hi (by simp)
  refine ⟨(F2.trans (Fr.setCell (S := [B]) w2 ⟨B, 4, none⟩ v' (by simp)) (fun b hb => .inl hb)).mono (fun b hb => ?_), h.lt, v', ?_, ?_⟩
  · simp at hb; subst hb; exact .inr h.lt
  · unfold thObj at hB2 ⊢
    rw [set_in hB2]
    rfl
  · have : (List.replicate (k + 1) (newX f)).map (Value.int .i64) = (List.replicate k (newX f)).map (Value.int .i64) ++ [.int .i64 (newX f)] := by
      rw [List.replicate_succ', List.map_append]; rfl
    rw [this]
    exact own_congr ho fun b hb => set_else (by have := (ho.lt b hb).1; omega)
end Go.Proofs.YtklfnjlenbgmoaaDoor
namespace Go.Proofs.YtklfnjlenbgmoaaDoor
open Go.RowKit
set_option linter.unusedVariables false
attribute [local go_sem ↓] Go.wp_at_zero Go.wp_at_succ
def putTh (S : List Th) (k : Nat) (t : Th) : List Th := if k < S.length then S.set k t else S ++ [t]
/-- one thing is new, the others are as they were -/
theorem MRep.renew {w w2 : World} {m : Nat} {M : MS} (h : MRep w m M) (S : List Th) (pt : Option Addr) (ct : Nat) (t : Th) (k : Nat) (hk : k < S.length)
    (hat : ∀ i, i < S.length → S.getD i noTh = if i = k then t else M.things.getD i noTh) (hlen : ∀ i, i < S.length → i ≠ k → i < M.things.length)
    (htop : w2.heap[m]? = some (.cells (mcells { M with things := S, pt := pt, ct := ct }) 55 (0, 0)))
    (hrow : w2.ownsRow 0 119 5 (.slice pt S.length ct) S.length (thCells S)) (hkeep : ∀ g ∈ mslots M, w2.heap[g]? = w.heap[g]?)
    (hnew : w2.ownsRow 0 33 1 (.slice t.p t.slots.length t.c) t.slots.length (t.slots.map (Value.int .i64))) (hap : ∀ g ∈ blk t.p, g ∉ mslots M) :
    MRep w2 m { M with things := S, pt := pt, ct := ct } := by
  refine ⟨htop, hrow, ?_, ?_⟩
  · intro u hu
    obtain ⟨i, hi, hiu⟩ := List.getElem_of_mem hu
    have e : S.getD i noTh = u := by rw [List.getD_eq_getElem?_getD, List.getElem?_eq_getElem hi, hiu]; rfl
    rw [hat i hi] at e
    split at e
    · rw [← e]; exact hnew
    · rename_i hik
      have hm := getD_mem M.things i (hlen i hi hik)
      rw [e] at hm
      exact own_congr (h.slots u hm) fun b hb => hkeep b (mslots_mem hm ((blk_own _ _ _ _).1 hb))
  · intro i j hi hj hij g hg
    dsimp only at hi hj hg ⊢
    rw [hat i hi] at hg
    rw [hat j hj]
    by_cases hik : i = k
    · rw [if_pos hik] at hg
      rw [if_neg (by omega)]
      exact fun hb => hap g hg (mslots_mem (getD_mem M.things j (hlen j hj (by omega))) hb)
    · rw [if_neg hik] at hg
      have hmi := mslots_mem (getD_mem M.things i (hlen i hi hik)) hg
      by_cases hjk : j = k
      · rw [if_pos hjk]; exact fun hb => hap g hb hmi
      · rw [if_neg hjk]; exact h.apart i j (hlen i hi hik) (hlen j hj hjk) hij g hg
theorem putTh_at (S : List Th) (k : Nat) (t : Th) (hk : k ≤ S.length) : ∀ i, i < (putTh S k t).length → (putTh S k t).getD i noTh = if i = k then t else S.getD i noTh := by
  intro i hi
  unfold putTh at hi ⊢
  by_cases h : k < S.length
  · rw [if_pos h] at hi ⊢
    exact getD_set S k i t h
  · rw [if_neg h] at hi ⊢
    have hke : k = S.length := by omega
    simp at hi
    by_cases e : i = k
    · rw [if_pos e, e, hke, List.getD_eq_getElem?_getD, List.getElem?_append_right (by omega)]; simp
    · rw [if_neg e, List.getD_eq_getElem?_getD, List.getD_eq_getElem?_getD, List.getElem?_append_left (by omega)]
theorem putTh_len (S : List Th) (k : Nat) (t : Th) (hk : k ≤ S.length) : k < (putTh S k t).length ∧ ∀ i, i < (putTh S k t).length → i ≠ k → i < S.length := by
  unfold putTh
  by_cases h : k < S.length
  · rw [if_pos h]; simp; exact ⟨h, fun i hi _ => hi⟩
  · rw [if_neg h]; simp; exact ⟨by omega, fun i hi hne => by omega⟩
theorem thCells_append (S : List Th) (t : Th) : thCells (S ++ [t]) = thCells S ++ th5 t := by simp [thCells, th5]
/-- a whole thing is written -/
theorem thCells_setAll (S : List Th) (k : Nat) (t : Th) (hk : k < S.length) : thCells (S.set k t) = (((((thCells S).set (k * 5) (.bool t.there)).set (k * 5 + 1) (.int .i64 t.cls)).set (k * 5 + 2) (I t.fmt)).set (k * 5 + 3) (I t.place)).set (k * 5 + 4) (.slice t.p t.slots.length t.c) := by
  apply List.ext_getElem?
  intro i
  rw [thCells_get, List.getElem?_set, List.getElem?_set, List.getElem?_set, List.getElem?_set, List.getElem?_set, List.getElem?_set]
  simp only [List.length_set, thCells_len]
  by_cases h1 : i / 5 = k
  · rw [if_pos h1.symm, if_pos (by omega)]
    simp only [Option.bind_some]
    have h5 : i = k * 5 ∨ i = k * 5 + 1 ∨ i = k * 5 + 2 ∨ i = k * 5 + 3 ∨ i = k * 5 + 4 := by omega
    rcases h5 with e | e | e | e | e
    · rw [if_neg (by omega), if_neg (by omega), if_neg (by omega), if_neg (by omega), if_pos (by omega), if_pos (by omega), show i % 5 = 0 from by omega]; rfl
    · rw [if_neg (by omega), if_neg (by omega), if_neg (by omega), if_pos (by omega), if_pos (by omega), show i % 5 = 1 from by omega]; rfl
    · rw [if_neg (by omega), if_neg (by omega), if_pos (by omega), if_pos (by omega), show i % 5 = 2 from by omega]; rfl
    · rw [if_neg (by omega), if_pos (by omega), if_pos (by omega), show i % 5 = 3 from by omega]; rfl
    · rw [if_pos (by omega), if_pos (by omega), show i % 5 = 4 from by omega]; rfl
  · rw [if_neg (fun e => h1 e.symm), if_neg (by omega), if_neg (by omega), if_neg (by omega), if_neg (by omega), if_neg (by omega), thCells_get]
end Go.Proofs.YtklfnjlenbgmoaaDoor
namespace Go.Proofs.YtklfnjlenbgmoaaDoor
open Go.RowKit
set_option linter.unusedVariables false
attribute [local go_sem ↓] Go.wp_at_zero Go.wp_at_succ
def setTh (w : World) (g q : Nat) (t : Th) : World :=
  ((((w.setCell ⟨g, q * 5, none⟩ (.bool t.there)).setCell ⟨g, q * 5 + 1, none⟩ (.int .i64 t.cls)).setCell ⟨g, q * 5 + 2, none⟩ (.int .i64 t.fmt)).setCell ⟨g, q * 5 + 3, none⟩ (.int .i64 t.place)).setCell ⟨g, q * 5 + 4, none⟩ (.slice t.p t.slots.length t.c)
theorem setTh_else {w : World} {g q : Nat} {t : Th} {i : Nat} (h : i ≠ g) : (setTh w g q t).heap[i]? = w.heap[i]? := by
  unfold setTh
  rw [set_else h, set_else h, set_else h, set_else h, set_else h]
theorem setTh_fr (w : World) (g q : Nat) (t : Th) (S : List Nat) (h : g ∈ S) : Fr S w (setTh w g q t) := by
  unfold setTh
  exact ((((Fr.setCell w _ _ h).trans (Fr.setCell (S := S) _ _ _ h) (fun b hb => .inl hb)).trans (Fr.setCell (S := S) _ _ _ h) (fun b hb => .inl hb)).trans (Fr.setCell (S := S) _ _ _ h) (fun b hb => .inl hb)).trans (Fr.setCell (S := S) _ _ _ h) (fun b hb => .inl hb)
theorem setTh_row {w : World} {S : List Th} {g c q : Nat} {t : Th} (h : w.ownsRow 0 119 5 (.slice (some ⟨g, 0, none⟩) S.length c) S.length (thCells S)) (hq : q < S.length) :
    (setTh w g q t).ownsRow 0 119 5 (.slice (some ⟨g, 0, none⟩) S.length c) S.length (thCells (S.set q t)) := by
  rw [thCells_setAll S q t hq]
  exact own_stored (own_stored (own_stored (own_stored (own_stored h _ _) _ _) _ _) _ _) _ _
theorem MRep.putAll {w : World} {m : Nat} {M : MS} {g : Nat} (h : MRep w m M) (hg : M.pt = some ⟨g, 0, none⟩) (q : Nat) (hq : q < M.things.length) (t : Th)
    (hnew : w.ownsRow 0 33 1 (.slice t.p t.slots.length t.c) t.slots.length (t.slots.map (Value.int .i64))) (hap : ∀ b ∈ blk t.p, b ∉ mslots M) :
    MRep (setTh w g q t) m { M with things := M.things.set q t } := by
  obtain ⟨n1, n2⟩ := h.pt_ne hg
  have hgt : g ∉ blk t.p := fun hb => by
    obtain ⟨c1, hc1⟩ := own_blk hnew g hb
    obtain ⟨c2, hc2⟩ := own_blk h.row g (by rw [hg]; simp [blk])
    rw [hc1] at hc2
    simp at hc2
  have hrow := h.row
  rw [hg] at hrow
  refine h.renew (M.things.set q t) M.pt M.ct t q (by simpa using hq) (fun i hi => getD_set M.things q i t hq) (fun i hi _ => by simpa using hi) ?_ ?_ (fun b hb => setTh_else (fun e => n2 (e ▸ hb))) (own_congr hnew fun b hb => setTh_else (fun e => hgt (e ▸ (blk_own _ _ _ _).1 hb))) hap
  · rw [setTh_else (fun e => n1 e.symm), h.top]
    simp [mcells]
  · rw [List.length_set, hg]
    exact setTh_row hrow hq
theorem MRep.drew {w : World} {m : Nat} {M : MS} (h : MRep w m M) : MRep w.drew m M := h.congr fun g _ => rfl
end Go.Proofs.YtklfnjlenbgmoaaDoor
