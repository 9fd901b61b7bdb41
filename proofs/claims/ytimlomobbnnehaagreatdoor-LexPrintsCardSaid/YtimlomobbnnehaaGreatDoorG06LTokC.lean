import Derived.Test.YtimlomobbnnehaaGreatDoorLOpen
import Derived.Laws.Tables
import Derived.Maps.OwnOps
import Derived.Maps.OwnSet
import Derived.Maps.Views
import Derived.Maps.AppendAt
import Derived.Deep.AppendLies
import Derived.Deep.RegionHeld3
import Derived.Deep.RegionHeldLaw
namespace Go.Proofs.YtimlomobbnnehaaGreatDoor
open Go.RowKit Go.Maps
set_option linter.unusedVariables false
set_option linter.unusedSimpArgs false
def tc (x : Tok × Nat) : List Value := [.int .i64 x.1.kind, .string (ba x.1.text), .int .i64 x.1.num, .int .i64 x.2]
def tcs (ts : List (Tok × Nat)) : List Value := ts.flatMap tc
theorem tcs_len (ts : List (Tok × Nat)) : (tcs ts).length = 4 * ts.length := by
  induction ts with
  | nil => rfl
  | cons x ts ih => simp [tcs, tc] at ih ⊢; omega
theorem tcs_app (ts us : List (Tok × Nat)) : tcs (ts ++ us) = tcs ts ++ tcs us := by simp [tcs]
def stopT : Tok := ⟨18, [], 0⟩
/-- what Tokens answers: the tokens, the error's number and place -/
def LexR (l : Bs) (ts : List (Tok × Nat)) (c a : Nat) : Prop :=
  (4096 < l.length ∧ ts = [] ∧ c = 73 ∧ a = 4096) ∨ (l.length ≤ 4096 ∧ ∃ us er, Lx 0 l us er ∧ ((er = none ∧ ts = us ++ [(stopT, l.length)] ∧ c = 0 ∧ a = 0) ∨ (∃ p, er = some p ∧ ts = [] ∧ c = 70 ∧ a = p)))
theorem LexR.unique {l : Bs} {ts ts' : List (Tok × Nat)} {c a c' a' : Nat} (h : LexR l ts c a) (h' : LexR l ts' c' a') : ts' = ts ∧ c' = c ∧ a' = a := by
  rcases h with ⟨h1, rfl, rfl, rfl⟩ | ⟨h1, us, er, hx, hr⟩
  · rcases h' with ⟨_, rfl, rfl, rfl⟩ | ⟨h2, _⟩
    · exact ⟨rfl, rfl, rfl⟩
    · omega
  · rcases h' with ⟨h2, _⟩ | ⟨h2, us', er', hx', hr'⟩
    · omega
    · obtain ⟨rfl, rfl⟩ := hx.unique hx'
      rcases hr with ⟨rfl, rfl, rfl, rfl⟩ | ⟨p, rfl, rfl, rfl, rfl⟩
      · rcases hr' with ⟨_, rfl, rfl, rfl⟩ | ⟨p, h, _⟩
        · exact ⟨rfl, rfl, rfl⟩
        · cases h
      · rcases hr' with ⟨h, _⟩ | ⟨p', h, rfl, rfl, rfl⟩
        · cases h
        · cases h; exact ⟨rfl, rfl, rfl⟩
structure TL (w : World) (s : ByteArray) (acc : List (Tok × Nat)) (at' : Nat) (v : Value) (W : World) : Prop where
  res : W.heap[w.heap.size]? = some (.cells #[.int .i64 0, .int .i64 0] 38 (0, 0))
  tab : W.heap[w.heap.size + 2]? = some (.cells openA 58 (0, 0))
  own : W.ownsRow (w.heap.size + 3) 28 4 v acc.length (tcs acc)
  bl : Bl w W
  lx : ∀ ts e, Lx at' ((lst s).drop at') ts e → Lx 0 (lst s) (acc ++ ts) e
  le : at' ≤ s.size
  al : acc.length ≤ at'
theorem cutQ_none {l : Bs} (h : (cutQ l).2.2.2 = 0) : cut l = none := by
  unfold cutQ at h
  split at h
  · assumption
  · rename_i n hc; have := (cut_n hc).1; simp at h; omega
  · rename_i t n hc; have := (cut_n hc).1; simp at h; omega
theorem cutQ_some {l : Bs} (h : (cutQ l).2.2.2 ≠ 0) : (∃ n, cut l = some (none, n) ∧ cutQ l = (0, [], 0, n)) ∨ ∃ t n, cut l = some (some t, n) ∧ cutQ l = (t.kind, t.text, t.num, n) := by
  unfold cutQ at *
  split at h
  · exact absurd rfl h
  · rename_i n hc; left; exact ⟨n, hc, rfl⟩
  · rename_i t n hc; right; exact ⟨t, n, hc, rfl⟩
theorem cut_passed {l : Bs} {x : Option Tok} {n : Nat} (h : cut l = some (x, n)) : (isB (hd l) = true ∨ hd l = 34) ↔ x = none := by
  unfold cut at h
  split at h
  · cases h
  · rename_i c r
    show isB c.toNat = true ∨ c.toNat = 34 ↔ _
    split at h
    · rename_i hb; simp at h; simp [← h.1, hb]
    rename_i hb
    split at h
    · rename_i hq
      obtain ⟨y, hy, e⟩ := Option.map_eq_some_iff.1 h
      simp at e
      simp [← e.1, hq]
    rename_i hq
    have hno : ¬ (isB c.toNat = true ∨ c.toNat = 34) := by rintro (h1 | h1); exact hb h1; exact hq h1
    have : x ≠ none := by
      rintro rfl
      repeat' split at h
      all_goals (simp [mk] at h; done)
    exact ⟨fun h => absurd h hno, fun h => absurd h this⟩
theorem txt_len : ∀ (k : Nat) (l : Bs) (x : Bs × Nat), l.length ≤ k → txt l = some x → x.1.length ≤ l.length := by
  intro k
  induction k with
  | zero => intro l x hk h; have : l = [] := List.length_eq_zero_iff.1 (by omega); subst this; simp [txt] at h
  | succ k ih =>
    intro l x hk h
    cases l with
    | nil => simp [txt] at h
    | cons c l =>
      by_cases hc : c.toNat = 39
      · cases l with
        | nil => rw [txt_end hc (by simp [hd])] at h; cases h; simp
        | cons d r =>
          by_cases hd' : d.toNat = 39
          · rw [txt_two c d r hc hd'] at h
            obtain ⟨y, hy, rfl⟩ := Option.map_eq_some_iff.1 h
            have := ih r y (by simp at hk; omega) hy
            simp; omega
          · rw [txt_end hc (by exact hd')] at h; cases h; simp
      · rw [txt_one hc] at h
        obtain ⟨y, hy, rfl⟩ := Option.map_eq_some_iff.1 h
        have := ih l y (by simp at hk; omega) hy
        simp; omega
theorem cutQ_bound (l : Bs) : (cutQ l).2.1.length ≤ l.length ∧ (cutQ l).2.2.2 ≤ l.length := by
  unfold cutQ
  split
  · simp
  · rename_i n hc; have := (cut_n hc).2; simp; omega
  · rename_i t n hc
    refine ⟨?_, (cut_n hc).2⟩
    show t.text.length ≤ l.length
    unfold cut at hc
    split at hc
    · cases hc
    · rename_i c r
      repeat' split at hc
      all_goals first
        | (simp [mk] at hc; done)
        | (simp only [mk, Option.some.injEq, Prod.mk.injEq] at hc; obtain ⟨rfl, _⟩ := hc; simp [List.length_take]; omega)
        | (simp only [mk, Option.some.injEq, Prod.mk.injEq] at hc; obtain ⟨rfl, _⟩ := hc; simp)
        | (obtain ⟨y, hy, e⟩ := Option.map_eq_some_iff.1 hc; simp at e; done)
        | (obtain ⟨y, hy, e⟩ := Option.map_eq_some_iff.1 hc; simp only [Prod.mk.injEq, Option.some.injEq] at e; obtain ⟨rfl, _⟩ := e; have := txt_len _ _ _ (Nat.le_refl _) hy; simp; omega)
theorem resD {X W : World} (h : Bl ((X.alloc (.cells #[.int .i64 0, .string ⟨#[]⟩, .int .i64 0, .int .i64 0] 28)).drew) W) : W.heap[X.heap.size]? = some z4 := by
  have := h.block X.heap.size (by show X.heap.size < (X.heap.push _).size; simp)
  rw [this]
  exact heap_alloc_new X _
end Go.Proofs.YtimlomobbnnehaaGreatDoor

namespace Go.Proofs.YtimlomobbnnehaaGreatDoor
open Go.RowKit Go.Maps
set_option linter.unusedVariables false
set_option linter.unusedSimpArgs false
theorem info30 : (Tryz.prog.info? 28).map (fun i => (i.zero, i.size, i.bytes)) = some (some (.agg #[.int .i64 0, .string ⟨#[]⟩, .int .i64 0, .int .i64 0]), 4, 40) := by kernel_rfl
theorem heap3 (w : World) (A B C : Obj) : (((w.alloc A).alloc B).alloc C).heap[w.heap.size + 1 + 1]? = some C := by
  have h := heap_alloc_new ((w.alloc A).alloc B) C
  have e : ((w.alloc A).alloc B).heap.size = w.heap.size + 1 + 1 := by
    show ((w.heap.push A).push B).size = _
    simp
  rw [e] at h
  exact h
theorem TL.keep {w W V : World} {s : ByteArray} {acc : List (Tok × Nat)} {a : Nat} {v : Value} (h : TL w s acc a v W) (b : Bl W V) : TL w s acc a v V where
  res := (b.block _ (lt_of_heap h.res)).trans h.res
  tab := (b.block _ (lt_of_heap h.tab)).trans h.tab
  own := by
    refine ⟨h.own.1, ?_⟩
    rcases h.own.2 with h2 | ⟨g, cap, cur, h1, h2, h3, h4⟩
    · exact Or.inl h2
    · exact Or.inr ⟨g, cap, cur, h1, h2, (b.block _ (lt_of_heap h3)).trans h3, h4⟩
  bl := h.bl.trans b
  lx := h.lx
  le := h.le
  al := h.al
theorem Clone_ok (s : ByteArray) (w : World) (h : s.size ≤ 140737488355328) : Calls Tryz.prog 24 #[.string s] w fun e w' => e = .returned (.string s) ∧ Bl w w' := by
  go_enter Tryz.func24, Tryz.ntmps24
  go_wp2_with (go_at_call 49; refine (Tryz.stringslite_Clone s _ (by omega)).mono ?_; rintro e w1 ⟨rfl, b1⟩)
  go_ret
  exact ⟨rfl, b1⟩
theorem resD2 {X W : World} {o : Obj} (h : Bl (((X.alloc o).alloc (.cells #[.int .i64 0, .string ⟨#[]⟩, .int .i64 0, .int .i64 0] 28)).drew) W) : W.heap[X.heap.size + 1]? = some z4 := by
  have := resD h
  rwa [show (X.alloc o).heap.size = X.heap.size + 1 from by show (X.heap.push o).size = _; simp] at this
theorem own_block {w : World} {base : Nat} {v : Value} {n : Nat} {xs : List Value} (h : w.ownsRow base 28 4 v n xs) {g : Nat} (hg : v.ownBlock = some g) : base ≤ g ∧ g < w.heap.size := by
  rcases h.2 with ⟨rfl, _⟩ | ⟨g', cap, cur, rfl, h1, h2, _⟩
  · cases hg
  · have e : g' = g := by simpa [Value.ownBlock] using hg
    subst e
    exact ⟨h1, lt_of_heap h2⟩
theorem TL.append {w X w5 : World} {s : ByteArray} {acc : List (Tok × Nat)} {a a' : Nat} {v v' : Value} {x : Tok × Nat} (h : TL w s acc a v X) (hg : X.grownBy w5 v.ownBlock)
    (ho : w5.ownsRow (w.heap.size + 3) 28 4 v' (acc.length + 1) (tcs acc ++ tc x)) (hlx : ∀ ts e, Lx a' ((lst s).drop a') ts e → Lx 0 (lst s) ((acc ++ [x]) ++ ts) e) (hle : a' ≤ s.size) (hal : a < a') : TL w s (acc ++ [x]) a' v' w5 where
  res := (hg.block _ (lt_of_heap h.res) (fun e => by have := (own_block h.own e.symm).1; omega)).trans h.res
  tab := (hg.block _ (lt_of_heap h.tab) (fun e => by have := (own_block h.own e.symm).1; omega)).trans h.tab
  own := by
    rw [tcs_app]
    have e : tcs [x] = tc x := by simp [tcs]
    rw [e, List.length_append]
    exact ho
  bl := ⟨hg.os.trans h.bl.os, hg.tape.trans h.bl.tape, hg.output.trans h.bl.output, Nat.le_trans h.bl.size hg.size, fun k hk => by
    rw [hg.block k (Nat.lt_of_lt_of_le hk h.bl.size) (fun e => by have := (own_block h.own e.symm).1; omega)]
    exact h.bl.block k hk⟩
  lx := hlx
  le := hle
  al := by have := h.al; simp; omega
structure TE (w : World) (acc : List (Tok × Nat)) (v : Value) (W : World) : Prop where
  res : W.heap[w.heap.size]? = some (.cells #[.int .i64 0, .int .i64 0] 38 (0, 0))
  own : W.ownsRow (w.heap.size + 3) 28 4 v acc.length (tcs acc)
  bl : Bl w W
theorem TE.append {w X w5 : World} {s : ByteArray} {acc : List (Tok × Nat)} {a : Nat} {v v' : Value} {x : Tok × Nat} (h : TL w s acc a v X) (hg : X.grownBy w5 v.ownBlock)
    (ho : w5.ownsRow (w.heap.size + 3) 28 4 v' (acc.length + 1) (tcs acc ++ tc x)) : TE w (acc ++ [x]) v' w5 where
  res := (hg.block _ (lt_of_heap h.res) (fun e => by have := (own_block h.own e.symm).1; omega)).trans h.res
  own := by
    rw [tcs_app]
    have e : tcs [x] = tc x := by simp [tcs]
    rw [e, List.length_append]
    exact ho
  bl := ⟨hg.os.trans h.bl.os, hg.tape.trans h.bl.tape, hg.output.trans h.bl.output, Nat.le_trans h.bl.size hg.size, fun k hk => by
    rw [hg.block k (Nat.lt_of_lt_of_le hk h.bl.size) (fun e => by have := (own_block h.own e.symm).1; omega)]
    exact h.bl.block k hk⟩
theorem TL.next {w W V : World} {s : ByteArray} {acc : List (Tok × Nat)} {a a' : Nat} {v : Value} (h : TL w s acc a v W) (b : Bl W V) (hlx : ∀ ts e, Lx a' ((lst s).drop a') ts e → Lx 0 (lst s) (acc ++ ts) e) (hle : a' ≤ s.size) (hal : a ≤ a') : TL w s acc a' v V :=
  { h.keep b with lx := hlx, le := hle, al := by have := h.al; omega }
theorem TL.start (w : World) (s : ByteArray) (A B : Obj) (hA : A = .cells #[.int .i64 0, .int .i64 0] 38 (0, 0)) (C : Array Value) : TL w s [] 0 (.slice none 0 0) ((((w.alloc A).alloc B).alloc (.cells C 58)).setRow (w.heap.size + 1 + 1) openA) where
  res := by
    rw [setRow_other _ _ _ _ (by omega), Below.heap_alloc _ _ _ (by show w.heap.size < ((w.heap.push A).push B).size; simp; omega), Below.heap_alloc _ _ _ (by show w.heap.size < (w.heap.push A).size; simp), heap_alloc_new, hA]
  tab := setRow_heap _ _ C _ 58 (0, 0) (heap3 w A B _)
  own := ⟨rfl, Or.inl ⟨rfl, rfl⟩⟩
  bl := Below.trans ((Bl.alloc2 w A B).trans (Bl.alloc _ _)) ⟨rfl, rfl, rfl, by simp, fun k hk => setRow_other _ _ _ _ (by omega)⟩
  lx := fun ts e h => by simpa using h
  le := Nat.zero_le _
  al := Nat.le_refl _
theorem size_set (w : World) (a : Addr) (v : Value) : (w.setCell a v).heap.size = w.heap.size := by simp
theorem ownR_congr {w w' : World} {base b2 : Nat} {v : Value} {n : Nat} {xs : List Value} (h : w.ownsRow base 28 4 v n xs) (hb : ∀ g, v.ownBlock = some g → w'.heap[g]? = w.heap[g]?) (hle : b2 ≤ base) : w'.ownsRow b2 28 4 v n xs := by
  refine ⟨h.1, ?_⟩
  rcases h.2 with h2 | ⟨g, cap, cur, rfl, h1, h2, h3⟩
  · exact Or.inl h2
  · exact Or.inr ⟨g, cap, cur, rfl, by omega, (hb g rfl).trans h2, h3⟩
theorem ret26 {w V : World} {tm : Array Value} {ts : List (Tok × Nat)} {l : Bs} {v : Value} {c a : Nat} (hr : V.heap[w.heap.size]? = some (.cells #[.int .i64 c, .int .i64 a] 38 (0, 0)))
    (h2 : tm.getD 2 undef = v) (h3 : tm.getD 3 undef = .pointer (some ⟨w.heap.size, 0, none⟩)) (hl : LexR l ts c a) (ho : V.ownsRow w.heap.size 28 4 v ts.length (tcs ts)) (hb : Bl w V) :
    bodyPost Tryz.prog Tryz.f13 (fun e w' => ∃ v ts c a, e = .returned (.tuple #[v, .agg #[.int .i64 (c : Nat), .int .i64 (a : Nat)]]) ∧ LexR l ts c a ∧ w'.ownsRow w.heap.size 28 4 v ts.length (tcs ts) ∧ Bl w w') .ret ⟨tm, []⟩ V := by
  have x0 : V.cell? ⟨w.heap.size, 0, none⟩ = some (.int .i64 c) := by rw [cell_in hr]; rfl
  have x1 : V.cell? ⟨w.heap.size, 1, none⟩ = some (.int .i64 a) := by rw [cell_in hr]; rfl
  have h2' : tm[2]?.getD undef = v := by simpa using h2
  have h3' : tm[3]?.getD undef = .pointer (some ⟨w.heap.size, 0, none⟩) := by simpa using h3
  refine bodyPost_ret (v := .tuple #[v, .agg #[.int .i64 (c : Nat), .int .i64 (a : Nat)]]) (by simp [results, Tryz.results13, go_sem, h2, h3, h2', h3', x0, x1]) rfl ⟨v, ts, c, a, rfl, hl, ho, hb⟩
def openT (x : Q4) : Value := .tuple #[.agg #[.int .i64 x.1, .string (ba x.2.1), .int .i64 x.2.2.1, .int .i64 0], .int .i64 x.2.2.2]
structure Pick (l : Bs) (K F : Nat) (P : Bool) : Prop where
  kind : kindN (hd l) = K
  lt : K < 9
  fn : openA[2 * K]? = some (.func (.func F) #[] #[])
  ps : openA[2 * K + 1]? = some (.bool P)
  ent : ∀ args w, (callFunc F args).run Tryz.prog w = .ok (.enter F args) w
  call : ∀ (s : ByteArray) V, s.size ≤ 4096 → Tab V → lst s = l → Calls Tryz.prog F #[.string s] V fun e w' => e = .returned (openT (cutQ l)) ∧ Bl V w'
  pass : P = true ↔ (isB (hd l) = true ∨ hd l = 34)
theorem pick (l : Bs) (h : hd l < 256) : ∃ K F P, Pick l K F P := by
  have hk : ∀ n, n < 256 → (kindN n = 1 ↔ isB n = true) ∧ (kindN n = 2 ↔ n = 34) ∧ (kindN n = 3 → isL n = true) ∧ (kindN n = 4 → isD n = true) ∧ (kindN n = 5 → n = 35) ∧ (kindN n = 6 → isO n = true) ∧ (kindN n = 7 → n = 39) ∧ kindN n < 9 := by decide +kernel
  obtain ⟨k1, k2, k3, k4, k5, k6, k7, k8⟩ := hk _ h
  have np : kindN (hd l) ≠ 1 → kindN (hd l) ≠ 2 → (false = true ↔ (isB (hd l) = true ∨ hd l = 34)) := fun h1 h2 => ⟨fun h => (by cases h), fun h => by rcases h with h | h; exact absurd (k1.2 h) h1; exact absurd (k2.2 h) h2⟩
  have hcase : kindN (hd l) = 0 ∨ kindN (hd l) = 1 ∨ kindN (hd l) = 2 ∨ kindN (hd l) = 3 ∨ kindN (hd l) = 4 ∨ kindN (hd l) = 5 ∨ kindN (hd l) = 6 ∨ kindN (hd l) = 7 ∨ kindN (hd l) = 8 := by omega
  rcases hcase with c | c | c | c | c | c | c | c | c
  · exact ⟨0, 37, false, c, by omega, rfl, rfl, enters_of Tryz.func37 (by kernel_rfl) rfl, fun s V hs hT hl => (by rw [cutQ_other c]; exact cutNothing_ok s V), np (by omega) (by omega)⟩
  · exact ⟨1, 38, true, c, by omega, rfl, rfl, enters_of Tryz.func38 (by kernel_rfl) rfl, fun s V hs hT hl => (by rw [cutQ_blank (k1.1 c)]; exact cutBlank_ok s V), ⟨fun _ => Or.inl (k1.1 c), fun _ => rfl⟩⟩
  · exact ⟨2, 39, true, c, by omega, rfl, rfl, enters_of Tryz.func39 (by kernel_rfl) rfl, fun s V hs hT hl => (by subst hl; exact cutComment_ok s V (by omega) (k2.1 c)), ⟨fun _ => Or.inr (k2.1 c), fun _ => rfl⟩⟩
  · exact ⟨3, 40, false, c, by omega, rfl, rfl, enters_of Tryz.func40 (by kernel_rfl) rfl, fun s V hs hT hl => (by subst hl; exact cutWord_ok s V (by omega) (k3 c)), np (by omega) (by omega)⟩
  · exact ⟨4, 41, false, c, by omega, rfl, rfl, enters_of Tryz.func41 (by kernel_rfl) rfl, fun s V hs hT hl => (by subst hl; exact cutInt_ok s V (by omega) (k4 c)), np (by omega) (by omega)⟩
  · exact ⟨5, 42, false, c, by omega, rfl, rfl, enters_of Tryz.func42 (by kernel_rfl) rfl, fun s V hs hT hl => (by subst hl; exact cutHash_ok s V hT (by omega) (k5 c)), np (by omega) (by omega)⟩
  · exact ⟨6, 43, false, c, by omega, rfl, rfl, enters_of Tryz.func43 (by kernel_rfl) rfl, fun s V hs hT hl => (by subst hl; exact cutBinary_ok s V (by omega) (k6 c)), np (by omega) (by omega)⟩
  · exact ⟨7, 44, false, c, by omega, rfl, rfl, enters_of Tryz.func44 (by kernel_rfl) rfl, fun s V hs hT hl => (by subst hl; exact cutText_ok s V hT hs (k7 c)), np (by omega) (by omega)⟩
  · refine ⟨8, 45, false, c, by omega, rfl, rfl, enters_of Tryz.func45 (by kernel_rfl) rfl, fun s V hs hT hl => ?_, np (by omega) (by omega)⟩
    have e : cutQ l = markF marksL l := by
      have K : ∀ n, n < 256 → kindN n = 8 → n ≠ 35 ∧ markK n ≠ 0 := by decide +kernel
      obtain ⟨g1, g2⟩ := K _ h c
      rw [cutQ_mark c, markF_is, if_neg (show ¬ (hd l = 35 ∧ hd (l.drop 1) = 40) from fun h => g1 h.1), if_neg g2]
    rw [e]
    subst hl
    exact cutMark_ok s V hT
end Go.Proofs.YtimlomobbnnehaaGreatDoor

