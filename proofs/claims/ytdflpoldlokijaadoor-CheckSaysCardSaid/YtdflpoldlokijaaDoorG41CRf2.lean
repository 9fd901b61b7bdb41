import Derived.Test.YtdflpoldlokijaaDoorCRf9
import Derived.Test.YtdflpoldlokijaaDoorCRfC
import Derived.Test.YtdflpoldlokijaaDoorCDep0
import Derived.Test.YtdflpoldlokijaaDoorCRf1
import Derived.Test.YtdflpoldlokijaaDoorG13CTwin
namespace Go.Proofs.YtdflpoldlokijaaDoor
open Go.RowKit
set_option linter.unusedVariables false
set_option linter.unusedSimpArgs false
theorem wrap_neg (W : Int) (h1 : -9223372036854775808 ≤ W) (h2 : W ≤ 9223372036854775807) : wrap64 (-W) = -W ∨ (W = -9223372036854775808 ∧ wrap64 (-W) = -9223372036854775808) := by
  by_cases h : W = -9223372036854775808
  · subst h; exact .inr ⟨rfl, by unfold wrap64; omega⟩
  · left
    unfold wrap64
    omega
theorem begF_le (rs : List Ri) (b : Nat) (a : Int) : ∀ i, -1 ≤ begF rs b a i := by
  induction rs with
  | nil => intro i; show -1 ≤ (-1 : Int); omega
  | cons r t ih =>
    intro i
    unfold begF
    split
    · omega
    · exact ih (i + 1)
theorem beg_iff {l : List Pl} {n : Nat} {rs : List Ri} (h : RL l n rs) (b : Nat) (a : Int) : 0 ≤ begF rs b a 0 ↔ ∃ y : Nat, a = y ∧ y < n ∧ (plD l y).body = b + 1 := by
  constructor
  · intro hh
    by_cases he : ∃ y : Nat, a = y ∧ y < n ∧ (plD l y).body = b + 1
    · exact he
    · rw [h.no a b (fun y h1 h2 h3 => he ⟨y, h1, h2, h3⟩)] at hh
      omega
  · rintro ⟨y, rfl, h2, h3⟩
    rw [h.yes y b h2 h3]
    omega
/-- the document's test of a jump is the program's -/
theorem land_doc {C : Cx} {R : Rs} (h : Good C R) (hn : C.ws.length ≤ 4096) (hrg : ∀ i, -9223372036854775808 ≤ C.w i ∧ C.w i ≤ 9223372036854775807) (x : Nat) (hx : x < R.pls.length) (hb : (plD R.pls x).body ≠ 0) :
    jOk (lsR C R.pls R.pls.length) (riOf C (plD R.pls x) x) = landP C R.pls x ∧ (landP C R.pls x = true → 4 ≤ (shp (plD R.pls x).op).kind → ∃ t, toP C (plD R.pls x) x = some t ∧ ((plD R.pls x).fin : Int) + jK (riOf C (plD R.pls x) x) = t) := by
  obtain ⟨sc, b0, e0, g1, g2, g3, g4, g5, g6⟩ := h.good x hx hb
  have hlen := h.len
  have hgt := g5.gt
  have hfe := g5.fe
  have hlo := g5.lo
  have hhi := g5.hi
  have hfin := g5.fin
  have hrl := lsR_RL C R.pls R.pls.length
  generalize hp : plD R.pls x = p at *
  have hsz : ((riOf C p x).at_ : Int) + (riOf C p x).sz = (p.fin : Int) := by show ((x : Nat) : Int) + ((p.fin - x : Nat) : Int) = _; omega
  have hbd : (riOf C p x).body + 1 = p.body := by show p.body - 1 + 1 = _; omega
  unfold jOk landP
  have hop : (riOf C p x).op = p.op := rfl
  have hat : ((riOf C p x).at_ : Int) = (x : Int) := rfl
  rw [hop, hsz, hat, hp]
  have hi := beg_iff hrl (riOf C p x).body ((p.fin : Int) + jK (riOf C p x))
  rw [hbd] at hi
  by_cases h4 : 4 ≤ (shp p.op).kind
  · have hJt : isJ p = true := by unfold isJ; simpa using h4
    rw [if_pos h4, if_pos hJt]
    have k7 := (sh_le (p.op : Int)).2.2.2.1
    have hop6 : p.op = 23 ∨ p.op = 24 ∨ p.op = 25 ∨ p.op = 27 ∨ p.op = 26 ∨ p.op = 28 := by
      have h46 : ∀ o, 1 ≤ o → o ≤ 28 → 4 ≤ (shp (o : Nat)).kind → 23 ≤ o := by
        intro o h1 h2 h3
        rcases (show o = 1 ∨ o = 2 ∨ o = 3 ∨ o = 4 ∨ o = 5 ∨ o = 6 ∨ o = 7 ∨ o = 8 ∨ o = 9 ∨ o = 10 ∨ o = 11 ∨ o = 12 ∨ o = 13 ∨ o = 14 ∨ o = 15 ∨ o = 16 ∨ o = 17 ∨ o = 18 ∨ o = 19 ∨ o = 20 ∨ o = 21 ∨ o = 22 ∨ 23 ≤ o by omega) with rfl | rfl | rfl | rfl | rfl | rfl | rfl | rfl | rfl | rfl | rfl | rfl | rfl | rfl | rfl | rfl | rfl | rfl | rfl | rfl | rfl | rfl | h
        all_goals first | exact h | exact absurd h3 (by decide)
      have := h46 p.op hlo hhi h4
      omega
    have key : ∃ W : Int, -9223372036854775808 ≤ W ∧ W ≤ 9223372036854775807 ∧ C.w (p.fin - 1) = W ∧ (((p.op = 23 ∨ p.op = 24 ∨ p.op = 25 ∨ p.op = 27) ∧ ((shp p.op).kind = 4 ∨ (shp p.op).kind = 5) ∧ jK (riOf C p x) = W) ∨ ((p.op = 26 ∨ p.op = 28) ∧ ((shp p.op).kind = 6 ∨ (shp p.op).kind = 7) ∧ jK (riOf C p x) = wrap64 (-W))) := by
      refine ⟨_, (hrg _).1, (hrg _).2, rfl, ?_⟩
      have hjk : jK (riOf C p x) = lenR p.op (C.w (x + 1)) (C.w (x + 2)) := rfl
      rw [hjk]
      rcases hop6 with e | e | e | e | e | e
      · rw [e] at hfin ⊢; exact .inl ⟨by omega, by decide, by rw [hfin]; rfl⟩
      · rw [e] at hfin ⊢; exact .inl ⟨by omega, by decide, by rw [hfin]; rfl⟩
      · rw [e] at hfin ⊢; exact .inl ⟨by omega, by decide, by rw [hfin]; rfl⟩
      · rw [e] at hfin ⊢; exact .inl ⟨by omega, by decide, by rw [hfin]; rfl⟩
      · rw [e] at hfin ⊢; exact .inr ⟨by omega, by decide, by rw [hfin]; rfl⟩
      · rw [e] at hfin ⊢; exact .inr ⟨by omega, by decide, by rw [hfin]; rfl⟩
    obtain ⟨W, W1, W2, hW, hcs⟩ := key
    generalize hK : jK (riOf C p x) = K at *
    rcases hcs with ⟨ho, hk, rfl⟩ | ⟨ho, hk, hKW⟩
    · have hto : toP C p x = if bel K ((C.ws.length : Int) - p.fin) then some (p.fin + K.toNat) else none := by unfold toP; rw [if_pos hk, hW]
      have hno : ¬(p.op = 26 ∨ p.op = 28) := by omega
      rw [hto]
      by_cases hbel : bel K ((C.ws.length : Int) - p.fin) = true
      · rw [if_pos hbel]
        unfold bel at hbel
        simp at hbel
        simp only
        have ht : ((p.fin : Int) + K) = ((p.fin + K.toNat : Nat) : Int) := by omega
        refine ⟨?_, fun _ _ => ⟨_, rfl, ht⟩⟩
        simp only [hno, if_false]
        by_cases hbb : (plD R.pls (p.fin + K.toNat)).body = p.body
        · rw [decide_eq_true hbb]
          exact decide_eq_true ⟨by omega, by omega, hi.2 ⟨p.fin + K.toNat, ht, by omega, hbb⟩, hbel.1⟩
        · rw [decide_eq_false hbb]
          refine decide_eq_false fun hh => hbb ?_
          obtain ⟨y, y1, y2, y3⟩ := hi.1 hh.2.2.1
          have : y = p.fin + K.toNat := by omega
          rw [← this]; exact y3
      · rw [if_neg hbel]
        simp only
        refine ⟨?_, fun hh => by cases hh⟩
        simp only [hno, if_false]
        refine decide_eq_false fun hh => hbel ?_
        obtain ⟨y, y1, y2, y3⟩ := hi.1 hh.2.2.1
        unfold bel
        have := hh.2.2.2
        simp
        omega
    · have hto : toP C p x = if inR W ((p.fin : Int) - x + 1) p.fin then some (p.fin - W.toNat) else none := by
        unfold toP
        rw [if_neg (by omega), if_pos hk, hW]
      rw [hto]
      by_cases hin : inR W ((p.fin : Int) - x + 1) p.fin = true
      · rw [if_pos hin]
        unfold inR at hin
        simp at hin
        simp only
        have hKe : K = -W := by rcases wrap_neg W W1 W2 with h1 | h1 <;> omega
        have ht : ((p.fin : Int) + K) = ((p.fin - W.toNat : Nat) : Int) := by omega
        refine ⟨?_, fun _ _ => ⟨_, rfl, ht⟩⟩
        simp only [ho, if_true]
        by_cases hbb : (plD R.pls (p.fin - W.toNat)).body = p.body
        · rw [decide_eq_true hbb]
          exact decide_eq_true ⟨by omega, by omega, hi.2 ⟨p.fin - W.toNat, ht, by omega, hbb⟩, by omega⟩
        · rw [decide_eq_false hbb]
          refine decide_eq_false fun hh => hbb ?_
          obtain ⟨y, y1, y2, y3⟩ := hi.1 hh.2.2.1
          have : y = p.fin - W.toNat := by omega
          rw [← this]; exact y3
      · rw [if_neg hin]
        simp only
        refine ⟨?_, fun hh => by cases hh⟩
        simp only [ho, if_true]
        refine decide_eq_false fun hh => hin ?_
        obtain ⟨y, y1, y2, y3⟩ := hi.1 hh.2.2.1
        have h9 := hh.2.2.2
        have h8 := hh.2.1
        unfold inR
        simp
        rcases wrap_neg W W1 W2 with h1 | h1 <;> omega
  · have hJf : ¬ isJ p = true := by unfold isJ; simpa using h4
    rw [if_neg h4, if_neg hJf]
    exact ⟨rfl, fun _ h => absurd h h4⟩
/-- all jumps -/
theorem land_all {C : Cx} {R : Rs} (h : Good C R) (hn : C.ws.length ≤ 4096) (hrg : ∀ i, -9223372036854775808 ≤ C.w i ∧ C.w i ≤ 9223372036854775807) :
    (lsR C R.pls R.pls.length).all (jOk (lsR C R.pls R.pls.length)) = (List.range R.pls.length).all (landP C R.pls) := by
  rw [Bool.eq_iff_iff]
  constructor
  · intro hh
    refine List.all_eq_true.2 fun x hx => ?_
    have hx' : x < R.pls.length := by simpa using hx
    by_cases hb : (plD R.pls x).body = 0
    · unfold landP
      rw [h.none x hb]
      rfl
    · rw [← (land_doc h hn hrg x hx' hb).1]
      refine List.all_eq_true.1 hh _ ?_
      exact List.mem_map.2 ⟨x, (mem_stK _ _ _).2 ⟨hx', hb⟩, rfl⟩
  · intro hh
    refine List.all_eq_true.2 fun r hr => ?_
    obtain ⟨x, hx, rfl⟩ := List.mem_map.1 hr
    obtain ⟨x1, x2⟩ := (mem_stK _ _ _).1 hx
    rw [(land_doc h hn hrg x x1 x2).1]
    exact List.all_eq_true.1 hh x (by simpa using x1)
/-- the list with its jumps -/
theorem jumped {C : Cx} {R : Rs} (h : Good C R) (hn : C.ws.length ≤ 4096) (hrg : ∀ i, -9223372036854775808 ≤ C.w i ∧ C.w i ≤ 9223372036854775807) (hland : (List.range R.pls.length).all (landP C R.pls) = true) :
    RJ (jumpN C R.pls R.pls.length) ((lsR C R.pls R.pls.length).map jSet) ∧ ∀ y, y < (jumpN C R.pls R.pls.length).length → (plD (jumpN C R.pls R.pls.length) y).body ≠ 0 → 4 ≤ (shp (plD (jumpN C R.pls R.pls.length) y).op).kind → (plD (jumpN C R.pls R.pls.length) (plD (jumpN C R.pls R.pls.length) y).to).body = (plD (jumpN C R.pls R.pls.length) y).body := by
  have hLn : (jumpN C R.pls R.pls.length).length = R.pls.length := jumpN_len ..
  have hst : stK (jumpN C R.pls R.pls.length) (jumpN C R.pls R.pls.length).length = stK R.pls R.pls.length := by
    rw [hLn]; exact stK_congr _ _ _ fun i hi => jumpN_body ..
  refine ⟨⟨by rw [hst, List.length_map, lsR_len], fun i x hx => ?_⟩, fun y hy hb h4 => ?_⟩
  · rw [hst] at hx
    obtain ⟨-, x1, x2⟩ := stK_inv _ _ _ _ hx
    obtain ⟨sc, b0, e0, g1, g2, g3, g4, g5, g6⟩ := h.good x x1 x2
    have hgt := g5.gt
    obtain ⟨e1, e2, e3, e4, e5⟩ := goto_same C (plD R.pls x) x
    refine ⟨jSet (riOf C (plD R.pls x) x), by rw [List.getElem?_map]; unfold lsR; rw [List.getElem?_map, hx]; rfl, ?_⟩
    rw [jumpN_at, e1, e2, e3, e4, e5]
    have hj : (jSet (riOf C (plD R.pls x) x)).at_ = x ∧ (jSet (riOf C (plD R.pls x) x)).sz = (plD R.pls x).fin - x ∧ (jSet (riOf C (plD R.pls x) x)).op = (plD R.pls x).op ∧ (jSet (riOf C (plD R.pls x) x)).body = (plD R.pls x).body - 1 ∧ (jSet (riOf C (plD R.pls x) x)).nx = (plD R.pls x).nxt ∧ (jSet (riOf C (plD R.pls x) x)).b = C.w (x + 2) := by
      unfold jSet
      split <;> exact ⟨rfl, rfl, rfl, rfl, rfl, rfl⟩
    obtain ⟨j1, j2, j3, j4, j5, j6⟩ := hj
    rw [j1, j2, j3, j4, j5, j6]
    refine ⟨rfl, by omega, rfl, by omega, rfl, ?_, fun hs => ?_, fun hs => g5.nos hs, g5.lo, g5.hi⟩
    · have hop : (riOf C (plD R.pls x) x).op = (plD R.pls x).op := rfl
      unfold jSet
      rw [hop]
      by_cases h4 : 4 ≤ (shp (plD R.pls x).op).kind
      · rw [if_pos h4, if_pos h4]
        obtain ⟨t, t1, t2⟩ := (land_doc h hn hrg x x1 x2).2 (List.all_eq_true.1 hland x (by simpa using x1)) h4
        rw [goto_to h4, t1]
        show ((x : Nat) : Int) + (((plD R.pls x).fin - x : Nat) : Int) + _ = _
        rw [show ((x : Nat) : Int) + (((plD R.pls x).fin - x : Nat) : Int) = ((plD R.pls x).fin : Int) by omega, t2]
        rfl
      · rw [if_neg h4, if_neg h4]
        rfl
    · have h1 := g5.snd hs
      have h2 := fit_send g5.fit hs
      have h3 : 0 ≤ C.w (x + 2) := by
        have := g5.fit
        unfold fitP inR at this
        rcases hs with e | e
        all_goals rw [e] at this
        all_goals simp at this
        all_goals omega
      rw [h1]
      omega
  · rw [hLn] at hy
    rw [jumpN_body] at hb
    rw [jumpN_body, jumpN_body, jumpN_at]
    rw [jumpN_at] at h4
    obtain ⟨e1, e2, e3, e4, e5⟩ := goto_same C (plD R.pls y) y
    rw [e1] at h4
    have := List.all_eq_true.1 hland y (by simpa using hy)
    unfold landP at this
    rw [if_pos (by unfold isJ; simpa using h4)] at this
    split at this
    · cases this
    · rename_i t ht
      rw [goto_to h4, ht]
      simpa using this
end Go.Proofs.YtdflpoldlokijaaDoor
namespace Go.Proofs.YtdflpoldlokijaaDoor
open Go.RowKit
set_option linter.unusedVariables false
set_option linter.unusedSimpArgs false
attribute [local go_sem ↓] Go.wp_at_zero Go.wp_at_succ
/-- what the document's literals come to, within an array and outside -/
def litR (top : Bool) (sym : Int) : List LitT → Nat → Int × Nat := if top then lookL sym else inL sym
def okR (top : Bool) (sym : Int) (t : LitT) : Bool := if top then objB t else elemB sym t
section
variable {w0 : World} {B x : Nat} {F : WFx}
def LitC (F : WFx) (B x : Nat) (top : Bool) (ts : List LitT) (w : World) (n : Nat) (e : Ending) (w' : World) : Prop :=
  e = .returned (.tuple #[]) ∧ Fr [x] w w' ∧ WR w' B x F [] none 0 [] none 0 (litR top F.C.b.symbols ts n).2 (litR top F.C.b.symbols ts n).1 ∧ ((litR top F.C.b.symbols ts n).1 = 0 → (litR top F.C.b.symbols ts n).2 ≤ 4096)
theorem litR_nil (top : Bool) (sym : Int) (n : Nat) : litR top sym [] n = (0, n) := by
  unfold litR
  cases top
  · simp [inL_nil]
  · simp [lookL]
theorem litR_cons (top : Bool) (sym : Int) (t : LitT) (ts : List LitT) (n : Nat) : litR top sym (t :: ts) n = if okR top sym t = false then (111, n) else if top = false ∧ 4096 < n + 1 then (73, n + 1) else
    if t.kind = 4 then (if (inL sym t.kids (if top then n else n + 1)).1 ≠ 0 then inL sym t.kids (if top then n else n + 1) else litR top sym ts (inL sym t.kids (if top then n else n + 1)).2) else litR top sym ts (if top then n else n + 1) := by
  unfold litR okR
  cases top
  · simp only [Bool.false_eq_true, if_false, true_and]
    rw [inL_cons]
    by_cases h1 : elemB sym t = false
    · rw [if_pos h1, if_pos h1]
    · rw [if_neg h1, if_neg h1]
      by_cases h2 : 4096 < n + 1
      · rw [if_pos h2, if_pos h2]
      · rw [if_neg h2, if_neg h2, inT_at]
        by_cases h4 : t.kind = 4
        · rw [if_pos h4, if_pos h4]
        · rw [if_neg h4, if_neg h4, if_neg (by simp)]
  · simp only [if_true, Bool.true_eq_false, false_and, if_false]
    show (if objB t = false then (111, n) else if (inT sym t n).1 ≠ 0 then inT sym t n else lookL sym ts (inT sym t n).2) = _
    by_cases h1 : objB t = false
    · rw [if_pos h1, if_pos h1]
    · rw [if_neg h1, if_neg h1, inT_at]
      by_cases h4 : t.kind = 4
      · rw [if_pos h4, if_pos h4]
      · rw [if_neg h4, if_neg h4, if_neg (by simp)]
end
end Go.Proofs.YtdflpoldlokijaaDoor
