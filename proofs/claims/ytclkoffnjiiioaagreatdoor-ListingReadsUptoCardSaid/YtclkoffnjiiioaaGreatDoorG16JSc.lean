import Derived.Test.YtclkoffnjiiioaaGreatDoorJRdK
import Derived.Test.YtclkoffnjiiioaaGreatDoorG03JRd3
namespace Go.Proofs.YtclkoffnjiiioaaGreatDoor
open Go.RowKit
set_option linter.unusedVariables false
set_option linter.unusedSimpArgs false
attribute [local go_sem ↓] Go.wp_at_zero Go.wp_at_succ
mutual
/-- the lists within a literal -/
def llT : LitT → List Value
  | .mk _ _ _ p c ts => if ts.length = 0 then [] else .slice p ts.length c :: llL ts
def llL : List LitT → List Value
  | [] => []
  | t :: ts => llT t ++ llL ts
end
theorem llT_at (t : LitT) : llT t = if t.kids.length = 0 then [] else .slice t.p t.kids.length t.c :: llL t.kids := by cases t with | mk k x n p c ts => rw [llT]; rfl
theorem llL_nil : llL [] = [] := by rw [llL]
theorem llL_cons (t : LitT) (ts : List LitT) : llL (t :: ts) = llT t ++ llL ts := by rw [llL]
theorem llL_app : ∀ (a b : List LitT), llL (a ++ b) = llL a ++ llL b
  | [], b => by rw [llL_nil]; rfl
  | t :: a, b => by rw [List.cons_append, llL_cons, llL_cons, llL_app a b, List.append_assoc]
theorem llL_len {t : LitT} : ∀ {ts : List LitT}, t ∈ ts → (llT t).length ≤ (llL ts).length
  | u :: ts, h => by
    rw [llL_cons, List.length_append]
    rcases List.mem_cons.1 h with rfl | h
    · omega
    · have := llL_len h; omega
theorem llL_take (ts : List LitT) (i : Nat) : (llL (ts.take i)).length ≤ (llL ts).length := by
  conv => rhs; rw [← List.take_append_drop i ts, llL_app, List.length_append]
  omega
/-- all lists of a code's literals -/
def lls (p : Option Addr) (c : Nat) (ts : List LitT) : List Value := .slice p ts.length c :: llL ts
theorem lls_kids (t : LitT) (h : t.kids.length ≠ 0) : lls t.p t.c t.kids = llT t := by rw [llT_at, if_neg h]; rfl
theorem may_kids {t : LitT} (h : mayB t = true) (h4 : t.kind ≠ 4) : t.kids = [] := by
  rcases may_is h with ⟨-, -, q⟩ | ⟨-, -, -, q⟩ | ⟨q, -⟩ | ⟨-, -, -, q⟩
  · exact q
  · exact q
  · exact absurd q h4
  · exact q
mutual
theorem ga_llT : ∀ (t : LitT) (n : Nat), mayB t = true → (gaT t n).1 = 0 → (llT t).length + n ≤ 1 + (gaT t n).2
  | .mk k x m p c ts, n, hm, h => by
    rw [gaT_at] at h ⊢
    rw [llT_at]
    show (if ts.length = 0 then ([] : List Value) else .slice p ts.length c :: llL ts).length + n ≤ _
    by_cases h4 : (LitT.mk k x m p c ts).kind = 4
    · rw [if_pos h4] at h ⊢
      have := ga_llL ts n h
      have e : (LitT.mk k x m p c ts).kids = ts := rfl
      rw [e]
      split
      · simp at this ⊢
        omega
      · rw [List.length_cons]
        omega
    · have e : ts = [] := may_kids hm h4
      rw [if_neg h4, e]
      simp
theorem ga_llL : ∀ (ts : List LitT) (n : Nat), (gaL ts n).1 = 0 → (llL ts).length + n ≤ (gaL ts n).2
  | [], n, h => by rw [gaL_nil, llL_nil]; simp
  | t :: ts, n, h => by
    rw [gaL_cons] at h ⊢
    by_cases h1 : mayB t = false
    · rw [if_pos h1] at h; cases h
    rw [if_neg h1] at h ⊢
    by_cases h2 : 4096 < n + 1
    · rw [if_pos h2] at h; cases h
    rw [if_neg h2] at h ⊢
    by_cases h3 : (gaT t (n + 1)).1 ≠ 0
    · rw [if_pos h3] at h; exact absurd h h3
    rw [if_neg h3] at h ⊢
    have h5 : (gaT t (n + 1)).1 = 0 := by simpa using h3
    have a1 := ga_llT t (n + 1) (by simpa using h1) h5
    have a2 := ga_llL ts _ h
    rw [llL_cons, List.length_append]
    omega
end
theorem ga_llU : ∀ (ts : List LitT) (n : Nat), (gaU ts n).1 = 0 → (llL ts).length + n ≤ ts.length + (gaU ts n).2
  | [], n, h => by rw [llL_nil]; show 0 + n ≤ 0 + n; omega
  | t :: ts, n, h => by
    rw [show gaU (t :: ts) n = (if topB t = false then (120, n) else if (gaT t n).1 ≠ 0 then gaT t n else gaU ts (gaT t n).2) from rfl] at h ⊢
    by_cases h1 : topB t = false
    · rw [if_pos h1] at h; cases h
    rw [if_neg h1] at h ⊢
    by_cases h3 : (gaT t n).1 ≠ 0
    · rw [if_pos h3] at h; exact absurd h h3
    rw [if_neg h3] at h ⊢
    have a1 := ga_llT t n (top_is (by simpa using h1)).2 (by simpa using h3)
    have a2 := ga_llU ts _ h
    rw [llL_cons, List.length_append, List.length_cons]
    omega
theorem info22 : (Tryz.prog.info? 22).map (fun i => (i.zero, i.size, i.bytes)) = some (some (.slice none 0 0), 1, 24) := by kernel_rfl
/-- slices more behind a row of slices -/
theorem push_many {w : World} {base : Nat} {p : Option Addr} {n c : Nat} {xs : List Value} (h : w.ownsRow base 22 1 (.slice p n c) n xs) {p2 : Option Addr} {n2 c2 : Nat} {ys : List Value} {b2 : Nat} (h2 : w.ownsRow b2 22 1 (.slice p2 n2 c2) n2 ys) (h0 : 0 < n2) (hys : ∀ y ∈ ys, y.oneCell' = true) (hb : n + n2 ≤ 1000000) (hB : base ≤ w.heap.size) :
    ∃ p' c' w', (Builtin.append_ #[41, 41] 41 #[.slice p n c, .slice p2 n2 c2]).run Tryz.prog w = .ok (.slice p' (n + n2) c') w' ∧ w'.ownsRow base 22 1 (.slice p' (n + n2) c') (n + n2) (xs ++ ys) ∧ Fr (blk p) w w' := by
  obtain ⟨i22, ii, iz, is, ib⟩ := info_parts info22
  obtain ⟨g, hg⟩ : ∃ g, p2 = some ⟨g, 0, none⟩ := by
    rcases h2.2 with ⟨e, e0⟩ | ⟨g, cap, cur, e, -⟩
    · omega
    · injection e with e; exact ⟨g, e⟩
  subst hg
  obtain ⟨v', w', hr, ho, hgr, -, -⟩ := run_append_own_at (P := Tryz.prog) w base 41 41 22 i22 _ 1 24 Tryz.underlying41 ii iz is ib rfl (by decide) _ n xs h ⟨g, 0, none⟩ n2 c2 ys (by rw [h2.1]) (h2.cells (g := g) rfl) hys (by unfold maxLen; omega) (by omega) hB
  obtain ⟨p', c', hv⟩ : ∃ p' c', v' = .slice p' (n + n2) c' := by
    rcases ho.2 with ⟨e, e0⟩ | ⟨g', cap, cur, e, -⟩
    · omega
    · exact ⟨_, _, e⟩
  subst hv
  exact ⟨p', c', w', hr, ho, Fr.grown hgr (fun k hk => (blk_own _ _ _ _).1 hk)⟩
theorem one_row (V : World) (x : Value) : (V.alloc (.cells #[x] 22)).ownsRow V.heap.size 22 1 (.slice (some ⟨V.heap.size, 0, none⟩) 1 1) 1 [x] :=
  ⟨rfl, .inr ⟨V.heap.size, 1, #[x], rfl, Nat.le_refl _, heap_alloc_new V _, Nat.le_refl _, by unfold maxLen; omega, rfl, rfl⟩⟩
mutual
theorem llT_one : ∀ (t : LitT), ∀ y ∈ llT t, y.oneCell' = true
  | .mk k x m p c ts, y, h => by
    rw [llT] at h
    split at h
    · cases h
    · rcases List.mem_cons.1 h with rfl | h
      · rfl
      · exact llL_one ts y h
theorem llL_one : ∀ (ts : List LitT), ∀ y ∈ llL ts, y.oneCell' = true
  | [], y, h => by rw [llL] at h; cases h
  | t :: ts, y, h => by
    rw [llL] at h
    rcases List.mem_append.1 h with h | h
    · exact llT_one t y h
    · exact llL_one ts y h
end
set_option maxRecDepth 100000 in
set_option maxHeartbeats 8000000 in
/-- all lists of literals -/
theorem litLists_ok (w : World) (p : Option Addr) (c : Nat) (ts : List LitT) (h : LitsR w p c ts) : ∀ V, Fr [] w V → (llL ts).length ≤ 100000 → Calls Tryz.prog 26 #[.slice p ts.length c] V fun e w' => Fr [] V w' ∧ ∃ p2 c2, e = .returned (.slice p2 (lls p c ts).length c2) ∧ w'.ownsRow V.heap.size 22 1 (.slice p2 (lls p c ts).length c2) (lls p c ts).length (lls p c ts) := by
  induction h with
  | mk p c ts nil at_ short txt kids ih =>
    intro V fV hN
    have HAt := mkHid at_
    have HIh := mkHid ih
    have HFv := mkHid fV
    have HN := mkHid hN
    have hsh := short
    have H0 : Hid ((V.alloc (.cells #[.slice p ts.length c] 22)).ownsRow V.heap.size 22 1 (.slice (some ⟨V.heap.size, 0, none⟩) 1 1) 1 [.slice p ts.length c] ∧ Fr [] V (V.alloc (.cells #[.slice p ts.length c] 22))) := ⟨one_row V _, Fr.alloc [] V _⟩
    clear at_ ih fV hN nil short txt kids
    go_enter Tryz.func26, Tryz.ntmps26
    go_wp2_with fail
    go_loopw [3, 4] (fun v q wr => ∃ (i m : Nat) (p2 : Option Addr) (c2 : Nat), i ≤ ts.length ∧ q = .int .i64 (i : Int) ∧ v = .slice p2 m c2 ∧ Hid (m = (llL (ts.take i)).length + 1 ∧ wr.ownsRow V.heap.size 22 1 (.slice p2 m c2) m (.slice p ts.length c :: llL (ts.take i)) ∧ Fr [] V wr)) (fun _ q _ => ts.length - (intOf q).toNat)
    case atStart => exact ⟨0, 1, _, 1, by omega, rfl, rfl, by rw [List.take_zero, llL_nil]; rfl, by rw [List.take_zero, llL_nil]; exact H0.out.1, H0.out.2⟩
    case round =>
      clear H0
      obtain ⟨i, m, p2, c2, hi, rfl, rfl, hst⟩ := hrel
      obtain ⟨hm, hrow, hfr⟩ := hst.out
      clear hst
      have i0 : (0 : Int) ≤ (i : Int) := by omega
      by_cases hlt : i < ts.length
      · obtain ⟨t, ht⟩ : ∃ t, ts[i]? = some t := ⟨ts[i], List.getElem?_eq_getElem hlt⟩
        obtain ⟨g, off, hp, hg, hla⟩ := HAt.out (by omega)
        subst hp
        obtain ⟨y0, y1, y2, y3⟩ := (hla i t ht).idle (HFv.out.tr0 hfr)
        have htk : ts.take (i + 1) = ts.take i ++ [t] := by rw [List.take_add_one, ht]; rfl
        have hll : llL (ts.take (i + 1)) = llL (ts.take i) ++ llT t := by rw [htk, llL_app, llL_cons, llL_nil, List.append_nil]
        have i1 : (i : Int) < (ts.length : Int) := by omega
        obtain ⟨i2, hi2⟩ : ∃ q, q = i + 1 := ⟨_, rfl⟩
        have hwi : IntKind.i64.wrap ((i : Int) + 1) = (i2 : Int) := by rw [iwrap_id (by omega) (by omega)]; omega
        have HI2 : Hid (i2 = i + 1 ∧ i < ts.length) := ⟨hi2, hlt⟩
        have hmem : t ∈ ts := List.mem_of_getElem? ht
        have hLen := llL_take ts (i + 1)
        unfold LitT.items at y3
        by_cases hk : t.kids.length = 0
        · have HS : Hid (m = (llL (ts.take i2)).length + 1 ∧ wr.ownsRow V.heap.size 22 1 (.slice p2 m c2) m (.slice (some ⟨g, off, none⟩) ts.length c :: llL (ts.take i2)) ∧ Fr [] V wr) := by
            have e : llT t = [] := by rw [llT_at, if_pos hk]
            rw [hi2, hll, e, List.append_nil]
            exact ⟨hm, hrow, hfr⟩
          have hk0 : (t.kids.length : Int) = 0 := by omega
          rw [hk] at y3
          clear hk hk0 hm hrow hfr hll htk hla HIh hi2 hmem hLen hlt hi ht
          go_wp2_with fail
          go_roundw
          case rel => exact ⟨i2, m, p2, c2, by have := HI2.out; omega, rfl, rfl, HS.out⟩
          case measure => have := HI2.out; simp [intOf]; omega
        · have hkp : (0 : Int) < (t.kids.length : Int) := by omega
          have hlk := lls_kids t hk
          have hLk : (llL t.kids).length ≤ 100000 := by
            have h1 := llL_len hmem
            have h2 := HN.out
            rw [llT_at, if_neg hk, List.length_cons] at h1
            omega
          have HC := mkHid (HIh.out t hmem wr (HFv.out.tr0 hfr) hLk)
          rw [hlk] at HC
          have hpos : 0 < (llT t).length := by rw [llT_at, if_neg hk]; simp
          have HM : Hid (∀ w5, Fr [] wr w5 → ∀ p5 c5, w5.ownsRow wr.heap.size 22 1 (.slice p5 (llT t).length c5) (llT t).length (llT t) → ∃ p' c' w', (Builtin.append_ #[41, 41] 41 #[.slice p2 m c2, .slice p5 (llT t).length c5]).run Tryz.prog w5 = .ok (.slice p' (m + (llT t).length) c') w' ∧ Hid (m + (llT t).length = (llL (ts.take i2)).length + 1 ∧ w'.ownsRow V.heap.size 22 1 (.slice p' (m + (llT t).length) c') (m + (llT t).length) (.slice (some ⟨g, off, none⟩) ts.length c :: llL (ts.take i2)) ∧ Fr [] V w')) := fun w5 f5 p5 c5 h5 => by
            have hb := own_lt hrow
            obtain ⟨p', c', w', r1, r2, r3⟩ := push_many (own_congr hrow (fun g hg => f5.block g (own_lt hrow g hg).2 (by simp))) h5 hpos (llT_one t) (by have := HN.out; rw [hll, List.length_append] at hLen; omega) (by have := hfr.size; have := f5.size; omega)
            refine ⟨p', c', w', r1, ?_, ?_, ?_⟩
            · rw [hi2, hll, List.length_append, hm]; omega
            · rw [hi2, hll]; exact r2
            · exact (hfr.tr0 f5).trans r3 (fun g hg => .inr (hb g ((blk_own _ _ _ _).2 hg)).1)
          obtain ⟨nk, hnk⟩ : ∃ q, q = (llT t).length := ⟨_, rfl⟩
          rw [← hnk] at HC HM
          clear hm hrow hfr hll htk hla HIh hi2 hmem hLen hlt hi ht hlk hLk hpos hnk hk
          go_wp2_with fail
          refine HC.out.mono ?_
          rintro e w5 ⟨f5, p5, c5, rfl, h5⟩
          obtain ⟨p', c', w', r1, HS⟩ := HM.out w5 f5 p5 c5 h5
          have HR := mkHid r1
          clear r1 h5 f5 HM HC
          go_wp2_with (at_builtin; refine Lib.wpList_append_run _ rfl (.tmp 20) (.tmp 26) 41 41 rfl _ _ rfl rfl _ _ HR.out ?_)
          go_roundw
          case rel => exact ⟨i2, m + nk, p', c', by have := HI2.out; omega, rfl, rfl, HS.out⟩
          case measure => have := HI2.out; simp [intOf]; omega
      · have hie : i = ts.length := by omega
        subst hie
        rw [List.take_length] at hm hrow
        have HS : Hid (Fr [] V wr ∧ ∃ p3 c3, Ending.returned (.slice p2 m c2) = .returned (.slice p3 (lls p c ts).length c3) ∧ wr.ownsRow V.heap.size 22 1 (.slice p3 (lls p c ts).length c3) (lls p c ts).length (lls p c ts)) := by
          have e : (lls p c ts).length = m := by unfold lls; rw [List.length_cons, hm]
          refine ⟨hfr, p2, c2, by rw [e], by rw [e]; exact hrow⟩
        clear hm hrow hfr hlt hi
        go_wp2_with fail
        go_ret
        exact HS.out
end Go.Proofs.YtclkoffnjiiioaaGreatDoor
namespace Go.Proofs.YtclkoffnjiiioaaGreatDoor
open Go.RowKit
set_option linter.unusedVariables false
set_option linter.unusedSimpArgs false
/-- the block of a list -/
def vb (v : Value) : List Nat := match v.ownBlock with | some g => [g] | none => []
theorem vb_mem {v : Value} {g : Nat} : g ∈ vb v ↔ v.ownBlock = some g := by
  unfold vb
  cases v.ownBlock with
  | none => simp
  | some h => simp [eq_comm]
theorem vb_slice (p : Option Addr) (n c : Nat) : vb (.slice p n c) = blk p := by
  unfold vb Value.ownBlock blk
  cases p <;> rfl
/-- how a row has become longer: in its own block, or in a new one -/
def Mv (v v' : Value) (w w' : World) : Prop := (v'.ownBlock = v.ownBlock ∧ Fr (vb v) w w') ∨ (Fr [] w w' ∧ ∀ g, v'.ownBlock = some g → w.heap.size ≤ g)
theorem Mv.fr {v v' : Value} {w w' : World} (h : Mv v v' w w') : Fr (vb v) w w' := by
  rcases h with ⟨-, h⟩ | ⟨h, -⟩
  · exact h
  · exact h.mono (by simp)
theorem Mv.mem {v v' : Value} {w w' : World} (h : Mv v v' w w') {g : Nat} (hg : v'.ownBlock = some g) : v.ownBlock = some g ∨ w.heap.size ≤ g := by
  rcases h with ⟨e, -⟩ | ⟨-, h⟩
  · left; rw [← e]; exact hg
  · right; exact h g hg
theorem own_ty {w : World} {B : Nat} {e : TypeId} {s n : Nat} {v : Value} {xs : List Value} (h : w.ownsRow B e s v n xs) {g : Nat} (hg : v.ownBlock = some g) : g < w.heap.size ∧ ∃ cur, w.heap[g]? = some (.cells cur e (0, 0)) := ⟨(own_lt h g hg).2, row_block h hg⟩
theorem own_fr {w w' : World} {B : Nat} {e : TypeId} {s n : Nat} {v : Value} {xs : List Value} {S : List Nat} (h : w.ownsRow B e s v n xs) (f : Fr S w w') (hn : ∀ g, v.ownBlock = some g → g ∉ S) : w'.ownsRow B e s v n xs :=
  own_congr h fun g hg => f.block g (own_lt h g hg).2 (hn g hg)
/-- a list that is full of one mark -/
def Fi (w : World) (Ok : Nat → Prop) (te : TypeId) (sz : Nat) (fl : Int → Nat → List Value) (v : Value) (m : Int) : Prop := ∃ n, n ≤ 3000000000000 ∧ w.ownsRow 0 te sz v n (fl m n) ∧ ∀ g, v.ownBlock = some g → Ok g
theorem Fi.fr {w w' : World} {Ok : Nat → Prop} {te : TypeId} {sz : Nat} {fl : Int → Nat → List Value} {v : Value} {m : Int} {S : List Nat} (h : Fi w Ok te sz fl v m) (f : Fr S w w') (hS : ∀ g ∈ S, ∀ cur, w.heap[g]? = some (.cells cur te (0, 0)) → ¬ Ok g) : Fi w' Ok te sz fl v m := by
  obtain ⟨n, h1, h2, h3⟩ := h
  refine ⟨n, h1, own_fr h2 f (fun g hg hm => ?_), h3⟩
  obtain ⟨-, cur, hc⟩ := own_ty h2 hg
  exact hS g hm cur hc (h3 g hg)
theorem Fi.up {w : World} {Ok Ok' : Nat → Prop} {te : TypeId} {sz : Nat} {fl : Int → Nat → List Value} {v : Value} {m : Int} (h : Fi w Ok te sz fl v m) (hl : ∀ g, g < w.heap.size → Ok g → Ok' g) : Fi w Ok' te sz fl v m := by
  obtain ⟨n, h1, h2, h3⟩ := h
  exact ⟨n, h1, h2, fun g hg => hl g (own_lt h2 g hg).2 (h3 g hg)⟩
/-- two rows of lists, of those that were handed out and of those that have grown -/
structure Sh (lo : Nat) (w : World) (Ok : Nat → Prop) (e te : TypeId) (sz : Nat) (fl : Int → Nat → List Value) (vA vB : Value) (As Bs : List Value) : Prop where
  rA : w.ownsRow lo e 1 vA As.length As
  rB : w.ownsRow lo e 1 vB Bs.length Bs
  len : Bs.length = As.length
  ne : ∀ g, vA.ownBlock = some g → vB.ownBlock ≠ some g
  fA : ∀ (i : Nat) (v : Value), As[i]? = some v → Fi w Ok te sz fl v (-(i : Int) - 1)
  fB : ∀ (i : Nat) (v : Value), Bs[i]? = some v → Fi w Ok te sz fl v (-(i : Int) - 1)
section
variable {lo : Nat} {w : World} {Ok : Nat → Prop} {e te : TypeId} {sz : Nat} {fl : Int → Nat → List Value} {vA vB : Value} {As Bs : List Value}
theorem Sh.fr {w' : World} {S : List Nat} (h : Sh lo w Ok e te sz fl vA vB As Bs) (f : Fr S w w') (h1 : ∀ g ∈ S, ∀ cur, w.heap[g]? ≠ some (.cells cur e (0, 0))) (h2 : ∀ g ∈ S, ∀ cur, w.heap[g]? = some (.cells cur te (0, 0)) → ¬ Ok g) : Sh lo w' Ok e te sz fl vA vB As Bs := by
  refine ⟨own_fr h.rA f fun g hg hm => ?_, own_fr h.rB f fun g hg hm => ?_, h.len, h.ne, fun i v hv => (h.fA i v hv).fr f h2, fun i v hv => (h.fB i v hv).fr f h2⟩
  · obtain ⟨-, cur, hc⟩ := own_ty h.rA hg
    exact h1 g hm cur hc
  · obtain ⟨-, cur, hc⟩ := own_ty h.rB hg
    exact h1 g hm cur hc
theorem Sh.idle {w' : World} (h : Sh lo w Ok e te sz fl vA vB As Bs) (f : Fr [] w w') : Sh lo w' Ok e te sz fl vA vB As Bs := h.fr f (by simp) (by simp)
theorem Sh.up {Ok' : Nat → Prop} (h : Sh lo w Ok e te sz fl vA vB As Bs) (hl : ∀ g, g < w.heap.size → Ok g → Ok' g) : Sh lo w Ok' e te sz fl vA vB As Bs := ⟨h.rA, h.rB, h.len, h.ne, fun i v hv => (h.fA i v hv).up hl, fun i v hv => (h.fB i v hv).up hl⟩
theorem Sh.nil (w : World) (Ok : Nat → Prop) (e te : TypeId) (sz : Nat) (fl : Int → Nat → List Value) : Sh lo w Ok e te sz fl (.slice none 0 0) (.slice none 0 0) [] [] :=
  ⟨⟨rfl, .inl ⟨rfl, rfl⟩⟩, ⟨rfl, .inl ⟨rfl, rfl⟩⟩, rfl, (fun g hg => by cases hg), (fun i v hv => by simp at hv), (fun i v hv => by simp at hv)⟩
/-- a list joins -/
theorem Sh.add {w1 w2 w3 w4 : World} {vA' vB' a bb : Value} {b tb : Nat} {bc : Array Value} (h : Sh lo w Ok e te sz fl vA vB As Bs) (hb : w.heap[b]? = some (.cells bc tb (0, 0))) (t1 : tb ≠ e) (t2 : tb ≠ te) (t3 : e ≠ te)
    (m1 : Mv vA vA' w w1) (o1 : w1.ownsRow lo e 1 vA' (As.length + 1) (As ++ [a])) (f2 : Fr [b] w1 w2) (m3 : Mv vB vB' w2 w3) (o3 : w3.ownsRow lo e 1 vB' (Bs.length + 1) (Bs ++ [bb])) (f4 : Fr [b] w3 w4)
    (ha : Fi w Ok te sz fl a (-(As.length : Int) - 1)) (hbb : Fi w Ok te sz fl bb (-(As.length : Int) - 1)) : Sh lo w4 Ok e te sz fl vA' vB' (As ++ [a]) (Bs ++ [bb]) ∧ Fr (b :: (vb vA ++ vb vB)) w w4 := by
  have tyA : ∀ g, vA.ownBlock = some g → g < w.heap.size ∧ ∃ cur, w.heap[g]? = some (.cells cur e (0, 0)) := fun g hg => own_ty h.rA hg
  have tyB : ∀ g, vB.ownBlock = some g → g < w.heap.size ∧ ∃ cur, w.heap[g]? = some (.cells cur e (0, 0)) := fun g hg => own_ty h.rB hg
  have lb := lt_of_heap hb
  have bA : vA.ownBlock ≠ some b := fun q => by obtain ⟨-, cur, hc⟩ := tyA b q; exact ty_ne hb hc t1 rfl
  have bB : vB.ownBlock ≠ some b := fun q => by obtain ⟨-, cur, hc⟩ := tyB b q; exact ty_ne hb hc t1 rfl
  have f1 := m1.fr
  have f3 := m3.fr
  have s1 := f1.size
  have s2 := f2.size
  have F : Fr (b :: (vb vA ++ vb vB)) w w4 := by
    refine Fr.trans (Fr.trans (Fr.trans (f1.mono fun g hg => .inl ?_) f2 fun g hg => .inl ?_) f3 fun g hg => .inl ?_) f4 fun g hg => .inl ?_
    · simp [hg]
    · simp at hg; simp [hg]
    · simp [hg]
    · simp at hg; simp [hg]
  have out : ∀ g, g ≠ b → vA.ownBlock ≠ some g → vB.ownBlock ≠ some g → g ∉ b :: (vb vA ++ vb vB) := fun g h1 h2 h3 hm => by
    rcases List.mem_cons.1 hm with q | q
    · exact h1 q
    · rcases List.mem_append.1 q with q | q
      · exact h2 (vb_mem.1 q)
      · exact h3 (vb_mem.1 q)
  have hte : ∀ g ∈ b :: (vb vA ++ vb vB), ∀ cur, w.heap[g]? = some (.cells cur te (0, 0)) → ¬ Ok g := fun g hm cur hc => by
    exfalso
    rcases List.mem_cons.1 hm with q | q
    · rw [q] at hc; exact ty_ne hb hc t2 rfl
    · rcases List.mem_append.1 q with q | q
      · obtain ⟨-, c2, h2⟩ := tyA g (vb_mem.1 q); exact ty_ne h2 hc t3 rfl
      · obtain ⟨-, c2, h2⟩ := tyB g (vb_mem.1 q); exact ty_ne h2 hc t3 rfl
  have newA : ∀ g, vA'.ownBlock = some g → vA.ownBlock = some g ∨ w.heap.size ≤ g := fun g hg => m1.mem hg
  have newB : ∀ g, vB'.ownBlock = some g → vB.ownBlock = some g ∨ w2.heap.size ≤ g := fun g hg => m3.mem hg
  have nAb : ∀ g, vA'.ownBlock = some g → g ∉ [b] := fun g hg hm => by
    have q : g = b := by simpa using hm
    rw [q] at hg
    rcases newA b hg with q | q
    · exact bA q
    · omega
  refine ⟨⟨?_, ?_, ?_, ?_, ?_, ?_⟩, F⟩
  · rw [List.length_append, List.length_singleton]
    have q2 := own_fr o1 f2 nAb
    have q3 := own_fr q2 f3 (fun g hg hm => by
      have hB := vb_mem.1 hm
      rcases newA g hg with q | q
      · exact h.ne g q hB
      · have := (tyB g hB).1; omega)
    exact own_fr q3 f4 nAb
  · rw [List.length_append, List.length_singleton]
    exact own_fr o3 f4 (fun g hg hm => by
      have q : g = b := by simpa using hm
      rw [q] at hg
      rcases newB b hg with q | q
      · exact bB q
      · omega)
  · simp [h.len]
  · intro g hg hg2
    rcases newB g hg2 with q | q
    · rcases newA g hg with q1 | q1
      · exact h.ne g q1 q
      · have := (tyB g q).1; omega
    · have := (own_lt o1 g hg).2; omega
  · intro i v hv
    by_cases hi : i < As.length
    · rw [List.getElem?_append_left hi] at hv
      exact (h.fA i v hv).fr F hte
    · have hl := (List.getElem?_eq_some_iff.1 hv).1
      rw [List.length_append, List.length_singleton] at hl
      have e1 : i = As.length := by omega
      subst e1
      rw [List.getElem?_append_right (Nat.le_refl _), Nat.sub_self] at hv
      have : a = v := by simpa using hv
      rw [← this]
      exact ha.fr F hte
  · intro i v hv
    by_cases hi : i < Bs.length
    · rw [List.getElem?_append_left hi] at hv
      exact (h.fB i v hv).fr F hte
    · have hl := (List.getElem?_eq_some_iff.1 hv).1
      rw [List.length_append, List.length_singleton] at hl
      have e1 : i = Bs.length := by omega
      subst e1
      rw [List.getElem?_append_right (Nat.le_refl _), Nat.sub_self] at hv
      have : bb = v := by simpa using hv
      rw [← this, h.len]
      exact hbb.fr F hte
end
/-- numbers that are all one mark -/
def flI (m : Int) (n : Nat) : List Value := List.replicate n (.int .i64 m)
/-- literals that are all one mark -/
def mkT (m : Int) : LitT := .mk m ⟨#[]⟩ 0 none 0 []
def flL (m : Int) (n : Nat) : List Value := litCells (List.replicate n (mkT m))
/-- the book -/
structure Bk (w : World) (Ok : Nat → Prop) (b : Nat) (vW vL vC vM : Value) (Ws Ls Cs Ms : List Value) : Prop where
  top : w.heap[b]? = some (.cells #[vW, vL, vC, vM] 43 (0, 0))
  ints : Sh b w Ok 23 3 1 flI vW vL Ws Ls
  lits : Sh b w Ok 22 49 4 flL vC vM Cs Ms
theorem Bk.idle {w w' : World} {Ok : Nat → Prop} {b : Nat} {vW vL vC vM : Value} {Ws Ls Cs Ms : List Value} (h : Bk w Ok b vW vL vC vM Ws Ls Cs Ms) (f : Fr [] w w') : Bk w' Ok b vW vL vC vM Ws Ls Cs Ms := ⟨f.hb h.top, h.ints.idle f, h.lits.idle f⟩
theorem Bk.up {w : World} {Ok Ok' : Nat → Prop} {b : Nat} {vW vL vC vM : Value} {Ws Ls Cs Ms : List Value} (h : Bk w Ok b vW vL vC vM Ws Ls Cs Ms) (hl : ∀ g, g < w.heap.size → Ok g → Ok' g) : Bk w Ok' b vW vL vC vM Ws Ls Cs Ms := ⟨h.top, h.ints.up hl, h.lits.up hl⟩
/-- lists that nobody has in hand are written -/
theorem Bk.fr {w w' : World} {Ok : Nat → Prop} {b : Nat} {vW vL vC vM : Value} {Ws Ls Cs Ms : List Value} {S : List Nat} (h : Bk w Ok b vW vL vC vM Ws Ls Cs Ms) (f : Fr S w w') (hS : ∀ g ∈ S, ¬ Ok g ∧ ∃ cur, w.heap[g]? = some (.cells cur 3 (0, 0)) ∨ w.heap[g]? = some (.cells cur 49 (0, 0))) : Bk w' Ok b vW vL vC vM Ws Ls Cs Ms := by
  have hne : ∀ (t : TypeId), t ≠ 3 → t ≠ 49 → ∀ g ∈ S, ∀ cur, w.heap[g]? ≠ some (.cells cur t (0, 0)) := fun t h3 h49 g hg cur hc => by
    obtain ⟨-, c2, q | q⟩ := hS g hg
    · exact ty_ne hc q h3 rfl
    · exact ty_ne hc q h49 rfl
  refine ⟨(f.block b (lt_of_heap h.top) (fun hm => hne 43 (by decide) (by decide) b hm _ h.top)).trans h.top, h.ints.fr f (hne 23 (by decide) (by decide)) (fun g hg _ _ => (hS g hg).1), h.lits.fr f (hne 22 (by decide) (by decide)) (fun g hg _ _ => (hS g hg).1)⟩
end Go.Proofs.YtclkoffnjiiioaaGreatDoor
namespace Go.Proofs.YtclkoffnjiiioaaGreatDoor
open Go.RowKit
set_option linter.unusedVariables false
set_option linter.unusedSimpArgs false
theorem own_shrink {w : World} {B : Nat} {e : TypeId} {s n q c : Nat} {p : Option Addr} {xs ys : List Value} (h : w.ownsRow B e s (.slice p (n + q) c) (n + q) (xs ++ ys)) (hx : xs.length = n * s) (h0 : p = none → c = 0) : w.ownsRow B e s (.slice p n c) n xs := by
  refine ⟨hx, ?_⟩
  rcases h.2 with ⟨e1, e2⟩ | ⟨g, cap, cur, e1, q1, q2, q3, q4, q5, q6⟩
  · injection e1 with e1 e3 e4
    left
    have : n = 0 := by omega
    subst this
    exact ⟨by rw [e1, e4], rfl⟩
  · injection e1 with e1 e3 e4
    right
    refine ⟨g, cap, cur, by rw [e1, e4], q1, q2, by omega, q4, q5, ?_⟩
    have := congrArg (List.take (n * s)) q6
    rw [List.take_take, Nat.min_eq_left (Nat.mul_le_mul_right s (by omega)), ← hx, List.take_left] at this
    rw [← hx]
    exact this
/-- marks one behind the other -/
structure FlOk (fl : Int → Nat → List Value) (sz : Nat) : Prop where
  add : ∀ m a b, fl m (a + b) = fl m a ++ fl m b
  len : ∀ m a, (fl m a).length = a * sz
theorem flI_ok : FlOk flI 1 := ⟨fun m a b => by unfold flI; rw [List.replicate_append_replicate], fun m a => by unfold flI; simp⟩
theorem flL_ok : FlOk flL 4 := ⟨fun m a b => by unfold flL litCells; rw [← List.replicate_append_replicate, List.flatMap_append], fun m a => by
  unfold flL litCells
  induction a with
  | zero => rfl
  | succ a ih => rw [List.replicate_succ, List.flatMap_cons, List.length_append, ih]; simp [litc]; omega⟩
/-- a list that is being grown -/
structure Gr (W4 w : World) (lim : Nat) (te : TypeId) (sz : Nat) (fl : Int → Nat → List Value) (p0 : Option Addr) (n c0 : Nat) (m : Int) (p : Option Addr) (c q : Nat) : Prop where
  row : w.ownsRow lim te sz (.slice p (n + q) c) (n + q) (fl m (n + q))
  old : w.ownsRow lim te sz (.slice p0 n c0) n (fl m n)
  pl : (p = p0 ∧ c = c0) ∨ (∀ g ∈ blk p, W4.heap.size ≤ g)
  fr : Fr (blk p0) W4 w
theorem Gr.start {W4 : World} {lim : Nat} {te : TypeId} {sz : Nat} {fl : Int → Nat → List Value} {p0 : Option Addr} {n c0 : Nat} {m : Int} (h : W4.ownsRow lim te sz (.slice p0 n c0) n (fl m n)) : Gr W4 W4 lim te sz fl p0 n c0 m p0 c0 0 := ⟨h, h, .inl ⟨rfl, rfl⟩, Fr.refl _ _⟩
theorem Gr.step {W4 w w' : World} {lim : Nat} {te : TypeId} {sz : Nat} {fl : Int → Nat → List Value} {p0 p p' : Option Addr} {n c0 c c' q : Nat} {m : Int} (hf : FlOk fl sz) (h : Gr W4 w lim te sz fl p0 n c0 m p c q) (h0 : ∀ g ∈ blk p0, g < W4.heap.size) (row' : w'.ownsRow lim te sz (.slice p' (n + q + 1) c') (n + q + 1) (fl m (n + q) ++ fl m 1)) (hm : (p' = p ∧ c' = c ∧ Fr (blk p) w w') ∨ (Fr [] w w' ∧ ∀ g ∈ blk p', w.heap.size ≤ g)) : Gr W4 w' lim te sz fl p0 n c0 m p' c' (q + 1) := by
  have hsz := h.fr.size
  rw [← hf.add] at row'
  have hnil : p' = none → c' = 0 := fun e => by
    rcases row'.2 with ⟨e1, -⟩ | ⟨g, cap, cur, e1, -⟩
    · injection e1 with _ _ e3
    · injection e1 with e1; rw [e1] at e; cases e
  refine ⟨row', ?_, ?_, ?_⟩
  · rcases hm with ⟨e1, e2, f⟩ | ⟨f, -⟩
    · rcases h.pl with ⟨e3, e4⟩ | e3
      · have e5 : n + q + 1 = n + (q + 1) := by omega
        rw [e5, hf.add] at row'
        rw [e1, e2, e3, e4] at row'
        rw [e1, e3, e2, e4] at hnil
        exact own_shrink row' (hf.len m n) hnil
      · exact own_fr h.old f (fun g hg hm => by
          have a1 := e3 g hm
          have a2 := h0 g ((blk_own _ _ _ _).1 hg)
          omega)
    · exact own_fr h.old f (by simp)
  · rcases hm with ⟨e1, e2, f⟩ | ⟨f, e1⟩
    · rw [e1, e2]; exact h.pl
    · right; intro g hg; have := e1 g hg; omega
  · rcases hm with ⟨e1, e2, f⟩ | ⟨f, -⟩
    · rcases h.pl with ⟨e3, e4⟩ | e3
      · rw [e3] at f; exact h.fr.trans f (fun g hg => .inl hg)
      · exact h.fr.trans f (fun g hg => .inr (e3 g hg))
    · exact h.fr.trans f (by simp)
theorem Gr.pushI {W4 w : World} {lim : Nat} {p0 p : Option Addr} {n c0 c q : Nat} {m : Int} (h : Gr W4 w lim 3 1 flI p0 n c0 m p c q) (h0 : ∀ g ∈ blk p0, g < W4.heap.size) (hn : n + q ≤ 3000000000000) (hl : lim ≤ W4.heap.size) :
    ∃ p' c' w', (Builtin.append_ #[23, 23] 23 #[.slice p (n + q) c, .slice (some ⟨w.heap.size, 0, none⟩) 1 1]).run Tryz.prog (w.alloc (.cells #[.int .i64 m] 3)) = .ok (.slice p' (n + q + 1) c') w' ∧ Gr W4 w' lim 3 1 flI p0 n c0 m p' c' (q + 1) := by
  obtain ⟨i3, ii, iz, is, ib⟩ := info_parts info3
  have hsz := h.fr.size
  have hlen : (flI m (n + q)).length = n + q := by rw [flI_ok.len]; omega
  have := push2 Tryz.underlying23 ii iz is ib rfl w lim p c (flI m (n + q)) (.int .i64 m) (by rw [hlen]; exact h.row) rfl (by rw [hlen]; unfold maxLen; omega) (by rw [hlen]; omega) (by omega)
  rw [hlen] at this
  obtain ⟨p', c', w', r1, r2, r3⟩ := this
  exact ⟨p', c', w', r1, h.step flI_ok h0 r2 r3⟩
theorem Gr.pushL {W4 w : World} {lim : Nat} {p0 p : Option Addr} {n c0 c q : Nat} {m : Int} (h : Gr W4 w lim 49 4 flL p0 n c0 m p c q) (h0 : ∀ g ∈ blk p0, g < W4.heap.size) (hn : n + q ≤ 3000000000000) (hl : lim ≤ W4.heap.size) :
    ∃ p' c' w', (Builtin.append_ #[22, 22] 22 #[.slice p (n + q) c, .slice (some ⟨w.heap.size, 0, none⟩) 1 1]).run Tryz.prog (w.alloc (.cells #[.int .i64 m, .string ⟨#[]⟩, .int .i64 0, .slice none 0 0] 49)) = .ok (.slice p' (n + q + 1) c') w' ∧ Gr W4 w' lim 49 4 flL p0 n c0 m p' c' (q + 1) := by
  have hsz := h.fr.size
  obtain ⟨p', c', w', r1, r2, r3⟩ := pushS (t := 22) (e := 49) Tryz.underlying22 info54 rfl (by decide) w lim p c (n + q) (flL m (n + q)) (litc (mkT m)) rfl h.row (by simp [litc, Value.oneCell', LitT.items, mkT]) (by unfold maxLen; omega) (by omega) (by omega)
  refine ⟨p', c', w', r1, h.step flL_ok h0 ?_ r3⟩
  have e : flL m 1 = litc (mkT m) := by unfold flL litCells; simp
  rw [e]
  exact r2
/-- a list of literals whose first k are a mark -/
def MkR (w : World) (lim : Nat) (v : Value) (m : Int) (n k : Nat) : Prop := k ≤ n ∧ ∃ xs, w.ownsRow lim 49 4 v n (flL m k ++ xs)
theorem MkR.zero {w : World} {lim : Nat} {v : Value} {m : Int} {n : Nat} {xs : List Value} (h : w.ownsRow lim 49 4 v n xs) : MkR w lim v m n 0 := ⟨Nat.zero_le _, xs, h⟩
theorem MkR.full {w : World} {lim : Nat} {v : Value} {m : Int} {n : Nat} (h : MkR w lim v m n n) : w.ownsRow lim 49 4 v n (flL m n) := by
  obtain ⟨-, xs, hx⟩ := h
  have := hx.1
  rw [List.length_append, flL_ok.len] at this
  have e : xs = [] := List.eq_nil_of_length_eq_zero (by omega)
  rw [e, List.append_nil] at hx
  exact hx
theorem MkR.fr {w w' : World} {lim : Nat} {v : Value} {m : Int} {n k : Nat} {S : List Nat} (h : MkR w lim v m n k) (f : Fr S w w') (hS : ∀ g, v.ownBlock = some g → g ∉ S) : MkR w' lim v m n k := by
  obtain ⟨h1, xs, hx⟩ := h
  exact ⟨h1, xs, own_fr hx f hS⟩
/-- the next one is written -/
theorem MkR.step {w : World} {lim : Nat} {g n c : Nat} {m : Int} {k : Nat} (h : MkR w lim (.slice (some ⟨g, 0, none⟩) n c) m n k) (hk : k < n) :
    (∀ j, j < 4 → ∃ v, w.cell? ⟨g, k * 4 + j, none⟩ = some v) ∧ (∀ j, w.frozen? ⟨g, j, none⟩ = false) ∧ MkR ((((w.setCell ⟨g, k * 4, none⟩ (.int .i64 m)).setCell ⟨g, k * 4 + 1, none⟩ (.string ⟨#[]⟩)).setCell ⟨g, k * 4 + 2, none⟩ (.int .i64 0)).setCell ⟨g, k * 4 + 3, none⟩ (.slice none 0 0)) lim (.slice (some ⟨g, 0, none⟩) n c) m n (k + 1) ∧
      Fr [g] w ((((w.setCell ⟨g, k * 4, none⟩ (.int .i64 m)).setCell ⟨g, k * 4 + 1, none⟩ (.string ⟨#[]⟩)).setCell ⟨g, k * 4 + 2, none⟩ (.int .i64 0)).setCell ⟨g, k * 4 + 3, none⟩ (.slice none 0 0)) := by
  obtain ⟨h1, xs, hx⟩ := h
  have hl := hx.1
  rw [List.length_append, flL_ok.len] at hl
  have hfl := flL_ok.len m k
  match xs, hl with
  | [], hl => simp at hl; omega
  | [_], hl => simp at hl; omega
  | [_, _], hl => simp at hl; omega
  | [_, _, _], hl => simp at hl; omega
  | y0 :: y1 :: y2 :: y3 :: rest, hl =>
    refine ⟨fun j hj => ?_, fun j => ?_, ⟨by omega, rest, ?_⟩, ?_⟩
    · rw [hx.cellAt (k * 4 + j) (by omega), List.getElem?_append_right (by omega), show k * 4 + j - (flL m k).length = j by omega]
      match j, hj with
      | 0, _ => exact ⟨_, rfl⟩
      | 1, _ => exact ⟨_, rfl⟩
      | 2, _ => exact ⟨_, rfl⟩
      | 3, _ => exact ⟨_, rfl⟩
    · obtain ⟨cur, hc⟩ := row_block hx (g := g) rfl
      exact frozen_in hc j
    · have s1 := (hx.stored (k * 4) (.int .i64 m)).1
      have s2 := (s1.stored (k * 4 + 1) (.string ⟨#[]⟩)).1
      have s3 := (s2.stored (k * 4 + 2) (.int .i64 0)).1
      have s4 := (s3.stored (k * 4 + 3) (.slice none 0 0)).1
      have e : ((((flL m k ++ y0 :: y1 :: y2 :: y3 :: rest).set (k * 4) (.int .i64 m)).set (k * 4 + 1) (.string ⟨#[]⟩)).set (k * 4 + 2) (.int .i64 0)).set (k * 4 + 3) (.slice none 0 0) = flL m (k + 1) ++ rest := by
        have e1 : flL m 1 = [.int .i64 m, .string ⟨#[]⟩, .int .i64 0, .slice none 0 0] := by unfold flL litCells; simp [litc, mkT, LitT.kind, LitT.text, LitT.num, LitT.items, LitT.p, LitT.c, LitT.kids]
        rw [flL_ok.add, e1, ← hfl, List.set_append_right _ _ (by omega), List.set_append_right _ _ (by omega), List.set_append_right _ _ (by omega), List.set_append_right _ _ (by omega)]
        simp
      rw [e] at s4
      exact s4
    · exact (((Fr.setCell (S := [g]) w ⟨g, k * 4, none⟩ _ (by simp)).trans (Fr.setCell (S := [g]) _ ⟨g, k * 4 + 1, none⟩ _ (by simp)) (by simp)).trans (Fr.setCell (S := [g]) _ ⟨g, k * 4 + 2, none⟩ _ (by simp)) (by simp)).trans (Fr.setCell (S := [g]) _ ⟨g, k * 4 + 3, none⟩ _ (by simp)) (by simp)
end Go.Proofs.YtclkoffnjiiioaaGreatDoor
