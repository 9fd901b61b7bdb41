import Derived.Test.YtclkoffnjiiioaaGreatDoorTG00CTwin
namespace Go.Proofs.YtclkoffnjiiioaaGreatDoor
open Go.RowKit
set_option linter.unusedVariables false
set_option linter.unusedSimpArgs false
attribute [local go_sem ↓] Go.wp_at_zero Go.wp_at_succ
def TwP (w : World) (n : Nat) (e : Ending) (w' : World) : Prop := ∃ p' c' us, e = .returned (.slice p' n c') ∧ us.length = n ∧ Fr [] w w' ∧ LitsO w' (fun g => w.heap.size ≤ g) p' c' us
/-- a row of copies under way -/
def Tw (w wr : World) (i : Nat) (p' : Option Addr) (c' : Nat) (us : List LitT) : Prop := us.length = i ∧ wr.ownsRow w.heap.size 49 4 (.slice p' i c') i (litCells us) ∧ (∀ u ∈ us, u.text.size ≤ 140737488355328 ∧ LitsO wr (fun g => w.heap.size ≤ g ∧ g ∉ blk p') u.p u.c u.kids) ∧ Fr [] w wr
def markL : LitT := .mk (-7) ⟨#[]⟩ 0 none 0 []
theorem markL_kids (w : World) (Ok : Nat → Prop) : LitsO w Ok markL.p markL.c markL.kids := .mk none 0 [] (fun _ => rfl) (fun h => by simp at h) (by simp) (fun t ht => by simp at ht) (fun t ht => by simp at ht)
/-- one copy more -/
theorem Tw.push {w wr V : World} {i : Nat} {p' : Option Addr} {c' : Nat} {us : List LitT} (h : Tw w wr i p' c' us) (hi : i ≤ 2513169434916) (S : List Nat) (hf : Fr S wr V) (hS : ∀ g ∈ S, wr.heap.size ≤ g) (u : LitT) (hu : u.text.size ≤ 140737488355328) (hk : LitsO V (fun g => w.heap.size ≤ g ∧ g ∉ blk p') u.p u.c u.kids) :
    ∃ p2 c2 w3, (Builtin.append_ #[22, 22] 22 #[.slice p' i c', .slice (some ⟨V.heap.size, 0, none⟩) 1 1]).run Tryz.prog (V.alloc (.cells (litc u).toArray 49)) = .ok (.slice p2 (i + 1) c2) w3 ∧ Tw w w3 (i + 1) p2 c2 (us ++ [u]) := by
  obtain ⟨hl, ho, hks, hfr⟩ := h
  have hb := fun g (hg : g ∈ blk p') => own_lt ho g ((blk_own _ _ _ _).2 hg)
  have ho2 : V.ownsRow w.heap.size 49 4 (.slice p' i c') i (litCells us) := own_congr ho fun g hg => hf.block g (own_lt ho g hg).2 (fun hm => by have := hS g hm; have := (own_lt ho g hg).2; omega)
  have hFV : Fr [] w V := hfr.trans hf (fun g hg => .inr (Nat.le_trans hfr.size (hS g hg)))
  obtain ⟨p2, c2, w3, r, o3, m⟩ := pushS (t := 22) (e := 49) Tryz.underlying22 info54 rfl (by decide) V w.heap.size p' c' i (litCells us) (litc u) rfl ho2 (by simp [litc, Value.oneCell', LitT.items]) (by unfold maxLen; omega) (by omega) hFV.size
  have hksV : ∀ y ∈ us, LitsO V (fun g => w.heap.size ≤ g ∧ g ∉ blk p') y.p y.c y.kids := fun y hy => (hks y hy).2.keep hf (fun g hg hl hm => by have := hS g hm; omega) (fun g hg _ => hg)
  have hall : ∀ y ∈ us ++ [u], y.text.size ≤ 140737488355328 ∧ LitsO V (fun g => w.heap.size ≤ g ∧ g ∉ blk p') y.p y.c y.kids := fun y hy => by
    rcases List.mem_append.1 hy with hy | hy
    · exact ⟨(hks y hy).1, hksV y hy⟩
    · have : y = u := by simpa using hy
      subst this; exact ⟨hu, hk⟩
  refine ⟨p2, c2, w3, r, by simp [hl], ?_, fun y hy => ⟨(hall y hy).1, ?_⟩, ?_⟩
  · have e : litCells (us ++ [u]) = litCells us ++ litc u := by simp [litCells]
    rw [e]; exact o3
  · rcases m with ⟨rfl, -, e3⟩ | ⟨e1, e2⟩
    · exact (hall y hy).2.keep e3 (fun g hg _ => hg.2) (fun g hg _ => hg)
    · exact (hall y hy).2.keep e1 (fun g hg _ => by simp) (fun g hg hl => ⟨hg.1, fun hm => by have := e2 g hm; omega⟩)
  · rcases m with ⟨-, -, e3⟩ | ⟨e1, -⟩
    · exact hFV.trans e3 (fun g hg => .inr (hb g hg).1)
    · exact hFV.tr0 e1
set_option maxRecDepth 100000 in
set_option maxHeartbeats 4000000 in
theorem twin_ok (w0 : World) (p : Option Addr) (c : Nat) (ts : List LitT) (h : LitsR w0 p c ts) : ∀ w, Fr [] w0 w → Calls Tryz.prog 11 #[.slice p ts.length c] w fun e w' => TwP w ts.length e w' := by
  induction h with
  | mk p c ts nil at_ short txt kids ih =>
    intro w hf
    have HAt := mkHid at_
    have HIh := mkHid ih
    have HTx := mkHid txt
    have HF := mkHid hf
    clear at_ ih txt hf nil kids
    go_enter Tryz.func11, Tryz.ntmps11
    go_wp2_with fail
    go_loopw [3, 4] (fun m q wr => ∃ i : Nat, i ≤ ts.length ∧ q = .int .i64 i ∧ ∃ p' c', m = .slice p' i c' ∧ Hid (∃ us, Tw w wr i p' c' us)) (fun _ q _ => ts.length - (intOf q).toNat)
    case atStart => exact ⟨0, Nat.zero_le _, rfl, none, 0, rfl, [], rfl, ⟨rfl, .inl ⟨rfl, rfl⟩⟩, fun u hu => by simp at hu, Fr.refl _ _⟩
    case round =>
      obtain ⟨i, hin, rfl, p', c', rfl, hst⟩ := hrel
      obtain ⟨us, htw⟩ := hst.out
      have i0 : (0 : Int) ≤ (i : Int) := by omega
      by_cases hlt : i < ts.length
      · have i1 : (i : Int) < (ts.length : Int) := by omega
        obtain ⟨ge, oe, rfl, hge, hce⟩ := HAt.out (by omega)
        obtain ⟨t2, ht2⟩ : ∃ t2, ts[i]? = some t2 := ⟨_, List.getElem?_eq_getElem hlt⟩
        have F0 : Fr [] w0 wr := HF.out.tr0 htw.2.2.2
        have hl := (hce i t2 ht2).idle F0
        have hmem := List.mem_of_getElem? ht2
        obtain ⟨y0, y1, y2, y3'⟩ := hl
        have y3 : wr.cell? ⟨ge, oe + i * 4 + 3, none⟩ = some (.slice t2.p t2.kids.length t2.c) := y3'
        have HTw := mkHid htw
        have HTx2 := mkHid (HTx.out t2 hmem)
        have HCall : Hid (∀ o, Calls Tryz.prog 11 #[.slice t2.p t2.kids.length t2.c] (wr.alloc o) fun e w' => TwP (wr.alloc o) t2.kids.length e w') := fun o => HIh.out t2 hmem (wr.alloc o) (F0.al o)
        have hgw : ge < wr.heap.size := Nat.lt_of_lt_of_le hge F0.size
        have HPush : Hid (∀ w1 o p1 c1 us1, us1.length = t2.kids.length → Fr [] (wr.alloc o) w1 → LitsO w1 (fun g => (wr.alloc o).heap.size ≤ g) p1 c1 us1 → ∃ p2 c2 w3, (Builtin.append_ #[22, 22] 22 #[.slice p' i c', .slice (some ⟨w1.heap.size, 0, none⟩) 1 1]).run Tryz.prog ((w1.setCell ⟨wr.heap.size, 3, none⟩ (.slice p1 t2.kids.length c1)).alloc (.cells #[.int .i64 t2.kind, .string t2.text, .int .i64 t2.num, .slice p1 t2.kids.length c1] 49)) = .ok (.slice p2 (i + 1) c2) w3 ∧ ∃ us', Tw w w3 (i + 1) p2 c2 us') := fun w1 o p1 c1 us1 hlen f1 o1 => by
          have fs : Fr [wr.heap.size] w1 (w1.setCell ⟨wr.heap.size, 3, none⟩ (.slice p1 t2.kids.length c1)) := Fr.setCell (S := [wr.heap.size]) w1 ⟨wr.heap.size, 3, none⟩ _ (by simp)
          have fV : Fr [wr.heap.size] wr (w1.setCell ⟨wr.heap.size, 3, none⟩ (.slice p1 t2.kids.length c1)) := (((Fr.alloc [] wr o).tr0 f1).mono (S' := [wr.heap.size]) (by simp)).trans fs (fun g hg => .inl hg)
          have hsz : (wr.alloc o).heap.size = wr.heap.size + 1 := by simp
          have hk : LitsO (w1.setCell ⟨wr.heap.size, 3, none⟩ (.slice p1 t2.kids.length c1)) (fun g => w.heap.size ≤ g ∧ g ∉ blk p') p1 c1 us1 := o1.keep fs (fun g hg _ hm => by simp at hm; omega) (fun g hg _ => ⟨by have := HTw.out.2.2.2.size; omega, fun hm => by have := (own_lt HTw.out.2.1 g ((blk_own _ _ _ _).2 hm)).2; omega⟩)
          obtain ⟨p2, c2, w3, r, tw⟩ := HTw.out.push (V := w1.setCell ⟨wr.heap.size, 3, none⟩ (.slice p1 t2.kids.length c1)) (by omega) [wr.heap.size] fV (by simp) (.mk t2.kind t2.text t2.num p1 c1 us1) HTx2.out hk
          have es : (w1.setCell ⟨wr.heap.size, 3, none⟩ (.slice p1 t2.kids.length c1)).heap.size = w1.heap.size := by simp
          rw [es] at r
          refine ⟨p2, c2, w3, ?_, _, tw⟩
          have el : (litc (.mk t2.kind t2.text t2.num p1 c1 us1)).toArray = #[.int .i64 t2.kind, .string t2.text, .int .i64 t2.num, .slice p1 t2.kids.length c1] := by
            show #[Value.int .i64 t2.kind, .string t2.text, .int .i64 t2.num, .slice p1 us1.length c1] = _
            rw [hlen]
          rw [el] at r
          exact r
        clear hst htw hce F0 hmem ht2 y3'
        generalize t2.kind = k0 at *
        generalize t2.text = k1 at *
        generalize t2.num = k2 at *
        generalize t2.p = tp at *
        generalize t2.c = tc at *
        generalize t2.kids.length = tn at *
        go_wp2_with (first
          | (go_at_call 11; refine (HCall.out _).mono ?_; rintro e w1 ⟨p1, c1, us1, rfl, hl1, f1, o1⟩; have x0 : w1.heap[wr.heap.size]? = some (.cells #[.int .i64 k0, .string k1, .int .i64 k2, .slice tp tn tc] 49 (0, 0)) := f1.hb (heap_alloc_new wr _); obtain ⟨p2, c2, w3, r3, tw3⟩ := HPush.out w1 _ p1 c1 us1 hl1 f1 o1; have u0 : w1.cell? ⟨wr.heap.size, 0, none⟩ = some (.int .i64 k0) := by rw [cell_in x0]; rfl
             have u1 : w1.cell? ⟨wr.heap.size, 1, none⟩ = some (.string k1) := by rw [cell_in x0]; rfl
             have u2 : w1.cell? ⟨wr.heap.size, 2, none⟩ = some (.int .i64 k2) := by rw [cell_in x0]; rfl
             have u3 : w1.cell? ⟨wr.heap.size, 3, none⟩ = some (.slice tp tn tc) := by rw [cell_in x0]; rfl
             have z3 := frozen_in x0 3
             have R3 := mkHid r3
             have T3 := mkHid tw3
             clear x0 r3 tw3 f1 o1 hl1)
          | (at_builtin; refine Lib.wpList_append_run _ rfl (.tmp 23) (.tmp 25) 22 22 rfl _ _ rfl rfl _ _ R3.out ?_))
        go_roundw
        case rel => exact ⟨i + 1, by omega, by go_num, p2, c2, rfl, T3.out⟩
        case measure => simp [intOf]; omega
      · have i1 : ¬ (i : Int) < (ts.length : Int) := by omega
        have d1 : decide ((i : Int) < (ts.length : Int)) = false := decide_eq_false i1
        have hie : i = ts.length := by omega
        subst hie
        obtain ⟨p2, c2, w3, r, tw⟩ := htw.push (V := wr) (by omega) [] (Fr.refl [] wr) (by simp) markL (by decide) (markL_kids wr _)
        have R := mkHid r
        obtain ⟨g2, hp2, hc2⟩ : ∃ g2, p2 = some ⟨g2, 0, none⟩ ∧ ts.length + 1 ≤ c2 := by
          rcases tw.2.1.2 with ⟨e, e0⟩ | ⟨g, cap, cur, e, q1, q2, q3, q4⟩
          · omega
          · injection e with e1 _ e3
            exact ⟨g, e1, by omega⟩
        subst hp2
        have HEnd : Hid (TwP w ts.length (.returned (.slice (some ⟨g2, 0, none⟩) ts.length c2)) w3) := by
          refine ⟨some ⟨g2, 0, none⟩, c2, us, rfl, htw.1, tw.2.2.2, ?_⟩
          refine row_lits (rest := [markL]) tw.2.1 tw.1 (by omega) (fun g hg => (own_lt tw.2.1 g ((blk_own _ _ _ _).2 hg)).1) (by rw [htw.1]; exact short) (fun t ht => (tw.2.2.1 t (by simp [ht])).1) (fun t ht => (tw.2.2.1 t (by simp [ht])).2.keep (Fr.refl [] w3) (fun _ _ _ => by simp) (fun g hg _ => hg.1))
        have q1 : (ts.length : Int) ≤ (c2 : Int) := by omega
        clear hst htw tw r
        go_wp2_with (at_builtin; refine Lib.wpList_append_run _ rfl (.tmp 27) (.tmp 29) 22 22 rfl _ _ rfl rfl _ _ R.out ?_)
        go_ret
        exact HEnd.out
end Go.Proofs.YtclkoffnjiiioaaGreatDoor


namespace Go.Proofs.YtclkoffnjiiioaaGreatDoor
open Go.RowKit
set_option linter.unusedVariables false
set_option linter.unusedSimpArgs false
/-- a literal, wherever it lies -/
inductive LitS where
  | mk (kind : Int) (text : ByteArray) (num : Int) (kids : List LitS)
mutual
def stT : LitT → LitS
  | .mk k a n _ _ kids => .mk k a n (stL kids)
def stL : List LitT → List LitS
  | [] => []
  | t :: ts => stT t :: stL ts
end
theorem stL_nil : stL [] = [] := by rw [stL]
theorem stL_cons (t : LitT) (ts : List LitT) : stL (t :: ts) = stT t :: stL ts := by rw [stL]
theorem stT_mk (t : LitT) : stT t = .mk t.kind t.text t.num (stL t.kids) := by
  cases t with
  | mk k a n p c kids => rw [stT]; rfl
theorem stL_len : ∀ ts : List LitT, (stL ts).length = ts.length
  | [] => by rw [stL_nil]; rfl
  | t :: ts => by rw [stL_cons, List.length_cons, List.length_cons, stL_len ts]
theorem stL_map : ∀ ts : List LitT, stL ts = ts.map stT
  | [] => by rw [stL_nil]; rfl
  | t :: ts => by rw [stL_cons, List.map_cons, stL_map ts]
theorem stT_inj {a b : LitT} (h : stT a = stT b) : a.kind = b.kind ∧ a.text = b.text ∧ a.num = b.num ∧ stL a.kids = stL b.kids := by
  rw [stT_mk, stT_mk] at h
  injection h with h1 h2 h3 h4
  exact ⟨h1, h2, h3, h4⟩
/-- a tree of literals in blocks of its own, no block twice, a mark behind each list -/
inductive LitsM (w : World) : (Nat → Prop) → Option Addr → Nat → List LitT → Prop
  | mk (Ok : Nat → Prop) (g c : Nat) (ts : List LitT) (K : Nat → Nat → Prop) (row : w.ownsRow 0 49 4 (.slice (some ⟨g, 0, none⟩) (ts.length + 1) c) (ts.length + 1) (litCells (ts ++ [markL]))) (ok : Ok g) (short : ts.length ≤ 2513169434916) (txt : ∀ t ∈ ts, t.text.size ≤ 140737488355328)
      (sub : ∀ i b, K i b → Ok b ∧ b ≠ g) (dis : ∀ i j b, K i b → K j b → i = j) (kids : ∀ (i : Nat) (t : LitT), ts[i]? = some t → LitsM w (K i) t.p t.c t.kids) : LitsM w Ok (some ⟨g, 0, none⟩) c ts
/-- only blocks of a kind are written -/
structure FrP (Ok : Nat → Prop) (w w' : World) : Prop where
  os : w'.os = w.os
  tape : w'.tape = w.tape
  output : w'.output = w.output
  size : w.heap.size ≤ w'.heap.size
  block : ∀ k, k < w.heap.size → ¬ Ok k → w'.heap[k]? = w.heap[k]?
theorem Fr.frp {S : List Nat} {w w' : World} (h : Fr S w w') {Ok : Nat → Prop} (hS : ∀ g ∈ S, Ok g ∨ w.heap.size ≤ g) : FrP Ok w w' := ⟨h.os, h.tape, h.output, h.size, fun k hk hn => h.block k hk (fun hm => by rcases hS k hm with h1 | h1; exact hn h1; omega)⟩
theorem FrP.trans {Ok : Nat → Prop} {a b c : World} (h : FrP Ok a b) (k : FrP Ok b c) : FrP Ok a c := ⟨k.os.trans h.os, k.tape.trans h.tape, k.output.trans h.output, Nat.le_trans h.size k.size, fun i hi hn => (k.block i (Nat.lt_of_lt_of_le hi h.size) hn).trans (h.block i hi hn)⟩
theorem FrP.refl (Ok : Nat → Prop) (w : World) : FrP Ok w w := ⟨rfl, rfl, rfl, Nat.le_refl _, fun _ _ _ => rfl⟩
theorem FrP.mono {Ok Ok' : Nat → Prop} {w w' : World} (h : FrP Ok w w') (hO : ∀ b, Ok b → Ok' b) : FrP Ok' w w' := ⟨h.os, h.tape, h.output, h.size, fun k hk hn => h.block k hk (fun ho => hn (hO k ho))⟩
theorem LitsM.keep {w w' : World} {Ok Q : Nat → Prop} {p : Option Addr} {c : Nat} {ts : List LitT} (h : LitsM w Ok p c ts) (hf : FrP Q w w') (hQ : ∀ b, Ok b → ¬ Q b) : LitsM w' Ok p c ts := by
  induction h with
  | mk Ok g c ts K row ok short txt sub dis kids ih =>
    refine .mk Ok g c ts K (own_congr row fun b hb => ?_) ok short txt sub dis (fun i t ht => ih i t ht (fun b hb => hQ b (sub i b hb).1))
    have e : g = b := by simpa [Value.ownBlock] using hb
    subst e
    exact hf.block g (own_lt row g hb).2 (hQ g ok)
theorem LitsM.mono {w : World} {Ok Ok' : Nat → Prop} {p : Option Addr} {c : Nat} {ts : List LitT} (h : LitsM w Ok p c ts) (hO : ∀ b, Ok b → Ok' b) : LitsM w Ok' p c ts := by
  cases h with
  | mk _ g _ _ K row ok short txt sub dis kids => exact .mk Ok' g c ts K row (hO g ok) short txt (fun i b hb => ⟨hO b (sub i b hb).1, (sub i b hb).2⟩) dis kids
theorem LitsM.lt {w : World} {Ok : Nat → Prop} {p : Option Addr} {c : Nat} {ts : List LitT} (h : LitsM w Ok p c ts) : ∃ g, p = some ⟨g, 0, none⟩ ∧ ts.length + 1 ≤ c := by
  cases h with
  | mk _ g _ _ K row ok short txt sub dis kids =>
    refine ⟨g, rfl, ?_⟩
    rcases row.2 with ⟨e, e0⟩ | ⟨g', cap, cur, e, q1, q2, q3, q4⟩
    · omega
    · injection e with e1 _ e3; omega
/-- it can be read -/
theorem LitsM.plain {w : World} {Ok : Nat → Prop} {p : Option Addr} {c : Nat} {ts : List LitT} (h : LitsM w Ok p c ts) : LitsR w p c ts := by
  induction h with
  | mk Ok g c ts K row ok short txt sub dis kids ih =>
    have hl : (own_lt row g rfl).2 = (own_lt row g rfl).2 := rfl
    refine .mk _ c ts (fun hh => by cases hh) (fun _ => ⟨g, 0, rfl, (own_lt row g rfl).2, fun i t ht => ?_⟩) short txt (fun t ht => ?_)
    · have hlt : i < ts.length := (List.getElem?_eq_some_iff.1 ht).1
      have hit2 : (ts ++ [markL])[i]? = some t := by rw [List.getElem?_append_left hlt]; exact ht
      have hc : ∀ j, j < 4 → w.cell? ⟨g, i * 4 + j, none⟩ = (litc t)[j]? := fun j hj => by
        rw [row.cellAt (i * 4 + j) (by omega)]
        exact litCells_at _ i t j hit2 hj
      rw [Nat.zero_add]
      exact ⟨hc 0 (by omega), hc 1 (by omega), hc 2 (by omega), hc 3 (by omega)⟩
    · obtain ⟨i, hi, hit⟩ := List.getElem_of_mem ht
      exact ih i t (by rw [List.getElem?_eq_getElem hi, hit])
end Go.Proofs.YtclkoffnjiiioaaGreatDoor



