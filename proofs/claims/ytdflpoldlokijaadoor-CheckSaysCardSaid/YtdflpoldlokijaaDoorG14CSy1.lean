import Derived.Test.YtdflpoldlokijaaDoorG13CTwin
namespace Go.Proofs.YtdflpoldlokijaaDoor
open Go.RowKit
set_option linter.unusedVariables false
set_option linter.unusedSimpArgs false
attribute [local go_sem ↓] Go.wp_at_zero Go.wp_at_succ
/-- a level of literals: its cells can be read, and what is in them was there at first -/
structure LvR (w0 w : World) (p : Option Addr) (c : Nat) (ts : List LitT) : Prop where
  at_ : 0 < ts.length → ∃ g off, p = some ⟨g, off, none⟩ ∧ g < w.heap.size ∧ ∀ i t, ts[i]? = some t → LitAt w g (off + i * 4) t
  short : ts.length ≤ 2513169434916
  txt : ∀ t ∈ ts, t.text.size ≤ 140737488355328
  kids : ∀ t ∈ ts, LitsR w0 t.p t.c t.kids
theorem LvR.idle {w0 w w' : World} {p : Option Addr} {c : Nat} {ts : List LitT} (h : LvR w0 w p c ts) (hf : Fr [] w w') : LvR w0 w' p c ts :=
  ⟨fun hp => by obtain ⟨g, off, e, hg, hc⟩ := h.at_ hp; exact ⟨g, off, e, Nat.lt_of_lt_of_le hg hf.size, fun i t ht => (hc i t ht).idle hf⟩, h.short, h.txt, h.kids⟩
theorem litCells_len (l : List LitT) : (litCells l).length = l.length * 4 := by
  induction l with
  | nil => rfl
  | cons q l ih => rw [show litCells (q :: l) = litc q ++ litCells l by simp [litCells], List.length_append, ih]; simp [litc]; omega
theorem lit_one (l : List LitT) : ∀ x ∈ litCells l, x.oneCell' = true := fun x hx => by
  obtain ⟨t, _, ht⟩ := List.mem_flatMap.1 hx
  simp only [litc, List.mem_cons, List.not_mem_nil, or_false] at ht
  rcases ht with rfl | rfl | rfl | rfl <;> rfl
/-- all of a list of literals behind an own row -/
theorem push_lits {w0 w : World} {B : Nat} {p : Option Addr} {n c : Nat} {us : List LitT} (h : w.ownsRow B 54 4 (.slice p n c) n (litCells us)) (hl : us.length = n) {q : Option Addr} {d : Nat} {ks : List LitT} (hk : LitsR w0 q d ks) (hf : Fr [] w0 w) (hn : n + ks.length ≤ 2000000) (hB : B ≤ w.heap.size) :
    ∃ p' c' w', (Builtin.append_ #[22, 22] 22 #[.slice p n c, .slice q ks.length d]).run Tryd.prog w = .ok (.slice p' (n + ks.length) c') w' ∧ w'.ownsRow B 54 4 (.slice p' (n + ks.length) c') (n + ks.length) (litCells (us ++ ks)) ∧ Fr (blk p) w w' := by
  obtain ⟨i54, ii, iz, is, ib⟩ := info_parts info54
  cases hk with
  | mk _ _ _ nil at_ short txt kids =>
  have e : litCells (us ++ ks) = litCells us ++ litCells ks := by simp [litCells]
  cases q with
  | none =>
    have h0 : ks.length = 0 := by
      rcases Nat.eq_zero_or_pos ks.length with h0 | h0
      · exact h0
      · obtain ⟨g, off, e2, _⟩ := at_ h0; cases e2
    have hs : ks = [] := List.length_eq_zero_iff.1 h0
    have hc := nil rfl
    subst hs
    subst hc
    refine ⟨p, c, w, run_append_owned_none (P := Tryd.prog) (w := w) B 22 22 54 i54 4 Tryd.underlying22 ii _ _ _ h, by rw [List.append_nil]; exact h, Fr.refl _ _⟩
  | some ad =>
    have hnews : ∀ j x, (litCells ks)[j]? = some x → w.cell? (ad.add j) = some x := fun j x hx => by
      have hj : j < (litCells ks).length := (List.getElem?_eq_some_iff.1 hx).1
      rw [litCells_len] at hj
      obtain ⟨g, off, e2, hg, hc⟩ := at_ (by omega)
      have hi : j / 4 < ks.length := by omega
      have ht := List.getElem?_eq_getElem hi
      have hl4 := (hc (j / 4) _ ht).idle hf
      have hx2 := litCells_at ks (j / 4) _ (j % 4) ht (Nat.mod_lt _ (by decide))
      rw [show j / 4 * 4 + j % 4 = j by omega, hx] at hx2
      rw [Option.some.inj e2, Addr.add_mid, show off + j = off + j / 4 * 4 + j % 4 by omega]
      have hm : j % 4 < 4 := Nat.mod_lt _ (by decide)
      generalize j % 4 = m at *
      rcases m with _ | _ | _ | _ | m
      · rw [Nat.add_zero, hl4.c0]; exact hx2.symm
      · rw [hl4.c1]; exact hx2.symm
      · rw [hl4.c2]; exact hx2.symm
      · rw [hl4.c3]; exact hx2.symm
      · omega
    obtain ⟨v', w', hr, h2, h3, _, h5⟩ := run_append_own_at (P := Tryd.prog) w B 22 22 54 i54 _ 4 56 Tryd.underlying22 ii iz is ib rfl (by decide) _ _ _ h ad ks.length d (litCells ks) (by rw [litCells_len]) hnews (lit_one ks) (by unfold maxLen; omega) (by omega) hB
    obtain ⟨p', c', rfl⟩ : ∃ p' c', v' = .slice p' (n + ks.length) c' := by
      rcases h2.2 with ⟨rfl, e0⟩ | ⟨g', cap, cur, rfl, _⟩
      · exact ⟨none, 0, by rw [e0]⟩
      · exact ⟨_, _, rfl⟩
    refine ⟨p', c', w', hr, by rw [e]; exact h2, Fr.grown h3 (fun k hk => (blk_own p n c k).1 hk)⟩
end Go.Proofs.YtdflpoldlokijaaDoor
namespace Go.Proofs.YtdflpoldlokijaaDoor
open Go.RowKit
set_option linter.unusedVariables false
set_option linter.unusedSimpArgs false
attribute [local go_sem ↓] Go.wp_at_zero Go.wp_at_succ
def AnyB (w : World) (e : Ending) (w' : World) : Prop := ∃ b, e = .returned (.bool b) ∧ Fr [] w w'
/-- the next level under way -/
def Nxt (w0 w wr : World) (k : Nat) (p : Option Addr) (c : Nat) (us : List LitT) : Prop := us.length = k ∧ wr.ownsRow w.heap.size 54 4 (.slice p k c) k (litCells us) ∧ (∀ u ∈ us, u.text.size ≤ 140737488355328 ∧ LitsR w0 u.p u.c u.kids) ∧ Fr [] w wr
theorem Nxt.lvr {w0 w wr : World} {k : Nat} {p : Option Addr} {c : Nat} {us : List LitT} (h : Nxt w0 w wr k p c us) (hk : k ≤ 2000000) : LvR w0 wr p c us := by
  refine ⟨fun hp => ?_, by rw [h.1]; omega, fun t ht => (h.2.2.1 t ht).1, fun t ht => (h.2.2.1 t ht).2⟩
  rcases h.2.1.2 with ⟨e, e0⟩ | ⟨g, cap, cur, e, q1, q2, q3, q4⟩
  · have := h.1; omega
  · injection e with e1 _ e3
    subst e1
    refine ⟨g, 0, rfl, lt_of_heap q2, fun i t hit => ?_⟩
    have hlt : i < us.length := (List.getElem?_eq_some_iff.1 hit).1
    have hc : ∀ j, j < 4 → wr.cell? ⟨g, i * 4 + j, none⟩ = (litc t)[j]? := fun j hj => by
      rw [h.2.1.cellAt (i * 4 + j) (by have := h.1; omega)]
      exact litCells_at _ i t j hit hj
    rw [Nat.zero_add]
    exact ⟨hc 0 (by omega), hc 1 (by omega), hc 2 (by omega), hc 3 (by omega)⟩
set_option maxRecDepth 100000 in
set_option maxHeartbeats 4000000 in
theorem beyond_ok (w : World) (p : Option Addr) (c : Nat) (ts : List LitT) (h : LitsR w p c ts) : Calls Tryd.prog 5 #[.slice p ts.length c] w fun e w' => AnyB w e w' := by
  have HL0 : Hid (LvR w w p c ts) := by
    cases h with
    | mk _ _ _ nil at_ short txt kids => exact ⟨at_, short, txt, kids⟩
  clear h
  go_enter Tryd.func5, Tryd.ntmps5
  go_wp2_with fail
  go_loopw [0, 3, 4] (fun l n d wr => ∃ (p : Option Addr) (c : Nat) (ts : List LitT) (N D : Nat), l = .slice p ts.length c ∧ n = .int .i64 N ∧ d = .int .i64 D ∧ N ≤ 1048576 ∧ D ≤ 65536 ∧ ts.length ≤ 2513169434916 ∧ Hid (LvR w wr p c ts ∧ Fr [] w wr)) (fun _ _ d _ => 65537 - (intOf d).toNat)
  case atStart => exact ⟨p, c, ts, 0, 0, rfl, rfl, rfl, by omega, by omega, HL0.out.short, HL0.out, Fr.refl _ _⟩
  case round =>
    clear HL0
    obtain ⟨p, c, ts, N, D, rfl, rfl, rfl, hN, hD, hsh, hst⟩ := hrel
    have N0 : (0 : Int) ≤ (N : Int) := by omega
    by_cases h0 : ts.length = 0
    · have d0 : ¬ (0 : Int) < (ts.length : Int) := by omega
      have d1 : decide ((0 : Int) < (ts.length : Int)) = false := decide_eq_false d0
      have HF := mkHid hst.out.2
      clear hst h0
      go_wp2_with fail
      go_ret
      exact ⟨_, rfl, HF.out⟩
    · have d0 : (0 : Int) < (ts.length : Int) := by omega
      by_cases hbig : 65536 ≤ D ∨ 1048576 < N + ts.length
      · have HF := mkHid hst.out.2
        by_cases hb1 : 65536 ≤ D
        · have e1 : (65536 : Int) ≤ (D : Int) := by omega
          clear hst h0 hbig hb1
          go_wp2_with fail
          go_ret
          exact ⟨_, rfl, HF.out⟩
        · have e1 : decide ((65536 : Int) ≤ (D : Int)) = false := decide_eq_false (by omega)
          have e2 : (1048576 : Int) < (N : Int) + (ts.length : Int) := by omega
          clear hst h0 hbig hb1
          go_wp2_with fail
          go_ret
          exact ⟨_, rfl, HF.out⟩
      · have e1 : decide ((65536 : Int) ≤ (D : Int)) = false := decide_eq_false (by omega)
        have e2 : decide ((1048576 : Int) < (N : Int) + (ts.length : Int)) = false := decide_eq_false (by omega)
        have hT : ts.length ≤ 1048576 := by omega
        have hD2 : D < 65536 := by omega
        have HL := mkHid hst.out.1
        have HF := mkHid hst.out.2
        have hNs : N + ts.length ≤ 1048576 := by omega
        clear hst h0 hbig
        go_wp2_with fail
        generalize wr = wo at *
        go_loopw [3, 5, 6] (fun n m q wr => ∃ (i N2 k : Nat) (p2 : Option Addr) (c2 : Nat), i ≤ ts.length ∧ q = .int .i64 i ∧ n = .int .i64 N2 ∧ N2 ≤ 1048576 ∧ m = .slice p2 k c2 ∧ k ≤ 1048576 ∧ Hid (∃ us, Nxt w wo wr k p2 c2 us)) (fun _ _ q _ => ts.length - (intOf q).toNat)
        case atStart => exact ⟨0, N + ts.length, 0, none, 0, Nat.zero_le _, rfl, by go_num, hNs, rfl, by omega, [], rfl, ⟨rfl, .inl ⟨rfl, rfl⟩⟩, fun u hu => by simp at hu, Fr.refl _ _⟩
        case round =>
          obtain ⟨i, N2, k, p2, c2, hin, rfl, rfl, hN2, rfl, hk, hst⟩ := hrel
          obtain ⟨us, hus⟩ := hst.out
          have i0 : (0 : Int) ≤ (i : Int) := by omega
          by_cases hlt : i < ts.length
          · have i1 : (i : Int) < (ts.length : Int) := by omega
            obtain ⟨ge, oe, rfl, hge, hce⟩ := HL.out.at_ (by omega)
            obtain ⟨t2, ht2⟩ : ∃ t2, ts[i]? = some t2 := ⟨_, List.getElem?_eq_getElem hlt⟩
            have hmem := List.mem_of_getElem? ht2
            obtain ⟨-, y1, -, y3'⟩ := (hce i t2 ht2).idle hus.2.2.2
            have y3 : wr.cell? ⟨ge, oe + i * 4 + 3, none⟩ = some (.slice t2.p t2.kids.length t2.c) := y3'
            have htx := HL.out.txt t2 hmem
            have hkr := HL.out.kids t2 hmem
            have hks : t2.kids.length ≤ 2513169434916 := by cases hkr with | mk _ _ _ _ _ sh _ _ => exact sh
            have tx0 : (0 : Int) ≤ (t2.text.size : Int) := by omega
            have FW0 : Fr [] w wr := HF.out.tr0 hus.2.2.2
            by_cases hov : 1048576 < N2 + t2.text.size / 64 + k + t2.kids.length
            · have HFx := mkHid FW0
              have e5 : (1048576 : Int) < (N2 : Int) + (t2.text.size : Int) / 64 + (k : Int) + (t2.kids.length : Int) := by omega
              clear hst hus hce ht2 hmem hkr y3' hov FW0
              generalize t2.kids.length = tn at *
              generalize t2.text = tt at *
              go_wp2_with fail
              go_ret
              exact ⟨_, rfl, HFx.out⟩
            · obtain ⟨p3, c3, w3, r3, o3, f3⟩ := push_lits hus.2.1 hus.1 hkr FW0 (by omega) hus.2.2.2.size
              have HR := mkHid r3
              have HNx : Hid (∃ us, Nxt w wo w3 (k + t2.kids.length) p3 c3 us) := by
                refine ⟨us ++ t2.kids, by simp [hus.1], o3, fun u hu => ?_, hus.2.2.2.trans f3 (fun g hg => .inr (own_lt hus.2.1 g ((blk_own _ _ _ _).2 hg)).1)⟩
                rcases List.mem_append.1 hu with hu | hu
                · exact hus.2.2.1 u hu
                · cases hkr with
                  | mk _ _ _ _ _ _ tx kk => exact ⟨tx u hu, kk u hu⟩
              have e5 : ¬ (1048576 : Int) < (N2 : Int) + (t2.text.size : Int) / 64 + (k : Int) + (t2.kids.length : Int) := by omega
              have e6 : decide ((1048576 : Int) < (N2 : Int) + (t2.text.size : Int) / 64 + (k : Int) + (t2.kids.length : Int)) = false := decide_eq_false e5
              have b1 : N2 + t2.text.size / 64 ≤ 1048576 := by omega
              have b2 : k + t2.kids.length ≤ 1048576 := by omega
              have ec : (N2 : Int) + (t2.text.size : Int) / 64 = ((N2 + t2.text.size / 64 : Nat) : Int) := by omega
              have HEc := mkHid ec
              clear hst hus hce ht2 hmem hkr y3' hov FW0 r3 o3 f3 ec
              generalize t2.kids.length = tn at *
              generalize t2.text = tt at *
              generalize t2.p = tp at *
              generalize t2.c = tc at *
              go_wp2_with (at_builtin; refine Lib.wpList_append_run _ rfl (.tmp 49) (.tmp 54) 22 22 rfl _ _ rfl rfl _ _ HR.out ?_)
              go_roundw
              case rel => exact ⟨_, _, _, _, ⟨i + 1, by omega, by go_num, N2 + tt.size / 64, by rw [HEc.out], b1, k + tn, p3, c3, rfl, b2, HNx.out⟩, rfl, rfl, rfl, rfl⟩
              case measure => simp [intOf]; omega
          · have i1 : ¬ (i : Int) < (ts.length : Int) := by omega
            have d9 : decide ((i : Int) < (ts.length : Int)) = false := decide_eq_false i1
            have HU := mkHid hus
            have hul := hus.1
            have HLv := mkHid (hus.lvr (by omega))
            have HFr := mkHid (HF.out.tr0 hus.2.2.2)
            clear hst hus
            go_wp2_with fail
            go_roundw
            case rel => exact ⟨p2, c2, us, N2, D + 1, by rw [hul], rfl, by go_num, hN2, by omega, by omega, HLv.out, HFr.out⟩
            case measure => simp [intOf]; omega
end Go.Proofs.YtdflpoldlokijaaDoor
namespace Go.Proofs.YtdflpoldlokijaaDoor
open Go.RowKit
set_option linter.unusedVariables false
set_option linter.unusedSimpArgs false
attribute [local go_sem ↓] Go.wp_at_zero Go.wp_at_succ
def TwP (w : World) (n : Nat) (e : Ending) (w' : World) : Prop := ∃ p' c' us, e = .returned (.slice p' n c') ∧ us.length = n ∧ Fr [] w w' ∧ LitsO w' (fun g => w.heap.size ≤ g) p' c' us
/-- a row of copies under way -/
def Tw (w wr : World) (i : Nat) (p' : Option Addr) (c' : Nat) (us : List LitT) : Prop := us.length = i ∧ wr.ownsRow w.heap.size 54 4 (.slice p' i c') i (litCells us) ∧ (∀ u ∈ us, u.text.size ≤ 140737488355328 ∧ LitsO wr (fun g => w.heap.size ≤ g ∧ g ∉ blk p') u.p u.c u.kids) ∧ Fr [] w wr
def markL : LitT := .mk (-7) ⟨#[]⟩ 0 none 0 []
theorem markL_kids (w : World) (Ok : Nat → Prop) : LitsO w Ok markL.p markL.c markL.kids := .mk none 0 [] (fun _ => rfl) (fun h => by simp at h) (by simp) (fun t ht => by simp at ht) (fun t ht => by simp at ht)
/-- one copy more -/
theorem Tw.push {w wr V : World} {i : Nat} {p' : Option Addr} {c' : Nat} {us : List LitT} (h : Tw w wr i p' c' us) (hi : i ≤ 2513169434916) (S : List Nat) (hf : Fr S wr V) (hS : ∀ g ∈ S, wr.heap.size ≤ g) (u : LitT) (hu : u.text.size ≤ 140737488355328) (hk : LitsO V (fun g => w.heap.size ≤ g ∧ g ∉ blk p') u.p u.c u.kids) :
    ∃ p2 c2 w3, (Builtin.append_ #[22, 22] 22 #[.slice p' i c', .slice (some ⟨V.heap.size, 0, none⟩) 1 1]).run Tryd.prog (V.alloc (.cells (litc u).toArray 54)) = .ok (.slice p2 (i + 1) c2) w3 ∧ Tw w w3 (i + 1) p2 c2 (us ++ [u]) := by
  obtain ⟨hl, ho, hks, hfr⟩ := h
  have hb := fun g (hg : g ∈ blk p') => own_lt ho g ((blk_own _ _ _ _).2 hg)
  have ho2 : V.ownsRow w.heap.size 54 4 (.slice p' i c') i (litCells us) := own_congr ho fun g hg => hf.block g (own_lt ho g hg).2 (fun hm => by have := hS g hm; have := (own_lt ho g hg).2; omega)
  have hFV : Fr [] w V := hfr.trans hf (fun g hg => .inr (Nat.le_trans hfr.size (hS g hg)))
  obtain ⟨p2, c2, w3, r, o3, m⟩ := pushS (t := 22) (e := 54) Tryd.underlying22 info54 rfl (by decide) V w.heap.size p' c' i (litCells us) (litc u) rfl ho2 (by simp [litc, Value.oneCell', LitT.items]) (by unfold maxLen; omega) (by omega) hFV.size
  have hksV : ∀ y ∈ us, LitsO V (fun g => w.heap.size ≤ g ∧ g ∉ blk p') y.p y.c y.kids := fun y hy => (hks y hy).2.keep hf (fun g hg hl hm => by have := hS g hm; omega) (fun g hg _ => hg)
  have hall : ∀ y ∈ us ++ [u], y.text.size ≤ 140737488355328 ∧ LitsO V (fun g => w.heap.size ≤ g ∧ g ∉ blk p') y.p y.c y.kids := fun y hy => by
    rcases List.mem_append.1 hy with hy | hy
    · exact ⟨(hks y hy).1, hksV y hy⟩
    · have : y = u := by simpa using hy
      subst this; exact ⟨hu, hk⟩
  refine ⟨p2, c2, w3, r, by simp [hl], ?_, fun y hy => ⟨(hall y hy).1, ?_⟩, ?_⟩
  · have e : litCells (us ++ [u]) = litCells us ++ litc u := by simp [litCells]
    rw [e]; exact o3
  · rcases m with ⟨rfl, -, e3⟩ | ⟨e1, e2⟩
    · exact (hall y hy).2.keep e3 (fun g hg _ => hg.2) (fun g hg _ => hg)
    · exact (hall y hy).2.keep e1 (fun g hg _ => by simp) (fun g hg hl => ⟨hg.1, fun hm => by have := e2 g hm; omega⟩)
  · rcases m with ⟨-, -, e3⟩ | ⟨e1, -⟩
    · exact hFV.trans e3 (fun g hg => .inr (hb g hg).1)
    · exact hFV.tr0 e1
set_option maxRecDepth 100000 in
set_option maxHeartbeats 4000000 in
theorem twin_ok (w0 : World) (p : Option Addr) (c : Nat) (ts : List LitT) (h : LitsR w0 p c ts) : ∀ w, Fr [] w0 w → Calls Tryd.prog 7 #[.slice p ts.length c] w fun e w' => TwP w ts.length e w' := by
  induction h with
  | mk p c ts nil at_ short txt kids ih =>
    intro w hf
    have HAt := mkHid at_
    have HIh := mkHid ih
    have HTx := mkHid txt
    have HF := mkHid hf
    clear at_ ih txt hf nil kids
    go_enter Tryd.func7, Tryd.ntmps7
    go_wp2_with fail
    go_loopw [3, 4] (fun m q wr => ∃ i : Nat, i ≤ ts.length ∧ q = .int .i64 i ∧ ∃ p' c', m = .slice p' i c' ∧ Hid (∃ us, Tw w wr i p' c' us)) (fun _ q _ => ts.length - (intOf q).toNat)
    case atStart => exact ⟨0, Nat.zero_le _, rfl, none, 0, rfl, [], rfl, ⟨rfl, .inl ⟨rfl, rfl⟩⟩, fun u hu => by simp at hu, Fr.refl _ _⟩
    case round =>
      obtain ⟨i, hin, rfl, p', c', rfl, hst⟩ := hrel
      obtain ⟨us, htw⟩ := hst.out
      have i0 : (0 : Int) ≤ (i : Int) := by omega
      by_cases hlt : i < ts.length
      · have i1 : (i : Int) < (ts.length : Int) := by omega
        obtain ⟨ge, oe, rfl, hge, hce⟩ := HAt.out (by omega)
        obtain ⟨t2, ht2⟩ : ∃ t2, ts[i]? = some t2 := ⟨_, List.getElem?_eq_getElem hlt⟩
        have F0 : Fr [] w0 wr := HF.out.tr0 htw.2.2.2
        have hl := (hce i t2 ht2).idle F0
        have hmem := List.mem_of_getElem? ht2
        obtain ⟨y0, y1, y2, y3'⟩ := hl
        have y3 : wr.cell? ⟨ge, oe + i * 4 + 3, none⟩ = some (.slice t2.p t2.kids.length t2.c) := y3'
        have HTw := mkHid htw
        have HTx2 := mkHid (HTx.out t2 hmem)
        have HCall : Hid (∀ o, Calls Tryd.prog 7 #[.slice t2.p t2.kids.length t2.c] (wr.alloc o) fun e w' => TwP (wr.alloc o) t2.kids.length e w') := fun o => HIh.out t2 hmem (wr.alloc o) (F0.al o)
        have hgw : ge < wr.heap.size := Nat.lt_of_lt_of_le hge F0.size
        have HPush : Hid (∀ w1 o p1 c1 us1, us1.length = t2.kids.length → Fr [] (wr.alloc o) w1 → LitsO w1 (fun g => (wr.alloc o).heap.size ≤ g) p1 c1 us1 → ∃ p2 c2 w3, (Builtin.append_ #[22, 22] 22 #[.slice p' i c', .slice (some ⟨w1.heap.size, 0, none⟩) 1 1]).run Tryd.prog ((w1.setCell ⟨wr.heap.size, 3, none⟩ (.slice p1 t2.kids.length c1)).alloc (.cells #[.int .i64 t2.kind, .string t2.text, .int .i64 t2.num, .slice p1 t2.kids.length c1] 54)) = .ok (.slice p2 (i + 1) c2) w3 ∧ ∃ us', Tw w w3 (i + 1) p2 c2 us') := fun w1 o p1 c1 us1 hlen f1 o1 => by
          have fs : Fr [wr.heap.size] w1 (w1.setCell ⟨wr.heap.size, 3, none⟩ (.slice p1 t2.kids.length c1)) := Fr.setCell (S := [wr.heap.size]) w1 ⟨wr.heap.size, 3, none⟩ _ (by simp)
          have fV : Fr [wr.heap.size] wr (w1.setCell ⟨wr.heap.size, 3, none⟩ (.slice p1 t2.kids.length c1)) := (((Fr.alloc [] wr o).tr0 f1).mono (S' := [wr.heap.size]) (by simp)).trans fs (fun g hg => .inl hg)
          have hsz : (wr.alloc o).heap.size = wr.heap.size + 1 := by simp
          have hk : LitsO (w1.setCell ⟨wr.heap.size, 3, none⟩ (.slice p1 t2.kids.length c1)) (fun g => w.heap.size ≤ g ∧ g ∉ blk p') p1 c1 us1 := o1.keep fs (fun g hg _ hm => by simp at hm; omega) (fun g hg _ => ⟨by have := HTw.out.2.2.2.size; omega, fun hm => by have := (own_lt HTw.out.2.1 g ((blk_own _ _ _ _).2 hm)).2; omega⟩)
          obtain ⟨p2, c2, w3, r, tw⟩ := HTw.out.push (V := w1.setCell ⟨wr.heap.size, 3, none⟩ (.slice p1 t2.kids.length c1)) (by omega) [wr.heap.size] fV (by simp) (.mk t2.kind t2.text t2.num p1 c1 us1) HTx2.out hk
          have es : (w1.setCell ⟨wr.heap.size, 3, none⟩ (.slice p1 t2.kids.length c1)).heap.size = w1.heap.size := by simp
          rw [es] at r
          refine ⟨p2, c2, w3, ?_, _, tw⟩
          have el : (litc (.mk t2.kind t2.text t2.num p1 c1 us1)).toArray = #[.int .i64 t2.kind, .string t2.text, .int .i64 t2.num, .slice p1 t2.kids.length c1] := by
            show #[Value.int .i64 t2.kind, .string t2.text, .int .i64 t2.num, .slice p1 us1.length c1] = _
            rw [hlen]
          rw [el] at r
          exact r
        clear hst htw hce F0 hmem ht2 y3'
        generalize t2.kind = k0 at *
        generalize t2.text = k1 at *
        generalize t2.num = k2 at *
        generalize t2.p = tp at *
        generalize t2.c = tc at *
        generalize t2.kids.length = tn at *
        go_wp2_with (first
          | (go_at_call 7; refine (HCall.out _).mono ?_; rintro e w1 ⟨p1, c1, us1, rfl, hl1, f1, o1⟩; have x0 : w1.heap[wr.heap.size]? = some (.cells #[.int .i64 k0, .string k1, .int .i64 k2, .slice tp tn tc] 54 (0, 0)) := f1.hb (heap_alloc_new wr _); obtain ⟨p2, c2, w3, r3, tw3⟩ := HPush.out w1 _ p1 c1 us1 hl1 f1 o1; have u0 : w1.cell? ⟨wr.heap.size, 0, none⟩ = some (.int .i64 k0) := by rw [cell_in x0]; rfl
             have u1 : w1.cell? ⟨wr.heap.size, 1, none⟩ = some (.string k1) := by rw [cell_in x0]; rfl
             have u2 : w1.cell? ⟨wr.heap.size, 2, none⟩ = some (.int .i64 k2) := by rw [cell_in x0]; rfl
             have u3 : w1.cell? ⟨wr.heap.size, 3, none⟩ = some (.slice tp tn tc) := by rw [cell_in x0]; rfl
             have z3 := frozen_in x0 3
             have R3 := mkHid r3
             have T3 := mkHid tw3
             clear x0 r3 tw3 f1 o1 hl1)
          | (at_builtin; refine Lib.wpList_append_run _ rfl (.tmp 23) (.tmp 25) 22 22 rfl _ _ rfl rfl _ _ R3.out ?_))
        go_roundw
        case rel => exact ⟨i + 1, by omega, by go_num, p2, c2, rfl, T3.out⟩
        case measure => simp [intOf]; omega
      · have i1 : ¬ (i : Int) < (ts.length : Int) := by omega
        have d1 : decide ((i : Int) < (ts.length : Int)) = false := decide_eq_false i1
        have hie : i = ts.length := by omega
        subst hie
        obtain ⟨p2, c2, w3, r, tw⟩ := htw.push (V := wr) (by omega) [] (Fr.refl [] wr) (by simp) markL (by decide) (markL_kids wr _)
        have R := mkHid r
        obtain ⟨g2, hp2, hc2⟩ : ∃ g2, p2 = some ⟨g2, 0, none⟩ ∧ ts.length + 1 ≤ c2 := by
          rcases tw.2.1.2 with ⟨e, e0⟩ | ⟨g, cap, cur, e, q1, q2, q3, q4⟩
          · omega
          · injection e with e1 _ e3
            exact ⟨g, e1, by omega⟩
        subst hp2
        have HEnd : Hid (TwP w ts.length (.returned (.slice (some ⟨g2, 0, none⟩) ts.length c2)) w3) := by
          refine ⟨some ⟨g2, 0, none⟩, c2, us, rfl, htw.1, tw.2.2.2, ?_⟩
          refine row_lits (rest := [markL]) tw.2.1 tw.1 (by omega) (fun g hg => (own_lt tw.2.1 g ((blk_own _ _ _ _).2 hg)).1) (by rw [htw.1]; exact short) (fun t ht => (tw.2.2.1 t (by simp [ht])).1) (fun t ht => (tw.2.2.1 t (by simp [ht])).2.keep (Fr.refl [] w3) (fun _ _ _ => by simp) (fun g hg _ => hg.1))
        have q1 : (ts.length : Int) ≤ (c2 : Int) := by omega
        clear hst htw tw r
        go_wp2_with (at_builtin; refine Lib.wpList_append_run _ rfl (.tmp 27) (.tmp 29) 22 22 rfl _ _ rfl rfl _ _ R.out ?_)
        go_ret
        exact HEnd.out
end Go.Proofs.YtdflpoldlokijaaDoor
namespace Go.Proofs.YtdflpoldlokijaaDoor
open Go.RowKit
set_option linter.unusedVariables false
set_option linter.unusedSimpArgs false
/-- a literal, wherever it lies -/
inductive LitS where
  | mk (kind : Int) (text : ByteArray) (num : Int) (kids : List LitS)
mutual
def stT : LitT → LitS
  | .mk k a n _ _ kids => .mk k a n (stL kids)
def stL : List LitT → List LitS
  | [] => []
  | t :: ts => stT t :: stL ts
end
theorem stL_nil : stL [] = [] := by rw [stL]
theorem stL_cons (t : LitT) (ts : List LitT) : stL (t :: ts) = stT t :: stL ts := by rw [stL]
theorem stT_mk (t : LitT) : stT t = .mk t.kind t.text t.num (stL t.kids) := by
  cases t with
  | mk k a n p c kids => rw [stT]; rfl
theorem stL_len : ∀ ts : List LitT, (stL ts).length = ts.length
  | [] => by rw [stL_nil]; rfl
  | t :: ts => by rw [stL_cons, List.length_cons, List.length_cons, stL_len ts]
theorem stL_map : ∀ ts : List LitT, stL ts = ts.map stT
  | [] => by rw [stL_nil]; rfl
  | t :: ts => by rw [stL_cons, List.map_cons, stL_map ts]
theorem stT_inj {a b : LitT} (h : stT a = stT b) : a.kind = b.kind ∧ a.text = b.text ∧ a.num = b.num ∧ stL a.kids = stL b.kids := by
  rw [stT_mk, stT_mk] at h
  injection h with h1 h2 h3 h4
  exact ⟨h1, h2, h3, h4⟩
/-- a tree of literals in blocks of its own, no block twice, a mark behind each list -/
inductive LitsM (w : World) : (Nat → Prop) → Option Addr → Nat → List LitT → Prop
  | mk (Ok : Nat → Prop) (g c : Nat) (ts : List LitT) (K : Nat → Nat → Prop) (row : w.ownsRow 0 54 4 (.slice (some ⟨g, 0, none⟩) (ts.length + 1) c) (ts.length + 1) (litCells (ts ++ [markL]))) (ok : Ok g) (short : ts.length ≤ 2513169434916) (txt : ∀ t ∈ ts, t.text.size ≤ 140737488355328)
      (sub : ∀ i b, K i b → Ok b ∧ b ≠ g) (dis : ∀ i j b, K i b → K j b → i = j) (kids : ∀ (i : Nat) (t : LitT), ts[i]? = some t → LitsM w (K i) t.p t.c t.kids) : LitsM w Ok (some ⟨g, 0, none⟩) c ts
/-- only blocks of a kind are written -/
structure FrP (Ok : Nat → Prop) (w w' : World) : Prop where
  os : w'.os = w.os
  tape : w'.tape = w.tape
  output : w'.output = w.output
  size : w.heap.size ≤ w'.heap.size
  block : ∀ k, k < w.heap.size → ¬ Ok k → w'.heap[k]? = w.heap[k]?
theorem Fr.frp {S : List Nat} {w w' : World} (h : Fr S w w') {Ok : Nat → Prop} (hS : ∀ g ∈ S, Ok g ∨ w.heap.size ≤ g) : FrP Ok w w' := ⟨h.os, h.tape, h.output, h.size, fun k hk hn => h.block k hk (fun hm => by rcases hS k hm with h1 | h1; exact hn h1; omega)⟩
theorem FrP.trans {Ok : Nat → Prop} {a b c : World} (h : FrP Ok a b) (k : FrP Ok b c) : FrP Ok a c := ⟨k.os.trans h.os, k.tape.trans h.tape, k.output.trans h.output, Nat.le_trans h.size k.size, fun i hi hn => (k.block i (Nat.lt_of_lt_of_le hi h.size) hn).trans (h.block i hi hn)⟩
theorem FrP.refl (Ok : Nat → Prop) (w : World) : FrP Ok w w := ⟨rfl, rfl, rfl, Nat.le_refl _, fun _ _ _ => rfl⟩
theorem FrP.mono {Ok Ok' : Nat → Prop} {w w' : World} (h : FrP Ok w w') (hO : ∀ b, Ok b → Ok' b) : FrP Ok' w w' := ⟨h.os, h.tape, h.output, h.size, fun k hk hn => h.block k hk (fun ho => hn (hO k ho))⟩
theorem LitsM.keep {w w' : World} {Ok Q : Nat → Prop} {p : Option Addr} {c : Nat} {ts : List LitT} (h : LitsM w Ok p c ts) (hf : FrP Q w w') (hQ : ∀ b, Ok b → ¬ Q b) : LitsM w' Ok p c ts := by
  induction h with
  | mk Ok g c ts K row ok short txt sub dis kids ih =>
    refine .mk Ok g c ts K (own_congr row fun b hb => ?_) ok short txt sub dis (fun i t ht => ih i t ht (fun b hb => hQ b (sub i b hb).1))
    have e : g = b := by simpa [Value.ownBlock] using hb
    subst e
    exact hf.block g (own_lt row g hb).2 (hQ g ok)
theorem LitsM.mono {w : World} {Ok Ok' : Nat → Prop} {p : Option Addr} {c : Nat} {ts : List LitT} (h : LitsM w Ok p c ts) (hO : ∀ b, Ok b → Ok' b) : LitsM w Ok' p c ts := by
  cases h with
  | mk _ g _ _ K row ok short txt sub dis kids => exact .mk Ok' g c ts K row (hO g ok) short txt (fun i b hb => ⟨hO b (sub i b hb).1, (sub i b hb).2⟩) dis kids
theorem LitsM.lt {w : World} {Ok : Nat → Prop} {p : Option Addr} {c : Nat} {ts : List LitT} (h : LitsM w Ok p c ts) : ∃ g, p = some ⟨g, 0, none⟩ ∧ ts.length + 1 ≤ c := by
  cases h with
  | mk _ g _ _ K row ok short txt sub dis kids =>
    refine ⟨g, rfl, ?_⟩
    rcases row.2 with ⟨e, e0⟩ | ⟨g', cap, cur, e, q1, q2, q3, q4⟩
    · omega
    · injection e with e1 _ e3; omega
/-- it can be read -/
theorem LitsM.plain {w : World} {Ok : Nat → Prop} {p : Option Addr} {c : Nat} {ts : List LitT} (h : LitsM w Ok p c ts) : LitsR w p c ts := by
  induction h with
  | mk Ok g c ts K row ok short txt sub dis kids ih =>
    have hl : (own_lt row g rfl).2 = (own_lt row g rfl).2 := rfl
    refine .mk _ c ts (fun hh => by cases hh) (fun _ => ⟨g, 0, rfl, (own_lt row g rfl).2, fun i t ht => ?_⟩) short txt (fun t ht => ?_)
    · have hlt : i < ts.length := (List.getElem?_eq_some_iff.1 ht).1
      have hit2 : (ts ++ [markL])[i]? = some t := by rw [List.getElem?_append_left hlt]; exact ht
      have hc : ∀ j, j < 4 → w.cell? ⟨g, i * 4 + j, none⟩ = (litc t)[j]? := fun j hj => by
        rw [row.cellAt (i * 4 + j) (by omega)]
        exact litCells_at _ i t j hit2 hj
      rw [Nat.zero_add]
      exact ⟨hc 0 (by omega), hc 1 (by omega), hc 2 (by omega), hc 3 (by omega)⟩
    · obtain ⟨i, hi, hit⟩ := List.getElem_of_mem ht
      exact ih i t (by rw [List.getElem?_eq_getElem hi, hit])
/-- what look says does not depend on where literals lie -/
theorem elem_st {sym : Int} {a b : LitT} (h : stT a = stT b) : elemB sym a = elemB sym b ∧ objB a = objB b := by
  obtain ⟨h1, h2, h3, h4⟩ := stT_inj h
  have h5 : a.kids.length = b.kids.length := by rw [← stL_len, h4, stL_len]
  unfold elemB objB
  rw [h1, h2, h3, h5]
  exact ⟨rfl, rfl⟩
end Go.Proofs.YtdflpoldlokijaaDoor
