import Derived.Test.YtclkoffnjiiioaaGreatDoorTG03CSy1
namespace Go.Proofs.YtclkoffnjiiioaaGreatDoor
open Go.RowKit
set_option linter.unusedVariables false
set_option linter.unusedSimpArgs false
attribute [local go_sem ↓] Go.wp_at_zero Go.wp_at_succ
/-- a list of copies under way -/
structure Te (w wr : World) (ts : List LitT) (i : Nat) (p' : Option Addr) (c' : Nat) (us : List LitT) (K : Nat → Nat → Prop) : Prop where
  st : stL us = stL (ts.take i)
  len : us.length = i
  row : wr.ownsRow w.heap.size 49 4 (.slice p' i c') i (litCells us)
  txt : ∀ t ∈ us, t.text.size ≤ 140737488355328
  sub : ∀ j b, K j b → w.heap.size ≤ b ∧ b < wr.heap.size ∧ b ∉ blk p'
  dis : ∀ a b x, K a x → K b x → a = b
  kids : ∀ (j : Nat) (t : LitT), us[j]? = some t → LitsM wr (K j) t.p t.c t.kids
  idx : ∀ j b, K j b → j < i
  fr : Fr [] w wr
theorem Te.push {w wr V : World} {ts : List LitT} {i : Nat} {p' : Option Addr} {c' : Nat} {us : List LitT} {K : Nat → Nat → Prop} (h : Te w wr ts i p' c' us K) (hi : i ≤ 2513169434916) (S : List Nat) (hf : Fr S wr V) (hS : ∀ g ∈ S, wr.heap.size ≤ g) (u t : LitT) (hit : ts[i]? = some t) (hst : stT u = stT t) (hu : u.text.size ≤ 140737488355328) (Q : Nat → Prop) (hQ : ∀ b, Q b → wr.heap.size ≤ b ∧ b < V.heap.size) (hk : LitsM V Q u.p u.c u.kids) :
    ∃ p2 c2 w3, (Builtin.append_ #[22, 22] 22 #[.slice p' i c', .slice (some ⟨V.heap.size, 0, none⟩) 1 1]).run Tryz.prog (V.alloc (.cells (litc u).toArray 49)) = .ok (.slice p2 (i + 1) c2) w3 ∧ Te w w3 ts (i + 1) p2 c2 (us ++ [u]) (fun j b => if j = i then Q b else K j b) := by
  have ho := h.row
  have hb := fun g (hg : g ∈ blk p') => own_lt ho g ((blk_own _ _ _ _).2 hg)
  have ho2 : V.ownsRow w.heap.size 49 4 (.slice p' i c') i (litCells us) := own_congr ho fun g hg => hf.block g (own_lt ho g hg).2 (fun hm => by have := hS g hm; have := (own_lt ho g hg).2; omega)
  have hFV : Fr [] w V := h.fr.trans hf (fun g hg => .inr (Nat.le_trans h.fr.size (hS g hg)))
  obtain ⟨p2, c2, w3, r, o3, m⟩ := pushS (t := 22) (e := 49) Tryz.underlying22 info54 rfl (by decide) V w.heap.size p' c' i (litCells us) (litc u) rfl ho2 (by simp [litc, Value.oneCell', LitT.items]) (by unfold maxLen; omega) (by omega) hFV.size
  have hQp : ∀ b, Q b → b ∉ blk p' := fun b hq hm => by have := (hb b hm).2; have := (hQ b hq).1; omega
  have hsz : V.heap.size ≤ w3.heap.size := by
    rcases m with ⟨-, -, e3⟩ | ⟨e1, -⟩
    · exact e3.size
    · exact e1.size
  have hFm : Fr (blk p') V w3 := by
    rcases m with ⟨-, -, e3⟩ | ⟨e1, -⟩
    · exact e3
    · exact e1.mono (by simp)
  have hall : ∀ j b, (if j = i then Q b else K j b) → w.heap.size ≤ b ∧ b < V.heap.size ∧ b ∉ blk p' := fun j b hj => by
    by_cases e : j = i
    · rw [if_pos e] at hj
      exact ⟨Nat.le_trans h.fr.size (hQ b hj).1, (hQ b hj).2, hQp b hj⟩
    · rw [if_neg e] at hj
      obtain ⟨a1, a2, a3⟩ := h.sub j b hj
      exact ⟨a1, Nat.lt_of_lt_of_le a2 hf.size, a3⟩
  have hkV : ∀ (j : Nat) (t : LitT), us[j]? = some t → LitsM V (K j) t.p t.c t.kids := fun j t ht => (h.kids j t ht).keep (hf.frp (Ok := fun b => wr.heap.size ≤ b) (fun g hg => .inl (hS g hg))) (fun b hb hh => by have := (h.sub j b hb).2.1; omega)
  refine ⟨p2, c2, w3, r, ⟨?_, by simp [h.len], ?_, fun y hy => ?_, fun j b hj => ?_, fun a b x ha hb => ?_, fun j y hy => ?_, fun j b hj => ?_, ?_⟩⟩
  · have hi' : i < ts.length := (List.getElem?_eq_some_iff.1 hit).1
    have e : ts.take (i + 1) = ts.take i ++ [t] := by
      rw [List.take_succ_eq_append_getElem hi', (List.getElem?_eq_some_iff.1 hit).2]
    have hs := h.st
    rw [stL_map, stL_map] at hs
    rw [e, stL_map, stL_map, List.map_append, List.map_append, hs]
    simp [hst]
  · have e : litCells (us ++ [u]) = litCells us ++ litc u := by simp [litCells]
    rw [e]; exact o3
  · rcases List.mem_append.1 hy with hy | hy
    · exact h.txt y hy
    · have : y = u := by simpa using hy
      subst this; exact hu
  · obtain ⟨a1, a2, a3⟩ := hall j b hj
    refine ⟨a1, Nat.lt_of_lt_of_le a2 hsz, fun hm => ?_⟩
    rcases m with ⟨e1, -, -⟩ | ⟨-, e2⟩
    · rw [e1] at hm; exact a3 hm
    · have := e2 b hm; omega
  · by_cases ea : a = i
    · by_cases eb : b = i
      · rw [ea, eb]
      · rw [if_pos ea] at ha
        rw [if_neg eb] at hb
        have := (h.sub b x hb).2.1
        have := (hQ x ha).1
        omega
    · rw [if_neg ea] at ha
      by_cases eb : b = i
      · rw [if_pos eb] at hb
        have := (h.sub a x ha).2.1
        have := (hQ x hb).1
        omega
      · rw [if_neg eb] at hb
        exact h.dis a b x ha hb
  · have hfr3 : FrP (fun b => b ∈ blk p') V w3 := hFm.frp (fun g hg => .inl hg)
    by_cases e : j = i
    · have hy2 : y = u := by
        rw [e, ← h.len, List.getElem?_append_right (Nat.le_refl _), Nat.sub_self] at hy
        simpa using hy.symm
      subst hy2
      have hk2 : LitsM V (fun b => if j = i then Q b else K j b) y.p y.c y.kids := hk.mono (fun b hb => by rw [if_pos e]; exact hb)
      exact hk2.keep hfr3 (fun b hb => (hall j b hb).2.2)
    · have hlt : j < us.length := by
        have := (List.getElem?_eq_some_iff.1 hy).1
        simp at this
        rw [h.len] at this ⊢
        omega
      rw [List.getElem?_append_left hlt] at hy
      have hk2 : LitsM V (fun b => if j = i then Q b else K j b) y.p y.c y.kids := (hkV j y hy).mono (fun b hb => by rw [if_neg e]; exact hb)
      exact hk2.keep hfr3 (fun b hb => (hall j b hb).2.2)
  · by_cases e : j = i
    · omega
    · rw [if_neg e] at hj
      have := h.idx j b hj
      omega
  · rcases m with ⟨-, -, e3⟩ | ⟨e1, -⟩
    · exact hFV.trans e3 (fun g hg => .inr (hb g hg).1)
    · exact hFV.tr0 e1
def TeP (w : World) (ts : List LitT) (e : Ending) (w' : World) : Prop := ∃ g c us, e = .returned (.slice (some ⟨g, 0, none⟩) ts.length c) ∧ us.length = ts.length ∧ stL us = stL ts ∧ Fr [] w w' ∧ LitsM w' (fun b => w.heap.size ≤ b ∧ b < w'.heap.size) (some ⟨g, 0, none⟩) c us
set_option maxRecDepth 100000 in
set_option maxHeartbeats 4000000 in
theorem twin_is (w0 : World) (p : Option Addr) (c : Nat) (ts : List LitT) (h : LitsR w0 p c ts) : ∀ w, Fr [] w0 w → Calls Tryz.prog 11 #[.slice p ts.length c] w fun e w' => TeP w ts e w' := by
  induction h with
  | mk p c ts nil at_ short txt kids ih =>
    intro w hf
    have HAt := mkHid at_
    have HIh := mkHid ih
    have HTx := mkHid txt
    have HF := mkHid hf
    clear at_ ih txt hf nil kids
    go_enter Tryz.func11, Tryz.ntmps11
    go_wp2_with fail
    go_loopw [3, 4] (fun m q wr => ∃ i : Nat, i ≤ ts.length ∧ q = .int .i64 i ∧ ∃ p' c', m = .slice p' i c' ∧ Hid (∃ us K, Te w wr ts i p' c' us K)) (fun _ q _ => ts.length - (intOf q).toNat)
    case atStart => exact ⟨0, Nat.zero_le _, rfl, none, 0, rfl, [], fun _ _ => False, ⟨rfl, rfl, ⟨rfl, .inl ⟨rfl, rfl⟩⟩, fun u hu => by simp at hu, fun _ _ hh => absurd hh id, fun _ _ _ hh => absurd hh id, fun j t ht => by simp at ht, fun _ _ hh => absurd hh id, Fr.refl _ _⟩⟩
    case round =>
      obtain ⟨i, hin, rfl, p', c', rfl, hst⟩ := hrel
      obtain ⟨us, K, htw⟩ := hst.out
      have i0 : (0 : Int) ≤ (i : Int) := by omega
      by_cases hlt : i < ts.length
      · have i1 : (i : Int) < (ts.length : Int) := by omega
        obtain ⟨ge, oe, rfl, hge, hce⟩ := HAt.out (by omega)
        obtain ⟨t2, ht2⟩ : ∃ t2, ts[i]? = some t2 := ⟨_, List.getElem?_eq_getElem hlt⟩
        have F0 : Fr [] w0 wr := HF.out.tr0 htw.fr
        have hl := (hce i t2 ht2).idle F0
        have hmem := List.mem_of_getElem? ht2
        obtain ⟨y0, y1, y2, y3'⟩ := hl
        have y3 : wr.cell? ⟨ge, oe + i * 4 + 3, none⟩ = some (.slice t2.p t2.kids.length t2.c) := y3'
        have HTw := mkHid htw
        have HTx2 := mkHid (HTx.out t2 hmem)
        have HCall : Hid (∀ o, Calls Tryz.prog 11 #[.slice t2.p t2.kids.length t2.c] (wr.alloc o) fun e w' => TeP (wr.alloc o) t2.kids e w') := fun o => HIh.out t2 hmem (wr.alloc o) (F0.al o)
        have hgw : ge < wr.heap.size := Nat.lt_of_lt_of_le hge F0.size
        have HPush : Hid (∀ w1 o g1 c1 us1, us1.length = t2.kids.length → stL us1 = stL t2.kids → Fr [] (wr.alloc o) w1 → LitsM w1 (fun b => (wr.alloc o).heap.size ≤ b ∧ b < w1.heap.size) (some ⟨g1, 0, none⟩) c1 us1 → ∃ p2 c2 w3, (Builtin.append_ #[22, 22] 22 #[.slice p' i c', .slice (some ⟨w1.heap.size, 0, none⟩) 1 1]).run Tryz.prog ((w1.setCell ⟨wr.heap.size, 3, none⟩ (.slice (some ⟨g1, 0, none⟩) t2.kids.length c1)).alloc (.cells #[.int .i64 t2.kind, .string t2.text, .int .i64 t2.num, .slice (some ⟨g1, 0, none⟩) t2.kids.length c1] 49)) = .ok (.slice p2 (i + 1) c2) w3 ∧ ∃ us K, Te w w3 ts (i + 1) p2 c2 us K) := fun w1 o g1 c1 us1 hlen hst1 f1 o1 => by
          have fs : Fr [wr.heap.size] w1 (w1.setCell ⟨wr.heap.size, 3, none⟩ (.slice (some ⟨g1, 0, none⟩) t2.kids.length c1)) := Fr.setCell (S := [wr.heap.size]) w1 ⟨wr.heap.size, 3, none⟩ _ (by simp)
          have fV : Fr [wr.heap.size] wr (w1.setCell ⟨wr.heap.size, 3, none⟩ (.slice (some ⟨g1, 0, none⟩) t2.kids.length c1)) := (((Fr.alloc [] wr o).tr0 f1).mono (S' := [wr.heap.size]) (by simp)).trans fs (fun g hg => .inl hg)
          have hsz : (wr.alloc o).heap.size = wr.heap.size + 1 := by simp
          have es : (w1.setCell ⟨wr.heap.size, 3, none⟩ (.slice (some ⟨g1, 0, none⟩) t2.kids.length c1)).heap.size = w1.heap.size := by simp
          have hk : LitsM (w1.setCell ⟨wr.heap.size, 3, none⟩ (.slice (some ⟨g1, 0, none⟩) t2.kids.length c1)) (fun b => wr.heap.size + 1 ≤ b ∧ b < w1.heap.size) (some ⟨g1, 0, none⟩) c1 us1 := by
            rw [hsz] at o1
            exact o1.keep (fs.frp (Ok := fun b => b = wr.heap.size) (fun g hg => .inl (by simpa using hg))) (fun b hb hh => by omega)
          obtain ⟨p2, c2, w3, r, tw⟩ := HTw.out.push (V := w1.setCell ⟨wr.heap.size, 3, none⟩ (.slice (some ⟨g1, 0, none⟩) t2.kids.length c1)) (by omega) [wr.heap.size] fV (by simp) (.mk t2.kind t2.text t2.num (some ⟨g1, 0, none⟩) c1 us1) t2 ht2 (by rw [stT_mk, stT_mk]; show LitS.mk t2.kind t2.text t2.num (stL us1) = _; rw [hst1]) HTx2.out _ (fun b hb => by rw [es]; omega) hk
          rw [es] at r
          refine ⟨p2, c2, w3, ?_, _, _, tw⟩
          have el : (litc (.mk t2.kind t2.text t2.num (some ⟨g1, 0, none⟩) c1 us1)).toArray = #[.int .i64 t2.kind, .string t2.text, .int .i64 t2.num, .slice (some ⟨g1, 0, none⟩) t2.kids.length c1] := by
            show #[Value.int .i64 t2.kind, .string t2.text, .int .i64 t2.num, .slice (some ⟨g1, 0, none⟩) us1.length c1] = _
            rw [hlen]
          rw [el] at r
          exact r
        clear hst htw hce F0 hmem ht2 y3'
        unfold TeP at HCall
        generalize t2.kind = k0 at *
        generalize t2.text = k1 at *
        generalize t2.num = k2 at *
        generalize t2.p = tp at *
        generalize t2.c = tc at *
        generalize hts : stL t2.kids = tsk at *
        generalize t2.kids.length = tn at *
        go_wp2_with (first
          | (go_at_call 11; refine (HCall.out _).mono ?_; rintro e w1 ⟨p1, c1, us1, rfl, hl1, hs1, f1, o1⟩; have x0 : w1.heap[wr.heap.size]? = some (.cells #[.int .i64 k0, .string k1, .int .i64 k2, .slice tp tn tc] 49 (0, 0)) := f1.hb (heap_alloc_new wr _); obtain ⟨p2, c2, w3, r3, tw3⟩ := HPush.out w1 _ p1 c1 us1 hl1 hs1 f1 o1; have u0 : w1.cell? ⟨wr.heap.size, 0, none⟩ = some (.int .i64 k0) := by rw [cell_in x0]; rfl
             have u1 : w1.cell? ⟨wr.heap.size, 1, none⟩ = some (.string k1) := by rw [cell_in x0]; rfl
             have u2 : w1.cell? ⟨wr.heap.size, 2, none⟩ = some (.int .i64 k2) := by rw [cell_in x0]; rfl
             have u3 : w1.cell? ⟨wr.heap.size, 3, none⟩ = some (.slice tp tn tc) := by rw [cell_in x0]; rfl
             have z3 := frozen_in x0 3
             have R3 := mkHid r3
             have T3 := mkHid tw3
             clear x0 r3 tw3 f1 o1 hl1 hs1)
          | (at_builtin; refine Lib.wpList_append_run _ rfl (.tmp 23) (.tmp 25) 22 22 rfl _ _ rfl rfl _ _ R3.out ?_))
        go_roundw
        case rel => exact ⟨i + 1, by omega, by go_num, p2, c2, rfl, T3.out⟩
        case measure => simp [intOf]; omega
      · have i1 : ¬ (i : Int) < (ts.length : Int) := by omega
        have d1 : decide ((i : Int) < (ts.length : Int)) = false := decide_eq_false i1
        have hie : i = ts.length := by omega
        subst hie
        have ho := htw.row
        obtain ⟨p2, c2, w3, r, o3, m⟩ := pushS (t := 22) (e := 49) Tryz.underlying22 info54 rfl (by decide) wr w.heap.size p' c' ts.length (litCells us) (litc markL) rfl ho (by simp [litc, Value.oneCell', LitT.items]) (by unfold maxLen; omega) (by omega) htw.fr.size
        have R := mkHid r
        have hb := fun g (hg : g ∈ blk p') => own_lt ho g ((blk_own _ _ _ _).2 hg)
        obtain ⟨g2, hp2, hc2⟩ : ∃ g2, p2 = some ⟨g2, 0, none⟩ ∧ ts.length + 1 ≤ c2 := by
          rcases o3.2 with ⟨e, e0⟩ | ⟨g, cap, cur, e, q1, q2, q3, q4⟩
          · omega
          · injection e with e1 _ e3
            exact ⟨g, e1, by omega⟩
        subst hp2
        have hFm : Fr (blk p') wr w3 := by
          rcases m with ⟨-, -, e3⟩ | ⟨e1, -⟩
          · exact e3
          · exact e1.mono (by simp)
        have hF3 : Fr [] w w3 := by
          rcases m with ⟨-, -, e3⟩ | ⟨e1, -⟩
          · exact htw.fr.trans e3 (fun g hg => .inr (hb g hg).1)
          · exact htw.fr.tr0 e1
        have hg2 := own_lt o3 g2 rfl
        have HEnd : Hid (TeP w ts (.returned (.slice (some ⟨g2, 0, none⟩) ts.length c2)) w3) := by
          refine ⟨g2, c2, us, rfl, htw.len, by rw [htw.st, List.take_length], hF3, ?_⟩
          refine .mk _ g2 c2 us K ?_ ⟨hg2.1, hg2.2⟩ (by rw [htw.len]; exact short) htw.txt (fun j b hj => ?_) htw.dis (fun j t ht => ?_)
          · rw [htw.len]
            have e : litCells (us ++ [markL]) = litCells us ++ litc markL := by simp [litCells]
            rw [e]
            exact ⟨o3.1, o3.2.imp id (fun ⟨g, cap, cur, e1, q1, q2⟩ => ⟨g, cap, cur, e1, Nat.zero_le _, q2⟩)⟩
          · obtain ⟨a1, a2, a3⟩ := htw.sub j b hj
            refine ⟨⟨a1, Nat.lt_of_lt_of_le a2 hFm.size⟩, fun e => ?_⟩
            rcases m with ⟨e1, -, -⟩ | ⟨-, e2⟩
            · exact a3 (by rw [← e1, e]; simp [blk])
            · have := e2 b (by rw [e]; simp [blk]); omega
          · exact (htw.kids j t ht).keep (hFm.frp (Ok := fun b => b ∈ blk p') (fun g hg => .inl hg)) (fun b hb => (htw.sub j b hb).2.2)
        have q1 : (ts.length : Int) ≤ (c2 : Int) := by omega
        clear hst htw r o3 m hFm hF3 ho
        go_wp2_with (at_builtin; refine Lib.wpList_append_run _ rfl (.tmp 27) (.tmp 29) 22 22 rfl _ _ rfl rfl _ _ R.out ?_)
        go_ret
        exact HEnd.out
end Go.Proofs.YtclkoffnjiiioaaGreatDoor


