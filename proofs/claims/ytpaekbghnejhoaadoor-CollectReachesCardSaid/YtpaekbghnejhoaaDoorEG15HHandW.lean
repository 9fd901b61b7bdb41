import Derived.Test.YtpaekbghnejhoaaDoorEG13CEn
import Derived.Test.YtpaekbghnejhoaaDoorEG14CBridge
import Derived.Test.YtpaekbghnejhoaaDoorEG12CPure
import Derived.Test.YtpaekbghnejhoaaDoorEG07HInv
import Derived.Test.YtpaekbghnejhoaaDoorEG06HRd
namespace Go.Proofs.YtpaekbghnejhoaaDoor
open Go.RowKit
set_option linter.unusedVariables false
attribute [local go_sem ↓] Go.wp_at_zero Go.wp_at_succ
/-- a list of oops of one's own, laid since w0 -/
structure Mine (w0 wr : World) (v : Value) (ls : List Nat) : Prop where
  own : wr.ownsRow w0.heap.size 3 1 v ls.length (ls.map I)
  fr : Fr [] w0 wr
theorem Mine.nil (w : World) : Mine w w (.slice none 0 0) [] := ⟨World.ownsRow_nil _ _ _ _, Fr.refl _ _⟩
theorem Mine.idle {w0 wr V : World} {v : Value} {ls : List Nat} (h : Mine w0 wr v ls) (hf : Fr [] wr V) : Mine w0 V v ls :=
  ⟨own_congr h.own fun g hg => hf.block g (h.own.lt g hg).2 (by simp), h.fr.trans hf (by simp)⟩
theorem Mine.grow {w0 wr w1 : World} {v v' : Value} {ls : List Nat} {m : Nat} {o : Obj} (h : Mine w0 wr v ls) (hown : w1.ownsRow w0.heap.size 3 1 v' (ls.length + 1) (ls.map I ++ [I m])) (hg : (wr.alloc o).grownBy w1 v.ownBlock) : Mine w0 w1 v' (ls ++ [m]) := by
  refine ⟨by simpa using hown, ?_⟩
  have h1 : Fr [] w0 (wr.alloc o) := h.fr.trans (Fr.alloc [] _ _) (by simp)
  refine ⟨hg.os.trans h1.os, hg.tape.trans h1.tape, hg.output.trans h1.output, Nat.le_trans h1.size hg.size, fun i hi hni => ?_⟩
  rw [hg.block i (Nat.lt_of_lt_of_le hi h1.size) (fun e => by have := (h.own.lt i e.symm).1; omega)]
  exact h1.block i hi hni
theorem Mine.is {w0 wr : World} {v : Value} {ls : List Nat} (h : Mine w0 wr v ls) : ∃ p c, v = .slice p ls.length c := by
  rcases h.own.2 with ⟨h2, h3⟩ | ⟨g, cap, cur, h2, h3⟩
  · exact ⟨none, 0, by rw [h2, h3]⟩
  · exact ⟨_, cap, h2⟩
theorem I_map (ls : List Nat) : ls.map I = (ls.map fun x : Nat => (x : Int)).map (Value.int .i64) := by rw [List.map_map]; rfl
theorem Mine.rd {w0 wr : World} {v : Value} {ls : List Nat} (h : Mine w0 wr v ls) (hl : ls.length ≤ 1048576) : Rd wr v (zs ls) := by
  have h1 := h.own
  rw [I_map] at h1
  have e : (zs ls).length = ls.length := by simp [zs]
  have h2 : wr.ownsRow w0.heap.size 3 1 v (zs ls).length ((zs ls).map (Value.int .i64)) := by rw [e]; exact h1
  exact own_rd h2 (by omega)
theorem Mine.cell {w0 wr : World} {v : Value} {ls : List Nat} (h : Mine w0 wr v ls) (k : Nat) (hk : k < ls.length) : ∃ g c, v = .slice (some ⟨g, 0, none⟩) ls.length c ∧ wr.cell? ⟨g, k, none⟩ = some (.int .i64 (ls.getD k 0 : Nat)) := by
  rcases h.own.2 with ⟨h2, h3⟩ | ⟨g, cap, cur, h2, h3⟩
  · omega
  · refine ⟨g, cap, h2, ?_⟩
    have h1 := h.own
    rw [h2] at h1
    rw [h1.cellAt k (by omega), List.getElem?_map, List.getD_eq_getElem?_getD, List.getElem?_eq_getElem hk]
    rfl
def addL (ls : List Nat) (m : Nat) : List Nat := if m = 0 ∨ m ∈ ls then ls else ls ++ [m]
set_option maxRecDepth 20000 in
set_option maxHeartbeats 2000000 in
theorem added_ok (ls : List Nat) (m : Nat) (v : Value) (w0 wr : World) (h : Mine w0 wr v ls) (hl : ls.length ≤ 1048576) :
    Calls Tryd.prog 63 #[v, .int .i64 (m : Int)] wr fun e w' => ∃ v', e = .returned v' ∧ Mine w0 w' v' (addL ls m) := by
  obtain ⟨j0, ji, jz0, jz1, jz2⟩ := info_parts info3
  obtain ⟨p, c, rfl⟩ := h.is
  have HI := mkHid (rIn_ok (zs ls) (m : Int) _ wr (h.rd hl))
  have HM := mkHid h
  have e1 : decide ((m : Int) ∈ zs ls) = decide (m ∈ ls) := by
    rw [Bool.eq_iff_iff, decide_eq_true_eq, decide_eq_true_eq, mem_zs']
  rw [e1] at HI
  have HA : Hid (addL ls m = if m = 0 ∨ m ∈ ls then ls else ls ++ [m]) := rfl
  generalize addL ls m = L2 at *
  clear h e1
  by_cases h0 : m = 0
  · have hb : ((m : Int) == 0) = true := by simpa using h0
    have HA2 := HA.out
    rw [if_pos (.inl h0)] at HA2
    have HA3 := mkHid HA2
    clear HA2 HA h0 HI
    go_enter Tryd.func63, Tryd.ntmps63
    go_wp2_with fail
    all_goals try (go_quiet (fail); go_wp2_with fail)
    all_goals
      go_ret
      refine ⟨_, rfl, ?_⟩
      rw [HA3.out]
      exact HM.out.idle (by first | exact Fr.refl _ _ | exact Fr.drew [] _ | exact Fr.drewN [] _ _)
  · have hb : ((m : Int) == 0) = false := by simpa using h0
    by_cases hin : m ∈ ls
    · have HA2 := HA.out
      rw [if_pos (.inr hin)] at HA2
      rw [decide_eq_true hin] at HI
      have HA3 := mkHid HA2
      clear HA2 HA h0 hin
      go_enter Tryd.func63, Tryd.ntmps63
      go_wp2_with (go_at_call 69; refine Calls.mono HI.out ?_; rintro e w' ⟨rfl, hw'⟩; rw [hw']; clear hw' w')
      go_ret
      refine ⟨_, rfl, ?_⟩
      rw [HA3.out]
      exact HM.out
    · have HA2 := HA.out
      rw [if_neg (fun h => by rcases h with h | h; exact h0 h; exact hin h)] at HA2
      rw [decide_eq_false hin] at HI
      have HA3 := mkHid HA2
      have hz := HM.out.fr.size
      have hown2 := HM.out.own.alloc (.cells #[.int .i64 (m : Int)] 3)
      clear HA2 HA h0 hin
      go_enter Tryd.func63, Tryd.ntmps63
      go_wp2_with (first
          | (at_builtin; refine wpList_append_own _ rfl (.tmp 13) (.tmp 15) 26 rfl w0.heap.size 3 j0 (.int .i64 0) 1 8 Tryd.underlying26 ji jz0 jz1 jz2 rfl (by decide) _ _ _ rfl hown2 ⟨wr.heap.size, 0, none⟩ 1 1 [.int .i64 (m : Int)] rfl rfl ?c1 ?c2 ?c3 ?c4 ?c5 ?_)
          | (go_at_call 69; refine Calls.mono HI.out ?_; rintro e w' ⟨rfl, hw'⟩; rw [hw']; clear hw' w')
          | go_in)
      case c1 =>
        have := World.news_of_block (heap_alloc_new wr (.cells #[.int .i64 (m : Int)] 3))
        simpa using this
      case c2 => first | rfl | (intro u hu; simp at hu; subst hu; rfl)
      case c3 => unfold maxLen; omega
      case c4 => omega
      case c5 => first | omega | (simp; omega)
      intro v' w1 hown' hgrow _
      have HG := mkHid (HM.out.grow (m := m) hown' hgrow)
      clear hown' hgrow hown2
      go_wp2
      go_ret
      exact ⟨_, rfl, by rw [HA3.out]; exact HG.out⟩
end Go.Proofs.YtpaekbghnejhoaaDoor
namespace Go.Proofs.YtpaekbghnejhoaaDoor
open Go.RowKit
set_option linter.unusedVariables false
theorem nam_yes {H : HS} {z : Int} (h : namesB H z = true) : namN H z = (z / 4).toNat ∧ namN H z ≠ 0 := by
  have h1 := names_has h
  unfold namN
  rw [if_pos h]
  refine ⟨rfl, fun e => ?_⟩
  unfold namesB at h
  rw [Bool.and_eq_true, decide_eq_true_eq] at h
  have := (kind3 z).1 h.1
  omega
theorem seen_add (H : HS) (rs : List Nat) (t : Nat) (ht : t ≤ rs.length) (z : Int) : seen1 H (rs, rs.drop t) z = (addL rs (namN H z), (addL rs (namN H z)).drop t) := by
  unfold seen1 addL
  by_cases hn : namesB H z = true
  · obtain ⟨e1, e2⟩ := nam_yes hn
    rw [e1] at e2 ⊢
    by_cases hm : (z / 4).toNat ∈ rs
    · rw [if_neg (fun h => h.2 hm), if_pos (.inr hm)]
    · rw [if_pos ⟨hn, hm⟩, if_neg (fun h => by rcases h with h | h; exact e2 h; exact hm h)]
      rw [List.drop_append_of_le_length ht]
  · have e : namN H z = 0 := by unfold namN; rw [if_neg hn]
    rw [if_neg (fun h => hn h.1), e, if_pos (.inl rfl)]
/-- words met one after the other -/
def adds (H : HS) (rs : List Nat) (l : List Int) : List Nat := l.foldl (fun s z => addL s (namN H z)) rs
theorem addL_len (rs : List Nat) (m : Nat) : rs.length ≤ (addL rs m).length := by unfold addL; split <;> simp
theorem addL_get (rs : List Nat) (m t : Nat) (ht : t < rs.length) : (addL rs m).getD t 0 = rs.getD t 0 := by
  unfold addL
  split
  · rfl
  · rw [List.getD_eq_getElem?_getD, List.getElem?_append_left ht, ← List.getD_eq_getElem?_getD]
theorem fold_add (H : HS) (t : Nat) : ∀ (l : List Int) (rs : List Nat), t ≤ rs.length → l.foldl (seen1 H) (rs, rs.drop t) = (adds H rs l, (adds H rs l).drop t)
  | [], rs, _ => rfl
  | z :: l, rs, ht => by
    rw [List.foldl_cons, seen_add H rs t ht z]
    have := addL_len rs (namN H z)
    rw [fold_add H t l _ (by omega)]
    rfl
theorem adds_len (H : HS) : ∀ (l : List Int) (rs : List Nat), rs.length ≤ (adds H rs l).length
  | [], rs => Nat.le_refl _
  | z :: l, rs => Nat.le_trans (addL_len rs (namN H z)) (adds_len H l _)
theorem adds_get (H : HS) (t : Nat) : ∀ (l : List Int) (rs : List Nat), t < rs.length → (adds H rs l).getD t 0 = rs.getD t 0
  | [], rs, _ => rfl
  | z :: l, rs, ht => by
    have := addL_len rs (namN H z)
    show (adds H (addL rs (namN H z)) l).getD t 0 = _
    rw [adds_get H t l _ (by omega), addL_get rs _ t ht]
theorem adds_snoc (H : HS) (rs : List Nat) (l : List Int) (z : Int) : adds H rs (l ++ [z]) = addL (adds H rs l) (namN H z) := by
  unfold adds
  rw [List.foldl_append]
  rfl
theorem adds_cons (H : HS) (rs : List Nat) (l : List Int) (z : Int) : adds H rs (z :: l) = adds H (addL rs (namN H z)) l := rfl
/-- oops that are there, each once -/
structure Fnd (H : HS) (rs : List Nat) : Prop where
  nd : rs.Nodup
  th : ∀ q ∈ rs, has H (q : Int) = true
theorem Fnd.nil (H : HS) : Fnd H [] := ⟨by simp, by simp⟩
theorem Fnd.len {H : HS} {rs : List Nat} (h : Fnd H rs) : rs.length ≤ H.seats.length :=
  nodup_len _ _ h.nd fun q hq => by
    have := of_decide_eq_true (h.th q hq)
    omega
theorem Fnd.add {H : HS} {rs : List Nat} (h : Fnd H rs) (z : Int) : Fnd H (addL rs (namN H z)) := by
  unfold addL
  split
  · exact h
  · rename_i hc
    have hn : namesB H z = true := Classical.byContradiction fun hn => hc (.inl (by unfold namN; rw [if_neg hn]))
    obtain ⟨e1, e2⟩ := nam_yes hn
    refine ⟨nodup_snoc h.nd (fun hm => hc (.inr hm)), fun q hq => ?_⟩
    rcases List.mem_append.1 hq with h1 | h1
    · exact h.th q h1
    · rw [List.mem_singleton.1 h1, e1]
      exact (names_has hn).1
theorem Fnd.adds {H : HS} : ∀ (l : List Int) {rs : List Nat}, Fnd H rs → Fnd H (adds H rs l)
  | [], _, h => h
  | z :: l, _, h => Fnd.adds l (h.add z)
/-- the search, the first of those ahead taken -/
theorem Sr.pop {H : HS} {M : MS} {roots : List Int} {rs ah : List Nat} {q : Nat} (h : Sr H M roots (rs, q :: ah)) (hq : q ∈ rs) : Sr H M roots ((lk M q).foldl (seen1 H) (rs, ah)) := by
  obtain ⟨a1, a2, a3, a4⟩ := fold_all H (lk M q) (rs, ah)
  refine ⟨fun p hp => ?_, fun z hz hn => a1 _ (h.root z hz hn), fun p hp => ?_, fun X hX p hp => ?_⟩
  · rcases a3 p hp with h1 | ⟨_, z, _, h1, h2⟩
    · exact h.there p h1
    · rw [h2]; exact (names_has h1).1
  · rcases a3 p hp with h1 | ⟨h1, _⟩
    · by_cases e : p = q
      · right; intro z hz hn; rw [e] at hz; exact a4 z hz hn
      · rcases h.on p h1 with h2 | h2
        · left
          rcases List.mem_cons.1 h2 with h3 | h3
          · exact absurd h3 e
          · exact a2 p h3
        · right; intro z hz hn; exact a1 _ (h2 z hz hn)
    · exact .inl h1
  · rcases a3 p hp with h1 | ⟨_, z, hz, h1, h2⟩
    · exact h.least X hX p h1
    · rw [h2]; exact hX.on q (h.least X hX q hq) z hz h1
theorem sr_start (H : HS) (M : MS) (roots : List Int) : Sr H M roots (adds H [] roots, (adds H [] roots).drop 0) := by
  have := Sr.start H M roots
  have e := fold_add H 0 roots [] (Nat.le_refl _)
  rw [List.drop_zero] at e
  rw [e] at this
  exact this
theorem sr_step {H : HS} {M : MS} {roots : List Int} {rs : List Nat} {t : Nat} (ht : t < rs.length) (h : Sr H M roots (rs, rs.drop t)) : Sr H M roots (adds H rs (lk M (rs.getD t 0)), (adds H rs (lk M (rs.getD t 0))).drop (t + 1)) := by
  have e1 : rs.getD t 0 = rs[t] := by rw [List.getD_eq_getElem?_getD, List.getElem?_eq_getElem ht]; rfl
  rw [List.drop_eq_getElem_cons ht] at h
  have := h.pop (List.getElem_mem ht)
  rw [fold_add H (t + 1) _ rs ht] at this
  rw [e1]
  exact this
end Go.Proofs.YtpaekbghnejhoaaDoor
namespace Go.Proofs.YtpaekbghnejhoaaDoor
open Go.RowKit
set_option linter.unusedVariables false
attribute [local go_sem ↓] Go.wp_at_zero Go.wp_at_succ
theorem take_get {α : Type} (l : List α) (d : α) (k : Nat) (hk : k < l.length) : l.take (k + 1) = l.take k ++ [l.getD k d] := by
  rw [List.take_succ_eq_append_getElem hk, List.getD_eq_getElem?_getD, List.getElem?_eq_getElem hk]; rfl
set_option maxRecDepth 20000 in
set_option maxHeartbeats 2000000 in
theorem rReach_ok (H : HS) (M : MS) (B r : Nat) (R : RS) (p : Option Addr) (c : Nat) (roots : List Int) (w : World) (h : RRep w B r R) (ho : ROk R) (ht : Tw H M R) (hone : ∀ q j k, RIs R q j → RIs R q k → j = k) (hi : Inv H M) (hA : RAs R (allTo H H.seats.length)) (hr : Rd w (.slice p roots.length c) roots) :
    Calls Tryd.prog 28 #[.pointer (some ⟨r, 0, none⟩), .slice p roots.length c] w fun e w' => ∃ v, e = .returned (.tuple #[v, .int .i64 0]) ∧ ∃ rs, Sr H M roots (rs, []) ∧ w'.ownsRow w.heap.size 3 1 v (stays H rs).length ((stays H rs).map I) ∧ Fr [] w w' := by
  obtain ⟨j0, ji, jz0, jz1, jz2⟩ := info_parts info3
  have hse := hi.told.seats
  have hl := ho.len
  have hro := hr.short
  have HR : Hid (∀ V, Fr [] w V → RRep V B r R) := fun V hV => h.idle hV
  have HO := mkHid ho
  have HT := mkHid ht
  have HOne := mkHid hone
  have HA := mkHid hA
  obtain ⟨p', c', ep, hat⟩ := hr.at_
  injection ep with ep1 _ ep2
  subst ep1 ep2
  have HAT := mkHid hat
  clear h ho ht hA hr hat hone
  go_enter Tryd.func28, Tryd.ntmps28
  go_wp2_with fail
  go_loopw [6, 7] (fun v q wr => ∃ (k : Nat) (pv : Option Addr) (cv : Nat), k ≤ roots.length ∧ v = .slice pv (adds H [] (roots.take k)).length cv ∧ q = .int .i64 k ∧ Hid (Mine w wr (.slice pv (adds H [] (roots.take k)).length cv) (adds H [] (roots.take k)))) (fun _ q _ => roots.length - (intOf q).toNat)
  case atStart => exact ⟨0, none, 0, Nat.zero_le _, rfl, rfl, Mine.nil w⟩
  case round =>
    obtain ⟨k, pv, cv, hkn, rfl, rfl, hm⟩ := hrel
    have k1 : (0 : Int) ≤ (k : Int) := by omega
    by_cases hlt : k < roots.length
    · have k2 : (k : Int) < (roots.length : Int) := by omega
      obtain ⟨g, off, rfl, hg, hc⟩ := HAT.out (by omega)
      have x1 := (hm.out.fr.cell (p := ⟨g, off + k, none⟩) hg (by simp)).trans (hc k hlt)
      have HTk : Hid (adds H [] (roots.take (k + 1)) = addL (adds H [] (roots.take k)) (namN H (roots.getD k 0))) := by
        show adds H [] (roots.take (k + 1)) = _
        rw [List.take_succ_eq_append_getElem hlt, adds_snoc, List.getD_eq_getElem?_getD, List.getElem?_eq_getElem hlt]; rfl
      have hfl := (Fnd.adds (roots.take k) (Fnd.nil H)).len
      have HN := mkHid (rNamed_ok (roots.getD k 0) H M B r R wr (HR.out wr hm.out.fr) (by omega) HT.out)
      generalize adds H [] (roots.take k) = X at *
      generalize roots.getD k 0 = z at *
      clear hc
      go_wp2_with fail
      refine Calls.mono HN.out ?_
      rintro e w2 ⟨rfl, hf2⟩
      have HA2 := mkHid (added_ok X (namN H z) _ w w2 (hm.out.idle hf2) (by omega))
      generalize namN H z = m at *
      clear hf2 HN
      go_wp2_with fail
      refine Calls.mono HA2.out ?_
      rintro e w3 ⟨v3, rfl, hm3⟩
      rw [← HTk.out] at hm3
      obtain ⟨p3, c3, rfl⟩ := hm3.is
      have HM3 := mkHid hm3
      clear hm3 HA2
      go_wp2_with fail
      go_roundw
      case rel => exact ⟨k + 1, p3, c3, by omega, rfl, by go_num, HM3⟩
      case measure => simp [intOf]; omega
    · have hke : k = roots.length := by omega
      subst hke
      rw [List.take_length] at hm ⊢
      have HS0 := mkHid (sr_start H M roots)
      have HF0 := mkHid (Fnd.adds roots (Fnd.nil H))
      generalize adds H [] roots = X0 at *
      clear HAT
      go_wp2_with fail
      go_loopw [6, 8] (fun v q wr => ∃ (t : Nat) (rs : List Nat) (pv : Option Addr) (cv : Nat), t ≤ rs.length ∧ rs.length ≤ H.seats.length ∧ v = .slice pv rs.length cv ∧ q = .int .i64 t ∧ Hid (Mine w wr (.slice pv rs.length cv) rs) ∧ Hid (Sr H M roots (rs, rs.drop t) ∧ Fnd H rs)) (fun _ q _ => H.seats.length + 1 - (intOf q).toNat)
      case atStart => exact ⟨0, X0, pv, cv, Nat.zero_le _, HF0.out.len, rfl, rfl, hm, HS0.out, HF0.out⟩
      case round =>
        clear HS0 HF0 hm
        obtain ⟨t, rs, pv, cv, htn, hrl, rfl, rfl, hm, hs⟩ := hrel
        have k1 : (0 : Int) ≤ (t : Int) := by omega
        by_cases hlt : t < rs.length
        · have k2 : (t : Int) < (rs.length : Int) := by omega
          obtain ⟨g, cg, e1, x1⟩ := hm.out.cell t hlt
          injection e1 with e1 _ e2
          subst e1 e2
          have hqm : rs.getD t 0 ∈ rs := by rw [List.getD_eq_getElem?_getD, List.getElem?_eq_getElem hlt]; exact List.getElem_mem hlt
          have hyes := (HT.out.has _).1 (hs.out.2.th _ hqm)
          have HSt := mkHid (sr_step hlt hs.out.1)
          have HFd := mkHid hs.out.2
          have HGet : Hid (∀ l, (adds H rs l).getD t 0 = rs.getD t 0) := fun l => adds_get H t l rs hlt
          have HLe : Hid (∀ l, t < (adds H rs l).length) := fun l => Nat.lt_of_lt_of_le hlt (adds_len H l rs)
          have HC := mkHid (rClass_any ((rs.getD t 0 : Nat) : Int) B r R wr (HR.out wr hm.out.fr) (by omega))
          have HY := mkHid hyes
          generalize rs.getD t 0 = q at *
          clear hs hqm hyes
          go_wp2_with fail
          refine Calls.mono HC.out ?_
          rintro e w2 ⟨⟨k, hk, rfl⟩ | ⟨hn, -⟩, hf2⟩
          rotate_left
          · exact absurd hn HY.out
          have hlk := HT.out.at_ k hk.1
          have hko : (R.objs.getD k noRO).oop = q := by have := hk.2; omega
          rw [hko] at hlk
          have hos := (HO.out.getD k hk.1).2
          obtain ⟨o, ho⟩ : ∃ o, o = R.objs.getD k noRO := ⟨_, rfl⟩
          rw [← ho] at hlk hos ⊢
          have Ho := mkHid ho
          have Hk := mkHid hk
          have Hlk := mkHid hlk
          have HM2 := mkHid (hm.out.idle hf2)
          have HN := mkHid (rNamed_ok o.cls H M B r R w2 (HR.out w2 HM2.out.fr) (by omega) HT.out)
          clear ho hk hlk hko hf2 HC x1 hm
          go_wp2_with fail
          refine Calls.mono HN.out ?_
          rintro e w3 ⟨rfl, hf3⟩
          have HA3 := mkHid (added_ok rs (namN H o.cls) (.slice (some ⟨g, 0, none⟩) rs.length cv) w w3 (HM2.out.idle hf3) (by omega))
          clear hf3 HN HM2
          obtain ⟨L1, hL1⟩ : ∃ L1, L1 = adds H rs (o.cls :: o.slots.take 0) := ⟨_, rfl⟩
          have hL2 : addL rs (namN H o.cls) = L1 := hL1.symm ▸ rfl
          rw [hL2] at HA3
          have HL1 := mkHid hL1
          have hg1 : L1.getD t 0 = q := by rw [hL1]; exact HGet.out _
          have hl1 : t < L1.length := by rw [hL1]; exact HLe.out _
          clear hL1 hL2
          generalize namN H o.cls = m at *
          go_wp2_with fail
          refine Calls.mono HA3.out ?_
          rintro e w4 ⟨v4, rfl, hm4⟩
          obtain ⟨g4, c4, rfl, x4⟩ := hm4.cell t hl1
          rw [hg1] at x4
          have HM4 := mkHid hm4
          have HZ := mkHid (rSize_yes (q : Int) B r R w4 (HR.out w4 hm4.fr) (by omega) HY.out)
          have k3 : (t : Int) < (L1.length : Int) := by omega
          clear hm4 HA3 hg1
          go_wp2_with fail
          refine Calls.mono HZ.out ?_
          rintro e w5 ⟨⟨k', hk', rfl⟩, hf5⟩
          have ek := HOne.out _ _ _ hk' Hk.out
          rw [ek, ← Ho.out]
          have HM5 := mkHid (HM4.out.idle hf5)
          clear hk' ek k' hf5 HZ HM4 x4 k3 hl1
          rw [HL1.out] at HM5 ⊢
          clear HL1
          go_wp2_with fail
          go_loopw [6, 14] (fun v q wr => ∃ (j : Nat) (pv : Option Addr) (cv : Nat), j ≤ o.slots.length ∧ v = .slice pv (adds H rs (o.cls :: o.slots.take j)).length cv ∧ q = .int .i64 j ∧ Hid (o.fmt ≠ 0 → j = 0) ∧ Hid (Mine w wr (.slice pv (adds H rs (o.cls :: o.slots.take j)).length cv) (adds H rs (o.cls :: o.slots.take j)))) (fun _ q _ => o.slots.length - (intOf q).toNat)
          case atStart => exact ⟨0, _, _, Nat.zero_le _, rfl, rfl, fun _ => rfl, HM5⟩
          case round =>
            clear HM5
            obtain ⟨j, pj, cj, hjn, rfl, rfl, hj0, hmj⟩ := hrel
            have j1 : (0 : Int) ≤ (j : Int) := by omega
            have hfl := (Fnd.adds (o.cls :: o.slots.take j) HFd.out).len
            by_cases hfm : o.fmt = 0
            · have b1 : ((o.fmt : Int) == 0) = true := by simpa using hfm
              by_cases hlj : j < o.slots.length
              · have j2 : (j : Int) < (o.slots.length : Int) := by omega
                obtain ⟨g6, c6, e6, x6⟩ := hmj.out.cell t (HLe.out _)
                injection e6 with e6 _ e7
                subst e6 e7
                rw [HGet.out] at x6
                have k3 : (t : Int) < ((adds H rs (o.cls :: o.slots.take j)).length : Int) := by have := HLe.out (o.cls :: o.slots.take j); omega
                have HAt := mkHid (rAt_yes (q : Int) B r R j wr (HR.out wr hmj.out.fr) (by omega) (fun k' hk' => by rw [HOne.out _ _ _ hk' Hk.out, ← Ho.out]; exact hlj) HY.out)
                have HNx : Hid (adds H rs (o.cls :: o.slots.take (j + 1)) = addL (adds H rs (o.cls :: o.slots.take j)) (namN H (o.slots.getD j 0))) := by
                  show adds H rs (o.cls :: o.slots.take (j + 1)) = _
                  rw [← adds_snoc, take_get o.slots 0 j hlj]; rfl
                have HFm := mkHid hfm
                clear hfm
                go_wp2_with fail
                refine Calls.mono HAt.out ?_
                rintro e w6 ⟨⟨k', hk', rfl⟩, hf6⟩
                have ek := HOne.out _ _ _ hk' Hk.out
                rw [ek, ← Ho.out]
                have HM6 := mkHid (hmj.out.idle hf6)
                have HN6 := mkHid (rNamed_ok (o.slots.getD j 0) H M B r R w6 (HR.out w6 HM6.out.fr) (by omega) HT.out)
                generalize o.slots.getD j 0 = z at *
                clear hk' ek k' hf6 HAt x6 hmj
                go_wp2_with fail
                refine Calls.mono HN6.out ?_
                rintro e w7 ⟨rfl, hf7⟩
                have HA7 := mkHid (added_ok _ (namN H z) (.slice (some ⟨g6, 0, none⟩) (adds H rs (o.cls :: o.slots.take j)).length cj) w w7 (HM6.out.idle hf7) (by omega))
                generalize namN H z = m at *
                clear hf7 HN6 HM6
                go_wp2_with fail
                refine Calls.mono HA7.out ?_
                rintro e w8 ⟨v8, rfl, hm8⟩
                rw [← HNx.out] at hm8
                obtain ⟨p8, c8, rfl⟩ := hm8.is
                have HM8 := mkHid hm8
                clear hm8 HA7
                go_wp2_with fail
                go_roundw
                case rel => exact ⟨j + 1, p8, c8, by omega, rfl, by go_num, mkHid (fun h => absurd HFm.out h), HM8⟩
                case measure => simp [intOf]; omega
              · have hje : j = o.slots.length := by omega
                subst hje
                have e1 : adds H rs (o.cls :: o.slots.take o.slots.length) = adds H rs (lk M q) := by rw [List.take_length, Hlk.out, if_pos hfm]
                rw [e1] at hmj
                have HE := mkHid e1
                have HFl := mkHid (Fnd.adds (lk M q) HFd.out)
                have hle := HLe.out (lk M q)
                clear hj0
                go_wp2_with fail
                go_roundw
                case rel => exact ⟨t + 1, adds H rs (lk M q), _, _, hle, HFl.out.len, by rw [HE.out], by go_num, by first | exact hmj | (rw [HE.out] at hmj; exact hmj), HSt.out, HFl.out⟩
                case measure => simp [intOf]; omega
            · have b1 : ((o.fmt : Int) == 0) = false := by simpa using hfm
              have hje : j = 0 := hj0.out hfm
              subst hje
              have e1 : adds H rs (o.cls :: o.slots.take 0) = adds H rs (lk M q) := by rw [Hlk.out, if_neg hfm]; rfl
              rw [e1] at hmj
              have HE := mkHid e1
              have HFl := mkHid (Fnd.adds (lk M q) HFd.out)
              have hle := HLe.out (lk M q)
              clear hj0
              by_cases hlj : 0 < o.slots.length
              · have j2 : (0 : Int) < (o.slots.length : Int) := by omega
                go_wp2_with fail
                go_roundw
                case rel => exact ⟨t + 1, adds H rs (lk M q), _, _, hle, HFl.out.len, by rw [HE.out], by go_num, by first | exact hmj | (rw [HE.out] at hmj; exact hmj), HSt.out, HFl.out⟩
                case measure => simp [intOf]; omega
              · have j2 : (o.slots.length : Int) ≤ 0 := by omega
                go_wp2_with fail
                go_roundw
                case rel => exact ⟨t + 1, adds H rs (lk M q), _, _, hle, HFl.out.len, by rw [HE.out], by go_num, by first | exact hmj | (rw [HE.out] at hmj; exact hmj), HSt.out, HFl.out⟩
                case measure => simp [intOf]; omega
        · have hte : t = rs.length := by omega
          subst hte
          have hsr := hs.out.1
          rw [List.drop_length] at hsr
          have HSr := mkHid hsr
          have HAl := mkHid (rAll_ok (allTo H H.seats.length) B r R wr (HR.out wr hm.out.fr) HA.out)
          have hal := allTo_len H H.seats.length
          have HSy : Hid (stays H rs = (allTo H H.seats.length).filter fun x => decide (x ∈ rs)) := rfl
          clear hsr hs
          go_wp2_with fail
          refine Calls.mono HAl.out ?_
          rintro e w4 ⟨v4, rfl, hrow4, hf4⟩
          have HM4 : Hid (Mine wr w4 v4 (allTo H H.seats.length)) := ⟨hrow4, hf4⟩
          have HMf := mkHid (hm.out.idle hf4)
          obtain ⟨p4, c4, rfl⟩ := HM4.out.is
          generalize allTo H H.seats.length = A at *
          clear hrow4 hf4 HAl hm
          go_wp2_with fail
          go_loopw [17, 19] (fun v q wr => ∃ (k : Nat) (po : Option Addr) (co : Nat), k ≤ A.length ∧ v = .slice po (markedTo A rs k).length co ∧ q = .int .i64 k ∧ Hid (Mine w4 wr (.slice po (markedTo A rs k).length co) (markedTo A rs k))) (fun _ q _ => A.length - (intOf q).toNat)
          case atStart => exact ⟨0, none, 0, Nat.zero_le _, rfl, rfl, Mine.nil w4⟩
          case round =>
            obtain ⟨k, po, co, hkn, rfl, rfl, hmo⟩ := hrel
            have i1 : (0 : Int) ≤ (k : Int) := by omega
            by_cases hlk : k < A.length
            · have i2 : (k : Int) < (A.length : Int) := by omega
              obtain ⟨g5, c5, e5, x5⟩ := (HM4.out.idle hmo.out.fr).cell k hlk
              injection e5 with e5 _ e6
              subst e5 e6
              have HI := mkHid (rIn_ok (zs rs) ((A.getD k 0 : Nat) : Int) (.slice pv rs.length cv) wr ((HMf.out.idle hmo.out.fr).rd (by omega)))
              rw [show decide (((A.getD k 0 : Nat) : Int) ∈ zs rs) = decide (A.getD k 0 ∈ rs) by rw [Bool.eq_iff_iff, decide_eq_true_eq, decide_eq_true_eq, mem_zs']] at HI
              have hsu := markedTo_succ A rs k hlk
              have hml := markedTo_len A rs k
              generalize hzz : A.getD k 0 = z at *
              clear hzz
              by_cases hy : z ∈ rs
              · rw [if_pos hy] at hsu
                rw [decide_eq_true hy] at HI
                have HSU := mkHid hsu
                have hz := hmo.out.fr.size
                have hown2 := hmo.out.own.alloc (.cells #[.int .i64 (z : Int)] 3)
                have HMo := mkHid hmo.out
                clear hsu hy hmo
                go_wp2_with (first
                  | (at_builtin; refine wpList_append_own _ rfl (.tmp 104) (.tmp 109) 26 rfl w4.heap.size 3 j0 (.int .i64 0) 1 8 Tryd.underlying26 ji jz0 jz1 jz2 rfl (by decide) _ _ _ rfl hown2 ⟨wr.heap.size, 0, none⟩ 1 1 [.int .i64 (z : Int)] rfl rfl ?d1 ?d2 ?d3 ?d4 ?d5 ?_)
                  | (go_at_call 69; refine Calls.mono HI.out ?_; rintro e w' ⟨rfl, hw'⟩; rw [hw']; clear hw' w')
                  | go_in)
                case d1 =>
                  have := World.news_of_block (heap_alloc_new wr (.cells #[.int .i64 (z : Int)] 3))
                  simpa using this
                case d2 => first | rfl | (intro u hu; simp at hu; subst hu; rfl)
                case d3 => unfold maxLen; omega
                case d4 => omega
                case d5 => first | omega | (simp; omega)
                intro v' w1 hown' hgrow _
                have hmn := HMo.out.grow (m := z) hown' hgrow
                rw [← HSU.out] at hmn
                obtain ⟨pn, cn, rfl⟩ := hmn.is
                have HMn := mkHid hmn
                clear hown' hgrow hown2 hmn
                go_wp2
                go_roundw
                case rel => exact ⟨k + 1, pn, cn, by omega, rfl, by go_num, HMn⟩
                case measure => simp [intOf]; omega
              · rw [if_neg hy, List.append_nil] at hsu
                rw [decide_eq_false hy] at HI
                have HSU := mkHid hsu
                clear hsu hy
                go_wp2_with (go_at_call 69; refine Calls.mono HI.out ?_; rintro e w' ⟨rfl, hw'⟩; rw [hw']; clear hw' w')
                go_roundw
                case rel => exact ⟨k + 1, po, co, by omega, by rw [HSU.out], by go_num, by rw [HSU.out]; exact hmo⟩
                case measure => simp [intOf]; omega
            · have hke : k = A.length := by omega
              subst hke
              have HF := mkHid ((HMf.out.fr).trans hmo.out.fr (by simp))
              have HSz := mkHid HMf.out.fr.size
              have e1 : markedTo A rs A.length = A.filter fun x => decide (x ∈ rs) := by unfold markedTo; rw [List.take_length]
              rw [e1] at hmo ⊢
              go_wp2_with fail
              go_ret2
              exact ⟨_, rfl, rs, HSr.out, by rw [HSy.out]; exact own_base hmo.out.own HSz.out, HF.out⟩
end Go.Proofs.YtpaekbghnejhoaaDoor
namespace Go.Proofs.YtpaekbghnejhoaaDoor
open Go.RowKit
set_option linter.unusedVariables false
/-- an object of a state in memory of its own, marks behind its slots -/
structure HG where
  oop : Int
  cls : Int
  fmt : Int
  slots : List Int
  g : Nat
  cap : Nat
def hg4 (x : HG) : List Value := [.int .i64 x.oop, .int .i64 x.cls, .int .i64 x.fmt, .slice (some ⟨x.g, 0, none⟩) x.slots.length x.cap]
def hgCells (l : List HG) : List Value := l.flatMap hg4
def hgKey (x : HG) : Int × Int × Int × List Int := (x.oop, x.cls, x.fmt, x.slots)
theorem hgCells_append (l : List HG) (o : HG) : hgCells (l ++ [o]) = hgCells l ++ hg4 o := by simp [hgCells]
theorem hgCells_len (l : List HG) : (hgCells l).length = l.length * 4 := by
  induction l with
  | nil => rfl
  | cons x l ih =>
    show (hg4 x ++ hgCells l).length = _
    rw [List.length_append, ih]
    simp [hg4]; omega
def hgTail (x : HG) : List Value := (x.slots ++ [-77, -78]).map (Value.int .i64)
/-- a copy of the first objects of a state is being made -/
structure Hd (w W : World) (lv : Value) (gs : List HG) : Prop where
  fr : Fr [] w W
  row : W.ownsRow (w.heap.size + 2) 44 4 lv gs.length (hgCells gs)
  slots : ∀ x ∈ gs, W.ownsRow (w.heap.size + 2) 40 1 (.slice (some ⟨x.g, 0, none⟩) (x.slots.length + 2) x.cap) (x.slots.length + 2) (hgTail x)
  apart : (gs.map HG.g).Nodup
theorem Hd.idle {w W V : World} {lv : Value} {gs : List HG} (h : Hd w W lv gs) (hf : Fr [] W V) : Hd w V lv gs :=
  ⟨h.fr.trans hf (by simp), own_congr h.row fun g hg => hf.block g (h.row.lt g hg).2 (by simp), fun x hx => own_congr (h.slots x hx) fun g hg => hf.block g ((h.slots x hx).lt g hg).2 (by simp), h.apart⟩
theorem own_type {w : World} {b1 b2 : Nat} {t1 t2 : TypeId} {s1 s2 : Nat} {v1 v2 : Value} {n1 n2 : Nat} {x1 x2 : List Value} (h1 : w.ownsRow b1 t1 s1 v1 n1 x1) (h2 : w.ownsRow b2 t2 s2 v2 n2 x2) (ht : t1 ≠ t2) {g : Nat} (e1 : v1.ownBlock = some g) (e2 : v2.ownBlock = some g) : False := by
  rcases h1.2 with ⟨q1, _⟩ | ⟨g1, cap1, cur1, q1, q2, q3, _⟩
  · rw [q1] at e1; simp [Value.ownBlock] at e1
  · rcases h2.2 with ⟨r1, _⟩ | ⟨g2, cap2, cur2, r1, r2, r3, _⟩
    · rw [r1] at e2; simp [Value.ownBlock] at e2
    · rw [q1] at e1
      rw [r1] at e2
      have a1 : g1 = g := by simpa [Value.ownBlock] using e1
      have a2 : g2 = g := by simpa [Value.ownBlock] using e2
      subst a1
      subst a2
      rw [q3] at r3
      simp at r3
      exact ht r3.2
/-- one object more -/
theorem Hd.next {w W V W2 : World} {lv lv' : Value} {gs : List HG} {x : HG} (h : Hd w W lv gs) (hV : Fr [] W V) (ho : V.ownsRow W.heap.size 40 1 (.slice (some ⟨x.g, 0, none⟩) (x.slots.length + 2) x.cap) (x.slots.length + 2) (hgTail x)) (hW : w.heap.size + 2 ≤ W.heap.size)
    (hg : V.grownBy W2 lv.ownBlock) (hown : W2.ownsRow (w.heap.size + 2) 44 4 lv' (gs.length + 1) (hgCells gs ++ hg4 x)) : Hd w W2 lv' (gs ++ [x]) := by
  have h1 := h.idle hV
  have hb : ∀ b, lv.ownBlock = some b → w.heap.size + 2 ≤ b := fun b hb => (h.row.lt b hb).1
  have hsl : ∀ y : HG, V.ownsRow (w.heap.size + 2) 40 1 (.slice (some ⟨y.g, 0, none⟩) (y.slots.length + 2) y.cap) (y.slots.length + 2) (hgTail y) → W2.ownsRow (w.heap.size + 2) 40 1 (.slice (some ⟨y.g, 0, none⟩) (y.slots.length + 2) y.cap) (y.slots.length + 2) (hgTail y) := fun y hy =>
    own_congr hy fun g hgg => hg.block g (hy.lt g hgg).2 (fun e => own_type hy h1.row (by decide) hgg e.symm)
  have ho' := own_base ho (show w.heap.size + 2 ≤ W.heap.size from hW)
  refine ⟨?_, by rw [List.length_append, hgCells_append]; exact hown, fun y hy => ?_, ?_⟩
  · exact (h1.fr).trans (Fr.grown (S := (lv.ownBlock).toList) hg (fun k hk => by rw [hk]; simp)) (fun b hb' => by
      right
      have : lv.ownBlock = some b := by
        cases hl : lv.ownBlock with
        | none => rw [hl] at hb'; simp at hb'
        | some z => rw [hl] at hb'; simp at hb'; rw [hb']
      have := hb b this
      omega)
  · rcases List.mem_append.1 hy with h2 | h2
    · exact hsl y (h1.slots y h2)
    · have e : y = x := by simpa using h2
      rw [e]
      exact hsl x ho'
  · rw [List.map_append, List.nodup_append]
    refine ⟨h.apart, by simp, fun a ha b hb2 => ?_⟩
    have e : b = x.g := by simpa using hb2
    obtain ⟨y, hy, rfl⟩ := List.mem_map.1 ha
    have h3 := ((h.slots y hy).lt y.g rfl).2
    have h4 := (ho.lt x.g rfl).1
    omega
end Go.Proofs.YtpaekbghnejhoaaDoor


