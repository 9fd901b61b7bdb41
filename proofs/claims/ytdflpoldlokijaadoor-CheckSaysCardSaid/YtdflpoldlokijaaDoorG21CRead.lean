import Derived.Test.YtdflpoldlokijaaDoorG17CJmp
import Derived.Deep.RegionHeld3
import Derived.Test.YtdflpoldlokijaaDoorCBlk
namespace Go.Proofs.YtdflpoldlokijaaDoor
open Go.RowKit
set_option linter.unusedVariables false
section
variable {P : Program} {ops : Array Oper} {Q : Exit → Act → World → Prop} {md : Region.Mode} {S : World → Prop} {L : Nat}
/-- whatever order is picked, and S stands behind each but the last, number L -/
def wpLast (P : Program) (md : Region.Mode) (ops : Array Oper) (Q : Exit → Act → World → Prop) (S : World → Prop) (L : Nat) : Nat → Array Bool → Act → World → Prop
  | 0, listed, a, w => Region.ready md ops listed = [] ∧ Q .normal a w
  | fuel + 1, listed, a, w =>
    (Region.ready md ops listed = [] → Q .normal a w) ∧
    ∀ i ∈ Region.ready md ops listed, wpOp P ops Q i (fun a' w' => (i ≠ L → S w') ∧ wpLast P md ops Q S L fuel (listed.setIfInBounds i true) a' w') a w
theorem wpAny_of_last : ∀ (fuel : Nat) (listed : Array Bool) (a : Act) (w : World), wpLast P md ops Q S L fuel listed a w → wpAny P md ops Q fuel listed a w
  | 0, _, _, _, h => h
  | fuel + 1, _, _, _, h => ⟨h.1, fun i hi => wpOp_mono (fun a' w' h' => wpAny_of_last fuel _ a' w' h'.2) (h.2 i hi)⟩
/-- the last one waits for number i -/
def waitsB (md : Region.Mode) (ops : Array Oper) (L i : Nat) : Bool := match ops[L]? with | some o => o.after.any (fun e => Region.binds md e && e.on == i) | none => false
theorem wpLast_first {i : Nat} {oi : Oper} {v : Value} (hi : ops[i]? = some oi) (hsel : ∀ (j : Nat) (o : Oper) cs b, ops[j]? = some o → o.op ≠ .select cs b)
    (hQ : ∀ c a w, Q (.panic c) (a.put oi.dst v) w → Q (.panic c) a w) (hiL : i ≠ L) (hwt : waitsB md ops L i = true) :
    ∀ (fuel : Nat) (listed : Array Bool) (a : Act) (w : World),
      (∀ j oj, ops[j]? = some oj → j ≠ i → listed.getD j true = false → (∀ e ∈ oj.after, Region.binds md e = true → e.on ≠ i) → oi.apart ops oj = true) →
      i ∈ Region.ready md ops listed → YieldsIf P ops S oi v a → S w →
      wpLast P md ops Q S L fuel (listed.setIfInBounds i true) (a.put oi.dst v) w → wpLast P md ops Q S L (fuel + 1) listed a w := by
  intro fuel
  induction fuel with
  | zero =>
    intro listed a w _ hr hy hS H
    refine ⟨fun h => (by rw [h] at hr; cases hr), fun j hj => ?_⟩
    by_cases hji : j = i
    · subst hji; exact hy.wpOp hi hS ⟨fun _ => hS, H⟩
    · have := ready_mono hj hji
      rw [H.1] at this
      cases this
  | succ fuel ih =>
    intro listed a w hfree hr hy hS H
    refine ⟨fun h => (by rw [h] at hr; cases hr), fun j hj => ?_⟩
    by_cases hji : j = i
    · subst hji; exact hy.wpOp hi hS ⟨fun _ => hS, H⟩
    · have h1 := H.2 j (ready_mono hj hji)
      obtain ⟨hjun, oj, hoj, hall⟩ := mem_ready.1 hj
      have hnot : ∀ e ∈ oj.after, Region.binds md e = true → e.on ≠ i := fun e he hb heq => by
        have h1 := hall e he hb
        have h0 := (mem_ready.1 hr).1
        rw [heq] at h1
        rcases Nat.lt_or_ge i listed.size with h' | h'
        · simp [h'] at h0 h1; rw [h0] at h1; cases h1
        · simp [Array.getElem?_eq_none h'] at h1
      have hjL : j ≠ L := fun e => by
        subst e
        unfold waitsB at hwt
        rw [hoj] at hwt
        simp only [Array.any_eq_true, Bool.and_eq_true, beq_iff_eq] at hwt
        obtain ⟨n, hn, hb, ho⟩ := hwt
        exact hnot _ (Array.getElem_mem hn) hb ho
      have h2 := wpOp_putIf hoj (hfree j oj hoj hji hjun hnot) (fun cs b => hsel i oi cs b hi) (fun cs b => hsel j oj cs b hoj) hQ hy h1
      have hfree' : ∀ k ok, ops[k]? = some ok → k ≠ i → (listed.setIfInBounds j true).getD k true = false →
          (∀ e ∈ ok.after, Region.binds md e = true → e.on ≠ i) → oi.apart ops ok = true := fun k ok hk hki hun hno => by
        refine hfree k ok hk hki ?_ hno
        by_cases hjk : j = k
        · subst hjk; exact hjun
        · rw [getD_set_ne true hjk] at hun; exact hun
      refine wpOp_mono (fun a' w' h3 => ⟨h3.2.1, ih (listed.setIfInBounds j true) a' w' hfree' (ready_mono hr (Ne.symm hji)) h3.1 (h3.2.1 hjL) ?_⟩) h2
      rw [Array.setIfInBounds_comm _ _ hji]
      exact h3.2.2
theorem wpLast_take {i : Nat} {oi : Oper} {v : Value} {fuel : Nat} {listed : Array Bool} {a : Act} {w : World} (hi : ops[i]? = some oi)
    (hs : Region.noSelect ops = true) (hf : Region.free md ops listed i = true) (hr : (Region.ready md ops listed).contains i = true) (hiL : i ≠ L) (hwt : waitsB md ops L i = true)
    (hQ : ∀ c a w, Q (.panic c) (a.put oi.dst v) w → Q (.panic c) a w) (hy : YieldsIf P ops S oi v a) (hS : S w)
    (h : wpLast P md ops Q S L fuel (listed.setIfInBounds i true) (a.put oi.dst v) w) : wpLast P md ops Q S L (fuel + 1) listed a w :=
  wpLast_first hi (Region.noSelect_spec hs) hQ hiL hwt fuel listed a w (Region.free_spec hi hf) (by simpa using hr) hy hS h
/-- just one may come up -/
theorem wpLast_one {i : Nat} {o : Oper} {fuel : Nat} {listed : Array Bool} {a : Act} {w : World} (hr : Region.ready md ops listed = [i]) (ho : ops[i]? = some o) (hiL : i ≠ L)
    (h : ∀ K' : Act → World → Prop, Shut (∀ a w, S w → (S w → wpLast P md ops Q S L fuel (listed.setIfInBounds i true) a w) → K' a w) → if Region.wanted o (yielded ops a.tmps) = true then Oper.wp P o a w K' Q else K' (a.put o.dst undef) w) : wpLast P md ops Q S L (fuel + 1) listed a w := by
  refine ⟨fun h0 => (by rw [hr] at h0; cases h0), fun j hj => ?_⟩
  rw [hr] at hj
  have e : j = i := by simpa using hj
  subst e
  exact wpOp_step ho (fun K' hK => h K' (fun a w hS hW => hK a w ⟨fun _ => hS, hW hS⟩))
/-- the last comes up -/
theorem wpLast_end {o : Oper} {fuel : Nat} {listed : Array Bool} {a : Act} {w : World} (hr : Region.ready md ops listed = [L]) (ho : ops[L]? = some o)
    (hr2 : Region.ready md ops (listed.setIfInBounds L true) = [])
    (h : ∀ K' : Act → World → Prop, Shut (∀ a w, Q .normal a w → K' a w) → if Region.wanted o (yielded ops a.tmps) = true then Oper.wp P o a w K' Q else K' (a.put o.dst undef) w) : wpLast P md ops Q S L (fuel + 1) listed a w := by
  refine ⟨fun h0 => (by rw [hr] at h0; cases h0), fun j hj => ?_⟩
  rw [hr] at hj
  have e : j = L := by simpa using hj
  subst e
  refine wpOp_step ho (fun K' hK => h K' (fun a w hQ => hK a w ⟨fun h => absurd rfl h, ?_⟩))
  cases fuel with
  | zero => exact ⟨hr2, hQ⟩
  | succ n => exact ⟨fun _ => hQ, by rw [hr2]; simp⟩
theorem wp_region_last {id : Nat} {a : Act} {w : World} (hm : P.follows .mixedOrders = true) (hS : S w.drew)
    (h : S w.drew → wpLast P .any ops Q S L ops.size (Array.replicate ops.size false) a w.drew) : (Code.region id ops true).wp P Q a w :=
  wp_region_any hm (wpAny_of_last _ _ _ _ (h hS))
end
end Go.Proofs.YtdflpoldlokijaaDoor

namespace Go.Proofs.YtdflpoldlokijaaDoor
open Go.RowKit
set_option linter.unusedVariables false
set_option linter.unusedSimpArgs false
attribute [local go_sem ↓] Go.wp_at_zero Go.wp_at_succ
theorem readP_out (C : Cx) : ∀ (f : Nat) (sc : List Nat) (at_ en k : Nat) (R : Rs) (x : Nat), x < at_ → plD (readP C f sc at_ en k R).2.pls x = plD R.pls x := by
  intro f
  induction f with
  | zero => intro sc at_ en k R x hx; rfl
  | succ f ih =>
    intro sc at_ en k R x hx
    unfold readP
    split
    · rename_i hlt
      split
      · rfl
      · rename_i he
        have he : (instrP C sc at_ en).1 = 0 := by simpa using he
        obtain ⟨hok, -, -⟩ := instrP_ok C sc at_ en he
        have h1 := hok.gt
        have h2 := hok.ne
        split
        · split
          · rw [ih _ _ _ _ _ _ (by omega)]; exact plD_set_ne _ _ _ _ (by omega)
          · rw [ih _ _ _ _ _ _ (by omega), ih _ _ _ _ _ _ (by omega)]; exact plD_set_ne _ _ _ _ (by omega)
        · rw [ih _ _ _ _ _ _ (by omega)]; exact plD_set_ne _ _ _ _ (by omega)
    · rfl
theorem fit19_facts {b : Bn} {lits : Nat} {sc : List Nat} {x y z : Int} (h : fitP b lits sc 19 x y z = true) : 0 ≤ y ∧ y ≤ 32 ∧ 0 < z ∧ sc.length ≤ 24 := by
  unfold fitP scopeB inR at h
  simp at h
  omega
set_option maxRecDepth 100000 in
set_option maxHeartbeats 8000000 in
theorem read_step (f : Nat) (IH : ∀ g, g < f → ReadC g) : ReadC f := by
  intro w B a C wv sc ps cs pls pp inf fr en h hB hf hfe hen hin
  obtain ⟨FIN, hFIN⟩ : ∃ q, readP C f sc fr en (inf.length + 1) ⟨pls, inf ++ [(sc, fr, en)]⟩ = q := ⟨_, rfl⟩
  rw [hFIN]
  have hsh := h.short
  have hB0 := h.base
  have hplen := h.plen
  have hlit := h.rng
  obtain ⟨c0, -, -, -, -, -, c6, c7, c8⟩ := h.cells
  simp only [I] at c7
  have fz := frozen_in h.top 7
  have hm := h.more (inf.length + 1)
  simp only [I] at hm
  have e7 : ((inf.length : Nat) : Int) + 1 = ((inf.length + 1 : Nat) : Int) := by push_cast; rfl
  rw [← e7] at hm
  have hc7 := hm.1.cells
  have c7' : (w.setCell ⟨a, 7, none⟩ (.int .i64 ((inf.length : Int) + 1))).cell? ⟨a, 7, none⟩ = some (.int .i64 ((inf.length : Int) + 1)) := hc7.2.2.2.2.2.2.2.1
  have hin2 : (inf.length : Int) ≤ 100000 := by omega
  have HST : Hid (∃ g R ps' cs', en - fr < g ∧ g ≤ f ∧ readP C g sc fr en (inf.length + 1) R = FIN ∧ RR (w.setCell ⟨a, 7, none⟩ (.int .i64 ((inf.length : Int) + 1))) B a C wv sc ps' cs' R.pls pp R.inf.length ∧ Kw B w (w.setCell ⟨a, 7, none⟩ (.int .i64 ((inf.length : Int) + 1))) ∧ R.inf.length + (en - fr) ≤ 100001) :=
    ⟨f, ⟨pls, inf ++ [(sc, fr, en)]⟩, ps, cs, hf, Nat.le_refl _, hFIN, by simpa using hm.1, hm.2.kw hB (fun x hx => by simp at hx; rw [hx]; exact hB0), by simp; omega⟩
  have HI := mkHid IH
  clear h hm hc7 hFIN IH e7 hlit
  go_enter Tryd.func25, Tryd.ntmps25
  go_wp2_with fail
  go_loopw [8] (fun q wr => ∃ at_ : Nat, at_ ≤ en ∧ q = .int .i64 at_ ∧ Hid (∃ g R ps' cs', en - at_ < g ∧ g ≤ f ∧ readP C g sc at_ en (inf.length + 1) R = FIN ∧ RR wr B a C wv sc ps' cs' R.pls pp R.inf.length ∧ Kw B w wr ∧ R.inf.length + (en - at_) ≤ 100001)) (fun q _ => en - (intOf q).toNat)
  case atStart => exact ⟨fr, hfe, rfl, HST⟩
  case round =>
    clear HST c7' c0 c6 c7 c8 fz
    obtain ⟨at_, hae, rfl, hst⟩ := hrel
    by_cases hlt : at_ < en
    · obtain ⟨g, R, ps1, cs1, hg1, hg2, hfin, hr, hk, hi⟩ := hst.out
      have hB1 : B ≤ wr.heap.size := Nat.le_trans hB hk.size
      have a1 : (at_ : Int) < (en : Int) := by omega
      have a0 : (0 : Int) ≤ (at_ : Int) := by omega
      have HINS := mkHid (instr_ok hr at_ en hlt hen)
      obtain ⟨g', rfl⟩ : ∃ g', g = g' + 1 := ⟨g - 1, by omega⟩
      unfold readP at hfin
      rw [if_pos hlt] at hfin
      have hpos : 0 < C.ws.length := by omega
      by_cases he : (instrP C sc at_ en).1 = 0
      · rw [if_neg (by simpa using he)] at hfin
        obtain ⟨hok, hb0, ht0⟩ := instrP_ok C sc at_ en he
        have hgt := hok.gt
        have hne := hok.ne
        obtain ⟨p, hp⟩ : ∃ p, (instrP C sc at_ en).2 = p := ⟨_, rfl⟩
        rw [hp] at hfin hok hb0 ht0 hgt hne HINS
        rw [he, plc_arr, hb0, ht0] at HINS
        simp only [I] at HINS
        obtain ⟨gp, rfl, hgB, -⟩ := hr.place at_ (by rw [hr.plen]; omega)
        have hpl := hr.plen
        have a2 : (at_ : Int) < (R.pls.length : Int) := by omega
        have a5 : at_ < R.pls.length := by omega
        have HR := mkHid hr
        have HK := mkHid hk
        have HFn := mkHid hfin
        have HOK := mkHid hok
        have HPl := mkHid hpl
        clear hst hr hk hfin he hp hok hpl hplen
        go_wp2_with (go_at_call 42; refine HINS.out.mono ?_; rintro e w1 ⟨rfl, f1⟩; have F1 := mkHid f1; clear f1)
        obtain ⟨V, hV⟩ : ∃ V, w1.alloc (.cells #[.int .i64 p.op, .int .i64 ((inf.length : Int) + 1), .int .i64 p.args, .int .i64 p.fin, .int .i64 p.nxt, .int .i64 0] 93) = V := ⟨_, rfl⟩
        rw [hV]
        have FV : Fr [] wr V := by rw [← hV]; exact F1.out.al _
        have GV : V.heap[w1.heap.size]? = some (.cells #[.int .i64 p.op, .int .i64 ((inf.length : Int) + 1), .int .i64 p.args, .int .i64 p.fin, .int .i64 p.nxt, .int .i64 0] 93 (0, 0)) := by rw [← hV]; exact heap_alloc_new w1 _
        have hrV := HR.out.idle (FV.tr0 (Fr.drew [] V))
        obtain ⟨-, -, -, -, -, -, -, -, c8⟩ := (HR.out.idle FV).cells
        have l0 : V.cell? ⟨w1.heap.size, 0, none⟩ = some (.int .i64 p.op) := by rw [cell_in GV]; rfl
        have l1 : V.cell? ⟨w1.heap.size, 1, none⟩ = some (.int .i64 ((inf.length : Int) + 1)) := by rw [cell_in GV]; rfl
        have l2 : V.cell? ⟨w1.heap.size, 2, none⟩ = some (.int .i64 p.args) := by rw [cell_in GV]; rfl
        have l3 : V.cell? ⟨w1.heap.size, 3, none⟩ = some (.int .i64 p.fin) := by rw [cell_in GV]; rfl
        have l4 : V.cell? ⟨w1.heap.size, 4, none⟩ = some (.int .i64 p.nxt) := by rw [cell_in GV]; rfl
        have l5 : V.cell? ⟨w1.heap.size, 5, none⟩ = some (.int .i64 0) := by rw [cell_in GV]; rfl
        obtain ⟨old, o1, o2, o3, o4, o5⟩ := hrV.put at_ a5 (p.at (inf.length + 1))
        have epl : plc (p.at (inf.length + 1)) = [.int .i64 p.op, .int .i64 ((inf.length : Int) + 1), .int .i64 p.args, .int .i64 p.fin, .int .i64 p.nxt, .int .i64 0] := by
          unfold plc Pl.at
          simp only [I, ht0]
          push_cast
          rfl
        rw [epl] at o3 o4
        have HO1 := mkHid o1
        have hne2 : w1.heap.size ≠ gp := fun e => by
          have h1 := (own_lt HR.out.pl gp rfl).2
          have h2 := F1.out.size
          omega
        have HC : Hid (RR (V.drew.setRow gp (setSeg old (at_ * 6) [.int .i64 p.op, .int .i64 ((inf.length : Int) + 1), .int .i64 p.args, .int .i64 p.fin, .int .i64 p.nxt, .int .i64 0])) B a C wv sc ps1 cs1 (R.pls.set at_ (p.at (inf.length + 1))) (some ⟨gp, 0, none⟩) R.inf.length ∧ Kw B w (V.drew.setRow gp (setSeg old (at_ * 6) [.int .i64 p.op, .int .i64 ((inf.length : Int) + 1), .int .i64 p.args, .int .i64 p.fin, .int .i64 p.nxt, .int .i64 0])) ∧ (V.drew.setRow gp (setSeg old (at_ * 6) [.int .i64 p.op, .int .i64 ((inf.length : Int) + 1), .int .i64 p.args, .int .i64 p.fin, .int .i64 p.nxt, .int .i64 0])).heap[w1.heap.size]? = some (.cells #[.int .i64 p.op, .int .i64 ((inf.length : Int) + 1), .int .i64 p.args, .int .i64 p.fin, .int .i64 p.nxt, .int .i64 0] 93 (0, 0))) := by
          refine ⟨o3, HK.out.trans (((FV.tr0 (Fr.drew [] V)).kw hB1 (by simp)).trans (o4.kw (Nat.le_trans hB1 (FV.tr0 (Fr.drew [] V)).size) (fun x hx => by simp at hx; rw [hx]; exact o5))), ?_⟩
          exact (o4.block _ (lt_of_heap (w := V.drew) GV) (by simp; exact hne2)).trans GV
        clear hV FV GV hrV o1 o3 o4 epl
        go_cut [] (fun W => Hid (RR W B a C wv sc ps1 cs1 (R.pls.set at_ (p.at (inf.length + 1))) (some ⟨gp, 0, none⟩) R.inf.length ∧ Kw B w W ∧ W.heap[w1.heap.size]? = some (.cells #[.int .i64 p.op, .int .i64 ((inf.length : Int) + 1), .int .i64 p.args, .int .i64 p.fin, .int .i64 p.nxt, .int .i64 0] 93 (0, 0))))
        case first =>
          refine wp_region_last (L := 7) (S := fun W => W.cell? ⟨a, 8, none⟩ = some (.slice (some ⟨gp, 0, none⟩) R.pls.length R.pls.length) ∧ W.cell? ⟨w1.heap.size, 0, none⟩ = some (.int .i64 (p.op : Int)) ∧ W.cell? ⟨w1.heap.size, 1, none⟩ = some (.int .i64 ((inf.length : Int) + 1)) ∧ W.cell? ⟨w1.heap.size, 2, none⟩ = some (.int .i64 (p.args : Int)) ∧ W.cell? ⟨w1.heap.size, 3, none⟩ = some (.int .i64 (p.fin : Int)) ∧ W.cell? ⟨w1.heap.size, 4, none⟩ = some (.int .i64 (p.nxt : Int)) ∧ W.cell? ⟨w1.heap.size, 5, none⟩ = some (.int .i64 0)) (by kernel_rfl) (⟨c8, l0, l1, l2, l3, l4, l5⟩) (fun hHeld => ?_)
          refine wpLast_take (i := 0) (v := ?_) rfl (by kernel_rfl) (by kernel_rfl) (by kernel_rfl) (by decide) (by kernel_rfl) (fun _ _ _ h => h) (Or.inl ⟨by rfl, ?_⟩) (by assumption) ?_
          rotate_left
          · (intro w hSw; (try dsimp only at hSw); first | (go_simp; done) | (go_simp; with_reducible rfl))
          try simp only [Act.put, List.getElem_toArray, List.getElem_cons_zero, List.getElem_cons_succ, List.setIfInBounds_toArray, List.set_cons_zero, List.set_cons_succ]
          refine wpLast_take (i := 1) (v := ?_) rfl (by kernel_rfl) (by kernel_rfl) (by kernel_rfl) (by decide) (by kernel_rfl) (fun _ _ _ h => h) (Or.inl ⟨by rfl, ?_⟩) (by assumption) ?_
          rotate_left
          · (intro w hSw; (try dsimp only at hSw); first | (go_simp; done) | (go_simp; with_reducible rfl))
          try simp only [Act.put, List.getElem_toArray, List.getElem_cons_zero, List.getElem_cons_succ, List.setIfInBounds_toArray, List.set_cons_zero, List.set_cons_succ]
          refine wpLast_take (i := 2) (v := ?_) rfl (by kernel_rfl) (by kernel_rfl) (by kernel_rfl) (by decide) (by kernel_rfl) (fun _ _ _ h => h) (Or.inl ⟨by rfl, ?_⟩) (by assumption) ?_
          rotate_left
          · (intro w hSw; (try dsimp only at hSw); first | (go_simp; done) | (go_simp; with_reducible rfl))
          try simp only [Act.put, List.getElem_toArray, List.getElem_cons_zero, List.getElem_cons_succ, List.setIfInBounds_toArray, List.set_cons_zero, List.set_cons_succ]
          refine wpLast_take (i := 3) (v := ?_) rfl (by kernel_rfl) (by kernel_rfl) (by kernel_rfl) (by decide) (by kernel_rfl) (fun _ _ _ h => h) (Or.inl ⟨by rfl, ?_⟩) (by assumption) ?_
          rotate_left
          · (intro w hSw; (try dsimp only at hSw); first | (go_simp; done) | (go_simp; with_reducible rfl))
          try simp only [Act.put, List.getElem_toArray, List.getElem_cons_zero, List.getElem_cons_succ, List.setIfInBounds_toArray, List.set_cons_zero, List.set_cons_succ]
          refine wpLast_take (i := 4) (v := ?_) rfl (by kernel_rfl) (by kernel_rfl) (by kernel_rfl) (by decide) (by kernel_rfl) (fun _ _ _ h => h) (Or.inl ⟨by rfl, ?_⟩) (by assumption) ?_
          rotate_left
          · (intro w hSw; (try dsimp only at hSw); first | (go_simp; done) | (go_simp; with_reducible rfl))
          try simp only [Act.put, List.getElem_toArray, List.getElem_cons_zero, List.getElem_cons_succ, List.setIfInBounds_toArray, List.set_cons_zero, List.set_cons_succ]
          refine wpLast_take (i := 5) (v := ?_) rfl (by kernel_rfl) (by kernel_rfl) (by kernel_rfl) (by decide) (by kernel_rfl) (fun _ _ _ h => h) (Or.inl ⟨by rfl, ?_⟩) (by assumption) ?_
          rotate_left
          · (intro w hSw; (try dsimp only at hSw); first | (go_simp; done) | (go_simp; with_reducible rfl))
          try simp only [Act.put, List.getElem_toArray, List.getElem_cons_zero, List.getElem_cons_succ, List.setIfInBounds_toArray, List.set_cons_zero, List.set_cons_succ]
          refine wpLast_take (i := 6) (v := ?_) rfl (by kernel_rfl) (by kernel_rfl) (by kernel_rfl) (by decide) (by kernel_rfl) (fun _ _ _ h => h) (Or.inl ⟨by rfl, ?_⟩) (by assumption) ?_
          rotate_left
          · (intro w hSw; (try dsimp only at hSw); first | (go_simp; done) | (go_simp; with_reducible rfl))
          try simp only [Act.put, List.getElem_toArray, List.getElem_cons_zero, List.getElem_cons_succ, List.setIfInBounds_toArray, List.set_cons_zero, List.set_cons_succ]
          refine wpLast_end (by kernel_rfl) rfl (by kernel_rfl) (fun K hK => ?_)
          refine step_store_off rfl 93 (.tmp 53) (.tmp 52) rfl gp (at_ * 6) #[.int .i64 p.op, .int .i64 ((inf.length : Int) + 1), .int .i64 p.args, .int .i64 p.fin, .int .i64 p.nxt, .int .i64 0] (by simp [Act.eval]) (by simp [Act.eval]) 93 old HO1.out (by kernel_rfl) o2 (by kernel_rfl) ?_
          refine hK.out _ _ ?_
          clear hK K
          try simp only [Act.put, List.getElem_toArray, List.getElem_cons_zero, List.getElem_cons_succ, List.setIfInBounds_toArray, List.set_cons_zero, List.set_cons_succ]
          go_wp2_with fail
          go_meet
          case rel => exact HC.out
        case rest =>
          clear HC HO1 l0 l1 l2 l3 l4 l5 c8
          obtain ⟨hr2, hk2, hP2⟩ := hcut.out
          have l0 : wc.cell? ⟨w1.heap.size, 0, none⟩ = some (.int .i64 p.op) := by rw [cell_in hP2]; rfl
          have hlen2 : (R.pls.set at_ (p.at (inf.length + 1))).length = R.pls.length := by simp
          have hB2 : B ≤ wc.heap.size := Nat.le_trans hB hk2.size
          by_cases h19 : p.op = 19
          · have d19 : ((p.op : Int) != 19) = false := by rw [h19]; rfl
            have hfit := HOK.out.fit
            rw [h19] at hfit
            obtain ⟨s1, s2, s3, s4⟩ := fit19_facts hfit
            have hfin4 : p.fin = at_ + 1 + 3 := by have := HOK.out.fin; rw [h19] at this; exact this
            obtain ⟨sl, hsl⟩ := Int.eq_ofNat_of_zero_le s1
            have hpat : plD (R.pls.set at_ (p.at (inf.length + 1))) at_ = p.at (inf.length + 1) := plD_set_eq _ _ _ a5
            have HB := block_ok g' (HI.out g' (by omega)) hr2 hB2 at_ p.fin p.nxt sl (by omega) (by rw [hpat]; rfl) (by rw [hpat]; rfl) hsl (by omega) s4 (by omega) hgt.2 (by omega) (by omega)
            have HN := HFn.out
            rw [if_pos h19, hsl, Int.toNat_natCast] at HN
            have HOut := readP_out C g' (sc ++ [sl]) p.fin p.nxt (R.inf.length + 1) ⟨R.pls.set at_ (p.at (inf.length + 1)), R.inf ++ [(sc ++ [sl], p.fin, p.nxt)]⟩ at_ hgt.1
            have HInf := readP_inf C g' (sc ++ [sl]) p.fin p.nxt (R.inf.length + 1) ⟨R.pls.set at_ (p.at (inf.length + 1)), R.inf ++ [(sc ++ [sl], p.fin, p.nxt)]⟩
            have HLen := readP_len C g' (sc ++ [sl]) p.fin p.nxt (R.inf.length + 1) ⟨R.pls.set at_ (p.at (inf.length + 1)), R.inf ++ [(sc ++ [sl], p.fin, p.nxt)]⟩
            simp only [List.length_append, List.length_singleton, List.length_set] at HInf HLen
            rw [hpat] at HOut
            obtain ⟨⟨E2, R2⟩, hq⟩ : ∃ q, readP C g' (sc ++ [sl]) p.fin p.nxt (R.inf.length + 1) ⟨R.pls.set at_ (p.at (inf.length + 1)), R.inf ++ [(sc ++ [sl], p.fin, p.nxt)]⟩ = q := ⟨_, rfl⟩
            rw [hq] at HB HN HOut HInf HLen
            simp only at HB HN HOut HInf HLen
            have HBk := mkHid HB
            have HInf := mkHid HInf
            have HK2 := mkHid hk2
            by_cases hE : E2 = 0
            · rw [if_neg (by simpa using hE)] at HN
              subst hE
              have HCl : Hid (∀ W ps' cs', RR W B a C wv sc ps' cs' R2.pls (some ⟨gp, 0, none⟩) R2.inf.length → W.cell? ⟨a, 8, none⟩ = some (.slice (some ⟨gp, 0, none⟩) R.pls.length R.pls.length) ∧ W.cell? ⟨gp, at_ * 6 + 4, none⟩ = some (.int .i64 p.nxt)) := fun W ps' cs' hW => by
                obtain ⟨-, -, -, -, -, -, -, -, c8⟩ := hW.cells
                obtain ⟨gp2, e2, -, -, -, -, -, i4, -⟩ := hW.place at_ (by rw [HLen]; exact a5)
                injection e2 with e2
                injection e2 with e2
                subst e2
                rw [HOut] at i4
                rw [HLen] at c8
                exact ⟨c8, i4⟩
              have HN2 := mkHid HN
              clear hcut hr2 hk2 hP2 HN HFn h19 hlen2 HB hq HOut HLen hpat hfit hsl s1 s2 s3
              go_wp2_with (go_at_call 43; refine HBk.out.mono ?_; rintro e w5 ⟨rfl, k5, ps5, cs5, h5⟩; obtain ⟨c8, i4⟩ := HCl.out w5 ps5 cs5 h5; have G5 := mkHid h5; have K5 := mkHid k5; clear h5 k5)
              go_roundw
              case rel =>
                refine ⟨p.nxt, hne, rfl, g', R2, ps5, cs5, by omega, by omega, HN2.out, G5.out, HK2.out.trans K5.out, ?_⟩
                have := HInf.out
                omega
              case measure => show en - p.nxt < en - at_; omega
            · rw [if_pos hE] at HN
              have e1 : (E2 != 0) = true := by simpa using hE
              have HN2 := mkHid HN
              clear hcut hr2 hk2 hP2 HN HFn h19 hlen2 HB hq HOut HLen hpat hfit hsl s1 s2 s3 hE
              go_wp2_with (go_at_call 43; refine HBk.out.mono ?_; rintro e w5 ⟨rfl, k5, ps5, cs5, h5⟩; have G5 := mkHid h5; have K5 := mkHid k5; clear h5 k5)
              go_ret
              rw [← HN2.out]
              exact ⟨rfl, HK2.out.trans K5.out, ps5, cs5, G5.out⟩
          · have d19 : ((p.op : Int) != 19) = true := by simpa using (show ¬ (p.op : Int) = 19 by omega)
            have HN : Hid (readP C g' sc p.nxt en (inf.length + 1) ⟨R.pls.set at_ (p.at (inf.length + 1)), R.inf⟩ = FIN) := by
              have := HFn.out
              rw [if_neg h19] at this
              exact this
            obtain ⟨-, -, -, -, -, -, -, -, c8⟩ := hr2.cells
            obtain ⟨gp2, e2, -, -, -, -, -, i4, -⟩ := hr2.place at_ (by rw [hlen2]; exact a5)
            injection e2 with e2
            injection e2 with e2
            subst e2
            rw [plD_set_eq _ _ _ a5] at i4
            rw [hlen2] at c8
            have i4 : wc.cell? ⟨gp, at_ * 6 + 4, none⟩ = some (.int .i64 p.nxt) := i4
            have HS2 : Hid (∃ g R ps' cs', en - p.nxt < g ∧ g ≤ f ∧ readP C g sc p.nxt en (inf.length + 1) R = FIN ∧ RR wc B a C wv sc ps' cs' R.pls (some ⟨gp, 0, none⟩) R.inf.length ∧ Kw B w wc ∧ R.inf.length + (en - p.nxt) ≤ 100001) :=
              ⟨g', _, ps1, cs1, by omega, by omega, HN.out, hr2, hk2, by show R.inf.length + (en - p.nxt) ≤ 100001; omega⟩
            clear hcut hr2 hk2 hP2 HN HFn h19 hlen2
            go_wp2_with fail
            go_roundw
            case rel => exact ⟨p.nxt, hne, rfl, HS2⟩
            case measure => show en - p.nxt < en - at_; omega
      · rw [if_pos he] at hfin
        have HF : Hid ((instrP C sc at_ en).1 = FIN.1 ∧ R = FIN.2) := by rw [← hfin]; exact ⟨rfl, rfl⟩
        generalize instrP C sc at_ en = q at *
        obtain ⟨E, p⟩ := q
        simp only at *
        have e0 : (E == 0) = false := beq_eq_false_iff_ne.2 he
        have e1 : (E != 0) = true := by simpa using he
        rw [plc_arr] at HINS
        simp only [I] at HINS
        have HR := mkHid hr
        have HK := mkHid hk
        clear hst hr hk hfin he
        go_wp2_with (go_at_call 42; refine HINS.out.mono ?_; rintro e w1 ⟨rfl, f1⟩; have F1 := mkHid f1; clear f1)
        go_ret
        obtain ⟨z1, z2⟩ := HF.out
        rw [← z1, ← z2]
        exact ⟨rfl, HK.out.trans ((F1.out.al _).kw hB1 (by simp)), _, _, HR.out.idle (F1.out.al _)⟩
    · obtain ⟨g, R, ps1, cs1, hg1, hg2, hfin, hr, hk, hi⟩ := hst.out
      have a1 : ¬ (at_ : Int) < (en : Int) := by omega
      have d1 : decide ((at_ : Int) < (en : Int)) = false := decide_eq_false a1
      have HF : Hid (FIN = (0, R)) := by
        show FIN = (0, R)
        rw [← hfin]
        obtain ⟨g', rfl⟩ : ∃ g', g = g' + 1 := ⟨g - 1, by omega⟩
        unfold readP
        rw [if_neg hlt]
      have HR := mkHid hr
      have HK := mkHid hk
      clear hst hr hk hfin
      go_wp2_with fail
      go_ret
      rw [HF.out]
      exact ⟨rfl, HK.out, _, _, HR.out⟩
theorem read_ok (f : Nat) : ReadC f := Nat.strongRecOn f (fun f ih => read_step f ih)
end Go.Proofs.YtdflpoldlokijaaDoor
