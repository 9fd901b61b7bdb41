import Derived.Test.YtdflpoldlokijaaDoorG28CDep
import Derived.Test.YtdflpoldlokijaaDoorG16CSy0
import Derived.OpenShut
import Derived.Test.YtdflpoldlokijaaDoorG13CTwin
namespace Go.Proofs.YtdflpoldlokijaaDoor
open Go.RowKit
set_option linter.unusedVariables false
set_option linter.unusedSimpArgs false
attribute [local go_sem ↓] Go.wp_at_zero Go.wp_at_succ
set_option maxRecDepth 100000 in
set_option maxHeartbeats 2000000 in
theorem check_ok (C : Cx) (h : Hd) (ts : List LitT) (lp : Option Addr) (lc : Nat) (pw : Option Addr) (cw : Nat) (w : World) (hc : CodeR w C ts lp lc pw cw) :
    Calls Tryd.prog 8 #[.agg (cdv h lp C.lits lc pw C.ws.length cw), .agg (bnv C.b)] w fun e w' => ∃ lk, e = .returned (.int .i64 (depthsP C h lk).1) ∧ Fr [] w w' ∧ depthsP C h lk = depthsP C h (lookL C.b.symbols ts 0).1 := by
  have HD : Hid (∀ V, Fr [] w V → Calls Tryd.prog 14 #[.agg (cdv h lp C.lits lc pw C.ws.length cw), .agg (bnv C.b)] V fun e w' => ∃ lk v, e = .returned (.tuple #[v, .int .i64 (depthsP C h lk).1]) ∧ Fr [] V w' ∧ depthsP C h lk = depthsP C h (lookL C.b.symbols ts 0).1 ∧ ((depthsP C h lk).1 = 0 → w'.ownsRow V.heap.size 3 1 v C.ws.length ((depthsP C h lk).2.map (Value.int .i64))) ∧ ((depthsP C h lk).1 ≠ 0 → v = .slice none 0 0)) := fun V hV => depths_ok C h ts lp lc pw cw V ⟨hc.words.idle hV, hc.cap, hc.lits.idle hV, hc.ln, hc.rng, hc.tb.idle hV⟩
  have F2 : Hid (∀ o1 o2 : Obj, Fr [] w ((w.alloc o1).alloc o2)) := fun o1 o2 => ((Fr.refl [] w).al o1).al o2
  unfold cdv bnv at *
  clear hc
  go_enter Tryd.func8, Tryd.ntmps8
  go_wp2_with (go_at_call 14; refine (HD.out _ (F2.out _ _)).mono ?_; rintro e w1 ⟨lk, v, rfl, f1, z1, -, -⟩; have F1 := mkHid ((F2.out _ _).tr0 f1); have Z1 := mkHid z1; clear f1 z1)
  go_ret
  exact ⟨lk, rfl, F1.out, Z1.out⟩
set_option maxHeartbeats 400000 in
theorem num_ok (n : Int) (w : World) : Calls Tryd.prog 9 #[.int .i64 n] w fun e w' => e = .returned (.int .i64 n) ∧ w' = w := by
  go_enter Tryd.func9, Tryd.ntmps9
  go_wp2_with fail
  go_ret
  exact ⟨rfl, rfl⟩
set_option maxRecDepth 100000 in
set_option maxHeartbeats 2000000 in
theorem same_ok (l : List Int) (va vb : Value) (w : World) (ha : Rd w va l) (hb : Rd w vb l) : Calls Tryd.prog 16 #[va, vb] w fun e w' => e = .returned (.bool true) ∧ Fr [] w w' := by
  obtain ⟨pa, ca, rfl, hpa⟩ := ha.at_
  obtain ⟨pb, cb, rfl, hpb⟩ := hb.at_
  have hs := ha.short
  have HA := mkHid hpa
  have HB := mkHid hpb
  clear ha hb hpa hpb
  go_enter Tryd.func16, Tryd.ntmps16
  go_wp2_with fail
  go_loopw [5] (fun q wr => ∃ i : Nat, i ≤ l.length ∧ q = .int .i64 i ∧ Hid (Fr [] w wr)) (fun q _ => l.length - (intOf q).toNat)
  case atStart => exact ⟨0, Nat.zero_le _, rfl, Fr.refl _ _⟩
  case round =>
    obtain ⟨i, hi, rfl, hf⟩ := hrel
    have i0 : (0 : Int) ≤ (i : Int) := by omega
    by_cases hlt : i < l.length
    · have i1 : (i : Int) < (l.length : Int) := by omega
      obtain ⟨ga, oa, rfl, -, hca⟩ := HA.out (by omega)
      obtain ⟨gb, ob, rfl, -, hcb⟩ := HB.out (by omega)
      have x1 := hf.out.cl (hca i hlt)
      have x2 := hf.out.cl (hcb i hlt)
      generalize l.getD i 0 = z at *
      have HD : Hid (∀ n, Fr [] w (wr.drewN n)) := fun n => hf.out.dn n
      clear hca hcb
      go_wp2_with fail
      try go_quiet (fail)
      try go_wp2_with fail
      go_roundw
      case rel => exact ⟨i + 1, by omega, by go_num, by first | exact HD.out _ | exact hf⟩
      case measure => simp [intOf]; omega
    · have hie : i = l.length := by omega
      subst hie
      go_wp2_with fail
      go_ret
      exact ⟨rfl, hf.out⟩
end Go.Proofs.YtdflpoldlokijaaDoor
namespace Go.Proofs.YtdflpoldlokijaaDoor
open Go.RowKit
set_option linter.unusedVariables false
set_option linter.unusedSimpArgs false
/-- the first numbers of a row of one's own can be read -/
theorem rd_front {w : World} {B : Nat} {p : Option Addr} {c : Nat} {ls ms : List Int} (h : w.ownsRow B 3 1 (.slice p (ls.length + ms.length) c) (ls.length + ms.length) ((ls ++ ms).map (Value.int .i64))) (hm : 0 < ms.length) (hs : ls.length ≤ 17592186043904) : Rd w (.slice p ls.length c) ls ∧ ls.length ≤ c ∧ ∃ g, p = some ⟨g, 0, none⟩ ∧ B ≤ g := by
  rcases h.2 with ⟨e, e0⟩ | ⟨g, cap, cur, e, q1, q2, q3, q4⟩
  · omega
  · injection e with e1 _ e3
    subst e1 e3
    have hl := lt_of_heap q2
    refine ⟨⟨⟨_, _, rfl, fun hp => ⟨g, 0, rfl, hl, fun i hi => ?_⟩⟩, ?_, hs⟩, by omega, g, rfl, q1⟩
    rotate_left
    · intro c' hh
      injection hh with h1
      exact absurd h1 (by simp)
    have hc := h.cellAt i (by omega)
    rw [Nat.zero_add, hc, List.getElem?_map, List.getElem?_append_left hi, List.getElem?_eq_getElem hi, List.getD_eq_getElem?_getD, List.getElem?_eq_getElem hi]
    rfl
/-- the code that the law hands on: numbers with marks behind them, a tree of literals of its own -/
structure Gv (w : World) (Ok : Nat → Prop) (C : Cx) (ts us : List LitT) (pm : Option Addr) (cm : Nat) (pt : Option Addr) (ct : Nat) : Prop where
  row : w.ownsRow 0 3 1 (.slice pm (C.ws.length + 64) cm) (C.ws.length + 64) ((C.ws ++ mkS 64).map (Value.int .i64))
  lits : LitsM w Ok pt ct us
  st : stL us = stL ts
  ln : ts.length = C.lits
  rng : ∀ i, -9223372036854775808 ≤ C.w i ∧ C.w i ≤ 9223372036854775807
  tb : Tb w
  short : C.ws.length ≤ 17592186043904
theorem Gv.len {w : World} {Ok : Nat → Prop} {C : Cx} {ts us : List LitT} {pm : Option Addr} {cm : Nat} {pt : Option Addr} {ct : Nat} (h : Gv w Ok C ts us pm cm pt ct) : us.length = C.lits := by rw [← stL_len, h.st, stL_len, h.ln]
theorem Gv.code {w : World} {Ok : Nat → Prop} {C : Cx} {ts us : List LitT} {pm : Option Addr} {cm : Nat} {pt : Option Addr} {ct : Nat} (h : Gv w Ok C ts us pm cm pt ct) : CodeR w C us pt ct pm cm := by
  have hr := rd_front (ms := mkS 64) (by rw [mkS_len]; exact h.row) (by rw [mkS_len]; omega) h.short
  exact ⟨hr.1, hr.2.1, h.lits.plain, h.len, h.rng, h.tb⟩
/-- what look says of it is what it says of the code that was given -/
theorem Gv.look {w : World} {Ok : Nat → Prop} {C : Cx} {ts us : List LitT} {pm : Option Addr} {cm : Nat} {pt : Option Addr} {ct : Nat} (h : Gv w Ok C ts us pm cm pt ct) (h0 : Hd) : depthsP C h0 (lookL C.b.symbols us 0).1 = depthsP C h0 (lookL C.b.symbols ts 0).1 := by
  rw [look_st C.b.symbols us ts 0 h.st]
theorem Gv.keep {w w' : World} {Ok Q : Nat → Prop} {C : Cx} {ts us : List LitT} {pm : Option Addr} {cm : Nat} {pt : Option Addr} {ct : Nat} (h : Gv w Ok C ts us pm cm pt ct) (hf : FrP Q w w') (hQ : ∀ b, Ok b → ¬ Q b) (hm : ∀ g ∈ blk pm, ¬ Q g) (ht : Tb w') : Gv w' Ok C ts us pm cm pt ct :=
  ⟨own_congr h.row fun b hb => hf.block b (own_lt h.row b hb).2 (hm b ((blk_own _ _ _ _).1 hb)), h.lits.keep hf hQ, h.st, h.ln, h.rng, ht, h.short⟩
end Go.Proofs.YtdflpoldlokijaaDoor
namespace Go.Proofs.YtdflpoldlokijaaDoor
open Go.RowKit
set_option linter.unusedVariables false
set_option linter.unusedSimpArgs false
attribute [local go_sem ↓] Go.wp_at_zero Go.wp_at_succ
/-- a list of numbers in memory, however long -/
def Rc (w : World) (p : Option Addr) (ss : List Int) : Prop := 0 < ss.length → ∃ g off, p = some ⟨g, off, none⟩ ∧ ∀ i, i < ss.length → w.cell? ⟨g, off + i, none⟩ = some (.int .i64 (ss.getD i 0))
theorem own_rc {w : World} {B n c : Nat} {p : Option Addr} {ss : List Int} (h : w.ownsRow B 3 1 (.slice p n c) n (ss.map (Value.int .i64))) : Rc w p ss := fun hp => by
  have hl : ss.length = n := by have := h.1; simp at this; omega
  subst hl
  rcases h.2 with ⟨e, e0⟩ | ⟨g, cap, cur, e, q1, q2, q3, q4⟩
  · omega
  · injection e with e1 _ e3
    subst e1 e3
    exact ⟨g, 0, rfl, fun i hi => by rw [Nat.zero_add]; exact own_get h i hi⟩
theorem own_base {w : World} {B B' : Nat} {e : TypeId} {s n : Nat} {v : Value} {xs : List Value} (h : w.ownsRow B e s v n xs) (hb : B' ≤ B) : w.ownsRow B' e s v n xs := ⟨h.1, h.2.imp id (fun ⟨g, cap, cur, e1, q1, q2⟩ => ⟨g, cap, cur, e1, Nat.le_trans hb q1, q2⟩)⟩
set_option maxRecDepth 100000 in
set_option maxHeartbeats 2000000 in
theorem same_is (l : List Int) (n : Nat) (hn : l.length = n) (hs : n ≤ 17592186044000) (pa pb : Option Addr) (ca cb : Nat) (w : World) (ha : Rc w pa l) (hb : Rc w pb l) : Calls Tryd.prog 16 #[.slice pa n ca, .slice pb n cb] w fun e w' => e = .returned (.bool true) ∧ Fr [] w w' := by
  subst hn
  have HA := mkHid ha
  have HB := mkHid hb
  clear ha hb
  go_enter Tryd.func16, Tryd.ntmps16
  go_wp2_with fail
  go_loopw [5] (fun q wr => ∃ i : Nat, i ≤ l.length ∧ q = .int .i64 i ∧ Hid (Fr [] w wr)) (fun q _ => l.length - (intOf q).toNat)
  case atStart => exact ⟨0, Nat.zero_le _, rfl, Fr.refl _ _⟩
  case round =>
    obtain ⟨i, hi, rfl, hf⟩ := hrel
    have i0 : (0 : Int) ≤ (i : Int) := by omega
    by_cases hlt : i < l.length
    · have i1 : (i : Int) < (l.length : Int) := by omega
      obtain ⟨ga, oa, rfl, hca⟩ := HA.out (by omega)
      obtain ⟨gb, ob, rfl, hcb⟩ := HB.out (by omega)
      have x1 := hf.out.cl (hca i hlt)
      have x2 := hf.out.cl (hcb i hlt)
      generalize l.getD i 0 = z at *
      have HD : Hid (∀ n, Fr [] w (wr.drewN n)) := fun n => hf.out.dn n
      clear hca hcb
      go_wp2_with fail
      try go_quiet (fail)
      try go_wp2_with fail
      go_roundw
      case rel => exact ⟨i + 1, by omega, by go_num, by first | exact HD.out _ | exact hf⟩
      case measure => simp [intOf]; omega
    · have hie : i = l.length := by omega
      subst hie
      go_wp2_with fail
      go_ret
      exact ⟨rfl, hf.out⟩
/-- the depths that are told: none where something is wrong -/
def dl (D : Int × List Int) : List Int := if D.1 = 0 then D.2 else []
theorem dep_row {w : World} {B : Nat} {v : Value} {n : Nat} {D : Int × List Int} (h0 : D.1 = 0 → w.ownsRow B 3 1 v n (D.2.map (Value.int .i64))) (h1 : D.1 ≠ 0 → v = .slice none 0 0) : ∃ p c, v = .slice p (dl D).length c ∧ w.ownsRow B 3 1 (.slice p (dl D).length c) (dl D).length ((dl D).map (Value.int .i64)) := by
  by_cases h : D.1 = 0
  · have ho := h0 h
    obtain ⟨p, c, rfl⟩ := own_shape ho
    have hl : n = D.2.length := by have := ho.1; simp at this; omega
    subst hl
    unfold dl
    rw [if_pos h]
    exact ⟨p, c, rfl, ho⟩
  · rw [h1 h]
    unfold dl
    rw [if_neg h]
    exact ⟨none, 0, rfl, World.ownsRow_nil _ _ _ _⟩
/-- a row is written at a place -/
theorem row_set {w : World} {B g n c : Nat} {ls : List Int} (h : w.ownsRow B 3 1 (.slice (some ⟨g, 0, none⟩) n c) n (ls.map (Value.int .i64))) (i : Nat) (z : Int) (hi : i < n) : (w.setCell ⟨g, i, none⟩ (.int .i64 z)).ownsRow B 3 1 (.slice (some ⟨g, 0, none⟩) n c) n ((ls.set i z).map (Value.int .i64)) ∧ Fr [g] w (w.setCell ⟨g, i, none⟩ (.int .i64 z)) ∧ w.cell? ⟨g, i, none⟩ = some (.int .i64 (ls.getD i 0)) ∧ w.frozen? ⟨g, i, none⟩ = false := by
  have f : Fr [g] w (w.setCell ⟨g, i, none⟩ (.int .i64 z)) := Fr.setCell (S := [g]) w ⟨g, i, none⟩ _ (by simp)
  have hl : ls.length = n := by have := h.1; simp at this; omega
  refine ⟨?_, f, own_get h i (by omega), ?_⟩
  · have := (h.stored i (.int .i64 z)).1
    rw [← List.map_set] at this
    exact this
  · obtain ⟨cur, hc⟩ := row_block h (g := g) rfl
    exact frozen_in hc i
theorem smT_st {t : LitT} (h : SmT t) : ∀ u, stT u = stT t → SmT u := by
  induction h with
  | mk t h k ih =>
    intro u hu
    obtain ⟨-, h2, -, h4⟩ := stT_inj hu
    refine .mk u (by rw [h2]; exact h) (fun v hv => ?_)
    rw [stL_map, stL_map] at h4
    have : stT v ∈ t.kids.map stT := by rw [← h4]; exact List.mem_map_of_mem hv
    obtain ⟨t', ht', e⟩ := List.mem_map.1 this
    exact ih t' ht' v e.symm
theorem smL_st {ts us : List LitT} (h : stL us = stL ts) (hs : ∀ t ∈ ts, SmT t) : ∀ u ∈ us, SmT u := fun v hv => by
  rw [stL_map, stL_map] at h
  have : stT v ∈ ts.map stT := by rw [← h]; exact List.mem_map_of_mem hv
  obtain ⟨t', ht', e⟩ := List.mem_map.1 this
  exact smT_st (hs t' ht') v e.symm
/-- what the law has in hand: its two arguments in their boxes, the code that it hands on, in a box, in blocks of its own below hi -/
structure Sy (w W : World) (C : Cx) (h : Hd) (ts us : List LitT) (lp : Option Addr) (lc : Nat) (pw : Option Addr) (cw : Nat) (gi gm cm : Nat) (pt : Option Addr) (ct lo hi : Nat) : Prop where
  fr : Fr [] w W
  cb : W.heap[w.heap.size]? = some (.cells (cdv h lp C.lits lc pw C.ws.length cw) 25 (0, 0))
  bb : W.heap[w.heap.size + 1]? = some (.cells (bnv C.b) 27 (0, 0))
  gb : W.heap[gi]? = some (.cells (cdv h pt C.lits ct (some ⟨gm, 0, none⟩) C.ws.length cm) 25 (0, 0))
  gi2 : w.heap.size + 2 ≤ gi
  gmi : gi < gm
  gml : gm < lo
  lohi : lo ≤ hi
  his : hi ≤ W.heap.size
  tb0 : Tb w
  gv : Gv W (fun b => lo ≤ b ∧ b < hi) C ts us (some ⟨gm, 0, none⟩) cm pt ct
section
variable {w W : World} {C : Cx} {h : Hd} {ts us : List LitT} {lp : Option Addr} {lc : Nat} {pw : Option Addr} {cw : Nat} {gi gm cm : Nat} {pt : Option Addr} {ct lo hi : Nat}
theorem Sy.kw {V : World} (s : Sy w W C h ts us lp lc pw cw gi gm cm pt ct lo hi) (k : Kw hi W V) : Sy w V C h ts us lp lc pw cw gi gm cm pt ct lo hi := by
  have h1 := s.gi2
  have h2 := s.gmi
  have h3 := s.gml
  have h4 := s.lohi
  have f : Fr [] w V := k.fr s.fr (by omega)
  exact ⟨f, (k.block _ (by omega)).trans s.cb, (k.block _ (by omega)).trans s.bb, (k.block _ (by omega)).trans s.gb, h1, h2, h3, h4, Nat.le_trans s.his k.size, s.tb0,
    s.gv.keep (Q := fun b => hi ≤ b) ⟨k.os, k.tape, k.output, k.size, fun b hb hn => k.block b (by omega)⟩ (fun b hb hh => by omega) (fun g hg hh => by simp [blk] at hg; omega) (s.tb0.idle f)⟩
theorem Sy.idle {V : World} (s : Sy w W C h ts us lp lc pw cw gi gm cm pt ct lo hi) (f : Fr [] W V) : Sy w V C h ts us lp lc pw cw gi gm cm pt ct lo hi := s.kw (f.kw s.his (by simp))
theorem Sy.check (s : Sy w W C h ts us lp lc pw cw gi gm cm pt ct lo hi) : Calls Tryd.prog 8 #[.agg (cdv h pt C.lits ct (some ⟨gm, 0, none⟩) C.ws.length cm), .agg (bnv C.b)] W fun e w' => e = .returned (.int .i64 (depthsP C h (lookL C.b.symbols ts 0).1).1) ∧ Fr [] W w' := by
  refine (check_ok C h us pt ct (some ⟨gm, 0, none⟩) cm W s.gv.code).mono ?_
  rintro e w' ⟨lk, rfl, f, e1⟩
  rw [e1, s.gv.look]
  exact ⟨rfl, f⟩
theorem Sy.depths (s : Sy w W C h ts us lp lc pw cw gi gm cm pt ct lo hi) : Calls Tryd.prog 14 #[.agg (cdv h pt C.lits ct (some ⟨gm, 0, none⟩) C.ws.length cm), .agg (bnv C.b)] W fun e w' => ∃ p c, e = .returned (.tuple #[.slice p (dl (depthsP C h (lookL C.b.symbols ts 0).1)).length c, .int .i64 (depthsP C h (lookL C.b.symbols ts 0).1).1]) ∧ Fr [] W w' ∧ w'.ownsRow W.heap.size 3 1 (.slice p (dl (depthsP C h (lookL C.b.symbols ts 0).1)).length c) (dl (depthsP C h (lookL C.b.symbols ts 0).1)).length ((dl (depthsP C h (lookL C.b.symbols ts 0).1)).map (Value.int .i64)) ∧ (dl (depthsP C h (lookL C.b.symbols ts 0).1)).length ≤ 4096 := by
  refine (depths_ok C h us pt ct (some ⟨gm, 0, none⟩) cm W s.gv.code).mono ?_
  rintro e w' ⟨lk, v, rfl, f, e1, h0, h1⟩
  rw [e1, s.gv.look] at h0 h1 ⊢
  have hn4 : (depthsP C h (lookL C.b.symbols ts 0).1).1 = 0 → C.ws.length ≤ 4096 := fun hh => by
    unfold depthsP at hh
    split at hh
    · cases hh
    · omega
  generalize depthsP C h (lookL C.b.symbols ts 0).1 = D at *
  have hs : (dl D).length ≤ 4096 := by
    unfold dl
    split
    · rename_i hz
      have h2 := (h0 hz).1
      have h3 := hn4 hz
      simp at h2
      omega
    · simp
  obtain ⟨p, c, rfl, ho⟩ := dep_row h0 h1
  exact ⟨p, c, rfl, f, ho, hs⟩
end
/-- the first so many are written over -/
def nine (ls : List Int) (i : Nat) : List Int := List.replicate i (-9) ++ ls.drop i
theorem nine_len (ls : List Int) (i : Nat) (h : i ≤ ls.length) : (nine ls i).length = ls.length := by simp [nine]; omega
theorem nine_set (ls : List Int) (i : Nat) (h : i < ls.length) : (nine ls i).set i (-9) = nine ls (i + 1) := by
  unfold nine
  rw [List.set_append_right _ _ (by simp), List.length_replicate, Nat.sub_self, List.drop_eq_getElem_cons h, List.set_cons_zero, List.replicate_succ', List.append_assoc]
  rfl
theorem nine_all (ls : List Int) : nine ls ls.length = List.replicate ls.length (-9) := by simp [nine]
/-- the list that was told, all written over, and a longer one of it -/
structure Lng (WD wr : World) (b1 : Nat) (pl : Option Addr) (n cl : Nat) (p : Option Addr) (c k : Nat) : Prop where
  row : wr.ownsRow b1 3 1 (.slice p (n + k) c) (n + k) ((List.replicate (n + k) (-9 : Int)).map (Value.int .i64))
  rd : Rd wr (.slice pl n cl) (List.replicate n (-9))
  fr : Fr (blk pl) WD wr
  at_ : p = pl ∨ ∀ g ∈ blk p, WD.heap.size ≤ g
theorem Lng.push {WD wr : World} {b1 : Nat} {pl : Option Addr} {n cl : Nat} {p : Option Addr} {c k : Nat} (h : Lng WD wr b1 pl n cl p c k) (hn : n + k + 1 ≤ 17592186043904) (hb : b1 ≤ WD.heap.size) (hp : ∀ g ∈ blk pl, g < WD.heap.size) :
    ∃ p' c' w', (Builtin.append_ #[23, 23] 23 #[.slice p (n + k) c, .slice (some ⟨wr.heap.size, 0, none⟩) 1 1]).run Tryd.prog (wr.alloc (.cells #[.int .i64 (-9)] 3)) = .ok (.slice p' (n + k + 1) c') w' ∧ Lng WD w' b1 pl n cl p' c' (k + 1) := by
  have hl : (List.replicate (n + k) (-9 : Int)).length = n + k := by simp
  have h1 := h.row
  have := push_int wr b1 p c (List.replicate (n + k) (-9)) (-9) (by rw [hl]; exact h1) (by rw [hl]; omega) (Nat.le_trans hb h.fr.size)
  rw [hl] at this
  obtain ⟨p', c', w', hr, ho, hm⟩ := this
  have e1 : List.replicate (n + k) (-9 : Int) ++ [-9] = List.replicate (n + (k + 1)) (-9) := by rw [← List.replicate_succ']; rfl
  have e2 : (List.replicate (n + (k + 1)) (-9 : Int)).length = n + (k + 1) := by simp
  rw [e1, e2] at ho
  refine ⟨p', c', w', hr, ?_⟩
  rcases hm with ⟨rfl, rfl, hf⟩ | ⟨hf, hg⟩
  · rcases h.at_ with rfl | ha
    · refine ⟨ho, ?_, h.fr.trans hf (fun b hb => .inl hb), .inl rfl⟩
      have h3 := h.rd.nil
      have e3 : (List.replicate (n + (k + 1)) (-9 : Int)) = List.replicate n (-9) ++ List.replicate (k + 1) (-9) := by rw [List.replicate_append_replicate]
      rw [e3] at ho
      have h4 := (rd_front (ls := List.replicate n (-9)) (ms := List.replicate (k + 1) (-9)) (by simpa using ho) (by simp) (by simp; omega)).1
      simp only [List.length_replicate] at h4
      refine ⟨?_, h.rd.nil, h.rd.short⟩
      obtain ⟨q1, q2, q3, q4⟩ := h4.at_
      simp only [List.length_replicate] at q3 q4 ⊢
      injection q3 with q5 _ q6
      obtain ⟨r1, r2, r3, r4⟩ := h.rd.at_
      simp only [List.length_replicate] at r3
      refine ⟨r1, r2, r3, fun hp => ?_⟩
      injection r3 with r5 _ r6
      rw [← r5, q5]
      exact q4 hp
    · exact ⟨ho, h.rd.keep hf (fun hp' g hg hm => by have := ha g hm; have := hp g ((blk_own _ _ _ _).1 hg); omega), h.fr.trans hf (fun b hb => .inr (ha b hb)), .inr ha⟩
  · exact ⟨ho, h.rd.idle hf, h.fr.trans hf (by simp), .inr (fun g hg' => Nat.le_trans h.fr.size (hg g hg'))⟩
theorem Rc.keep {w w' : World} {p : Option Addr} {ss : List Int} (h : Rc w p ss) (hk : ∀ g ∈ blk p, g < w.heap.size → w'.heap[g]? = w.heap[g]?) : Rc w' p ss := fun hp => by
  obtain ⟨g, off, rfl, hc⟩ := h hp
  exact ⟨g, off, rfl, fun i hi => (World.cell?_of_block (w := w) (hk g (by simp [blk]) (World.block_lt_of_cell? w _ (hc i hi)))).trans (hc i hi)⟩
/-- the list that was told and the longer one of it, in blocks that the law does not write again -/
structure LgR (V : World) (hi : Nat) (p pl : Option Addr) (nn : Nat) : Prop where
  a : ∀ g ∈ blk p, hi ≤ g
  b : ∀ g ∈ blk pl, hi ≤ g
  ra : Rc V p (List.replicate (nn + 64) (-9))
  rb : Rc V pl (List.replicate nn (-9))
theorem LgR.keep {V V' : World} {hi : Nat} {p pl : Option Addr} {nn : Nat} (h : LgR V hi p pl nn) (hk : ∀ g, hi ≤ g → g < V.heap.size → V'.heap[g]? = V.heap[g]?) : LgR V' hi p pl nn :=
  ⟨h.a, h.b, h.ra.keep (fun g hg hl => hk g (h.a g hg) hl), h.rb.keep (fun g hg hl => hk g (h.b g hg) hl)⟩
theorem LgR.idle {V V' : World} {hi : Nat} {p pl : Option Addr} {nn : Nat} (h : LgR V hi p pl nn) (f : Fr [] V V') : LgR V' hi p pl nn := h.keep (fun g _ hl => f.block g hl (by simp))
theorem Rd.rc {w : World} {p : Option Addr} {n c : Nat} {ss : List Int} (h : Rd w (.slice p n c) ss) : Rc w p ss := fun hp => by
  obtain ⟨p', c', e, hh⟩ := h.at_
  injection e with e1 _ _
  subst e1
  obtain ⟨g, off, e2, -, hc⟩ := hh hp
  exact ⟨g, off, e2, hc⟩
theorem Lng.lgr {WD wr : World} {b1 hi : Nat} {pl : Option Addr} {n cl : Nat} {p : Option Addr} {c : Nat} (h : Lng WD wr b1 pl n cl p c 64) (hh : hi ≤ b1) (hb : b1 ≤ WD.heap.size) (hp : ∀ g ∈ blk pl, b1 ≤ g) : LgR wr hi p pl n := by
  refine ⟨fun g hg => ?_, fun g hg => Nat.le_trans hh (hp g hg), own_rc h.row, h.rd.rc⟩
  rcases h.at_ with e | e
  · rw [e] at hg; exact Nat.le_trans hh (hp g hg)
  · have := e g hg; omega
theorem own_some {w : World} {B : Nat} {e : TypeId} {s n c : Nat} {p : Option Addr} {xs : List Value} (h : w.ownsRow B e s (.slice p n c) n xs) (hn : 0 < n) : ∃ g, p = some ⟨g, 0, none⟩ := by
  rcases h.2 with ⟨e, e0⟩ | ⟨g, cap, cur, e, q1, q2, q3, q4⟩
  · omega
  · injection e with e1 _ e3
    exact ⟨g, e1⟩
/-- the words under way to their other ends -/
structure XS (w7 wr : World) (C : Cx) (gm cm : Nat) (ws : List Int) : Prop where
  row : wr.ownsRow 0 3 1 (.slice (some ⟨gm, 0, none⟩) (C.ws.length + 64) cm) (C.ws.length + 64) ((ws ++ mkS 64).map (Value.int .i64))
  len : ws.length = C.ws.length
  rng : ∀ z ∈ ws, -9223372036854775808 ≤ z ∧ z ≤ 9223372036854775807
  fr : Fr [gm] w7 wr
theorem wf_rng {n : Int} (h : (Lit.int .i64 n).wf = true) : -9223372036854775808 ≤ n ∧ n ≤ 9223372036854775807 := by
  simpa [Lit.wf, IntKind.min, IntKind.max, IntKind.signed, IntKind.bits] using h
theorem xr_rng (z : Int) : -9223372036854775808 ≤ Go.bits .xor .i64 z 1 ∧ Go.bits .xor .i64 z 1 ≤ 9223372036854775807 := wf_rng (wf_bits .xor .i64 z 1)
theorem XS.step {w7 wr : World} {C : Cx} {gm cm : Nat} {ws : List Int} (x : XS w7 wr C gm cm ws) (i : Nat) (hi : i < C.ws.length) : ∃ old, wr.cell? ⟨gm, i, none⟩ = some (.int .i64 old) ∧ wr.frozen? ⟨gm, i, none⟩ = false ∧ ∃ ws', XS w7 ((wr.setCell ⟨gm, i, none⟩ (.int .i64 (Go.bits .xor .i64 old 1))).drew) C gm cm ws' := by
  have hl : i < ws.length := by rw [x.len]; exact hi
  obtain ⟨r1, r2, r3, r4⟩ := row_set x.row i (Go.bits .xor .i64 ((ws ++ mkS 64).getD i 0) 1) (by omega)
  refine ⟨_, r3, r4, ws.set i (Go.bits .xor .i64 ((ws ++ mkS 64).getD i 0) 1), ⟨?_, by rw [List.length_set]; exact x.len, fun z hz => ?_, (x.fr.trans r2 (fun b hb => .inl hb)).trans (Fr.drew [gm] _) (fun b hb => .inl hb)⟩⟩
  · rw [List.set_append_left _ _ hl] at r1
    exact own_congr r1 (fun b hb => rfl)
  · rcases List.mem_or_eq_of_mem_set hz with h1 | h1
    · exact x.rng z h1
    · rw [h1]; exact xr_rng _
section
variable {w W : World} {C : Cx} {h : Hd} {ts us : List LitT} {lp : Option Addr} {lc : Nat} {pw : Option Addr} {cw : Nat} {gi gm cm : Nat} {pt : Option Addr} {ct lo hi : Nat}
theorem Sy.xs (s : Sy w W C h ts us lp lc pw cw gi gm cm pt ct lo hi) : XS W W C gm cm C.ws :=
  ⟨s.gv.row, rfl, fun z hz => by
    obtain ⟨i, hi⟩ := List.getElem?_of_mem hz
    have := s.gv.rng i
    unfold Cx.w at this
    rw [List.getD_eq_getElem?_getD, hi] at this
    exact this, Fr.refl _ _⟩
theorem Sy.over {wr w' : World} {ws : List Int} {us' : List LitT} (s : Sy w W C h ts us lp lc pw cw gi gm cm pt ct lo hi) (x : XS W wr C gm cm ws) (f : FrP (fun b => lo ≤ b ∧ b < hi) wr w') (hl : us'.length = us.length) (hm : LitsM w' (fun b => lo ≤ b ∧ b < hi) pt ct us') : Sy w w' ⟨ws, C.lits, C.b⟩ h us' us' lp lc pw cw gi gm cm pt ct lo hi := by
  have h1 := s.gi2
  have h2 := s.gmi
  have h3 := s.gml
  have h4 := s.lohi
  have h5 := s.his
  have h6 := x.fr.size
  have hb : ∀ b, b < lo → b ≠ gm → w'.heap[b]? = W.heap[b]? := fun b hb hn => (f.block b (by omega) (fun hh => by omega)).trans (x.fr.block b (by omega) (by simp; exact hn))
  have fw : Fr [] w w' := ⟨f.os.trans (x.fr.os.trans s.fr.os), f.tape.trans (x.fr.tape.trans s.fr.tape), f.output.trans (x.fr.output.trans s.fr.output), Nat.le_trans s.fr.size (Nat.le_trans h6 f.size), fun k hk hn => (hb k (by omega) (by omega)).trans (s.fr.block k hk hn)⟩
  refine ⟨fw, ?_, (hb _ (by omega) (by omega)).trans s.bb, ?_, h1, h2, h3, h4, Nat.le_trans h5 (Nat.le_trans h6 f.size), s.tb0, ⟨?_, hm, rfl, hl.trans s.gv.len, fun i => ?_, s.tb0.idle fw, ?_⟩⟩
  · show _ = some (Obj.cells (cdv h lp C.lits lc pw ws.length cw) 25 (0, 0))
    rw [x.len]
    exact (hb _ (by omega) (by omega)).trans s.cb
  · show _ = some (Obj.cells (cdv h pt C.lits ct (some ⟨gm, 0, none⟩) ws.length cm) 25 (0, 0))
    rw [x.len]
    exact (hb _ (by omega) (by omega)).trans s.gb
  · show w'.ownsRow 0 3 1 (.slice (some ⟨gm, 0, none⟩) (ws.length + 64) cm) (ws.length + 64) ((ws ++ mkS 64).map (Value.int .i64))
    rw [x.len]
    refine own_congr x.row fun b hb => ?_
    have e : b = gm := by simpa [Value.ownBlock] using hb.symm
    rw [e]
    exact f.block gm (own_lt x.row gm rfl).2 (fun hh => by omega)
  · show -9223372036854775808 ≤ ws.getD i 0 ∧ ws.getD i 0 ≤ 9223372036854775807
    rw [List.getD_eq_getElem?_getD]
    cases hi : ws[i]? with
    | none => simp
    | some z => exact x.rng z (List.mem_of_getElem? hi)
  · show ws.length ≤ 17592186043904
    rw [x.len]
    exact s.gv.short
end
end Go.Proofs.YtdflpoldlokijaaDoor
