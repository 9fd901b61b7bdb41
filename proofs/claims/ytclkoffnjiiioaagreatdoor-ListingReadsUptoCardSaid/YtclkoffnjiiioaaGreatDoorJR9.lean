import Derived.Test.YtclkoffnjiiioaaGreatDoorG28JR7
import Derived.Test.YtclkoffnjiiioaaGreatDoorIRb2
namespace Go.Proofs.YtclkoffnjiiioaaGreatDoor
open Go.RowKit
set_option linter.unusedVariables false
set_option linter.unusedSimpArgs false
attribute [local go_sem ↓] Go.wp_at_zero Go.wp_at_succ
/-- what a literal that was read comes to -/
def fin1 (o : Option (LitS × Bs)) (k n : Nat) : Option (LitS × Nat) := match o with
  | some (x, []) => chkQ x k n
  | _ => none
def lstQ (t : LitT) (S : Bs) (k : Nat) (bad : Bool) : Option (LitS × Bs) := if bad = true then none else some (stT t, S.drop k)
theorem chk_lit (t : LitT) (k n : Nat) (hk : k ≠ 64) : chkQ (stT t) k n = if (lit1 true t n).1 = 0 then some (stT t, (lit1 true t n).2) else none := by
  have e : stT (unS (stT t)) = stT t := st_un _
  unfold chkQ lit1 okB
  rw [if_neg hk, top_st e, (st_T _ _ e).1 n]
  simp only [if_true]
  cases hb : topB t <;> simp
theorem fin1_no {t : LitT} {S : Bs} {k : Nat} {bad : Bool} {m n : Nat} (h : stQ S k bad ≠ some []) : fin1 (lstQ t S k bad) m n = none := by
  unfold lstQ fin1
  unfold stQ at h
  cases bad with
  | true => rfl
  | false =>
    simp only [Bool.false_eq_true, if_false] at h ⊢
    cases hd : S.drop k with
    | nil => exact absurd (by rw [hd]) h
    | cons c y => rfl
theorem fin1_yes {t : LitT} {S : Bs} {k : Nat} {bad : Bool} {m n : Nat} (h : stQ S k bad = some []) : fin1 (lstQ t S k bad) m n = chkQ (stT t) m n := by
  unfold lstQ fin1
  unfold stQ at h
  cases bad with
  | true => cases h
  | false =>
    simp only [Bool.false_eq_true, if_false] at h ⊢
    injection h with h
    rw [h]
theorem lit_text {l r : Bs} {k n : Nat} (h : tokP [116, 101, 120, 116, 32] l = some r) : litD l k n = fin1 (txtQ r) k n := by
  unfold litD fin1
  rw [h]
  rfl
theorem lit_arr {l r : Bs} {k n : Nat} (h0 : tokP [116, 101, 120, 116, 32] l = none) (h : tokP [97, 114, 114, 97, 121, 32] l = some r) : litD l k n = fin1 ((arrD (2 * r.length) r 0).map (fun q => (q.1, q.2.1))) k n := by
  unfold litD arrD
  rw [h0, h]
  simp only
  cases ht : tokP [40] r with
  | none => rfl
  | some y =>
    have hl := tok_ln ht
    simp only [List.length_singleton] at hl
    simp only
    rw [if_neg (by decide), show 2 * r.length = 2 * y.length + 2 by omega]
    cases arrQ (2 * y.length + 2) y 1 [] with
    | none => rfl
    | some q =>
      obtain ⟨xs, z, d⟩ := q
      cases z <;> rfl
/-- what the reading of a literal's line leaves -/
def L1R (W : World) (B x : Nat) (K : Co) (lp pw : Option Addr) (cw : Nat) (n : Nat) (l : Bs) (e : Ending) (w' : World) : Prop :=
  ∃ (t : LitT) (ok : Bool) (n' : Nat) (us : List LitT) (lp' : Option Addr) (lc' : Nat), e = .returned (.tuple #[.agg (({ K with ts := us } : Co).v lp' lc' pw cw), .int .i64 1, .bool ok]) ∧ Fr (x :: blk lp) W w' ∧ (ok = true → us = K.ts ++ [t] ∧ TR B w' lp' lc' us ∧ w'.heap[x]? = some (.cells (wkc n' 0) 70 (0, 0))) ∧ litD l K.ts.length n = if ok = true then some (stT t, n') else none
theorem TR.away {B : Nat} {w w' : World} {S : List Nat} {p : Option Addr} {c : Nat} {us : List LitT} (h : TR B w p c us) (f : Fr S w w') (hS : ∀ g ∈ S, g ∉ YtclkoffnjiiioaaGreatDoor.blk p ∧ g ∉ ftL us) : TR B w' p c us :=
  ⟨own_congr h.1 (fun g hg => f.block g (own_lt h.1 g hg).2 (fun hm => (hS g hm).1 ((blk_own _ _ _ _).1 hg))), fun u hu => ⟨(h.2.1 u hu).1, (h.2.1 u hu).2.world fun g hg ho hl => ⟨f.block g hl (fun hm => (hS g hm).2 (ftL_of hu (by rw [ftT_at]; exact hg))), ho⟩⟩, h.2.2⟩
theorem TR.push3 {B : Nat} {V : World} {p : Option Addr} {c : Nat} {us : List LitT} (h : TR B V p c us) (hi : us.length ≤ 1000000) (hB : B ≤ V.heap.size) (u : LitT) (hu : u.text.size ≤ 140737488355328) (hk : LitsX V (fun g => B ≤ g ∧ g ∉ YtclkoffnjiiioaaGreatDoor.blk p ∧ g ∉ ftL us) u.p u.c u.kids) :
    ∃ p2 c2 w3, (Builtin.append_ #[22, 22] 22 #[.slice p us.length c, .slice (some ⟨V.heap.size, 0, none⟩) 1 1]).run Tryz.prog (V.alloc (.cells (litc u).toArray 49)) = .ok (.slice p2 (us.length + 1) c2) w3 ∧ TR B w3 p2 c2 (us ++ [u]) ∧ Fr (YtclkoffnjiiioaaGreatDoor.blk p) V w3 ∧ (∀ g ∈ YtclkoffnjiiioaaGreatDoor.blk p2, g ∈ YtclkoffnjiiioaaGreatDoor.blk p ∨ V.heap.size ≤ g) := by
  obtain ⟨p2, c2, w3, r, ht, hf⟩ := h.push hi hB u hu hk
  refine ⟨p2, c2, w3, r, ht, hf, ?_⟩
  obtain ⟨p3, c3, w4, r', o3, m⟩ := pushS (t := 22) (e := 49) Tryz.underlying22 info54 rfl (by decide) V B p c us.length (litCells us) (litc u) rfl h.1 (by simp [litc, Value.oneCell', LitT.items]) (by unfold maxLen; omega) (by omega) hB
  rw [r] at r'
  injection r' with r1 r2
  injection r1 with r1
  subst r1
  rcases m with ⟨q, -, -⟩ | ⟨-, q⟩
  · intro g hg; left; rw [← q]; exact hg
  · intro g hg; right; exact q g hg
/-- a literal that was read joins the others -/
theorem lit_push {W v6 v7 : World} {B x gc g8 r gx k d : Nat} {bad : Bool} {K : Co} {lp : Option Addr} {lc : Nat} {pw : Option Addr} {cw : Nat} {l : Bs} {t : LitT} {er : Int × Nat} (hrw : W.heap.size ≤ r ∧ W.heap.size ≤ gc ∧ W.heap.size ≤ g8 ∧ x < W.heap.size) (hgx : r < gx ∧ gc < gx ∧ g8 < gx) (hxB : x < B) (hB : B ≤ W.heap.size) (htr : TR B W lp lc K.ts) (hlt : K.ts.length < 64) (F6 : Fr [] W v6) (hL : LB v6 gc g8 r #[.int .i64 K.args, .int .i64 K.temps, .int .i64 K.stack, .slice lp K.ts.length lc, .slice pw K.ws.length cw] l k d bad) (hX : v6.heap[gx]? = some (.cells #[.int .i64 t.kind, .string t.text, .int .i64 t.num, .slice t.p t.kids.length t.c] 49 (0, 0))) (hK : LitsX v6 (fun g => gx < g) t.p t.c t.kids) (htx : t.text.size ≤ 140737488355328) (f7 : Fr [x] v6 v7) (hx7 : v7.heap[x]? = some (.cells (wkc er.2 er.1) 70 (0, 0))) (n1 : gc ≠ r) (n2 : g8 ≠ r) (n3 : g8 ≠ gc) :
    ∃ p2 c2 w5, (Builtin.append_ #[22, 22] 22 #[.slice lp K.ts.length lc, .slice (some ⟨v7.heap.size, 0, none⟩) 1 1]).run Tryz.prog (v7.alloc (.cells (litc t).toArray 49)) = .ok (.slice p2 (K.ts.length + 1) c2) w5 ∧ w5.heap[gc]? = some (.cells #[.int .i64 K.args, .int .i64 K.temps, .int .i64 K.stack, .slice lp K.ts.length lc, .slice pw K.ws.length cw] 25 (0, 0)) ∧
      v7.heap[gx]? = some (.cells #[.int .i64 t.kind, .string t.text, .int .i64 t.num, .slice t.p t.kids.length t.c] 49 (0, 0)) ∧ v7.heap[gc]? = some (.cells #[.int .i64 K.args, .int .i64 K.temps, .int .i64 K.stack, .slice lp K.ts.length lc, .slice pw K.ws.length cw] 25 (0, 0)) ∧
      LB (w5.setCell ⟨gc, 3, none⟩ (.slice p2 (K.ts.length + 1) c2)) gc g8 r #[.int .i64 K.args, .int .i64 K.temps, .int .i64 K.stack, .slice p2 (K.ts.length + 1) c2, .slice pw K.ws.length cw] l k d bad ∧ (w5.setCell ⟨gc, 3, none⟩ (.slice p2 (K.ts.length + 1) c2)).heap[x]? = some (.cells (wkc er.2 er.1) 70 (0, 0)) ∧ Fr (x :: blk lp) W (w5.setCell ⟨gc, 3, none⟩ (.slice p2 (K.ts.length + 1) c2)) ∧ TR B (w5.setCell ⟨gc, 3, none⟩ (.slice p2 (K.ts.length + 1) c2)) p2 c2 (K.ts ++ [t]) ∧ (g8 ∉ blk p2 ∧ g8 ∉ ftL (K.ts ++ [t])) := by
  obtain ⟨h1, h2, h3, h4⟩ := hrw
  have hbk := htr.blk
  have hft := htr.feet
  have gne : ∀ g, W.heap.size ≤ g → g ∉ [x] := fun g hg hm => by simp at hm; omega
  have hl7 : LB v7 gc g8 r _ l k d bad := ⟨(f7.block gc (lt_of_heap hL.c) (gne gc h2)).trans hL.c, (f7.block g8 (lt_of_heap hL.z) (gne g8 h3)).trans hL.z, hL.q.fr f7 (gne r h1)⟩
  have hg7 := (f7.block gx (lt_of_heap hX) (gne gx (by omega))).trans hX
  have hk7 : LitsX v7 (fun g => gx < g) t.p t.c t.kids := hK.keep f7 (fun g hg _ => gne g (by omega)) (fun g hg _ => hg)
  have ht7 : TR B v7 lp lc K.ts := (htr.keep F6 (by simp)).keep f7 (by simp; exact .inl hxB)
  have F7 : Fr [x] W v7 := (F6.mono (S' := [x]) (by simp)).trans f7 (by simp)
  have hs7 := F7.size
  have hgl := lt_of_heap hg7
  obtain ⟨p2, c2, w5, hr5, htr5, f5, hp2⟩ := ht7.push3 (by omega) (Nat.le_trans hB hs7) t htx (hk7.keep (Fr.refl [] v7) (fun _ _ _ => by simp) (fun g hg _ => ⟨by omega, fun hm => by have := (hbk g hm).2; omega, fun hm => by have := (hft g hm).2.2; omega⟩))
  have hnb : ∀ g, W.heap.size ≤ g → g ∉ blk lp := fun g hg hm => by have := (hbk g hm).2; omega
  have hl8 : LB w5 gc g8 r _ l k d bad := ⟨(f5.block gc (lt_of_heap hl7.c) (hnb gc h2)).trans hl7.c, (f5.block g8 (lt_of_heap hl7.z) (hnb g8 h3)).trans hl7.z, hl7.q.fr f5 (hnb r h1)⟩
  have hx8 := (f5.block x (lt_of_heap hx7) (fun hm => by have := (hbk x hm).1; omega)).trans hx7
  have F8 : Fr (x :: blk lp) W w5 := (F7.mono (S' := x :: blk lp) (by simp)).trans f5 (fun b hb => .inl (by simp [hb]))
  have fs9 : Fr [gc] w5 (w5.setCell ⟨gc, 3, none⟩ (.slice p2 (K.ts.length + 1) c2)) := Fr.setCell (S := [gc]) w5 ⟨gc, 3, none⟩ _ (by simp)
  have haw : ∀ g, W.heap.size ≤ g → g < gx → g ∉ blk p2 ∧ g ∉ ftL (K.ts ++ [t]) := fun g hg hg2 => by
    refine ⟨fun hm => ?_, fun hm => ?_⟩
    · rcases hp2 g hm with q | q
      · have := (hbk g q).2; omega
      · omega
    · rw [ftL_app, ftL_cons, ftL_nil, List.append_nil, ftT_at] at hm
      rcases List.mem_append.1 hm with q | q
      · have := (hft g q).2.2; omega
      · have := (hk7.feet g q).1; omega
  refine ⟨p2, c2, w5, hr5, hl8.c, hg7, hl7.c, hl8.set n1 n3 3 _, (fs9.block x (lt_of_heap hx8) (by simp; omega)).trans hx8, F8.trans fs9 (fun b hb => .inr (by simp at hb; omega)), htr5.away fs9 (fun g hg => by
    have e : g = gc := by simpa using hg
    rw [e]; exact haw gc h2 hgx.2.1), haw g8 h3 hgx.2.2⟩
set_option maxRecDepth 100000 in
set_option maxHeartbeats 16000000 in
theorem line1t_ok (W : World) (hE : Ev W) (h9 : 9 ≤ W.heap.size) (B : Nat) (hB : B ≤ W.heap.size) (K : Co) (lp : Option Addr) (lc : Nat) (pw : Option Addr) (cw : Nat) (x n : Nat) (l : Bs) (hl : l.length ≤ 1100000) (htr : TR B W lp lc K.ts) (hts : K.ts.length ≤ 64) (hx : W.heap[x]? = some (.cells (wkc n 0) 70 (0, 0))) (hxB : x < B) (hn : n ≤ 4096) (y : Bs) (ht : tokP [116, 101, 120, 116, 32] l = some y) : Calls Tryz.prog 25 #[.agg (K.v lp lc pw cw), .pointer (some ⟨x, 0, none⟩), .int .i64 1, .string (bA l)] W fun e w' => L1R W B x K lp pw cw n l e w' := by
  obtain ⟨hlb, hfr⟩ := lb_begin W (K.v lp lc pw cw) l hl
  obtain ⟨W3, hW3⟩ : ∃ V, (((W.alloc (.cells (K.v lp lc pw cw) 25)).alloc (.cells #[.int .i64 0, .int .i64 0, .int .i64 0, .slice none 0 0, .slice none 0 0] 25)).alloc (.cells #[.string (bA l), .int .i64 0, .int .i64 0, .bool false] 91)) = V := ⟨_, rfl⟩
  rw [hW3] at hlb hfr
  have hkv : K.v lp lc pw cw = #[.int .i64 K.args, .int .i64 K.temps, .int .i64 K.stack, .slice lp K.ts.length lc, .slice pw K.ws.length cw] := rfl
  rw [hkv] at hW3 hlb ⊢
  obtain ⟨gc, hgc⟩ : ∃ g, g = W.heap.size := ⟨_, rfl⟩
  obtain ⟨g8, hg8⟩ : ∃ g, g = W.heap.size + 1 := ⟨_, rfl⟩
  obtain ⟨r, hr⟩ : ∃ g, g = W.heap.size + 2 := ⟨_, rfl⟩
  rw [← hr, ← hg8, ← hgc] at hlb
  have n1 : gc ≠ r := by omega
  have n2 : g8 ≠ r := by omega
  have n3 : g8 ≠ gc := by omega
  have hr9 : 9 ≤ r := by omega
  have HG : Hid (gc = W.heap.size ∧ g8 = W.heap.size + 1 ∧ r = W.heap.size + 2) := ⟨hgc, hg8, hr⟩
  have HW3 := mkHid hW3
  have hxl := lt_of_heap hx
  have hbk : ∀ g ∈ blk lp, B ≤ g ∧ g < W.heap.size := htr.blk
  have HrW : Hid (W.heap.size ≤ r ∧ W.heap.size ≤ gc ∧ W.heap.size ≤ g8 ∧ x < W.heap.size) := ⟨by omega, by omega, by omega, hxl⟩
  have HHas : Hid (∀ (V : World) (p : Bs) (v : Bool), p.length ≤ 100 → Fr [] W3 V → hasQ l 0 false p = v → Calls Tryz.prog 42 #[pt r, .string (bA p)] V fun e w' => e = .returned (.bool v) ∧ Fr [] V w') := fun V p v hp fV hv => by
    rw [← hv]
    exact has_ok V r l 0 0 false (hlb.q.fr fV (by simp)) p hp
  have HQ3 : Hid (∀ V, Fr [] W3 V → QB V r l 0 0 false) := fun V fV => hlb.q.fr fV (by simp)
  have HEv : Hid (∀ V, Fr [] W3 V → ∀ U, Fr [r] V U → Ev U) := fun V fV U fU => ((hE.fr0 hfr).fr0 fV).fr1 fU hr9
  have hdr : l.drop 5 = y := by have := drop_tok (S := l) (k := 0) (by rw [List.drop_zero]; exact ht); simpa using this
  have HT1 := mkHid (has_tok (S := l) (k := 0) (by rw [List.drop_zero]; exact ht))
  have HEat : Hid (∀ V, QB V r l 0 0 false → Calls Tryz.prog 39 #[pt r, .string (bA [116, 101, 120, 116, 32])] V fun e w' => e = .returned (.tuple #[]) ∧ Fr [r] V w' ∧ QB w' r l 5 0 false) := fun V hV => eat_hit hV (by rw [List.drop_zero]; exact ht) (by decide)
  have HTx : Hid (∀ V, QB V r l 5 0 false → (∀ U, Fr [r] V U → Ev U) → Calls Tryz.prog 43 #[pt r] V fun e w' => ∃ s k bad, e = .returned (.string s) ∧ Fr [r] V w' ∧ QB w' r l k 0 bad ∧ s.size ≤ 2000000 ∧ litD l K.ts.length n = fin1 (lstQ (flat 2 s 0) l k bad) K.ts.length n) := fun V hV hEV => (rtxt_ok V r l 5 0 hV (fun U fU => (hEV U fU).pw)).mono (by
    rintro e w' ⟨f1, h1⟩
    rw [hdr] at h1
    rw [lit_text ht]
    cases hx : txtQ y with
    | none =>
      rw [hx] at h1
      obtain ⟨rfl, k, hq⟩ := h1
      exact ⟨⟨#[]⟩, k, true, rfl, f1, hq, by show (0 : Nat) ≤ _; omega, rfl⟩
    | some q =>
      obtain ⟨xx, y2⟩ := q
      rw [hx] at h1
      obtain ⟨s, rfl, rfl, hs, hq⟩ := h1
      refine ⟨s, _, false, rfl, f1, hq, hs, ?_⟩
      obtain ⟨s2, -, e2⟩ := txtQ_some hx
      have hl2 : y2.length ≤ l.length - 5 := by
        have := congrArg List.length e2
        rw [← hdr, List.length_append, List.length_drop] at this
        omega
      have ed : l.drop (l.length - y2.length) = y2 := by
        have hle5 := hV.le
        rw [show l.length - y2.length = 5 + (l.length - 5 - y2.length) by omega, ← List.drop_drop, hdr, e2]
        have : l.length - 5 - y2.length = (textW s2).length := by
          have := congrArg List.length e2
          rw [← hdr, List.length_append, List.length_drop] at this
          omega
        rw [this, List.drop_left]
      unfold lstQ
      rw [ed, flat_st]
      rfl)
  have HTr := mkHid htr
  have HX := mkHid hx
  have HBk := mkHid hbk
  have H3 := mkHid hlb
  have F3 := mkHid hfr
  have HB := mkHid hB
  have hnk : (decide ((K.ts.length : Int) ≥ 64) = true ∧ (64 : Int) ≤ (K.ts.length : Int) ∧ K.ts.length = 64) ∨ (decide ((K.ts.length : Int) ≥ 64) = false ∧ ¬ (64 : Int) ≤ (K.ts.length : Int) ∧ ¬ 64 ≤ K.ts.length ∧ K.ts.length < 64) := by
    by_cases q : K.ts.length = 64
    · exact .inl ⟨decide_eq_true (by omega), by omega, q⟩
    · exact .inr ⟨decide_eq_false (by omega), by omega, by omega, by omega⟩
  have HNk := mkHid hnk
  have HXB := mkHid hxB
  have HN := mkHid hn
  clear hlb hfr hkv hgc hg8 hr hW3 hE h9 hl htr hx hbk hB hnk hxB hn hts hxl
  go_enter Tryz.func25, Tryz.ntmps25
  go_wp2_with fail
  rw [HW3.out, ← HG.out.2.2, ← HG.out.2.1, ← HG.out.1]
  refine (HHas.out W3 [116, 101, 120, 116, 32] true (by decide) (Fr.refl [] W3) HT1.out).mono ?_
  rintro e a1 ⟨rfl, fa⟩
  have FA1 : Hid (Fr [] W3 a1) := ((Fr.refl [] W3)).tr0 fa
  have FA1b := mkHid fa
  clear fa
  have hz3 := lt_of_heap H3.out.q.blk
  have hs1 := FA1.out.size
  obtain ⟨gx, hgx⟩ : ∃ g, a1.heap.size = g := ⟨_, rfl⟩
  obtain ⟨b1, hb1⟩ : ∃ V, a1.alloc (.cells #[.int .i64 2, .string ⟨#[]⟩, .int .i64 0, .slice none 0 0] 49) = V := ⟨_, rfl⟩
  have hxa : b1.heap[gx]? = some (.cells #[.int .i64 2, .string ⟨#[]⟩, .int .i64 0, .slice none 0 0] 49 (0, 0)) := by rw [← hb1, ← hgx]; exact heap_alloc_new a1 _
  have FB1 : Hid (Fr [] W3 b1) := by rw [← hb1]; exact FA1.out.al _
  have HGxl : Hid (r < gx ∧ gc < gx ∧ g8 < gx) := by have := HG.out; exact ⟨by omega, by omega, by omega⟩
  have HXa := mkHid hxa
  have HGx0 := mkHid hgx
  have HB1 := mkHid hb1
  clear hz3 hs1 hxa hgx hb1
  go_wp2_with fail
  rw [HB1.out, HGx0.out]
  refine (HHas.out b1 [116, 101, 120, 116, 32] true (by decide) FB1.out HT1.out).mono ?_
  rintro e a2 ⟨rfl, fa⟩
  have FA2 : Hid (Fr [] W3 a2) := (FB1.out).tr0 fa
  have FA2b := mkHid fa
  clear fa
  go_wp2_with fail
  refine (HEat.out a2 (HQ3.out a2 FA2.out)).mono ?_
  rintro e a3 ⟨rfl, f3, hq3⟩
  have HTx3 := mkHid (HTx.out a3 hq3 (fun U fU => HEv.out a2 FA2.out U (f3.trans fU (by simp))))
  have FA3 : Hid (Fr [r] W3 a3) := (FA2.out.mono (S' := [r]) (by simp)).trans f3 (by simp)
  have FB3 : Hid (Fr [r] b1 a3) := by
    have h := FA2b.out
    exact (h.mono (S' := [r]) (by simp)).trans f3 (by simp)
  clear f3 hq3 HEat HTx
  go_wp2_with fail
  refine HTx3.out.mono ?_
  rintro e a4 ⟨s, k, bad, rfl, f4, hq4, hs, hld⟩
  have F4 := FA3.out.trans f4 (by simp)
  have hg4 := ((FB3.out.trans f4 (by simp)).block gx (lt_of_heap HXa.out) (by have := HGxl.out; simp; omega)).trans HXa.out
  have hl4 := H3.out.mv n1 n2 F4 hq4
  have x1 : a4.cell? ⟨gx, 1, none⟩ = some (.string ⟨#[]⟩) := cell_in hg4 1
  have xz := frozen_in hg4 1
  have fs : Fr [gx] a4 (a4.setCell ⟨gx, 1, none⟩ (.string s)) := Fr.setCell (S := [gx]) a4 ⟨gx, 1, none⟩ _ (by simp)
  have hg5 := set_in hg4 1 (.string s)
  have hl5 : LB (a4.setCell ⟨gx, 1, none⟩ (.string s)) gc g8 r _ l k 0 bad := ⟨(fs.block gc (lt_of_heap hl4.c) (by have := HGxl.out; simp; omega)).trans hl4.c, (fs.block g8 (lt_of_heap hl4.z) (by have := HGxl.out; simp; omega)).trans hl4.z, hl4.q.fr fs (by have := HGxl.out; simp; omega)⟩
  have f5 : Fr [] W (a4.setCell ⟨gx, 1, none⟩ (.string s)) := (F3.out.trans F4 (fun b hb => .inr (by simp at hb; rw [hb]; exact HrW.out.1))).st (by have := HGxl.out; have := HrW.out; omega) 1 _
  obtain ⟨v5, hv5⟩ : ∃ V, a4.setCell ⟨gx, 1, none⟩ (.string s) = V := ⟨_, rfl⟩
  rw [hv5] at hg5 hl5 f5
  have HL := mkHid hl5
  have F5 := mkHid f5
  obtain ⟨t, ht⟩ : ∃ t, t = flat 2 s 0 := ⟨_, rfl⟩
  obtain ⟨d, hd0⟩ : ∃ d, d = 0 := ⟨_, rfl⟩
  rw [← hd0] at HL
  have HGx : Hid (v5.heap[gx]? = some (.cells #[.int .i64 t.kind, .string t.text, .int .i64 t.num, .slice t.p t.kids.length t.c] 49 (0, 0))) := by rw [ht]; exact hg5
  have HK : Hid (LitsX v5 (fun g => gx < g) t.p t.c t.kids) := by rw [ht]; exact flatO _ _ _ _ _
  have HTxt : Hid (t.text.size ≤ 140737488355328) := by
    rw [ht]
    show s.size ≤ _
    omega
  have HLd : Hid (litD l K.ts.length n = fin1 (lstQ t l k bad) K.ts.length n) := by rw [ht]; exact hld
  clear f4 hq4 hs hld F4 hg4 hl4 fs hg5 hl5 f5 HTx3 FA3 FB3 ht hd0 H3
  go_wp2_with fail
  clear hv5 x1 xz
  have HEnd := mkHid (ends_st HL.out.q)
  refine HEnd.out.mono ?_
  rintro e v6 ⟨rfl, f6⟩
  have HL6 := mkHid (HL.out.mv n1 n2 (f6.mono (by simp)) (HL.out.q.fr f6 (by simp)))
  have HX6 := mkHid (f6.hb HGx.out)
  have F6 := mkHid (F5.out.tr0 f6)
  have HK6 : Hid (LitsX v6 (fun g => gx < g) t.p t.c t.kids) := HK.out.keep f6 (fun _ _ _ => by simp) (fun g hg _ => hg)
  clear f6 HEnd HL HGx HK F5
  have d0 : v6.cell? ⟨gc, 0, none⟩ = some (.int .i64 K.args) := cell_in HL6.out.c 0
  have d1 : v6.cell? ⟨gc, 1, none⟩ = some (.int .i64 K.temps) := cell_in HL6.out.c 1
  have d2 : v6.cell? ⟨gc, 2, none⟩ = some (.int .i64 K.stack) := cell_in HL6.out.c 2
  have d3 : v6.cell? ⟨gc, 3, none⟩ = some (.slice lp K.ts.length lc) := cell_in HL6.out.c 3
  have d4 : v6.cell? ⟨gc, 4, none⟩ = some (.slice pw K.ws.length cw) := cell_in HL6.out.c 4
  have e0 : v6.cell? ⟨g8, 0, none⟩ = some (.int .i64 0) := cell_in HL6.out.z 0
  have e1 : v6.cell? ⟨g8, 1, none⟩ = some (.int .i64 0) := cell_in HL6.out.z 1
  have e2 : v6.cell? ⟨g8, 2, none⟩ = some (.int .i64 0) := cell_in HL6.out.z 2
  have e3 : v6.cell? ⟨g8, 3, none⟩ = some (.slice none 0 0) := cell_in HL6.out.z 3
  have e4 : v6.cell? ⟨g8, 4, none⟩ = some (.slice none 0 0) := cell_in HL6.out.z 4
  have y0 := frozen_in HL6.out.z 0
  have y1 := frozen_in HL6.out.z 1
  have y2 := frozen_in HL6.out.z 2
  have y3 := frozen_in HL6.out.z 3
  have y4 := frozen_in HL6.out.z 4
  have HNo : Hid (litD l K.ts.length n = none → L1R W B x K lp pw cw n l (.returned (.tuple #[.agg #[.int .i64 K.args, .int .i64 K.temps, .int .i64 K.stack, .slice lp K.ts.length lc, .slice pw K.ws.length cw], .int .i64 1, .bool false])) (st5 v6 g8 (.int .i64 K.args) (.int .i64 K.temps) (.int .i64 K.stack) (.slice lp K.ts.length lc) (.slice pw K.ws.length cw)) ∧ (st5 v6 g8 (.int .i64 K.args) (.int .i64 K.temps) (.int .i64 K.stack) (.slice lp K.ts.length lc) (.slice pw K.ws.length cw)).heap[g8]? = some (.cells #[.int .i64 K.args, .int .i64 K.temps, .int .i64 K.stack, .slice lp K.ts.length lc, .slice pw K.ws.length cw] 25 (0, 0))) := fun hno => by
    obtain ⟨b5, f5⟩ := st5_ok (.int .i64 K.args) (.int .i64 K.temps) (.int .i64 K.stack) (.slice lp K.ts.length lc) (.slice pw K.ws.length cw) HL6.out.z
    refine ⟨⟨t, false, n, K.ts, lp, lc, rfl, ((F6.out.mono (S' := x :: blk lp) (by simp)).trans f5 (fun b hb => .inr (by simp at hb; rw [hb]; exact HrW.out.2.2.1))), (fun e => by cases e), ?_⟩, b5⟩
    rw [hno]
    rfl
  by_cases hend : stQ l k bad = some []
  · have hde : decide (stQ l k bad = some []) = true := decide_eq_true hend
    rw [hde]
    have hfy := HLd.out.trans (fin1_yes hend)
    clear hde hend
    rcases HNk.out with ⟨o1, o2, o3⟩ | ⟨o1, o2, o3, o4⟩
    · have HFin := mkHid (HNo.out (by rw [hfy]; unfold chkQ; rw [if_pos o3]))
      clear hfy o3 HNo
      go_wp2_with fail
      exact ret25 Tryz.results25 HFin.out.2 rfl rfl rfl HFin.out.1
    · rw [chk_lit t _ n (by omega)] at hfy
      have HFy := mkHid hfy
      have HLt := mkHid o4
      clear hfy o4 HNo
      have x0 : v6.cell? ⟨gx, 0, none⟩ = some (.int .i64 t.kind) := cell_in HX6.out 0
      have x1 : v6.cell? ⟨gx, 1, none⟩ = some (.string t.text) := cell_in HX6.out 1
      have x2 : v6.cell? ⟨gx, 2, none⟩ = some (.int .i64 t.num) := cell_in HX6.out 2
      have x3 : v6.cell? ⟨gx, 3, none⟩ = some (.slice t.p t.kids.length t.c) := cell_in HX6.out 3
      have hxw : v6.heap[x]? = some (.cells (wkc n 0) 70 (0, 0)) := F6.out.hb HX.out
      have HLit := mkHid (literal_one x n t true v6 v6 (HK6.out.lo.keep (Fr.refl [] v6) (fun _ _ _ => by simp) (fun g hg _ => by have := HrW.out; have := HGxl.out; omega)) (Fr.refl [x] v6) hxw HN.out HTxt.out)
      unfold LitT.items at HLit
      clear hxw
      go_wp2_with fail
      refine HLit.out.mono ?_
      rintro e v7 ⟨rfl, f7, hx7⟩
      clear HLit x0 x1 x2 x3 d0 d1 d2 d3 d4 e0 e1 e2 e3 e4 y0 y1 y2 y3 y4
      obtain ⟨p2, c2, w5, hr5, hb5, hg7, hc7, hSt⟩ := lit_push HrW.out HGxl.out HXB.out HB.out (HTr.out) HLt.out F6.out HL6.out HX6.out HK6.out HTxt.out f7 hx7 n1 n2 n3
      have d0 : v7.cell? ⟨gc, 0, none⟩ = some (.int .i64 K.args) := cell_in hc7 0
      have d1 : v7.cell? ⟨gc, 1, none⟩ = some (.int .i64 K.temps) := cell_in hc7 1
      have d2 : v7.cell? ⟨gc, 2, none⟩ = some (.int .i64 K.stack) := cell_in hc7 2
      have d3 : v7.cell? ⟨gc, 3, none⟩ = some (.slice lp K.ts.length lc) := cell_in hc7 3
      have d4 : v7.cell? ⟨gc, 4, none⟩ = some (.slice pw K.ws.length cw) := cell_in hc7 4
      have x0 : v7.cell? ⟨gx, 0, none⟩ = some (.int .i64 t.kind) := cell_in hg7 0
      have x1 : v7.cell? ⟨gx, 1, none⟩ = some (.string t.text) := cell_in hg7 1
      have x2 : v7.cell? ⟨gx, 2, none⟩ = some (.int .i64 t.num) := cell_in hg7 2
      have x3 : v7.cell? ⟨gx, 3, none⟩ = some (.slice t.p t.kids.length t.c) := cell_in hg7 3
      have c5 : w5.cell? ⟨gc, 3, none⟩ = some (.slice lp K.ts.length lc) := cell_in hb5 3
      have z5 := frozen_in hb5 3
      have hr5b : (Builtin.append_ #[22, 22] 22 #[.slice lp K.ts.length lc, .slice (some ⟨v7.heap.size, 0, none⟩) 1 1]).run Tryz.prog (v7.alloc (.cells #[.int .i64 t.kind, .string t.text, .int .i64 t.num, .slice t.p t.kids.length t.c] 49)) = .ok (.slice p2 (K.ts.length + 1) c2) w5 := hr5
      have HR5 := mkHid hr5b
      have HSt := mkHid hSt
      have hVV := hSt.1
      obtain ⟨VV, hV⟩ : ∃ V, w5.setCell ⟨gc, 3, none⟩ (.slice p2 (K.ts.length + 1) c2) = V := ⟨_, rfl⟩
      rw [hV] at HSt hVV
      clear hr5 hr5b hSt hb5 hg7 hc7 f7 hx7
      go_wp2_with (at_builtin; refine Lib.wpList_append_run _ rfl (.tmp 78) (.tmp 80) 22 22 rfl _ _ rfl rfl _ _ HR5.out ?_)
      clear hV hVV HR5 c5 z5 d0 d1 d2 d3 d4 x0 x1 x2 x3
      obtain ⟨er, her⟩ : ∃ q, (lit1 true t n).1 = q := ⟨_, rfl⟩
      obtain ⟨nn, hn2⟩ : ∃ q, (lit1 true t n).2 = q := ⟨_, rfl⟩
      rw [her, hn2] at HSt HFy
      clear her hn2
      have HCs : Hid (VV.drew.cell? ⟨gc, 0, none⟩ = some (.int .i64 K.args) ∧ VV.drew.cell? ⟨gc, 1, none⟩ = some (.int .i64 K.temps) ∧ VV.drew.cell? ⟨gc, 2, none⟩ = some (.int .i64 K.stack) ∧ VV.drew.cell? ⟨gc, 3, none⟩ = some (.slice p2 (K.ts.length + 1) c2) ∧ VV.drew.cell? ⟨gc, 4, none⟩ = some (.slice pw K.ws.length cw) ∧ VV.drew.cell? ⟨x, 1, none⟩ = some (.int .i64 er)) := ⟨cell_in HSt.out.1.c 0, cell_in HSt.out.1.c 1, cell_in HSt.out.1.c 2, cell_in HSt.out.1.c 3, cell_in HSt.out.1.c 4, cell_in HSt.out.2.1 1⟩
      have hz : VV.drew.heap[g8]? = some z25 := HSt.out.1.z
      have e0 : VV.drew.cell? ⟨g8, 0, none⟩ = some (.int .i64 0) := cell_in hz 0
      have e1 : VV.drew.cell? ⟨g8, 1, none⟩ = some (.int .i64 0) := cell_in hz 1
      have e2 : VV.drew.cell? ⟨g8, 2, none⟩ = some (.int .i64 0) := cell_in hz 2
      have e3 : VV.drew.cell? ⟨g8, 3, none⟩ = some (.slice none 0 0) := cell_in hz 3
      have e4 : VV.drew.cell? ⟨g8, 4, none⟩ = some (.slice none 0 0) := cell_in hz 4
      have y0 := frozen_in hz 0
      have y1 := frozen_in hz 1
      have y2 := frozen_in hz 2
      have y3 := frozen_in hz 3
      have y4 := frozen_in hz 4
      obtain ⟨b5, f5⟩ := st5_ok (.int .i64 K.args) (.int .i64 K.temps) (.int .i64 K.stack) (.slice p2 (K.ts.length + 1) c2) (.slice pw K.ws.length cw) hz
      have HC5 : Hid ((st5 VV.drew g8 (.int .i64 K.args) (.int .i64 K.temps) (.int .i64 K.stack) (.slice p2 (K.ts.length + 1) c2) (.slice pw K.ws.length cw)).cell? ⟨gc, 0, none⟩ = some (.int .i64 K.args) ∧ (st5 VV.drew g8 (.int .i64 K.args) (.int .i64 K.temps) (.int .i64 K.stack) (.slice p2 (K.ts.length + 1) c2) (.slice pw K.ws.length cw)).cell? ⟨gc, 1, none⟩ = some (.int .i64 K.temps) ∧ (st5 VV.drew g8 (.int .i64 K.args) (.int .i64 K.temps) (.int .i64 K.stack) (.slice p2 (K.ts.length + 1) c2) (.slice pw K.ws.length cw)).cell? ⟨gc, 2, none⟩ = some (.int .i64 K.stack) ∧ (st5 VV.drew g8 (.int .i64 K.args) (.int .i64 K.temps) (.int .i64 K.stack) (.slice p2 (K.ts.length + 1) c2) (.slice pw K.ws.length cw)).cell? ⟨gc, 3, none⟩ = some (.slice p2 (K.ts.length + 1) c2) ∧ (st5 VV.drew g8 (.int .i64 K.args) (.int .i64 K.temps) (.int .i64 K.stack) (.slice p2 (K.ts.length + 1) c2) (.slice pw K.ws.length cw)).cell? ⟨gc, 4, none⟩ = some (.slice pw K.ws.length cw) ∧ (st5 VV.drew g8 (.int .i64 K.args) (.int .i64 K.temps) (.int .i64 K.stack) (.slice p2 (K.ts.length + 1) c2) (.slice pw K.ws.length cw)).cell? ⟨x, 1, none⟩ = some (.int .i64 er)) := by
        have hb := (f5.block gc (lt_of_heap HSt.out.1.c) (by simpa using fun e => n3 e.symm)).trans (show VV.drew.heap[gc]? = _ from HSt.out.1.c)
        have hb2 := (f5.block x (lt_of_heap HSt.out.2.1) (by have := HrW.out; simp; omega)).trans (show VV.drew.heap[x]? = _ from HSt.out.2.1)
        exact ⟨cell_in hb 0, cell_in hb 1, cell_in hb 2, cell_in hb 3, cell_in hb 4, cell_in hb2 1⟩
      have HB5 := mkHid b5
      have HFin : Hid (∀ ok : Bool, litD l K.ts.length n = (if ok = true then some (stT t, nn) else none) → (ok = true → er = 0) → L1R W B x K lp pw cw n l (.returned (.tuple #[.agg #[.int .i64 K.args, .int .i64 K.temps, .int .i64 K.stack, .slice p2 (K.ts.length + 1) c2, .slice pw K.ws.length cw], .int .i64 1, .bool ok])) (st5 VV.drew g8 (.int .i64 K.args) (.int .i64 K.temps) (.int .i64 K.stack) (.slice p2 (K.ts.length + 1) c2) (.slice pw K.ws.length cw))) := fun ok hok her => by
        have hl6 : (K.ts ++ [t]).length = K.ts.length + 1 := by simp
        refine ⟨t, ok, nn, K.ts ++ [t], p2, c2, ?_, ?_, fun e => ⟨rfl, ?_, ?_⟩, hok⟩
        · show _ = Ending.returned (.tuple #[.agg (({ K with ts := K.ts ++ [t] } : Co).v p2 c2 pw cw), .int .i64 1, .bool ok])
          unfold Co.v
          simp only [hl6]
        · exact (HSt.out.2.2.1.trans (Fr.drew [] VV) (by simp)).trans f5 (fun b hb => .inr (by simp at hb; rw [hb]; exact HrW.out.2.2.1))
        · refine (HSt.out.2.2.2.1.away (Fr.drew [] VV) (by simp)).away f5 (fun g hg => ?_)
          have e : g = g8 := by simpa using hg
          rw [e]
          exact HSt.out.2.2.2.2
        · have hb2 := (f5.block x (lt_of_heap HSt.out.2.1) (by have := HrW.out; simp; omega)).trans (show VV.drew.heap[x]? = _ from HSt.out.2.1)
          rw [her e] at hb2
          exact hb2
      clear b5 f5 hz
      refine wp_region_h (S := fun V => V.cell? ⟨gc, 0, none⟩ = some (.int .i64 K.args) ∧ V.cell? ⟨gc, 1, none⟩ = some (.int .i64 K.temps) ∧ V.cell? ⟨gc, 2, none⟩ = some (.int .i64 K.stack) ∧ V.cell? ⟨gc, 3, none⟩ = some (.slice p2 (K.ts.length + 1) c2) ∧ V.cell? ⟨gc, 4, none⟩ = some (.slice pw K.ws.length cw) ∧ V.cell? ⟨x, 1, none⟩ = some (.int .i64 er)) (by kernel_rfl) HCs.out (fun hHeld => ?_)
      by_cases h0 : er = 0
      · have hq : (er == 0) = true := by simpa using h0
        have HF1 := mkHid (HFin.out true (by rw [HFy.out, if_pos h0]; rfl) (fun _ => h0))
        clear h0
        refine wpAnyH_take (i := 0) (v := ?_) rfl (by kernel_rfl) (by kernel_rfl) (by kernel_rfl) (fun _ _ _ h => h) (Or.inl ⟨by rfl, ?_⟩) (by assumption) ?_
        rotate_left
        · (intro w hSw; (try dsimp only at hSw); first | (go_simp; done) | (go_simp; with_reducible rfl))
        try simp only [Act.put, qT, qZ, qS, qB, qY, qX]
        refine wpAnyH_take (i := 1) (v := ?_) rfl (by kernel_rfl) (by kernel_rfl) (by kernel_rfl) (fun _ _ _ h => h) (Or.inl ⟨by rfl, ?_⟩) (by assumption) ?_
        rotate_left
        · (intro w hSw; (try dsimp only at hSw); first | (go_simp; done) | (go_simp; with_reducible rfl))
        try simp only [Act.put, qT, qZ, qS, qB, qY, qX]
        refine wpAnyH_take (i := 2) (v := ?_) rfl (by kernel_rfl) (by kernel_rfl) (by kernel_rfl) (fun _ _ _ h => h) (Or.inl ⟨by rfl, ?_⟩) (by assumption) ?_
        rotate_left
        · (intro w hSw; (try dsimp only at hSw); first | (go_simp; done) | (go_simp; with_reducible rfl))
        try simp only [Act.put, qT, qZ, qS, qB, qY, qX]
        refine wpAnyH_take (i := 3) (v := ?_) rfl (by kernel_rfl) (by kernel_rfl) (by kernel_rfl) (fun _ _ _ h => h) (Or.inl ⟨by rfl, ?_⟩) (by assumption) ?_
        rotate_left
        · (intro w hSw; (try dsimp only at hSw); first | (go_simp; done) | (go_simp; with_reducible rfl))
        try simp only [Act.put, qT, qZ, qS, qB, qY, qX]
        refine wpAnyH_take (i := 4) (v := ?_) rfl (by kernel_rfl) (by kernel_rfl) (by kernel_rfl) (fun _ _ _ h => h) (Or.inl ⟨by rfl, ?_⟩) (by assumption) ?_
        rotate_left
        · (intro w hSw; (try dsimp only at hSw); first | (go_simp; done) | (go_simp; with_reducible rfl))
        try simp only [Act.put, qT, qZ, qS, qB, qY, qX]
        refine wpAnyH_take (i := 5) (v := ?_) rfl (by kernel_rfl) (by kernel_rfl) (by kernel_rfl) (fun _ _ _ h => h) (Or.inl ⟨by rfl, ?_⟩) (by assumption) ?_
        rotate_left
        · (intro w hSw; (try dsimp only at hSw); first | (go_simp; done) | (go_simp; with_reducible rfl))
        try simp only [Act.put, qT, qZ, qS, qB, qY, qX]
        refine wpH_one (i := 6) (by kernel_rfl) rfl (fun K0 hK => ?_)
        clear HFin HCs HSt hHeld
        generalize VV.drew = W9 at *
        go_simp
        refine hK.out _ _ HC5.out (fun hHeld => ?_)
        clear hK K0
        try simp only [Act.put, qT, qZ, qS, qB, qY, qX]
        refine wpAnyH_take (i := 7) (v := ?_) rfl (by kernel_rfl) (by kernel_rfl) (by kernel_rfl) (fun _ _ _ h => h) (Or.inl ⟨by rfl, ?_⟩) (by assumption) ?_
        rotate_left
        · (intro w hSw; (try dsimp only at hSw); first | (go_simp; done) | (go_simp; with_reducible rfl))
        try simp only [Act.put, qT, qZ, qS, qB, qY, qX]
        refine wpAnyH_take (i := 8) (v := ?_) rfl (by kernel_rfl) (by kernel_rfl) (by kernel_rfl) (fun _ _ _ h => h) (Or.inl ⟨by rfl, ?_⟩) (by assumption) ?_
        rotate_left
        · (intro w hSw; (try dsimp only at hSw); first | (go_simp; done) | (go_simp; with_reducible rfl))
        try simp only [Act.put, qT, qZ, qS, qB, qY, qX]
        refine wpAnyH_done (by kernel_rfl) ?_ _
        clear hHeld
        go_wp2_with fail
        exact ret25 Tryz.results25 HB5.out rfl rfl rfl HF1.out
      · have hq : (er == 0) = false := by simpa using h0
        have HF1 := mkHid (HFin.out false (by rw [HFy.out, if_neg h0]; rfl) (fun e => by cases e))
        clear h0
        refine wpAnyH_take (i := 0) (v := ?_) rfl (by kernel_rfl) (by kernel_rfl) (by kernel_rfl) (fun _ _ _ h => h) (Or.inl ⟨by rfl, ?_⟩) (by assumption) ?_
        rotate_left
        · (intro w hSw; (try dsimp only at hSw); first | (go_simp; done) | (go_simp; with_reducible rfl))
        try simp only [Act.put, qT, qZ, qS, qB, qY, qX]
        refine wpAnyH_take (i := 1) (v := ?_) rfl (by kernel_rfl) (by kernel_rfl) (by kernel_rfl) (fun _ _ _ h => h) (Or.inl ⟨by rfl, ?_⟩) (by assumption) ?_
        rotate_left
        · (intro w hSw; (try dsimp only at hSw); first | (go_simp; done) | (go_simp; with_reducible rfl))
        try simp only [Act.put, qT, qZ, qS, qB, qY, qX]
        refine wpAnyH_take (i := 2) (v := ?_) rfl (by kernel_rfl) (by kernel_rfl) (by kernel_rfl) (fun _ _ _ h => h) (Or.inl ⟨by rfl, ?_⟩) (by assumption) ?_
        rotate_left
        · (intro w hSw; (try dsimp only at hSw); first | (go_simp; done) | (go_simp; with_reducible rfl))
        try simp only [Act.put, qT, qZ, qS, qB, qY, qX]
        refine wpAnyH_take (i := 3) (v := ?_) rfl (by kernel_rfl) (by kernel_rfl) (by kernel_rfl) (fun _ _ _ h => h) (Or.inl ⟨by rfl, ?_⟩) (by assumption) ?_
        rotate_left
        · (intro w hSw; (try dsimp only at hSw); first | (go_simp; done) | (go_simp; with_reducible rfl))
        try simp only [Act.put, qT, qZ, qS, qB, qY, qX]
        refine wpAnyH_take (i := 4) (v := ?_) rfl (by kernel_rfl) (by kernel_rfl) (by kernel_rfl) (fun _ _ _ h => h) (Or.inl ⟨by rfl, ?_⟩) (by assumption) ?_
        rotate_left
        · (intro w hSw; (try dsimp only at hSw); first | (go_simp; done) | (go_simp; with_reducible rfl))
        try simp only [Act.put, qT, qZ, qS, qB, qY, qX]
        refine wpAnyH_take (i := 5) (v := ?_) rfl (by kernel_rfl) (by kernel_rfl) (by kernel_rfl) (fun _ _ _ h => h) (Or.inl ⟨by rfl, ?_⟩) (by assumption) ?_
        rotate_left
        · (intro w hSw; (try dsimp only at hSw); first | (go_simp; done) | (go_simp; with_reducible rfl))
        try simp only [Act.put, qT, qZ, qS, qB, qY, qX]
        refine wpH_one (i := 6) (by kernel_rfl) rfl (fun K0 hK => ?_)
        clear HFin HCs HSt hHeld
        generalize VV.drew = W9 at *
        go_simp
        refine hK.out _ _ HC5.out (fun hHeld => ?_)
        clear hK K0
        try simp only [Act.put, qT, qZ, qS, qB, qY, qX]
        refine wpAnyH_take (i := 7) (v := ?_) rfl (by kernel_rfl) (by kernel_rfl) (by kernel_rfl) (fun _ _ _ h => h) (Or.inl ⟨by rfl, ?_⟩) (by assumption) ?_
        rotate_left
        · (intro w hSw; (try dsimp only at hSw); first | (go_simp; done) | (go_simp; with_reducible rfl))
        try simp only [Act.put, qT, qZ, qS, qB, qY, qX]
        refine wpAnyH_take (i := 8) (v := ?_) rfl (by kernel_rfl) (by kernel_rfl) (by kernel_rfl) (fun _ _ _ h => h) (Or.inl ⟨by rfl, ?_⟩) (by assumption) ?_
        rotate_left
        · (intro w hSw; (try dsimp only at hSw); first | (go_simp; done) | (go_simp; with_reducible rfl))
        try simp only [Act.put, qT, qZ, qS, qB, qY, qX]
        refine wpAnyH_done (by kernel_rfl) ?_ _
        clear hHeld
        go_wp2_with fail
        exact ret25 Tryz.results25 HB5.out rfl rfl rfl HF1.out
  · have hde : decide (stQ l k bad = some []) = false := decide_eq_false hend
    rw [hde]
    have HFin := mkHid (HNo.out (HLd.out.trans (fin1_no hend)))
    clear hde hend HNo
    go_wp2_with fail
    exact ret25 Tryz.results25 HFin.out.2 rfl rfl rfl HFin.out.1
end Go.Proofs.YtclkoffnjiiioaaGreatDoor
