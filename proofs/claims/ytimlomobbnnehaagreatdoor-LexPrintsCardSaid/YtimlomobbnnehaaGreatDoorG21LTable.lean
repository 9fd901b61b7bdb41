import Derived.Test.YtimlomobbnnehaaGreatDoorLTw
import Derived.Test.YtimlomobbnnehaaGreatDoorG15LBack
import Derived.Test.YtimlomobbnnehaaGreatDoorG08LRefA
import Derived.OpenShut
import Derived.LaidMore
import Derived.SizedLaws
import Derived.Deep.Slices
import Derived.ChangeSlices
import Derived.Test.YtimlomobbnnehaaGreatDoorRows
import Derived.ChangeArms
import Derived.ProofKit
namespace Go.Proofs.YtimlomobbnnehaaGreatDoor
open Go.RowKit Go.Maps Go.WideMaps
set_option linter.unusedVariables false
set_option linter.unusedSimpArgs false
theorem num_v (k : Int) (w : World) (h0 : 0 ≤ k) (h1 : k ≤ 100) : Calls Tryz.prog 11 #[.int .i64 k] w fun e w' => e = .returned (.int .i64 k) ∧ w' = w := by
  go_enter Tryz.func11, Tryz.ntmps11
  go_wp2
  go_ret
  exact ⟨by first | rfl | simp, rfl⟩
theorem PrR.det (zs : List Zt) : ∃ (T : ByteArray) (k : Nat), k ≤ 1 ∧ ∀ e, PrR zs e → e = .returned (.tuple #[.string T, .int .i64 k]) := by
  by_cases hG : 0 < zs.length ∧ goodZ zs
  · refine ⟨ba (prZ zs), 0, by omega, fun e h => ?_⟩
    rcases h with ⟨_, _, h⟩ | ⟨h, _⟩
    · exact h
    · exact absurd hG h
  · refine ⟨⟨#[]⟩, 1, by omega, fun e h => ?_⟩
    rcases h with ⟨h1, h2, _⟩ | ⟨_, h⟩
    · exact absurd ⟨h1, h2⟩ hG
    · exact h
theorem RdV.pre {w : World} {p : Option Addr} {m c c' : Nat} {zs us : List Zt} (h : RdV w (.slice p m c) (zs ++ us)) : RdV w (.slice p zs.length c') zs := by
  obtain ⟨p', d, e, hp⟩ := h.at_
  injection e with e1 e2 e3
  subst e1
  refine ⟨p, c', rfl, fun h0 => ?_⟩
  obtain ⟨b, off, rfl, hb, hc⟩ := hp (by simp; omega)
  refine ⟨b, off, rfl, hb, fun j hj => ?_⟩
  have := hc j (by simp; omega)
  have hg : (zs ++ us).getD j noY = zs.getD j noY := by
    rw [List.getD_eq_getElem?_getD, List.getD_eq_getElem?_getD, List.getElem?_append_left hj]
  rw [hg] at this
  exact this
theorem RdV.z {w : World} {g n c : Nat} {zs : List Zt} (h : RdV w (.slice (some ⟨g, 0, none⟩) n c) zs) (h0 : 0 < zs.length) : RdZ w g 0 zs := by
  obtain ⟨p', d, e, hp⟩ := h.at_
  injection e with e1 e2 e3
  obtain ⟨b, off, e4, hb, hc⟩ := hp h0
  rw [← e1] at e4
  injection e4 with e4
  injection e4 with e5 e6
  subst e5 e6
  exact ⟨hb, hc⟩
theorem lPrint_ok (g n c : Nat) (zs : List Zt) (w : World) (hT : Tab w) (hP : Pw w) (hn : zs.length = n) (hr : RdV w (.slice (some ⟨g, 0, none⟩) n c) zs) (hc : n ≤ c) (hcm : c ≤ maxLen) (hw : wt zs ≤ 268435456) :
    Calls Tryz.prog 9 #[.slice (some ⟨g, 0, none⟩) n c] w fun e w' => PrR zs e ∧ Bl w w' := by
  subst hn
  by_cases h0 : 0 < zs.length
  · have hl := wt_len24 zs
    refine (print_ok g 0 c zs w hT hP (hr.z h0) h0 (by omega) hc hcm (fun i hi => by have := wt_at zs i hi; omega) (fun gd i hi => by
      have h5 := pr_len gd i hi
      have h6 := wt_le zs i
      omega)).mono ?_
    rintro e w' ⟨h | h, hb⟩
    · exact ⟨Or.inl ⟨h0, h.1, h.2⟩, hb⟩
    · exact ⟨Or.inr ⟨fun h9 => h.1 h9.2, h.2⟩, hb⟩
  · have hz : zs.length = 0 := by omega
    rw [hz]
    refine (print_nil (some ⟨g, 0, none⟩) c w).mono ?_
    rintro e w' ⟨rfl, rfl⟩
    exact ⟨Or.inr ⟨fun h => absurd h.1 h0, rfl⟩, Bl.refl _⟩
set_option maxHeartbeats 16000000 in
set_option maxRecDepth 1000000 in
theorem printed_ok (g c n : Nat) (zs : List Zt) (hn : zs.length = n) (w : World) (hT : Tab w) (hP : Pw w) (hr : RdV w (.slice (some ⟨g, 0, none⟩) (n + 64) c) (zs ++ List.replicate 64 (-4, [], 0, 0))) (hc : n + 64 ≤ c) (hcm : c ≤ maxLen) (hw : wt zs ≤ 268435456)
    (hi : ∀ i, i < zs.length → -9223372036854775808 ≤ (zs.getD i noZ).2.2.1 ∧ (zs.getD i noZ).2.2.1 ≤ 9223372036854775807) :
    Calls Tryz.prog 7 #[.slice (some ⟨g, 0, none⟩) (n + 64) c, .int .i64 n] w fun e w' => e = .returned (.bool true) ∧ Bl w w' := by
  obtain ⟨T, k, hk, hT1⟩ := PrR.det zs
  have hl := wt_len24 zs
  rw [hn] at hl
  have HF : Hid (∀ V, Bl w V → RdV V (.slice (some ⟨g, 0, none⟩) n c) zs) := mkHid fun V b => by
    have := (hr.frame (Fr.ofBl b []) (fun _ _ _ hm => by cases hm)).pre (c' := c)
    rw [hn] at this
    exact this
  have HA : Hid (∀ V, Bl w V → RdV V (.slice (some ⟨g, 0, none⟩) (n + 64) c) (zs ++ List.replicate 64 (-4, [], 0, 0))) := mkHid fun V b => hr.frame (Fr.ofBl b []) (fun _ _ _ hm => by cases hm)
  have HTw : Hid (∀ V, Bl w V → Calls Tryz.prog 6 #[.slice (some ⟨g, 0, none⟩) n c] V fun e w' => ∃ p' c', e = .returned (.slice p' n c') ∧ (∀ X, Bl w' X → RdV X (.slice p' n c') zs) ∧ Bl V w') := mkHid fun V b => by
    have h1 := HF.out V b
    have := twin_ok (some ⟨g, 0, none⟩) c zs V (by rw [hn]; exact h1) (by omega)
    rw [hn] at this
    refine this.mono ?_
    rintro e w' ⟨p', c', rfl, ho, hb⟩
    refine ⟨p', c', rfl, fun X hX => ?_, hb⟩
    have h2 : RdV w' (.slice p' n c') zs := RdV.own (by rw [hn]; exact ho)
    exact h2.frame (Fr.ofBl hX []) (fun _ _ _ hm => by cases hm)
  have HPr : Hid (∀ V, Bl w V → Calls Tryz.prog 9 #[.slice (some ⟨g, 0, none⟩) n c] V fun e w' => e = .returned (.tuple #[.string T, .int .i64 k]) ∧ Bl V w') := mkHid fun V b => (lPrint_ok g n c zs V (hT.mono b) (hP.mono b) hn (HF.out V b) (by omega) hcm hw).mono (fun e w' h => ⟨hT1 e h.1, h.2⟩)
  have HRp : Hid (∀ V p' c', Bl w V → RdV V (.slice p' n c') zs → Calls Tryz.prog 10 #[.slice p' n c'] V fun e w' => e = .returned (.tuple #[.string T, .int .i64 k]) ∧ Bl V w') := mkHid fun V p' c' b h => by
    have := rPrint_ok p' c' zs V (hP.mono b) (by rw [hn]; exact h) hw hi
    rw [hn] at this
    exact this.mono (fun e w' h => ⟨hT1 e h.1, h.2⟩)
  have HSm : Hid (∀ V p' c', RdV V (.slice (some ⟨g, 0, none⟩) n c) zs → RdV V (.slice p' n c') zs → Calls Tryz.prog 12 #[.slice (some ⟨g, 0, none⟩) n c, .slice p' n c', .bool true] V fun e w' => e = .returned (.bool true) ∧ Bl V w') := mkHid fun V p' c' h1 h2 => by
    have := same_v (some ⟨g, 0, none⟩) c p' c' zs V (by rw [hn]; exact h1) (by rw [hn]; exact h2) (by omega)
    rw [hn] at this
    exact this
  have HNm := mkHid (fun V => num_v (k : Int) V (by omega) (by omega))
  have hzg : Hid (∀ j, j < 64 → (zs ++ List.replicate 64 ((-4, [], 0, 0) : Zt)).getD (n + j) noY = (-4, [], 0, 0)) := mkHid fun j hj => by
    rw [List.getD_eq_getElem?_getD, List.getElem?_append_right (by omega), List.getElem?_replicate, if_pos (by omega)]
    rfl
  have hn1 : (n : Int) ≤ c := by omega
  have hn28 : n < 268435456 := by omega
  have hzl : Hid ((zs ++ List.replicate 64 ((-4, [], 0, 0) : Zt)).length = n + 64) := mkHid (by simp; omega)
  have hcc : c ≤ 9223372036854775807 := by unfold maxLen at hcm; omega
  clear hr hT hP hT1 hl hw hi hn hcm
  go_enter Tryz.func7, Tryz.ntmps7
  go_wp2_with (first
    | (go_at_call 6; refine (HTw.out _ (Bl.refl _)).mono ?_; rintro e w1 ⟨p1, c1, rfl, o1, b1⟩; have O1 := mkHid o1; have B1 := mkHid b1; clear b1 o1)
    | (go_at_call 9; refine (HPr.out _ B1.out).mono ?_; rintro e w2 ⟨rfl, b2⟩; have B12 := mkHid b2; have B2 := mkHid (B1.out.trans b2); clear b2)
    | (go_at_call 10; refine (HRp.out _ _ _ B2.out (O1.out _ B12.out)).mono ?_; rintro e w3 ⟨rfl, b3⟩; have B3 := mkHid (B2.out.trans b3); have B13 := mkHid (B12.out.trans b3); clear b3)
    | (go_at_call 11; refine (HNm.out _).mono ?_; rintro e w4 ⟨rfl, h4⟩; have h5 := h4.symm; subst h5)
    | (go_at_call 12; refine (HSm.out _ _ _ (HF.out _ B3.out) (O1.out _ B13.out)).mono ?_; rintro e w5 ⟨rfl, b5⟩; have B5 := mkHid (B3.out.trans b5); clear b5))
  go_loopw [10] (fun q wr => ∃ j : Nat, j ≤ 64 ∧ q = .int .i64 j ∧ Hid (Bl w wr)) (fun q _ => 64 - (intOf q).toNat)
  case atStart => exact ⟨0, Nat.zero_le _, rfl, B5⟩
  case round =>
    obtain ⟨j, hj, rfl, hbl⟩ := hrel
    by_cases hlt : j < 64
    · have hji : (j : Int) < 64 := by omega
      obtain ⟨q, d, e, hq⟩ := (HA.out wr hbl.out).at_
      injection e with e1 e2 e3
      obtain ⟨b, off, e4, hb, hc2⟩ := hq (by rw [hzl.out]; omega)
      rw [← e1] at e4
      injection e4 with e4
      injection e4 with e5 e6
      subst e5 e6
      obtain ⟨x0, -⟩ := hc2 (n + j) (by rw [hzl.out]; omega)
      rw [hzg.out j hlt] at x0
      have x0 : wr.cell? ⟨g, (n + j) * 4, none⟩ = some (.int .i64 (-4)) := by rw [Nat.zero_add] at x0; exact x0
      have hi2 : (n : Int) + j < (n : Int) + 64 := by omega
      clear hq hc2 e1 e2 e3
      go_wp2_with fail
      go_roundw
      case rel => exact ⟨j + 1, by omega, by simp, hbl⟩
      case measure => simp [intOf]; omega
    · have hje : j = 64 := by omega
      subst hje
      go_wp2_with fail
      go_wp2_with fail
      go_ret
      exact ⟨rfl, hbl.out⟩
end Go.Proofs.YtimlomobbnnehaaGreatDoor
namespace Go.Proofs.YtimlomobbnnehaaGreatDoor
open Go.RowKit Go.Maps Go.WideMaps
set_option linter.unusedVariables false
set_option linter.unusedSimpArgs false
theorem wt_app (a b : List Zt) : wt (a ++ b) = wt a + wt b := by simp [wt]
theorem wt_rev (a : List Zt) : wt a.reverse = wt a := by
  induction a with
  | nil => rfl
  | cons z a ih => rw [List.reverse_cons, wt_app, ih]; simp [wt]; omega
/-- all but the last the other way round, as far as place i -/
def turnL (zs : List Zt) (i : Nat) : List Zt := (zs.take (zs.length - 1)).reverse.take i ++ zs.drop i
theorem turnL_len (zs : List Zt) (i : Nat) (h : i ≤ zs.length - 1) : (turnL zs i).length = zs.length := by
  unfold turnL
  rw [List.length_append, List.length_take, List.length_reverse, List.length_take, List.length_drop]
  omega
theorem turnL_zero (zs : List Zt) : turnL zs 0 = zs := by simp [turnL]
theorem turnL_set (zs : List Zt) (i : Nat) (h : i + 1 < zs.length) : (turnL zs i).set i (zs.getD (zs.length - 2 - i) noZ) = turnL zs (i + 1) := by
  have hl : ((zs.take (zs.length - 1)).reverse.take i).length = i := by simp; omega
  unfold turnL
  rw [List.set_append_right _ _ (by omega), hl, Nat.sub_self, List.drop_eq_getElem_cons (by omega : i < zs.length), List.set_cons_zero]
  have h2 : i < (zs.take (zs.length - 1)).reverse.length := by simp; omega
  rw [List.take_succ_eq_append_getElem h2, List.append_assoc]
  congr 1
  rw [List.getElem_reverse, List.getElem_take, List.getD_eq_getElem?_getD, List.getElem?_eq_getElem (by omega)]
  simp only [List.length_take, Option.getD_some, List.cons_append, List.nil_append]
  congr 2
  omega
theorem turnL_end (zs : List Zt) : turnL zs (zs.length - 1) = (zs.take (zs.length - 1)).reverse ++ zs.drop (zs.length - 1) := by
  unfold turnL
  rw [List.take_of_length_le (by simp)]
theorem turnL_wt (zs : List Zt) : wt (turnL zs (zs.length - 1)) = wt zs := by
  rw [turnL_end, wt_app, wt_rev, ← wt_app, List.take_append_drop]
theorem turnL_mem (zs : List Zt) (i : Nat) : ∀ z ∈ turnL zs i, z ∈ zs := by
  intro z hz
  rcases List.mem_append.1 hz with h | h
  · exact List.mem_of_mem_take (List.mem_reverse.1 (List.mem_of_mem_take h))
  · exact List.mem_of_mem_drop h
theorem getD_mem {zs : List Zt} {i : Nat} (h : i < zs.length) : zs.getD i noZ ∈ zs := by
  rw [List.getD_eq_getElem?_getD, List.getElem?_eq_getElem h]
  exact List.getElem_mem h
def Rng (z : Zt) : Prop := -9223372036854775808 ≤ z.2.2.1 ∧ z.2.2.1 ≤ 9223372036854775807
theorem own_lent {w : World} {base n : Nat} {p : Option Addr} {c : Nat} {xs : List Value} (h : w.ownsRow base 28 4 (.slice p n c) n xs) (hn : 0 < n) : ∃ g, p = some ⟨g, 0, none⟩ ∧ base ≤ g ∧ n ≤ c ∧ c ≤ maxLen := by
  rcases h.2 with ⟨e, h2⟩ | ⟨g, cap, cur, e, h1, h2, h3, h4, h5, h6⟩
  · omega
  · injection e with e1 e2 e3
    subst e3
    exact ⟨g, e1, h1, h3, h4⟩
theorem own_cells {w : World} {base n g : Nat} {c : Nat} {xs : List Value} (h : w.ownsRow base 28 4 (.slice (some ⟨g, 0, none⟩) n c) n xs) {i : Nat} (hi : i < n) : ∀ j, j < 4 → (∃ u, w.cell? ⟨g, i * 4 + j, none⟩ = some u) ∧ w.frozen? ⟨g, i * 4 + j, none⟩ = false := by
  rcases h.2 with ⟨e, h2⟩ | ⟨g', cap, cur, e, h1, h2, h3, h4, h5, h6⟩
  · cases e
  · injection e with e1 e2 e3
    injection e1 with e1
    injection e1 with e1
    subst e1
    intro j hj
    refine ⟨?_, frozen_in h2 _⟩
    rw [cell_in h2]
    exact ⟨_, Array.getElem?_eq_getElem (by omega)⟩
set_option maxHeartbeats 16000000 in
set_option maxRecDepth 1000000 in
theorem prints_any (p : Option Addr) (c n : Nat) (zs : List Zt) (hn : zs.length = n) (w : World) (hT : Tab w) (hP : Pw w) (hr : RdV w (.slice p n c) zs)
    (HB : Hid (Calls Tryz.prog 4 #[.slice p n c] w fun e w' => (e = .returned (.bool true) ∨ (e = .returned (.bool false) ∧ wt zs ≤ 268435456)) ∧ Bl w w')) (hi : ∀ z ∈ zs, Rng z) :
    Calls Tryz.prog 3 #[.slice p n c] w fun e w' => e = .returned (.bool true) ∧ Bl w w' := by
  have HRd : Hid (∀ V, Bl w V → RdV V (.slice p n c) zs) := mkHid fun V b => hr.frame (Fr.ofBl b []) (fun _ _ _ hm => by cases hm)
  have HK := mkHid (fun V (b : Bl w V) => known_ok V (hT.mono b))
  have HTw : Hid (∀ V, Bl w V → n ≤ 1099511627776 → Calls Tryz.prog 6 #[.slice p n c] V fun e w' => ∃ p' c', e = .returned (.slice p' n c') ∧ w'.ownsRow V.heap.size 28 4 (.slice p' n c') n (zcs zs) ∧ Bl V w') := mkHid fun V b hm => by
    have := twin_ok p c zs V (by rw [hn]; exact HRd.out V b) (by omega)
    rw [hn] at this
    exact this
  have HLg : Hid (∀ V p' c' base, V.ownsRow base 28 4 (.slice p' n c') n (zcs zs) → base ≤ V.heap.size → n ≤ 1099511627776 → Calls Tryz.prog 5 #[.slice p' n c', .int .i64 (-4)] V fun e w' => ∃ p2 c2, e = .returned (.slice p2 (n + 64) c2) ∧ Fz V w' base p' c' zs (List.replicate 64 (-4, [], 0, 0)) p2 c2) := mkHid fun V p' c' base ho hb hm => by
    have := longer_ok p' c' zs (-4) base V (by rw [hn]; exact ho) (by omega) hb
    rw [hn] at this
    exact this
  have HPd : Hid (∀ V g c' us, Bl w V → us.length = n → (∀ z ∈ us, Rng z) → wt us ≤ 268435456 → RdV V (.slice (some ⟨g, 0, none⟩) (n + 64) c') (us ++ List.replicate 64 (-4, [], 0, 0)) → n + 64 ≤ c' → c' ≤ maxLen → Calls Tryz.prog 7 #[.slice (some ⟨g, 0, none⟩) (n + 64) c', .int .i64 n] V fun e w' => e = .returned (.bool true) ∧ Bl V w') := mkHid fun V g c' us b hu hi hw hr h1 h2 =>
    printed_ok g c' n us hu V (hT.mono b) (hP.mono b) hr h1 h2 hw (fun i h => hi _ (getD_mem h))
  have HI := mkHid hi
  have hl := wt_len24 zs
  rw [hn] at hl
  have HL := mkHid hl
  have HZn := mkHid hn
  clear hT hP hr hi hl hn
  go_enter Tryz.func3, Tryz.ntmps3
  go_wp2_with (go_at_call 4; fail)
  go_at_call 4
  refine HB.out.mono ?_
  rintro e w1 ⟨rfl | ⟨rfl, hw⟩, b1⟩
  · go_wp2_with fail
    go_ret
    exact ⟨rfl, b1⟩
  · have hn28 : n ≤ 268435456 := by have := HL.out; omega
    have HW := mkHid hw
    have B1 := mkHid b1
    clear hw b1
    go_wp2_with (first
      | (go_at_call 6; refine (HTw.out _ B1.out (by omega)).mono ?_; rintro e w2 ⟨p2, c2, rfl, o2, b2⟩; have O2 := mkHid o2; have B2 := mkHid (B1.out.trans b2); have Y2 := mkHid b2.size; clear o2 b2)
      | (go_at_call 5; refine (HLg.out _ _ _ _ O2.out Y2.out (by omega)).mono ?_; rintro e w3 ⟨p3, c3, rfl, z3⟩
         have O3 : Hid (w3.ownsRow w.heap.size 28 4 (.slice p3 (n + 64) c3) (n + 64) (zcs (zs ++ List.replicate 64 (-4, [], 0, 0)))) := by
           have := z3.row
           rw [HZn.out, List.length_replicate] at this
           exact ownR_congr this (fun _ _ => rfl) B1.out.size
         have B3 : Hid (Bl w w3) := ((Fr.ofBl B2.out []).trans z3.fr (fun x hx => Or.inr (Nat.le_trans B1.out.size (own_lt O2.out x ((blk_own _ _ _ _).1 hx)).1))).bl (fun x hx => by cases hx)
         obtain ⟨g, rfl, hgb, hc1, hc2⟩ := own_lent O3.out (by omega)
         have HGB := mkHid hgb
         have HC1 := mkHid hc1
         have HC2 := mkHid hc2
         clear z3 hgb hc1 hc2)
      | (go_at_call 7; (fail_if_success (have hh := N1)); refine (HPd.out _ _ _ zs B3.out HZn.out HI.out HW.out (RdV.own (base := w.heap.size) (by rw [List.length_append, HZn.out, List.length_replicate]; exact O3.out)) HC1.out HC2.out).mono ?_; rintro e w4 ⟨rfl, b4⟩
         have O4 := mkHid (own_bl' O3.out b4)
         have B4 := mkHid (B3.out.trans b4)
         clear b4; have N1 := trivial))
    go_loopw [6] (fun q wr => ∃ i : Nat, i ≤ n - 1 ∧ q = .int .i64 i ∧ Hid (wr.ownsRow w.heap.size 28 4 (.slice (some ⟨g, 0, none⟩) (n + 64) c3) (n + 64) (zcs (turnL zs i ++ List.replicate 64 (-4, [], 0, 0)))) ∧ Hid (Bl w wr)) (fun q _ => n - (intOf q).toNat)
    case atStart => exact ⟨0, Nat.zero_le _, rfl, by rw [turnL_zero]; exact O4, B4⟩
    case round =>
      obtain ⟨i, hi1, rfl, ho, hb⟩ := hrel
      by_cases hlt : i + 1 < n
      · have hli : (i : Int) + 1 < n := by omega
        have hmi : (0 : Int) ≤ (n : Int) - 2 - i := by omega
        have hmn2 : (n : Int) - 2 - i < n := by omega
        have hin : (i : Int) < (n : Int) + 64 := by omega
        have hll : Hid ((turnL zs i).length = n) := mkHid (by rw [turnL_len zs i (by have := HZn.out; omega)]; exact HZn.out)
        have hLl : Hid ((turnL zs i ++ List.replicate 64 ((-4, [], 0, 0) : Zt)).length = n + 64) := mkHid (by rw [List.length_append, hll.out, List.length_replicate])
        obtain ⟨q, d, e, hq⟩ := (HRd.out wr hb.out).at_
        injection e with e1 e2 e3
        obtain ⟨b, off, e4, hbl, hc⟩ := hq (by omega)
        rw [← e1] at e4
        subst e4
        obtain ⟨x0, x1, x2, x3⟩ := hc (n - 2 - i) (by omega)
        rw [show (noY : Zt) = noZ from rfl] at x0 x1 x2 x3
        have hset : Hid ((turnL zs i ++ List.replicate 64 ((-4, [], 0, 0) : Zt)).set i (zs.getD (n - 2 - i) noZ) = turnL zs (i + 1) ++ List.replicate 64 (-4, [], 0, 0)) := mkHid (by
          rw [List.set_append_left _ _ (by rw [hll.out]; omega), ← HZn.out, turnL_set zs i (by rw [HZn.out]; exact hlt)])
        have HNw : Hid (∀ z : Zt, z = zs.getD (n - 2 - i) noZ → ((((wr.setCell ⟨g, i * 4, none⟩ (.int .i64 z.1)).setCell ⟨g, i * 4 + 1, none⟩ (.string (ba z.2.1))).setCell ⟨g, i * 4 + 2, none⟩ (.int .i64 z.2.2.1)).setCell ⟨g, i * 4 + 3, none⟩ (.int .i64 z.2.2.2)).ownsRow w.heap.size 28 4 (.slice (some ⟨g, 0, none⟩) (n + 64) c3) (n + 64) (zcs (turnL zs (i + 1) ++ List.replicate 64 (-4, [], 0, 0)))) := mkHid fun z hz => by
          have := own_set4 (w := wr) (base := w.heap.size) (g := g) (cap := c3) (zs := turnL zs i ++ List.replicate 64 ((-4, [], 0, 0) : Zt)) (by rw [hLl.out]; exact ho.out) i (by rw [hLl.out]; omega) z
          rw [hLl.out, hz, hset.out] at this
          rw [hz]
          exact this
        have HBw : Hid (∀ z : Zt, Bl w ((((wr.setCell ⟨g, i * 4, none⟩ (.int .i64 z.1)).setCell ⟨g, i * 4 + 1, none⟩ (.string (ba z.2.1))).setCell ⟨g, i * 4 + 2, none⟩ (.int .i64 z.2.2.1)).setCell ⟨g, i * 4 + 3, none⟩ (.int .i64 z.2.2.2))) := mkHid fun z =>
          set_bl (set_bl (set_bl (set_bl hb.out HGB.out _ _) HGB.out _ _) HGB.out _ _) HGB.out _ _
        have hcl := own_cells ho.out (i := i) (by omega)
        obtain ⟨⟨u0, y0⟩, f0⟩ := hcl 0 (by omega)
        obtain ⟨⟨u1, y1⟩, f1⟩ := hcl 1 (by omega)
        obtain ⟨⟨u2, y2⟩, f2⟩ := hcl 2 (by omega)
        obtain ⟨⟨u3, y3⟩, f3⟩ := hcl 3 (by omega)
        replace y0 : wr.cell? ⟨g, i * 4, none⟩ = some u0 := y0
        replace f0 : wr.frozen? ⟨g, i * 4, none⟩ = false := f0
        clear hcl hset hq hc e1 e2 e3 hll hLl
        generalize zs.getD (n - 2 - i) noZ = zi at *
        obtain ⟨k, x, mm, a⟩ := zi
        have HN2 := mkHid (HNw.out (k, x, mm, a) rfl)
        have HB2 := mkHid (HBw.out (k, x, mm, a))
        dsimp only at x0 x1 x2 x3 HN2 HB2
        clear HNw HBw
        go_wp2_with fail
        go_roundw
        case rel => exact ⟨i + 1, by omega, by simp, HN2, HB2⟩
        case measure => simp [intOf]; omega
      · have hli : ¬ (i : Int) + 1 < n := by omega
        have hie : i = n - 1 := by omega
        have HR5 : Hid (RdV wr (.slice (some ⟨g, 0, none⟩) (n + 64) c3) (turnL zs (zs.length - 1) ++ List.replicate 64 (-4, [], 0, 0))) := mkHid (RdV.own (base := w.heap.size) (by
          rw [List.length_append, turnL_len _ _ (Nat.le_refl _), HZn.out, List.length_replicate, ← hie]
          exact ho.out))
        clear hie
        go_wp2_with fail
        go_wp2_with (first
          | (go_at_call 7; refine (HPd.out _ _ _ (turnL zs (zs.length - 1)) hb.out (by rw [turnL_len _ _ (Nat.le_refl _)]; exact HZn.out) (fun z hz => HI.out z (turnL_mem zs _ z hz)) (by rw [turnL_wt]; exact HW.out) HR5.out HC1.out HC2.out).mono ?_; rintro e w6 ⟨rfl, b6⟩; have B6 := mkHid (hb.out.trans b6); clear b6)
          | (go_at_call 8; refine (HK.out _ B6.out).mono ?_; rintro e w7 ⟨rfl, b7⟩))
        go_ret
        exact ⟨rfl, B6.out.trans b7⟩
end Go.Proofs.YtimlomobbnnehaaGreatDoor
namespace Go.Proofs.YtimlomobbnnehaaGreatDoor
open Go.ChangeShapes Go.WideShapes Go.RowKit
set_option linter.unusedVariables false
theorem cells30 : Tryz.prog.cellsOf 28 = 4 := by kernel_rfl
theorem cells3 : Tryz.prog.cellsOf 3 = 1 := by kernel_rfl
theorem cells9 : Tryz.prog.cellsOf 9 = 1 := by kernel_rfl
theorem bytes30 : Tryz.prog.bytesOf 28 = 40 := by kernel_rfl
theorem weightsAll_mem {H : Type} {P : Program} {e : TypeId} {d : DataW H} : ∀ {ds : List (DataW H)}, d ∈ ds → ∀ n ∈ d.weights P e, n ∈ DataW.weightsAll P e ds := by
  intro ds
  induction ds with
  | nil => intro h; simp at h
  | cons x ds ih =>
    intro h n hn
    unfold DataW.weightsAll
    rcases List.mem_cons.1 h with rfl | h
    · exact List.mem_append_left _ hn
    · exact List.mem_append_right _ (ih h n hn)
section
variable {H : Type} {enc : TypeId × Value → H} {w : World} {spare : Nat → Bool} {held : Bool}
set_option maxRecDepth 20000 in
/-- a list of tokens, opened -/
theorem open_toks {fuel : Nat} {u : Value} {x : DataW H × List MemPlace} (h : DataW.trod enc Tryz.prog w 0 spare held fuel 22 [u] = some x) (hz : ∀ n ∈ x.1.weights Tryz.prog 22, n ≤ reachBytes) :
    ∃ zs : List Z, ((zs = [] ∧ ∃ p c, u = .slice p 0 c) ∨ (0 < zs.length ∧ ∃ g off c, u = .slice (some ⟨g, off, none⟩) zs.length c ∧ RdZ w g off zs ∧ zs.length ≤ c ∧ c ≤ maxLen)) ∧ zs.length ≤ 140737488355328 ∧ ∀ i, i < zs.length → (zs.getD i noZ).2.1.length ≤ 140737488355328 := by
  rcases Go.Deep.open_slice Tryz.underlying22 h with ⟨hcs, rfl⟩ | ⟨a, len, cap, m, n, D, Pl, hcs, hx0, hl, hm, hmm, rfl, hx⟩
  · simp at hcs
    exact ⟨[], Or.inl ⟨rfl, none, 0, hcs⟩, by simp, by simp⟩
  · simp at hcs
    by_cases h0 : len = 0
    · subst h0
      exact ⟨[], Or.inl ⟨rfl, some a, cap, hcs⟩, by simp, by simp⟩
    · have hlm : len ≤ m := by rw [hmm]; split <;> omega
      rw [cells30] at hx
      obtain ⟨b, off, spot⟩ := a
      have hspot : spot = none := by
        obtain ⟨cs', h1, h2⟩ := hx 0 (by omega)
        obtain ⟨_, hlen, hcell⟩ := World.cells?_some h1
        have := hcell 0 (by omega)
        rw [Go.Deep.add_add] at this
        match cs', hlen with
        | u :: _, _ => simpa [Addr.add] using World.cell?_spot this
      subst hspot
      have hstep : ∀ i, i < len → ∃ o : Z, w.cell? ⟨b, off + i * 4, none⟩ = some (.int .i64 o.1) ∧ w.cell? ⟨b, off + i * 4 + 1, none⟩ = some (.string (ba o.2.1)) ∧ w.cell? ⟨b, off + i * 4 + 2, none⟩ = some (.int .i64 o.2.2.1) ∧ w.cell? ⟨b, off + i * 4 + 3, none⟩ = some (.int .i64 o.2.2.2) ∧ o.2.1.length ≤ 140737488355328 := fun i hi => by
        obtain ⟨cs', h1, h2⟩ := hx i (by omega)
        obtain ⟨_, hlen, hcell⟩ := World.cells?_some h1
        obtain ⟨xs, k, hk, hxy, _, hxl, hf⟩ := DataW.trod_struct Tryz.underlying28 h2
        match xs, hxl, cs', hlen with
        | [y0, y1, y2, y3], _, [t0, t1, t2, t3], _ =>
          have g0 := hf 0 _ rfl
          have g1 := hf 1 _ rfl
          have g2 := hf 2 _ rfl
          have g3 := hf 3 _ rfl
          simp [cells3, cells9] at g0 g1 g2 g3
          obtain ⟨A, e0, -, -⟩ := DataW.trod_int Tryz.underlying3 g0
          obtain ⟨s, e1, hs, -⟩ := DataW.trod_string Tryz.underlying9 g1
          obtain ⟨C, e2, -, -⟩ := DataW.trod_int Tryz.underlying3 g2
          obtain ⟨E, e3, -, -⟩ := DataW.trod_int Tryz.underlying3 g3
          simp at e0 e1 e2 e3
          have hw := hz s.data.toList.length (by
            have hd : D i = .agg [y0.1, y1.1, y2.1, y3.1] := by simpa using congrArg Prod.fst hxy
            have h3 : s.data.toList.length ∈ (D i).weights Tryz.prog 28 := by
              rw [hd]
              simp only [DataW.weights, Tryz.underlying28]
              refine DataW.weights_mem_each (j := 1) (t := 9) (d := y1.1) rfl rfl _ ?_
              rw [hs]
              simp [DataW.weights]
            simp only [DataW.weights, Tryz.underlying22]
            refine List.mem_cons_of_mem _ (List.mem_append_left _ (weightsAll_mem (d := D i) ?_ _ h3))
            exact List.mem_map.2 ⟨i, List.mem_range.2 hi, rfl⟩)
          have m0 := hcell 0 (by omega)
          have m1 := hcell 1 (by omega)
          have m2 := hcell 2 (by omega)
          have m3 := hcell 3 (by omega)
          rw [Addr.add_mid, Addr.add_mid] at m0 m1 m2 m3
          simp at m0 m1 m2 m3
          subst e0 e1 e2 e3
          refine ⟨(A, lst s, C, E), m0, ?_, m2, m3, ?_⟩
          · rw [ba_lst]; exact m1
          · unfold reachBytes at hw; show s.data.toList.length ≤ _; omega
      obtain ⟨f, hf⟩ : ∃ f : Nat → Z, ∀ i, i < len → w.cell? ⟨b, off + i * 4, none⟩ = some (.int .i64 (f i).1) ∧ w.cell? ⟨b, off + i * 4 + 1, none⟩ = some (.string (ba (f i).2.1)) ∧ w.cell? ⟨b, off + i * 4 + 2, none⟩ = some (.int .i64 (f i).2.2.1) ∧ w.cell? ⟨b, off + i * 4 + 3, none⟩ = some (.int .i64 (f i).2.2.2) ∧ (f i).2.1.length ≤ 140737488355328 := by
        refine ⟨fun i => if hi : i < len then Classical.choose (hstep i hi) else noZ, fun i hi => ?_⟩
        simp only [dif_pos hi]
        exact Classical.choose_spec (hstep i hi)
      have hbl : b < w.heap.size := World.block_lt_of_cell? w ⟨b, off + 0 * 4, none⟩ (hf 0 (by omega)).1
      have hget : ∀ j, j < len → ((List.range len).map f).getD j noZ = f j := fun j hj => by
        rw [List.getD_eq_getElem?_getD, List.getElem?_map, List.getElem?_range hj]; rfl
      have hlen : ((List.range len).map f).length = len := by simp
      refine ⟨(List.range len).map f, Or.inr ⟨by omega, b, off, cap, by rw [hlen]; simpa using hcs, ⟨hbl, fun j hj => ?_⟩, by rw [hlen]; omega, by omega⟩, ?_, fun i hi => ?_⟩
      · rw [hlen] at hj
        rw [hget j hj]
        obtain ⟨a0, a1, a2, a3, _⟩ := hf j hj
        exact ⟨a0, a1, a2, a3⟩
      · rw [hlen]
        have hw := hz ((((List.range len).map D).length + ((List.range (m - len)).map fun j => D (len + j)).length) * Tryz.prog.bytesOf 28) (by simp only [DataW.weights, Tryz.underlying22]; exact List.mem_cons_self ..)
        rw [List.length_map, List.length_range, List.length_map, List.length_range, bytes30] at hw
        unfold reachBytes at hw
        have h5 : len * 40 ≤ (len + (m - len)) * 40 := Nat.mul_le_mul_right _ (by omega)
        omega
      · rw [hlen] at hi
        rw [hget i hi]
        exact (hf i hi).2.2.2.2
end
end Go.Proofs.YtimlomobbnnehaaGreatDoor

namespace Go.Proofs.YtimlomobbnnehaaGreatDoor
open Go.ChangeShapes Go.WideShapes Go.RowKit
set_option linter.unusedVariables false
set_option linter.unusedSimpArgs false
section
variable {H : Type} {enc : TypeId × Value → H} {w : World} {spare : Nat → Bool} {held : Bool}
set_option maxRecDepth 20000 in
/-- a list of tokens, opened -/
theorem open_toksN {fuel : Nat} {u : Value} {x : DataW H × List MemPlace} (h : DataW.trod enc Tryz.prog w 0 spare held fuel 22 [u] = some x) (hz : ∀ n ∈ x.1.weights Tryz.prog 22, n ≤ reachBytes) :
    ∃ zs : List Z, ((zs = [] ∧ ∃ p c, u = .slice p 0 c) ∨ (0 < zs.length ∧ ∃ g off c, u = .slice (some ⟨g, off, none⟩) zs.length c ∧ RdZ w g off zs ∧ zs.length ≤ c ∧ c ≤ maxLen)) ∧ zs.length ≤ 140737488355328 ∧ ∀ i, i < zs.length → (zs.getD i noZ).2.1.length ≤ 140737488355328 ∧ (-9223372036854775808 ≤ (zs.getD i noZ).2.2.1 ∧ (zs.getD i noZ).2.2.1 ≤ 9223372036854775807) := by
  rcases Go.Deep.open_slice Tryz.underlying22 h with ⟨hcs, rfl⟩ | ⟨a, len, cap, m, n, D, Pl, hcs, hx0, hl, hm, hmm, rfl, hx⟩
  · simp at hcs
    exact ⟨[], Or.inl ⟨rfl, none, 0, hcs⟩, by simp, by simp⟩
  · simp at hcs
    by_cases h0 : len = 0
    · subst h0
      exact ⟨[], Or.inl ⟨rfl, some a, cap, hcs⟩, by simp, by simp⟩
    · have hlm : len ≤ m := by rw [hmm]; split <;> omega
      rw [cells30] at hx
      obtain ⟨b, off, spot⟩ := a
      have hspot : spot = none := by
        obtain ⟨cs', h1, h2⟩ := hx 0 (by omega)
        obtain ⟨_, hlen, hcell⟩ := World.cells?_some h1
        have := hcell 0 (by omega)
        rw [Go.Deep.add_add] at this
        match cs', hlen with
        | u :: _, _ => simpa [Addr.add] using World.cell?_spot this
      subst hspot
      have hstep : ∀ i, i < len → ∃ o : Z, w.cell? ⟨b, off + i * 4, none⟩ = some (.int .i64 o.1) ∧ w.cell? ⟨b, off + i * 4 + 1, none⟩ = some (.string (ba o.2.1)) ∧ w.cell? ⟨b, off + i * 4 + 2, none⟩ = some (.int .i64 o.2.2.1) ∧ w.cell? ⟨b, off + i * 4 + 3, none⟩ = some (.int .i64 o.2.2.2) ∧ o.2.1.length ≤ 140737488355328 ∧ (-9223372036854775808 ≤ o.2.2.1 ∧ o.2.2.1 ≤ 9223372036854775807) := fun i hi => by
        obtain ⟨cs', h1, h2⟩ := hx i (by omega)
        obtain ⟨_, hlen, hcell⟩ := World.cells?_some h1
        obtain ⟨xs, k, hk, hxy, _, hxl, hf⟩ := DataW.trod_struct Tryz.underlying28 h2
        match xs, hxl, cs', hlen with
        | [y0, y1, y2, y3], _, [t0, t1, t2, t3], _ =>
          have g0 := hf 0 _ rfl
          have g1 := hf 1 _ rfl
          have g2 := hf 2 _ rfl
          have g3 := hf 3 _ rfl
          simp [cells3, cells9] at g0 g1 g2 g3
          obtain ⟨A, e0, -, -⟩ := DataW.trod_int Tryz.underlying3 g0
          obtain ⟨s, e1, hs, -⟩ := DataW.trod_string Tryz.underlying9 g1
          obtain ⟨C, e2, -, wfC⟩ := DataW.trod_int Tryz.underlying3 g2
          obtain ⟨E, e3, -, -⟩ := DataW.trod_int Tryz.underlying3 g3
          simp at e0 e1 e2 e3
          have hw := hz s.data.toList.length (by
            have hd : D i = .agg [y0.1, y1.1, y2.1, y3.1] := by simpa using congrArg Prod.fst hxy
            have h3 : s.data.toList.length ∈ (D i).weights Tryz.prog 28 := by
              rw [hd]
              simp only [DataW.weights, Tryz.underlying28]
              refine DataW.weights_mem_each (j := 1) (t := 9) (d := y1.1) rfl rfl _ ?_
              rw [hs]
              simp [DataW.weights]
            simp only [DataW.weights, Tryz.underlying22]
            refine List.mem_cons_of_mem _ (List.mem_append_left _ (weightsAll_mem (d := D i) ?_ _ h3))
            exact List.mem_map.2 ⟨i, List.mem_range.2 hi, rfl⟩)
          have m0 := hcell 0 (by omega)
          have m1 := hcell 1 (by omega)
          have m2 := hcell 2 (by omega)
          have m3 := hcell 3 (by omega)
          rw [Addr.add_mid, Addr.add_mid] at m0 m1 m2 m3
          simp at m0 m1 m2 m3
          subst e0 e1 e2 e3
          refine ⟨(A, lst s, C, E), m0, ?_, m2, m3, ?_, by simpa [Lit.wf, IntKind.min, IntKind.max, IntKind.signed, IntKind.bits] using wfC⟩
          · rw [ba_lst]; exact m1
          · unfold reachBytes at hw; show s.data.toList.length ≤ _; omega
      obtain ⟨f, hf⟩ : ∃ f : Nat → Z, ∀ i, i < len → w.cell? ⟨b, off + i * 4, none⟩ = some (.int .i64 (f i).1) ∧ w.cell? ⟨b, off + i * 4 + 1, none⟩ = some (.string (ba (f i).2.1)) ∧ w.cell? ⟨b, off + i * 4 + 2, none⟩ = some (.int .i64 (f i).2.2.1) ∧ w.cell? ⟨b, off + i * 4 + 3, none⟩ = some (.int .i64 (f i).2.2.2) ∧ (f i).2.1.length ≤ 140737488355328 ∧ (-9223372036854775808 ≤ (f i).2.2.1 ∧ (f i).2.2.1 ≤ 9223372036854775807) := by
        refine ⟨fun i => if hi : i < len then Classical.choose (hstep i hi) else noZ, fun i hi => ?_⟩
        simp only [dif_pos hi]
        exact Classical.choose_spec (hstep i hi)
      have hbl : b < w.heap.size := World.block_lt_of_cell? w ⟨b, off + 0 * 4, none⟩ (hf 0 (by omega)).1
      have hget : ∀ j, j < len → ((List.range len).map f).getD j noZ = f j := fun j hj => by
        rw [List.getD_eq_getElem?_getD, List.getElem?_map, List.getElem?_range hj]; rfl
      have hlen : ((List.range len).map f).length = len := by simp
      refine ⟨(List.range len).map f, Or.inr ⟨by omega, b, off, cap, by rw [hlen]; simpa using hcs, ⟨hbl, fun j hj => ?_⟩, by rw [hlen]; omega, by omega⟩, ?_, fun i hi => ?_⟩
      · rw [hlen] at hj
        rw [hget j hj]
        obtain ⟨a0, a1, a2, a3, _⟩ := hf j hj
        exact ⟨a0, a1, a2, a3⟩
      · rw [hlen]
        have hw := hz ((((List.range len).map D).length + ((List.range (m - len)).map fun j => D (len + j)).length) * Tryz.prog.bytesOf 28) (by simp only [DataW.weights, Tryz.underlying22]; exact List.mem_cons_self ..)
        rw [List.length_map, List.length_range, List.length_map, List.length_range, bytes30] at hw
        unfold reachBytes at hw
        have h5 : len * 40 ≤ (len + (m - len)) * 40 := Nat.mul_le_mul_right _ (by omega)
        omega
      · rw [hlen] at hi
        rw [hget i hi]
        exact (hf i hi).2.2.2.2
end
end Go.Proofs.YtimlomobbnnehaaGreatDoor

namespace Go.Proofs.YtimlomobbnnehaaGreatDoor
open Go.RowKit
set_option linter.unusedVariables false
theorem f75 : ∃ fa fb : Field, Tryz.prog.underlying 67 = some (.struct #[fa, fb]) ∧ fa.type = 3 ∧ fa.offset = 0 ∧ fb.type = 9 ∧ fb.offset = 1 := ⟨_, _, Tryz.underlying67, rfl, rfl, rfl, rfl⟩
theorem marks_datum : (Rows.laid_kiln_lex_marks : DataW Unit) = .agg (marksL.map fun x => .agg [.lit (.int .i64 x.1), .lit (.string x.2)]) := by kernel_rfl
/-- what the table of the marks holds, cell by cell -/
theorem marks_cells {w : World} {base : Nat} {spare : Nat → Bool} {held : Bool} {fuel : Nat} {cs : List Value} {p : List MemPlace} {enc : TypeId × Value → Unit}
    (hd : DataW.trod enc Tryz.prog w base spare held fuel 68 cs = some (Rows.laid_kiln_lex_marks, p)) : ∀ i, i < 11 → cs[i * 2]? = some (.int .i64 (kdAt i)) ∧ cs[i * 2 + 1]? = some (.string (ba (txAt i))) := by
  intro i hi
  rw [marks_datum] at hd
  have c75 : Tryz.prog.cellsOf 67 = 2 := by kernel_rfl
  have c3 : Tryz.prog.cellsOf 3 = 1 := by kernel_rfl
  have c9 : Tryz.prog.cellsOf 9 = 1 := by kernel_rfl
  obtain ⟨xs, m, _, hx, _, hn, hel⟩ := DataW.trod_array Tryz.underlying68 hd
  simp only [Prod.mk.injEq, DataW.agg.injEq] at hx
  have h := hel i hi
  rw [c75] at h
  have hxi : xs[i]? = some (xs[i]'(by omega)) := List.getElem?_eq_getElem (by omega)
  rw [hxi] at h
  generalize hxe : xs[i]'(by omega) = x at *
  have hm : (marksL.map fun x => DataW.agg (H := Unit) [.lit (.int .i64 x.1), .lit (.string x.2)])[i]? = some x.1 := by rw [hx.1, List.getElem?_map, hxi]; rfl
  have hml : marksL[i]? = some (kdAt i, txAt i) := by
    have hcase : i = 0 ∨ i = 1 ∨ i = 2 ∨ i = 3 ∨ i = 4 ∨ i = 5 ∨ i = 6 ∨ i = 7 ∨ i = 8 ∨ i = 9 ∨ i = 10 := by omega
    rcases hcase with rfl | rfl | rfl | rfl | rfl | rfl | rfl | rfl | rfl | rfl | rfl <;> rfl
  rw [List.getElem?_map, hml] at hm
  simp only [Option.map_some, Option.some.injEq] at hm
  obtain ⟨fa, fb, hs, a1, a2, a3, a4⟩ := f75
  obtain ⟨ys, n, _, hy, _, hyn, hfe⟩ := DataW.trod_struct hs h
  have g0 := hfe 0 fa rfl
  have g1 := hfe 1 fb rfl
  rw [a1, a2, c3] at g0
  rw [a3, a4, c9] at g1
  have hy0 : ys[0]? = some (ys[0]'(by rw [hyn]; exact Nat.zero_lt_succ _)) := List.getElem?_eq_getElem _
  have hy1 : ys[1]? = some (ys[1]'(by rw [hyn]; exact Nat.lt_succ_self _)) := List.getElem?_eq_getElem _
  rw [hy0] at g0
  rw [hy1] at g1
  obtain ⟨z, e1, e2, _⟩ := DataW.trod_int Tryz.underlying3 g0
  obtain ⟨s, e3, e4, _⟩ := DataW.trod_string Tryz.underlying9 g1
  rw [hy] at hm
  simp only [DataW.agg.injEq] at hm
  have k0 := congrArg (fun l => l[0]?) hm
  have k1 := congrArg (fun l => l[1]?) hm
  simp only [List.getElem?_map, hy0, hy1, Option.map_some, List.getElem?_cons_zero, List.getElem?_cons_succ, Option.some.injEq] at k0 k1
  rw [e2] at k0
  rw [e4] at k1
  simp only [DataW.lit.injEq, Lit.int.injEq, Lit.string.injEq, true_and] at k0 k1
  subst k0
  have hsb : s = ba (txAt i) := by rw [← ba_lst s]; unfold lst; rw [← k1]
  subst hsb
  constructor
  · have h5 := congrArg (fun l => l[0]?) e1
    simpa [List.getElem?_take, List.getElem?_drop] using h5
  · have h5 := congrArg (fun l => l[0]?) e3
    simpa [List.getElem?_take, List.getElem?_drop] using h5
theorem marksC_get : ∀ j v, marksC[j]? = some v → ∃ i, i < 11 ∧ ((j = i * 2 ∧ v = .int .i64 (kdAt i)) ∨ (j = i * 2 + 1 ∧ v = .string (ba (txAt i)))) := by
  intro j v h
  have hj : j < 22 := by
    by_cases hlt : j < 22
    · exact hlt
    · rw [List.getElem?_eq_none (by show 22 ≤ j; omega)] at h; cases h
  refine ⟨j / 2, by omega, ?_⟩
  have key : ∀ i, i < 11 → marksC[i * 2]? = some (.int .i64 (kdAt i)) ∧ marksC[i * 2 + 1]? = some (.string (ba (txAt i))) := by
    intro i hi
    have hcase : i = 0 ∨ i = 1 ∨ i = 2 ∨ i = 3 ∨ i = 4 ∨ i = 5 ∨ i = 6 ∨ i = 7 ∨ i = 8 ∨ i = 9 ∨ i = 10 := by omega
    rcases hcase with rfl | rfl | rfl | rfl | rfl | rfl | rfl | rfl | rfl | rfl | rfl <;> exact ⟨rfl, rfl⟩
  have k := key (j / 2) (by omega)
  by_cases h2 : j % 2 = 0
  · left
    have e : j = j / 2 * 2 := by omega
    refine ⟨e, ?_⟩
    rw [← e] at k
    rw [h] at k
    exact Option.some.inj k.1
  · right
    have e : j = j / 2 * 2 + 1 := by omega
    refine ⟨e, ?_⟩
    have k2 := k.2
    rw [← e, h] at k2
    exact Option.some.inj k2
end Go.Proofs.YtimlomobbnnehaaGreatDoor

