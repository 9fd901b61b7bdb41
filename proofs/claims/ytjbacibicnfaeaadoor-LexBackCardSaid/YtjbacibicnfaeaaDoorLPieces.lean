import Derived.Test.YtjbacibicnfaeaaDoorLPc
import Derived.Deep.DeepCutAuto
namespace Go.Proofs.YtjbacibicnfaeaaDoor
open Go.RowKit Go.Maps
set_option linter.unusedVariables false
set_option linter.unusedSimpArgs false
theorem zz_in {w W : World} (h : Bl (w.alloc (.cells #[.int .i64 0, .int .i64 0] 26)).drew W) : W.heap[w.heap.size]? = some (.cells #[.int .i64 0, .int .i64 0] 26 (0, 0)) := by
  have := h.block w.heap.size (by show w.heap.size < (w.heap.push _).size; simp)
  rw [this]
  exact heap_alloc_new w _
theorem tokens_w {s : ByteArray} {ts : List (Tok × Nat)} {c a : Nat} (hl : LexR (lst s) ts c a) (hs : s.size ≤ 140737488355328) (h0 : 0 < ts.length) (w : World) (hT : Tab w) : Calls Tryd.prog 10 #[.string s] w fun e w' =>
    ∃ g cap, e = .returned (.tuple #[.slice (some ⟨g, 0, none⟩) ts.length cap, .agg #[.int .i64 c, .int .i64 a]]) ∧ RdT w' (.slice (some ⟨g, 0, none⟩) ts.length cap) ts ∧ w.heap.size ≤ g ∧ ts.length ≤ cap ∧ cap ≤ maxLen ∧ Bl w w' := by
  refine (tokens_is hl hs w hT).mono ?_
  rintro e w' ⟨v, rfl, ho, hb⟩
  have hr := RdT.own ho
  rcases ho.2 with ⟨rfl, h2⟩ | ⟨g, cap, cur, rfl, h1, h2, h3, h4, h5, h6⟩
  · omega
  · exact ⟨g, cap, rfl, hr, h1, h3, h4, hb⟩
theorem RdT.set {w : World} {g n c B i : Nat} {v : Value} {ts : List (Tok × Nat)} (h : RdT w (.slice (some ⟨g, 0, none⟩) n c) ts) (hB : g ≠ B) : RdT (w.setCell ⟨B, i, none⟩ v) (.slice (some ⟨g, 0, none⟩) n c) ts := by
  obtain ⟨p, c', e, hp⟩ := h.at_
  refine ⟨p, c', e, fun h0 => ?_⟩
  obtain ⟨b, off, rfl, hb, hc⟩ := hp h0
  injection e with e1 e2 e3
  injection e1 with e1
  injection e1 with e4 e5
  subst e4
  refine ⟨g, off, rfl, by rw [size_set]; exact hb, fun j hj => ?_⟩
  have e : ∀ k, (w.setCell ⟨B, i, none⟩ v).cell? ⟨g, k, none⟩ = w.cell? ⟨g, k, none⟩ := fun k => World.cell?_of_block (w := w) (Below.heap_setCell _ _ _ _ hB)
  rw [e, e, e, e]
  exact hc j hj
set_option maxHeartbeats 8000000 in
set_option maxRecDepth 1000000 in
theorem pieces_any (s : ByteArray) (w : World) (hT : Tab w) (h1 : s.size ≤ 140737488355328) :
    Calls Tryd.prog 3 #[.string s] w fun e w' => e = .returned (.bool true) ∧ Bl w w' := by
  obtain ⟨ta, ca, aa, hla, hza⟩ := LexR.total (lst s)
  have HK := mkHid (fun W hW => known_ok W hW)
  have HA := mkHid (fun W hW => tokens_v hla h1 W hW)
  by_cases ca0 : ca = 0
  · subst ca0
    obtain ⟨rfl, hl4, us, hua, rfl⟩ := hla.good
    have hah := hua.ahead
    have hpc := fun i (hi : i < us.length) => hua.piece hi
    have ela : (us ++ [(stopT, (lst s).length)]).length = us.length + 1 := by simp
    have elast := getD_last us (stopT, (lst s).length)
    rw [ela] at HA
    have hul := hua.places.2.1
    rw [lst_len] at hul hl4 hah
    obtain ⟨ta, hta⟩ : ∃ ta, ta = us ++ [(stopT, (lst s).length)] := ⟨_, rfl⟩
    have hta2 : us ++ [(stopT, s.size)] = ta := by rw [hta, lst_len]
    rw [← hta] at HA elast
    rw [hta2] at hah
    simp only [← hta] at hpc
    have elt : ta.length = us.length + 1 := by rw [hta]; simp
    clear hza hla hua hta hta2 ela
    generalize us.length = n at *
    -- ahead of the first
    obtain ⟨p0, hp0'⟩ : ∃ p0, p0 = (ta.getD 0 noT).2 := ⟨_, rfl⟩
    rw [← hp0'] at hah
    have hp0 := mkHid hp0'
    clear hp0'
    have hp0l : (p0 : Int) ≤ s.size := by omega
    have hlb : LexR (lst (s.extract 0 p0)) [(stopT, p0)] 0 0 := by
      have e1 : lst (s.extract 0 p0) = (lst s).take p0 := by rw [lst_mid]; simp
      have e2 : ((lst s).take p0).length = p0 := by simp [lst_len]; omega
      have := LexR.mk (l := lst (s.extract 0 p0)) (us := []) (by rw [e1, e2]; omega) (by rw [e1]; exact hah.1)
      rw [e1, e2] at this
      rw [e1]
      exact this
    have HB := mkHid (fun W hW => tokens_v hlb (by rw [← lst_len, lst_mid]; simp [lst_len]; omega) W hW)
    have HP := mkHid hpc
    clear hlb hpc hah
    go_enter Tryd.func3, Tryd.ntmps3
    go_wp2_with (first
      | (go_at_call 9; refine (HK.out _ hT).mono ?_; rintro e w1 ⟨rfl, b1⟩)
      | (go_at_call 10; have hh := M1; refine (HB.out _ (hT.mono ((b1.trans b2).trans (Bl.alloc _ _)))).mono ?_; rintro e w3 ⟨pb, kb, rfl, rb, qb, nb, mb, b3⟩
         have B3 := mkHid (((b1.trans b2).trans (Bl.alloc _ _)).trans b3))
      | (go_at_call 10; (fail_if_success (have hh := M1)); refine (HA.out _ (hT.mono b1)).mono ?_; rintro e w2 ⟨pa, ka, rfl, ra, qa, na, ma, b2⟩
         obtain ⟨g, rfl⟩ := qa (by omega)
         have hg := ra.lt (by omega)
         have x1 := (ra.cells n (by omega)).1
         have x2 := (ra.cells n (by omega)).2.2.2
         have x3 := (ra.cells 0 (by omega)).2.2.2
         rw [elast] at x1 x2
         rw [← hp0.out] at x3
         have x4 : w2.cell? ⟨g, 3, none⟩ = some (.int .i64 p0) := by simpa using x3
         have x5 : w2.cell? ⟨g, n * 4 + 3, none⟩ = some (.int .i64 s.size) := by rw [x2, lst_len]
         clear x2 x3
         have M1 := trivial))
    obtain ⟨W0, hW0⟩ : ∃ W0, W0 = w3.alloc (.cells #[.int .i64 0, .int .i64 0] 26) := ⟨_, rfl⟩
    have B0 : Hid (Bl w W0) := by rw [hW0]; exact B3.out.trans (Bl.alloc _ _)
    have rW : Hid (RdT W0 (.slice (some ⟨g, 0, none⟩) (n + 1) ka) ta) := by rw [hW0]; exact ra.keep (((Bl.alloc _ _).trans b3).trans (Bl.alloc _ _))
    rw [← hW0]
    clear hW0 HA HB HK x1 x4 x5 b1 b2 b3 ra rb qa qb B3
    have hkm : ka ≤ 9223372036854775807 := ma
    go_loopw [9] (fun q wr => ∃ i : Nat, i ≤ n ∧ q = .int .i64 i ∧ Hid (Bl W0 wr)) (fun q _ => n - (intOf q).toNat)
    case atStart => exact ⟨0, Nat.zero_le _, rfl, Bl.refl _⟩
    case round =>
      obtain ⟨i, hi, rfl, hbl⟩ := hrel
      by_cases hin : i < n
      · have hii : (i : Int) < n := by omega
        obtain ⟨hp1, hp2, hp3⟩ := HP.out i hin
        rw [lst_len] at hp2
        have rI := mkHid (rW.out.keep hbl.out)
        have y1 := (rI.out.cells i (by omega)).2.2.2
        have y2 := (rI.out.cells (i + 1) (by omega)).2.2.2
        have HT : Hid (∀ V, Bl wr V → Tab V) := mkHid fun V b => hT.mono ((B0.out.trans hbl.out).trans b)
        obtain ⟨t, ht⟩ : ∃ t, t = (ta.getD i noT).1 := ⟨_, rfl⟩
        rw [← ht] at hp3
        have HTi := mkHid ht
        clear ht
        generalize hpe' : (ta.getD i noT).2 = p at *
        generalize hqe' : (ta.getD (i + 1) noT).2 = q at *
        have hpe := mkHid hpe'
        have hqe := mkHid hqe'
        clear hpe' hqe'
        have hgw := rI.out.lt (by omega)
        have e1 : lst (s.extract p q) = ((lst s).drop p).take (q - p) := lst_mid s p q
        have e2 : (s.extract p q).size = q - p := by rw [← lst_len, e1, List.length_take, List.length_drop, lst_len]; omega
        have hlr : LexR (lst (s.extract p q)) [(t, 0), (stopT, (lst (s.extract p q)).length)] 0 0 := LexR.mk (l := lst (s.extract p q)) (us := [(t, 0)]) (by rw [lst_len]; omega) (by rw [e1]; exact hp3)
        have HC := mkHid (fun V (hV : Bl wr V) => tokens_w hlr (by omega) (by simp) V (HT.out V hV))
        have hsl : ∀ W, (Instr.slice 9 (.string s) (some (.int .i64 (p : Int))) (some (.int .i64 (q : Int))) none).run Tryd.prog W = .ok (.string (s.extract p q)) W := fun W => by
          have h5 := run_slice_string (P := Tryd.prog) W 9 s .i64 .i64 (p : Int) (q : Int) Tryd.underlying9 (by omega) (by omega) (by omega)
          rw [h5]
          rfl
        have d1 : decide ((p : Int) < 0) = false := decide_eq_false (by omega)
        have d2 : decide ((q : Int) ≤ (p : Int)) = false := decide_eq_false (by omega)
        have d3 : decide ((s.size : Int) < (q : Int)) = false := decide_eq_false (by omega)
        have d4 : decide (q ≤ p) = false := decide_eq_false (by omega)
        have d5 : decide (s.size < q) = false := decide_eq_false (by omega)
        have v1 : IntKind.i64.wrap ((i : Int) + 1) = (i : Int) + 1 := wrap_id _ (by omega) (by omega)
        have hi1 : (i : Int) + 1 < (n : Int) + 1 := by omega
        have hi0 : (i : Int) < (n : Int) + 1 := by omega
        have h01 : (0 : Int) ≤ (i : Int) + 1 := by omega
        have hnt : ((i : Int) + 1).toNat = i + 1 := by omega
        clear hlr hp3 e1
        go_wp2_with fail
        go_quiet (fail)
        go_wp2_with fail
        obtain ⟨W1, hW1⟩ : ∃ W1 : World, W1 = wr.drewN nq := ⟨_, rfl⟩
        have b01 : Hid (Bl wr W1) := by rw [hW1]; exact Bl.drewN _ _
        rw [← hW1]
        clear hW1
        have r1 := mkHid (rI.out.keep b01.out)
        have y3 := (r1.out.cells i (by omega)).2.2.2
        have y4 := (r1.out.cells (i + 1) (by omega)).2.2.2
        rw [hpe.out] at y3
        rw [hqe.out] at y4
        have hg1 := r1.out.lt (by omega)
        clear y1 y2
        go_cut [10, 11] (fun v f V => ∃ g2 cap B, v = .slice (some ⟨g2, 0, none⟩) 2 cap ∧ f = .pointer (some ⟨B, 0, none⟩) ∧ Hid (V.heap[B]? = some (.cells #[.int .i64 0, .int .i64 0] 26 (0, 0)) ∧ RdT V (.slice (some ⟨g2, 0, none⟩) 2 cap) [(t, 0), (stopT, (lst (s.extract p q)).length)] ∧ 2 ≤ cap ∧ cap ≤ maxLen ∧ Bl W1 V))
        case first =>
          go_region_with (first
            | (go_at_call 10; refine (HC.out _ (b01.out.trans ((Bl.alloc W1 _).trans (Bl.drew _)))).mono ?_; rintro e w5 ⟨g5, k5, rfl, r5, q5, n5, m5, b5⟩; have hz := zz_in b5
               have c0 : w5.cell? ⟨W1.heap.size, 0, none⟩ = some (.int .i64 0) := by rw [cell_in hz]; rfl
               have c1 : w5.cell? ⟨W1.heap.size, 1, none⟩ = some (.int .i64 0) := by rw [cell_in hz]; rfl
               have f0 := frozen_in hz 0
               have f1 := frozen_in hz 1)
            | (go_at_call 10; refine (HC.out _ (b01.out.trans (Bl.drew _))).mono ?_; rintro e w5 ⟨g5, k5, rfl, r5, q5, n5, m5, b5⟩))
          all_goals go_wp2_with fail
          all_goals
            go_meet
            case rel =>
              first
                | exact ⟨g5, k5, W1.heap.size, rfl, rfl, (by rw [set_in (set_in hz 0 _) 1 _]; rfl), (r5.set (by have h9 : (W1.heap.push (.cells #[.int .i64 0, .int .i64 0] 26)).size ≤ g5 := q5; simp at h9; omega)).set (by have h9 : (W1.heap.push (.cells #[.int .i64 0, .int .i64 0] 26)).size ≤ g5 := q5; simp at h9; omega), n5, m5, set_bl (set_bl (((Bl.alloc W1 _).trans (Bl.drew _)).trans b5) (Nat.le_refl _) 0 _) (Nat.le_refl _) 1 _⟩
                | exact ⟨g5, k5, w5.heap.size, rfl, rfl, heap_alloc_new _ _, r5.keep (Bl.alloc _ _), n5, m5, ((Bl.drew _).trans b5).trans (Bl.alloc _ _)⟩
        case rest =>
          obtain ⟨g2, cap, B, rfl, rfl, hq⟩ := hcut
          obtain ⟨V, hV⟩ : ∃ V, V = wc := ⟨_, rfl⟩
          subst hV
          obtain ⟨q1, q2, q3, q4, q5⟩ := hq.out
          have x0 : V.cell? ⟨B, 0, none⟩ = some (.int .i64 0) := by rw [cell_in q1]; rfl
          have x3 : V.cell? ⟨g2, 3, none⟩ = some (.int .i64 0) := by simpa using (q2.cells 0 (by simp)).2.2.2
          have rV := r1.out.keep q5
          have hcm : cap ≤ 9223372036854775807 := q4
          have hc1 : (1 : Int) ≤ cap := by omega
          have hc2 : (i : Int) + 1 ≤ ka := by omega
          have hc3 : (i : Int) ≤ (i : Int) + 1 := by omega
          have HS : Hid (∀ k x y z, (x = .slice (some ⟨g2, 0, none⟩) 1 cap ∧ y = .slice (some ⟨g, i * 4, none⟩) 1 (ka - i) ∧ z = .bool false) → Calls Tryd.prog 11 #[x, y, z] (V.drewN k) fun e w' => e = .returned (.bool true) ∧ ∃ z, w' = V.drewN z) := mkHid fun k x y z h => by
            obtain ⟨rfl, rfl, rfl⟩ := h
            have ra := RdT.part (p := none) (i := 0) (k := 1) (c' := cap) (q2.keep (Bl.drewN _ k)) (by simp)
            have rb := RdT.part (p := none) (i := i) (k := 1) (c' := ka - i) (rV.keep (Bl.drewN _ k)) (by omega)
            rw [Nat.zero_add] at rb
            have ag : AgreeT false (([(t, 0), (stopT, (lst (s.extract p q)).length)].drop 0).take 1) ((ta.drop i).take 1) := by
              refine ⟨by simp; omega, fun j hj => ⟨?_, fun h => by cases h⟩⟩
              have hj0 : j = 0 := by simp at hj; omega
              subst hj0
              rw [List.getD_eq_getElem?_getD, List.getElem?_take, if_pos (by omega), List.getElem?_drop, Nat.add_zero, ← List.getD_eq_getElem?_getD, ← HTi.out]
              rfl
            refine (same_q _ _ _ _ false _ (by simpa using ra) rb ag (by simp)).mono ?_
            rintro e w' ⟨rfl, kk, rfl⟩
            exact ⟨rfl, k + kk, by simp [World.drewN, Nat.add_assoc]⟩
          have HB5 := mkHid (hbl.out.trans (b01.out.trans q5))
          clear q1 q2 q5 rV hq y3 y4 HC HT
          go_wp2_with fail
          go_quiet ((go_at_call 11; exact HS.out _ _ _ _ ⟨rfl, rfl, rfl⟩))
          go_wp2_with fail
          go_roundw
          case rel => exact ⟨i + 1, by omega, by simp, HB5.out.trans (Bl.drewN _ _)⟩
          case measure => simp [intOf]; omega
      · have hie : i = n := by omega
        subst hie
        go_wp2_with fail
        go_wp2_with fail
        go_ret
        exact ⟨rfl, B0.out.trans hbl.out⟩
  · obtain ⟨rfl, hca⟩ : ta = [] ∧ ca ≠ 0 := by rcases hza with h | h; exact absurd h ca0; exact h
    have cai : ¬ (ca : Int) = 0 := by omega
    clear hza hla
    go_enter Tryd.func3, Tryd.ntmps3
    go_wp2_with (first
      | (go_at_call 9; refine (HK.out _ hT).mono ?_; rintro e w1 ⟨rfl, b1⟩)
      | (go_at_call 10; refine (HA.out _ (hT.mono b1)).mono ?_; rintro e w2 ⟨pa, ka, rfl, ra, qa, na, ma, b2⟩))
    go_ret
    exact ⟨rfl, (b1.trans b2).trans (Bl.alloc _ _)⟩
end Go.Proofs.YtjbacibicnfaeaaDoor
