import Derived.Test.YtblbjgifhgfifaaPG22QUnd
import Derived.BigRegion
namespace Go.Proofs.Ytblbjgifhgfifaa
open Go.RowKit
set_option linter.unusedVariables false
set_option linter.unusedSimpArgs false
set_option maxRecDepth 20000 in
set_option maxHeartbeats 4000000 in
theorem families_ok (up : Nat → Option Nat) (n : Nat) (hup : ∀ c d, up c = some d → d < c) (hn : n ≤ 1048576) (pc : Option Addr) (nc cc : Nat) (pa : Option Addr) (na ca : Nat) (bf : Addr) (w : World) (ha : RdI w (.slice pa na ca) (ups up n)) :
    Calls Try.prog 59 #[.agg #[.slice pc nc cc, .slice pa na ca, .func (.func 58) #[] #[.pointer (some bf)]]] w fun e w' => ∃ go gs f, e = .returned (.tuple #[.slice (some ⟨go, 0, none⟩) n n, .slice (some ⟨gs, 0, none⟩) n n]) ∧ Row w' go n f ∧ Row w' gs n (fun c => (szN up n c : Int)) ∧ (∀ c, c < n → f (pN up (szN up n) c) = c) ∧ Fr [] w w' := by
  obtain rfl : na = n := by obtain ⟨p', c', e, _⟩ := ha.at_; injection e with _ e _; rw [ups_len] at e; exact e
  have HA := mkHid ha
  have HUP := mkHid hup
  have hmk := make_ints na (by omega)
  have hmk1 : ∀ W : World, (Instr.makeSlice 34 (.int .i64 ((na : Int) + 1)) (.int .i64 ((na : Int) + 1))).run Try.prog W = .ok (.slice (some ⟨W.heap.size, 0, none⟩) (na + 1) (na + 1)) (W.alloc (.cells (zerosI (na + 1)).toArray 3)) := fun W => by
    have := make_ints (na + 1) (by omega) W
    rwa [show ((na + 1 : Nat) : Int) = (na : Int) + 1 by omega] at this
  have h0 : (w.alloc (.cells #[.slice pc nc cc, .slice pa na ca, .func (.func 58) #[] #[.pointer (some bf)]] 64)).heap.size = w.heap.size + 1 := by simp
  clear ha hup
  go_enter Try.func59, Try.ntmps59
  go_wp2_with fail
  go_loopw [4] (fun q wr => ∃ (k : Nat) (z : Int), k ≤ na ∧ q = .int .i64 z ∧ Hid (z = (na : Int) - 1 - k) ∧ Hid (wr.heap[w.heap.size]? = some (.cells #[.slice pc nc cc, .slice pa na ca, .func (.func 58) #[] #[.pointer (some bf)]] 64 (0, 0))) ∧ Hid (Row wr (w.heap.size + 1) na (fun c => (szT up na k c : Int))) ∧ Hid (Fr [] w wr)) (fun q _ => (intOf q + 1).toNat)
  case atStart =>
    refine ⟨0, (na : Int) - 1, Nat.zero_le _, by go_num, mkHid (by simp), mkHid ?_, mkHid ?_, mkHid ?_⟩
    · exact (Below.heap_alloc _ _ _ (by simp)).trans (heap_alloc_new w _)
    · have := row_new (w.alloc (.cells #[.slice pc nc cc, .slice pa na ca, .func (.func 58) #[] #[.pointer (some bf)]] 64)) na
      rw [h0] at this
      exact this
    · exact (Fr.alloc [] w _).trans (Fr.alloc [] _ _) (by simp)
  case round =>
    obtain ⟨k, z, hk, rfl, hz, hbx, hrw, hfr⟩ := hrel
    have HC : Hid (∀ W : World, W.heap[w.heap.size]? = some (.cells #[.slice pc nc cc, .slice pa na ca, .func (.func 58) #[] #[.pointer (some bf)]] 64 (0, 0)) → W.cell? ⟨w.heap.size, 1, none⟩ = some (.slice pa na ca)) := mkHid (fun W h => by rw [cell_in h]; rfl)
    have c1 := HC.out _ hbx.out
    by_cases hlt : k < na
    · obtain ⟨m, hm⟩ : ∃ m, na - 1 - k = m := ⟨_, rfl⟩
      have hzm : z = (m : Int) := by have := hz.out; omega
      have hmn : m < na := by omega
      subst hzm
      have m0 : (0 : Int) ≤ (m : Int) := by omega
      have m1 : (m : Int) < (na : Int) := by omega
      have d1 := hrw.out.cell hmn
      have d2 := hrw.out.frozen m
      have hx := szT_le HUP.out k (by omega) m (by omega)
      have HS : Hid (∀ c, szT up na (k + 1) c = szS up m (szT up na k) c) := mkHid (fun c => by show szS up (na - 1 - k) (szT up na k) c = _; rw [hm])
      obtain ⟨ga, oa, rfl, x1, x2⟩ := HA.out.cells (i := m) (by rw [ups_len]; exact hmn)
      rw [ups_at up hmn] at x2
      obtain ⟨W1, hW1⟩ : ∃ W, wr.setCell ⟨w.heap.size + 1, m, none⟩ (.int .i64 ((szT up na k m : Int) + 1)) = W := ⟨_, rfl⟩
      have HR1 : Hid (Row W1 (w.heap.size + 1) na (fun j => if j = m then (szT up na k m : Int) + 1 else (szT up na k j : Int))) := mkHid (hW1 ▸ hrw.out.set m _)
      have HF1 : Hid (Fr [] w W1) := mkHid (hW1 ▸ hfr.out.trans (Fr.setCell (S := [w.heap.size + 1]) wr ⟨w.heap.size + 1, m, none⟩ _ (by simp)) (by simp))
      have HB1 : Hid (W1.heap[w.heap.size]? = some (.cells #[.slice pc nc cc, .slice (some ⟨ga, oa, none⟩) na ca, .func (.func 58) #[] #[.pointer (some bf)]] 64 (0, 0))) := mkHid (by rw [← hW1]; exact (Below.heap_setCell _ _ _ _ (by simp)).trans hbx.out)
      have c2 := HC.out _ HB1.out
      have x3 := (HF1.out.cell (p := ⟨ga, oa + m, none⟩) x1 (by simp)).trans x2
      cases hu : up m with
      | none =>
        rw [hu] at x3
        rw [show zO none = -1 from rfl] at x3
        have HN : Hid (Row W1 (w.heap.size + 1) na (fun c => (szT up na (k + 1) c : Int))) := mkHid (HR1.out.eqf (fun j hj => by
          rw [HS.out]
          unfold szS
          by_cases e : j = m
          · rw [if_pos e, if_pos e]; rfl
          · rw [if_neg e, if_neg e, hu, if_neg (by simp)]))
        clear x1 x2 hu hz HS HR1 HC hrw hbx hfr HA HUP
        generalize szT up na k m = x at *
        go_wp2_with fail
        go_roundw
        case rel => exact ⟨k + 1, (m : Int) - 1, by omega, by go_num, mkHid (by omega), HB1, HN, HF1⟩
        case measure => simp [intOf]; try omega
      | some u =>
        rw [hu] at x3
        rw [show zO (some u) = (u : Int) from rfl] at x3
        have hum := HUP.out m u hu
        have u0 : (0 : Int) ≤ (u : Int) := by omega
        have u1 : (u : Int) < (na : Int) := by omega
        have hy := szT_le HUP.out k (by omega) u (by omega)
        have e1 := HR1.out.cell (i := m) hmn
        have e2 := HR1.out.cell (i := u) (by omega)
        have e3 := HR1.out.frozen u
        rw [if_pos rfl] at e1
        rw [if_neg (by omega)] at e2
        obtain ⟨W2, hW2⟩ : ∃ W, W1.drew.setCell ⟨w.heap.size + 1, u, none⟩ (.int .i64 ((szT up na k u : Int) + ((szT up na k m : Int) + 1))) = W := ⟨_, rfl⟩
        have HF2 : Hid (Fr [] w W2) := mkHid (hW2 ▸ ((HF1.out.trans (Fr.drew [] _) (by simp)).trans (Fr.setCell (S := [w.heap.size + 1]) W1.drew ⟨w.heap.size + 1, u, none⟩ _ (by simp)) (by simp)))
        have HB2 : Hid (W2.heap[w.heap.size]? = some (.cells #[.slice pc nc cc, .slice (some ⟨ga, oa, none⟩) na ca, .func (.func 58) #[] #[.pointer (some bf)]] 64 (0, 0))) := mkHid (by rw [← hW2]; exact (Below.heap_setCell _ _ _ _ (by simp)).trans HB1.out)
        have HN : Hid (Row W2 (w.heap.size + 1) na (fun c => (szT up na (k + 1) c : Int))) := mkHid (hW2 ▸ ((HR1.out.keep (Fr.drew [] _) (by simp)).set u _).eqf (fun j hj => by
          rw [HS.out]
          unfold szS
          by_cases e : j = m
          · subst e; rw [if_neg (by omega), if_pos rfl, if_pos rfl]; rfl
          · rw [if_neg e, hu]
            by_cases e5 : j = u
            · subst e5; rw [if_pos rfl, if_neg e, if_pos rfl]; omega
            · rw [if_neg e5, if_neg e, if_neg (by simpa using fun x => e5 x.symm)]))
        clear x1 x2 hu hz HS HR1 HC hrw hbx hfr HA HUP
        generalize szT up na k m = x at *
        generalize szT up na k u = y at *
        go_wp2_with fail
        go_region
        go_wp2_with fail
        go_roundw
        case rel => exact ⟨k + 1, (m : Int) - 1, by omega, by go_num, mkHid (by omega), HB2, HN, HF2⟩
        case measure => simp [intOf]; try omega
    · have hke : k = na := by omega
      subst hke
      have hzm : z = -1 := by have := hz.out; omega
      subst hzm
      have HSz : Hid (Row wr (w.heap.size + 1) k (fun c => (szN up k c : Int))) := mkHid hrw.out
      have HL : Hid (w.heap.size + 1 < wr.heap.size) := mkHid hrw.out.lt
      obtain ⟨W1, hW1⟩ : ∃ W, wr.alloc (.cells (zerosI k).toArray 3) = W := ⟨_, rfl⟩
      obtain ⟨W2, hW2⟩ : ∃ W, W1.alloc (.cells (zerosI (k + 1)).toArray 3) = W := ⟨_, rfl⟩
      have hs1 : W1.heap.size = wr.heap.size + 1 := by rw [← hW1]; simp
      have F1 : Fr [] wr W1 := hW1 ▸ Fr.alloc [] _ _
      have F2 : Fr [] W1 W2 := hW2 ▸ Fr.alloc [] _ _
      have b1 := (F1.block w.heap.size (lt_of_heap hbx.out) (by simp)).trans hbx.out
      have b2 := (F2.block w.heap.size (lt_of_heap b1) (by simp)).trans b1
      have c2 := HC.out _ b1
      have c3 := HC.out _ b2
      have HFr : Hid (Fr [] w W2) := mkHid ((hfr.out.trans F1 (by simp)).trans F2 (by simp))
      have HRo : Hid (Row W2 wr.heap.size k (fun _ => 0)) := mkHid ((show Row W1 wr.heap.size k (fun _ => 0) from hW1 ▸ row_new wr k).keep F2 (by simp))
      have HRn : Hid (Row W2 (wr.heap.size + 1) (k + 1) (fun _ => 0)) := mkHid (by have := row_new W1 (k + 1); rw [hs1, hW2] at this; exact this)
      have HRs : Hid (Row W2 (w.heap.size + 1) k (fun c => (szN up k c : Int))) := mkHid ((HSz.out.keep F1 (by simp)).keep F2 (by simp))
      have HB2 := mkHid b2
      have hWs : Hid (wr.alloc (.cells (zerosI k).toArray 3) = W1) := mkHid hW1
      generalize hG : wr.heap.size = G at *
      clear hrw F1 F2 b1 b2 hlt hk hz h0 HSz hbx hfr
      go_wp2_with fail
      clear hWs hG hW1 hW2 hs1
      have HUP2 := HUP
      go_loopw [57] (fun q wq => ∃ (j : Nat) (fo : Nat → Int), j ≤ k ∧ q = .int .i64 j ∧ Hid (Row wq G k fo) ∧ Hid (Row wq (G + 1) (k + 1) (fun i => (nxT up (szN up k) j (oi i) : Int))) ∧ Hid (Row wq (w.heap.size + 1) k (fun c => (szN up k c : Int))) ∧ Hid (∀ c, c < j → fo (pN up (szN up k) c) = c) ∧ Hid (Fr [] w wq)) (fun q _ => k - (intOf q).toNat)
      case atStart => exact ⟨0, fun _ => 0, Nat.zero_le _, rfl, HRo, HRn, HRs, mkHid (fun c hc => absurd hc (Nat.not_lt_zero _)), HFr⟩
      case round =>
        obtain ⟨j, fo, hj, rfl, hro, hrn, hrs, hfo, hfr⟩ := hrel
        have j0 : (0 : Int) ≤ (j : Int) := by omega
        by_cases hlt : j < k
        · have j1 : (j : Int) < (k : Int) := by omega
          obtain ⟨ga, oa, rfl, x1, x2⟩ := HA.out.cells (i := j) (by rw [ups_len]; exact hlt)
          rw [ups_at up hlt, zO_io] at x2
          have x3 := (hfr.out.cell (p := ⟨ga, oa + j, none⟩) x1 (by simp)).trans x2
          have hpj := in_all HUP.out hlt
          have hsp := szN_pos HUP.out j hlt
          have hiu : io (up j) ≤ j := by
            cases hu : up j with
            | none => exact Nat.zero_le _
            | some u => have := HUP.out j u hu; show u + 1 ≤ j; omega
          have n1 := hrn.out.cell (i := io (up j)) (by omega)
          rw [oi_io] at n1
          rw [show nxT up (szN up k) j (up j) = pN up (szN up k) j from rfl] at n1
          have n2 := hro.out.frozen (pN up (szN up k) j)
          have n3 := hro.out.cell (i := pN up (szN up k) j) (by omega)
          have n4 := hrs.out.cell (i := j) hlt
          obtain ⟨V1, hV1⟩ : ∃ W, wr.setCell ⟨G, pN up (szN up k) j, none⟩ (.int .i64 (j : Int)) = W := ⟨_, rfl⟩
          obtain ⟨V2, hV2⟩ : ∃ W, V1.setCell ⟨G + 1, j + 1, none⟩ (.int .i64 ((pN up (szN up k) j : Int) + 1)) = W := ⟨_, rfl⟩
          obtain ⟨V3, hV3⟩ : ∃ W, V2.setCell ⟨G + 1, io (up j), none⟩ (.int .i64 ((pN up (szN up k) j : Int) + (szN up k j : Int))) = W := ⟨_, rfl⟩
          have f1 : Fr [G] wr V1 := hV1 ▸ Fr.setCell wr ⟨G, _, none⟩ _ (by simp)
          have f2 : Fr [G + 1] V1 V2 := hV2 ▸ Fr.setCell V1 ⟨G + 1, _, none⟩ _ (by simp)
          have f3 : Fr [G + 1] V2 V3 := hV3 ▸ Fr.setCell V2 ⟨G + 1, _, none⟩ _ (by simp)
          have hGl := HL.out
          have ro1 : Row V1 G k _ := hV1 ▸ hro.out.set _ _
          have ro3 := (ro1.keep f2 (by simp)).keep f3 (by simp)
          have rn1 := hrn.out.keep f1 (by simp)
          have rn2 : Row V2 (G + 1) (k + 1) _ := hV2 ▸ rn1.set _ _
          have rn3 : Row V3 (G + 1) (k + 1) _ := hV3 ▸ rn2.set _ _
          have rs2 := ((hrs.out.keep f1 (by simp; omega)).keep f2 (by simp; omega))
          have HRS := mkHid (rs2.keep f3 (by simp; omega))
          have HF3 : Hid (Fr [] w V3) := mkHid (((hfr.out.trans f1 (by simp; have := hfr.out.size; omega)).trans f2 (by simp; omega)).trans f3 (by simp; omega))
          have m1 := rn1.frozen (j + 1)
          have m2 := rn1.cell (i := j + 1) (by omega)
          have m3 := rn2.frozen (io (up j))
          have m4 := rn2.cell (i := io (up j)) (by omega)
          have m5 := rs2.cell (i := j) hlt
          have HRO := mkHid ro3
          have HRN : Hid (Row V3 (G + 1) (k + 1) (fun i => (nxT up (szN up k) (j + 1) (oi i) : Int))) := mkHid (rn3.eqf (fun i hi => by
            show _ = ((nxS up (szN up k) j (nxT up (szN up k) j) (oi i) : Nat) : Int)
            unfold nxS
            rw [show nxT up (szN up k) j (up j) = pN up (szN up k) j from rfl]
            by_cases q1 : i = io (up j)
            · rw [if_pos q1, if_pos (oi_eq.2 q1)]; omega
            · rw [if_neg q1, if_neg (fun x => q1 (oi_eq.1 x))]
              by_cases q2 : i = j + 1
              · rw [if_pos q2, if_pos (oi_eq.2 q2)]; omega
              · rw [if_neg q2, if_neg (fun x => q2 (oi_eq.1 x))]))
          have HFO : Hid (∀ c, c < j + 1 → (fun i => if i = pN up (szN up k) j then (j : Int) else fo i) (pN up (szN up k) c) = c) := mkHid (fun c hc => by
            by_cases q : c = j
            · subst q; simp
            · have : ¬ pN up (szN up k) c = pN up (szN up k) j := fun x => q (pN_inj HUP.out (by omega) hlt x)
              simp only [if_neg this]
              exact hfo.out c (by omega))
          have p0 : (0 : Int) ≤ (pN up (szN up k) j : Int) := by omega
          have p1 : (pN up (szN up k) j : Int) < (k : Int) := by omega
          have p2 : (0 : Int) ≤ (io (up j) : Int) := by omega
          have p3 : (io (up j) : Int) < (k : Int) + 1 := by omega
          have p4 : (j : Int) + 1 < (k : Int) + 1 := by omega
          have p5 : (0 : Int) ≤ (j : Int) + 1 := by omega
          clear x1 x2 ro1 ro3 rn1 rn2 rn3 rs2 f1 f2 f3 HA HUP hro hrn hrs hfo HRo HRn HRs HB2 HFr hsp c1 c2 c3 HUP2 HC
          generalize io (up j) = x at *
          generalize pN up (szN up k) j = b at *
          generalize szN up k j = y at *
          go_wp2_with fail
          go_roundw
          case rel => exact ⟨j + 1, _, by omega, by go_num, HRO, HRN, HRS, HFO, HF3⟩
          case measure => simp [intOf]; try omega
        · have hje : j = k := by omega
          subst hje
          clear HA HC HRo HRn HRs HB2 HFr
          go_wp2_with fail
          go_ret2
          exact ⟨_, _, fo, rfl, hro.out, hrs.out, hfo.out, hfr.out⟩
end Go.Proofs.Ytblbjgifhgfifaa
namespace Go.Proofs.Ytblbjgifhgfifaa
open Go.RowKit
set_option linter.unusedVariables false
set_option linter.unusedSimpArgs false
/-! does a class have a field twice? families one by one -/
def ownC (l : List Cl) (c : Nat) : List ByteArray := (clAt l c).own
def fld (l : List Cl) (c : Nat) : List ByteArray := fields l none [] c
def fldO (l : List Cl) (k : Option Nat) : List ByteArray := fieldsO l none [] k
theorem fld_eq (l : List Cl) (c : Nat) : fld l c = fldO l (upN l c) ++ ownC l c := by
  unfold fld fldO ownC; rw [fields_eq]; rfl
theorem mem_fld (l : List Cl) (s : ByteArray) : ∀ c, s ∈ fld l c ↔ ∃ a, Un (upN l) a c ∧ s ∈ ownC l a := by
  intro c
  induction c using Nat.strongRecOn with
  | ind c ih =>
    rw [fld_eq, List.mem_append]
    constructor
    · rintro (h | h)
      · cases hu : upN l c with
        | none => rw [hu] at h; simp [fldO, fieldsO] at h
        | some d =>
          rw [hu] at h
          obtain ⟨a, h1, h2⟩ := (ih d (upN_lt hu)).1 h
          exact ⟨a, .step hu h1, h2⟩
      · exact ⟨c, .refl, h⟩
    · rintro ⟨a, h1, h2⟩
      cases h1 with
      | refl => exact .inr h2
      | step hu h1 =>
        left
        rw [hu]
        exact (ih _ (upN_lt hu)).2 ⟨a, h1, h2⟩
section
variable {l : List Cl}
theorem upL (l : List Cl) : ∀ c d, upN l c = some d → d < c := fun _ _ h => upN_lt h
structure OI (l : List Cl) (i : Nat) (T : ByteArray → Option Nat) : Prop where
  a : ∀ c, c < l.length → pN (upN l) (szN (upN l) l.length) c < i → (fld l c).Nodup
  b : ∀ s c, c < l.length → pN (upN l) (szN (upN l) l.length) c < i → s ∈ ownC l c → pN (upN l) (szN (upN l) l.length) c + szN (upN l) l.length c ≤ (T s).getD 0
  c : ∀ s, (T s).getD 0 = 0 ∨ ∃ c, c < l.length ∧ pN (upN l) (szN (upN l) l.length) c < i ∧ s ∈ ownC l c ∧ (T s).getD 0 = pN (upN l) (szN (upN l) l.length) c + szN (upN l) l.length c
structure II (l : List Cl) (i c0 j : Nat) (T : ByteArray → Option Nat) : Prop where
  a : ∀ c, c < l.length → pN (upN l) (szN (upN l) l.length) c < i → (fld l c).Nodup
  a' : (fldO l (upN l c0) ++ (ownC l c0).take j).Nodup
  b : ∀ s c, c < l.length → pN (upN l) (szN (upN l) l.length) c < i → s ∈ ownC l c → pN (upN l) (szN (upN l) l.length) c + szN (upN l) l.length c ≤ (T s).getD 0
  b' : ∀ s ∈ (ownC l c0).take j, i + szN (upN l) l.length c0 ≤ (T s).getD 0
  c : ∀ s, (T s).getD 0 = 0 ∨ (∃ c, c < l.length ∧ pN (upN l) (szN (upN l) l.length) c < i ∧ s ∈ ownC l c ∧ (T s).getD 0 = pN (upN l) (szN (upN l) l.length) c + szN (upN l) l.length c) ∨ (s ∈ (ownC l c0).take j ∧ (T s).getD 0 = i + szN (upN l) l.length c0)
theorem OI.zero (l : List Cl) : OI l 0 (fun _ => none) := ⟨fun _ _ h => absurd h (Nat.not_lt_zero _), fun _ _ _ h => absurd h (Nat.not_lt_zero _), fun _ => .inl rfl⟩
theorem OI.into {i c0 : Nat} {T : ByteArray → Option Nat} (h : OI l i T) (hc : c0 < l.length) (hp : pN (upN l) (szN (upN l) l.length) c0 = i) : II l i c0 0 T := by
  refine ⟨h.a, ?_, h.b, by simp, fun s => (h.c s).imp id .inl⟩
  rw [List.take_zero, List.append_nil]
  cases hu : upN l c0 with
  | none => exact List.nodup_nil
  | some d =>
    have := (in_up (upL l) (n := l.length) hu hc).1
    exact h.a d (by have := upN_lt hu; omega) (by omega)
theorem II.bound {i c0 j : Nat} {T : ByteArray → Option Nat} (h : II l i c0 j T) (hc : c0 < l.length) (hp : pN (upN l) (szN (upN l) l.length) c0 = i) (s : ByteArray) : (T s).getD 0 ≤ l.length := by
  rcases h.c s with h1 | ⟨c, h1, _, _, h4⟩ | ⟨_, h4⟩
  · omega
  · have := in_all (upL l) h1; omega
  · have := in_all (upL l) hc; omega
/-- a name that is taken -/
theorem II.found {i c0 j : Nat} {T : ByteArray → Option Nat} (h : II l i c0 j T) (hc : c0 < l.length) (hp : pN (upN l) (szN (upN l) l.length) c0 = i) (hj : j < (ownC l c0).length) (ht : i < (T ((ownC l c0).getD j ⟨#[]⟩)).getD 0) : ¬ (fld l c0).Nodup := by
  intro hnd
  have hs : (ownC l c0).getD j ⟨#[]⟩ ∈ ownC l c0 := by rw [List.getD_eq_getElem?_getD, List.getElem?_eq_getElem hj]; exact List.getElem_mem hj
  have hn : (ownC l c0).getD j ⟨#[]⟩ = (ownC l c0)[j] := by rw [List.getD_eq_getElem?_getD, List.getElem?_eq_getElem hj]; rfl
  rw [fld_eq, List.nodup_append] at hnd
  obtain ⟨_, n2, n3⟩ := hnd
  rcases h.c ((ownC l c0).getD j ⟨#[]⟩) with h1 | ⟨c, h1, h2, h3, h4⟩ | ⟨h3, _⟩
  · omega
  · have hu := in_family (upL l) h1 hc (by omega) (by omega)
    have hne : c ≠ c0 := fun e => by subst e; omega
    cases hu with
    | refl => exact hne rfl
    | @step _ e hu h5 =>
      refine n3 _ ?_ _ hs rfl
      rw [hu]
      exact (mem_fld l _ e).2 ⟨c, h5, h3⟩
  · obtain ⟨m, hm, e⟩ := List.getElem_of_mem h3
    have hm1 : m < j := by simp at hm; omega
    rw [List.getElem_take, hn] at e
    have := (List.nodup_iff_pairwise_ne.1 n2)
    rw [List.pairwise_iff_getElem] at this
    exact this m j (by omega) hj hm1 e
theorem II.next {i c0 j : Nat} {T : ByteArray → Option Nat} (h : II l i c0 j T) (hc : c0 < l.length) (hp : pN (upN l) (szN (upN l) l.length) c0 = i) (hj : j < (ownC l c0).length) (ht : ¬ i < (T ((ownC l c0).getD j ⟨#[]⟩)).getD 0) :
    II l i c0 (j + 1) (fun s => if s = (ownC l c0).getD j ⟨#[]⟩ then some (i + szN (upN l) l.length c0) else T s) := by
  have hpos := szN_pos (upL l) c0 hc
  have htk : (ownC l c0).take (j + 1) = (ownC l c0).take j ++ [(ownC l c0).getD j ⟨#[]⟩] := getD_snoc hj
  have hmem : (ownC l c0).getD j ⟨#[]⟩ ∈ ownC l c0 := by rw [List.getD_eq_getElem?_getD, List.getElem?_eq_getElem hj]; exact List.getElem_mem hj
  generalize (ownC l c0).getD j ⟨#[]⟩ = s at *
  have hgd : ∀ x, ((fun x => if x = s then some (i + szN (upN l) l.length c0) else T x) x).getD 0 = if x = s then i + szN (upN l) l.length c0 else (T x).getD 0 := fun x => by
    by_cases e : x = s
    · simp only [if_pos e]; rfl
    · simp only [if_neg e]
  have hle : ∀ x, (T x).getD 0 ≤ (if x = s then i + szN (upN l) l.length c0 else (T x).getD 0) := fun x => by
    by_cases e : x = s
    · rw [if_pos e, e]; omega
    · rw [if_neg e]; exact Nat.le_refl _
  refine ⟨h.a, ?_, fun x c h1 h2 h3 => ?_, fun x hx => ?_, fun x => ?_⟩
  · rw [htk, ← List.append_assoc, List.nodup_append]
    refine ⟨h.a', by simp, fun x hx y hy e => ?_⟩
    simp at hy
    subst hy
    subst e
    rcases List.mem_append.1 hx with hx | hx
    · cases hu : upN l c0 with
      | none => rw [hu] at hx; simp [fldO, fieldsO] at hx
      | some d =>
        rw [hu] at hx
        obtain ⟨a, h1, h2⟩ := (mem_fld l x d).1 hx
        have h3 : Un (upN l) a c0 := .step hu h1
        have hne : a ≠ c0 := fun e => by have := h1.le (upL l); have := upN_lt hu; omega
        have h4 := h3.inside (upL l) hc
        have h5 := h4.2.2 hne
        have h6 := h.b x a (by have := h3.le (upL l); omega) (by omega) h2
        omega
    · have := h.b' x hx; omega
  · rw [hgd]; exact Nat.le_trans (h.b x c h1 h2 h3) (hle x)
  · rw [htk] at hx
    rw [hgd]
    rcases List.mem_append.1 hx with hx | hx
    · exact Nat.le_trans (h.b' x hx) (hle x)
    · simp at hx; rw [if_pos hx]; exact Nat.le_refl _
  · rw [hgd]
    by_cases e : x = s
    · rw [if_pos e]; exact .inr (.inr ⟨by rw [htk, e]; simp, rfl⟩)
    · rw [if_neg e]
      rcases h.c x with h1 | h1 | ⟨h1, h2⟩
      · exact .inl h1
      · exact .inr (.inl h1)
      · exact .inr (.inr ⟨by rw [htk]; exact List.mem_append_left _ h1, h2⟩)
theorem II.done {i c0 : Nat} {T : ByteArray → Option Nat} (h : II l i c0 (ownC l c0).length T) (hc : c0 < l.length) (hp : pN (upN l) (szN (upN l) l.length) c0 = i) : OI l (i + 1) T := by
  have hw : ∀ c, c < l.length → pN (upN l) (szN (upN l) l.length) c < i + 1 → pN (upN l) (szN (upN l) l.length) c < i ∨ c = c0 := fun c h1 h2 => by
    by_cases e : pN (upN l) (szN (upN l) l.length) c < i
    · exact .inl e
    · exact .inr (pN_inj (upL l) h1 hc (by omega))
  refine ⟨fun c h1 h2 => ?_, fun s c h1 h2 h3 => ?_, fun s => ?_⟩
  · rcases hw c h1 h2 with e | e
    · exact h.a c h1 e
    · subst e
      have := h.a'
      rw [List.take_length] at this
      rw [fld_eq]; exact this
  · rcases hw c h1 h2 with e | e
    · exact h.b s c h1 e h3
    · subst e
      have := h.b' s (by rw [List.take_length]; exact h3)
      omega
  · rcases h.c s with h1 | ⟨c, h1, h2, h3⟩ | ⟨h1, h2⟩
    · exact .inl h1
    · exact .inr ⟨c, h1, by omega, h3⟩
    · rw [List.take_length] at h1
      exact .inr ⟨c0, hc, by omega, h1, by omega⟩
def dupB (l : List Cl) : Bool := !(List.range l.length).all (fun i => decide (fields l none [] i).Nodup)
theorem OI.all {T : ByteArray → Option Nat} (h : OI l l.length T) : dupB l = false := by
  unfold dupB
  rw [Bool.not_eq_false', List.all_eq_true]
  intro c hc
  have hc' := List.mem_range.1 hc
  have := in_all (upL l) hc'
  have := szN_pos (upL l) c hc'
  exact decide_eq_true (h.a c hc' (by omega))
theorem dup_true {c : Nat} (hc : c < l.length) (h : ¬ (fld l c).Nodup) : dupB l = true := by
  unfold dupB
  rw [Bool.not_eq_true', List.all_eq_false]
  exact ⟨c, List.mem_range.2 hc, by simp; exact h⟩
end
end Go.Proofs.Ytblbjgifhgfifaa
namespace Go.Proofs.Ytblbjgifhgfifaa
open Go.RowKit Go.Maps Go.WideMaps
set_option linter.unusedVariables false
set_option linter.unusedSimpArgs false
theorem MapOf.ne {w : World} {m n g k : Nat} {T : ByteArray → Option Nat} {f : Nat → Int} (h : MapOf w m T n) (hr : Row w g k f) : g ≠ m := fun e => by
  obtain ⟨D, ⟨es, clock, h1, _⟩, _⟩ := h.at_
  unfold Row at hr
  rw [e, h1] at hr
  cases hr
theorem MapOf.ne_cells {w : World} {m n g : Nat} {T : ByteArray → Option Nat} {C : Array Value} {t : TypeId} (h : MapOf w m T n) (hr : w.heap[g]? = some (.cells C t (0, 0))) : g ≠ m := fun e => by
  obtain ⟨D, ⟨es, clock, h1, _⟩, _⟩ := h.at_
  rw [e, h1] at hr
  cases hr
def linV (v va : Value) (bf : Addr) : Array Value := #[v, va, .func (.func 58) #[] #[.pointer (some bf)]]
set_option maxRecDepth 20000 in
set_option maxHeartbeats 4000000 in
theorem repeats_ok (l : List Cl) (v va : Value) (bf : Addr) (w : World) (h : RdC w v l) (hn : l.length ≤ 1048576) (ha : RdI w va (ups (upN l) l.length)) (hz : ∀ k, k < l.length → (clAt l k).own.length ≤ 4194304 ∧ ∀ s ∈ (clAt l k).own, s.size ≤ maxLen) :
    Calls Try.prog 49 #[.agg (linV v va bf)] w fun e w' => e = .returned (.bool (dupB l)) ∧ Fr [] w w' := by
  obtain ⟨p, c, rfl, h1⟩ := h.at_
  obtain ⟨pa, ca, rfl, _⟩ := ha.at_
  rw [ups_len]
  have H1 := mkHid h1
  have HOw : Hid (∀ k, k < l.length → RdS w (clAt l k).v (clAt l k).own) := mkHid h.own
  have HZ := mkHid hz
  have hmm := @run_makeMap Try.prog
  have h0 : (w.alloc (.cells (linV (.slice p l.length c) (.slice pa l.length ca) bf) 64)).heap.size = w.heap.size + 1 := by simp
  have HFm : Hid (∀ V, Fr [] w V → Calls Try.prog 59 #[.agg (linV (.slice p l.length c) (.slice pa l.length ca) bf)] V fun e w' => ∃ go gs f, e = .returned (.tuple #[.slice (some ⟨go, 0, none⟩) l.length l.length, .slice (some ⟨gs, 0, none⟩) l.length l.length]) ∧ Row w' go l.length f ∧ Row w' gs l.length (fun c => (szN (upN l) l.length c : Int)) ∧ (∀ c, c < l.length → f (pN (upN l) (szN (upN l) l.length) c) = c) ∧ Fr [] V w') := mkHid (fun V hV => by
    have := families_ok (upN l) l.length (upL l) hn p l.length c pa l.length ca bf V (by have := ha.idle hV; rw [ups_len] at this; exact this)
    exact this)
  clear h h1 ha hz
  unfold linV at *
  go_enter Try.func49, Try.ntmps49
  go_wp2_with (first
    | (go_at_call 59
       refine (HFm.out _ ((Fr.alloc [] w _).trans (Fr.alloc [] _ _) (by simp))).mono ?_
       rintro e w3 ⟨go, gs, f, rfl, hro, hrs, hf, hfr3⟩))
  have HM0 : Hid (MapOf w3 (w.heap.size + 1) (fun _ => none) 0) := mkHid (by
    have hx : ((w.alloc (.cells #[.slice p l.length c, .slice pa l.length ca, .func (.func 58) #[] #[.pointer (some bf)]] 64)).alloc (.map #[] 0)).ownsMap Try.prog 9 (plainElem (H := Unit) Try.prog 3) (w.alloc (.cells #[.slice p l.length c, .slice pa l.length ca, .func (.func 58) #[] #[.pointer (some bf)]] 64)).heap.size 0 (.map []) := World.ownsMap_made _ _ _ _
    rw [h0] at hx
    obtain ⟨es, clock, y1, y2⟩ := hx
    refine ⟨.map [], ⟨es, clock, ?_, y2⟩, fun s => rfl, fun s => rfl, rfl⟩
    rw [hfr3.block _ (by simp) (by simp)]
    exact y1)
  have HB0 : Hid (w3.heap[w.heap.size]? = some (.cells #[.slice p l.length c, .slice pa l.length ca, .func (.func 58) #[] #[.pointer (some bf)]] 64 (0, 0))) := mkHid (by
    rw [hfr3.block _ (by simp; omega) (by simp), Below.heap_alloc _ _ _ (by simp)]
    exact heap_alloc_new w _)
  have HF0 : Hid (Fr [] w w3) := mkHid (((Fr.alloc [] w _).trans (Fr.alloc [] _ _) (by simp)).trans hfr3 (by simp))
  have HRo := mkHid hro
  have HRs := mkHid hrs
  have HFo := mkHid hf
  clear hmm h0 HFm hfr3 hro hrs hf
  go_wp2_with fail
  go_loopw [18] (fun q wr => ∃ (i : Nat) (T : ByteArray → Option Nat) (n : Nat), i ≤ l.length ∧ q = .int .i64 i ∧ n ≤ i * 4194304 ∧ Hid (MapOf wr (w.heap.size + 1) T n) ∧ Hid (OI l i T) ∧ Hid (Row wr go l.length f) ∧ Hid (Row wr gs l.length (fun c => (szN (upN l) l.length c : Int))) ∧ Hid (wr.heap[w.heap.size]? = some (.cells #[.slice p l.length c, .slice pa l.length ca, .func (.func 58) #[] #[.pointer (some bf)]] 64 (0, 0))) ∧ Hid (Fr [] w wr)) (fun q _ => l.length - (intOf q).toNat)
  case atStart => exact ⟨0, fun _ => none, 0, Nat.zero_le _, rfl, Nat.zero_le _, HM0, mkHid (OI.zero l), HRo, HRs, HB0, HF0⟩
  case round =>
    obtain ⟨i, T, n, hi, rfl, hnn, hmp, hoi, hro, hrs, hbx, hfr⟩ := hrel
    clear HM0 HRo HRs HB0 HF0
    have i0 : (0 : Int) ≤ (i : Int) := by omega
    by_cases hlt : i < l.length
    · have i1 : (i : Int) < (l.length : Int) := by omega
      obtain ⟨c0, hc0, hp0⟩ := pN_sur (upL l) i hlt
      have k1 := hro.out.cell hlt
      rw [← hp0, HFo.out c0 hc0, hp0] at k1
      have c00 : (0 : Int) ≤ (c0 : Int) := by omega
      have c01 : (c0 : Int) < (l.length : Int) := by omega
      obtain ⟨g, off, rfl, x1, x2⟩ := H1.out (by omega)
      have k2 := (hfr.out.cell (p := ⟨g, off + c0 * 4 + 2, none⟩) x1 (by simp)).trans (x2 c0 hc0).2.2.1
      have k3 : wr.cell? ⟨w.heap.size, 0, none⟩ = some (.slice (some ⟨g, off, none⟩) l.length c) := by rw [cell_in hbx.out]; rfl
      obtain ⟨pv, cv, ev, hv⟩ := (HOw.out c0 hc0).at_
      rw [ev] at k2
      have hshort := (HZ.out c0 hc0).1
      have HSz := mkHid (HZ.out c0 hc0).2
      have HV : Hid (0 < (ownC l c0).length → ∃ g off, pv = some ⟨g, off, none⟩ ∧ g < w.heap.size ∧ ∀ j, j < (ownC l c0).length → w.cell? ⟨g, off + j, none⟩ = some (.string ((ownC l c0).getD j ⟨#[]⟩))) := mkHid hv
      rw [show (clAt l c0).own = ownC l c0 from rfl] at k2 hshort HSz
      have HII := mkHid (hoi.out.into hc0 hp0)
      have HNF : Hid (∀ (j : Nat) (T : ByteArray → Option Nat), II l i c0 j T → j < (ownC l c0).length → i < (T ((ownC l c0).getD j ⟨#[]⟩)).getD 0 → dupB l = true) := mkHid (fun j T hI hj ht => dup_true hc0 (hI.found hc0 hp0 hj ht))
      have HNX : Hid (∀ (j : Nat) (T : ByteArray → Option Nat), II l i c0 j T → j < (ownC l c0).length → ¬ i < (T ((ownC l c0).getD j ⟨#[]⟩)).getD 0 → II l i c0 (j + 1) (fun s => if s = (ownC l c0).getD j ⟨#[]⟩ then some (i + szN (upN l) l.length c0) else T s)) := mkHid (fun j T hI hj ht => hI.next hc0 hp0 hj ht)
      have HDN : Hid (∀ (T : ByteArray → Option Nat), II l i c0 (ownC l c0).length T → OI l (i + 1) T) := mkHid (fun T hI => hI.done hc0 hp0)
      have HBD : Hid (∀ (j : Nat) (T : ByteArray → Option Nat), II l i c0 j T → ∀ s, (T s).getD 0 ≤ l.length) := mkHid (fun j T hI s => hI.bound hc0 hp0 s)
      have hszb := in_all (upL l) hc0
      clear ev hv x1 x2 hoi H1 HOw HZ
      generalize hO : ownC l c0 = O at *
      clear hO
      obtain ⟨w1, rfl⟩ : ∃ x, x = wr := ⟨_, rfl⟩
      go_wp2_with fail
      go_loopw [30] (fun q wr => ∃ (j : Nat) (T : ByteArray → Option Nat) (n : Nat), j ≤ O.length ∧ q = .int .i64 j ∧ n ≤ i * 4194304 + j ∧ Hid (MapOf wr (w.heap.size + 1) T n) ∧ Hid (II l i c0 j T) ∧ Hid (Row wr go l.length f) ∧ Hid (Row wr gs l.length (fun c => (szN (upN l) l.length c : Int))) ∧ Hid (wr.heap[w.heap.size]? = some (.cells #[.slice (some ⟨g, off, none⟩) l.length c, .slice pa l.length ca, .func (.func 58) #[] #[.pointer (some bf)]] 64 (0, 0))) ∧ Hid (Fr [] w wr)) (fun q _ => O.length - (intOf q).toNat)
      case atStart => exact ⟨0, T, n, Nat.zero_le _, rfl, Nat.le_trans hnn (Nat.le_add_right _ _), hmp, HII, hro, hrs, hbx, hfr⟩
      case round =>
        obtain ⟨j, T, n, hj, rfl, hnn, hmp, hii, hro, hrs, hbx, hfr⟩ := hrel
        have j0 : (0 : Int) ≤ (j : Int) := by omega
        by_cases hjl : j < O.length
        · have j1 : (j : Int) < (O.length : Int) := by omega
          obtain ⟨gO, oO, rfl, z1, z2⟩ := HV.out (by omega)
          have kx := (hfr.out.cell (p := ⟨gO, oO + j, none⟩) z1 (by simp)).trans (z2 j hjl)
          have hsz := HSz.out (O.getD j ⟨#[]⟩) (by rw [List.getD_eq_getElem?_getD, List.getElem?_eq_getElem hjl]; exact List.getElem_mem hjl)
          have ks := hrs.out.cell hc0
          have NF := HNF.out j T hii.out hjl
          have NX := HNX.out j T hii.out hjl
          have hb := HBD.out j T hii.out (O.getD j ⟨#[]⟩)
          have hMne1 := hmp.out.ne hro.out
          have hMne2 := hmp.out.ne hrs.out
          have hMne3 := hmp.out.ne_cells hbx.out
          have HNE := mkHid (And.intro hMne1 (And.intro hMne2 hMne3))
          obtain ⟨D, hown, hh, ha, hz⟩ := hmp.out.at_
          have haq := ha (O.getD j ⟨#[]⟩)
          have hkey : keyOf Try.prog 9 (.string (O.getD j ⟨#[]⟩)) = some (kS (O.getD j ⟨#[]⟩)) := keyOf_string_mk Try.underlying9 hsz
          clear z1 z2 hsz hMne1 hMne2 hMne3
          generalize O.getD j ⟨#[]⟩ = s at *
          by_cases ht : i < (T s).getD 0
          · have HE := mkHid (NF ht)
            generalize (T s).getD 0 = t at *
            have ht1 : (i : Int) < (t : Int) := by omega
            clear NF NX HNF HNX HDN HBD hh ha hz HNE ht
            go_wp2_with (at_lookup; refine wpList_lookup_own_int _ rfl _ _ 85 rfl 9 3 .i64 mlaw Try.underlying85 Try.underlying3 (mzero _) (w.heap.size + 1) n _ rfl hown _ _ rfl hkey ?_; intro c9 hat hwc; obtain rfl : ((t : Nat) : Int) = c9 := (by rw [haq] at hat; injection hat with hat; injection hat))
            go_ret
            exact ⟨by rw [HE.out]; rfl, hfr.out⟩
          · have HX := mkHid (NX ht)
            have hov := fun (w' : World) (m : Nat) h' => map_over s (i + szN (upN l) l.length c0) (w' := w') hown hh ha hz m h'
            have HOV := mkHid hov
            generalize (T s).getD 0 = t at *
            have ht1 : ¬ (i : Int) < (t : Int) := by omega
            generalize szN (upN l) l.length c0 = y at *
            clear NF NX HNF HNX HDN HBD hh ha hz ht hov
            go_wp2_with (first
              | (at_lookup; refine wpList_lookup_own_int _ rfl _ _ 85 rfl 9 3 .i64 mlaw Try.underlying85 Try.underlying3 (mzero _) (w.heap.size + 1) n _ rfl hown _ _ rfl hkey ?_; intro c9 hat hwc; obtain rfl : ((t : Nat) : Int) = c9 := (by rw [haq] at hat; injection hat with hat; injection hat))
              | (at_mapUpdate; refine wpList_mapUpdate_own _ rfl _ _ _ 85 rfl 9 3 mlaw Try.underlying85 _ (w.heap.size + 1) n _ rfl hown (by unfold maxLen; omega) _ _ _ rfl rfl hkey _ [] (plainElem_int Try.underlying3 (WalkArith.wf_i64 (by omega))) ?_; intro w4 hown4 hgrow4)
              | go_in)
            have f4 : Fr [w.heap.size + 1] wr w4 := Fr.grown hgrow4 (fun k hk => by injection hk with hk; simp [hk])
            obtain ⟨n', hn', hm'⟩ := HOV.out w4 _ (by rw [show ((i + y : Nat) : Int) = (i : Int) + (y : Int) by omega]; exact hown4)
            have HM' := mkHid hm'
            have HRo' := mkHid (hro.out.keep f4 (by simpa using HNE.out.1))
            have HRs' := mkHid (hrs.out.keep f4 (by simpa using HNE.out.2.1))
            have HBx' := mkHid ((f4.block _ (lt_of_heap hbx.out) (by simp)).trans hbx.out)
            have HFr' : Hid (Fr [] w w4) := mkHid (hfr.out.trans f4 (by simp))
            clear hown4 hgrow4 f4 hm'
            go_wp2_with fail
            go_roundw
            case rel => exact ⟨j + 1, _, n', by omega, by go_num, by omega, HM', HX, HRo', HRs', HBx', HFr'⟩
            case measure => simp [intOf]; omega
        · have hje : j = O.length := by omega
          subst hje
          have HO := mkHid (HDN.out T hii.out)
          have hnn2 : n ≤ (i + 1) * 4194304 := by omega
          clear HNF HNX HDN HBD HV HSz hii
          go_wp2_with fail
          go_roundw
          case rel => exact ⟨i + 1, T, n, by omega, by go_num, hnn2, hmp, HO, hro, hrs, hbx, hfr⟩
          case measure => simp [intOf]; omega
    · have hie : i = l.length := by omega
      subst hie
      have HE := mkHid hoi.out.all
      clear H1 HZ HOw
      go_wp2_with fail
      go_ret
      exact ⟨by rw [HE.out]; rfl, hfr.out⟩
end Go.Proofs.Ytblbjgifhgfifaa
