import Derived.Test.YtpaekbghnejhoaaDoorEG23KFull
import Derived.Deep.RegionHeld3
namespace Go.Proofs.YtpaekbghnejhoaaDoor
open Go.RowKit Go.Maps
set_option linter.unusedVariables false
set_option linter.unusedSimpArgs false
attribute [local go_sem ↓] Go.wp_at_zero Go.wp_at_succ
set_option maxRecDepth 20000 in
set_option maxHeartbeats 4000000 in
theorem right_ok (B b : Nat) (Is Ms : List Le) (Ks : List Int) (vI vM vK : Le) (w : World) (h : Bk w B b Is Ms Ks vI vM vK) (hk : Ks.length ≤ 1000000) (hn : ∀ i, i < Ks.length → (Is.getD i noLe).n ≤ 1000000) (hB : B ≤ w.heap.size) :
    Calls Tryd.prog 71 #[.pointer (some ⟨b, 0, none⟩)] w fun e w' => e = .returned (.bool true) ∧ ∃ Ms' vM', Ms'.length = Ks.length ∧ Bk w' B b Is Ms' Ks vI vM' vK ∧ Fr (gFoot b vM Is) w w' := by
  have HG := mkHid (grow_ok B b Is Ms Ks vI vM vK w h hk hn hB)
  clear h hn
  go_enter Tryd.func71, Tryd.ntmps71
  go_wp2_with fail
  refine Calls.mono HG.out ?_
  rintro e w1 ⟨rfl, Ms', vM', hMl, hbk, hfr⟩
  have HBk := mkHid hbk
  have HFr := mkHid hfr
  have t0 := hbk.top
  have nI := hbk.nI
  have nM := hbk.nM
  have nK := hbk.nK
  have hlen := hbk.len
  obtain ⟨pI, nI', cI⟩ := vI
  obtain ⟨pK, nK', cK⟩ := vK
  obtain ⟨pM, nM', cM⟩ := vM'
  have nK : nK' = Ks.length := nK
  have nI : nI' = Is.length := nI
  have nM : nM' = Ms'.length := nM
  subst nK nI nM
  have HMl := mkHid hMl
  rw [hlen, hMl] at t0
  have HLen := mkHid hlen
  have HC : Hid (∀ V, Fr [] w1 V → V.heap[b]? = some (.cells #[.slice pI Ks.length cI, .slice pM Ks.length cM, .slice pK Ks.length cK, .slice none 0 0, .slice none 0 0, .slice none 0 0, .slice none 0 0, .slice none 0 0, .slice none 0 0] 70 (0, 0))) := fun V hV => (hV.block b (lt_of_heap t0) (by simp)).trans t0
  clear hbk hfr HG t0 hlen hMl
  go_wp2_with fail
  go_loopw [3] (fun q wr => ∃ i : Nat, i ≤ Ks.length ∧ q = .int .i64 i ∧ Hid (Fr [] w1 wr)) (fun q _ => Ks.length - (intOf q).toNat)
  case atStart => exact ⟨0, Nat.zero_le _, rfl, Fr.refl _ _⟩
  case round =>
    obtain ⟨i, hin, rfl, hq⟩ := hrel
    have i1 : (0 : Int) ≤ (i : Int) := by omega
    have tt := HC.out wr hq.out
    have x0 : wr.cell? ⟨b, 0, none⟩ = some (.slice pI Ks.length cI) := by rw [cell_in tt]; rfl
    have x1 : wr.cell? ⟨b, 1, none⟩ = some (.slice pM Ks.length cM) := by rw [cell_in tt]; rfl
    have x2 : wr.cell? ⟨b, 2, none⟩ = some (.slice pK Ks.length cK) := by rw [cell_in tt]; rfl
    have x5 : wr.cell? ⟨b, 5, none⟩ = some (.slice none 0 0) := by rw [cell_in tt]; rfl
    have x8 : wr.cell? ⟨b, 8, none⟩ = some (.slice none 0 0) := by rw [cell_in tt]; rfl
    by_cases hi : i < Ks.length
    · have i2 : (i : Int) < (Ks.length : Int) := by omega
      have i3 : i < Is.length := by have := HLen.out; omega
      have i4 : i < Ms'.length := by have := HMl.out; omega
      have hb2 := HBk.out.keep hq.out (by simp)
      obtain ⟨gI, eI, cI0⟩ := row_at hb2.rI rfl (i := i) i3
      have eI : pI = some ⟨gI, 0, none⟩ := eI
      subst eI
      obtain ⟨gM, eM, cM0⟩ := row_at hb2.rM rfl (i := i) i4
      have eM : pM = some ⟨gM, 0, none⟩ := eM
      subst eM
      obtain ⟨gK, eK, cK0⟩ := row_num hb2.rK rfl hi
      have eK : pK = some ⟨gK, 0, none⟩ := eK
      subst eK
      have HFa := mkHid (hb2.ints i hi).1
      have HFb := mkHid (hb2.more i i4).1
      obtain ⟨m, hm⟩ : ∃ m, m = Ks.getD i 0 := ⟨_, rfl⟩
      obtain ⟨x, hx⟩ : ∃ x, x = Is.getD i noLe := ⟨_, rfl⟩
      obtain ⟨y, hy⟩ : ∃ y, y = Ms'.getD i noLe := ⟨_, rfl⟩
      rw [← hm] at cK0 HFa HFb
      rw [← hx] at cI0 HFa
      rw [← hy] at cM0 HFb
      have HF1 : Hid (∀ V, Hid (Fr [] wr V) → Calls Tryd.prog 94 #[x.v, .int .i64 m] V fun e w' => e = .returned (.bool true) ∧ w' = V) := fun V hV => fullInts_ok x.n m x.v V (HFa.out.idle hV.out)
      have HF2 : Hid (∀ V, Hid (Fr [] wr V) → Calls Tryd.prog 94 #[y.v, .int .i64 m] V fun e w' => e = .returned (.bool true) ∧ w' = V) := fun V hV => fullInts_ok y.n m y.v V (HFb.out.idle hV.out)
      obtain ⟨xp, xn, xc⟩ := x
      obtain ⟨yp, yn, yc⟩ := y
      simp only [Le.v] at cI0 cM0 HF1 HF2
      obtain ⟨-, curI, hI1⟩ := hb2.tyI (g := gI) (by simp [blk])
      obtain ⟨-, curM, hM1⟩ := hb2.tyM (g := gM) (by simp [blk])
      obtain ⟨-, curK, hK1⟩ := hb2.tyK (g := gK) (by simp [blk])
      have HCel : Hid (∀ V, Hid (Fr [] wr V) → V.cell? ⟨b, 0, none⟩ = some (.slice (some ⟨gI, 0, none⟩) Ks.length cI) ∧ V.cell? ⟨b, 1, none⟩ = some (.slice (some ⟨gM, 0, none⟩) Ks.length cM) ∧ V.cell? ⟨b, 2, none⟩ = some (.slice (some ⟨gK, 0, none⟩) Ks.length cK) ∧ V.cell? ⟨gI, i, none⟩ = some (.slice xp xn xc) ∧ V.cell? ⟨gM, i, none⟩ = some (.slice yp yn yc) ∧ V.cell? ⟨gK, i, none⟩ = some (.int .i64 m)) := fun V hV => by
        refine ⟨?_, ?_, ?_, ?_, ?_, ?_⟩
        · rw [hV.out.cell (p := ⟨b, 0, none⟩) (lt_of_heap tt) (by simp)]; exact x0
        · rw [hV.out.cell (p := ⟨b, 1, none⟩) (lt_of_heap tt) (by simp)]; exact x1
        · rw [hV.out.cell (p := ⟨b, 2, none⟩) (lt_of_heap tt) (by simp)]; exact x2
        · rw [hV.out.cell (p := ⟨gI, i, none⟩) (lt_of_heap hI1) (by simp)]; exact cI0
        · rw [hV.out.cell (p := ⟨gM, i, none⟩) (lt_of_heap hM1) (by simp)]; exact cM0
        · rw [hV.out.cell (p := ⟨gK, i, none⟩) (lt_of_heap hK1) (by simp)]; exact cK0
      have HFF : Hid (∀ V v, (v = .slice xp xn xc ∨ v = .slice yp yn yc) → Hid (Fr [] wr V) → Calls Tryd.prog 94 #[v, .int .i64 m] V fun e w' => e = .returned (.bool true) ∧ w' = V) := fun V v hv hV => by
        rcases hv with rfl | rfl
        · exact HF1.out V hV
        · exact HF2.out V hV
      have hR : Hid (Fr [] wr wr) := Fr.refl _ _
      clear hm hx hy hb2 HFa HFb tt hI1 hM1 hK1 i3 i4 HF1 HF2
      go_wp2_with fail
      go_region_held3 (fun V => V.cell? ⟨b, 0, none⟩ = some (.slice (some ⟨gI, 0, none⟩) Ks.length cI) ∧ V.cell? ⟨b, 1, none⟩ = some (.slice (some ⟨gM, 0, none⟩) Ks.length cM) ∧ V.cell? ⟨b, 2, none⟩ = some (.slice (some ⟨gK, 0, none⟩) Ks.length cK) ∧ V.cell? ⟨gI, i, none⟩ = some (.slice xp xn xc) ∧ V.cell? ⟨gM, i, none⟩ = some (.slice yp yn yc) ∧ V.cell? ⟨gK, i, none⟩ = some (.int .i64 m))
        (first
          | exact HCel.out _ (hid_drew hR)
          | exact HCel.out _ hR
          | exact HCel.out _ (by assumption))
        (first
          | (go_at_call 94; refine (HFF.out _ _ (by first | exact .inl rfl | exact .inr rfl) (hid_drew hR)).mono ?_; rintro e w' ⟨rfl, hw'⟩; subst hw'))
      all_goals go_wp2_with fail
      all_goals
        go_roundw
        case rel => exact ⟨i + 1, by omega, by go_num, hid_drew hq⟩
        case measure => simp [intOf]; omega
    · have hie : i = Ks.length := by omega
      subst hie
      have i2 : ¬ (Ks.length : Int) < (Ks.length : Int) := by omega
      have HZ : Hid (∃ Ms' vM', Ms'.length = Ks.length ∧ Bk wr B b Is Ms' Ks ⟨pI, Is.length, cI⟩ vM' ⟨pK, Ks.length, cK⟩ ∧ Fr (gFoot b vM Is) w wr) := ⟨Ms', _, HMl.out, HBk.out.keep hq.out (by simp), HFr.out.trans hq.out (by simp)⟩
      clear hq tt
      generalize wr = wo at *
      go_wp2_with fail
      go_loopw [4] (fun q V => q = .int .i64 0 ∧ V = wo) (fun _ _ => 0)
      case atStart => exact ⟨rfl, rfl⟩
      case round =>
        obtain ⟨rfl, rfl⟩ := hrel
        go_wp2_with fail
        go_loopw [5] (fun q V => q = .int .i64 0 ∧ V = wr) (fun _ _ => 0)
        case atStart => exact ⟨rfl, rfl⟩
        case round =>
          obtain ⟨rfl, rfl⟩ := hrel
          go_wp2_with fail
          go_ret
          exact ⟨rfl, HZ.out⟩
end Go.Proofs.YtpaekbghnejhoaaDoor

