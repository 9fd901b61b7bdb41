import Derived.Test.YtalcnihagnnkaaaDoorKHStep
import Derived.Test.YtalcnihagnnkaaaDoorKHAliveW
import Derived.WalkKit
import Derived.OpenShut
import Derived.LaidMore
import Derived.SizedLaws
import Derived.Deep.Slices
import Derived.ChangeSlices
namespace Go.Proofs.YtalcnihagnnkaaaDoor
open Go.RowKit
set_option linter.unusedVariables false
attribute [local go_sem ↓] Go.wp_at_zero Go.wp_at_succ
theorem small_det (n : Int) (h0 : -9223372036854775808 ≤ n) (h1 : n ≤ 9223372036854775807) : ∃ a : Nat, a ≤ 2047 ∧ ∀ w, Calls Tryd.prog 9 #[.int .i64 n] w fun e w' => e = .returned (.int .i64 (a : Int)) ∧ w' = w := by
  have t2 : n.tmod 2048 < 2048 := Int.tmod_lt_of_pos n (by omega)
  have t3 : -2048 < n.tmod 2048 := Int.lt_tmod_of_pos n (by omega)
  refine ⟨((n.tmod 2048 + 2048) % 2048).toNat, by omega, fun w => ?_⟩
  go_enter Tryd.func9, Tryd.ntmps9
  go_wp2
  go_ret
  exact ⟨ret_int (by omega), rfl⟩
theorem side_new (w0 W : World) (a m words oops : Nat) (h1 : Rep W a nilLay (emptyH words oops)) (h2 : W.heap[m]? = some (.cells (mcells (emptyM words oops)) 55 (0, 0))) (hf : Fr [] w0 W) (ha : w0.heap.size ≤ a) (hm : w0.heap.size ≤ m) (hne : a ≠ m) : Side w0 a m W nilLay (emptyH words oops) (emptyM words oops) where
  rep := h1
  mrep := ⟨h2, World.ownsRow_nil _ _ _ _, fun t ht => by simp [emptyM] at ht, fun i j hi => by simp [emptyM] at hi⟩
  sep := fun g hg hb => by
    simp [foot, Lay.blocks, nilLay, blk] at hg
    simp [mfoot, emptyM, mslots, blk] at hb
    omega
  fr := hf
  geh := fun b hb => by
    simp [foot, Lay.blocks, nilLay, blk] at hb
    omega
  gem := fun b hb => by
    simp [mfoot, emptyM, mslots, blk] at hb
    omega
/-- the step at i, as it lies in old memory -/
def StepAt (w0 : World) (b off i : Nat) : Prop := ∃ (K O A B C X : Int) (ao : Option Addr) (c : Nat) (zs : List Int),
  w0.cell? ⟨b, off + i * 7, none⟩ = some (.int .i64 K) ∧ w0.cell? ⟨b, off + i * 7 + 1, none⟩ = some (.int .i64 O) ∧ w0.cell? ⟨b, off + i * 7 + 2, none⟩ = some (.int .i64 A) ∧ w0.cell? ⟨b, off + i * 7 + 3, none⟩ = some (.int .i64 B) ∧
  w0.cell? ⟨b, off + i * 7 + 4, none⟩ = some (.int .i64 C) ∧ w0.cell? ⟨b, off + i * 7 + 5, none⟩ = some (.int .i64 X) ∧ w0.cell? ⟨b, off + i * 7 + 6, none⟩ = some (.slice ao zs.length c) ∧ LsAt w0 ao c zs
/-- how the heap and the model stand behind k steps -/
def Stands (w0 : World) (a m k : Nat) (W : World) : Prop := ∃ l H M, Side w0 a m W l H M ∧ Inv H M ∧ H.age ≤ k
set_option maxRecDepth 20000 in
set_option maxHeartbeats 2000000 in
theorem keeps_any (n1 n2 : Int) (ao : Option Addr) (b off sz c : Nat) (w : World) (hao : 0 < sz → ao = some ⟨b, off, none⟩) (hT : Tab w) (hT2 : Tab64 w) (h2 : 2 ≤ w.heap.size) (u0 : -9223372036854775808 ≤ n1) (u1 : n1 ≤ 9223372036854775807) (v0 : -9223372036854775808 ≤ n2) (v1 : n2 ≤ 9223372036854775807)
    (hb : 0 < sz → b < w.heap.size) (hsz : (sz : Int) ≤ 9223372036854775807) (hst : ∀ i, i < sz → StepAt w b off i) :
    Calls Tryd.prog 5 #[.int .i64 n1, .int .i64 n2, .slice ao sz c] w fun e w' => e = .returned (.bool true) ∧ Fr [] w w' := by
  have HT := mkHid hT
  have HT2 := mkHid hT2
  have HST := mkHid hst
  obtain ⟨r1, hr1, hs1⟩ := small_det n1 u0 u1
  obtain ⟨r2, hr2, hs2⟩ := small_det n2 v0 v1
  have HS1 := mkHid hs1
  have HS2 := mkHid hs2
  clear hT hT2 hst hs1 hs2 u0 u1 v0 v1
  go_enter Tryd.func5, Tryd.ntmps5
  go_wp2_with fail
  refine Calls.mono (HS1.out w) ?_
  rintro e w1 ⟨rfl, hw1⟩
  rw [hw1]
  clear hw1 w1
  go_wp2_with fail
  refine Calls.mono (HS2.out w) ?_
  rintro e w1 ⟨rfl, hw1⟩
  rw [hw1]
  clear hw1 w1
  obtain ⟨r3, hr3, hr4⟩ : ∃ r3 : Nat, (r2 : Int) % 256 = (r3 : Int) ∧ r3 ≤ 255 := ⟨r2 % 256, by omega, by omega⟩
  have hr5 : (r2 : Int).tmod 256 = (r3 : Int) := by rw [Int.tmod_eq_emod_of_nonneg (by omega)]; exact hr3
  go_wp2_with fail
  refine Calls.mono (New_in r1 r3 w (by omega) (by omega)) ?_
  rintro e w1 ⟨rfl, hrep, hf1, hsz1⟩
  have HR1 := mkHid hrep
  have HF1 := mkHid hf1
  clear hrep hf1
  go_wp2_with (go_at_call 11; refine (num_any _ _ (by omega) (by omega)).mono ?_; rintro e w' ⟨rfl, hw'⟩; rw [hw']; clear hw' w')
  refine Calls.mono (alive_any w1 (HT.out.fr HF1.out (by omega)) (HT2.out.keep HF1.out (by omega) (by simp)) (by omega)) ?_
  rintro e w3 ⟨rfl, hf3⟩
  have HS3 : Hid (Stands w w.heap.size w3.heap.size 0 (w3.alloc (.cells #[.int .i64 (r1 : Int), .int .i64 (r3 : Int), .int .i64 0, .slice none 0 0] 55))) := by
    have hw3 := hf3.size
    refine ⟨nilLay, emptyH r1 r3, emptyM r1 r3, side_new w _ _ _ r1 r3 ((HR1.out.keep hf3 (by simp)).alloc _) (heap_alloc_new _ _) ((HF1.out.trans hf3 (by simp)).trans (Fr.alloc [] _ _) (by simp)) (Nat.le_refl _) (by omega) (by omega), inv_empty r1 r3 (by omega) (by omega), Nat.le_refl _⟩
  clear hf3 HR1 HF1
  go_wp2_with fail
  refine Calls.mono (HS2.out w3) ?_
  rintro e w4 ⟨rfl, hw4⟩
  rw [hw4]
  clear hw4 w4
  go_wp2_with fail
  go_loopw [11] (fun q wr => ∃ k : Nat, k ≤ 300 ∧ k ≤ sz ∧ q = .int .i64 k ∧ Hid (Stands w w.heap.size w3.heap.size k wr)) (fun q _ => 300 - (intOf q).toNat)
  case atStart => exact ⟨0, by omega, by omega, rfl, HS3.out⟩
  case round =>
    obtain ⟨k, hk1, hk2, rfl, hq⟩ := hrel
    by_cases hc : k < sz ∧ k < 300
    · obtain ⟨hc1, hc2⟩ := hc
      have hao' := hao (by omega)
      subst hao'
      have hb := hb (by omega)
      clear hao
      obtain ⟨l, H, M, hside, hinv, hage⟩ := hq.out
      obtain ⟨K, O, A, B, C, X, lo, lc, zs, s0, s1, s2, s3, s4, s5, s6, hls⟩ := HST.out k hc1
      have g0 := (hside.fr.cell (p := ⟨b, off + k * 7, none⟩) hb (by simp)).trans s0
      have g1 := (hside.fr.cell (p := ⟨b, off + k * 7 + 1, none⟩) hb (by simp)).trans s1
      have g2 := (hside.fr.cell (p := ⟨b, off + k * 7 + 2, none⟩) hb (by simp)).trans s2
      have g3 := (hside.fr.cell (p := ⟨b, off + k * 7 + 3, none⟩) hb (by simp)).trans s3
      have g4 := (hside.fr.cell (p := ⟨b, off + k * 7 + 4, none⟩) hb (by simp)).trans s4
      have g5 := (hside.fr.cell (p := ⟨b, off + k * 7 + 5, none⟩) hb (by simp)).trans s5
      have g6 := (hside.fr.cell (p := ⟨b, off + k * 7 + 6, none⟩) hb (by simp)).trans s6
      have HSt := mkHid (step_any K O A B C X zs lo lc w w.heap.size w3.heap.size wr l H M hside hinv hls (by omega) HT.out HT2.out h2)
      have k1 : (0 : Int) ≤ (k : Int) := by omega
      have k2 : (k : Int) < (sz : Int) := by omega
      have k3 : (k : Int) < 300 := by omega
      have HAg := mkHid hage
      unfold stepV at HSt
      clear hside hinv hls hq s0 s1 s2 s3 s4 s5 s6 hage
      generalize zs.length = zn at *
      go_wp2_with fail
      refine Calls.mono HSt.out ?_
      rintro e w5 ⟨rfl, l5, H5, M5, hs5, hi5, ha5⟩
      have HTl := mkHid (told_ok w3.heap.size M5 w.heap.size l5 H5 w5 hs5.rep hs5.mrep hi5.model hi5.told)
      have HS5 : Hid (∀ V, Fr [] w5 V → Stands w w.heap.size w3.heap.size (k + 1) V) := fun V hV => ⟨l5, H5, M5, hs5.idle hV, hi5, by have := HAg.out; omega⟩
      clear hs5 hi5 ha5 HSt
      go_wp2_with fail
      refine Calls.mono HTl.out ?_
      rintro e w6 ⟨rfl, hf6⟩
      have HS6 := mkHid (HS5.out w6 hf6)
      clear hf6
      go_wp2_with fail
      go_roundw
      case rel => exact ⟨k + 1, by omega, by omega, by go_num, HS6.out⟩
      case measure => simp [intOf]; omega
    · obtain ⟨l, H, M, hside, hinv, hage⟩ := hq.out
      have hf := mkHid hside.fr
      have HAl := mkHid (alive_any wr (HT.out.fr hf.out (by omega)) (HT2.out.keep hf.out (by omega) (by simp)) (by have := hf.out.size; omega))
      have hx : (sz : Int) ≤ (k : Int) ∨ ((k : Int) < (sz : Int) ∧ (300 : Int) ≤ (k : Int)) := by omega
      clear hside hinv hq hc
      rcases hx with hx | ⟨hx, hx2⟩
      all_goals
        go_wp2_with fail
        refine Calls.mono HAl.out ?_
        rintro e w6 ⟨rfl, hf6⟩
        have HF6 := mkHid (hf.out.trans hf6 (by simp))
        clear hf6
        go_wp2_with fail
        go_ret
        exact ⟨rfl, HF6.out⟩
end Go.Proofs.YtalcnihagnnkaaaDoor
namespace Go.Proofs.YtalcnihagnnkaaaDoor
open Go.ChangeShapes Go.WideShapes Go.RowKit
set_option linter.unusedVariables false
theorem weightsAll_mem {H : Type} {P : Program} {e : TypeId} {d : DataW H} : ∀ {ds : List (DataW H)}, d ∈ ds → ∀ n ∈ d.weights P e, n ∈ DataW.weightsAll P e ds := by
  intro ds
  induction ds with
  | nil => intro h; simp at h
  | cons x ds ih =>
    intro h n hn
    unfold DataW.weightsAll
    rcases List.mem_cons.1 h with rfl | h
    · exact List.mem_append_left _ hn
    · exact List.mem_append_right _ (ih h n hn)
theorem c58 : Tryd.prog.cellsOf 58 = 7 := by kernel_rfl
theorem c3 : Tryd.prog.cellsOf 3 = 1 := by kernel_rfl
theorem c33 : Tryd.prog.cellsOf 33 = 1 := by kernel_rfl
theorem c22 : Tryd.prog.cellsOf 22 = 1 := by kernel_rfl
theorem b3 : Tryd.prog.bytesOf 3 = 8 := by kernel_rfl
section
variable {H : Type} {enc : TypeId × Value → H} {w : World} {spare : Nat → Bool} {held : Bool}
/-- the list of a step, opened -/
theorem open_ls {fuel : Nat} {u : Value} {y : DataW H × List MemPlace} (h : DataW.trod enc Tryd.prog w 0 spare held fuel 22 [u] = some y) (hz : ∀ n ∈ y.1.weights Tryd.prog 22, n ≤ reachBytes) :
    ∃ (ao : Option Addr) (c : Nat) (zs : List Int), u = .slice ao zs.length c ∧ LsAt w ao c zs := by
  rcases open_ints Tryd.underlying22 Tryd.underlying3 c3 h with ⟨hcs, _⟩ | ⟨a, len, cap, zs, hcs, _, hl, hm, hzl, hx, hc, _⟩
  · simp at hcs
    exact ⟨none, 0, [], hcs, fun _ => ⟨rfl, rfl⟩, fun h => absurd rfl h, by simp⟩
  · simp at hcs
    have hlz : len ≤ zs.length := by rw [hzl]; split <;> omega
    have htl : (zs.take len).length = len := by simp; omega
    refine ⟨some a, cap, zs.take len, by rw [htl]; exact hcs, ⟨fun h => (by cases h), fun hne => ?_, ?_⟩⟩
    · have hpos : 0 < len := by
        rcases Nat.eq_zero_or_pos len with h0 | h0
        · rw [h0] at hne; simp at hne
        · exact h0
      obtain ⟨b, off, spot⟩ := a
      have hspot : spot = none := by simpa [Addr.add] using World.cell?_spot (hc 0 (by omega))
      subst hspot
      have hcell : ∀ j, j < len → w.cell? ⟨b, off + j, none⟩ = some (.int .i64 (zs.getD j 0)) := fun j hj => by
        have := hc j (by omega)
        rwa [Addr.add_mid] at this
      refine ⟨b, off, rfl, World.block_lt_of_cell? w ⟨b, off + 0, none⟩ (hcell 0 hpos), fun j hj => ?_⟩
      rw [htl] at hj
      rw [hcell j hj, List.getD_eq_getElem?_getD, List.getD_eq_getElem?_getD, List.getElem?_take, if_pos hj]
    · rw [htl]
      have hw := hz (((lits (H := H) .i64 (zs.take len)).length + (lits (H := H) .i64 (zs.drop len)).length) * Tryd.prog.bytesOf 3) (by rw [hx]; simp [DataW.weights, Tryd.underlying22])
      have e1 : (lits (H := H) .i64 (zs.take len)).length = len := by simp [lits]; omega
      rw [e1, b3] at hw
      have : reachBytes < 2 ^ 47 := reachBytes_lt
      omega
set_option maxRecDepth 20000 in
/-- the steps, opened -/
theorem open_steps {fuel : Nat} {cs : List Value} {x : DataW H × List MemPlace} (h : DataW.trod enc Tryd.prog w 0 spare held fuel 51 cs = some x) (hz : ∀ n ∈ x.1.weights Tryd.prog 51, n ≤ reachBytes) :
    ∃ (ao : Option Addr) (sz c b off : Nat), cs = [.slice ao sz c] ∧ (0 < sz → ao = some ⟨b, off, none⟩ ∧ b < w.heap.size) ∧ sz ≤ maxLen ∧ ∀ i, i < sz → StepAt w b off i := by
  rcases Go.Deep.open_slice Tryd.underlying51 h with ⟨rfl, rfl⟩ | ⟨a, len, cap, m, n, D, Pl, rfl, _, hl, hm, hmm, rfl, hx⟩
  · exact ⟨none, 0, 0, 0, 0, rfl, fun h => by omega, by unfold maxLen; omega, fun i hi => by omega⟩
  · by_cases h0 : len = 0
    · subst h0
      exact ⟨some a, 0, cap, 0, 0, rfl, fun h => by omega, by unfold maxLen; omega, fun i hi => by omega⟩
    · have hlm : len ≤ m := by rw [hmm]; split <;> omega
      rw [c58] at hx
      obtain ⟨b, off, spot⟩ := a
      have hspot : spot = none := by
        obtain ⟨cs', h1, h2⟩ := hx 0 (by omega)
        obtain ⟨_, hlen, hcell⟩ := World.cells?_some h1
        have := hcell 0 (by omega)
        rw [Go.Deep.add_add] at this
        match cs', hlen with
        | u :: _, _ => simpa [Addr.add] using World.cell?_spot this
      subst hspot
      have hstep : ∀ i, i < len → StepAt w b off i := fun i hi => by
        obtain ⟨cs', h1, h2⟩ := hx i (by omega)
        obtain ⟨_, hlen, hcell⟩ := World.cells?_some h1
        obtain ⟨xs, k, hk, hxy, _, hxl, hf⟩ := DataW.trod_struct Tryd.underlying58 h2
        match xs, hxl, cs', hlen with
        | [y0, y1, y2, y3, y4, y5, y6], _, [t0, t1, t2, t3, t4, t5, t6], _ =>
          have g0 := hf 0 _ rfl
          have g1 := hf 1 _ rfl
          have g2 := hf 2 _ rfl
          have g3 := hf 3 _ rfl
          have g4 := hf 4 _ rfl
          have g5 := hf 5 _ rfl
          have g6 := hf 6 _ rfl
          simp [c3, c33, c22] at g0 g1 g2 g3 g4 g5 g6
          obtain ⟨K, e0, -, -⟩ := DataW.trod_int Tryd.underlying3 g0
          obtain ⟨O, e1, -, -⟩ := DataW.trod_int Tryd.underlying3 g1
          obtain ⟨A, e2, -, -⟩ := DataW.trod_int Tryd.underlying3 g2
          obtain ⟨B, e3, -, -⟩ := DataW.trod_int Tryd.underlying3 g3
          obtain ⟨C, e4, -, -⟩ := DataW.trod_int Tryd.underlying3 g4
          obtain ⟨X, e5, -, -⟩ := DataW.trod_int Tryd.underlying33 g5
          simp at e0 e1 e2 e3 e4 e5
          obtain ⟨lo, lc, zs, e6, hls⟩ := open_ls g6 (fun n hn => by
            refine hz n ?_
            have hd : D i = .agg [y0.1, y1.1, y2.1, y3.1, y4.1, y5.1, y6.1] := by simpa using congrArg Prod.fst hxy
            have h3 : n ∈ (D i).weights Tryd.prog 58 := by
              rw [hd]
              simp only [DataW.weights, Tryd.underlying58]
              exact DataW.weights_mem_each (j := 6) (t := 22) (d := y6.1) rfl rfl n hn
            simp only [DataW.weights, Tryd.underlying51]
            refine List.mem_cons_of_mem _ (List.mem_append_left _ (weightsAll_mem (d := D i) ?_ n h3))
            exact List.mem_map.2 ⟨i, List.mem_range.2 hi, rfl⟩)
          have m0 := hcell 0 (by omega)
          have m1 := hcell 1 (by omega)
          have m2 := hcell 2 (by omega)
          have m3 := hcell 3 (by omega)
          have m4 := hcell 4 (by omega)
          have m5 := hcell 5 (by omega)
          have m6 := hcell 6 (by omega)
          rw [Addr.add_mid, Addr.add_mid] at m0 m1 m2 m3 m4 m5 m6
          simp at m0 m1 m2 m3 m4 m5 m6
          subst e0 e1 e2 e3 e4 e5 e6
          exact ⟨K, O, A, B, C, X, lo, lc, zs, m0, m1, m2, m3, m4, m5, m6, hls⟩
      obtain ⟨K, _, _, _, _, _, _, _, _, m0, _⟩ := hstep 0 (by omega)
      exact ⟨some ⟨b, off, none⟩, len, cap, b, off, rfl, fun _ => ⟨rfl, World.block_lt_of_cell? w _ m0⟩, by omega, hstep⟩
end
end Go.Proofs.YtalcnihagnnkaaaDoor
