import Derived.Test.YtdflpoldlokijaaDoorG29CSy7
import Derived.Test.YtdflpoldlokijaaDoorG28CDep
import Derived.WalkKit
import Derived.OpenShut
import Derived.FnData
import Derived.SizedLaws
import Derived.Deep.Slices
import Derived.ChangeSlices
namespace Go.Proofs.YtdflpoldlokijaaDoor
open Go.RowKit
set_option linter.unusedVariables false
set_option linter.unusedSimpArgs false
attribute [local go_sem ↓] Go.wp_at_zero Go.wp_at_succ
def noB : Bn := ⟨0, 0, 0, 0⟩
theorem litsR_nil (w : World) : LitsR w none 0 [] := .mk none 0 [] (fun _ => rfl) (fun h => by simp at h) (by simp) (fun t ht => by simp at ht) (fun t ht => by simp at ht)
theorem codeR_row {w : World} (g : Nat) (ws : List Int) (hg : w.heap[g]? = some (.cells (ws.map (Value.int .i64)).toArray 3 (0, 0))) (htb : Tb w) (hl : ws.length ≤ 4096) (hr : ∀ x ∈ ws, -1000 ≤ x ∧ x ≤ 1000) (b : Bn) : CodeR w ⟨ws, 0, b⟩ [] none 0 (some ⟨g, 0, none⟩) ws.length := by
  refine ⟨⟨⟨_, _, rfl, fun hp => ⟨g, 0, rfl, lt_of_heap hg, fun i hi => ?_⟩⟩, fun c e => (by injection e with e; cases e), by show ws.length ≤ _; omega⟩, Nat.le_refl _, litsR_nil w, rfl, fun i => ?_, htb⟩
  · rw [Nat.zero_add, cell_in hg]
    show (ws.map (Value.int .i64)).toArray[i]? = some (.int .i64 (ws.getD i 0))
    have hi' : i < ws.length := hi
    simp [hi']
  · show _ ≤ ws.getD i 0 ∧ ws.getD i 0 ≤ _
    by_cases hi : i < ws.length
    · rw [List.getD_eq_getElem?_getD, List.getElem?_eq_getElem hi]
      have := hr ws[i] (List.getElem_mem hi)
      show _ ≤ ws[i] ∧ ws[i] ≤ _
      omega
    · rw [List.getD_eq_getElem?_getD, List.getElem?_eq_none (by omega)]
      decide
theorem dep1 : depthsP ⟨[1, 20], 0, noB⟩ ⟨0, 0, 1⟩ 0 = (0, [0, 1]) := by decide
theorem dep2 : (depthsP ⟨[20], 0, noB⟩ ⟨0, 0, 0⟩ 0).1 = 113 := by decide
theorem dep3 : (depthsP ⟨[26, 2], 0, noB⟩ ⟨0, 0, 0⟩ 0).1 = 112 := by decide
set_option maxRecDepth 100000 in
set_option maxHeartbeats 4000000 in
theorem works_ok (w : World) (ht : Tb w) : Calls Tryd.prog 10 #[] w fun e w' => e = .returned (.bool true) ∧ Fr [] w w' := by
  have HBz : Hid (∀ V, Fr [] (w.alloc (.cells #[.int .i64 0, .int .i64 0, .int .i64 0, .int .i64 0] 27)) V → V.cell? ⟨w.heap.size, 0, none⟩ = some (.int .i64 0) ∧ V.cell? ⟨w.heap.size, 1, none⟩ = some (.int .i64 0) ∧ V.cell? ⟨w.heap.size, 2, none⟩ = some (.int .i64 0) ∧ V.cell? ⟨w.heap.size, 3, none⟩ = some (.int .i64 0) ∧ w.heap.size < V.heap.size) := fun V hV => by
    have := hV.hb (heap_alloc_new w (.cells #[.int .i64 0, .int .i64 0, .int .i64 0, .int .i64 0] 27))
    exact ⟨by rw [cell_in this]; rfl, by rw [cell_in this]; rfl, by rw [cell_in this]; rfl, by rw [cell_in this]; rfl, lt_of_heap this⟩
  have H1 : Hid (Calls Tryd.prog 14 #[.agg #[.int .i64 0, .int .i64 0, .int .i64 1, .slice none 0 0, .slice (some ⟨w.heap.size + 1, 0, none⟩) 2 2], .agg #[.int .i64 0, .int .i64 0, .int .i64 0, .int .i64 0]] ((w.alloc (.cells #[.int .i64 0, .int .i64 0, .int .i64 0, .int .i64 0] 27)).alloc (.cells #[.int .i64 1, .int .i64 20] 3)) fun e w' => ∃ v, e = .returned (.tuple #[v, .int .i64 0]) ∧ Fr [] ((w.alloc (.cells #[.int .i64 0, .int .i64 0, .int .i64 0, .int .i64 0] 27)).alloc (.cells #[.int .i64 1, .int .i64 20] 3)) w' ∧ Rd w' v [0, 1]) := by
    have f : Fr [] w ((w.alloc (.cells #[.int .i64 0, .int .i64 0, .int .i64 0, .int .i64 0] 27)).alloc (.cells #[.int .i64 1, .int .i64 20] 3)) := ((Fr.refl [] w).al _).al _
    have hc := codeR_row (w := (w.alloc (.cells #[.int .i64 0, .int .i64 0, .int .i64 0, .int .i64 0] 27)).alloc (.cells #[.int .i64 1, .int .i64 20] 3)) (w.heap.size + 1) [1, 20] (new_at _ _ _ (by simp)) (ht.idle f) (by decide) (by decide) noB
    refine (depths_ok ⟨[1, 20], 0, noB⟩ ⟨0, 0, 1⟩ [] none 0 (some ⟨w.heap.size + 1, 0, none⟩) 2 _ hc).mono ?_
    rintro e w' ⟨lk, v, rfl, f', z, o, -⟩
    have hz : depthsP ⟨[1, 20], 0, noB⟩ ⟨0, 0, 1⟩ lk = depthsP ⟨[1, 20], 0, noB⟩ ⟨0, 0, 1⟩ 0 := z
    rw [hz, dep1] at o
    rw [hz, dep1]
    have o2 := o rfl
    exact ⟨v, rfl, f', own_rd (ss := [0, 1]) o2 (by decide)⟩
  have H23 : Hid (∀ V ws E, Fr [] (w.alloc (.cells #[.int .i64 0, .int .i64 0, .int .i64 0, .int .i64 0] 27)) V → (ws = [20] ∧ E = 113 ∨ ws = [26, 2] ∧ E = 112) → Calls Tryd.prog 8 #[.agg #[.int .i64 0, .int .i64 0, .int .i64 0, .slice none 0 0, .slice (some ⟨V.heap.size, 0, none⟩) ws.length ws.length], .agg #[.int .i64 0, .int .i64 0, .int .i64 0, .int .i64 0]] (V.alloc (.cells (ws.map (Value.int .i64)).toArray 3)) fun e w' => e = .returned (.int .i64 E) ∧ Fr [] V w') := fun V ws E hV hw => by
    have f : Fr [] w (V.alloc (.cells (ws.map (Value.int .i64)).toArray 3)) := (((Fr.refl [] w).al _).tr0 hV).al _
    have hc := codeR_row (w := V.alloc (.cells (ws.map (Value.int .i64)).toArray 3)) V.heap.size ws (heap_alloc_new V _) (ht.idle f) (by rcases hw with ⟨rfl, -⟩ | ⟨rfl, -⟩ <;> decide) (by rcases hw with ⟨rfl, -⟩ | ⟨rfl, -⟩ <;> decide) noB
    refine (check_ok ⟨ws, 0, noB⟩ ⟨0, 0, 0⟩ [] none 0 (some ⟨V.heap.size, 0, none⟩) ws.length _ hc).mono ?_
    rintro e w' ⟨lk, rfl, f', z⟩
    have hz : depthsP ⟨ws, 0, noB⟩ ⟨0, 0, 0⟩ lk = depthsP ⟨ws, 0, noB⟩ ⟨0, 0, 0⟩ 0 := z
    rw [hz]
    refine ⟨?_, (Fr.alloc [] V _).tr0 f'⟩
    rcases hw with ⟨rfl, rfl⟩ | ⟨rfl, rfl⟩
    · rw [dep2]
    · rw [dep3]
  have HNum := mkHid num_ok
  have HSame : Hid (∀ V v, Rd V v [0, 1] → Calls Tryd.prog 16 #[v, .slice (some ⟨V.heap.size, 0, none⟩) 2 2] (V.alloc (.cells #[.int .i64 0, .int .i64 1] 3)) fun e w' => e = .returned (.bool true) ∧ Fr [] V w') := fun V v hv => by
    have hc := codeR_row (w := V.alloc (.cells #[.int .i64 0, .int .i64 1] 3)) V.heap.size [0, 1] (heap_alloc_new V _)
    have hr : Rd (V.alloc (.cells #[.int .i64 0, .int .i64 1] 3)) (.slice (some ⟨V.heap.size, 0, none⟩) 2 2) [0, 1] := by
      refine ⟨⟨_, _, rfl, fun _ => ⟨V.heap.size, 0, rfl, by simp, fun i hi => ?_⟩⟩, fun c e => (by injection e with e; cases e), by decide⟩
      rw [Nat.zero_add, cell_in (heap_alloc_new V _)]
      have hi : i < 2 := hi
      rcases i with _ | _ | i
      · rfl
      · rfl
      · omega
    refine (same_ok [0, 1] v _ _ (hv.idle (Fr.alloc [] V _)) hr).mono ?_
    rintro e w' ⟨rfl, f⟩
    exact ⟨rfl, (Fr.alloc [] V _).tr0 f⟩
  have F0 : Hid (Fr [] w (w.alloc (.cells #[.int .i64 0, .int .i64 0, .int .i64 0, .int .i64 0] 27))) := Fr.alloc [] w _
  clear ht
  go_enter Tryd.func10, Tryd.ntmps10
  go_wp2_with (first
    | (go_at_call 14; refine H1.out.mono ?_; rintro e w1 ⟨v1, rfl, f1, r1⟩; have F1 := mkHid ((Fr.alloc [] _ _).tr0 f1); obtain ⟨a0, a1, a2, a3, a4⟩ := HBz.out w1 F1.out; have R1 := mkHid r1; clear f1 r1)
    | (go_at_call 8; fail))
  refine (H23.out w1 [20] 113 F1.out (.inl ⟨rfl, rfl⟩)).mono ?_
  rintro e w2 ⟨rfl, f2⟩
  have F2 := mkHid (F1.out.tr0 f2)
  have R2 := mkHid (R1.out.idle f2)
  obtain ⟨b0, b1, b2, b3, b4⟩ := HBz.out w2 F2.out
  clear f2 a0 a1 a2 a3
  go_wp2_with (go_at_call 8; fail)
  refine (H23.out w2 [26, 2] 112 F2.out (.inr ⟨rfl, rfl⟩)).mono ?_
  rintro e w3 ⟨rfl, f3⟩
  have F3 := mkHid (F2.out.tr0 f3)
  have R3 := mkHid (R2.out.idle f3)
  clear f3 b0 b1 b2 b3
  go_wp2_with (first
    | (go_at_call 9; refine (HNum.out _ _).mono ?_; rintro e w' ⟨rfl, hw'⟩; rw [hw']; clear hw' w')
    | (go_at_call 16; refine (HSame.out w3 v1 R3.out).mono ?_; rintro e w4 ⟨rfl, f4⟩; have F4 := mkHid (F0.out.tr0 (F3.out.tr0 f4)); clear f4))
  go_ret
  exact ⟨rfl, F4.out⟩
end Go.Proofs.YtdflpoldlokijaaDoor
namespace Go.Proofs.YtdflpoldlokijaaDoor
open Go.ChangeShapes Go.WideShapes Go.RowKit
set_option linter.unusedVariables false
set_option linter.unusedSimpArgs false
theorem weightsAll_mem {H : Type} {P : Program} {e : TypeId} {d : DataW H} : ∀ {ds : List (DataW H)}, d ∈ ds → ∀ n ∈ d.weights P e, n ∈ DataW.weightsAll P e ds := by
  intro ds
  induction ds with
  | nil => intro h; simp at h
  | cons x ds ih =>
    intro h n hn
    unfold DataW.weightsAll
    rcases List.mem_cons.1 h with rfl | h
    · exact List.mem_append_left _ hn
    · exact List.mem_append_right _ (ih h n hn)
theorem oc3 : Tryd.prog.cellsOf 3 = 1 := by kernel_rfl
theorem oc9 : Tryd.prog.cellsOf 9 = 1 := by kernel_rfl
theorem oc22 : Tryd.prog.cellsOf 22 = 1 := by kernel_rfl
theorem oc23 : Tryd.prog.cellsOf 23 = 1 := by kernel_rfl
theorem oc25 : Tryd.prog.cellsOf 25 = 5 := by kernel_rfl
theorem oc27 : Tryd.prog.cellsOf 27 = 4 := by kernel_rfl
theorem oc54 : Tryd.prog.cellsOf 54 = 4 := by kernel_rfl
theorem oc99 : Tryd.prog.cellsOf 99 = 5 := by kernel_rfl
theorem ob3 : Tryd.prog.bytesOf 3 = 8 := by kernel_rfl
theorem ob54 : Tryd.prog.bytesOf 54 = 56 := by kernel_rfl
theorem wf_range {n : Int} (h : (Lit.int .i64 n).wf = true) : -9223372036854775808 ≤ n ∧ n ≤ 9223372036854775807 := by
  simpa [Lit.wf, IntKind.min, IntKind.max, IntKind.signed, IntKind.bits] using h
instance : Inhabited LitT := ⟨.mk 0 ⟨#[]⟩ 0 none 0 []⟩
section
variable {H : Type} {enc : TypeId × Value → H} {w : World} {spare : Nat → Bool} {held : Bool}
/-- the words of a code, opened -/
theorem open_wl {fuel : Nat} {u : Value} {y : DataW H × List MemPlace} (h : DataW.trod enc Tryd.prog w 0 spare held fuel 23 [u] = some y) (hz : ∀ n ∈ y.1.weights Tryd.prog 23, n ≤ reachBytes) :
    ∃ (ao : Option Addr) (c : Nat) (zs : List Int), u = .slice ao zs.length c ∧ Rd w (.slice ao zs.length c) zs ∧ (∀ i, -9223372036854775808 ≤ zs.getD i 0 ∧ zs.getD i 0 ≤ 9223372036854775807) ∧ zs.length ≤ c := by
  rcases open_ints Tryd.underlying23 Tryd.underlying3 oc3 h with ⟨hcs, _⟩ | ⟨a, len, cap, zs, hcs, _, hl, hm, hzl, hx, hc, hwf⟩
  · simp at hcs
    exact ⟨none, 0, [], hcs, ⟨⟨none, 0, rfl, fun h => by simp at h⟩, fun c hc => by injection hc with _ _ e; exact e.symm, by simp⟩, fun i => by simp, Nat.le_refl _⟩
  · simp at hcs
    have hlz : len ≤ zs.length := by rw [hzl]; split <;> omega
    have htl : (zs.take len).length = len := by simp; omega
    refine ⟨some a, cap, zs.take len, by rw [htl]; exact hcs, ⟨⟨some a, cap, rfl, fun hpos => ?_⟩, fun c hc => (by injection hc with e; cases e), ?_⟩, fun i => ?_, by rw [htl]; exact hl⟩
    · rw [htl] at hpos
      obtain ⟨b, off, spot⟩ := a
      have hspot : spot = none := by simpa [Addr.add] using World.cell?_spot (hc 0 (by omega))
      subst hspot
      have hcell : ∀ j, j < len → w.cell? ⟨b, off + j, none⟩ = some (.int .i64 (zs.getD j 0)) := fun j hj => by
        have := hc j (by omega)
        rwa [Addr.add_mid] at this
      refine ⟨b, off, rfl, World.block_lt_of_cell? w ⟨b, off + 0, none⟩ (hcell 0 hpos), fun j hj => ?_⟩
      rw [htl] at hj
      rw [hcell j hj, List.getD_eq_getElem?_getD, List.getD_eq_getElem?_getD, List.getElem?_take, if_pos hj]
    · rw [htl]
      have hw := hz (((lits (H := H) .i64 (zs.take len)).length + (lits (H := H) .i64 (zs.drop len)).length) * Tryd.prog.bytesOf 3) (by rw [hx]; simp [DataW.weights, Tryd.underlying23])
      have e1 : (lits (H := H) .i64 (zs.take len)).length = len := by simp [lits]; omega
      rw [e1, ob3] at hw
      unfold reachBytes at hw
      omega
    · rw [List.getD_eq_getElem?_getD]
      cases hi : (zs.take len)[i]? with
      | none => simp
      | some z => exact wf_range (hwf z (List.mem_of_mem_take (List.mem_of_getElem? hi)))
set_option maxRecDepth 20000 in
/-- literals, opened -/
theorem open_lits : ∀ (fuel : Nat) {cs : List Value} {x : DataW H × List MemPlace}, DataW.trod enc Tryd.prog w 0 spare held fuel 22 cs = some x → (∀ n ∈ x.1.weights Tryd.prog 22, n ≤ reachBytes) →
    ∃ (p : Option Addr) (c : Nat) (ts : List LitT), cs = [.slice p ts.length c] ∧ LitsR w p c ts := by
  intro fuel
  induction fuel using Nat.strongRecOn with
  | _ fuel ih =>
    intro cs x h hz
    rcases DataW.trod_slice Tryd.underlying22 h with ⟨rfl, rfl⟩ | ⟨a, len, cap, elems, rest, n, hfu, rfl, rfl, hb, hl, hm, hlen, hel, hsp, hns⟩
    · exact ⟨none, 0, [], rfl, litsR_nil w⟩
    · rw [oc54] at hel
      have hbytes : (elems.length + rest.length) * 56 ≤ reachBytes := by
        have := hz ((elems.length + rest.length) * Tryd.prog.bytesOf 54) (by simp [DataW.weights, Tryd.underlying22])
        rwa [ob54] at this
      unfold reachBytes at hbytes
      have hone : ∀ i, i < len → ∃ t : LitT, (∃ y3 k, k < fuel ∧ DataW.trod enc Tryd.prog w 0 spare held k 22 [t.items] = some y3 ∧ ∀ n ∈ y3.1.weights Tryd.prog 22, n ≤ reachBytes) ∧ t.text.size ≤ reachBytes ∧ w.cell? (a.add (i * 4)) = some (.int .i64 t.kind) ∧ w.cell? ((a.add (i * 4)).add 1) = some (.string t.text) ∧ w.cell? ((a.add (i * 4)).add 2) = some (.int .i64 t.num) ∧ w.cell? ((a.add (i * 4)).add 3) = some t.items ∧ LitsR w t.p t.c t.kids := fun i hi => by
        have h0 := hel i hi
        obtain ⟨y, hy⟩ : ∃ y, elems[i]? = some y := ⟨_, List.getElem?_eq_getElem (by omega)⟩
        rw [hy] at h0
        obtain ⟨cs', h1, h2⟩ := Option.bind_eq_some_iff.1 h0
        obtain ⟨_, hlen4, hcell⟩ := World.cells?_some h1
        obtain ⟨xs, k, hk, hxy, _, hxl, hf⟩ := DataW.trod_struct Tryd.underlying54 h2
        match xs, hxl, cs', hlen4 with
        | [y0, y1, y2, y3], _, [t0, t1, t2, t3], _ =>
          have g0 := hf 0 _ rfl
          have g1 := hf 1 _ rfl
          have g2 := hf 2 _ rfl
          have g3 := hf 3 _ rfl
          simp [oc3, oc9, oc22] at g0 g1 g2 g3
          obtain ⟨K, e0, -, -⟩ := DataW.trod_int Tryd.underlying3 g0
          obtain ⟨T, e1, x1, -⟩ := DataW.trod_string Tryd.underlying9 g1
          obtain ⟨N, e2, -, -⟩ := DataW.trod_int Tryd.underlying3 g2
          simp at e0 e1 e2
          have hd : y.1 = .agg [y0.1, y1.1, y2.1, y3.1] := by rw [hxy]; simp
          have hwi : ∀ n ∈ y.1.weights Tryd.prog 54, n ≤ reachBytes := fun n hn => by
            refine hz n ?_
            simp only [DataW.weights, Tryd.underlying22]
            exact List.mem_cons_of_mem _ (List.mem_append_left _ (weightsAll_mem (d := y.1) (List.mem_map.2 ⟨y, List.mem_of_getElem? hy, rfl⟩) n hn))
          have hw3 : ∀ n ∈ y3.1.weights Tryd.prog 22, n ≤ reachBytes := fun n hn => hwi n (by
            rw [hd]
            simp only [DataW.weights, Tryd.underlying54]
            exact DataW.weights_mem_each (j := 3) (t := 22) (d := y3.1) rfl rfl n hn)
          have hw1 : T.size ≤ reachBytes := hwi _ (by
            rw [hd]
            simp only [DataW.weights, Tryd.underlying54]
            exact DataW.weights_mem_each (j := 1) (t := 9) (d := y1.1) rfl rfl _ (by rw [x1]; simp [DataW.weights]))
          obtain ⟨p, c, ts, e3, hts⟩ := ih k (by omega) g3 hw3
          have e3' : t3 = .slice p ts.length c := by simpa using e3
          have m0 := hcell 0 (by omega)
          have m1 := hcell 1 (by omega)
          have m2 := hcell 2 (by omega)
          have m3 := hcell 3 (by omega)
          simp at m0 m1 m2 m3
          subst e0 e1 e2 e3'
          refine ⟨.mk K T N p c ts, ⟨y3, k, by omega, g3, hw3⟩, hw1, ?_, m1, m2, m3, hts⟩
          show w.cell? (a.add (i * 4)) = some (.int .i64 K)
          have := m0
          simpa [Addr.add] using this
      obtain ⟨V, hV⟩ := Go.Deep.choose_lt hone
      have hVl : ((List.range len).map V).length = len := by simp
      refine ⟨some a, cap, (List.range len).map V, by rw [hVl], .mk (some a) cap _ (fun e => by cases e) (fun hp => ?_) (by rw [hVl]; omega) (fun t ht => ?_) (fun t ht => ?_)⟩
      · rw [hVl] at hp
        obtain ⟨b, off, spot⟩ := a
        have hspot : spot = none := by simpa [Addr.add] using World.cell?_spot (hV 0 hp).2.2.1
        subst hspot
        refine ⟨b, off, rfl, ?_, fun i t hit => ?_⟩
        · have := World.block_lt_of_cell? w _ (hV 0 hp).2.2.1
          simpa [Addr.add] using this
        · have hi : i < len := by
            have := (List.getElem?_eq_some_iff.1 hit).1
            simpa using this
          have e : t = V i := by
            rw [List.getElem?_map, List.getElem?_range hi] at hit
            simpa using hit.symm
          subst e
          obtain ⟨-, -, m0, m1, m2, m3, -⟩ := hV i hi
          rw [Addr.add_mid] at m0 m1 m2 m3
          rw [Addr.add_mid] at m1 m2 m3
          exact ⟨m0, m1, m2, m3⟩
      · obtain ⟨i, hi, rfl⟩ := List.mem_map.1 ht
        have := (hV i (List.mem_range.1 hi)).2.1
        unfold reachBytes at this
        omega
      · obtain ⟨i, hi, rfl⟩ := List.mem_map.1 ht
        exact (hV i (List.mem_range.1 hi)).2.2.2.2.2.2
set_option maxRecDepth 20000 in
/-- a code, opened -/
theorem open_code {fuel : Nat} {cs : List Value} {x : DataW H × List MemPlace} (h : DataW.trod enc Tryd.prog w 0 spare held fuel 25 cs = some x) (hz : ∀ n ∈ x.1.weights Tryd.prog 25, n ≤ reachBytes) :
    ∃ (hd : Hd) (lp : Option Addr) (lc : Nat) (ts : List LitT) (pw : Option Addr) (cw : Nat) (ws : List Int), cs = (cdv hd lp ts.length lc pw ws.length cw).toList ∧ LitsR w lp lc ts ∧ Rd w (.slice pw ws.length cw) ws ∧ (∀ i, -9223372036854775808 ≤ ws.getD i 0 ∧ ws.getD i 0 ≤ 9223372036854775807) ∧ ws.length ≤ cw := by
  obtain ⟨xs, k, hk, hxy, hcl, hxl, hf⟩ := DataW.trod_struct Tryd.underlying25 h
  rw [oc25] at hcl
  match xs, hxl, cs, hcl with
  | [y0, y1, y2, y3, y4], _, [t0, t1, t2, t3, t4], _ =>
    have g0 := hf 0 _ rfl
    have g1 := hf 1 _ rfl
    have g2 := hf 2 _ rfl
    have g3 := hf 3 _ rfl
    have g4 := hf 4 _ rfl
    simp [oc3, oc22, oc23] at g0 g1 g2 g3 g4
    obtain ⟨A, e0, -, -⟩ := DataW.trod_int Tryd.underlying3 g0
    obtain ⟨T, e1, -, -⟩ := DataW.trod_int Tryd.underlying3 g1
    obtain ⟨S, e2, -, -⟩ := DataW.trod_int Tryd.underlying3 g2
    simp at e0 e1 e2
    have hd : x.1 = .agg [y0.1, y1.1, y2.1, y3.1, y4.1] := by rw [hxy]; simp
    obtain ⟨lp, lc, ts, e3, hts⟩ := open_lits k g3 (fun n hn => hz n (by
      rw [hd]
      simp only [DataW.weights, Tryd.underlying25]
      exact DataW.weights_mem_each (j := 3) (t := 22) (d := y3.1) rfl rfl n hn))
    obtain ⟨pw, cw, ws, e4, hws, hrg⟩ := open_wl g4 (fun n hn => hz n (by
      rw [hd]
      simp only [DataW.weights, Tryd.underlying25]
      exact DataW.weights_mem_each (j := 4) (t := 23) (d := y4.1) rfl rfl n hn))
    have e3' : t3 = .slice lp ts.length lc := by simpa using e3
    subst e0 e1 e2 e3' e4
    exact ⟨⟨A, T, S⟩, lp, lc, ts, pw, cw, ws, rfl, hts, hws, hrg⟩
set_option maxRecDepth 20000 in
/-- bounds, opened -/
theorem open_bounds {fuel : Nat} {cs : List Value} {x : DataW H × List MemPlace} (h : DataW.trod enc Tryd.prog w 0 spare held fuel 27 cs = some x) : ∃ b : Bn, cs = (bnv b).toList := by
  obtain ⟨xs, k, hk, hxy, hcl, hxl, hf⟩ := DataW.trod_struct Tryd.underlying27 h
  rw [oc27] at hcl
  match xs, hxl, cs, hcl with
  | [y0, y1, y2, y3], _, [t0, t1, t2, t3], _ =>
    have g0 := hf 0 _ rfl
    have g1 := hf 1 _ rfl
    have g2 := hf 2 _ rfl
    have g3 := hf 3 _ rfl
    simp [oc3] at g0 g1 g2 g3
    obtain ⟨A, e0, -, -⟩ := DataW.trod_int Tryd.underlying3 g0
    obtain ⟨B, e1, -, -⟩ := DataW.trod_int Tryd.underlying3 g1
    obtain ⟨C, e2, -, -⟩ := DataW.trod_int Tryd.underlying3 g2
    obtain ⟨D, e3, -, -⟩ := DataW.trod_int Tryd.underlying3 g3
    simp at e0 e1 e2 e3
    subst e0 e1 e2 e3
    exact ⟨⟨A, B, C, D⟩, rfl⟩
/-- a table of structs of five integers, cell by cell -/
theorem five_table {fuel : Nat} {cs : List Value} {vals : List (List Int)} {p : List MemPlace} (hv5 : ∀ v ∈ vals, v.length = 5)
    (hd : DataW.trod enc Tryd.prog w 0 spare held fuel 116 cs = some (.agg (vals.map fun v => .agg (v.map fun z => .lit (.int .i64 z))), p)) (i : Nat) (hi : i < vals.length) (j : Nat) (hj : j < 5) :
    cs[i * 5 + j]? = some (.int .i64 ((vals.getD i []).getD j 0)) := by
  obtain ⟨xs, m, _, hx, _, hn, hel⟩ := DataW.trod_array Tryd.underlying116 hd
  simp only [Prod.mk.injEq, DataW.agg.injEq] at hx
  have hlen : xs.length = vals.length := by
    have := congrArg List.length hx.1
    simpa using this.symm
  have h := hel i (by omega)
  rw [oc99] at h
  obtain ⟨x, hxi⟩ : ∃ x, xs[i]? = some x := ⟨xs[i]'(by omega), by rw [List.getElem?_eq_getElem (by omega)]⟩
  rw [hxi] at h
  obtain ⟨v, hvi⟩ : ∃ v, vals[i]? = some v := ⟨vals[i], List.getElem?_eq_getElem hi⟩
  have hxv : x.1 = .agg (v.map fun z => .lit (.int .i64 z)) := by
    have h3 := congrArg (fun l => l[i]?) hx.1
    simp only [List.getElem?_map, hxi, hvi, Option.map_some, Option.some.injEq] at h3
    exact h3.symm
  have hv := hv5 v (List.mem_of_getElem? hvi)
  obtain ⟨ys, k, _, hy, hcl, hyl, hf⟩ := DataW.trod_struct Tryd.underlying99 h
  rw [oc99] at hcl
  rw [hy] at hxv
  simp only [DataW.agg.injEq] at hxv
  have hvd : vals.getD i [] = v := by rw [List.getD_eq_getElem?_getD, hvi]; rfl
  rw [hvd]
  match v, hv, ys, hyl, hxv with
  | [v0, v1, v2, v3, v4], _, [y0, y1, y2, y3, y4], _, hxv =>
    have g0 := hf 0 _ rfl
    have g1 := hf 1 _ rfl
    have g2 := hf 2 _ rfl
    have g3 := hf 3 _ rfl
    have g4 := hf 4 _ rfl
    simp only [List.map_cons, List.map_nil, List.cons.injEq, and_true] at hxv
    obtain ⟨z0, z1, z2, z3, z4⟩ := hxv
    have key : ∀ (o : Nat) (y : DataW H × List MemPlace) (z : Int), o < 5 → DataW.trod enc Tryd.prog w 0 spare held k 3 (((List.take 5 (List.drop (i * 5) cs)).drop o).take (Tryd.prog.cellsOf 3)) = some y → y.1 = .lit (.int .i64 z) → cs[i * 5 + o]? = some (.int .i64 z) := fun o y z ho g hz => by
      obtain ⟨v, e1, e2, _⟩ := DataW.trod_int Tryd.underlying3 g
      rw [e2] at hz
      simp at hz
      subst hz
      have h5 := congrArg (fun l => l[0]?) e1
      rw [oc3] at h5
      simp [List.getElem?_take, List.getElem?_drop, ho] at h5
      exact h5
    rcases j with _ | _ | _ | _ | _ | j
    · exact key 0 y0 v0 (by omega) g0 z0
    · exact key 1 y1 v1 (by omega) g1 z1
    · exact key 2 y2 v2 (by omega) g2 z2
    · exact key 3 y3 v3 (by omega) g3 z3
    · exact key 4 y4 v4 (by omega) g4 z4
    · omega
end
end Go.Proofs.YtdflpoldlokijaaDoor
