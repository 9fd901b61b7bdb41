import Derived.Test.YtblbjgifhgfifaaPG24QRpW
import Derived.Test.YtblbjgifhgfifaaPG02NBel2
import Derived.Laws.EntriesVeiled
namespace Go.Proofs.Ytblbjgifhgfifaa
open Go.RowKit Go.Maps Go.WideMaps
set_option linter.unusedVariables false
set_option linter.unusedSimpArgs false
theorem at_some {l : List Cl} {i k : Nat} {s : ByteArray} (h : atN l i s = some k) : amongZ (names l) s = (k : Int) ∧ k < i := by
  refine ⟨?_, (atN_lt h).1⟩
  unfold amongZ
  rw [show names l = (names l).take i ++ (names l).drop i from (List.take_append_drop i _).symm, pos_left h]
theorem at_none {l : List Cl} {i : Nat} {s : ByteArray} (h : atN l i s = none) (hi : i ≤ l.length) : amongZ (names l) s = -1 ∨ (i : Int) ≤ amongZ (names l) s := by
  unfold amongZ
  rw [show names l = (names l).take i ++ (names l).drop i from (List.take_append_drop i _).symm, pos_append]
  have h' : pos ((names l).take i) s = none := h
  rw [h']
  cases hd : pos ((names l).drop i) s with
  | none => left; simp
  | some d => right; simp [names]; omega
theorem at_self {l : List Cl} {i : Nat} (hi : i < l.length) : (atN l i (clAt l i).name).isNone = decide (amongZ (names l) (clAt l i).name = (i : Int)) := by
  cases h : atN l i (clAt l i).name with
  | some k =>
    have := at_some h
    symm; exact decide_eq_false (by omega)
  | none =>
    symm
    refine decide_eq_true ?_
    refine amongZ_some (names_at hi) (pos_none.1 h)
theorem sup_no {l : List Cl} {i : Nat} (hn : ∀ c, c < i → c < l.length → named1 l c = true) (hs : (clAt l i).sup = ⟨#[]⟩) : upN l i = none := by
  unfold upN
  rw [hs]
  refine atZ_none (fun m h1 h2 e => ?_)
  have := hn m h1 h2
  unfold named1 at this
  simp at this
  exact this.1.1 e
theorem isEmpty_eq (s : ByteArray) : s.toList.isEmpty = decide (s = ⟨#[]⟩) := by
  by_cases e : s = ⟨#[]⟩
  · subst e; rw [toList_data]; simp
  · rw [decide_eq_false e]
    rw [toList_data]
    cases h : s.data.toList with
    | nil => exact absurd (ByteArray.ext (Array.toList_inj.1 h)) e
    | cons x xs => rfl
theorem madeB_eq (l : List Cl) : madeB l = ((List.range l.length).all (named1 l) && !dupB l) := by
  unfold madeB dupB; rw [Bool.not_not]
theorem made_no {l : List Cl} {i : Nat} (hi : i < l.length) (h : named1 l i = false) : madeB l = false := by
  rw [madeB_eq, Bool.and_eq_false_iff]
  left
  rw [List.all_eq_false]
  exact ⟨i, List.mem_range.2 hi, by simp [h]⟩
theorem made_rep {l : List Cl} (h : ∀ c, c < l.length → named1 l c = true) : madeB l = !dupB l := by
  rw [madeB_eq, show (List.range l.length).all (named1 l) = true from List.all_eq_true.2 (fun c hc => h c (List.mem_range.1 hc))]; rfl
theorem ret37 {V : World} {B : Nat} {tm : Array Value} {a b c : Value} {x : Bool} {R : Ending → World → Prop} (hVb : V.heap[B]? = some (.cells #[a, b, c] 64 (0, 0)))
    (h2 : tm.getD 2 undef = .pointer (some ⟨B, 0, none⟩)) (h3 : tm.getD 3 undef = .bool x) (hR : R (.returned (.tuple #[.agg #[a, b, c], .bool x])) V) : bodyPost Try.prog Try.f37 R .ret ⟨tm, []⟩ V := by
  have x0 : V.cell? ⟨B, 0, none⟩ = some a := by rw [cell_in hVb]; rfl
  have x1 : V.cell? ⟨B, 1, none⟩ = some b := by rw [cell_in hVb]; rfl
  have x2 : V.cell? ⟨B, 2, none⟩ = some c := by rw [cell_in hVb]; rfl
  have h2' : tm[2]?.getD undef = .pointer (some ⟨B, 0, none⟩) := by simpa using h2
  have h3' : tm[3]?.getD undef = .bool x := by simpa using h3
  refine bodyPost_ret (v := .tuple #[.agg #[a, b, c], .bool x]) (by simp [results, Try.results37, go_sem, h2, h2', h3, h3', x0, x1, x2]) rfl hR
theorem three_set {V : World} {B : Nat} {C : Array Value} (h : V.heap[B]? = some (.cells C 64 (0, 0))) (hC : C.size = 3) (x y z : Value) : (((V.setCell ⟨B, 0, none⟩ x).setCell ⟨B, 1, none⟩ y).setCell ⟨B, 2, none⟩ z).heap[B]? = some (.cells #[x, y, z] 64 (0, 0)) := by
  rw [set_in (set_in (set_in h 0 x) 1 y) 2 z]
  match C, hC with
  | ⟨[a, b, c]⟩, _ => simp
/-- what a lineage that is not well made is -/
def Lnil (u : Value) : Prop := ∃ p1 n1 c1 p2 n2 c2 fv, u = .agg #[.slice p1 n1 c1, .slice p2 n2 c2, fv] ∧ (fv = .nilFunc ∨ ∃ bf, fv = .func (.func 58) #[] #[.pointer (some bf)])
/-- a lineage in memory -/
structure Lin (w : World) (v : Value) (l : List Cl) (g : Nat) (bf m : Nat) : Prop where
  above : Row w g l.length (fun c => zO (upN l c))
  find : Fnd w bf m (names l)
theorem Lin.idle {w w' : World} {v : Value} {l : List Cl} {g bf m : Nat} (h : Lin w v l g bf m) (hf : Fr [] w w') : Lin w' v l g bf m := ⟨h.above.keep hf (by simp), h.find.idle hf⟩
def LinP (l : List Cl) (v : Value) (w : World) (e : Ending) (w' : World) : Prop :=
  (madeB l = false ∧ (∃ u, e = .returned (.tuple #[u, .bool false]) ∧ Lnil u) ∧ Fr [] w w') ∨
  (madeB l = true ∧ ∃ g bf m, e = .returned (.tuple #[.agg (linV v (.slice (some ⟨g, 0, none⟩) l.length l.length) ⟨bf, 0, none⟩), .bool true]) ∧ Lin w' v l g bf m ∧ Fr [] w w')
set_option maxRecDepth 20000 in
set_option maxHeartbeats 4000000 in
theorem lineageOf_ok (l : List Cl) (v : Value) (w : World) (h : RdC w v l) (hn : l.length ≤ 1048576) (hz : ∀ k, k < l.length → (clAt l k).own.length ≤ 4194304 ∧ ∀ s ∈ (clAt l k).own, s.size ≤ maxLen) (hy : ∀ k, k < l.length → (clAt l k).name.size ≤ maxLen ∧ (clAt l k).sup.size ≤ maxLen) :
    Calls Try.prog 37 #[v] w (LinP l v w) := by
  have HW : Hid (∀ d, d < l.length → ∃ pv nv cv, (clAt l d).v = .slice pv nv cv) := mkHid (fun d hd => by obtain ⟨pv, cv, e, _⟩ := (h.own d hd).at_; exact ⟨pv, _, cv, e⟩)
  have HFd : Hid (∀ V, Fr [] w V → Calls Try.prog 47 #[v, .func (.func 48) #[] #[]] V fun e w' => ∃ b m, e = .returned (.func (.func 58) #[] #[.pointer (some ⟨b, 0, none⟩)]) ∧ Fnd w' b m (names l) ∧ Fr [] V w' ∧ V.heap.size ≤ b ∧ V.heap.size ≤ m) := mkHid (fun V hV => finderC_ok l v V (h.idle hV) (fun k hk => (hy k hk).1))
  have HRp : Hid (∀ V ga bf, Fr [] w V → RdI V ga (ups (upN l) l.length) → Calls Try.prog 49 #[.agg (linV v ga bf)] V fun e w' => e = .returned (.bool (dupB l)) ∧ Fr [] V w') := mkHid (fun V ga bf hV hR => repeats_ok l v ga bf V (h.idle hV) hn hR hz)
  obtain ⟨p, c, rfl, h1⟩ := h.at_
  have s1 := h.short
  have H1 := mkHid h1
  have HY := mkHid hy
  have hmk := make_ints l.length (by omega)
  clear h h1 hz hy
  go_enter Try.func37, Try.ntmps37
  go_wp2_with (first
    | (go_at_call 47
       refine (HFd.out _ (Fr.alloc [] w _)).mono ?_
       rintro e w3 ⟨bf, m, rfl, hfd, hfr3, hb1, hb2⟩))
  have hb0 : w3.heap[w.heap.size]? = some (.cells #[.slice none 0 0, .slice none 0 0, .nilFunc] 64 (0, 0)) := (hfr3.block _ (by simp) (by simp)).trans (heap_alloc_new w _)
  have HB0 : Hid ((w3.alloc (.cells (zerosI l.length).toArray 3)).heap[w.heap.size]? = some (.cells #[.slice none 0 0, .slice none 0 0, .nilFunc] 64 (0, 0))) := mkHid ((Below.heap_alloc _ _ _ (lt_of_heap hb0)).trans hb0)
  have HF0 : Hid (Fr [] w (w3.alloc (.cells (zerosI l.length).toArray 3))) := mkHid (((Fr.alloc [] w _).trans hfr3 (by simp)).trans (Fr.alloc [] _ _) (by simp))
  have HR0 := mkHid (row_new w3 l.length)
  have HFn : Hid (Fnd (w3.alloc (.cells (zerosI l.length).toArray 3)) bf m (names l)) := mkHid (hfd.idle (Fr.alloc [] _ _))
  have HGl : Hid (w.heap.size < w3.heap.size) := mkHid (lt_of_heap hb0)
  have HMl : Hid (bf < w3.heap.size ∧ m < w3.heap.size) := mkHid hfd.lt
  clear HFd hfd hfr3 hb1 hb2 hb0
  go_wp2_with fail
  clear hmk
  generalize w3.heap.size = ga at *
  generalize w3.alloc (.cells (zerosI l.length).toArray 3) = w4 at *
  go_loopw [16] (fun q wr => ∃ i : Nat, i ≤ l.length ∧ q = .int .i64 i ∧ Hid (∀ c, c < i → c < l.length → named1 l c = true) ∧ Hid (Row wr ga l.length (fun c => if c < i then zO (upN l c) else 0)) ∧ Hid (Fnd wr bf m (names l)) ∧ Hid (wr.heap[w.heap.size]? = some (.cells #[.slice none 0 0, .slice none 0 0, .nilFunc] 64 (0, 0))) ∧ Hid (Fr [] w wr)) (fun q _ => l.length - (intOf q).toNat)
  case atStart => exact ⟨0, Nat.zero_le _, rfl, mkHid (fun c hc => absurd hc (Nat.not_lt_zero _)), mkHid (HR0.out.eqf (fun c _ => by rw [if_neg (Nat.not_lt_zero _)])), HFn, HB0, HF0⟩
  case round =>
    obtain ⟨i, hi, rfl, hnm, hrw, hfd, hbx, hfr⟩ := hrel
    clear HB0 HF0 HR0 HFn
    have i0 : (0 : Int) ≤ (i : Int) := by omega
    by_cases hlt : i < l.length
    · have i3 : (i : Int) < (l.length : Int) := by omega
      obtain ⟨g, off, rfl, x1, x2⟩ := H1.out (by omega)
      obtain ⟨y0, y1, y2, y3⟩ := x2 i hlt
      have k0 := (hfr.out.cell (p := ⟨g, off + i * 4, none⟩) x1 (by simp)).trans y0
      have k1 := (hfr.out.cell (p := ⟨g, off + i * 4 + 1, none⟩) x1 (by simp)).trans y1
      have k2 := (hfr.out.cell (p := ⟨g, off + i * 4 + 2, none⟩) x1 (by simp)).trans y2
      have k3 := (hfr.out.cell (p := ⟨g, off + i * 4 + 3, none⟩) x1 (by simp)).trans y3
      obtain ⟨pv, nv, cv, ev⟩ := HW.out i hlt
      rw [ev] at k2
      obtain ⟨hy1, hy2⟩ := HY.out i hlt
      have HN1 : Hid (named1 l i = (decide ((clAt l i).name ≠ ⟨#[]⟩) && decide (amongZ (names l) (clAt l i).name = (i : Int)) && (decide ((clAt l i).sup = ⟨#[]⟩) || (upN l i).isSome))) := mkHid (by unfold named1; rw [at_self hlt])
      have HUS : Hid (∀ k, upN l i = some k → amongZ (names l) (clAt l i).sup = (k : Int) ∧ k < i) := mkHid (fun k hk => at_some hk)
      have HUN : Hid (upN l i = none → amongZ (names l) (clAt l i).sup = -1 ∨ (i : Int) ≤ amongZ (names l) (clAt l i).sup) := mkHid (fun hk => at_none hk (by omega))
      have HU0 : Hid ((clAt l i).sup = ⟨#[]⟩ → upN l i = none) := mkHid (fun hk => sup_no hnm.out hk)
      have HNo : Hid (named1 l i = false → madeB l = false) := mkHid (made_no hlt)
      have HNm : Hid (named1 l i = true → ∀ c, c < i + 1 → c < l.length → named1 l c = true) := mkHid (fun h c h1 h2 => by
        by_cases e : c = i
        · rw [e]; exact h
        · exact hnm.out c (by omega) h2)
      have HFu : Hid (∀ V s, Fnd V bf m (names l) → s.size ≤ maxLen → Calls Try.prog 58 #[.string s, .pointer (some ⟨bf, 0, none⟩)] V fun e w' => e = .returned (.int .i64 (amongZ (names l) s)) ∧ w' = V) := mkHid (fun V s hV hs => find58 s bf m (names l) V hV hs)
      have hzlo := amongZ_lo (names l) (clAt l i).sup
      have hzhi := amongZ_lt (names l) (clAt l i).sup
      have hnlo := amongZ_lo (names l) (clAt l i).name
      have hnhi := amongZ_lt (names l) (clAt l i).name
      have hnl : (names l).length = l.length := by simp [names]
      rw [hnl] at hzhi hnhi
      obtain ⟨W1, hW1⟩ : ∃ W, wr.alloc (.cells #[.string (clAt l i).name, .string (clAt l i).sup, .slice pv nv cv, .int .i64 (clAt l i).lay] 47) = W := ⟨_, rfl⟩
      have f1 : Fr [] wr W1 := hW1 ▸ Fr.alloc [] wr _
      have hb1 : W1.heap[wr.heap.size]? = some (.cells #[.string (clAt l i).name, .string (clAt l i).sup, .slice pv nv cv, .int .i64 (clAt l i).lay] 47 (0, 0)) := hW1 ▸ heap_alloc_new wr _
      have a0 : W1.cell? ⟨wr.heap.size, 0, none⟩ = some (.string (clAt l i).name) := by rw [cell_in hb1]; rfl
      have HB1 := mkHid ((f1.block _ (lt_of_heap hbx.out) (by simp)).trans hbx.out)
      have HF1 : Hid (Fr [] w W1) := mkHid (hfr.out.trans f1 (by simp))
      have HD1 := mkHid (hfd.out.idle f1)
      have HR1 := mkHid (hrw.out.keep f1 (by simp))
      have r1 := HR1.out.cell hlt
      have r2 := HR1.out.frozen i
      have hgb : ga < wr.heap.size := hrw.out.lt
      obtain ⟨W2, hW2⟩ : ∃ W, W1.setCell ⟨ga, i, none⟩ (.int .i64 (-1)) = W := ⟨_, rfl⟩
      have f2 : Fr [ga] W1 W2 := hW2 ▸ Fr.setCell W1 ⟨ga, _, none⟩ _ (by simp)
      have hML := HMl.out
      have hGl := HGl.out
      have HD2 := mkHid (HD1.out.keep f2 (by simp; omega) (by simp; omega))
      have HB2 := mkHid ((f2.block _ (lt_of_heap HB1.out) (by simp; omega)).trans HB1.out)
      have HF2 : Hid (Fr [] w W2) := mkHid (HF1.out.trans f2 (by simp; omega))
      have hb2 := (f2.block _ (lt_of_heap hb1) (by simp; omega)).trans hb1
      have a1 : W2.cell? ⟨wr.heap.size, 1, none⟩ = some (.string (clAt l i).sup) := by rw [cell_in hb2]; rfl
      have HR2 : Hid (Row W2 ga l.length _) := mkHid (hW2 ▸ HR1.out.set i (-1))
      have r3 := HR2.out.cell hlt
      have r4 := HR2.out.frozen i
      rw [if_pos rfl] at r3
      obtain ⟨W3, hW3⟩ : ∃ W, W2.setCell ⟨ga, i, none⟩ (.int .i64 (amongZ (names l) (clAt l i).sup)) = W := ⟨_, rfl⟩
      have f3 : Fr [ga] W2 W3 := hW3 ▸ Fr.setCell W2 ⟨ga, _, none⟩ _ (by simp)
      have HR3 : Hid (Row W3 ga l.length _) := mkHid (hW3 ▸ HR2.out.set i _)
      have r5 := HR3.out.cell hlt
      rw [if_pos rfl] at r5
      have HD3 := mkHid (HD2.out.keep f3 (by simp; omega) (by simp; omega))
      have HB3 := mkHid ((f3.block _ (lt_of_heap HB2.out) (by simp; omega)).trans HB2.out)
      have HF3 : Hid (Fr [] w W3) := mkHid (HF2.out.trans f3 (by simp; omega))
      have HZ1 : Hid (∀ V : World, V.heap[w.heap.size]? = some (.cells #[.slice none 0 0, .slice none 0 0, .nilFunc] 64 (0, 0)) → V.cell? ⟨w.heap.size, 0, none⟩ = some (.slice none 0 0) ∧ V.cell? ⟨w.heap.size, 1, none⟩ = some (.slice none 0 0) ∧ V.cell? ⟨w.heap.size, 2, none⟩ = some .nilFunc ∧ V.frozen? ⟨w.heap.size, 0, none⟩ = false ∧ V.frozen? ⟨w.heap.size, 1, none⟩ = false ∧ V.frozen? ⟨w.heap.size, 2, none⟩ = false) := mkHid (fun V h => ⟨by rw [cell_in h]; rfl, by rw [cell_in h]; rfl, by rw [cell_in h]; rfl, frozen_in h 0, frozen_in h 1, frozen_in h 2⟩)
      have HRe : Hid (∀ V : World, Fr [] w V → ∀ x y z, Fr [] w (((V.setCell ⟨w.heap.size, 0, none⟩ x).setCell ⟨w.heap.size, 1, none⟩ y).setCell ⟨w.heap.size, 2, none⟩ z)) := mkHid (fun V h x y z => ((h.trans (Fr.setCell (S := [w.heap.size]) V ⟨w.heap.size, 0, none⟩ x (by simp)) (by simp)).trans (Fr.setCell (S := [w.heap.size]) _ ⟨w.heap.size, 1, none⟩ y (by simp)) (by simp)).trans (Fr.setCell (S := [w.heap.size]) _ ⟨w.heap.size, 2, none⟩ z (by simp)) (by simp))
      clear x1 x2 y0 y1 y2 y3 ev hb1 hb2 f1 f2 f3 hnm hbx hfr hfd hrw H1 HW HY hnl HRp
      have HEn : Hid (upN l i = none → Row W2 ga l.length (fun c => if c < i + 1 then zO (upN l c) else 0)) := mkHid (fun hu => HR2.out.eqf (fun c hc => by
        by_cases e : c = i
        · rw [if_pos e, if_pos (by omega), e, hu]; rfl
        · rw [if_neg e]
          by_cases e2 : c < i
          · rw [if_pos e2, if_pos (by omega)]
          · rw [if_neg e2, if_neg (by omega)]))
      have HEs : Hid (∀ k, upN l i = some k → Row W3 ga l.length (fun c => if c < i + 1 then zO (upN l c) else 0)) := mkHid (fun k hu => HR3.out.eqf (fun c hc => by
        by_cases e : c = i
        · rw [if_pos e, if_pos (by omega), e, hu, (HUS.out k hu).1]; rfl
        · rw [if_neg e, if_neg e]
          by_cases e2 : c < i
          · rw [if_pos e2, if_pos (by omega)]
          · rw [if_neg e2, if_neg (by omega)]))
      clear HR1 HR2 HR3
      by_cases hA : (clAt l i).name = ⟨#[]⟩
      · have HM := mkHid (HNo.out (by rw [HN1.out, decide_eq_false (by simpa using hA)]; rfl))
        have hb : (clAt l i).name.toList.isEmpty = true := by rw [isEmpty_eq]; exact decide_eq_true hA
        obtain ⟨q0, q1, q2, q3, q4, q5⟩ := HZ1.out _ HB1.out
        clear hA HNo HN1 HUS HUN HU0 HNm HFu HEn HEs
        generalize (clAt l i).name = nm at *
        generalize (clAt l i).sup = sp at *
        generalize (clAt l i).lay = ly at *
        go_wp2_with fail
        refine ret37 (B := w.heap.size) (a := .slice none 0 0) (b := .slice none 0 0) (c := .nilFunc) (x := false) ?_ (by rfl) (by rfl) ?_
        · exact three_set HB1.out rfl _ _ _
        exact .inl ⟨HM.out, ⟨_, rfl, _, _, _, _, _, _, _, rfl, .inl rfl⟩, HRe.out _ HF1.out _ _ _⟩
      · have hb : (clAt l i).name.toList.isEmpty = false := by rw [isEmpty_eq]; exact decide_eq_false hA
        by_cases hB : amongZ (names l) (clAt l i).name = (i : Int)
        · by_cases hC : (clAt l i).sup = ⟨#[]⟩
          · have HT := mkHid (HNm.out (by rw [HN1.out, decide_eq_true hA, decide_eq_true hB, decide_eq_true hC]; rfl))
            have HRW := mkHid (HEn.out (HU0.out hC))
            have hb2 : (clAt l i).sup.toList.isEmpty = true := by rw [isEmpty_eq]; exact decide_eq_true hC
            clear hA hC HNo HN1 HUS HUN HU0 HNm HEn HEs hnlo hnhi hzlo hzhi hW3 r5
            generalize (clAt l i).name = nm at *
            generalize (clAt l i).sup = sp at *
            generalize (clAt l i).lay = ly at *
            generalize amongZ (names l) = F at *
            go_wp2_with (first | (go_at_call 58; refine (HFu.out _ _ (by first | exact HD1.out | exact HD2.out) (by first | exact hy1 | exact hy2)).mono ?_; rintro e w9 ⟨rfl, rfl⟩))
            go_roundw
            case rel => exact ⟨i + 1, by omega, by go_num, HT, HRW, HD2, HB2, HF2⟩
            case measure => simp [intOf]; omega
          · have hb2 : (clAt l i).sup.toList.isEmpty = false := by rw [isEmpty_eq]; exact decide_eq_false hC
            cases hu : upN l i with
            | some k =>
              obtain ⟨e1, e2⟩ := HUS.out k hu
              have HT := mkHid (HNm.out (by rw [HN1.out, decide_eq_true hA, decide_eq_true hB, hu]; simp))
              have HRW := mkHid (HEs.out k hu)
              rw [e1] at r5 hW3
              have d1 : (0 : Int) ≤ (k : Int) := by omega
              have d2 : (k : Int) < (i : Int) := by omega
              clear hA hC HNo HN1 HUS HUN HU0 HNm HEn HEs hnlo hnhi hzlo hzhi hu e2
              generalize (clAt l i).name = nm at *
              generalize (clAt l i).sup = sp at *
              generalize (clAt l i).lay = ly at *
              generalize amongZ (names l) = F at *
              go_wp2_with (first | (go_at_call 58; refine (HFu.out _ _ (by first | exact HD1.out | exact HD2.out) (by first | exact hy1 | exact hy2)).mono ?_; rintro e w9 ⟨rfl, rfl⟩))
              go_roundw
              case rel => exact ⟨i + 1, by omega, by go_num, HT, HRW, HD3, HB3, HF3⟩
              case measure => simp [intOf]; omega
            | none =>
              have hzz := HUN.out hu
              have HM := mkHid (HNo.out (by rw [HN1.out, decide_eq_false hC, hu]; simp))
              obtain ⟨q0, q1, q2, q3, q4, q5⟩ := HZ1.out _ HB3.out
              clear hA hC HNo HN1 HUS HUN HU0 HNm HEn HEs hnlo hnhi hu
              generalize (clAt l i).name = nm at *
              generalize (clAt l i).sup = sp at *
              generalize (clAt l i).lay = ly at *
              generalize amongZ (names l) = F at *
              rcases hzz with hzz | hzz
              · have d1 : F sp < 0 := by omega
                clear hzz
                go_wp2_with (first | (go_at_call 58; refine (HFu.out _ _ (by first | exact HD1.out | exact HD2.out) (by first | exact hy1 | exact hy2)).mono ?_; rintro e w9 ⟨rfl, rfl⟩))
                refine ret37 (B := w.heap.size) (a := .slice none 0 0) (b := .slice none 0 0) (c := .nilFunc) (x := false) ?_ (by rfl) (by rfl) ?_
                · exact three_set HB3.out rfl _ _ _
                exact .inl ⟨HM.out, ⟨_, rfl, _, _, _, _, _, _, _, rfl, .inl rfl⟩, HRe.out _ HF3.out _ _ _⟩
              · have d1 : ¬ F sp < 0 := by omega
                go_wp2_with (first | (go_at_call 58; refine (HFu.out _ _ (by first | exact HD1.out | exact HD2.out) (by first | exact hy1 | exact hy2)).mono ?_; rintro e w9 ⟨rfl, rfl⟩))
                refine ret37 (B := w.heap.size) (a := .slice none 0 0) (b := .slice none 0 0) (c := .nilFunc) (x := false) ?_ (by rfl) (by rfl) ?_
                · exact three_set HB3.out rfl _ _ _
                exact .inl ⟨HM.out, ⟨_, rfl, _, _, _, _, _, _, _, rfl, .inl rfl⟩, HRe.out _ HF3.out _ _ _⟩
        · have HM := mkHid (HNo.out (by rw [HN1.out, decide_eq_false hB]; simp))
          obtain ⟨q0, q1, q2, q3, q4, q5⟩ := HZ1.out _ HB1.out
          have hb3 : (amongZ (names l) (clAt l i).name != (i : Int)) = true := by simpa using hB
          clear hA HNo HN1 HUS HUN HU0 HNm HEn HEs hW3 hW2 r5
          generalize (clAt l i).name = nm at *
          generalize (clAt l i).sup = sp at *
          generalize (clAt l i).lay = ly at *
          generalize amongZ (names l) = F at *
          go_wp2_with (first | (go_at_call 58; refine (HFu.out _ _ (by first | exact HD1.out | exact HD2.out) (by first | exact hy1 | exact hy2)).mono ?_; rintro e w9 ⟨rfl, rfl⟩))
          refine ret37 (B := w.heap.size) (a := .slice none 0 0) (b := .slice none 0 0) (c := .nilFunc) (x := false) ?_ (by rfl) (by rfl) ?_
          · exact three_set HB1.out rfl _ _ _
          exact .inl ⟨HM.out, ⟨_, rfl, _, _, _, _, _, _, _, rfl, .inl rfl⟩, HRe.out _ HF1.out _ _ _⟩
    · have hie : i = l.length := by omega
      subst hie
      have hro := hrw.out.eqf (f' := fun c => zO (upN l c)) (fun c hc => by rw [if_pos hc])
      have HRo := mkHid hro
      have HMd : Hid (madeB l = !dupB l) := mkHid (made_rep (fun c hc => hnm.out c hc hc))
      obtain ⟨W1, hW1⟩ : ∃ W, wr.alloc (.cells #[.slice p l.length c, .slice (some ⟨ga, 0, none⟩) l.length l.length, .func (.func 58) #[] #[.pointer (some ⟨bf, 0, none⟩)]] 64) = W := ⟨_, rfl⟩
      have f1 : Fr [] wr W1 := hW1 ▸ Fr.alloc [] wr _
      have hb1 : W1.heap[wr.heap.size]? = some (.cells #[.slice p l.length c, .slice (some ⟨ga, 0, none⟩) l.length l.length, .func (.func 58) #[] #[.pointer (some ⟨bf, 0, none⟩)]] 64 (0, 0)) := hW1 ▸ heap_alloc_new wr _
      have HRq : Hid (∀ V, Hid (Fr [] W1 V) → Calls Try.prog 49 #[.agg #[.slice p l.length c, .slice (some ⟨ga, 0, none⟩) l.length l.length, .func (.func 58) #[] #[.pointer (some ⟨bf, 0, none⟩)]]] V fun e w' => ∃ x, e = .returned x ∧ x = .bool (dupB l) ∧ Hid (Fr [] W1 w')) := mkHid (fun V hV => by
        refine Calls.mono (HRp.out V (.slice (some ⟨ga, 0, none⟩) l.length l.length) ⟨bf, 0, none⟩ ((hfr.out.trans f1 (by simp)).trans hV.out (by simp)) ?_) ?_
        · have := ((hro.keep f1 (by simp)).keep hV.out (by simp)).rd (c := l.length) (by omega)
          exact this
        · rintro e w' ⟨rfl, hf⟩
          exact ⟨_, rfl, rfl, mkHid (hV.out.trans hf (by simp))⟩)
      have HCC : Hid (∀ V, Hid (Fr [] W1 V) → V.cell? ⟨wr.heap.size, 0, none⟩ = some (.slice p l.length c) ∧ V.cell? ⟨wr.heap.size, 1, none⟩ = some (.slice (some ⟨ga, 0, none⟩) l.length l.length) ∧ V.cell? ⟨wr.heap.size, 2, none⟩ = some (.func (.func 58) #[] #[.pointer (some ⟨bf, 0, none⟩)])) := mkHid (fun V hV => by
        have hb := (hV.out.block _ (lt_of_heap hb1) (by simp)).trans hb1
        exact ⟨by rw [cell_in hb]; rfl, by rw [cell_in hb]; rfl, by rw [cell_in hb]; rfl⟩)
      have HBx : Hid (∀ V, Hid (Fr [] W1 V) → V.heap[w.heap.size]? = some (.cells #[.slice none 0 0, .slice none 0 0, .nilFunc] 64 (0, 0))) := mkHid (fun V hV => (hV.out.block _ (by have := lt_of_heap hbx.out; have := f1.size; omega) (by simp)).trans ((f1.block _ (lt_of_heap hbx.out) (by simp)).trans hbx.out))
      have HZ1 : Hid (∀ V : World, V.heap[w.heap.size]? = some (.cells #[.slice none 0 0, .slice none 0 0, .nilFunc] 64 (0, 0)) → V.cell? ⟨w.heap.size, 0, none⟩ = some (.slice none 0 0) ∧ V.cell? ⟨w.heap.size, 1, none⟩ = some (.slice none 0 0) ∧ V.cell? ⟨w.heap.size, 2, none⟩ = some .nilFunc ∧ V.frozen? ⟨w.heap.size, 0, none⟩ = false ∧ V.frozen? ⟨w.heap.size, 1, none⟩ = false ∧ V.frozen? ⟨w.heap.size, 2, none⟩ = false) := mkHid (fun V h => ⟨by rw [cell_in h]; rfl, by rw [cell_in h]; rfl, by rw [cell_in h]; rfl, frozen_in h 0, frozen_in h 1, frozen_in h 2⟩)
      have hR : Hid (Fr [] W1 W1) := mkHid (Fr.refl _ _)
      have hRd : Hid (Fr [] W1 W1.drew) := hidD hR
      obtain ⟨c0, c1, c2⟩ := HCC.out _ hRd
      have HEnd : Hid (∀ V, Hid (Fr [] W1 V) → ∀ x y z, Hid (Fr [] w (((V.setCell ⟨w.heap.size, 0, none⟩ x).setCell ⟨w.heap.size, 1, none⟩ y).setCell ⟨w.heap.size, 2, none⟩ z)) ∧ Hid (Lin (((V.setCell ⟨w.heap.size, 0, none⟩ x).setCell ⟨w.heap.size, 1, none⟩ y).setCell ⟨w.heap.size, 2, none⟩ z) (.slice p l.length c) l ga bf m)) := mkHid (fun V hV x y z => by
        have hf : Fr [w.heap.size] V (((V.setCell ⟨w.heap.size, 0, none⟩ x).setCell ⟨w.heap.size, 1, none⟩ y).setCell ⟨w.heap.size, 2, none⟩ z) := ((Fr.setCell (S := [w.heap.size]) V ⟨w.heap.size, 0, none⟩ x (by simp)).trans (Fr.setCell (S := [w.heap.size]) _ ⟨w.heap.size, 1, none⟩ y (by simp)) (by simp)).trans (Fr.setCell (S := [w.heap.size]) _ ⟨w.heap.size, 2, none⟩ z (by simp)) (by simp)
        have hG := HGl.out
        refine ⟨mkHid (((hfr.out.trans f1 (by simp)).trans hV.out (by simp)).trans hf (by simp)), mkHid ⟨?_, ?_⟩⟩
        · exact ((hro.keep f1 (by simp)).keep hV.out (by simp)).keep hf (by simp; omega)
        · have hfd2 := (hfd.out.idle f1).idle hV.out
          refine hfd2.keep hf ?_ ?_
          · intro hm
            simp at hm
            have hb := HBx.out V hV
            have := hfd2.box
            rw [hm, hb] at this
            simp at this
          · intro hm
            simp at hm
            obtain ⟨nn, D, ⟨es, clock, q1, _⟩, _⟩ := hfd2.map
            have hb := HBx.out V hV
            rw [hm, hb] at q1
            cases q1)
      clear hrw hro hnm f1 hb1 H1 HW HY HRp hbx hfr hfd HRo
      generalize dupB l = d at *
      go_wp2_with fail
      go_region_law (refine stepG (by rfl) 49 Try.f49 Try.func49 (by kernel_rfl) (by kernel_rfl) _ _ rfl _ (by first | (simp [Act.eval]; done) | (simp [Act.eval]; rfl)) (fun x w' => x = .bool d ∧ Hid (Fr [] W1 w')) (HRq.out _ hRd) ?_; rintro _ w5 ⟨rfl, hg5⟩; obtain ⟨e0, e1, e2⟩ := HCC.out _ hg5; obtain ⟨q0, q1, q2, q3, q4, q5⟩ := HZ1.out _ (HBx.out _ hg5))
      all_goals go_wp2_with fail
      all_goals
        refine ret37 (B := w.heap.size) (a := .slice p l.length c) (b := .slice (some ⟨ga, 0, none⟩) l.length l.length) (c := .func (.func 58) #[] #[.pointer (some ⟨bf, 0, none⟩)]) (x := !d) ?_ (by rfl) (by rfl) ?_
        · exact three_set (HBx.out _ hg5) rfl _ _ _
        obtain ⟨z1, z2⟩ := HEnd.out _ hg5 (.slice p l.length c) (.slice (some ⟨ga, 0, none⟩) l.length l.length) (.func (.func 58) #[] #[.pointer (some ⟨bf, 0, none⟩)])
        cases d with
        | true => exact .inl ⟨HMd.out, ⟨_, rfl, _, _, _, _, _, _, _, rfl, .inr ⟨_, rfl⟩⟩, z1.out⟩
        | false => exact .inr ⟨HMd.out, ga, bf, m, rfl, z2.out, z1.out⟩
end Go.Proofs.Ytblbjgifhgfifaa
