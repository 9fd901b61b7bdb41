import Derived.Test.YtpaekbghnejhoaaDoorEG13CEn
import Derived.Sort.LoopGhostIn
import Derived.Laws.EntriesVeiled
import Derived.Test.YtpaekbghnejhoaaDoorEG04HGet
import Derived.Test.YtpaekbghnejhoaaDoorEG10HStateX
import Derived.Test.YtpaekbghnejhoaaDoorEG12CPure
namespace Go.Proofs.YtpaekbghnejhoaaDoor
open Go.RowKit Go.Shelf
set_option linter.unusedVariables false
attribute [local go_sem] Oper.semAt_some
/-- between two objects -/
structure St (w : World) (a bh br ba bm : Nat) (ps : Option Addr) (n sc : Nat) (v : Value) (H : HS) (M : MS) (roots : List Int) (s : List Nat × List Nat) (av : Value) (Ds : List Nat) (W : World) : Prop where
  en : En w bh br ba bm v (allTo H H.seats.length) (touch ps ba av) W
  rc : Rc w.heap.size W a bh br ba ps n sc s.1 s.2 av
  sh : Sh n s
  sr : Sr H M roots s
  nd : Ds.Nodup
  marks : ∀ D ∈ Ds, w.heap.size ≤ D ∧ W.heap[D]? = some (.deferred (some []))
set_option maxRecDepth 100000 in
set_option maxHeartbeats 4000000 in
theorem Reach_ok (a : Nat) (l : Lay) (H : HS) (M : MS) (p : Option Addr) (c : Nat) (roots : List Int) (w : World) (h : Rep w a l H) (hi : Inv H M) (hT : Tab w) (hr : Rd w (.slice p roots.length c) roots) :
    Calls Tryd.prog 19 #[.pointer (some ⟨a, 0, none⟩), .slice p roots.length c] w fun e w' => ∃ v, e = .returned (.tuple #[v, .int .i64 0]) ∧ ∃ rs, Sr H M roots (rs, []) ∧ w'.ownsRow w.heap.size 3 1 v ((allTo H H.seats.length).filter fun x => decide (x ∈ rs)).length (((allTo H H.seats.length).filter fun x => decide (x ∈ rs)).map I) ∧ Fr [] w w' := by
  refine (callsIn_wide (n := 9)).1 ?_
  refine callsIn_of_wp_marks Tryd.func19 rfl trivial ?_ rfl
  simp only [Tryd.ntmps19, List.size_toArray, List.length_cons, List.length_nil, Nat.reduceAdd, Nat.reduceSub, Array.replicate_succ, Array.replicate_zero, List.push_toArray, List.append_toArray, List.nil_append, List.cons_append]
  have HR := mkHid h
  have HI := mkHid hi
  have HT := mkHid hT
  have HRD := mkHid hr
  clear h hi hT hr
  gi_wp2
  refine ⟨trivial, ?_⟩
  refine (callsIn_wide.2 (All_ok a l H _ (HR.out.alloc _) HI.out.told.seats)).mono ?_
  rintro e w2 ⟨v, rfl, hv2, hf2⟩
  gi_wp2
  refine ⟨trivial, ?_⟩
  refine (callsIn_wide.2 (marks_any H _ rfl HI.out.told.seats _ v w2 hv2)).mono ?_
  rintro e w3 ⟨ps, n, sc, rfl, hps, hf3, hn, hlt, hsb⟩
  gi_wp2
  have hs2 : w.heap.size + 1 ≤ w2.heap.size := by have := hf2.size; simpa using this
  have hs3 := hf3.size
  have hfw : Fr [] w w3 := ((Fr.alloc [] w (.cells #[.pointer (some ⟨a, 0, none⟩)] 27)).trans hf2 (by simp)).trans hf3 (by simp)
  obtain ⟨V, hV⟩ : ∃ V, (((w3.alloc (Obj.cells #[Value.slice ps n sc] 99)).alloc (Obj.cells #[Value.slice none 0 0] 26)).alloc (Obj.cells #[Value.func (Fn.func 54) #[] #[Value.pointer (some { block := w.heap.size, off := 0 }), Value.pointer (some { block := w3.heap.size, off := 0 }), Value.pointer (some { block := w3.heap.size + 1, off := 0 })]] 103)) = V := ⟨_, rfl⟩
  rw [hV]
  have hf3V : Fr [] w3 V := by rw [← hV]; exact ((Fr.alloc [] _ _).trans (Fr.alloc [] _ _) (by simp)).trans (Fr.alloc [] _ _) (by simp)
  have hszV : V.heap.size = w3.heap.size + 3 := by rw [← hV]; simp
  have hbr : V.heap[w3.heap.size]? = some (.cells #[.slice ps n sc] 99 (0, 0)) := by
    rw [← hV, Below.heap_alloc _ _ _ (by simp; omega), Below.heap_alloc _ _ _ (by simp)]; exact heap_alloc_new _ _
  have hba : V.heap[w3.heap.size + 1]? = some (.cells #[.slice none 0 0] 26 (0, 0)) := by
    rw [← hV, Below.heap_alloc _ _ _ (by simp)]
    have := heap_alloc_new (w3.alloc (Obj.cells #[Value.slice ps n sc] 99)) (Obj.cells #[Value.slice none 0 0] 26)
    simpa using this
  have hbm : V.heap[w3.heap.size + 2]? = some (.cells #[meetV w.heap.size w3.heap.size (w3.heap.size + 1)] 103 (0, 0)) := by
    rw [← hV]
    have := heap_alloc_new ((w3.alloc (Obj.cells #[Value.slice ps n sc] 99)).alloc (Obj.cells #[Value.slice none 0 0] 26)) (Obj.cells #[Value.func (Fn.func 54) #[] #[Value.pointer (some { block := w.heap.size, off := 0 }), Value.pointer (some { block := w3.heap.size, off := 0 }), Value.pointer (some { block := w3.heap.size + 1, off := 0 })]] 103)
    simpa [meetV] using this
  have hbh : V.heap[w.heap.size]? = some (.cells #[.pointer (some ⟨a, 0, none⟩)] 27 (0, 0)) := by
    rw [hf3V.block _ (by omega) (by simp), hf3.block _ (by omega) (by simp), hf2.block _ (by simp) (by simp)]
    exact heap_alloc_new _ _
  have hks : V.ownsRow w.heap.size 3 1 v (allTo H H.seats.length).length ((allTo H H.seats.length).map I) := by
    have h1 := own_congr (own_congr hv2 fun g hg => hf3.block g (hv2.lt g hg).2 (by simp)) (w' := V) fun g hg => hf3V.block g (by have := (hv2.lt g hg).2; omega) (by simp)
    exact own_base h1 (by simp)
  have hrc : Rc w.heap.size V a w.heap.size w3.heap.size (w3.heap.size + 1) ps n sc [] [] (.slice none 0 0) := by
    refine ⟨⟨Nat.le_refl _, by omega, by omega⟩, hbh, hbr, hba, World.ownsRow_nil _ _ _ _, fun h0 => ?_⟩
    obtain ⟨sb, e, h1, h2⟩ := hsb h0
    exact ⟨sb, e, by omega, (hf3V.block _ (lt_of_heap h2) (by simp)).trans h2⟩
  have hsbs : ∀ q, ps = some q → w2.heap.size ≤ q.block ∧ q.block < w3.heap.size := fun q e => by
    by_cases h0 : n = 0
    · rw [hps h0] at e; cases e
    · obtain ⟨sb, e1, h1, h2⟩ := hsb (by omega)
      rw [e1] at e; cases e; exact ⟨h1, lt_of_heap h2⟩
  have hEn : En w w.heap.size w3.heap.size (w3.heap.size + 1) (w3.heap.size + 1 + 1) v (allTo H H.seats.length) (touch ps (w3.heap.size + 1) (.slice none 0 0)) V := by
    refine ⟨hfw.trans hf3V (by simp), hbm, hks, fun hm => ?_, fun g hg hm => ?_, fun b hb => ?_⟩
    · rcases mem_touch.1 hm with ⟨q, e, e2⟩ | e | e
      · have := hsbs q e; omega
      · omega
      · cases e
    · have := (hv2.lt g hg).2
      rcases mem_touch.1 hm with ⟨q, e, e2⟩ | e | e
      · have := hsbs q e; omega
      · omega
      · cases e
    · rcases mem_touch.1 hb with ⟨q, e, e2⟩ | e | e
      · have := hsbs q e; omega
      · omega
      · cases e
  have hWk : Wk w.heap.size a w.heap.size w3.heap.size (w3.heap.size + 1) ps n sc V (.slice none 0 0) ([], []) (.slice none 0 0) V := Wk.refl hrc
  have HEn := mkHid hEn
  have HWk := mkHid hWk
  have HLt := mkHid hlt
  have HPs := mkHid hps
  clear hEn hWk hrc hks hbh hbm hba hbr hf3V hV hfw hsb hf2 hf3 hv2 hlt hps hsbs
  have hro := HRD.out.short
  obtain ⟨p', c', ep, hat⟩ := HRD.out.at_
  cases ep
  have HAT := mkHid hat
  clear hat HRD
  gi_loopw [24] (fun i wr => ∃ k : Nat, k ≤ roots.length ∧ i = .int .i64 k ∧ ∃ av, Hid (Wk w.heap.size a w.heap.size w3.heap.size (w3.heap.size + 1) ps n sc V (.slice none 0 0) ((roots.take k).foldl (seen1 H) ([], [])) av wr))
    (fun i _ => roots.length - (intOf i).toNat)
  case atStart => exact ⟨0, Nat.zero_le _, rfl, _, HWk⟩
  case round =>
    obtain ⟨k, hk, rfl, av, HK⟩ := hrel
    by_cases hlt : k < roots.length
    · have hE := HEn.out.step HK.out
      obtain ⟨g, off, rfl, hg, hcell⟩ := HAT.out (by omega)
      have cm := hE.cm
      unfold meetV at cm
      have cz : wr.cell? ⟨g, off + k, none⟩ = some (.int .i64 (roots.getD k 0)) := (hE.fr.cell (p := ⟨g, off + k, none⟩) hg (by simp)).trans (hcell k hlt)
      have HM := mkHid (meet_in HR.out HI.out HT.out HLt.out hn (Sh.fold H (fun z hz => (names_lt HLt.out z hz).2) (roots.take k) ([], []) (Sh.nil n)) HEn.out HK.out (roots.getD k 0))
      have HTk : Hid ((roots.take (k + 1)).foldl (seen1 H) ([], []) = seen1 H ((roots.take k).foldl (seen1 H) ([], [])) (roots.getD k 0)) := by
        show (roots.take (k + 1)).foldl (seen1 H) ([], []) = seen1 H ((roots.take k).foldl (seen1 H) ([], [])) (roots.getD k 0)
        rw [List.take_succ_eq_append_getElem hlt, List.foldl_append, List.getD_eq_getElem?_getD, List.getElem?_eq_getElem hlt]; rfl
      generalize roots.getD k 0 = z at *
      clear hE hcell HK HAT
      gi_wp2
      refine ⟨trivial, ?_⟩
      refine (callsIn_wide.2 HM.out).mono ?_
      rintro e W2 ⟨rfl, av', hk2, _⟩
      have HK2 := mkHid hk2
      clear hk2
      gi_wp2
      go_roundw
      case rel => exact ⟨k + 1, by omega, by simp, av', by rw [HTk.out]; exact HK2⟩
      case measure => simp [intOf]; omega
    · obtain rfl : k = roots.length := by omega
      rw [List.take_length] at HK
      gi_wp2
      have HSt : Hid (St w a w.heap.size w3.heap.size (w3.heap.size + 1) (w3.heap.size + 1 + 1) ps n sc v H M roots (roots.foldl (seen1 H) ([], [])) av [] wr) :=
        ⟨HEn.out.step HK.out, HK.out.rc, Sh.fold H (fun z hz => (names_lt HLt.out z hz).2) roots ([], []) (Sh.nil n), Sr.start H M roots, by simp, by simp⟩
      clear HK HEn HWk HAT
      refine wpIn_loop_ghost_k (fun m A W => ∃ (u12 u13 u14 u32 u33 u34 u35 u36 u37 u38 u39 u40 u41 u42 u43 u44 u45 u46 u47 u48 u49 u50 u51 : Value) (Ds : List Nat) (s : List Nat × List Nat) (av : Value), m = n - s.1.length + s.2.length ∧ Hid (St w a w.heap.size w3.heap.size (w3.heap.size + 1) (w3.heap.size + 1 + 1) ps n sc v H M roots s av Ds W) ∧ A = { tmps := #[Value.pointer (some ⟨a, 0, none⟩), Value.slice p roots.length c, Value.pointer (some ⟨w.heap.size, 0, none⟩), undef, Value.slice none 0 0, Value.int .i64 0, v, Value.pointer (some ⟨w3.heap.size, 0, none⟩), Value.pointer (some ⟨w3.heap.size + 1, 0, none⟩), Value.pointer (some ⟨w3.heap.size + 1 + 1, 0, none⟩), undef, u11, u12, u13, u14, Value.pointer (some ⟨a, 0, none⟩), Value.bool false, Value.pointer (some ⟨a, 0, none⟩), v, v, Value.slice ps n sc, Value.func (Fn.func 54) #[] #[Value.pointer (some ⟨w.heap.size, 0, none⟩), Value.pointer (some ⟨w3.heap.size, 0, none⟩), Value.pointer (some ⟨w3.heap.size + 1, 0, none⟩)], Value.slice p roots.length c, Value.int .i64 roots.length, Value.int .i64 roots.length, Value.bool false, u26, u27, u28, u29, u30, u31, u32, u33, u34, u35, u36, u37, u38, u39, u40, u41, u42, u43, u44, u45, u46, u47, u48, u49, u50, u51, undef, undef, undef], defers := Ds.map markOf }) _ ⟨_, _, _, _, _, _, _, _, _, _, _, _, _, _, _, _, _, _, _, _, _, _, _, [], _, av, rfl, HSt, rfl⟩ ?_
      rintro m A W ⟨u12, u13, u14, u32, u33, u34, u35, u36, u37, u38, u39, u40, u41, u42, u43, u44, u45, u46, u47, u48, u49, u50, u51, Ds, ⟨rs, ah⟩, av1, rfl, HS, rfl⟩ J K hJ hK
      clear HSt hk hlt hszV
      rcases List.eq_nil_or_concat ah with rfl | ⟨ah, q, rfl⟩
      · have ca := HS.out.rc.abox
        have cr : W.cell? ⟨w3.heap.size, 0, none⟩ = some (.slice ps n sc) := by rw [cell_in HS.out.rc.rbox]; rfl
        have cb : W.cell? ⟨w3.heap.size + 1, 0, none⟩ = some av1 := by rw [cell_in ca]; rfl
        obtain ⟨pa, cc, rfl⟩ : ∃ pa cc, av1 = .slice pa 0 cc := by
          rcases HS.out.rc.row.2 with ⟨h2, h3⟩ | ⟨g, cap, cur, h2, h3⟩
          · exact ⟨none, 0, by rw [h2]⟩
          · exact ⟨some ⟨g, 0, none⟩, cap, h2⟩
        have hks := HS.out.en.all
        have hkl : (allTo H H.seats.length).length ≤ 1048576 := by have := allTo_len H H.seats.length; have := HI.out.told.seats; omega
        have hrd := own_rd (ss := (allTo H H.seats.length).map fun x : Nat => (x : Int)) (by rw [List.length_map, List.map_map]; exact hks) (by simp; omega)
        obtain ⟨p1, c1, ev, _⟩ := hrd.at_
        rw [List.length_map] at ev
        rw [ev] at hrd
        have HMk := mkHid (marked_ok (allTo H H.seats.length) rs n p1 c1 ps sc W hrd (fun h0 => by
          have hn0 : 0 < n := by
            obtain ⟨x, hx⟩ := List.exists_mem_of_length_pos h0
            have := HLt.out x hx; omega
          obtain ⟨sb, h1, h2, h3⟩ := HS.out.rc.marksAt hn0
          exact ⟨sb, h1, lt_of_heap h3, fun i hi => by rw [cell_in h3]; simpa using keptL_at n rs i hi⟩) HLt.out hkl hn)
        rw [← ev] at HMk
        clear ca hks hrd ev
        gi_wp2
        refine ⟨trivial, ?_⟩
        refine (callsIn_wide.2 HMk.out).mono ?_
        rintro e W2 ⟨v2, rfl, hv2, hf2⟩
        gi_wp2
        have hsW := HS.out.en.fr.size
        refine leaves_marks Ds W2 HS.out.nd (fun D hD => (hf2.block _ (lt_of_heap (HS.out.marks D hD).2) (by simp)).trans (HS.out.marks D hD).2) fun w' hsh => ?_
        refine ⟨.tuple #[v2, .int .i64 0], by simp [results, Tryd.f19], v2, rfl, rs, HS.out.sr, ?_, ?_⟩
        · exact own_base (own_congr hv2 fun g hg => hsh.fr.block g (hv2.lt g hg).2 (fun hm => by have := lt_of_heap (HS.out.marks g hm).2; have := (hv2.lt g hg).1; omega)) hsW
        · exact (HS.out.en.fr.trans hf2 (by simp)).trans hsh.fr (fun b hb => .inr (HS.out.marks b hb).1)
      · rw [List.concat_eq_append] at HS hK
        obtain ⟨pa, cc, rfl⟩ : ∃ pa cc, av1 = .slice pa (ah.length + 1) cc := by
          rcases HS.out.rc.row.2 with ⟨h2, h3⟩ | ⟨g, cap, cur, h2, h3⟩
          · simp at h3
          · exact ⟨some ⟨g, 0, none⟩, cap, by rw [h2]; simp⟩
        have hrow : W.ownsRow w.heap.size 3 1 (.slice pa (ah.length + 1) cc) (ah.length + 1) (ah.map I ++ [I q]) := by
          have := HS.out.rc.row
          simpa using this
        obtain ⟨hcut, g, rfl, cq, hle, hmax, _⟩ := own_cut hrow
        have cb : W.cell? ⟨w3.heap.size + 1, 0, none⟩ = some (.slice (some ⟨g, 0, none⟩) (ah.length + 1) cc) := by rw [cell_in HS.out.rc.abox]; rfl
        have fb : W.frozen? ⟨w3.heap.size + 1, 0, none⟩ = false := frozen_in HS.out.rc.abox 0
        have ch : W.cell? ⟨w.heap.size, 0, none⟩ = some (.pointer (some ⟨a, 0, none⟩)) := by rw [cell_in HS.out.rc.hbox]; rfl
        have hne : ¬ w.heap.size = w3.heap.size + 1 := by omega
        have hne2 : ¬ w3.heap.size + 1 = w.heap.size := by omega
        have hq : q ∈ rs := HS.out.sh.sub q (by simp)
        have hah : ah.length ≤ 1048576 := by have := HS.out.sh.alen; simp at this; omega
        unfold I at cq
        have HCut := mkHid hcut
        clear hrow hcut
        gi_wp2
        refine ⟨trivial, ?_⟩
        refine (leads_in 8 a q _).mono ?_
        rintro e W2 ⟨rfl, rfl⟩
        rw [show (W.setCell ⟨w3.heap.size + 1, 0, none⟩ (.slice (some ⟨g, 0, none⟩) ah.length cc)).heap.size = W.heap.size from by simp]
        gi_wp2
        obtain ⟨V2, hV2⟩ : ∃ V2, ((W.setCell ⟨w3.heap.size + 1, 0, none⟩ (.slice (some ⟨g, 0, none⟩) ah.length cc)).alloc (.cells #[.pointer (some ⟨a, 0, none⟩)] 27)).alloc (.cells #[.int .i64 (q : Int)] 3) = V2 := ⟨_, rfl⟩
        rw [hV2]
        have hsz2 : V2.heap.size = W.heap.size + 2 := by rw [← hV2]; simp
        have hfr2 : Fr [w3.heap.size + 1] W V2 := by
          rw [← hV2]
          exact ((Fr.setCell (S := [w3.heap.size + 1]) W _ _ (by simp)).trans (Fr.alloc [] _ _) (by simp)).trans (Fr.alloc [] _ _) (by simp)
        have hb1 : V2.heap[W.heap.size]? = some (.cells #[.pointer (some ⟨a, 0, none⟩)] 27 (0, 0)) := by
          rw [← hV2, Below.heap_alloc _ _ _ (by simp)]
          have := heap_alloc_new (W.setCell ⟨w3.heap.size + 1, 0, none⟩ (.slice (some ⟨g, 0, none⟩) ah.length cc)) (.cells #[.pointer (some ⟨a, 0, none⟩)] 27)
          simpa using this
        have hb2 : V2.heap[W.heap.size + 1]? = some (.cells #[.int .i64 (q : Int)] 3 (0, 0)) := by
          rw [← hV2]
          have := heap_alloc_new ((W.setCell ⟨w3.heap.size + 1, 0, none⟩ (.slice (some ⟨g, 0, none⟩) ah.length cc)).alloc (.cells #[.pointer (some ⟨a, 0, none⟩)] 27)) (.cells #[.int .i64 (q : Int)] 3)
          simpa using this
        have hb3 : V2.heap[w3.heap.size + 1]? = some (.cells #[.slice (some ⟨g, 0, none⟩) ah.length cc] 26 (0, 0)) := by
          have hlt := lt_of_heap HS.out.rc.abox
          rw [← hV2, Below.heap_alloc _ _ _ (by simp; omega), Below.heap_alloc _ _ _ (by simpa using hlt), set_in HS.out.rc.abox]; rfl
        have hcells := HS.out.rc.cells HPs.out
        have hneg : g ≠ w3.heap.size + 1 := fun e => by
          rcases HCut.out.2 with ⟨h1, _⟩ | ⟨g', cap, cur, h1, h2, h3, _⟩
          · cases h1
          · cases h1; rw [e, HS.out.rc.abox] at h3; simp at h3
        have hrc2 : Rc w.heap.size V2 a w.heap.size w3.heap.size (w3.heap.size + 1) ps n sc rs ah (.slice (some ⟨g, 0, none⟩) ah.length cc) := by
          refine ⟨HS.out.rc.lo, (hfr2.block _ (lt_of_heap HS.out.rc.hbox) (by simp; omega)).trans HS.out.rc.hbox, (hfr2.block _ (lt_of_heap HS.out.rc.rbox) (by simp)).trans HS.out.rc.rbox, hb3, own_congr HCut.out fun g' hg' => ?_, fun h0 => ?_⟩
          · have e : g = g' := by simpa [Value.ownBlock] using hg'
            subst e
            exact hfr2.block g (HCut.out.lt g rfl).2 (by simpa using hneg)
          · obtain ⟨sb, h1, h2, h3⟩ := HS.out.rc.marksAt h0
            exact ⟨sb, h1, h2, (hfr2.block _ (lt_of_heap h3) (by simp; intro e; rw [e, HS.out.rc.abox] at h3; simp at h3)).trans h3⟩
        have hwk0 : Wk w.heap.size a w.heap.size w3.heap.size (w3.heap.size + 1) ps n sc W (.slice (some ⟨g, 0, none⟩) (ah.length + 1) cc) (rs, ah) (.slice (some ⟨g, 0, none⟩) ah.length cc) V2 :=
          ⟨hrc2, hfr2.mono (fun b hb => .inl (mem_touch.2 (.inr (.inl (by simpa using hb))))), .inl rfl⟩
        have hen2 := HS.out.en.step hwk0
        have hthere := HS.out.sr.there q hq
        have hm : mhas M (q : Int) = true := by rw [← HI.out.hasM]; exact hthere
        have hm2 := of_decide_eq_true hm
        have hbt : (M.things.getD (q - 1) noTh).there = true := by have := hm2.2.2; rwa [show ((q : Int)).toNat - 1 = q - 1 from by omega] at this
        have hIs := HI.out.is (q - 1) (th_in hbt) hbt
        rw [show q - 1 + 1 = q from by omega] at hIs
        have hmem : (H.mem.length : Int) ≤ 1048576 := by have := HI.out.safe.small.mem; have := HI.out.safe.small.words; omega
        have hsW := HS.out.en.fr.size
        have hli : Li w.heap.size W.heap.size (W.heap.size + 1) a l H q V2 := ⟨hen2.rep HR.out, fun g hg => HR.out.lt g hg, by omega, hb1, hb2⟩
        have hsh : Sh n (rs, ah) := ⟨HS.out.sh.rd, HS.out.sh.rlt, (List.nodup_append.1 HS.out.sh.ad).1, fun x hx => HS.out.sh.sub x (by simp [hx])⟩
        have hfold : ∀ pre : List Int, Sh n (pre.foldl (seen1 H) (rs, ah)) := fun pre => Sh.fold H (fun z hz => (names_lt HLt.out z hz).2) pre (rs, ah) hsh
        refine wpIn_rangeFunc_ownG (F := Fence.wide) rfl (by decide) (gf := 86) (lb := #[.pointer (some ⟨W.heap.size, 0, none⟩), .pointer (some ⟨W.heap.size + 1, 0, none⟩)]) rfl trivial (enters_of Tryd.func86 (by kernel_rfl) rfl)
          (leads_stops 8 (by decide) w.heap.size W.heap.size (W.heap.size + 1) a l H q (M.things.getD (q - 1) noTh) hIs hmem V2 hli) Kl.trans ?hKb (Below.refl _ _) (fun _ => rfl)
          (fun pre W' => ∃ av', Wk w.heap.size a w.heap.size w3.heap.size (w3.heap.size + 1) ps n sc V2 (.slice (some ⟨g, 0, none⟩) ah.length cc) (pre.foldl (seen1 H) (rs, ah)) av' W') (fun _ _ _ => False)
          (fun pre A B row hs hg hr => hs.elim fun av' hk' => ⟨av', hk'.grown hg hr⟩) (fun _ _ _ _ _ hs _ _ => hs) ⟨_, Wk.refl hrc2⟩
          (fun x => { tmps := #[Value.pointer (some ⟨a, 0, none⟩), Value.slice p roots.length c, Value.pointer (some ⟨w.heap.size, 0, none⟩), undef, Value.slice none 0 0, Value.int .i64 0, v, Value.pointer (some ⟨w3.heap.size, 0, none⟩), Value.pointer (some ⟨w3.heap.size + 1, 0, none⟩), Value.pointer (some ⟨w3.heap.size + 1 + 1, 0, none⟩), undef, u11, Value.int .i64 ah.length, Value.int .i64 q, Value.int .i64 x, Value.pointer (some ⟨a, 0, none⟩), Value.bool false, Value.pointer (some ⟨a, 0, none⟩), v, v, Value.slice ps n sc, Value.func (Fn.func 54) #[] #[Value.pointer (some ⟨w.heap.size, 0, none⟩), Value.pointer (some ⟨w3.heap.size, 0, none⟩), Value.pointer (some ⟨w3.heap.size + 1, 0, none⟩)], Value.slice p roots.length c, Value.int .i64 roots.length, Value.int .i64 roots.length, Value.bool false, u26, u27, u28, u29, u30, u31, Value.slice (some ⟨g, 0, none⟩) (ah.length + 1) cc, Value.int .i64 (ah.length + 1), Value.bool true, Value.slice (some ⟨g, 0, none⟩) (ah.length + 1) cc, Value.int .i64 (ah.length + 1), Value.int .i64 ah.length, Value.slice (some ⟨g, 0, none⟩) (ah.length + 1) cc, Value.int .i64 ah.length, Value.pointer (some ⟨g, ah.length, none⟩), Value.int .i64 q, Value.slice (some ⟨g, 0, none⟩) (ah.length + 1) cc, Value.int .i64 ah.length, Value.slice (some ⟨g, 0, none⟩) ah.length cc, Value.pointer (some ⟨a, 0, none⟩), Value.int .i64 q, Value.func (Fn.func 86) #[] #[Value.pointer (some ⟨W.heap.size, 0, none⟩), Value.pointer (some ⟨W.heap.size + 1, 0, none⟩)], Value.int .i64 x, u49, u50, u51, undef, undef, undef], defers := [] }) ?assign ?body ?done ?stop
        case hKb =>
          intro X lx o o' h1 h2 h3 h4
          refine ⟨belowK_b (w := V2) (by omega) X lx o o' h1 h2 h3 h4, World.putObj_heap_other (by omega), World.putObj_heap_other (by omega)⟩
        case assign =>
          intro lp x X KK hKK
          gi_wp2
          exact hKK
        case body =>
          rintro lp pre x X ⟨av', hk'⟩ _
          have hE := hen2.step hk'
          have cm := hE.cm
          unfold meetV at cm
          have HMM := mkHid (meet_in HR.out HI.out HT.out HLt.out hn (hfold pre) hen2 hk' x)
          have HE := mkHid hE
          have HK' := mkHid hk'
          clear hE hk'
          gi_wp2
          refine ⟨trivial, ?_⟩
          refine (CallsIn.inRound lp (callsIn_wide.2 HMM.out)).mono ?_
          rintro e X2 ⟨rfl, av2, hk2, hf2⟩
          gi_wp2
          have hX := HK'.out.fr.size
          have hfar : ∀ b, b < V2.heap.size → W.heap.size ≤ b → b ∉ touch ps (w3.heap.size + 1) av' := fun b h1 h2 hm => by
            rcases HK'.out.far b hm with h3 | h3
            · have := (hcells b h3).2.1; omega
            · omega
          refine ⟨(keeps_of_fr hf2 fun b hb => ((HK'.out.rc.cells HPs.out) b hb).2.2).from _, ⟨hf2.below (by omega) HE.out.tT, hf2.block _ (by omega) (hfar _ (by omega) (by omega)), hf2.block _ (by omega) (hfar _ (by omega) (by omega))⟩, av2, ?_⟩
          rw [List.foldl_append]
          exact hk2
        case done =>
          rintro D ys X hD rfl ⟨av', hk'⟩ hKD
          gi_wp2
          obtain ⟨kk, hl1, hl2⟩ := fold_len H (leadsOf (M.things.getD (q - 1) noTh)) (rs, ah)
          have hrl := (hfold (leadsOf (M.things.getD (q - 1) noTh))).rlen
          refine ⟨_, ?_, hJ _ _ _ ⟨_, _, _, _, _, _, _, _, _, _, _, _, _, _, _, _, _, _, _, _, _, _, _, D :: Ds, _, av', rfl, ⟨hen2.step hk', hk'.rc, hfold _, HS.out.sr.step hq, ?_, ?_⟩, rfl⟩⟩
          · simp only [List.length_append, List.length_cons, List.length_nil] at hl1 hl2 ⊢
            omega
          · refine List.nodup_cons.2 ⟨fun hm => ?_, HS.out.nd⟩
            have := lt_of_heap (HS.out.marks D hm).2; omega
          · intro E hE
            rcases List.mem_cons.1 hE with e | hE
            · rw [e]; exact ⟨by omega, hKD⟩
            · obtain ⟨h1, h2⟩ := HS.out.marks E hE
              have hE2 : E ∉ touch ps (w3.heap.size + 1) (.slice (some ⟨g, 0, none⟩) ah.length cc) := fun hm => by
                obtain ⟨_, _, cs, tt, h3⟩ := hcells E hm
                rw [h2] at h3; simp at h3
              have hE3 : E ∉ [w3.heap.size + 1] := fun hm => hE2 (mem_touch.2 (.inr (.inl (by simpa using hm))))
              have hlt := lt_of_heap h2
              exact ⟨h1, ((hk'.fr.block E (by omega) hE2).trans (hfr2.block E hlt hE3)).trans h2⟩
        case stop =>
          rintro D cx pre X _ _ hx _
          exact hx.elim
end Go.Proofs.YtpaekbghnejhoaaDoor
namespace Go.Proofs.YtpaekbghnejhoaaDoor
open Go.RowKit
set_option linter.unusedVariables false
attribute [local go_sem ↓] Go.wp_at_zero Go.wp_at_succ
/-- the oops that stay, rising -/
def stays (H : HS) (rs : List Nat) : List Nat := (allTo H H.seats.length).filter fun x => decide (x ∈ rs)
theorem all_has {H : HS} {M : MS} (hi : Inv H M) {q : Nat} (h : q ∈ allTo H H.seats.length) : has H (q : Int) = true := by
  unfold allTo at h
  rw [List.mem_filter] at h
  have h1 := List.mem_range.1 h.1
  have h2 := of_decide_eq_true h.2
  have h0 : q ≠ 0 := fun e => by have := hi.seat0; rw [e] at h2; omega
  unfold has
  refine decide_eq_true ⟨by omega, by omega, ?_⟩
  rw [show ((q : Int)).toNat = q from by omega]; omega
theorem stays_has {H : HS} {M : MS} (hi : Inv H M) (rs : List Nat) : ∀ j ∈ stays H rs, mhas M (j : Int) = true := fun j hj => by
  rw [← hi.hasM]; exact all_has hi (List.mem_filter.1 hj).1
set_option maxRecDepth 20000 in
set_option maxHeartbeats 1000000 in
theorem Run_ok (a : Nat) (l : Lay) (H : HS) (M : MS) (p : Option Addr) (c : Nat) (roots : List Int) (w : World) (h : Rep w a l H) (hi : Inv H M) (hT : Tab w) (hr : Rd w (.slice p roots.length c) roots) (hage : H.age ≤ 1000000000) :
    Calls Tryd.prog 10 #[.pointer (some ⟨a, 0, none⟩), .slice p roots.length c] w fun e w' => ∃ rs, Sr H M roots (rs, []) ∧ e = .returned (.tuple #[.int .i64 ((H.count : Int) - (keepH H (stays H rs)).count), .int .i64 ((H.mem.length : Int) - (keepH H (stays H rs)).mem.length), .int .i64 0]) ∧
      Rep w' a l (keepH H (stays H rs)) ∧ Inv (keepH H (stays H rs)) { M with things := keptTh M.things (stays H rs) } ∧ Nx a l l w w' := by
  have HRe := mkHid (Reach_ok a l H M p c roots w h hi hT hr)
  have HR := mkHid h
  have HI := mkHid hi
  clear h hi hT hr
  go_enter Tryd.func10, Tryd.ntmps10
  go_wp2_with fail
  refine Calls.mono HRe.out ?_
  rintro e w2 ⟨v, rfl, rs, hsr, hrow, hf2⟩
  have hrow' : w2.ownsRow w.heap.size 3 1 v (stays H rs).length ((stays H rs).map I) := hrow
  obtain ⟨hK, hI2⟩ := HI.out.keep (stays H rs) (stays_has HI.out rs) hage
  obtain ⟨pv, cv, ev, hcv⟩ := own_slot (ss := (stays H rs).map fun x : Nat => (x : Int)) (by rw [List.length_map, List.map_map]; exact hrow')
  rw [List.length_map] at ev
  subst ev
  have hlen : (stays H rs).length ≤ H.seats.length := Nat.le_trans (List.length_filter_le _ _) (allTo_len H _)
  have hse := HI.out.told.seats
  have HKe := mkHid (Keep_any (stays H rs) pv cv a l H w2 (HR.out.keep hf2 (by simp)) hK (fun j hj => by
    obtain ⟨g, e, h3⟩ := hcv (by simp; omega)
    subst e
    have hg := hrow'.lt g rfl
    refine ⟨g, rfl, hg.2, fun hm => ?_, ?_⟩
    · have := HR.out.lt g hm; omega
    · rw [h3 j (by simpa using hj), List.getD_eq_getElem?_getD, List.getElem?_map, List.getD_eq_getElem?_getD, List.getElem?_eq_getElem hj]; rfl) (by omega))
  have HX := mkHid hI2
  have HF := mkHid hf2
  have HSr := mkHid hsr
  generalize hks : stays H rs = ks at *
  clear hrow hrow' hK hI2 hcv hf2 hsr
  go_wp2_with fail
  refine Calls.mono HKe.out ?_
  rintro e w3 ⟨rfl, hr3, hn3⟩
  have HN := mkHid hn3
  have HR3 := mkHid hr3
  have HKs := mkHid hks
  clear hn3 hr3 hks
  go_wp2_with fail
  refine bodyPost_ret (results_tmp3 rfl _ _ _) rfl ?_
  refine ⟨rs, HSr.out, ?_⟩
  rw [HKs.out]
  exact ⟨rfl, HR3.out, HX.out, (Nx.fr (HF.out.mono (by simp))).trans HN.out⟩
end Go.Proofs.YtpaekbghnejhoaaDoor
namespace Go.Proofs.YtpaekbghnejhoaaDoor
open Go.RowKit
set_option linter.unusedVariables false
theorem take_set_snoc (l : List Nat) (t v : Nat) (ht : t < l.length) : (l.set t v).take (t + 1) = l.take t ++ [v] := by
  rw [List.take_succ_eq_append_getElem (by simpa using ht)]
  congr 1
  · rw [List.take_set, List.set_eq_of_length_le (by simp; omega)]
  · simp
/-- what the slide makes of the order, and how far the words reach -/
theorem slide_at (H : HS) : ∀ k, k ≤ H.order.length → (slideTo H k).turns ≤ k ∧ (slideTo H k).H.order.length = H.order.length ∧ (slideTo H k).H.order.take (slideTo H k).turns = (H.order.take k).filter (fun o => o != 0) ∧
    (∀ r, k ≤ r → (slideTo H k).H.order.getD r 0 = H.order.getD r 0) ∧ (∀ o, ((slideTo H k).H.seats.getD o (0, 0, 0)).2.1 = (H.seats.getD o (0, 0, 0)).2.1) ∧ (slideTo H k).en = (((H.order.take k).filter (fun o => o != 0)).map (fun o => (H.seats.getD o (0, 0, 0)).2.1)).sum ∧ (slideTo H k).H.seats.length = H.seats.length := by
  intro k
  induction k with
  | zero => intro _; exact ⟨Nat.le_refl _, rfl, rfl, fun _ _ => rfl, fun _ => rfl, rfl, rfl⟩
  | succ k ih =>
    intro hk
    obtain ⟨h1, h2, h3, h4, h5, h6, h7⟩ := ih (by omega)
    have ho := h4 k (Nat.le_refl _)
    have hg : H.order.getD k 0 = H.order[k] := by rw [List.getD_eq_getElem?_getD, List.getElem?_eq_getElem (by omega)]; rfl
    have ht : H.order.take (k + 1) = H.order.take k ++ [H.order.getD k 0] := by rw [List.take_succ_eq_append_getElem (by omega), hg]
    rw [ht, List.filter_append]
    show (slideStep (slideTo H k) k).turns ≤ _ ∧ (slideStep (slideTo H k) k).H.order.length = _ ∧ (slideStep (slideTo H k) k).H.order.take (slideStep (slideTo H k) k).turns = _ ∧ (∀ r, k + 1 ≤ r → (slideStep (slideTo H k) k).H.order.getD r 0 = _) ∧ (∀ o, ((slideStep (slideTo H k) k).H.seats.getD o (0, 0, 0)).2.1 = _) ∧ (slideStep (slideTo H k) k).en = _ ∧ (slideStep (slideTo H k) k).H.seats.length = _
    generalize slideTo H k = x at *
    unfold slideStep
    rw [ho]
    by_cases hz : H.order.getD k 0 = 0
    · rw [if_pos hz, hz]
      refine ⟨by omega, h2, by rw [h3]; simp, fun r hr => h4 r (by omega), h5, by rw [h6]; simp, h7⟩
    · rw [if_neg hz]
      have hf : List.filter (fun o => o != 0) [H.order.getD k 0] = [H.order.getD k 0] := by rw [List.filter_cons_of_pos (by simpa using hz)]; rfl
      rw [hf]
      generalize H.order.getD k 0 = v at *
      dsimp only
      refine ⟨by omega, by simpa using h2, ?_, fun r hr => ?_, fun o => ?_, ?_, by simpa using h7⟩
      · rw [take_set_snoc _ _ _ (by omega), h3]
      · rw [← h4 r (by omega), List.getD_eq_getElem?_getD, List.getElem?_set_ne (by omega), List.getD_eq_getElem?_getD]
      · by_cases hv : v < x.H.seats.length
        · rw [List.getD_eq_getElem?_getD, List.getElem?_set]
          by_cases e : v = o
          · rw [if_pos e, if_pos hv, ← e]; exact h5 v
          · rw [if_neg e, ← List.getD_eq_getElem?_getD]; exact h5 o
        · rw [List.set_eq_of_length_le (by omega)]; exact h5 o
      · rw [h6, h5 v]; simp
/-- what taking away makes of the order -/
theorem vac_at {H : HS} {M : MS} (hv : InvV H M) (ks : List Nat) : ∀ k, k ≤ H.order.length → (∀ j, (vacTo H ks k).order.getD j 0 = if j < k ∧ H.order.getD j 0 ∉ ks then 0 else H.order.getD j 0) ∧ (∀ o ∈ ks, (vacTo H ks k).seats.getD o (0, 0, 0) = H.seats.getD o (0, 0, 0)) := by
  intro k
  induction k with
  | zero => intro _; exact ⟨fun j => by rw [if_neg (by omega)]; rfl, fun _ _ => rfl⟩
  | succ k ih =>
    intro hk
    obtain ⟨h1, h2⟩ := ih (by omega)
    obtain ⟨T, q1, q2, q3, q4, q5, q6⟩ := hv.vacs ks k (by omega)
    have ho := q5 k (Nat.le_refl _)
    have hu : vacTo H ks (k + 1) = if (vacTo H ks k).order.getD k 0 ≠ 0 ∧ (vacTo H ks k).order.getD k 0 ∉ ks then vacH (vacTo H ks k) ((vacTo H ks k).order.getD k 0) else vacTo H ks k := rfl
    rw [hu, ho]
    have hr := q1.order k (by omega)
    rw [ho] at hr
    generalize vacTo H ks k = x at *
    by_cases hc : H.order.getD k 0 ≠ 0 ∧ H.order.getD k 0 ∉ ks
    · rw [if_pos hc]
      obtain ⟨-, -, r3⟩ := hr hc.1
      refine ⟨fun j => ?_, fun o ho2 => ?_⟩
      · show (x.order.set (x.seats.getD (H.order.getD k 0) (0, 0, 0)).2.2 0).getD j 0 = _
        rw [r3, getD_nat x.order k j 0 (by omega), h1 j]
        by_cases e : j = k
        · rw [if_pos e, e, if_pos ⟨by omega, hc.2⟩]
        · rw [if_neg e]
          by_cases c2 : j < k ∧ H.order.getD j 0 ∉ ks
          · rw [if_pos c2, if_pos ⟨by omega, c2.2⟩]
          · rw [if_neg c2, if_neg (fun c3 => c2 ⟨by omega, c3.2⟩)]
      · show (x.seats.set (H.order.getD k 0) (0, 0, 0)).getD o (0, 0, 0) = _
        rw [← h2 o ho2, List.getD_eq_getElem?_getD, List.getElem?_set_ne (fun e => hc.2 (by rw [e]; exact ho2)), List.getD_eq_getElem?_getD]
    · rw [if_neg hc]
      refine ⟨fun j => ?_, h2⟩
      rw [h1 j]
      by_cases e : j = k
      · subst e
        rw [if_neg (by omega)]
        by_cases c2 : H.order.getD j 0 ∉ ks
        · rw [if_pos ⟨by omega, c2⟩]
          exact Classical.byContradiction fun c3 => hc ⟨c3, c2⟩
        · rw [if_neg (fun c3 => c2 c3.2)]
      · by_cases c2 : j < k ∧ H.order.getD j 0 ∉ ks
        · rw [if_pos c2, if_pos ⟨by omega, c2.2⟩]
        · rw [if_neg c2, if_neg (fun c3 => c2 ⟨by omega, c3.2⟩)]
theorem filter_zero (ks : List Nat) : ∀ l : List Nat, (l.map fun o => if o ∈ ks then o else 0).filter (fun o => o != 0) = l.filter fun o => o != 0 && decide (o ∈ ks)
  | [] => rfl
  | x :: l => by
    rw [List.map_cons, List.filter_cons, List.filter_cons, filter_zero ks l]
    by_cases h : x ∈ ks
    · simp [h]
    · simp [h]
theorem vac_order {H : HS} {M : MS} (hv : InvV H M) (ks : List Nat) : (vacTo H ks H.order.length).order = H.order.map fun o => if o ∈ ks then o else 0 := by
  obtain ⟨T, q1, q2, q3, q4, q5, q6⟩ := hv.vacs ks H.order.length (Nat.le_refl _)
  have h1 := (vac_at hv ks H.order.length (Nat.le_refl _)).1
  refine List.ext_getElem (by rw [q4]; simp) fun j u1 u2 => ?_
  have := h1 j
  rw [List.getD_eq_getElem?_getD, List.getElem?_eq_getElem u1] at this
  rw [List.getElem_map]
  have hj : H.order.getD j 0 = H.order[j]'(by simpa using u2) := by rw [List.getD_eq_getElem?_getD, List.getElem?_eq_getElem (by simpa using u2)]; rfl
  rw [hj] at this
  simp only [Option.getD_some] at this
  rw [this]
  have : j < H.order.length := by simpa using u2
  by_cases c : H.order[j] ∈ ks
  · simp [c]
  · simp [c, this]
theorem keep_order {H : HS} {M : MS} (hv : InvV H M) (ks : List Nat) : (keepH H ks).order = H.order.filter fun o => o != 0 && decide (o ∈ ks) := by
  have h1 := (slide_at (vacTo H ks H.order.length) _ (Nat.le_refl _)).2.2.1
  rw [List.take_length, vac_order hv ks, filter_zero] at h1
  rw [← vac_order hv ks] at h1
  exact h1
theorem keep_mem {H : HS} {M : MS} (hv : InvV H M) (ks : List Nat) (hk : KeepOk H ks) : (keepH H ks).mem.length = ((H.order.filter fun o => o != 0 && decide (o ∈ ks)).map fun o => (H.seats.getD o (0, 0, 0)).2.1).sum := by
  have h1 := slide_at (vacTo H ks H.order.length) _ (Nat.le_refl _)
  have h2 := (slideTo_len _ hk.sl _ (Nat.le_refl _))
  have h3 := h1.2.2.2.2.2.1
  rw [List.take_length] at h3
  have h4 : (vacTo H ks H.order.length).order.filter (fun o => o != 0) = H.order.filter fun o => o != 0 && decide (o ∈ ks) := by rw [vac_order hv ks, filter_zero]
  rw [h4] at h3
  have h5 : (keepH H ks).mem.length = (slideTo (vacTo H ks H.order.length) (vacTo H ks H.order.length).order.length).en := by
    show ((slideTo (vacTo H ks H.order.length) (vacTo H ks H.order.length).order.length).H.mem.take (slideTo (vacTo H ks H.order.length) (vacTo H ks H.order.length).order.length).en).length = _
    rw [List.length_take]
    have := h2.1
    have := h2.2.2.2.2
    omega
  rw [h5, h3]
  congr 1
  refine List.map_congr_left fun o ho => ?_
  have := (List.mem_filter.1 ho).2
  simp only [Bool.and_eq_true, decide_eq_true_eq] at this
  rw [(vac_at hv ks H.order.length (Nat.le_refl _)).2 o this.2]
theorem keep_seats {H : HS} {M : MS} (hv : InvV H M) (ks : List Nat) : (keepH H ks).seats.length = H.seats.length := by
  obtain ⟨T, q1, q2, q3, q4, q5, q6⟩ := hv.vacs ks H.order.length (Nat.le_refl _)
  exact (slide_at (vacTo H ks H.order.length) _ (Nat.le_refl _)).2.2.2.2.2.2.trans q6
theorem slidN_alike : ∀ (n : Nat) (S : List Th) (A : Nat) (T : List Th), Alike S T → Alike (slidN S A n) T
  | 0, S, A, T, h => h
  | n + 1, S, A, T, h => by
    cases hp : pickTo S A S.length with
    | none => rw [slidN_none S A n hp]; exact h
    | some k => rw [slidN_some S A n k hp]; exact slidN_alike n _ _ T (h.place k A (pickTo_lt S A _ k hp).1)
/-- what a kept thing is -/
theorem kept_at (S : List Th) (ks : List Nat) (i : Nat) : ((keptTh S ks).getD i noTh).there = ((S.getD i noTh).there && decide (i + 1 ∈ ks)) ∧ ((keptTh S ks).getD i noTh).slots = (S.getD i noTh).slots ∧ ((keptTh S ks).getD i noTh).fmt = (S.getD i noTh).fmt ∧ ((keptTh S ks).getD i noTh).cls = (S.getD i noTh).cls := by
  have h1 := (slidN_alike (thereTo (stayTo S ks S.length) S.length) (stayTo S ks S.length) 0 _ (Alike.refl _)).at_ i
  have h2 := stayTo_at S ks S.length (Nat.le_refl _) i
  rw [h2] at h1
  have hk : keptTh S ks = slidN (stayTo S ks S.length) 0 (thereTo (stayTo S ks S.length) S.length) := rfl
  rw [← hk] at h1
  by_cases hi : i < S.length
  · rw [if_pos hi] at h1
    exact ⟨h1.1, h1.2.1, h1.2.2.1, h1.2.2.2.1⟩
  · rw [if_neg hi] at h1
    have hn : S.getD i noTh = noTh := by rw [List.getD_eq_getElem?_getD, List.getElem?_eq_none (by omega)]; rfl
    rw [hn] at h1 ⊢
    exact ⟨by rw [h1.1]; rfl, h1.2.1, h1.2.2.1, h1.2.2.2.1⟩
end Go.Proofs.YtpaekbghnejhoaaDoor
namespace Go.Proofs.YtpaekbghnejhoaaDoor
open Go.RowKit
set_option linter.unusedVariables false
/-- what a list of objects is in a heap that has no idle word -/
structure KA (words oops mark : Nat) (ks : List Key) (H : HS) (M : MS) : Prop where
  inv : Inv H M
  words : H.words = words
  oops : H.oops = oops
  mark : H.mark = mark
  order : H.order = ks.map fun k => k.1.toNat
  mem : (H.mem.length : Int) = endK ks
  at_ : ∀ k ∈ ks, 1 ≤ k.1 ∧ (M.things.getD (k.1.toNat - 1) noTh).there = true ∧ (M.things.getD (k.1.toNat - 1) noTh).cls = k.2.1 ∧ ((M.things.getD (k.1.toNat - 1) noTh).fmt : Int) = k.2.2.1 ∧ (M.things.getD (k.1.toNat - 1) noTh).slots = k.2.2.2
  only : ∀ i, (M.things.getD i noTh).there = true → ∃ k ∈ ks, k.1 = (i : Int) + 1
theorem KOf.ka {words oops mark : Nat} {ks : List Key} {H : HS} {M : MS} (h : KOf words oops mark ks H M) : KA words oops mark ks H M :=
  ⟨h.inv, h.words, h.oops, h.mark, h.order, h.mem, h.at_, h.only⟩
theorem there_lt {S : List Th} {i : Nat} (h : (S.getD i noTh).there = true) : i < S.length :=
  Classical.byContradiction fun hn => by rw [List.getD_eq_getElem?_getD, List.getElem?_eq_none (by omega)] at h; simp [noTh] at h
theorem KA.st {words oops mark : Nat} {ks : List Key} {H : HS} {M : MS} (h : KA words oops mark ks H M) : (stKeys H M.things H.order.length).map (fun k : Nat × Int × Nat × List Int => ((k.1 : Int), k.2.1, (k.2.2.1 : Int), k.2.2.2)) = ks := by
  unfold stKeys
  rw [List.take_length, h.order, List.filter_eq_self.2 ?_, List.map_map, List.map_map]
  · conv => rhs; rw [← List.map_id ks]
    refine List.map_congr_left fun k hk => ?_
    obtain ⟨b0, b1, b2, b3, b4⟩ := h.at_ k hk
    obtain ⟨k1, k2, k3, k4⟩ := k
    dsimp only at *
    simp only [Function.comp, id_eq]
    rw [b2, b3, b4, Int.toNat_of_nonneg (by omega)]
  · intro o ho
    obtain ⟨k, hk, rfl⟩ := List.mem_map.1 ho
    have := (h.at_ k hk).1
    simp
    omega
theorem KA.seat {words oops mark : Nat} {ks : List Key} {H : HS} {M : MS} (h : KA words oops mark ks H M) (k : Key) (hk : k ∈ ks) : (((H.seats.getD k.1.toNat (0, 0, 0)).2.1 : Nat) : Int) = lenOf (k.2.2.2.length : Int) k.2.2.1 := by
  obtain ⟨b0, b1, b2, b3, b4⟩ := h.at_ k hk
  have h1 := (h.inv.seat (k.1.toNat - 1) (there_lt b1) b1).2
  rw [show k.1.toNat - 1 + 1 = k.1.toNat from by omega] at h1
  rw [h1, b4, ← b3, lenOf_nat]
theorem endK_sum (f : Key → Nat) : ∀ ks : List Key, (∀ k ∈ ks, ((f k : Nat) : Int) = lenOf (k.2.2.2.length : Int) k.2.2.1) → (((ks.map f).sum : Nat) : Int) = endK ks
  | [], _ => rfl
  | k :: t, h => by
    have h1 := endK_sum f t fun x hx => h x (by simp [hx])
    have h2 := h k (by simp)
    simp only [List.map_cons, List.sum_cons, endK]
    omega
theorem KA.keep {words oops mark : Nat} {ks : List Key} {H : HS} {M : MS} (h : KA words oops mark ks H M) (js : List Nat) (hjs : ∀ j ∈ js, mhas M (j : Int) = true) (ha : H.age ≤ 1000000000) :
    KA words oops mark (ks.filter fun k => decide (k.1.toNat ∈ js)) (keepH H js) { M with things := keptTh M.things js } := by
  obtain ⟨hK, hI⟩ := h.inv.keep js hjs ha
  have hf : H.order.filter (fun o => o != 0 && decide (o ∈ js)) = (ks.filter fun k => decide (k.1.toNat ∈ js)).map fun k => k.1.toNat := by
    rw [h.order, List.filter_map]
    congr 1
    refine List.filter_congr fun k hk => ?_
    have := (h.at_ k hk).1
    have hz : (k.1.toNat != 0) = true := by simp; omega
    simp only [Function.comp, hz, Bool.true_and]
  refine ⟨hI, ?_, ?_, ?_, (keep_order h.inv.toInvV js).trans hf, ?_, fun k hk => ?_, fun i hi => ?_⟩
  · have e1 := hI.words; have e2 := h.inv.words; rw [e1]; show M.words = _; rw [← e2, h.words]
  · have e1 := hI.oops; have e2 := h.inv.oops; rw [e1]; show M.oops = _; rw [← e2, h.oops]
  · have e1 := hI.mark; have e2 := h.inv.mark; rw [e1]; show M.mark = _; rw [← e2, h.mark]
  · rw [keep_mem h.inv.toInvV js hK, hf, List.map_map]
    exact endK_sum _ _ fun k hk => h.seat k (List.mem_filter.1 hk).1
  · obtain ⟨k1, k2⟩ := List.mem_filter.1 hk
    obtain ⟨b0, b1, b2, b3, b4⟩ := h.at_ k k1
    obtain ⟨c1, c2, c3, c4⟩ := kept_at M.things js (k.1.toNat - 1)
    rw [show k.1.toNat - 1 + 1 = k.1.toNat from by omega] at c1
    refine ⟨b0, ?_, ?_, ?_, ?_⟩
    · show ((keptTh M.things js).getD _ noTh).there = true
      rw [c1, b1]; exact k2
    · show ((keptTh M.things js).getD _ noTh).cls = _
      rw [c4]; exact b2
    · show (((keptTh M.things js).getD _ noTh).fmt : Int) = _
      rw [c3]; exact b3
    · show ((keptTh M.things js).getD _ noTh).slots = _
      rw [c2]; exact b4
  · obtain ⟨c1, -⟩ := kept_at M.things js i
    have hi' : ((keptTh M.things js).getD i noTh).there = true := hi
    rw [c1, Bool.and_eq_true, decide_eq_true_eq] at hi'
    obtain ⟨k, k1, k2⟩ := h.only i hi'.1
    exact ⟨k, List.mem_filter.2 ⟨k1, by rw [k2, decide_eq_true_eq, show ((i : Int) + 1).toNat = i + 1 from by omega]; exact hi'.2⟩, k2⟩
/-- which oops there are -/
theorem Inv.seatAt {H : HS} {M : MS} (h : Inv H M) (o : Nat) (ho : o < H.seats.length) : 0 < (H.seats.getD o (0, 0, 0)).2.1 ↔ 1 ≤ o ∧ (M.things.getD (o - 1) noTh).there = true := by
  cases o with
  | zero => rw [h.seat0]; simp
  | succ o =>
    rw [Nat.add_sub_cancel, h.there o (by have := h.len; omega)]
    omega
theorem keep_all {H : HS} {M : MS} (h : Inv H M) (js : List Nat) (hI : Inv (keepH H js) { M with things := keptTh M.things js }) : allTo (keepH H js) (keepH H js).seats.length = (allTo H H.seats.length).filter fun x => decide (x ∈ js) := by
  have hs := keep_seats h.toInvV js
  rw [hs]
  unfold allTo
  rw [List.filter_filter]
  refine List.filter_congr fun o ho => ?_
  have ho' : o < H.seats.length := List.mem_range.1 ho
  have e1 := hI.seatAt o (by omega)
  have e2 := h.seatAt o ho'
  have e3 := (kept_at M.things js (o - 1)).1
  have e4 : (({ M with things := keptTh M.things js } : MS).things.getD (o - 1) noTh).there = ((M.things.getD (o - 1) noTh).there && decide (o - 1 + 1 ∈ js)) := e3
  rw [e4] at e1
  rw [Bool.eq_iff_iff, Bool.and_eq_true, decide_eq_true_eq, decide_eq_true_eq, decide_eq_true_eq, e1, e2, Bool.and_eq_true, decide_eq_true_eq]
  constructor
  · rintro ⟨a, b, c⟩
    rw [show o - 1 + 1 = o from by omega] at c
    exact ⟨c, a, b⟩
  · rintro ⟨c, a, b⟩
    rw [show o - 1 + 1 = o from by omega]
    exact ⟨a, b, c⟩
/-- there are as many objects as are told -/
theorem Inv.countAll {H : HS} {M : MS} (h : Inv H M) : (allTo H H.seats.length).length = H.count := by
  have h1 := h.allLen M.things.length (Nat.le_refl _)
  have h2 := h.len
  rw [show M.things.length + 1 = H.seats.length + (M.things.length + 1 - H.seats.length) from by omega, allTo_out] at h1
  rw [h1, h.count]
theorem nodup_sub : ∀ (l m : List Nat), l.Nodup → (∀ x ∈ l, x ∈ m) → l.length ≤ m.length
  | [], m, _, _ => by simp
  | x :: l, m, hd, h => by
    have hx := h x (by simp)
    have h1 := nodup_sub l (m.erase x) (List.nodup_cons.1 hd).2 (fun y hy => (List.mem_erase_of_ne (fun e => (List.nodup_cons.1 hd).1 (by rw [← e]; exact hy))).2 (h y (by simp [hy])))
    rw [List.length_erase_of_mem hx] at h1
    have := List.length_pos_of_mem hx
    simp only [List.length_cons]
    omega
theorem allTo_nodup (H : HS) (n : Nat) : (allTo H n).Nodup := List.Pairwise.filter _ List.nodup_range
theorem mem_all {H : HS} {M : MS} (h : Inv H M) (o : Nat) : o ∈ allTo H H.seats.length ↔ 1 ≤ o ∧ (M.things.getD (o - 1) noTh).there = true := by
  unfold allTo
  rw [List.mem_filter, List.mem_range, decide_eq_true_eq]
  constructor
  · rintro ⟨h1, h2⟩; exact (h.seatAt o h1).1 h2
  · rintro ⟨h1, h2⟩
    have h3 := h.seatIn (o - 1) (there_lt h2) h2
    rw [show o - 1 + 1 = o from by omega] at h3
    exact ⟨h3, (h.seatAt o h3).2 ⟨h1, h2⟩⟩
theorem KA.nodup {words oops mark : Nat} {ks : List Key} {H : HS} {M : MS} (h : KA words oops mark ks H M) : (ks.map fun k => k.1.toNat).Nodup := by
  rw [← h.order]
  refine List.pairwise_iff_getElem.2 fun i j hi hj hij e => ?_
  have hz : ∀ r (hr : r < H.order.length), H.order.getD r 0 ≠ 0 := fun r hr => by
    have hm : H.order.getD r 0 ∈ H.order := by rw [List.getD_eq_getElem?_getD, List.getElem?_eq_getElem hr]; exact List.getElem_mem _
    rw [h.order] at hm
    obtain ⟨k, k1, k2⟩ := List.mem_map.1 hm
    have := (h.at_ k k1).1
    rw [h.order]
    omega
  have a1 := (h.inv.order i (by omega) (hz i (by omega))).2.2
  have a2 := (h.inv.order j hj (hz j hj)).2.2
  have e2 : H.order.getD i 0 = H.order.getD j 0 := by rw [List.getD_eq_getElem?_getD, List.getElem?_eq_getElem hi, e, List.getD_eq_getElem?_getD, List.getElem?_eq_getElem hj]
  rw [e2] at a1
  omega
theorem KA.count {words oops mark : Nat} {ks : List Key} {H : HS} {M : MS} (h : KA words oops mark ks H M) : H.count = ks.length := by
  rw [← h.inv.countAll]
  have hm : ∀ o, o ∈ allTo H H.seats.length ↔ o ∈ ks.map fun k => k.1.toNat := fun o => by
    rw [mem_all h.inv]
    constructor
    · rintro ⟨h1, h2⟩
      obtain ⟨k, k1, k2⟩ := h.only _ h2
      exact List.mem_map.2 ⟨k, k1, by omega⟩
    · intro ho
      obtain ⟨k, k1, rfl⟩ := List.mem_map.1 ho
      obtain ⟨b0, b1, -⟩ := h.at_ k k1
      exact ⟨by omega, b1⟩
  have h1 := nodup_sub _ _ (allTo_nodup H H.seats.length) fun x hx => (hm x).1 hx
  have h2 := nodup_sub _ _ h.nodup fun x hx => (hm x).2 hx
  simp only [List.length_map] at h1 h2
  omega
end Go.Proofs.YtpaekbghnejhoaaDoor
namespace Go.Proofs.YtpaekbghnejhoaaDoor
open Go.RowKit
set_option linter.unusedVariables false
/-- the list of oops holds what a word names -/
def inside (l : List OI) (ls : List Int) (z : Int) : Prop := namesS l z = true → z / 4 ∈ ls
/-- whether an object of a list holds a word -/
def hitB (l : List OI) (v p : Int) : Bool := match l.find? (fun o => decide (o.oop = p)) with
  | some o => decide (o.cls = v) || (decide (o.fmt = 0) && decide (v ∈ o.slots))
  | none => decide (0 = v)
/-- the law's named -/
def namedB (l : List OI) (q : Int) (found roots : List Int) : Bool := decide (4 * q ∈ roots) || found.any (hitB l (4 * q))
end Go.Proofs.YtpaekbghnejhoaaDoor
namespace Go.Proofs.YtpaekbghnejhoaaDoor
open Go.RowKit
set_option linter.unusedVariables false
def zs (l : List Nat) : List Int := l.map fun x : Nat => (x : Int)
theorem mem_zs {l : List Nat} {z : Int} : z ∈ zs l ↔ ∃ q ∈ l, (q : Int) = z := by unfold zs; exact List.mem_map
theorem mem_zs' {l : List Nat} {q : Nat} : ((q : Int)) ∈ zs l ↔ q ∈ l := by
  rw [mem_zs]
  exact ⟨fun ⟨p, h, e⟩ => by rw [show q = p from by omega]; exact h, fun h => ⟨q, h, rfl⟩⟩
theorem mem_stays {H : HS} {M : MS} (hi : Inv H M) {rs : List Nat} (hr : ∀ q ∈ rs, has H (q : Int) = true) (q : Nat) : q ∈ stays H rs ↔ q ∈ rs := by
  unfold stays
  rw [List.mem_filter, decide_eq_true_eq]
  refine ⟨fun h => h.2, fun h => ⟨?_, h⟩⟩
  have h1 := hr q h
  unfold has at h1
  have h2 := of_decide_eq_true h1
  unfold allTo
  rw [List.mem_filter, List.mem_range, decide_eq_true_eq]
  rw [show ((q : Int)).toNat = q from by omega] at h2
  exact ⟨by omega, by omega⟩
theorem KA.find {words oops mark : Nat} {l : List OI} {H : HS} {M : MS} (h : KA words oops mark (l.map oiKey) H M) (q : Nat) (hq : (M.things.getD (q - 1) noTh).there = true) (h1 : 1 ≤ q) :
    ∃ o, l.find? (fun o => decide (o.oop = (q : Int))) = some o ∧ o ∈ l ∧ o.oop = (q : Int) ∧ lk M q = o.cls :: (if o.fmt = 0 then o.slots else []) := by
  obtain ⟨k, k1, k2⟩ := h.only _ hq
  obtain ⟨o1, ho1, rfl⟩ := List.mem_map.1 k1
  have k3 : o1.oop = (q : Int) := by have : o1.oop = ((q - 1 : Nat) : Int) + 1 := k2; omega
  cases hf : l.find? (fun o => decide (o.oop = (q : Int))) with
  | none => exact absurd k3 (by simpa using List.find?_eq_none.1 hf o1 ho1)
  | some o =>
    have hm := List.mem_of_find?_eq_some hf
    have he : o.oop = (q : Int) := by simpa using List.find?_some hf
    refine ⟨o, rfl, hm, he, ?_⟩
    obtain ⟨-, b1, b2, b3, b4⟩ := h.at_ (oiKey o) (List.mem_map.2 ⟨o, hm, rfl⟩)
    have e : (oiKey o).1.toNat = q := by show o.oop.toNat = q; omega
    rw [e] at b1 b2 b3 b4
    unfold lk leadsOf
    rw [b2, b4]
    have b3' : ((M.things.getD (q - 1) noTh).fmt : Int) = o.fmt := b3
    by_cases hz : o.fmt = 0
    · rw [if_pos hz, if_pos (by omega)]; rfl
    · rw [if_neg hz, if_neg (by omega)]; rfl
theorem KA.hasK {words oops mark : Nat} {ks : List Key} {H : HS} {M : MS} (h : KA words oops mark ks H M) (k : Key) (hk : k ∈ ks) : has H k.1 = true := by
  obtain ⟨b0, b1, -⟩ := h.at_ k hk
  rw [h.inv.hasM, show k.1 = ((k.1.toNat - 1 : Nat) : Int) + 1 from by omega]
  exact mhas_of _ (there_lt b1) b1
theorem names_B {words oops mark : Nat} {l : List OI} {H : HS} {M : MS} (h : KA words oops mark (l.map oiKey) H M) {z : Int} (hz : namesS l z = true) : namesB H z = true := by
  unfold namesS at hz
  rw [Bool.and_eq_true, decide_eq_true_eq] at hz
  obtain ⟨⟨a1, a2, a3⟩, hf⟩ := hz
  obtain ⟨o, ho⟩ := Option.isSome_iff_exists.1 hf
  have hm := List.mem_of_find?_eq_some ho
  have he : o.oop = z / 4 := by simpa using List.find?_some ho
  unfold namesB
  rw [Bool.and_eq_true, decide_eq_true_eq]
  refine ⟨(kind3 z).2 ⟨a2, a1, a3⟩, ?_⟩
  rw [← he]
  exact h.hasK (oiKey o) (List.mem_map.2 ⟨o, hm, rfl⟩)
theorem sr_there {H : HS} {M : MS} (hi : Inv H M) {roots : List Int} {rs : List Nat} (hs : Sr H M roots (rs, [])) {q : Nat} (hq : q ∈ rs) : 1 ≤ q ∧ (M.things.getD (q - 1) noTh).there = true := by
  have h1 := hs.there q hq
  rw [hi.hasM] at h1
  obtain ⟨k, k1, k2, k3⟩ := mhas_yes h1
  have e : q = k + 1 := by omega
  subst e
  exact ⟨by omega, k3⟩
/-- the two halves of what closed asks -/
theorem closed_root {words oops mark : Nat} {l : List OI} {H : HS} {M : MS} (h : KA words oops mark (l.map oiKey) H M) {roots : List Int} {rs : List Nat} (hs : Sr H M roots (rs, [])) : ∀ z ∈ roots, inside l (zs (stays H rs)) z := fun z hz hn => by
  have hb := names_B h hn
  have h1 := hs.root z hz hb
  have h2 := (names_has hb).2
  rw [mem_zs]
  exact ⟨(z / 4).toNat, (mem_stays h.inv hs.there _).2 h1, by omega⟩
theorem closed_on {words oops mark : Nat} {l : List OI} {H : HS} {M : MS} (h : KA words oops mark (l.map oiKey) H M) {roots : List Int} {rs : List Nat} (hs : Sr H M roots (rs, [])) :
    ∀ q ∈ zs (stays H rs), ∃ o, l.find? (fun o => decide (o.oop = q)) = some o ∧ inside l (zs (stays H rs)) o.cls ∧ (o.fmt = 0 → ∀ z ∈ o.slots, inside l (zs (stays H rs)) z) := by
  intro q hq
  obtain ⟨n, hn, rfl⟩ := mem_zs.1 hq
  have hr := (mem_stays h.inv hs.there n).1 hn
  obtain ⟨t1, t2⟩ := sr_there h.inv hs hr
  obtain ⟨o, o1, o2, o3, o4⟩ := h.find n t2 t1
  have hon : ∀ z ∈ lk M n, namesB H z = true → (z / 4).toNat ∈ rs := by
    rcases hs.on n hr with h1 | h1
    · simp at h1
    · exact h1
  rw [o4] at hon
  have hin : ∀ z ∈ o.cls :: (if o.fmt = 0 then o.slots else []), inside l (zs (stays H rs)) z := fun z hz hnz => by
    have hb := names_B h hnz
    have h2 := (names_has hb).2
    rw [mem_zs]
    exact ⟨(z / 4).toNat, (mem_stays h.inv hs.there _).2 (hon z hz hb), by omega⟩
  exact ⟨o, o1, hin _ (by simp), fun hz z hm => hin z (by rw [if_pos hz]; simp [hm])⟩
/-- what led asks -/
theorem led_least {words oops mark : Nat} {l : List OI} {H : HS} {M : MS} (h : KA words oops mark (l.map oiKey) H M) {roots : List Int} {rs : List Nat} (hs : Sr H M roots (rs, [])) (fs : List Int) (hf : ∀ q ∈ fs, q ∈ zs (stays H rs))
    (hn : ∀ q ∈ zs (stays H rs), q ∉ fs → namedB l q fs roots = false) : ∀ q ∈ zs (stays H rs), q ∈ fs := by
  have key : ∀ z : Int, namesB H z = true → (z / 4).toNat ∈ rs → (z ∈ roots ∨ ∃ p ∈ fs, hitB l z p = true) → (((z / 4).toNat : Nat) : Int) ∈ fs := fun z hb hr hw => by
    refine Classical.byContradiction fun hno => ?_
    have h1 := hn _ (mem_zs'.2 ((mem_stays h.inv hs.there _).2 hr)) hno
    have h2 := (names_has hb).2
    unfold namesB at hb
    rw [Bool.and_eq_true, decide_eq_true_eq] at hb
    have h3 := (kind3 z).1 hb.1
    unfold namedB at h1
    rw [show 4 * (((z / 4).toNat : Nat) : Int) = z from by omega, Bool.or_eq_false_iff] at h1
    rcases hw with hw | ⟨p, p1, p2⟩
    · exact (of_decide_eq_false h1.1) hw
    · have := List.any_eq_false.1 h1.2 p p1
      exact this p2
  intro q hq
  obtain ⟨n, hn2, rfl⟩ := mem_zs.1 hq
  refine hs.least (fun q => ((q : Nat) : Int) ∈ fs) ⟨fun z hz hb => key z hb (hs.root z hz hb) (.inl hz), fun q hqf z hz hb => ?_⟩ n ((mem_stays h.inv hs.there n).1 hn2)
  have hqr := (mem_stays h.inv hs.there q).1 (mem_zs'.1 (hf _ hqf))
  obtain ⟨t1, t2⟩ := sr_there h.inv hs hqr
  obtain ⟨o, o1, o2, o3, o4⟩ := h.find q t2 t1
  have hon : (z / 4).toNat ∈ rs := by
    rcases hs.on q hqr with h1 | h1
    · simp at h1
    · exact h1 z hz hb
  refine key z hb hon (.inr ⟨(q : Int), hqf, ?_⟩)
  unfold hitB
  rw [o1]
  rw [o4] at hz
  rcases List.mem_cons.1 hz with e | hz
  · simp [e]
  · by_cases hfm : o.fmt = 0
    · rw [if_pos hfm] at hz; simp [hfm, hz]
    · rw [if_neg hfm] at hz; simp at hz
/-- behind a Run all that is there is led to -/
theorem again_all {H : HS} {M : MS} (hi : Inv H M) {roots : List Int} {rs rs2 : List Nat} (hs : Sr H M roots (rs, [])) (hI : Inv (keepH H (stays H rs)) { M with things := keptTh M.things (stays H rs) })
    (h2 : Sr (keepH H (stays H rs)) { M with things := keptTh M.things (stays H rs) } roots (rs2, [])) : stays (keepH H (stays H rs)) rs2 = allTo (keepH H (stays H rs)) (keepH H (stays H rs)).seats.length := by
  have hth : ∀ q : Nat, (({ M with things := keptTh M.things (stays H rs) } : MS).things.getD (q - 1) noTh).there = ((M.things.getD (q - 1) noTh).there && decide (q - 1 + 1 ∈ stays H rs)) := fun q => (kept_at M.things (stays H rs) (q - 1)).1
  have hhas : ∀ q : Nat, has (keepH H (stays H rs)) (q : Int) = true ↔ q ∈ rs := fun q => by
    rw [hI.hasM]
    constructor
    · intro hm
      obtain ⟨k, k1, k2, k3⟩ := mhas_yes hm
      have e : q = k + 1 := by omega
      subst e
      have := hth (k + 1)
      rw [Nat.add_sub_cancel] at this
      rw [this, Bool.and_eq_true, decide_eq_true_eq] at k3
      exact (mem_stays hi hs.there _).1 k3.2
    · intro hq
      obtain ⟨t1, t2⟩ := sr_there hi hs hq
      have := hth q
      rw [t2, show q - 1 + 1 = q from by omega, decide_eq_true ((mem_stays hi hs.there q).2 hq)] at this
      have h3 := mhas_of (M := { M with things := keptTh M.things (stays H rs) }) (q - 1) (there_lt this) this
      rw [show (((q - 1 : Nat)) : Int) + 1 = (q : Int) from by omega] at h3
      exact h3
  have hnm : ∀ z, namesB H z = true → (z / 4).toNat ∈ rs → namesB (keepH H (stays H rs)) z = true := fun z hz hr => by
    have h3 := (names_has hz).2
    unfold namesB at hz ⊢
    rw [Bool.and_eq_true] at hz ⊢
    refine ⟨hz.1, ?_⟩
    have := (hhas (z / 4).toNat).2 hr
    rw [show (((z / 4).toNat : Nat) : Int) = z / 4 from by omega] at this
    exact this
  have hall : ∀ q ∈ rs, q ∈ rs2 := hs.least (fun q => q ∈ rs2) ⟨fun z hz hb => h2.root z hz (hnm z hb (hs.root z hz hb)), fun q hq z hz hb => by
    have hqr : q ∈ rs := (hhas q).1 (h2.there q hq)
    have hzr : (z / 4).toNat ∈ rs := by
      rcases hs.on q hqr with h1 | h1
      · simp at h1
      · exact h1 z hz hb
    have hlk : lk { M with things := keptTh M.things (stays H rs) } q = lk M q := by
      obtain ⟨-, c2, c3, c4⟩ := kept_at M.things (stays H rs) (q - 1)
      unfold lk leadsOf
      show ((keptTh M.things (stays H rs)).getD (q - 1) noTh).cls :: (if ((keptTh M.things (stays H rs)).getD (q - 1) noTh).fmt = 0 then ((keptTh M.things (stays H rs)).getD (q - 1) noTh).slots else []) = _
      rw [c2, c3, c4]
    rcases h2.on q hq with h1 | h1
    · simp at h1
    · exact h1 z (by rw [hlk]; exact hz) (hnm z hb hzr)⟩
  unfold stays
  rw [List.filter_eq_self]
  intro q hq
  have h3 := all_has hI hq
  exact decide_eq_true (hall q ((hhas q).1 h3))
/-- what a Run leaves -/
theorem run_all {H : HS} {M : MS} (hi : Inv H M) (rs : List Nat) (hI : Inv (keepH H (stays H rs)) { M with things := keptTh M.things (stays H rs) }) : allTo (keepH H (stays H rs)) (keepH H (stays H rs)).seats.length = stays H rs := by
  rw [keep_all hi _ hI]
  unfold stays
  refine List.filter_congr fun q hq => ?_
  rw [Bool.eq_iff_iff, decide_eq_true_eq, decide_eq_true_eq, List.mem_filter, decide_eq_true_eq]
  exact ⟨fun h => h.2, fun h => ⟨hq, h⟩⟩
theorem keep_all_keys {words oops mark : Nat} {ks : List Key} {H : HS} {M : MS} (h : KA words oops mark ks H M) : (ks.filter fun k => decide (k.1.toNat ∈ allTo H H.seats.length)) = ks := by
  rw [List.filter_eq_self]
  intro k hk
  obtain ⟨b0, b1, -⟩ := h.at_ k hk
  exact decide_eq_true ((mem_all h.inv _).2 ⟨by omega, b1⟩)
theorem rise_filter (p : Nat → Bool) (n : Nat) : ∀ k, 0 < k → k < ((List.range n).filter p).length → ((List.range n).filter p).getD (k - 1) 0 < ((List.range n).filter p).getD k 0 := by
  intro k h0 hk
  have hp : ((List.range n).filter p).Pairwise (· < ·) := List.Pairwise.filter _ List.pairwise_lt_range
  have := List.pairwise_iff_getElem.1 hp (k - 1) k (by omega) hk (by omega)
  rw [List.getD_eq_getElem?_getD, List.getElem?_eq_getElem (by omega), List.getD_eq_getElem?_getD, List.getElem?_eq_getElem hk]
  exact this
theorem stays_eq (H : HS) (rs : List Nat) : stays H rs = (List.range H.seats.length).filter (fun o => decide (o ∈ rs) && decide (0 < (H.seats.getD o (0, 0, 0)).2.1)) := by
  unfold stays allTo
  rw [List.filter_filter]
theorem stays_rise (H : HS) (rs : List Nat) : ∀ k, 0 < k → k < (zs (stays H rs)).length → (zs (stays H rs)).getD (k - 1) 0 < (zs (stays H rs)).getD k 0 := by
  intro k h0 hk
  unfold zs at hk ⊢
  rw [List.length_map] at hk
  have h1 := rise_filter (fun o => decide (o ∈ rs) && decide (0 < (H.seats.getD o (0, 0, 0)).2.1)) H.seats.length k h0 (by rw [← stays_eq]; exact hk)
  rw [← stays_eq] at h1
  rw [List.getD_eq_getElem?_getD, List.getElem?_map, List.getElem?_eq_getElem (by omega), List.getD_eq_getElem?_getD, List.getElem?_map, List.getElem?_eq_getElem hk]
  rw [List.getD_eq_getElem?_getD, List.getElem?_eq_getElem (by omega), List.getD_eq_getElem?_getD, List.getElem?_eq_getElem hk] at h1
  simp only [Option.getD_some, Option.map_some] at h1 ⊢
  omega
theorem stays_nodup (H : HS) (rs : List Nat) : (stays H rs).Nodup := List.Pairwise.filter _ (allTo_nodup H _)
end Go.Proofs.YtpaekbghnejhoaaDoor
