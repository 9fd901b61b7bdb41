import Derived.Test.YtblbjgifhgfifaaPG13NTl
import Derived.Deep.RegionHeld3
namespace Go.Proofs.Ytblbjgifhgfifaa
open Go.RowKit
set_option linter.unusedVariables false
set_option linter.unusedSimpArgs false
theorem iwrap (n : Int) : IntKind.i64.wrap n = wrap64 n := by
  simp [IntKind.wrap, IntKind.signed, IntKind.bits, wrap64]
  split <;> omega
/-- the two lowest bits -/
theorem hid_drew' {S : List Nat} {w w' : World} (h : Hid (Fr S w w')) : Hid (Fr S w w'.drew) := mkHid (h.out.trans (Fr.drew S _) (fun b hb => Or.inl hb))
theorem step_callG {ops : Array Oper} {o : Oper} {a : Act} {w : World} {K : Act → World → Prop} {Q : Exit → Act → World → Prop} {E : Prop} (hw : Region.wanted o (yielded ops a.tmps) = true) (f : FuncId) (fn : Func) (hfn : Try.prog.funcs[f]? = some fn) (hnm : (fn.name == "runtime.NumGoroutine") = false) (hbd : fn.body.isSome = true) (xs : Array Operand) (ts : Array TypeId)
    (ho : o.op = .call { callee := .value (.func f), args := xs, argTypes := ts }) (vs : Array Value) (hvs : xs.map a.eval = vs) (R : Value → World → Prop) (hc : Calls Try.prog f vs w fun e w' => ∃ v, e = .returned v ∧ R v w')
    (h : ∀ v w', R v w' → K (a.put o.dst v) w') : if Region.wanted o (yielded ops a.tmps) = true then Oper.wp Try.prog o a w K Q else E := by
  rw [if_pos hw]
  unfold Oper.wp
  have e1 : (execOp a.eval o).run Try.prog w = .ok (.enter f vs) w := by
    have h1 : ¬ fn.name = "runtime.NumGoroutine" := by simpa using hnm
    have h2 : ¬ fn.body = none := by intro e; rw [e] at hbd; simp at hbd
    simp [execOp, ho, resolve, invoke, Act.eval, hvs, Deferred.ofValue, callFunc, hfn, h1, h2]
  rw [e1]
  show Calls Try.prog f vs w _
  exact hc.mono (fun e w' ⟨v, he, hr⟩ => by subst he; exact h v w' hr)
theorem wpH_one {P : Program} {md : Region.Mode} {ops : Array Oper} {Q : Exit → Act → World → Prop} {S : World → Prop} {i : Nat} {o : Oper} {fuel : Nat} {listed : Array Bool} {a : Act} {w : World} (hr : Region.ready md ops listed = [i]) (ho : ops[i]? = some o)
    (h : ∀ K' : Act → World → Prop, Hid (∀ a w, S w → (S w → wpAnyH P md ops Q S fuel (listed.setIfInBounds i true) a w) → K' a w) → if Region.wanted o (yielded ops a.tmps) = true then Oper.wp P o a w K' Q else K' (a.put o.dst undef) w) : wpAnyH P md ops Q S (fuel + 1) listed a w := by
  refine ⟨fun h0 => (by rw [hr] at h0; cases h0), fun j hj => ?_⟩
  rw [hr] at hj
  have e : j = i := by simpa using hj
  subst e
  exact wpOp_step ho (fun K' hK => h K' (fun a w hS hW => hK a w ⟨hS, hW hS⟩))
theorem Txs.trn {l k : List Cl} {top : Nat} {name : ByteArray} {own : List ByteArray} (h : Txs l name own) (ht : Trn l k top own) : Txs k name own := by
  refine ⟨fun i => ?_, h.own, h.name⟩
  rw [ht.name, ht.sup, ht.own_]
  refine ⟨(h.cl i).1, (h.cl i).2.1, ?_⟩
  split
  · exact h.own
  · exact (h.cl i).2.2
theorem Txs.trn2 {l k : List Cl} {top : Nat} {name : ByteArray} {own : List ByteArray} (h : Txs l name own) (ht : Trn l k top own) : Txs k name (clAt l top).own := ⟨(h.trn ht).cl, (h.cl top).2.2, h.name⟩
/-- the cells of one of a list of changes -/
theorem RdH.cells {w : World} {p : Option Addr} {n c : Nat} {xs : List Cg} (h : RdH w (.slice p n c) xs) {i : Nat} (hi : i < xs.length) : ∃ g off, p = some ⟨g, off, none⟩ ∧ g < w.heap.size ∧ w.cell? ⟨g, off + i * 4, none⟩ = some (.int .i64 (cgAt xs i).c.cls) ∧ w.cell? ⟨g, off + i * 4 + 1, none⟩ = some (cgAt xs i).vo ∧ w.cell? ⟨g, off + i * 4 + 2, none⟩ = some (cgAt xs i).vn ∧ w.cell? ⟨g, off + i * 4 + 3, none⟩ = some (cgAt xs i).vf := by
  obtain ⟨p', c', e, h1⟩ := h.at_
  injection e with e1 e2 e3
  subst e1
  obtain ⟨g, off, e, q1, q2⟩ := h1 (by omega)
  exact ⟨g, off, e, q1, q2 i _ (cgAt_eq hi)⟩
set_option maxRecDepth 20000 in
set_option maxHeartbeats 4000000 in
/-- PlanTurns, where nothing is changed, or more is asked than is enough -/
theorem turns_any (hP : ProgMake) (l : List Cl) (kernel : Int) (name : ByteArray) (own : List ByteArray) (v ov : Value) (w : World) (h : RdC w v l) (ho : RdS w ov own) (hx : Txs l name own) :
    Calls Try.prog 5 #[v, .int .i64 kernel, .string name, ov] w fun e w' => e = .returned (.bool true) ∧ Fr [] w w' := by
  have HBy := mkHid (lBeyond_ok l own v ov w h ho)
  have HP := mkHid hP
  have HTX := mkHid hx
  have HC := mkHid h
  have HO := mkHid ho
  have HFx : Hid (∀ W, Calls Try.prog 18 #[] W fun e w' => e = .returned (.bool true) ∧ Fr [] W w') := mkHid (fun W => lFixed_ok hP W)
  clear h ho hP hx
  go_enter Try.func5, Try.ntmps5
  go_wp2_with fail
  refine Calls.mono HBy.out ?_
  rintro e w1 (⟨rfl, rfl, hb⟩ | ⟨rfl, rfl⟩)
  rotate_left
  · go_wp2_with fail
    go_ret
    exact ⟨rfl, Fr.refl _ _⟩
  have hask : Ask l own := ask_of hb
  have HMk := mkHid (HP.out l kernel name own v ov w1 HC.out HO.out hask HTX.out)
  clear HBy
  go_wp2_with fail
  refine Calls.mono HMk.out ?_
  rintro e w2 ⟨vr, rfl, xs, hx, hmap, hf, hnew⟩
  have HX := mkHid hx
  have HMp := mkHid hmap
  have HF := mkHid hf
  obtain ⟨pr, cr, rfl, _⟩ := hx.at_
  have sx := hx.short
  clear HMk hnew hx hmap hf
  by_cases hE : (makeP l kernel name own).2 = 0 ∧ (makeP l kernel name own).1 ≠ []
  rotate_left
  · have hnil : xs.length = 0 := by
      have e1 := congrArg List.length HMp.out
      rw [List.length_map] at e1
      by_cases hz : (makeP l kernel name own).2 = 0
      · have : (makeP l kernel name own).1 = [] := Classical.byContradiction (fun hc => hE ⟨hz, hc⟩)
        rw [this] at e1; exact e1
      · rw [makeP_err hz] at e1; exact e1
    clear hE
    generalize (makeP l kernel name own).2 = E at *
    go_wp2_with (first
      | (go_at_call 17; refine (lNum_ok _ _).mono ?_; rintro e wx ⟨rfl, rfl⟩)
      | (go_at_call 18; refine (HFx.out _).mono ?_; rintro e wy ⟨rfl, fy⟩))
    all_goals
      go_ret
      exact ⟨rfl, HF.out.trans fy (by simp)⟩
  obtain ⟨top, hmay, hk, hk2, hat, hk3, hne, hfull, hmk⟩ := makeP_some hE.1 hE.2
  rw [hmk] at HMp
  rw [hmk]
  clear hE
  have htl := hmay.tl
  have hmap : xs.map Cg.c = (affected l top l.length).map (change l top own) := HMp.out
  have hlen : xs.length = (affected l top l.length).length := by
    have := congrArg List.length hmap
    rwa [List.length_map, List.length_map] at this
  have hpos : 0 < xs.length := by
    obtain ⟨r, hr⟩ := aff_first (l := l) htl
    rw [hlen, hr]; simp
  obtain ⟨g, off, rfl, hgl, z0, z1, z2, z3⟩ := HX.out.cells hpos
  have ha0 : affAt l top 0 = top := by
    obtain ⟨r, hr⟩ := aff_first (l := l) htl
    unfold affAt; rw [hr]; rfl
  have hc0 : (cgAt xs 0).c.cls = (top : Int) + 1 := by
    rw [(cg_change hmap hpos).2, ha0]; rfl
  have HCel : Hid (∀ V, Hid (Fr [] w2 V) → ∀ i, i < xs.length → V.cell? ⟨g, off + i * 4, none⟩ = some (.int .i64 ((affAt l top i : Int) + 1)) ∧ V.cell? ⟨g, off + i * 4 + 1, none⟩ = some (cgAt xs i).vo ∧ V.cell? ⟨g, off + i * 4 + 2, none⟩ = some (cgAt xs i).vn ∧ V.cell? ⟨g, off + i * 4 + 3, none⟩ = some (cgAt xs i).vf) := mkHid (fun V hV i hi => by
    obtain ⟨g', off', e, _, y0, y1, y2, y3⟩ := (HX.out.idle hV.out).cells hi
    injection e with e
    injection e with e1 e2
    subst e1
    subst e2
    rw [(cg_change hmap hi).2] at y0
    exact ⟨y0, y1, y2, y3⟩)
  have HRt : Hid (∀ V, Hid (Fr [] w2 V) → ∀ i, i < xs.length → Calls Try.prog 19 #[.agg #[.int .i64 ((affAt l top i : Int) + 1), (cgAt xs i).vo, (cgAt xs i).vn, (cgAt xs i).vf], v, .string name] V fun e w' => e = .returned (.bool true) ∧ Hid (Fr [] w2 w')) := mkHid (fun V hV i hi => by
    obtain ⟨q1, q2⟩ := cg_change hmap hi
    obtain ⟨q3, q4, q5⟩ := change_right hmay (affAt_mem q1)
    have hxV := HX.out.idle hV.out
    have hmem := List.mem_of_getElem? (cgAt_eq hi)
    have hcall := lRight_ok (cgAt xs i) l name v V (hxV.old _ hmem) (hxV.new _ hmem) (hxV.frm _ hmem) ((HC.out.idle HF.out).idle hV.out) (affAt l top i) q3 (by rw [q2]; rfl) (by rw [q2]; exact q4) (by rw [q2]; rfl) (by
      rcases q5 with q5 | q5
      · left; rw [q5]; exact (atN_lt hat).2.2
      · right; rw [q2]; exact q5)
    rw [q2] at hcall
    refine Calls.mono hcall ?_
    rintro e w' ⟨rfl, f⟩
    exact ⟨rfl, mkHid (hV.out.trans f (by simp))⟩)
  have HLt : Hid (∀ i, i + 1 < xs.length → (affAt l top i : Int) < (affAt l top (i + 1) : Int)) := mkHid (fun i hi => by
    have := affAt_lt (l := l) (top := top) (i := i) (j := i + 1) (by omega) (by omega)
    omega)
  have HOne : Hid (∀ i, i < xs.length → (∃ a b c, (cgAt xs i).vo = .slice a b c) ∧ (∃ a b c, (cgAt xs i).vn = .slice a b c) ∧ (∃ a b c, (cgAt xs i).vf = .slice a b c)) := mkHid (fun i hi => by
    have hmem := List.mem_of_getElem? (cgAt_eq hi)
    obtain ⟨a1, b1, e1, _⟩ := (HX.out.old _ hmem).at_
    obtain ⟨a2, b2, e2, _⟩ := (HX.out.new _ hmem).at_
    obtain ⟨a3, b3, e3, _⟩ := (HX.out.frm _ hmem).at_
    exact ⟨⟨_, _, _, e1⟩, ⟨_, _, _, e2⟩, ⟨_, _, _, e3⟩⟩)
  have HLen := mkHid hlen
  have HA0 := mkHid ha0
  clear z0 z1 z2 z3 hgl hlen ha0 hc0
  obtain ⟨po, no, co, rfl⟩ : ∃ po no co, ov = .slice po no co := by obtain ⟨pv, cv, e, _⟩ := HO.out.at_; exact ⟨pv, _, cv, e⟩
  obtain ⟨pv, c0, rfl, hl1⟩ := HC.out.at_
  obtain ⟨gl, ol, rfl, hgl, hl2⟩ := hl1 (by omega)
  have hnm : (clAt l top).name = name := (atN_lt hat).2.2
  obtain ⟨px, cx, ex, _⟩ := (HC.out.own top htl).at_
  have HD : Hid (∀ W, Fr [] w2 W → W.cell? ⟨g, off, none⟩ = some (.int .i64 ((top : Int) + 1)) ∧ W.cell? ⟨gl, ol + top * 4, none⟩ = some (.string name) ∧ W.cell? ⟨gl, ol + top * 4 + 2, none⟩ = some (.slice px (clAt l top).own.length cx)) := mkHid (fun W hW => by
    have q := (HCel.out W (mkHid hW) 0 hpos).1
    rw [HA0.out] at q
    simp only [Nat.zero_mul, Nat.add_zero] at q
    have hFW := HF.out.trans hW (by simp)
    obtain ⟨y0, _, y2, _⟩ := hl2 top htl
    exact ⟨q, by rw [(hFW.cell (p := ⟨gl, ol + top * 4, none⟩) hgl (by simp)), y0, hnm], by rw [(hFW.cell (p := ⟨gl, ol + top * 4 + 2, none⟩) hgl (by simp)), y2, ex]⟩)
  have HXO : Hid (∀ W, Fr [] w2 W → RdS W (.slice px (clAt l top).own.length cx) (clAt l top).own) := mkHid (fun W hW => by
    have := ((HC.out.own top htl).idle HF.out).idle hW
    rw [ex] at this
    exact this)
  have HAskK : Hid (∀ k o, Trn l k top own → o.length ≤ 1048576 → Ask k o) := mkHid (fun k o hk ho => by
    have h1 := hk.sum
    exact ask_of2 (by rw [hk.len]; omega) (by omega))
  have HOl : Hid ((clAt l top).own.length ≤ 1048576) := mkHid (by have := own_le_sum htl; omega)
  have HOl2 : Hid (own.length ≤ 1048576) := mkHid (by omega)
  have HMay := mkHid hmay
  have HNe := mkHid hne
  have HAtN := mkHid hat
  have hfew := hask.few
  clear hl1 hl2 hgl ex hfull hmk hnm hask hmay hne hat
  have hpi : ((xs.length : Int) == 0) = false := by rw [beq_eq_false_iff_ne]; omega
  have hpz : ¬ (xs.length : Int) = 0 := by omega
  go_wp2_with (go_at_call 17; refine (lNum_ok _ _).mono ?_; rintro e wx ⟨rfl, rfl⟩)
  obtain ⟨w2, rfl⟩ : ∃ x, x = wx := ⟨_, rfl⟩
  go_loopw [11] (fun q wr => ∃ i : Nat, i ≤ xs.length ∧ q = .int .i64 i ∧ Hid (Fr [] w2 wr)) (fun q _ => xs.length - (intOf q).toNat)
  case atStart => exact ⟨0, Nat.zero_le _, rfl, mkHid (Fr.refl _ _)⟩
  case round =>
    obtain ⟨i, hi, rfl, hfr⟩ := hrel
    have i1 : (0 : Int) ≤ (i : Int) := by omega
    by_cases hlt : i < xs.length
    · have i2 : (i : Int) < (xs.length : Int) := by omega
      obtain ⟨⟨a1, b1, c1, e1⟩, ⟨a2, b2, c2, e2⟩, ⟨a3, b3, c3, e3⟩⟩ := HOne.out i hlt
      have HCi : Hid (∀ V, Hid (Fr [] w2 V) → V.cell? ⟨g, off + i * 4, none⟩ = some (.int .i64 ((affAt l top i : Int) + 1)) ∧ V.cell? ⟨g, off + i * 4 + 1, none⟩ = some (.slice a1 b1 c1) ∧ V.cell? ⟨g, off + i * 4 + 2, none⟩ = some (.slice a2 b2 c2) ∧ V.cell? ⟨g, off + i * 4 + 3, none⟩ = some (.slice a3 b3 c3)) := mkHid (fun V hV => by
        have := HCel.out V hV i hlt
        rw [e1, e2, e3] at this
        exact this)
      have HRi : Hid (∀ V, Hid (Fr [] w2 V) → Calls Try.prog 19 #[.agg #[.int .i64 ((affAt l top i : Int) + 1), .slice a1 b1 c1, .slice a2 b2 c2, .slice a3 b3 c3], .slice (some ⟨gl, ol, none⟩) l.length c0, .string name] V fun e w' => e = .returned (.bool true) ∧ Hid (Fr [] w2 w')) := mkHid (fun V hV => by
        have := HRt.out V hV i hlt
        rw [e1, e2, e3] at this
        exact this)
      clear HRt HOne HX HMp HC HO HFx HP HF hmap e1 e2 e3 HD HXO HAskK HOl HOl2 HMay HNe HAtN hb hfew HLen HA0
      have hR : Hid (Fr [] w2 wr) := hfr
      have HRi2 : Hid (∀ V, Hid (Fr [] w2 V) → Calls Try.prog 19 #[.agg #[.int .i64 ((affAt l top i : Int) + 1), .slice a1 b1 c1, .slice a2 b2 c2, .slice a3 b3 c3], .slice (some ⟨gl, ol, none⟩) l.length c0, .string name] V fun e w' => ∃ r, e = .returned r ∧ (r = .bool true ∧ Hid (Fr [] w2 w'))) := mkHid (fun V hV => (HRi.out V hV).mono (by rintro e w' ⟨rfl, q⟩; exact ⟨_, rfl, rfl, q⟩))
      clear HRi
      obtain ⟨vv, hvv⟩ : ∃ vv, vv = Value.slice (some ⟨gl, ol, none⟩) l.length c0 := ⟨_, rfl⟩
      obtain ⟨uu, huu⟩ : ∃ uu, uu = Value.slice po no co := ⟨_, rfl⟩
      rw [← hvv] at HRi2
      rw [← hvv, ← huu]
      have HVV := mkHid hvv
      have HUU := mkHid huu
      clear hvv huu
      by_cases hi0 : i = 0
      · subst hi0
        simp only [Nat.zero_mul, Nat.add_zero] at HCi
        generalize affAt l top 0 = f0 at *
        rw [show ((0 : Nat) : Int) = (0 : Int) from rfl]
        clear HCel HLt
        go_wp2_with fail
        refine wp_region_held_drew (S := fun V => V.cell? ⟨g, off, none⟩ = some (.int .i64 ((f0 : Int) + 1)) ∧ V.cell? ⟨g, off + 1, none⟩ = some (.slice a1 b1 c1) ∧ V.cell? ⟨g, off + 2, none⟩ = some (.slice a2 b2 c2) ∧ V.cell? ⟨g, off + 3, none⟩ = some (.slice a3 b3 c3)) (by kernel_rfl) (HCi.out _ (hid_drew' hR)) (fun hHeld => ?_)
        refine wpAnyH_take (i := 0) (v := ?_) rfl (by kernel_rfl) (by kernel_rfl) (by kernel_rfl) (fun _ _ _ h => h) (Or.inl ⟨by rfl, ?_⟩) (by assumption) ?_
        rotate_left
        · (intro w hSw; (try dsimp only at hSw); first | (go_simp; done) | (go_simp; with_reducible rfl))
        try simp only [Act.put, List.getElem_toArray, List.getElem_cons_zero, List.getElem_cons_succ, List.setIfInBounds_toArray, List.set_cons_zero, List.set_cons_succ]
        refine wpAnyH_take (i := 1) (v := ?_) rfl (by kernel_rfl) (by kernel_rfl) (by kernel_rfl) (fun _ _ _ h => h) (Or.inl ⟨by rfl, ?_⟩) (by assumption) ?_
        rotate_left
        · (intro w hSw; (try dsimp only at hSw); first | (go_simp; done) | (go_simp; with_reducible rfl))
        try simp only [Act.put, List.getElem_toArray, List.getElem_cons_zero, List.getElem_cons_succ, List.setIfInBounds_toArray, List.set_cons_zero, List.set_cons_succ]
        refine wpAnyH_take (i := 2) (v := ?_) rfl (by kernel_rfl) (by kernel_rfl) (by kernel_rfl) (fun _ _ _ h => h) (Or.inl ⟨by rfl, ?_⟩) (by assumption) ?_
        rotate_left
        · (intro w hSw; (try dsimp only at hSw); first | (go_simp; done) | (go_simp; with_reducible rfl))
        try simp only [Act.put, List.getElem_toArray, List.getElem_cons_zero, List.getElem_cons_succ, List.setIfInBounds_toArray, List.set_cons_zero, List.set_cons_succ]
        refine wpAnyH_take (i := 3) (v := ?_) rfl (by kernel_rfl) (by kernel_rfl) (by kernel_rfl) (fun _ _ _ h => h) (Or.inl ⟨by rfl, ?_⟩) (by assumption) ?_
        rotate_left
        · (intro w hSw; (try dsimp only at hSw); first | (go_simp; done) | (go_simp; with_reducible rfl))
        try simp only [Act.put, List.getElem_toArray, List.getElem_cons_zero, List.getElem_cons_succ, List.setIfInBounds_toArray, List.set_cons_zero, List.set_cons_succ]
        refine wpAnyH_take (i := 4) (v := ?_) rfl (by kernel_rfl) (by kernel_rfl) (by kernel_rfl) (fun _ _ _ h => h) (Or.inl ⟨by rfl, ?_⟩) (by assumption) ?_
        rotate_left
        · (intro w hSw; (try dsimp only at hSw); first | (go_simp; done) | (go_simp; with_reducible rfl))
        try simp only [Act.put, List.getElem_toArray, List.getElem_cons_zero, List.getElem_cons_succ, List.setIfInBounds_toArray, List.set_cons_zero, List.set_cons_succ]
        refine wpAnyH_take (i := 5) (v := ?_) rfl (by kernel_rfl) (by kernel_rfl) (by kernel_rfl) (fun _ _ _ h => h) (Or.inl ⟨by rfl, ?_⟩) (by assumption) ?_
        rotate_left
        · (intro w hSw; (try dsimp only at hSw); first | (go_simp; done) | (go_simp; with_reducible rfl))
        try simp only [Act.put, List.getElem_toArray, List.getElem_cons_zero, List.getElem_cons_succ, List.setIfInBounds_toArray, List.set_cons_zero, List.set_cons_succ]
        refine wpH_one (i := 6) (by kernel_rfl) rfl (fun K hK => ?_)
        refine step_callG (by rfl) 19 Try.f19 Try.func19 (by kernel_rfl) (by kernel_rfl) _ _ rfl _ (by simp [Act.eval]) _ (HRi2.out _ (hid_drew' hR)) ?_
        rintro _ w3 ⟨rfl, hg⟩
        refine hK.out _ _ (HCi.out _ hg) (fun hHeld => ?_)
        clear hK K
        try simp only [Act.put, List.getElem_toArray, List.getElem_cons_zero, List.getElem_cons_succ, List.setIfInBounds_toArray, List.set_cons_zero, List.set_cons_succ]
        refine wpAnyH_take (i := 7) (v := ?_) rfl (by kernel_rfl) (by kernel_rfl) (by kernel_rfl) (fun _ _ _ h => h) (Or.inl ⟨by rfl, ?_⟩) (by assumption) ?_
        rotate_left
        · (intro w hSw; (try dsimp only at hSw); first | (go_simp; done) | (go_simp; with_reducible rfl))
        try simp only [Act.put, List.getElem_toArray, List.getElem_cons_zero, List.getElem_cons_succ, List.setIfInBounds_toArray, List.set_cons_zero, List.set_cons_succ]
        refine wpAnyH_take (i := 8) (v := ?_) rfl (by kernel_rfl) (by kernel_rfl) (by kernel_rfl) (fun _ _ _ h => h) (Or.inl ⟨by rfl, ?_⟩) (by assumption) ?_
        rotate_left
        · (intro w hSw; (try dsimp only at hSw); first | (go_simp; done) | (go_simp; with_reducible rfl))
        try simp only [Act.put, List.getElem_toArray, List.getElem_cons_zero, List.getElem_cons_succ, List.setIfInBounds_toArray, List.set_cons_zero, List.set_cons_succ]
        refine wpAnyH_take (i := 9) (v := ?_) rfl (by kernel_rfl) (by kernel_rfl) (by kernel_rfl) (fun _ _ _ h => h) (Or.inl ⟨by rfl, ?_⟩) (by assumption) ?_
        rotate_left
        · (intro w hSw; (try dsimp only at hSw); first | (go_simp; done) | (go_simp; with_reducible rfl))
        try simp only [Act.put, List.getElem_toArray, List.getElem_cons_zero, List.getElem_cons_succ, List.setIfInBounds_toArray, List.set_cons_zero, List.set_cons_succ]
        refine wpAnyH_take (i := 10) (v := ?_) rfl (by kernel_rfl) (by kernel_rfl) (by kernel_rfl) (fun _ _ _ h => h) (Or.inl ⟨by rfl, ?_⟩) (by assumption) ?_
        rotate_left
        · (intro w hSw; (try dsimp only at hSw); first | (go_simp; done) | (go_simp; with_reducible rfl))
        try simp only [Act.put, List.getElem_toArray, List.getElem_cons_zero, List.getElem_cons_succ, List.setIfInBounds_toArray, List.set_cons_zero, List.set_cons_succ]
        refine wpAnyH_take (i := 11) (v := ?_) rfl (by kernel_rfl) (by kernel_rfl) (by kernel_rfl) (fun _ _ _ h => h) (Or.inl ⟨by rfl, ?_⟩) (by assumption) ?_
        rotate_left
        · (intro w hSw; (try dsimp only at hSw); first | (go_simp; done) | (go_simp; with_reducible rfl))
        try simp only [Act.put, List.getElem_toArray, List.getElem_cons_zero, List.getElem_cons_succ, List.setIfInBounds_toArray, List.set_cons_zero, List.set_cons_succ]
        refine wpAnyH_take (i := 12) (v := undef) rfl (by kernel_rfl) (by kernel_rfl) (by kernel_rfl) (fun _ _ _ h => h) (Or.inr ⟨by rfl, rfl⟩) (by assumption) ?_
        try simp only [Act.put, List.getElem_toArray, List.getElem_cons_zero, List.getElem_cons_succ, List.setIfInBounds_toArray, List.set_cons_zero, List.set_cons_succ]
        refine wpAnyH_take (i := 13) (v := undef) rfl (by kernel_rfl) (by kernel_rfl) (by kernel_rfl) (fun _ _ _ h => h) (Or.inr ⟨by rfl, rfl⟩) (by assumption) ?_
        try simp only [Act.put, List.getElem_toArray, List.getElem_cons_zero, List.getElem_cons_succ, List.setIfInBounds_toArray, List.set_cons_zero, List.set_cons_succ]
        refine wpAnyH_take (i := 14) (v := undef) rfl (by kernel_rfl) (by kernel_rfl) (by kernel_rfl) (fun _ _ _ h => h) (Or.inr ⟨by rfl, rfl⟩) (by assumption) ?_
        try simp only [Act.put, List.getElem_toArray, List.getElem_cons_zero, List.getElem_cons_succ, List.setIfInBounds_toArray, List.set_cons_zero, List.set_cons_succ]
        refine wpAnyH_take (i := 15) (v := undef) rfl (by kernel_rfl) (by kernel_rfl) (by kernel_rfl) (fun _ _ _ h => h) (Or.inr ⟨by rfl, rfl⟩) (by assumption) ?_
        try simp only [Act.put, List.getElem_toArray, List.getElem_cons_zero, List.getElem_cons_succ, List.setIfInBounds_toArray, List.set_cons_zero, List.set_cons_succ]
        refine wpAnyH_take (i := 16) (v := undef) rfl (by kernel_rfl) (by kernel_rfl) (by kernel_rfl) (fun _ _ _ h => h) (Or.inr ⟨by rfl, rfl⟩) (by assumption) ?_
        try simp only [Act.put, List.getElem_toArray, List.getElem_cons_zero, List.getElem_cons_succ, List.setIfInBounds_toArray, List.set_cons_zero, List.set_cons_succ]
        refine wpAnyH_take (i := 17) (v := undef) rfl (by kernel_rfl) (by kernel_rfl) (by kernel_rfl) (fun _ _ _ h => h) (Or.inr ⟨by rfl, rfl⟩) (by assumption) ?_
        try simp only [Act.put, List.getElem_toArray, List.getElem_cons_zero, List.getElem_cons_succ, List.setIfInBounds_toArray, List.set_cons_zero, List.set_cons_succ]
        refine wpAnyH_take (i := 18) (v := undef) rfl (by kernel_rfl) (by kernel_rfl) (by kernel_rfl) (fun _ _ _ h => h) (Or.inr ⟨by rfl, rfl⟩) (by assumption) ?_
        try simp only [Act.put, List.getElem_toArray, List.getElem_cons_zero, List.getElem_cons_succ, List.setIfInBounds_toArray, List.set_cons_zero, List.set_cons_succ]
        refine wpAnyH_take (i := 19) (v := undef) rfl (by kernel_rfl) (by kernel_rfl) (by kernel_rfl) (fun _ _ _ h => h) (Or.inr ⟨by rfl, rfl⟩) (by assumption) ?_
        try simp only [Act.put, List.getElem_toArray, List.getElem_cons_zero, List.getElem_cons_succ, List.setIfInBounds_toArray, List.set_cons_zero, List.set_cons_succ]
        refine wpAnyH_take (i := 20) (v := undef) rfl (by kernel_rfl) (by kernel_rfl) (by kernel_rfl) (fun _ _ _ h => h) (Or.inr ⟨by rfl, rfl⟩) (by assumption) ?_
        try simp only [Act.put, List.getElem_toArray, List.getElem_cons_zero, List.getElem_cons_succ, List.setIfInBounds_toArray, List.set_cons_zero, List.set_cons_succ]
        refine wpAnyH_take (i := 21) (v := undef) rfl (by kernel_rfl) (by kernel_rfl) (by kernel_rfl) (fun _ _ _ h => h) (Or.inr ⟨by rfl, rfl⟩) (by assumption) ?_
        try simp only [Act.put, List.getElem_toArray, List.getElem_cons_zero, List.getElem_cons_succ, List.setIfInBounds_toArray, List.set_cons_zero, List.set_cons_succ]
        refine wpAnyH_take (i := 22) (v := undef) rfl (by kernel_rfl) (by kernel_rfl) (by kernel_rfl) (fun _ _ _ h => h) (Or.inr ⟨by rfl, rfl⟩) (by assumption) ?_
        try simp only [Act.put, List.getElem_toArray, List.getElem_cons_zero, List.getElem_cons_succ, List.setIfInBounds_toArray, List.set_cons_zero, List.set_cons_succ]
        refine wpAnyH_take (i := 23) (v := undef) rfl (by kernel_rfl) (by kernel_rfl) (by kernel_rfl) (fun _ _ _ h => h) (Or.inr ⟨by rfl, rfl⟩) (by assumption) ?_
        try simp only [Act.put, List.getElem_toArray, List.getElem_cons_zero, List.getElem_cons_succ, List.setIfInBounds_toArray, List.set_cons_zero, List.set_cons_succ]
        refine wpAnyH_take (i := 24) (v := ?_) rfl (by kernel_rfl) (by kernel_rfl) (by kernel_rfl) (fun _ _ _ h => h) (Or.inl ⟨by rfl, ?_⟩) (by assumption) ?_
        rotate_left
        · (intro w hSw; (try dsimp only at hSw); first | (go_simp; done) | (go_simp; with_reducible rfl))
        try simp only [Act.put, List.getElem_toArray, List.getElem_cons_zero, List.getElem_cons_succ, List.setIfInBounds_toArray, List.set_cons_zero, List.set_cons_succ]
        refine wpAnyH_take (i := 25) (v := ?_) rfl (by kernel_rfl) (by kernel_rfl) (by kernel_rfl) (fun _ _ _ h => h) (Or.inl ⟨by rfl, ?_⟩) (by assumption) ?_
        rotate_left
        · (intro w hSw; (try dsimp only at hSw); first | (go_simp; done) | (go_simp; with_reducible rfl))
        try simp only [Act.put, List.getElem_toArray, List.getElem_cons_zero, List.getElem_cons_succ, List.setIfInBounds_toArray, List.set_cons_zero, List.set_cons_succ]
        refine wpAnyH_done (by kernel_rfl) ?_ _
        go_wp2_with fail
        go_roundw
        case rel => exact ⟨1, by omega, rfl, hg⟩
        case measure => simp [intOf]; omega
      · obtain ⟨k, hk⟩ : ∃ k, i = k + 1 := ⟨i - 1, by omega⟩
        have HCb : Hid (∀ V, Hid (Fr [] w2 V) → V.cell? ⟨g, off + k * 4, none⟩ = some (.int .i64 ((affAt l top k : Int) + 1))) := mkHid (fun V hV => (HCel.out V hV k (by omega)).1)
        have hl := HLt.out k (by omega)
        rw [← hk] at hl
        have f1 : (i : Int) - 1 = (k : Int) := by omega
        have f1' : IntKind.i64.wrap ((i : Int) - 1) = (k : Int) := by rw [f1, iwrap]; unfold wrap64; omega
        have hwk : IntKind.i64.wrap (k : Int) = (k : Int) := by rw [iwrap]; unfold wrap64; omega
        have f2 : (0 : Int) < (i : Int) := by omega
        have f3 : (0 : Int) ≤ (k : Int) := by omega
        have f4 : (k : Int) < (xs.length : Int) := by omega
        have f5 : ¬ (affAt l top i : Int) + 1 ≤ (affAt l top k : Int) + 1 := by omega
        clear HCel HLt hk hi0
        generalize affAt l top i = fa at *
        generalize affAt l top k = fb at *
        have HCC : Hid (∀ V, Hid (Fr [] w2 V) → V.cell? ⟨g, off + i * 4, none⟩ = some (.int .i64 ((fa : Int) + 1)) ∧ V.cell? ⟨g, off + i * 4 + 1, none⟩ = some (.slice a1 b1 c1) ∧ V.cell? ⟨g, off + i * 4 + 2, none⟩ = some (.slice a2 b2 c2) ∧ V.cell? ⟨g, off + i * 4 + 3, none⟩ = some (.slice a3 b3 c3) ∧ V.cell? ⟨g, off + k * 4, none⟩ = some (.int .i64 ((fb : Int) + 1))) := mkHid (fun V hV => by
          obtain ⟨q0, q1, q2, q3⟩ := HCi.out V hV
          exact ⟨q0, q1, q2, q3, HCb.out V hV⟩)
        go_wp2_with fail
        refine wp_region_held_drew (S := fun V => V.cell? ⟨g, off + i * 4, none⟩ = some (.int .i64 ((fa : Int) + 1)) ∧ V.cell? ⟨g, off + i * 4 + 1, none⟩ = some (.slice a1 b1 c1) ∧ V.cell? ⟨g, off + i * 4 + 2, none⟩ = some (.slice a2 b2 c2) ∧ V.cell? ⟨g, off + i * 4 + 3, none⟩ = some (.slice a3 b3 c3) ∧ V.cell? ⟨g, off + k * 4, none⟩ = some (.int .i64 ((fb : Int) + 1))) (by kernel_rfl) (HCC.out _ (hid_drew' hR)) (fun hHeld => ?_)
        refine wpAnyH_take (i := 0) (v := ?_) rfl (by kernel_rfl) (by kernel_rfl) (by kernel_rfl) (fun _ _ _ h => h) (Or.inl ⟨by rfl, ?_⟩) (by assumption) ?_
        rotate_left
        · (intro w hSw; (try dsimp only at hSw); first | (go_simp; done) | (go_simp; with_reducible rfl))
        try simp only [Act.put, List.getElem_toArray, List.getElem_cons_zero, List.getElem_cons_succ, List.setIfInBounds_toArray, List.set_cons_zero, List.set_cons_succ]
        refine wpAnyH_take (i := 1) (v := ?_) rfl (by kernel_rfl) (by kernel_rfl) (by kernel_rfl) (fun _ _ _ h => h) (Or.inl ⟨by rfl, ?_⟩) (by assumption) ?_
        rotate_left
        · (intro w hSw; (try dsimp only at hSw); first | (go_simp; done) | (go_simp; with_reducible rfl))
        try simp only [Act.put, List.getElem_toArray, List.getElem_cons_zero, List.getElem_cons_succ, List.setIfInBounds_toArray, List.set_cons_zero, List.set_cons_succ]
        refine wpAnyH_take (i := 2) (v := ?_) rfl (by kernel_rfl) (by kernel_rfl) (by kernel_rfl) (fun _ _ _ h => h) (Or.inl ⟨by rfl, ?_⟩) (by assumption) ?_
        rotate_left
        · (intro w hSw; (try dsimp only at hSw); first | (go_simp; done) | (go_simp; with_reducible rfl))
        try simp only [Act.put, List.getElem_toArray, List.getElem_cons_zero, List.getElem_cons_succ, List.setIfInBounds_toArray, List.set_cons_zero, List.set_cons_succ]
        refine wpAnyH_take (i := 3) (v := ?_) rfl (by kernel_rfl) (by kernel_rfl) (by kernel_rfl) (fun _ _ _ h => h) (Or.inl ⟨by rfl, ?_⟩) (by assumption) ?_
        rotate_left
        · (intro w hSw; (try dsimp only at hSw); first | (go_simp; done) | (go_simp; with_reducible rfl))
        try simp only [Act.put, List.getElem_toArray, List.getElem_cons_zero, List.getElem_cons_succ, List.setIfInBounds_toArray, List.set_cons_zero, List.set_cons_succ]
        refine wpAnyH_take (i := 4) (v := ?_) rfl (by kernel_rfl) (by kernel_rfl) (by kernel_rfl) (fun _ _ _ h => h) (Or.inl ⟨by rfl, ?_⟩) (by assumption) ?_
        rotate_left
        · (intro w hSw; (try dsimp only at hSw); first | (go_simp; done) | (go_simp; with_reducible rfl))
        try simp only [Act.put, List.getElem_toArray, List.getElem_cons_zero, List.getElem_cons_succ, List.setIfInBounds_toArray, List.set_cons_zero, List.set_cons_succ]
        refine wpAnyH_take (i := 5) (v := ?_) rfl (by kernel_rfl) (by kernel_rfl) (by kernel_rfl) (fun _ _ _ h => h) (Or.inl ⟨by rfl, ?_⟩) (by assumption) ?_
        rotate_left
        · (intro w hSw; (try dsimp only at hSw); first | (go_simp; done) | (go_simp; with_reducible rfl))
        try simp only [Act.put, List.getElem_toArray, List.getElem_cons_zero, List.getElem_cons_succ, List.setIfInBounds_toArray, List.set_cons_zero, List.set_cons_succ]
        refine wpH_one (i := 6) (by kernel_rfl) rfl (fun K hK => ?_)
        refine step_callG (by rfl) 19 Try.f19 Try.func19 (by kernel_rfl) (by kernel_rfl) _ _ rfl _ (by simp [Act.eval]) _ (HRi2.out _ (hid_drew' hR)) ?_
        rintro _ w3 ⟨rfl, hg⟩
        refine hK.out _ _ (HCC.out _ hg) (fun hHeld => ?_)
        clear hK K
        try simp only [Act.put, List.getElem_toArray, List.getElem_cons_zero, List.getElem_cons_succ, List.setIfInBounds_toArray, List.set_cons_zero, List.set_cons_succ]
        refine wpAnyH_take (i := 7) (v := ?_) rfl (by kernel_rfl) (by kernel_rfl) (by kernel_rfl) (fun _ _ _ h => h) (Or.inl ⟨by rfl, ?_⟩) (by assumption) ?_
        rotate_left
        · (intro w hSw; (try dsimp only at hSw); first | (go_simp; done) | (go_simp; with_reducible rfl))
        try simp only [Act.put, List.getElem_toArray, List.getElem_cons_zero, List.getElem_cons_succ, List.setIfInBounds_toArray, List.set_cons_zero, List.set_cons_succ]
        refine wpAnyH_take (i := 8) (v := ?_) rfl (by kernel_rfl) (by kernel_rfl) (by kernel_rfl) (fun _ _ _ h => h) (Or.inl ⟨by rfl, ?_⟩) (by assumption) ?_
        rotate_left
        · (intro w hSw; (try dsimp only at hSw); first | (go_simp; done) | (go_simp; with_reducible rfl))
        try simp only [Act.put, List.getElem_toArray, List.getElem_cons_zero, List.getElem_cons_succ, List.setIfInBounds_toArray, List.set_cons_zero, List.set_cons_succ]
        refine wpAnyH_take (i := 9) (v := ?_) rfl (by kernel_rfl) (by kernel_rfl) (by kernel_rfl) (fun _ _ _ h => h) (Or.inl ⟨by rfl, ?_⟩) (by assumption) ?_
        rotate_left
        · (intro w hSw; (try dsimp only at hSw); first | (go_simp; done) | (go_simp; with_reducible rfl))
        try simp only [Act.put, List.getElem_toArray, List.getElem_cons_zero, List.getElem_cons_succ, List.setIfInBounds_toArray, List.set_cons_zero, List.set_cons_succ]
        refine wpAnyH_take (i := 10) (v := .bool true) rfl (by kernel_rfl) (by kernel_rfl) (by kernel_rfl) (fun _ _ _ h => h) (Or.inl ⟨by rfl, ?_⟩) (by assumption) ?_
        · (intro w hSw; (try dsimp only at hSw); go_simp; try first | omega | assumption)
        try simp only [Act.put, List.getElem_toArray, List.getElem_cons_zero, List.getElem_cons_succ, List.setIfInBounds_toArray, List.set_cons_zero, List.set_cons_succ]
        refine wpAnyH_take (i := 11) (v := ?_) rfl (by kernel_rfl) (by kernel_rfl) (by kernel_rfl) (fun _ _ _ h => h) (Or.inl ⟨by rfl, ?_⟩) (by assumption) ?_
        rotate_left
        · (intro w hSw; (try dsimp only at hSw); first | (go_simp; done) | (go_simp; with_reducible rfl))
        try simp only [Act.put, List.getElem_toArray, List.getElem_cons_zero, List.getElem_cons_succ, List.setIfInBounds_toArray, List.set_cons_zero, List.set_cons_succ]
        refine wpAnyH_take (i := 12) (v := ?_) rfl (by kernel_rfl) (by kernel_rfl) (by kernel_rfl) (fun _ _ _ h => h) (Or.inl ⟨by rfl, ?_⟩) (by assumption) ?_
        rotate_left
        · (intro w hSw; (try dsimp only at hSw); first | (go_simp; done) | (go_simp; with_reducible rfl))
        try simp only [Act.put, List.getElem_toArray, List.getElem_cons_zero, List.getElem_cons_succ, List.setIfInBounds_toArray, List.set_cons_zero, List.set_cons_succ]
        refine wpAnyH_take (i := 13) (v := ?_) rfl (by kernel_rfl) (by kernel_rfl) (by kernel_rfl) (fun _ _ _ h => h) (Or.inl ⟨by rfl, ?_⟩) (by assumption) ?_
        rotate_left
        · (intro w hSw; (try dsimp only at hSw); first | (go_simp; done) | (go_simp; with_reducible rfl))
        try simp only [Act.put, List.getElem_toArray, List.getElem_cons_zero, List.getElem_cons_succ, List.setIfInBounds_toArray, List.set_cons_zero, List.set_cons_succ]
        refine wpAnyH_take (i := 14) (v := ?_) rfl (by kernel_rfl) (by kernel_rfl) (by kernel_rfl) (fun _ _ _ h => h) (Or.inl ⟨by rfl, ?_⟩) (by assumption) ?_
        rotate_left
        · (intro w hSw; (try dsimp only at hSw); first | (go_simp; done) | (go_simp; with_reducible rfl))
        try simp only [Act.put, List.getElem_toArray, List.getElem_cons_zero, List.getElem_cons_succ, List.setIfInBounds_toArray, List.set_cons_zero, List.set_cons_succ]
        refine wpAnyH_take (i := 15) (v := ?_) rfl (by kernel_rfl) (by kernel_rfl) (by kernel_rfl) (fun _ _ _ h => h) (Or.inl ⟨by rfl, ?_⟩) (by assumption) ?_
        rotate_left
        · (intro w hSw; (try dsimp only at hSw); first | (go_simp; done) | (go_simp; with_reducible rfl))
        try simp only [Act.put, List.getElem_toArray, List.getElem_cons_zero, List.getElem_cons_succ, List.setIfInBounds_toArray, List.set_cons_zero, List.set_cons_succ]
        refine wpAnyH_take (i := 16) (v := ?_) rfl (by kernel_rfl) (by kernel_rfl) (by kernel_rfl) (fun _ _ _ h => h) (Or.inl ⟨by rfl, ?_⟩) (by assumption) ?_
        rotate_left
        · (intro w hSw; (try dsimp only at hSw); first | (go_simp; done) | (go_simp; with_reducible rfl))
        try simp only [Act.put, List.getElem_toArray, List.getElem_cons_zero, List.getElem_cons_succ, List.setIfInBounds_toArray, List.set_cons_zero, List.set_cons_succ]
        refine wpAnyH_take (i := 17) (v := ?_) rfl (by kernel_rfl) (by kernel_rfl) (by kernel_rfl) (fun _ _ _ h => h) (Or.inl ⟨by rfl, ?_⟩) (by assumption) ?_
        rotate_left
        · (intro w hSw; (try dsimp only at hSw); first | (go_simp; done) | (go_simp; with_reducible rfl))
        try simp only [Act.put, List.getElem_toArray, List.getElem_cons_zero, List.getElem_cons_succ, List.setIfInBounds_toArray, List.set_cons_zero, List.set_cons_succ]
        refine wpAnyH_take (i := 18) (v := ?_) rfl (by kernel_rfl) (by kernel_rfl) (by kernel_rfl) (fun _ _ _ h => h) (Or.inl ⟨by rfl, ?_⟩) (by assumption) ?_
        rotate_left
        · (intro w hSw; (try dsimp only at hSw); first | (go_simp; done) | (go_simp; with_reducible rfl))
        try simp only [Act.put, List.getElem_toArray, List.getElem_cons_zero, List.getElem_cons_succ, List.setIfInBounds_toArray, List.set_cons_zero, List.set_cons_succ]
        refine wpAnyH_take (i := 19) (v := .int .i64 (k : Int)) rfl (by kernel_rfl) (by kernel_rfl) (by kernel_rfl) (fun _ _ _ h => h) (Or.inl ⟨by rfl, ?_⟩) (by assumption) ?_
        · (intro w hSw; (try dsimp only at hSw); go_simp; try first | omega | assumption)
        try simp only [Act.put, List.getElem_toArray, List.getElem_cons_zero, List.getElem_cons_succ, List.setIfInBounds_toArray, List.set_cons_zero, List.set_cons_succ]
        refine wpAnyH_take (i := 20) (v := ?_) rfl (by kernel_rfl) (by kernel_rfl) (by kernel_rfl) (fun _ _ _ h => h) (Or.inl ⟨by rfl, ?_⟩) (by assumption) ?_
        rotate_left
        · (intro w hSw; (try dsimp only at hSw); first | (go_simp; done) | (go_simp; with_reducible rfl))
        try simp only [Act.put, List.getElem_toArray, List.getElem_cons_zero, List.getElem_cons_succ, List.setIfInBounds_toArray, List.set_cons_zero, List.set_cons_succ]
        refine wpAnyH_take (i := 21) (v := ?_) rfl (by kernel_rfl) (by kernel_rfl) (by kernel_rfl) (fun _ _ _ h => h) (Or.inl ⟨by rfl, ?_⟩) (by assumption) ?_
        rotate_left
        · (intro w hSw; (try dsimp only at hSw); first | (go_simp; done) | (go_simp; with_reducible rfl))
        try simp only [Act.put, List.getElem_toArray, List.getElem_cons_zero, List.getElem_cons_succ, List.setIfInBounds_toArray, List.set_cons_zero, List.set_cons_succ]
        refine wpAnyH_take (i := 22) (v := ?_) rfl (by kernel_rfl) (by kernel_rfl) (by kernel_rfl) (fun _ _ _ h => h) (Or.inl ⟨by rfl, ?_⟩) (by assumption) ?_
        rotate_left
        · (intro w hSw; (try dsimp only at hSw); first | (go_simp; done) | (go_simp; with_reducible rfl))
        try simp only [Act.put, List.getElem_toArray, List.getElem_cons_zero, List.getElem_cons_succ, List.setIfInBounds_toArray, List.set_cons_zero, List.set_cons_succ]
        refine wpAnyH_take (i := 23) (v := .bool false) rfl (by kernel_rfl) (by kernel_rfl) (by kernel_rfl) (fun _ _ _ h => h) (Or.inl ⟨by rfl, ?_⟩) (by assumption) ?_
        · (intro w hSw; (try dsimp only at hSw); go_simp; try first | omega | assumption)
        try simp only [Act.put, List.getElem_toArray, List.getElem_cons_zero, List.getElem_cons_succ, List.setIfInBounds_toArray, List.set_cons_zero, List.set_cons_succ]
        refine wpAnyH_take (i := 24) (v := ?_) rfl (by kernel_rfl) (by kernel_rfl) (by kernel_rfl) (fun _ _ _ h => h) (Or.inl ⟨by rfl, ?_⟩) (by assumption) ?_
        rotate_left
        · (intro w hSw; (try dsimp only at hSw); first | (go_simp; done) | (go_simp; with_reducible rfl))
        try simp only [Act.put, List.getElem_toArray, List.getElem_cons_zero, List.getElem_cons_succ, List.setIfInBounds_toArray, List.set_cons_zero, List.set_cons_succ]
        refine wpAnyH_take (i := 25) (v := ?_) rfl (by kernel_rfl) (by kernel_rfl) (by kernel_rfl) (fun _ _ _ h => h) (Or.inl ⟨by rfl, ?_⟩) (by assumption) ?_
        rotate_left
        · (intro w hSw; (try dsimp only at hSw); first | (go_simp; done) | (go_simp; with_reducible rfl))
        try simp only [Act.put, List.getElem_toArray, List.getElem_cons_zero, List.getElem_cons_succ, List.setIfInBounds_toArray, List.set_cons_zero, List.set_cons_succ]
        refine wpAnyH_done (by kernel_rfl) ?_ _
        go_wp2_with fail
        go_roundw
        case rel => exact ⟨i + 1, by omega, by go_num, hg⟩
        case measure => simp [intOf]; omega
    · have hie : i = xs.length := by omega
      subst hie
      obtain ⟨d0, d1, d2⟩ := HD.out wr hfr.out
      have t0 : (0 : Int) ≤ (top : Int) := by omega
      have t1 : (top : Int) < (l.length : Int) := by omega
      have t2 : (0 : Int) < (xs.length : Int) := by omega
      have HAp := mkHid (lApplied_ok l name own xs _ _ _ wr ((HC.out.idle HF.out).idle hfr.out) ((HO.out.idle HF.out).idle hfr.out) (HX.out.idle hfr.out) hfew)
      clear HRt HOne HLt
      go_wp2_with (go_at_call 20; refine HAp.out.mono ?_; rintro e w4 ⟨pk, ck, k, rfl, hkr, fk, hkl, hkb⟩; have HKR := mkHid hkr; have HFK := mkHid fk; have HTr := mkHid (trn_of HMay.out.made HAtN.out hkl hkb); clear hkr fk hkl hkb HAp)
      have hagain := HTr.out.again (kernel := kernel) HMay.out (by omega) (by omega) HAtN.out (by omega)
      have F4 : Hid (Fr [] w2 w4) := mkHid (hfr.out.trans HFK.out (by simp))
      have HM2 := HP.out k kernel name own _ _ w4 HKR.out (((HO.out.idle HF.out).idle F4.out)) (HAskK.out k own HTr.out HOl2.out) (HTX.out.trn HTr.out)
      rw [hagain] at HM2
      refine Calls.mono HM2 ?_
      rintro e w5 ⟨vr5, rfl, ys, hy, hym, fy, hyn⟩
      have hy0 : ys = [] := by simpa using hym
      subst hy0
      obtain ⟨p5, c5, rfl, _⟩ := hy.at_
      have F5 : Hid (Fr [] w2 w5) := mkHid (F4.out.trans fy (by simp))
      have HK5 : Hid (RdC w5 (.slice pk k.length ck) k) := mkHid (HKR.out.idle fy)
      clear HM2 hagain hy hym fy hyn HKR HFK d0 d1 d2
      obtain ⟨d0, d1, d2⟩ := HD.out w5 F5.out
      go_wp2_with (go_at_call 17; refine (lNum_ok _ _).mono ?_; rintro e wx ⟨rfl, rfl⟩)
      have HM3 := HP.out k kernel name (clAt l top).own _ _ wx HK5.out (HXO.out wx F5.out) (HAskK.out k _ HTr.out HOl.out) (HTX.out.trn2 HTr.out)
      refine Calls.mono HM3 ?_
      rintro e w6 ⟨vr6, rfl, zs, hz, hzm, fz, hzn⟩
      have HZ := mkHid hz
      have HZM := mkHid hzm
      obtain ⟨p6, c6, rfl, _⟩ := hz.at_
      have F6 : Hid (Fr [] w2 w6) := mkHid (F5.out.trans fz (by simp))
      have HK6 : Hid (RdC w6 (.slice pk k.length ck) k) := mkHid (HK5.out.idle fz)
      clear HM3 hz hzm fz hzn HK5 d0 d1 d2
      obtain ⟨d0, d1, d2⟩ := HD.out w6 F6.out
      go_wp2_with fail
      have HM4 := rMake_ok k kernel name (clAt l top).own _ _ w6 HK6.out (HXO.out w6 F6.out) (HAskK.out k _ HTr.out HOl.out)
      refine Calls.mono HM4 ?_
      rintro e w7 ⟨vr7, rfl, _, _, _, f7, _⟩
      have F7 : Hid (Fr [] w2 w7) := mkHid (F6.out.trans f7 (by simp))
      have FE : Hid (Fr [] w1 w7) := mkHid (HF.out.trans F7.out (by simp))
      have HZ7 := mkHid (HZ.out.idle f7)
      have HX7 := mkHid (HX.out.idle F7.out)
      have HBk : Hid ((makeP k kernel name (clAt l top).own).2 = 0 → (makeP k kernel name (clAt l top).own).1 = (affected l top l.length).map (fun (c : Nat) => (⟨(c : Int) + 1, fields l (some top) own c, fields l none [] c, (fields l none [] c).map (amongZ (fields l (some top) own c))⟩ : Ch))) := mkHid (fun hz => HTr.out.back (kernel := kernel) HMay.out (by omega) (by omega) HAtN.out (by omega) HNe.out hz)
      clear HM4 f7 HZ HK6 d0 d1 d2 HP HD HXO HAskK HMay HAtN HNe HTr HC HO HF HX
      by_cases hm0 : (makeP k kernel name (clAt l top).own).2 = 0
      rotate_left
      · clear HBk HZM
        generalize (makeP k kernel name (clAt l top).own).2 = E at *
        go_wp2_with (first
          | (go_at_call 17; refine (lNum_ok _ _).mono ?_; rintro e wx ⟨rfl, rfl⟩)
          | (go_at_call 18; refine (HFx.out _).mono ?_; rintro e wy ⟨rfl, fy⟩))
        go_ret
        exact ⟨rfl, FE.out.trans fy (by simp)⟩
      · have hbk := HBk.out hm0
        have hzz : zs.map Cg.c = _ := HZM.out.trans hbk
        have hzl : zs.length = xs.length := by
          have e1 := congrArg List.length hzz
          rw [List.length_map, List.length_map] at e1
          rw [e1, HLen.out]
        have HZC : Hid (∀ j, j < xs.length → (cgAt zs j).c = ⟨((affAt l top j : Nat) : Int) + 1, (cgAt xs j).c.new, (cgAt xs j).c.old, (cgAt zs j).c.frm⟩ ∧ (cgAt xs j).c.cls = ((affAt l top j : Nat) : Int) + 1) := mkHid (fun j hj => by
          have q1 := (cg_change hmap hj).2
          have q2 := (cg_change hzz (by rw [hzl]; exact hj)).2
          rw [q1, q2]
          exact ⟨rfl, rfl⟩)
        rw [hm0]
        clear HBk HZM hbk hzz hm0
        have HZL := mkHid hzl
        clear hzl
        have hq : ((zs.length : Int) != (xs.length : Int)) = false := by rw [bne_eq_false_iff_eq, HZL.out]
        go_wp2_with (go_at_call 17; refine (lNum_ok _ _).mono ?_; rintro e wx ⟨rfl, rfl⟩)
        obtain ⟨w7, rfl⟩ : ∃ x, x = wx := ⟨_, rfl⟩
        obtain ⟨gz, oz, rfl, hgz, _⟩ := HZ7.out.cells (i := 0) (by rw [HZL.out]; exact hpos)
        have HCZ : Hid (∀ V, Fr [] w7 V → ∀ j, j < xs.length → V.cell? ⟨gz, oz + j * 4, none⟩ = some (.int .i64 (((affAt l top j : Nat) : Int) + 1)) ∧ V.cell? ⟨gz, oz + j * 4 + 1, none⟩ = some (cgAt zs j).vo ∧ V.cell? ⟨gz, oz + j * 4 + 2, none⟩ = some (cgAt zs j).vn ∧ V.cell? ⟨g, off + j * 4, none⟩ = some (.int .i64 (((affAt l top j : Nat) : Int) + 1)) ∧ V.cell? ⟨g, off + j * 4 + 1, none⟩ = some (cgAt xs j).vo ∧ V.cell? ⟨g, off + j * 4 + 2, none⟩ = some (cgAt xs j).vn) := mkHid (fun V hV j hj => by
          obtain ⟨q1, q2⟩ := HZC.out j hj
          obtain ⟨g1, o1, e1, _, y0, y1, y2, _⟩ := (HZ7.out.idle hV).cells (i := j) (by rw [HZL.out]; exact hj)
          obtain ⟨g2, o2, e2, _, u0, u1, u2, _⟩ := (HX7.out.idle hV).cells (i := j) hj
          injection e1 with e1
          injection e1 with e1 e3
          injection e2 with e2
          injection e2 with e2 e4
          subst e1; subst e3; subst e2; subst e4
          rw [q1] at y0
          rw [q2] at u0
          exact ⟨y0, y1, y2, u0, u1, u2⟩)
        have HSV : Hid (∀ V, Fr [] w7 V → ∀ j, j < xs.length → sameV V (cgAt zs j).vo (cgAt xs j).vn = true ∧ sameV V (cgAt zs j).vn (cgAt xs j).vo = true ∧ (∃ s, RdS V (cgAt zs j).vo s) ∧ (∃ s, RdS V (cgAt xs j).vn s) ∧ (∃ s, RdS V (cgAt zs j).vn s) ∧ (∃ s, RdS V (cgAt xs j).vo s)) := mkHid (fun V hV j hj => by
          obtain ⟨q1, q2⟩ := HZC.out j hj
          have m1 := List.mem_of_getElem? (cgAt_eq (xs := zs) (i := j) (by rw [HZL.out]; exact hj))
          have m2 := List.mem_of_getElem? (cgAt_eq hj)
          have r1 := (HZ7.out.idle hV).old _ m1
          have r2 := (HZ7.out.idle hV).new _ m1
          have r3 := (HX7.out.idle hV).old _ m2
          have r4 := (HX7.out.idle hV).new _ m2
          have e1 : (cgAt zs j).c.old = (cgAt xs j).c.new := by rw [q1]
          have e2 : (cgAt zs j).c.new = (cgAt xs j).c.old := by rw [q1]
          exact ⟨by rw [sameV_eq r1 r4]; exact decide_eq_true e1, by rw [sameV_eq r2 r3]; exact decide_eq_true e2, ⟨_, r1⟩, ⟨_, r4⟩, ⟨_, r2⟩, ⟨_, r3⟩⟩)
        have HSm : Hid (∀ V, Fr [] w7 V → ∀ N U Y, (∃ ss, RdS V U ss) → (∃ ts, RdS V Y ts) → Calls Try.prog 21 #[U, Y] (V.drewN N) fun e w' => e = .returned (.bool (sameV V U Y)) ∧ ∃ m, w' = (V.drewN N).drewN m) := mkHid (fun V hV N U Y ⟨ss, hU⟩ ⟨ts, hY⟩ => by
          rw [sameV_eq hU hY]
          exact lSame_ok ss ts U Y _ (hU.idle (Fr.drewN _ _ _)) (hY.idle (Fr.drewN _ _ _)))
        have hqz := HZL.out
        clear HZ7 HX7 HZC hmap HMp HCel hgz HLen
        go_loopw [19] (fun q wr => ∃ j : Nat, j ≤ xs.length ∧ q = .int .i64 j ∧ Hid (Fr [] w7 wr)) (fun q _ => xs.length - (intOf q).toNat)
        case atStart => exact ⟨0, Nat.zero_le _, rfl, mkHid (Fr.refl _ _)⟩
        case round =>
          obtain ⟨j, hj, rfl, hf7⟩ := hrel
          have j1 : (0 : Int) ≤ (j : Int) := by omega
          by_cases hjl : j < xs.length
          · have j2 : (j : Int) < (xs.length : Int) := by omega
            have j3 : (j : Int) < (zs.length : Int) := by omega
            obtain ⟨y0, y1, y2, y3, y4, y5⟩ := HCZ.out wr hf7.out j hjl
            obtain ⟨s1, s2, h1, h2, h3, h4⟩ := HSV.out wr hf7.out j hjl
            have H1 := mkHid h1
            have H2 := mkHid h2
            have H3 := mkHid h3
            have H4 := mkHid h4
            have HS := mkHid (HSm.out wr hf7.out)
            clear HCZ HSV HSm h1 h2 h3 h4 HFx hqz
            generalize (cgAt zs j).vo = zo at *
            generalize (cgAt zs j).vn = zn at *
            generalize (cgAt xs j).vo = xo at *
            generalize (cgAt xs j).vn = xn at *
            generalize affAt l top j = fj at *
            go_wp2_with fail
            go_quiet ((go_at_call 21; exact Calls.quiet_of (HS.out _ _ _ (by first | exact H1.out | exact H3.out) (by first | exact H2.out | exact H4.out))))
            go_wp2_with fail
            go_roundw
            case rel => exact ⟨j + 1, by omega, by go_num, mkHid (hf7.out.trans (Fr.drewN [] _ _) (by simp))⟩
            case measure => simp [intOf]; omega
          · have hje : j = xs.length := by omega
            subst hje
            clear HCZ HSV HSm
            go_wp2_with (go_at_call 18; refine (HFx.out _).mono ?_; rintro e wy ⟨rfl, fy⟩)
            go_ret
            exact ⟨rfl, (FE.out.trans hf7.out (by simp)).trans fy (by simp)⟩
end Go.Proofs.Ytblbjgifhgfifaa
