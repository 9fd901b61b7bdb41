import Derived.Test.YtblbjgifhgfifaaPNRight
namespace Go.Proofs.Ytblbjgifhgfifaa
open Go.RowKit
set_option linter.unusedVariables false
set_option linter.unusedSimpArgs false
theorem info47 : (Try.prog.info? 47).map (fun i => (i.zero, i.size, i.bytes)) = some (some (.agg #[.string ⟨#[]⟩, .string ⟨#[]⟩, .slice none 0 0, .int .i64 0]), 4, 64) := by kernel_rfl
theorem clss_snoc (l : List Cl) (x : Cl) : clss (l ++ [x]) = clss l ++ clCells x := by simp [clss]
theorem push_cl (w : World) (base : Nat) (p : Option Addr) (c : Nat) (l : List Cl) (x : Cl) (h : w.ownsRow base 47 4 (.slice p l.length c) l.length (clss l)) (hx : x.v.oneCell' = true) (hb : l.length + 1 ≤ 1099511627776) (hB : base ≤ w.heap.size) :
    ∃ p' c' w', (Builtin.append_ #[23, 23] 23 #[.slice p l.length c, .slice (some ⟨w.heap.size, 0, none⟩) 1 1]).run Try.prog (w.alloc (.cells #[.string x.name, .string x.sup, x.v, .int .i64 x.lay] 47)) = .ok (.slice p' (l.length + 1) c') w' ∧
      w'.ownsRow base 47 4 (.slice p' (l ++ [x]).length c') (l ++ [x]).length (clss (l ++ [x])) ∧ ((p' = p ∧ c' = c ∧ Fr (blk p) w w') ∨ (Fr [] w w' ∧ ∀ g ∈ blk p', w.heap.size ≤ g)) := by
  obtain ⟨i9, ii, iz, is, ib⟩ := info_parts info47
  obtain ⟨p', c', w', r1, r2, r3⟩ := pushW Try.underlying23 ii iz is ib rfl (by decide) w base l.length p c (clss l) (clCells x) h rfl (fun u hu => by
    unfold clCells at hu
    simp at hu
    rcases hu with rfl | rfl | rfl | rfl
    · rfl
    · rfl
    · exact hx
    · rfl) (by unfold maxLen; omega) (by omega) hB
  exact ⟨p', c', w', r1, by rw [List.length_append, clss_snoc]; exact r2, r3⟩
theorem own_rdC {w : World} {base : Nat} {v : Value} {l : List Cl} (h : w.ownsRow base 47 4 v l.length (clss l)) (ho : ∀ k, k < l.length → RdS w (clAt l k).v (clAt l k).own) (hs : l.length ≤ 8796093022208) : RdC w v l := by
  refine ⟨?_, ho, hs⟩
  rcases h.2 with ⟨h2, h3⟩ | ⟨g, cap, cur, h2, h3, h4, h5⟩
  · exact ⟨none, 0, by rw [h2, h3], fun hp => by omega⟩
  · refine ⟨some ⟨g, 0, none⟩, cap, h2, fun hp => ⟨g, 0, rfl, lt_of_heap h4, fun k hk => ?_⟩⟩
    rw [h2] at h
    obtain ⟨b0, b1, b2, b3⟩ := clss_at l k hk
    rw [Nat.zero_add]
    exact ⟨by rw [h.cellAt _ (by omega)]; exact b0, by rw [h.cellAt _ (by omega)]; exact b1, by rw [h.cellAt _ (by omega)]; exact b2, by rw [h.cellAt _ (by omega)]; exact b3⟩
theorem clAt_snoc_lt {k : List Cl} {x : Cl} {m : Nat} (h : m < k.length) : clAt (k ++ [x]) m = clAt k m := by
  unfold clAt; rw [List.getD_eq_getElem?_getD, List.getD_eq_getElem?_getD, List.getElem?_append_left h]
theorem clAt_snoc (k : List Cl) (x : Cl) : clAt (k ++ [x]) k.length = x := by
  unfold clAt; rw [List.getD_eq_getElem?_getD, List.getElem?_append_right (Nat.le_refl _)]; simp
/-- a class behind the changes -/
def Beh (l : List Cl) (name : ByteArray) (own : List ByteArray) (ov : Value) (m : Nat) (x : Cl) : Prop :=
  x.name = (clAt l m).name ∧ x.sup = (clAt l m).sup ∧ ((clAt l m).name = name ∧ x.own = own ∧ x.v = ov ∨ (clAt l m).name ≠ name ∧ x.own = (clAt l m).own ∧ x.v = (clAt l m).v)
set_option maxRecDepth 20000 in
set_option maxHeartbeats 4000000 in
theorem lApplied_ok (l : List Cl) (name : ByteArray) (own : List ByteArray) (xs : List Cg) (v ov u : Value) (w : World) (h : RdC w v l) (ho : RdS w ov own) (hx : RdH w u xs) (hN : l.length ≤ 1048576) :
    Calls Try.prog 20 #[v, .string name, ov, u] w fun e w' => ∃ p c k, e = .returned (.slice p k.length c) ∧ RdC w' (.slice p k.length c) k ∧ Fr [] w w' ∧ k.length = l.length ∧ ∀ m, m < l.length → Beh l name own ov m (clAt k m) := by
  have HO : Hid (∀ m, m < l.length → RdS w (clAt l m).v (clAt l m).own) := mkHid h.own
  have HOv := mkHid ho
  obtain ⟨po, no, co, rfl⟩ : ∃ po no co, ov = .slice po no co := by obtain ⟨pv, cv, e, _⟩ := ho.at_; exact ⟨pv, _, cv, e⟩
  obtain ⟨pc, cc, rfl, hc1⟩ := hx.at_
  have s2 := hx.short
  obtain ⟨p, c0, rfl, h1⟩ := h.at_
  have H1 := mkHid h1
  have HC1 := mkHid hc1
  clear h h1 ho hx hc1
  go_enter Try.func20, Try.ntmps20
  go_wp2_with fail
  go_loopw [9, 10] (fun t q wr => ∃ (i : Nat) (p' : Option Addr) (c' : Nat) (k : List Cl), i ≤ l.length ∧ q = .int .i64 i ∧ t = .slice p' i c' ∧ Hid (k.length = i) ∧ Hid (wr.ownsRow w.heap.size 47 4 (.slice p' k.length c') k.length (clss k)) ∧ Hid (Fr [] w wr) ∧ Hid (∀ m, m < i → Beh l name own (.slice po no co) m (clAt k m))) (fun _ q _ => l.length - (intOf q).toNat)
  case atStart => exact ⟨0, none, 0, [], Nat.zero_le _, rfl, rfl, mkHid rfl, mkHid (World.ownsRow_nil _ _ _ _), mkHid (Fr.refl _ _), mkHid (fun m hm => by omega)⟩
  case round =>
    obtain ⟨i, p', c', k, hi, rfl, rfl, hkl, hrow, hfr, hbeh⟩ := hrel
    have i1 : (0 : Int) ≤ (i : Int) := by omega
    by_cases hlt : i < l.length
    · have i2 : (i : Int) < (l.length : Int) := by omega
      obtain ⟨g, off, rfl, x1, x2⟩ := H1.out (by omega)
      obtain ⟨k0, k1, k2, k3⟩ := x2 i hlt
      have d0 := (hfr.out.cell (p := ⟨g, off + i * 4, none⟩) x1 (by simp)).trans k0
      have d1 := (hfr.out.cell (p := ⟨g, off + i * 4 + 1, none⟩) x1 (by simp)).trans k1
      have d2 := (hfr.out.cell (p := ⟨g, off + i * 4 + 2, none⟩) x1 (by simp)).trans k2
      have d3 := (hfr.out.cell (p := ⟨g, off + i * 4 + 3, none⟩) x1 (by simp)).trans k3
      obtain ⟨pv, nv, cv, ev⟩ : ∃ pv nv cv, (clAt l i).v = .slice pv nv cv := by obtain ⟨pv, cv, e, _⟩ := (HO.out i hlt).at_; exact ⟨pv, _, cv, e⟩
      rw [ev] at d2
      obtain ⟨wo, rfl⟩ : ∃ x, x = wr := ⟨_, rfl⟩
      -- what is behind the inner loop, for any value of the own names' list
      have HEnd : Hid (∀ (vv : Value) (oo : List ByteArray) (z : Int) (V : World), vv.oneCell' = true → ((clAt l i).name = name ∧ oo = own ∧ vv = .slice po no co ∨ (clAt l i).name ≠ name ∧ oo = (clAt l i).own ∧ vv = (clAt l i).v) → Fr [] wo V →
          ∃ p5 c5 w5, (Builtin.append_ #[23, 23] 23 #[.slice p' i c', .slice (some ⟨V.heap.size, 0, none⟩) 1 1]).run Try.prog (V.alloc (.cells #[.string (clAt l i).name, .string (clAt l i).sup, vv, .int .i64 z] 47)) = .ok (.slice p5 (i + 1) c5) w5 ∧
            ∃ k' : List Cl, Hid (k'.length = i + 1) ∧ Hid (w5.ownsRow w.heap.size 47 4 (.slice p5 k'.length c5) k'.length (clss k')) ∧ Hid (Fr [] w w5) ∧ Hid (∀ m, m < i + 1 → Beh l name own (.slice po no co) m (clAt k' m))) := mkHid (fun vv oo z V hone hb hV => by
        have hrV := own_congr (w' := V) hrow.out (fun g hg => hV.block g (own_lt hrow.out g hg).2 (by simp))
        have hfV := hfr.out.trans hV (by simp)
        obtain ⟨p5, c5, w5, r1, r2, r3⟩ := push_cl V w.heap.size p' c' k ⟨(clAt l i).name, (clAt l i).sup, oo, z, vv⟩ hrV hone (by rw [hkl.out]; omega) hfV.size
        rw [hkl.out] at r1
        refine ⟨p5, c5, w5, r1, _, mkHid (by rw [List.length_append, hkl.out]; rfl), mkHid r2, mkHid ?_, mkHid (fun m hm => ?_)⟩
        · rcases r3 with ⟨_, _, f⟩ | ⟨f, _⟩
          · exact hfV.trans f (fun b hb => Or.inr (own_lt hrV b ((blk_own _ _ _ _).2 hb)).1)
          · exact hfV.trans f (by simp)
        · by_cases e : m = i
          · subst e
            rw [← hkl.out, clAt_snoc, hkl.out]
            exact ⟨rfl, rfl, hb⟩
          · rw [clAt_snoc_lt (by rw [hkl.out]; omega)]
            exact hbeh.out m (by omega))
      have HCl : Hid (∀ V, Fr [] wo V → ∀ j, j < xs.length → ∃ gc oc, pc = some ⟨gc, oc, none⟩ ∧ V.cell? ⟨gc, oc + j * 4, none⟩ = some (.int .i64 (cgAt xs j).c.cls)) := mkHid (fun V hV j hj => by
        obtain ⟨gc, oc, e, q1, q2⟩ := HC1.out (by omega)
        exact ⟨gc, oc, e, ((hfr.out.trans hV (by simp)).cell (p := ⟨gc, oc + j * 4, none⟩) q1 (by simp)).trans (q2 j _ (cgAt_eq hj)).1⟩)
      have hEv := mkHid ev
      clear x1 x2 k0 k1 k2 k3 hrow hbeh hkl HO HOv HC1 H1
      generalize hnm : (clAt l i).name = nm at *
      generalize hsp : (clAt l i).sup = sp at *
      generalize hly : (clAt l i).lay = ly at *
      clear hnm hsp hly
      obtain ⟨b, hb⟩ : ∃ b, b = wo.heap.size := ⟨_, rfl⟩
      have Hb := mkHid hb
      clear hb ev
      by_cases hn : nm = name
      · have hbb : (nm.toList == name.toList) = true := by rw [tl_eq]; exact decide_eq_true hn
        have HE2 := mkHid (fun z V => HEnd.out (.slice po no co) own z V rfl (Or.inl ⟨hn, rfl, rfl⟩))
        clear hn HEnd
        go_wp2_with fail
        have HXb : Hid ((wo.alloc (.cells #[.string nm, .string sp, .slice po no co, .int .i64 ly] 47)).heap[wo.heap.size]? = some (.cells #[.string nm, .string sp, .slice po no co, .int .i64 ly] 47 (0, 0))) := mkHid (heap_alloc_new _ _)
        have HXf : Hid (Fr [] wo (wo.alloc (.cells #[.string nm, .string sp, .slice po no co, .int .i64 ly] 47))) := mkHid (Fr.alloc [] _ _)
        generalize wo.alloc (.cells #[.string nm, .string sp, .slice po no co, .int .i64 ly] 47) = w1 at *
        rw [← Hb.out] at HXb ⊢
        have hbl : wo.heap.size ≤ b := by rw [Hb.out]; exact Nat.le_refl _
        have HBl := mkHid hbl
        clear Hb hbl
        go_loopw [12] (fun q wq => ∃ (j : Nat) (z : Int), j ≤ xs.length ∧ q = .int .i64 j ∧ Hid (wq.heap[b]? = some (.cells #[.string nm, .string sp, .slice po no co, .int .i64 z] 47 (0, 0))) ∧ Hid (Fr [] wo wq)) (fun q _ => xs.length - (intOf q).toNat)
        case atStart => exact ⟨0, ly, Nat.zero_le _, rfl, HXb, HXf⟩
        case round =>
          obtain ⟨j, z, hj, rfl, hxb, hfq⟩ := hrel
          have j1 : (0 : Int) ≤ (j : Int) := by omega
          have e3 : wr.cell? ⟨b, 3, none⟩ = some (.int .i64 z) := by rw [cell_in hxb.out]; rfl
          have e0 : wr.cell? ⟨b, 0, none⟩ = some (.string nm) := by rw [cell_in hxb.out]; rfl
          have e1 : wr.cell? ⟨b, 1, none⟩ = some (.string sp) := by rw [cell_in hxb.out]; rfl
          have e2 : wr.cell? ⟨b, 2, none⟩ = some (.slice po no co) := by rw [cell_in hxb.out]; rfl
          by_cases hjl : j < xs.length
          · have j2 : (j : Int) < (xs.length : Int) := by omega
            obtain ⟨gc, oc, rfl, y1⟩ := HCl.out wr hfq.out j hjl
            have fz : wr.frozen? ⟨b, 3, none⟩ = false := frozen_in hxb.out 3
            have HSt : Hid (∀ zz, (wr.setCell ⟨b, 3, none⟩ (.int .i64 zz)).heap[b]? = some (.cells #[.string nm, .string sp, .slice po no co, .int .i64 zz] 47 (0, 0)) ∧ Fr [] wo (wr.setCell ⟨b, 3, none⟩ (.int .i64 zz))) := mkHid (fun zz => by
              refine ⟨by rw [set_in hxb.out]; rfl, hfq.out.trans (Fr.setCell (S := [b]) wr ⟨b, 3, none⟩ _ (by simp)) (fun g hg => by simp at hg; subst hg; exact Or.inr HBl.out)⟩)
            clear HXb HXf HE2 e0 e1 e2
            generalize (cgAt xs j).c.cls = cl at *
            by_cases hcl : cl = (i : Int) + 1
            · have bb : (cl == (i : Int) + 1) = true := by rw [beq_iff_eq]; exact hcl
              clear hcl
              go_wp2_with fail
              go_roundw
              case rel => exact ⟨j + 1, _, by omega, by go_num, mkHid (HSt.out _).1, mkHid (HSt.out _).2⟩
              case measure => simp [intOf]; omega
            · have bb : (cl == (i : Int) + 1) = false := by rw [beq_eq_false_iff_ne]; exact hcl
              clear hcl HSt
              go_wp2_with fail
              go_roundw
              case rel => exact ⟨j + 1, z, by omega, by go_num, hxb, hfq⟩
              case measure => simp [intOf]; omega
          · have hje : j = xs.length := by omega
            subst hje
            obtain ⟨p5, c5, w5, r5, k5, q1, q2, q3, q4⟩ := HE2.out z wr hfq.out
            have HR5 := mkHid r5
            clear HXb HXf HE2 hxb r5 HCl
            go_wp2_with (at_builtin; refine Lib.wpList_append_run _ rfl (.tmp 47) (.tmp 49) 23 23 rfl _ _ rfl rfl _ _ HR5.out ?_)
            go_roundw
            case rel => exact ⟨i + 1, p5, c5, k5, by omega, by go_num, rfl, q1, q2, q3, q4⟩
            case measure => simp [intOf]; omega
      · have hbb : (nm.toList == name.toList) = false := by rw [tl_eq]; exact decide_eq_false hn
        have HE2 := mkHid (fun z V => HEnd.out (.slice pv nv cv) (clAt l i).own z V rfl (Or.inr ⟨hn, rfl, hEv.out.symm⟩))
        clear hn HEnd
        go_wp2_with fail
        have HXb : Hid ((wo.alloc (.cells #[.string nm, .string sp, .slice pv nv cv, .int .i64 ly] 47)).heap[wo.heap.size]? = some (.cells #[.string nm, .string sp, .slice pv nv cv, .int .i64 ly] 47 (0, 0))) := mkHid (heap_alloc_new _ _)
        have HXf : Hid (Fr [] wo (wo.alloc (.cells #[.string nm, .string sp, .slice pv nv cv, .int .i64 ly] 47))) := mkHid (Fr.alloc [] _ _)
        generalize wo.alloc (.cells #[.string nm, .string sp, .slice pv nv cv, .int .i64 ly] 47) = w1 at *
        rw [← Hb.out] at HXb ⊢
        have hbl : wo.heap.size ≤ b := by rw [Hb.out]; exact Nat.le_refl _
        have HBl := mkHid hbl
        clear Hb hbl
        go_loopw [12] (fun q wq => ∃ (j : Nat) (z : Int), j ≤ xs.length ∧ q = .int .i64 j ∧ Hid (wq.heap[b]? = some (.cells #[.string nm, .string sp, .slice pv nv cv, .int .i64 z] 47 (0, 0))) ∧ Hid (Fr [] wo wq)) (fun q _ => xs.length - (intOf q).toNat)
        case atStart => exact ⟨0, ly, Nat.zero_le _, rfl, HXb, HXf⟩
        case round =>
          obtain ⟨j, z, hj, rfl, hxb, hfq⟩ := hrel
          have j1 : (0 : Int) ≤ (j : Int) := by omega
          have e3 : wr.cell? ⟨b, 3, none⟩ = some (.int .i64 z) := by rw [cell_in hxb.out]; rfl
          have e0 : wr.cell? ⟨b, 0, none⟩ = some (.string nm) := by rw [cell_in hxb.out]; rfl
          have e1 : wr.cell? ⟨b, 1, none⟩ = some (.string sp) := by rw [cell_in hxb.out]; rfl
          have e2 : wr.cell? ⟨b, 2, none⟩ = some (.slice pv nv cv) := by rw [cell_in hxb.out]; rfl
          by_cases hjl : j < xs.length
          · have j2 : (j : Int) < (xs.length : Int) := by omega
            obtain ⟨gc, oc, rfl, y1⟩ := HCl.out wr hfq.out j hjl
            have fz : wr.frozen? ⟨b, 3, none⟩ = false := frozen_in hxb.out 3
            have HSt : Hid (∀ zz, (wr.setCell ⟨b, 3, none⟩ (.int .i64 zz)).heap[b]? = some (.cells #[.string nm, .string sp, .slice pv nv cv, .int .i64 zz] 47 (0, 0)) ∧ Fr [] wo (wr.setCell ⟨b, 3, none⟩ (.int .i64 zz))) := mkHid (fun zz => by
              refine ⟨by rw [set_in hxb.out]; rfl, hfq.out.trans (Fr.setCell (S := [b]) wr ⟨b, 3, none⟩ _ (by simp)) (fun g hg => by simp at hg; subst hg; exact Or.inr HBl.out)⟩)
            clear HXb HXf HE2 e0 e1 e2
            generalize (cgAt xs j).c.cls = cl at *
            by_cases hcl : cl = (i : Int) + 1
            · have bb : (cl == (i : Int) + 1) = true := by rw [beq_iff_eq]; exact hcl
              clear hcl
              go_wp2_with fail
              go_roundw
              case rel => exact ⟨j + 1, _, by omega, by go_num, mkHid (HSt.out _).1, mkHid (HSt.out _).2⟩
              case measure => simp [intOf]; omega
            · have bb : (cl == (i : Int) + 1) = false := by rw [beq_eq_false_iff_ne]; exact hcl
              clear hcl HSt
              go_wp2_with fail
              go_roundw
              case rel => exact ⟨j + 1, z, by omega, by go_num, hxb, hfq⟩
              case measure => simp [intOf]; omega
          · have hje : j = xs.length := by omega
            subst hje
            obtain ⟨p5, c5, w5, r5, k5, q1, q2, q3, q4⟩ := HE2.out z wr hfq.out
            have HR5 := mkHid r5
            clear HXb HXf HE2 hxb r5 HCl
            go_wp2_with (at_builtin; refine Lib.wpList_append_run _ rfl (.tmp 47) (.tmp 49) 23 23 rfl _ _ rfl rfl _ _ HR5.out ?_)
            go_roundw
            case rel => exact ⟨i + 1, p5, c5, k5, by omega, by go_num, rfl, q1, q2, q3, q4⟩
            case measure => simp [intOf]; omega
    · have hie : i = l.length := by omega
      subst hie
      have hkl2 := hkl.out
      have HRd : Hid (RdC wr (.slice p' k.length c') k) := mkHid (own_rdC hrow.out (fun m hm => by
        obtain ⟨_, _, hb⟩ := hbeh.out m (by omega)
        rcases hb with ⟨_, b1, b2⟩ | ⟨_, b1, b2⟩
        · rw [b1, b2]; exact HOv.out.idle hfr.out
        · rw [b1, b2]; exact (HO.out m (by omega)).idle hfr.out) (by omega))
      have HKL := mkHid hkl2
      clear hkl2 H1 HC1 HO HOv
      go_wp2_with fail
      go_ret
      exact ⟨p', c', k, by rw [HKL.out]; rfl, HRd.out, hfr.out, HKL.out, hbeh.out⟩
end Go.Proofs.Ytblbjgifhgfifaa
namespace Go.Proofs.Ytblbjgifhgfifaa
open Go.RowKit
set_option linter.unusedVariables false
set_option linter.unusedSimpArgs false
theorem ask_of2 {l : List Cl} {own : List ByteArray} (h1 : l.length ≤ 1048576) (h2 : own.length + sumOwn l ≤ 4194304) : Ask l own := by
  have key : ∀ t o c, o.length ≤ own.length → c < l.length → (fields l t o c).length ≤ 8796093022208 := fun t o c ho hc => by
    have h3 := fields_le l t o c hc
    have h4 := chain_len l c
    have h5 : (chain l c).length * (o.length + sumOwn l) ≤ 1048576 * 4194304 := Nat.mul_le_mul (by omega) (by omega)
    omega
  exact ⟨h1, fun c hc => key none [] c (by simp) hc, fun top c hc => key (some top) own c (Nat.le_refl _) hc, fun k => by have := own_sum l k; omega⟩
theorem own_le_sum {l : List Cl} {c : Nat} (hc : c < l.length) : (clAt l c).own.length ≤ sumOwn l := by
  have h1 := sumOwn_take hc
  have e : sumOwn l = sumOwn (l.take (c + 1)) + sumOwn (l.drop (c + 1)) := by
    unfold sumOwn; rw [← List.sum_append, ← List.map_append, List.take_append_drop]
  omega
theorem Trn.sum {l k : List Cl} {top : Nat} {own : List ByteArray} (h : Trn l k top own) : sumOwn k ≤ sumOwn l + own.length := by
  have key : ∀ n, n ≤ l.length → sumOwn (k.take n) ≤ sumOwn (l.take n) + if top < n then own.length else 0 := by
    intro n
    induction n with
    | zero => intro _; simp [sumOwn]
    | succ n ih =>
      intro hn
      have h0 := ih (by omega)
      rw [sumOwn_take (by rw [h.len]; omega), sumOwn_take (by omega), h.own_ n]
      by_cases e : n = top
      · subst e
        rw [if_neg (by omega)] at h0
        rw [if_pos rfl, if_pos (by omega)]
        omega
      · rw [if_neg e]
        by_cases e2 : top < n
        · rw [if_pos e2] at h0; rw [if_pos (by omega)]; omega
        · rw [if_neg e2] at h0; rw [if_neg (by omega)]; omega
  have := key l.length (Nat.le_refl _)
  rw [List.take_length, ← h.len, List.take_length] at this
  split at this <;> omega
theorem trn_of {l k : List Cl} {name : ByteArray} {own : List ByteArray} {ov : Value} {top : Nat} (hm : madeB l = true) (ha : atN l l.length name = some top) (hl : k.length = l.length) (hb : ∀ m, m < l.length → Beh l name own ov m (clAt k m)) : Trn l k top own := by
  obtain ⟨_, ht, hn⟩ := atN_lt ha
  have hout : ∀ i, ¬ i < l.length → clAt k i = cl0 ∧ clAt l i = cl0 := fun i hi => by
    unfold clAt
    rw [List.getD_eq_getElem?_getD, List.getD_eq_getElem?_getD, List.getElem?_eq_none (by omega), List.getElem?_eq_none (by omega)]
    exact ⟨rfl, rfl⟩
  have huniq : ∀ i, i < l.length → (clAt l i).name = name → i = top := fun i hi hin => by
    have n1 := made_named hm hi
    have n2 := made_named hm ht
    unfold named1 at n1 n2
    simp only [Bool.and_eq_true] at n1 n2
    rcases Nat.lt_trichotomy i top with h | h | h
    · have := n2.1.2
      rw [Option.isNone_iff_eq_none] at this
      have h2 := pos_none.1 this
      exact absurd (by rw [hn]; rw [List.mem_iff_getElem?]; exact ⟨i, by rw [List.getElem?_take, if_pos h, names_at hi, hin]⟩) h2
    · exact h
    · have := n1.1.2
      rw [Option.isNone_iff_eq_none] at this
      have h2 := pos_none.1 this
      exact absurd (by rw [hin]; rw [List.mem_iff_getElem?]; exact ⟨top, by rw [List.getElem?_take, if_pos h, names_at ht, hn]⟩) h2
  refine ⟨hl, fun i => ?_, fun i => ?_, fun i => ?_⟩
  · by_cases hi : i < l.length
    · exact (hb i hi).1
    · rw [(hout i hi).1, (hout i hi).2]
  · by_cases hi : i < l.length
    · exact (hb i hi).2.1
    · rw [(hout i hi).1, (hout i hi).2]
  · by_cases hi : i < l.length
    · rcases (hb i hi).2.2 with ⟨q1, q2, _⟩ | ⟨q1, q2, _⟩
      · rw [if_pos (huniq i hi q1)]; exact q2
      · rw [if_neg (fun e => q1 (by rw [e]; exact hn))]; exact q2
    · rw [if_neg (by omega), (hout i hi).1, (hout i hi).2]
theorem makeP_err {l : List Cl} {kernel : Int} {name : ByteArray} {own : List ByteArray} (hz : (makeP l kernel name own).2 ≠ 0) : (makeP l kernel name own).1 = [] := by
  unfold makeP at hz ⊢
  by_cases h0 : madeB l = false ∨ kernel < 0 ∨ (l.length : Int) < kernel
  · rw [if_pos h0]
  rw [if_neg h0] at hz ⊢
  cases ha : atN l l.length name with
  | none => rfl
  | some top =>
    rw [ha] at hz
    simp only at hz ⊢
    by_cases h1 : (top : Int) < kernel
    · rw [if_pos h1]
    rw [if_neg h1] at hz ⊢
    by_cases h2 : listedZ (inherited l top) [] own ≠ 0
    · rw [if_pos h2]
    rw [if_neg h2] at hz ⊢
    by_cases h3 : belowZ l top own ≠ 0
    · rw [if_pos h3]
    rw [if_neg h3] at hz ⊢
    by_cases h4 : own = (clAt l top).own
    · rw [if_pos h4]
    rw [if_neg h4] at hz ⊢
    by_cases h5 : (affected l top l.length).any (full l) = true
    · rw [if_pos h5]
    · rw [if_neg h5] at hz; exact absurd rfl hz
theorem aff_sorted (l : List Cl) (top n : Nat) : (affected l top n).Pairwise (· < ·) := by
  unfold affected
  exact List.Pairwise.filter _ List.pairwise_lt_range'
theorem aff_first {l : List Cl} {top n : Nat} (h : top < n) : ∃ r, affected l top n = top :: r := by
  unfold affected
  obtain ⟨m, hm⟩ : ∃ m, n - top = m + 1 := ⟨n - top - 1, by omega⟩
  rw [hm, List.range'_succ, List.filter_cons]
  have : under l top top = true := by rw [under_chain, chain_eq]; simp
  rw [if_pos this]
  exact ⟨_, rfl⟩
def affAt (l : List Cl) (top i : Nat) : Nat := (affected l top l.length).getD i 0
theorem affAt_mem {l : List Cl} {top i : Nat} (h : i < (affected l top l.length).length) : affAt l top i ∈ affected l top l.length := by
  unfold affAt; rw [List.getD_eq_getElem?_getD, List.getElem?_eq_getElem h]; exact List.getElem_mem h
theorem affAt_lt {l : List Cl} {top i j : Nat} (hj : j < (affected l top l.length).length) (h : i < j) : affAt l top i < affAt l top j := by
  unfold affAt
  rw [List.getD_eq_getElem?_getD, List.getD_eq_getElem?_getD, List.getElem?_eq_getElem hj, List.getElem?_eq_getElem (by omega)]
  exact List.pairwise_iff_getElem.1 (aff_sorted l top l.length) i j (by omega) hj h
theorem cg_change {l : List Cl} {top : Nat} {xs : List Cg} {f : Nat → Ch} (h : xs.map Cg.c = (affected l top l.length).map f) {i : Nat} (hi : i < xs.length) : i < (affected l top l.length).length ∧ (cgAt xs i).c = f (affAt l top i) := by
  have hl := congrArg List.length h
  rw [List.length_map, List.length_map] at hl
  refine ⟨by omega, ?_⟩
  have e := congrArg (fun q => q[i]?) h
  simp only [List.getElem?_map, cgAt_eq hi] at e
  unfold affAt
  rw [List.getElem?_eq_getElem (by omega)] at e
  rw [List.getD_eq_getElem?_getD, List.getElem?_eq_getElem (by omega)]
  exact Option.some.inj e
end Go.Proofs.Ytblbjgifhgfifaa
