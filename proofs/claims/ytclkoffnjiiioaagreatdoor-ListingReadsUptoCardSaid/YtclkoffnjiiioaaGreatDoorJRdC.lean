import Derived.Test.YtclkoffnjiiioaaGreatDoorG07JRdB
namespace Go.Proofs.YtclkoffnjiiioaaGreatDoor
open Go.RowKit
set_option linter.unusedVariables false
set_option linter.unusedSimpArgs false
attribute [local go_sem ↓] Go.wp_at_zero Go.wp_at_succ
/-- an array under way -/
def AS (W : World) (r : Nat) (S : Rv) (R : Option (List LitS × Bs × Nat)) (gl f0 : Nat) (wr : World) : Prop :=
  ∃ (p : Option Addr) (c : Nat) (ts : List LitT) (x : Bs) (n f : Nat), wr.heap[gl]? = some (.cells #[.int .i64 4, .string ⟨#[]⟩, .int .i64 0, .slice p ts.length c] 49 (0, 0)) ∧ TR (gl + 1) wr p c ts ∧ RB wr r { S with rest := x, els := n } ∧ Fr [r] W wr ∧ wr.heap[W.heap.size]? = some z49 ∧ arrP f x n (stL ts) = R ∧ 2 * x.length + 2 ≤ f ∧ ts.length ≤ 32 ∧ n ≤ 4096 ∧ f ≤ f0
theorem stL_app (a b : List LitT) : stL (a ++ b) = stL a ++ stL b := by rw [stL_map, stL_map, stL_map, List.map_append]
theorem tok_len {p x y : Bs} (h : tokP p x = some y) : x.length = p.length + y.length := by rw [tok_some h, List.length_append]
theorem ele_len {f : Nat} {x y : Bs} {n m : Nat} {s : LitS} (h : eleP f x n = some (s, y, m)) (hn : n ≤ 4096) : y.length < x.length ∧ m ≤ 4096 := by
  obtain ⟨h1, h2, -, -, h5⟩ := (back_all f).1 x n s y m h hn
  obtain ⟨d, t, e, -⟩ := wr_head (unS s) h2
  rw [h1, e]
  simp
  omega
set_option maxRecDepth 100000 in
set_option maxHeartbeats 16000000 in
theorem arrC {f0 : Nat} (hEl : ∀ g, g < f0 → EleC g) : ArrC f0 := by
  intro W r S h hE hr hn0 hf0
  have hlt := h.lt
  have hz := wz_of W
  have hsz0 : (W.alloc (.cells #[.int .i64 0, .string ⟨#[]⟩, .int .i64 0, .slice none 0 0] 49)).heap.size = W.heap.size + 1 := by simp
  obtain ⟨W0, hW0⟩ : ∃ V, W.alloc (.cells #[.int .i64 0, .string ⟨#[]⟩, .int .i64 0, .slice none 0 0] 49) = V := ⟨_, rfl⟩
  rw [hW0] at hz hsz0
  have hb0 := h.fr hz.fr (by simp)
  have HW0 := mkHid hW0
  have HZ := mkHid hz
  have HE := mkHid hE
  clear h hz hW0 hE
  cases h1 : tokP [40] S.rest with
  | none =>
    have HT := mkHid (token_miss hb0 h1)
    have HQ : Hid (arrF f0 S.rest S.els = none) := by unfold arrF; rw [h1]; exact rfl
    clear h1 hb0
    go_enter Tryz.func56, Tryz.ntmps56
    go_wp2_with fail
    rw [HW0.out]
    refine HT.out.mono ?_
    rintro e w1 ⟨rfl, hb, hf⟩
    obtain ⟨f1, b1⟩ := HZ.out.on hlt hf
    obtain ⟨c0, c1, c2, c3, z0, z1, z2, z3⟩ := z4_of b1
    have HB := mkHid hb
    have HF := mkHid f1
    have HB1 := mkHid b1
    clear hb hf f1 b1
    go_wp2_with fail
    exact fin (flat 0 ⟨#[]⟩ 0) false Tryz.results56 HB1.out HF.out hlt HB.out (noneO _ _) (flat_tx _ _) HQ.out rfl rfl
  | some x0 =>
    have HT := mkHid (token_hit hb0 h1)
    have hxl := tok_len h1
    obtain ⟨R, hR⟩ : ∃ R, arrP f0 x0 S.els [] = R := ⟨_, rfl⟩
    have HQ0 : Hid (R = none → arrF f0 S.rest S.els = none) := fun e => by unfold arrF; rw [h1]; simp only; rw [hR, e]
    have HQ1 : Hid (∀ l y m, R = some (l, y, m) → arrF f0 S.rest S.els = some (.mk 4 noTx 0 l, y, m)) := fun l y m e => by unfold arrF; rw [h1]; simp only; rw [hR, e]
    have HR := mkHid hR
    have HEl := mkHid hEl
    clear h1 hb0 hR hEl
    go_enter Tryz.func56, Tryz.ntmps56
    go_wp2_with fail
    rw [HW0.out]
    refine HT.out.mono ?_
    rintro e w1 ⟨rfl, hb, hf⟩
    obtain ⟨f1, b1⟩ := HZ.out.on hlt hf
    have hgl : W.heap.size < w1.heap.size := lt_of_heap b1
    have HS : Hid (AS W r S R w1.heap.size f0 (w1.alloc (.cells #[.int .i64 4, .string ⟨#[]⟩, .int .i64 0, .slice none 0 0] 49))) := by
      have fa : Fr [] w1 (w1.alloc (.cells #[.int .i64 4, .string ⟨#[]⟩, .int .i64 0, .slice none 0 0] 49)) := Fr.alloc [] w1 _
      refine ⟨none, 0, [], x0, S.els, f0, heap_alloc_new w1 _, TR.nil _ _, hb.fr fa (by simp), f1.trans fa (by simp), fa.hb b1, ?_, ?_, by simp, hn0, Nat.le_refl _⟩
      · rw [stL_nil]; exact HR.out
      · rw [List.length_singleton] at hxl; omega
    clear hb hf f1 b1 HT HR HZ HW0
    obtain ⟨gl, hgle⟩ : ∃ g, w1.heap.size = g := ⟨_, rfl⟩
    rw [hgle] at HS hgl
    go_wp2_with fail
    try rw [hgle]
    clear hgle
    go_loopw [] (fun wr => Hid (AS W r S R gl f0 wr)) (fun wr => lenW r wr)
    case atStart => exact HS.out
    case round =>
      clear HS
      obtain ⟨p, c, ts, x, n, f, hlb, htr, hb, hf, b1, hq, hxf, hts, hn, hff⟩ := hrel.out
      have hmes := lenW_is hb
      simp only at hmes
      cases f with
      | zero => omega
      | succ f =>
      rw [arrP] at hq
      have l0 : wr.cell? ⟨gl, 0, none⟩ = some (.int .i64 4) := cell_in hlb 0
      cases ht : tokP [41] x with
      | some y =>
        rw [ht] at hq
        simp only at hq
        have HT := mkHid (token_hit hb ht)
        have HQ : Hid (arrF f0 S.rest S.els = some (stT (.mk 4 noTx 0 p c ts), y, n)) := by
          rw [stT]
          exact HQ1.out (stL ts) y n hq.symm
        have HK : Hid (∀ V, Fr [r] wr V → Fr [r] W V ∧ V.heap[W.heap.size]? = some z49 ∧ V.heap[gl]? = some (.cells #[.int .i64 4, .string ⟨#[]⟩, .int .i64 0, .slice p ts.length c] 49 (0, 0)) ∧ LitsX V (fun b => W.heap.size < b) p c ts) := fun V fV => ⟨hf.trans fV (by simp), (fV.block _ (lt_of_heap b1) (by simp; omega)).trans b1, (fV.block _ (lt_of_heap hlb) (by simp; omega)).trans hlb, (((htr.keep fV (by simp; omega)).lits (by omega)).keep (Fr.refl [] V) (fun _ _ _ => by simp) (fun g hg _ => by omega))⟩
        clear hrel hlb htr hb hf b1 hq ht HQ0 HQ1 l0 HEl
        go_wp2_with fail
        refine HT.out.mono ?_
        rintro e w2 ⟨rfl, hb2, hf2⟩
        obtain ⟨f2, b2, hlb2, hlo⟩ := HK.out w2 hf2
        obtain ⟨c0, c1, c2, c3, z0, z1, z2, z3⟩ := z4_of b2
        have l0 : w2.cell? ⟨gl, 0, none⟩ = some (.int .i64 4) := cell_in hlb2 0
        have l1 : w2.cell? ⟨gl, 1, none⟩ = some (.string ⟨#[]⟩) := cell_in hlb2 1
        have l2 : w2.cell? ⟨gl, 2, none⟩ = some (.int .i64 0) := cell_in hlb2 2
        have l3 : w2.cell? ⟨gl, 3, none⟩ = some (.slice p ts.length c) := cell_in hlb2 3
        have HB := mkHid hb2
        have HF := mkHid f2
        have HB1 := mkHid b2
        have HLo := mkHid hlo
        clear hb2 hf2 f2 b2 HK hlb2 hlo
        go_wp2_with fail
        refine fin (.mk 4 noTx 0 p c ts) true Tryz.results56 HB1.out HF.out hlt HB.out HLo.out ?_ HQ.out rfl rfl
        show (0 : Nat) ≤ _
        omega
      | none =>
        rw [ht] at hq
        simp only at hq
        have HT := mkHid (token_miss hb ht)
        by_cases hl0 : ts.length = 0
        · obtain rfl : ts = [] := List.length_eq_zero_iff.1 hl0
          rw [stL_nil] at hq
          simp only [List.length_nil, if_true] at hq
          have HK : Hid (∀ V, Fr [r] wr V → Fr [r] W V ∧ V.heap[W.heap.size]? = some z49 ∧ V.heap[gl]? = some (.cells #[.int .i64 4, .string ⟨#[]⟩, .int .i64 0, .slice p ([] : List LitT).length c] 49 (0, 0)) ∧ TR (gl + 1) V p c []) := fun V fV => ⟨hf.trans fV (by simp), (fV.block _ (lt_of_heap b1) (by simp; omega)).trans b1, (fV.block _ (lt_of_heap hlb) (by simp; omega)).trans hlb, htr.keep fV (by simp; omega)⟩
          have HQq := mkHid hq
          clear hrel hlb htr hb hf b1 hq ht HQ1 l0 hl0
          go_wp2_with fail
          refine HT.out.mono ?_
          rintro e wq ⟨rfl, hbq, hfq⟩
          obtain ⟨fq, bq, hlq, htq⟩ := HK.out wq hfq
          have l3 : wq.cell? ⟨gl, 3, none⟩ = some (.slice p 0 c) := cell_in hlq 3
          have r8 : wq.cell? ⟨r, 8, none⟩ = some (.int .i64 (n : Int)) := hbq.cl 8
          have y8 := hbq.fz 8
          by_cases hn4 : n = 4096
          · have HQ := mkHid (HQ0.out (by rw [← HQq.out, if_pos (.inr hn4)]))
            have hn4' : ((n : Int) == 4096) = true := by rw [hn4]; rfl
            clear hn4
            obtain ⟨c0, c1, c2, c3, z0, z1, z2, z3⟩ := z4_of bq
            have HB := mkHid hbq
            have HF := mkHid fq
            have HB1 := mkHid bq
            clear hbq fq bq HK hlq htq hfq HQ0 HEl
            go_wp2_with fail
            exact fin (flat 0 ⟨#[]⟩ 0) false Tryz.results56 HB1.out HF.out hlt HB.out (noneO _ _) (flat_tx _ _) HQ.out rfl rfl
          have hn4' : ((n : Int) == 4096) = false := by simp; omega
          have hq2 := HQq.out
          rw [if_neg (by rintro (e | e); cases e; exact hn4 e)] at hq2
          have hn5 : n < 4096 := by omega
          have hwn : IntKind.i64.wrap ((n : Int) + 1) = (n : Int) + 1 := iwrap_id (by omega) (by omega)
          have hset := hbq.setEls (n + 1)
          rw [show ((n + 1 : Nat) : Int) = (n : Int) + 1 by omega] at hset
          have fs : Fr [r] wq (wq.setCell ⟨r, 8, none⟩ (.int .i64 ((n : Int) + 1))) := Fr.setCell (S := [r]) wq ⟨r, 8, none⟩ _ (by simp)
          have HC := mkHid (HEl.out f (by omega) _ r _ hset (HE.out.fr1 (fq.trans fs (by simp)) hr) hr (by simp only; omega) (by simp only; omega))
          obtain ⟨fv, bv, hlv, htv⟩ := HK.out _ (hfq.trans fs (by simp))
          obtain ⟨V1, hV1⟩ : ∃ V, wq.setCell ⟨r, 8, none⟩ (.int .i64 ((n : Int) + 1)) = V := ⟨_, rfl⟩
          rw [hV1] at HC fv bv hlv htv
          have HV1 := mkHid hV1
          have HFv := mkHid fv
          have HBv := mkHid bv
          have HLv := mkHid hlv
          have HTv := mkHid htv
          have HQ2 := mkHid hq2
          clear hbq fq bq HK hlq htq hfq hset fs fv bv hlv htv hV1 hq2 hn4
          go_wp2_with fail
          rw [HV1.out]
          refine HC.out.mono ?_
          rintro e w3 ⟨t, ok, x2, n2, rfl, hb3, hf3, hk3, ht3, hq3⟩
          simp only at hb3 hq3
          have f3 := HFv.out.trans hf3 (by simp)
          have b3 := (hf3.block _ (lt_of_heap HBv.out) (by simp; omega)).trans HBv.out
          have hl3 := (hf3.block _ (lt_of_heap HLv.out) (by simp; omega)).trans HLv.out
          have ht3' := HTv.out.keep hf3 (by simp; omega)
          have hsv : gl < V1.heap.size := lt_of_heap HLv.out
          have hs3 : gl < w3.heap.size := lt_of_heap hl3
          unfold litv LitT.items
          cases ok with
          | false =>
            have HQ := mkHid (HQ0.out (by rw [← HQ2.out, hq3]; rfl))
            have HA : Hid (∀ o, (w3.alloc o).heap[W.heap.size]? = some z49 ∧ Fr [r] W (w3.alloc o) ∧ RB (w3.alloc o) r { S with rest := x2, els := n2 }) := fun o => ⟨(Fr.alloc [] w3 o).hb b3, f3.trans (Fr.alloc [] w3 o) (by simp), hb3.fr (Fr.alloc [] w3 o) (by simp)⟩
            have c0 : ∀ o, (w3.alloc o).cell? ⟨W.heap.size, 0, none⟩ = some (.int .i64 0) := fun o => cell_in (HA.out o).1 0
            have c1 : ∀ o, (w3.alloc o).cell? ⟨W.heap.size, 1, none⟩ = some (.string ⟨#[]⟩) := fun o => cell_in (HA.out o).1 1
            have c2 : ∀ o, (w3.alloc o).cell? ⟨W.heap.size, 2, none⟩ = some (.int .i64 0) := fun o => cell_in (HA.out o).1 2
            have c3 : ∀ o, (w3.alloc o).cell? ⟨W.heap.size, 3, none⟩ = some (.slice none 0 0) := fun o => cell_in (HA.out o).1 3
            have z0 : ∀ o, (w3.alloc o).frozen? ⟨W.heap.size, 0, none⟩ = false := fun o => frozen_in (HA.out o).1 0
            have z1 : ∀ o, (w3.alloc o).frozen? ⟨W.heap.size, 1, none⟩ = false := fun o => frozen_in (HA.out o).1 1
            have z2 : ∀ o, (w3.alloc o).frozen? ⟨W.heap.size, 2, none⟩ = false := fun o => frozen_in (HA.out o).1 2
            have z3 : ∀ o, (w3.alloc o).frozen? ⟨W.heap.size, 3, none⟩ = false := fun o => frozen_in (HA.out o).1 3
            clear hb3 hf3 hk3 ht3 hq3 f3 b3 hl3 ht3' HQ0 HEl HQ2 HQq HC HFv HBv HLv HTv
            go_wp2_with fail
            exact fin (flat 0 ⟨#[]⟩ 0) false Tryz.results56 (HA.out _).1 (HA.out _).2.1 hlt (HA.out _).2.2 (noneO _ _) (flat_tx _ _) HQ.out rfl rfl
          | true =>
            simp only [if_true] at hq3
            have hq4 := HQ2.out
            rw [hq3] at hq4
            simp only at hq4
            obtain ⟨hx2, hn2⟩ := ele_len hq3 (by omega)
            obtain ⟨o4, ho4⟩ : ∃ o, Obj.cells #[.int .i64 t.kind, .string t.text, .int .i64 t.num, .slice t.p t.kids.length t.c] 49 (0, 0) = o := ⟨_, rfl⟩
            have fa : Fr [] w3 (w3.alloc o4) := Fr.alloc [] w3 o4
            have hszA : (w3.alloc o4).heap.size = w3.heap.size + 1 := by simp
            have htA := ht3'.keep fa (by simp)
            have hkA : LitsX (w3.alloc o4) (fun g => gl + 1 ≤ g ∧ g ∉ blk p ∧ g ∉ ftL []) t.p t.c t.kids := hk3.keep fa (fun _ _ _ => by simp) (fun g hg _ => ⟨by omega, fun hm => by have := (HTv.out.blk g hm).2; omega, fun hm => by have := (HTv.out.feet g hm).2.2; omega⟩)
            obtain ⟨p2, c2, w5, hr5, htr5, f5⟩ := htA.push (by first | omega | simp) (by omega) t ht3 hkA
            have hbk := htA.blk
            rw [hszA] at hr5
            have hlA := fa.hb hl3
            have hl5 := (f5.block _ (lt_of_heap hlA) (fun hm => by have := (hbk _ hm).1; omega)).trans hlA
            have b5 := (f5.block _ (lt_of_heap (fa.hb b3)) (fun hm => by have := (hbk _ hm).1; omega)).trans (fa.hb b3)
            have hb5 := (hb3.fr fa (by simp)).fr f5 (fun hm => by have := (hbk _ hm).1; omega)
            have F5 : Fr [r] W w5 := (f3.trans fa (by simp)).trans f5 (fun g hg => .inr (by have := (hbk g hg).1; omega))
            have fs5 : Fr [gl] w5 (w5.setCell ⟨gl, 3, none⟩ (.slice p2 (0 + 1) c2)) := Fr.setCell (S := [gl]) w5 ⟨gl, 3, none⟩ _ (by simp)
            have hb6 := hb5.fr fs5 (by simp; omega)
            have hm6 := lenW_is hb6
            simp only at hm6
            have HS : Hid (AS W r S R gl f0 (w5.setCell ⟨gl, 3, none⟩ (.slice p2 (0 + 1) c2))) := by
              refine ⟨p2, c2, ([] : List LitT) ++ [t], x2, n2, f, ?_, htr5.keep fs5 (by simp), hb6, F5.trans fs5 (fun g hg => .inr (by simp at hg; omega)), (fs5.block _ (lt_of_heap b5) (by simp; omega)).trans b5, ?_, by omega, by first | (simp; done) | (simp; omega), hn2, by omega⟩
              · have := set_in hl5 3 (.slice p2 (0 + 1) c2)
                rw [show (([] : List LitT) ++ [t]).length = 0 + 1 by simp]
                exact this
              · rw [stL_app, stL_cons, stL_nil]; exact hq4
            have c5 : w5.cell? ⟨gl, 3, none⟩ = some (.slice p 0 c) := cell_in hl5 3
            have z5 := frozen_in hl5 3
            have l3A : ∀ o, (w3.alloc o).cell? ⟨gl, 3, none⟩ = some (.slice p 0 c) := fun o => cell_in ((Fr.alloc [] w3 o).hb hl3) 3
            rw [← ho4] at hr5
            have HR5 := mkHid hr5
            clear hb3 hf3 hk3 ht3 hq3 f3 b3 hl3 ht3' HQ0 HEl HQ2 HQq HC HFv HBv HLv HTv hq4 ho4 fa hszA htA hkA hr5 htr5 f5 hbk hlA hl5 b5 hb5 F5 fs5 hb6
            go_wp2_with (at_builtin; refine Lib.wpList_append_run _ rfl (.tmp 54) (.tmp 56) 22 22 rfl _ _ rfl rfl _ _ HR5.out ?_)
            go_roundw
            case rel => exact HS.out
            case measure => rw [hm6, hmes]; omega
        · have lpos : (0 : Int) < (ts.length : Int) := by omega
          have hsl : (stL ts).length = ts.length := stL_len ts
          rw [hsl, if_neg hl0] at hq
          have HK : Hid (∀ V, Fr [r] wr V → Fr [r] W V ∧ V.heap[W.heap.size]? = some z49 ∧ V.heap[gl]? = some (.cells #[.int .i64 4, .string ⟨#[]⟩, .int .i64 0, .slice p ts.length c] 49 (0, 0)) ∧ TR (gl + 1) V p c ts) := fun V fV => ⟨hf.trans fV (by simp), (fV.block _ (lt_of_heap b1) (by simp; omega)).trans b1, (fV.block _ (lt_of_heap hlb) (by simp; omega)).trans hlb, htr.keep fV (by simp; omega)⟩
          cases hs : tokP [32] x with
          | none =>
            rw [hs] at hq
            simp only at hq
            have HQ := mkHid (HQ0.out hq.symm)
            have HT2 : Hid (∀ V, RB V r { S with rest := x, els := n } → Calls Tryz.prog 52 #[pt r, .string (bA [32])] V fun e w' => e = .returned (.bool false) ∧ RB w' r { S with rest := x, els := n } ∧ Fr [r] V w') := fun V hV => token_miss hV hs
            clear hrel hlb htr hb hf b1 hq ht HQ0 HQ1 l0 hs hsl HEl
            go_wp2_with fail
            refine HT.out.mono ?_
            rintro e w2 ⟨rfl, hb2, hf2⟩
            obtain ⟨-, -, hlq, -⟩ := HK.out w2 hf2
            have l3 : w2.cell? ⟨gl, 3, none⟩ = some (.slice p ts.length c) := cell_in hlq 3
            have H2 := mkHid (HT2.out w2 hb2)
            have HF2 := mkHid hf2
            clear hb2 hf2 HT2 hlq
            go_wp2_with fail
            refine H2.out.mono ?_
            rintro e w3 ⟨rfl, hb3, hf3⟩
            obtain ⟨f2, b2, -, -⟩ := HK.out w3 (HF2.out.trans hf3 (by simp))
            obtain ⟨c0, c1, c2, c3, z0, z1, z2, z3⟩ := z4_of b2
            have HB := mkHid hb3
            have HF := mkHid f2
            have HB1 := mkHid b2
            clear hb3 hf3 f2 b2 HK l3
            go_wp2_with fail
            exact fin (flat 0 ⟨#[]⟩ 0) false Tryz.results56 HB1.out HF.out hlt HB.out (noneO _ _) (flat_tx _ _) HQ.out rfl rfl
          | some x1 =>
            rw [hs] at hq
            simp only at hq
            have hx1 := tok_len hs
            have HQq := mkHid hq
            have HT2 : Hid (∀ V, RB V r { S with rest := x, els := n } → Calls Tryz.prog 52 #[pt r, .string (bA [32])] V fun e w' => e = .returned (.bool true) ∧ RB w' r { S with rest := x1, els := n } ∧ Fr [r] V w') := fun V hV => token_hit hV hs
            clear hrel hlb htr hb hf b1 hq ht HQ1 l0 hs hsl
            go_wp2_with fail
            refine HT.out.mono ?_
            rintro e w2 ⟨rfl, hb2, hf2⟩
            obtain ⟨-, -, hlq, -⟩ := HK.out w2 hf2
            have l3 : w2.cell? ⟨gl, 3, none⟩ = some (.slice p ts.length c) := cell_in hlq 3
            have H2 := mkHid (HT2.out w2 hb2)
            have HF2 := mkHid hf2
            clear hb2 hf2 HT2 hlq
            go_wp2_with fail
            refine H2.out.mono ?_
            rintro e wq ⟨rfl, hbq, hf3⟩
            have hfq := HF2.out.trans hf3 (by simp)
            obtain ⟨fq, bq, hlq, htq⟩ := HK.out wq hfq
            clear l3 hf3
            have l3 : wq.cell? ⟨gl, 3, none⟩ = some (.slice p ts.length c) := cell_in hlq 3
            have r8 : wq.cell? ⟨r, 8, none⟩ = some (.int .i64 (n : Int)) := hbq.cl 8
            have y8 := hbq.fz 8
            by_cases h32 : ts.length = 32
            · have HQ := mkHid (HQ0.out (by rw [← HQq.out, if_pos (.inl h32)]))
              have h32' : ((ts.length : Int) == 32) = true := by rw [h32]; rfl
              clear h32
              obtain ⟨c0, c1, c2, c3, z0, z1, z2, z3⟩ := z4_of bq
              have HB := mkHid hbq
              have HF := mkHid fq
              have HB1 := mkHid bq
              clear hbq fq bq HK hlq htq hfq HQ0 HEl
              go_wp2_with fail
              exact fin (flat 0 ⟨#[]⟩ 0) false Tryz.results56 HB1.out HF.out hlt HB.out (noneO _ _) (flat_tx _ _) HQ.out rfl rfl
            have h32' : ((ts.length : Int) == 32) = false := by simp; omega
            by_cases hn4 : n = 4096
            · have HQ := mkHid (HQ0.out (by rw [← HQq.out, if_pos (.inr hn4)]))
              have hn4' : ((n : Int) == 4096) = true := by rw [hn4]; rfl
              clear hn4
              obtain ⟨c0, c1, c2, c3, z0, z1, z2, z3⟩ := z4_of bq
              have HB := mkHid hbq
              have HF := mkHid fq
              have HB1 := mkHid bq
              clear hbq fq bq HK hlq htq hfq HQ0 HEl
              go_wp2_with fail
              exact fin (flat 0 ⟨#[]⟩ 0) false Tryz.results56 HB1.out HF.out hlt HB.out (noneO _ _) (flat_tx _ _) HQ.out rfl rfl
            have hn4' : ((n : Int) == 4096) = false := by simp; omega
            have hq2 := HQq.out
            rw [if_neg (by rintro (e | e); exact h32 e; exact hn4 e)] at hq2
            have hn5 : n < 4096 := by omega
            have hts5 : ts.length < 32 := by omega
            have hwn : IntKind.i64.wrap ((n : Int) + 1) = (n : Int) + 1 := iwrap_id (by omega) (by omega)
            have hset := hbq.setEls (n + 1)
            rw [show ((n + 1 : Nat) : Int) = (n : Int) + 1 by omega] at hset
            have fs : Fr [r] wq (wq.setCell ⟨r, 8, none⟩ (.int .i64 ((n : Int) + 1))) := Fr.setCell (S := [r]) wq ⟨r, 8, none⟩ _ (by simp)
            have HC := mkHid (HEl.out f (by omega) _ r _ hset (HE.out.fr1 (fq.trans fs (by simp)) hr) hr (by simp only; omega) (by simp only; omega))
            obtain ⟨fv, bv, hlv, htv⟩ := HK.out _ (hfq.trans fs (by simp))
            obtain ⟨V1, hV1⟩ : ∃ V, wq.setCell ⟨r, 8, none⟩ (.int .i64 ((n : Int) + 1)) = V := ⟨_, rfl⟩
            rw [hV1] at HC fv bv hlv htv
            have HV1 := mkHid hV1
            have HFv := mkHid fv
            have HBv := mkHid bv
            have HLv := mkHid hlv
            have HTv := mkHid htv
            have HQ2 := mkHid hq2
            clear hbq fq bq HK hlq htq hfq hset fs fv bv hlv htv hV1 hq2 hn4 h32
            go_wp2_with fail
            rw [HV1.out]
            refine HC.out.mono ?_
            rintro e w3 ⟨t, ok, x2, n2, rfl, hb3, hf3, hk3, ht3, hq3⟩
            simp only at hb3 hq3
            have f3 := HFv.out.trans hf3 (by simp)
            have b3 := (hf3.block _ (lt_of_heap HBv.out) (by simp; omega)).trans HBv.out
            have hl3 := (hf3.block _ (lt_of_heap HLv.out) (by simp; omega)).trans HLv.out
            have ht3' := HTv.out.keep hf3 (by simp; omega)
            have hsv : gl < V1.heap.size := lt_of_heap HLv.out
            have hs3 : gl < w3.heap.size := lt_of_heap hl3
            unfold litv LitT.items
            cases ok with
            | false =>
              have HQ := mkHid (HQ0.out (by rw [← HQ2.out, hq3]; rfl))
              have HA : Hid (∀ o, (w3.alloc o).heap[W.heap.size]? = some z49 ∧ Fr [r] W (w3.alloc o) ∧ RB (w3.alloc o) r { S with rest := x2, els := n2 }) := fun o => ⟨(Fr.alloc [] w3 o).hb b3, f3.trans (Fr.alloc [] w3 o) (by simp), hb3.fr (Fr.alloc [] w3 o) (by simp)⟩
              have c0 : ∀ o, (w3.alloc o).cell? ⟨W.heap.size, 0, none⟩ = some (.int .i64 0) := fun o => cell_in (HA.out o).1 0
              have c1 : ∀ o, (w3.alloc o).cell? ⟨W.heap.size, 1, none⟩ = some (.string ⟨#[]⟩) := fun o => cell_in (HA.out o).1 1
              have c2 : ∀ o, (w3.alloc o).cell? ⟨W.heap.size, 2, none⟩ = some (.int .i64 0) := fun o => cell_in (HA.out o).1 2
              have c3 : ∀ o, (w3.alloc o).cell? ⟨W.heap.size, 3, none⟩ = some (.slice none 0 0) := fun o => cell_in (HA.out o).1 3
              have z0 : ∀ o, (w3.alloc o).frozen? ⟨W.heap.size, 0, none⟩ = false := fun o => frozen_in (HA.out o).1 0
              have z1 : ∀ o, (w3.alloc o).frozen? ⟨W.heap.size, 1, none⟩ = false := fun o => frozen_in (HA.out o).1 1
              have z2 : ∀ o, (w3.alloc o).frozen? ⟨W.heap.size, 2, none⟩ = false := fun o => frozen_in (HA.out o).1 2
              have z3 : ∀ o, (w3.alloc o).frozen? ⟨W.heap.size, 3, none⟩ = false := fun o => frozen_in (HA.out o).1 3
              clear hb3 hf3 hk3 ht3 hq3 f3 b3 hl3 ht3' HQ0 HEl HQ2 HQq HC HFv HBv HLv HTv
              go_wp2_with fail
              exact fin (flat 0 ⟨#[]⟩ 0) false Tryz.results56 (HA.out _).1 (HA.out _).2.1 hlt (HA.out _).2.2 (noneO _ _) (flat_tx _ _) HQ.out rfl rfl
            | true =>
              simp only [if_true] at hq3
              have hq4 := HQ2.out
              rw [hq3] at hq4
              simp only at hq4
              obtain ⟨hx2, hn2⟩ := ele_len hq3 (by omega)
              obtain ⟨o4, ho4⟩ : ∃ o, Obj.cells #[.int .i64 t.kind, .string t.text, .int .i64 t.num, .slice t.p t.kids.length t.c] 49 (0, 0) = o := ⟨_, rfl⟩
              have fa : Fr [] w3 (w3.alloc o4) := Fr.alloc [] w3 o4
              have hszA : (w3.alloc o4).heap.size = w3.heap.size + 1 := by simp
              have htA := ht3'.keep fa (by simp)
              have hkA : LitsX (w3.alloc o4) (fun g => gl + 1 ≤ g ∧ g ∉ blk p ∧ g ∉ ftL ts) t.p t.c t.kids := hk3.keep fa (fun _ _ _ => by simp) (fun g hg _ => ⟨by omega, fun hm => by have := (HTv.out.blk g hm).2; omega, fun hm => by have := (HTv.out.feet g hm).2.2; omega⟩)
              obtain ⟨p2, c2, w5, hr5, htr5, f5⟩ := htA.push (by first | omega | simp) (by omega) t ht3 hkA
              have hbk := htA.blk
              rw [hszA] at hr5
              have hlA := fa.hb hl3
              have hl5 := (f5.block _ (lt_of_heap hlA) (fun hm => by have := (hbk _ hm).1; omega)).trans hlA
              have b5 := (f5.block _ (lt_of_heap (fa.hb b3)) (fun hm => by have := (hbk _ hm).1; omega)).trans (fa.hb b3)
              have hb5 := (hb3.fr fa (by simp)).fr f5 (fun hm => by have := (hbk _ hm).1; omega)
              have F5 : Fr [r] W w5 := (f3.trans fa (by simp)).trans f5 (fun g hg => .inr (by have := (hbk g hg).1; omega))
              have fs5 : Fr [gl] w5 (w5.setCell ⟨gl, 3, none⟩ (.slice p2 (ts.length + 1) c2)) := Fr.setCell (S := [gl]) w5 ⟨gl, 3, none⟩ _ (by simp)
              have hb6 := hb5.fr fs5 (by simp; omega)
              have hm6 := lenW_is hb6
              simp only at hm6
              have HS : Hid (AS W r S R gl f0 (w5.setCell ⟨gl, 3, none⟩ (.slice p2 (ts.length + 1) c2))) := by
                refine ⟨p2, c2, ts ++ [t], x2, n2, f, ?_, htr5.keep fs5 (by simp), hb6, F5.trans fs5 (fun g hg => .inr (by simp at hg; omega)), (fs5.block _ (lt_of_heap b5) (by simp; omega)).trans b5, ?_, by omega, by first | (simp; done) | (simp; omega), hn2, by omega⟩
                · have := set_in hl5 3 (.slice p2 (ts.length + 1) c2)
                  rw [show (ts ++ [t]).length = ts.length + 1 by simp]
                  exact this
                · rw [stL_app, stL_cons, stL_nil]; exact hq4
              have c5 : w5.cell? ⟨gl, 3, none⟩ = some (.slice p ts.length c) := cell_in hl5 3
              have z5 := frozen_in hl5 3
              have l3A : ∀ o, (w3.alloc o).cell? ⟨gl, 3, none⟩ = some (.slice p ts.length c) := fun o => cell_in ((Fr.alloc [] w3 o).hb hl3) 3
              rw [← ho4] at hr5
              have HR5 := mkHid hr5
              clear hb3 hf3 hk3 ht3 hq3 f3 b3 hl3 ht3' HQ0 HEl HQ2 HQq HC HFv HBv HLv HTv hq4 ho4 fa hszA htA hkA hr5 htr5 f5 hbk hlA hl5 b5 hb5 F5 fs5 hb6
              go_wp2_with (at_builtin; refine Lib.wpList_append_run _ rfl (.tmp 54) (.tmp 56) 22 22 rfl _ _ rfl rfl _ _ HR5.out ?_)
              go_roundw
              case rel => exact HS.out
              case measure => rw [hm6, hmes]; omega
end Go.Proofs.YtclkoffnjiiioaaGreatDoor
