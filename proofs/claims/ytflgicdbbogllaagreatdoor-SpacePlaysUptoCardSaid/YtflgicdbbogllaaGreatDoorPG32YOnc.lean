import Derived.Test.YtflgicdbbogllaaGreatDoorPG18HPlN
set_option maxHeartbeats 2000000
set_option maxRecDepth 20000
set_option linter.unusedSimpArgs false
set_option linter.unusedVariables false
namespace Go.Proofs.YtflgicdbbogllaaGreatDoor
open Go.RowKit Tryz
open Value (int)
open IntKind (i64)
attribute [local go_sem ↓] wp_at_zero wp_at_succ
variable {C G j0 k k1 : Nat} {V W : World} {gs : List HG} {x : HG}
structure Hand (w W : World) (G C : Nat) (gs : List HG) : Prop where
 fr : Fr [] w W
 row : W.ownsRow (w.heap.size + 2) 139 4 (.slice (some ⟨G, 0, none⟩) (gs.length + 1) C) (gs.length + 1) (kBJ gs ++ [int i64 (-79), int i64 0, int i64 0, .slice none 0 0])
 fB : ∀ x ∈ gs, W.ownsRow (w.heap.size + 2) 41 1 (.slice (some ⟨x.g, 0, none⟩) (x.fB.length + 2) x.cap) (x.fB.length + 2) (kDj x)
 apart : (gs.map HG.g).Nodup
theorem kOF (x y z : Int) (ov : Value) (la : List OI) (w : World) (ha : SAt w ov la) :
  Calls prog 116 #[.agg #[int i64 x, int i64 y, int i64 z, ov]] w fun e w' => ∃ G C gs, e = .returned (.tuple #[.agg #[int i64 x, int i64 y, int i64 z, .slice (some ⟨G, 0, none⟩) la.length C], .slice (some ⟨G, 0, none⟩) (la.length + 1) C]) ∧ gs.map kDS = la.map kAU ∧ Hand w w' G C gs := by
 have HA := kAA ha;have hl := ha.short;obtain ⟨p, c, rfl, -⟩ := ha.at_;obtain ⟨W1, hW1⟩ := jex ((w.alloc (.cells #[int i64 x, int i64 y, int i64 z, .slice p la.length c] 82)).alloc (.cells #[int i64 0, int i64 0, int i64 0, .slice none 0 0] 82));have F1 : Hid (Fr [] w W1) := by rw [hW1]; exact (Fr.alloc [] _ _).trans (Fr.alloc [] _ _) (by simp)
 have hS1 : W1.heap.size = w.heap.size + 2 := by rw [hW1]; simp
 have HB1 : Hid (W1.heap[w.heap.size]? = some (.cells #[int i64 x, int i64 y, int i64 z, .slice p la.length c] 82 (0, 0))) := by rw [Hid, hW1, jAN _ _ _ (by simp)]; exact heap_alloc_new _ _
 have HB2 : Hid (W1.heap[w.heap.size + 1]? = some (.cells #[int i64 0, int i64 0, int i64 0, .slice none 0 0] 82 (0, 0))) := by
  have := heap_alloc_new (w.alloc (.cells #[int i64 x, int i64 y, int i64 z, .slice p la.length c] 82)) (.cells #[int i64 0, int i64 0, int i64 0, .slice none 0 0] 82);rw [Hid, hW1]
  simpa using this
 obtain ⟨i33, ii33, iz33, is33, ib33⟩ := info_parts kCx;obtain ⟨i106, ii106, iz106, is106, ib106⟩ := info_parts kFT;clear ha;go_enter func116, ntmps116
 go_wp2_with fail
 rw [← hW1];clear hW1
 go_loopw [4, 5] (fun lv q wr => ∃ (k : Nat) (lp : Option Addr) (lc : Nat), k ≤ la.length ∧ q = int i64 k ∧ lv = .slice lp k lc ∧ Hid (∃ gs, gs.map kDS = (la.take k).map kAU ∧ Hd w wr (.slice lp k lc) gs ∧ Fr [] W1 wr)) (fun _ q _ => la.length - (intOf q).toNat)
 case atStart => exact ⟨0, none, 0, jAH _, rfl, rfl, [], rfl, ⟨F1.out, jAS _ _ _ _, by simp, by simp⟩, Fr.refl _ _⟩
 case round =>
  obtain ⟨k, lp, lc, hkn, rfl, rfl, hq⟩ := hrel;obtain ⟨gs, hgk, hd, hf1⟩ := hq.out;have hgl : gs.length = k := by have := congrArg List.length hgk; simp at this; omega
  have b0 := (hf1.block _ (kAB HB1.out) (by simp)).trans HB1.out;have e3 : wr.cell? ⟨w.heap.size, 3, none⟩ = some (.slice p la.length c) := by rw [kAC b0]; rfl
  have hz := kAB b0;have hWr : w.heap.size + 2 ≤ wr.heap.size := by have := hf1.size; omega
  have k1 := ng k
  by_cases hlt : k < la.length
  ·have k2 : (k : Int) < la.length := by omega
   have Fk := F1.out.trans hf1 (by simp);have hAk := HA.out.fK Fk;obtain ⟨p', c', ee, hpa⟩ := hAk.at_
   injection ee with ee eeb eec
   subst ee;subst eec;clear eeb;obtain ⟨g, off, rfl, hca⟩ := hpa (by omega);obtain ⟨o, h0, x0, x1, x2, x3⟩ := hca k hlt;have x4 := hAk.fB o (jAn h0)
   have hkey : Hid ((la.take (k + 1)).map kAU = (la.take k).map kAU ++ [kAU o]) := by
    rw [jAB hlt] at h0;have h0' := Option.some.inj h0;rw [Hid, jAO hlt, jAP, h0'];rfl
   obtain ⟨oo, oc, of_, os, ov⟩ := o;dsimp only at *;have hos := x4.short;obtain ⟨p1, c1, rfl, -⟩ := x4.at_;have hgb : g < wr.heap.size := jAf wr _ x0;obtain ⟨V1, hV1⟩ := jex (wr.alloc (.cells #[int i64 oo, int i64 oc, int i64 of_, .slice p1 os.length c1] 139));have FV1 : Fr [] wr V1 := by rw [hV1]; exact Fr.alloc [] _ _
   have hBx : V1.heap[wr.heap.size]? = some (.cells #[int i64 oo, int i64 oc, int i64 of_, .slice p1 os.length c1] 139 (0, 0)) := by rw [hV1]; exact heap_alloc_new _ _
   obtain ⟨v2, V2, hr2, ho2, hf2⟩ := kCi os (.slice p1 os.length c1) V1 (x4.fK FV1);have hle2 : V1.heap.size = wr.heap.size + 1 := by rw [hV1]; simp
   rw [hV1] at hr2;have HR2 := kAA hr2;have hb2 := (hf2.block _ (kAB hBx) (by simp)).trans hBx;have hz2 := kAB hb2;have hfr2 : Fr [] wr V2 := FV1.trans hf2 (by simp);have hown2 := (kAV ho2 (show wr.heap.size + 1 ≤ V1.heap.size by omega)).alloc (.cells #[int i64 (-77), int i64 (-78)] 41);have hn2 := World.news_of_block (heap_alloc_new V2 (.cells #[int i64 (-77), int i64 (-78)] 41));have hHD := kAA hd;have HX := kAA (And.intro x4 (And.intro hgk (And.intro hfr2 hb2)));clear hq hd x4 hr2 ho2 hAk hpa hca h0 b0 hBx hV1 FV1 hf2 hle2 hb2 hfr2
   go_wp2_with (first | (at_builtin; refine Lib.wpList_append_run _ rfl (.const (.slice none 0 0)) (.tmp 22) 35 35 rfl _ _ rfl rfl _ _ HR2.out ?_) | (at_builtin; refine wpList_append_lies _ rfl (.tmp 24) (.tmp 25) 35 rfl (wr.heap.size + 1) 41 i33 (int i64 0) 1 8 underlying35 ii33 iz33 is33 ib33 rfl (by decide) _ _ _ rfl hown2 ⟨V2.heap.size, 0, none⟩ 2 2 [int i64 (-77), int i64 (-78)] rfl rfl ?c1 ?c2 (by decide) ?c3 ?c4 ?c5 (V2.heap.size + 1) (by simp) ?_) | go_in)
   case c2 => exact ⟨rfl, rfl⟩
   case c3 => unfold maxLen; omega
   case c4 => omega
   case c5 => omega
   intro gm cm w3 hown3 hgrow3 hat3 hlt3;obtain ⟨hx4, hgk', hfr2, hb2⟩ := HX.out;have hvb : ∀ b, v2.ownBlock = some b → wr.heap.size + 1 ≤ b := fun b hb => (hown2.lt b hb).1
   have hfr3 : Fr [] wr w3 := by
    refine ⟨hgrow3.os.trans hfr2.os, hgrow3.tape.trans hfr2.tape, hgrow3.output.trans hfr2.output, jAU hfr2.size (jAU (by simp) hgrow3.size), fun i hi hn => ?_⟩;have := hfr2.size;rw [hgrow3.block i (by simp; omega) (fun e => by have := hvb _ e.symm; omega), jAN _ _ _ (by omega)];exact hfr2.block i hi (by simp)
   have hb3 : w3.heap[wr.heap.size]? = some (.cells #[int i64 oo, int i64 oc, int i64 of_, .slice p1 os.length c1] 139 (0, 0)) := by
    rw [hgrow3.block _ (by simp; omega) (fun e => by have := hvb _ e.symm; omega), jAN _ _ _ hz2];exact hb2
   have a3 := (hfr3.cell (p := ⟨w.heap.size, 3, none⟩) (by show w.heap.size < _; omega) (by simp)).trans e3;have a4 := (hfr3.cell (p := ⟨g, off + k * 4 + 3, none⟩) hgb (by simp)).trans x3;have f3 : w3.frozen? ⟨wr.heap.size, 3, none⟩ = false := kAD hb3 3;have z3 : w3.cell? ⟨wr.heap.size, 3, none⟩ = some (.slice p1 os.length c1) := by rw [kAC hb3]; rfl
   have z0 : w3.cell? ⟨wr.heap.size, 0, none⟩ = some (int i64 oo) := by rw [kAC hb3]; rfl
   have z1 : w3.cell? ⟨wr.heap.size, 1, none⟩ = some (int i64 oc) := by rw [kAC hb3]; rfl
   have z2 : w3.cell? ⟨wr.heap.size, 2, none⟩ = some (int i64 of_) := by rw [kAC hb3]; rfl
   have hcm : os.length + 2 ≤ cm := by
    rcases hown3.2 with ⟨h2, _⟩ | ⟨g', cap', cur', h2, h3, h4, h5⟩
    ·cases h2
    ·injection h2 with _ _ e; have := h5.1; omega
   have i1 := ng os.length;have i2 : (os.length : Int) ≤ cm := by omega
   obtain ⟨V3, hV3⟩ := jex (w3.setCell ⟨wr.heap.size, 3, none⟩ (.slice (some ⟨gm, 0, none⟩) os.length cm));have hfrV3 : Fr [] wr V3 := by rw [hV3]; exact hfr3.trans (Fr.setCell (S := [wr.heap.size]) _ _ _ (by simp)) (fun b hb => by simp at hb; subst hb; right; exact jAD _)
   have hbV3 : V3.heap[wr.heap.size]? = some (.cells #[int i64 oo, int i64 oc, int i64 of_, .slice (some ⟨gm, 0, none⟩) os.length cm] 139 (0, 0)) := by rw [hV3, kAI hb3]; rfl
   have hownV3 : V3.ownsRow (wr.heap.size + 1) 41 1 (.slice (some ⟨gm, 0, none⟩) (os.length + 2) cm) (os.length + 2) (os.map (int i64) ++ [int i64 (-77), int i64 (-78)]) := by
    rw [hV3];exact kAE hown3 fun g' hg' => kAK (by have := (hown3.lt g' hg').1; omega)
   have hz3 := kAB hbV3;have hfrV4 : Fr [] wr (V3.alloc (.cells #[int i64 oo, int i64 oc, int i64 of_, .slice (some ⟨gm, 0, none⟩) os.length cm] 139)) := hfrV3.trans (Fr.alloc [] _ _) (by simp);have hd4 := hHD.out.fK hfrV4;have hrow4 := hd4.row;rw [hgl] at hrow4;have HD4 := kAA hd4;have HO4 := kAA (hownV3.alloc (.cells #[int i64 oo, int i64 oc, int i64 of_, .slice (some ⟨gm, 0, none⟩) os.length cm] 139));have HF4 := kAA hfrV4;clear hd4 hfrV4 hownV3 hbV3 hfrV3 hown3 hgrow3 hat3 hb3 hb2 hfr2 HX hgk' hx4 hown2 hn2 hvb hfr3 HR2 x0 x1 x2 x3 e3;subst hV3
   go_wp2_with (at_builtin; refine wpList_append_lies _ rfl (.tmp 37) (.tmp 39) 80 rfl (w.heap.size + 2) 139 i106 (.agg #[int i64 0, int i64 0, int i64 0, .slice none 0 0]) 4 48 underlying80 ii106 iz106 is106 ib106 rfl (by decide) _ _ _ rfl hrow4 ⟨w3.heap.size, 0, none⟩ 1 1 [int i64 oo, int i64 oc, int i64 of_, .slice (some ⟨gm, 0, none⟩) os.length cm] rfl rfl ?n1 ?n2 (by decide) ?n3 ?n4 ?n5 (w3.heap.size + 1) (by simp) ?_)
   case n1 =>
    have hnn := World.news_of_block (heap_alloc_new (w3.setCell ⟨wr.heap.size, 3, none⟩ (.slice (some ⟨gm, 0, none⟩) os.length cm)) (.cells #[int i64 oo, int i64 oc, int i64 of_, .slice (some ⟨gm, 0, none⟩) os.length cm] 139));have hsz : (w3.setCell ⟨wr.heap.size, 3, none⟩ (.slice (some ⟨gm, 0, none⟩) os.length cm)).heap.size = w3.heap.size := by simp
    rw [hsz] at hnn;exact hnn
   case n2 => intro u hu; simp at hu; rcases hu with rfl | rfl | rfl | rfl <;> rfl
   case n3 => unfold maxLen; omega
   case n4 => omega
   case n5 => have := HF4.out.size; omega
   intro gl cl w5 hown5 hgrow5 hat5 hlt5
   have HNx : Hid (∃ gs, gs.map kDS = (la.take (k + 1)).map kAU ∧ Hd w w5 (.slice (some ⟨gl, 0, none⟩) (k + 1) cl) gs ∧ Fr [] W1 w5) := by
    have hnx := hHD.out.next (x := ⟨oo, oc, of_, os, gm, cm⟩) HF4.out (kAV (by rw [kDj, jAP]; exact HO4.out) (by omega)) hWr hgrow5 (by rw [hgl]; exact hown5);refine ⟨gs ++ [⟨oo, oc, of_, os, gm, cm⟩], by rw [hkey.out, jAP, hgk]; rfl, hnx, ?_⟩;have h3 := HF4.out;have hlo : ∀ b, (Value.slice lp k lc).ownBlock = some b → w.heap.size + 2 ≤ b := fun b hb => (hrow4.lt b hb).1
    refine ⟨hgrow5.os.trans (h3.os.trans hf1.os), hgrow5.tape.trans (h3.tape.trans hf1.tape), hgrow5.output.trans (h3.output.trans hf1.output), jAU hf1.size (jAU h3.size hgrow5.size), fun i hi hn => ?_⟩;have := hf1.size;have := h3.size;rw [hgrow5.block i (by omega) (fun e => by have := hlo _ e.symm; omega), h3.block i (by omega) (by simp)];exact hf1.block i hi (by simp)
   go_wp2_with fail
   go_roundw
   case rel => exact ⟨k + 1, some ⟨gl, 0, none⟩, cl, by omega, by go_num, rfl, HNx.out⟩
   case measure => simp [intOf]; omega
  ·have hke : k = la.length := by omega
   subst hke;obtain ⟨V1, hV1⟩ := jex (wr.alloc (.cells #[int i64 (-79), int i64 0, int i64 0, .slice none 0 0] 139));have FV1 : Fr [] wr V1 := by rw [hV1]; exact Fr.alloc [] _ _
   have hd1 := hd.fK FV1;have hrow1 := hd1.row;rw [hgl, hV1] at hrow1;have hnn := World.news_of_block (heap_alloc_new wr (.cells #[int i64 (-79), int i64 0, int i64 0, .slice none 0 0] 139));have b1 := (hf1.block _ (kAB HB2.out) (by simp)).trans HB2.out;have HD1 := kAA hd1;have HBb := kAA (And.intro ((FV1.block _ (kAB b0) (by simp)).trans b0) ((FV1.block _ (kAB b1) (by simp)).trans b1));have hV1s : V1.heap.size = wr.heap.size + 1 := by rw [hV1]; simp
   have HGK := kAA hgk;clear hq hd hd1 FV1 b1 b0 hgk
   go_wp2_with (at_builtin; refine wpList_append_lies _ rfl (.tmp 41) (.tmp 43) 80 rfl (w.heap.size + 2) 139 i106 (.agg #[int i64 0, int i64 0, int i64 0, .slice none 0 0]) 4 48 underlying80 ii106 iz106 is106 ib106 rfl (by decide) _ _ _ rfl hrow1 ⟨wr.heap.size, 0, none⟩ 1 1 [int i64 (-79), int i64 0, int i64 0, .slice none 0 0] rfl rfl ?q1 ?q2 (by decide) ?q3 ?q4 ?q5 (wr.heap.size + 1) (by simp) ?_)
   case q2 => exact ⟨rfl, rfl, rfl⟩
   case q3 => unfold maxLen; omega
   case q4 => omega
   case q5 => omega
   intro G C w5 hown5 hgrow5 hat5 hlt5;rw [← hV1] at hgrow5;have hlo : ∀ b, (Value.slice lp la.length lc).ownBlock = some b → w.heap.size + 2 ≤ b := fun b hb => (hrow1.lt b hb).1
   have c0 : w5.heap[w.heap.size]? = some (.cells #[int i64 x, int i64 y, int i64 z, .slice p la.length c] 82 (0, 0)) := by
    rw [hgrow5.block _ (by omega) (fun e => by have := hlo _ e.symm; omega)]; exact HBb.out.1
   have c1 : w5.heap[w.heap.size + 1]? = some (.cells #[int i64 0, int i64 0, int i64 0, .slice none 0 0] 82 (0, 0)) := by
    rw [hgrow5.block _ (by omega) (fun e => by have := hlo _ e.symm; omega)]; exact HBb.out.2
   have hC : la.length + 1 ≤ C := by
    rcases hown5.2 with ⟨h2, _⟩ | ⟨g', cap', cur', h2, h3, h4, h5⟩
    ·cases h2
    ·injection h2 with _ _ e; have := h5.1; omega
   have s0 : w5.cell? ⟨w.heap.size, 0, none⟩ = some (int i64 x) := by rw [kAC c0]; rfl
   have s1 : w5.cell? ⟨w.heap.size, 1, none⟩ = some (int i64 y) := by rw [kAC c0]; rfl
   have s2 : w5.cell? ⟨w.heap.size, 2, none⟩ = some (int i64 z) := by rw [kAC c0]; rfl
   have s3 : w5.cell? ⟨w.heap.size, 3, none⟩ = some (.slice p la.length c) := by rw [kAC c0]; rfl
   have t0 : w5.cell? ⟨w.heap.size + 1, 0, none⟩ = some (int i64 0) := by rw [kAC c1]; rfl
   have t1 : w5.cell? ⟨w.heap.size + 1, 1, none⟩ = some (int i64 0) := by rw [kAC c1]; rfl
   have t2 : w5.cell? ⟨w.heap.size + 1, 2, none⟩ = some (int i64 0) := by rw [kAC c1]; rfl
   have t3 : w5.cell? ⟨w.heap.size + 1, 3, none⟩ = some (.slice none 0 0) := by rw [kAC c1]; rfl
   have f0 := kAD c0 3;have y0 := kAD c1 0;have y1 := kAD c1 1;have y2 := kAD c1 2;have y3 := kAD c1 3;have i2 : (la.length : Int) ≤ C := by omega
   have HE : Hid (∀ V, Fr [w.heap.size, w.heap.size + 1] w5 V → Hand w V G C gs) := by
    intro V hV;have h1 := HD1.out
    have hsl : ∀ y : HG, V1.ownsRow (w.heap.size + 2) 41 1 (.slice (some ⟨y.g, 0, none⟩) (y.fB.length + 2) y.cap) (y.fB.length + 2) (kDj y) → V.ownsRow (w.heap.size + 2) 41 1 (.slice (some ⟨y.g, 0, none⟩) (y.fB.length + 2) y.cap) (y.fB.length + 2) (kDj y) := fun y hy =>
     kAE hy fun g hgg => by
      have hl2 := hy.lt g hgg;have := hgrow5.size;rw [hV.block g (by omega) (by simp; omega)];exact hgrow5.block g hl2.2 (fun e => kFX hy h1.row (by decide) hgg e.symm)
    refine ⟨?_, ?_, fun x hx => hsl x (h1.fB x hx), h1.apart⟩
    ·have F5 : Fr [] w w5 := by
      refine ⟨hgrow5.os.trans h1.fr.os, hgrow5.tape.trans h1.fr.tape, hgrow5.output.trans h1.fr.output, jAU h1.fr.size hgrow5.size, fun i hi hn => ?_⟩;have := h1.fr.size;rw [hgrow5.block i (by omega) (fun e => by have := hlo _ e.symm; omega)];exact h1.fr.block i hi (by simp)
     exact F5.trans hV (fun b hb => by simp at hb; right; omega)
    ·rw [hgl];exact kAE hown5 fun g hgg => hV.block g (hown5.lt g hgg).2 (by have := (hown5.lt g hgg).1; simp; omega)
   clear HD1 HBb hown5 hgrow5 hlo hrow1 hV1 hnn hV1s HB1 HB2 F1 hf1 hat5;have hc0 : w5.heap[w.heap.size + 1]? = some (.cells #[int i64 0, int i64 0, int i64 0, .slice none 0 0] 82 (0, 0)) := c1;have HC1 := kAA c1;clear c0 c1 hc0
   go_wp2_with fail
   obtain ⟨V, hV⟩ := jex (((((w5.setCell ⟨w.heap.size, 3, none⟩ (.slice (some ⟨G, 0, none⟩) la.length C)).setCell ⟨w.heap.size + 1, 0, none⟩ (int i64 x)).setCell ⟨w.heap.size + 1, 1, none⟩ (int i64 y)).setCell ⟨w.heap.size + 1, 2, none⟩ (int i64 z)).setCell ⟨w.heap.size + 1, 3, none⟩ (.slice (some ⟨G, 0, none⟩) la.length C))
   have hVb : V.heap[w.heap.size + 1]? = some (.cells #[int i64 x, int i64 y, int i64 z, .slice (some ⟨G, 0, none⟩) la.length C] 82 (0, 0)) := by
    have h0 : (w5.setCell ⟨w.heap.size, 3, none⟩ (.slice (some ⟨G, 0, none⟩) la.length C)).heap[w.heap.size + 1]? = some (.cells #[int i64 0, int i64 0, int i64 0, .slice none 0 0] 82 (0, 0)) := by rw [kAK (by omega)]; exact HC1.out
    rw [hV, kAI (kAI (kAI (kAI h0 0 _) 1 _) 2 _) 3 _];rfl
   have F : Fr [w.heap.size, w.heap.size + 1] w5 V := by
    rw [hV];exact ((((Fr.setCell (S := [w.heap.size, w.heap.size + 1]) w5 ⟨w.heap.size, 3, none⟩ _ (by simp)).trans (Fr.setCell (S := [w.heap.size, w.heap.size + 1]) _ ⟨w.heap.size + 1, 0, none⟩ (int i64 x) (by simp)) (fun b hb => .inl hb)).trans (Fr.setCell (S := [w.heap.size, w.heap.size + 1]) _ ⟨w.heap.size + 1, 1, none⟩ (int i64 y) (by simp)) (fun b hb => .inl hb)).trans (Fr.setCell (S := [w.heap.size, w.heap.size + 1]) _ ⟨w.heap.size + 1, 2, none⟩ (int i64 z) (by simp)) (fun b hb => .inl hb)).trans (Fr.setCell (S := [w.heap.size, w.heap.size + 1]) _ ⟨w.heap.size + 1, 3, none⟩ _ (by simp)) (fun b hb => .inl hb)
   rw [← hV];clear hV;have x0 : V.cell? ⟨w.heap.size + 1, 0, none⟩ = some (int i64 x) := by rw [kAC hVb]; rfl
   have x1 : V.cell? ⟨w.heap.size + 1, 1, none⟩ = some (int i64 y) := by rw [kAC hVb]; rfl
   have x2 : V.cell? ⟨w.heap.size + 1, 2, none⟩ = some (int i64 z) := by rw [kAC hVb]; rfl
   have x3 : V.cell? ⟨w.heap.size + 1, 3, none⟩ = some (.slice (some ⟨G, 0, none⟩) la.length C) := by rw [kAC hVb]; rfl
   refine bodyPost_ret (v := .tuple #[.agg #[int i64 x, int i64 y, int i64 z, .slice (some ⟨G, 0, none⟩) la.length C], .slice (some ⟨G, 0, none⟩) (la.length + 1) C]) (by simp [results, results116, go_sem, x0, x1, x2, x3]) rfl ?_;exact ⟨G, C, gs, rfl, by rw [HGK.out, jAV], HE.out V F⟩
def kOI (x : HG) (j : Nat) : Int := (x.fB ++ [-77, -78]).getD j 0
structure Lf (W : World) (G : Nat) (gs : List HG) (k j0 : Nat) : Prop where
 row : ∃ cur, W.heap[G]? = some (.cells cur 139 (0, 0)) ∧ cur[gs.length * 4]? = some (int i64 (-79)) ∧ ∀ (i : Nat) (x : HG), gs[i]? = some x → cur[i * 4]? = some (int i64 (if i < k then 0 else x.oop)) ∧ cur[i * 4 + 1]? = some (int i64 x.cls) ∧ cur[i * 4 + 2]? = some (int i64 x.fmt) ∧ cur[i * 4 + 3]? = some (.slice (some ⟨x.g, 0, none⟩) x.fB.length x.cap)
 fB : ∀ (i : Nat) (x : HG), gs[i]? = some x → x.fB.length + 2 ≤ x.cap ∧ ∃ cx, W.heap[x.g]? = some (.cells cx 41 (0, 0)) ∧ ∀ j, j < x.fB.length + 2 → cx[j]? = some (int i64 (if i < k ∨ (i = k ∧ j < j0) then 0 else kOI x j))
 apart : ∀ (i i' : Nat) (x x' : HG), gs[i]? = some x → gs[i']? = some x' → x.g = x'.g → i = i'
theorem Lf.fK (h : Lf W G gs k j0) (hf : Fr [] W V) : Lf V G gs k j0 := by
 refine ⟨?_, fun i x hx => ?_, h.apart⟩
 ·obtain ⟨cur, h1, h2⟩ := h.row;exact ⟨cur, (hf.block _ (kAB h1) (by simp)).trans h1, h2⟩
 ·obtain ⟨h0, cx, h1, h2⟩ := h.fB i x hx;exact ⟨h0, cx, (hf.block _ (kAB h1) (by simp)).trans h1, h2⟩
theorem kJl (l : List HG) : ∀ (i : Nat) (x : HG), l[i]? = some x → (kBJ l)[i * 4]? = some (int i64 x.oop) ∧ (kBJ l)[i * 4 + 1]? = some (int i64 x.cls) ∧ (kBJ l)[i * 4 + 2]? = some (int i64 x.fmt) ∧ (kBJ l)[i * 4 + 3]? = some (.slice (some ⟨x.g, 0, none⟩) x.fB.length x.cap) := by
 induction l with
 | nil => intro i x hx; simp at hx
 | cons o l ih =>
  intro i x hx;have e : kBJ (o :: l) = hg4 o ++ kBJ l := by simp [kBJ]
  rw [e]
  cases i with
  | zero =>
   have : o = x := by simpa using hx
   subst this;exact ⟨rfl, rfl, rfl, rfl⟩
  | succ i =>
   have hx' : l[i]? = some x := by simpa using hx
   have e2 : ∀ j, (hg4 o ++ kBJ l)[(i + 1) * 4 + j]? = (kBJ l)[i * 4 + j]? := fun j => by
    rw [jAI (by simp [hg4]; omega), show (i + 1) * 4 + j - (hg4 o).length = i * 4 + j from by simp [hg4]; omega]
   have e0 := e2 0;rw [jBm, jBm] at e0;rw [e0, e2, e2, e2];exact ih i x hx'
theorem kKd (ss : List Int) (j : Nat) (hj : j < ss.length + 2) : ((ss ++ [-77, -78]).map (int i64))[j]? = some (int i64 ((ss ++ [-77, -78]).getD j 0)) := by
 have hl : j < (ss ++ [-77, -78]).length := by simpa using hj
 rw [jAQ, jAA, jAB hl];rfl
theorem Hand.lf {w : World} (h : Hand w W G C gs) : Lf W G gs 0 0 := by
 have hr := h.row;refine ⟨?_, fun i x hx => ?_, fun i i' x x' hx hx' e => ?_⟩
 ·rcases hr.2 with ⟨h2, h3⟩ | ⟨g, cap, cur, h2, h3, h4, h5, h6, h7, h8⟩
  ·cases h2
  ·injection h2 with h2 _ _
   injection h2 with h2
   injection h2 with h2 _ _
   rw [← h2] at h4
   have hc : ∀ j, j < (gs.length + 1) * 4 → cur[j]? = (kBJ gs ++ [int i64 (-79), int i64 0, int i64 0, .slice none 0 0])[j]? := fun j hj => by
    rw [← h8, jAx, jp hj, Array.getElem?_toList]
   have hlen := kHQ gs;refine ⟨cur, h4, ?_, fun i x hx => ?_⟩
   ·rw [hc _ (by omega), jAI (by omega), hlen, Nat.sub_self];rfl
   ·have hil := (jAc.1 hx).1;obtain ⟨a0, a1, a2, a3⟩ := kJl gs i x hx;rw [jn (by omega)];refine ⟨?_, ?_, ?_, ?_⟩
    ·rw [hc _ (by omega), jAK (by omega)]; exact a0
    ·rw [hc _ (by omega), jAK (by omega)]; exact a1
    ·rw [hc _ (by omega), jAK (by omega)]; exact a2
    ·rw [hc _ (by omega), jAK (by omega)]; exact a3
 ·have hs := h.fB x (jAn hx);rcases hs.2 with ⟨h2, h3⟩ | ⟨g, cap, cur, h2, h3, h4, h5, h6, h7, h8⟩
  ·cases h2
  ·injection h2 with h2 _ h2c
   injection h2 with h2
   injection h2 with h2 _ _
   rw [← h2] at h4;refine ⟨by omega, cur, h4, fun j hj => ?_⟩;rw [jn (by omega)];have : cur[j]? = (kDj x)[j]? := by rw [← h8, jAx, jp (by omega), Array.getElem?_toList]
   rw [this];exact kKd x.fB j hj
 ·have hn := h.apart;have h1 : (gs.map HG.g)[i]? = some x.g := by rw [jAQ, hx]; rfl
  have h2 : (gs.map HG.g)[i']? = some x'.g := by rw [jAQ, hx']; rfl
  rw [e] at h1;have hi1 := (jAc.1 h1).1;exact (List.getElem?_inj hi1 hn).1 (h1.trans h2.symm)
theorem Lf.setSlot (h : Lf W G gs k j0) (hx : gs[k]? = some x) (hj : j0 < x.fB.length + 2) : Lf (W.setCell ⟨x.g, j0, none⟩ (int i64 0)) G gs k (j0 + 1) := by
 obtain ⟨hcap, cx, hb, hc⟩ := h.fB k x hx;obtain ⟨cur, hr, hr2⟩ := h.row;have hne : G ≠ x.g := fun e => by rw [e, hb] at hr; simp at hr
 refine ⟨⟨cur, by rw [kAK hne]; exact hr, hr2⟩, fun i y hy => ?_, h.apart⟩;obtain ⟨h0, cy, h1, h2⟩ := h.fB i y hy
 by_cases e : i = k
 ·subst e;have : y = x := Option.some.inj (hy.symm.trans hx);subst this;refine ⟨h0, _, kAI hb j0 _, fun j hjj => ?_⟩
  have hsz : j0 < cx.size := by
   have := hc j0 hj;exact (jBW.1 this).1
  by_cases ej : j = j0
  ·subst ej;rw [jp (.inr ⟨rfl, by omega⟩), jBM hsz]
  ·rw [jAg (by omega), hc j hjj]
   by_cases ej2 : j < j0
   ·rw [jp (.inr ⟨rfl, ej2⟩), jp (.inr ⟨rfl, by omega⟩)]
   ·rw [jn (by omega), jn (by omega)]
 ·have hg : y.g ≠ x.g := fun e2 => e (h.apart i k y x hy hx e2)
  refine ⟨h0, cy, by rw [kAK hg]; exact h1, fun j hjj => ?_⟩;rw [h2 j hjj]
  by_cases ek : i < k
  ·rw [jp (.inl ek), jp (.inl ek)]
  ·rw [jn (by omega), jn (by omega)]
theorem Lf.setOop (h : Lf W G gs k (x.fB.length + 2)) (hx : gs[k]? = some x) : Lf (W.setCell ⟨G, k * 4, none⟩ (int i64 0)) G gs (k + 1) 0 := by
 obtain ⟨cur, hr, hr1, hr2⟩ := h.row;have hkl := (jAc.1 hx).1;have hsz : k * 4 < cur.size := (jBW.1 (hr2 k x hx).1).1;refine ⟨⟨_, kAI hr (k * 4) _, by rw [jAg (by omega)]; exact hr1, fun i y hy => ?_⟩, fun i y hy => ?_, h.apart⟩
 ·obtain ⟨a0, a1, a2, a3⟩ := hr2 i y hy;refine ⟨?_, by rw [jAg (by omega)]; exact a1, by rw [jAg (by omega)]; exact a2, by rw [jAg (by omega)]; exact a3⟩
  by_cases e : i = k
  ·subst e;rw [jp (by omega), jBM hsz]
  ·rw [jAg (by omega), a0]
   by_cases ek : i < k
   ·rw [jp ek, jp (by omega)]
   ·rw [jn ek, jn (by omega)]
 ·obtain ⟨h0, cy, h1, h2⟩ := h.fB i y hy;have hne : y.g ≠ G := fun e => by rw [e, hr] at h1; simp at h1
  refine ⟨h0, cy, by rw [kAK hne]; exact h1, fun j hjj => ?_⟩;rw [h2 j hjj]
  by_cases e : i = k
  ·subst e;have : y = x := Option.some.inj (hy.symm.trans hx);subst this;rw [jp (.inr ⟨rfl, hjj⟩), jp (.inl (by omega))]
  ·by_cases ek : i < k
   ·rw [jp (.inl ek), jp (.inl (by omega))]
   ·rw [jn (by omega), jn (by omega)]
theorem tail_a (ss : List Int) : (ss ++ [(-77 : Int), -78]).getD ss.length 0 = -77 := by rw [jAA, jAI (jAD _)]; simp
theorem tail_b (ss : List Int) : (ss ++ [(-77 : Int), -78]).getD (ss.length + 1) 0 = -78 := by rw [jAA, jAI (by omega)]; simp
theorem kOB (x y z : Int) (ov : Value) (la : List OI) (gs : List HG) (G C : Nat) (w : World) (hA : ∀ V, Fr (G :: gs.map HG.g) w V → SAt V ov la) (hk : gs.map kDS = la.map kAU) (hl0 : Lf w G gs 0 0) :
  Calls prog 119 #[.slice (some ⟨G, 0, none⟩) (la.length + 1) C, .agg #[int i64 x, int i64 y, int i64 z, ov]] w fun e w' => e = .returned (.bool true) ∧ Lf w' G gs gs.length 0 ∧ Fr (G :: gs.map HG.g) w w' := by
 have HA := kAA hA;have ha := hA w (Fr.refl _ _);have hl := ha.short;obtain ⟨p, c, rfl, -⟩ := ha.at_;have hgl : gs.length = la.length := by have := congrArg List.length hk; simpa using this
 obtain ⟨W1, hW1⟩ := jex (w.alloc (.cells #[int i64 x, int i64 y, int i64 z, .slice p la.length c] 82));have F1 : Hid (Fr [] w W1) := by rw [hW1]; exact Fr.alloc [] _ _
 have hb1 : W1.heap[w.heap.size]? = some (.cells #[int i64 x, int i64 y, int i64 z, .slice p la.length c] 82 (0, 0)) := by rw [hW1]; exact heap_alloc_new _ _
 have HL1 := kAA (hl0.fK F1.out);obtain ⟨cur, r1, r2, r3⟩ := hl0.row;have hGl := kAB r1;have hGw : W1.heap[G]? = some (.cells cur 139 (0, 0)) := (F1.out.block _ hGl (by simp)).trans r1;rw [hgl] at r2;have hm : w.cell? ⟨G, la.length * 4, none⟩ = some (int i64 (-79)) := by rw [kAC r1]; exact r2
 have e3 : W1.cell? ⟨w.heap.size, 3, none⟩ = some (.slice p la.length c) := by rw [kAC hb1]; rfl
 have hSl : ∀ i (xx : HG), gs[i]? = some xx → xx.g < w.heap.size := fun i xx hx => by
  obtain ⟨_, cx, h1, _⟩ := hl0.fB i xx hx;exact kAB h1
 have HSl := kAA hSl;have HB1 := kAA hb1;have HK := kAA hk;have k0 := ng la.length;have k9 : (la.length : Int) < la.length + 1 := by omega
 clear ha hA hb1 r1 r2 r3 hGw hk hl0 hSl;go_enter func119, ntmps119
 go_wp2_with fail
 rw [← hW1];clear hW1 hm
 go_loopw [6] (fun q wr => ∃ k : Nat, k ≤ la.length ∧ q = int i64 k ∧ Hid (Lf wr G gs k 0 ∧ Fr (G :: gs.map HG.g) W1 wr)) (fun q _ => la.length - (intOf q).toNat)
 case atStart => exact ⟨0, jAH _, rfl, HL1.out, Fr.refl _ _⟩
 case round =>
  obtain ⟨k, hkn, rfl, hq⟩ := hrel;obtain ⟨hlf, hfr⟩ := hq.out
  have hin : ∀ b ∈ G :: gs.map HG.g, b < w.heap.size := fun b hb => by
   rcases jAF.1 hb with e | e
   ·omega
   ·obtain ⟨xx, h1, rfl⟩ := jAZ.1 e;obtain ⟨i, hi, he⟩ := jBP h1;exact HSl.out i xx (by rw [jAB hi, he])
  have b0 := (hfr.block _ (kAB HB1.out) (fun hb => by have := hin _ hb; omega)).trans HB1.out;have s3 : wr.cell? ⟨w.heap.size, 3, none⟩ = some (.slice p la.length c) := by rw [kAC b0]; rfl
  have k1 := ng k;have Fw : Fr (G :: gs.map HG.g) w wr := (F1.out.mono (by simp)).trans hfr (fun b hb => .inl hb)
  by_cases hlt : k < la.length
  ·have k2 : (k : Int) < la.length := by omega
   have k3 : (k : Int) < la.length + 1 := by omega
   have hAk := HA.out _ Fw;obtain ⟨p', c', ee, hpa⟩ := hAk.at_
   injection ee with ee eeb eec
   subst ee;subst eec;clear eeb;obtain ⟨g, off, rfl, hca⟩ := hpa (by omega);obtain ⟨o, h0, x0, x1, x2, x3⟩ := hca k hlt;have x4 := hAk.fB o (jAn h0)
   obtain ⟨xg, hxg, hkey⟩ : ∃ xg, gs[k]? = some xg ∧ kDS xg = kAU o := by
    have hh := congrArg (fun l => l[k]?) HK.out;simp only [jAQ, h0] at hh
    cases hg : gs[k]? with
    | none => rw [hg] at hh; simp at hh
    | some xg => rw [hg] at hh; simp at hh; exact ⟨xg, rfl, hh⟩
   obtain ⟨cur, r1, r2, r3⟩ := hlf.row;obtain ⟨q0, q1, q2, q3⟩ := r3 k xg hxg;obtain ⟨hcap, cx, u1, u2⟩ := hlf.fB k xg hxg;obtain ⟨oo, oc, of_, os, ov⟩ := o;obtain ⟨ho, hc, hf, hss, gg, cp⟩ := xg;simp only [kDS, kAU, Prod.mk.injEq] at hkey;obtain ⟨e1, e2, e3, e4⟩ := hkey;subst e1 e2 e3 e4;dsimp only at *;rw [jn (by omega)] at q0;obtain ⟨p1, c1, rfl, -⟩ := x4.at_;have hgb : g < wr.heap.size := jAf wr _ x0;have hos := x4.short;have hGl2 := kAB r1;have m0 : wr.cell? ⟨G, k * 4, none⟩ = some (int i64 ho) := by rw [kAC r1]; exact q0
   have m1 : wr.cell? ⟨G, k * 4 + 1, none⟩ = some (int i64 hc) := by rw [kAC r1]; exact q1
   have m2 : wr.cell? ⟨G, k * 4 + 2, none⟩ = some (int i64 hf) := by rw [kAC r1]; exact q2
   have m3 : wr.cell? ⟨G, k * 4 + 3, none⟩ = some (.slice (some ⟨gg, 0, none⟩) hss.length cp) := by rw [kAC r1]; exact q3
   obtain ⟨V1, hV1⟩ := jex (wr.alloc (.cells #[int i64 ho, int i64 hc, int i64 hf, .slice p1 hss.length c1] 139));have FV1 : Fr [] wr V1 := by rw [hV1]; exact Fr.alloc [] _ _
   have hBx : V1.heap[wr.heap.size]? = some (.cells #[int i64 ho, int i64 hc, int i64 hf, .slice p1 hss.length c1] 139 (0, 0)) := by rw [hV1]; exact heap_alloc_new _ _
   have i1 : (hss.length : Int) + 2 ≤ (cp : Int) := by omega
   have i2 : 0 ≤ (hss.length : Int) + 2 := by omega
   have hmv : ∀ j v, wr.cell? ⟨G, j, none⟩ = some v → V1.cell? ⟨G, j, none⟩ = some v := fun j v h => (FV1.cell (p := ⟨G, j, none⟩) hGl2 (by simp)).trans h
   have n0 := hmv _ _ m0;have n1 := hmv _ _ m1;have n2 := hmv _ _ m2;have y0 : V1.cell? ⟨wr.heap.size, 0, none⟩ = some (int i64 ho) := by rw [kAC hBx]; rfl
   have y1 : V1.cell? ⟨wr.heap.size, 1, none⟩ = some (int i64 hc) := by rw [kAC hBx]; rfl
   have y2 : V1.cell? ⟨wr.heap.size, 2, none⟩ = some (int i64 hf) := by rw [kAC hBx]; rfl
   have y3 : V1.cell? ⟨wr.heap.size, 3, none⟩ = some (.slice p1 hss.length c1) := by rw [kAC hBx]; rfl
   have hgV := (FV1.block _ (kAB u1) (by simp)).trans u1
   have hcell : ∀ j, j < hss.length + 2 → V1.cell? ⟨gg, j, none⟩ = some (int i64 ((hss ++ [-77, -78]).getD j 0)) := fun j hj => by
    rw [kAC hgV, u2 j hj, jn (by omega)];rfl
   have z1 := hcell hss.length (by omega);have z2 := hcell (hss.length + 1) (by omega);rw [tail_a] at z1;rw [tail_b] at z2
   have HRdm : Rd V1 (.slice (some ⟨gg, 0, none⟩) hss.length cp) hss := by
    refine ⟨⟨some ⟨gg, 0, none⟩, cp, rfl, fun hp => ⟨gg, 0, rfl, kAB hgV, fun j hj => ?_⟩⟩, fun c hc => (by cases hc), hos⟩;rw [jAl, hcell j (by omega), jAA, jAK hj, ← jAA]
   have HSW : Hid (∀ n, Calls prog 37 #[.slice (some ⟨gg, 0, none⟩) hss.length cp, .slice p1 hss.length c1] (V1.drewN n) fun e w' => e = .returned (.bool true) ∧ ∃ m, w' = (V1.drewN n).drewN m) := fun n => kBw hss _ _ (V1.drewN n) (HRdm.fK (Fr.drewN [] _ _)) ((x4.fK FV1).fK (Fr.drewN [] _ _))
   have j1 : (hss.length : Int) ≤ cp := by omega
   have j2 : (hss.length : Int) < hss.length + 2 := by omega
   have j3 : (hss.length : Int) + 1 < (hss.length : Int) + 2 := by omega
   have j4 := ng hss.length;have j5 : 0 ≤ (hss.length : Int) + 1 := by omega
   have hLV := kAA (And.intro hlf (And.intro FV1 hxg));have HFr := kAA hfr;have hGV : G < V1.heap.size := by have := FV1.size; omega
   have hXV : wr.heap.size < V1.heap.size := kAB hBx;clear hq hlf hfr b0 Fw hAk hpa hca x4 h0 r1 r2 r3 q0 q1 q2 q3 hcell u1 u2 hBx FV1 hmv HRdm
   go_wp2_with fail
   rw [← hV1];clear hV1 m0 m1 m2 m3
   go_quiet ((go_at_call 37; exact Calls.quiet_of (HSW.out _)))
   have HXn : Hid (∀ b ∈ G :: gs.map HG.g, b < V1.heap.size) := fun b hb => by have := hin b hb; have := hLV.out.2.1.size; have h9 := HFr.out.size; have h8 := F1.out.size; omega
   have hgm : gg ∈ G :: gs.map HG.g := jAr _ (jAZ.2 ⟨_, jAn hLV.out.2.2, rfl⟩);have HL2 : Hid (Lf (V1.drewN nq) G gs k 0 ∧ Fr [] wr (V1.drewN nq)) := ⟨hLV.out.1.fK (hLV.out.2.1.trans (Fr.drewN [] _ _) (by simp)), hLV.out.2.1.trans (Fr.drewN [] _ _) (by simp)⟩;have hxg := hLV.out.2.2
   go_wp2_with fail
   generalize V1.drewN nq = V2 at *;have hWw : w.heap.size ≤ wr.heap.size := by have := HFr.out.size; have := F1.out.size; omega
   generalize hwr : wr.heap.size = X at *
   go_loopw [10] (fun q wv => ∃ j : Nat, j ≤ hss.length + 2 ∧ q = int i64 j ∧ Hid (Lf wv G gs k j ∧ Fr (G :: gs.map HG.g) V2 wv)) (fun q _ => hss.length + 2 - (intOf q).toNat)
   case atStart => exact ⟨0, jAH _, rfl, HL2.out.1, Fr.refl _ _⟩
   case round =>
    obtain ⟨j, hjn, rfl, hv⟩ := hrel;obtain ⟨hlf, hfr⟩ := hv.out;have l1 := ng j
    by_cases hjl : j < hss.length + 2
    ·have l2 : (j : Int) < hss.length + 2 := by omega
     obtain ⟨hcap', cx, u1, u2⟩ := hlf.fB k _ hxg;have c0 := u2 j hjl;have cj : ∃ zz, wr.cell? ⟨gg, j, none⟩ = some (int i64 zz) := ⟨_, by rw [kAC u1]; exact c0⟩
     obtain ⟨zz, cj⟩ := cj;have fj : wr.frozen? ⟨gg, j, none⟩ = false := kAD u1 j;have HN : Hid (Lf (wr.setCell ⟨gg, j, none⟩ (int i64 0)) G gs k (j + 1) ∧ Fr (G :: gs.map HG.g) V2 (wr.setCell ⟨gg, j, none⟩ (int i64 0))) := ⟨hlf.setSlot hxg hjl, hfr.trans (Fr.setCell (S := G :: gs.map HG.g) _ _ _ hgm) (fun b hb => .inl hb)⟩;clear hv hlf hfr u1 u2 c0 hcap'
     go_wp2_with fail
     go_roundw
     case rel => exact ⟨j + 1, by omega, by go_num, HN.out⟩
     case measure => simp [intOf]; omega
    ·have hje : j = hss.length + 2 := by omega
     subst hje;obtain ⟨cur, r1, r2, r3⟩ := hlf.row;have hGq : ∃ zz, wr.cell? ⟨G, k * 4, none⟩ = some (int i64 zz) := ⟨_, by rw [kAC r1]; exact (r3 k _ hxg).1⟩
     obtain ⟨zz, hGq⟩ := hGq;have fG : wr.frozen? ⟨G, k * 4, none⟩ = false := kAD r1 _
     have HN : Hid (Lf (wr.setCell ⟨G, k * 4, none⟩ (int i64 0)) G gs (k + 1) 0 ∧ Fr (G :: gs.map HG.g) W1 (wr.setCell ⟨G, k * 4, none⟩ (int i64 0))) := by
      refine ⟨hlf.setOop hxg, ?_⟩;have h1 := HFr.out.trans HL2.out.2 (by simp);exact (h1.trans hfr (fun b hb => .inl hb)).trans (Fr.setCell (S := G :: gs.map HG.g) _ _ _ (by simp)) (fun b hb => .inl hb)
     clear hv hlf hfr r1 r2 r3
     go_wp2_with fail
     go_roundw
     case rel => exact ⟨k + 1, by omega, by go_num, HN.out⟩
     case measure => simp [intOf]; omega
  ·have hke : k = la.length := by omega
   subst hke
   go_wp2_with fail
   go_ret
   refine ⟨rfl, by rw [hgl]; exact hlf, (F1.out.mono (by simp)).trans hfr (fun b hb => .inl hb)⟩
def kMI (x : HG) : List Int := List.replicate x.fB.length 5
structure On (W : World) (G : Nat) (gs : List HG) (k1 k j0 : Nat) : Prop where
 row : ∃ cur, W.heap[G]? = some (.cells cur 139 (0, 0)) ∧ ∀ (i : Nat) (x : HG), gs[i]? = some x → cur[i * 4]? = some (int i64 (if i < k1 then x.oop else 0)) ∧ cur[i * 4 + 1]? = some (int i64 x.cls) ∧ cur[i * 4 + 2]? = some (int i64 x.fmt) ∧ cur[i * 4 + 3]? = some (.slice (some ⟨x.g, 0, none⟩) x.fB.length x.cap)
 fB : ∀ (i : Nat) (x : HG), gs[i]? = some x → ∃ cx, W.heap[x.g]? = some (.cells cx 41 (0, 0)) ∧ ∀ j, j < x.fB.length → cx[j]? = some (int i64 (if i < k ∨ (i = k ∧ j < j0) then 5 else 0))
 apart : ∀ (i i' : Nat) (x x' : HG), gs[i]? = some x → gs[i']? = some x' → x.g = x'.g → i = i'
theorem Lf.on (h : Lf W G gs gs.length 0) : On W G gs 0 0 0 := by
 obtain ⟨cur, h1, h2, h3⟩ := h.row;refine ⟨⟨cur, h1, fun i x hx => ?_⟩, fun i x hx => ?_, h.apart⟩
 ·have hi := (jAc.1 hx).1;obtain ⟨a0, a1, a2, a3⟩ := h3 i x hx;rw [jp hi] at a0;exact ⟨by rw [jn (by omega)]; exact a0, a1, a2, a3⟩
 ·have hi := (jAc.1 hx).1;obtain ⟨h0, cx, u1, u2⟩ := h.fB i x hx;refine ⟨cx, u1, fun j hj => ?_⟩;rw [u2 j (by omega), jp (.inl hi), jn (by omega)]
theorem On.fK (h : On W G gs k1 k j0) (hf : Fr [] W V) : On V G gs k1 k j0 := by
 refine ⟨?_, fun i x hx => ?_, h.apart⟩
 ·obtain ⟨cur, h1, h2⟩ := h.row;exact ⟨cur, (hf.block _ (kAB h1) (by simp)).trans h1, h2⟩
 ·obtain ⟨cx, h1, h2⟩ := h.fB i x hx;exact ⟨cx, (hf.block _ (kAB h1) (by simp)).trans h1, h2⟩
theorem On.setSlot (h : On W G gs k1 k j0) (hx : gs[k]? = some x) (hj : j0 < x.fB.length) : On (W.setCell ⟨x.g, j0, none⟩ (int i64 5)) G gs k1 k (j0 + 1) := by
 obtain ⟨cx, hb, hc⟩ := h.fB k x hx;obtain ⟨cur, hr, hr2⟩ := h.row;have hne : G ≠ x.g := fun e => by rw [e, hb] at hr; simp at hr
 refine ⟨⟨cur, by rw [kAK hne]; exact hr, hr2⟩, fun i y hy => ?_, h.apart⟩;obtain ⟨cy, h1, h2⟩ := h.fB i y hy
 by_cases e : i = k
 ·subst e;have : y = x := Option.some.inj (hy.symm.trans hx);subst this;refine ⟨_, kAI hb j0 _, fun j hjj => ?_⟩
  have hsz : j0 < cx.size := by
   have := hc j0 hj;exact (jBW.1 this).1
  by_cases ej : j = j0
  ·subst ej;rw [jp (.inr ⟨rfl, by omega⟩), jBM hsz]
  ·rw [jAg (by omega), hc j hjj]
   by_cases ej2 : j < j0
   ·rw [jp (.inr ⟨rfl, ej2⟩), jp (.inr ⟨rfl, by omega⟩)]
   ·rw [jn (by omega), jn (by omega)]
 ·have hg : y.g ≠ x.g := fun e2 => e (h.apart i k y x hy hx e2)
  refine ⟨cy, by rw [kAK hg]; exact h1, fun j hjj => ?_⟩;rw [h2 j hjj]
  by_cases ek : i < k
  ·rw [jp (.inl ek), jp (.inl ek)]
  ·rw [jn (by omega), jn (by omega)]
theorem On.setOop (h : On W G gs k k 0) (hx : gs[k]? = some x) : On (W.setCell ⟨G, k * 4, none⟩ (int i64 x.oop)) G gs (k + 1) k 0 := by
 obtain ⟨cur, hr, hr2⟩ := h.row;have hsz : k * 4 < cur.size := (jBW.1 (hr2 k x hx).1).1;refine ⟨⟨_, kAI hr (k * 4) _, fun i y hy => ?_⟩, fun i y hy => ?_, h.apart⟩
 ·obtain ⟨a0, a1, a2, a3⟩ := hr2 i y hy;refine ⟨?_, by rw [jAg (by omega)]; exact a1, by rw [jAg (by omega)]; exact a2, by rw [jAg (by omega)]; exact a3⟩
  by_cases e : i = k
  ·subst e;have : y = x := Option.some.inj (hy.symm.trans hx);subst this;rw [jp (by omega), jBM hsz]
  ·rw [jAg (by omega), a0]
   by_cases ek : i < k
   ·rw [jp ek, jp (by omega)]
   ·rw [jn ek, jn (by omega)]
 ·obtain ⟨cy, h1, h2⟩ := h.fB i y hy;have hne : y.g ≠ G := fun e => by rw [e, hr] at h1; simp at h1
  exact ⟨cy, by rw [kAK hne]; exact h1, h2⟩
theorem On.next (h : On W G gs k1 k x.fB.length) (hx : gs[k]? = some x) : On W G gs k1 (k + 1) 0 := by
 refine ⟨h.row, fun i y hy => ?_, h.apart⟩;obtain ⟨cy, h1, h2⟩ := h.fB i y hy;refine ⟨cy, h1, fun j hjj => ?_⟩;rw [h2 j hjj]
 by_cases e : i = k
 ·subst e;have : y = x := Option.some.inj (hy.symm.trans hx);subst this;rw [jp (.inr ⟨rfl, hjj⟩), jp (.inl (by omega))]
 ·by_cases ek : i < k
  ·rw [jp (.inl ek), jp (.inl (by omega))]
  ·rw [jn (by omega), jn (by omega)]
theorem glSat {W : World} {G C : Nat} {gs : List HG} (f : HG → List Int) (hf : ∀ x, (f x).length = x.fB.length) 
  (row : ∃ cur, W.heap[G]? = some (.cells cur 139 (0, 0)) ∧ ∀ (i : Nat) (x : HG), gs[i]? = some x → cur[i * 4]? = some (int i64 x.oop) ∧ cur[i * 4 + 1]? = some (int i64 x.cls) ∧ cur[i * 4 + 2]? = some (int i64 x.fmt) ∧ cur[i * 4 + 3]? = some (.slice (some ⟨x.g, 0, none⟩) x.fB.length x.cap))
  (fB : ∀ (i : Nat) (x : HG), gs[i]? = some x → ∃ cx, W.heap[x.g]? = some (.cells cx 41 (0, 0)) ∧ ∀ j, j < x.fB.length → cx[j]? = some (int i64 ((f x).getD j 0)))
  (hl : gs.length ≤ 2932031007317) (hs : ∀ x ∈ gs, x.fB.length ≤ 17592186043904) :
  SAt W (.slice (some ⟨G, 0, none⟩) gs.length C) (gs.map fun x => ⟨x.oop, x.cls, x.fmt, f x, .slice (some ⟨x.g, 0, none⟩) x.fB.length x.cap⟩) := by
 obtain ⟨cur, r1, r2⟩ := row;refine ⟨⟨some ⟨G, 0, none⟩, C, by rw [jAR], fun hp => ⟨G, 0, rfl, fun k hk => ?_⟩⟩, fun o ho => ?_, by rw [jAR]; exact hl⟩
 ·rw [jAR] at hk;obtain ⟨x, hx⟩ : ∃ x, gs[k]? = some x := ⟨_, jAB hk⟩
  obtain ⟨a0, a1, a2, a3⟩ := r2 k x hx;refine ⟨_, by rw [jAQ, hx]; rfl, ?_, ?_, ?_, ?_⟩
  ·rw [kAC r1, jAl]; exact a0
  ·rw [kAC r1, jAl]; exact a1
  ·rw [kAC r1, jAl]; exact a2
  ·rw [kAC r1, jAl]; exact a3
 ·obtain ⟨x, hx, rfl⟩ := jAZ.1 ho;obtain ⟨i, hi, he⟩ := jBP hx;obtain ⟨cx, u1, u2⟩ := fB i x (by rw [jAB hi, he]);dsimp only;refine ⟨⟨some ⟨x.g, 0, none⟩, x.cap, by rw [hf], fun hp => ⟨x.g, 0, rfl, kAB u1, fun j hj => ?_⟩⟩, fun c hc => (by cases hc), by rw [hf]; exact hs x hx⟩;rw [hf] at hj;rw [kAC u1, jAl];exact u2 j hj
theorem Lf.sat (h : Lf W G gs 0 0) (hl : gs.length ≤ 2932031007317) (hs : ∀ x ∈ gs, x.fB.length ≤ 17592186043904) : SAt W (.slice (some ⟨G, 0, none⟩) gs.length C) (gs.map fun x => ⟨x.oop, x.cls, x.fmt, x.fB, .slice (some ⟨x.g, 0, none⟩) x.fB.length x.cap⟩) := by
 refine glSat HG.fB (fun x => rfl) ?_ (fun i x hx => ?_) hl hs
 ·obtain ⟨cur, h1, h2, h3⟩ := h.row;exact ⟨cur, h1, fun i x hx => by have := h3 i x hx; rwa [jn (by omega)] at this⟩
 ·obtain ⟨h0, cx, u1, u2⟩ := h.fB i x hx;refine ⟨cx, u1, fun j hj => ?_⟩;rw [u2 j (by omega), jn (by omega)];unfold kOI;rw [jAA, jAK hj, ← jAA]
theorem On.sat (h : On W G gs gs.length gs.length 0) (hl : gs.length ≤ 2932031007317) (hs : ∀ x ∈ gs, x.fB.length ≤ 17592186043904) : SAt W (.slice (some ⟨G, 0, none⟩) gs.length C) (gs.map fun x => ⟨x.oop, x.cls, x.fmt, kMI x, .slice (some ⟨x.g, 0, none⟩) x.fB.length x.cap⟩) := by
 refine glSat kMI (fun x => by simp [kMI]) ?_ (fun i x hx => ?_) hl hs
 ·obtain ⟨cur, h1, h3⟩ := h.row;refine ⟨cur, h1, fun i x hx => ?_⟩;have hi := (jAc.1 hx).1;have := h3 i x hx
  rwa [jp hi] at this
 ·have hi := (jAc.1 hx).1;obtain ⟨cx, u1, u2⟩ := h.fB i x hx;refine ⟨cx, u1, fun j hj => ?_⟩;rw [u2 j (by omega), jp (.inl hi)];unfold kMI;rw [jAA, jAo, jp hj];rfl
theorem kNk (x y z : Int) (ov : Value) (la : List OI) (gs : List HG) (G C : Nat) (w : World) (hA : ∀ V, Fr (G :: gs.map HG.g) w V → SAt V ov la) (hk : gs.map kDS = la.map kAU) (hl0 : On w G gs 0 0 0) :
  Calls prog 79 #[.slice (some ⟨G, 0, none⟩) (la.length + 1) C, .agg #[int i64 x, int i64 y, int i64 z, ov]] w fun e w' => e = .returned (.tuple #[]) ∧ On w' G gs gs.length gs.length 0 ∧ Fr (G :: gs.map HG.g) w w' := by
 have HA := kAA hA;have ha := hA w (Fr.refl _ _);have hl := ha.short;obtain ⟨p, c, rfl, -⟩ := ha.at_;have hgl : gs.length = la.length := by have := congrArg List.length hk; simpa using this
 obtain ⟨W1, hW1⟩ := jxe (w.alloc (.cells #[int i64 x, int i64 y, int i64 z, .slice p la.length c] 82));have F1 : Hid (Fr [] w W1) := by rw [← hW1]; exact Fr.alloc [] _ _
 have hb1 : W1.heap[w.heap.size]? = some (.cells #[int i64 x, int i64 y, int i64 z, .slice p la.length c] 82 (0, 0)) := by rw [← hW1]; exact heap_alloc_new _ _
 have HL1 := kAA (hl0.fK F1.out)
 have hSl : ∀ b ∈ G :: gs.map HG.g, b < w.heap.size := fun b hb => by
  rcases jAF.1 hb with e | e
  ·obtain ⟨cur, r1, -⟩ := hl0.row;rw [e]; exact kAB r1
  ·obtain ⟨xx, h1, rfl⟩ := jAZ.1 e;obtain ⟨i, hi, he⟩ := jBP h1;obtain ⟨cx, h1, _⟩ := hl0.fB i xx (by rw [jAB hi, he]);exact kAB h1
 have HSl := kAA hSl;have HB1 := kAA hb1;have HK := kAA hk;have k0 := ng la.length;obtain ⟨bo, hbo⟩ := jxe (w.heap.size);rw [hbo] at HB1 HSl;clear ha hA hb1 hk hl0 hSl;go_enter func79, ntmps79
 go_wp2_with fail
 try rw [hW1]
 try rw [hbo]
 clear hW1 hbo
 go_loopw [4] (fun q wr => ∃ k : Nat, k ≤ la.length ∧ q = int i64 k ∧ Hid (On wr G gs k k 0 ∧ Fr (G :: gs.map HG.g) W1 wr)) (fun q _ => la.length - (intOf q).toNat)
 case atStart => exact ⟨0, jAH _, rfl, HL1.out, Fr.refl _ _⟩
 case round =>
  obtain ⟨k, hkn, rfl, hq⟩ := hrel;obtain ⟨hlf, hfr⟩ := hq.out;have b0 := (hfr.block _ (kAB HB1.out) (fun hb => by have := HSl.out _ hb; omega)).trans HB1.out;have s3 : wr.cell? ⟨bo, 3, none⟩ = some (.slice p la.length c) := by rw [kAC b0]; rfl
  have k1 := ng k;have Fw : Fr (G :: gs.map HG.g) w wr := (F1.out.mono (by simp)).trans hfr (fun b hb => .inl hb)
  by_cases hlt : k < la.length
  ·have k2 : (k : Int) < la.length := by omega
   have k3 : (k : Int) < la.length + 1 := by omega
   have hAk := HA.out _ Fw;obtain ⟨p', c', ee, hpa⟩ := hAk.at_
   injection ee with ee eeb eec
   subst ee;subst eec;clear eeb;obtain ⟨g, off, rfl, hca⟩ := hpa (by omega);obtain ⟨o, h0, x0, -, -, -⟩ := hca k hlt
   obtain ⟨xg, hxg, hkey⟩ : ∃ xg, gs[k]? = some xg ∧ kDS xg = kAU o := by
    have hh := congrArg (fun l => l[k]?) HK.out;simp only [jAQ, h0] at hh
    cases hg : gs[k]? with
    | none => rw [hg] at hh; simp at hh
    | some xg => rw [hg] at hh; simp at hh; exact ⟨xg, rfl, hh⟩
   have e1 : o.oop = xg.oop := by simp only [kDS, kAU, Prod.mk.injEq] at hkey; exact hkey.1.symm
   rw [e1] at x0;obtain ⟨cur, r1, r3⟩ := hlf.row;obtain ⟨q0, q1, q2, q3⟩ := r3 k xg hxg;have m0 : ∃ zz, wr.cell? ⟨G, k * 4, none⟩ = some (int i64 zz) := ⟨_, by rw [kAC r1]; exact q0⟩
   obtain ⟨zz, m0⟩ := m0;have fG : wr.frozen? ⟨G, k * 4, none⟩ = false := kAD r1 _;obtain ⟨V1, hV1⟩ := jxe (wr.setCell ⟨G, k * 4, none⟩ (int i64 xg.oop))
   have HL2 : Hid (On V1 G gs (k + 1) k 0 ∧ Fr (G :: gs.map HG.g) W1 V1) := by
    rw [← hV1];exact ⟨hlf.setOop hxg, hfr.trans (Fr.setCell (S := G :: gs.map HG.g) _ _ _ (by simp)) (fun b hb => .inl hb)⟩
   have hsz : xg.fB.length ≤ 17592186043904 := by
    have := (hAk.fB o (jAn h0)).short;have e4 : o.fB = xg.fB := by simp only [kDS, kAU, Prod.mk.injEq] at hkey; exact hkey.2.2.2.symm
    rw [e4] at this;exact this
   have hgm : xg.g ∈ G :: gs.map HG.g := jAr _ (jAZ.2 ⟨_, jAn hxg, rfl⟩);have hgb : g < wr.heap.size := jAf wr _ x0;have HXg := kAA hxg;clear hq hlf hfr b0 Fw hAk hpa hca h0 r1 r3 q0 q1 q2 q3 hkey e1 hxg
   go_wp2_with fail
   try rw [hV1]
   clear hV1 m0 x0 fG s3
   go_loopw [5] (fun q wv => ∃ j : Nat, j ≤ xg.fB.length ∧ q = int i64 j ∧ Hid (On wv G gs (k + 1) k j ∧ Fr (G :: gs.map HG.g) W1 wv)) (fun q _ => xg.fB.length - (intOf q).toNat)
   case atStart => exact ⟨0, jAH _, rfl, HL2.out⟩
   case round =>
    obtain ⟨j, hjn, rfl, hv⟩ := hrel;obtain ⟨hlf, hfr⟩ := hv.out;have l1 := ng j;obtain ⟨cur, r1, r3⟩ := hlf.row;have m3 : wr.cell? ⟨G, k * 4 + 3, none⟩ = some (.slice (some ⟨xg.g, 0, none⟩) xg.fB.length xg.cap) := by rw [kAC r1]; exact (r3 k _ HXg.out).2.2.2
    by_cases hjl : j < xg.fB.length
    ·have l2 : (j : Int) < xg.fB.length := by omega
     obtain ⟨cx, u1, u2⟩ := hlf.fB k _ HXg.out;have cj : ∃ zz, wr.cell? ⟨xg.g, j, none⟩ = some (int i64 zz) := ⟨_, by rw [kAC u1]; exact u2 j hjl⟩
     obtain ⟨zz, cj⟩ := cj;have fj : wr.frozen? ⟨xg.g, j, none⟩ = false := kAD u1 j;have HN : Hid (On (wr.setCell ⟨xg.g, j, none⟩ (int i64 5)) G gs (k + 1) k (j + 1) ∧ Fr (G :: gs.map HG.g) W1 (wr.setCell ⟨xg.g, j, none⟩ (int i64 5))) := ⟨hlf.setSlot HXg.out hjl, hfr.trans (Fr.setCell (S := G :: gs.map HG.g) _ _ _ hgm) (fun b hb => .inl hb)⟩;clear hv hlf hfr u1 u2 r1 r3
     go_wp2_with fail
     go_roundw
     case rel => exact ⟨j + 1, by omega, by go_num, HN.out⟩
     case measure => simp [intOf]; omega
    ·have hje : j = xg.fB.length := by omega
     subst hje;have HN : Hid (On wr G gs (k + 1) (k + 1) 0 ∧ Fr (G :: gs.map HG.g) W1 wr) := ⟨hlf.next HXg.out, hfr⟩;clear hv hlf hfr r1 r3
     go_wp2_with fail
     go_roundw
     case rel => exact ⟨k + 1, by omega, by go_num, HN.out⟩
     case measure => simp [intOf]; omega
  ·have hke : k = la.length := by omega
   subst hke
   go_wp2_with fail
   go_end0
   refine ⟨rfl, by rw [hgl]; exact hlf, (F1.out.mono (by simp)).trans hfr (fun b hb => .inl hb)⟩
end Go.Proofs.YtflgicdbbogllaaGreatDoor
