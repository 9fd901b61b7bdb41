import Derived.Test.YtflgicdbbogllaaGreatDoorPG17HRefO
set_option maxHeartbeats 8000000
set_option maxRecDepth 20000
set_option linter.unusedSimpArgs false
set_option linter.unusedVariables false
namespace Go.Proofs.YtflgicdbbogllaaGreatDoor
open Go.RowKit Tryz
open Value (int)
open IntKind (i64)
attribute [local go_sem ↓] wp_at_zero wp_at_succ
theorem RRep.more {V w7 V' : World} {B r C : Nat} {R : RS} {o : RO} {v7 : Value} (h : RRep V B r R) (ho : V.ownsRow C 41 1 o.v o.fB.length (o.fB.map (int i64))) (hC : B ≤ C)
  (hg : (V.alloc (.cells (ro6 o).toArray 143)).grownBy w7 R.ov.ownBlock) (hown : w7.ownsRow B 143 6 v7 (R.fE.length + 1) (kAH R.fE ++ ro6 o)) (hv7 : ∀ b, v7.ownBlock = some b → b ≠ r) (he : Eqw (w7.setCell ⟨r, 5, none⟩ v7) V') :
  RRep V' B r { R with fE := R.fE ++ [o], ov := v7 } ∧ Fr (r :: R.ov.ownBlock.toList) V V' := by
 have hrl := kAB h.top
 have hsame : ∀ i, i < V.heap.size → some i ≠ R.ov.ownBlock → w7.heap[i]? = V.heap[i]? := fun i hi hn => by
  rw [hg.block i (by simp; omega) hn];exact jAN _ _ _ hi
 have hV : ∀ i, i ≠ r → V'.heap[i]? = w7.heap[i]? := fun i hi => by rw [he.2.2.2, kAK hi]
 have htop : w7.heap[r]? = some (.cells (kDh R) 99 (0, 0)) := (hsame r hrl (fun e => h.ne111 h.row (by decide) r e.symm rfl)).trans h.top
 have hsl : ∀ (x : RO), V.ownsRow B 41 1 x.v x.fB.length (x.fB.map (int i64)) → V'.ownsRow B 41 1 x.v x.fB.length (x.fB.map (int i64)) := fun x hx => by
  refine kAE hx fun g hg3 => ?_
  rw [hV g (h.ne111 hx (by decide) g hg3)];refine hsame g (hx.lt g hg3).2 (fun e => ?_);obtain ⟨c1, h1⟩ := kAw hx hg3;obtain ⟨c2, h2⟩ := kAw h.row e.symm;rw [h1] at h2
  simp at h2
 refine ⟨⟨h.lo, ?_, ?_, fun x hx => ?_⟩, ?_⟩
 ·rw [he.2.2.2, kAI htop 5 _];rfl
 ·show V'.ownsRow B 143 6 v7 (R.fE ++ [o]).length (kAH (R.fE ++ [o]));rw [jAG, kBs];exact kAE hown fun g hg3 => hV g (hv7 g hg3)
 ·rcases jAC.1 hx with h1 | h1
  ·exact hsl x (h.fB x h1)
  ·rw [show x = o from by simpa using h1];exact hsl o (kAV ho hC)
 ·have F1 : Fr (r :: R.ov.ownBlock.toList) V w7 := by
   refine ⟨hg.os, hg.tape, hg.output, jAU (by simp) hg.size, fun i hi hn => hsame i hi (fun e => hn ?_)⟩;rw [← e]
   simp
  exact (F1.trans (Fr.setCell (S := r :: R.ov.ownBlock.toList) w7 ⟨r, 5, none⟩ v7 (by simp)) (fun b hb => .inl hb)).trans (he.fr _) (fun b hb => .inl hb)
theorem kGK {w V : World} {o : Obj} (h : Hid (Fr [] w V)) : Hid (Fr [] w (V.alloc o)) := h.out.trans (Fr.alloc [] V o) (by simp)
theorem kIB (X : Int) (n f : Nat) (B0 r : Nat) (R : RS) (w : World) (h : AlR X n f B0 r R w) (h1 : R.fE.length < R.fM) (h2 : rEnd R.fE + lenN n f ≤ R.fH) (hm : R.mark ≠ 1) (M : MS) (hd : Doc M R) (hlen : M.fA.length ≤ 65538) (hmk : (R.mark : Int) ≤ 1073741824) (hbn : R.fL ≤ 1000000000000) : Calls prog 48 #[.pointer (some ⟨r, 0, none⟩), int i64 X, int i64 n, int i64 f] w fun e w' => e = .returned (.tuple #[int i64 (kAf M.fA : Int), int i64 0]) ∧ ∃ v ov, RRep w' B0 r { R with mark := R.mark - 1, fL := R.fL + 1, fE := R.fE ++ [⟨kAf M.fA, f, rEnd R.fE, R.fL, X, List.replicate n (newX f), v⟩], ov := ov } ∧ Fr (r :: R.ov.ownBlock.toList) w w' ∧ (∀ g, v.ownBlock = some g → w.heap.size ≤ g) ∧ (∀ g, ov.ownBlock = some g → R.ov.ownBlock = some g ∨ w.heap.size ≤ g) := by
 have HK := kAA (kBY X)
 have hkx : (kAJ X == 0) = false := by
  have h2 : (kAJ X != 0) = true := h.w_;have : kAJ X ≠ 0 := by simpa using h2
  simpa using this
 generalize kAJ X = kx at *;have k1 := ng f;have k2 : (f : Int) ≤ 1 := by have := h.f_; omega
 have k3 := ng n;have k4 := h.n_;have k5 := h.fH;have k6 := h.fM;have k7 := h.fin;have k8 := h.ok.len;obtain ⟨po, co, hov⟩ := h.rep.ovIs;have hL2 : (lenN n f : Int) ≤ 10000 := by unfold lenN; split <;> omega
 have HLen : Hid (∀ V, Calls prog 86 #[int i64 n, int i64 f] V fun e w' => e = .returned (int i64 ((lenN n f : Nat) : Int)) ∧ w' = V) := fun V => kBr n f V (by omega)
 have HEnd : Hid (∀ V, Hid (Fr [] w V) → Calls prog 99 #[.pointer (some ⟨r, 0, none⟩)] V fun e w' => e = .returned (int i64 (rEnd R.fE : Nat)) ∧ Hid (Fr [] w w')) := fun V hV => Calls.mono (kCM B0 r R V (h.rep.fK hV.out) h.ok) (by rintro e w' ⟨rfl, hf⟩; exact ⟨rfl, hV.out.trans hf (by simp)⟩)
 have KS : Hid (∀ V, Hid (Fr [] w V) → V.cell? ⟨r, 5, none⟩ = some (.slice po R.fE.length co) ∧ V.cell? ⟨r, 1, none⟩ = some (int i64 R.fM) ∧ V.cell? ⟨r, 0, none⟩ = some (int i64 R.fH) ∧ Hid (Fr [] w V)) := fun V hV => by
  have h1 := h.rep.fK hV.out;exact ⟨by rw [h1.c, ← hov]; rfl, by rw [h1.c]; rfl, by rw [h1.c]; rfl, hV⟩
 have F1 : Hid (Fr [] w w) := Fr.refl _ _;obtain ⟨c5, c1, c0, -⟩ := KS.out w F1;have HR := kAA h.rep;have hx : (R.fE.length : Int) < R.fM := by omega
 have hx2 : (rEnd R.fE : Int) + (lenN n f : Int) ≤ (R.fH : Int) := by omega
 have HOk := kAA h.ok;have HD := kAA hd;have hlow := kDH M.fA;have hrl := kAB h.rep.top;clear h h1 h2 hd;generalize hEN : rEnd R.fE = EN at *;generalize lenN n f = L at *;have zw : IntKind.i64.wrap ((EN : Int) + (L : Int)) = (EN : Int) + (L : Int) := by rw [kBp]; unfold wrap64; omega
 have hdec : decide (R.fM ≤ R.fE.length) = false := decide_eq_false (by omega);go_enter func48, ntmps48
 go_wp2_with (go_at_call 98; refine Calls.mono (HK.out _) ?_; rintro e w1 ⟨rfl, hw1⟩; rw [hw1]; clear hw1 w1)
 go_region_held3 (fun w' => w'.cell? ⟨r, 5, none⟩ = some (.slice po R.fE.length co) ∧ w'.cell? ⟨r, 1, none⟩ = some (int i64 R.fM) ∧ w'.cell? ⟨r, 0, none⟩ = some (int i64 R.fH) ∧ Hid (Fr [] w w')) (exact KS.out _ (by first | assumption | exact kAF (by assumption) | (go_split_ands; first | assumption | exact kAF (by assumption))))
  (first | (go_at_call 99; refine (HEnd.out _ (by first | assumption | exact kAF (by assumption) | (go_split_ands; first | assumption | exact kAF (by assumption)))).mono ?_; rintro e w' ⟨rfl, hf'⟩) | (go_at_call 86; refine (HLen.out _).mono ?_; rintro e w' ⟨rfl, rfl⟩))
 have F2 : Hid (Fr [] w w') := by assumption
 generalize w' = W1 at *;have hR1 := HR.out.fK F2.out;have c2 : W1.cell? ⟨r, 2, none⟩ = some (int i64 R.mark) := by rw [hR1.c]; rfl
 have f2 := kAD hR1.top 2
 have hm2 : ((R.mark : Int) == 1) = false := by
  have : (R.mark : Int) ≠ 1 := by omega
  simpa using this
 have hcase : ((R.mark : Int) ≤ 0 ∧ RRep W1 B0 r { R with mark := R.mark - 1 }) ∨ 0 < (R.mark : Int) := by
  by_cases e : R.mark = 0
  ·left
   refine ⟨by omega, ?_⟩;have e2 : ({ R with mark := R.mark - 1 } : RS) = R := by cases R; simp only at e; subst e; rfl
   rw [e2];exact hR1
  ·right; omega
 have HW : Hid (∀ W2, RRep W2 B0 r { R with mark := R.mark - 1 } → Fr [r] w W2 → W2.cell? ⟨r, 3, none⟩ = some (int i64 R.fL) ∧ True) := fun W2 h1 _ => ⟨by rw [h1.c]; rfl, trivial⟩
 have HR1 := kAA hR1;clear hR1 KS HEnd HLen F1 c5 c1 c0;rcases hcase with ⟨hc0, hc1⟩ | hc0
 case' inl =>
  have HA2 : Hid (RRep W1 B0 r { R with mark := R.mark - 1 } ∧ Fr [r] w W1) := ⟨hc1, F2.out.mono (by simp)⟩;clear hc1
  go_upto_region 14 with (fail)
  generalize W1 = W2 at *
 case' inr =>
  have wz : IntKind.i64.wrap ((R.mark : Int) - 1) = ((R.mark - 1 : Nat) : Int) := by rw [kBp]; unfold wrap64; omega
  have HA2 : Hid (RRep (W1.setCell ⟨r, 2, none⟩ (int i64 ((R.mark - 1 : Nat) : Int))) B0 r { R with mark := R.mark - 1 } ∧ Fr [r] w (W1.setCell ⟨r, 2, none⟩ (int i64 ((R.mark - 1 : Nat) : Int)))) := ⟨HR1.out.setTop 2 (R.mark - 1) _ rfl rfl rfl, (F2.out.mono (by simp)).trans (Fr.setCell (S := [r]) _ _ _ (by simp)) (by simp)⟩
  go_upto_region 14 with (fail)
  generalize W1.setCell ⟨r, 2, none⟩ (int i64 ((R.mark - 1 : Nat) : Int)) = W2 at *
 all_goals
  clear HW HR1 F2 c2 f2;obtain ⟨hR2, hF2⟩ := HA2.out;have hD2 : Doc { M with mark := R.mark - 1 } { R with mark := R.mark - 1 } := HD.out.setMark _;have HLow : Hid (∀ V, Hid (Fr [] W2 V) → Calls prog 100 #[.pointer (some ⟨r, 0, none⟩)] V fun e w' => ∃ v, e = .returned v ∧ (v = int i64 (kAf M.fA : Int) ∧ w' = V)) := fun V hV => Calls.mono (kIt { M with mark := R.mark - 1 } B0 r _ V (hR2.fK hV.out) k8 hD2 hlen) (by rintro e w' ⟨rfl, rfl⟩; exact ⟨_, rfl, rfl, rfl⟩)
  have HEnd : Hid (∀ V, Hid (Fr [] W2 V) → Calls prog 99 #[.pointer (some ⟨r, 0, none⟩)] V fun e w' => ∃ v, e = .returned v ∧ (v = int i64 EN ∧ Hid (Fr [] W2 w') ∧ Hid (Fr [] V w'))) := fun V hV => Calls.mono (kCM B0 r _ V (hR2.fK hV.out) ⟨HOk.out.len, HOk.out.fJ⟩) (by rintro e w' ⟨rfl, hf⟩; exact ⟨_, rfl, by rw [← hEN], hV.out.trans hf (by simp), hf⟩)
  have KS : Hid (∀ V, Hid (Fr [] W2 V) → V.cell? ⟨r, 3, none⟩ = some (int i64 R.fL) ∧ Hid (Fr [] W2 V)) := fun V hV => ⟨by rw [(hR2.fK hV.out).c]; rfl, hV⟩
  have G1 : Hid (Fr [] W2 W2) := Fr.refl _ _;have c3 := (KS.out W2 G1).1;have hrl2 : r < W2.heap.size := kAB hR2.top;clear hR2 hF2 hD2;generalize hlw : kAf M.fA = low at *
  have HWa : Hid (∀ w5 : World, Hid (Fr [] W2 w5) → Hid (w5.heap[W2.heap.size]? = some (.cells #[int i64 0, int i64 0, int i64 0, int i64 0, int i64 0, .slice none 0 0] 143 (0, 0))) → WayR W2 ((((((w5.setCell ⟨W2.heap.size, 0, none⟩ (int i64 low)).setCell ⟨W2.heap.size, 1, none⟩ (int i64 f)).setCell ⟨W2.heap.size, 2, none⟩ (int i64 EN)).setCell ⟨W2.heap.size, 3, none⟩ (int i64 R.fL)).setCell ⟨W2.heap.size, 4, none⟩ (int i64 X)).setCell ⟨W2.heap.size, 5, none⟩ (.slice none 0 0)) W2.heap.size low f EN R.fL X 0) := by
   intro w5 h5 hb;refine ⟨?_, jAD _, .slice none 0 0, ?_, jAS _ _ _ _⟩
   ·have hs : ∀ (V : World) (i : Nat) (v : Value), Fr [] W2 V → Fr [] W2 (V.setCell ⟨W2.heap.size, i, none⟩ v) := fun V i v hV => hV.trans (Fr.setCell (S := [W2.heap.size]) _ _ _ (by simp)) (fun b hb => by simp at hb; subst hb; right; exact jAD _)
    exact hs _ _ _ (hs _ _ _ (hs _ _ _ (hs _ _ _ (hs _ _ _ (hs _ _ _ h5.out)))))
   ·rw [kAI (kAI (kAI (kAI (kAI (kAI hb.out 0 _) 1 _) 2 _) 3 _) 4 _) 5 _];rfl
  have HWb : Hid (∀ w5 : World, Hid (Fr [] W2 w5) → WayR W2 (w5.alloc (.cells #[int i64 low, int i64 f, int i64 EN, int i64 R.fL, int i64 X, .slice none 0 0] 143)) w5.heap.size low f EN R.fL X 0) :=
   fun w5 h5 => ⟨h5.out.trans (Fr.alloc [] _ _) (by simp), h5.out.size, .slice none 0 0, heap_alloc_new _ _, jAS _ _ _ _⟩
  have HZ : Hid (∀ w5 : World, Hid (Fr [] (W2.drew.alloc (.cells #[int i64 0, int i64 0, int i64 0, int i64 0, int i64 0, .slice none 0 0] 143)) w5) → w5.heap[W2.heap.size]? = some (.cells #[int i64 0, int i64 0, int i64 0, int i64 0, int i64 0, .slice none 0 0] 143 (0, 0))) := fun w5 h5 => (h5.out.block W2.heap.size (by simp) (by simp)).trans (heap_alloc_new W2.drew _)
  have HZ2 : Hid (∀ w5 : World, Hid (Fr [] (W2.alloc (.cells #[int i64 0, int i64 0, int i64 0, int i64 0, int i64 0, .slice none 0 0] 143)) w5) → w5.heap[W2.heap.size]? = some (.cells #[int i64 0, int i64 0, int i64 0, int i64 0, int i64 0, .slice none 0 0] 143 (0, 0))) := fun w5 h5 => (h5.out.block W2.heap.size (by simp) (by simp)).trans (heap_alloc_new W2 _)
  have HZ3 : Hid (∀ w5 : World, Hid (Fr [] (W2.alloc (.cells #[int i64 0, int i64 0, int i64 0, int i64 0, int i64 0, .slice none 0 0] 143)).drew w5) → w5.heap[W2.heap.size]? = some (.cells #[int i64 0, int i64 0, int i64 0, int i64 0, int i64 0, .slice none 0 0] 143 (0, 0))) := fun w5 h5 => (h5.out.block W2.heap.size (by simp) (by simp)).trans (heap_alloc_new W2 _)
  go_cut [10] (fun q V => ∃ B10 : Nat, q = .pointer (some ⟨B10, 0, none⟩) ∧ Hid (WayR W2 V B10 low f EN R.fL X 0))
  case first =>
   go_region_law
    (first | (refine kCp rfl 99 Tryz.f99 func99 (by kernel_rfl) (by kernel_rfl) _ _ rfl _ (by simp [Act.eval, Act.put]) _ (HEnd.out _ (by repeat (first | with_reducible exact G1 | with_reducible assumption | with_reducible apply kAF | with_reducible apply kGK))) ?_; rintro _ w5 ⟨rfl, hf5, hfv⟩; have c35 := (KS.out w5 hf5).1; have hz5 : r < w5.heap.size := jAb hrl2 hf5.out.size; (try (have hb5 : w5.heap[W2.heap.size]? = some (.cells #[int i64 0, int i64 0, int i64 0, int i64 0, int i64 0, .slice none 0 0] 143 (0, 0)) := (by first | with_reducible exact HZ.out _ hfv | with_reducible exact HZ2.out _ hfv | with_reducible exact HZ3.out _ hfv); have e0 : w5.cell? ⟨W2.heap.size, 0, none⟩ = some (int i64 0) := (by rw [kAC hb5]; rfl); have e1 : w5.cell? ⟨W2.heap.size, 1, none⟩ = some (int i64 0) := (by rw [kAC hb5]; rfl); have e2 : w5.cell? ⟨W2.heap.size, 2, none⟩ = some (int i64 0) := (by rw [kAC hb5]; rfl); have e3 : w5.cell? ⟨W2.heap.size, 3, none⟩ = some (int i64 0) := (by rw [kAC hb5]; rfl); have e4 : w5.cell? ⟨W2.heap.size, 4, none⟩ = some (int i64 0) := (by rw [kAC hb5]; rfl); have e5 : w5.cell? ⟨W2.heap.size, 5, none⟩ = some (.slice none 0 0) := (by rw [kAC hb5]; rfl); have y0 := kAD hb5 0; have y1 := kAD hb5 1; have y2 := kAD hb5 2; have y3 := kAD hb5 3; have y4 := kAD hb5 4; have y5 := kAD hb5 5; have HB5 := kAA hb5; clear hb5))) | (refine kCp rfl 100 Tryz.f100 func100 (by kernel_rfl) (by kernel_rfl) _ _ rfl _ (by simp [Act.eval, Act.put]) _ (HLow.out _ (by repeat (first | with_reducible exact G1 | with_reducible assumption | with_reducible apply kAF | with_reducible apply kGK))) ?_; rintro _ w5 ⟨rfl, rfl⟩))
   all_goals go_wp2_with fail
   all_goals
    go_meet
    case rel =>
     first
      | (with_reducible exact ⟨_, rfl, kAA (HWb.out w5 hf5)⟩)
      | (with_reducible exact ⟨_, rfl, kAA (HWa.out w5 hf5 HB5)⟩)
  case rest =>
   obtain ⟨B10, rfl, hway⟩ := hcut;obtain ⟨j0, ji, jz0, jz1, jz2⟩ := info_parts kCx;clear HWa HWb HZ HZ2 HZ3 HLow HEnd KS G1 c3;have kn : (n : Int) ≤ 8192 := k4
   go_wp2_with fail
   go_loopw [11] (fun q wr => ∃ k : Nat, k ≤ n ∧ q = int i64 k ∧ Hid (WayR W2 wr B10 low f EN R.fL X k)) (fun q _ => n - (intOf q).toNat)
   case atStart => exact ⟨0, jAH _, rfl, hway⟩
   case round =>
    clear hway;obtain ⟨k, hkn, rfl, hw⟩ := hrel
    by_cases hlt : k < n
    ·have kk2 : (k : Int) < n := by omega
     obtain ⟨v, hv, hown⟩ := hw.out.at_;have hBl := kAB hv;have d5 : wr.cell? ⟨B10, 5, none⟩ = some v := by unfold kEu at hv; rw [kAC hv]; rfl
     rcases (show f = 1 ∨ f = 0 from by omega) with hfe | hfe
     ·have hfb : ((f : Int) == 1) = true := by rw [hfe]; rfl
      have HX : Hid (newX f = 0) := by rw [hfe]; rfl
      clear hfe;have hown2 := hown.alloc (.cells #[int i64 0] 41);have HN := kAA (fun w2 v' (hg : (wr.alloc (.cells #[int i64 0] 41)).grownBy w2 v.ownBlock) => hw.out.next (v' := v') hv hown hg);have hBo : ∀ b, v.ownBlock = some b → B10 + 1 ≤ b := fun b hb => (hown.lt b hb).1
      have HV := kAA hv;clear hown hv hw
      go_wp2_with (first | (at_builtin; refine wpList_append_own _ rfl (.tmp 95) (.tmp 97) 35 rfl (B10 + 1) 41 j0 (int i64 0) 1 8 underlying35 ji jz0 jz1 jz2 rfl (by decide) _ _ _ rfl hown2 ⟨wr.heap.size, 0, none⟩ 1 1 [int i64 0] rfl rfl ?c1 ?c2 ?c3 ?c4 ?c5 ?_) | go_in)
      case c1 => exact World.news_of_block (heap_alloc_new wr (.cells #[int i64 0] 41))
      case c2 => intro u hu; simp at hu; subst hu; rfl
      case c3 => unfold maxLen; omega
      case c4 => omega
      case c5 => simp; omega
      intro v' w2 hown' hgrow _
      have hB2 : w2.heap[B10]? = some (kEu low f EN R.fL X v) := by
       rw [hgrow.block _ (by simp; omega) (fun e => by have := hBo _ e.symm; omega), jAN _ _ _ hBl];exact HV.out
      unfold kEu at hB2;have fz := kAD hB2 5;have cz := kAC hB2 5
      simp at cz
      have HNx := kAA (HN.out w2 v' hgrow (by have hx := hown'; have e := HX.out; rw [e] at hx ⊢; simpa using hx));obtain ⟨gv, cv, hv', _, _⟩ := hown'.form (by omega);subst hv';clear hown' hgrow hown2 HN hB2 HV hBo
      go_wp2
      go_roundw
      case rel => exact ⟨k + 1, by omega, by go_num, HNx⟩
      case measure => simp [intOf]; omega
     ·have hfb : ((f : Int) == 1) = false := by rw [hfe]; rfl
      have HX : Hid (newX f = 4) := by rw [hfe]; rfl
      clear hfe;have hown2 := hown.alloc (.cells #[int i64 4] 41);have HN := kAA (fun w2 v' (hg : (wr.alloc (.cells #[int i64 4] 41)).grownBy w2 v.ownBlock) => hw.out.next (v' := v') hv hown hg);have hBo : ∀ b, v.ownBlock = some b → B10 + 1 ≤ b := fun b hb => (hown.lt b hb).1
      have HV := kAA hv;clear hown hv hw
      go_wp2_with (first | (at_builtin; refine wpList_append_own _ rfl (.tmp 95) (.tmp 97) 35 rfl (B10 + 1) 41 j0 (int i64 0) 1 8 underlying35 ji jz0 jz1 jz2 rfl (by decide) _ _ _ rfl hown2 ⟨wr.heap.size, 0, none⟩ 1 1 [int i64 4] rfl rfl ?c1 ?c2 ?c3 ?c4 ?c5 ?_) | go_in)
      case c1 => exact World.news_of_block (heap_alloc_new wr (.cells #[int i64 4] 41))
      case c2 => intro u hu; simp at hu; subst hu; rfl
      case c3 => unfold maxLen; omega
      case c4 => omega
      case c5 => simp; omega
      intro v' w2 hown' hgrow _
      have hB2 : w2.heap[B10]? = some (kEu low f EN R.fL X v) := by
       rw [hgrow.block _ (by simp; omega) (fun e => by have := hBo _ e.symm; omega), jAN _ _ _ hBl];exact HV.out
      unfold kEu at hB2;have fz := kAD hB2 5;have cz := kAC hB2 5
      simp at cz
      have HNx := kAA (HN.out w2 v' hgrow (by have hx := hown'; have e := HX.out; rw [e] at hx ⊢; simpa using hx));obtain ⟨gv, cv, hv', _, _⟩ := hown'.form (by omega);subst hv';clear hown' hgrow hown2 HN hB2 HV hBo
      go_wp2
      go_roundw
      case rel => exact ⟨k + 1, by omega, by go_num, HNx⟩
      case measure => simp [intOf]; omega
    ·have hke : k = n := by omega
     subst hke;obtain ⟨v, hv, hown⟩ := hw.out.at_;obtain ⟨p, c, hvs⟩ := kAv hown;subst hvs;obtain ⟨hR2, hF2⟩ := HA2.out;have hmr := hR2.fK hw.out.fr;have hz2 := hF2.size;have hzr := hw.out.fr.size;have hBl := kAB hv;have hWB := hw.out.lt;have c3 : wr.cell? ⟨r, 3, none⟩ = some (int i64 R.fL) := by rw [hmr.c]; rfl
     have f3 := kAD hmr.top 3;have wb : IntKind.i64.wrap ((R.fL : Int) + 1) = (R.fL : Int) + 1 := by rw [kBp]; unfold wrap64; omega
     have eb : ((R.fL + 1 : Nat) : Int) = (R.fL : Int) + 1 := by omega
     have hR3 : RRep (wr.setCell ⟨r, 3, none⟩ (int i64 ((R.fL + 1 : Nat) : Int))) B0 r { R with mark := R.mark - 1, fL := R.fL + 1 } := hmr.setTop 3 (R.fL + 1) _ rfl rfl rfl;have hF3 : Fr [r] w (wr.setCell ⟨r, 3, none⟩ (int i64 ((R.fL + 1 : Nat) : Int))) := ((hF2.trans hw.out.fr (by simp)).trans (Fr.setCell (S := [r]) _ _ _ (by simp)) (fun b hb => .inl hb));have hBr : B10 ≠ r := by omega
     have hv3 : (wr.setCell ⟨r, 3, none⟩ (int i64 ((R.fL + 1 : Nat) : Int))).heap[B10]? = some (kEu low f EN R.fL X (.slice p k c)) := by rw [kAK hBr]; exact hv
     have hown3 : (wr.setCell ⟨r, 3, none⟩ (int i64 ((R.fL + 1 : Nat) : Int))).ownsRow (B10 + 1) 41 1 (.slice p k c) k ((List.replicate k (newX f)).map (int i64)) := kAE hown fun b hb => kAK (by have := (hown.lt b hb).1; omega)
     have hrowlt : ∀ b, (Value.slice po R.fE.length co).ownBlock = some b → b < W2.heap.size := fun b hb => (hR2.row.lt b (by show R.ov.ownBlock = some b; rw [hov]; exact hb)).2
     rw [eb] at hR3 hF3 hv3 hown3;have HP := kAA (And.intro hR3 (And.intro hF3 (And.intro hv3 hown3)));clear hR3 hF3 hv3 hown3 hown hv hw hmr hR2 hF2
     go_upto_region 23 with (fail)
     generalize wr.setCell ⟨r, 3, none⟩ (int i64 ((R.fL : Int) + 1)) = V1 at *;clear c3 f3;obtain ⟨hR3, hF3, hv3, hown3⟩ := HP.out;have hr3l := kAB hR3.top;have hB3l := kAB hv3;have c5 : V1.cell? ⟨r, 5, none⟩ = some (.slice po R.fE.length co) := by rw [hR3.c, ← hov]; rfl
     have hv4 := hv3;unfold kEu at hv4;have b0 : V1.cell? ⟨B10, 0, none⟩ = some (int i64 low) := by rw [kAC hv4]; rfl
     have b1 : V1.cell? ⟨B10, 1, none⟩ = some (int i64 f) := by rw [kAC hv4]; rfl
     have b2 : V1.cell? ⟨B10, 2, none⟩ = some (int i64 EN) := by rw [kAC hv4]; rfl
     have b3 : V1.cell? ⟨B10, 3, none⟩ = some (int i64 R.fL) := by rw [kAC hv4]; rfl
     have b4 : V1.cell? ⟨B10, 4, none⟩ = some (int i64 X) := by rw [kAC hv4]; rfl
     have b5 : V1.cell? ⟨B10, 5, none⟩ = some (.slice p k c) := by rw [kAC hv4]; rfl
     obtain ⟨i0, hi, hi0, hi1, hi2⟩ := info_parts kHm
     have hrow3 : V1.drew.ownsRow B0 143 6 (.slice po R.fE.length co) R.fE.length (kAH R.fE) := by
      have := hR3.row;rw [show ({ R with mark := R.mark - 1, fL := R.fL + 1 } : RS).ov = .slice po R.fE.length co from hov] at this;exact kAE this fun _ _ => rfl
     have HRow := kAA (hrow3.alloc (.cells #[int i64 low, int i64 f, int i64 EN, int i64 R.fL, int i64 X, .slice p k c] 143));have HNews := kAA (World.news_of_block (heap_alloc_new V1.drew (.cells #[int i64 low, int i64 f, int i64 EN, int i64 R.fL, int i64 X, .slice p k c] 143)));have hlo3 := hR3.lo
     have hsmall : ∀ b, (Value.slice po R.fE.length co).ownBlock = some b → b ≠ r ∧ b ≠ B10 := fun b hb => by
      have h1 := hrowlt b hb;refine ⟨hR3.ne111 (by have := hR3.row; rw [show ({ R with mark := R.mark - 1, fL := R.fL + 1 } : RS).ov = .slice po R.fE.length co from hov] at this; exact this) (by decide) b hb, by omega⟩
     have KF : Hid (∀ w2, (V1.drew.alloc (.cells #[int i64 low, int i64 f, int i64 EN, int i64 R.fL, int i64 X, .slice p k c] 143)).grownBy w2 (Value.slice po R.fE.length co).ownBlock → w2.frozen? ⟨r, 5, none⟩ = false ∧ w2.cell? ⟨r, 5, none⟩ = some (.slice po R.fE.length co) ∧ w2.cell? ⟨B10, 0, none⟩ = some (int i64 low)) := by
      intro w2 hg
      have er : w2.heap[r]? = V1.heap[r]? := by
       rw [hg.block r (by simp; omega) (fun e => (hsmall r e.symm).1 rfl)];exact jAN _ _ _ hr3l
      have eB : w2.heap[B10]? = V1.heap[B10]? := by
       rw [hg.block B10 (by simp; omega) (fun e => (hsmall B10 e.symm).2 rfl)];exact jAN _ _ _ hB3l
      exact ⟨kAD (er.trans hR3.top) 5, (jBa (w := V1) (a := ⟨r, 5, none⟩) er).trans c5, (jBa (w := V1) (a := ⟨B10, 0, none⟩) eB).trans b0⟩
     have HFin : Hid (∀ g2 cap w2, w2.ownsRow B0 143 6 (.slice (some ⟨g2, 0, none⟩) (R.fE.length + 1) cap) (R.fE.length + 1) (kAH R.fE ++ [int i64 low, int i64 f, int i64 EN, int i64 R.fL, int i64 X, .slice p k c]) → (V1.drew.alloc (.cells #[int i64 low, int i64 f, int i64 EN, int i64 R.fL, int i64 X, .slice p k c] 143)).grownBy w2 (Value.slice po R.fE.length co).ownBlock → ((Value.slice po R.fE.length co).ownBlock = some g2 ∨ g2 = (V1.drew.alloc (.cells #[int i64 low, int i64 f, int i64 EN, int i64 R.fL, int i64 X, .slice p k c] 143)).heap.size) →
       ∃ v ov, RRep (w2.setCell ⟨r, 5, none⟩ (.slice (some ⟨g2, 0, none⟩) (R.fE.length + 1) cap)) B0 r { R with mark := R.mark - 1, fL := R.fL + 1, fE := R.fE ++ [⟨low, f, EN, R.fL, X, List.replicate k (newX f), v⟩], ov := ov } ∧ Fr (r :: R.ov.ownBlock.toList) w (w2.setCell ⟨r, 5, none⟩ (.slice (some ⟨g2, 0, none⟩) (R.fE.length + 1) cap)) ∧ (∀ g, v.ownBlock = some g → w.heap.size ≤ g) ∧ (∀ g, ov.ownBlock = some g → R.ov.ownBlock = some g ∨ w.heap.size ≤ g)) := by
      intro g2 cap w2 hown2 hgrow hat;have hz3 := hF3.size;have hsz : (V1.drew.alloc (.cells #[int i64 low, int i64 f, int i64 EN, int i64 R.fL, int i64 X, .slice p k c] 143)).heap.size = V1.heap.size + 1 := by simp
      rw [hsz] at hat;have hR3d : RRep V1.drew B0 r { R with mark := R.mark - 1, fL := R.fL + 1 } := hR3.fK (Fr.drew [] _);have hob : ({ R with mark := R.mark - 1, fL := R.fL + 1 } : RS).ov.ownBlock = (Value.slice po R.fE.length co).ownBlock := by show R.ov.ownBlock = _; rw [hov]
      obtain ⟨m1, m2⟩ := hR3d.more (V' := w2.setCell ⟨r, 5, none⟩ (.slice (some ⟨g2, 0, none⟩) (R.fE.length + 1) cap)) (C := B10 + 1) (o := ⟨low, f, EN, R.fL, X, List.replicate k (newX f), .slice p k c⟩) (v7 := .slice (some ⟨g2, 0, none⟩) (R.fE.length + 1) cap) (w7 := w2)
       (by show V1.drew.ownsRow (B10 + 1) 41 1 (.slice p k c) (List.replicate k (newX f)).length _; rw [jAY]; exact kAE hown3 fun _ _ => rfl) (by omega)
       (by rw [hob]; exact hgrow) hown2 (fun b hb => by
        have e : b = g2 := by simpa [Value.ownBlock] using hb.symm
        rw [e];rcases hat with h1 | h1
        ·exact (hsmall g2 h1).1
        ·omega) ⟨rfl, rfl, rfl, rfl⟩
      refine ⟨_, _, m1, ((hF3.trans (Fr.drew [r] _) (fun b hb => .inl hb)).mono (fun b hb => .inl ?_)).trans m2 (fun b hb => .inl hb), fun g hg => ?_, fun g hg => ?_⟩
      ·simp at hb; rw [hb]; simp
      ·have := (hown3.lt g hg).1; omega
      ·have e : g = g2 := by simpa [Value.ownBlock] using hg.symm
       rw [e, hov];rcases hat with h1 | h1
       ·exact .inl h1
       ·exact .inr (by omega)
     have hBn : r ≠ B10 := fun e => hBr e.symm
     clear hR3 hF3 hv3 hv4 hown3 HP hrow3 hsmall hrowlt
     go_region_law
      (refine step_append_lies _ rfl (.tmp 112) (.tmp 114) 97 rfl B0 143 i0 (.agg #[int i64 0, int i64 0, int i64 0, int i64 0, int i64 0, .slice none 0 0]) 6 64 underlying97 hi hi0 hi1 hi2 rfl (by decide) (.slice po R.fE.length co) R.fE.length (kAH R.fE) (by simp [Act.eval]) HRow.out ⟨V1.heap.size, 0, none⟩ 1 1 [int i64 low, int i64 f, int i64 EN, int i64 R.fL, int i64 X, .slice p k c] (by simp [Act.eval]) rfl HNews.out (by simp [Value.oneCell']) (by decide) (by unfold maxLen; omega) (by omega) (by simp; omega) _ rfl ?_; intro g2 cap w2 hown2 hgrow hat hlt2; obtain ⟨fz3, cz3, bz0⟩ := KF.out _ hgrow)
     all_goals go_wp2_with fail
     all_goals
      go_ret2
      have h9 := HFin.out g2 cap w2 hown2 hgrow hat;rw [hov] at h9;exact ⟨rfl, h9⟩
end Go.Proofs.YtflgicdbbogllaaGreatDoor
