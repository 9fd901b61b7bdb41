import Derived.Test.YtflgicdbbogllaaGreatDoorPHRefL
import Derived.RangeFuncNested
import Derived.RangeFuncBound
import Derived.RangeFuncCalls
import Derived.RangeFuncLeaves
import Derived.Shelf.Abstract
import Derived.Shelf.RegionOpen
import Derived.OwnWalkIn
import Derived.TacticsInMore
import Derived.LoopNIn
import Derived.LoopIn
set_option maxHeartbeats 2000000
set_option maxRecDepth 100000
set_option linter.unusedSimpArgs false
set_option linter.unusedVariables false
namespace Go.Proofs.YtflgicdbbogllaaGreatDoor
open Go.RowKit Tryz
open Value (int)
open IntKind (i64)
attribute [local go_sem ↓] wp_at_zero wp_at_succ
variable {H H' : HS} {M : MS} {R R' : RS} {b : Bool} {n : Nat}
def kCh (M : MS) : MS := { M with fA := kBc M.fA 0 (kAG M.fA M.fA.length) }
theorem kJf (h : Inv H M) : kBO (kBS H) (kCh M) = kBO H M ∧ kAa (kBS H) = kAa H := by
 have h1 := (h.toInvV.slide).toInvV.srt;have h2 := (kII M.fA (kAa H) h.toInvV.srt).1;have e : kAa (kBS H) = kAa H := h1.one h2;refine ⟨?_, e⟩;unfold kBO;rw [e]
 congr 1
 refine jBJ fun x _ => ?_
 obtain ⟨a1, a2, a3, a4, a5, a6⟩ := (kDU (kAG M.fA M.fA.length) M.fA 0).at_ (x - 1);unfold keyO;show (x, ((kBc M.fA 0 (kAG M.fA M.fA.length)).getD (x - 1) noTh).cls, ((kBc M.fA 0 (kAG M.fA M.fA.length)).getD (x - 1) noTh).fmt, ((kBc M.fA 0 (kAG M.fA M.fA.length)).getD (x - 1) noTh).fB) = _;rw [a2, a3, a4]
theorem pLoad (ov : Value) (la : List OI) (w : World) (hi : Inv H M) (hg : Good M) (ha : SAt w ov la) (hk : la.map kAU = kBO H M) (hT : Tab w) (hT0 : 0 < w.heap.size) :
  Calls prog 117 #[.agg #[int i64 M.fH, int i64 M.fM, int i64 M.mark, ov]] w fun e w' => e = .returned (.tuple #[.pointer (some ⟨w.heap.size + 1, 0, none⟩), int i64 0]) ∧ ∃ l G, Rep w' (w.heap.size + 1) l G ∧ Inv G (kCh M) ∧ Fr [] w w' ∧ (∀ b ∈ foot (w.heap.size + 1) l, w.heap.size ≤ b) ∧ G.age = 0 := by
 have hsm := hi.safe.small;have hw := hi.fH;have ho := hi.fM;have hm := hi.mark;have hall := hi.takesAll hg;rw [← hk, hw, ho] at hall;have hle := kIV hi;rw [← hk] at hle;refine Calls.mono (kIP M.fH M.fM M.mark ov la w ha hT hT0 (by have := hi.room; omega) (by have := hsm.fM; omega) (by have := hsm.mark; omega) hall M.fA.length hle) ?_;rintro e w' ⟨rfl, l, G, Mg, hr, hf, hn, hkof, hB⟩;have hs := hi.toInvV.slide;have hc := hi.toInvV.slide_cov;rw [hk, ← (kJf hi).1] at hkof;have e1 : (kBS H).fH = M.fH := hs.fH;have e2 : (kBS H).fM = M.fM := hs.fM;have e3 : (kBS H).mark = M.mark := hs.mark;have hkof2 : KOf (kBS H).fH (kBS H).fM (kBS H).mark (kBO (kBS H) (kCh M)) G Mg := by rw [e1, e2, e3]; exact hkof
 have hl : (kCh M).fA.length = M.fA.length := (kDU (kAG M.fA M.fA.length) M.fA 0).len;exact ⟨rfl, l, G, hr, kJc hs hc hkof2 (by show Mg.fA.length ≤ (kCh M).fA.length; omega) (Lk.refl _) hs.model, hf, hn, hkof.age⟩
theorem kLn (S : List Th) (L : List Nat) (os : List RO) (hk : os.map kBU = (L.map (keyO S)).map kCA) (hp : ∀ a x b, os = a ++ x :: b → x.fJ = rEnd a) : os.map rv = kvF S 0 L := by
 have hlen : os.length = L.length := by have := congrArg List.length hk; simpa using this
 have main : ∀ a : List RO, ∀ b, os = a ++ b → a.map rv = kvF S 0 (L.take a.length) ∧ rEnd a = sumO S (L.take a.length) := by
  refine kCL (P := fun a => ∀ b, os = a ++ b → a.map rv = kvF S 0 (L.take a.length) ∧ rEnd a = sumO S (L.take a.length)) (fun b _ => ⟨rfl, rfl⟩) ?_
  intro a x ih b e;have e' : os = a ++ x :: b := by rw [e]; simp
  obtain ⟨i1, i2⟩ := ih (x :: b) e';have hal : a.length < L.length := by rw [← hlen, e']; simp
  have hx : kBU x = kCA (keyO S (L[a.length])) := by
   have := congrArg (fun l => l[a.length]?) hk;simp only [jAQ] at this;rw [e', jAI (jAD _), Nat.sub_self, jAW, jAB hal] at this
   simpa using this
  have hpx := hp a x b e';unfold kBU kCA keyO at hx;simp only [Prod.mk.injEq] at hx;obtain ⟨k1, k2, k3, k4⟩ := hx;have t : L.take (a ++ [x]).length = L.take a.length ++ [L[a.length]] := by rw [jAG]; exact jAO hal
  rw [t, kIk, kBP, jAP, i1, kFK];refine ⟨?_, ?_⟩
  ·congr 1
   show [rv x] = _;unfold rv;rw [hpx, i2, k2, k4, show x.oop = L[a.length] from by omega, show x.fmt = (S.getD (L[a.length] - 1) noTh).fmt from by omega, jAl]
  ·rw [hpx, i2, k4, show x.fmt = (S.getD (L[a.length] - 1) noTh).fmt from by omega];rfl
 have := (main os [] (by simp)).1;rw [hlen, jAV] at this;exact this
theorem rLoadM (ov : Value) (la : List OI) (w : World) (hi : Inv H M) (hg : Good M) (ha : SAt w ov la) (hk : la.map kAU = kBO H M) :
  Calls prog 118 #[.agg #[int i64 M.fH, int i64 M.fM, int i64 M.mark, ov]] w fun e w' => e = .returned (.tuple #[.pointer (some ⟨w.heap.size + 1, 0, none⟩), int i64 0]) ∧ ∃ R, RRep w' (w.heap.size + 1) (w.heap.size + 1) R ∧ Doc (kCh M) R ∧ Fr [] w w' ∧ R.fO = 0 ∧ R.fL ≤ 65538 := by
 have hsm := hi.safe.small;have hw := hi.fH;have ho := hi.fM;have hm := hi.mark;have hall := hi.takesAll hg;rw [← hk, hw, ho] at hall;refine Calls.mono (kJs M.fH M.fM M.mark ov la w ha (by have := hi.room; omega) (by have := hsm.fM; omega) (by have := hsm.mark; omega)) ?_;rintro e w' (⟨R, rfl, hl⟩ | ⟨k, o, -, -, ho2, ht⟩)
 ·have hof := hl.of;rw [jAV, hk] at hof;have hkv := kLn M.fA (kAa H) R.fE hof.keys hof.pls;obtain ⟨s1, s2⟩ := kII M.fA (kAa H) hi.toInvV.srt;refine ⟨rfl, R, hl.rep, ⟨hof.eWords, hof.eOops, hof.eMark, ⟨kAa H, s1, hkv.trans s2.symm⟩, hof.rise, fun b hb => ?_, hof.lone⟩, hl.fr, hof.fO, ?_⟩
  ·obtain ⟨z, z1, z2⟩ := jAZ.1 hb;rw [← z2];exact hof.old z z1
  ·rw [hof.fL];unfold kBO;rw [jAR, jAR];have h1 := hi.toInvV.srt.len;have h2 := hi.count;have h3 := hsm.count;have h4 := hsm.fM;omega
 ·exfalso;have h5 := hall k (kAU o) (by rw [jAQ, ho2]; rfl);rw [← jBS, ht] at h5
  cases h5
theorem kOq (hi : Inv H M) (hd : Doc M R) (n : Nat) : cutO H n ≤ R.fE.length := by
 obtain ⟨-, ho⟩ := hd.oopsL hi.toInvV.srt;have h1 : R.fE.length = (kAa H).length := by have := congrArg List.length ho; simpa using this
 rw [h1];unfold cutO kAa;have e : H.fC.filter (fun o => o != 0) = (H.fC.take n).filter (fun o => o != 0) ++ (H.fC.drop n).filter (fun o => o != 0) := by rw [← jAs, jAt]
 rw [e, jAG];omega
structure PtOk (H : HS) (R : RS) (ag n pb tn : Nat) : Prop where
 age : ag ≤ H.age
 fO : tn ≤ R.fO
 alike : ag = H.age ↔ tn = R.fO
 fL : pb ≤ R.fL
 cut : ag = H.age → n ≤ H.fC.length ∧ (∀ j, n ≤ j → j < H.fC.length → H.fC.getD j 0 ≠ 0) ∧ ∀ k, k < R.fE.length → ((R.fE.getD k noRO).fL < pb ↔ k < cutO H n)
theorem PtOk.new (hi : Inv H M) (hd : Doc M R) : PtOk H R H.age H.fC.length R.fL R.fO := by
 refine ⟨jAD _, jAD _, ⟨fun _ => rfl, fun _ => rfl⟩, jAD _, fun _ => ⟨jAD _, fun j h1 h2 => by omega, fun k hk => ⟨fun _ => ?_, fun _ => ?_⟩⟩⟩
 ·obtain ⟨-, ho⟩ := hd.oopsL hi.toInvV.srt;have h1 : R.fE.length = (kAa H).length := by have := congrArg List.length ho; simpa using this
  unfold cutO;rw [jAV];show k < (kAa H).length;omega
 ·rw [kBx hk];exact hd.old _ (jAq (jAT hk))
theorem PtOk.step {ag pb tn : Nat} (h : PtOk H R ag n pb tn) (hi : Inv H M) (hd : Doc M R) (ho : Old b H H') (hr : OldR b R R') : PtOk H' R' ag n pb tn := by
 obtain ⟨hr1, hr2, hr3⟩ := hr;have h1 := h.age;have h2 := h.fO;have h3 := h.fL
 cases b with
 | true =>
  rcases ho with ⟨h4, -⟩ | ⟨-, h4⟩
  ·cases h4
  rcases hr1 with ⟨h5, -⟩ | ⟨-, h5⟩
  ·cases h5
  refine ⟨by omega, by omega, ⟨fun e => by omega, fun e => by omega⟩, by omega, fun e => by omega⟩
 | false =>
  rcases ho with ⟨-, h4, t, h5, h6⟩ | ⟨h4, -⟩
  rotate_left
  ·cases h4
  rcases hr1 with ⟨-, h7, u, h8, h9⟩ | ⟨h7, -⟩
  rotate_left
  ·cases h7
  refine ⟨by omega, by omega, by rw [h4, h7]; exact h.alike, by omega, fun e => ?_⟩;obtain ⟨c1, c2, c3⟩ := h.cut (by omega);have hcl := kOq hi hd n;have hlen : R'.fE.length = R.fE.length + u.length := by have := congrArg List.length h8; simpa using this
  have hcut : cutO H' n = cutO H n := by unfold cutO; rw [h5, jBC c1]
  have hborn : ∀ k (hk : k < R'.fE.length), (R'.fE.getD k noRO).fL = (R.fE.map RO.fL ++ u).getD k 0 := fun k hk => by
   rw [← h8, kBx hk, jAA, jAQ, jAB hk];rfl
  refine ⟨by rw [h5, jAG]; omega, fun j j1 j2 => ?_, fun k hk => ?_⟩
  ·rw [h5] at j2 ⊢;rw [jAG] at j2
   by_cases e3 : j < H.fC.length
   ·rw [jAA, jAK e3, ← jAA];exact c2 j j1 e3
   ·rw [jAA, jAI (by omega), jAB (by omega)];exact h6 _ (jAT _)
  ·rw [hborn k hk, hcut]
   by_cases e3 : k < R.fE.length
   ·have : (R.fE.map RO.fL ++ u).getD k 0 = (R.fE.getD k noRO).fL := by
     rw [jAA, jAK (by simpa using e3), jAQ, jAB e3, kBx e3];rfl
    rw [this];exact c3 k e3
   ·have hge : R.fL ≤ (R.fE.map RO.fL ++ u).getD k 0 := by
     rw [jAA, jAI (by simpa using e3), jAB (by simp; omega)];exact h9 _ (jAT _)
    constructor
    ·intro hlt; omega
    ·intro hlt; omega
structure Tbs (w : World) : Prop where
 t : Tab w
 u : kCQ w
 s : 1 < w.heap.size
theorem Tbs.keep {w w' : World} {X : List Nat} (h : Tbs w) (hf : Fr X w w') (hX : ∀ g ∈ X, 2 ≤ g) : Tbs w' :=
 ⟨h.t.keep hf (by have := h.s; omega) (fun hm => by have := hX 0 hm; omega), h.u.keep hf h.s (fun hm => by have := hX 1 hm; omega), by have := h.s; have := hf.size; omega⟩
theorem Old.bound (h : Old b H H') : H'.age ≤ H.age + 1 := by
 rcases h with ⟨-, h, -⟩ | ⟨-, h⟩ <;> omega
theorem OldR.bound (h : OldR b R R') : R'.fO ≤ R.fO + 1 ∧ R'.fL ≤ R.fL + 1 := by
 obtain ⟨h1, h2, h3⟩ := h;refine ⟨?_, h3⟩;rcases h1 with ⟨-, h, -⟩ | ⟨-, h⟩ <;> omega
theorem kMC (h : Good M) {X : List Th} {L : List Nat} (h1 : ∀ i, i + 1 ∈ L → X.getD i noTh = M.fA.getD i noTh) (h2 : ∀ i, (X.getD i noTh).fI = true → i + 1 ∈ L) : Good { M with fA := X } := fun i hi => by
 have hm := h2 i hi;have e := h1 i hm;have hi' : (M.fA.getD i noTh).fI = true := by rw [← e]; exact hi
 have := h i hi';rw [← e] at this;exact this
theorem pBackX (n : Nat) (a : Nat) (l : Lay) (H : HS) (M : MS) (hi : Inv H M) (hn : n ≤ H.fC.length) (young : ∀ j, n ≤ j → j < H.fC.length → H.fC.getD j 0 ≠ 0) (hage : (H.age : Int) ≤ 1000000000) :
  ∃ X, (∀ i, i + 1 ∈ (kAa H).take (cutO H n) → X.getD i noTh = M.fA.getD i noTh) ∧ (∀ i, (X.getD i noTh).fI = true → i + 1 ∈ (kAa H).take (cutO H n)) ∧
  ∀ w, Rep w a l H → Calls prog 66 #[.pointer (some ⟨a, 0, none⟩), .agg #[.pointer (some ⟨a, 0, none⟩), int i64 H.age, int i64 n]] w fun e w' => e = .returned (int i64 0) ∧ PN true a l H { M with fA := X } w w' := by
 obtain ⟨t, e0, X, hd, hinv, hx1, hx2⟩ := hi.backN n hn young;refine ⟨X, hx1, hx2, fun w h => ?_⟩;refine Calls.mono (kPg n t e0 a l H w h (hi.backOkN n hn young hage) hd) ?_;rintro e w' ⟨rfl, hr, hx⟩;exact ⟨rfl, l, _, hr, hinv, hx, .inr ⟨rfl, rfl⟩⟩
theorem kME (n : Int) (w : World) (hT : Tab w) (hk : kAJ n = 3) : Calls prog 145 #[int i64 n] w fun e w' => e = .returned (.tuple #[int i64 (n / 4), int i64 0]) ∧ w' = w := by
 have hK := kEO n w hT;rw [hk] at hK;obtain ⟨h1, h2, h3⟩ := (kHT n).1 hk;have hd : n.tdiv 4 = n / 4 := Int.tdiv_eq_ediv_of_nonneg (by omega);have HK := kAA hK;clear hK hT hk;go_enter func145, ntmps145
 go_wp2_with (go_at_call 132; refine HK.out.mono ?_; rintro e w' ⟨rfl, hw'⟩; rw [hw']; clear hw' w')
 go_ret2
 refine ⟨?_, rfl⟩
 first | rfl | (rw [hd]) | (congr 4)
theorem Oop_no (n : Int) (w : World) (hT : Tab w) (hk : kAJ n ≠ 3) : Calls prog 145 #[int i64 n] w fun e w' => e = .returned (.tuple #[int i64 0, int i64 10]) ∧ w' = w := by
 have hK := kEO n w hT;have hb : (kAJ n == 3) = false := by simpa using hk
 have HK := kAA hK;generalize kAJ n = kz at *;clear hK hT hk;go_enter func145, ntmps145
 go_wp2_with (go_at_call 132; refine HK.out.mono ?_; rintro e w' ⟨rfl, hw'⟩; rw [hw']; clear hw' w')
 go_ret2
 exact ⟨rfl, rfl⟩
def kAi (H : HS) (n : Int) : Bool := decide (kAJ n = 3) && has H (n / 4)
theorem kHI (n : Int) (a : Nat) (l : Lay) (H : HS) (M : MS) (w : World) (h : Rep w a l H) (hi : Inv H M) (hT : Tab w) (hn : kAi H n = true) :
  Calls prog 123 #[.pointer (some ⟨a, 0, none⟩), int i64 n] w fun e w' => e = .returned (.tuple #[int i64 (n / 4), .bool true]) ∧ Fr [] w w' := by
 unfold kAi at hn;simp only [jBA, decide_eq_true_eq] at hn;obtain ⟨hk, hh⟩ := hn;have hm : mhas M (n / 4) = true := by rw [← hi.hasM]; exact hh
 have hm2 := of_decide_eq_true hm;obtain ⟨q, hq⟩ : ∃ q : Nat, n / 4 = (q : Int) + 1 := ⟨(n / 4).toNat - 1, by omega⟩
 have hb : (M.fA.getD q noTh).fI = true := by have := hm2.2.2; rwa [show (n / 4).toNat - 1 = q from by omega] at this
 have hI := hi.is q (kAs hb) hb;have hmem : (H.mem.length : Int) ≤ 1048576 := by have := hi.safe.small.mem; have := hi.safe.small.fH; omega
 have hr := hI.room;have h22 := kAR (M.fA.getD q noTh).fB.length (M.fA.getD q noTh).fmt;have HC := kAA (kFc (q + 1) a l H w h hI.has (by omega) hmem);have HO := kAA (kME n w hT hk);rw [hq] at HO ⊢;generalize H.mem.getD (H.fD.getD (q + 1) (0, 0, 0)).1 0 = cz at *;rw [show ((q + 1 : Nat) : Int) = (q : Int) + 1 from by omega] at HC;clear hh hk hm hm2 hb hI hq h hi hT;go_enter func123, ntmps123
 go_wp2_with (go_at_call 145; refine HO.out.mono ?_; rintro e w' ⟨rfl, hw'⟩; rw [hw']; clear hw' w')
 refine HC.out.mono ?_;rintro e w2 ⟨rfl, hf2⟩
 go_wp2_with fail
 go_ret2
 exact ⟨rfl, hf2⟩
theorem kMe (n : Int) (a : Nat) (l : Lay) (H : HS) (w : World) (h : Rep w a l H) (hT : Tab w) (hn : kAi H n = false) :
  Calls prog 123 #[.pointer (some ⟨a, 0, none⟩), int i64 n] w fun e w' => e = .returned (.tuple #[int i64 0, .bool false]) ∧ Fr [] w w' := by
 by_cases hk : kAJ n = 3
 ·have hh : has H (n / 4) = false := by unfold kAi at hn; rw [decide_eq_true hk] at hn; simpa using hn
  have HC := kAA (kIj (n / 4) a l H w h hh);have HO := kAA (kME n w hT hk);generalize n / 4 = q at *;clear hh hk h hT hn;go_enter func123, ntmps123
  go_wp2_with (go_at_call 145; refine HO.out.mono ?_; rintro e w' ⟨rfl, hw'⟩; rw [hw']; clear hw' w')
  refine HC.out.mono ?_;rintro e w2 ⟨rfl, hf2⟩
  go_wp2_with fail
  go_ret2
  exact ⟨rfl, hf2⟩
 ·have HO := kAA (Oop_no n w hT hk);clear hk h hT hn;go_enter func123, ntmps123
  go_wp2_with (go_at_call 145; refine HO.out.mono ?_; rintro e w' ⟨rfl, hw'⟩; rw [hw']; clear hw' w')
  go_ret2
  exact ⟨rfl, Fr.refl _ _⟩
theorem kKe (p : Option Addr) (c : Nat) (w : World) : Calls prog 121 #[.slice p 0 c] w fun e w' => e = .returned (.slice none 0 0) ∧ w' = w := by
 go_enter func121, ntmps121
 go_wp2_with fail
 go_ret
 exact ⟨rfl, rfl⟩
theorem kNR (g : Nat) (c : Nat) (n z : Nat) (w : World) (hn : 0 < n) (hl : n ≤ 1048576) (hz : z < 1048576) (hc : w.cell? ⟨g, n - 1, none⟩ = some (int i64 z)) :
  Calls prog 121 #[.slice (some ⟨g, 0, none⟩) n c] w fun e w' => e = .returned (.slice (some ⟨w.heap.size, 0, none⟩) (z + 1) (z + 1)) ∧ w' = w.alloc (.cells (kCT (z + 1) []).toArray 4) := by
 have k0 : ((n : Int) == 0) = false := by simpa using (by omega : ¬ (n : Int) = 0)
 have k1 : 0 ≤ (n : Int) - 1 := by omega
 have k2 : (n : Int) - 1 < (n : Int) := by omega
 have hmk := kDv (z + 1) (by omega) w;rw [show ((z + 1 : Nat) : Int) = (z : Int) + 1 from by omega] at hmk;go_enter func121, ntmps121
 go_wp2_with fail
 go_ret
 exact ⟨rfl, rfl⟩
def kBM (ks rs : List Nat) (k : Nat) : List Nat := (ks.take k).filter fun x => decide (x ∈ rs)
theorem kDb (ks rs : List Nat) (k : Nat) (hk : k < ks.length) : kBM ks rs (k + 1) = kBM ks rs k ++ (if ks.getD k 0 ∈ rs then [ks.getD k 0] else []) := by
 unfold kBM;have e : ks.getD k 0 = ks[k] := by rw [jAA, jAB hk]; rfl
 rw [jAO hk, jAs, e]
 congr 1
 by_cases h : ks[k] ∈ rs
 ·rw [jp h, List.filter_cons_of_pos (by simpa using h)]; rfl
 ·rw [jn h, List.filter_cons_of_neg (by simpa using h)]; rfl
theorem kEK (ks rs : List Nat) (k : Nat) : (kBM ks rs k).length ≤ k := by
 have := jBH (fun x => decide (x ∈ rs)) (ks.take k);unfold kBM;have h2 : (ks.take k).length ≤ k := by simp; omega
 omega
theorem kKE (ks rs : List Nat) (n : Nat) (p : Option Addr) (c : Nat) (ps : Option Addr) (sc : Nat) (w : World) (hr : Rd w (.slice p ks.length c) (ks.map fun x : Nat => (x : Int))) (hs : 0 < ks.length → ∃ sb, ps = some ⟨sb, 0, none⟩ ∧ sb < w.heap.size ∧ ∀ i, i < n → w.cell? ⟨sb, i, none⟩ = some (.bool (decide (i ∈ rs)))) (hlt : ∀ k ∈ ks, k < n) (hl : ks.length ≤ 1048576) (hn : n ≤ 1048576) :
  Calls prog 125 #[.slice p ks.length c, .slice ps n sc] w fun e w' => ∃ v, e = .returned v ∧ w'.ownsRow w.heap.size 3 1 v (ks.filter fun x => decide (x ∈ rs)).length ((ks.filter fun x => decide (x ∈ rs)).map I) ∧ Fr [] w w' := by
 obtain ⟨j0, ji, jz0, jz1, jz2⟩ := info_parts kGs;have HRd := kAA hr;have HS := kAA hs;have HLt := kAA hlt;clear hr hs hlt;go_enter func125, ntmps125
 go_wp2_with fail
 go_loopw [5, 10] (fun v q wr => ∃ k : Nat, k ≤ ks.length ∧ q = int i64 k ∧ wr.ownsRow w.heap.size 3 1 v (kBM ks rs k).length ((kBM ks rs k).map I) ∧ Hid (Fr [] w wr)) (fun _ q _ => ks.length - (intOf q).toNat)
 case atStart => exact ⟨0, jAH _, rfl, jAS _ _ _ _, Fr.refl _ _⟩
 case round =>
  obtain ⟨k, hkn, rfl, hown, hfr⟩ := hrel
  by_cases hk : k < ks.length
  ·have hz := hfr.out.size;obtain ⟨p', c', ee, hrow⟩ := (HRd.out.fK hfr.out).at_;rw [jAR] at ee hrow
   injection ee with ee _ eec
   subst ee;subst eec;obtain ⟨g, off, rfl, hgl, hc⟩ := hrow (by omega);have q0 := hc k hk;have hm : ks.getD k 0 ∈ ks := by rw [jAA, jAB hk]; exact jAT hk
   have e1 : (ks.map fun x : Nat => (x : Int)).getD k 0 = ((ks.getD k 0 : Nat) : Int) := by
    rw [jAA, jAA, jAQ, jAB hk]; rfl
   rw [e1] at q0;obtain ⟨sb, rfl, hsl, hsc⟩ := HS.out (by omega);have q1 := (hfr.out.cell (p := ⟨sb, ks.getD k 0, none⟩) hsl (by simp)).trans (hsc _ (HLt.out _ hm));have hx := HLt.out _ hm;have hsu := kDb ks rs k hk;have hle := kEK ks rs k;have k1 := ng k;have k2 : (k : Int) < ks.length := by omega
   have HSU := kAA hsu;clear hsu hrow hc e1 hm hsc;generalize ks.getD k 0 = z at *;have k3 := ng z;have k4 : (z : Int) < n := by omega
   generalize hX : kBM ks rs k = X at *;clear hX
   by_cases hy : z ∈ rs
   ·rw [decide_eq_true hy] at q1;have HS2 := HSU.out;rw [jp hy] at HS2;have HS3 := kAA HS2;clear HS2 HSU hy;have hown2 := hown.alloc (.cells #[int i64 z] 3);have HFA : Hid (Fr [] w (wr.alloc (.cells #[int i64 z] 3))) := hfr.out.trans (Fr.alloc [] _ _) (by simp);clear hown
    go_wp2_with (first | (at_builtin; refine wpList_append_own _ rfl (.tmp 18) (.tmp 20) 88 rfl w.heap.size 3 j0 (int i64 0) 1 8 underlying88 ji jz0 jz1 jz2 rfl (by decide) _ _ _ rfl hown2 ⟨wr.heap.size, 0, none⟩ 1 1 [int i64 z] rfl rfl ?c1 ?c2 ?c3 ?c4 ?c5 ?_) | go_in)
    case c2 => first | rfl | (intro u hu; simp at hu; subst hu; rfl)
    case c3 => unfold maxLen; omega
    case c4 => omega
    case c5 => first | omega | (simp; omega)
    intro v' w1 hown' hgrow _
    have HG : Hid (Fr [] w w1) := by
     refine ⟨hgrow.os.trans HFA.out.os, hgrow.tape.trans HFA.out.tape, hgrow.output.trans HFA.out.output, jAU HFA.out.size hgrow.size, fun i hi hn => ?_⟩;rw [hgrow.block i (jAb hi HFA.out.size) (fun e => ?_)]
     ·exact HFA.out.block i hi hn
     ·have := (hown2.lt i e.symm).1;omega
    have HO := kAA hown';clear hown' hgrow hown2 HFA
    go_wp2
    go_roundw
    case rel => exact ⟨k + 1, by omega, by go_num, by rw [HS3.out]; simpa [I] using HO.out, HG⟩
    case measure => simp [intOf]; omega
   ·rw [decide_eq_false hy] at q1;have HS2 := HSU.out;rw [jn hy, jAz] at HS2;have HS3 := kAA HS2;have HO := kAA hown;clear HS2 HSU hy hown
    go_wp2
    go_roundw
    case rel => exact ⟨k + 1, by omega, by go_num, by rw [HS3.out]; exact HO.out, hfr⟩
    case measure => simp [intOf]; omega
  ·have hke : k = ks.length := by omega
   subst hke;unfold kBM at hown;rw [jAV] at hown;have HO := kAA hown;clear hown
   go_wp2
   go_ret
   exact ⟨_, rfl, HO.out, hfr.out⟩
structure Rc (B : Nat) (W : World) (a bh br ba : Nat) (ps : Option Addr) (n sc : Nat) (rs ah : List Nat) (av : Value) : Prop where
 lo : B ≤ bh ∧ B ≤ br ∧ B ≤ ba
 hbox : W.heap[bh]? = some (.cells #[.pointer (some ⟨a, 0, none⟩)] 46 (0, 0))
 rbox : W.heap[br]? = some (.cells #[.slice ps n sc] 164 (0, 0))
 abox : W.heap[ba]? = some (.cells #[av] 88 (0, 0))
 row : W.ownsRow B 3 1 av ah.length (ah.map I)
 marksAt : 0 < n → ∃ sb, ps = some ⟨sb, 0, none⟩ ∧ B ≤ sb ∧ W.heap[sb]? = some (.cells (kCT n rs).toArray 4 (0, 0))
def kCe (ps : Option Addr) (ba : Nat) (av : Value) : List Nat := (ps.map (·.block)).toList ++ ba :: av.ownBlock.toList
theorem Rc.fK {B : Nat} {W V : World} {a bh br ba : Nat} {ps : Option Addr} {sc : Nat} {rs ah : List Nat} {av : Value} (h : Rc B W a bh br ba ps n sc rs ah av) (hf : Fr [] W V) : Rc B V a bh br ba ps n sc rs ah av :=
 ⟨h.lo, (hf.block _ (kAB h.hbox) (by simp)).trans h.hbox, (hf.block _ (kAB h.rbox) (by simp)).trans h.rbox, (hf.block _ (kAB h.abox) (by simp)).trans h.abox, kAE h.row fun g hg => hf.block g (h.row.lt g hg).2 (by simp), fun hn => by
  obtain ⟨sb, h1, h2, h3⟩ := h.marksAt hn;exact ⟨sb, h1, h2, (hf.block _ (kAB h3) (by simp)).trans h3⟩⟩
theorem kQH (z : Int) (B : Nat) (a bh br ba : Nat) (ps : Option Addr) (n sc : Nat) (rs ah : List Nat) (av : Value) (l : Lay) (H : HS) (w : World) (h : Rep w a l H) (hT : Tab w) (hr : Rc B w a bh br ba ps n sc rs ah av) (hz : kAi H z = false) :
  Calls prog 122 #[int i64 z, .pointer (some ⟨bh, 0, none⟩), .pointer (some ⟨br, 0, none⟩), .pointer (some ⟨ba, 0, none⟩)] w fun e w' => e = .returned (.tuple #[]) ∧ Fr [] w w' := by
 have c0 : w.cell? ⟨bh, 0, none⟩ = some (.pointer (some ⟨a, 0, none⟩)) := by rw [kAC hr.hbox]; rfl
 have HN := kAA (kMe z a l H w h hT hz);clear h hT hr hz;go_enter func122, ntmps122
 go_wp2_with fail
 refine HN.out.mono ?_;rintro e w2 ⟨rfl, hf2⟩
 go_wp2_with fail
 refine bodyPost_ret (results_none rfl _ _ _) rfl ?_;exact ⟨rfl, hf2⟩
theorem kNu (z : Int) (q : Nat) (B : Nat) (a bh br ba : Nat) (ps : Option Addr) (n sc : Nat) (rs ah : List Nat) (av : Value) (l : Lay) (H : HS) (M : MS) (w : World) (h : Rep w a l H) (hi : Inv H M) (hT : Tab w) (hr : Rc B w a bh br ba ps n sc rs ah av) (hz : kAi H z = true) (hq : z / 4 = (q : Int)) (hqn : q < n) (hn : n ≤ 1048576) (hm : q ∈ rs) :
  Calls prog 122 #[int i64 z, .pointer (some ⟨bh, 0, none⟩), .pointer (some ⟨br, 0, none⟩), .pointer (some ⟨ba, 0, none⟩)] w fun e w' => e = .returned (.tuple #[]) ∧ Fr [] w w' := by
 have c0 : w.cell? ⟨bh, 0, none⟩ = some (.pointer (some ⟨a, 0, none⟩)) := by rw [kAC hr.hbox]; rfl
 have hN := kHI z a l H M w h hi hT hz;rw [hq] at hN;have HN := kAA hN;obtain ⟨sb, rfl, hsl, hsb⟩ := hr.marksAt (by omega);have HR := kAA hr;have HSB := kAA hsb;have k1 := ng q;have k2 : (q : Int) < n := by omega
 have HM : Hid (decide (q ∈ rs) = true) := decide_eq_true hm;clear h hT hr hz hN hi hsb hm;go_enter func122, ntmps122
 go_wp2_with fail
 refine HN.out.mono ?_;rintro e w2 ⟨rfl, hf2⟩;have b1 := (hf2.block _ (kAB HR.out.rbox) (by simp)).trans HR.out.rbox;have b2 := (hf2.block _ (kAB HSB.out) (by simp)).trans HSB.out;have c1 : w2.cell? ⟨br, 0, none⟩ = some (.slice (some ⟨sb, 0, none⟩) n sc) := by rw [kAC b1]; rfl
 have c2 : w2.cell? ⟨sb, q, none⟩ = some (.bool true) := by
  rw [kAC b2];have := kCd n rs q (by omega);rw [HM.out] at this
  simpa using this
 have HF := kAA hf2;clear b1 b2 hf2
 go_wp2_with fail
 refine bodyPost_ret (results_none rfl _ _ _) rfl ?_;exact ⟨rfl, HF.out⟩
theorem kMT (z : Int) (q : Nat) (B : Nat) (a bh br ba : Nat) (ps : Option Addr) (n sc : Nat) (rs ah : List Nat) (av : Value) (l : Lay) (H : HS) (M : MS) (w : World) (h : Rep w a l H) (hi : Inv H M) (hT : Tab w) (hr : Rc B w a bh br ba ps n sc rs ah av) (hz : kAi H z = true) (hq : z / 4 = (q : Int)) (hqn : q < n) (hn : n ≤ 1048576) (hm : q ∉ rs) (hal : ah.length ≤ 1048576) :
  Calls prog 122 #[int i64 z, .pointer (some ⟨bh, 0, none⟩), .pointer (some ⟨br, 0, none⟩), .pointer (some ⟨ba, 0, none⟩)] w fun e w' => e = .returned (.tuple #[]) ∧ ∃ av', Rc B w' a bh br ba ps n sc (rs ++ [q]) (ah ++ [q]) av' ∧ Fr (kCe ps ba av) w w' ∧ (av'.ownBlock = av.ownBlock ∨ ∃ g, av'.ownBlock = some g ∧ w.heap.size ≤ g) := by
 obtain ⟨j0, ji, jz0, jz1, jz2⟩ := info_parts kGs;have c0 : w.cell? ⟨bh, 0, none⟩ = some (.pointer (some ⟨a, 0, none⟩)) := by rw [kAC hr.hbox]; rfl
 have hN := kHI z a l H M w h hi hT hz;rw [hq] at hN;have HN := kAA hN;obtain ⟨sb, rfl, hsl, hsb⟩ := hr.marksAt (by omega)
 obtain ⟨pa, ca, rfl⟩ : ∃ pa ca, av = .slice pa ah.length ca := by
  rcases hr.row.2 with ⟨h2, h3⟩ | ⟨g, cap, cur, h2, h3⟩
  ·exact ⟨none, 0, by rw [h2, h3]⟩
  ·exact ⟨some ⟨g, 0, none⟩, cap, h2⟩
 have HR := kAA hr;have HSB := kAA hsb;have k1 := ng q;have k2 : (q : Int) < n := by omega
 have HM : Hid (decide (q ∈ rs) = false) := decide_eq_false hm;clear h hT hr hz hN hi hsb hm;go_enter func122, ntmps122
 go_wp2_with fail
 refine HN.out.mono ?_;rintro e w2 ⟨rfl, hf2⟩;have hr2 := HR.out.fK hf2;have b2 := (hf2.block _ (kAB HSB.out) (by simp)).trans HSB.out;have c1 : w2.cell? ⟨br, 0, none⟩ = some (.slice (some ⟨sb, 0, none⟩) n sc) := by rw [kAC hr2.rbox]; rfl
 have c2 : w2.cell? ⟨sb, q, none⟩ = some (.bool false) := by
  rw [kAC b2];have := kCd n rs q (by omega);rw [HM.out] at this
  simpa using this
 have f2 : w2.frozen? ⟨sb, q, none⟩ = false := kAD b2 q;have n1 : sb ≠ ba := fun e => by have h1 := hr2.abox; rw [← e, b2] at h1; simp at h1
 have n2 : sb ≠ br := fun e => by have h1 := hr2.rbox; rw [← e, b2] at h1; simp at h1
 have n3 : sb ≠ bh := fun e => by have h1 := hr2.hbox; rw [← e, b2] at h1; simp at h1
 have n4 : ba ≠ br := fun e => by have h1 := hr2.abox; rw [e, hr2.rbox] at h1; simp at h1
 have n5 : ba ≠ bh := fun e => by have h1 := hr2.abox; rw [e, hr2.hbox] at h1; simp at h1
 have hrowne : ∀ b, (Value.slice pa ah.length ca).ownBlock = some b → b ≠ sb ∧ b ≠ ba ∧ b ≠ br ∧ b ≠ bh := fun b hb => by
  rcases hr2.row.2 with ⟨q1, _⟩ | ⟨g1, cap1, cur1, q1, q2, q3, _⟩
  ·rw [q1] at hb; simp [Value.ownBlock] at hb
  ·rw [q1] at hb;have a1 : g1 = b := by simpa [Value.ownBlock] using hb
   subst a1;refine ⟨fun e => ?_, fun e => ?_, fun e => ?_, fun e => ?_⟩
   ·rw [e, b2] at q3; simp at q3
   ·rw [e, hr2.abox] at q3; simp at q3
   ·rw [e, hr2.rbox] at q3; simp at q3
   ·rw [e, hr2.hbox] at q3; simp at q3
 have c3 : w2.cell? ⟨ba, 0, none⟩ = some (.slice pa ah.length ca) := by rw [kAC hr2.abox]; rfl
 have f3 : w2.frozen? ⟨ba, 0, none⟩ = false := kAD hr2.abox 0;have hrow3 : ((w2.setCell ⟨sb, q, none⟩ (.bool true)).alloc (.cells #[int i64 q] 3)).ownsRow B 3 1 (.slice pa ah.length ca) ah.length (ah.map I) := (kAE hr2.row fun g hg => kAK (hrowne g hg).1).alloc _;have hz2 := kAB b2;have hza := kAB hr2.abox;have HR2 := kAA hr2;have HB2 := kAA b2;have HF2 := kAA hf2;have hBs : B ≤ w2.heap.size := by omega
 clear hr2 b2 hf2
 go_wp2_with (at_builtin; refine wpList_append_lies _ rfl (.tmp 24) (.tmp 26) 88 rfl B 3 j0 (int i64 0) 1 8 underlying88 ji jz0 jz1 jz2 rfl (by decide) _ _ _ rfl hrow3 ⟨w2.heap.size, 0, none⟩ 1 1 [int i64 q] rfl rfl ?c1 ?c2 (by decide) ?c3 ?c4 ?c5 (w2.heap.size + 1) (by simp) ?_)
 case c1 =>
  have hnn := World.news_of_block (heap_alloc_new (w2.setCell ⟨sb, q, none⟩ (.bool true)) (.cells #[int i64 q] 3));have hsz : (w2.setCell ⟨sb, q, none⟩ (.bool true)).heap.size = w2.heap.size := by simp
  rw [hsz] at hnn;exact hnn
 case c2 => intro u hu; simp at hu; subst hu; rfl
 case c3 => unfold maxLen; omega
 case c4 => omega
 case c5 => simp; omega
 intro g cap w3 hown3 hgrow3 hat3 hlt3
 have hsame : ∀ b, b < w2.heap.size → b ≠ sb → some b ≠ (Value.slice pa ah.length ca).ownBlock → w3.heap[b]? = w2.heap[b]? := fun b h1 h2 h3 => by
  rw [hgrow3.block b (by simp; omega) h3, jAN _ _ _ (by simp; omega), kAK h2]
 have e1 : w3.heap[ba]? = some (.cells #[.slice pa ah.length ca] 88 (0, 0)) := (hsame ba hza (fun e => n1 e.symm) (fun e => (hrowne ba e.symm).2.1 rfl)).trans HR2.out.abox;have e2 : w3.heap[br]? = some (.cells #[.slice (some ⟨sb, 0, none⟩) n sc] 164 (0, 0)) := (hsame br (kAB HR2.out.rbox) (fun e => n2 e.symm) (fun e => (hrowne br e.symm).2.2.1 rfl)).trans HR2.out.rbox;have e3 : w3.heap[bh]? = some (.cells #[.pointer (some ⟨a, 0, none⟩)] 46 (0, 0)) := (hsame bh (kAB HR2.out.hbox) (fun e => n3 e.symm) (fun e => (hrowne bh e.symm).2.2.2 rfl)).trans HR2.out.hbox
 have e4 : w3.heap[sb]? = some (.cells (kCT n (rs ++ [q])).toArray 4 (0, 0)) := by
  rw [hgrow3.block sb (by simp; omega) (fun e => (hrowne sb e.symm).1 rfl), jAN _ _ _ (by simp; omega), kAI HB2.out];rw [← kFR]
  simp
 have d3 : w3.cell? ⟨ba, 0, none⟩ = some (.slice pa ah.length ca) := by rw [kAC e1]; rfl
 have g3 : w3.frozen? ⟨ba, 0, none⟩ = false := kAD e1 0
 have hg : g ≠ ba := by
  rcases hat3 with h1 | h1
  ·exact (hrowne g h1).2.1
  ·omega
 have hws := HF2.out.size
 have HE : Hid (∃ av', Rc B (w3.setCell ⟨ba, 0, none⟩ (.slice (some ⟨g, 0, none⟩) (ah.length + 1) cap)) a bh br ba (some ⟨sb, 0, none⟩) n sc (rs ++ [q]) (ah ++ [q]) av' ∧ Fr (kCe (some ⟨sb, 0, none⟩) ba (Value.slice pa ah.length ca)) w (w3.setCell ⟨ba, 0, none⟩ (.slice (some ⟨g, 0, none⟩) (ah.length + 1) cap)) ∧ (av'.ownBlock = (Value.slice pa ah.length ca).ownBlock ∨ ∃ g, av'.ownBlock = some g ∧ w.heap.size ≤ g)) := by
  refine ⟨.slice (some ⟨g, 0, none⟩) (ah.length + 1) cap, ⟨HR2.out.lo, by rw [kAK (fun e => n5 e.symm)]; exact e3, by rw [kAK (fun e => n4 e.symm)]; exact e2, by rw [kAI e1]; rfl, ?_, fun _ => ⟨sb, rfl, hsl, by rw [kAK n1]; exact e4⟩⟩, ?_, ?_⟩
  ·rw [jAG, jAP]
   exact kAE hown3 fun g' hg' => kAK (by
    have : g = g' := by simpa [Value.ownBlock] using hg'
    omega)
  ·show Fr (sb :: ba :: ((Value.slice pa ah.length ca).ownBlock).toList) w _
   have hF3 : Fr (sb :: ba :: ((Value.slice pa ah.length ca).ownBlock).toList) w w3 := by
    have h1 : Fr (sb :: ba :: ((Value.slice pa ah.length ca).ownBlock).toList) w ((w2.setCell ⟨sb, q, none⟩ (.bool true)).alloc (.cells #[int i64 q] 3)) := ((HF2.out.mono (S' := sb :: ba :: ((Value.slice pa ah.length ca).ownBlock).toList) (by simp)).trans (Fr.setCell (S := [sb]) w2 _ _ (by simp)) (fun b hb => by simp at hb; left; simp [hb])).trans (Fr.alloc [] _ _) (by simp);exact h1.trans (Fr.grown (S := ((Value.slice pa ah.length ca).ownBlock).toList) hgrow3 (fun k hk => by rw [hk]; simp)) (fun b hb => .inl (by simp [hb]))
   exact hF3.trans (Fr.setCell (S := [ba]) w3 _ _ (by simp)) (fun b hb => by simp at hb; left; simp [hb])
  ·rcases hat3 with h1 | h1
   ·exact .inl (by rw [h1]; rfl)
   ·exact .inr ⟨g, rfl, by omega⟩
 go_wp2_with fail
 go_end0
 exact ⟨rfl, HE.out⟩
def kAo (H : HS) (s : List Nat × List Nat) (z : Int) : List Nat × List Nat := if kAi H z = true ∧ (z / 4).toNat ∉ s.1 then (s.1 ++ [(z / 4).toNat], s.2 ++ [(z / 4).toNat]) else s
theorem kMv (z : Int) (B : Nat) (a bh br ba : Nat) (ps : Option Addr) (n sc : Nat) (rs ah : List Nat) (av : Value) (l : Lay) (H : HS) (M : MS) (w : World) (h : Rep w a l H) (hi : Inv H M) (hT : Tab w) (hr : Rc B w a bh br ba ps n sc rs ah av) (hqn : kAi H z = true → 0 ≤ z / 4 ∧ (z / 4).toNat < n) (hn : n ≤ 1048576) (hal : ah.length ≤ 1048576) :
  Calls prog 122 #[int i64 z, .pointer (some ⟨bh, 0, none⟩), .pointer (some ⟨br, 0, none⟩), .pointer (some ⟨ba, 0, none⟩)] w fun e w' => e = .returned (.tuple #[]) ∧ ∃ av', Rc B w' a bh br ba ps n sc (kAo H (rs, ah) z).1 (kAo H (rs, ah) z).2 av' ∧ Fr (kCe ps ba av) w w' ∧ (av'.ownBlock = av.ownBlock ∨ ∃ g, av'.ownBlock = some g ∧ w.heap.size ≤ g) := by
 cases hz : kAi H z with
 | false =>
  have e : kAo H (rs, ah) z = (rs, ah) := by unfold kAo; rw [jn (by simp [hz])]
  rw [e];refine (kQH z B a bh br ba ps n sc rs ah av l H w h hT hr hz).mono ?_;rintro e w' ⟨rfl, hf⟩;exact ⟨rfl, av, hr.fK hf, hf.mono (by simp), .inl rfl⟩
 | true =>
  obtain ⟨h1, h2⟩ := hqn hz;have hq : z / 4 = ((z / 4).toNat : Int) := by omega
  by_cases hm : (z / 4).toNat ∈ rs
  ·have e : kAo H (rs, ah) z = (rs, ah) := by unfold kAo; rw [jn (fun c => c.2 hm)]
   rw [e];refine (kNu z _ B a bh br ba ps n sc rs ah av l H M w h hi hT hr hz hq h2 hn hm).mono ?_;rintro e w' ⟨rfl, hf⟩;exact ⟨rfl, av, hr.fK hf, hf.mono (by simp), .inl rfl⟩
  ·have e : kAo H (rs, ah) z = (rs ++ [(z / 4).toNat], ah ++ [(z / 4).toNat]) := by unfold kAo; rw [jp ⟨hz, hm⟩]
   rw [e];exact kMT z _ B a bh br ba ps n sc rs ah av l H M w h hi hT hr hz hq h2 hn hm hal
end Go.Proofs.YtflgicdbbogllaaGreatDoor
namespace Go.Proofs.YtflgicdbbogllaaGreatDoor
open Go.RowKit Go.Shelf Tryz
open Value (int)
open IntKind (i64)
attribute [local go_sem] Oper.semAt_some
variable {B a bh bo oop : Nat} {H : HS} {V W : World} {l : Lay}
structure Kl (B bh bo : Nat) (W W' : World) : Prop where
 low : Below B W W'
 hb : W'.heap[bh]? = W.heap[bh]?
 ob : W'.heap[bo]? = W.heap[bo]?
theorem Kl.trans {U : World} (h : Kl B bh bo W V) (k : Kl B bh bo V U) : Kl B bh bo W U := ⟨h.low.trans k.low, k.hb.trans h.hb, k.ob.trans h.ob⟩
theorem Kl.fr (hB : B ≤ W.heap.size) (h1 : bh < W.heap.size) (h2 : bo < W.heap.size) (h : Fr [] W V) : Kl B bh bo W V := ⟨h.below hB (by simp), h.block _ h1 (by simp), h.block _ h2 (by simp)⟩
structure Li (B bh bo a : Nat) (l : Lay) (H : HS) (oop : Nat) (W : World) : Prop where
 rep : Rep W a l H
 foot : ∀ g ∈ foot a l, g < B
 size : B ≤ W.heap.size
 hb : W.heap[bh]? = some (.cells #[.pointer (some ⟨a, 0, none⟩)] 46 (0, 0))
 ob : W.heap[bo]? = some (.cells #[int i64 oop] 3 (0, 0))
theorem Li.kl (h : Li B bh bo a l H oop W) (k : Kl B bh bo W V) : Li B bh bo a l H oop V :=
 ⟨h.rep.congr fun g hg => k.low.block g (h.foot g hg), h.foot, jAU h.size k.low.size, k.hb.trans h.hb, k.ob.trans h.ob⟩
theorem Li.fr (h : Li B bh bo a l H oop W) (k : Fr [] W V) : Li B bh bo a l H oop V :=
 h.kl (Kl.fr h.size (kAB h.hb) (kAB h.ob) k)
theorem Li.c0 (h : Li B bh bo a l H oop W) : W.cell? ⟨bh, 0, none⟩ = some (.pointer (some ⟨a, 0, none⟩)) := by rw [kAC h.hb]; rfl
theorem Li.c1 (h : Li B bh bo a l H oop W) : W.cell? ⟨bo, 0, none⟩ = some (int i64 oop) := by rw [kAC h.ob]; rfl
def kBy (t : Th) : List Int := t.cls :: (if t.fmt = 0 then t.fB else [])
theorem kLW (n : Nat) (hn : 1 ≤ n) (lp B bh bo a : Nat) (l : Lay) (H : HS) (oop : Nat) (t : Th) (hi : Is H oop t) (hm : (H.mem.length : Int) ≤ 1048576) (J Jx : List Int → World → Prop) 
  (hJ : ∀ pre W V, J pre W → Fr [] W V → J pre V)
  (hY : ∀ pre x W, J pre W → pre.length < t.fB.length + 1 → YieldAt Fence.wide (n - 1) prog lp #[int i64 x] W fun e W' =>
   (e = .returned (.bool true) ∧ J (pre ++ [x]) W' ∧ Kl B bh bo W W') ∨ (e = .returned (.bool false) ∧ Jx (pre ++ [x]) W'))
  (W : World) (h : Li B bh bo a l H oop W) (h0 : J [] W) :
  CallsIn Fence.wide n prog 146 #[.func (.yield lp) #[] #[], .pointer (some ⟨bh, 0, none⟩), .pointer (some ⟨bo, 0, none⟩)] W fun e W' => (∃ v, e = .returned v) ∧
   ((∃ ys, ys = kBy t ∧ J ys W') ∨ (∃ pre, True ∧ Jx pre W')) := by
 have hr := hi.room;have h2' := kAR t.fB.length t.fmt
 have hC : ∀ V, Li B bh bo a l H oop V → Calls prog 53 #[.pointer (some ⟨a, 0, none⟩), int i64 oop] V fun e w' => e = .returned (.tuple #[int i64 t.cls, int i64 0]) ∧ Fr [] V w' := fun V hV => by
  have := kFc oop a l H V hV.rep hi.has (by omega) hm;rw [hi.cls] at this;exact this
 have hS : ∀ V, Li B bh bo a l H oop V → Calls prog 82 #[.pointer (some ⟨a, 0, none⟩), int i64 oop] V fun e w' => e = .returned (.tuple #[int i64 (t.fB.length : Nat), int i64 (t.fmt : Nat), int i64 0]) ∧ Fr [] V w' := fun V hV =>
  kLA oop t.fB.length t.fmt a l H V hV.rep hi.has hm (by omega) hi.shape (by have := hi.fmt; omega)
 have hA : ∀ V, Li B bh bo a l H oop V → ∀ i, i < t.fB.length → Calls prog 55 #[.pointer (some ⟨a, 0, none⟩), int i64 oop, int i64 (i : Nat)] V fun e w' => e = .returned (.tuple #[int i64 (t.fB.getD i 0), int i64 0]) ∧ Fr [] V w' := fun V hV i hin =>
  hi.at i hin a l hm V hV.rep
 have HC := kAA hC;have HS1 := kAA hS;have HA := kAA hA;have hle := hi.len;have hff := hi.fmt;have HL := kAA h;have c0 := h.c0;have c1 := h.c1;clear hC hS hA h hi hr h2';refine callsIn_of_wp func146 rfl trivial ?_ rfl;simp only [ntmps146, List.size_toArray, jBG, jBn, Nat.reduceAdd, Nat.reduceSub, Array.replicate_succ, Array.replicate_zero, List.push_toArray, List.append_toArray, jBo, List.cons_append]
 gi_wp2
 refine ⟨trivial, ?_⟩;refine (callsIn_wide.2 (HC.out W HL.out)).mono ?_;rintro e W1 ⟨rfl, hf1⟩;have h1 := HL.out.fr hf1;obtain ⟨fn, tmps, assign, body, hy, hR⟩ := hY [] t.cls W1 (hJ _ _ _ h0 hf1) (by simp);clear c0 c1 h0 hf1 HL;have H1 := kAA h1;clear h1
 gi_wp2
 refine hR.mono ?_;clear hy hR;rintro e W2 (⟨rfl, hJ2, hk2⟩ | ⟨rfl, hJx2⟩)
 case inr =>
  gi_wp2
  refine bodyPost_ret (results_none rfl _ _ _) rfl ?_;exact ⟨⟨_, rfl⟩, .inr ⟨_, trivial, hJx2⟩⟩
 have h2 := H1.out.kl hk2;have c0 := h2.c0;have c1 := h2.c1;have H2 := kAA h2;clear h2 hk2 H1
 gi_wp2
 refine ⟨trivial, ?_⟩;refine (callsIn_wide.2 (HS1.out W2 H2.out)).mono ?_;rintro e W3 ⟨rfl, hf3⟩;have h3 := H2.out.fr hf3;have hJ3 := hJ _ _ _ hJ2 hf3;have H3 := kAA h3;clear c0 c1 h3 hf3 H2 hJ2
 by_cases hf : t.fmt = 0
 case neg =>
  have hf1 : t.fmt = 1 := by omega
  have HE : Hid (kBy t = [t.cls]) := by show kBy t = [t.cls]; simp [kBy, hf]
  rw [hf1]
  gi_wp2
  refine bodyPost_ret (results_none rfl _ _ _) rfl ?_;exact ⟨⟨_, rfl⟩, .inl ⟨_, HE.out.symm, hJ3⟩⟩
 have HE : Hid (kBy t = t.cls :: t.fB) := by show kBy t = t.cls :: t.fB; simp [kBy, hf]
 rw [hf];clear hf
 gi_wp2
 gi_loopw [32] (fun i wr => ∃ k : Nat, k ≤ t.fB.length ∧ i = int i64 k ∧ J (t.cls :: t.fB.take k) wr ∧ Hid (Li B bh bo a l H oop wr))
  (fun i _ => t.fB.length - (intOf i).toNat)
 case atStart => exact ⟨0, jAH _, rfl, by simpa using hJ3, H3⟩
 case round =>
  obtain ⟨k, hk, rfl, hJs, HLr⟩ := hrel
  by_cases hlt : k < t.fB.length
  ·have c0 := HLr.out.c0;have c1 := HLr.out.c1
   gi_wp2
   refine ⟨trivial, ?_⟩;refine (callsIn_wide.2 (HA.out wr HLr.out k hlt)).mono ?_;rintro e W5 ⟨rfl, hf5⟩;have h5 := HLr.out.fr hf5;obtain ⟨fn, tmps, assign, body, hy, hR⟩ := hY _ (t.fB.getD k 0) W5 (hJ _ _ _ hJs hf5) (by simp; omega);have HL5 := kAA h5
   have HT : Hid (t.cls :: t.fB.take (k + 1) = (t.cls :: t.fB.take k) ++ [t.fB.getD k 0]) := by
    show t.cls :: t.fB.take (k + 1) = (t.cls :: t.fB.take k) ++ [t.fB.getD k 0];rw [jAO hlt, jAA, jAB hlt]; rfl
   clear h5 hf5 hJs c0 c1;generalize t.fB.getD k 0 = x at *
   gi_wp2
   refine hR.mono ?_;clear hy hR;rintro e W6 (⟨rfl, hJ6, hk6⟩ | ⟨rfl, hJx6⟩)
   ·have HL6 := kAA (HL5.out.kl hk6)
    gi_wp2
    go_roundw
    case rel => exact ⟨k + 1, by omega, by simp, by rw [HT.out]; exact hJ6, HL6⟩
    case measure => simp [intOf]; omega
   ·gi_wp2
    refine bodyPost_ret (results_none rfl _ _ _) rfl ?_;exact ⟨⟨_, rfl⟩, .inr ⟨_, trivial, hJx6⟩⟩
  ·obtain rfl : k = t.fB.length := by omega
   gi_wp2
   go_end0
   exact ⟨⟨_, rfl⟩, .inl ⟨_, HE.out.symm, by simpa using hJs⟩⟩
theorem kHu (h : Fr [] W V) : W.grownBy V none := ⟨h.os, h.tape, h.output, h.size, fun k hk _ => h.block k hk (by simp)⟩
theorem kHc (n : Nat) (hn : 1 ≤ n) (B bh bo a : Nat) (l : Lay) (H : HS) (oop : Nat) (t : Th) (hi : Is H oop t) (hm : (H.mem.length : Int) ≤ 1048576) (w : World) (h : Li B bh bo a l H oop w) :
  SeqStopsK Fence.wide n prog 146 #[.pointer (some ⟨bh, 0, none⟩), .pointer (some ⟨bo, 0, none⟩)] (fun x : Int => #[int i64 x]) (Kl B bh bo) (fun ys => ys = kBy t) (fun _ => True) (t.fB.length + 1) w := fun lp J Jx W hW hJ _ hY h0 => by
 have hk : Kl B bh bo w W := ⟨hW.mono h.size, hW.block _ (kAB h.hb), hW.block _ (kAB h.ob)⟩;exact kLW n hn lp B bh bo a l H oop t hi hm J Jx (fun pre V U hj hf => hJ pre V U none hj (kHu hf) (by simp)) hY W (h.kl hk) h0
theorem kMn (n : Nat) (a : Nat) (oop : Int) (w : World) :
  CallsIn Fence.wide n prog 124 #[.pointer (some ⟨a, 0, none⟩), int i64 oop] w fun e w' => e = .returned (.func (.func 146) #[] #[.pointer (some ⟨w.heap.size, 0, none⟩), .pointer (some ⟨w.heap.size + 1, 0, none⟩)]) ∧ w' = (w.alloc (.cells #[.pointer (some ⟨a, 0, none⟩)] 46)).alloc (.cells #[int i64 oop] 3) := by
 refine callsIn_of_wp func124 rfl trivial ?_ rfl;simp only [ntmps124, List.size_toArray, jBG, jBn, Nat.reduceAdd, Nat.reduceSub, Array.replicate_succ, Array.replicate_zero, List.push_toArray, List.append_toArray, jBo, List.cons_append]
 gi_wp2
 go_ret
 exact ⟨rfl, rfl⟩
def kOi (D : Nat) : Deferred := { target := .collected D, args := #[] }
structure Shut (Ds : List Nat) (w w' : World) : Prop where
 fr : Fr Ds w w'
 size : w'.heap.size = w.heap.size
theorem kEE {F : Fence} {n : Nat} {P : Program} {fn : Func} {tmps : Array Value} {R : Ending → World → Prop} : ∀ (Ds : List Nat) (w : World), Ds.Nodup → (∀ D ∈ Ds, w.heap[D]? = some (.deferred (some []))) →
  (∀ w', Shut Ds w w' → LeavesIn F n P fn tmps R [] .returning w') → LeavesInM F n P fn tmps R (Ds.map kOi) .returning w
 | [], w, _, _, h => h w ⟨Fr.refl _ _, rfl⟩
 | D :: Ds, w, hd, hk, h => by
  have hD := hk D (by simp);obtain ⟨h1, h2⟩ := List.nodup_cons.1 hd;have hg := grownBy_putObj' w D (.deferred none);refine ⟨by simp, .inl ⟨D, _, rfl, run_takeDeferred hD, kEE Ds _ h2 (fun E hE => ?_) fun w' hw' => h w' ⟨?_, ?_⟩⟩⟩
  ·rw [hg.block E (kAB (hk E (by simp [hE]))) (fun e => by cases e; exact h1 hE)];exact hk E (by simp [hE])
  ·exact ((Fr.grown (S := [D]) hg (by simp)).mono (S' := D :: Ds) (by simp)).trans hw'.fr (fun b hb => .inl (by simp [hb]))
  ·rw [hw'.size]; simp [World.putObj]
end Go.Proofs.YtflgicdbbogllaaGreatDoor
namespace Go.Proofs.YtflgicdbbogllaaGreatDoor
open Go.RowKit Tryz
open Value (int)
open IntKind (i64)
attribute [local go_sem ↓] wp_at_zero wp_at_succ
variable {H : HS} {n q : Nat}
theorem kDJ : ∀ (n : Nat) (l : List Nat), l.Nodup → (∀ q ∈ l, q < n) → l.length ≤ n
 | 0, l, _, h => by
  cases l with
  | nil => simp
  | cons x l => exact absurd (h x (by simp)) (by omega)
 | n + 1, l, hd, h => by
  have h1 := kDJ n (l.erase n) (hd.erase n) (fun q hq => by
   have h2 := (hd.mem_erase_iff).1 hq;have := h q h2.2;have := h2.1;omega)
  have h3 := List.length_erase (a := n) (l := l)
  split at h3 <;> omega
structure Sh (n : Nat) (s : List Nat × List Nat) : Prop where
 rd : s.1.Nodup
 rlt : ∀ q ∈ s.1, q < n
 ad : s.2.Nodup
 sub : ∀ q ∈ s.2, q ∈ s.1
theorem Sh.rlen {s : List Nat × List Nat} (h : Sh n s) : s.1.length ≤ n := kDJ n _ h.rd h.rlt
theorem Sh.alen {s : List Nat × List Nat} (h : Sh n s) : s.2.length ≤ n := kDJ n _ h.ad fun q hq => h.rlt q (h.sub q hq)
theorem kDs {l : List Nat} (h : l.Nodup) (hq : q ∉ l) : (l ++ [q]).Nodup := by
 rw [List.nodup_append];exact ⟨h, by simp, fun a ha b hb e => by simp at hb; exact hq (by rw [← hb, ← e]; exact ha)⟩
theorem Sh.step {s : List Nat × List Nat} (h : Sh n s) (H : HS) (z : Int) (hz : kAi H z = true → (z / 4).toNat < n) : Sh n (kAo H s z) := by
 unfold kAo
 split
 ·rename_i c
  refine ⟨kDs h.rd c.2, fun q hq => ?_, kDs h.ad (fun hm => c.2 (h.sub _ hm)), fun q hq => ?_⟩
  ·rcases jAC.1 hq with h1 | h1
   ·exact h.rlt q h1
   ·have : q = (z / 4).toNat := by simpa using h1
    rw [this]; exact hz c.1
  ·rcases jAC.1 hq with h1 | h1
   ·exact jAC.2 (.inl (h.sub q h1))
   ·exact jAC.2 (.inr h1)
 ·exact h
theorem Sh.fold (H : HS) (hz : ∀ z, kAi H z = true → (z / 4).toNat < n) : ∀ (zs : List Int) (s : List Nat × List Nat), Sh n s → Sh n (zs.foldl (kAo H) s)
 | [], s, h => h
 | z :: zs, s, h => Sh.fold H hz zs _ (h.step H z (hz z))
theorem kLr (H : HS) (s : List Nat × List Nat) (z : Int) : ∃ k, (kAo H s z).1.length = s.1.length + k ∧ (kAo H s z).2.length = s.2.length + k := by
 unfold kAo
 split
 ·exact ⟨1, by simp, by simp⟩
 ·exact ⟨0, rfl, rfl⟩
theorem kIf (H : HS) : ∀ (zs : List Int) (s : List Nat × List Nat), ∃ k, (zs.foldl (kAo H) s).1.length = s.1.length + k ∧ (zs.foldl (kAo H) s).2.length = s.2.length + k
 | [], s => ⟨0, rfl, rfl⟩
 | z :: zs, s => by
  obtain ⟨k, h1, h2⟩ := kLr H s z;obtain ⟨j, h3, h4⟩ := kIf H zs (kAo H s z);exact ⟨k + j, by rw [List.foldl_cons, h3, h1]; omega, by rw [List.foldl_cons, h4, h2]; omega⟩
theorem kMF (H : HS) (s : List Nat × List Nat) (z : Int) : (∀ q ∈ s.1, q ∈ (kAo H s z).1) ∧ (∀ q ∈ s.2, q ∈ (kAo H s z).2) ∧ (∀ q ∈ (kAo H s z).1, q ∈ s.1 ∨ (q ∈ (kAo H s z).2 ∧ kAi H z = true ∧ q = (z / 4).toNat)) ∧ (kAi H z = true → (z / 4).toNat ∈ (kAo H s z).1) := by
 unfold kAo
 split
 ·rename_i c
  refine ⟨fun q hq => by simp [hq], fun q hq => by simp [hq], fun q hq => ?_, fun _ => by simp⟩;rcases jAC.1 hq with h1 | h1
  ·exact .inl h1
  ·exact .inr ⟨jAC.2 (.inr h1), c.1, by simpa using h1⟩
 ·rename_i c
  exact ⟨fun q hq => hq, fun q hq => hq, fun q hq => .inl hq, fun hz => Classical.byContradiction fun hn => c ⟨hz, hn⟩⟩
theorem kEV (H : HS) : ∀ (zs : List Int) (s : List Nat × List Nat), (∀ q ∈ s.1, q ∈ (zs.foldl (kAo H) s).1) ∧ (∀ q ∈ s.2, q ∈ (zs.foldl (kAo H) s).2) ∧
  (∀ q ∈ (zs.foldl (kAo H) s).1, q ∈ s.1 ∨ (q ∈ (zs.foldl (kAo H) s).2 ∧ ∃ z ∈ zs, kAi H z = true ∧ q = (z / 4).toNat)) ∧ (∀ z ∈ zs, kAi H z = true → (z / 4).toNat ∈ (zs.foldl (kAo H) s).1)
 | [], s => ⟨fun q hq => hq, fun q hq => hq, fun q hq => .inl hq, fun z hz => by simp at hz⟩
 | z :: zs, s => by
  obtain ⟨a1, a2, a3, a4⟩ := kMF H s z;obtain ⟨b1, b2, b3, b4⟩ := kEV H zs (kAo H s z);rw [List.foldl_cons];refine ⟨fun q hq => b1 q (a1 q hq), fun q hq => b2 q (a2 q hq), fun q hq => ?_, fun y hy hn => ?_⟩
  ·rcases b3 q hq with h1 | ⟨h1, y, hy, h2⟩
   ·rcases a3 q h1 with h3 | ⟨h3, h4⟩
    ·exact .inl h3
    ·exact .inr ⟨b2 q h3, z, by simp, h4⟩
   ·exact .inr ⟨h1, y, by simp [hy], h2⟩
  ·rcases jAF.1 hy with e | h1
   ·rw [e] at hn ⊢; exact b1 _ (a4 hn)
   ·exact b4 y h1 hn
def lk (M : MS) (q : Nat) : List Int := kBy (M.fA.getD (q - 1) noTh)
structure Cl (H : HS) (M : MS) (roots : List Int) (X : Nat → Prop) : Prop where
 fN : ∀ z ∈ roots, kAi H z = true → X (z / 4).toNat
 on : ∀ q, X q → ∀ z ∈ lk M q, kAi H z = true → X (z / 4).toNat
structure Sr (H : HS) (M : MS) (roots : List Int) (s : List Nat × List Nat) : Prop where
 fI : ∀ q ∈ s.1, has H (q : Int) = true
 fN : ∀ z ∈ roots, kAi H z = true → (z / 4).toNat ∈ s.1
 on : ∀ q ∈ s.1, q ∈ s.2 ∨ ∀ z ∈ lk M q, kAi H z = true → (z / 4).toNat ∈ s.1
 least : ∀ X, Cl H M roots X → ∀ q ∈ s.1, X q
theorem kCJ {z : Int} (h : kAi H z = true) : has H (((z / 4).toNat : Nat) : Int) = true ∧ 0 ≤ z / 4 := by
 unfold kAi at h;simp only [jBA, decide_eq_true_eq] at h;obtain ⟨h1, h2⟩ := h;have h0 : 0 ≤ z / 4 := by have := (kHT z).1 h1; omega
 refine ⟨?_, h0⟩;rw [Int.toNat_of_nonneg h0];exact h2
theorem Sr.start (H : HS) (M : MS) (roots : List Int) : Sr H M roots (roots.foldl (kAo H) ([], [])) := by
 obtain ⟨a1, a2, a3, a4⟩ := kEV H roots ([], []);refine ⟨fun q hq => ?_, a4, fun q hq => ?_, fun X hX q hq => ?_⟩
 ·rcases a3 q hq with h | ⟨_, z, _, h1, h2⟩
  ·simp at h
  ·rw [h2]; exact (kCJ h1).1
 ·rcases a3 q hq with h | ⟨h, _⟩
  ·simp at h
  ·exact .inl h
 ·rcases a3 q hq with h | ⟨_, z, hz, h1, h2⟩
  ·simp at h
  ·rw [h2]; exact hX.fN z hz h1
theorem Sr.step {M : MS} {roots : List Int} {rs ah : List Nat} (h : Sr H M roots (rs, ah ++ [q])) (hq : q ∈ rs) : Sr H M roots ((lk M q).foldl (kAo H) (rs, ah)) := by
 obtain ⟨a1, a2, a3, a4⟩ := kEV H (lk M q) (rs, ah);refine ⟨fun p hp => ?_, fun z hz hn => a1 _ (h.fN z hz hn), fun p hp => ?_, fun X hX p hp => ?_⟩
 ·rcases a3 p hp with h1 | ⟨_, z, _, h1, h2⟩
  ·exact h.fI p h1
  ·rw [h2]; exact (kCJ h1).1
 ·rcases a3 p hp with h1 | ⟨h1, _⟩
  ·by_cases e : p = q
   ·right; intro z hz hn; rw [e] at hz; exact a4 z hz hn
   ·rcases h.on p h1 with h2 | h2
    ·left
     rcases jAC.1 h2 with h3 | h3
     ·exact a2 p h3
     ·simp at h3; exact absurd h3 e
    ·right; intro z hz hn; exact a1 _ (h2 z hz hn)
  ·exact .inl h1
 ·rcases a3 p hp with h1 | ⟨_, z, hz, h1, h2⟩
  ·exact h.least X hX p h1
  ·rw [h2]; exact hX.on q (h.least X hX q hq) z hz h1
end Go.Proofs.YtflgicdbbogllaaGreatDoor
