import Derived.Test.YtflgicdbbogllaaGreatDoorPG00HBit
import Derived.Deep.RegionHeld3
import Derived.Deep.DrawnRows
import Derived.Laws.CopyOwn
import Derived.Laws.MakeOwn
import Derived.Deep.DeepMust
set_option maxHeartbeats 1000000
set_option maxRecDepth 20000
set_option linter.unusedSimpArgs false
set_option linter.unusedVariables false
namespace Go.Proofs.YtflgicdbbogllaaGreatDoor
open Go.RowKit Tryz
open Value (int)
open IntKind (i64)
attribute [local go_sem ↓] wp_at_zero wp_at_succ
variable {H : HS} {a : Nat} {l : Lay} {w w' : World}
theorem kQM : (prog.info? 180).map (fun i => (i.zero, i.size, i.bytes)) = some (some (.int .u64 0), 1, 8) := by kernel_rfl
def kHO (bits : List Nat) (n : Nat) : List Nat := bits ++ List.replicate (n - bits.length) 0
def kBB (bits : List Nat) (k : Nat) : List Nat := (kHO bits ((k - 1) / 64 + 1)).set ((k - 1) / 64) ((kHO bits ((k - 1) / 64 + 1)).getD ((k - 1) / 64) 0 ||| 2 ^ ((k - 1) % 64))
theorem or_u64 (b j : Nat) (hb : b ≤ full) : Go.bits .or .u64 (b : Int) ((2 ^ (j % 64) : Nat) : Int) = ((b ||| 2 ^ (j % 64) : Nat) : Int) := by
 have h : 2 ^ (j % 64) < 2 ^ 64 := jBg (by omega) (Nat.mod_lt _ (by omega));exact bits_or_u64_nat b _ (by unfold full at hb; omega) (by omega)
theorem kER (g o : Nat) : blk (some ⟨g, o, none⟩) = [g] := rfl
theorem kLO {w w1 : World} {a : Nat} {l : Lay} {H : HS} {g cap : Nat} (h : Rep w a l H) (hown : w1.ownsRow 0 180 1 (.slice (some ⟨g, 0, none⟩) (H.bits.length + 1) cap) (H.bits.length + 1) (H.bits.map U ++ [.int .u64 0]))
  (hg : (w.alloc (.cells #[.int .u64 0] 180)).grownBy w1 (Value.ownBlock (.slice l.pb H.bits.length l.cb))) (hat : Value.ownBlock (.slice l.pb H.bits.length l.cb) = some g ∨ g = w.heap.size + 1) :
  Rep (w1.setCell ⟨a, 7, none⟩ (.slice (some ⟨g, 0, none⟩) (H.bits.length + 1) cap)) a { l with pb := some ⟨g, 0, none⟩, cb := cap } { H with bits := H.bits ++ [0] } ∧
  Nx a l { l with pb := some ⟨g, 0, none⟩, cb := cap } w (w1.setCell ⟨a, 7, none⟩ (.slice (some ⟨g, 0, none⟩) (H.bits.length + 1) cap)) := by
 have hblk : ∀ k, k < w.heap.size → k ∉ blk l.pb → w1.heap[k]? = w.heap[k]? := fun k hk hn => by
  rw [hg.block k (by simp; omega) (fun e => hn ((kBE _ _ _ _).1 e.symm))];exact jAN _ _ _ hk
 have hf : ∀ k, k = a ∨ k ∈ blk l.pm ∨ k ∈ blk l.ps ∨ k ∈ blk l.po → w1.heap[k]? = w.heap[k]? := fun k hk => by
  have hlt : k < w.heap.size := h.lt k (by simp only [foot, Lay.blocks, jAF, jAC]; rcases hk with h1 | h1 | h1 | h1 <;> simp [h1]);refine hblk k hlt (fun hb => ?_);have hp := (h.apart k).2.2.2 hb;rcases hk with h1 | h1 | h1 | h1
  ·exact hp.1 h1
  ·exact hp.2.1 h1
  ·exact hp.2.2.1 h1
  ·exact hp.2.2.2 h1
 refine ⟨?_, ?_, ?_⟩
 ·have := h.putBits (pb := some ⟨g, 0, none⟩) (cb := cap) (bs := H.bits ++ [0]) hf (by simpa [U] using hown)
  simpa using this
 ·refine Fr.trans (S := foot a l) (S' := foot a l) (w' := w1) ⟨hg.os, hg.tape, hg.output, by have := hg.size; simp at this; omega, fun k hk hn => hblk k hk (fun hb => hn (by simp [foot, Lay.blocks, hb]))⟩ (Fr.setCell _ _ _ (by simp [foot])) (fun b hb => .inl hb)
 ·intro b hb;simp only [foot, Lay.blocks, jAF, jAC, kER] at hb ⊢;rcases hb with h1 | ((h1 | h1) | h1) | h1
  ·exact .inl (.inl h1)
  ·exact .inl (.inr (.inl (.inl (.inl h1))))
  ·exact .inl (.inr (.inl (.inl (.inr h1))))
  ·exact .inl (.inr (.inl (.inr h1)))
  ·simp at h1
   subst h1;rcases hat with h2 | h2
   ·exact .inl (.inr (.inr ((kBE _ _ _ _).1 h2)))
   ·right; omega
def Eqw (w w' : World) : Prop := w'.os = w.os ∧ w'.tape = w.tape ∧ w'.output = w.output ∧ w'.heap = w.heap
theorem Eqw.fr (h : Eqw w w') (S : List Nat) : Fr S w w' := Fr.same S h.1 h.2.1 h.2.2.1 h.2.2.2
theorem kGi (B : List Nat) (i z : Nat) : (B.map U).set i (.int .u64 (z : Int)) = (B.set i z).map U := by rw [List.map_set]; rfl
theorem Rep.eqw (h : Rep w a l H) (e : Eqw w w') : Rep w' a l H := h.congr fun g _ => by rw [e.2.2.2]
theorem Nx.eqw {w'' : World} {l' : Lay} (h : Nx a l l' w w') (e : Eqw w' w'') : Nx a l l' w w'' := ⟨h.1.trans (e.fr []) (by simp), h.2⟩
theorem kNK {w2 : World} {g i z : Nat} (h : Rep w a l H) (hg : l.pb = some ⟨g, 0, none⟩) (he : Eqw ((w.setCell ⟨g, i, none⟩ (.int .u64 (z : Int))).setCell ⟨a, 9, none⟩ (int i64 ((H.count : Int) + 1))) w2) :
  Rep w2 a l { H with bits := H.bits.set i z, count := H.count + 1 } ∧ Nx a l l w w2 := by
 have hgb : g ∈ blk l.pb := by rw [hg]; simp [blk]
 have hap := (h.apart g).2.2.2 hgb;have hb := h.bits;rw [hg] at hb;have hb1 := kBn hb i (.int .u64 (z : Int));rw [kGi, ← hg] at hb1
 have h2 : Rep (w.setCell ⟨g, i, none⟩ (.int .u64 (z : Int))) a l { H with bits := H.bits.set i z } := by
  refine h.turnBits (by simp) (fun k hk => kAK (fun e => ?_)) (by simpa using hb1);subst e;rcases hk with h1 | h1 | h1 | h1
  ·exact hap.1 h1
  ·exact hap.2.1 h1
  ·exact hap.2.2.1 h1
  ·exact hap.2.2.2 h1
 have f1 : Fr (foot a l) w (w.setCell ⟨g, i, none⟩ (.int .u64 (z : Int))) := Fr.setCell _ _ _ (by simp [foot, Lay.blocks, hgb]);exact ⟨Rep.eqw (h2.set (H' := { H with bits := H.bits.set i z, count := H.count + 1 }) 9 _ rfl rfl rfl rfl rfl) he, (Nx.frw (f1.trans (Fr.setCell (S := foot a l) _ _ _ (by simp [foot])) (fun b hb => .inl hb))).eqw he⟩
theorem kPL (k : Nat) (a : Nat) (l : Lay) (H : HS) (w : World) (h : Rep w a l H) (hk0 : (1 : Int) ≤ k) (hk1 : (k : Int) ≤ 65537) (hb : ∀ k, H.bits.getD k 0 ≤ full) (hn : (H.bits.length : Int) ≤ 1100) (hc : (H.count : Int) ≤ 100000) :
  Calls prog 137 #[.pointer (some ⟨a, 7, none⟩), int i64 k] w fun e w' => e = .returned (.tuple #[]) ∧ ∃ l', Rep w' a l' { H with bits := kBB H.bits k, count := H.count + 1 } ∧ Nx a l l' w w' := by
 obtain ⟨i0, hi, hz0, hz1, hz2⟩ := info_parts kQM;have hd : ((k : Int) - 1) / 64 = (((k - 1) / 64 : Nat) : Int) := by omega
 have hd2 : (((k - 1) / 64 : Nat) : Int) ≤ 1024 := by omega
 obtain ⟨i, hi2⟩ := jex ((k - 1) / 64);rw [← hi2] at hd hd2;have HI : Hid (i = (k - 1) / 64) := hi2;clear hi2;go_enter func137, ntmps137
 go_wp2
 simp only [hd];have HD : Hid (((k : Int) - 1) / 64 = (i : Int)) := hd;clear hd
 go_loopg [] (i + 1 - H.bits.length) (fun gk wr => ∃ m l', gk = i + 1 - (H.bits.length + m) ∧ (m = 0 ∨ H.bits.length + m ≤ i + 1) ∧ Rep wr a l' { H with bits := H.bits ++ List.replicate m 0 } ∧ Nx a l l' w wr)
 case atStart => exact ⟨0, l, rfl, .inl rfl, by simpa using h, Nx.refl _ _ _⟩
 case round =>
  clear h;obtain ⟨m, l', rfl, hm, hr, hx⟩ := hrel;obtain ⟨B, hB⟩ := jex (H.bits ++ List.replicate m 0);have hBl : B.length = H.bits.length + m := by rw [hB]; simp
  rw [← hB] at hr;have c7 := hr.c7;have c9 := hr.c9;have f7 := hr.frozen 7;have f9 := hr.frozen 9;dsimp only at c7 c9
  by_cases hle : B.length ≤ i
  ·have hle' : ((B.length : Nat) : Int) ≤ (i : Int) := by omega
   have G := fun w1 g cap => @kLO wr w1 a l' { H with bits := B } g cap hr
   have HG := G;clear G;have hown := hr.bits;dsimp only at hown HG;have HM : Hid (B = H.bits ++ List.replicate m 0 ∧ B.length = H.bits.length + m ∧ Nx a l l' w wr) := ⟨hB, hBl, hx⟩;have hmx : Hid (i + 1 - (H.bits.length + (m + 1)) < i + 1 - (H.bits.length + m)) := by unfold Hid; omega
   have hmy : Hid (H.bits.length + (m + 1) ≤ i + 1) := by unfold Hid; omega
   have hne : a < wr.heap.size := hr.lt a (by simp [foot]);have hra : some a ≠ Value.ownBlock (.slice l'.pb B.length l'.cb) := fun e => (hr.apart a).2.2.2 ((kBE _ _ _ _).1 e.symm) |>.1 rfl
   clear hr hx hB hBl hm hb hn HI
   go_wp2_with (first | (at_builtin; refine wpList_append_lies _ rfl (.tmp 19) (.tmp 20) 89 rfl 0 180 i0 (.int .u64 0) 1 8 underlying89 hi hz0 hz1 hz2 rfl (by decide) _ _ _ rfl (hown.alloc _) ⟨wr.heap.size, 0, none⟩ 1 1 [.int .u64 0] rfl rfl ?c1 ?c2 (by omega) ?c3 ?c4 (by simp) (wr.heap.size + 1) (by simp) ?_) | go_in)
   case c1 =>
    intro j u hj
    match j, hj with
    | 0, hj => simp at hj; subst hj; simp [Addr.add]
   case c2 => intro u hu; simp at hu; subst hu; rfl
   case c3 => unfold maxLen; omega
   case c4 => omega
   intro g cap w1 hown' hgrow hat hlt;have d7 := (hgrow.cell_far ⟨a, 7, none⟩ (by simp; omega) hra).trans ((jAE (o := .cells #[.int .u64 0] 180) (w := wr) (a := ⟨a, 7, none⟩) hne).trans c7);have e7 := (hgrow.frozen_far ⟨a, 7, none⟩ (by simp; omega) hra).trans ((jBB (o := .cells #[.int .u64 0] 180) (w := wr) (a := ⟨a, 7, none⟩) (by show a ≠ _; omega)).trans f7);have K := HG w1 g cap hown' hgrow hat;have HK : Hid _ := K;clear K HG hgrow hown' hown hat
   go_wp2
   go_roundg (i + 1 - (H.bits.length + (m + 1)))
   case measure => exact hmx.out
   case rel =>
    obtain ⟨q1, q2, q3⟩ := HM.out;refine ⟨m + 1, _, rfl, .inr hmy.out, ?_, q3.trans HK.out.2⟩;rw [jBY, ← jAu, ← q1];exact HK.out.1
  ·have hil : i < B.length := by omega
   have hpad : Hid (B = kHO H.bits ((k - 1) / 64 + 1)) := by
    have := HI.out;have e : (k - 1) / 64 + 1 - H.bits.length = m := by omega
    unfold kHO Hid;rw [hB, e]
   have hBb : ∀ j, B.getD j 0 ≤ full := by
    intro j;rw [hB]
    by_cases hj : j < H.bits.length
    ·have := hb j;simp only [jAA, jAK hj] at this ⊢;exact this
    ·simp only [jAA, jAI (Nat.le_of_not_lt hj), jAo]
     split <;> simp [full]
   obtain ⟨g, hg, cg, fg, hga⟩ := hr.bitAt i hil;dsimp only at hg cg;rw [hg] at c7;have hou := or_u64 (B.getD i 0) (k - 1) (hBb i);have i1 := ng i;have i2 : (i : Int) < B.length := by omega
   have i3 : (B.length : Int) ≤ i → False := by omega
   have HR : Hid (Nx a l l' w wr ∧ ∀ w2, Eqw ((wr.setCell ⟨g, i, none⟩ (.int .u64 ((B.getD i 0 ||| 2 ^ ((k - 1) % 64) : Nat) : Int))).setCell ⟨a, 9, none⟩ (int i64 ((H.count : Int) + 1))) w2 → Rep w2 a l' { H with bits := kBB H.bits k, count := H.count + 1 } ∧ Nx a l' l' wr w2) := by
    refine ⟨hx, fun w2 he => ?_⟩;have K := kNK hr hg he;have e : kBB H.bits k = B.set i (B.getD i 0 ||| 2 ^ ((k - 1) % 64)) := by unfold kBB; rw [← hpad.out, ← HI.out]
    rw [e];exact K
   have hc0 := ng H.count;have hg0 : a < wr.heap.size := hr.lt a (by simp [foot]);clear hr hx hB hBl hm hb hBb hle i3 hn HI hg hil;generalize B.getD i 0 = b at *;generalize hN : B.length = n at *;have HN : Hid (B.length = n) := hN;clear hN;generalize b ||| 2 ^ ((k - 1) % 64) = z at *
   generalize hy : 2 ^ ((k - 1) % 64) = y at *;have Hbit := kKD k;rw [hy] at Hbit;have HB : Hid _ := Hbit;clear hy Hbit
   go_wp2
   go_region_with (go_at_call 149; refine (HB.out _ hk0 (by omega)).mono ?_; rintro e w' ⟨rfl, rfl⟩)
   all_goals go_wp2
   all_goals
    go_end0
    refine ⟨rfl, l', (HR.out.2 _ ?_).1, HR.out.1.trans (HR.out.2 _ ?_).2⟩
   all_goals exact ⟨rfl, rfl, rfl, rfl⟩
end Go.Proofs.YtflgicdbbogllaaGreatDoor
namespace Go.Proofs.YtflgicdbbogllaaGreatDoor
open Go.RowKit Tryz
open Value (int)
open IntKind (i64)
variable {H : HS} {a : Nat} {l : Lay} {w : World}
def kDd (C : Array Value) (off : Nat) (v : Value) : Nat → Array Value
 | 0 => C
 | k + 1 => (kDd C off v k).setIfInBounds (off + k) v
theorem kJS (C : Array Value) (off : Nat) (v : Value) (k : Nat) : (kDd C off v k).size = C.size := by
 induction k with
 | zero => rfl
 | succ k ih => simp [kDd, ih]
theorem kIl (b off n c : Nat) (ao : Option Addr) (v : Int) (w : World) (C : Array Value) (hn : (n : Int) ≤ 1048576) (hw : n ≠ 0 → ao = some ⟨b, off, none⟩) (hb : w.heap[b]? = some (.cells C 41 (0, 0))) (hC : off + n ≤ C.size) :
  Calls prog 136 #[.slice ao n c, int i64 v] w fun e w' => e = .returned (.tuple #[]) ∧ w'.heap[b]? = some (.cells (kDd C off (int i64 v) n) 41 (0, 0)) ∧ Fr [b] w w' ∧ w'.heap.size = w.heap.size := by
 have hbl := kAB hb;go_enter func136, ntmps136
 go_wp2
 go_loopw [7] (fun i wr => ∃ k : Nat, k ≤ n ∧ i = int i64 k ∧ wr.heap[b]? = some (.cells (kDd C off (int i64 v) k) 41 (0, 0)) ∧ Fr [b] w wr ∧ wr.heap.size = w.heap.size) (fun i _ => n - (intOf i).toNat)
 case atStart => exact ⟨0, jAH _, rfl, hb, Fr.refl _ _, rfl⟩
 case round =>
  obtain ⟨k, hk, rfl, hr, hf, hz⟩ := hrel
  by_cases hkn : k < n
  ·have e := hw (by omega);subst e;have hsz := kJS C off (int i64 v) k;have R : Hid ((wr.setCell ⟨b, off + k, none⟩ (int i64 v)).heap[b]? = some (.cells (kDd C off (int i64 v) (k + 1)) 41 (0, 0))) := kAI hr (off + k) _;have F : Hid (Fr [b] w (wr.setCell ⟨b, off + k, none⟩ (int i64 v))) := hf.trans (Fr.setCell (S := [b]) _ _ _ (by simp)) (by simp);have fz := kAD hr (off + k);have cl := kAC hr (off + k);rw [Array.getElem?_eq_getElem (by omega)] at cl;generalize (kDd C off (int i64 v) k)[off + k] = old at cl;have k1 : (0 : Int) ≤ k := by omega
   have k2 : (k : Int) < n := by omega
   clear hr hf hb hw
   go_wp2
   go_roundw
   case rel => exact ⟨k + 1, by omega, by go_num, R.out, F.out, by simpa using hz⟩
   case measure => simp [intOf]; omega
  ·have hkn' : k = n := by omega
   subst hkn';have P : Hid (wr.heap[b]? = some (.cells (kDd C off (int i64 v) k) 41 (0, 0)) ∧ Fr [b] w wr ∧ wr.heap.size = w.heap.size) := ⟨hr, hf, hz⟩;clear hr hf hb hw
   go_wp2
   go_end0
   exact ⟨rfl, P.out⟩
theorem kCx : (prog.info? 41).map (fun i => (i.zero, i.size, i.bytes)) = some (some (int i64 0), 1, 8) := by kernel_rfl
def kDQ (n : Nat) : List Value := List.replicate n (int i64 0)
theorem kGZ (n : Nat) : (kDQ n).length = n := by simp [kDQ]
theorem kIx (l c : Nat) (h1 : l ≤ c) (h2 : c ≤ 1048576) (L C : Int) (hL : L = l) (hC : C = c) (W : World) :
  (Instr.makeSlice 35 (int i64 L) (int i64 C)).run prog W = .ok (.slice (some ⟨W.heap.size, 0, none⟩) l c) (W.alloc (.cells (kDQ c).toArray 41)) := by
 obtain ⟨i0, hi, hz0, hz1, hz2⟩ := info_parts kCx;subst hL hC;have h := run_make (P := prog) W 35 41 i0 (int i64 0) underlying35 hi hz0 .i64 .i64 l c (by omega) (by omega) (by rw [hz2]; omega) (by omega)
 have e : madeCells (int i64 0).cells c = (kDQ c).toArray := by
  apply Array.toList_inj.1;show (madeCells #[int i64 0] c).toList = _;rw [toList_madeCells_one];rfl
 rw [h, hz1, jBk, jAj, jAj, e]
theorem kNp {w w1 : World} {a : Nat} {l : Lay} {H : HS} {n cap : Nat} (h : Rep w a l H) (hcap : H.mem.length + n ≤ cap) (hcm : cap ≤ 1048576)
  (h1 : w1.heap[w.heap.size]? = some (.cells (splice (kDQ cap) 0 (H.mem.map (int i64))).toArray 41 (0, 0))) (hb : Below w.heap.size w w1) (w2 : World) (he : Eqw (w1.setCell ⟨a, 4, none⟩ (.slice (some ⟨w.heap.size, 0, none⟩) (H.mem.length + n) cap)) w2) :
  Rep w2 a { l with pm := some ⟨w.heap.size, 0, none⟩, cm := cap } { H with mem := H.mem ++ List.replicate n 0 } ∧ Nx a l { l with pm := some ⟨w.heap.size, 0, none⟩, cm := cap } w w2 := by
 have hsp : splice (kDQ cap) 0 (H.mem.map (int i64)) = (H.mem ++ List.replicate n (0 : Int) ++ List.replicate (cap - (H.mem ++ List.replicate n (0 : Int)).length) (0 : Int)).map (int i64) := by
  simp only [splice, kDQ, List.take_zero, jBo, jAR, jAl, List.drop_replicate, jAP, List.map_replicate, jAu, jAG, jAY]
  congr 1
  rw [jBN]
  congr 1
  omega
 have ho : w1.ownsRow 0 41 1 (.slice (some ⟨w.heap.size, 0, none⟩) cap cap) cap ((H.mem ++ List.replicate n (0 : Int) ++ List.replicate (cap - (H.mem ++ List.replicate n (0 : Int)).length) (0 : Int)).map (int i64)) := by
  rw [hsp] at h1;have hl : ((H.mem ++ List.replicate n (0 : Int) ++ List.replicate (cap - (H.mem ++ List.replicate n (0 : Int)).length) (0 : Int)).map (int i64)).length = cap := by simp; omega
  refine ⟨by rw [hl]; omega, .inr ⟨w.heap.size, cap, _, rfl, jAH _, h1, jAD _, by unfold maxLen; omega, by simpa using hl, ?_⟩⟩;rw [jBO (by rw [jBk]; exact Nat.le_of_eq hl)]
 have hf : ∀ g, g = a ∨ g ∈ blk l.ps ∨ g ∈ blk l.po ∨ g ∈ blk l.pb → w1.heap[g]? = w.heap[g]? := fun k hk => by
  have hlt : k < w.heap.size := h.lt k (by simp only [foot, Lay.blocks, jAF, jAC]; rcases hk with h1 | h1 | h1 | h1 <;> simp [h1]);exact hb.block k hlt
 have K := h.putMem (pm := some ⟨w.heap.size, 0, none⟩) (cm := cap) (ms := H.mem ++ List.replicate n 0) (by simpa using hcap) hf ho;simp only [jAG, jAY] at K;refine ⟨K.eqw he, Nx.eqw ⟨?_, ?_⟩ he⟩
 ·exact Fr.trans (S := foot a l) (S' := foot a l) (w' := w1) ⟨hb.os, hb.tape, hb.output, hb.size, fun k hk _ => hb.block k hk⟩ (Fr.setCell _ _ _ (by simp [foot])) (fun b hb => .inl hb)
 ·intro b hb;simp only [foot, Lay.blocks, jAF, jAC, kER] at hb ⊢;rcases hb with h1 | ((h1 | h1) | h1) | h1
  ·exact .inl (.inl h1)
  ·simp at h1; right; omega
  ·exact .inl (.inr (.inl (.inl (.inr h1))))
  ·exact .inl (.inr (.inl (.inr h1)))
  ·exact .inl (.inr (.inr h1))
theorem kLq (ad : Addr) (j : Nat) : (ad.add j).block = ad.block := by unfold Addr.add; split <;> simp_all
theorem kLk {X : List Value} {pm : Option Addr} {b : Addr} (h : 0 < X.length → ∃ ad, pm = some ad ∧ ad.block < w.heap.size ∧ ∀ (j : Nat) (v : Value), X[j]? = some v → w.cell? (ad.add j) = some v) (o : Obj) :
  0 < X.length → some b = some b ∧ ∃ ad, pm = some ad ∧ ∀ (j : Nat) (v : Value), X[j]? = some v → (w.alloc o).cell? (ad.add j) = some v := fun hp => by
 obtain ⟨ad, q1, q2, q3⟩ := h hp;exact ⟨rfl, ad, q1, fun j v hv => (jAE w o (ad.add j) (by rw [kLq]; exact q2)).trans (q3 j v hv)⟩
theorem kPD (w : World) (b o : Nat) (v v' : Value) : (w.setCell ⟨b, o, none⟩ v).setCell ⟨b, o, none⟩ v' = w.setCell ⟨b, o, none⟩ v' := by
 simp only [World.setCell]
 congr 1
 apply Array.ext_getElem?
 intro i;rw [Array.getElem?_modify, Array.getElem?_modify, Array.getElem?_modify]
 by_cases h : b = i
 ·subst h;simp only [if_true]
  cases hq : w.heap[b]? with
  | none => rfl
  | some x => cases x <;> simp
 ·simp [h]
theorem Rep.memAt (h : Rep w a l H) (k : Nat) (hk : k < l.cm) :
  ∃ g, l.pm = some ⟨g, 0, none⟩ ∧ (∀ i, i < l.cm → w.cell? ⟨g, i, none⟩ = ((H.mem ++ List.replicate (l.cm - H.mem.length) 0).map (int i64))[i]?) ∧ (∀ i, w.frozen? ⟨g, i, none⟩ = false) ∧ g ≠ a ∧ g < w.heap.size := by
 obtain ⟨g, hg, hc, hf, _, cur, hcur, _⟩ := kIK h.mem k hk;exact ⟨g, hg, hc, hf, h.top_ne g (by simp [Lay.blocks, blk, hg]), kAB hcur⟩
theorem kGU (n : Nat) (a : Nat) (l : Lay) (H : HS) (w : World) (h : Rep w a l H) (hs : kDX H) (h0 : (1 : Int) ≤ n) (h1 : (H.mem.length : Int) + n ≤ H.fH) (hc : (l.cm : Int) < H.mem.length + n) :
  Calls prog 134 #[.pointer (some ⟨a, 0, none⟩), int i64 n] w fun e w' => e = .returned (.tuple #[]) ∧ ∃ l', Rep w' a l' { H with mem := H.mem ++ List.replicate n 0 } ∧ Nx a l l' w w' := by
 obtain ⟨s1, s2, s3, s4, s5⟩ := hs;obtain ⟨i0, hi, hz0, hz1, hz2⟩ := info_parts kCx;have c1 := h.c1;have c4 := h.c4;have f4 := h.frozen 4
 have hsrc : 0 < (H.mem.map (int i64)).length → ∃ ad, l.pm = some ad ∧ ad.block < w.heap.size ∧ ∀ j v, (H.mem.map (int i64))[j]? = some v → w.cell? (ad.add j) = some v := by
  intro hpos;rw [jAR] at hpos;obtain ⟨g, hg, hcl, _, _, hgl⟩ := h.memAt 0 (by have := h.ml; omega);refine ⟨⟨g, 0, none⟩, hg, hgl, fun j v hv => ?_⟩
  have hj : j < H.mem.length := by
   rcases Nat.lt_or_ge j H.mem.length with hj | hj
   ·exact hj
   ·rw [jAM (by simpa using hj)] at hv; cases hv
  rw [show (⟨g, 0, none⟩ : Addr).add j = ⟨g, j, none⟩ from by unfold Addr.add; split <;> simp_all, hcl j (by have := h.ml; omega), jAP, jAK (by simpa using hj)];exact hv
 have G := fun w1 cap => @kNp w w1 a l H n cap h
 have HG : Hid _ := G;have HS' : Hid _ := hsrc;have hal := h.lt a (by simp [foot]);clear G hsrc h;obtain ⟨X, hX⟩ := jex (H.mem.map (int i64));have hXl : X.length = H.mem.length := by rw [hX]; simp
 have hX1 : ∀ v ∈ X, v.oneCell' = true := by rw [hX]; exact ints_oneCell _ _
 rw [← hX] at HG HS';clear hX;generalize hm : H.mem.length = m at *;generalize H.fH = x at *
 obtain ⟨cap, k1, k2, k3, k4⟩ : ∃ cap : Nat, m + n ≤ cap ∧ cap ≤ x ∧ cap ≤ 1048576 ∧ (if 2 * ((m : Int) + n) < x then 2 * ((m : Int) + n) else (x : Int)) = cap := by
  by_cases hq : 2 * ((m : Int) + n) < x
  ·exact ⟨2 * (m + n), by omega, by omega, by omega, by rw [jp hq]; omega⟩
  ·exact ⟨x, by omega, by omega, by omega, by rw [jn hq]⟩
 have hmk := fun W => kIx m cap (by omega) k3 (m : Int) _ rfl k4 W
 have K4 : Hid _ := k4;have HXl : Hid _ := hXl;have HX1 : Hid _ := hX1;clear k4 hXl hX1 hm;go_enter func134, ntmps134
 go_wp2
 go_region
 all_goals
  go_wp2_with (first | (refine wpList_copy_splice rfl (.tmp 33) (.tmp 37) 35 35 rfl 41 underlying35 (by rw [hi]; simp [hz1]) (some ⟨w.heap.size, 0, none⟩) l.pm m cap m l.cm rfl rfl w.heap.size 0 (kDQ cap) 41 (by exact heap_alloc_new w _) X (by rw [HXl.out]; simp) (by exact kLk HS'.out _) (by rw [HXl.out, kGZ]; omega) HX1.out w.heap.size w (by exact ((Below.refl _ _).alloc (jAD _) _).drew) (jAD _) ?_; intro w1 hg1 hb1; have d4 := hb1.cell (p := ⟨a, 4, none⟩) hal; have e4 := hb1.frozen (p := ⟨a, 4, none⟩) hal; rw [c4] at d4; rw [f4] at e4) | go_in)
 all_goals
  go_end0
  refine ⟨rfl, _, (HG.out _ cap k1 k3 hg1.out hb1 _ ?_).1, (HG.out _ cap k1 k3 hg1.out hb1 _ ?_).2⟩
 all_goals exact ⟨rfl, rfl, rfl, by rw [kPD]⟩
theorem kNB {n : Nat} (h : Rep w a l H) (hcap : H.mem.length + n ≤ l.cm) (w2 : World) (he : Eqw (w.setCell ⟨a, 4, none⟩ (.slice l.pm (H.mem.length + n) l.cm)) w2) :
  Rep w2 a l { H with mem := H.mem ++ List.replicate n 0 } ∧ Nx a l l w w2 := by
 have e : H.mem ++ List.replicate n (0 : Int) ++ List.replicate (l.cm - (H.mem ++ List.replicate n (0 : Int)).length) (0 : Int) = H.mem ++ List.replicate (l.cm - H.mem.length) 0 := by
  rw [jAu, jBN]
  congr 2
  simp
  omega
 have K := h.putMem (pm := l.pm) (cm := l.cm) (ms := H.mem ++ List.replicate n 0) (by simpa using hcap) (fun _ _ => rfl) (by rw [e]; exact h.mem);simp only [jAG, jAY] at K;exact ⟨K.eqw he, (Nx.frw (Fr.setCell (S := foot a l) _ _ _ (by simp [foot]))).eqw he⟩
theorem kHL (n : Nat) (a : Nat) (l : Lay) (H : HS) (w : World) (h : Rep w a l H) (hs : kDX H) (h0 : (1 : Int) ≤ n) (h1 : (H.mem.length : Int) + n ≤ H.fH) (hc : (H.mem.length : Int) + n ≤ l.cm) :
  Calls prog 134 #[.pointer (some ⟨a, 0, none⟩), int i64 n] w fun e w' => e = .returned (.tuple #[]) ∧ ∃ l', Rep w' a l' { H with mem := H.mem ++ List.replicate n 0 } ∧ Nx a l l' w w' := by
 obtain ⟨s1, s2, s3, s4, s5⟩ := hs;have c1 := h.c1;have c4 := h.c4;have f4 := h.frozen 4;have hal := h.lt a (by simp [foot]);have HG : Hid _ := kNB (n := n) h (by omega);obtain ⟨g, hg, _, _, _, hgl⟩ := h.memAt 0 (by omega);rw [hg] at c4;clear h;rw [hg] at HG;generalize hm : H.mem.length = m at *;generalize H.fH = x at *;generalize hcm : l.cm = cm at *;clear hm;have k1 : 0 ≤ (m : Int) + n := by omega
 go_enter func134, ntmps134
 go_wp2
 go_end0
 refine ⟨rfl, l, (HG.out _ ?_).1, (HG.out _ ?_).2⟩
 all_goals exact ⟨rfl, rfl, rfl, rfl⟩
theorem kHt (n : Nat) (a : Nat) (l : Lay) (H : HS) (w : World) (h : Rep w a l H) (hs : kDX H) (h0 : (1 : Int) ≤ n) (h1 : (H.mem.length : Int) + n ≤ H.fH) :
  Calls prog 134 #[.pointer (some ⟨a, 0, none⟩), int i64 n] w fun e w' => e = .returned (.tuple #[]) ∧ ∃ l', Rep w' a l' { H with mem := H.mem ++ List.replicate n 0 } ∧ Nx a l l' w w' := by
 by_cases hc : (H.mem.length : Int) + n ≤ l.cm
 ·exact kHL n a l H w h hs h0 h1 hc
 ·exact kGU n a l H w h hs h0 h1 (by omega)
end Go.Proofs.YtflgicdbbogllaaGreatDoor
namespace Go.Proofs.YtflgicdbbogllaaGreatDoor
open Go.RowKit Tryz
open Value (int)
open IntKind (i64)
attribute [local go_sem ↓] wp_at_zero wp_at_succ
variable {H : HS} {a g : Nat} {l : Lay} {w : World}
theorem Rep.memBlock (h : Rep w a l H) (hk : 0 < H.mem.length) :
  ∃ g, l.pm = some ⟨g, 0, none⟩ ∧ (∀ i, i < H.mem.length → w.cell? ⟨g, i, none⟩ = some (int i64 (H.mem.getD i 0))) ∧ (∀ i, w.frozen? ⟨g, i, none⟩ = false) ∧ g ≠ a ∧ g < w.heap.size := by
 obtain ⟨g, hg, hc, hf, hga, hgl⟩ := h.memAt 0 (by have := h.ml; omega);refine ⟨g, hg, fun i hi => ?_, hf, hga, hgl⟩;rw [hc i (by have := h.ml; omega), jAP, jAK (by simpa using hi)]
 simp [hi]
theorem Rep.setMem (h : Rep w a l H) (hg : l.pm = some ⟨g, 0, none⟩) (i : Nat) (hi : i < H.mem.length) (v : Int) (w2 : World) (he : Eqw (w.setCell ⟨g, i, none⟩ (int i64 v)) w2) :
  Rep w2 a l { H with mem := H.mem.set i v } ∧ Nx a l l w w2 := by
 have hgb : g ∈ blk l.pm := by rw [hg]; simp [blk]
 have hap := (h.apart g).1 hgb;have hb := h.mem;rw [hg] at hb;have hb1 := kBn hb i (int i64 v)
 have e : ((H.mem ++ List.replicate (l.cm - H.mem.length) 0).map (int i64)).set i (int i64 v) = (H.mem.set i v ++ List.replicate (l.cm - (H.mem.set i v).length) 0).map (int i64) := by
  rw [← List.map_set, List.set_append_left _ _ hi, jAL]
 rw [e, ← hg] at hb1
 have h2 : Rep (w.setCell ⟨g, i, none⟩ (int i64 v)) a l { H with mem := H.mem.set i v } := by
  refine h.turnMem (by simp) (fun k hk => kAK (fun e => ?_)) hb1;subst e;rcases hk with h1 | h1 | h1 | h1
  ·exact hap.1 h1
  ·exact hap.2.1 h1
  ·exact hap.2.2.1 h1
  ·exact hap.2.2.2 h1
 have f1 : Fr (foot a l) w (w.setCell ⟨g, i, none⟩ (int i64 v)) := Fr.setCell _ _ _ (by simp [foot, Lay.blocks, hgb]);exact ⟨h2.eqw he, (Nx.frw f1).eqw he⟩
theorem kJh (X Y Z : List Value) (v : Value) (k : Nat) (hk : k ≤ Y.length) : kDd (X ++ Y ++ Z).toArray X.length v k = (X ++ List.replicate k v ++ Y.drop k ++ Z).toArray := by
 induction k with
 | zero => simp [kDd]
 | succ k ih =>
  rw [kDd, ih (by omega)];apply Array.toList_inj.1;simp only [List.setIfInBounds_toArray];rw [jAu, jAu, jAy _ _ (by omega), jAu, jAu]
  congr 1
  rw [show X.length + k - X.length = k from by omega, jAy _ _ (by simp)];rw [jBY, jAu]
  congr 1
  simp only [jAY, Nat.sub_self];rw [jBD (by omega : k < Y.length)];rfl
theorem Rep.fillMem {w2 : World} {X Y : List Int} {v : Int} (h : Rep w a l H) (hg : l.pm = some ⟨g, 0, none⟩) (hm : H.mem = X ++ Y) (C : Array Value) (hC : w.heap[g]? = some (.cells C 41 (0, 0))) 
  (h2 : w2.heap[g]? = some (.cells (kDd C X.length (int i64 v) Y.length) 41 (0, 0))) (hf : Fr [g] w w2) :
  Rep w2 a l { H with mem := X ++ List.replicate Y.length v } ∧ Nx a l l w w2 := by
 have hgb : g ∈ blk l.pm := by rw [hg]; simp [blk]
 have hap := (h.apart g).1 hgb;have hb := h.mem;rw [hg] at hb
 have hCl : C.toList = (H.mem ++ List.replicate (l.cm - H.mem.length) 0).map (int i64) ∧ l.cm ≤ maxLen := by
  rcases hb.2 with ⟨q, _⟩ | ⟨g', cap, cur, q1, q2, q3, q4, q5, q6, q7⟩
  ·cases q
  ·injection q1 with q1a q1b q1c
   injection q1a with q1a
   injection q1a with q1a
   subst q1a;rw [hC] at q3
   injection q3 with q3
   injection q3 with q3
   subst q3;rw [jBO (by rw [Array.length_toList, q6, q1c]; exact jAD _)] at q7;exact ⟨q7, by omega⟩
 have hz : ((X ++ List.replicate Y.length v) ++ List.replicate (l.cm - (X ++ List.replicate Y.length v).length) 0).map (int i64) = X.map (int i64) ++ List.replicate Y.length (int i64 v) ++ (Y.map (int i64)).drop Y.length ++ (List.replicate (l.cm - H.mem.length) (0 : Int)).map (int i64) := by
  rw [List.drop_of_length_le (by simp), jAz, hm]
  simp
 have hfl : kDd C X.length (int i64 v) Y.length = (((X ++ List.replicate Y.length v) ++ List.replicate (l.cm - (X ++ List.replicate Y.length v).length) 0).map (int i64)).toArray := by
  have e : C = ((X.map (int i64)) ++ (Y.map (int i64)) ++ (List.replicate (l.cm - H.mem.length) (0 : Int)).map (int i64)).toArray := by
   apply Array.toList_inj.1;rw [hCl.1, hm]
   simp
  have := kJh (X.map (int i64)) (Y.map (int i64)) ((List.replicate (l.cm - H.mem.length) (0 : Int)).map (int i64)) (int i64 v) Y.length (by simp);rw [jAR, ← e] at this;rw [this, hz]
 have hlen : (((X ++ List.replicate Y.length v) ++ List.replicate (l.cm - (X ++ List.replicate Y.length v).length) 0).map (int i64)).length = l.cm := by
  have := h.ml;rw [hm] at this
  simp at this ⊢
  omega
 have ho : w2.ownsRow 0 41 1 (.slice l.pm l.cm l.cm) l.cm (((X ++ List.replicate Y.length v) ++ List.replicate (l.cm - (X ++ List.replicate Y.length v).length) 0).map (int i64)) := by
  rw [hfl] at h2;rw [hg];refine ⟨by rw [hlen]; omega, .inr ⟨g, l.cm, _, rfl, jAH _, h2, jAD _, hCl.2, by simpa using hlen, ?_⟩⟩;rw [jBO (by rw [jBk]; exact Nat.le_of_eq hlen)]
 have hf' : ∀ k, k = a ∨ k ∈ blk l.ps ∨ k ∈ blk l.po ∨ k ∈ blk l.pb → w2.heap[k]? = w.heap[k]? := fun k hk => by
  have hlt : k < w.heap.size := h.lt k (by simp only [foot, Lay.blocks, jAF, jAC]; rcases hk with h1 | h1 | h1 | h1 <;> simp [h1]);refine hf.block k hlt (fun hm => ?_)
  simp at hm
  subst hm;rcases hk with h1 | h1 | h1 | h1
  ·exact hap.1 h1
  ·exact hap.2.1 h1
  ·exact hap.2.2.1 h1
  ·exact hap.2.2.2 h1
 exact ⟨h.turnMem (by rw [hm]; simp) hf' ho, Nx.frw (hf.mono (fun b hb => by simp at hb; subst hb; simp [foot, Lay.blocks, hgb]))⟩
theorem kJQ {w W w1 : World} {a : Nat} {l : Lay} {H : HS} {g cap oop B : Nat} (h : Rep w a l H) (hW : Fr [] w W) (hB : w.heap.size ≤ B) (hown : w1.ownsRow 0 3 1 (.slice (some ⟨g, 0, none⟩) (H.fC.length + 1) cap) (H.fC.length + 1) (H.fC.map I ++ [int i64 oop]))
  (hg : W.grownBy w1 (Value.ownBlock (.slice l.po H.fC.length l.co))) (hat : Value.ownBlock (.slice l.po H.fC.length l.co) = some g ∨ g = B) (w2 : World) (he : Eqw (w1.setCell ⟨a, 6, none⟩ (.slice (some ⟨g, 0, none⟩) (H.fC.length + 1) cap)) w2) :
  Rep w2 a { l with po := some ⟨g, 0, none⟩, co := cap } { H with fC := H.fC ++ [oop] } ∧ Nx a l { l with po := some ⟨g, 0, none⟩, co := cap } w w2 := by
 have hblk : ∀ k, k < w.heap.size → k ∉ blk l.po → w1.heap[k]? = w.heap[k]? := fun k hk hn => by
  rw [hg.block k (jAb hk hW.size) (fun e => hn ((kBE _ _ _ _).1 e.symm))];exact hW.block k hk (by simp)
 have hf : ∀ k, k = a ∨ k ∈ blk l.pm ∨ k ∈ blk l.ps ∨ k ∈ blk l.pb → w1.heap[k]? = w.heap[k]? := fun k hk => by
  have hlt : k < w.heap.size := h.lt k (by simp only [foot, Lay.blocks, jAF, jAC]; rcases hk with h1 | h1 | h1 | h1 <;> simp [h1]);refine hblk k hlt (fun hb => ?_);have hp := (h.apart k).2.2.1 hb;rcases hk with h1 | h1 | h1 | h1
  ·exact hp.1 h1
  ·exact hp.2.1 h1
  ·exact hp.2.2.1 h1
  ·exact hp.2.2.2 h1
 refine ⟨?_, Nx.eqw ⟨?_, ?_⟩ he⟩
 ·have := h.putOrder (po := some ⟨g, 0, none⟩) (co := cap) (os := H.fC ++ [oop]) hf (by simpa [I] using hown);simp only [jAG, jBG, jBn, jAl] at this;exact this.eqw he
 ·refine Fr.trans (S := foot a l) (S' := foot a l) (w' := w1) ⟨hg.os.trans hW.os, hg.tape.trans hW.tape, hg.output.trans hW.output, jAU hW.size hg.size, fun k hk hn => hblk k hk (fun hb => hn (by simp [foot, Lay.blocks, hb]))⟩ (Fr.setCell _ _ _ (by simp [foot])) (fun b hb => .inl hb)
 ·intro b hb;simp only [foot, Lay.blocks, jAF, jAC, kER] at hb ⊢;rcases hb with h1 | ((h1 | h1) | h1) | h1
  ·exact .inl (.inl h1)
  ·exact .inl (.inr (.inl (.inl (.inl h1))))
  ·exact .inl (.inr (.inl (.inl (.inr h1))))
  ·simp at h1
   subst h1;rcases hat with h2 | h2
   ·exact .inl (.inr (.inl (.inr ((kBE _ _ _ _).1 h2))))
   ·right; omega
  ·exact .inl (.inr (.inr h1))
theorem kFB (S : List (Nat × Nat × Nat)) (s : Nat × Nat × Nat) : kAZ (S ++ [s]) = kAZ S ++ [I s.1, I s.2.1, I s.2.2] := by simp [kAZ]
theorem kJn {w W w1 : World} {a : Nat} {l : Lay} {H : HS} {g cap B : Nat} (h : Rep w a l H) (hW : Fr [] w W) (hB : w.heap.size ≤ B) (hown : w1.ownsRow 0 148 3 (.slice (some ⟨g, 0, none⟩) (H.fD.length + 1) cap) (H.fD.length + 1) (kAZ H.fD ++ [int i64 0, int i64 0, int i64 0]))
  (hg : W.grownBy w1 (Value.ownBlock (.slice l.ps H.fD.length l.cs))) (hat : Value.ownBlock (.slice l.ps H.fD.length l.cs) = some g ∨ g = B) (w2 : World) (he : Eqw (w1.setCell ⟨a, 5, none⟩ (.slice (some ⟨g, 0, none⟩) (H.fD.length + 1) cap)) w2) :
  Rep w2 a { l with ps := some ⟨g, 0, none⟩, cs := cap } { H with fD := H.fD ++ [(0, 0, 0)] } ∧ Nx a l { l with ps := some ⟨g, 0, none⟩, cs := cap } w w2 := by
 have hblk : ∀ k, k < w.heap.size → k ∉ blk l.ps → w1.heap[k]? = w.heap[k]? := fun k hk hn => by
  rw [hg.block k (jAb hk hW.size) (fun e => hn ((kBE _ _ _ _).1 e.symm))];exact hW.block k hk (by simp)
 have hf : ∀ k, k = a ∨ k ∈ blk l.pm ∨ k ∈ blk l.po ∨ k ∈ blk l.pb → w1.heap[k]? = w.heap[k]? := fun k hk => by
  have hlt : k < w.heap.size := h.lt k (by simp only [foot, Lay.blocks, jAF, jAC]; rcases hk with h1 | h1 | h1 | h1 <;> simp [h1]);refine hblk k hlt (fun hb => ?_);have hp := (h.apart k).2.1 hb;rcases hk with h1 | h1 | h1 | h1
  ·exact hp.1 h1
  ·exact hp.2.1 h1
  ·exact hp.2.2.1 h1
  ·exact hp.2.2.2 h1
 refine ⟨?_, Nx.eqw ⟨?_, ?_⟩ he⟩
 ·have := h.putSeats (ps := some ⟨g, 0, none⟩) (cs := cap) (ss := H.fD ++ [(0, 0, 0)]) hf (by rw [kFB]; simpa [I] using hown);simp only [jAG, jBG, jBn, jAl] at this;exact this.eqw he
 ·refine Fr.trans (S := foot a l) (S' := foot a l) (w' := w1) ⟨hg.os.trans hW.os, hg.tape.trans hW.tape, hg.output.trans hW.output, jAU hW.size hg.size, fun k hk hn => hblk k hk (fun hb => hn (by simp [foot, Lay.blocks, hb]))⟩ (Fr.setCell _ _ _ (by simp [foot])) (fun b hb => .inl hb)
 ·intro b hb;simp only [foot, Lay.blocks, jAF, jAC, kER] at hb ⊢;rcases hb with h1 | ((h1 | h1) | h1) | h1
  ·exact .inl (.inl h1)
  ·exact .inl (.inr (.inl (.inl (.inl h1))))
  ·simp at h1
   subst h1;rcases hat with h2 | h2
   ·exact .inl (.inr (.inl (.inl (.inr ((kBE _ _ _ _).1 h2)))))
   ·right; omega
  ·exact .inl (.inr (.inl (.inr h1)))
  ·exact .inl (.inr (.inr h1))
theorem kGR (S : List (Nat × Nat × Nat)) : ∀ k, k < S.length → (kAZ S)[k * 3]? = some (I (S.getD k (0, 0, 0)).1) ∧ (kAZ S)[k * 3 + 1]? = some (I (S.getD k (0, 0, 0)).2.1) ∧ (kAZ S)[k * 3 + 2]? = some (I (S.getD k (0, 0, 0)).2.2) := by
 induction S with
 | nil => intro k hk; simp at hk
 | cons s S ih =>
  intro k hk
  cases k with
  | zero => simp [kAZ]
  | succ k =>
   have := ih k (by simpa using hk);have e : kAZ (s :: S) = [I s.1, I s.2.1, I s.2.2] ++ kAZ S := by simp [kAZ]
   rw [e, show (k + 1) * 3 = 3 + k * 3 from by omega];refine ⟨?_, ?_, ?_⟩
   ·rw [jAI (by simp)]; simpa using this.1
   ·rw [jAI (by simp; omega), show 3 + k * 3 + 1 - [I s.1, I s.2.1, I s.2.2].length = k * 3 + 1 from by simp; omega]; simpa using this.2.1
   ·rw [jAI (by simp; omega), show 3 + k * 3 + 2 - [I s.1, I s.2.1, I s.2.2].length = k * 3 + 2 from by simp; omega]; simpa using this.2.2
theorem kFu (S : List (Nat × Nat × Nat)) (s : Nat × Nat × Nat) : ∀ k, k < S.length → kAZ (S.set k s) = (((kAZ S).set (k * 3) (I s.1)).set (k * 3 + 1) (I s.2.1)).set (k * 3 + 2) (I s.2.2) := by
 induction S with
 | nil => intro k hk; simp at hk
 | cons t S ih =>
  intro k hk;have e : ∀ x T, kAZ (x :: T) = [I x.1, I x.2.1, I x.2.2] ++ kAZ T := fun x T => by simp [kAZ]
  cases k with
  | zero => rw [List.set_cons_zero, e, e]; rfl
  | succ k =>
   rw [List.set_cons_succ, e, e, ih k (by simpa using hk), show (k + 1) * 3 = 3 + k * 3 from by omega];rw [jAy _ _ (by simp), jAy _ _ (by simp; omega), jAy _ _ (by simp; omega)]
   congr 1
   rw [show 3 + k * 3 - [I t.1, I t.2.1, I t.2.2].length = k * 3 from by simp, show 3 + k * 3 + 1 - [I t.1, I t.2.1, I t.2.2].length = k * 3 + 1 from by simp; omega, show 3 + k * 3 + 2 - [I t.1, I t.2.1, I t.2.2].length = k * 3 + 2 from by simp; omega]
theorem Rep.seatAt (h : Rep w a l H) (k : Nat) (hk : k < H.fD.length) :
  ∃ g, l.ps = some ⟨g, 0, none⟩ ∧ (∀ k, k < H.fD.length → w.cell? ⟨g, k * 3, none⟩ = some (I (H.fD.getD k (0, 0, 0)).1) ∧ w.cell? ⟨g, k * 3 + 1, none⟩ = some (I (H.fD.getD k (0, 0, 0)).2.1) ∧ w.cell? ⟨g, k * 3 + 2, none⟩ = some (I (H.fD.getD k (0, 0, 0)).2.2)) ∧ (∀ i, w.frozen? ⟨g, i, none⟩ = false) ∧ g ≠ a ∧ g < w.heap.size := by
 have hs := h.fD;rcases hs.2 with ⟨h2, h3⟩ | ⟨g', cap, cur, h2, h3, h4, h5, h6, h7, h8⟩
 ·omega
 ·have hform := hs.form (by omega);obtain ⟨g, c, hv, _, hgl⟩ := hform
  injection hv with hv1 hv2 hv3
  have hg : l.ps = some ⟨g, 0, none⟩ := hv1
  have hcell : ∀ j, j < H.fD.length * 3 → w.cell? ⟨g, j, none⟩ = (kAZ H.fD)[j]? := by
   intro j hj;have hs' := hs;rw [hg] at hs';exact hs'.cellAt j hj
  refine ⟨g, hg, fun k hk => ?_, fun i => ?_, h.top_ne g (by simp [Lay.blocks, blk, hg]), hgl⟩
  ·have := kGR H.fD k hk;exact ⟨(hcell _ (by omega)).trans this.1, (hcell _ (by omega)).trans this.2.1, (hcell _ (by omega)).trans this.2.2⟩
  ·have hs' := hs;rw [hg] at hs';exact hs'.frozenAt i
theorem Rep.setSeat (h : Rep w a l H) (hg : l.ps = some ⟨g, 0, none⟩) (k : Nat) (hk : k < H.fD.length) (s : Nat × Nat × Nat) (w2 : World) (he : Eqw (((w.setCell ⟨g, k * 3, none⟩ (I s.1)).setCell ⟨g, k * 3 + 1, none⟩ (I s.2.1)).setCell ⟨g, k * 3 + 2, none⟩ (I s.2.2)) w2) :
  Rep w2 a l { H with fD := H.fD.set k s } ∧ Nx a l l w w2 := by
 have hgb : g ∈ blk l.ps := by rw [hg]; simp [blk]
 have hap := (h.apart g).2.1 hgb;have hb := h.fD;rw [hg] at hb;have hb1 := kBn (kBn (kBn hb (k * 3) (I s.1)) (k * 3 + 1) (I s.2.1)) (k * 3 + 2) (I s.2.2);rw [← kFu H.fD s k hk, ← hg] at hb1
 have hel : ∀ j, j ≠ g → (((w.setCell ⟨g, k * 3, none⟩ (I s.1)).setCell ⟨g, k * 3 + 1, none⟩ (I s.2.1)).setCell ⟨g, k * 3 + 2, none⟩ (I s.2.2)).heap[j]? = w.heap[j]? := fun j hj => by
  rw [kAK hj, kAK hj, kAK hj]
 have h2 : Rep (((w.setCell ⟨g, k * 3, none⟩ (I s.1)).setCell ⟨g, k * 3 + 1, none⟩ (I s.2.1)).setCell ⟨g, k * 3 + 2, none⟩ (I s.2.2)) a l { H with fD := H.fD.set k s } := by
  refine h.turnSeats (by simp) (fun j hj => hel j (fun e => ?_)) (by simpa using hb1);subst e;rcases hj with h1 | h1 | h1 | h1
  ·exact hap.1 h1
  ·exact hap.2.1 h1
  ·exact hap.2.2.1 h1
  ·exact hap.2.2.2 h1
 have hgf : g ∈ foot a l := by simp [foot, Lay.blocks, hgb]
 have f1 : Fr (foot a l) w (((w.setCell ⟨g, k * 3, none⟩ (I s.1)).setCell ⟨g, k * 3 + 1, none⟩ (I s.2.1)).setCell ⟨g, k * 3 + 2, none⟩ (I s.2.2)) :=
  ((Fr.setCell _ _ _ hgf).trans (Fr.setCell (S := foot a l) _ _ _ hgf) (fun b hb => .inl hb)).trans (Fr.setCell (S := foot a l) _ _ _ hgf) (fun b hb => .inl hb)
 exact ⟨h2.eqw he, (Nx.frw f1).eqw he⟩
end Go.Proofs.YtflgicdbbogllaaGreatDoor
