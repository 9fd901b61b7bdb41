import Derived.Test.YtalcnihagnnkaaaDoorKHBit
import Derived.Deep.RegionHeld3
import Derived.Deep.DrawnRows
namespace Go.Proofs.YtalcnihagnnkaaaDoor
open Go.RowKit
set_option linter.unusedVariables false
attribute [local go_sem ↓] Go.wp_at_zero Go.wp_at_succ
theorem info152 : (Tryd.prog.info? 152).map (fun i => (i.zero, i.size, i.bytes)) = some (some (.int .u64 0), 1, 8) := by kernel_rfl
def padTo (bits : List Nat) (n : Nat) : List Nat := bits ++ List.replicate (n - bits.length) 0
def addBits (bits : List Nat) (k : Nat) : List Nat := (padTo bits ((k - 1) / 64 + 1)).set ((k - 1) / 64) ((padTo bits ((k - 1) / 64 + 1)).getD ((k - 1) / 64) 0 ||| 2 ^ ((k - 1) % 64))
theorem or_u64 (b j : Nat) (hb : b ≤ full) : Go.bits .or .u64 (b : Int) ((2 ^ (j % 64) : Nat) : Int) = ((b ||| 2 ^ (j % 64) : Nat) : Int) := by
  have h : 2 ^ (j % 64) < 2 ^ 64 := Nat.pow_lt_pow_right (by omega) (Nat.mod_lt _ (by omega))
  exact bits_or_u64_nat b _ (by unfold full at hb; omega) (by omega)
theorem blk_some (g o : Nat) : blk (some ⟨g, o, none⟩) = [g] := rfl
/-- one more word of bits -/
theorem grow_bits {w w1 : World} {a : Nat} {l : Lay} {H : HS} {g cap : Nat} (h : Rep w a l H) (hown : w1.ownsRow 0 152 1 (.slice (some ⟨g, 0, none⟩) (H.bits.length + 1) cap) (H.bits.length + 1) (H.bits.map U ++ [.int .u64 0]))
    (hg : (w.alloc (.cells #[.int .u64 0] 152)).grownBy w1 (Value.ownBlock (.slice l.pb H.bits.length l.cb))) (hat : Value.ownBlock (.slice l.pb H.bits.length l.cb) = some g ∨ g = w.heap.size + 1) :
    Rep (w1.setCell ⟨a, 7, none⟩ (.slice (some ⟨g, 0, none⟩) (H.bits.length + 1) cap)) a { l with pb := some ⟨g, 0, none⟩, cb := cap } { H with bits := H.bits ++ [0] } ∧
    Nx a l { l with pb := some ⟨g, 0, none⟩, cb := cap } w (w1.setCell ⟨a, 7, none⟩ (.slice (some ⟨g, 0, none⟩) (H.bits.length + 1) cap)) := by
  have hblk : ∀ k, k < w.heap.size → k ∉ blk l.pb → w1.heap[k]? = w.heap[k]? := fun k hk hn => by
    rw [hg.block k (by simp; omega) (fun e => hn ((blk_own _ _ _ _).1 e.symm))]
    exact Below.heap_alloc _ _ _ hk
  have hf : ∀ k, k = a ∨ k ∈ blk l.pm ∨ k ∈ blk l.ps ∨ k ∈ blk l.po → w1.heap[k]? = w.heap[k]? := fun k hk => by
    have hlt : k < w.heap.size := h.lt k (by simp only [foot, Lay.blocks, List.mem_cons, List.mem_append]; rcases hk with h1 | h1 | h1 | h1 <;> simp [h1])
    refine hblk k hlt (fun hb => ?_)
    have hp := (h.apart k).2.2.2 hb
    rcases hk with h1 | h1 | h1 | h1
    · exact hp.1 h1
    · exact hp.2.1 h1
    · exact hp.2.2.1 h1
    · exact hp.2.2.2 h1
  refine ⟨?_, ?_, ?_⟩
  · have := h.putBits (pb := some ⟨g, 0, none⟩) (cb := cap) (bs := H.bits ++ [0]) hf (by simpa [U] using hown)
    simpa using this
  · refine Fr.trans (S := foot a l) (S' := foot a l) (w' := w1) ⟨hg.os, hg.tape, hg.output, by have := hg.size; simp at this; omega, fun k hk hn => hblk k hk (fun hb => hn (by simp [foot, Lay.blocks, hb]))⟩ (Fr.setCell _ _ _ (by simp [foot])) (fun b hb => .inl hb)
  · intro b hb
    simp only [foot, Lay.blocks, List.mem_cons, List.mem_append, blk_some] at hb ⊢
    rcases hb with h1 | ((h1 | h1) | h1) | h1
    · exact .inl (.inl h1)
    · exact .inl (.inr (.inl (.inl (.inl h1))))
    · exact .inl (.inr (.inl (.inl (.inr h1))))
    · exact .inl (.inr (.inl (.inr h1)))
    · simp at h1
      subst h1
      rcases hat with h2 | h2
      · exact .inl (.inr (.inr ((blk_own _ _ _ _).1 h2)))
      · right; omega
/-- two worlds but for what was drawn -/
def Eqw (w w' : World) : Prop := w'.os = w.os ∧ w'.tape = w.tape ∧ w'.output = w.output ∧ w'.heap = w.heap
theorem Eqw.fr {w w' : World} (h : Eqw w w') (S : List Nat) : Fr S w w' := Fr.same S h.1 h.2.1 h.2.2.1 h.2.2.2
theorem map_set_U (B : List Nat) (i z : Nat) : (B.map U).set i (.int .u64 (z : Int)) = (B.set i z).map U := by rw [List.map_set]; rfl
theorem Rep.eqw {w w' : World} {a : Nat} {l : Lay} {H : HS} (h : Rep w a l H) (e : Eqw w w') : Rep w' a l H := h.congr fun g _ => by rw [e.2.2.2]
theorem Nx.eqw {w w' w'' : World} {a : Nat} {l l' : Lay} (h : Nx a l l' w w') (e : Eqw w' w'') : Nx a l l' w w'' := ⟨h.1.trans (e.fr []) (by simp), h.2⟩
/-- a bit's word and the count are written -/
theorem add_done {w w2 : World} {a : Nat} {l : Lay} {H : HS} {g i z : Nat} (h : Rep w a l H) (hg : l.pb = some ⟨g, 0, none⟩) (he : Eqw ((w.setCell ⟨g, i, none⟩ (.int .u64 (z : Int))).setCell ⟨a, 9, none⟩ (.int .i64 ((H.count : Int) + 1))) w2) :
    Rep w2 a l { H with bits := H.bits.set i z, count := H.count + 1 } ∧ Nx a l l w w2 := by
  have hgb : g ∈ blk l.pb := by rw [hg]; simp [blk]
  have hap := (h.apart g).2.2.2 hgb
  have hb := h.bits
  rw [hg] at hb
  have hb1 := own_stored hb i (.int .u64 (z : Int))
  rw [map_set_U, ← hg] at hb1
  have h2 : Rep (w.setCell ⟨g, i, none⟩ (.int .u64 (z : Int))) a l { H with bits := H.bits.set i z } := by
    refine h.turnBits (by simp) (fun k hk => set_else (fun e => ?_)) (by simpa using hb1)
    subst e
    rcases hk with h1 | h1 | h1 | h1
    · exact hap.1 h1
    · exact hap.2.1 h1
    · exact hap.2.2.1 h1
    · exact hap.2.2.2 h1
  have f1 : Fr (foot a l) w (w.setCell ⟨g, i, none⟩ (.int .u64 (z : Int))) := Fr.setCell _ _ _ (by simp [foot, Lay.blocks, hgb])
  exact ⟨Rep.eqw (h2.set (H' := { H with bits := H.bits.set i z, count := H.count + 1 }) 9 _ rfl rfl rfl rfl rfl) he, (Nx.frw (f1.trans (Fr.setCell (S := foot a l) _ _ _ (by simp [foot])) (fun b hb => .inl hb))).eqw he⟩
set_option maxRecDepth 20000 in
set_option maxHeartbeats 1000000 in
theorem add_any (k : Nat) (a : Nat) (l : Lay) (H : HS) (w : World) (h : Rep w a l H) (hk0 : (1 : Int) ≤ k) (hk1 : (k : Int) ≤ 65537) (hb : ∀ k, H.bits.getD k 0 ≤ full) (hn : (H.bits.length : Int) ≤ 1100) (hc : (H.count : Int) ≤ 100000) :
    Calls Tryd.prog 104 #[.pointer (some ⟨a, 7, none⟩), .int .i64 k] w fun e w' => e = .returned (.tuple #[]) ∧ ∃ l', Rep w' a l' { H with bits := addBits H.bits k, count := H.count + 1 } ∧ Nx a l l' w w' := by
  obtain ⟨i0, hi, hz0, hz1, hz2⟩ := info_parts info152
  have hd : ((k : Int) - 1) / 64 = (((k - 1) / 64 : Nat) : Int) := by omega
  have hd2 : (((k - 1) / 64 : Nat) : Int) ≤ 1024 := by omega
  obtain ⟨i, hi2⟩ : ∃ i, i = (k - 1) / 64 := ⟨_, rfl⟩
  rw [← hi2] at hd hd2
  have HI : Hid (i = (k - 1) / 64) := hi2
  clear hi2
  go_enter Tryd.func104, Tryd.ntmps104
  go_wp2
  simp only [hd]
  have HD : Hid (((k : Int) - 1) / 64 = (i : Int)) := hd
  clear hd
  go_loopg [] (i + 1 - H.bits.length) (fun gk wr => ∃ m l', gk = i + 1 - (H.bits.length + m) ∧ (m = 0 ∨ H.bits.length + m ≤ i + 1) ∧ Rep wr a l' { H with bits := H.bits ++ List.replicate m 0 } ∧ Nx a l l' w wr)
  case atStart => exact ⟨0, l, rfl, .inl rfl, by simpa using h, Nx.refl _ _ _⟩
  case round =>
    clear h
    obtain ⟨m, l', rfl, hm, hr, hx⟩ := hrel
    obtain ⟨B, hB⟩ : ∃ B, B = H.bits ++ List.replicate m 0 := ⟨_, rfl⟩
    have hBl : B.length = H.bits.length + m := by rw [hB]; simp
    rw [← hB] at hr
    have c7 := hr.c7
    have c9 := hr.c9
    have f7 := hr.frozen 7
    have f9 := hr.frozen 9
    dsimp only at c7 c9
    by_cases hle : B.length ≤ i
    · have hle' : ((B.length : Nat) : Int) ≤ (i : Int) := by omega
      have G := fun w1 g cap => @grow_bits wr w1 a l' { H with bits := B } g cap hr
      have HG := G
      clear G
      have hown := hr.bits
      dsimp only at hown HG
      have HM : Hid (B = H.bits ++ List.replicate m 0 ∧ B.length = H.bits.length + m ∧ Nx a l l' w wr) := ⟨hB, hBl, hx⟩
      have hmx : Hid (i + 1 - (H.bits.length + (m + 1)) < i + 1 - (H.bits.length + m)) := by unfold Hid; omega
      have hmy : Hid (H.bits.length + (m + 1) ≤ i + 1) := by unfold Hid; omega
      have hne : a < wr.heap.size := hr.lt a (by simp [foot])
      have hra : some a ≠ Value.ownBlock (.slice l'.pb B.length l'.cb) := fun e => (hr.apart a).2.2.2 ((blk_own _ _ _ _).1 e.symm) |>.1 rfl
      clear hr hx hB hBl hm hb hn HI
      go_wp2_with (first
        | (at_builtin; refine wpList_append_lies _ rfl (.tmp 19) (.tmp 20) 91 rfl 0 152 i0 (.int .u64 0) 1 8 Tryd.underlying91 hi hz0 hz1 hz2 rfl (by decide) _ _ _ rfl (hown.alloc _) ⟨wr.heap.size, 0, none⟩ 1 1 [.int .u64 0] rfl rfl ?c1 ?c2 (by omega) ?c3 ?c4 (by simp) (wr.heap.size + 1) (by simp) ?_)
        | go_in)
      case c1 =>
        intro j u hj
        match j, hj with
        | 0, hj => simp at hj; subst hj; simp [Addr.add]
      case c2 => intro u hu; simp at hu; subst hu; rfl
      case c3 => unfold maxLen; omega
      case c4 => omega
      intro g cap w1 hown' hgrow hat hlt
      have d7 := (hgrow.cell_far ⟨a, 7, none⟩ (by simp; omega) hra).trans ((World.cell?_alloc_lt (o := .cells #[.int .u64 0] 152) (w := wr) (a := ⟨a, 7, none⟩) hne).trans c7)
      have e7 := (hgrow.frozen_far ⟨a, 7, none⟩ (by simp; omega) hra).trans ((World.frozen?_alloc_old (o := .cells #[.int .u64 0] 152) (w := wr) (a := ⟨a, 7, none⟩) (by show a ≠ _; omega)).trans f7)
      have K := HG w1 g cap hown' hgrow hat
      have HK : Hid _ := K
      clear K HG hgrow hown' hown hat
      go_wp2
      go_roundg (i + 1 - (H.bits.length + (m + 1)))
      case measure => exact hmx.out
      case rel =>
        obtain ⟨q1, q2, q3⟩ := HM.out
        refine ⟨m + 1, _, rfl, .inr hmy.out, ?_, q3.trans HK.out.2⟩
        rw [List.replicate_succ', ← List.append_assoc, ← q1]
        exact HK.out.1
    · have hil : i < B.length := by omega
      have hpad : Hid (B = padTo H.bits ((k - 1) / 64 + 1)) := by
        have := HI.out
        have e : (k - 1) / 64 + 1 - H.bits.length = m := by omega
        unfold padTo Hid
        rw [hB, e]
      have hBb : ∀ j, B.getD j 0 ≤ full := by
        intro j
        rw [hB]
        by_cases hj : j < H.bits.length
        · have := hb j
          simp only [List.getD_eq_getElem?_getD, List.getElem?_append_left hj] at this ⊢
          exact this
        · simp only [List.getD_eq_getElem?_getD, List.getElem?_append_right (Nat.le_of_not_lt hj), List.getElem?_replicate]
          split <;> simp [full]
      obtain ⟨g, hg, cg, fg, hga⟩ := hr.bitAt i hil
      dsimp only at hg cg
      rw [hg] at c7
      have hou := or_u64 (B.getD i 0) (k - 1) (hBb i)
      have i1 : (0 : Int) ≤ (i : Int) := by omega
      have i2 : (i : Int) < (B.length : Int) := by omega
      have i3 : (B.length : Int) ≤ (i : Int) → False := by omega
      have HR : Hid (Nx a l l' w wr ∧ ∀ w2, Eqw ((wr.setCell ⟨g, i, none⟩ (.int .u64 ((B.getD i 0 ||| 2 ^ ((k - 1) % 64) : Nat) : Int))).setCell ⟨a, 9, none⟩ (.int .i64 ((H.count : Int) + 1))) w2 → Rep w2 a l' { H with bits := addBits H.bits k, count := H.count + 1 } ∧ Nx a l' l' wr w2) := by
        refine ⟨hx, fun w2 he => ?_⟩
        have K := add_done hr hg he
        have e : addBits H.bits k = B.set i (B.getD i 0 ||| 2 ^ ((k - 1) % 64)) := by unfold addBits; rw [← hpad.out, ← HI.out]
        rw [e]
        exact K
      have hc0 : (0 : Int) ≤ (H.count : Int) := by omega
      have hg0 : a < wr.heap.size := hr.lt a (by simp [foot])
      clear hr hx hB hBl hm hb hBb hle i3 hn HI hg hil
      generalize B.getD i 0 = b at *
      generalize hN : B.length = n at *
      have HN : Hid (B.length = n) := hN
      clear hN
      generalize b ||| 2 ^ ((k - 1) % 64) = z at *
      generalize hy : 2 ^ ((k - 1) % 64) = y at *
      have Hbit := bit_any k
      rw [hy] at Hbit
      have HB : Hid _ := Hbit
      clear hy Hbit
      go_wp2
      go_region_with (go_at_call 115; refine (HB.out _ hk0 (by omega)).mono ?_; rintro e w' ⟨rfl, rfl⟩)
      all_goals go_wp2
      all_goals
        go_end0
        refine ⟨rfl, l', (HR.out.2 _ ?_).1, HR.out.1.trans (HR.out.2 _ ?_).2⟩
      all_goals exact ⟨rfl, rfl, rfl, rfl⟩
end Go.Proofs.YtalcnihagnnkaaaDoor
