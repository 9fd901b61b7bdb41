import Derived.Test.YtklfnjlenbgmoaaDoorAG26HStepA
import Derived.Test.YtklfnjlenbgmoaaDoorAHNext
import Derived.BigQuiet
namespace Go.Proofs.YtklfnjlenbgmoaaDoor
open Go.RowKit
set_option linter.unusedVariables false
attribute [local go_sem ↓] Go.wp_at_zero Go.wp_at_succ
theorem mfoot_put {m S : Nat} {M : MS} (q : Nat) (t : Th) (pt : Option Addr) (ct : Nat) (w0 : World) (hp : ∀ g ∈ blk t.p, S ≤ g) (hpt : ∀ g ∈ blk pt, g ∈ blk M.pt ∨ S ≤ g) :
    ∀ g ∈ mfoot m { M with things := putTh M.things q t, pt := pt, ct := ct }, g ∈ mfoot m M ∨ S ≤ g := by
  intro g hg
  simp only [mfoot, List.mem_cons, List.mem_append] at hg ⊢
  rcases hg with h1 | h1 | h1
  · exact .inl (.inl h1)
  · rcases hpt g h1 with h2 | h2
    · exact .inl (.inr (.inl h2))
    · exact .inr h2
  · obtain ⟨u, hu, hb⟩ := List.mem_flatMap.1 h1
    have hu2 : u ∈ putTh M.things q t := hu
    unfold putTh at hu2
    have : u = t ∨ u ∈ M.things := by
      split at hu2
      · exact mem_set hu2
      · rcases List.mem_append.1 hu2 with h | h
        · exact .inr h
        · exact .inl (by simpa using h)
    rcases this with rfl | h
    · exact .inr (hp g hb)
    · exact .inl (.inr (.inr (mslots_mem h hb)))
theorem lay_age (H : HS) (k oop : Nat) (cl : Int) (n f : Nat) : (layH { H with mark := H.mark - 1, low := k } oop cl n f).age = H.age := rfl
set_option maxRecDepth 20000 in
set_option maxHeartbeats 2000000 in
theorem malloc_ok (K O A B C X : Int) (ls : Value) (D : List Nat) (w0 : World) (a m : Nat) (W : World) (l : Lay) (H : HS) (M : MS) (hS : Side D w0 a m W l H M) (hi : Inv H M) (hT : Tab w0) (hT2 : Tab64 w0) (h2 : 2 ≤ w0.heap.size) (hD : ∀ b ∈ D, 2 ≤ b) :
    Calls Tryd.prog 63 #[.pointer (some ⟨m, 0, none⟩), .pointer (some ⟨a, 0, none⟩), stepV K O A B C X ls] W fun e w' => e = .returned (.bool true) ∧ Went D w0 a m H (allocN M X A B) w' := by
  have hA1 := hS.box (stepO K O A B C X ls)
  have ha : 2 ≤ a := by
    rcases hS.geh a (by simp [foot]) with h | h
    · exact hD a h
    · omega
  obtain ⟨W1, hW1⟩ : ∃ W1, W1 = W.alloc (stepO K O A B C X ls) := ⟨_, rfl⟩
  rw [← hW1] at hA1
  have hsm := hi.safe.small
  have hfin := hi.fin
  have hcnt := hi.count
  have hww := hi.words
  have hoo := hi.oops
  have s1 : ((endTo M.things M.things.length : Nat) : Int) ≤ (M.words : Int) := by have := hsm.mem; omega
  have s2 : (M.words : Int) ≤ 1048576 := by have := hsm.words; omega
  have s3 : ((thereTo M.things M.things.length : Nat) : Int) ≤ (M.oops : Int) := by have := hsm.count; omega
  have s4 : (M.oops : Int) ≤ 65536 := by have := hsm.oops; omega
  have HEnd : Hid (∀ V, Hid (Fr [] W1 V) → Calls Tryd.prog 32 #[.pointer (some ⟨m, 0, none⟩)] V fun e w' => e = .returned (.int .i64 (endTo M.things M.things.length : Nat)) ∧ Hid (Fr [] W1 w')) := by
    intro V hV
    refine Calls.mono (end_ok m M V (hA1.side.mrep.keep hV.out (by simp)) hi.model) ?_
    rintro e w' ⟨rfl, hf⟩
    exact ⟨rfl, hV.out.trans hf (by simp)⟩
  have HThere : Hid (∀ V, Hid (Fr [] W1 V) → Calls Tryd.prog 33 #[.pointer (some ⟨m, 0, none⟩)] V fun e w' => e = .returned (.int .i64 (thereTo M.things M.things.length : Nat)) ∧ w' = V) := fun V hV =>
    there_ok m M V (hA1.side.mrep.keep hV.out (by simp)) hi.model.len
  have KS : Hid (∀ V, Hid (Fr [] W1 V) → V.cell? ⟨m, 0, none⟩ = some (.int .i64 M.words) ∧ Hid (Fr [] W1 V)) := fun V hV =>
    ⟨(hA1.side.mrep.keep hV.out (by simp)).c0, hV⟩
  have F1 : Hid (Fr [] W1 W1) := Fr.refl _ _
  have HA := mkHid hA1
  have HI := mkHid hi
  have c0 := hA1.side.mrep.c0
  generalize hE : endTo M.things M.things.length = E at *
  generalize hN : thereTo M.things M.things.length = N at *
  have z1 : IntKind.i64.wrap ((M.words : Int) - (E : Int)) = (M.words : Int) - (E : Int) := by rw [iwrap]; unfold wrap64; omega
  have z2 : IntKind.i64.wrap ((M.oops : Int) - (N : Int)) = (M.oops : Int) - (N : Int) := by rw [iwrap]; unfold wrap64; omega
  have hml := hA1.side.mrep.lt m (by simp [mfoot])
  unfold stepV
  unfold stepO at hW1
  clear hS hi hA1 hsm
  go_enter Tryd.func63, Tryd.ntmps63
  go_wp2_with fail
  rw [← hW1]
  clear hW1
  go_region_held3 (fun w' => w'.cell? ⟨m, 0, none⟩ = some (.int .i64 M.words) ∧ Hid (Fr [] W1 w')) (exact KS.out _ (by first | assumption | exact hid_drew (by assumption) | (go_split_ands; first | assumption | exact hid_drew (by assumption))))
    ((go_at_call 32; refine (HEnd.out _ (by first | assumption | exact hid_drew (by assumption) | (go_split_ands; first | assumption | exact hid_drew (by assumption)))).mono ?_; rintro e w' ⟨rfl, hf'⟩))
  have F3 : Hid (Fr [] W1 w') := by assumption
  generalize w' = W2 at *
  have c1 := (HA.out.idle F3.out).side.mrep.c1
  have HTh2 : Hid (∀ n, Calls Tryd.prog 33 #[.pointer (some ⟨m, 0, none⟩)] (W2.drewN n) fun e w' => e = .returned (.int .i64 (N : Int)) ∧ w' = W2.drewN n) := fun n => HThere.out _ (F3.out.trans (Fr.drewN [] _ _) (by simp))
  go_wp2_with fail
  go_quiet ((go_at_call 33; exact Calls.quiet_of_same (HTh2.out _)))
  have hA3 := HA.out.idle (F3.out.trans (Fr.drewN [] W2 nq) (by simp))
  generalize W2.drewN nq = W3 at *
  clear KS F1 c0 HEnd HThere HTh2 c1 F3 z1 z2 HA
  have hT3 := tab_of hT h2 hD hA3.side.fr
  obtain ⟨q2, q3, q5, -⟩ := stepO_cells hA3.box
  have HK := mkHid (rKind_any X)
  have hisW : isW X = (kindOf X != 0) := rfl
  generalize kindOf X = kx at *
  have HA3 := mkHid hA3
  by_cases hbad : isW X = false ∨ A < 0 ∨ B < 0 ∨ 1 < B
  · have HAl := mkHid (Alloc_arg X A B a l H W3 hA3.side.rep hT3 (by
      rcases hbad with h | h | h | h
      · exact .inl h
      · exact .inr (.inr h)
      · right; left; unfold isF; simp; omega
      · right; left; unfold isF; simp; omega))
    have HE : Hid (Went D w0 a m H (allocN M X A B) W3) := ⟨l, H, M, hA3.side, HI.out, by omega, by rw [allocN_bad hbad]; exact Lk.refl _⟩
    have hbad2 : ((kx == 0) = true) ∨ ((kx == 0) = false ∧ A < 0) ∨ ((kx == 0) = false ∧ 0 ≤ A ∧ B < 0) ∨ ((kx == 0) = false ∧ 0 ≤ A ∧ 0 ≤ B ∧ 1 < B) := by
      rw [hisW] at hbad
      by_cases hk0 : kx = 0
      · left; simp [hk0]
      · have e1 : (kx == 0) = false := by simpa using hk0
        have e2 : (kx != 0) = true := by simpa using hk0
        right
        rcases hbad with h | h | h | h
        · rw [e2] at h; cases h
        · exact .inl ⟨e1, h⟩
        · by_cases hA0 : A < 0
          · exact .inl ⟨e1, hA0⟩
          · exact .inr (.inl ⟨e1, by omega, h⟩)
        · by_cases hA0 : A < 0
          · exact .inl ⟨e1, hA0⟩
          · by_cases hB0 : B < 0
            · exact .inr (.inl ⟨e1, by omega, hB0⟩)
            · exact .inr (.inr ⟨e1, by omega, by omega, h⟩)
    clear hbad hisW hA3 hT3
    go_wp2_with fail
    refine Calls.mono HAl.out ?_
    rintro e w1 ⟨rfl, hw1⟩
    rw [hw1]
    clear hw1 w1
    rcases hbad2 with h | ⟨h, h4⟩ | ⟨h, h4, h5⟩ | ⟨h, h4, h5, h6⟩
    all_goals
      go_wp2_with (first | (go_at_call 11; refine (num_any _ _ (by omega) (by omega)).mono ?_; rintro e w1 ⟨rfl, hw1⟩; rw [hw1]; clear hw1 w1) | (go_at_call 56; refine Calls.mono (HK.out _) ?_; rintro e w1 ⟨rfl, hw1⟩; rw [hw1]; clear hw1 w1))
      go_ret
      exact ⟨rfl, HE.out⟩
  · have hW : isW X = true := by
      cases hx : isW X with
      | true => rfl
      | false => exact absurd (.inl hx) hbad
    obtain ⟨n, rfl⟩ : ∃ n : Nat, A = (n : Int) := ⟨A.toNat, by omega⟩
    obtain ⟨f, rfl⟩ : ∃ f : Nat, B = (f : Int) := ⟨B.toNat, by omega⟩
    have hf1 : (f : Int) ≤ 1 := by omega
    have hkx : (kx == 0) = false := by
      rw [hW] at hisW
      have : kx ≠ 0 := by simpa using hisW.symm
      simpa using this
    have hn0 : (0 : Int) ≤ (n : Int) := by omega
    have hf0 : (0 : Int) ≤ (f : Int) := by omega
    have hgood := hbad
    clear hbad hisW
    by_cases hbig : 8192 < (n : Int)
    · have HAl := mkHid (Alloc_size X n f a l H W3 hA3.side.rep hT3 hW (by unfold isF; simp; omega) hbig)
      have HE : Hid (Went D w0 a m H (allocN M X n f) W3) := ⟨l, H, M, hA3.side, HI.out, by omega, by rw [allocN_big hgood hbig]; exact Lk.refl _⟩
      clear hA3 hT3 hW
      go_wp2_with fail
      refine Calls.mono HAl.out ?_
      rintro e w1 ⟨rfl, hw1⟩
      rw [hw1]
      clear hw1 w1
      go_wp2_with (first | (go_at_call 11; refine (num_any _ _ (by omega) (by omega)).mono ?_; rintro e w1 ⟨rfl, hw1⟩; rw [hw1]; clear hw1 w1) | (go_at_call 56; refine Calls.mono (HK.out _) ?_; rintro e w1 ⟨rfl, hw1⟩; rw [hw1]; clear hw1 w1))
      go_ret
      exact ⟨rfl, HE.out⟩
    · have hsmall : (n : Int) ≤ 8192 := by omega
      have HLen := mkHid (refLen_any n f)
      have hb2 := HI.out.safe.small
      have hnb := hbig
      clear hbig
      by_cases hfull : H.oops = H.count ∨ H.words < H.mem.length + lenN n f
      · have HAl := mkHid (Alloc_full X n f a l H W3 hA3.side.rep hb2 hT3 hW hf1 hsmall hfull)
        have hfull2 : (((M.oops : Int) - (N : Int) == 0) = true) ∨ (((M.oops : Int) - (N : Int) == 0) = false ∧ (M.words : Int) - (E : Int) < (lenN n f : Nat)) := by
          by_cases e : (M.oops : Int) - (N : Int) = 0
          · left; simp [e]
          · right
            refine ⟨by simpa using e, ?_⟩
            rcases hfull with h | h <;> omega
        have HE : Hid (∀ k, Went D w0 a m H (allocN M X n f) (W3.drewN k)) := fun k => ⟨l, H, M, hA3.side.drewN k, HI.out, by omega, by rw [allocN_full hgood hnb (by rw [Int.toNat_natCast, Int.toNat_natCast, hE, hN]; omega)]; exact Lk.refl _⟩
        have HC3 : Hid (∀ k, (W3.drewN k).cell? ⟨W.heap.size, 2, none⟩ = some (.int .i64 n) ∧ (W3.drewN k).cell? ⟨W.heap.size, 3, none⟩ = some (.int .i64 f) ∧ (W3.drewN k).cell? ⟨W.heap.size, 5, none⟩ = some (.int .i64 X)) := fun k => ⟨q2, q3, q5⟩
        clear hA3 hT3 hW hfull hb2
        generalize lenN n f = L at *
        go_wp2_with fail
        refine Calls.mono HAl.out ?_
        rintro e w1 ⟨rfl, k, hw1⟩
        rw [hw1]
        clear hw1 w1
        have HEk := mkHid (HE.out k)
        obtain ⟨r2, r3, r5⟩ := HC3.out k
        generalize W3.drewN k = W4 at *
        have hLen2 : ∀ V, Calls Tryd.prog 59 #[.int .i64 n, .int .i64 f] V fun e w' => e = .returned (.int .i64 (L : Int)) ∧ w' = V := fun V => HLen.out V (by omega)
        have HLen := mkHid hLen2
        clear hLen2
        rcases hfull2 with h | ⟨h, h4⟩
        all_goals
          go_wp2_with (first | (go_at_call 11; refine (num_any _ _ (by omega) (by omega)).mono ?_; rintro e w1 ⟨rfl, hw1⟩; rw [hw1]; clear hw1 w1) | (go_at_call 56; refine Calls.mono (HK.out _) ?_; rintro e w1 ⟨rfl, hw1⟩; rw [hw1]; clear hw1 w1) | (go_at_call 59; refine Calls.mono (HLen.out _) ?_; rintro e w1 ⟨rfl, hw1⟩; rw [hw1]; clear hw1 w1))
          go_ret
          exact ⟨rfl, HEk.out⟩
      · have hr1 : H.count < H.oops := by have := hb2.count; omega
        have hr2 : H.mem.length + lenN n f ≤ H.words := by omega
        have hne : ((M.oops : Int) - (N : Int) == 0) = false := by
          have : (M.oops : Int) - (N : Int) ≠ 0 := by omega
          simpa using this
        have hle : ((lenN n f : Nat) : Int) ≤ (M.words : Int) - (E : Int) := by omega
        have hLen2 : ∀ V, Calls Tryd.prog 59 #[.int .i64 n, .int .i64 f] V fun e w' => e = .returned (.int .i64 ((lenN n f : Nat) : Int)) ∧ w' = V := fun V => HLen.out V (by omega)
        have HLen := mkHid hLen2
        have hmk := HI.out.mark
        have hnf : ¬ (M.oops = thereTo M.things M.things.length ∨ M.words < endTo M.things M.things.length + lenN (n : Int).toNat (f : Int).toNat) := by rw [Int.toNat_natCast, Int.toNat_natCast, hE, hN]; omega
        have HN1 : Hid (M.mark = 1 → allocN M X n f = { M with mark := 0 }) := fun h4 => allocN_mark hgood hnb hnf h4
        have HN2 := mkHid (fun h4 : M.mark ≠ 1 => allocN_made hgood hnb hnf h4)
        clear hLen2 hfull hnf
        by_cases hmark : H.mark = 1
        · have HAl := mkHid (Alloc_marked X n f a l H W3 hA3.side.rep hb2 hT3 hW hf1 hsmall hr1 hr2 hmark)
          have hMm : M.mark = 1 := by omega
          clear hA3 hT3 hW hb2 hr1 hr2
          generalize lenN n f = L at *
          go_wp2_with fail
          refine Calls.mono HAl.out ?_
          rintro e w4 ⟨rfl, hr4, hx4⟩
          have hA4 := HA3.out.heap hr4 hx4
          obtain ⟨r2, r3, r5, -⟩ := stepO_cells hA4.box
          have c2 := hA4.side.mrep.c2
          rw [hMm] at c2
          have f2 := frozen_in hA4.side.mrep.top 2
          have HE : Hid (Went D w0 a m H (allocN M X n f) (w4.setCell ⟨m, 2, none⟩ (.int .i64 0))) :=
            ⟨l, { H with mark := 0 }, { M with mark := 0 }, hA4.side.model (hA4.side.mrep.setMark 0) (Fr.setCell _ _ _ (by simp [mfoot])) (fun g hg => .inl hg), HI.out.setMark 0 (by omega), Nat.le_succ _, by rw [HN1.out hMm]; exact Lk.refl _⟩
          clear hA4 hr4 hx4 HAl
          go_wp2_with (first | (go_at_call 11; refine (num_any _ _ (by omega) (by omega)).mono ?_; rintro e w1 ⟨rfl, hw1⟩; rw [hw1]; clear hw1 w1) | (go_at_call 56; refine Calls.mono (HK.out _) ?_; rintro e w1 ⟨rfl, hw1⟩; rw [hw1]; clear hw1 w1) | (go_at_call 59; refine Calls.mono (HLen.out _) ?_; rintro e w1 ⟨rfl, hw1⟩; rw [hw1]; clear hw1 w1))
          go_ret
          exact ⟨rfl, HE.out⟩
        · have hl0 := Nat.le_trans h2 hA3.side.fr.size
          have HAl := mkHid (Alloc_ok X n f a l H W3 hA3.side.rep HI.out.safe hT3 (hT2.keep hA3.side.fr (by omega) (fun hc => by have := hD _ hc; omega)) ha hW hf1 hsmall hr1 hr2 hmark)
          have hMm : ((M.mark : Int) == 1) = false := by
            have : (M.mark : Int) ≠ 1 := by omega
            simpa using this
          have HR1 := mkHid hr1
          have HR2 := mkHid hr2
          clear hA3 hT3 hW hb2 hr1 hr2 hl0
          generalize hL : lenN n f = L at *
          go_wp2_with fail
          refine Calls.mono HAl.out ?_
          rintro e w4 ⟨k, hk1, hk2, rfl, l', hr4, hx4⟩
          have hlow := HI.out.lowest k hk1 hk2
          rw [hlow] at hr4 ⊢
          have HHlay := mkHid (fun p pt c ct => HI.out.lay k hk1 X n f p pt c ct (by omega) (by omega) HR1.out (by rw [hL]; exact HR2.out))
          have hA4 := HA3.out.heap hr4 hx4
          obtain ⟨r2, r3, r5, -⟩ := stepO_cells hA4.box
          have c2 := hA4.side.mrep.c2
          have f2 := frozen_in hA4.side.mrep.top 2
          have hll := lowTo_le M.things
          obtain ⟨q, hq⟩ : ∃ q, lowTo M.things = q + 1 := ⟨lowTo M.things - 1, by unfold lowTo; omega⟩
          have hLow := lowest_ok m M w4 hA4.side.mrep HI.out.model.len
          rw [hq] at hLow HHlay
          rw [hq]
          have HLow := mkHid hLow
          have HA4 := mkHid hA4
          have hmm := HI.out.safe.small.mark
          have hne2 : m ≠ W.heap.size := fun e => hA4.nm (by rw [← e]; simp [mfoot])
          have HMade : Hid (∀ V, Eqw (w4.setCell ⟨m, 2, none⟩ (.int .i64 ((M.mark - 1 : Nat) : Int))) V → Calls Tryd.prog 106 #[.pointer (some ⟨m, 0, none⟩), .int .i64 ((q : Int) + 1), .int .i64 X, .int .i64 n, .int .i64 f] V fun e w' => e = .returned (.tuple #[]) ∧ Went D w0 a m H (allocN M X n f) w') := by
            intro V hV
            have hS5 := (HA4.out.side.model (HA4.out.side.mrep.setMark (M.mark - 1)) (Fr.setCell _ _ _ (by simp [mfoot])) (fun g hg => .inl hg)).eqw hV
            refine Calls.mono (made_ok q X n f m _ V hS5.mrep ⟨HI.out.model.len, HI.out.model.slots, HI.out.model.place⟩ (by omega) hsmall (by show q ≤ M.things.length; omega)) ?_
            rintro e w6 ⟨rfl, p, c, pt, ct, hm6, hf6, hp6, hpt6⟩
            refine ⟨rfl, l', _, _, hS5.model hm6 (hf6.mono (fun b hb => .inl ?_)) (fun b hb => mfoot_put q _ pt ct w0 hp6 hpt6 b hb), by have h7 := HHlay.out p pt c ct; rw [Nat.add_sub_cancel] at h7; rw [hq]; exact h7, Nat.le_succ _, by rw [HN2.out (by omega)]; exact ⟨rfl, rfl, rfl, by rw [putTh_bare, putTh_bare, hq]; rfl⟩⟩
            rcases List.mem_cons.1 hb with h | h
            · rw [h]; simp [mfoot]
            · have h3 : b ∈ blk M.pt := h; simp [mfoot, h3]
          clear hA4 hr4 hx4 hlow hk1 hk2 HAl
          rw [show ((q + 1 : Nat) : Int) = (q : Int) + 1 from by omega]
          simp only [I, show ((q + 1 : Nat) : Int) = (q : Int) + 1 from by omega] at HLow
          by_cases hm0 : M.mark = 0
          · have HM2 := mkHid (HMade.out w4 (by
              have e1 : Eqw (w4.setCell ⟨m, 2, none⟩ (.int .i64 ((M.mark - 1 : Nat) : Int))) w4 := by
                refine ⟨rfl, rfl, rfl, ?_⟩
                apply Array.ext_getElem?
                intro o
                by_cases ho : o = m
                · subst ho
                  rw [set_in HA4.out.side.mrep.top, HA4.out.side.mrep.top, hm0]
                  simp [mcells, I, hm0]
                · rw [set_else ho]
              exact e1))
            rw [hm0] at c2
            clear HMade HHlay
            go_wp2_with (first | (go_at_call 11; refine (num_any _ _ (by omega) (by omega)).mono ?_; rintro e w1 ⟨rfl, hw1⟩; rw [hw1]; clear hw1 w1) | (go_at_call 56; refine Calls.mono (HK.out _) ?_; rintro e w1 ⟨rfl, hw1⟩; rw [hw1]; clear hw1 w1) | (go_at_call 59; refine Calls.mono (HLen.out _) ?_; rintro e w1 ⟨rfl, hw1⟩; rw [hw1]; clear hw1 w1) | (go_at_call 28; refine Calls.mono HLow.out ?_; rintro e w1 ⟨rfl, hw1⟩; rw [hw1]; clear hw1 w1))
            refine Calls.mono HM2.out ?_
            rintro e w6 ⟨rfl, h6⟩
            have HE := mkHid h6
            clear h6
            go_wp2_with fail
            go_ret
            exact ⟨rfl, HE.out⟩
          · have hpos : (0 : Int) < (M.mark : Int) := by omega
            have wz : IntKind.i64.wrap ((M.mark : Int) - 1) = ((M.mark - 1 : Nat) : Int) := by rw [iwrap]; unfold wrap64; omega
            have HM2 := mkHid (HMade.out _ ⟨rfl, rfl, rfl, rfl⟩)
            have hA5 : (w4.setCell ⟨m, 2, none⟩ (.int .i64 ((M.mark - 1 : Nat) : Int))).heap[W.heap.size]? = some (stepO K O n f C X ls) := by rw [set_else (fun e => hne2 e.symm)]; exact HA4.out.box
            obtain ⟨t2, t3, t5, -⟩ := stepO_cells hA5
            clear HMade HHlay hA5
            generalize M.mark - 1 = mk1 at *
            go_wp2_with (first | (go_at_call 11; refine (num_any _ _ (by omega) (by omega)).mono ?_; rintro e w1 ⟨rfl, hw1⟩; rw [hw1]; clear hw1 w1) | (go_at_call 56; refine Calls.mono (HK.out _) ?_; rintro e w1 ⟨rfl, hw1⟩; rw [hw1]; clear hw1 w1) | (go_at_call 59; refine Calls.mono (HLen.out _) ?_; rintro e w1 ⟨rfl, hw1⟩; rw [hw1]; clear hw1 w1) | (go_at_call 28; refine Calls.mono HLow.out ?_; rintro e w1 ⟨rfl, hw1⟩; rw [hw1]; clear hw1 w1))
            refine Calls.mono HM2.out ?_
            rintro e w6 ⟨rfl, h6⟩
            have HE := mkHid h6
            clear h6
            go_wp2_with fail
            go_ret
            exact ⟨rfl, HE.out⟩
end Go.Proofs.YtklfnjlenbgmoaaDoor
