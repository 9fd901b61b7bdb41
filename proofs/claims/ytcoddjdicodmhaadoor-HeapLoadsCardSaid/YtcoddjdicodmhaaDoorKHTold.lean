import Derived.Test.YtcoddjdicodmhaaDoorKHSame
namespace Go.Proofs.YtcoddjdicodmhaaDoor
open Go.RowKit
set_option linter.unusedVariables false
attribute [local go_sem ↓] Go.wp_at_zero Go.wp_at_succ
/-- the heap says what the model says -/
structure Told (H : HS) (M : MS) : Prop where
  small : Small H
  words : H.words = M.words
  oops : H.oops = M.oops
  mark : H.mark = M.mark
  fin : H.mem.length = endTo M.things M.things.length
  cnt : H.count = thereTo M.things M.things.length
  is : ∀ k, k < M.things.length → (M.things.getD k noTh).there = true → Is H (k + 1) (M.things.getD k noTh)
  none : ∀ k, k < M.things.length → (M.things.getD k noTh).there = false → has H ((k : Int) + 1) = false
  all : ∀ k, k < M.things.length → (M.things.getD k noTh).there = true → (allTo H H.seats.length)[thereTo M.things k]? = some (k + 1)
  allLen : (allTo H H.seats.length).length = thereTo M.things M.things.length
  seats : (H.seats.length : Int) ≤ 65538
theorem hid_drew {S : List Nat} {w W : World} (h : Hid (Fr S w W)) : Hid (Fr S w W.drew) := h.out.trans (Fr.drew S W) (fun b hb => .inl hb)
theorem thereTo_lt (S : List Th) (k : Nat) (hk : k < S.length) (h : (S.getD k noTh).there = true) : thereTo S k < thereTo S S.length := by
  have h1 := thereTo_succ S k hk
  rw [if_pos h] at h1
  have : ∀ n, k + 1 ≤ n → n ≤ S.length → thereTo S (k + 1) ≤ thereTo S n := by
    intro n hn hl
    induction n with
    | zero => omega
    | succ n ih =>
      by_cases e : k + 1 = n + 1
      · rw [e]; exact Nat.le_refl _
      · have := ih (by omega) (by omega)
        have := thereTo_succ S n (by omega)
        omega
  have := this S.length (by omega) (Nat.le_refl _)
  omega
set_option maxRecDepth 20000 in
set_option maxHeartbeats 4000000 in
theorem told_ok (m : Nat) (M : MS) (a : Nat) (l : Lay) (H : HS) (w : World) (h : Rep w a l H) (hm : MRep w m M) (ho : MOk M) (ht : Told H M) :
    Calls Tryd.prog 26 #[.pointer (some ⟨m, 0, none⟩), .pointer (some ⟨a, 0, none⟩)] w fun e w' => e = .returned (.bool true) ∧ Fr [] w w' := by
  have hml := hm.lt m (by simp [mfoot])
  have hlen := ho.len
  have HAll := mkHid (All_ok a l H w h ht.seats)
  have s1 : ((endTo M.things M.things.length : Nat) : Int) ≤ (M.words : Int) := by have := ht.small.mem; have := ht.fin; have := ht.words; omega
  have s2 : (M.words : Int) ≤ 1048576 := by have := ht.small.words; have := ht.words; omega
  have s3 : ((thereTo M.things M.things.length : Nat) : Int) ≤ (M.oops : Int) := by have := ht.small.count; have := ht.cnt; have := ht.oops; omega
  have s4 : (M.oops : Int) ≤ 65536 := by have := ht.small.oops; have := ht.oops; omega
  have HAt : Hid (∀ k, k < M.things.length → (M.things.getD k noTh).there = true → (allTo H H.seats.length)[thereTo M.things k]? = some (k + 1)) := ht.all
  have hal := ht.allLen
  have HR := mkHid h
  have HM := mkHid hm
  have HO := mkHid ho
  have HTd := mkHid ht
  clear h hm ho ht
  generalize hL : allTo H H.seats.length = L at *
  clear hL
  go_enter Tryd.func26, Tryd.ntmps26
  go_wp2_with fail
  refine Calls.mono HAll.out ?_
  rintro e w1 ⟨v, rfl, hown, hf1⟩
  have F1 := mkHid hf1
  have OW := mkHid hown
  clear hown hf1
  have h := HR.out.keep F1.out (by simp)
  have hm := HM.out.keep F1.out (by simp)
  have ho := HO.out
  have ht := HTd.out
  have HRoom : Hid (Calls Tryd.prog 20 #[.pointer (some ⟨a, 0, none⟩)] w1 fun e w' => e = .returned (.tuple #[.int .i64 ((M.words : Int) - (endTo M.things M.things.length : Nat)), .int .i64 ((M.oops : Int) - (thereTo M.things M.things.length : Nat))]) ∧ ∃ n, w' = w1.drewN n) := by
    have := Room_any a l H w1 h ht.small
    rw [ht.words, ht.oops, ht.fin, ht.cnt] at this
    exact this
  have HEnd : Hid (∀ W, Hid (Fr [] w1 W) → Calls Tryd.prog 32 #[.pointer (some ⟨m, 0, none⟩)] W fun e w' => e = .returned (.int .i64 (endTo M.things M.things.length : Nat)) ∧ Hid (Fr [] w1 w')) := by
    intro W hW
    refine Calls.mono (end_ok m M W (hm.keep hW.out (by simp)) ho) ?_
    rintro e w' ⟨rfl, hf⟩
    exact ⟨rfl, hW.out.trans hf (by simp)⟩
  have HThere : Hid (∀ W, Hid (Fr [] w1 W) → Calls Tryd.prog 33 #[.pointer (some ⟨m, 0, none⟩)] W fun e w' => e = .returned (.int .i64 (thereTo M.things M.things.length : Nat)) ∧ w' = W) := by
    intro W hW
    exact there_ok m M W (hm.keep hW.out (by simp)) ho.len
  have HMk : Hid (∀ W, Hid (Fr [] w1 W) → Calls Tryd.prog 15 #[.pointer (some ⟨a, 0, none⟩)] W fun e w' => e = .returned (.int .i64 M.mark) ∧ w' = W) := by
    intro W hW
    rw [← ht.mark]
    exact Marked_any a l H W (h.keep hW.out (by simp))
  have KS : Hid (∀ W, Hid (Fr [] w1 W) → W.cell? ⟨m, 0, none⟩ = some (.int .i64 M.words) ∧ W.cell? ⟨m, 1, none⟩ = some (.int .i64 M.oops) ∧ W.cell? ⟨m, 2, none⟩ = some (.int .i64 M.mark) ∧ Hid (Fr [] w1 W)) := by
    intro W hW
    have h2 := hm.keep hW.out (by simp)
    exact ⟨h2.c0, h2.c1, h2.c2, hW⟩
  have HNo : Hid (∀ W, Hid (Fr [] w1 W) → ∀ k, k < M.things.length → (M.things.getD k noTh).there = false → Calls Tryd.prog 68 #[.pointer (some ⟨a, 0, none⟩), .int .i64 ((k : Int) + 1)] W fun e w' => e = .returned (.tuple #[.int .i64 0, .int .i64 20]) ∧ Hid (Fr [] w1 w')) := by
    intro W hW k hk hb
    refine Calls.mono (Class_no _ a l H W (h.keep hW.out (by simp)) (ht.none k hk hb)) ?_
    rintro e w' ⟨rfl, hf⟩
    exact ⟨rfl, hW.out.trans hf (by simp)⟩
  have HSm : Hid (∀ W, Hid (Fr [] w1 W) → ∀ k, k < M.things.length → (M.things.getD k noTh).there = true → Calls Tryd.prog 69 #[thv (M.things.getD k noTh), .pointer (some ⟨a, 0, none⟩), .int .i64 ((k : Int) + 1)] W fun e w' => e = .returned (.bool true) ∧ Hid (Fr [] w1 w')) := by
    intro W hW k hk hb
    have hms := ht.small.mem
    have hws := ht.small.words
    refine Calls.mono (same_ok (k + 1) (M.things.getD k noTh) a l H W (h.keep hW.out (by simp)) (ht.is k hk hb) (by omega) ((hm.keep hW.out (by simp)).slots _ ?_)) ?_
    · rw [List.getD_eq_getElem?_getD, List.getElem?_eq_getElem hk]; exact List.getElem_mem hk
    · rintro e w' ⟨rfl, hf⟩
      exact ⟨rfl, hW.out.trans hf (by simp)⟩
  have HM1 := mkHid hm
  clear h hm ho ht HR HM HTd HO
  go_wp2_with fail
  refine Calls.mono HRoom.out ?_
  rintro e w2 ⟨rfl, n2, rfl⟩
  have F2 : Hid (Fr [] w1 (w1.drewN n2)) := Fr.drewN [] _ _
  generalize hE : endTo M.things M.things.length = E at *
  clear hE
  have z1 : IntKind.i64.wrap ((M.words : Int) - (E : Int)) = (M.words : Int) - (E : Int) := by rw [iwrap]; unfold wrap64; omega
  have z2 : IntKind.i64.wrap ((M.oops : Int) - ((thereTo M.things M.things.length : Nat) : Int)) = (M.oops : Int) - ((thereTo M.things M.things.length : Nat) : Int) := by rw [iwrap]; unfold wrap64; omega
  go_wp2_with fail
  go_region_held3 (fun w' => w'.cell? ⟨m, 0, none⟩ = some (.int .i64 M.words) ∧ w'.cell? ⟨m, 1, none⟩ = some (.int .i64 M.oops) ∧ w'.cell? ⟨m, 2, none⟩ = some (.int .i64 M.mark) ∧ Hid (Fr [] w1 w')) (exact KS.out _ (by first | assumption | exact hid_drew (by assumption) | (go_split_ands; first | assumption | exact hid_drew (by assumption))))
    (first
      | (go_at_call 32; refine (HEnd.out _ (by first | assumption | (go_split_ands; first | assumption | exact hid_drew (by assumption)))).mono ?_; rintro e w' ⟨rfl, hf'⟩)
      | (go_at_call 33; refine (HThere.out _ (by first | assumption | (go_split_ands; first | assumption | exact hid_drew (by assumption)))).mono ?_; rintro e w' ⟨rfl, rfl⟩)
      | (go_at_call 15; refine (HMk.out _ (by first | assumption | (go_split_ands; first | assumption | exact hid_drew (by assumption)))).mono ?_; rintro e w' ⟨rfl, rfl⟩))
  have F3 : Hid (Fr [] w1 w') := by assumption
  clear z1 z2 s1 s2 HRoom HEnd HThere HMk KS HAll F2
  go_wp2_with fail
  generalize w' = W0 at *
  go_loopw [6, 9] (fun x q wr => ∃ k : Nat, k ≤ M.things.length ∧ q = .int .i64 k ∧ x = .int .i64 (thereTo M.things k : Nat) ∧ Hid (Fr [] w1 wr)) (fun _ q _ => M.things.length - (intOf q).toNat)
  case atStart => exact ⟨0, Nat.zero_le _, rfl, rfl, F3⟩
  case round =>
    obtain ⟨k, hkn, rfl, rfl, hfr⟩ := hrel
    have hmr := HM1.out.keep hfr.out (by simp)
    have c3 := hmr.c3
    by_cases hlt : k < M.things.length
    · obtain ⟨g, hg, hc, hf, hgl⟩ := hmr.thAt (by omega)
      obtain ⟨q0, q1, q2, q3, q4⟩ := hc k hlt
      rw [hg] at c3
      simp only [I] at q2 q3
      have k1 : (0 : Int) ≤ (k : Int) := by omega
      have k2 : (k : Int) < (M.things.length : Int) := by omega
      have hsu := thereTo_succ M.things k hlt
      have HSU := mkHid hsu
      clear hc hf hmr hsu hg
      cases hb : (M.things.getD k noTh).there with
      | false =>
        rw [hb] at q0 HSU
        have HS2 := HSU.out
        rw [if_neg (by simp)] at HS2
        have HS3 := mkHid HS2
        have HCl := mkHid (HNo.out wr hfr k hlt hb)
        clear HS2 HSU hb
        go_wp2_with fail
        refine Calls.mono HCl.out ?_
        rintro e w3 ⟨rfl, hf3⟩
        go_wp2_with (go_at_call 11; refine (num_any _ _ (by omega) (by omega)).mono ?_; rintro e w1 ⟨rfl, hw1⟩; rw [hw1]; clear hw1 w1)
        go_roundw
        case rel => exact ⟨k + 1, by omega, by go_num, by rw [HS3.out]; rfl, hf3⟩
        case measure => simp [intOf]; omega
      | true =>
        have hat := HAt.out k hlt hb
        have hxl := thereTo_lt M.things k hlt hb
        have HSame := mkHid (HSm.out wr hfr k hlt hb)
        obtain ⟨gl, cl, hv, hvl⟩ : ∃ gl cl, v = .slice (some ⟨gl, 0, none⟩) L.length cl ∧ wr.cell? ⟨gl, thereTo M.things k, none⟩ = some (.int .i64 ((k : Int) + 1)) := by
          have hp : 0 < L.length := by omega
          obtain ⟨g, c, hv, _, hgl⟩ := OW.out.form hp
          refine ⟨g, c, hv, ?_⟩
          have hs' := OW.out
          rw [hv] at hs'
          rw [hfr.out.cell (p := ⟨g, thereTo M.things k, none⟩) hgl (by simp), hs'.cellAt _ (by omega), List.getElem?_map, hat]
          rfl
        rw [hb] at q0 HSU
        have HS2 := HSU.out
        rw [if_pos rfl] at HS2
        have HS3 := mkHid HS2
        subst hv
        have x1 : (0 : Int) ≤ ((thereTo M.things k : Nat) : Int) := by omega
        have x2 : ((thereTo M.things k : Nat) : Int) < (L.length : Int) := by omega
        have x3 := thereTo_le M.things k
        dsimp only [thv] at HSame
        rw [hb] at HSame
        clear HS2 HSU hb hat hxl OW
        generalize thereTo M.things k = X at *
        clear HSm HNo HAt HM1 hal
        generalize M.things.getD k noTh = t at *
        obtain ⟨th, tcl, fm, pl, sl, tp, tc⟩ := t
        dsimp only at *
        generalize sl.length = sn at *
        generalize L.length = ln at *
        go_wp2_with fail
        refine Calls.mono HSame.out ?_
        rintro e w3 ⟨rfl, hf3⟩
        go_wp2_with fail
        go_roundw
        case rel => exact ⟨k + 1, by omega, by go_num, by rw [HS3.out]; go_num, hf3⟩
        case measure => simp [intOf]; omega
    · have hke : k = M.things.length := by omega
      subst hke
      obtain ⟨gl, cl, hv⟩ : ∃ p c, v = .slice p L.length c := by
        rcases OW.out.2 with ⟨h2, h3⟩ | ⟨g, cap, cur, h2, _⟩
        · exact ⟨none, 0, by rw [h2, h3]⟩
        · exact ⟨_, cap, h2⟩
      rw [hv]
      go_wp2
      go_ret
      exact ⟨ret_bool (by simp), F1.out.trans hfr.out (by simp)⟩
end Go.Proofs.YtcoddjdicodmhaaDoor
