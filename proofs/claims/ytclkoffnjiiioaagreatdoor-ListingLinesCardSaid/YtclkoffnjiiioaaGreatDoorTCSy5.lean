import Derived.Test.YtclkoffnjiiioaaGreatDoorTCBeyW
import Derived.Test.YtclkoffnjiiioaaGreatDoorTCSy3
namespace Go.Proofs.YtclkoffnjiiioaaGreatDoor
open Go.RowKit
set_option linter.unusedVariables false
set_option linter.unusedSimpArgs false
attribute [local go_sem ↓] Go.wp_at_zero Go.wp_at_succ
/-- any answer; where it is no, all texts are short -/
def AnyS (w : World) (ts : List LitT) (e : Ending) (w' : World) : Prop := ∃ b, e = .returned (.bool b) ∧ Fr [] w w' ∧ (b = false → ∀ t ∈ ts, SmT t)
set_option maxRecDepth 100000 in
set_option maxHeartbeats 4000000 in
theorem beyond_is (w : World) (p : Option Addr) (c : Nat) (t0 : List LitT) (h : LitsR w p c t0) : Calls Tryz.prog 6 #[.slice p t0.length c] w fun e w' => AnyS w t0 e w' := by
  have HL0 : Hid (LvR w w p c t0) := by
    cases h with
    | mk _ _ _ nil at_ short txt kids => exact ⟨at_, short, txt, kids⟩
  clear h
  go_enter Tryz.func6, Tryz.ntmps6
  go_wp2_with fail
  go_loopw [0, 3, 4] (fun l n d wr => ∃ (p : Option Addr) (c : Nat) (ts : List LitT) (N D : Nat), l = .slice p ts.length c ∧ n = .int .i64 N ∧ d = .int .i64 D ∧ N ≤ 1048576 ∧ D ≤ 65536 ∧ ts.length ≤ 2513169434916 ∧ Hid (LvR w wr p c ts ∧ Fr [] w wr ∧ ((∀ u ∈ ts, SmT u) → ∀ t ∈ t0, SmT t))) (fun _ _ d _ => 65537 - (intOf d).toNat)
  case atStart => exact ⟨p, c, t0, 0, 0, rfl, rfl, rfl, by omega, by omega, HL0.out.short, HL0.out, Fr.refl _ _, fun hh => hh⟩
  case round =>
    clear HL0
    obtain ⟨p, c, ts, N, D, rfl, rfl, rfl, hN, hD, hsh, hst⟩ := hrel
    have N0 : (0 : Int) ≤ (N : Int) := by omega
    by_cases h0 : ts.length = 0
    · have d0 : ¬ (0 : Int) < (ts.length : Int) := by omega
      have d1 : decide ((0 : Int) < (ts.length : Int)) = false := decide_eq_false d0
      have HF := mkHid hst.out.2.1
      have HS := mkHid (hst.out.2.2 (fun u hu => by rw [List.length_eq_zero_iff.1 h0] at hu; simp at hu))
      clear hst h0
      go_wp2_with fail
      go_ret
      exact ⟨_, rfl, HF.out, fun _ => HS.out⟩
    · have d0 : (0 : Int) < (ts.length : Int) := by omega
      by_cases hbig : 65536 ≤ D ∨ 1048576 < N + ts.length
      · have HF := mkHid hst.out.2.1
        by_cases hb1 : 65536 ≤ D
        · have e1 : (65536 : Int) ≤ (D : Int) := by omega
          clear hst h0 hbig hb1
          go_wp2_with fail
          go_ret
          exact ⟨_, rfl, HF.out, fun hh => by cases hh⟩
        · have e1 : decide ((65536 : Int) ≤ (D : Int)) = false := decide_eq_false (by omega)
          have e2 : (1048576 : Int) < (N : Int) + (ts.length : Int) := by omega
          clear hst h0 hbig hb1
          go_wp2_with fail
          go_ret
          exact ⟨_, rfl, HF.out, fun hh => by cases hh⟩
      · have e1 : decide ((65536 : Int) ≤ (D : Int)) = false := decide_eq_false (by omega)
        have e2 : decide ((1048576 : Int) < (N : Int) + (ts.length : Int)) = false := decide_eq_false (by omega)
        have hT : ts.length ≤ 1048576 := by omega
        have hD2 : D < 65536 := by omega
        have HL := mkHid hst.out.1
        have HF := mkHid hst.out.2.1
        have HSo := mkHid hst.out.2.2
        have hNs : N + ts.length ≤ 1048576 := by omega
        clear hst h0 hbig
        go_wp2_with fail
        generalize wr = wo at *
        go_loopw [3, 5, 6] (fun n m q wr => ∃ (i N2 k : Nat) (p2 : Option Addr) (c2 : Nat), i ≤ ts.length ∧ q = .int .i64 i ∧ n = .int .i64 N2 ∧ N2 ≤ 1048576 ∧ m = .slice p2 k c2 ∧ k ≤ 1048576 ∧ Hid (∃ us, Nxt w wo wr k p2 c2 us ∧ ∀ (j : Nat) (t : LitT), j < i → ts[j]? = some t → t.text.size < 140737488355328 ∧ ∀ u ∈ t.kids, u ∈ us)) (fun _ _ q _ => ts.length - (intOf q).toNat)
        case atStart => exact ⟨0, N + ts.length, 0, none, 0, Nat.zero_le _, rfl, by go_num, hNs, rfl, by omega, [], ⟨rfl, ⟨rfl, .inl ⟨rfl, rfl⟩⟩, fun u hu => by simp at hu, Fr.refl _ _⟩, fun j t hj => by omega⟩
        case round =>
          obtain ⟨i, N2, k, p2, c2, hin, rfl, rfl, hN2, rfl, hk, hst⟩ := hrel
          obtain ⟨us, hus, hsmj⟩ := hst.out
          have i0 : (0 : Int) ≤ (i : Int) := by omega
          by_cases hlt : i < ts.length
          · have i1 : (i : Int) < (ts.length : Int) := by omega
            obtain ⟨ge, oe, rfl, hge, hce⟩ := HL.out.at_ (by omega)
            obtain ⟨t2, ht2⟩ : ∃ t2, ts[i]? = some t2 := ⟨_, List.getElem?_eq_getElem hlt⟩
            have hmem := List.mem_of_getElem? ht2
            obtain ⟨-, y1, -, y3'⟩ := (hce i t2 ht2).idle hus.2.2.2
            have y3 : wr.cell? ⟨ge, oe + i * 4 + 3, none⟩ = some (.slice t2.p t2.kids.length t2.c) := y3'
            have htx := HL.out.txt t2 hmem
            have hkr := HL.out.kids t2 hmem
            have hks : t2.kids.length ≤ 2513169434916 := by cases hkr with | mk _ _ _ _ _ sh _ _ => exact sh
            have tx0 : (0 : Int) ≤ (t2.text.size : Int) := by omega
            have FW0 : Fr [] w wr := HF.out.tr0 hus.2.2.2
            by_cases hov : 1048576 < N2 + t2.text.size / 64 + k + t2.kids.length
            · have HFx := mkHid FW0
              have e5 : (1048576 : Int) < (N2 : Int) + (t2.text.size : Int) / 64 + (k : Int) + (t2.kids.length : Int) := by omega
              clear hst hus hce ht2 hmem hkr y3' hov FW0 hsmj
              generalize t2.kids.length = tn at *
              generalize t2.text = tt at *
              go_wp2_with fail
              go_ret
              exact ⟨_, rfl, HFx.out, fun hh => by cases hh⟩
            · obtain ⟨p3, c3, w3, r3, o3, f3⟩ := push_lits hus.2.1 hus.1 hkr FW0 (by omega) hus.2.2.2.size
              have HR := mkHid r3
              have HNx : Hid (∃ us, Nxt w wo w3 (k + t2.kids.length) p3 c3 us ∧ ∀ (j : Nat) (t : LitT), j < i + 1 → ts[j]? = some t → t.text.size < 140737488355328 ∧ ∀ u ∈ t.kids, u ∈ us) := by
                refine ⟨us ++ t2.kids, ⟨by simp [hus.1], o3, fun u hu => ?_, hus.2.2.2.trans f3 (fun g hg => .inr (own_lt hus.2.1 g ((blk_own _ _ _ _).2 hg)).1)⟩, fun j t hj ht => ?_⟩
                · rcases List.mem_append.1 hu with hu | hu
                  · exact hus.2.2.1 u hu
                  · cases hkr with
                    | mk _ _ _ _ _ _ tx kk => exact ⟨tx u hu, kk u hu⟩
                · by_cases e : j = i
                  · subst e
                    rw [ht2] at ht
                    have := Option.some.inj ht
                    subst this
                    exact ⟨by omega, fun u hu => List.mem_append.2 (.inr hu)⟩
                  · obtain ⟨q1, q2⟩ := hsmj j t (by omega) ht
                    exact ⟨q1, fun u hu => List.mem_append.2 (.inl (q2 u hu))⟩
              have e5 : ¬ (1048576 : Int) < (N2 : Int) + (t2.text.size : Int) / 64 + (k : Int) + (t2.kids.length : Int) := by omega
              have e6 : decide ((1048576 : Int) < (N2 : Int) + (t2.text.size : Int) / 64 + (k : Int) + (t2.kids.length : Int)) = false := decide_eq_false e5
              have b1 : N2 + t2.text.size / 64 ≤ 1048576 := by omega
              have b2 : k + t2.kids.length ≤ 1048576 := by omega
              have ec : (N2 : Int) + (t2.text.size : Int) / 64 = ((N2 + t2.text.size / 64 : Nat) : Int) := by omega
              have HEc := mkHid ec
              clear hst hus hce ht2 hmem hkr y3' hov FW0 r3 o3 f3 ec hsmj
              generalize t2.kids.length = tn at *
              generalize t2.text = tt at *
              generalize t2.p = tp at *
              generalize t2.c = tc at *
              go_wp2_with (at_builtin; refine Lib.wpList_append_run _ rfl (.tmp 49) (.tmp 54) 22 22 rfl _ _ rfl rfl _ _ HR.out ?_)
              go_roundw
              case rel => exact ⟨_, _, _, _, ⟨i + 1, by omega, by go_num, N2 + tt.size / 64, by rw [HEc.out], b1, k + tn, p3, c3, rfl, b2, HNx.out⟩, rfl, rfl, rfl, rfl⟩
              case measure => simp [intOf]; omega
          · have i1 : ¬ (i : Int) < (ts.length : Int) := by omega
            have d9 : decide ((i : Int) < (ts.length : Int)) = false := decide_eq_false i1
            have HU := mkHid hus
            have hul := hus.1
            have HLv := mkHid (hus.lvr (by omega))
            have HFr := mkHid (HF.out.tr0 hus.2.2.2)
            have HSn : Hid ((∀ u ∈ us, SmT u) → ∀ t ∈ t0, SmT t) := fun hh => HSo.out (fun t ht => by
              obtain ⟨j, hj, hjt⟩ := List.getElem_of_mem ht
              obtain ⟨q1, q2⟩ := hsmj j t (by omega) (by rw [List.getElem?_eq_getElem hj, hjt])
              exact .mk t q1 (fun u hu => hh u (q2 u hu)))
            clear hst hus hsmj
            go_wp2_with fail
            go_roundw
            case rel => exact ⟨p2, c2, us, N2, D + 1, by rw [hul], rfl, by go_num, hN2, by omega, by omega, HLv.out, HFr.out, HSn.out⟩
            case measure => simp [intOf]; omega
end Go.Proofs.YtclkoffnjiiioaaGreatDoor


