import Derived.Test.YtclkoffnjiiioaaGreatDoorTCBey
namespace Go.Proofs.YtclkoffnjiiioaaGreatDoor
open Go.RowKit
set_option linter.unusedVariables false
set_option linter.unusedSimpArgs false
attribute [local go_sem ↓] Go.wp_at_zero Go.wp_at_succ
def AnyB (w : World) (e : Ending) (w' : World) : Prop := ∃ b, e = .returned (.bool b) ∧ Fr [] w w'
/-- the next level under way -/
def Nxt (w0 w wr : World) (k : Nat) (p : Option Addr) (c : Nat) (us : List LitT) : Prop := us.length = k ∧ wr.ownsRow w.heap.size 49 4 (.slice p k c) k (litCells us) ∧ (∀ u ∈ us, u.text.size ≤ 140737488355328 ∧ LitsR w0 u.p u.c u.kids) ∧ Fr [] w wr
theorem Nxt.lvr {w0 w wr : World} {k : Nat} {p : Option Addr} {c : Nat} {us : List LitT} (h : Nxt w0 w wr k p c us) (hk : k ≤ 2000000) : LvR w0 wr p c us := by
  refine ⟨fun hp => ?_, by rw [h.1]; omega, fun t ht => (h.2.2.1 t ht).1, fun t ht => (h.2.2.1 t ht).2⟩
  rcases h.2.1.2 with ⟨e, e0⟩ | ⟨g, cap, cur, e, q1, q2, q3, q4⟩
  · have := h.1; omega
  · injection e with e1 _ e3
    subst e1
    refine ⟨g, 0, rfl, lt_of_heap q2, fun i t hit => ?_⟩
    have hlt : i < us.length := (List.getElem?_eq_some_iff.1 hit).1
    have hc : ∀ j, j < 4 → wr.cell? ⟨g, i * 4 + j, none⟩ = (litc t)[j]? := fun j hj => by
      rw [h.2.1.cellAt (i * 4 + j) (by have := h.1; omega)]
      exact litCells_at _ i t j hit hj
    rw [Nat.zero_add]
    exact ⟨hc 0 (by omega), hc 1 (by omega), hc 2 (by omega), hc 3 (by omega)⟩
set_option maxRecDepth 100000 in
set_option maxHeartbeats 4000000 in
theorem beyond_ok (w : World) (p : Option Addr) (c : Nat) (ts : List LitT) (h : LitsR w p c ts) : Calls Tryz.prog 6 #[.slice p ts.length c] w fun e w' => AnyB w e w' := by
  have HL0 : Hid (LvR w w p c ts) := by
    cases h with
    | mk _ _ _ nil at_ short txt kids => exact ⟨at_, short, txt, kids⟩
  clear h
  go_enter Tryz.func6, Tryz.ntmps6
  go_wp2_with fail
  go_loopw [0, 3, 4] (fun l n d wr => ∃ (p : Option Addr) (c : Nat) (ts : List LitT) (N D : Nat), l = .slice p ts.length c ∧ n = .int .i64 N ∧ d = .int .i64 D ∧ N ≤ 1048576 ∧ D ≤ 65536 ∧ ts.length ≤ 2513169434916 ∧ Hid (LvR w wr p c ts ∧ Fr [] w wr)) (fun _ _ d _ => 65537 - (intOf d).toNat)
  case atStart => exact ⟨p, c, ts, 0, 0, rfl, rfl, rfl, by omega, by omega, HL0.out.short, HL0.out, Fr.refl _ _⟩
  case round =>
    clear HL0
    obtain ⟨p, c, ts, N, D, rfl, rfl, rfl, hN, hD, hsh, hst⟩ := hrel
    have N0 : (0 : Int) ≤ (N : Int) := by omega
    by_cases h0 : ts.length = 0
    · have d0 : ¬ (0 : Int) < (ts.length : Int) := by omega
      have d1 : decide ((0 : Int) < (ts.length : Int)) = false := decide_eq_false d0
      have HF := mkHid hst.out.2
      clear hst h0
      go_wp2_with fail
      go_ret
      exact ⟨_, rfl, HF.out⟩
    · have d0 : (0 : Int) < (ts.length : Int) := by omega
      by_cases hbig : 65536 ≤ D ∨ 1048576 < N + ts.length
      · have HF := mkHid hst.out.2
        by_cases hb1 : 65536 ≤ D
        · have e1 : (65536 : Int) ≤ (D : Int) := by omega
          clear hst h0 hbig hb1
          go_wp2_with fail
          go_ret
          exact ⟨_, rfl, HF.out⟩
        · have e1 : decide ((65536 : Int) ≤ (D : Int)) = false := decide_eq_false (by omega)
          have e2 : (1048576 : Int) < (N : Int) + (ts.length : Int) := by omega
          clear hst h0 hbig hb1
          go_wp2_with fail
          go_ret
          exact ⟨_, rfl, HF.out⟩
      · have e1 : decide ((65536 : Int) ≤ (D : Int)) = false := decide_eq_false (by omega)
        have e2 : decide ((1048576 : Int) < (N : Int) + (ts.length : Int)) = false := decide_eq_false (by omega)
        have hT : ts.length ≤ 1048576 := by omega
        have hD2 : D < 65536 := by omega
        have HL := mkHid hst.out.1
        have HF := mkHid hst.out.2
        have hNs : N + ts.length ≤ 1048576 := by omega
        clear hst h0 hbig
        go_wp2_with fail
        generalize wr = wo at *
        go_loopw [3, 5, 6] (fun n m q wr => ∃ (i N2 k : Nat) (p2 : Option Addr) (c2 : Nat), i ≤ ts.length ∧ q = .int .i64 i ∧ n = .int .i64 N2 ∧ N2 ≤ 1048576 ∧ m = .slice p2 k c2 ∧ k ≤ 1048576 ∧ Hid (∃ us, Nxt w wo wr k p2 c2 us)) (fun _ _ q _ => ts.length - (intOf q).toNat)
        case atStart => exact ⟨0, N + ts.length, 0, none, 0, Nat.zero_le _, rfl, by go_num, hNs, rfl, by omega, [], rfl, ⟨rfl, .inl ⟨rfl, rfl⟩⟩, fun u hu => by simp at hu, Fr.refl _ _⟩
        case round =>
          obtain ⟨i, N2, k, p2, c2, hin, rfl, rfl, hN2, rfl, hk, hst⟩ := hrel
          obtain ⟨us, hus⟩ := hst.out
          have i0 : (0 : Int) ≤ (i : Int) := by omega
          by_cases hlt : i < ts.length
          · have i1 : (i : Int) < (ts.length : Int) := by omega
            obtain ⟨ge, oe, rfl, hge, hce⟩ := HL.out.at_ (by omega)
            obtain ⟨t2, ht2⟩ : ∃ t2, ts[i]? = some t2 := ⟨_, List.getElem?_eq_getElem hlt⟩
            have hmem := List.mem_of_getElem? ht2
            obtain ⟨-, y1, -, y3'⟩ := (hce i t2 ht2).idle hus.2.2.2
            have y3 : wr.cell? ⟨ge, oe + i * 4 + 3, none⟩ = some (.slice t2.p t2.kids.length t2.c) := y3'
            have htx := HL.out.txt t2 hmem
            have hkr := HL.out.kids t2 hmem
            have hks : t2.kids.length ≤ 2513169434916 := by cases hkr with | mk _ _ _ _ _ sh _ _ => exact sh
            have tx0 : (0 : Int) ≤ (t2.text.size : Int) := by omega
            have FW0 : Fr [] w wr := HF.out.tr0 hus.2.2.2
            by_cases hov : 1048576 < N2 + t2.text.size / 64 + k + t2.kids.length
            · have HFx := mkHid FW0
              have e5 : (1048576 : Int) < (N2 : Int) + (t2.text.size : Int) / 64 + (k : Int) + (t2.kids.length : Int) := by omega
              clear hst hus hce ht2 hmem hkr y3' hov FW0
              generalize t2.kids.length = tn at *
              generalize t2.text = tt at *
              go_wp2_with fail
              go_ret
              exact ⟨_, rfl, HFx.out⟩
            · obtain ⟨p3, c3, w3, r3, o3, f3⟩ := push_lits hus.2.1 hus.1 hkr FW0 (by omega) hus.2.2.2.size
              have HR := mkHid r3
              have HNx : Hid (∃ us, Nxt w wo w3 (k + t2.kids.length) p3 c3 us) := by
                refine ⟨us ++ t2.kids, by simp [hus.1], o3, fun u hu => ?_, hus.2.2.2.trans f3 (fun g hg => .inr (own_lt hus.2.1 g ((blk_own _ _ _ _).2 hg)).1)⟩
                rcases List.mem_append.1 hu with hu | hu
                · exact hus.2.2.1 u hu
                · cases hkr with
                  | mk _ _ _ _ _ _ tx kk => exact ⟨tx u hu, kk u hu⟩
              have e5 : ¬ (1048576 : Int) < (N2 : Int) + (t2.text.size : Int) / 64 + (k : Int) + (t2.kids.length : Int) := by omega
              have e6 : decide ((1048576 : Int) < (N2 : Int) + (t2.text.size : Int) / 64 + (k : Int) + (t2.kids.length : Int)) = false := decide_eq_false e5
              have b1 : N2 + t2.text.size / 64 ≤ 1048576 := by omega
              have b2 : k + t2.kids.length ≤ 1048576 := by omega
              have ec : (N2 : Int) + (t2.text.size : Int) / 64 = ((N2 + t2.text.size / 64 : Nat) : Int) := by omega
              have HEc := mkHid ec
              clear hst hus hce ht2 hmem hkr y3' hov FW0 r3 o3 f3 ec
              generalize t2.kids.length = tn at *
              generalize t2.text = tt at *
              generalize t2.p = tp at *
              generalize t2.c = tc at *
              go_wp2_with (at_builtin; refine Lib.wpList_append_run _ rfl (.tmp 49) (.tmp 54) 22 22 rfl _ _ rfl rfl _ _ HR.out ?_)
              go_roundw
              case rel => exact ⟨_, _, _, _, ⟨i + 1, by omega, by go_num, N2 + tt.size / 64, by rw [HEc.out], b1, k + tn, p3, c3, rfl, b2, HNx.out⟩, rfl, rfl, rfl, rfl⟩
              case measure => simp [intOf]; omega
          · have i1 : ¬ (i : Int) < (ts.length : Int) := by omega
            have d9 : decide ((i : Int) < (ts.length : Int)) = false := decide_eq_false i1
            have HU := mkHid hus
            have hul := hus.1
            have HLv := mkHid (hus.lvr (by omega))
            have HFr := mkHid (HF.out.tr0 hus.2.2.2)
            clear hst hus
            go_wp2_with fail
            go_roundw
            case rel => exact ⟨p2, c2, us, N2, D + 1, by rw [hul], rfl, by go_num, hN2, by omega, by omega, HLv.out, HFr.out⟩
            case measure => simp [intOf]; omega
end Go.Proofs.YtclkoffnjiiioaaGreatDoor


