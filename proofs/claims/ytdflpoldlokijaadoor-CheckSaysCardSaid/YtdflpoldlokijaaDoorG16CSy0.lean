import Derived.Test.YtdflpoldlokijaaDoorG14CSy1
import Derived.Test.YtdflpoldlokijaaDoorG15CSy3
import Derived.MapKept
import Derived.Test.YtdflpoldlokijaaDoorG13CTwin
namespace Go.Proofs.YtdflpoldlokijaaDoor
open Go.RowKit
set_option linter.unusedVariables false
set_option linter.unusedSimpArgs false
attribute [local go_sem ↓] Go.wp_at_zero Go.wp_at_succ
/-- any answer; where it is no, all texts are short -/
def AnyS (w : World) (ts : List LitT) (e : Ending) (w' : World) : Prop := ∃ b, e = .returned (.bool b) ∧ Fr [] w w' ∧ (b = false → ∀ t ∈ ts, SmT t)
set_option maxRecDepth 100000 in
set_option maxHeartbeats 4000000 in
theorem beyond_is (w : World) (p : Option Addr) (c : Nat) (t0 : List LitT) (h : LitsR w p c t0) : Calls Tryd.prog 5 #[.slice p t0.length c] w fun e w' => AnyS w t0 e w' := by
  have HL0 : Hid (LvR w w p c t0) := by
    cases h with
    | mk _ _ _ nil at_ short txt kids => exact ⟨at_, short, txt, kids⟩
  clear h
  go_enter Tryd.func5, Tryd.ntmps5
  go_wp2_with fail
  go_loopw [0, 3, 4] (fun l n d wr => ∃ (p : Option Addr) (c : Nat) (ts : List LitT) (N D : Nat), l = .slice p ts.length c ∧ n = .int .i64 N ∧ d = .int .i64 D ∧ N ≤ 1048576 ∧ D ≤ 65536 ∧ ts.length ≤ 2513169434916 ∧ Hid (LvR w wr p c ts ∧ Fr [] w wr ∧ ((∀ u ∈ ts, SmT u) → ∀ t ∈ t0, SmT t))) (fun _ _ d _ => 65537 - (intOf d).toNat)
  case atStart => exact ⟨p, c, t0, 0, 0, rfl, rfl, rfl, by omega, by omega, HL0.out.short, HL0.out, Fr.refl _ _, fun hh => hh⟩
  case round =>
    clear HL0
    obtain ⟨p, c, ts, N, D, rfl, rfl, rfl, hN, hD, hsh, hst⟩ := hrel
    have N0 : (0 : Int) ≤ (N : Int) := by omega
    by_cases h0 : ts.length = 0
    · have d0 : ¬ (0 : Int) < (ts.length : Int) := by omega
      have d1 : decide ((0 : Int) < (ts.length : Int)) = false := decide_eq_false d0
      have HF := mkHid hst.out.2.1
      have HS := mkHid (hst.out.2.2 (fun u hu => by rw [List.length_eq_zero_iff.1 h0] at hu; simp at hu))
      clear hst h0
      go_wp2_with fail
      go_ret
      exact ⟨_, rfl, HF.out, fun _ => HS.out⟩
    · have d0 : (0 : Int) < (ts.length : Int) := by omega
      by_cases hbig : 65536 ≤ D ∨ 1048576 < N + ts.length
      · have HF := mkHid hst.out.2.1
        by_cases hb1 : 65536 ≤ D
        · have e1 : (65536 : Int) ≤ (D : Int) := by omega
          clear hst h0 hbig hb1
          go_wp2_with fail
          go_ret
          exact ⟨_, rfl, HF.out, fun hh => by cases hh⟩
        · have e1 : decide ((65536 : Int) ≤ (D : Int)) = false := decide_eq_false (by omega)
          have e2 : (1048576 : Int) < (N : Int) + (ts.length : Int) := by omega
          clear hst h0 hbig hb1
          go_wp2_with fail
          go_ret
          exact ⟨_, rfl, HF.out, fun hh => by cases hh⟩
      · have e1 : decide ((65536 : Int) ≤ (D : Int)) = false := decide_eq_false (by omega)
        have e2 : decide ((1048576 : Int) < (N : Int) + (ts.length : Int)) = false := decide_eq_false (by omega)
        have hT : ts.length ≤ 1048576 := by omega
        have hD2 : D < 65536 := by omega
        have HL := mkHid hst.out.1
        have HF := mkHid hst.out.2.1
        have HSo := mkHid hst.out.2.2
        have hNs : N + ts.length ≤ 1048576 := by omega
        clear hst h0 hbig
        go_wp2_with fail
        generalize wr = wo at *
        go_loopw [3, 5, 6] (fun n m q wr => ∃ (i N2 k : Nat) (p2 : Option Addr) (c2 : Nat), i ≤ ts.length ∧ q = .int .i64 i ∧ n = .int .i64 N2 ∧ N2 ≤ 1048576 ∧ m = .slice p2 k c2 ∧ k ≤ 1048576 ∧ Hid (∃ us, Nxt w wo wr k p2 c2 us ∧ ∀ (j : Nat) (t : LitT), j < i → ts[j]? = some t → t.text.size < 140737488355328 ∧ ∀ u ∈ t.kids, u ∈ us)) (fun _ _ q _ => ts.length - (intOf q).toNat)
        case atStart => exact ⟨0, N + ts.length, 0, none, 0, Nat.zero_le _, rfl, by go_num, hNs, rfl, by omega, [], ⟨rfl, ⟨rfl, .inl ⟨rfl, rfl⟩⟩, fun u hu => by simp at hu, Fr.refl _ _⟩, fun j t hj => by omega⟩
        case round =>
          obtain ⟨i, N2, k, p2, c2, hin, rfl, rfl, hN2, rfl, hk, hst⟩ := hrel
          obtain ⟨us, hus, hsmj⟩ := hst.out
          have i0 : (0 : Int) ≤ (i : Int) := by omega
          by_cases hlt : i < ts.length
          · have i1 : (i : Int) < (ts.length : Int) := by omega
            obtain ⟨ge, oe, rfl, hge, hce⟩ := HL.out.at_ (by omega)
            obtain ⟨t2, ht2⟩ : ∃ t2, ts[i]? = some t2 := ⟨_, List.getElem?_eq_getElem hlt⟩
            have hmem := List.mem_of_getElem? ht2
            obtain ⟨-, y1, -, y3'⟩ := (hce i t2 ht2).idle hus.2.2.2
            have y3 : wr.cell? ⟨ge, oe + i * 4 + 3, none⟩ = some (.slice t2.p t2.kids.length t2.c) := y3'
            have htx := HL.out.txt t2 hmem
            have hkr := HL.out.kids t2 hmem
            have hks : t2.kids.length ≤ 2513169434916 := by cases hkr with | mk _ _ _ _ _ sh _ _ => exact sh
            have tx0 : (0 : Int) ≤ (t2.text.size : Int) := by omega
            have FW0 : Fr [] w wr := HF.out.tr0 hus.2.2.2
            by_cases hov : 1048576 < N2 + t2.text.size / 64 + k + t2.kids.length
            · have HFx := mkHid FW0
              have e5 : (1048576 : Int) < (N2 : Int) + (t2.text.size : Int) / 64 + (k : Int) + (t2.kids.length : Int) := by omega
              clear hst hus hce ht2 hmem hkr y3' hov FW0 hsmj
              generalize t2.kids.length = tn at *
              generalize t2.text = tt at *
              go_wp2_with fail
              go_ret
              exact ⟨_, rfl, HFx.out, fun hh => by cases hh⟩
            · obtain ⟨p3, c3, w3, r3, o3, f3⟩ := push_lits hus.2.1 hus.1 hkr FW0 (by omega) hus.2.2.2.size
              have HR := mkHid r3
              have HNx : Hid (∃ us, Nxt w wo w3 (k + t2.kids.length) p3 c3 us ∧ ∀ (j : Nat) (t : LitT), j < i + 1 → ts[j]? = some t → t.text.size < 140737488355328 ∧ ∀ u ∈ t.kids, u ∈ us) := by
                refine ⟨us ++ t2.kids, ⟨by simp [hus.1], o3, fun u hu => ?_, hus.2.2.2.trans f3 (fun g hg => .inr (own_lt hus.2.1 g ((blk_own _ _ _ _).2 hg)).1)⟩, fun j t hj ht => ?_⟩
                · rcases List.mem_append.1 hu with hu | hu
                  · exact hus.2.2.1 u hu
                  · cases hkr with
                    | mk _ _ _ _ _ _ tx kk => exact ⟨tx u hu, kk u hu⟩
                · by_cases e : j = i
                  · subst e
                    rw [ht2] at ht
                    have := Option.some.inj ht
                    subst this
                    exact ⟨by omega, fun u hu => List.mem_append.2 (.inr hu)⟩
                  · obtain ⟨q1, q2⟩ := hsmj j t (by omega) ht
                    exact ⟨q1, fun u hu => List.mem_append.2 (.inl (q2 u hu))⟩
              have e5 : ¬ (1048576 : Int) < (N2 : Int) + (t2.text.size : Int) / 64 + (k : Int) + (t2.kids.length : Int) := by omega
              have e6 : decide ((1048576 : Int) < (N2 : Int) + (t2.text.size : Int) / 64 + (k : Int) + (t2.kids.length : Int)) = false := decide_eq_false e5
              have b1 : N2 + t2.text.size / 64 ≤ 1048576 := by omega
              have b2 : k + t2.kids.length ≤ 1048576 := by omega
              have ec : (N2 : Int) + (t2.text.size : Int) / 64 = ((N2 + t2.text.size / 64 : Nat) : Int) := by omega
              have HEc := mkHid ec
              clear hst hus hce ht2 hmem hkr y3' hov FW0 r3 o3 f3 ec hsmj
              generalize t2.kids.length = tn at *
              generalize t2.text = tt at *
              generalize t2.p = tp at *
              generalize t2.c = tc at *
              go_wp2_with (at_builtin; refine Lib.wpList_append_run _ rfl (.tmp 49) (.tmp 54) 22 22 rfl _ _ rfl rfl _ _ HR.out ?_)
              go_roundw
              case rel => exact ⟨_, _, _, _, ⟨i + 1, by omega, by go_num, N2 + tt.size / 64, by rw [HEc.out], b1, k + tn, p3, c3, rfl, b2, HNx.out⟩, rfl, rfl, rfl, rfl⟩
              case measure => simp [intOf]; omega
          · have i1 : ¬ (i : Int) < (ts.length : Int) := by omega
            have d9 : decide ((i : Int) < (ts.length : Int)) = false := decide_eq_false i1
            have HU := mkHid hus
            have hul := hus.1
            have HLv := mkHid (hus.lvr (by omega))
            have HFr := mkHid (HF.out.tr0 hus.2.2.2)
            have HSn : Hid ((∀ u ∈ us, SmT u) → ∀ t ∈ t0, SmT t) := fun hh => HSo.out (fun t ht => by
              obtain ⟨j, hj, hjt⟩ := List.getElem_of_mem ht
              obtain ⟨q1, q2⟩ := hsmj j t (by omega) (by rw [List.getElem?_eq_getElem hj, hjt])
              exact .mk t q1 (fun u hu => hh u (q2 u hu)))
            clear hst hus hsmj
            go_wp2_with fail
            go_roundw
            case rel => exact ⟨p2, c2, us, N2, D + 1, by rw [hul], rfl, by go_num, hN2, by omega, by omega, HLv.out, HFr.out, HSn.out⟩
            case measure => simp [intOf]; omega
end Go.Proofs.YtdflpoldlokijaaDoor
namespace Go.Proofs.YtdflpoldlokijaaDoor
open Go.RowKit
set_option linter.unusedVariables false
set_option linter.unusedSimpArgs false
attribute [local go_sem ↓] Go.wp_at_zero Go.wp_at_succ
theorem bne_str (k : ByteArray) : (k != k) = false := by
  unfold bne
  rw [(Go.MapKept.bytes_beq k k).2 rfl]
  rfl
set_option maxRecDepth 100000 in
set_option maxHeartbeats 4000000 in
theorem whole_ok (w : World) (Ok : Nat → Prop) (p : Option Addr) (c : Nat) (us : List LitT) (h : LitsM w Ok p c us) : ∀ (k : Nat) (pl : Option Addr) (cl : Nat) (ts : List LitT), LitsR w pl cl ts → stL us = stL ts → Calls Tryd.prog 17 #[.slice p us.length c, .slice pl ts.length cl] (w.drewN k) fun e w' => e = .returned (.bool true) ∧ ∃ n, w' = (w.drewN k).drewN n := by
  induction h with
  | mk Ok g c us K row ok short txt sub dis kids ih =>
    intro k pl cl ts hr hst
    have hlen : us.length = ts.length := by rw [← stL_len, hst, stL_len]
    have hcap : us.length + 1 ≤ c := by
      rcases row.2 with ⟨e, e0⟩ | ⟨g', cap, cur, e, q1, q2, q3, q4⟩
      · omega
      · injection e with e1 _ e3; omega
    have hmark : w.cell? ⟨g, us.length * 4, none⟩ = some (.int .i64 (-7)) := by
      have h0 : (us ++ [markL])[us.length]? = some markL := by rw [List.getElem?_append_right (Nat.le_refl _), Nat.sub_self]; rfl
      rw [row.cellAt (us.length * 4) (by omega)]
      exact litCells_at _ us.length markL 0 h0 (by omega)
    obtain ⟨at_, hks⟩ : (0 < ts.length → ∃ g off, pl = some ⟨g, off, none⟩ ∧ g < w.heap.size ∧ ∀ i t, ts[i]? = some t → LitAt w g (off + i * 4) t) ∧ ∀ t ∈ ts, LitsR w t.p t.c t.kids := by
      cases hr with
      | mk _ _ _ nil at_ short txt kids => exact ⟨at_, kids⟩
    have HAt := mkHid at_
    have HKs := mkHid hks
    have HIh := mkHid ih
    have HRow := mkHid row
    have hsts : ∀ (i : Nat) (a b : LitT), us[i]? = some a → ts[i]? = some b → stT a = stT b := fun i a b ha hb => by
      have := congrArg (fun l => l[i]?) hst
      simp only [stL_map, List.getElem?_map, ha, hb, Option.map_some] at this
      exact Option.some.inj this
    have HSt := mkHid hsts
    rw [← hlen]
    clear at_ hks ih row hr hst hsts kids sub dis txt ok
    have HLen := mkHid hlen
    clear hlen
    generalize hnn : us.length = nn at *
    have c1 : decide ((c : Int) ≤ (nn : Int)) = false := decide_eq_false (by omega)
    have c1n : decide (c ≤ nn) = false := decide_eq_false (by omega)
    have c1m : ¬ c ≤ nn := by omega
    have c2 : (nn : Int) + 1 ≤ (c : Int) := by omega
    have c3 : (0 : Int) ≤ (nn : Int) + 1 := by omega
    have hwr : IntKind.i64.wrap ((nn : Int) + 1) = (nn : Int) + 1 := iwrap_id (by omega) (by omega)
    have hq : ((nn : Int) != (nn : Int)) = false := by simp
    go_enter Tryd.func17, Tryd.ntmps17
    go_wp2_with fail
    go_loopw [5] (fun q wr => (∃ n, wr = w.drewN n ∧ k ≤ n) ∧ ∃ i : Nat, i ≤ nn ∧ q = .int .i64 (i : Int)) (fun q _ => nn - (intOf q).toNat)
    case atStart => exact ⟨⟨k, rfl, Nat.le_refl _⟩, 0, by omega, rfl⟩
    case round =>
      obtain ⟨⟨n0, rfl, hkn⟩, i, hin, rfl⟩ := hrel
      have i0 : (0 : Int) ≤ (i : Int) := by omega
      by_cases hlt : i < nn
      · have i1 : (i : Int) < (nn : Int) := by omega
        obtain ⟨a, ha⟩ : ∃ a, us[i]? = some a := ⟨us[i]'(by omega), List.getElem?_eq_getElem _⟩
        obtain ⟨b, hb⟩ : ∃ b, ts[i]? = some b := ⟨ts[i]'(by have := HLen.out; omega), List.getElem?_eq_getElem _⟩
        obtain ⟨e1, e2, e3, e4⟩ := stT_inj (HSt.out i a b ha hb)
        have ha2 : (us ++ [markL])[i]? = some a := by rw [List.getElem?_append_left (by omega)]; exact ha
        have hca : ∀ j, j < 4 → w.cell? ⟨g, i * 4 + j, none⟩ = (litc a)[j]? := fun j hj => by
          rw [HRow.out.cellAt (i * 4 + j) (by omega)]
          exact litCells_at _ i a j ha2 hj
        obtain ⟨gl, off, rfl, hgl, hcb⟩ := HAt.out (by have := HLen.out; omega)
        obtain ⟨b0, b1, b2, b3'⟩ := hcb i b hb
        have b3 : w.cell? ⟨gl, off + i * 4 + 3, none⟩ = some (.slice b.p b.kids.length b.c) := b3'
        have a0 : w.cell? ⟨g, i * 4, none⟩ = some (.int .i64 a.kind) := hca 0 (by omega)
        have a1 : w.cell? ⟨g, i * 4 + 1, none⟩ = some (.string a.text) := hca 1 (by omega)
        have a2 : w.cell? ⟨g, i * 4 + 2, none⟩ = some (.int .i64 a.num) := hca 2 (by omega)
        have a3 : w.cell? ⟨g, i * 4 + 3, none⟩ = some (.slice a.p a.kids.length a.c) := hca 3 (by omega)
        have HC : Hid (∀ q, Calls Tryd.prog 17 #[.slice a.p a.kids.length a.c, .slice b.p b.kids.length b.c] ((w.drewN n0).drewN q) fun e w' => e = .returned (.bool true) ∧ ∃ n, w' = (w.drewN n0).drewN n) := fun q => by
          have := HIh.out i a ha (n0 + q) b.p b.c b.kids (HKs.out b (List.mem_of_getElem? hb)) e4
          rw [World.drewN_drewN]
          refine this.mono ?_
          rintro e w' ⟨rfl, n, rfl⟩
          exact ⟨rfl, q + n, by simp only [World.drewN_drewN, Nat.add_assoc]⟩
        have HC2 : Hid (∀ q, Calls Tryd.prog 17 #[.slice a.p a.kids.length a.c, .slice b.p b.kids.length b.c] (w.drewN (n0 + q)) fun e w' => e = .returned (.bool true) ∧ ∃ n, w' = w.drewN (n0 + n)) := fun q => by
          have := HIh.out i a ha (n0 + q) b.p b.c b.kids (HKs.out b (List.mem_of_getElem? hb)) e4
          refine this.mono ?_
          rintro e w' ⟨rfl, n, rfl⟩
          exact ⟨rfl, q + n, by simp only [World.drewN_drewN, Nat.add_assoc]⟩
        have HC3 : Hid (Calls Tryd.prog 17 #[.slice a.p a.kids.length a.c, .slice b.p b.kids.length b.c] ((w.drewN n0).drew) fun e w' => e = .returned (.bool true) ∧ ∃ n, n0 ≤ n ∧ w' = w.drewN n) := by
          have := HIh.out i a ha (n0 + 1) b.p b.c b.kids (HKs.out b (List.mem_of_getElem? hb)) e4
          refine Calls.mono (show Calls Tryd.prog 17 _ ((w.drewN n0).drew) _ from this) ?_
          rintro e w' ⟨rfl, n, rfl⟩
          exact ⟨rfl, n0 + 1 + n, by omega, by rw [World.drewN_drewN]⟩
        rw [e1] at a0
        rw [e2] at a1
        rw [e3] at a2
        clear hcb hca ha hb ha2 e1 e2 e3 e4 b3' HAt HIh HSt HRow HKs
        generalize b.kind = k0 at *
        generalize b.text = k1 at *
        generalize b.num = k2 at *
        generalize a.p = ap at *
        generalize a.c = ac at *
        generalize b.p = bp at *
        generalize b.c = bc at *
        generalize a.kids.length = an at *
        generalize b.kids.length = bn at *
        have q0 : (k0 != k0) = false := by simp
        have q1 : (k1 != k1) = false := bne_str k1
        have q2 : (k2 != k2) = false := by simp
        go_wp2_with fail
        go_region_held3 (fun U => U.cell? ⟨g, i * 4, none⟩ = some (.int .i64 k0) ∧ U.cell? ⟨g, i * 4 + 1, none⟩ = some (.string k1) ∧ U.cell? ⟨g, i * 4 + 2, none⟩ = some (.int .i64 k2) ∧ U.cell? ⟨g, i * 4 + 3, none⟩ = some (.slice ap an ac) ∧ U.cell? ⟨gl, off + i * 4, none⟩ = some (.int .i64 k0) ∧ U.cell? ⟨gl, off + i * 4 + 1, none⟩ = some (.string k1) ∧ U.cell? ⟨gl, off + i * 4 + 2, none⟩ = some (.int .i64 k2) ∧ U.cell? ⟨gl, off + i * 4 + 3, none⟩ = some (.slice bp bn bc))
          (exact ⟨a0, a1, a2, a3, b0, b1, b2, b3⟩)
          ((go_at_call 17; refine HC3.out.mono ?_; rintro e2 w2 ⟨rfl, n2, hn2, hw2⟩; rw [hw2]; clear hw2 w2))
        all_goals go_wp2_with fail
        all_goals
          go_roundw
          case rel => exact ⟨⟨n2, rfl, by omega⟩, i + 1, by omega, by go_num⟩
          case measure => simp [intOf]; omega
      · have i1 : decide ((i : Int) < (nn : Int)) = false := decide_eq_false (by omega)
        go_wp2_with fail
        go_ret
        exact ⟨rfl, n0 - k, by rw [World.drewN_drewN, show k + (n0 - k) = n0 by omega]⟩
end Go.Proofs.YtdflpoldlokijaaDoor
namespace Go.Proofs.YtdflpoldlokijaaDoor
open Go.RowKit
set_option linter.unusedVariables false
set_option linter.unusedSimpArgs false
attribute [local go_sem ↓] Go.wp_at_zero Go.wp_at_succ
theorem own_shape {w : World} {base : Nat} {e : TypeId} {size : Nat} {v : Value} {n : Nat} {xs : List Value} (h : w.ownsRow base e size v n xs) : ∃ p c, v = .slice p n c := by
  rcases h.2 with ⟨rfl, h2⟩ | ⟨g', cap, cur, rfl, h1, h2, h3⟩
  · exact ⟨none, 0, by rw [h2]⟩
  · exact ⟨_, _, rfl⟩
set_option maxRecDepth 100000 in
set_option maxHeartbeats 2000000 in
theorem marked_ok (ls : List Int) (v : Value) (w : World) (h : Rd w v ls) : Calls Tryd.prog 6 #[v] w fun e w' => ∃ p c ms, e = .returned (.slice p (ls.length + 64) c) ∧ Fr [] w w' ∧ w'.ownsRow w.heap.size 3 1 (.slice p (ls.length + 64) c) (ls.length + 64) ((ls ++ ms).map (Value.int .i64)) := by
  obtain ⟨v1, w1, hr1, ho1, hf1⟩ := run_copy ls v w h
  obtain ⟨p1, c1, rfl⟩ := own_shape ho1
  obtain ⟨p0, c0, rfl, -⟩ := h.at_
  have hs := h.short
  have HR1 := mkHid hr1
  have HO1 := mkHid ho1
  have HF1 := mkHid hf1
  clear h hr1 ho1 hf1
  go_enter Tryd.func6, Tryd.ntmps6
  go_wp2_with (at_builtin; refine Lib.wpList_append_run _ rfl (.tmp 5) (.tmp 6) 23 23 rfl _ _ rfl rfl _ _ HR1.out ?_)
  go_loopw [3, 4] (fun m q wr => ∃ i : Nat, i ≤ 64 ∧ q = .int .i64 i ∧ ∃ p c, m = .slice p (ls.length + i) c ∧ Hid (∃ ms : List Int, ms.length = i ∧ wr.ownsRow w.heap.size 3 1 (.slice p (ls.length + i) c) (ls.length + i) ((ls ++ ms).map (Value.int .i64)) ∧ Fr [] w wr)) (fun _ q _ => 64 - (intOf q).toNat)
  case atStart => exact ⟨0, by omega, rfl, p1, c1, rfl, [], rfl, by rw [List.append_nil]; exact HO1.out, HF1.out⟩
  case round =>
    clear HR1 HO1 HF1
    obtain ⟨i, hi, rfl, p, c, rfl, hst⟩ := hrel
    have i0 : (0 : Int) ≤ (i : Int) := by omega
    by_cases hlt : i < 64
    · have i1 : (i : Int) < 64 := by omega
      obtain ⟨ms, hml, ho, hf⟩ := hst.out
      have hl : (ls ++ ms).length = ls.length + i := by simp [hml]
      have ho' : wr.ownsRow w.heap.size 3 1 (.slice p (ls ++ ms).length c) (ls ++ ms).length ((ls ++ ms).map (Value.int .i64)) := by rw [hl]; exact ho
      obtain ⟨p2, c2, w2, hr2, ho2, hm2⟩ := push_int wr w.heap.size p c (ls ++ ms) (-1 - (i : Int)) ho' (by rw [hl]; omega) hf.size
      rw [hl] at hr2
      have HR2 := mkHid hr2
      have HO2 : Hid (∃ ms : List Int, ms.length = i + 1 ∧ w2.ownsRow w.heap.size 3 1 (.slice p2 (ls.length + (i + 1)) c2) (ls.length + (i + 1)) ((ls ++ ms).map (Value.int .i64)) ∧ Fr [] w w2) := by
        refine ⟨ms ++ [-1 - (i : Int)], by simp [hml], ?_, ?_⟩
        · have := ho2
          rw [List.append_assoc, show (ls ++ (ms ++ [-1 - (i : Int)])).length = ls.length + (i + 1) by simp [hml]] at this
          exact this
        · rcases hm2 with ⟨-, -, e3⟩ | ⟨e1, -⟩
          · exact hf.trans e3 (fun b hb => .inr (own_lt ho b ((blk_own _ _ _ _).2 hb)).1)
          · exact hf.tr0 e1
      clear hst ho ho' hf hm2 ho2 hr2 hl hml
      go_wp2_with (at_builtin; refine Lib.wpList_append_run _ rfl (.tmp 12) (.tmp 15) 23 23 rfl _ _ rfl rfl _ _ HR2.out ?_)
      go_roundw
      case rel => exact ⟨i + 1, by omega, by go_num, p2, c2, rfl, HO2.out⟩
      case measure => simp [intOf]; omega
    · have hie : i = 64 := by omega
      subst hie
      go_wp2_with fail
      go_ret
      obtain ⟨ms, hml, ho, hf⟩ := hst.out
      exact ⟨p, c, ms, rfl, hf, ho⟩
end Go.Proofs.YtdflpoldlokijaaDoor
namespace Go.Proofs.YtdflpoldlokijaaDoor
open Go.RowKit
set_option linter.unusedVariables false
set_option linter.unusedSimpArgs false
attribute [local go_sem ↓] Go.wp_at_zero Go.wp_at_succ
/-- the marks behind the numbers -/
def mkS (n : Nat) : List Int := (List.range n).map fun i : Nat => -1 - (i : Int)
theorem mkS_len (n : Nat) : (mkS n).length = n := by simp [mkS]
theorem mkS_succ (n : Nat) : mkS (n + 1) = mkS n ++ [-1 - (n : Int)] := by simp [mkS, List.range_succ]
set_option maxRecDepth 100000 in
set_option maxHeartbeats 2000000 in
theorem marked_is (ls : List Int) (v : Value) (w : World) (h : Rd w v ls) : Calls Tryd.prog 6 #[v] w fun e w' => ∃ p c, e = .returned (.slice p (ls.length + 64) c) ∧ Fr [] w w' ∧ w'.ownsRow w.heap.size 3 1 (.slice p (ls.length + 64) c) (ls.length + 64) ((ls ++ mkS 64).map (Value.int .i64)) := by
  obtain ⟨v1, w1, hr1, ho1, hf1⟩ := run_copy ls v w h
  obtain ⟨p1, c1, rfl⟩ := own_shape ho1
  obtain ⟨p0, c0, rfl, -⟩ := h.at_
  have hs := h.short
  have HR1 := mkHid hr1
  have HO1 := mkHid ho1
  have HF1 := mkHid hf1
  clear h hr1 ho1 hf1
  go_enter Tryd.func6, Tryd.ntmps6
  go_wp2_with (at_builtin; refine Lib.wpList_append_run _ rfl (.tmp 5) (.tmp 6) 23 23 rfl _ _ rfl rfl _ _ HR1.out ?_)
  go_loopw [3, 4] (fun m q wr => ∃ i : Nat, i ≤ 64 ∧ q = .int .i64 i ∧ ∃ p c, m = .slice p (ls.length + i) c ∧ Hid (wr.ownsRow w.heap.size 3 1 (.slice p (ls.length + i) c) (ls.length + i) ((ls ++ mkS i).map (Value.int .i64)) ∧ Fr [] w wr)) (fun _ q _ => 64 - (intOf q).toNat)
  case atStart => exact ⟨0, by omega, rfl, p1, c1, rfl, by rw [show mkS 0 = [] from rfl, List.append_nil]; exact HO1.out, HF1.out⟩
  case round =>
    clear HR1 HO1 HF1
    obtain ⟨i, hi, rfl, p, c, rfl, hst⟩ := hrel
    have i0 : (0 : Int) ≤ (i : Int) := by omega
    by_cases hlt : i < 64
    · have i1 : (i : Int) < 64 := by omega
      obtain ⟨ho, hf⟩ := hst.out
      have hl : (ls ++ mkS i).length = ls.length + i := by simp [mkS_len]
      have ho' : wr.ownsRow w.heap.size 3 1 (.slice p (ls ++ mkS i).length c) (ls ++ mkS i).length ((ls ++ mkS i).map (Value.int .i64)) := by rw [hl]; exact ho
      obtain ⟨p2, c2, w2, hr2, ho2, hm2⟩ := push_int wr w.heap.size p c (ls ++ mkS i) (-1 - (i : Int)) ho' (by rw [hl]; omega) hf.size
      rw [hl] at hr2
      have HR2 := mkHid hr2
      have HO2 : Hid (w2.ownsRow w.heap.size 3 1 (.slice p2 (ls.length + (i + 1)) c2) (ls.length + (i + 1)) ((ls ++ mkS (i + 1)).map (Value.int .i64)) ∧ Fr [] w w2) := by
        refine ⟨?_, ?_⟩
        · have := ho2
          rw [List.append_assoc, ← mkS_succ, show (ls ++ mkS (i + 1)).length = ls.length + (i + 1) by simp [mkS_len]] at this
          exact this
        · rcases hm2 with ⟨-, -, e3⟩ | ⟨e1, -⟩
          · exact hf.trans e3 (fun b hb => .inr (own_lt ho b ((blk_own _ _ _ _).2 hb)).1)
          · exact hf.tr0 e1
      clear hst ho ho' hf hm2 ho2 hr2 hl
      go_wp2_with (at_builtin; refine Lib.wpList_append_run _ rfl (.tmp 12) (.tmp 15) 23 23 rfl _ _ rfl rfl _ _ HR2.out ?_)
      go_roundw
      case rel => exact ⟨i + 1, by omega, by go_num, p2, c2, rfl, HO2.out⟩
      case measure => simp [intOf]; omega
    · have hie : i = 64 := by omega
      subst hie
      go_wp2_with fail
      go_ret
      obtain ⟨ho, hf⟩ := hst.out
      exact ⟨p, c, rfl, hf, ho⟩
end Go.Proofs.YtdflpoldlokijaaDoor
