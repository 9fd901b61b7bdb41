import Derived.Test.YtcodfojgilneaaaDoorHExch
namespace Go.Proofs.YtcodfojgilneaaaDoor
open Go.RowKit
set_option linter.unusedVariables false
attribute [local go_sem ↓] Go.wp_at_zero Go.wp_at_succ
def remBits (bits : List Nat) (k : Nat) : List Nat := bits.set ((k - 1) / 64) (bits.getD ((k - 1) / 64) 0 &&& (full - 2 ^ ((k - 1) % 64)))
def remH (H : HS) (k : Nat) : HS := { H with bits := remBits H.bits k, low := min H.low ((k - 1) / 64), count := H.count - 1 }
theorem andNot_u64 (b j : Nat) (hb : b ≤ full) : Go.bits .andNot .u64 (b : Int) ((2 ^ (j % 64) : Nat) : Int) = ((b &&& (full - 2 ^ (j % 64)) : Nat) : Int) := by
  have h : 2 ^ (j % 64) < 2 ^ 64 := Nat.pow_lt_pow_right (by omega) (Nat.mod_lt _ (by omega))
  exact u64_andNot_nat b _ (by unfold full at hb; omega) (by omega)
theorem rem_done {w : World} {a : Nat} {l : Lay} {H : HS} {g i z lw : Nat} (h : Rep w a l H) (hg : l.pb = some ⟨g, 0, none⟩) (hc : 1 ≤ H.count) (W : World)
    (he : Eqw (((w.setCell ⟨g, i, none⟩ (.int .u64 (z : Int))).setCell ⟨a, 8, none⟩ (.int .i64 (lw : Int))).setCell ⟨a, 9, none⟩ (.int .i64 ((H.count : Int) - 1))) W) :
    Rep W a l { H with bits := H.bits.set i z, low := lw, count := H.count - 1 } ∧ Nx a l l w W := by
  have hgb : g ∈ blk l.pb := by rw [hg]; simp [blk]
  have hap := (h.apart g).2.2.2 hgb
  have hb := h.bits
  rw [hg] at hb
  have hb1 := own_stored hb i (.int .u64 (z : Int))
  rw [map_set_U, ← hg] at hb1
  have h2 : Rep (w.setCell ⟨g, i, none⟩ (.int .u64 (z : Int))) a l { H with bits := H.bits.set i z } := by
    refine h.turnBits (by simp) (fun k hk => set_else (fun e => ?_)) (by simpa using hb1)
    subst e
    rcases hk with h1 | h1 | h1 | h1
    · exact hap.1 h1
    · exact hap.2.1 h1
    · exact hap.2.2.1 h1
    · exact hap.2.2.2 h1
  have f1 : Fr (foot a l) w (w.setCell ⟨g, i, none⟩ (.int .u64 (z : Int))) := Fr.setCell _ _ _ (by simp [foot, Lay.blocks, hgb])
  have h3 := h2.set (H' := { H with bits := H.bits.set i z, low := lw }) 8 (.int .i64 (lw : Int)) rfl rfl rfl rfl rfl
  have h4 := h3.set (H' := { H with bits := H.bits.set i z, low := lw, count := H.count - 1 }) 9 (.int .i64 ((H.count : Int) - 1)) (by simp [hcells]; omega) rfl rfl rfl rfl
  exact ⟨h4.eqw he, (Nx.frw ((f1.trans (Fr.setCell (S := foot a l) _ _ _ (by simp [foot])) (fun b hb => .inl hb)).trans (Fr.setCell (S := foot a l) _ _ _ (by simp [foot])) (fun b hb => .inl hb))).eqw he⟩
set_option maxRecDepth 20000 in
set_option maxHeartbeats 1000000 in
theorem remove_any (k : Nat) (a : Nat) (l : Lay) (H : HS) (w : World) (h : Rep w a l H) (hk0 : (1 : Int) ≤ k) (hk1 : (k : Int) ≤ 65537) (hi : (k - 1) / 64 < H.bits.length) (hb : ∀ k, H.bits.getD k 0 ≤ full) (hc0 : 1 ≤ H.count) (hc : (H.count : Int) ≤ 100000) (hlw : (H.low : Int) ≤ 100000) :
    Calls Tryd.prog 108 #[.pointer (some ⟨a, 7, none⟩), .int .i64 k] w fun e w' => e = .returned (.tuple #[]) ∧ Rep w' a l (remH H k) ∧ Nx a l l w w' := by
  have hd : ((k : Int) - 1) / 64 = (((k - 1) / 64 : Nat) : Int) := by omega
  have hd2 : (((k - 1) / 64 : Nat) : Int) ≤ 1024 := by omega
  obtain ⟨g, hg, cg, fg, hga⟩ := h.bitAt _ hi
  have c7 := h.c7
  have c8 := h.c8
  have c9 := h.c9
  have f8 := h.frozen 8
  have f9 := h.frozen 9
  rw [hg] at c7
  have hou := andNot_u64 (H.bits.getD ((k - 1) / 64) 0) (k - 1) (hb _)
  obtain ⟨lw, hlw1, hlw2⟩ : ∃ lw, lw = min H.low ((k - 1) / 64) ∧ (if (((k - 1) / 64 : Nat) : Int) < (H.low : Int) then (((k - 1) / 64 : Nat) : Int) else (H.low : Int)) = (lw : Int) := by
    refine ⟨_, rfl, ?_⟩
    split <;> omega
  have HR : Hid (∀ W, Eqw (((w.setCell ⟨g, (k - 1) / 64, none⟩ (.int .u64 ((H.bits.getD ((k - 1) / 64) 0 &&& (full - 2 ^ ((k - 1) % 64)) : Nat) : Int))).setCell ⟨a, 8, none⟩ (.int .i64 (lw : Int))).setCell ⟨a, 9, none⟩ (.int .i64 ((H.count : Int) - 1))) W → Rep W a l (remH H k) ∧ Nx a l l w W) := by
    intro W he
    have K := rem_done h hg hc0 W he
    unfold remH remBits
    rw [← hlw1]
    exact K
  have i1 : (0 : Int) ≤ (((k - 1) / 64 : Nat) : Int) := by omega
  have i2 : (((k - 1) / 64 : Nat) : Int) < (H.bits.length : Int) := by omega
  have hl0 : (0 : Int) ≤ (H.low : Int) := by omega
  have HLW := mkHid hlw2
  clear h hb hg hi hlw1 hlw2
  generalize H.bits.getD ((k - 1) / 64) 0 &&& (full - 2 ^ ((k - 1) % 64)) = z at *
  generalize H.bits.getD ((k - 1) / 64) 0 = b at *
  have Hbit := bit_any k
  generalize 2 ^ ((k - 1) % 64) = y at *
  have HB := mkHid Hbit
  clear Hbit
  generalize (k - 1) / 64 = i at *
  generalize H.bits.length = n at *
  generalize remH H k = HX at *
  generalize H.count = cnt at *
  generalize H.low = low at *
  go_enter Tryd.func108, Tryd.ntmps108
  go_wp2
  simp only [hd]
  clear hd
  go_region_with (go_at_call 115; refine (HB.out _ hk0 (by omega)).mono ?_; rintro e w' ⟨rfl, rfl⟩)
  all_goals go_wp2
  all_goals
    go_end0
    have hh := HLW.out
    first
    | (rw [if_pos (by omega)] at hh; rw [← hh] at HR; exact ⟨rfl, HR.out _ (eqw_drew _)⟩)
    | (rw [if_neg (by omega)] at hh; rw [← hh] at HR; exact ⟨rfl, HR.out _ (eqw_drew _)⟩)
end Go.Proofs.YtcodfojgilneaaaDoor
