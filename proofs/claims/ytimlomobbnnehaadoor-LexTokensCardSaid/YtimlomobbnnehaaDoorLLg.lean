import Derived.Test.YtimlomobbnnehaaDoorLMk
import Derived.Lib.AppendZeros
import Derived.Deep.DeepAppendWide
namespace Go.Proofs.YtimlomobbnnehaaDoor
open Go.RowKit Go.Maps Go.WideMaps
set_option linter.unusedVariables false
set_option linter.unusedSimpArgs false
/-- a list while it is made longer -/
structure Fz (w0 w : World) (base : Nat) (p : Option Addr) (c : Nat) (zs us : List Zt) (p' : Option Addr) (c' : Nat) : Prop where
  row : w.ownsRow base 41 4 (.slice p' (zs.length + us.length) c') (zs.length + us.length) (zcs (zs ++ us))
  rd : RdV w (.slice p zs.length c) zs
  at_ : (p' = p ∧ c' = c) ∨ ∀ g ∈ blk p, g ∉ blk p'
  fr : Fr (blk p) w0 w
  new : ∀ g ∈ blk p', g ∈ blk p ∨ w0.heap.size ≤ g
  le : base ≤ w0.heap.size
theorem fz_push {w0 w : World} {base : Nat} {p : Option Addr} {c : Nat} {zs us : List Zt} {p' : Option Addr} {c' : Nat} (h : Fz w0 w base p c zs us p' c') (z : Zt) (hb : zs.length + us.length + 1 ≤ 2199023255552) (hp0 : ∀ g ∈ blk p, g < w0.heap.size) :
    ∃ p5 c5 w5, (Builtin.append_ #[22, 22] 22 #[.slice p' (zs.length + us.length) c', .slice (some ⟨w.heap.size, 0, none⟩) 1 1]).run Tryd.prog (w.alloc (.cells (zc z).toArray 41)) = .ok (.slice p5 (zs.length + us.length + 1) c5) w5 ∧ Fz w0 w5 base p c zs (us ++ [z]) p5 c5 := by
  obtain ⟨p5, c5, w5, r1, r2, r3⟩ := push4 w base p' c' _ _ (zc z) rfl h.row (by intro u hu; simp [zc] at hu; rcases hu with rfl | rfl | rfl | rfl <;> rfl) hb (Nat.le_trans h.le h.fr.size)
  have hsn : zcs (zs ++ us) ++ zc z = zcs (zs ++ (us ++ [z])) := by simp [zcs]
  rw [hsn] at r2
  have r2' : w5.ownsRow base 41 4 (.slice p5 (zs.length + (us ++ [z]).length) c5) (zs.length + (us ++ [z]).length) (zcs (zs ++ (us ++ [z]))) := by
    rw [List.length_append, ← Nat.add_assoc]; exact r2
  refine ⟨p5, c5, w5, r1, r2', ?_, ?_, ?_, ?_, h.le⟩
  · rcases r3 with ⟨rfl, rfl, f5⟩ | ⟨f5, g5⟩
    · rcases h.at_ with ⟨rfl, rfl⟩ | hne
      · exact RdV.front r2' rfl
      · exact h.rd.frame f5 (fun _ g hg => hne g hg)
    · exact h.rd.frame f5 (fun _ g _ hm => by cases hm)
  · rcases r3 with ⟨rfl, rfl, f5⟩ | ⟨f5, g5⟩
    · exact h.at_
    · refine Or.inr (fun g hg hm => ?_)
      have := g5 g hm
      have := hp0 g hg
      have := h.fr.size
      omega
  · rcases r3 with ⟨rfl, rfl, f5⟩ | ⟨f5, g5⟩
    · exact h.fr.trans f5 (fun g hg => h.new g hg)
    · exact h.fr.trans f5 (by simp)
  · intro g hg
    rcases r3 with ⟨rfl, rfl, f5⟩ | ⟨f5, g5⟩
    · exact h.new g hg
    · exact Or.inr (Nat.le_trans h.fr.size (g5 g hg))
set_option maxHeartbeats 8000000 in
set_option maxRecDepth 1000000 in
theorem longer_ok (p : Option Addr) (c : Nat) (zs : List Zt) (mark : Int) (base : Nat) (w : World) (h : w.ownsRow base 41 4 (.slice p zs.length c) zs.length (zcs zs)) (hl : zs.length ≤ 1099511627776) (hB : base ≤ w.heap.size) :
    Calls Tryd.prog 8 #[.slice p zs.length c, .int .i64 mark] w fun e w' => ∃ p' c', e = .returned (.slice p' (zs.length + 64) c') ∧ Fz w w' base p c zs (List.replicate 64 (mark, [], 0, 0)) p' c' := by
  have HP0 : Hid (∀ g ∈ blk p, g < w.heap.size) := fun g hg => (own_lt h g ((blk_own _ _ _ _).1 hg)).2
  have HF0 : Hid (Fz w w base p c zs [] p c) := ⟨by simpa using h, RdV.own h, Or.inl ⟨rfl, rfl⟩, Fr.refl _ _, fun g hg => Or.inl hg, hB⟩
  clear h hB
  go_enter Tryd.func8, Tryd.ntmps8
  go_wp2_with fail
  go_loopw [0, 5] (fun u q wq => ∃ (j : Nat) (p' : Option Addr) (c' : Nat), j ≤ 64 ∧ q = .int .i64 j ∧ u = .slice p' (zs.length + j) c' ∧ Hid (Fz w wq base p c zs (List.replicate j (mark, [], 0, 0)) p' c')) (fun _ q _ => 64 - (intOf q).toNat)
  case atStart => exact ⟨0, p, c, Nat.zero_le _, rfl, rfl, HF0⟩
  case round =>
    obtain ⟨j, p', c', hj, rfl, rfl, hst⟩ := hrel
    have j1 : (0 : Int) ≤ (j : Int) := by omega
    clear HF0
    by_cases hlt : j < 64
    · have j2 : (j : Int) < 64 := by omega
      obtain ⟨p5, c5, w5, r5, h5⟩ := fz_push hst.out (mark, [], 0, 0) (by rw [List.length_replicate]; omega) HP0.out
      rw [List.length_replicate] at r5
      have HS5 : Hid (Fz w w5 base p c zs (List.replicate (j + 1) (mark, [], 0, 0)) p5 c5) := by
        rw [List.replicate_succ']
        exact h5
      have HR5 : Hid ((Builtin.append_ #[22, 22] 22 #[.slice p' (zs.length + j) c', .slice (some ⟨wr.heap.size, 0, none⟩) 1 1]).run Tryd.prog (wr.alloc (.cells #[.int .i64 mark, .string ⟨#[]⟩, .int .i64 0, .int .i64 0] 41)) = .ok (.slice p5 (zs.length + j + 1) c5) w5) := r5
      clear hst h5 r5
      go_wp2_with (first
        | (at_builtin; refine Lib.wpList_append_run _ rfl (.tmp 10) (.tmp 13) 22 22 rfl _ _ rfl rfl _ _ HR5.out ?_))
      go_roundw
      case rel => exact ⟨j + 1, p5, c5, by omega, by go_num, rfl, HS5⟩
      case measure => simp [intOf]; omega
    · have hje : j = 64 := by omega
      subst hje
      clear HP0
      go_wp2_with fail
      go_wp2_with fail
      go_ret
      exact ⟨p', c', rfl, hst.out⟩
set_option maxHeartbeats 8000000 in
set_option maxRecDepth 1000000 in
theorem stands_ok (p : Option Addr) (c : Nat) (p' : Option Addr) (c' n : Nat) (zs : List Zt) (mark behind : Int) (w : World) (h : RdV w (.slice p n c) (mks mark n)) (h' : RdV w (.slice p' (n + 64) c') (zs ++ List.replicate 64 (behind, [], 0, 0))) (hz : zs.length = n) (hl : n ≤ 1099511627776) :
    Calls Tryd.prog 9 #[.slice p n c, .slice p' (n + 64) c', .int .i64 mark, .int .i64 behind] w fun e w' => e = .returned (.bool true) ∧ Bl w w' := by
  have HA : Hid (∀ w', Bl w w' → RdV w' (.slice p n c) (mks mark n)) := fun w' b => h.frame (Fr.ofBl b []) (fun _ _ _ hm => by cases hm)
  have HB : Hid (∀ w', Bl w w' → RdV w' (.slice p' (n + 64) c') (zs ++ List.replicate 64 (behind, [], 0, 0))) := fun w' b => h'.frame (Fr.ofBl b []) (fun _ _ _ hm => by cases hm)
  clear h h'
  go_enter Tryd.func9, Tryd.ntmps9
  go_wp2_with fail
  go_loopw [9] (fun q wr => ∃ k : Nat, k ≤ n ∧ q = .int .i64 k ∧ Hid (Bl w wr)) (fun q _ => n - (intOf q).toNat)
  case atStart => exact ⟨0, Nat.zero_le _, rfl, Bl.refl _⟩
  case round =>
    obtain ⟨k, hk, rfl, hbl⟩ := hrel
    by_cases hlt : k < n
    · have hki : (k : Int) < n := by omega
      obtain ⟨q, d, e, hq⟩ := (HA.out wr hbl.out).at_
      injection e with e1 e2 e3
      subst e1
      obtain ⟨b, off, rfl, hb, hc⟩ := hq (by rw [mks_len]; omega)
      obtain ⟨x0, x1, x2, x3⟩ := hc k (by rw [mks_len]; omega)
      rw [mks_get mark hlt] at x0 x1 x2 x3
      dsimp only at x0 x1 x2 x3
      clear hq hc e2 e3
      go_wp2_with fail
      go_roundw
      case rel => exact ⟨k + 1, by omega, by simp, hbl.out⟩
      case measure => simp [intOf]; omega
    · have hki : ¬ (k : Int) < n := by omega
      go_wp2_with fail
      go_wp2_with fail
      go_loopw [10] (fun q wr => ∃ k : Nat, k ≤ 64 ∧ q = .int .i64 k ∧ Hid (Bl w wr)) (fun q _ => 64 - (intOf q).toNat)
      case atStart => exact ⟨0, Nat.zero_le _, rfl, hbl⟩
      case round =>
        obtain ⟨k, hk, rfl, hbl⟩ := hrel
        by_cases hlt : k < 64
        · have hki : (k : Int) < 64 := by omega
          obtain ⟨q, d, e, hq⟩ := (HB.out wr hbl.out).at_
          injection e with e1 e2 e3
          subst e1
          obtain ⟨b, off, rfl, hb, hc⟩ := hq (by simp)
          obtain ⟨x0, _⟩ := hc (n + k) (by simp; omega)
          have hg : (zs ++ List.replicate 64 ((behind, [], 0, 0) : Zt)).getD (n + k) noY = (behind, [], 0, 0) := by
            rw [List.getD_eq_getElem?_getD, List.getElem?_append_right (by omega), List.getElem?_replicate, if_pos (by omega)]
            rfl
          rw [hg] at x0
          dsimp only at x0
          have hi2 : (n : Int) + k < (n : Int) + 64 := by omega
          clear hq hc e2 e3 hg
          go_wp2_with fail
          go_roundw
          case rel => exact ⟨k + 1, by omega, by simp, hbl.out⟩
          case measure => simp [intOf]; omega
        · have hke : k = 64 := by omega
          subst hke
          go_wp2_with fail
          go_wp2_with fail
          go_ret
          exact ⟨rfl, hbl.out⟩
end Go.Proofs.YtimlomobbnnehaaDoor
