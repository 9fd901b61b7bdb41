import Derived.Test.YtjeeibokdnepgaaSOwn1
namespace Go.Proofs.Ytjeeibokdnepgaa
open Go.RowKit Go.Maps Go.WideMaps
set_option linter.unusedVariables false
set_option linter.unusedSimpArgs false
def fillT (T : List ByteArray) (m : ByteArray) (i : Nat) : List ByteArray := List.replicate i m ++ T.drop i
theorem fillT_len (T : List ByteArray) (m : ByteArray) (i : Nat) (hi : i ≤ T.length) : (fillT T m i).length = T.length := by simp [fillT]; omega
theorem fillT_set (T : List ByteArray) (m : ByteArray) (i : Nat) (hi : i < T.length) : (fillT T m i).set i m = fillT T m (i + 1) := by
  unfold fillT
  have e : T.drop i = T[i] :: T.drop (i + 1) := List.drop_eq_getElem_cons hi
  rw [List.set_append_right _ _ (by simp), e, List.length_replicate, Nat.sub_self, List.set_cons_zero, List.replicate_succ', List.append_assoc]
  rfl
theorem fillT_end (T : List ByteArray) (m : ByteArray) : fillT T m T.length = List.replicate T.length m := by unfold fillT; rw [List.drop_length, List.append_nil]
/-- a list while it is made longer -/
structure Fl (w0 w : World) (base : Nat) (p : Option Addr) (n c : Nat) (m : ByteArray) (p' : Option Addr) (c' j : Nat) : Prop where
  row : w.ownsRow base 9 1 (.slice p' (List.replicate (n + j) m).length c') (List.replicate (n + j) m).length ((List.replicate (n + j) m).map Value.string)
  rd : RdS w (.slice p n c) (List.replicate n m)
  at_ : (p' = p ∧ c' = c) ∨ ∀ g ∈ blk p, g ∉ blk p'
  fr : Fr (blk p) w0 w
  new : ∀ g ∈ blk p', g ∈ blk p ∨ w0.heap.size ≤ g
  le : base ≤ w0.heap.size
theorem fl_push {w0 w : World} {base : Nat} {p : Option Addr} {n c : Nat} {m : ByteArray} {p' : Option Addr} {c' j : Nat} (h : Fl w0 w base p n c m p' c' j) {W : World} (hf : Fr [] w W) (hb : n + j + 1 ≤ 8796093022208) (hp0 : ∀ g ∈ blk p, g < w0.heap.size) :
    ∃ p5 c5 w5, (Builtin.append_ #[22, 22] 22 #[.slice p' (n + j) c', .slice (some ⟨W.heap.size, 0, none⟩) 1 1]).run Try.prog (W.alloc (.cells #[.string m] 9)) = .ok (.slice p5 (n + j + 1) c5) w5 ∧ Fl w0 w5 base p n c m p5 c5 (j + 1) := by
  have hrow := own_congr (w' := W) h.row (fun g hg => hf.block g (own_lt h.row g hg).2 (by simp))
  have hW0 := h.fr.trans hf (by simp)
  obtain ⟨p5, c5, w5, r1, r2, r3⟩ := push_text W base p' c' (List.replicate (n + j) m) m hrow (by simpa using hb) (Nat.le_trans h.le hW0.size)
  have hsn : List.replicate (n + j) m ++ [m] = List.replicate (n + (j + 1)) m := by rw [← List.replicate_succ', Nat.add_assoc]
  rw [hsn] at r2
  rw [List.length_replicate] at r1
  refine ⟨p5, c5, w5, r1, r2, ?_, ?_, ?_, ?_, h.le⟩
  · rcases r3 with ⟨rfl, rfl, f5⟩ | ⟨f5, g5⟩
    · rcases h.at_ with ⟨rfl, rfl⟩ | hne
      · rcases Nat.eq_zero_or_pos n with h0 | h0
        · subst h0
          exact (h.rd.idle hf).keep f5 (fun hp => by simp at hp)
        · obtain ⟨g, e, _, _, _, _, q⟩ := own_front r2 (by rw [List.length_replicate]; omega) (k := n) (by rw [List.length_replicate]; omega) (by rw [List.length_replicate]; omega)
          rw [List.take_replicate, Nat.min_eq_left (by omega)] at q
          subst e
          exact q.recap
      · exact (h.rd.idle hf).keep f5 (fun hp g hg => hne g ((blk_own _ _ _ _).1 hg))
    · exact (h.rd.idle hf).idle f5
  · rcases r3 with ⟨rfl, rfl, f5⟩ | ⟨f5, g5⟩
    · exact h.at_
    · refine Or.inr (fun g hg hm => ?_)
      have := g5 g hm
      have := hp0 g hg
      have := hW0.size
      omega
  · rcases r3 with ⟨rfl, rfl, f5⟩ | ⟨f5, g5⟩
    · exact hW0.trans f5 (fun g hg => h.new g hg)
    · exact hW0.trans f5 (by simp)
  · intro g hg
    rcases r3 with ⟨rfl, rfl, f5⟩ | ⟨f5, g5⟩
    · exact h.new g hg
    · exact Or.inr (Nat.le_trans hW0.size (g5 g hg))
set_option maxRecDepth 20000 in
set_option maxHeartbeats 1000000 in
/-- a list written full, and 64 more behind it -/
theorem filled_ok (T : List ByteArray) (p : Option Addr) (c : Nat) (K : Nat) (w : World) (base : Nat) (h : w.ownsRow base 9 1 (.slice p T.length c) T.length (T.map Value.string)) (hT : T.length ≤ 4096) (hK : K ≤ 4611686018427387904) (hB : base ≤ w.heap.size) :
    Calls Try.prog 30 #[.slice p T.length c, .int .i64 (K : Int)] w fun e w' => ∃ q d, e = .returned (.slice q (T.length + 64) d) ∧ Fl w w' base p T.length c (mk (K : Int)) q d 64 := by
  have HR := mkHid h
  have HB := mkHid hB
  have HMk : Hid (∀ W, Calls Try.prog 23 #[.int .i64 (K : Int)] W fun e w' => e = .returned (.string (mk (K : Int))) ∧ Fr [] W w') := fun W => mark_ok (K : Int) W (by omega) (by omega)
  generalize mk (K : Int) = M at *
  clear h hB
  go_enter Try.func30, Try.ntmps30
  go_wp2_with fail
  go_loopw [5] (fun q wr => ∃ i : Nat, i ≤ T.length ∧ q = .int .i64 i ∧ Hid (wr.ownsRow base 9 1 (.slice p (fillT T M i).length c) (fillT T M i).length ((fillT T M i).map Value.string)) ∧ Hid (Fr (blk p) w wr)) (fun q _ => T.length - (intOf q).toNat)
  case atStart => exact ⟨0, Nat.zero_le _, rfl, HR, mkHid (Fr.refl _ _)⟩
  case round =>
    obtain ⟨i, hi, rfl, hrw, hfr⟩ := hrel
    have i1 : (0 : Int) ≤ (i : Int) := by omega
    by_cases hlt : i < T.length
    · have i2 : (i : Int) < (T.length : Int) := by omega
      have hol := fillT_len T M i hi
      obtain ⟨_, g, rfl, _, _, _⟩ := row_cell hrw.out (by omega)
      have HNx : Hid (∀ W, Fr [] wr W → (W.setCell ⟨g, i, none⟩ (.string M)).ownsRow base 9 1 (.slice (some ⟨g, 0, none⟩) (fillT T M (i + 1)).length c) (fillT T M (i + 1)).length ((fillT T M (i + 1)).map Value.string)) := fun W hW => by
        have := own_set (own_congr hrw.out (fun g hg => hW.block g (own_lt hrw.out g hg).2 (by simp))) i (by omega) M
        rw [fillT_set T M i hlt] at this
        exact this
      have HCe : Hid (∀ W, Fr [] wr W → (∃ x, W.cell? ⟨g, i, none⟩ = some x) ∧ W.frozen? ⟨g, i, none⟩ = false) := fun W hW => by
        have h1 := own_congr (w' := W) hrw.out (fun g hg => hW.block g (own_lt hrw.out g hg).2 (by simp))
        obtain ⟨_, g', e, z1, z2, _⟩ := row_cell h1 (by omega)
        injection e with e
        injection e with e
        subst e
        exact ⟨⟨_, z1 i (by omega)⟩, z2 i⟩
      clear hrw HR hol
      go_wp2_with (go_at_call 23; refine (HMk.out _).mono ?_; rintro e w8 ⟨rfl, f8⟩; obtain ⟨⟨x8, m8⟩, z8⟩ := HCe.out w8 f8; have HF8 := mkHid f8; have HN8 := mkHid (HNx.out w8 f8); clear f8)
      go_roundw
      case rel => exact ⟨i + 1, by omega, by go_num, HN8, mkHid ((hfr.out.trans HF8.out (by simp)).trans (Fr.setCell (S := [g]) _ _ _ (by simp)) (by simp [blk]))⟩
      case measure => simp [intOf]; omega
    · have hie : i = T.length := by omega
      subst hie
      have hrw2 := hrw.out
      rw [fillT_end] at hrw2
      have hrd := own_rd hrw2 (by simp; omega)
      rw [List.length_replicate] at hrd
      have HF0 : Hid (Fl w wr base p T.length c M p c 0) := ⟨hrw2, hrd, Or.inl ⟨rfl, rfl⟩, hfr.out, fun g hg => Or.inl hg, HB.out⟩
      have HP0 : Hid (∀ g ∈ blk p, g < w.heap.size) := fun g hg => (own_lt HR.out g ((blk_own _ _ _ _).2 hg)).2
      clear hrw hrw2 hrd hfr HR
      go_wp2_with fail
      go_loopw [6, 7] (fun u q wq => ∃ (j : Nat) (p' : Option Addr) (c' : Nat), j ≤ 64 ∧ q = .int .i64 j ∧ u = .slice p' (T.length + j) c' ∧ Hid (Fl w wq base p T.length c M p' c' j)) (fun _ q _ => 64 - (intOf q).toNat)
      case atStart => exact ⟨0, p, c, Nat.zero_le _, rfl, rfl, HF0⟩
      case round =>
        obtain ⟨j, p', c', hj, rfl, rfl, hst⟩ := hrel
        have j1 : (0 : Int) ≤ (j : Int) := by omega
        clear HF0
        by_cases hlt : j < 64
        · have j2 : (j : Int) < 64 := by omega
          have HPu : Hid (∀ W, Fr [] wr W → _) := mkHid (fun W hW => fl_push hst.out hW (by omega) HP0.out)
          clear hst HP0 HB
          go_wp2_with (first
            | (go_at_call 23; refine (HMk.out _).mono ?_; rintro e w8 ⟨rfl, f8⟩; obtain ⟨p5, c5, w5, r5, h5⟩ := HPu.out w8 f8; have HR5 := mkHid r5; have HS5 := mkHid h5; clear f8 r5 h5)
            | (at_builtin; refine Lib.wpList_append_run _ rfl (.tmp 24) (.tmp 27) 22 22 rfl _ _ rfl rfl _ _ HR5.out ?_))
          go_roundw
          case rel => exact ⟨j + 1, p5, c5, by omega, by go_num, rfl, HS5⟩
          case measure => simp [intOf]; omega
        · have hje : j = 64 := by omega
          subst hje
          clear HP0 HB
          go_wp2_with fail
          go_ret
          exact ⟨p', c', rfl, hst.out⟩
end Go.Proofs.Ytjeeibokdnepgaa
