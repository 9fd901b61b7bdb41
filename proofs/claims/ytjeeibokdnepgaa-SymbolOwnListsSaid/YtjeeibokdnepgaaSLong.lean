import Derived.Test.YtjeeibokdnepgaaSPLaw
import Derived.Laws.BytesArg
namespace Go.Proofs.Ytjeeibokdnepgaa
open Go.RowKit Go.Maps Go.WideMaps
set_option linter.unusedVariables false
set_option linter.unusedSimpArgs false
/-- a list of texts, one more put behind it, as long as a list may be -/
theorem run_pushL (w : World) (p : Option Addr) (cap base : Nat) (ts : List ByteArray) (s : ByteArray) (h : w.ownsRow base 9 1 (.slice p ts.length cap) ts.length (ts.map Value.string)) (hs : ts.length + 1 ≤ 8796093022208) (hB : base ≤ w.heap.size) :
    ∃ p' cap' w', (Builtin.append_ #[22, 22] 22 #[.slice p ts.length cap, .slice (some ⟨w.heap.size, 0, none⟩) 1 1]).run Try.prog (w.alloc (.cells #[.string s] 9)) = .ok (.slice p' (ts.length + 1) cap') w' ∧
      w'.ownsRow base 9 1 (.slice p' (ts.length + 1) cap') (ts.length + 1) ((ts ++ [s]).map Value.string) ∧ Fr (blk p) w w' ∧ (∀ g ∈ blk p', g ∈ blk p ∨ w.heap.size ≤ g) := by
  obtain ⟨i9, ii, iz, is, ib⟩ := info_parts info9
  have hA : (w.alloc (.cells #[.string s] 9)).heap.size = w.heap.size + 1 := by simp
  have hown : (w.alloc (.cells #[.string s] 9)).ownsRow base 9 1 (.slice p ts.length cap) ts.length (ts.map Value.string) := own_congr h (fun g hg => Below.heap_alloc _ _ _ (own_lt h g hg).2)
  have hcell : (w.alloc (.cells #[.string s] 9)).cell? ⟨w.heap.size, 0, none⟩ = some (.string s) := by rw [cell_in (heap_alloc_new w _)]; rfl
  obtain ⟨v', w', hr, h2, h3, _, h5⟩ := run_append_own_at (P := Try.prog) (w.alloc (.cells #[.string s] 9)) base 22 22 9 i9 (.string ⟨#[]⟩) 1 16 Try.underlying22 ii iz is ib rfl (by decide) _ _ _ hown ⟨w.heap.size, 0, none⟩ 1 1 [.string s] rfl
    (fun j x hx => by
      cases j with
      | zero => simp at hx; subst hx; rw [Addr.add_lit]; exact hcell
      | succ j => simp at hx)
    (fun x hx => by simp at hx; subst hx; rfl) (by unfold maxLen; omega) (by omega) (by omega)
  have hv : ∃ p' cap', v' = .slice p' (ts.length + 1) cap' := by
    rcases h2.2 with ⟨e1, e2⟩ | ⟨g, cap', cur, e1, _⟩
    · omega
    · exact ⟨_, _, e1⟩
  obtain ⟨p', cap', rfl⟩ := hv
  refine ⟨p', cap', w', hr, ?_, ?_, fun g hg => ?_⟩
  · rw [List.map_append]; exact h2
  · refine (Fr.alloc (blk p) w _).trans (Fr.grown h3 (fun k hk => (blk_own _ _ _ _).1 hk)) (fun b hb => Or.inl hb)
  · rcases h5 with h5 | h5
    · exact Or.inl ((blk_own p ts.length cap g).1 (by rw [← h5]; exact (blk_own p' (ts.length + 1) cap' g).2 hg))
    · have := (blk_own p' (ts.length + 1) cap' g).2 hg
      rw [h5, hA] at this
      injection this with this
      exact Or.inr (by omega)
/-- a list of this call's own -/
structure Mine (w0 w : World) (p : Option Addr) (c : Nat) (ts : List ByteArray) : Prop where
  row : w.ownsRow w0.heap.size 9 1 (.slice p ts.length c) ts.length (ts.map Value.string)
  fr : Fr [] w0 w
theorem mine_nil (w : World) : Mine w w none 0 [] := ⟨World.ownsRow_nil _ _ _ _, Fr.refl _ _⟩
theorem mine_push {w0 w : World} {p : Option Addr} {c : Nat} {ts : List ByteArray} (h : Mine w0 w p c ts) (s : ByteArray) (ht : ts.length + 1 ≤ 8796093022208) :
    ∃ p' c' w', (Builtin.append_ #[22, 22] 22 #[.slice p ts.length c, .slice (some ⟨w.heap.size, 0, none⟩) 1 1]).run Try.prog (w.alloc (.cells #[.string s] 9)) = .ok (.slice p' (ts.length + 1) c') w' ∧ Mine w0 w' p' c' (ts ++ [s]) := by
  obtain ⟨p', c', w', r1, r2, r3, r4⟩ := run_pushL w p c w0.heap.size ts s h.row ht h.fr.size
  exact ⟨p', c', w', r1, by rw [List.length_append]; exact r2, h.fr.trans r3 (fun g hg => Or.inr (own_lt h.row g ((blk_own _ _ _ _).2 hg)).1)⟩
theorem getD_snoc {ss : List ByteArray} {i : Nat} (hi : i < ss.length) : ss.take (i + 1) = ss.take i ++ [ss.getD i ⟨#[]⟩] := (take_snoc hi).symm
set_option maxRecDepth 20000 in
set_option maxHeartbeats 1000000 in
/-- a list of texts, copied -/
theorem texts_ok (ts : List ByteArray) (v : Value) (w : World) (h : RdS w v ts) :
    Calls Try.prog 20 #[v] w fun e w' => ∃ p c, e = .returned (.slice p ts.length c) ∧ Mine w w' p c ts := by
  obtain ⟨q, d, rfl, h1⟩ := h.at_
  have H1 := mkHid h1
  have s1 := h.short
  clear h h1
  go_enter Try.func20, Try.ntmps20
  go_wp2_with fail
  go_loopw [3, 4] (fun u q wr => ∃ (i : Nat) (p' : Option Addr) (c' : Nat), i ≤ ts.length ∧ q = .int .i64 i ∧ u = .slice p' i c' ∧ Hid (Mine w wr p' c' (ts.take i))) (fun _ q _ => ts.length - (intOf q).toNat)
  case atStart => exact ⟨0, none, 0, Nat.zero_le _, rfl, rfl, mine_nil w⟩
  case round =>
    obtain ⟨i, p', c', hi, rfl, rfl, hst⟩ := hrel
    have i1 : (0 : Int) ≤ (i : Int) := by omega
    by_cases hlt : i < ts.length
    · have i2 : (i : Int) < (ts.length : Int) := by omega
      obtain ⟨g, off, rfl, x1, x2⟩ := H1.out (by omega)
      have k1 := (hst.out.fr.cell (p := ⟨g, off + i, none⟩) x1 (by simp)).trans (x2 i hlt)
      have hti : (ts.take i).length = i := by simp; omega
      obtain ⟨p5, c5, w5, r5, h5⟩ := mine_push hst.out (ts.getD i ⟨#[]⟩) (by omega)
      rw [← getD_snoc hlt] at h5
      rw [hti] at r5
      have HR5 := mkHid r5
      have HS5 := mkHid h5
      clear x1 x2 r5 h5 hst H1 hti
      generalize ts.getD i ⟨#[]⟩ = x at *
      go_wp2_with (at_builtin; refine Lib.wpList_append_run _ rfl (.tmp 11) (.tmp 16) 22 22 rfl _ _ rfl rfl _ _ HR5.out ?_)
      go_roundw
      case rel => exact ⟨i + 1, p5, c5, by omega, by go_num, rfl, HS5⟩
      case measure => simp [intOf]; omega
    · have hie : i = ts.length := by omega
      subst hie
      have hr := hst.out
      rw [List.take_length] at hr
      have HR := mkHid hr
      clear hr H1
      go_wp2_with fail
      go_ret
      exact ⟨p', c', rfl, HR.out⟩
/-- a text of its own for a number -/
def mk (n : Int) : ByteArray := strOfNums [35, n % 256, n / 256 % 256, n / 65536 % 256]
theorem mk_size (n : Int) : (mk n).size = 4 := strOfNums_size _
set_option maxRecDepth 20000 in
set_option maxHeartbeats 1000000 in
theorem mark_ok (n : Int) (w : World) (h0 : 0 ≤ n) (h1 : n ≤ 9223372036854775807) :
    Calls Try.prog 23 #[.int .i64 n] w fun e w' => e = .returned (.string (mk n)) ∧ Fr [] w w' := by
  have hcv := run_convert_bytes_arg (P := Try.prog) (w.alloc (.cells #[.int .u8 35, .int .u8 (n % 256), .int .u8 (n / 256 % 256), .int .u8 (n / 65536 % 256)] 5)) 77 5 Try.underlying77 Try.underlying5 w.heap.size 0 4 4 [35, n % 256, n / 256 % 256, n / 65536 % 256] rfl
    (fun i hi => by
      have q : i = 0 ∨ i = 1 ∨ i = 2 ∨ i = 3 := by omega
      rw [cell_in (heap_alloc_new w _)]
      rcases q with rfl | rfl | rfl | rfl <;> rfl) 9 Try.underlying9
  rw [show strOfNums [35, n % 256, n / 256 % 256, n / 65536 % 256] = mk n from rfl] at hcv
  go_enter Try.func23, Try.ntmps23
  go_wp2
  go_ret
  exact ⟨rfl, Fr.alloc [] w _⟩
end Go.Proofs.Ytjeeibokdnepgaa
