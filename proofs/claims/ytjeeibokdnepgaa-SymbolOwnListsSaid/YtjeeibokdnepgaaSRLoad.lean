import Derived.Test.YtjeeibokdnepgaaSLoad
import Derived.Deep.RegionLaw
namespace Go.Proofs.Ytjeeibokdnepgaa
open Go.RowKit Go.Maps Go.WideMaps
set_option linter.unusedVariables false
set_option linter.unusedSimpArgs false
/-- an append whose run is known, as one step of a region that draws -/
theorem step_append_run {ops : Array Oper} {o : Oper} {a : Act} {w : World} {K : Act → World → Prop} {Q : Exit → Act → World → Prop} {E : Prop}
    (hg : o.guard = none) (s x : Operand) (t tn : TypeId) (ho : o.op = .call { callee := .builtin .append, args := #[s, x], argTypes := #[t, tn] }) (vs vx : Value) (hs : a.eval s = vs) (hx : a.eval x = vx)
    (v' : Value) (w' : World) (hr : (Builtin.append_ #[t, tn] o.type #[vs, vx]).run Try.prog w = .ok v' w') (h : K (a.put o.dst v') w') : if Region.wanted o (yielded ops a.tmps) = true then Oper.wp Try.prog o a w K Q else E := by
  have hw : Region.wanted o (yielded ops a.tmps) = true := by simp [Region.wanted, hg]
  rw [if_pos hw]
  exact Lib.wp_append_run w s x t tn ho vs vx hs hx v' w' hr h
/-- what the document's Load leaves -/
def RLoaded (w w' : World) (ss : List ByteArray) (m : Int) (e : Ending) : Prop :=
  (loadE ss m ≠ 0 ∧ e = .returned (.tuple #[.pointer none, .int .i64 (loadE ss m)]) ∧ Fr [] w w') ∨
  (loadE ss m = 0 ∧ ∃ (most : Nat) (r : Nat) (p : Option Addr) (cap : Nat), m = (most : Int) ∧ e = .returned (.tuple #[.pointer (some ⟨r, 0, none⟩), .int .i64 0]) ∧ RT w' r p cap most ss ∧ Fr [] w w' ∧ (∀ g ∈ foot2 r p, w.heap.size ≤ g))
set_option maxRecDepth 20000 in
set_option maxHeartbeats 1000000 in
theorem rLoad_ok (ss : List ByteArray) (v : Value) (m : Int) (w : World) (h : RdS w v ss) :
    Calls Try.prog 22 #[v, .int .i64 m] w fun e w' => RLoaded w w' ss m e := by
  obtain ⟨p, c, rfl, h1⟩ := h.at_
  have H1 := mkHid h1
  have s1 := h.short
  clear h h1
  by_cases hm : m < 0 ∨ 4096 < m
  · have HE := mkHid (loadE_arg (ss := ss) hm)
    have HN := mkHid (rNew_no m w hm)
    clear H1 hm
    go_enter Try.func22, Try.ntmps22
    go_wp2_with (go_at_call 35; refine HN.out.mono ?_; rintro e w1 ⟨rfl, rfl⟩)
    go_ret2
    exact Or.inl ⟨by rw [HE.out]; decide, by rw [HE.out]; rfl, Fr.refl _ _⟩
  obtain ⟨most, rfl⟩ : ∃ most : Nat, m = (most : Int) := ⟨m.toNat, by omega⟩
  have HN := mkHid (rNew_in most w (by omega))
  by_cases hl : (most : Int) < (ss.length : Int)
  · have HE := mkHid (loadE_most hm hl)
    clear H1 hm
    go_enter Try.func22, Try.ntmps22
    go_wp2_with (go_at_call 35; refine HN.out.mono ?_; rintro e w1 ⟨r, rfl, R1, F1, G1⟩; have HF1 := mkHid F1; clear R1 F1 G1)
    go_ret2
    exact Or.inl ⟨by rw [HE.out]; decide, by rw [HE.out]; rfl, HF1.out⟩
  have hl2 : (ss.length : Int) ≤ (most : Int) := by omega
  have hd1 : decide (most < ss.length) = false := decide_eq_false (by omega)
  have HB := mkHid (fun h3 => loadE_bad (ss := ss) hm hl h3)
  have HK := mkHid (fun h3 => loadE_ok (ss := ss) hm hl h3)
  clear hm hl
  go_enter Try.func22, Try.ntmps22
  go_wp2_with (go_at_call 35; refine HN.out.mono ?_; rintro e w1 ⟨r, rfl, R1, F1, G1⟩; have HR1 := mkHid R1; have HF1 := mkHid F1; have HG1 := mkHid G1; clear R1 F1 G1)
  go_loopw [8] (fun q wr => ∃ i : Nat, i ≤ ss.length ∧ q = .int .i64 i ∧ Hid (∃ p' cap', RT wr r p' cap' most (ss.take i) ∧ (∀ g ∈ foot2 r p', w.heap.size ≤ g)) ∧ Hid (Fr [] w wr) ∧ Hid (Fits (ss.take i))) (fun q _ => ss.length - (intOf q).toNat)
  case atStart => exact ⟨0, Nat.zero_le _, rfl, mkHid ⟨none, 0, HR1.out, by simp [foot2, blk]; exact HG1.out⟩, HF1, mkHid ⟨by simp, by simp⟩⟩
  case round =>
    obtain ⟨i, hi, rfl, hst, hfr, hft⟩ := hrel
    have i1 : (0 : Int) ≤ (i : Int) := by omega
    clear HR1 HF1 HG1 HN
    by_cases hlt : i < ss.length
    · have i2 : (i : Int) < (ss.length : Int) := by omega
      obtain ⟨g, off, rfl, x1, x2⟩ := H1.out (by omega)
      have k1 := (hfr.out.cell (p := ⟨g, off + i, none⟩) x1 (by simp)).trans (x2 i hlt)
      obtain ⟨p', cap', r1, r2⟩ := hst.out
      have hti : (ss.take i).length = i := by simp; omega
      have HFt := mkHid (right_ok (ss.getD i ⟨#[]⟩) wr)
      have HC := mkHid (at_ok (ss.getD i ⟨#[]⟩) r p' cap' most (ss.take i) wr r1)
      have HR2 := mkHid r2
      by_cases hf : 1 ≤ (ss.getD i ⟨#[]⟩).size ∧ (ss.getD i ⟨#[]⟩).size ≤ 96
      rotate_left
      · have HE := mkHid (HB.out (notFits_fit hlt hf))
        rw [decide_eq_false hf] at HFt
        generalize ss.getD i ⟨#[]⟩ = x at *
        clear x1 x2 r1 r2 hst H1 HB HK hf hti HC
        go_wp2_with (go_at_call 36; refine HFt.out.mono ?_; rintro e w3 ⟨rfl, rfl⟩)
        go_ret2
        exact Or.inl ⟨by rw [HE.out]; decide, by rw [HE.out]; rfl, hfr.out⟩
      rw [decide_eq_true hf] at HFt
      unfold firstZ at HC
      cases hp : pos (ss.take i) (ss.getD i ⟨#[]⟩) with
      | some k =>
        rw [hp] at HC
        have HC2 : Hid (Calls Try.prog 37 #[.pointer (some ⟨r, 0, none⟩), .string (ss.getD i ⟨#[]⟩)] wr fun e w' => e = .returned (.int .i64 (k : Int)) ∧ w' = wr) := HC
        obtain ⟨z1, z2⟩ := notFits_two hlt hp
        have HE := mkHid (HB.out z1)
        have k0 : (0 : Int) ≤ (k : Int) := by omega
        generalize ss.getD i ⟨#[]⟩ = x at *
        clear x1 x2 r1 r2 hst H1 HB HK hf hti hp z1 z2 HC
        go_wp2_with (first | (go_at_call 36; refine HFt.out.mono ?_; rintro e w3 ⟨rfl, rfl⟩) | (go_at_call 37; refine HC2.out.mono ?_; rintro e w4 ⟨rfl, rfl⟩))
        go_ret2
        exact Or.inl ⟨by rw [HE.out]; decide, by rw [HE.out]; rfl, hfr.out⟩
      | none =>
        rw [hp] at HC
        have HC2 : Hid (Calls Try.prog 37 #[.pointer (some ⟨r, 0, none⟩), .string (ss.getD i ⟨#[]⟩)] wr fun e w' => e = .returned (.int .i64 (-1)) ∧ w' = wr) := HC
        have c1 := r1.c1
        have n2 := World.new_ne wr ⟨r, 1, none⟩ c1
        have n3 := World.new_ne wr ⟨g, off + i, none⟩ k1
        obtain ⟨p5, cap5, w5, hr5, k5, k6, k7, r5, n5⟩ := RT.push (w := wr.drew) (ss.getD i ⟨#[]⟩) (r1.idle (Fr.drew [] wr)) (by omega)
        have HFts : Hid (Fits (ss.take (i + 1))) := by
          rw [← take_snoc hlt]
          refine ⟨fun s hs => ?_, ?_⟩
          · rcases List.mem_append.1 hs with h1 | h1
            · exact hft.out.1 s h1
            · simp only [List.mem_singleton] at h1; subst h1; exact hf
          · rw [List.nodup_append]
            refine ⟨hft.out.2, by simp, fun x hx y hy e => ?_⟩
            simp only [List.mem_singleton] at hy
            subst hy
            subst e
            exact pos_none.1 hp hx
        rw [take_snoc hlt] at r5
        rw [hti] at hr5 k5 k7 c1 r5 n5
        have kA : ∀ o, (wr.alloc o).cell? ⟨r, 1, none⟩ = some (.slice p' i cap') := fun o => Lib.cell?_alloc_some o c1
        have HR5 := mkHid hr5
        have HT5 := mkHid r5
        have HN5 := mkHid n5
        generalize ss.getD i ⟨#[]⟩ = x at *
        clear x1 x2 r1 r2 hst H1 HB HK hf hti hp HC hr5 r5 n5
        go_wp2_with (first | (go_at_call 36; refine HFt.out.mono ?_; rintro e w3 ⟨rfl, he⟩; subst he) | (go_at_call 37; refine HC2.out.mono ?_; rintro e w4 ⟨rfl, he⟩; subst he))
        go_region_law (refine step_append_run rfl (.tmp 46) (.tmp 51) 22 22 rfl (.slice p' i cap') (.slice (some ⟨w4.heap.size, 0, none⟩) 1 1) (by simp [Act.eval, Act.put]) (by simp [Act.eval, Act.put]) _ _ HR5.out ?_)
        all_goals
          go_wp2_with fail
          go_roundw
          case rel =>
            refine ⟨i + 1, by omega, by go_num, mkHid ⟨p5, cap5, HT5.out, fun g hg => ?_⟩, mkHid ((hfr.out.trans (Fr.drew [] _) (by simp)).trans HN5.out.fr (fun g hg => Or.inr (HR2.out g hg))), HFts⟩
            rcases HN5.out.foot g hg with h | h
            · exact HR2.out g h
            · exact Nat.le_trans hfr.out.size h
          case measure => simp [intOf]; omega
    · have hie : i = ss.length := by omega
      subst hie
      obtain ⟨p', cap', r1, r2⟩ := hst.out
      rw [List.take_length] at r1
      have hft2 := hft.out
      rw [List.take_length] at hft2
      have HE := mkHid (HK.out hft2)
      have HR1 := mkHid r1
      have HR2 := mkHid r2
      clear r1 r2 hst H1 HB HK hft2
      go_wp2_with fail
      go_ret2
      exact Or.inr ⟨HE.out, most, r, p', cap', rfl, rfl, HR1.out, hfr.out, HR2.out⟩
end Go.Proofs.Ytjeeibokdnepgaa
