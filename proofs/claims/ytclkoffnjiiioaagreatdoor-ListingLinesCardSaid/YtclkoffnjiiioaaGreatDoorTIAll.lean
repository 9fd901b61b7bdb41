import Derived.Test.YtclkoffnjiiioaaGreatDoorTIEl
namespace Go.Proofs.YtclkoffnjiiioaaGreatDoor
open Go.RowKit
set_option linter.unusedVariables false
set_option linter.unusedSimpArgs false
attribute [local go_sem ↓] Go.wp_at_zero Go.wp_at_succ
mutual
theorem gaT_le : ∀ (t : LitT) (n : Nat), n ≤ 4096 → (gaT t n).1 = 0 → (gaT t n).2 ≤ 4096
  | .mk k x m p c kids, n, hn, h => by
    rw [gaT] at h ⊢
    by_cases hk : k = 4
    · rw [if_pos hk] at h ⊢; exact gaL_le kids n hn h
    · rw [if_neg hk]; exact hn
theorem gaL_le : ∀ (ts : List LitT) (n : Nat), n ≤ 4096 → (gaL ts n).1 = 0 → (gaL ts n).2 ≤ 4096
  | [], n, hn, h => by rw [gaL_nil]; exact hn
  | t :: ts, n, hn, h => by
    rw [gaL_cons] at h ⊢
    by_cases h1 : mayB t = false
    · rw [if_pos h1] at h; cases h
    · rw [if_neg h1] at h ⊢
      by_cases h2 : 4096 < n + 1
      · rw [if_pos h2] at h; cases h
      · rw [if_neg h2] at h ⊢
        by_cases h3 : (gaT t (n + 1)).1 ≠ 0
        · rw [if_pos h3] at h; exact absurd h h3
        · rw [if_neg h3] at h ⊢
          exact gaL_le ts _ (gaT_le t (n + 1) (by omega) (by simpa using h3)) h
end
theorem info50 : (Tryz.prog.info? 60).map (fun i => (i.zero, i.size, i.bytes)) = some (some .nilIface, 1, 16) := by kernel_rfl
/-- gathering under way -/
structure Gs (V wr : World) (x : Nat) (ts : List LitT) (i : Nat) (p' : Option Addr) (c' : Nat) (vs : List Value) (n : Nat) : Prop where
  row : wr.ownsRow V.heap.size 60 1 (.slice p' i c') i vs
  els : ∀ (j : Nat) (u : LitT) (v : Value), ts[j]? = some u → vs[j]? = some v → ElR wr (fun b => V.heap.size ≤ b ∧ b ∉ blk p') v u
  fr : Fr [x] V wr
  cx : wr.heap[x]? = some (.cells #[.int .i64 (n : Int)] 51 (0, 0))
theorem ElR.shape {w : World} {Ok : Nat → Prop} {v : Value} {t : LitT} (h : ElR w Ok v t) : ∃ T u, v = .iface T u := by cases h <;> exact ⟨_, _, rfl⟩
theorem ElR.one {w : World} {Ok : Nat → Prop} {v : Value} {t : LitT} (h : ElR w Ok v t) : v.oneCell' = true := by cases h <;> rfl
theorem Gs.push {V wr W : World} {x : Nat} {ts : List LitT} {i : Nat} {p' : Option Addr} {c' : Nat} {vs : List Value} {n m : Nat} (h : Gs V wr x ts i p' c' vs n) (hi : i ≤ 2513169434916) (hx : x < V.heap.size) (f : Fr [x] wr W) (hc : W.heap[x]? = some (.cells #[.int .i64 (m : Int)] 51 (0, 0))) (v : Value) (t : LitT) (ht : ts[i]? = some t) (hv : ElR W (fun b => wr.heap.size ≤ b) v t) :
    ∃ p2 c2 w3, (Builtin.append_ #[52, 52] 52 #[.slice p' i c', .slice (some ⟨W.heap.size, 0, none⟩) 1 1]).run Tryz.prog (W.alloc (.cells #[v] 60)) = .ok (.slice p2 (i + 1) c2) w3 ∧ Gs V w3 x ts (i + 1) p2 c2 (vs ++ [v]) m := by
  obtain ⟨i50, ii, iz, is, ib⟩ := info_parts info50
  have ho := h.row
  have hl : vs.length = i := by have := ho.1; omega
  have hs := h.fr.size
  have hs2 := f.size
  have hb : ∀ g ∈ blk p', V.heap.size ≤ g ∧ g < wr.heap.size := fun g hg => own_lt ho g ((blk_own _ _ _ _).2 hg)
  have ho2 : W.ownsRow V.heap.size 60 1 (.slice p' i c') i vs := own_congr ho fun g hg => f.block g (own_lt ho g hg).2 (by have := (own_lt ho g hg).1; simp; omega)
  have := push2 Tryz.underlying52 ii iz is ib rfl W V.heap.size p' c' vs v (by rw [hl]; exact ho2) hv.one (by rw [hl]; unfold maxLen; omega) (by rw [hl]; omega) (by omega)
  rw [hl] at this
  obtain ⟨p2, c2, w3, hr, ho3, hm⟩ := this
  refine ⟨p2, c2, w3, hr, ho3, fun j u y hu hy => ?_, ?_, ?_⟩
  · have hall : ElR W (fun b => V.heap.size ≤ b ∧ b ∉ blk p') y u := by
      by_cases hj : j < i
      · rw [List.getElem?_append_left (by omega)] at hy
        exact (h.els j u y hu hy).keep (fun b hb hl => f.block b hl (by simp; omega)) (fun b hb _ => hb)
      · have hj2 : j = i := by
          have := (List.getElem?_eq_some_iff.1 hy).1
          simp at this
          omega
        subst hj2
        rw [List.getElem?_append_right (by omega), hl, Nat.sub_self] at hy
        simp at hy
        subst hy
        rw [ht] at hu
        have := Option.some.inj hu
        subst this
        exact hv.keep (fun _ _ _ => rfl) (fun b' hb' _ => ⟨by omega, fun hm => by have := (hb b' hm).2; omega⟩)
    rcases hm with ⟨rfl, rfl, fm⟩ | ⟨fm, hg⟩
    · exact hall.keep (fun b hb hl => fm.block b hl hb.2) (fun b hb _ => hb)
    · exact hall.keep (fun b hb hl => fm.block b hl (by simp)) (fun b hb hl => ⟨hb.1, fun hm => by have := hg b hm; omega⟩)
  · have f2 := h.fr.trans f (fun b hb => .inl hb)
    rcases hm with ⟨rfl, rfl, fm⟩ | ⟨fm, hg⟩
    · exact f2.trans fm (fun b hb' => .inr (hb b hb').1)
    · exact f2.trans fm (by simp)
  · have hxl := lt_of_heap hc
    rcases hm with ⟨rfl, rfl, fm⟩ | ⟨fm, hg⟩
    · exact (fm.block x hxl (fun hm => by have := (hb x hm).1; omega)).trans hc
    · exact (fm.block x hxl (by simp)).trans hc
theorem own_base0 {w : World} {B : Nat} {e : TypeId} {s n : Nat} {v : Value} {xs : List Value} (h : w.ownsRow B e s v n xs) : w.ownsRow 0 e s v n xs := ⟨h.1, h.2.imp id (fun ⟨g, cap, cur, e1, q1, q2⟩ => ⟨g, cap, cur, e1, Nat.zero_le _, q2⟩)⟩
set_option maxRecDepth 100000 in
set_option maxHeartbeats 8000000 in
theorem allIn_step (x : Nat) (w0 : World) (p : Option Addr) (c : Nat) (ts : List LitT) (h : LitsR w0 p c ts) (hwx : w0.heap.size ≤ x) (hK : ∀ t ∈ ts, ∀ (V : World) (n : Nat), Fr [] w0 V → V.heap[x]? = some (.cells #[.int .i64 (n : Int)] 51 (0, 0)) → n ≤ 4096 → Calls Tryz.prog 16 #[.pointer (some ⟨x, 0, none⟩), .slice t.p t.kids.length t.c, .func (.func 49) #[.pointer (some ⟨x, 0, none⟩)] #[]] V fun e w' => GaP V x t.kids (gaL t.kids n) e w') (V : World) (n : Nat) (hf : Fr [] w0 V) (hx : V.heap[x]? = some (.cells #[.int .i64 (n : Int)] 51 (0, 0))) (hn : n ≤ 4096) :
    Calls Tryz.prog 16 #[.pointer (some ⟨x, 0, none⟩), .slice p ts.length c, .func (.func 49) #[.pointer (some ⟨x, 0, none⟩)] #[]] V fun e w' => GaP V x ts (gaL ts n) e w' := by
  obtain ⟨hsh, htx, hat⟩ : ts.length ≤ 2513169434916 ∧ (∀ t ∈ ts, t.text.size ≤ 140737488355328) ∧ (0 < ts.length → ∃ g off, p = some ⟨g, off, none⟩ ∧ g < w0.heap.size ∧ ∀ i t, ts[i]? = some t → LitAt w0 g (off + i * 4) t) := by
    cases h with
    | mk _ _ _ nil at_ short txt kids => exact ⟨short, txt, at_⟩
  have hks : ∀ t ∈ ts, t.kids.length ≤ 2513169434916 := by
    cases h with
    | mk _ _ _ nil at_ short txt kids =>
      intro t ht
      cases kids t ht with
      | mk _ _ _ nil at_ short txt kids => exact short
  obtain ⟨R0, hR0⟩ : ∃ R, gaL ts n = R := ⟨_, rfl⟩
  rw [hR0]
  have HXl : Hid (x < V.heap.size) := lt_of_heap hx
  have HS0 : Hid (∃ vs m, Gs V V x ts 0 none 0 vs m ∧ m ≤ 4096 ∧ gaL (ts.drop 0) m = R0) := ⟨[], n, ⟨World.ownsRow_nil _ _ _ _, fun j u v hu hv => by simp at hv, Fr.refl _ _, hx⟩, hn, by rw [List.drop_zero]; exact hR0⟩
  have HAt := mkHid hat
  have HTx := mkHid htx
  have HKs := mkHid hks
  have HK := mkHid hK
  have HF := mkHid hf
  have HWx := mkHid hwx
  clear h hK hf hx hn hat htx hks hR0 hwx
  go_enter Tryz.func16, Tryz.ntmps16
  go_wp2_with fail
  go_loopw [8, 16] (fun o q wr => ∃ i : Nat, i ≤ ts.length ∧ q = .int .i64 (i : Int) ∧ ∃ p' c', o = .slice p' i c' ∧ Hid (∃ vs m, Gs V wr x ts i p' c' vs m ∧ m ≤ 4096 ∧ gaL (ts.drop i) m = R0)) (fun _ q _ => ts.length - (intOf q).toNat)
  case atStart => exact ⟨0, Nat.zero_le _, rfl, none, 0, rfl, HS0.out⟩
  case round =>
    clear HS0
    obtain ⟨i, hi, rfl, p', c', rfl, hst⟩ := hrel
    have i0 : (0 : Int) ≤ (i : Int) := by omega
    obtain ⟨vs, m, hG, hm4, hR⟩ := hst.out
    by_cases hlt : i < ts.length
    · have i1 : (i : Int) < (ts.length : Int) := by omega
      obtain ⟨t, ht⟩ : ∃ t, ts[i]? = some t := ⟨_, List.getElem?_eq_getElem hlt⟩
      have hmem := List.mem_of_getElem? ht
      obtain ⟨g, off, rfl, hg0, hla⟩ := HAt.out (by omega)
      have hlat := hla i t ht
      have hdrop := drop_at ht
      have hfw : Fr [] w0 wr := HF.out.trans hG.fr (fun b hb => .inr (by simp at hb; rw [hb]; exact HWx.out))
      have hxc := hG.cx
      have hRc := hR
      rw [hdrop, gaL_cons] at hRc
      have HLk0 : Hid (Calls Tryz.prog 49 #[.pointer (some ⟨x, 0, none⟩), .pointer (some ⟨g, off + i * 4, none⟩)] wr fun e w' => IaP x m t wr e w') := inArray_ok x g (off + i * 4) m t wr (hlat.idle hfw) (HTx.out t hmem) (HKs.out t hmem) (cell_in hxc 0) (frozen_in hxc 0) (by omega)
      by_cases hb : mayB t = false
      · rw [if_pos hb] at hRc
        have HLk : Hid (Calls Tryz.prog 49 #[.pointer (some ⟨x, 0, none⟩), .pointer (some ⟨g, off + i * 4, none⟩)] wr fun e w' => e = .returned (.int .i64 120) ∧ w' = wr) := HLk0.out.mono (by
          rintro e w' (⟨-, h1, h2⟩ | ⟨h0, -⟩)
          · exact ⟨h1, h2⟩
          · rw [hb] at h0; cases h0)
        have HEn : Hid (GaP V x ts R0 (.returned (.tuple #[.slice none 0 0, .int .i64 120])) wr) := by
          rw [← hRc]
          exact ⟨_, rfl, hG.fr, hxc, fun _ => rfl, fun hh => by cases hh⟩
        clear hst hG hR hRc hla hlat hdrop hfw hxc hb HK HLk0
        go_wp2_with (go_at_call 49; refine HLk.out.mono ?_; rintro e w1 ⟨rfl, rfl⟩)
        go_ret2
        exact HEn.out
      · rw [if_neg hb] at hRc
        have hmay : mayB t = true := by simpa using hb
        obtain ⟨W, hW⟩ : ∃ W, W = wr.setCell ⟨x, 0, none⟩ (.int .i64 ((m + 1 : Nat) : Int)) := ⟨_, rfl⟩
        have HLk1 : Hid (Calls Tryz.prog 49 #[.pointer (some ⟨x, 0, none⟩), .pointer (some ⟨g, off + i * 4, none⟩)] wr fun e w' => e = .returned (.int .i64 (if 4096 < m + 1 then 73 else 0)) ∧ w' = W) := HLk0.out.mono (by
          rintro e w' (⟨h0, -⟩ | ⟨-, h1, h2⟩)
          · rw [hmay] at h0; cases h0
          · exact ⟨h1, by rw [hW]; exact h2⟩)
        have hWx : W.heap[x]? = some (.cells #[.int .i64 ((m + 1 : Nat) : Int)] 51 (0, 0)) := by rw [hW, set_in hxc 0 _]; rfl
        have hWf : Fr [x] wr W := by rw [hW]; exact Fr.setCell (S := [x]) wr ⟨x, 0, none⟩ _ (by simp)
        have hWw : Fr [] w0 W := hfw.trans hWf (fun b hb => .inr (by simp at hb; rw [hb]; exact HWx.out))
        by_cases hbig : 4096 < m + 1
        · rw [if_pos hbig] at hRc
          rw [if_pos hbig] at HLk1
          have HEn : Hid (GaP V x ts R0 (.returned (.tuple #[.slice none 0 0, .int .i64 73])) W) := by
            rw [← hRc]
            exact ⟨_, rfl, hG.fr.trans hWf (fun b hb => .inl hb), hWx, fun _ => rfl, fun hh => by cases hh⟩
          clear hst hG hR hRc hla hlat hdrop hfw hxc hb HK HLk0 hW hWx hWf hWw hbig hmay
          go_wp2_with (go_at_call 49; refine HLk1.out.mono ?_; rintro e w1 ⟨rfl, rfl⟩)
          go_ret2
          exact HEn.out
        rw [if_neg hbig] at hRc
        rw [if_neg hbig] at HLk1
        have hE := element_ok x g (off + i * 4) (m + 1) t W (hlat.idle hWw) hmay hWx (HK.out t hmem W (m + 1) hWw hWx (by omega))
        have hcnt := gaT_le t (m + 1) (by omega)
        have HLk := HLk1
        have HWf : Hid (Fr [x] wr W) := hWf
        clear HLk0 HLk1 hW hWx hWf hWw hbig
        generalize hmm : gaT t (m + 1) = Rt at *
        have HE : Hid (Calls Tryz.prog 28 #[.pointer (some ⟨x, 0, none⟩), .pointer (some ⟨g, off + i * 4, none⟩)] W fun e w' => GeP W x t Rt e w') := hE
        by_cases hz : Rt.1 = 0
        · rw [if_neg (by simpa using hz)] at hRc
          have HNx : Hid (∀ v w1, Fr [x] W w1 → w1.heap[x]? = some (.cells #[.int .i64 (Rt.2 : Int)] 51 (0, 0)) → ElR w1 (fun b => W.heap.size ≤ b) v t → ∃ p2 c2 w3, (Builtin.append_ #[52, 52] 52 #[.slice p' i c', .slice (some ⟨w1.heap.size, 0, none⟩) 1 1]).run Tryz.prog (w1.alloc (.cells #[v] 60)) = .ok (.slice p2 (i + 1) c2) w3 ∧ Hid (∃ vs m, Gs V w3 x ts (i + 1) p2 c2 vs m ∧ m ≤ 4096 ∧ gaL (ts.drop (i + 1)) m = R0)) := fun v w1 f1 hx1 hv1 => by
            obtain ⟨p2, c2, w3, hr, hg⟩ := hG.push (by omega) HXl.out (HWf.out.trans f1 (fun b hb => .inl hb)) hx1 v t ht (hv1.keep (fun _ _ _ => rfl) (fun b hb _ => Nat.le_trans HWf.out.size hb))
            exact ⟨p2, c2, w3, hr, _, _, hg, hcnt hz, hRc⟩
          clear hst hG hR hRc hla hlat hdrop hfw hxc hb hE hcnt hmm hmay hm4 ht HK
          generalize hr1 : Rt.1 = r1 at *
          subst hz
          go_wp2_with fail
          refine HLk.out.mono ?_
          rintro e w1 ⟨rfl, rfl⟩
          go_wp2_with fail
          refine HE.out.mono ?_
          rintro e w2 ⟨v, rfl, f2, hx2, hv2⟩
          obtain ⟨T, u, rfl⟩ := (hv2 hr1).shape
          obtain ⟨p2, c2, w3, hr2, HN⟩ := HNx.out _ w2 f2 hx2 (hv2 hr1)
          have HR2 := mkHid hr2
          rw [hr1]
          clear f2 hx2 hv2 hr2 HE HLk HNx
          go_wp2_with (at_builtin; refine Lib.wpList_append_run _ rfl (.tmp 37) (.tmp 39) 52 52 rfl _ _ rfl rfl _ _ HR2.out ?_)
          go_roundw
          case rel => exact ⟨i + 1, by omega, by go_num, p2, c2, rfl, HN.out⟩
          case measure => simp [intOf]; omega
        · rw [if_pos hz] at hRc
          have q0 : (Rt.1 != 0) = true := by simpa using hz
          have HEn : Hid (∀ w1, Fr [x] W w1 → w1.heap[x]? = some (.cells #[.int .i64 (Rt.2 : Int)] 51 (0, 0)) → GaP V x ts R0 (.returned (.tuple #[.slice none 0 0, .int .i64 Rt.1])) w1) := fun w1 f1 hx1 => by
            rw [← hRc]
            exact ⟨_, rfl, (hG.fr.trans HWf.out (fun b hb => .inl hb)).trans f1 (fun b hb => .inl hb), hx1, fun _ => rfl, fun hh => absurd hh hz⟩
          clear hst hG hR hRc hla hlat hdrop hfw hxc hb hE hcnt hmm hmay hm4 ht HK hz
          go_wp2_with fail
          refine HLk.out.mono ?_
          rintro e w1 ⟨rfl, rfl⟩
          go_wp2_with fail
          refine HE.out.mono ?_
          rintro e w2 ⟨v, rfl, f2, hx2, -⟩
          have HX := mkHid (HEn.out w2 f2 hx2)
          clear f2 hx2
          go_wp2_with fail
          go_ret2
          exact HX.out
    · have hie : i = ts.length := by omega
      subst hie
      rw [List.drop_eq_nil_of_le (Nat.le_refl _)] at hR
      have HEn : Hid (GaP V x ts R0 (.returned (.tuple #[.slice p' ts.length c', .int .i64 0])) wr) := by
        rw [← hR]
        exact ⟨_, by rw [gaL_nil], hG.fr, by rw [gaL_nil]; exact hG.cx, fun hh => absurd (by rw [gaL_nil]) hh, fun _ => ⟨p', c', vs, rfl, own_base0 hG.row, fun b hb => (own_lt hG.row b ((blk_own _ _ _ _).2 hb)).1, fun j u v hu hv => (hG.els j u v hu hv).keep (fun _ _ _ => rfl) (fun b hb _ => hb.1)⟩⟩
      clear hst hG hR
      go_wp2_with fail
      go_ret2
      exact HEn.out
set_option maxRecDepth 100000 in
set_option maxHeartbeats 8000000 in
theorem allTop_step (x : Nat) (w0 : World) (p : Option Addr) (c : Nat) (ts : List LitT) (h : LitsR w0 p c ts) (hwx : w0.heap.size ≤ x) (hK : ∀ t ∈ ts, ∀ (V : World) (n : Nat), Fr [] w0 V → V.heap[x]? = some (.cells #[.int .i64 (n : Int)] 51 (0, 0)) → n ≤ 4096 → Calls Tryz.prog 16 #[.pointer (some ⟨x, 0, none⟩), .slice t.p t.kids.length t.c, .func (.func 49) #[.pointer (some ⟨x, 0, none⟩)] #[]] V fun e w' => GaP V x t.kids (gaL t.kids n) e w') (V : World) (n : Nat) (hf : Fr [] w0 V) (hx : V.heap[x]? = some (.cells #[.int .i64 (n : Int)] 51 (0, 0))) (hn : n ≤ 4096) :
    Calls Tryz.prog 16 #[.pointer (some ⟨x, 0, none⟩), .slice p ts.length c, .func (.func 17) #[.pointer (some ⟨x, 0, none⟩)] #[]] V fun e w' => GaP V x ts (gaU ts n) e w' := by
  obtain ⟨hsh, htx, hat⟩ : ts.length ≤ 2513169434916 ∧ (∀ t ∈ ts, t.text.size ≤ 140737488355328) ∧ (0 < ts.length → ∃ g off, p = some ⟨g, off, none⟩ ∧ g < w0.heap.size ∧ ∀ i t, ts[i]? = some t → LitAt w0 g (off + i * 4) t) := by
    cases h with
    | mk _ _ _ nil at_ short txt kids => exact ⟨short, txt, at_⟩
  have hks : ∀ t ∈ ts, t.kids.length ≤ 2513169434916 := by
    cases h with
    | mk _ _ _ nil at_ short txt kids =>
      intro t ht
      cases kids t ht with
      | mk _ _ _ nil at_ short txt kids => exact short
  obtain ⟨R0, hR0⟩ : ∃ R, gaU ts n = R := ⟨_, rfl⟩
  rw [hR0]
  have HXl : Hid (x < V.heap.size) := lt_of_heap hx
  have HS0 : Hid (∃ vs m, Gs V V x ts 0 none 0 vs m ∧ m ≤ 4096 ∧ gaU (ts.drop 0) m = R0) := ⟨[], n, ⟨World.ownsRow_nil _ _ _ _, fun j u v hu hv => by simp at hv, Fr.refl _ _, hx⟩, hn, by rw [List.drop_zero]; exact hR0⟩
  have HAt := mkHid hat
  have HTx := mkHid htx
  have HKs := mkHid hks
  have HK := mkHid hK
  have HF := mkHid hf
  have HWx := mkHid hwx
  clear h hK hf hx hn hat htx hks hR0 hwx
  go_enter Tryz.func16, Tryz.ntmps16
  go_wp2_with fail
  go_loopw [8, 16] (fun o q wr => ∃ i : Nat, i ≤ ts.length ∧ q = .int .i64 (i : Int) ∧ ∃ p' c', o = .slice p' i c' ∧ Hid (∃ vs m, Gs V wr x ts i p' c' vs m ∧ m ≤ 4096 ∧ gaU (ts.drop i) m = R0)) (fun _ q _ => ts.length - (intOf q).toNat)
  case atStart => exact ⟨0, Nat.zero_le _, rfl, none, 0, rfl, HS0.out⟩
  case round =>
    clear HS0
    obtain ⟨i, hi, rfl, p', c', rfl, hst⟩ := hrel
    have i0 : (0 : Int) ≤ (i : Int) := by omega
    obtain ⟨vs, m, hG, hm4, hR⟩ := hst.out
    by_cases hlt : i < ts.length
    · have i1 : (i : Int) < (ts.length : Int) := by omega
      obtain ⟨t, ht⟩ : ∃ t, ts[i]? = some t := ⟨_, List.getElem?_eq_getElem hlt⟩
      have hmem := List.mem_of_getElem? ht
      obtain ⟨g, off, rfl, hg0, hla⟩ := HAt.out (by omega)
      have hlat := hla i t ht
      have hdrop := drop_at ht
      have hfw : Fr [] w0 wr := HF.out.trans hG.fr (fun b hb => .inr (by simp at hb; rw [hb]; exact HWx.out))
      have hxc := hG.cx
      have hRc := hR
      rw [hdrop, show gaU (t :: ts.drop (i + 1)) m = (if topB t = false then (120, m) else if (gaT t m).1 ≠ 0 then gaT t m else gaU (ts.drop (i + 1)) (gaT t m).2) from rfl] at hRc
      have HLk : Hid (Calls Tryz.prog 17 #[.pointer (some ⟨x, 0, none⟩), .pointer (some ⟨g, off + i * 4, none⟩)] wr fun e w' => e = .returned (.int .i64 (if topB t = false then 120 else 0)) ∧ w' = wr) := byItself_ok x g (off + i * 4) t wr (hlat.idle hfw) (HTx.out t hmem) (HKs.out t hmem)
      by_cases hb : topB t = false
      · rw [if_pos hb] at hRc
        rw [if_pos hb] at HLk
        have HEn : Hid (GaP V x ts R0 (.returned (.tuple #[.slice none 0 0, .int .i64 120])) wr) := by
          rw [← hRc]
          exact ⟨_, rfl, hG.fr, hxc, fun _ => rfl, fun hh => by cases hh⟩
        clear hst hG hR hRc hla hlat hdrop hfw hxc hb HK
        go_wp2_with (go_at_call 17; refine HLk.out.mono ?_; rintro e w1 ⟨rfl, rfl⟩)
        go_ret2
        exact HEn.out
      · rw [if_neg hb] at hRc
        rw [if_neg hb] at HLk
        have hmay : mayB t = true := by
          unfold topB at hb
          simp at hb
          exact hb.2
        have hE := element_ok x g (off + i * 4) m t wr (hlat.idle hfw) hmay hxc (HK.out t hmem wr m hfw hxc hm4)
        have hcnt := gaT_le t m hm4
        have HW1 : Hid (Fr [x] wr wr) := Fr.refl _ _
        have HLk2 : Hid (Calls Tryz.prog 17 #[.pointer (some ⟨x, 0, none⟩), .pointer (some ⟨g, off + i * 4, none⟩)] wr fun e w' => e = .returned (.int .i64 0) ∧ w' = wr) := HLk
        clear HLk
        obtain ⟨W, hW⟩ : ∃ W, W = wr := ⟨_, rfl⟩
        have HLk : Hid (Calls Tryz.prog 17 #[.pointer (some ⟨x, 0, none⟩), .pointer (some ⟨g, off + i * 4, none⟩)] wr fun e w' => e = .returned (.int .i64 0) ∧ w' = W) := by rw [hW]; exact HLk2
        rw [← hW] at hE HW1
        have HWf : Hid (Fr [x] wr W) := by rw [hW]; exact Fr.refl _ _
        clear hW HLk2 HW1
        generalize hmm : gaT t m = Rt at *
        have HE : Hid (Calls Tryz.prog 28 #[.pointer (some ⟨x, 0, none⟩), .pointer (some ⟨g, off + i * 4, none⟩)] W fun e w' => GeP W x t Rt e w') := hE
        by_cases hz : Rt.1 = 0
        · rw [if_neg (by simpa using hz)] at hRc
          have HNx : Hid (∀ v w1, Fr [x] W w1 → w1.heap[x]? = some (.cells #[.int .i64 (Rt.2 : Int)] 51 (0, 0)) → ElR w1 (fun b => W.heap.size ≤ b) v t → ∃ p2 c2 w3, (Builtin.append_ #[52, 52] 52 #[.slice p' i c', .slice (some ⟨w1.heap.size, 0, none⟩) 1 1]).run Tryz.prog (w1.alloc (.cells #[v] 60)) = .ok (.slice p2 (i + 1) c2) w3 ∧ Hid (∃ vs m, Gs V w3 x ts (i + 1) p2 c2 vs m ∧ m ≤ 4096 ∧ gaU (ts.drop (i + 1)) m = R0)) := fun v w1 f1 hx1 hv1 => by
            obtain ⟨p2, c2, w3, hr, hg⟩ := hG.push (by omega) HXl.out (HWf.out.trans f1 (fun b hb => .inl hb)) hx1 v t ht (hv1.keep (fun _ _ _ => rfl) (fun b hb _ => Nat.le_trans HWf.out.size hb))
            exact ⟨p2, c2, w3, hr, _, _, hg, hcnt hz, hRc⟩
          clear hst hG hR hRc hla hlat hdrop hfw hxc hb hE hcnt hmm hmay hm4 ht HK
          generalize hr1 : Rt.1 = r1 at *
          subst hz
          go_wp2_with fail
          refine HLk.out.mono ?_
          rintro e w1 ⟨rfl, rfl⟩
          go_wp2_with fail
          refine HE.out.mono ?_
          rintro e w2 ⟨v, rfl, f2, hx2, hv2⟩
          obtain ⟨T, u, rfl⟩ := (hv2 hr1).shape
          obtain ⟨p2, c2, w3, hr2, HN⟩ := HNx.out _ w2 f2 hx2 (hv2 hr1)
          have HR2 := mkHid hr2
          rw [hr1]
          clear f2 hx2 hv2 hr2 HE HLk HNx
          go_wp2_with (at_builtin; refine Lib.wpList_append_run _ rfl (.tmp 37) (.tmp 39) 52 52 rfl _ _ rfl rfl _ _ HR2.out ?_)
          go_roundw
          case rel => exact ⟨i + 1, by omega, by go_num, p2, c2, rfl, HN.out⟩
          case measure => simp [intOf]; omega
        · rw [if_pos hz] at hRc
          have q0 : (Rt.1 != 0) = true := by simpa using hz
          have HEn : Hid (∀ w1, Fr [x] W w1 → w1.heap[x]? = some (.cells #[.int .i64 (Rt.2 : Int)] 51 (0, 0)) → GaP V x ts R0 (.returned (.tuple #[.slice none 0 0, .int .i64 Rt.1])) w1) := fun w1 f1 hx1 => by
            rw [← hRc]
            exact ⟨_, rfl, (hG.fr.trans HWf.out (fun b hb => .inl hb)).trans f1 (fun b hb => .inl hb), hx1, fun _ => rfl, fun hh => absurd hh hz⟩
          clear hst hG hR hRc hla hlat hdrop hfw hxc hb hE hcnt hmm hmay hm4 ht HK hz
          go_wp2_with fail
          refine HLk.out.mono ?_
          rintro e w1 ⟨rfl, rfl⟩
          go_wp2_with fail
          refine HE.out.mono ?_
          rintro e w2 ⟨v, rfl, f2, hx2, -⟩
          have HX := mkHid (HEn.out w2 f2 hx2)
          clear f2 hx2
          go_wp2_with fail
          go_ret2
          exact HX.out
    · have hie : i = ts.length := by omega
      subst hie
      rw [List.drop_eq_nil_of_le (Nat.le_refl _)] at hR
      have HEn : Hid (GaP V x ts R0 (.returned (.tuple #[.slice p' ts.length c', .int .i64 0])) wr) := by
        rw [← hR]
        exact ⟨_, by rfl, hG.fr, by exact hG.cx, fun hh => absurd (by rfl) hh, fun _ => ⟨p', c', vs, rfl, own_base0 hG.row, fun b hb => (own_lt hG.row b ((blk_own _ _ _ _).2 hb)).1, fun j u v hu hv => (hG.els j u v hu hv).keep (fun _ _ _ => rfl) (fun b hb _ => hb.1)⟩⟩
      clear hst hG hR
      go_wp2_with fail
      go_ret2
      exact HEn.out
/-- gathering within arrays -/
theorem allIn_ok (x : Nat) (w0 : World) (p : Option Addr) (c : Nat) (ts : List LitT) (h : LitsR w0 p c ts) (hwx : w0.heap.size ≤ x) : ∀ (V : World) (n : Nat), Fr [] w0 V → V.heap[x]? = some (.cells #[.int .i64 (n : Int)] 51 (0, 0)) → n ≤ 4096 → Calls Tryz.prog 16 #[.pointer (some ⟨x, 0, none⟩), .slice p ts.length c, .func (.func 49) #[.pointer (some ⟨x, 0, none⟩)] #[]] V fun e w' => GaP V x ts (gaL ts n) e w' := by
  induction h with
  | mk p c ts nil at_ short txt kids ih => exact fun V n hf hx hn => allIn_step x w0 p c ts (.mk p c ts nil at_ short txt kids) hwx ih V n hf hx hn
theorem allTop_ok (x : Nat) (w0 : World) (p : Option Addr) (c : Nat) (ts : List LitT) (h : LitsR w0 p c ts) (hwx : w0.heap.size ≤ x) (V : World) (n : Nat) (hf : Fr [] w0 V) (hx : V.heap[x]? = some (.cells #[.int .i64 (n : Int)] 51 (0, 0))) (hn : n ≤ 4096) : Calls Tryz.prog 16 #[.pointer (some ⟨x, 0, none⟩), .slice p ts.length c, .func (.func 17) #[.pointer (some ⟨x, 0, none⟩)] #[]] V fun e w' => GaP V x ts (gaU ts n) e w' := by
  have hk : ∀ t ∈ ts, LitsR w0 t.p t.c t.kids := by cases h with | mk _ _ _ nil at_ short txt kids => exact kids
  exact allTop_step x w0 p c ts h hwx (fun t ht => allIn_ok x w0 t.p t.c t.kids (hk t ht) hwx) V n hf hx hn
end Go.Proofs.YtclkoffnjiiioaaGreatDoor

