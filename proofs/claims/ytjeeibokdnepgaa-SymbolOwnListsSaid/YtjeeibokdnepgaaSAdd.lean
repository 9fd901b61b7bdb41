import Derived.Test.YtjeeibokdnepgaaSClone
namespace Go.Proofs.Ytjeeibokdnepgaa
open Go.RowKit Go.Maps Go.WideMaps
set_option linter.unusedVariables false
set_option linter.unusedSimpArgs false
theorem info9 : (Try.prog.info? 9).map (fun i => (i.zero, i.size, i.bytes)) = some (some (.string ⟨#[]⟩), 1, 16) := by kernel_rfl
/-- a list of texts, one more put behind it -/
theorem run_push (w : World) (p : Option Addr) (cap base : Nat) (ts : List ByteArray) (s : ByteArray) (h : w.ownsRow base 9 1 (.slice p ts.length cap) ts.length (ts.map Value.string)) (hs : ts.length ≤ 4398046511104) (hB : base ≤ w.heap.size) :
    ∃ p' cap' w', (Builtin.append_ #[22, 22] 22 #[.slice p ts.length cap, .slice (some ⟨w.heap.size, 0, none⟩) 1 1]).run Try.prog (w.alloc (.cells #[.string s] 9)) = .ok (.slice p' (ts.length + 1) cap') w' ∧
      w'.ownsRow base 9 1 (.slice p' (ts.length + 1) cap') (ts.length + 1) ((ts ++ [s]).map Value.string) ∧ Fr (blk p) w w' ∧ (∀ g ∈ blk p', g ∈ blk p ∨ w.heap.size ≤ g) := by
  obtain ⟨i9, ii, iz, is, ib⟩ := info_parts info9
  have hA : (w.alloc (.cells #[.string s] 9)).heap.size = w.heap.size + 1 := by simp
  have hown : (w.alloc (.cells #[.string s] 9)).ownsRow base 9 1 (.slice p ts.length cap) ts.length (ts.map Value.string) := own_congr h (fun g hg => Below.heap_alloc _ _ _ (own_lt h g hg).2)
  have hcell : (w.alloc (.cells #[.string s] 9)).cell? ⟨w.heap.size, 0, none⟩ = some (.string s) := by rw [cell_in (heap_alloc_new w _)]; rfl
  obtain ⟨v', w', hr, h2, h3, _, h5⟩ := run_append_own_at (P := Try.prog) (w.alloc (.cells #[.string s] 9)) base 22 22 9 i9 (.string ⟨#[]⟩) 1 16 Try.underlying22 ii iz is ib rfl (by decide) _ _ _ hown ⟨w.heap.size, 0, none⟩ 1 1 [.string s] rfl
    (fun j x hx => by
      cases j with
      | zero => simp at hx; subst hx; rw [Addr.add_lit]; exact hcell
      | succ j => simp at hx)
    (fun x hx => by simp at hx; subst hx; rfl) (by unfold maxLen; omega) (by omega) (by omega)
  have hv : ∃ p' cap', v' = .slice p' (ts.length + 1) cap' := by
    rcases h2.2 with ⟨e1, e2⟩ | ⟨g, cap', cur, e1, _⟩
    · omega
    · exact ⟨_, _, e1⟩
  obtain ⟨p', cap', rfl⟩ := hv
  refine ⟨p', cap', w', hr, ?_, ?_, fun g hg => ?_⟩
  · rw [List.map_append]; exact h2
  · refine (Fr.alloc (blk p) w _).trans (Fr.grown h3 (fun k hk => (blk_own _ _ _ _).1 hk)) (fun b hb => Or.inl hb)
  · rcases h5 with h5 | h5
    · exact Or.inl ((blk_own p ts.length cap g).1 (by rw [← h5]; exact (blk_own p' (ts.length + 1) cap' g).2 hg))
    · have := (blk_own p' (ts.length + 1) cap' g).2 hg
      rw [h5, hA] at this
      injection this with this
      exact Or.inr (by omega)
theorem toList_data (s : ByteArray) : s.toList = s.data.toList := by
  exact ByteArray.toList_eq s
theorem tl_eq (a b : ByteArray) : (a.toList == b.toList) = decide (a = b) := by
  by_cases e : a = b
  · subst e; simp
  · rw [decide_eq_false e]
    refine beq_eq_false_iff_ne.2 (fun h => e ?_)
    rw [toList_data, toList_data] at h
    apply ByteArray.ext
    exact Array.toList_inj.1 h
theorem fitStr_no {s : ByteArray} (h : s.size = 0) : s = ⟨#[]⟩ := by
  apply ByteArray.ext
  exact Array.eq_empty_of_size_eq_zero h
/-- what Add answers, and what the table has then -/
def addN (most : Nat) (ts : List ByteArray) (s : ByteArray) : Int := if s.size = 0 ∨ 96 < s.size then 0 else match pos ts s with | some k => (k : Int) | none => if most ≤ ts.length then 0 else (ts.length : Int)
def addE (most : Nat) (ts : List ByteArray) (s : ByteArray) : Int := if s.size = 0 ∨ 96 < s.size then 61 else match pos ts s with | some k => 0 | none => if most ≤ ts.length then 60 else 0
def addT (most : Nat) (ts : List ByteArray) (s : ByteArray) : List ByteArray := if s.size = 0 ∨ 96 < s.size then ts else match pos ts s with | some k => ts | none => if most ≤ ts.length then ts else ts ++ [s]
/-- a table before and behind a call that changes it -/
structure Nx (a : Nat) (l l' : Lay) (w w' : World) : Prop where
  fr : Fr (foot a l) w w'
  foot : ∀ g ∈ foot a l', g ∈ foot a l ∨ w.heap.size ≤ g
theorem Nx.refl (a : Nat) (l : Lay) (w : World) : Nx a l l w w := ⟨Fr.refl _ _, fun g h => Or.inl h⟩
theorem Nx.trans {a : Nat} {l l' l'' : Lay} {w w' w'' : World} (h : Nx a l l' w w') (k : Nx a l' l'' w' w'') : Nx a l l'' w w'' :=
  ⟨h.fr.trans k.fr h.foot, fun g hg => by
    rcases k.foot g hg with h1 | h1
    · exact h.foot g h1
    · exact Or.inr (Nat.le_trans h.fr.size h1)⟩
theorem Nx.idle {a : Nat} {l l' : Lay} {w w' w'' : World} (h : Nx a l l' w w') (k : Fr [] w' w'') : Nx a l l' w w'' := ⟨h.fr.trans k (by simp), h.foot⟩
theorem Nx.of {a : Nat} {l : Lay} {w w' : World} (h : Fr [] w w') : Nx a l l w w' := ⟨h.mono (by simp), fun g h => Or.inl h⟩
/-- another table stands -/
theorem Nx.other {a a' : Nat} {l l' m : Lay} {w w' : World} {most : Nat} {ts : List ByteArray} (h : Nx a l l' w w') (k : TRep w a' m most ts) (hd : ∀ g ∈ Ytjeeibokdnepgaa.foot a' m, g ∉ Ytjeeibokdnepgaa.foot a l) : TRep w' a' m most ts ∧ ∀ g ∈ Ytjeeibokdnepgaa.foot a' m, g ∉ Ytjeeibokdnepgaa.foot a l' :=
  ⟨k.keep h.fr hd, fun g hg hm => by
    rcases h.foot g hm with h1 | h1
    · exact hd g hg h1
    · have := k.lt g hg; omega⟩
theorem pos_new {ts : List ByteArray} {x s : ByteArray} (hx : pos ts x = none) : pos (ts ++ [x]) s = if s = x then some ts.length else pos ts s := by
  rw [pos_append]
  by_cases e : s = x
  · subst e
    rw [hx, if_pos rfl]
    simp [pos]
  · rw [if_neg e]
    have e2 : pos [x] s = none := by simp [pos, Ne.symm e]
    rw [e2]
    cases pos ts s <;> rfl
theorem add_world {w1 : World} {a : Nat} {l : Lay} {most : Nat} {ts : List ByteArray} (s : ByteArray) (R1 : TRep w1 a l most ts) (hs1 : 1 ≤ s.size) (hs2 : s.size ≤ 96) (hp : pos ts s = none) (hm : ts.length < most) :
    ∃ (D : DataW Unit) (p' : Option Addr) (cap' : Nat) (w2 : World), (Builtin.append_ #[22, 22] 22 #[.slice l.p ts.length l.cap, .slice (some ⟨w1.heap.size, 0, none⟩) 1 1]).run Try.prog (w1.alloc (.cells #[.string s] 9)) = .ok (.slice p' (ts.length + 1) cap') w2 ∧
      w2.cell? ⟨a, 2, none⟩ = some (.slice l.p ts.length l.cap) ∧ w2.frozen? ⟨a, 2, none⟩ = false ∧
      (w2.setCell ⟨a, 2, none⟩ (.slice p' (ts.length + 1) cap')).cell? ⟨a, 3, none⟩ = some (.map (some l.b)) ∧
      (w2.setCell ⟨a, 2, none⟩ (.slice p' (ts.length + 1) cap')).ownsMap Try.prog 9 (plainElem Try.prog 3) l.b ts.length D ∧
      ∀ w3 : World, w3.ownsMap Try.prog 9 (plainElem Try.prog 3) l.b (ts.length + 1) (D.put (kS s) (.lit (.int .i64 (ts.length : Int)))) → (w2.setCell ⟨a, 2, none⟩ (.slice p' (ts.length + 1) cap')).grownBy w3 (some l.b) →
        TRep w3 a ⟨p', cap', l.b⟩ most (ts ++ [s]) ∧ Nx a l ⟨p', cap', l.b⟩ w1 w3 := by
  have k2 := R1.c2
  have k3 := R1.c3
  have k1 := R1.frozen 2
  obtain ⟨x1, x2, x3⟩ := R1.apart
  have q3 : ts.length < 4096 := by have := R1.most; omega
  have hal := R1.lt a (by simp [foot])
  obtain ⟨D, hown, hh, ha, hz⟩ := R1.map.at_
  obtain ⟨p', cap', w2, hr2, ho2, f2, hg2⟩ := run_push w1 l.p l.cap 0 ts s R1.row (by omega) (Nat.zero_le _)
  have k4 : w2.cell? ⟨a, 2, none⟩ = some (.slice l.p ts.length l.cap) := (f2.cell (p := ⟨a, 2, none⟩) hal x2).trans k2
  have ht2 : w2.heap[a]? = w1.heap[a]? := f2.block a hal x2
  have hap' : a ∉ blk p' := fun hm => by
    rcases hg2 a hm with h1 | h1
    · exact x2 h1
    · omega
  have hbp' : l.b ∉ blk p' := fun hm => by
    rcases hg2 l.b hm with h1 | h1
    · exact x3 h1
    · have := R1.map.lt; omega
  refine ⟨D, p', cap', w2, hr2, k4, (f2.frozen (p := ⟨a, 2, none⟩) hal x2).trans k1, ?_, ?_, fun w3 h3 g3 => ?_⟩
  · rw [cell_in (set_in (ht2.trans R1.top) 2 _)]; simp [tcells]
  · obtain ⟨es, clock, y1, y2⟩ := hown
    refine ⟨es, clock, ?_, y2⟩
    rw [Below.heap_setCell _ _ _ _ x1, f2.block l.b R1.map.lt x3]
    exact y1
  · have hsz : (w2.setCell ⟨a, 2, none⟩ (.slice p' (ts.length + 1) cap')).heap.size = w2.heap.size := by simp
    have hb3 : ∀ g, g < w2.heap.size → g ≠ l.b → w3.heap[g]? = (w2.setCell ⟨a, 2, none⟩ (.slice p' (ts.length + 1) cap')).heap[g]? := fun g hg hn => g3.block g (by rw [hsz]; exact hg) (fun e => hn (by injection e))
    have hs2' := f2.size
    refine ⟨⟨?_, ?_, ?_, ?_, ?_, ?_, R1.most⟩, ?_, ?_⟩
    · rw [hb3 a (by omega) (Ne.symm x1)]
      have := set_in (ht2.trans R1.top) 2 (.slice p' (ts.length + 1) cap')
      rw [this]
      simp [tcells]
    · rw [List.length_append]
      refine own_congr ho2 (fun g hg => ?_)
      have hg' := (blk_own _ _ _ _).1 hg
      rw [hb3 g (own_lt ho2 g hg).2 (fun e => hbp' (e ▸ hg'))]
      exact Below.heap_setCell _ _ _ _ (fun e => hap' (by rw [show g = a from e] at hg'; exact hg'))
    · have := map_put (w := w1) s ts.length hown hh ha hz hp h3
      rw [List.length_append]
      exact this.eqf (fun x => (pos_new hp).symm)
    · rw [List.nodup_append]
      refine ⟨R1.nodup, by simp, fun x hx y hy e => ?_⟩
      simp at hy
      subst hy
      subst e
      exact pos_none.1 hp hx
    · intro x hx
      rcases List.mem_append.1 hx with h1 | h1
      · exact R1.fit x h1
      · simp at h1; subst h1; exact ⟨hs1, hs2⟩
    · simp; omega
    · refine ((f2.mono (S' := foot a l) (fun b hb => Or.inl (by simp [foot, hb]))).trans (Fr.setCell (S := [a]) _ _ _ (by simp)) (by simp [foot])).trans (Fr.grown (S := [l.b]) g3 (fun k hk => by injection hk with hk; simp [hk])) (by simp [foot])
    · intro g hg
      simp only [foot, List.mem_cons] at hg ⊢
      rcases hg with h1 | h1 | h1
      · exact Or.inl (Or.inl h1)
      · exact Or.inl (Or.inr (Or.inl h1))
      · rcases hg2 g h1 with h2 | h2
        · exact Or.inl (Or.inr (Or.inr h2))
        · exact Or.inr h2
set_option maxRecDepth 20000 in
set_option maxHeartbeats 2000000 in
theorem Add_ok (s : ByteArray) (a : Nat) (l : Lay) (most : Nat) (ts : List ByteArray) (w : World) (h : TRep w a l most ts) (hs : s.size ≤ 140737488355328) :
    Calls Try.prog 10 #[.pointer (some ⟨a, 0, none⟩), .string s] w fun e w' => e = .returned (.tuple #[.int .i64 (addN most ts s), .int .i64 (addE most ts s)]) ∧ ∃ l', TRep w' a l' most (addT most ts s) ∧ Nx a l l' w w' := by
  have c0 := h.c0
  have HR := mkHid h
  by_cases z0 : s.size = 0
  · have e1 : addN most ts s = 0 := by unfold addN; rw [if_pos (Or.inl z0)]
    have e2 : addE most ts s = 61 := by unfold addE; rw [if_pos (Or.inl z0)]
    have e3 : addT most ts s = ts := by unfold addT; rw [if_pos (Or.inl z0)]
    rw [e1, e2, e3]
    have := fitStr_no z0
    subst this
    clear h e1 e2 e3 z0 hs
    go_enter Try.func10, Try.ntmps10
    go_wp2_with (go_at_call 31; refine (made_yes _ _ c0).mono ?_; rintro e w' ⟨rfl, rfl⟩)
    go_ret2
    exact ⟨rfl, l, HR.out, Nx.refl _ _ _⟩
  have hne : s.toList.isEmpty = false := by
    rw [toList_data, List.isEmpty_eq_false_iff]
    intro e
    exact z0 (by rw [Lib.size_eq, e]; rfl)
  by_cases z1 : 96 < s.size
  · have e1 : addN most ts s = 0 := by unfold addN; rw [if_pos (Or.inr z1)]
    have e2 : addE most ts s = 61 := by unfold addE; rw [if_pos (Or.inr z1)]
    have e3 : addT most ts s = ts := by unfold addT; rw [if_pos (Or.inr z1)]
    rw [e1, e2, e3]
    have q1 : (96 : Int) < (s.size : Int) := by omega
    clear h e1 e2 e3 z0
    go_enter Try.func10, Try.ntmps10
    go_wp2_with (go_at_call 31; refine (made_yes _ _ c0).mono ?_; rintro e w' ⟨rfl, rfl⟩)
    go_ret2
    exact ⟨rfl, l, HR.out, Nx.refl _ _ _⟩
  have q1 : (s.size : Int) ≤ 96 := by omega
  have hnf : ¬ (s.size = 0 ∨ 96 < s.size) := by omega
  have c1 := h.c1
  have c2 := h.c2
  have c3 := h.c3
  obtain ⟨D, hown, hh, ha, hz⟩ := h.map.at_
  have hkey : keyOf Try.prog 9 (.string s) = some (kS s) := keyOf_string_mk Try.underlying9 (by unfold maxLen; omega)
  have hhq := hh s
  have haq := ha s
  cases hp : pos ts s with
  | some k =>
    rw [hp] at hhq haq
    have e1 : addN most ts s = (k : Int) := by unfold addN; rw [if_neg hnf, hp]
    have e2 : addE most ts s = 0 := by unfold addE; rw [if_neg hnf, hp]
    have e3 : addT most ts s = ts := by unfold addT; rw [if_neg hnf, hp]
    rw [e1, e2, e3]
    clear h e1 e2 e3 z0 hh ha hz hnf hp
    go_enter Try.func10, Try.ntmps10
    go_wp2_with (first | (go_at_call 31; refine (made_yes _ _ c0).mono ?_; rintro e w' ⟨rfl, rfl⟩) | (at_lookup; refine wpList_lookup_own_ok_int _ rfl _ _ 68 rfl 9 3 .i64 mlaw Try.underlying68 Try.underlying3 (mzero _) l.b ts.length _ rfl hown _ _ rfl hkey ?_; intro c hat hwc; rw [hhq]; have HC : Hid ((k : Int) = c) := (by rw [haq] at hat; injection hat with hat; injection hat); clear hat))
    go_ret2
    exact ⟨by rw [HC.out]; rfl, l, HR.out, Nx.refl _ _ _⟩
  | none =>
    rw [hp] at hhq haq
    have HP := mkHid hp
    by_cases hm : most ≤ ts.length
    · have e1 : addN most ts s = 0 := by unfold addN; rw [if_neg hnf, hp]; show (if most ≤ ts.length then (0 : Int) else _) = 0; rw [if_pos hm]
      have e2 : addE most ts s = 60 := by unfold addE; rw [if_neg hnf, hp]; show (if most ≤ ts.length then (60 : Int) else _) = 60; rw [if_pos hm]
      have e3 : addT most ts s = ts := by unfold addT; rw [if_neg hnf, hp]; show (if most ≤ ts.length then ts else _) = ts; rw [if_pos hm]
      rw [e1, e2, e3]
      have q2 : (most : Int) ≤ (ts.length : Int) := by omega
      clear h e1 e2 e3 z0 hh ha hz hnf hp hm
      go_enter Try.func10, Try.ntmps10
      go_wp2_with (first | (go_at_call 31; refine (made_yes _ _ c0).mono ?_; rintro e w' ⟨rfl, rfl⟩) | (at_lookup; refine wpList_lookup_own_ok_int _ rfl _ _ 68 rfl 9 3 .i64 mlaw Try.underlying68 Try.underlying3 (mzero _) l.b ts.length _ rfl hown _ _ rfl hkey ?_; intro c hat hwc; rw [hhq]))
      go_ret2
      exact ⟨rfl, l, HR.out, Nx.refl _ _ _⟩
    · have e1 : addN most ts s = (ts.length : Int) := by unfold addN; rw [if_neg hnf, hp]; show (if most ≤ ts.length then (0 : Int) else _) = _; rw [if_neg hm]
      have e2 : addE most ts s = 0 := by unfold addE; rw [if_neg hnf, hp]; show (if most ≤ ts.length then (60 : Int) else _) = 0; rw [if_neg hm]
      have e3 : addT most ts s = ts ++ [s] := by unfold addT; rw [if_neg hnf, hp]; show (if most ≤ ts.length then ts else _) = _; rw [if_neg hm]
      rw [e1, e2, e3]
      have q2 : (ts.length : Int) < (most : Int) := by omega
      have q3 : ts.length < 4096 := by have := h.most; omega
      have HZ := mkHid (⟨z0, z1, hm⟩ : ¬ s.size = 0 ∧ ¬ 96 < s.size ∧ ¬ most ≤ ts.length)
      have z2 : 1 ≤ s.size := by omega
      have z3 : s.size ≤ 96 := by omega
      have HW : Hid (∀ w1, Fr [] w w1 → _) := mkHid (fun w1 F1 => add_world s (h.idle F1) z2 z3 hp (by omega))
      have h2 := h
      clear h h2 e1 e2 e3 z0 z1 hh ha hz hnf hp hm
      go_enter Try.func10, Try.ntmps10
      go_wp2_with (first
        | (go_at_call 31; refine (made_yes _ _ c0).mono ?_; rintro e w' ⟨rfl, rfl⟩)
        | (at_lookup; refine wpList_lookup_own_ok_int _ rfl _ _ 68 rfl 9 3 .i64 mlaw Try.underlying68 Try.underlying3 (mzero _) l.b ts.length _ rfl hown _ _ rfl hkey ?_; intro c hat hwc; rw [hhq]; clear hown hat hwc)
        | (go_at_call 32
           refine (Clone_any s _ z2 z3).mono ?_
           rintro e w1 ⟨rfl, F1⟩
           obtain ⟨D1, p', cap', w2, hr2, k4, k5, k6, hown2, hend⟩ := HW.out w1 F1
           have k2 := (HR.out.idle F1).c2
           have HR2 := mkHid hr2
           have HO2 := mkHid hown2
           have HE := mkHid hend
           have HF1 := mkHid F1
           clear hr2 hown2 hend F1)
        | (at_builtin; refine Lib.wpList_append_run _ rfl (.tmp 47) (.tmp 49) 22 22 rfl _ _ rfl rfl _ _ HR2.out ?_)
        | (at_mapUpdate; refine wpList_mapUpdate_own _ rfl _ _ _ 68 rfl 9 3 mlaw Try.underlying68 _ l.b ts.length _ rfl HO2.out (by unfold maxLen; omega) _ _ _ rfl rfl hkey _ [] (plainElem_int Try.underlying3 (WalkArith.wf_i64 (by omega))) ?_; intro w3 hown3 hgrow3)
        | go_in)
      go_ret2
      obtain ⟨r1, r2⟩ := HE.out w3 hown3 hgrow3
      exact ⟨rfl, _, r1, (Nx.of HF1.out).trans r2⟩
end Go.Proofs.Ytjeeibokdnepgaa
