import Derived.Test.YtimlomobbnnehaaDoorLAllH
namespace Go.Proofs.YtimlomobbnnehaaDoor
open Go.RowKit Go.Maps
set_option linter.unusedVariables false
set_option linter.unusedSimpArgs false
theorem retA {w V : World} {tm : Array Value} {ts : List (Tok × Nat)} {l : Bs} {v : Value} {c a : Nat} (hr : V.heap[w.heap.size]? = some (.cells #[.int .i64 c, .int .i64 a] 25 (0, 0)))
    (h2 : tm.getD 2 undef = v) (h3 : tm.getD 3 undef = .pointer (some ⟨w.heap.size, 0, none⟩)) (hl : AllR l ts c a) (ho : V.ownsRow w.heap.size 41 4 v ts.length (tcs ts)) (hb : Bl w V) :
    bodyPost Tryd.prog Tryd.f11 (fun e w' => ∃ v ts c a, e = .returned (.tuple #[v, .agg #[.int .i64 (c : Nat), .int .i64 (a : Nat)]]) ∧ AllR l ts c a ∧ w'.ownsRow w.heap.size 41 4 v ts.length (tcs ts) ∧ Bl w w') .ret ⟨tm, []⟩ V := by
  have x0 : V.cell? ⟨w.heap.size, 0, none⟩ = some (.int .i64 c) := by rw [cell_in hr]; rfl
  have x1 : V.cell? ⟨w.heap.size, 1, none⟩ = some (.int .i64 a) := by rw [cell_in hr]; rfl
  have h2' : tm[2]?.getD undef = v := by simpa using h2
  have h3' : tm[3]?.getD undef = .pointer (some ⟨w.heap.size, 0, none⟩) := by simpa using h3
  refine bodyPost_ret (v := .tuple #[v, .agg #[.int .i64 (c : Nat), .int .i64 (a : Nat)]]) (by simp [results, Tryd.results11, go_sem, h2, h3, h2', h3', x0, x1]) rfl ⟨v, ts, c, a, rfl, hl, ho, hb⟩
theorem res2 {W : World} {B : Nat} (h : W.heap[B]? = some (.cells #[.int .i64 0, .int .i64 0] 25 (0, 0))) : W.cell? ⟨B, 0, none⟩ = some (.int .i64 0) ∧ W.cell? ⟨B, 1, none⟩ = some (.int .i64 0) ∧ W.frozen? ⟨B, 0, none⟩ = false ∧ W.frozen? ⟨B, 1, none⟩ = false :=
  ⟨by rw [cell_in h]; rfl, by rw [cell_in h]; rfl, frozen_in h 0, frozen_in h 1⟩
theorem AE {w X w5 : World} {s : ByteArray} {acc : List (Tok × Nat)} {a : Nat} {v v' : Value} {x : Tok × Nat} (h : AL w s acc a v X) (hg : X.grownBy w5 v.ownBlock)
    (ho : w5.ownsRow (w.heap.size + 1) 41 4 v' (acc.length + 1) (tcs acc ++ tc x)) : w5.heap[w.heap.size]? = some (.cells #[.int .i64 0, .int .i64 0] 25 (0, 0)) ∧ w5.ownsRow (w.heap.size + 1) 41 4 v' (acc ++ [x]).length (tcs (acc ++ [x])) ∧ Bl w w5 := by
  refine ⟨(hg.block _ (lt_of_heap h.res) (fun e => by have := (own_block h.own e.symm).1; omega)).trans h.res, ?_, ⟨hg.os.trans h.bl.os, hg.tape.trans h.bl.tape, hg.output.trans h.bl.output, Nat.le_trans h.bl.size hg.size, fun k hk => ?_⟩⟩
  · rw [tcs_app]
    have e : tcs [x] = tc x := by simp [tcs]
    rw [e, List.length_append]
    exact ho
  · rw [hg.block k (Nat.lt_of_lt_of_le hk h.bl.size) (fun e => by have := (own_block h.own e.symm).1; omega)]
    exact h.bl.block k hk
theorem cut_kind {l : Bs} {t : Tok} {n : Nat} (h : cut l = some (some t, n)) : t.kind ≠ 0 := by
  unfold cut at h
  split at h
  · cases h
  · rename_i c r
    repeat' split at h
    all_goals first
      | (simp [mk] at h; done)
      | (simp only [mk, Option.some.injEq, Prod.mk.injEq] at h; obtain ⟨rfl, _⟩ := h; simp; done)
      | (simp only [mk, Option.some.injEq, Prod.mk.injEq] at h; obtain ⟨rfl, _⟩ := h; assumption)
      | (obtain ⟨y, hy, e⟩ := Option.map_eq_some_iff.1 h; simp at e; done)
      | (obtain ⟨y, hy, e⟩ := Option.map_eq_some_iff.1 h; simp only [Prod.mk.injEq, Option.some.injEq] at e; obtain ⟨rfl, _⟩ := e; simp)
theorem cutQ_tok {l : Bs} (h1 : isB (hd l) = false) (h2 : hd l ≠ 34) (h : (cutQ l).2.2.2 ≠ 0) : ∃ t n, cut l = some (some t, n) ∧ cutQ l = (t.kind, t.text, t.num, n) ∧ 1 ≤ n ∧ n ≤ l.length := by
  rcases cutQ_some h with ⟨n, hc, _⟩ | ⟨t, n, hc, hq⟩
  · have := (cut_passed hc).2 rfl
    rcases this with g | g
    · rw [h1] at g; cases g
    · exact absurd g h2
  · exact ⟨t, n, hc, hq, cut_n hc⟩
set_option maxHeartbeats 16000000 in
set_option maxRecDepth 1000000 in
theorem rAll_ok (s : ByteArray) (w : World) (hs : s.size ≤ 1099511627776) : Calls Tryd.prog 11 #[.string s] w fun e w' =>
    ∃ v ts c a, e = .returned (.tuple #[v, .agg #[.int .i64 (c : Nat), .int .i64 (a : Nat)]]) ∧ AllR (lst s) ts c a ∧ w'.ownsRow w.heap.size 41 4 v ts.length (tcs ts) ∧ Bl w w' := by
  obtain ⟨i0, hi, hz0, hz1, hz2⟩ := info_parts info30
  obtain ⟨W, hW⟩ : ∃ W, W = w.alloc (.cells #[.int .i64 0, .int .i64 0] 25) := ⟨_, rfl⟩
  have HS : Hid (AL w s [] 0 (.slice none 0 0) W) := by
    rw [hW]
    exact ⟨heap_alloc_new w _, World.ownsRow_nil _ _ _ _, Bl.alloc _ _, fun ts e h => by simpa using h, Nat.zero_le _, Nat.le_refl _⟩
  go_enter Tryd.func11, Tryd.ntmps11
  go_wp2_with (go_at_call 17; fail)
  rw [← hW]
  clear hW
  go_loopw [4, 5] (fun v q wr => ∃ (acc : List (Tok × Nat)) (a : Nat), q = .int .i64 a ∧ Hid (AL w s acc a v wr)) (fun _ q _ => s.size - (intOf q).toNat)
  case atStart => exact ⟨[], 0, rfl, HS⟩
  case round =>
    obtain ⟨acc, a, rfl, hH⟩ := hrel
    have hle := hH.out.le
    have hal := hH.out.al
    have hp := rPassed_ok s a wr hle (by omega)
    obtain ⟨e0, e1, f0, f1⟩ := res2 hH.out.res
    go_wp2_with (go_at_call 17; fail)
    go_at_call 17
    refine hp.mono ?_
    rintro e w1 ⟨n, ok, rfl, HP, h⟩
    have h3 := h.symm
    subst h3
    have HP := mkHid HP
    have hn1 := HP.out.lo
    have hn2 : n ≤ s.size := HP.out.hi
    cases ok with
    | false =>
      have HL : Hid (AllR (lst s) [] 70 n) := by
        have := hH.out.lx _ _ (HP.out.no rfl)
        rw [List.append_nil] at this
        exact ⟨acc, some n, this, Or.inr ⟨n, rfl, rfl, rfl, rfl⟩⟩
      go_wp2_with fail
      refine retA (ts := []) (c := 70) (a := n) ?_ rfl rfl HL.out (World.ownsRow_nil _ _ _ _) ?_
      · rw [set_in (set_in hH.out.res 0 _) 1 _]; rfl
      · exact set_bl (set_bl hH.out.bl (Nat.le_refl _) 0 _) (Nat.le_refl _) 1 _
    | true =>
      obtain ⟨hlx, hno⟩ := HP.out.go rfl
      have HX := mkHid hlx
      by_cases hlt : n < s.size
      · obtain ⟨g1, g2⟩ := hno hlt
        have hni : ¬ (s.size : Int) ≤ n := by omega
        have hk := fun w => rToken_ok s n w hlt (by omega) g1 g2
        by_cases hz : (cutQ ((lst s).drop n)).2.2.2 = 0
        · have HL : Hid (AllR (lst s) [] 70 n) := by
            have hc := cutQ_none hz
            have := hH.out.lx _ _ (HX.out _ _ (.bad n _ (fun h => by
              have h5 := congrArg List.length h
              rw [List.length_drop, lst_len] at h5
              simp at h5
              omega) hc))
            rw [List.append_nil] at this
            exact ⟨acc, some n, this, Or.inr ⟨n, rfl, rfl, rfl, rfl⟩⟩
          have hk : ∀ w, Calls Tryd.prog 18 #[.string s, .int .i64 n] w fun e w' => e = .returned (.tuple #[.agg #[.int .i64 0, .string ⟨#[]⟩, .int .i64 0, .int .i64 0], .int .i64 n]) ∧ Bl w w' := by
            intro w
            have := hk w
            unfold tokR at this
            rw [if_pos hz] at this
            exact this
          clear hlx hno hz g1 g2
          go_wp2_with (go_at_call 18; refine (hk _).mono ?_; rintro e w3 ⟨rfl, b3⟩; have hA3 := mkHid (hH.out.keep b3); have hA4 := mkHid (hA3.out.keep (Bl.alloc _ (.cells #[.int .i64 0, .string ⟨#[]⟩, .int .i64 0, .int .i64 0] 41))); obtain ⟨e0, e1, f0, f1⟩ := res2 hA4.out.res)
          refine retA (ts := []) (c := 70) (a := n) ?_ rfl rfl HL.out (World.ownsRow_nil _ _ _ _) ?_
          · rw [set_in (set_in hA4.out.res 0 _) 1 _]; rfl
          · exact set_bl (set_bl hA4.out.bl (Nat.le_refl _) 0 _) (Nat.le_refl _) 1 _
        · obtain ⟨t, m, hc, hq, hm1, hm2⟩ := cutQ_tok g1 g2 hz
          rw [List.length_drop, lst_len] at hm2
          have HN : Hid (∀ ts e, Lx (n + m) ((lst s).drop (n + m)) ts e → Lx 0 (lst s) ((acc ++ [(t, n)]) ++ ts) e) := mkHid fun ts e h => by
            rw [List.append_assoc]
            exact hH.out.lx _ _ (HX.out _ _ (.tok n _ t m ts e hc (by rw [List.drop_drop]; exact h)))
          have hk : ∀ w, Calls Tryd.prog 18 #[.string s, .int .i64 n] w fun e w' => e = .returned (.tuple #[.agg #[.int .i64 t.kind, .string (ba t.text), .int .i64 t.num, .int .i64 n], .int .i64 ((n + m : Nat) : Int)]) ∧ Bl w w' := by
            intro w
            have := hk w
            unfold tokR at this
            rw [if_neg hz, hq] at this
            exact this
          have HZ : Hid (t.kind ≠ 0) := mkHid (cut_kind hc)
          have hki : ¬ (t.kind : Int) = 0 := by have := HZ.out; omega
          clear hlx hno hz g1 g2 hc hq
          have hm3 : n + m ≤ s.size := by omega
          go_wp2_with (first
            | (go_at_call 18; refine (hk _).mono ?_; rintro e w3 ⟨rfl, b3⟩; have hA3 := mkHid (hH.out.keep b3); have hA4 := mkHid (hA3.out.keep (Bl.alloc _ (.cells #[.int .i64 t.kind, .string (ba t.text), .int .i64 t.num, .int .i64 n] 41))); have hown5 := hA4.out.own)
            | (at_builtin; refine wpList_append_lies _ rfl (.tmp 42) (.tmp 44) 22 rfl (w.heap.size + 1) 41 i0 (.agg #[.int .i64 0, .string ⟨#[]⟩, .int .i64 0, .int .i64 0]) 4 40 Tryd.underlying22 hi hz0 hz1 hz2 rfl (by decide) _ _ _ rfl (hown5.alloc _) ⟨w3.heap.size + 1, 0, none⟩ 1 1 [.int .i64 t.kind, .string (ba t.text), .int .i64 t.num, .int .i64 n] rfl rfl ?c1 ?c2 (by omega) ?c3 ?c4 ?c5 (w3.heap.size + 2) (by simp) ?_))
          case c1 =>
            have h9 := heap_alloc_new (w3.alloc (.cells #[.int .i64 t.kind, .string (ba t.text), .int .i64 t.num, .int .i64 n] 41)) (.cells #[.int .i64 t.kind, .string (ba t.text), .int .i64 t.num, .int .i64 n] 41)
            have e9 : (w3.alloc (.cells #[.int .i64 t.kind, .string (ba t.text), .int .i64 t.num, .int .i64 n] 41)).heap.size = w3.heap.size + 1 := by simp
            rw [e9] at h9
            exact World.news_of_block h9
          case c2 => intro u hu; simp at hu; rcases hu with rfl | rfl | rfl | rfl <;> rfl
          case c3 => unfold maxLen; omega
          case c4 => omega
          case c5 => have h1 := lt_of_heap hA3.out.res; simp at h1 ⊢; omega
          intro g3 cap w5 hown' hgrow hat hlt5
          have HT5 := mkHid (AL.append (x := (t, n)) (a' := n + m) (hA4.out.keep (Bl.alloc _ _)) hgrow hown' HN.out hm3 (Or.inl (by omega)))
          clear hown' hgrow hown5 hat
          go_wp2_with fail
          go_roundw
          case rel => exact ⟨acc ++ [(t, n)], n + m, by simp, HT5.out⟩
          case measure => simp [intOf]; omega
      · have hne : n = s.size := by omega
        subst hne
        have hown0 := hH.out.own
        have HLR : Hid (AllR (lst s) (acc ++ [(stopT, s.size)]) 0 0) := by
          have h1 := hH.out.lx [] none (HX.out _ _ (by rw [List.drop_eq_nil_of_le (by rw [lst_len]; exact Nat.le_refl _)]; exact .stop _))
          rw [List.append_nil] at h1
          exact ⟨acc, none, h1, Or.inl ⟨rfl, by rw [lst_len], rfl, rfl⟩⟩
        clear hlx hno
        go_wp2_with (first
          | (at_builtin; refine wpList_append_lies _ rfl (.tmp 24) (.tmp 28) 22 rfl (w.heap.size + 1) 41 i0 (.agg #[.int .i64 0, .string ⟨#[]⟩, .int .i64 0, .int .i64 0]) 4 40 Tryd.underlying22 hi hz0 hz1 hz2 rfl (by decide) _ _ _ rfl (hown0.alloc _) ⟨wr.heap.size, 0, none⟩ 1 1 [.int .i64 18, .string ⟨#[]⟩, .int .i64 0, .int .i64 s.size] rfl rfl ?c1 ?c2 (by omega) ?c3 ?c4 ?c5 (wr.heap.size + 1) (by simp) ?_))
        case c1 => exact World.news_of_block (heap_alloc_new wr _)
        case c2 => intro u hu; simp at hu; rcases hu with rfl | rfl | rfl | rfl <;> rfl
        case c3 => unfold maxLen; omega
        case c4 => omega
        case c5 => have h1 := lt_of_heap hH.out.res; simp at h1 ⊢; omega
        intro g3 cap w5 hown' hgrow hat hlt5
        obtain ⟨E1, E2, E3⟩ := AE (x := (stopT, s.size)) (hH.out.keep (Bl.alloc _ _)) hgrow hown'
        have E1 := mkHid E1
        have E2 := mkHid E2
        have E3 := mkHid E3
        clear hown' hgrow hown0 hat
        obtain ⟨e0, e1, f0, f1⟩ := res2 E1.out
        go_wp2_with fail
        refine retA (ts := acc ++ [(stopT, s.size)]) (c := 0) (a := 0) ?_ rfl rfl HLR.out ?_ ?_
        · rw [set_in (set_in E1.out 0 _) 1 _]
          rfl
        · refine ownR_congr E2.out (fun g hg => ?_) (by omega)
          have h1 := own_block E2.out hg
          rw [Below.heap_setCell _ _ _ _ (by show g ≠ w.heap.size; omega), Below.heap_setCell _ _ _ _ (by show g ≠ w.heap.size; omega)]
        · exact set_bl (set_bl E3.out (Nat.le_refl _) 0 _) (Nat.le_refl _) 1 _
end Go.Proofs.YtimlomobbnnehaaDoor
