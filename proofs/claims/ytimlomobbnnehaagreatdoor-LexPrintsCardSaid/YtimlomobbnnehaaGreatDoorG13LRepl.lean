import Derived.Test.YtimlomobbnnehaaGreatDoorG12LAllH
import Derived.Shelf.LaysM
import Derived.Shelf.Strconv.Itoa3
import Derived.Test.YtimlomobbnnehaaGreatDoorChecked
import Derived.Test.YtimlomobbnnehaaGreatDoorG08LRefA
import Derived.Lib.ItoaNum
import Derived.Lib.Replace
import Derived.Lib.CountLaws
namespace Go.Proofs.YtimlomobbnnehaaGreatDoor
open Go.RowKit Go.Maps
set_option linter.unusedVariables false
set_option linter.unusedSimpArgs false
theorem retA {w V : World} {tm : Array Value} {ts : List (Tok × Nat)} {l : Bs} {v : Value} {c a : Nat} (hr : V.heap[w.heap.size]? = some (.cells #[.int .i64 c, .int .i64 a] 38 (0, 0)))
    (h2 : tm.getD 2 undef = v) (h3 : tm.getD 3 undef = .pointer (some ⟨w.heap.size, 0, none⟩)) (hl : AllR l ts c a) (ho : V.ownsRow w.heap.size 28 4 v ts.length (tcs ts)) (hb : Bl w V) :
    bodyPost Tryz.prog Tryz.f34 (fun e w' => ∃ v ts c a, e = .returned (.tuple #[v, .agg #[.int .i64 (c : Nat), .int .i64 (a : Nat)]]) ∧ AllR l ts c a ∧ w'.ownsRow w.heap.size 28 4 v ts.length (tcs ts) ∧ Bl w w') .ret ⟨tm, []⟩ V := by
  have x0 : V.cell? ⟨w.heap.size, 0, none⟩ = some (.int .i64 c) := by rw [cell_in hr]; rfl
  have x1 : V.cell? ⟨w.heap.size, 1, none⟩ = some (.int .i64 a) := by rw [cell_in hr]; rfl
  have h2' : tm[2]?.getD undef = v := by simpa using h2
  have h3' : tm[3]?.getD undef = .pointer (some ⟨w.heap.size, 0, none⟩) := by simpa using h3
  refine bodyPost_ret (v := .tuple #[v, .agg #[.int .i64 (c : Nat), .int .i64 (a : Nat)]]) (by simp [results, Tryz.results34, go_sem, h2, h3, h2', h3', x0, x1]) rfl ⟨v, ts, c, a, rfl, hl, ho, hb⟩
theorem res2 {W : World} {B : Nat} (h : W.heap[B]? = some (.cells #[.int .i64 0, .int .i64 0] 38 (0, 0))) : W.cell? ⟨B, 0, none⟩ = some (.int .i64 0) ∧ W.cell? ⟨B, 1, none⟩ = some (.int .i64 0) ∧ W.frozen? ⟨B, 0, none⟩ = false ∧ W.frozen? ⟨B, 1, none⟩ = false :=
  ⟨by rw [cell_in h]; rfl, by rw [cell_in h]; rfl, frozen_in h 0, frozen_in h 1⟩
theorem AE {w X w5 : World} {s : ByteArray} {acc : List (Tok × Nat)} {a : Nat} {v v' : Value} {x : Tok × Nat} (h : AL w s acc a v X) (hg : X.grownBy w5 v.ownBlock)
    (ho : w5.ownsRow (w.heap.size + 1) 28 4 v' (acc.length + 1) (tcs acc ++ tc x)) : w5.heap[w.heap.size]? = some (.cells #[.int .i64 0, .int .i64 0] 38 (0, 0)) ∧ w5.ownsRow (w.heap.size + 1) 28 4 v' (acc ++ [x]).length (tcs (acc ++ [x])) ∧ Bl w w5 := by
  refine ⟨(hg.block _ (lt_of_heap h.res) (fun e => by have := (own_block h.own e.symm).1; omega)).trans h.res, ?_, ⟨hg.os.trans h.bl.os, hg.tape.trans h.bl.tape, hg.output.trans h.bl.output, Nat.le_trans h.bl.size hg.size, fun k hk => ?_⟩⟩
  · rw [tcs_app]
    have e : tcs [x] = tc x := by simp [tcs]
    rw [e, List.length_append]
    exact ho
  · rw [hg.block k (Nat.lt_of_lt_of_le hk h.bl.size) (fun e => by have := (own_block h.own e.symm).1; omega)]
    exact h.bl.block k hk
theorem cut_kind {l : Bs} {t : Tok} {n : Nat} (h : cut l = some (some t, n)) : t.kind ≠ 0 := by
  unfold cut at h
  split at h
  · cases h
  · rename_i c r
    repeat' split at h
    all_goals first
      | (simp [mk] at h; done)
      | (simp only [mk, Option.some.injEq, Prod.mk.injEq] at h; obtain ⟨rfl, _⟩ := h; simp; done)
      | (simp only [mk, Option.some.injEq, Prod.mk.injEq] at h; obtain ⟨rfl, _⟩ := h; assumption)
      | (obtain ⟨y, hy, e⟩ := Option.map_eq_some_iff.1 h; simp at e; done)
      | (obtain ⟨y, hy, e⟩ := Option.map_eq_some_iff.1 h; simp only [Prod.mk.injEq, Option.some.injEq] at e; obtain ⟨rfl, _⟩ := e; simp)
theorem cutQ_tok {l : Bs} (h1 : isB (hd l) = false) (h2 : hd l ≠ 34) (h : (cutQ l).2.2.2 ≠ 0) : ∃ t n, cut l = some (some t, n) ∧ cutQ l = (t.kind, t.text, t.num, n) ∧ 1 ≤ n ∧ n ≤ l.length := by
  rcases cutQ_some h with ⟨n, hc, _⟩ | ⟨t, n, hc, hq⟩
  · have := (cut_passed hc).2 rfl
    rcases this with g | g
    · rw [h1] at g; cases g
    · exact absurd g h2
  · exact ⟨t, n, hc, hq, cut_n hc⟩
set_option maxHeartbeats 16000000 in
set_option maxRecDepth 1000000 in
theorem rAll_ok (s : ByteArray) (w : World) (hs : s.size ≤ 1099511627776) : Calls Tryz.prog 34 #[.string s] w fun e w' =>
    ∃ v ts c a, e = .returned (.tuple #[v, .agg #[.int .i64 (c : Nat), .int .i64 (a : Nat)]]) ∧ AllR (lst s) ts c a ∧ w'.ownsRow w.heap.size 28 4 v ts.length (tcs ts) ∧ Bl w w' := by
  obtain ⟨i0, hi, hz0, hz1, hz2⟩ := info_parts info30
  obtain ⟨W, hW⟩ : ∃ W, W = w.alloc (.cells #[.int .i64 0, .int .i64 0] 38) := ⟨_, rfl⟩
  have HS : Hid (AL w s [] 0 (.slice none 0 0) W) := by
    rw [hW]
    exact ⟨heap_alloc_new w _, World.ownsRow_nil _ _ _ _, Bl.alloc _ _, fun ts e h => by simpa using h, Nat.zero_le _, Nat.le_refl _⟩
  go_enter Tryz.func34, Tryz.ntmps34
  go_wp2_with (go_at_call 57; fail)
  rw [← hW]
  clear hW
  go_loopw [4, 5] (fun v q wr => ∃ (acc : List (Tok × Nat)) (a : Nat), q = .int .i64 a ∧ Hid (AL w s acc a v wr)) (fun _ q _ => s.size - (intOf q).toNat)
  case atStart => exact ⟨[], 0, rfl, HS⟩
  case round =>
    obtain ⟨acc, a, rfl, hH⟩ := hrel
    have hle := hH.out.le
    have hal := hH.out.al
    have hp := rPassed_ok s a wr hle (by omega)
    obtain ⟨e0, e1, f0, f1⟩ := res2 hH.out.res
    go_wp2_with (go_at_call 57; fail)
    go_at_call 57
    refine hp.mono ?_
    rintro e w1 ⟨n, ok, rfl, HP, h⟩
    have h3 := h.symm
    subst h3
    have HP := mkHid HP
    have hn1 := HP.out.lo
    have hn2 : n ≤ s.size := HP.out.hi
    cases ok with
    | false =>
      have HL : Hid (AllR (lst s) [] 70 n) := by
        have := hH.out.lx _ _ (HP.out.no rfl)
        rw [List.append_nil] at this
        exact ⟨acc, some n, this, Or.inr ⟨n, rfl, rfl, rfl, rfl⟩⟩
      go_wp2_with fail
      refine retA (ts := []) (c := 70) (a := n) ?_ rfl rfl HL.out (World.ownsRow_nil _ _ _ _) ?_
      · rw [set_in (set_in hH.out.res 0 _) 1 _]; rfl
      · exact set_bl (set_bl hH.out.bl (Nat.le_refl _) 0 _) (Nat.le_refl _) 1 _
    | true =>
      obtain ⟨hlx, hno⟩ := HP.out.go rfl
      have HX := mkHid hlx
      by_cases hlt : n < s.size
      · obtain ⟨g1, g2⟩ := hno hlt
        have hni : ¬ (s.size : Int) ≤ n := by omega
        have hk := fun w => rToken_ok s n w hlt (by omega) g1 g2
        by_cases hz : (cutQ ((lst s).drop n)).2.2.2 = 0
        · have HL : Hid (AllR (lst s) [] 70 n) := by
            have hc := cutQ_none hz
            have := hH.out.lx _ _ (HX.out _ _ (.bad n _ (fun h => by
              have h5 := congrArg List.length h
              rw [List.length_drop, lst_len] at h5
              simp at h5
              omega) hc))
            rw [List.append_nil] at this
            exact ⟨acc, some n, this, Or.inr ⟨n, rfl, rfl, rfl, rfl⟩⟩
          have hk : ∀ w, Calls Tryz.prog 58 #[.string s, .int .i64 n] w fun e w' => e = .returned (.tuple #[.agg #[.int .i64 0, .string ⟨#[]⟩, .int .i64 0, .int .i64 0], .int .i64 n]) ∧ Bl w w' := by
            intro w
            have := hk w
            unfold tokR at this
            rw [if_pos hz] at this
            exact this
          clear hlx hno hz g1 g2
          go_wp2_with (go_at_call 58; refine (hk _).mono ?_; rintro e w3 ⟨rfl, b3⟩; have hA3 := mkHid (hH.out.keep b3); have hA4 := mkHid (hA3.out.keep (Bl.alloc _ (.cells #[.int .i64 0, .string ⟨#[]⟩, .int .i64 0, .int .i64 0] 28))); obtain ⟨e0, e1, f0, f1⟩ := res2 hA4.out.res)
          refine retA (ts := []) (c := 70) (a := n) ?_ rfl rfl HL.out (World.ownsRow_nil _ _ _ _) ?_
          · rw [set_in (set_in hA4.out.res 0 _) 1 _]; rfl
          · exact set_bl (set_bl hA4.out.bl (Nat.le_refl _) 0 _) (Nat.le_refl _) 1 _
        · obtain ⟨t, m, hc, hq, hm1, hm2⟩ := cutQ_tok g1 g2 hz
          rw [List.length_drop, lst_len] at hm2
          have HN : Hid (∀ ts e, Lx (n + m) ((lst s).drop (n + m)) ts e → Lx 0 (lst s) ((acc ++ [(t, n)]) ++ ts) e) := mkHid fun ts e h => by
            rw [List.append_assoc]
            exact hH.out.lx _ _ (HX.out _ _ (.tok n _ t m ts e hc (by rw [List.drop_drop]; exact h)))
          have hk : ∀ w, Calls Tryz.prog 58 #[.string s, .int .i64 n] w fun e w' => e = .returned (.tuple #[.agg #[.int .i64 t.kind, .string (ba t.text), .int .i64 t.num, .int .i64 n], .int .i64 ((n + m : Nat) : Int)]) ∧ Bl w w' := by
            intro w
            have := hk w
            unfold tokR at this
            rw [if_neg hz, hq] at this
            exact this
          have HZ : Hid (t.kind ≠ 0) := mkHid (cut_kind hc)
          have hki : ¬ (t.kind : Int) = 0 := by have := HZ.out; omega
          clear hlx hno hz g1 g2 hc hq
          have hm3 : n + m ≤ s.size := by omega
          go_wp2_with (first
            | (go_at_call 58; refine (hk _).mono ?_; rintro e w3 ⟨rfl, b3⟩; have hA3 := mkHid (hH.out.keep b3); have hA4 := mkHid (hA3.out.keep (Bl.alloc _ (.cells #[.int .i64 t.kind, .string (ba t.text), .int .i64 t.num, .int .i64 n] 28))); have hown5 := hA4.out.own)
            | (at_builtin; refine wpList_append_lies _ rfl (.tmp 42) (.tmp 44) 22 rfl (w.heap.size + 1) 28 i0 (.agg #[.int .i64 0, .string ⟨#[]⟩, .int .i64 0, .int .i64 0]) 4 40 Tryz.underlying22 hi hz0 hz1 hz2 rfl (by decide) _ _ _ rfl (hown5.alloc _) ⟨w3.heap.size + 1, 0, none⟩ 1 1 [.int .i64 t.kind, .string (ba t.text), .int .i64 t.num, .int .i64 n] rfl rfl ?c1 ?c2 (by omega) ?c3 ?c4 ?c5 (w3.heap.size + 2) (by simp) ?_))
          case c1 =>
            have h9 := heap_alloc_new (w3.alloc (.cells #[.int .i64 t.kind, .string (ba t.text), .int .i64 t.num, .int .i64 n] 28)) (.cells #[.int .i64 t.kind, .string (ba t.text), .int .i64 t.num, .int .i64 n] 28)
            have e9 : (w3.alloc (.cells #[.int .i64 t.kind, .string (ba t.text), .int .i64 t.num, .int .i64 n] 28)).heap.size = w3.heap.size + 1 := by simp
            rw [e9] at h9
            exact World.news_of_block h9
          case c2 => intro u hu; simp at hu; rcases hu with rfl | rfl | rfl | rfl <;> rfl
          case c3 => unfold maxLen; omega
          case c4 => omega
          case c5 => have h1 := lt_of_heap hA3.out.res; simp at h1 ⊢; omega
          intro g3 cap w5 hown' hgrow hat hlt5
          have HT5 := mkHid (AL.append (x := (t, n)) (a' := n + m) (hA4.out.keep (Bl.alloc _ _)) hgrow hown' HN.out hm3 (Or.inl (by omega)))
          clear hown' hgrow hown5 hat
          go_wp2_with fail
          go_roundw
          case rel => exact ⟨acc ++ [(t, n)], n + m, by simp, HT5.out⟩
          case measure => simp [intOf]; omega
      · have hne : n = s.size := by omega
        subst hne
        have hown0 := hH.out.own
        have HLR : Hid (AllR (lst s) (acc ++ [(stopT, s.size)]) 0 0) := by
          have h1 := hH.out.lx [] none (HX.out _ _ (by rw [List.drop_eq_nil_of_le (by rw [lst_len]; exact Nat.le_refl _)]; exact .stop _))
          rw [List.append_nil] at h1
          exact ⟨acc, none, h1, Or.inl ⟨rfl, by rw [lst_len], rfl, rfl⟩⟩
        clear hlx hno
        go_wp2_with (first
          | (at_builtin; refine wpList_append_lies _ rfl (.tmp 24) (.tmp 28) 22 rfl (w.heap.size + 1) 28 i0 (.agg #[.int .i64 0, .string ⟨#[]⟩, .int .i64 0, .int .i64 0]) 4 40 Tryz.underlying22 hi hz0 hz1 hz2 rfl (by decide) _ _ _ rfl (hown0.alloc _) ⟨wr.heap.size, 0, none⟩ 1 1 [.int .i64 18, .string ⟨#[]⟩, .int .i64 0, .int .i64 s.size] rfl rfl ?c1 ?c2 (by omega) ?c3 ?c4 ?c5 (wr.heap.size + 1) (by simp) ?_))
        case c1 => exact World.news_of_block (heap_alloc_new wr _)
        case c2 => intro u hu; simp at hu; rcases hu with rfl | rfl | rfl | rfl <;> rfl
        case c3 => unfold maxLen; omega
        case c4 => omega
        case c5 => have h1 := lt_of_heap hH.out.res; simp at h1 ⊢; omega
        intro g3 cap w5 hown' hgrow hat hlt5
        obtain ⟨E1, E2, E3⟩ := AE (x := (stopT, s.size)) (hH.out.keep (Bl.alloc _ _)) hgrow hown'
        have E1 := mkHid E1
        have E2 := mkHid E2
        have E3 := mkHid E3
        clear hown' hgrow hown0 hat
        obtain ⟨e0, e1, f0, f1⟩ := res2 E1.out
        go_wp2_with fail
        refine retA (ts := acc ++ [(stopT, s.size)]) (c := 0) (a := 0) ?_ rfl rfl HLR.out ?_ ?_
        · rw [set_in (set_in E1.out 0 _) 1 _]
          rfl
        · refine ownR_congr E2.out (fun g hg => ?_) (by omega)
          have h1 := own_block E2.out hg
          rw [Below.heap_setCell _ _ _ _ (by show g ≠ w.heap.size; omega), Below.heap_setCell _ _ _ _ (by show g ≠ w.heap.size; omega)]
        · exact set_bl (set_bl E3.out (Nat.le_refl _) 0 _) (Nat.le_refl _) 1 _
end Go.Proofs.YtimlomobbnnehaaGreatDoor

namespace Go.Proofs.YtimlomobbnnehaaGreatDoor
open Go Go.Shelf
set_option linter.unusedVariables false
def Tryz.laysM243_ren : Go.Shelf.Ren := ⟨fun | 243 => 55 | 246 => 62 | 283 => 81 | 284 => 82 | 285 => 83 | 286 => 84 | 129 => 93 | 317 => 92 | 318 => 94 | 319 => 95 | 320 => 96 | 337 => 101 | 338 => 102 | n => n, fun | 3 => 3 | 9 => 9 | 2 => 2 | 4 => 4 | 171 => 95 | 0 => 0 | 53 => 96 | 37 => 45 | 5 => 5 | 173 => 99 | 212 => 102 | 51 => 103 | 20 => 20 | 213 => 104 | 46 => 106 | 232 => 116 | 233 => 117 | n => n, fun | 17 => 1 | 18 => 5 | 19 => 6 | n => n⟩
theorem Tryz.laysM243 : Go.Proofs.LaysM.n243 Tryz.prog Tryz.laysM243_ren := {
  mixed := by kernel_rfl
  f129 := Tryz.func93.trans (congrArg some (by kernel_rfl))
  f243 := Tryz.func55.trans (congrArg some (by kernel_rfl))
  f246 := Tryz.func62.trans (congrArg some (by kernel_rfl))
  f283 := Tryz.func81.trans (congrArg some (by kernel_rfl))
  f284 := Tryz.func82.trans (congrArg some (by kernel_rfl))
  f285 := Tryz.func83.trans (congrArg some (by kernel_rfl))
  f286 := Tryz.func84.trans (congrArg some (by kernel_rfl))
  f317 := Tryz.func92.trans (congrArg some (by kernel_rfl))
  f318 := Tryz.func94.trans (congrArg some (by kernel_rfl))
  f319 := Tryz.func95.trans (congrArg some (by kernel_rfl))
  f320 := Tryz.func96.trans (congrArg some (by kernel_rfl))
  f337 := Tryz.func101.trans (congrArg some (by kernel_rfl))
  f338 := Tryz.func102.trans (congrArg some (by kernel_rfl))
  t0 := Tryz.underlying0
  a0 := Tryz.isAgg0
  z0 := Tryz.sizeOf0
  v0 := Tryz.zeroValue0
  t2 := Tryz.underlying2
  a2 := Tryz.isAgg2
  z2 := Tryz.sizeOf2
  v2 := Tryz.zeroValue2
  t3 := Tryz.underlying3
  a3 := Tryz.isAgg3
  z3 := Tryz.sizeOf3
  v3 := Tryz.zeroValue3
  t4 := Tryz.underlying4
  a4 := Tryz.isAgg4
  z4 := Tryz.sizeOf4
  v4 := Tryz.zeroValue4
  t5 := Tryz.underlying5
  a5 := Tryz.isAgg5
  z5 := Tryz.sizeOf5
  v5 := Tryz.zeroValue5
  t9 := Tryz.underlying9
  a9 := Tryz.isAgg9
  z9 := Tryz.sizeOf9
  v9 := Tryz.zeroValue9
  t20 := Tryz.underlying20
  a20 := Tryz.isAgg20
  z20 := Tryz.sizeOf20
  v20 := Tryz.zeroValue20
  t37 := Tryz.underlying45
  a37 := Tryz.isAgg45
  z37 := Tryz.sizeOf45
  v37 := Tryz.zeroValue45
  t46 := Tryz.underlying106
  a46 := Tryz.isAgg106
  z46 := Tryz.sizeOf106
  v46 := Tryz.zeroValue106
  t51 := Tryz.underlying103
  a51 := Tryz.isAgg103
  z51 := Tryz.sizeOf103
  v51 := Tryz.zeroValue103
  t53 := Tryz.underlying96
  a53 := Tryz.isAgg96
  z53 := Tryz.sizeOf96
  v53 := Tryz.zeroValue96
  t171 := Tryz.underlying95
  a171 := Tryz.isAgg95
  z171 := Tryz.sizeOf95
  v171 := Tryz.zeroValue95
  t173 := Tryz.underlying99
  a173 := Tryz.isAgg99
  z173 := Tryz.sizeOf99
  v173 := Tryz.zeroValue99
  t212 := Tryz.underlying102
  a212 := Tryz.isAgg102
  z212 := Tryz.sizeOf102
  v212 := Tryz.zeroValue102
  t213 := Tryz.underlying104
  a213 := Tryz.isAgg104
  z213 := Tryz.sizeOf104
  t232 := Tryz.underlying116
  a232 := Tryz.isAgg116
  z232 := Tryz.sizeOf116
  v232 := Tryz.zeroValue116
  t233 := Tryz.underlying117
  a233 := Tryz.isAgg117
  z233 := Tryz.sizeOf117
  v233 := Tryz.zeroValue117
  g17 := by kernel_rfl
  g18 := by kernel_rfl
  g19 := by kernel_rfl
  i0 := by kernel_rfl
  i2 := by kernel_rfl
  i3 := by kernel_rfl
  i4 := by kernel_rfl
  i5 := by kernel_rfl
  i9 := by kernel_rfl
  i20 := by kernel_rfl
  i37 := by kernel_rfl
  i46 := by kernel_rfl
  i51 := by kernel_rfl
  i53 := by kernel_rfl
  i171 := by kernel_rfl
  i173 := by kernel_rfl
  i212 := by kernel_rfl
  i232 := by kernel_rfl
  i233 := by kernel_rfl
  m17 := by kernel_rfl
  m18 := by kernel_rfl
  m19 := by kernel_rfl }
open Go.RowKit Go.Sort Go.Lib in
theorem Tryz.internal_strconv_Itoa (n : Int) (h0 : -9223372036854775808 ≤ n) (h1 : n ≤ 9223372036854775807) (w : World) (htab : Lib.TabIs Tryz.prog w "internal/strconv.uint64pow10" .u64 Lib.pow10Tab) :
    Calls Tryz.prog 55 #[.int .i64 n] w fun e w' => e = .returned (.string ⟨(Lib.itoa n).toArray⟩) ∧ ∃ k os, w' = grow (w.drewN k) os := Any.internal_strconv_Itoa Tryz.laysM243 n h0 h1 w htab
end Go.Proofs.YtimlomobbnnehaaGreatDoor

namespace Go.Proofs.YtimlomobbnnehaaGreatDoor
open Go.RowKit Go.Maps
set_option linter.unusedVariables false
set_option linter.unusedSimpArgs false
theorem cut_of_Q {l : Bs} {t : Tok} {n : Nat} (hn : n ≠ 0) (hk : t.kind ≠ 0) (h : cutQ l = (t.kind, t.text, t.num, n)) : cut l = some (some t, n) := by
  rcases cutQ_some (l := l) (by rw [h]; exact hn) with ⟨m, h1, h2⟩ | ⟨t', m, h1, h2⟩
  · rw [h] at h2
    simp at h2
    exact absurd h2.1 hk
  · rw [h] at h2
    simp at h2
    obtain ⟨a, b, c, d⟩ := h2
    rw [h1]
    obtain ⟨k, x, y⟩ := t
    obtain ⟨k', x', y'⟩ := t'
    simp at a b c d
    subst a b c d
    rfl
theorem colonAt_nil : colonAt [] = false := rfl
theorem kwLen_name {l : Bs} (h : nameLen l = l.length) : kwLen l = 0 := by
  unfold kwLen
  rw [if_neg]
  rintro ⟨_, h2⟩
  rw [h, List.drop_length, colonAt_nil] at h2
  cases h2
theorem kwsLen_zero {l : Bs} (h : kwLen l = 0) : kwsLen l = 0 := by rw [kwsLen_step, if_pos h]
theorem one_tok {l : Bs} {t : Tok} (hl : l.length ≠ 0) (hc : cut l = some (some t, l.length)) : Lx 0 l [(t, 0)] none := by
  refine .tok 0 l t l.length [] none hc ?_
  rw [List.drop_length]
  exact .stop _
theorem sym_tok {l : Bs} (hl : l.length ≠ 0) (h : symLen l = l.length) : Lx 0 (35 :: l) [(⟨5, l, 0⟩, 0)] none := by
  refine one_tok (by simp) (cut_of_Q (by simp) (by simp) ?_)
  rw [cutQ_hash rfl]
  have e : (35 :: l : Bs).drop 1 = l := rfl
  rw [e, if_neg (by omega), h, List.take_length, List.length_cons]
/-- a name -/
theorem name_is {l : Bs} (h : nameB l = true) : Lx 0 l [(⟨1, l, 0⟩, 0)] none ∧ symLen l = l.length ∧ l.length ≠ 0 := by
  obtain ⟨h1, h2⟩ := of_decide_eq_true h
  have h0 : l.length ≠ 0 := fun e => h1 (List.length_eq_zero_iff.1 e)
  have hL : isL (hd l) = true := by
    unfold nameLen at h2
    split at h2
    · assumption
    · omega
  have hk := kwLen_name h2
  refine ⟨one_tok h0 (cut_of_Q h0 (by simp) ?_), ?_, h0⟩
  · rw [cutQ_word hL, if_pos hk, h2, List.take_length]
  · unfold symLen
    rw [if_pos (kwsLen_zero hk), h2]
    have := opLen_le l
    omega
/-- an operator -/
theorem op_is {l : Bs} (h : opB l = true) : Lx 0 l [(⟨3, l, 0⟩, 0)] none ∧ symLen l = l.length ∧ l.length ≠ 0 := by
  obtain ⟨h1, h2⟩ := of_decide_eq_true h
  have h0 : l.length ≠ 0 := fun e => h1 (List.length_eq_zero_iff.1 e)
  have hO : isO (hd l) = true := by
    unfold opLen at h2
    split at h2
    · assumption
    · omega
  have hN : nameLen l = 0 := by
    unfold nameLen
    rw [if_neg]
    intro hl
    rw [isL_iff] at hl
    rw [isO_iff] at hO
    omega
  have hk : kwLen l = 0 := by unfold kwLen; rw [if_neg]; rintro ⟨h3, _⟩; exact h3 hN
  refine ⟨one_tok h0 (cut_of_Q h0 (by simp) ?_), ?_, h0⟩
  · rw [cutQ_op hO, h2, List.take_length]
  · unfold symLen
    rw [if_pos (kwsLen_zero hk), hN, h2]
    omega
/-- keywords, joined -/
theorem kws_is : ∀ (f : Nat) (l : Bs) (k p : Nat), l.length ≤ f → kwsN l = some k → ∃ us, Lx p l us none ∧ us.length = k ∧ (∀ x ∈ us, x.1.kind = 2) ∧ us.flatMap (fun x => x.1.text ++ [58]) = l ∧ kwsLen l = l.length := by
  intro f
  induction f with
  | zero =>
    intro l k p hf h
    have : l = [] := List.length_eq_zero_iff.1 (by omega)
    subst this
    have : k = 0 := by
      have e : kwsN [] = some 0 := rfl
      rw [e] at h; cases h; rfl
    subst this
    exact ⟨[], .stop p, rfl, fun x hx => (by simp at hx), rfl, rfl⟩
  | succ f ih =>
    intro l k p hf h
    rw [kwsN_step] at h
    by_cases hl : l = []
    · rw [if_pos hl] at h
      cases h
      subst hl
      exact ⟨[], .stop p, rfl, fun x hx => (by simp at hx), rfl, rfl⟩
    · rw [if_neg hl] at h
      by_cases hk : kwLen l = 0 ∨ isS (hd l) = false
      · rw [if_pos hk] at h; cases h
      · rw [if_neg hk] at h
        obtain ⟨j, hj, rfl⟩ := Option.map_eq_some_iff.1 h
        have hk0 : kwLen l ≠ 0 := fun e => hk (Or.inl e)
        have hle := kwLen_le l
        obtain ⟨us, h1, h2, h3, h4, h5⟩ := ih (l.drop (kwLen l)) j (p + kwLen l) (by simp; omega) hj
        have hkd : kwLen l = nameLen l + 1 ∧ colonAt (l.drop (nameLen l)) = true := by
          unfold kwLen at hk0 ⊢
          split at hk0
          · rename_i h6; rw [if_pos h6]; exact ⟨rfl, h6.2⟩
          · omega
        have hS : isS (hd l) = true := by
          by_cases hs : isS (hd l) = true
          · exact hs
          · exact absurd (Or.inr (by simpa using hs)) hk
        have hL : isL (hd l) = true := by rw [isL_iff]; rw [isS_iff] at hS; omega
        have hcut : cut l = some (some ⟨2, l.take (nameLen l), 0⟩, kwLen l) := cut_of_Q hk0 (by simp) (by rw [cutQ_word hL, if_neg hk0])
        have h58 := (of_decide_eq_true (show decide (hd (l.drop (nameLen l)) = 58 ∧ _) = true from hkd.2)).1
        have hnl : nameLen l < l.length := by omega
        refine ⟨(⟨2, l.take (nameLen l), 0⟩, p) :: us, .tok _ _ _ _ _ _ hcut h1, by simp [h2], fun x hx => ?_, ?_, ?_⟩
        · rcases List.mem_cons.1 hx with rfl | hx
          · rfl
          · exact h3 x hx
        · rw [List.flatMap_cons, h4]
          have e1 : l.take (nameLen l) ++ [58] = l.take (kwLen l) := by
            rw [hkd.1, List.take_succ_eq_append_getElem hnl]
            congr 2
            rw [hd_drop hnl] at h58
            exact (UInt8.toNat_inj.1 h58).symm
          rw [e1, List.take_append_drop]
        · rw [kwsLen_step, if_neg hk0, h5, List.length_drop]
          omega
end Go.Proofs.YtimlomobbnnehaaGreatDoor

namespace Go.Proofs.YtimlomobbnnehaaGreatDoor
open Go.RowKit Go.Maps
set_option linter.unusedVariables false
set_option linter.unusedSimpArgs false
/-! what Print writes, and that it is cut into the same tokens -/
def qt (l : Bs) : Bs := l.flatMap fun c => if c.toNat = 39 then [c, c] else [c]
theorem qt_cons (c : UInt8) (l : Bs) : qt (c :: l) = (if c.toNat = 39 then [c, c] else [c]) ++ qt l := by simp [qt]
theorem txt_qt : ∀ t : Bs, txt (qt t ++ [39]) = some (t, (qt t).length + 1) := by
  intro t
  induction t with
  | nil => rfl
  | cons c r ih =>
    rw [qt_cons]
    by_cases hc : c.toNat = 39
    · rw [if_pos hc]
      show txt (c :: c :: (qt r ++ [39])) = _
      unfold txt
      rw [if_pos hc, if_pos hc, ih]
      simp
    · rw [if_neg hc]
      show txt (c :: (qt r ++ [39])) = _
      obtain ⟨d, r', e⟩ : ∃ d r', qt r ++ [39] = d :: r' := by
        cases h : qt r with
        | nil => exact ⟨39, [], rfl⟩
        | cons a b => exact ⟨a, b ++ [39], rfl⟩
      rw [e]
      unfold txt
      rw [if_neg hc, ← e, ih]
      simp
def markT (k : Nat) : Bs := if k = 7 then [35, 40] else if k = 14 then [58, 61] else if k = 8 then [40] else if k = 9 then [41] else if k = 10 then [91] else if k = 11 then [93] else if k = 12 then [124] else if k = 13 then [58] else if k = 15 then [94] else if k = 16 then [46] else if k = 17 then [59] else []
def wr (t : Tok) : Bs :=
  if t.kind = 1 ∨ t.kind = 3 then t.text else if t.kind = 2 then t.text ++ [58] else if t.kind = 4 then Lib.decDigits t.num else if t.kind = 5 then 35 :: t.text else if t.kind = 6 then 39 :: (qt t.text ++ [39]) else markT t.kind
def canB (t : Tok) : Prop := (t.kind ≠ 4 → t.num = 0) ∧ ((t.kind = 1 ∨ t.kind = 2) ∧ nameB t.text = true ∨ t.kind = 3 ∧ opB t.text = true ∨ t.kind = 4 ∧ t.text = [] ∧ t.num ≤ 1073741824 ∨ t.kind = 5 ∧ symB t.text = true ∨ t.kind = 6 ∨ 7 ≤ t.kind ∧ t.kind ≤ 17 ∧ t.text = [])
theorem ofDig {k : Nat} (h : k < 10) : (UInt8.ofNat (48 + k)).toNat = 48 + k := by
  rw [UInt8.toNat_ofNat']
  omega
theorem dec_dig (n : Nat) : ∀ c ∈ Lib.decDigits n, dN c = true := by
  induction n using Nat.strongRecOn with
  | _ n ih =>
    intro c hc
    rw [Lib.decDigits] at hc
    have key : ∀ k, k < 10 → dN (UInt8.ofNat (48 + k)) = true := fun k hk => by
      unfold dN
      rw [ofDig hk, isD_iff]
      omega
    split at hc
    · rename_i h
      rw [List.mem_singleton.1 hc]
      exact key n h
    · rename_i h
      rcases List.mem_append.1 hc with h1 | h1
      · exact ih (n / 10) (by omega) c h1
      · rw [List.mem_singleton.1 h1]
        exact key _ (Nat.mod_lt _ (by omega))
theorem numOf_app (l : Bs) (c : UInt8) : numOf (l ++ [c]) = 10 * numOf l + (c.toNat - 48) := by
  unfold numOf
  rw [List.foldl_append]
  rfl
theorem dec_num (n : Nat) : numOf (Lib.decDigits n) = n := by
  induction n using Nat.strongRecOn with
  | _ n ih =>
    rw [Lib.decDigits]
    split
    · rename_i h
      show 10 * 0 + ((UInt8.ofNat (48 + n)).toNat - 48) = n
      rw [ofDig h]
      omega
    · rename_i h
      rw [numOf_app, ih (n / 10) (by omega), ofDig (Nat.mod_lt _ (by omega))]
      omega
theorem tw_all (p : UInt8 → Bool) : ∀ l : Bs, (∀ c ∈ l, p c = true) → l.takeWhile p = l := by
  intro l
  induction l with
  | nil => intro _; rfl
  | cons c r ih =>
    intro h
    rw [List.takeWhile_cons, if_pos (h c (by simp)), ih (fun x hx => h x (by simp [hx]))]
theorem dec_pos (n : Nat) : Lib.decDigits n ≠ [] := by
  rw [Lib.decDigits]
  split <;> simp
theorem hd_mem {l : Bs} (h : l ≠ []) : ∃ c ∈ l, hd l = c.toNat := by
  cases l with
  | nil => exact absurd rfl h
  | cons c r => exact ⟨c, by simp, rfl⟩
/-- a token's own text is cut into it -/
theorem wr_cut {t : Tok} (h : canB t) : cut (wr t) = some (some t, (wr t).length) := by
  obtain ⟨k, x, m⟩ := t
  obtain ⟨h0, h⟩ := h
  simp only at h0 h
  rcases h with ⟨h1 | h1, h2⟩ | ⟨h1, h2⟩ | ⟨h1, h2, h3⟩ | ⟨h1, h2⟩ | h1 | ⟨h1, h2, h3⟩
  · subst h1
    obtain rfl := h0 (by omega)
    show cut x = some (some ⟨1, x, 0⟩, x.length)
    obtain ⟨e1, e2⟩ := of_decide_eq_true h2
    have e0 : x.length ≠ 0 := fun e => e1 (List.length_eq_zero_iff.1 e)
    have hL : isL (hd x) = true := by
      unfold nameLen at e2
      split at e2
      · assumption
      · omega
    exact cut_of_Q e0 (by simp) (by rw [cutQ_word hL, if_pos (kwLen_name e2), e2, List.take_length])
  · subst h1
    obtain rfl := h0 (by omega)
    show cut (x ++ [58]) = some (some ⟨2, x, 0⟩, (x ++ [58]).length)
    obtain ⟨e1, e2⟩ := of_decide_eq_true h2
    have e0 : x.length ≠ 0 := fun e => e1 (List.length_eq_zero_iff.1 e)
    have hL : isL (hd x) = true := by
      unfold nameLen at e2
      split at e2
      · assumption
      · omega
    have hL2 : isL (hd (x ++ [58])) = true := by rw [hd_app _ e1]; exact hL
    have hn : nameLen (x ++ [58]) = x.length := by
      unfold nameLen at e2 ⊢
      rw [if_pos hL] at e2
      rw [if_pos hL2]
      have e3 : x.takeWhile wN = x := (List.takeWhile_prefix wN).eq_of_length e2
      refine tw_eq wN _ x.length (by simp) (fun j hj hjk => ?_) (fun h => ?_)
      · rw [List.getElem_append_left hjk]
        obtain ⟨c, ec, hc⟩ := tw_hd wN x j (by rw [e3]; exact hjk)
        rw [hd_drop hjk] at ec
        rw [UInt8.toNat_inj.1 ec]
        exact hc
      · rw [List.getElem_append_right (Nat.le_refl _)]
        simp
        rfl
    have hk : kwLen (x ++ [58]) = x.length + 1 := by
      unfold kwLen
      rw [hn, if_pos ⟨e0, by simp [colonAt, hd]⟩]
    refine cut_of_Q (by simp) (by simp) ?_
    rw [cutQ_word hL2, if_neg (by omega), hn, hk]
    simp
  · subst h1
    obtain rfl := h0 (by omega)
    show cut x = some (some ⟨3, x, 0⟩, x.length)
    obtain ⟨e1, e2⟩ := of_decide_eq_true h2
    have e0 : x.length ≠ 0 := fun e => e1 (List.length_eq_zero_iff.1 e)
    have hO : isO (hd x) = true := by
      unfold opLen at e2
      split at e2
      · assumption
      · omega
    exact cut_of_Q e0 (by simp) (by rw [cutQ_op hO, e2, List.take_length])
  · subst h1 h2
    show cut (Lib.decDigits m) = some (some ⟨4, [], m⟩, (Lib.decDigits m).length)
    obtain ⟨c, hc, e⟩ := hd_mem (dec_pos m)
    have hD : isD (hd (Lib.decDigits m)) = true := by rw [e]; exact dec_dig m c hc
    have e0 : (Lib.decDigits m).length ≠ 0 := fun e => dec_pos m (List.length_eq_zero_iff.1 e)
    have hl : digLen (Lib.decDigits m) = (Lib.decDigits m).length := by unfold digLen; rw [tw_all dN _ (dec_dig m)]
    refine cut_of_Q e0 (by simp) ?_
    rw [cutQ_int hD, hl, List.take_length, dec_num, if_pos h3]
  · subst h1
    obtain rfl := h0 (by omega)
    show cut (35 :: x) = some (some ⟨5, x, 0⟩, (35 :: x).length)
    obtain ⟨e1, e2⟩ := of_decide_eq_true h2
    have e0 : x.length ≠ 0 := fun e => e1 (List.length_eq_zero_iff.1 e)
    refine cut_of_Q (by simp) (by simp) ?_
    rw [cutQ_hash rfl]
    have e : (35 :: x : Bs).drop 1 = x := rfl
    rw [e, if_neg (by omega), e2, List.take_length, List.length_cons]
  · subst h1
    obtain rfl := h0 (by omega)
    show cut (39 :: (qt x ++ [39])) = some (some ⟨6, x, 0⟩, (39 :: (qt x ++ [39])).length)
    refine cut_of_Q (by simp) (by simp) ?_
    rw [cutQ_text rfl]
    have e : (39 :: (qt x ++ [39]) : Bs).drop 1 = qt x ++ [39] := rfl
    rw [e, txt_qt]
    simp
  · subst h3
    obtain rfl := h0 (by omega)
    have : k = 7 ∨ k = 8 ∨ k = 9 ∨ k = 10 ∨ k = 11 ∨ k = 12 ∨ k = 13 ∨ k = 14 ∨ k = 15 ∨ k = 16 ∨ k = 17 := by omega
    rcases this with rfl | rfl | rfl | rfl | rfl | rfl | rfl | rfl | rfl | rfl | rfl <;> rfl
theorem nameLen_take (l : Bs) : nameLen (l.take (nameLen l)) = nameLen l := by
  by_cases hz : nameLen l = 0
  · rw [hz]
    rfl
  · have hle := nameLen_le l
    have hL : isL (hd l) = true := by
      by_cases h : isL (hd l) = true
      · exact h
      · unfold nameLen at hz; rw [if_neg h] at hz; exact absurd rfl hz
    have hlen : (l.take (nameLen l)).length = nameLen l := by rw [List.length_take]; omega
    have hh : hd (l.take (nameLen l)) = hd l := by
      cases l with
      | nil => simp at hle; omega
      | cons c r =>
        obtain ⟨m, hm⟩ : ∃ m, nameLen (c :: r) = m + 1 := ⟨nameLen (c :: r) - 1, by omega⟩
        rw [hm]
        rfl
    have hU : ∀ m : Bs, isL (hd m) = true → nameLen m = (m.takeWhile wN).length := fun m hm => by unfold nameLen; rw [if_pos hm]
    rw [hU (l.take (nameLen l)) (by rw [hh]; exact hL)]
    refine tw_eq wN _ _ (by omega) (fun j hj hjk => ?_) (fun h => by omega)
    rw [List.getElem_take]
    have hj2 : j < l.length := by omega
    obtain ⟨c, ec, hc⟩ := tw_hd wN l j (by unfold nameLen at hjk; rw [if_pos hL] at hjk; exact hjk)
    rw [hd_drop hj2] at ec
    rw [UInt8.toNat_inj.1 ec]
    exact hc
/-- the text of tokens (the stop is not among them) -/
def pr : List Tok → Bs
  | [] => []
  | [t] => wr t
  | t :: u :: r => wr t ++ 32 :: pr (u :: r)
theorem wr_lx {t : Tok} (h : canB t) (p : Nat) : Lx p (wr t) [(t, p)] none := by
  refine .tok p _ t _ [] none (wr_cut h) ?_
  rw [List.drop_length]
  exact .stop _
theorem pr_lx : ∀ (ts : List Tok) (p : Nat), (∀ t ∈ ts, canB t) → ∃ us, Lx p (pr ts) us none ∧ us.map (·.1) = ts := by
  intro ts
  induction ts with
  | nil => intro p _; exact ⟨[], .stop p, rfl⟩
  | cons t r ih =>
    intro p h
    cases r with
    | nil => exact ⟨[(t, p)], wr_lx (h t (by simp)) p, rfl⟩
    | cons u r =>
      obtain ⟨us, h1, h2⟩ := ih (p + (wr t).length + 1) (fun x hx => h x (by simp at hx ⊢; exact Or.inr hx))
      exact ⟨(t, p) :: us, Lx.join (Or.inr (Or.inl rfl)) (wr_lx (h t (by simp)) p) rfl (Lx.blank h1), by simp [h2]⟩
/-- what is cut can be -/
theorem cut_can {l : Bs} {t : Tok} {n : Nat} (h : cut l = some (some t, n)) : canB t := by
  have hn := cut_n h
  obtain ⟨A, hA, hl⟩ : ∃ A : Bs, cut A = some (some t, n) ∧ A.length = n := by
    refine ⟨l.take n, ?_, by simp; omega⟩
    have := cut_ext (A := l.take n) (B := l.drop n) (R := []) (Or.inl rfl) (nn_of hn.1 hn.2 (cut_nn h)) (by rw [List.take_append_drop]; exact h) (by simp; omega)
    rw [List.append_nil] at this
    exact this
  clear h hn
  subst hl
  unfold cut at hA
  split at hA
  · cases hA
  · rename_i c r
    split at hA
    · simp at hA
    split at hA
    · obtain ⟨y, hy, e⟩ := Option.map_eq_some_iff.1 hA
      simp at e
    split at hA
    · split at hA
      · have e := Option.some.inj hA
        have e1 := Option.some.inj (congrArg Prod.fst e)
        have e2 := congrArg Prod.snd e
        simp only at e1 e2
        subst e1
        refine ⟨fun _ => rfl, Or.inl ⟨Or.inr rfl, ?_⟩⟩
        have e4 : ((c :: r).take (nameLen (c :: r))).length = nameLen (c :: r) := by rw [List.length_take]; have := nameLen_le (c :: r); omega
        rename_i hl _
        have hp := nameLen_pos (l := c :: r) hl
        have e5 : ∀ X : Bs, X.length = nameLen (c :: r) → X ≠ [] := fun X h1 h2 => by rw [h2] at h1; simp at h1; omega
        exact decide_eq_true ⟨e5 _ e4, by rw [e4, nameLen_take]⟩
      · have e := Option.some.inj hA
        have e1 := Option.some.inj (congrArg Prod.fst e)
        have e2 := congrArg Prod.snd e
        simp only at e1 e2
        subst e1
        refine ⟨fun _ => rfl, Or.inl ⟨Or.inl rfl, ?_⟩⟩
        rw [e2, List.take_length]
        exact decide_eq_true ⟨by simp, e2⟩
    split at hA
    · split at hA
      · rename_i hm
        have e := Option.some.inj hA
        have e1 := Option.some.inj (congrArg Prod.fst e)
        subst e1
        exact ⟨fun h => absurd rfl h, Or.inr (Or.inr (Or.inl ⟨rfl, rfl, hm⟩))⟩
      · cases hA
    split at hA
    · split at hA
      · split at hA
        · have e := Option.some.inj hA
          have e1 : some (⟨7, [], 0⟩ : Tok) = some t := congrArg Prod.fst e
          rw [← Option.some.inj e1]
          exact ⟨fun _ => rfl, Or.inr (Or.inr (Or.inr (Or.inr (Or.inr ⟨by simp, by simp, rfl⟩))))⟩
        · cases hA
      · rename_i hs
        have e := Option.some.inj hA
        have e1 := Option.some.inj (congrArg Prod.fst e)
        have e2 := congrArg Prod.snd e
        simp only [List.length_cons] at e1 e2
        have e3 : symLen r = r.length := by omega
        subst e1
        rw [e3, List.take_length]
        refine ⟨fun _ => rfl, Or.inr (Or.inr (Or.inr (Or.inl ⟨rfl, decide_eq_true ⟨fun h => ?_, e3⟩⟩)))⟩
        have h' : r = [] := h
        rw [h'] at hs e3
        exact hs e3
    split at hA
    · have e := Option.some.inj hA
      have e1 := Option.some.inj (congrArg Prod.fst e)
      have e2 := congrArg Prod.snd e
      simp only at e1 e2
      subst e1
      rw [e2, List.take_length]
      exact ⟨fun _ => rfl, Or.inr (Or.inl ⟨rfl, decide_eq_true ⟨by simp, e2⟩⟩)⟩
    split at hA
    · obtain ⟨y, hy, e⟩ := Option.map_eq_some_iff.1 hA
      have e1 := Option.some.inj (congrArg Prod.fst e)
      subst e1
      exact ⟨fun _ => rfl, Or.inr (Or.inr (Or.inr (Or.inr (Or.inl rfl))))⟩
    split at hA
    · have e := Option.some.inj hA
      have e1 : some (⟨14, [], 0⟩ : Tok) = some t := congrArg Prod.fst e
      rw [← Option.some.inj e1]
      exact ⟨fun _ => rfl, Or.inr (Or.inr (Or.inr (Or.inr (Or.inr ⟨by simp, by simp, rfl⟩))))⟩
    split at hA
    · cases hA
    · rename_i hm
      have e := Option.some.inj hA
      have e1 : some (⟨markK c.toNat, [], 0⟩ : Tok) = some t := congrArg Prod.fst e
      rw [← Option.some.inj e1]
      have : markK c.toNat = 0 ∨ 7 ≤ markK c.toNat ∧ markK c.toNat ≤ 17 := by
        unfold markK
        repeat' split
        all_goals omega
      exact ⟨fun _ => rfl, Or.inr (Or.inr (Or.inr (Or.inr (Or.inr ⟨by simp; omega, by simp; omega, rfl⟩))))⟩
theorem Lx.can {p : Nat} {l : Bs} {ts : List (Tok × Nat)} {e : Option Nat} (h : Lx p l ts e) : ∀ x ∈ ts, canB x.1 := by
  induction h with
  | stop p => intro x hx; simp at hx
  | bad p l h1 h2 => intro x hx; simp at hx
  | pass p l n ts e h1 h2 ih => exact ih
  | tok p l t n ts e h1 h2 ih =>
    intro x hx
    rcases List.mem_cons.1 hx with rfl | hx
    · exact cut_can h1
    · exact ih x hx
end Go.Proofs.YtimlomobbnnehaaGreatDoor

namespace Go.Proofs.YtimlomobbnnehaaGreatDoor
open Go.RowKit Go.Maps
set_option linter.unusedVariables false
set_option linter.unusedSimpArgs false
theorem index_q (b : UInt8) (l : Bs) : Lib.index (b :: l) [39] = if b = 39 then 0 else if Lib.index l [39] == -1 then -1 else Lib.index l [39] + 1 := by
  conv => lhs; unfold Lib.index
  by_cases h : b = 39
  · subst h
    rfl
  · rw [if_neg h, if_neg (by simp [List.isPrefixOf]; exact fun e => h e.symm)]
theorem repl_qt : ∀ s : Bs, Lib.replaceK [39] [39, 39] (Lib.count s [39]) s = qt s := by
  intro s
  induction s with
  | nil => rfl
  | cons b l ih =>
    rw [qt_cons]
    have hx := index_q b l
    by_cases h : b = 39
    · subst h
      rw [if_pos rfl] at hx
      rw [Lib.count_hit (i := 0) (by simp) hx, Nat.add_comm, Lib.replaceK_hit _ _ _ _ 0 hx]
      show [39, 39] ++ Lib.replaceK [39] [39, 39] (Lib.count l [39]) l = _
      rw [ih]
      rfl
    · have h39 : ¬ b.toNat = 39 := fun e => h (UInt8.toNat_inj.1 e)
      rw [if_neg h] at hx
      rw [if_neg h39]
      by_cases hm : Lib.index l [39] = -1
      · rw [if_pos (by rw [hm]; rfl)] at hx
        rw [Lib.count_miss hx]
        rw [Lib.count_miss hm] at ih
        show b :: l = b :: qt l
        rw [← ih]
        rfl
      · rw [if_neg (by simpa using hm)] at hx
        obtain ⟨j, hj⟩ : ∃ j : Nat, Lib.index l [39] = j := ⟨(Lib.index l [39]).toNat, by have := Lib.index_ge l [39]; omega⟩
        have hx2 : Lib.index (b :: l) [39] = ((j + 1 : Nat) : Int) := by rw [hx, hj]; rfl
        rw [Lib.count_hit (by simp) hx2, Nat.add_comm, Lib.replaceK_hit _ _ _ _ (j + 1) hx2]
        rw [Lib.count_hit (by simp) hj, Nat.add_comm, Lib.replaceK_hit _ _ _ _ j hj] at ih
        show b :: (l.take j ++ [39, 39] ++ Lib.replaceK [39] [39, 39] (Lib.count (l.drop (j + 1)) [39]) (l.drop (j + 1))) = b :: qt l
        rw [← ih]
        rfl
theorem replaceAll_qt (s : Bs) : Lib.replaceAll s [39] [39, 39] = qt s := by
  unfold Lib.replaceAll Lib.replace Lib.replaceNum
  rw [if_neg (by decide), if_pos (Or.inl (by decide))]
  exact repl_qt s
theorem qt_len (s : Bs) : (qt s).length ≤ 2 * s.length := by
  induction s with
  | nil => simp [qt]
  | cons c r ih =>
    rw [qt_cons, List.length_append, List.length_cons]
    split <;> simp <;> omega
end Go.Proofs.YtimlomobbnnehaaGreatDoor

