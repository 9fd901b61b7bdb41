import Derived.Shelf.LaysM
import Derived.Shelf.Strconv.Itoa3
import Derived.Shelf.Strconv.AppendIntPublic10
import Derived.Test.YtclkoffnjiiioaaGreatDoorChecked
import Derived.Test.YtclkoffnjiiioaaGreatDoorTIAll
import Derived.Lib.AppendStr
import Derived.Lib.OthersKept
import Derived.Test.YtclkoffnjiiioaaGreatDoorTG00CTwin
import Derived.Deep.RegionHeld3
namespace Go.Proofs.YtclkoffnjiiioaaGreatDoor
open Go Go.Shelf
set_option linter.unusedVariables false
def Tryz.laysM171_ren : Go.Shelf.Ren := ⟨fun | 171 => 46 | 243 => 63 | 246 => 72 | 283 => 73 | 284 => 74 | 285 => 75 | 286 => 76 | 129 => 91 | 317 => 90 | 318 => 92 | 319 => 93 | 320 => 94 | 337 => 112 | 338 => 113 | n => n, fun | 3 => 3 | 9 => 9 | 2 => 2 | 4 => 4 | 171 => 135 | 0 => 0 | 53 => 121 | 37 => 57 | 5 => 5 | 173 => 138 | 212 => 153 | 51 => 154 | 20 => 20 | 213 => 155 | 46 => 156 | 232 => 178 | 233 => 179 | n => n, fun | 17 => 1 | 18 => 5 | 19 => 6 | n => n⟩
theorem Tryz.laysM171 : Go.Proofs.LaysM.n171 Tryz.prog Tryz.laysM171_ren := {
  mixed := by kernel_rfl
  f129 := Tryz.func91.trans (congrArg some (by kernel_rfl))
  f171 := Tryz.func46.trans (congrArg some (by kernel_rfl))
  f243 := Tryz.func63.trans (congrArg some (by kernel_rfl))
  f246 := Tryz.func72.trans (congrArg some (by kernel_rfl))
  f283 := Tryz.func73.trans (congrArg some (by kernel_rfl))
  f284 := Tryz.func74.trans (congrArg some (by kernel_rfl))
  f285 := Tryz.func75.trans (congrArg some (by kernel_rfl))
  f286 := Tryz.func76.trans (congrArg some (by kernel_rfl))
  f317 := Tryz.func90.trans (congrArg some (by kernel_rfl))
  f318 := Tryz.func92.trans (congrArg some (by kernel_rfl))
  f319 := Tryz.func93.trans (congrArg some (by kernel_rfl))
  f320 := Tryz.func94.trans (congrArg some (by kernel_rfl))
  f337 := Tryz.func112.trans (congrArg some (by kernel_rfl))
  f338 := Tryz.func113.trans (congrArg some (by kernel_rfl))
  t0 := Tryz.underlying0
  a0 := Tryz.isAgg0
  z0 := Tryz.sizeOf0
  v0 := Tryz.zeroValue0
  t2 := Tryz.underlying2
  a2 := Tryz.isAgg2
  z2 := Tryz.sizeOf2
  v2 := Tryz.zeroValue2
  t3 := Tryz.underlying3
  a3 := Tryz.isAgg3
  z3 := Tryz.sizeOf3
  v3 := Tryz.zeroValue3
  t4 := Tryz.underlying4
  a4 := Tryz.isAgg4
  z4 := Tryz.sizeOf4
  v4 := Tryz.zeroValue4
  t5 := Tryz.underlying5
  a5 := Tryz.isAgg5
  z5 := Tryz.sizeOf5
  v5 := Tryz.zeroValue5
  t9 := Tryz.underlying9
  a9 := Tryz.isAgg9
  z9 := Tryz.sizeOf9
  v9 := Tryz.zeroValue9
  t20 := Tryz.underlying20
  a20 := Tryz.isAgg20
  z20 := Tryz.sizeOf20
  v20 := Tryz.zeroValue20
  t37 := Tryz.underlying57
  a37 := Tryz.isAgg57
  z37 := Tryz.sizeOf57
  v37 := Tryz.zeroValue57
  t46 := Tryz.underlying156
  a46 := Tryz.isAgg156
  z46 := Tryz.sizeOf156
  v46 := Tryz.zeroValue156
  t51 := Tryz.underlying154
  a51 := Tryz.isAgg154
  z51 := Tryz.sizeOf154
  v51 := Tryz.zeroValue154
  t53 := Tryz.underlying121
  a53 := Tryz.isAgg121
  z53 := Tryz.sizeOf121
  v53 := Tryz.zeroValue121
  t171 := Tryz.underlying135
  a171 := Tryz.isAgg135
  z171 := Tryz.sizeOf135
  v171 := Tryz.zeroValue135
  t173 := Tryz.underlying138
  a173 := Tryz.isAgg138
  z173 := Tryz.sizeOf138
  v173 := Tryz.zeroValue138
  t212 := Tryz.underlying153
  a212 := Tryz.isAgg153
  z212 := Tryz.sizeOf153
  v212 := Tryz.zeroValue153
  t213 := Tryz.underlying155
  a213 := Tryz.isAgg155
  z213 := Tryz.sizeOf155
  t232 := Tryz.underlying178
  a232 := Tryz.isAgg178
  z232 := Tryz.sizeOf178
  v232 := Tryz.zeroValue178
  t233 := Tryz.underlying179
  a233 := Tryz.isAgg179
  z233 := Tryz.sizeOf179
  v233 := Tryz.zeroValue179
  g17 := by kernel_rfl
  g18 := by kernel_rfl
  g19 := by kernel_rfl
  i0 := by kernel_rfl
  i2 := by kernel_rfl
  i3 := by kernel_rfl
  i4 := by kernel_rfl
  i5 := by kernel_rfl
  i9 := by kernel_rfl
  i20 := by kernel_rfl
  i37 := by kernel_rfl
  i46 := by kernel_rfl
  i51 := by kernel_rfl
  i53 := by kernel_rfl
  i171 := by kernel_rfl
  i173 := by kernel_rfl
  i212 := by kernel_rfl
  i232 := by kernel_rfl
  i233 := by kernel_rfl
  m17 := by kernel_rfl
  m18 := by kernel_rfl
  m19 := by kernel_rfl }
open Go.RowKit Go.Sort Go.Lib in
theorem Tryz.strconv_Itoa (n : Int) (h0 : -9223372036854775808 ≤ n) (h1 : n ≤ 9223372036854775807) (w : World) (htab : Lib.TabIs Tryz.prog w "internal/strconv.uint64pow10" .u64 Lib.pow10Tab) :
    Calls Tryz.prog 46 #[.int .i64 n] w fun e w' => e = .returned (.string ⟨(Lib.itoa n).toArray⟩) ∧ ∃ k os, w' = grow (w.drewN k) os := Any.strconv_Itoa Tryz.laysM171 n h0 h1 w htab
def Tryz.laysM176_ren : Go.Shelf.Ren := ⟨fun | 176 => 33 | 249 => 50 | 288 => 64 | 283 => 73 | 284 => 74 | 285 => 75 | 286 => 76 | 129 => 91 | 317 => 90 | 318 => 92 | 319 => 93 | 320 => 94 | 337 => 112 | 338 => 113 | n => n, fun | 37 => 57 | 2 => 2 | 3 => 3 | 53 => 121 | 4 => 4 | 9 => 9 | 171 => 135 | 0 => 0 | 173 => 138 | 212 => 153 | 51 => 154 | 5 => 5 | 20 => 20 | 213 => 155 | 46 => 156 | 232 => 178 | 233 => 179 | n => n, fun | 17 => 1 | 18 => 5 | 19 => 6 | n => n⟩
theorem Tryz.laysM176 : Go.Proofs.LaysM.n176 Tryz.prog Tryz.laysM176_ren := {
  mixed := by kernel_rfl
  f129 := Tryz.func91.trans (congrArg some (by kernel_rfl))
  f176 := Tryz.func33.trans (congrArg some (by kernel_rfl))
  f249 := Tryz.func50.trans (congrArg some (by kernel_rfl))
  f283 := Tryz.func73.trans (congrArg some (by kernel_rfl))
  f284 := Tryz.func74.trans (congrArg some (by kernel_rfl))
  f285 := Tryz.func75.trans (congrArg some (by kernel_rfl))
  f286 := Tryz.func76.trans (congrArg some (by kernel_rfl))
  f288 := Tryz.func64.trans (congrArg some (by kernel_rfl))
  f317 := Tryz.func90.trans (congrArg some (by kernel_rfl))
  f318 := Tryz.func92.trans (congrArg some (by kernel_rfl))
  f319 := Tryz.func93.trans (congrArg some (by kernel_rfl))
  f320 := Tryz.func94.trans (congrArg some (by kernel_rfl))
  f337 := Tryz.func112.trans (congrArg some (by kernel_rfl))
  f338 := Tryz.func113.trans (congrArg some (by kernel_rfl))
  t0 := Tryz.underlying0
  a0 := Tryz.isAgg0
  z0 := Tryz.sizeOf0
  v0 := Tryz.zeroValue0
  t2 := Tryz.underlying2
  a2 := Tryz.isAgg2
  z2 := Tryz.sizeOf2
  v2 := Tryz.zeroValue2
  t3 := Tryz.underlying3
  a3 := Tryz.isAgg3
  z3 := Tryz.sizeOf3
  v3 := Tryz.zeroValue3
  t4 := Tryz.underlying4
  a4 := Tryz.isAgg4
  z4 := Tryz.sizeOf4
  v4 := Tryz.zeroValue4
  t5 := Tryz.underlying5
  a5 := Tryz.isAgg5
  z5 := Tryz.sizeOf5
  v5 := Tryz.zeroValue5
  t9 := Tryz.underlying9
  a9 := Tryz.isAgg9
  z9 := Tryz.sizeOf9
  v9 := Tryz.zeroValue9
  t20 := Tryz.underlying20
  a20 := Tryz.isAgg20
  z20 := Tryz.sizeOf20
  v20 := Tryz.zeroValue20
  t37 := Tryz.underlying57
  a37 := Tryz.isAgg57
  z37 := Tryz.sizeOf57
  v37 := Tryz.zeroValue57
  t46 := Tryz.underlying156
  a46 := Tryz.isAgg156
  z46 := Tryz.sizeOf156
  v46 := Tryz.zeroValue156
  t51 := Tryz.underlying154
  a51 := Tryz.isAgg154
  z51 := Tryz.sizeOf154
  v51 := Tryz.zeroValue154
  t53 := Tryz.underlying121
  a53 := Tryz.isAgg121
  z53 := Tryz.sizeOf121
  v53 := Tryz.zeroValue121
  t171 := Tryz.underlying135
  a171 := Tryz.isAgg135
  z171 := Tryz.sizeOf135
  v171 := Tryz.zeroValue135
  t173 := Tryz.underlying138
  a173 := Tryz.isAgg138
  z173 := Tryz.sizeOf138
  v173 := Tryz.zeroValue138
  t212 := Tryz.underlying153
  a212 := Tryz.isAgg153
  z212 := Tryz.sizeOf153
  v212 := Tryz.zeroValue153
  t213 := Tryz.underlying155
  a213 := Tryz.isAgg155
  z213 := Tryz.sizeOf155
  t232 := Tryz.underlying178
  a232 := Tryz.isAgg178
  z232 := Tryz.sizeOf178
  v232 := Tryz.zeroValue178
  t233 := Tryz.underlying179
  a233 := Tryz.isAgg179
  z233 := Tryz.sizeOf179
  v233 := Tryz.zeroValue179
  g17 := by kernel_rfl
  g18 := by kernel_rfl
  g19 := by kernel_rfl
  i0 := by kernel_rfl
  i2 := by kernel_rfl
  i3 := by kernel_rfl
  i4 := by kernel_rfl
  i5 := by kernel_rfl
  i9 := by kernel_rfl
  i20 := by kernel_rfl
  i37 := by kernel_rfl
  i46 := by kernel_rfl
  i51 := by kernel_rfl
  i53 := by kernel_rfl
  i171 := by kernel_rfl
  i173 := by kernel_rfl
  i212 := by kernel_rfl
  i232 := by kernel_rfl
  i233 := by kernel_rfl
  m17 := by kernel_rfl
  m18 := by kernel_rfl
  m19 := by kernel_rfl }
open Go.RowKit Go.Sort Go.Lib in
theorem Tryz.strconv_AppendInt_10 (B n : Nat) (i : Int) (h0 : -9223372036854775808 ≤ i) (h1 : i ≤ 9223372036854775807) (sv : Value) (xs : List Value) (w : World) (hown : w.ownsRow B 5 1 sv n xs) (hBw : B ≤ w.heap.size) (hlim : n + 21 ≤ 140737488355328) (htab : Lib.TabBelow Tryz.prog B w "internal/strconv.uint64pow10" .u64 Lib.pow10Tab) :
    Calls Tryz.prog 33 #[sv, .int .i64 i, .int .i64 10] w fun e w' => ∃ v', e = .returned v' ∧ w'.ownsRow B 5 1 v' (n + (Lib.itoa i).length) (xs ++ Lib.byteCells (Lib.itoa i)) ∧ Below B w w' ∧ Lib.OthersKept 5 none w w' := Any.strconv_AppendInt_10 Tryz.laysM176 B n i h0 h1 sv xs w hown hBw hlim htab
end Go.Proofs.YtclkoffnjiiioaaGreatDoor

namespace Go.Proofs.YtclkoffnjiiioaaGreatDoor
open Go.RowKit
set_option linter.unusedVariables false
set_option linter.unusedSimpArgs false
/-- a page of bytes of one's own -/
structure Pg (W : World) (B : Nat) (v : Value) (bs : List UInt8) : Prop where
  row : W.ownsRow B 5 1 v bs.length (Lib.byteCells bs)
  low : B ≤ W.heap.size
  tab : Lib.TabBelow Tryz.prog B W "internal/strconv.uint64pow10" .u64 Lib.pow10Tab
/-- what writing on a page leaves -/
structure Pf (B : Nat) (w w' : World) : Prop where
  below : Below B w w'
  others : Lib.OthersKept 5 none w w'
theorem Pf.refl (B : Nat) (w : World) : Pf B w w := ⟨Below.refl _ _, Lib.OthersKept.refl _ _ _⟩
theorem Pf.trans {B : Nat} {a b c : World} (h : Pf B a b) (k : Pf B b c) : Pf B a c := ⟨h.below.trans k.below, h.others.trans k.others⟩
theorem Pf.alloc {B : Nat} {a b : World} (h : Pf B a b) (hB : B ≤ a.heap.size) (o : Obj) : Pf B a (b.alloc o) := ⟨h.below.trans ((Fr.alloc [] b o).below (Nat.le_trans hB h.below.size) (by simp)), h.others.alloc o⟩
theorem Pf.dn {B : Nat} {a b : World} (h : Pf B a b) (hB : B ≤ a.heap.size) (n : Nat) : Pf B a (b.drewN n) := ⟨h.below.trans ((Fr.drewN [] b n).below (Nat.le_trans hB h.below.size) (by simp)), h.others⟩
theorem Pf.hb {B : Nat} {w w' : World} (h : Pf B w w') {k : Nat} {o : Obj} (hk : w.heap[k]? = some o) (ho : ∀ c fz, o ≠ .cells c 5 fz) : w'.heap[k]? = some o := h.others k o hk (by simp) ho
theorem info5 : (Tryz.prog.info? 5).map (fun i => (i.zero, i.size, i.bytes)) = some (some (.int .u8 0), 1, 1) := by kernel_rfl
theorem byteCells_one (l : List UInt8) : ∀ v ∈ Lib.byteCells l, v.oneCell' = true := by
  intro v hv
  simp only [Lib.byteCells, List.mem_map] at hv
  obtain ⟨b, _, rfl⟩ := hv
  rfl
theorem pf_grown {B : Nat} {w w' : World} {v : Value} {n : Nat} {xs : List Value} (ho : w.ownsRow B 5 1 v n xs) (hB : B ≤ w.heap.size) (hg : w.grownBy w' v.ownBlock) : Pf B w w' := by
  refine ⟨(Fr.grown (S := v.ownBlock.toList) hg (fun k hk => by rw [hk]; simp)).below hB (fun b hb => ?_), (Lib.OthersKept.refl 5 none w).grown hg (fun g hg' => ?_)⟩
  · have : v.ownBlock = some b := by simpa using hb
    exact (own_lt ho b this).1
  · obtain ⟨c, hc⟩ := row_block ho hg'
    exact ⟨c, _, hc⟩
/-- bytes more on a page -/
theorem Pg.push {W : World} {B : Nat} {v : Value} {bs : List UInt8} (h : Pg W B v bs) (news : List UInt8) (hl : bs.length + news.length ≤ 140737488355328) :
    ∃ v' w', (Builtin.append_ #[57, 57] 57 #[v, .slice (some ⟨W.heap.size, 0, none⟩) news.length news.length]).run Tryz.prog (W.alloc (.cells (Lib.byteCells news).toArray 5)) = .ok v' w' ∧ Pg w' B v' (bs ++ news) ∧ Pf B W w' := by
  obtain ⟨i5, ii, iz, is, ib⟩ := info_parts info5
  have ho := h.row
  have ho2 : (W.alloc (.cells (Lib.byteCells news).toArray 5)).ownsRow B 5 1 v bs.length (Lib.byteCells bs) := own_congr ho fun g hg => Below.heap_alloc _ _ _ (own_lt ho g hg).2
  have hnew := heap_alloc_new W (.cells (Lib.byteCells news).toArray 5)
  obtain ⟨v', w', hr, ho3, hg, -, -⟩ := run_append_own_at (P := Tryz.prog) (w := W.alloc (.cells (Lib.byteCells news).toArray 5)) B 57 57 5 i5 (.int .u8 0) 1 1 Tryz.underlying57 ii iz is ib rfl (by decide) v bs.length (Lib.byteCells bs) ho2 ⟨W.heap.size, 0, none⟩ news.length news.length (Lib.byteCells news) (by rw [Lib.byteCells_length]; omega) (fun j u hu => by
      have : (⟨W.heap.size, 0, none⟩ : Addr).add j = ⟨W.heap.size, j, none⟩ := by rw [Addr.add_mid]; simp
      rw [this, cell_in hnew j]
      simpa using hu) (byteCells_one news) (by unfold maxLen; omega) (by omega) (by simp; have := h.low; omega)
  have hpf : Pf B W w' := ((Pf.refl B W).alloc h.low _).trans (pf_grown ho2 (by simp; have := h.low; omega) hg)
  exact ⟨v', w', hr, ⟨by rw [List.length_append, Lib.byteCells_append]; exact ho3, Nat.le_trans h.low hpf.below.size, h.tab.on hpf.below⟩, hpf⟩
/-- a text more on a page -/
theorem Pg.str {W : World} {B : Nat} {v : Value} {bs : List UInt8} (h : Pg W B v bs) (s : ByteArray) (hl : bs.length + s.size ≤ 140737488355328) :
    ∃ v' w', (Builtin.append_ #[57, 9] 57 #[v, .string s]).run Tryz.prog W = .ok v' w' ∧ Pg w' B v' (bs ++ s.data.toList) ∧ Pf B W w' := by
  obtain ⟨i5, ii, iz, is, ib⟩ := info_parts info5
  obtain ⟨v', w', hr, ho3, hg, -⟩ := Lib.run_append_own_string (P := Tryz.prog) (w := W) B 57 9 57 5 i5 Tryz.underlying57 Tryz.underlying9 ii iz is ib v bs.length (Lib.byteCells bs) h.row s (by unfold maxLen; omega) hl h.low
  have hpf : Pf B W w' := pf_grown h.row h.low hg
  refine ⟨v', w', hr, ⟨?_, Nat.le_trans h.low hpf.below.size, h.tab.on hpf.below⟩, hpf⟩
  rw [List.length_append, Lib.byteCells_append]
  exact ho3
theorem Pg.al {W : World} {B : Nat} {v : Value} {bs : List UInt8} (h : Pg W B v bs) (o : Obj) : Pg (W.alloc o) B v bs := ⟨own_congr h.row fun g hg => Below.heap_alloc _ _ _ (own_lt h.row g hg).2, by simp; have := h.low; omega, h.tab.on ((Fr.alloc [] W o).below h.low (by simp))⟩
theorem Pg.dr {W : World} {B : Nat} {v : Value} {bs : List UInt8} (h : Pg W B v bs) (n : Nat) : Pg (W.drewN n) B v bs := ⟨own_congr h.row fun g hg => rfl, h.low, h.tab.on ((Fr.drewN [] W n).below h.low (by simp))⟩
/-- what a writer leaves -/
def WrP (W : World) (B : Nat) (bs news : List UInt8) (e : Ending) (w' : World) : Prop := ∃ v', e = .returned v' ∧ Pg w' B v' (bs ++ news) ∧ Pf B W w'
/-- a number more on a page -/
theorem Pg.num {W : World} {B : Nat} {v : Value} {bs : List UInt8} (h : Pg W B v bs) (i : Int) (h0 : -9223372036854775808 ≤ i) (h1 : i ≤ 9223372036854775807) (hl : bs.length + 21 ≤ 140737488355328) : Calls Tryz.prog 33 #[v, .int .i64 i, .int .i64 10] W fun e w' => WrP W B bs (Lib.itoa i) e w' := by
  refine (Tryz.strconv_AppendInt_10 B bs.length i h0 h1 v (Lib.byteCells bs) W h.row h.low hl h.tab).mono ?_
  rintro e w' ⟨v', rfl, ho, hb, hk⟩
  exact ⟨v', rfl, ⟨by rw [List.length_append, Lib.byteCells_append]; exact ho, Nat.le_trans h.low hb.size, h.tab.on hb⟩, hb, hk⟩
end Go.Proofs.YtclkoffnjiiioaaGreatDoor

namespace Go.Proofs.YtclkoffnjiiioaaGreatDoor
open Go.RowKit
set_option linter.unusedVariables false
set_option linter.unusedSimpArgs false
attribute [local go_sem ↓] Go.wp_at_zero Go.wp_at_succ
set_option maxRecDepth 100000 in
set_option maxHeartbeats 1000000 in
theorem number_ok {W : World} {B : Nat} {v : Value} {bs : List UInt8} (h : Pg W B v bs) (i : Int) (h0 : -9223372036854775808 ≤ i) (h1 : i ≤ 9223372036854775807) (hl : bs.length + 21 ≤ 140737488355328) : Calls Tryz.prog 139 #[.int .i64 i, v] W fun e w' => WrP W B bs (Lib.itoa i) e w' := by
  have HN := mkHid (h.num i h0 h1 hl)
  clear h
  go_enter Tryz.func139, Tryz.ntmps139
  go_wp2_with (go_at_call 33; refine HN.out.mono ?_; rintro e w1 ⟨v', rfl, hp, hf⟩; have H1 := mkHid (And.intro hp hf); clear hp hf)
  go_ret
  exact ⟨v', rfl, H1.out.1, H1.out.2⟩
set_option maxRecDepth 100000 in
set_option maxHeartbeats 1000000 in
theorem endLine_ok {W : World} {B : Nat} {v : Value} {bs : List UInt8} (h : Pg W B v bs) (hl : bs.length + 21 ≤ 140737488355328) : Calls Tryz.prog 31 #[v] W fun e w' => WrP W B bs [10] e w' := by
  obtain ⟨v1, w1, hr, hp, hf⟩ := h.push [10] (by simp; omega)
  have HR := mkHid hr
  have H1 := mkHid (And.intro hp hf)
  clear h hr hp hf
  go_enter Tryz.func31, Tryz.ntmps31
  go_wp2_with (at_builtin; refine Lib.wpList_append_run _ rfl (.tmp 3) (.tmp 4) 57 57 rfl _ _ rfl rfl _ _ HR.out ?_)
  go_ret
  exact ⟨v1, rfl, H1.out.1, H1.out.2⟩
set_option maxRecDepth 100000 in
set_option maxHeartbeats 1000000 in
theorem symbol_ok {W : World} {B : Nat} {v : Value} {bs : List UInt8} (h : Pg W B v bs) (i : Int) (h0 : -9223372036854775808 ≤ i) (h1 : i ≤ 9223372036854775807) (hl : bs.length + 22 ≤ 140737488355328) : Calls Tryz.prog 142 #[.int .i64 i, v] W fun e w' => WrP W B bs (35 :: Lib.itoa i) e w' := by
  obtain ⟨v1, w1, hr, hp, hf⟩ := h.push [35] (by simp; omega)
  have HR := mkHid hr
  have HN := mkHid (number_ok hp i h0 h1 (by simp; omega))
  have HF := mkHid hf
  clear h hr hp hf
  go_enter Tryz.func142, Tryz.ntmps142
  go_wp2_with (first
    | (at_builtin; refine Lib.wpList_append_run _ rfl (.tmp 6) (.tmp 7) 57 57 rfl _ _ rfl rfl _ _ HR.out ?_)
    | (go_at_call 139; refine HN.out.mono ?_; rintro e w2 ⟨v', rfl, hp, hf⟩; have H1 := mkHid (And.intro hp hf); clear hp hf))
  go_ret
  exact ⟨v', rfl, by have := H1.out.1; rwa [List.append_assoc] at this, HF.out.trans H1.out.2⟩
set_option maxRecDepth 100000 in
set_option maxHeartbeats 1000000 in
theorem nothing_ok {W : World} {B : Nat} {v : Value} {bs : List UInt8} (h : Pg W B v bs) (hl : bs.length + 21 ≤ 140737488355328) : Calls Tryz.prog 143 #[.agg #[], v] W fun e w' => WrP W B bs [110, 105, 108] e w' := by
  obtain ⟨v1, w1, hr, hp, hf⟩ := (h.al (.cells #[] 104)).str ⟨#[110, 105, 108]⟩ (by show bs.length + 3 ≤ _; omega)
  have HR := mkHid hr
  have H1 := mkHid (And.intro hp (((Pf.refl B W).alloc h.low _).trans hf))
  clear h hr hp hf
  go_enter Tryz.func143, Tryz.ntmps143
  go_wp2_with (at_builtin; refine Lib.wpList_append_run _ rfl (.tmp 5) (.const (.string ⟨#[110, 105, 108]⟩)) 57 9 rfl _ _ rfl rfl _ _ HR.out ?_)
  go_ret
  exact ⟨v1, rfl, H1.out.1, H1.out.2⟩
set_option maxRecDepth 100000 in
set_option maxHeartbeats 1000000 in
theorem yes_ok {W : World} {B : Nat} {v : Value} {bs : List UInt8} (h : Pg W B v bs) (hl : bs.length + 21 ≤ 140737488355328) : Calls Tryz.prog 144 #[.agg #[], v] W fun e w' => WrP W B bs [116, 114, 117, 101] e w' := by
  obtain ⟨v1, w1, hr, hp, hf⟩ := (h.al (.cells #[] 105)).str ⟨#[116, 114, 117, 101]⟩ (by show bs.length + 4 ≤ _; omega)
  have HR := mkHid hr
  have H1 := mkHid (And.intro hp (((Pf.refl B W).alloc h.low _).trans hf))
  clear h hr hp hf
  go_enter Tryz.func144, Tryz.ntmps144
  go_wp2_with (at_builtin; refine Lib.wpList_append_run _ rfl (.tmp 5) (.const (.string ⟨#[116, 114, 117, 101]⟩)) 57 9 rfl _ _ rfl rfl _ _ HR.out ?_)
  go_ret
  exact ⟨v1, rfl, H1.out.1, H1.out.2⟩
set_option maxRecDepth 100000 in
set_option maxHeartbeats 1000000 in
theorem no_ok {W : World} {B : Nat} {v : Value} {bs : List UInt8} (h : Pg W B v bs) (hl : bs.length + 21 ≤ 140737488355328) : Calls Tryz.prog 145 #[.agg #[], v] W fun e w' => WrP W B bs [102, 97, 108, 115, 101] e w' := by
  obtain ⟨v1, w1, hr, hp, hf⟩ := (h.al (.cells #[] 106)).str ⟨#[102, 97, 108, 115, 101]⟩ (by show bs.length + 5 ≤ _; omega)
  have HR := mkHid hr
  have H1 := mkHid (And.intro hp (((Pf.refl B W).alloc h.low _).trans hf))
  clear h hr hp hf
  go_enter Tryz.func145, Tryz.ntmps145
  go_wp2_with (at_builtin; refine Lib.wpList_append_run _ rfl (.tmp 5) (.const (.string ⟨#[102, 97, 108, 115, 101]⟩)) 57 9 rfl _ _ rfl rfl _ _ HR.out ?_)
  go_ret
  exact ⟨v1, rfl, H1.out.1, H1.out.2⟩
/-- does a byte mean something else in a written text? -/
def mkB (c : UInt8) : Bool := decide (c = 39 ∨ c = 92)
theorem u8_eq (c : UInt8) (k : Nat) (hk : k < 256) : ((c.toNat : Int) == (k : Int)) = decide (c = UInt8.ofNat k) := by
  by_cases h : c = UInt8.ofNat k
  · subst h
    have : (UInt8.ofNat k).toNat = k := by simp [UInt8.toNat_ofNat]; omega
    simp [this]
  · have h2 : ¬ c.toNat = k := fun e => h (by rw [← e]; simp)
    rw [decide_eq_false h]
    simpa using (by omega : ¬ (c.toNat : Int) = (k : Int))
set_option maxHeartbeats 1000000 in
theorem isMark_ok (c : UInt8) (w : World) : Calls Tryz.prog 81 #[.int .u8 (c.toNat : Int)] w fun e w' => e = .returned (.bool (mkB c)) ∧ w' = w := by
  have h1 := u8_eq c 39 (by decide)
  have h2 := u8_eq c 92 (by decide)
  have HM : Hid (mkB c = (((c.toNat : Int) == (39 : Nat)) || ((c.toNat : Int) == (92 : Nat)))) := by
    show mkB c = _
    rw [h1, h2]
    unfold mkB
    simp
  rw [HM.out]
  clear HM h1 h2
  generalize (c.toNat : Int) = z
  cases h1 : (z == 39)
  · cases h2 : (z == 92)
    all_goals
      go_enter Tryz.func81, Tryz.ntmps81
      go_wp2_with fail
      go_ret
      exact ⟨by simp [h1, h2], rfl⟩
  · go_enter Tryz.func81, Tryz.ntmps81
    go_wp2_with fail
    go_ret
    exact ⟨by simp [h1], rfl⟩
set_option maxHeartbeats 1000000 in
theorem isPlain_ok (c : UInt8) (w : World) : Calls Tryz.prog 82 #[.int .u8 (c.toNat : Int)] w fun e w' => e = .returned (.bool (decide (32 ≤ c.toNat) && decide (c.toNat ≤ 126) && !mkB c)) ∧ w' = w := by
  have HM := mkHid (isMark_ok c w)
  generalize mkB c = mb at *
  have hz0 : 0 ≤ (c.toNat : Int) := by omega
  by_cases h1 : 32 ≤ c.toNat
  · have q1 : decide (32 ≤ (c.toNat : Int)) = true := decide_eq_true (by omega)
    by_cases h2 : c.toNat ≤ 126
    · have q2 : decide ((c.toNat : Int) ≤ 126) = true := decide_eq_true (by omega)
      have HE : Hid ((decide (32 ≤ c.toNat) && decide (c.toNat ≤ 126) && !mb) = !mb) := by show _ = _; simp [h1, h2]
      rw [HE.out]
      clear h1 h2 HE
      generalize (c.toNat : Int) = z at *
      go_enter Tryz.func82, Tryz.ntmps82
      go_wp2_with (go_at_call 81; refine HM.out.mono ?_; rintro e w1 ⟨rfl, rfl⟩)
      go_ret
      exact ⟨rfl, rfl⟩
    · have q2 : decide ((c.toNat : Int) ≤ 126) = false := decide_eq_false (by omega)
      have HE : Hid ((decide (32 ≤ c.toNat) && decide (c.toNat ≤ 126) && !mb) = false) := by show _ = _; simp [h2]
      rw [HE.out]
      clear h1 h2 HE HM
      generalize (c.toNat : Int) = z at *
      go_enter Tryz.func82, Tryz.ntmps82
      go_wp2_with fail
      go_ret
      exact ⟨rfl, rfl⟩
  · have q1 : decide (32 ≤ (c.toNat : Int)) = false := decide_eq_false (by omega)
    have HE : Hid ((decide (32 ≤ c.toNat) && decide (c.toNat ≤ 126) && !mb) = false) := by show _ = _; simp [h1]
    rw [HE.out]
    clear h1 HE HM
    generalize (c.toNat : Int) = z at *
    go_enter Tryz.func82, Tryz.ntmps82
    go_wp2_with fail
    go_ret
    exact ⟨rfl, rfl⟩
end Go.Proofs.YtclkoffnjiiioaaGreatDoor

namespace Go.Proofs.YtclkoffnjiiioaaGreatDoor
open Go.RowKit
set_option linter.unusedVariables false
section
variable {P : Program} {ops : Array Oper} {Q : Exit → Act → World → Prop} {md : Region.Mode} {S : World → Prop} {L : Nat}
/-- whatever order is picked, and S stands behind each but the last, number L -/
def wpLast (P : Program) (md : Region.Mode) (ops : Array Oper) (Q : Exit → Act → World → Prop) (S : World → Prop) (L : Nat) : Nat → Array Bool → Act → World → Prop
  | 0, listed, a, w => Region.ready md ops listed = [] ∧ Q .normal a w
  | fuel + 1, listed, a, w =>
    (Region.ready md ops listed = [] → Q .normal a w) ∧
    ∀ i ∈ Region.ready md ops listed, wpOp P ops Q i (fun a' w' => (i ≠ L → S w') ∧ wpLast P md ops Q S L fuel (listed.setIfInBounds i true) a' w') a w
theorem wpAny_of_last : ∀ (fuel : Nat) (listed : Array Bool) (a : Act) (w : World), wpLast P md ops Q S L fuel listed a w → wpAny P md ops Q fuel listed a w
  | 0, _, _, _, h => h
  | fuel + 1, _, _, _, h => ⟨h.1, fun i hi => wpOp_mono (fun a' w' h' => wpAny_of_last fuel _ a' w' h'.2) (h.2 i hi)⟩
/-- the last one waits for number i -/
def waitsB (md : Region.Mode) (ops : Array Oper) (L i : Nat) : Bool := match ops[L]? with | some o => o.after.any (fun e => Region.binds md e && e.on == i) | none => false
theorem wpLast_first {i : Nat} {oi : Oper} {v : Value} (hi : ops[i]? = some oi) (hsel : ∀ (j : Nat) (o : Oper) cs b, ops[j]? = some o → o.op ≠ .select cs b)
    (hQ : ∀ c a w, Q (.panic c) (a.put oi.dst v) w → Q (.panic c) a w) (hiL : i ≠ L) (hwt : waitsB md ops L i = true) :
    ∀ (fuel : Nat) (listed : Array Bool) (a : Act) (w : World),
      (∀ j oj, ops[j]? = some oj → j ≠ i → listed.getD j true = false → (∀ e ∈ oj.after, Region.binds md e = true → e.on ≠ i) → oi.apart ops oj = true) →
      i ∈ Region.ready md ops listed → YieldsIf P ops S oi v a → S w →
      wpLast P md ops Q S L fuel (listed.setIfInBounds i true) (a.put oi.dst v) w → wpLast P md ops Q S L (fuel + 1) listed a w := by
  intro fuel
  induction fuel with
  | zero =>
    intro listed a w _ hr hy hS H
    refine ⟨fun h => (by rw [h] at hr; cases hr), fun j hj => ?_⟩
    by_cases hji : j = i
    · subst hji; exact hy.wpOp hi hS ⟨fun _ => hS, H⟩
    · have := ready_mono hj hji
      rw [H.1] at this
      cases this
  | succ fuel ih =>
    intro listed a w hfree hr hy hS H
    refine ⟨fun h => (by rw [h] at hr; cases hr), fun j hj => ?_⟩
    by_cases hji : j = i
    · subst hji; exact hy.wpOp hi hS ⟨fun _ => hS, H⟩
    · have h1 := H.2 j (ready_mono hj hji)
      obtain ⟨hjun, oj, hoj, hall⟩ := mem_ready.1 hj
      have hnot : ∀ e ∈ oj.after, Region.binds md e = true → e.on ≠ i := fun e he hb heq => by
        have h1 := hall e he hb
        have h0 := (mem_ready.1 hr).1
        rw [heq] at h1
        rcases Nat.lt_or_ge i listed.size with h' | h'
        · simp [h'] at h0 h1; rw [h0] at h1; cases h1
        · simp [Array.getElem?_eq_none h'] at h1
      have hjL : j ≠ L := fun e => by
        subst e
        unfold waitsB at hwt
        rw [hoj] at hwt
        simp only [Array.any_eq_true, Bool.and_eq_true, beq_iff_eq] at hwt
        obtain ⟨n, hn, hb, ho⟩ := hwt
        exact hnot _ (Array.getElem_mem hn) hb ho
      have h2 := wpOp_putIf hoj (hfree j oj hoj hji hjun hnot) (fun cs b => hsel i oi cs b hi) (fun cs b => hsel j oj cs b hoj) hQ hy h1
      have hfree' : ∀ k ok, ops[k]? = some ok → k ≠ i → (listed.setIfInBounds j true).getD k true = false →
          (∀ e ∈ ok.after, Region.binds md e = true → e.on ≠ i) → oi.apart ops ok = true := fun k ok hk hki hun hno => by
        refine hfree k ok hk hki ?_ hno
        by_cases hjk : j = k
        · subst hjk; exact hjun
        · rw [getD_set_ne true hjk] at hun; exact hun
      refine wpOp_mono (fun a' w' h3 => ⟨h3.2.1, ih (listed.setIfInBounds j true) a' w' hfree' (ready_mono hr (Ne.symm hji)) h3.1 (h3.2.1 hjL) ?_⟩) h2
      rw [Array.setIfInBounds_comm _ _ hji]
      exact h3.2.2
theorem wpLast_take {i : Nat} {oi : Oper} {v : Value} {fuel : Nat} {listed : Array Bool} {a : Act} {w : World} (hi : ops[i]? = some oi)
    (hs : Region.noSelect ops = true) (hf : Region.free md ops listed i = true) (hr : (Region.ready md ops listed).contains i = true) (hiL : i ≠ L) (hwt : waitsB md ops L i = true)
    (hQ : ∀ c a w, Q (.panic c) (a.put oi.dst v) w → Q (.panic c) a w) (hy : YieldsIf P ops S oi v a) (hS : S w)
    (h : wpLast P md ops Q S L fuel (listed.setIfInBounds i true) (a.put oi.dst v) w) : wpLast P md ops Q S L (fuel + 1) listed a w :=
  wpLast_first hi (Region.noSelect_spec hs) hQ hiL hwt fuel listed a w (Region.free_spec hi hf) (by simpa using hr) hy hS h
/-- just one may come up -/
theorem wpLast_one {i : Nat} {o : Oper} {fuel : Nat} {listed : Array Bool} {a : Act} {w : World} (hr : Region.ready md ops listed = [i]) (ho : ops[i]? = some o) (hiL : i ≠ L)
    (h : ∀ K' : Act → World → Prop, Shut (∀ a w, S w → (S w → wpLast P md ops Q S L fuel (listed.setIfInBounds i true) a w) → K' a w) → if Region.wanted o (yielded ops a.tmps) = true then Oper.wp P o a w K' Q else K' (a.put o.dst undef) w) : wpLast P md ops Q S L (fuel + 1) listed a w := by
  refine ⟨fun h0 => (by rw [hr] at h0; cases h0), fun j hj => ?_⟩
  rw [hr] at hj
  have e : j = i := by simpa using hj
  subst e
  exact wpOp_step ho (fun K' hK => h K' (fun a w hS hW => hK a w ⟨fun _ => hS, hW hS⟩))
/-- the last comes up -/
theorem wpLast_end {o : Oper} {fuel : Nat} {listed : Array Bool} {a : Act} {w : World} (hr : Region.ready md ops listed = [L]) (ho : ops[L]? = some o)
    (hr2 : Region.ready md ops (listed.setIfInBounds L true) = [])
    (h : ∀ K' : Act → World → Prop, Shut (∀ a w, Q .normal a w → K' a w) → if Region.wanted o (yielded ops a.tmps) = true then Oper.wp P o a w K' Q else K' (a.put o.dst undef) w) : wpLast P md ops Q S L (fuel + 1) listed a w := by
  refine ⟨fun h0 => (by rw [hr] at h0; cases h0), fun j hj => ?_⟩
  rw [hr] at hj
  have e : j = L := by simpa using hj
  subst e
  refine wpOp_step ho (fun K' hK => h K' (fun a w hQ => hK a w ⟨fun h => absurd rfl h, ?_⟩))
  cases fuel with
  | zero => exact ⟨hr2, hQ⟩
  | succ n => exact ⟨fun _ => hQ, by rw [hr2]; simp⟩
theorem wp_region_last {id : Nat} {a : Act} {w : World} (hm : P.follows .mixedOrders = true) (hS : S w.drew)
    (h : S w.drew → wpLast P .any ops Q S L ops.size (Array.replicate ops.size false) a w.drew) : (Code.region id ops true).wp P Q a w :=
  wp_region_any hm (wpAny_of_last _ _ _ _ (h hS))
end
end Go.Proofs.YtclkoffnjiiioaaGreatDoor


