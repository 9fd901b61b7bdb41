import Derived.Test.YtclkoffnjiiioaaGreatDoorG00CSy5
import Derived.Lib.ItoaNum
import Derived.Lib.UnsafeStr
import Derived.Shelf.LaysM
import Derived.Shelf.Strconv.Itoa3
import Derived.Shelf.Strconv.AppendIntPublic10
import Derived.Test.YtclkoffnjiiioaaGreatDoorChecked
import Derived.Lib.AppendStr
import Derived.Lib.OthersKept
import Derived.Deep.RegionHeld3
namespace Go.Proofs.YtclkoffnjiiioaaGreatDoor
open Go.RowKit
set_option linter.unusedVariables false
set_option linter.unusedSimpArgs false
/-- may a literal be one, its elements left aside -/
def mayB (t : LitT) : Bool :=
  if t.kind = 1 ∨ t.kind = 3 then t.text.toList.isEmpty && ((t.kids.length : Int) == 0)
  else if t.kind = 2 then decide ((t.text.size : Int) ≤ 256) && (t.num == 0) && ((t.kids.length : Int) == 0)
  else if t.kind = 4 then decide ((t.kids.length : Int) ≤ 32) && (t.num == 0) && t.text.toList.isEmpty
  else if t.kind = 5 ∨ t.kind = 6 ∨ t.kind = 7 then (t.num == 0) && t.text.toList.isEmpty && ((t.kids.length : Int) == 0)
  else false
def topB (t : LitT) : Bool := (decide (t.kind = 2) || decide (t.kind = 4)) && mayB t
mutual
/-- the elements of a literal are counted and looked at -/
def gaT : LitT → Nat → Int × Nat
  | .mk k _ _ _ _ kids, n => if k = 4 then gaL kids n else (0, n)
def gaL : List LitT → Nat → Int × Nat
  | [], n => (0, n)
  | t :: ts, n => if mayB t = false then (120, n) else if 4096 < n + 1 then (73, n + 1) else if (gaT t (n + 1)).1 ≠ 0 then gaT t (n + 1) else gaL ts (gaT t (n + 1)).2
end
/-- the literals of a code -/
def gaU : List LitT → Nat → Int × Nat
  | [], n => (0, n)
  | t :: ts, n => if topB t = false then (120, n) else if (gaT t n).1 ≠ 0 then gaT t n else gaU ts (gaT t n).2
theorem gaT_at (t : LitT) (n : Nat) : gaT t n = if t.kind = 4 then gaL t.kids n else (0, n) := by cases t; rw [gaT]; rfl
theorem gaL_nil (n : Nat) : gaL [] n = (0, n) := by rw [gaL]
theorem gaL_cons (t : LitT) (ts : List LitT) (n : Nat) : gaL (t :: ts) n = if mayB t = false then (120, n) else if 4096 < n + 1 then (73, n + 1) else if (gaT t (n + 1)).1 ≠ 0 then gaT t (n + 1) else gaL ts (gaT t (n + 1)).2 := by rw [gaL]
/-- a byte of a text, written -/
def hexD (n : Nat) : UInt8 := [48, 49, 50, 51, 52, 53, 54, 55, 56, 57, 97, 98, 99, 100, 101, 102].getD n 0
def escB (c : UInt8) : List UInt8 := if c = 39 ∨ c = 92 then [92, c] else if 32 ≤ c ∧ c ≤ 126 then [c] else [92, 120, hexD (c.toNat / 16), hexD (c.toNat % 16)]
def textW (s : ByteArray) : List UInt8 := 39 :: (s.data.toList.flatMap escB ++ [39])
mutual
/-- a literal, written -/
def wrT : LitT → List UInt8
  | .mk k tx n _ _ kids => if k = 1 then Lib.itoa n else if k = 2 then textW tx else if k = 3 then 35 :: Lib.itoa n else if k = 5 then [110, 105, 108] else if k = 6 then [116, 114, 117, 101] else if k = 7 then [102, 97, 108, 115, 101] else 40 :: (wrL kids true ++ [41])
def wrL : List LitT → Bool → List UInt8
  | [], _ => []
  | t :: ts, f => (if f then [] else [32]) ++ wrT t ++ wrL ts false
end
theorem wrT_at (t : LitT) : wrT t = if t.kind = 1 then Lib.itoa t.num else if t.kind = 2 then textW t.text else if t.kind = 3 then 35 :: Lib.itoa t.num else if t.kind = 5 then [110, 105, 108] else if t.kind = 6 then [116, 114, 117, 101] else if t.kind = 7 then [102, 97, 108, 115, 101] else 40 :: (wrL t.kids true ++ [41]) := by cases t; rw [wrT]; rfl
theorem wrL_nil (f : Bool) : wrL [] f = [] := by rw [wrL]
theorem wrL_cons (t : LitT) (ts : List LitT) (f : Bool) : wrL (t :: ts) f = (if f then [] else [32]) ++ wrT t ++ wrL ts false := by rw [wrL]
end Go.Proofs.YtclkoffnjiiioaaGreatDoor

namespace Go.Proofs.YtclkoffnjiiioaaGreatDoor
open Go.RowKit
set_option linter.unusedVariables false
set_option linter.unusedSimpArgs false
attribute [local go_sem ↓] Go.wp_at_zero Go.wp_at_succ
/-- what looking at an element leaves -/
def IaP (x n : Nat) (t : LitT) (w : World) (e : Ending) (w' : World) : Prop := (mayB t = false ∧ e = .returned (.int .i64 120) ∧ w' = w) ∨ (mayB t = true ∧ e = .returned (.int .i64 (if 4096 < n + 1 then 73 else 0)) ∧ w' = w.setCell ⟨x, 0, none⟩ (.int .i64 ((n + 1 : Nat) : Int)))
end Go.Proofs.YtclkoffnjiiioaaGreatDoor

namespace Go.Proofs.YtclkoffnjiiioaaGreatDoor
open Go.RowKit
set_option linter.unusedVariables false
set_option linter.unusedSimpArgs false
attribute [local go_sem ↓] Go.wp_at_zero Go.wp_at_succ
/-- an element as the gatherer makes it: an interface's value, arrays in rows of their own -/
inductive ElR (w : World) (Ok : Nat → Prop) : Value → LitT → Prop
  | int (t : LitT) (h : t.kind = 1) : ElR w Ok (.iface 100 (.int .i64 t.num)) t
  | text (t : LitT) (h : t.kind = 2) : ElR w Ok (.iface 101 (.string t.text)) t
  | sym (t : LitT) (h : t.kind = 3) : ElR w Ok (.iface 102 (.int .i64 t.num)) t
  | nil (t : LitT) (h : t.kind = 5) : ElR w Ok (.iface 104 (.agg #[])) t
  | yes (t : LitT) (h : t.kind = 6) : ElR w Ok (.iface 105 (.agg #[])) t
  | no (t : LitT) (h : t.kind = 7) : ElR w Ok (.iface 106 (.agg #[])) t
  | arr (t : LitT) (h : t.kind = 4) (p : Option Addr) (c : Nat) (vs : List Value) (row : w.ownsRow 0 60 1 (.slice p t.kids.length c) t.kids.length vs) (ok : ∀ b ∈ blk p, Ok b) (kids : ∀ (i : Nat) (u : LitT) (v : Value), t.kids[i]? = some u → vs[i]? = some v → ElR w Ok v u) : ElR w Ok (.iface 107 (.slice p t.kids.length c)) t
/-- elements in a row -/
structure ElsR (w : World) (Ok : Nat → Prop) (p : Option Addr) (c : Nat) (ts : List LitT) (vs : List Value) : Prop where
  row : w.ownsRow 0 60 1 (.slice p ts.length c) ts.length vs
  ok : ∀ b ∈ blk p, Ok b
  els : ∀ (i : Nat) (u : LitT) (v : Value), ts[i]? = some u → vs[i]? = some v → ElR w Ok v u
/-- what gathering leaves -/
def GaP (V : World) (x : Nat) (ts : List LitT) (R : Int × Nat) (e : Ending) (w' : World) : Prop :=
  ∃ v, e = .returned (.tuple #[v, .int .i64 R.1]) ∧ Fr [x] V w' ∧ w'.heap[x]? = some (.cells #[.int .i64 (R.2 : Int)] 51 (0, 0)) ∧ (R.1 ≠ 0 → v = .slice none 0 0) ∧ (R.1 = 0 → ∃ p c vs, v = .slice p ts.length c ∧ ElsR w' (fun b => V.heap.size ≤ b) p c ts vs)
def GeP (V : World) (x : Nat) (t : LitT) (R : Int × Nat) (e : Ending) (w' : World) : Prop :=
  ∃ v, e = .returned (.tuple #[v, .int .i64 R.1]) ∧ Fr [x] V w' ∧ w'.heap[x]? = some (.cells #[.int .i64 (R.2 : Int)] 51 (0, 0)) ∧ (R.1 = 0 → ElR w' (fun b => V.heap.size ≤ b) v t)
end Go.Proofs.YtclkoffnjiiioaaGreatDoor

namespace Go.Proofs.YtclkoffnjiiioaaGreatDoor
open Go.RowKit
set_option linter.unusedVariables false
set_option linter.unusedSimpArgs false
attribute [local go_sem ↓] Go.wp_at_zero Go.wp_at_succ
mutual
theorem gaT_le : ∀ (t : LitT) (n : Nat), n ≤ 4096 → (gaT t n).1 = 0 → (gaT t n).2 ≤ 4096
  | .mk k x m p c kids, n, hn, h => by
    rw [gaT] at h ⊢
    by_cases hk : k = 4
    · rw [if_pos hk] at h ⊢; exact gaL_le kids n hn h
    · rw [if_neg hk]; exact hn
theorem gaL_le : ∀ (ts : List LitT) (n : Nat), n ≤ 4096 → (gaL ts n).1 = 0 → (gaL ts n).2 ≤ 4096
  | [], n, hn, h => by rw [gaL_nil]; exact hn
  | t :: ts, n, hn, h => by
    rw [gaL_cons] at h ⊢
    by_cases h1 : mayB t = false
    · rw [if_pos h1] at h; cases h
    · rw [if_neg h1] at h ⊢
      by_cases h2 : 4096 < n + 1
      · rw [if_pos h2] at h; cases h
      · rw [if_neg h2] at h ⊢
        by_cases h3 : (gaT t (n + 1)).1 ≠ 0
        · rw [if_pos h3] at h; exact absurd h h3
        · rw [if_neg h3] at h ⊢
          exact gaL_le ts _ (gaT_le t (n + 1) (by omega) (by simpa using h3)) h
end
/-- gathering under way -/
structure Gs (V wr : World) (x : Nat) (ts : List LitT) (i : Nat) (p' : Option Addr) (c' : Nat) (vs : List Value) (n : Nat) : Prop where
  row : wr.ownsRow V.heap.size 60 1 (.slice p' i c') i vs
  els : ∀ (j : Nat) (u : LitT) (v : Value), ts[j]? = some u → vs[j]? = some v → ElR wr (fun b => V.heap.size ≤ b ∧ b ∉ blk p') v u
  fr : Fr [x] V wr
  cx : wr.heap[x]? = some (.cells #[.int .i64 (n : Int)] 51 (0, 0))
end Go.Proofs.YtclkoffnjiiioaaGreatDoor

namespace Go.Proofs.YtclkoffnjiiioaaGreatDoor
open Go Go.Shelf
set_option linter.unusedVariables false
def Tryz.laysM171_ren : Go.Shelf.Ren := ⟨fun | 171 => 46 | 243 => 63 | 246 => 72 | 283 => 73 | 284 => 74 | 285 => 75 | 286 => 76 | 129 => 91 | 317 => 90 | 318 => 92 | 319 => 93 | 320 => 94 | 337 => 112 | 338 => 113 | n => n, fun | 3 => 3 | 9 => 9 | 2 => 2 | 4 => 4 | 171 => 135 | 0 => 0 | 53 => 121 | 37 => 57 | 5 => 5 | 173 => 138 | 212 => 153 | 51 => 154 | 20 => 20 | 213 => 155 | 46 => 156 | 232 => 178 | 233 => 179 | n => n, fun | 17 => 1 | 18 => 5 | 19 => 6 | n => n⟩
theorem Tryz.laysM171 : Go.Proofs.LaysM.n171 Tryz.prog Tryz.laysM171_ren := {
  mixed := by kernel_rfl
  f129 := Tryz.func91.trans (congrArg some (by kernel_rfl))
  f171 := Tryz.func46.trans (congrArg some (by kernel_rfl))
  f243 := Tryz.func63.trans (congrArg some (by kernel_rfl))
  f246 := Tryz.func72.trans (congrArg some (by kernel_rfl))
  f283 := Tryz.func73.trans (congrArg some (by kernel_rfl))
  f284 := Tryz.func74.trans (congrArg some (by kernel_rfl))
  f285 := Tryz.func75.trans (congrArg some (by kernel_rfl))
  f286 := Tryz.func76.trans (congrArg some (by kernel_rfl))
  f317 := Tryz.func90.trans (congrArg some (by kernel_rfl))
  f318 := Tryz.func92.trans (congrArg some (by kernel_rfl))
  f319 := Tryz.func93.trans (congrArg some (by kernel_rfl))
  f320 := Tryz.func94.trans (congrArg some (by kernel_rfl))
  f337 := Tryz.func112.trans (congrArg some (by kernel_rfl))
  f338 := Tryz.func113.trans (congrArg some (by kernel_rfl))
  t0 := Tryz.underlying0
  a0 := Tryz.isAgg0
  z0 := Tryz.sizeOf0
  v0 := Tryz.zeroValue0
  t2 := Tryz.underlying2
  a2 := Tryz.isAgg2
  z2 := Tryz.sizeOf2
  v2 := Tryz.zeroValue2
  t3 := Tryz.underlying3
  a3 := Tryz.isAgg3
  z3 := Tryz.sizeOf3
  v3 := Tryz.zeroValue3
  t4 := Tryz.underlying4
  a4 := Tryz.isAgg4
  z4 := Tryz.sizeOf4
  v4 := Tryz.zeroValue4
  t5 := Tryz.underlying5
  a5 := Tryz.isAgg5
  z5 := Tryz.sizeOf5
  v5 := Tryz.zeroValue5
  t9 := Tryz.underlying9
  a9 := Tryz.isAgg9
  z9 := Tryz.sizeOf9
  v9 := Tryz.zeroValue9
  t20 := Tryz.underlying20
  a20 := Tryz.isAgg20
  z20 := Tryz.sizeOf20
  v20 := Tryz.zeroValue20
  t37 := Tryz.underlying57
  a37 := Tryz.isAgg57
  z37 := Tryz.sizeOf57
  v37 := Tryz.zeroValue57
  t46 := Tryz.underlying156
  a46 := Tryz.isAgg156
  z46 := Tryz.sizeOf156
  v46 := Tryz.zeroValue156
  t51 := Tryz.underlying154
  a51 := Tryz.isAgg154
  z51 := Tryz.sizeOf154
  v51 := Tryz.zeroValue154
  t53 := Tryz.underlying121
  a53 := Tryz.isAgg121
  z53 := Tryz.sizeOf121
  v53 := Tryz.zeroValue121
  t171 := Tryz.underlying135
  a171 := Tryz.isAgg135
  z171 := Tryz.sizeOf135
  v171 := Tryz.zeroValue135
  t173 := Tryz.underlying138
  a173 := Tryz.isAgg138
  z173 := Tryz.sizeOf138
  v173 := Tryz.zeroValue138
  t212 := Tryz.underlying153
  a212 := Tryz.isAgg153
  z212 := Tryz.sizeOf153
  v212 := Tryz.zeroValue153
  t213 := Tryz.underlying155
  a213 := Tryz.isAgg155
  z213 := Tryz.sizeOf155
  t232 := Tryz.underlying178
  a232 := Tryz.isAgg178
  z232 := Tryz.sizeOf178
  v232 := Tryz.zeroValue178
  t233 := Tryz.underlying179
  a233 := Tryz.isAgg179
  z233 := Tryz.sizeOf179
  v233 := Tryz.zeroValue179
  g17 := by kernel_rfl
  g18 := by kernel_rfl
  g19 := by kernel_rfl
  i0 := by kernel_rfl
  i2 := by kernel_rfl
  i3 := by kernel_rfl
  i4 := by kernel_rfl
  i5 := by kernel_rfl
  i9 := by kernel_rfl
  i20 := by kernel_rfl
  i37 := by kernel_rfl
  i46 := by kernel_rfl
  i51 := by kernel_rfl
  i53 := by kernel_rfl
  i171 := by kernel_rfl
  i173 := by kernel_rfl
  i212 := by kernel_rfl
  i232 := by kernel_rfl
  i233 := by kernel_rfl
  m17 := by kernel_rfl
  m18 := by kernel_rfl
  m19 := by kernel_rfl }
open Go.RowKit Go.Sort Go.Lib in
theorem Tryz.strconv_Itoa (n : Int) (h0 : -9223372036854775808 ≤ n) (h1 : n ≤ 9223372036854775807) (w : World) (htab : Lib.TabIs Tryz.prog w "internal/strconv.uint64pow10" .u64 Lib.pow10Tab) :
    Calls Tryz.prog 46 #[.int .i64 n] w fun e w' => e = .returned (.string ⟨(Lib.itoa n).toArray⟩) ∧ ∃ k os, w' = grow (w.drewN k) os := Any.strconv_Itoa Tryz.laysM171 n h0 h1 w htab
def Tryz.laysM176_ren : Go.Shelf.Ren := ⟨fun | 176 => 33 | 249 => 50 | 288 => 64 | 283 => 73 | 284 => 74 | 285 => 75 | 286 => 76 | 129 => 91 | 317 => 90 | 318 => 92 | 319 => 93 | 320 => 94 | 337 => 112 | 338 => 113 | n => n, fun | 37 => 57 | 2 => 2 | 3 => 3 | 53 => 121 | 4 => 4 | 9 => 9 | 171 => 135 | 0 => 0 | 173 => 138 | 212 => 153 | 51 => 154 | 5 => 5 | 20 => 20 | 213 => 155 | 46 => 156 | 232 => 178 | 233 => 179 | n => n, fun | 17 => 1 | 18 => 5 | 19 => 6 | n => n⟩
end Go.Proofs.YtclkoffnjiiioaaGreatDoor

namespace Go.Proofs.YtclkoffnjiiioaaGreatDoor
open Go.RowKit
set_option linter.unusedVariables false
set_option linter.unusedSimpArgs false
/-- a page of bytes of one's own -/
structure Pg (W : World) (B : Nat) (v : Value) (bs : List UInt8) : Prop where
  row : W.ownsRow B 5 1 v bs.length (Lib.byteCells bs)
  low : B ≤ W.heap.size
  tab : Lib.TabBelow Tryz.prog B W "internal/strconv.uint64pow10" .u64 Lib.pow10Tab
/-- what writing on a page leaves -/
structure Pf (B : Nat) (w w' : World) : Prop where
  below : Below B w w'
  others : Lib.OthersKept 5 none w w'
theorem Pf.refl (B : Nat) (w : World) : Pf B w w := ⟨Below.refl _ _, Lib.OthersKept.refl _ _ _⟩
theorem Pf.trans {B : Nat} {a b c : World} (h : Pf B a b) (k : Pf B b c) : Pf B a c := ⟨h.below.trans k.below, h.others.trans k.others⟩
theorem Pf.alloc {B : Nat} {a b : World} (h : Pf B a b) (hB : B ≤ a.heap.size) (o : Obj) : Pf B a (b.alloc o) := ⟨h.below.trans ((Fr.alloc [] b o).below (Nat.le_trans hB h.below.size) (by simp)), h.others.alloc o⟩
theorem Pf.dn {B : Nat} {a b : World} (h : Pf B a b) (hB : B ≤ a.heap.size) (n : Nat) : Pf B a (b.drewN n) := ⟨h.below.trans ((Fr.drewN [] b n).below (Nat.le_trans hB h.below.size) (by simp)), h.others⟩
theorem info5 : (Tryz.prog.info? 5).map (fun i => (i.zero, i.size, i.bytes)) = some (some (.int .u8 0), 1, 1) := by kernel_rfl
theorem byteCells_one (l : List UInt8) : ∀ v ∈ Lib.byteCells l, v.oneCell' = true := by
  intro v hv
  simp only [Lib.byteCells, List.mem_map] at hv
  obtain ⟨b, _, rfl⟩ := hv
  rfl
theorem pf_grown {B : Nat} {w w' : World} {v : Value} {n : Nat} {xs : List Value} (ho : w.ownsRow B 5 1 v n xs) (hB : B ≤ w.heap.size) (hg : w.grownBy w' v.ownBlock) : Pf B w w' := by
  refine ⟨(Fr.grown (S := v.ownBlock.toList) hg (fun k hk => by rw [hk]; simp)).below hB (fun b hb => ?_), (Lib.OthersKept.refl 5 none w).grown hg (fun g hg' => ?_)⟩
  · have : v.ownBlock = some b := by simpa using hb
    exact (own_lt ho b this).1
  · obtain ⟨c, hc⟩ := row_block ho hg'
    exact ⟨c, _, hc⟩
/-- bytes more on a page -/
theorem Pg.push {W : World} {B : Nat} {v : Value} {bs : List UInt8} (h : Pg W B v bs) (news : List UInt8) (hl : bs.length + news.length ≤ 140737488355328) :
    ∃ v' w', (Builtin.append_ #[57, 57] 57 #[v, .slice (some ⟨W.heap.size, 0, none⟩) news.length news.length]).run Tryz.prog (W.alloc (.cells (Lib.byteCells news).toArray 5)) = .ok v' w' ∧ Pg w' B v' (bs ++ news) ∧ Pf B W w' := by
  obtain ⟨i5, ii, iz, is, ib⟩ := info_parts info5
  have ho := h.row
  have ho2 : (W.alloc (.cells (Lib.byteCells news).toArray 5)).ownsRow B 5 1 v bs.length (Lib.byteCells bs) := own_congr ho fun g hg => Below.heap_alloc _ _ _ (own_lt ho g hg).2
  have hnew := heap_alloc_new W (.cells (Lib.byteCells news).toArray 5)
  obtain ⟨v', w', hr, ho3, hg, -, -⟩ := run_append_own_at (P := Tryz.prog) (w := W.alloc (.cells (Lib.byteCells news).toArray 5)) B 57 57 5 i5 (.int .u8 0) 1 1 Tryz.underlying57 ii iz is ib rfl (by decide) v bs.length (Lib.byteCells bs) ho2 ⟨W.heap.size, 0, none⟩ news.length news.length (Lib.byteCells news) (by rw [Lib.byteCells_length]; omega) (fun j u hu => by
      have : (⟨W.heap.size, 0, none⟩ : Addr).add j = ⟨W.heap.size, j, none⟩ := by rw [Addr.add_mid]; simp
      rw [this, cell_in hnew j]
      simpa using hu) (byteCells_one news) (by unfold maxLen; omega) (by omega) (by simp; have := h.low; omega)
  have hpf : Pf B W w' := ((Pf.refl B W).alloc h.low _).trans (pf_grown ho2 (by simp; have := h.low; omega) hg)
  exact ⟨v', w', hr, ⟨by rw [List.length_append, Lib.byteCells_append]; exact ho3, Nat.le_trans h.low hpf.below.size, h.tab.on hpf.below⟩, hpf⟩
theorem Pg.dr {W : World} {B : Nat} {v : Value} {bs : List UInt8} (h : Pg W B v bs) (n : Nat) : Pg (W.drewN n) B v bs := ⟨own_congr h.row fun g hg => rfl, h.low, h.tab.on ((Fr.drewN [] W n).below h.low (by simp))⟩
/-- what a writer leaves -/
def WrP (W : World) (B : Nat) (bs news : List UInt8) (e : Ending) (w' : World) : Prop := ∃ v', e = .returned v' ∧ Pg w' B v' (bs ++ news) ∧ Pf B W w'
end Go.Proofs.YtclkoffnjiiioaaGreatDoor

namespace Go.Proofs.YtclkoffnjiiioaaGreatDoor
open Go.RowKit
set_option linter.unusedVariables false
set_option linter.unusedSimpArgs false
attribute [local go_sem ↓] Go.wp_at_zero Go.wp_at_succ
/-- does a byte mean something else in a written text? -/
def mkB (c : UInt8) : Bool := decide (c = 39 ∨ c = 92)
theorem u8_eq (c : UInt8) (k : Nat) (hk : k < 256) : ((c.toNat : Int) == (k : Int)) = decide (c = UInt8.ofNat k) := by
  by_cases h : c = UInt8.ofNat k
  · subst h
    have : (UInt8.ofNat k).toNat = k := by simp [UInt8.toNat_ofNat]; omega
    simp [this]
  · have h2 : ¬ c.toNat = k := fun e => h (by rw [← e]; simp)
    rw [decide_eq_false h]
    simpa using (by omega : ¬ (c.toNat : Int) = (k : Int))
set_option maxHeartbeats 1000000 in
theorem isMark_ok (c : UInt8) (w : World) : Calls Tryz.prog 81 #[.int .u8 (c.toNat : Int)] w fun e w' => e = .returned (.bool (mkB c)) ∧ w' = w := by
  have h1 := u8_eq c 39 (by decide)
  have h2 := u8_eq c 92 (by decide)
  have HM : Hid (mkB c = (((c.toNat : Int) == (39 : Nat)) || ((c.toNat : Int) == (92 : Nat)))) := by
    show mkB c = _
    rw [h1, h2]
    unfold mkB
    simp
  rw [HM.out]
  clear HM h1 h2
  generalize (c.toNat : Int) = z
  cases h1 : (z == 39)
  · cases h2 : (z == 92)
    all_goals
      go_enter Tryz.func81, Tryz.ntmps81
      go_wp2_with fail
      go_ret
      exact ⟨by simp [h1, h2], rfl⟩
  · go_enter Tryz.func81, Tryz.ntmps81
    go_wp2_with fail
    go_ret
    exact ⟨by simp [h1], rfl⟩
set_option maxHeartbeats 1000000 in
theorem isPlain_ok (c : UInt8) (w : World) : Calls Tryz.prog 82 #[.int .u8 (c.toNat : Int)] w fun e w' => e = .returned (.bool (decide (32 ≤ c.toNat) && decide (c.toNat ≤ 126) && !mkB c)) ∧ w' = w := by
  have HM := mkHid (isMark_ok c w)
  generalize mkB c = mb at *
  have hz0 : 0 ≤ (c.toNat : Int) := by omega
  by_cases h1 : 32 ≤ c.toNat
  · have q1 : decide (32 ≤ (c.toNat : Int)) = true := decide_eq_true (by omega)
    by_cases h2 : c.toNat ≤ 126
    · have q2 : decide ((c.toNat : Int) ≤ 126) = true := decide_eq_true (by omega)
      have HE : Hid ((decide (32 ≤ c.toNat) && decide (c.toNat ≤ 126) && !mb) = !mb) := by show _ = _; simp [h1, h2]
      rw [HE.out]
      clear h1 h2 HE
      generalize (c.toNat : Int) = z at *
      go_enter Tryz.func82, Tryz.ntmps82
      go_wp2_with (go_at_call 81; refine HM.out.mono ?_; rintro e w1 ⟨rfl, rfl⟩)
      go_ret
      exact ⟨rfl, rfl⟩
    · have q2 : decide ((c.toNat : Int) ≤ 126) = false := decide_eq_false (by omega)
      have HE : Hid ((decide (32 ≤ c.toNat) && decide (c.toNat ≤ 126) && !mb) = false) := by show _ = _; simp [h2]
      rw [HE.out]
      clear h1 h2 HE HM
      generalize (c.toNat : Int) = z at *
      go_enter Tryz.func82, Tryz.ntmps82
      go_wp2_with fail
      go_ret
      exact ⟨rfl, rfl⟩
  · have q1 : decide (32 ≤ (c.toNat : Int)) = false := decide_eq_false (by omega)
    have HE : Hid ((decide (32 ≤ c.toNat) && decide (c.toNat ≤ 126) && !mb) = false) := by show _ = _; simp [h1]
    rw [HE.out]
    clear h1 HE HM
    generalize (c.toNat : Int) = z at *
    go_enter Tryz.func82, Tryz.ntmps82
    go_wp2_with fail
    go_ret
    exact ⟨rfl, rfl⟩
end Go.Proofs.YtclkoffnjiiioaaGreatDoor

namespace Go.Proofs.YtclkoffnjiiioaaGreatDoor
open Go.RowKit
set_option linter.unusedVariables false
section
variable {P : Program} {ops : Array Oper} {Q : Exit → Act → World → Prop} {md : Region.Mode} {S : World → Prop} {L : Nat}
/-- whatever order is picked, and S stands behind each but the last, number L -/
def wpLast (P : Program) (md : Region.Mode) (ops : Array Oper) (Q : Exit → Act → World → Prop) (S : World → Prop) (L : Nat) : Nat → Array Bool → Act → World → Prop
  | 0, listed, a, w => Region.ready md ops listed = [] ∧ Q .normal a w
  | fuel + 1, listed, a, w =>
    (Region.ready md ops listed = [] → Q .normal a w) ∧
    ∀ i ∈ Region.ready md ops listed, wpOp P ops Q i (fun a' w' => (i ≠ L → S w') ∧ wpLast P md ops Q S L fuel (listed.setIfInBounds i true) a' w') a w
theorem wpAny_of_last : ∀ (fuel : Nat) (listed : Array Bool) (a : Act) (w : World), wpLast P md ops Q S L fuel listed a w → wpAny P md ops Q fuel listed a w
  | 0, _, _, _, h => h
  | fuel + 1, _, _, _, h => ⟨h.1, fun i hi => wpOp_mono (fun a' w' h' => wpAny_of_last fuel _ a' w' h'.2) (h.2 i hi)⟩
/-- the last one waits for number i -/
def waitsB (md : Region.Mode) (ops : Array Oper) (L i : Nat) : Bool := match ops[L]? with | some o => o.after.any (fun e => Region.binds md e && e.on == i) | none => false
theorem wpLast_first {i : Nat} {oi : Oper} {v : Value} (hi : ops[i]? = some oi) (hsel : ∀ (j : Nat) (o : Oper) cs b, ops[j]? = some o → o.op ≠ .select cs b)
    (hQ : ∀ c a w, Q (.panic c) (a.put oi.dst v) w → Q (.panic c) a w) (hiL : i ≠ L) (hwt : waitsB md ops L i = true) :
    ∀ (fuel : Nat) (listed : Array Bool) (a : Act) (w : World),
      (∀ j oj, ops[j]? = some oj → j ≠ i → listed.getD j true = false → (∀ e ∈ oj.after, Region.binds md e = true → e.on ≠ i) → oi.apart ops oj = true) →
      i ∈ Region.ready md ops listed → YieldsIf P ops S oi v a → S w →
      wpLast P md ops Q S L fuel (listed.setIfInBounds i true) (a.put oi.dst v) w → wpLast P md ops Q S L (fuel + 1) listed a w := by
  intro fuel
  induction fuel with
  | zero =>
    intro listed a w _ hr hy hS H
    refine ⟨fun h => (by rw [h] at hr; cases hr), fun j hj => ?_⟩
    by_cases hji : j = i
    · subst hji; exact hy.wpOp hi hS ⟨fun _ => hS, H⟩
    · have := ready_mono hj hji
      rw [H.1] at this
      cases this
  | succ fuel ih =>
    intro listed a w hfree hr hy hS H
    refine ⟨fun h => (by rw [h] at hr; cases hr), fun j hj => ?_⟩
    by_cases hji : j = i
    · subst hji; exact hy.wpOp hi hS ⟨fun _ => hS, H⟩
    · have h1 := H.2 j (ready_mono hj hji)
      obtain ⟨hjun, oj, hoj, hall⟩ := mem_ready.1 hj
      have hnot : ∀ e ∈ oj.after, Region.binds md e = true → e.on ≠ i := fun e he hb heq => by
        have h1 := hall e he hb
        have h0 := (mem_ready.1 hr).1
        rw [heq] at h1
        rcases Nat.lt_or_ge i listed.size with h' | h'
        · simp [h'] at h0 h1; rw [h0] at h1; cases h1
        · simp [Array.getElem?_eq_none h'] at h1
      have hjL : j ≠ L := fun e => by
        subst e
        unfold waitsB at hwt
        rw [hoj] at hwt
        simp only [Array.any_eq_true, Bool.and_eq_true, beq_iff_eq] at hwt
        obtain ⟨n, hn, hb, ho⟩ := hwt
        exact hnot _ (Array.getElem_mem hn) hb ho
      have h2 := wpOp_putIf hoj (hfree j oj hoj hji hjun hnot) (fun cs b => hsel i oi cs b hi) (fun cs b => hsel j oj cs b hoj) hQ hy h1
      have hfree' : ∀ k ok, ops[k]? = some ok → k ≠ i → (listed.setIfInBounds j true).getD k true = false →
          (∀ e ∈ ok.after, Region.binds md e = true → e.on ≠ i) → oi.apart ops ok = true := fun k ok hk hki hun hno => by
        refine hfree k ok hk hki ?_ hno
        by_cases hjk : j = k
        · subst hjk; exact hjun
        · rw [getD_set_ne true hjk] at hun; exact hun
      refine wpOp_mono (fun a' w' h3 => ⟨h3.2.1, ih (listed.setIfInBounds j true) a' w' hfree' (ready_mono hr (Ne.symm hji)) h3.1 (h3.2.1 hjL) ?_⟩) h2
      rw [Array.setIfInBounds_comm _ _ hji]
      exact h3.2.2
theorem wpLast_take {i : Nat} {oi : Oper} {v : Value} {fuel : Nat} {listed : Array Bool} {a : Act} {w : World} (hi : ops[i]? = some oi)
    (hs : Region.noSelect ops = true) (hf : Region.free md ops listed i = true) (hr : (Region.ready md ops listed).contains i = true) (hiL : i ≠ L) (hwt : waitsB md ops L i = true)
    (hQ : ∀ c a w, Q (.panic c) (a.put oi.dst v) w → Q (.panic c) a w) (hy : YieldsIf P ops S oi v a) (hS : S w)
    (h : wpLast P md ops Q S L fuel (listed.setIfInBounds i true) (a.put oi.dst v) w) : wpLast P md ops Q S L (fuel + 1) listed a w :=
  wpLast_first hi (Region.noSelect_spec hs) hQ hiL hwt fuel listed a w (Region.free_spec hi hf) (by simpa using hr) hy hS h
/-- just one may come up -/
theorem wpLast_one {i : Nat} {o : Oper} {fuel : Nat} {listed : Array Bool} {a : Act} {w : World} (hr : Region.ready md ops listed = [i]) (ho : ops[i]? = some o) (hiL : i ≠ L)
    (h : ∀ K' : Act → World → Prop, Shut (∀ a w, S w → (S w → wpLast P md ops Q S L fuel (listed.setIfInBounds i true) a w) → K' a w) → if Region.wanted o (yielded ops a.tmps) = true then Oper.wp P o a w K' Q else K' (a.put o.dst undef) w) : wpLast P md ops Q S L (fuel + 1) listed a w := by
  refine ⟨fun h0 => (by rw [hr] at h0; cases h0), fun j hj => ?_⟩
  rw [hr] at hj
  have e : j = i := by simpa using hj
  subst e
  exact wpOp_step ho (fun K' hK => h K' (fun a w hS hW => hK a w ⟨fun _ => hS, hW hS⟩))
/-- the last comes up -/
theorem wpLast_end {o : Oper} {fuel : Nat} {listed : Array Bool} {a : Act} {w : World} (hr : Region.ready md ops listed = [L]) (ho : ops[L]? = some o)
    (hr2 : Region.ready md ops (listed.setIfInBounds L true) = [])
    (h : ∀ K' : Act → World → Prop, Shut (∀ a w, Q .normal a w → K' a w) → if Region.wanted o (yielded ops a.tmps) = true then Oper.wp P o a w K' Q else K' (a.put o.dst undef) w) : wpLast P md ops Q S L (fuel + 1) listed a w := by
  refine ⟨fun h0 => (by rw [hr] at h0; cases h0), fun j hj => ?_⟩
  rw [hr] at hj
  have e : j = L := by simpa using hj
  subst e
  refine wpOp_step ho (fun K' hK => h K' (fun a w hQ => hK a w ⟨fun h => absurd rfl h, ?_⟩))
  cases fuel with
  | zero => exact ⟨hr2, hQ⟩
  | succ n => exact ⟨fun _ => hQ, by rw [hr2]; simp⟩
theorem wp_region_last {id : Nat} {a : Act} {w : World} (hm : P.follows .mixedOrders = true) (hS : S w.drew)
    (h : S w.drew → wpLast P .any ops Q S L ops.size (Array.replicate ops.size false) a w.drew) : (Code.region id ops true).wp P Q a w :=
  wp_region_any hm (wpAny_of_last _ _ _ _ (h hS))
end
end Go.Proofs.YtclkoffnjiiioaaGreatDoor


namespace Go.Proofs.YtclkoffnjiiioaaGreatDoor
open Go.RowKit
set_option linter.unusedVariables false
set_option linter.unusedSimpArgs false
attribute [local go_sem ↓] Go.wp_at_zero Go.wp_at_succ
theorem escB_plain (c : UInt8) (h1 : 32 ≤ c.toNat) (h2 : c.toNat ≤ 126) (h3 : mkB c = false) : escB c = [c] := by
  unfold mkB at h3
  unfold escB
  rw [if_neg (by simpa using h3), if_pos ⟨h1, h2⟩]
theorem escB_mark (c : UInt8) (h3 : mkB c = true) : escB c = [92, c] := by
  unfold mkB at h3
  unfold escB
  rw [if_pos (by simpa using h3)]
theorem escB_hex (c : UInt8) (h : ¬(32 ≤ c.toNat ∧ c.toNat ≤ 126)) (h3 : mkB c = false) : escB c = [92, 120, hexD (c.toNat / 16), hexD (c.toNat % 16)] := by
  unfold mkB at h3
  unfold escB
  rw [if_neg (by simpa using h3), if_neg (fun hh => h ⟨hh.1, hh.2⟩)]
theorem ix16 (k : Nat) (hk : k < 16) (w : World) : (Instr.index 9 (.string ⟨#[48, 49, 50, 51, 52, 53, 54, 55, 56, 57, 97, 98, 99, 100, 101, 102]⟩) (.int .u8 (k : Int))).run Tryz.prog w = .ok (.int .u8 ((hexD k).toNat : Int)) w := by
  rcases (show k = 0 ∨ k = 1 ∨ k = 2 ∨ k = 3 ∨ k = 4 ∨ k = 5 ∨ k = 6 ∨ k = 7 ∨ k = 8 ∨ k = 9 ∨ k = 10 ∨ k = 11 ∨ k = 12 ∨ k = 13 ∨ k = 14 ∨ k = 15 by omega) with rfl | rfl | rfl | rfl | rfl | rfl | rfl | rfl | rfl | rfl | rfl | rfl | rfl | rfl | rfl | rfl <;> kernel_rfl
end Go.Proofs.YtclkoffnjiiioaaGreatDoor

namespace Go.Proofs.YtclkoffnjiiioaaGreatDoor
open Go.RowKit
set_option linter.unusedVariables false
set_option linter.unusedSimpArgs false
attribute [local go_sem ↓] Go.wp_at_zero Go.wp_at_succ
theorem escB_len (c : UInt8) : (escB c).length ≤ 4 := by
  unfold escB
  split
  · simp
  · split <;> simp
theorem esc_len (l : List UInt8) : (l.flatMap escB).length ≤ 4 * l.length := by
  induction l with
  | nil => simp
  | cons a l ih => rw [List.flatMap_cons, List.length_append, List.length_cons]; have := escB_len a; omega
end Go.Proofs.YtclkoffnjiiioaaGreatDoor

namespace Go.Proofs.YtclkoffnjiiioaaGreatDoor
open Go.RowKit
set_option linter.unusedVariables false
set_option linter.unusedSimpArgs false
attribute [local go_sem ↓] Go.wp_at_zero Go.wp_at_succ
/-- a literal whose numbers are Go's and whose texts are short -/
inductive FineT : LitT → Prop
  | mk (t : LitT) (h0 : 1 ≤ t.kind ∧ t.kind ≤ 7) (h1 : -9223372036854775808 ≤ t.num ∧ t.num ≤ 9223372036854775807) (h2 : t.kind = 2 → t.text.size ≤ 256) (h3 : t.kind = 4 → t.kids.length ≤ 32) (k : t.kind = 4 → ∀ u ∈ t.kids, FineT u) : FineT t
/-- the method that writes an element: whose it is, what it does -/
def EW (W0 : World) (B : Nat) (v : Value) (t : LitT) : Prop := ∃ T u K, v = .iface T u ∧ (∀ w, (method 304 T u "kiln/listing.write").run Tryz.prog w = .ok (K, u) w) ∧ (∀ args w, (callFunc K args).run Tryz.prog w = .ok (.enter K args) w) ∧ (∀ w, (nilAhead 304 T u "kiln/listing.write").run Tryz.prog w = .ok (some false) w) ∧ ∀ (W : World) (pg : Value) (bs : List UInt8), Below B W0 W → Pg W B pg bs → bs.length + (wrT t).length + 64 ≤ 70368744177664 → Calls Tryz.prog K #[u, pg] W fun e w' => WrP W B bs (wrT t) e w'
end Go.Proofs.YtclkoffnjiiioaaGreatDoor

namespace Go.Proofs.YtclkoffnjiiioaaGreatDoor
open Go.RowKit
set_option linter.unusedVariables false
set_option linter.unusedSimpArgs false
attribute [local go_sem ↓] Go.wp_at_zero Go.wp_at_succ
/-- numbers, each behind a blank -/
def numsW (ns : List Int) : List UInt8 := ns.flatMap fun n => 32 :: Lib.itoa n
theorem dec_len : ∀ (k n : Nat), n < 10 ^ (k + 1) → (Lib.decDigits n).length ≤ k + 1
  | 0, n, h => by
    rw [Lib.decDigits]
    rw [dif_pos (by simpa using h)]
    simp
  | k + 1, n, h => by
    rw [Lib.decDigits]
    by_cases hn : n < 10
    · rw [dif_pos hn]; simp
    · rw [dif_neg hn, List.length_append]
      have := dec_len k (n / 10) (by rw [Nat.div_lt_iff_lt_mul (by decide)]; rw [Nat.pow_succ] at h; exact h)
      simp
      omega
theorem itoa_len (n : Int) (h0 : -9223372036854775808 ≤ n) (h1 : n ≤ 9223372036854775807) : (Lib.itoa n).length ≤ 20 := by
  unfold Lib.itoa
  split
  · rw [List.length_cons]
    have := dec_len 18 n.natAbs (by omega)
    omega
  · have := dec_len 18 n.toNat (by omega)
    omega
end Go.Proofs.YtclkoffnjiiioaaGreatDoor

namespace Go.Proofs.YtclkoffnjiiioaaGreatDoor
open Go.RowKit
set_option linter.unusedVariables false
set_option linter.unusedSimpArgs false
attribute [local go_sem ↓] Go.wp_at_zero Go.wp_at_succ
def nmT : List ByteArray := [⟨#[]⟩, ⟨#[115, 101, 108, 102]⟩, ⟨#[110, 105, 108]⟩, ⟨#[116, 114, 117, 101]⟩, ⟨#[102, 97, 108, 115, 101]⟩, ⟨#[105, 110, 116]⟩, ⟨#[108, 105, 116]⟩, ⟨#[115, 121, 109]⟩, ⟨#[99, 108, 97, 115, 115]⟩, ⟨#[102, 105, 101, 108, 100]⟩, ⟨#[116, 101, 109, 112]⟩, ⟨#[103, 108, 111, 98, 97, 108]⟩, ⟨#[115, 116, 111, 114, 101, 102, 105, 101, 108, 100]⟩, ⟨#[115, 116, 111, 114, 101, 116, 101, 109, 112]⟩, ⟨#[115, 116, 111, 114, 101, 103, 108, 111, 98, 97, 108]⟩, ⟨#[112, 111, 112]⟩, ⟨#[100, 117, 112]⟩, ⟨#[115, 101, 110, 100]⟩, ⟨#[115, 117, 112, 101, 114]⟩, ⟨#[98, 108, 111, 99, 107]⟩, ⟨#[114, 101, 116, 117, 114, 110]⟩, ⟨#[104, 111, 109, 101, 114, 101, 116, 117, 114, 110]⟩, ⟨#[98, 108, 111, 99, 107, 114, 101, 116, 117, 114, 110]⟩, ⟨#[106, 117, 109, 112]⟩, ⟨#[105, 102, 116, 114, 117, 101]⟩, ⟨#[105, 102, 102, 97, 108, 115, 101]⟩, ⟨#[98, 97, 99, 107]⟩, ⟨#[102, 105, 114, 115, 116]⟩, ⟨#[110, 101, 120, 116]⟩]
def opT : List Nat := [0, 0, 0, 0, 0, 1, 1, 1, 1, 1, 2, 1, 1, 2, 1, 0, 0, 2, 2, 3, 0, 0, 0, 1, 1, 1, 1, 2, 2]
def nmB (i : Nat) : ByteArray := nmT.getD i ⟨#[]⟩
def opd (i : Nat) : Nat := opT.getD i 0
theorem opd_le (i : Nat) : opd i ≤ 3 := by
  unfold opd opT
  by_cases h : i < 29
  · have : ∀ i, i < 29 → ([0, 0, 0, 0, 0, 1, 1, 1, 1, 1, 2, 1, 1, 2, 1, 0, 0, 2, 2, 3, 0, 0, 0, 1, 1, 1, 1, 2, 2] : List Nat).getD i 0 ≤ 3 := by decide
    exact this i h
  · rw [List.getD_eq_getElem?_getD, List.getElem?_eq_none (by simp; omega)]; simp
/-- the table of operations -/
def Tb (W : World) : Prop := ∀ i, i < 29 → W.cell? ⟨0, i * 2, none⟩ = some (.string (nmB i)) ∧ W.cell? ⟨0, i * 2 + 1, none⟩ = some (.int .i64 (opd i : Int))
theorem Tb.pos {W : World} (h : Tb W) : 0 < W.heap.size := World.block_lt_of_cell? W ⟨0, 0, none⟩ (h 0 (by decide)).1
def isOp (o : Int) : Bool := decide (1 ≤ o) && decide (o ≤ 28)
/-- an instruction's line -/
def insW (at_ o : Nat) (ns : List Int) : List UInt8 := Lib.itoa (at_ : Int) ++ [32] ++ (nmB o).data.toList ++ numsW ns ++ [10]
/-- the lines of whole instructions -/
def lnW (ws : List Int) : Nat → Nat → Option (List UInt8)
  | 0, _ => none
  | f + 1, a => if a < ws.length then (if isOp (ws.getD a 0) = true ∧ a + 1 + opd (ws.getD a 0).toNat ≤ ws.length then (lnW ws f (a + 1 + opd (ws.getD a 0).toNat)).map (insW a (ws.getD a 0).toNat ((ws.drop (a + 1)).take (opd (ws.getD a 0).toNat)) ++ ·) else none) else some []
set_option maxHeartbeats 1000000 in
theorem isOperation_ok (o : Int) (w : World) : Calls Tryz.prog 30 #[.int .i64 o] w fun e w' => e = .returned (.bool (isOp o)) ∧ w' = w := by
  have HO : Hid (isOp o = (decide (1 ≤ o) && decide (o ≤ 28))) := rfl
  rw [HO.out]
  by_cases h1 : 1 ≤ o
  · by_cases h2 : o ≤ 28
    all_goals
      go_enter Tryz.func30, Tryz.ntmps30
      go_wp2_with fail
      all_goals
        go_ret
        exact ⟨by simp [h1, h2], rfl⟩
  · have q1 : decide (1 ≤ o) = false := decide_eq_false h1
    go_enter Tryz.func30, Tryz.ntmps30
    go_wp2_with fail
    all_goals
      go_ret
      exact ⟨by simp [h1], rfl⟩
end Go.Proofs.YtclkoffnjiiioaaGreatDoor

namespace Go.Proofs.YtclkoffnjiiioaaGreatDoor
open Go.RowKit
set_option linter.unusedVariables false
set_option linter.unusedSimpArgs false
attribute [local go_sem ↓] Go.wp_at_zero Go.wp_at_succ
def headW (a b d : Int) : List UInt8 := [99, 111, 100, 101] ++ numsW [a, b, d] ++ [10]
end Go.Proofs.YtclkoffnjiiioaaGreatDoor

namespace Go.Proofs.YtclkoffnjiiioaaGreatDoor
open Go.RowKit
set_option linter.unusedVariables false
set_option linter.unusedSimpArgs false
attribute [local go_sem ↓] Go.wp_at_zero Go.wp_at_succ
def litW (t : LitT) : List UInt8 := (if t.kind = 2 then [116, 101, 120, 116, 32] else [97, 114, 114, 97, 121, 32]) ++ wrT t ++ [10]
end Go.Proofs.YtclkoffnjiiioaaGreatDoor

namespace Go.Proofs.YtclkoffnjiiioaaGreatDoor
open Go.RowKit
set_option linter.unusedVariables false
set_option linter.unusedSimpArgs false
attribute [local go_sem ↓] Go.wp_at_zero Go.wp_at_succ
end Go.Proofs.YtclkoffnjiiioaaGreatDoor

namespace Go.Proofs.YtclkoffnjiiioaaGreatDoor
open Go.RowKit
set_option linter.unusedVariables false
set_option linter.unusedSimpArgs false
/-- a literal whose numbers are Go's -/
inductive NmT : LitT → Prop
  | mk (t : LitT) (h : -9223372036854775808 ≤ t.num ∧ t.num ≤ 9223372036854775807) (k : ∀ u ∈ t.kids, NmT u) : NmT t
theorem NmT.num {t : LitT} (h : NmT t) : -9223372036854775808 ≤ t.num ∧ t.num ≤ 9223372036854775807 := by cases h; assumption
theorem NmT.kids {t : LitT} (h : NmT t) : ∀ u ∈ t.kids, NmT u := by cases h; assumption
end Go.Proofs.YtclkoffnjiiioaaGreatDoor

