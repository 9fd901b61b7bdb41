import Derived.Test.YtclkoffnjiiioaaGreatDoorG01IPm
import Derived.Laws.IdiomStrings
import Derived.Laws.BytesArg
import Derived.Lib.AtoiAll
import Derived.Lib.Strings
import Derived.Lib.Bytealg
import Derived.Shelf.Small.Strs
import Derived.Shelf.Strings.SlTrimAscii
import Derived.Shelf.LaysC
import Derived.Shelf.Strconv.AtoiAll
import Derived.Shelf.Strings.Search1
import Derived.Shelf.Strings.Search2
import Derived.Shelf.Strings.Prefix
import Derived.Test.YtclkoffnjiiioaaGreatDoorChecked
import Derived.WalkKit
import Derived.OpenShut
import Derived.FnData
import Derived.SizedLaws
import Derived.Deep.Slices
import Derived.ChangeSlices
namespace Go.Proofs.YtclkoffnjiiioaaGreatDoor
open Go.RowKit
set_option linter.unusedVariables false
set_option linter.unusedSimpArgs false
attribute [local go_sem ↓] Go.wp_at_zero Go.wp_at_succ
/-- a page becomes a text -/
theorem Pg.conv {W : World} {B : Nat} {v : Value} {bs : List UInt8} (h : Pg W B v bs) : (convert 57 9 v).run Tryz.prog W = .ok (.string ⟨bs.toArray⟩) W := by
  have hr := h.row
  rcases hr.2 with ⟨rfl, h0⟩ | ⟨g, cap, cur, rfl, h1, h2, h3, h4, h5, h6⟩
  · have hb : bs = [] := List.length_eq_zero_iff.1 h0
    subst hb
    exact run_convert_bytes_nil W 57 5 Tryz.underlying57 Tryz.underlying5 0 0 9 Tryz.underlying9
  · refine run_convert_bytes_back W 57 9 5 ⟨g, 0, none⟩ cap bs Tryz.underlying57 Tryz.underlying5 Tryz.underlying9 (fun j hj => ?_)
    have hp : (⟨g, 0, none⟩ : Addr).add j = ⟨g, j, none⟩ := by rw [Addr.add_mid]; simp
    rw [hp, hr.cellAt j (by omega)]
    simp [Lib.byteCells, List.getElem?_eq_getElem hj]
/-- the library's table of powers of ten lies there -/
abbrev Pw (w : World) : Prop := Lib.TabIs Tryz.prog w "internal/strconv.uint64pow10" .u64 Lib.pow10Tab
theorem Pw.low {w w' : World} {B : Nat} (h : Pw w) (hB : w.heap.size ≤ B) (b : Below B w w') : Pw w' := by
  unfold Pw Lib.TabIs World.var? at h ⊢
  cases hg : Tryz.prog.globalNamed "internal/strconv.uint64pow10" with
  | none => rw [hg] at h; cases h
  | some g =>
  rw [hg] at h
  simp only [Option.bind_some] at h ⊢
  have hlt : g < w.heap.size := by
    rcases Nat.lt_or_ge g w.heap.size with h1 | h1
    · exact h1
    · rw [Array.getElem?_eq_none h1] at h
      cases h
  rw [b.block g (by omega)]
  exact h
theorem Pw.tab {w : World} {B : Nat} (h : Pw w) (hB : w.heap.size ≤ B) : Lib.TabBelow Tryz.prog B w "internal/strconv.uint64pow10" .u64 Lib.pow10Tab := fun w' hb => h.low hB hb
theorem Pw.idle {w w' : World} (h : Pw w) (f : Fr [] w w') : Pw w' := h.low (Nat.le_refl _) (f.below (Nat.le_refl _) (by simp))
/-- a code -/
structure Co where
  args : Int
  temps : Int
  stack : Int
  ts : List LitT
  ws : List Int
def Co.v (K : Co) (lp : Option Addr) (lc : Nat) (pw : Option Addr) (cw : Nat) : Array Value := #[.int .i64 K.args, .int .i64 K.temps, .int .i64 K.stack, .slice lp K.ts.length lc, .slice pw K.ws.length cw]
def r64 (n : Int) : Prop := -9223372036854775808 ≤ n ∧ n ≤ 9223372036854775807
/-- a code in memory -/
structure CoR (W : World) (K : Co) (lp : Option Addr) (lc : Nat) (pw : Option Addr) (cw : Nat) : Prop where
  words : Rd W (.slice pw K.ws.length cw) K.ws
  cap : K.ws.length ≤ cw
  lits : LitsR W lp lc K.ts
  nums : ∀ t ∈ K.ts, NmT t
  rng : ∀ i, -9223372036854775808 ≤ K.ws.getD i 0 ∧ K.ws.getD i 0 ≤ 9223372036854775807
  hd : r64 K.args ∧ r64 K.temps ∧ r64 K.stack
  tb : Tb W
  pw : Pw W
/-- what Print answers -/
def prP (K : Co) : Int × List UInt8 :=
  if 4096 < K.ws.length ∨ 64 < K.ts.length then (73, [])
  else if (gaU K.ts 0).1 ≠ 0 then ((gaU K.ts 0).1, [])
  else match lnW K.ws (K.ws.length + 1) 0 with
    | none => (110, [])
    | some o => (0, headW K.args K.temps K.stack ++ K.ts.flatMap litW ++ o)
theorem below_fr {w w' : World} (h : Below w.heap.size w w') : Fr [] w w' := ⟨h.os, h.tape, h.output, h.size, fun k hk _ => h.block k hk⟩
end Go.Proofs.YtclkoffnjiiioaaGreatDoor

namespace Go.Proofs.YtclkoffnjiiioaaGreatDoor
open Go.RowKit
set_option linter.unusedVariables false
set_option linter.unusedSimpArgs false
abbrev Bs := List UInt8
/-- a piece that must stand ahead -/
def tokP (p r : Bs) : Option Bs := if Lib.hasPrefix r p = true then some (r.drop p.length) else none
def isNB (b : UInt8) : Bool := [45, 48, 49, 50, 51, 52, 53, 54, 55, 56, 57].contains b
/-- a number in the one way in which it is written -/
def numP (r : Bs) : Option (Int × Bs) :=
  match Lib.atoiAll (r.takeWhile isNB) with
  | .ok v => if Lib.itoa v = r.takeWhile isNB then some (v, r.dropWhile isNB) else none
  | _ => none
def markB (c : UInt8) : Bool := c == 39 || c == 92
def plainB (c : UInt8) : Bool := decide (32 ≤ c) && decide (c ≤ 126) && !markB c
def hexT : Bs := [48, 49, 50, 51, 52, 53, 54, 55, 56, 57, 97, 98, 99, 100, 101, 102]
/-- the digits of a byte that is not written as it stands -/
def hidP : Bs → Option (UInt8 × Bs)
  | a :: b :: r =>
    if Lib.indexByte hexT a < 0 ∨ Lib.indexByte hexT b < 0 then none
    else
      let c := UInt8.ofNat ((Lib.indexByte hexT a).toNat * 16 + (Lib.indexByte hexT b).toNat)
      if plainB c = false ∧ markB c = false then some (c, r) else none
  | _ => none
/-- a byte of a text -/
def oneP (r : Bs) : Option (UInt8 × Bs) :=
  match tokP [92, 120] r with
  | some r' => hidP r'
  | none =>
    match tokP [92] r with
    | some (c :: r') => if markB c = true then some (c, r') else none
    | some [] => none
    | none =>
      match r with
      | c :: r' => if plainB c = true then some (c, r') else none
      | [] => none
/-- the bytes of a text, up to its end -/
def quoP : Nat → Bs → Bs → Option (Bs × Bs)
  | 0, _, _ => none
  | f + 1, r, acc =>
    match tokP [39] r with
    | some r' => some (acc, r')
    | none =>
      match oneP r with
      | none => none
      | some (c, r') => if acc.length = 256 then none else quoP f r' (acc ++ [c])
/-- a text -/
def txtP (r : Bs) : Option (LitS × Bs) :=
  match tokP [39] r with
  | none => none
  | some r' =>
    match quoP (r'.length + 1) r' [] with
    | none => none
    | some (b, r2) => some (.mk 2 ⟨b.toArray⟩ 0 [], r2)
def noTx : ByteArray := ⟨#[]⟩
def symP (r : Bs) : Option (LitS × Bs) :=
  match tokP [35] r with
  | none => none
  | some r' =>
    match numP r' with
    | none => none
    | some (n, r2) => some (.mk 3 noTx n [], r2)
def conP (r : Bs) : Option (LitS × Bs) :=
  match tokP [110, 105, 108] r with
  | some r' => some (.mk 5 noTx 0 [], r')
  | none =>
    match tokP [116, 114, 117, 101] r with
    | some r' => some (.mk 6 noTx 0 [], r')
    | none =>
      match tokP [102, 97, 108, 115, 101] r with
      | some r' => some (.mk 7 noTx 0 [], r')
      | none => none
def intP (r : Bs) : Option (LitS × Bs) :=
  match numP r with
  | none => none
  | some (n, r2) => some (.mk 1 noTx n [], r2)
/-- the first byte; 10: there is none -/
def fstB (r : Bs) : UInt8 := r.headD 10
mutual
/-- an element -/
def eleP : Nat → Bs → Nat → Option (LitS × Bs × Nat)
  | 0, _, _ => none
  | f + 1, r, n =>
    if fstB r = 40 then
      match tokP [40] r with
      | none => none
      | some r' =>
        match arrP f r' n [] with
        | none => none
        | some (l, r2, n2) => some (.mk 4 noTx 0 l, r2, n2)
    else
      match (if fstB r = 39 then txtP r else if fstB r = 35 then symP r else if fstB r = 110 ∨ fstB r = 116 ∨ fstB r = 102 then conP r else intP r) with
      | none => none
      | some (x, r2) => some (x, r2, n)
/-- elements, up to the array's end -/
def arrP : Nat → Bs → Nat → List LitS → Option (List LitS × Bs × Nat)
  | 0, _, _, _ => none
  | f + 1, r, n, acc =>
    match tokP [41] r with
    | some r' => some (acc, r', n)
    | none =>
      match (if acc.length = 0 then some r else tokP [32] r) with
      | none => none
      | some r1 =>
        if acc.length = 32 ∨ n = 4096 then none
        else
          match eleP f r1 (n + 1) with
          | none => none
          | some (x, r2, n2) => arrP f r2 n2 (acc ++ [x])
end
/-- so many numbers, a blank ahead of each -/
def numsP : Nat → Bs → Option (List Int × Bs)
  | 0, r => some ([], r)
  | k + 1, r =>
    match tokP [32] r with
    | none => none
    | some r1 =>
      match numP r1 with
      | none => none
      | some (n, r2) =>
        match numsP k r2 with
        | none => none
        | some (l, r3) => some (n :: l, r3)
/-- the head's line -/
def headP (l : Bs) : Option (List Int) :=
  match tokP [99, 111, 100, 101] l with
  | none => none
  | some r =>
    match numsP 3 r with
    | some (ns, []) => some ns
    | _ => none
/-- an array behind its bracket, in an element or by itself -/
def arrT (r : Bs) (n : Nat) : Option (LitS × Bs × Nat) :=
  match tokP [40] r with
  | none => none
  | some r' =>
    match arrP (2 * r'.length + 2) r' n [] with
    | none => none
    | some (l, r2, n2) => some (.mk 4 noTx 0 l, r2, n2)
/-- a literal's line -/
def litP (l : Bs) (k n : Nat) : Option (LitS × Nat) :=
  if k = 64 then none
  else
    match tokP [116, 101, 120, 116, 32] l with
    | some r =>
      (match txtP r with
      | some (x, []) => some (x, n)
      | _ => none)
    | none =>
      match tokP [97, 114, 114, 97, 121, 32] l with
      | some r =>
        (match arrT r n with
        | some (x, [], n2) => some (x, n2)
        | _ => none)
      | none => none
/-- the number of an operation's name; 0: it is none -/
def opN (b : Bs) : Nat := ((List.range 28).find? fun i => (nmB (i + 1)).data.toList == b).elim 0 (· + 1)
/-- an instruction's line, behind so many words -/
def insP (l : Bs) (k : Nat) : Option (List Int) :=
  match numP l with
  | none => none
  | some (pl, r) =>
    if pl ≠ (k : Int) then none
    else
      match tokP [32] r with
      | none => none
      | some r1 =>
        if opN (r1.takeWhile (· != 32)) = 0 ∨ 4096 < k + 1 + opd (opN (r1.takeWhile (· != 32))) then none
        else
          match numsP (opd (opN (r1.takeWhile (· != 32)))) (r1.dropWhile (· != 32)) with
          | some (ns, []) => some ((opN (r1.takeWhile (· != 32)) : Int) :: ns)
          | _ => none
/-- a line, and what is behind it -/
def cutP (t : Bs) : Option (Bs × Bs) := if Lib.indexByte t 10 < 0 then none else some (t.take (Lib.indexByte t 10).toNat, t.drop ((Lib.indexByte t 10).toNat + 1))
def litsP : Nat → Bs → Nat → List LitS → Nat → Bs × List LitS × Nat
  | 0, t, n, ls, k => (t, ls, k)
  | f + 1, t, n, ls, k =>
    match cutP t with
    | none => (t, ls, k)
    | some (l, b) =>
      match litP l ls.length n with
      | none => (t, ls, k)
      | some (x, n2) => litsP f b n2 (ls ++ [x]) (k + 1)
def inssP : Nat → Bs → List Int → Nat → Bs × List Int × Nat
  | 0, t, ws, k => (t, ws, k)
  | f + 1, t, ws, k =>
    match cutP t with
    | none => (t, ws, k)
    | some (l, b) =>
      match insP l ws.length with
      | none => (t, ws, k)
      | some vs => inssP f b (ws ++ vs) (k + 1)
/-- a code, wherever it lies -/
structure CoS where
  hd : List Int
  ls : List LitS
  ws : List Int
/-- what Parse answers: the code, or the line -/
def parP (t : Bs) : CoS ⊕ Nat :=
  match cutP t with
  | none => .inr 1
  | some (l, b) =>
    match headP l with
    | none => .inr 1
    | some ns =>
      let a := litsP (b.length + 1) b 0 [] 1
      let c := inssP (a.1.length + 1) a.1 [] a.2.2
      if c.1 = [] then .inl ⟨ns, a.2.1, c.2.1⟩ else .inr (c.2.2 + 1)
end Go.Proofs.YtclkoffnjiiioaaGreatDoor
namespace Go.Proofs.YtclkoffnjiiioaaGreatDoor
open Go Go.Shelf
set_option linter.unusedVariables false
def Tryz.lays161_ren : Go.Shelf.Ren := ⟨fun | 161 => 69 | 231 => 84 | 227 => 85 | 233 => 86 | 235 => 87 | 228 => 104 | 197 => 105 | 151 => 106 | 260 => 116 | 152 => 117 | 137 => 100 | 119 => 121 | 224 => 97 | 225 => 96 | 217 => 95 | 266 => 114 | n => n, fun | 9 => 9 | 4 => 4 | 3 => 3 | 5 => 5 | 117 => 147 | 116 => 146 | 0 => 0 | 124 => 150 | 105 => 160 | 21 => 21 | 119 => 180 | 46 => 156 | 139 => 183 | 138 => 182 | n => n, fun | 3 => 7 | 4 => 8 | n => n⟩
theorem Tryz.lays161 : Go.Proofs.Lays.n161 Tryz.prog Tryz.lays161_ren := {
  mixed := by kernel_rfl
  f119 := Tryz.func121.trans (congrArg some (by kernel_rfl))
  f137 := Tryz.func100.trans (congrArg some (by kernel_rfl))
  f151 := Tryz.func106.trans (congrArg some (by kernel_rfl))
  f152 := Tryz.func117.trans (congrArg some (by kernel_rfl))
  f161 := Tryz.func69.trans (congrArg some (by kernel_rfl))
  f197 := Tryz.func105.trans (congrArg some (by kernel_rfl))
  f217 := Tryz.func95.trans (congrArg some (by kernel_rfl))
  f224 := Tryz.func97.trans (congrArg some (by kernel_rfl))
  f225 := Tryz.func96.trans (congrArg some (by kernel_rfl))
  f227 := Tryz.func85.trans (congrArg some (by kernel_rfl))
  f228 := Tryz.func104.trans (congrArg some (by kernel_rfl))
  f231 := Tryz.func84.trans (congrArg some (by kernel_rfl))
  f233 := Tryz.func86.trans (congrArg some (by kernel_rfl))
  f235 := Tryz.func87.trans (congrArg some (by kernel_rfl))
  f260 := Tryz.func116.trans (congrArg some (by kernel_rfl))
  f266 := Tryz.func114.trans (congrArg some (by kernel_rfl))
  t0 := Tryz.underlying0
  a0 := Tryz.isAgg0
  z0 := Tryz.sizeOf0
  v0 := Tryz.zeroValue0
  t3 := Tryz.underlying3
  a3 := Tryz.isAgg3
  z3 := Tryz.sizeOf3
  v3 := Tryz.zeroValue3
  t4 := Tryz.underlying4
  a4 := Tryz.isAgg4
  z4 := Tryz.sizeOf4
  v4 := Tryz.zeroValue4
  t5 := Tryz.underlying5
  a5 := Tryz.isAgg5
  z5 := Tryz.sizeOf5
  v5 := Tryz.zeroValue5
  t9 := Tryz.underlying9
  a9 := Tryz.isAgg9
  z9 := Tryz.sizeOf9
  v9 := Tryz.zeroValue9
  t21 := Tryz.underlying21
  a21 := Tryz.isAgg21
  z21 := Tryz.sizeOf21
  v21 := Tryz.zeroValue21
  t46 := Tryz.underlying156
  a46 := Tryz.isAgg156
  z46 := Tryz.sizeOf156
  v46 := Tryz.zeroValue156
  t105 := Tryz.underlying160
  a105 := Tryz.isAgg160
  z105 := Tryz.sizeOf160
  v105 := Tryz.zeroValue160
  t116 := Tryz.underlying146
  a116 := Tryz.isAgg146
  z116 := Tryz.sizeOf146
  t117 := Tryz.underlying147
  a117 := Tryz.isAgg147
  z117 := Tryz.sizeOf147
  v117 := Tryz.zeroValue147
  t119 := Tryz.underlying180
  a119 := Tryz.isAgg180
  z119 := Tryz.sizeOf180
  t124 := Tryz.underlying150
  a124 := Tryz.isAgg150
  z124 := Tryz.sizeOf150
  v124 := Tryz.zeroValue150
  t138 := Tryz.underlying182
  a138 := Tryz.isAgg182
  z138 := Tryz.sizeOf182
  v138 := Tryz.zeroValue182
  t139 := Tryz.underlying183
  a139 := Tryz.isAgg183
  z139 := Tryz.sizeOf183
  v139 := Tryz.zeroValue183
  g3 := by kernel_rfl
  g4 := by kernel_rfl }
def Tryz.lays137_ren : Go.Shelf.Ren := ⟨fun | 137 => 100 | 217 => 95 | 266 => 114 | n => n, fun | 9 => 9 | 5 => 5 | 3 => 3 | n => n, fun | n => n⟩
theorem Tryz.lays137 : Go.Proofs.Lays.n137 Tryz.prog Tryz.lays137_ren := {
  mixed := by kernel_rfl
  f137 := Tryz.func100.trans (congrArg some (by kernel_rfl))
  f217 := Tryz.func95.trans (congrArg some (by kernel_rfl))
  f266 := Tryz.func114.trans (congrArg some (by kernel_rfl))
  t3 := Tryz.underlying3
  a3 := Tryz.isAgg3
  z3 := Tryz.sizeOf3
  v3 := Tryz.zeroValue3
  t5 := Tryz.underlying5
  a5 := Tryz.isAgg5
  z5 := Tryz.sizeOf5
  v5 := Tryz.zeroValue5
  t9 := Tryz.underlying9
  a9 := Tryz.isAgg9
  z9 := Tryz.sizeOf9
  v9 := Tryz.zeroValue9 }
open Go.RowKit in
theorem Tryz.strings_IndexByte (s : ByteArray) (c : Int) (w : World) :
    Calls Tryz.prog 100 #[.string s, .int .u8 c] w fun e w' => e = .returned (.int .i64 (Lib.indexByte s.data.toList c.toNat.toUInt8)) ∧ w' = w := Any.strings_IndexByte Tryz.lays137 s c w
def Tryz.laysC172_ren : Go.Shelf.Ren := ⟨fun | 172 => 70 | 244 => 88 | 245 => 89 | 247 => 107 | 279 => 108 | 280 => 109 | 281 => 110 | 282 => 111 | 287 => 118 | 316 => 119 | 171 => 46 | 205 => 120 | 321 => 122 | 322 => 123 | 243 => 63 | 246 => 72 | 283 => 73 | 284 => 74 | 285 => 75 | 286 => 76 | 129 => 91 | 317 => 90 | 318 => 92 | 319 => 93 | 320 => 94 | 337 => 112 | 338 => 113 | n => n, fun | 9 => 9 | 3 => 3 | 75 => 130 | 76 => 131 | 4 => 4 | 5 => 5 | 167 => 163 | 37 => 57 | 0 => 0 | 85 => 164 | 2 => 2 | 168 => 166 | 53 => 121 | 175 => 173 | 46 => 156 | 210 => 176 | 127 => 186 | 145 => 189 | 143 => 187 | 21 => 21 | 171 => 135 | 173 => 138 | 212 => 153 | 51 => 154 | 20 => 20 | 213 => 155 | 232 => 178 | 233 => 179 | 80 => 95 | n => n, fun | 15 => 3 | 16 => 4 | 17 => 1 | 18 => 5 | 19 => 6 | n => n⟩
theorem Tryz.laysC172 : Go.Proofs.LaysC.n172 Tryz.prog Tryz.laysC172_ren := {
  mixed := by kernel_rfl
  f129 := Tryz.func91.trans (congrArg some (by kernel_rfl))
  f171 := Tryz.func46.trans (congrArg some (by kernel_rfl))
  f172 := Tryz.func70.trans (congrArg some (by kernel_rfl))
  f205 := Tryz.func120.trans (congrArg some (by kernel_rfl))
  f243 := Tryz.func63.trans (congrArg some (by kernel_rfl))
  f244 := Tryz.func88.trans (congrArg some (by kernel_rfl))
  f245 := Tryz.func89.trans (congrArg some (by kernel_rfl))
  f246 := Tryz.func72.trans (congrArg some (by kernel_rfl))
  f247 := Tryz.func107.trans (congrArg some (by kernel_rfl))
  f279 := Tryz.func108.trans (congrArg some (by kernel_rfl))
  f280 := Tryz.func109.trans (congrArg some (by kernel_rfl))
  f281 := Tryz.func110.trans (congrArg some (by kernel_rfl))
  f282 := Tryz.func111.trans (congrArg some (by kernel_rfl))
  f283 := Tryz.func73.trans (congrArg some (by kernel_rfl))
  f284 := Tryz.func74.trans (congrArg some (by kernel_rfl))
  f285 := Tryz.func75.trans (congrArg some (by kernel_rfl))
  f286 := Tryz.func76.trans (congrArg some (by kernel_rfl))
  f287 := Tryz.func118.trans (congrArg some (by kernel_rfl))
  f316 := Tryz.func119.trans (congrArg some (by kernel_rfl))
  f317 := Tryz.func90.trans (congrArg some (by kernel_rfl))
  f318 := Tryz.func92.trans (congrArg some (by kernel_rfl))
  f319 := Tryz.func93.trans (congrArg some (by kernel_rfl))
  f320 := Tryz.func94.trans (congrArg some (by kernel_rfl))
  f321 := Tryz.func122.trans (congrArg some (by kernel_rfl))
  f322 := Tryz.func123.trans (congrArg some (by kernel_rfl))
  f337 := Tryz.func112.trans (congrArg some (by kernel_rfl))
  f338 := Tryz.func113.trans (congrArg some (by kernel_rfl))
  t0 := Tryz.underlying0
  a0 := Tryz.isAgg0
  z0 := Tryz.sizeOf0
  v0 := Tryz.zeroValue0
  t2 := Tryz.underlying2
  a2 := Tryz.isAgg2
  z2 := Tryz.sizeOf2
  v2 := Tryz.zeroValue2
  t3 := Tryz.underlying3
  a3 := Tryz.isAgg3
  z3 := Tryz.sizeOf3
  v3 := Tryz.zeroValue3
  t4 := Tryz.underlying4
  a4 := Tryz.isAgg4
  z4 := Tryz.sizeOf4
  v4 := Tryz.zeroValue4
  t5 := Tryz.underlying5
  a5 := Tryz.isAgg5
  z5 := Tryz.sizeOf5
  v5 := Tryz.zeroValue5
  t9 := Tryz.underlying9
  a9 := Tryz.isAgg9
  z9 := Tryz.sizeOf9
  v9 := Tryz.zeroValue9
  t20 := Tryz.underlying20
  a20 := Tryz.isAgg20
  z20 := Tryz.sizeOf20
  v20 := Tryz.zeroValue20
  t21 := Tryz.underlying21
  a21 := Tryz.isAgg21
  z21 := Tryz.sizeOf21
  v21 := Tryz.zeroValue21
  t37 := Tryz.underlying57
  a37 := Tryz.isAgg57
  z37 := Tryz.sizeOf57
  v37 := Tryz.zeroValue57
  t46 := Tryz.underlying156
  a46 := Tryz.isAgg156
  z46 := Tryz.sizeOf156
  v46 := Tryz.zeroValue156
  t51 := Tryz.underlying154
  a51 := Tryz.isAgg154
  z51 := Tryz.sizeOf154
  v51 := Tryz.zeroValue154
  t53 := Tryz.underlying121
  a53 := Tryz.isAgg121
  z53 := Tryz.sizeOf121
  v53 := Tryz.zeroValue121
  t75 := Tryz.underlying130
  a75 := Tryz.isAgg130
  z75 := Tryz.sizeOf130
  v75 := Tryz.zeroValue130
  t76 := Tryz.underlying131
  a76 := Tryz.isAgg131
  z76 := Tryz.sizeOf131
  v76 := Tryz.zeroValue131
  t85 := Tryz.underlying164
  a85 := Tryz.isAgg164
  z85 := Tryz.sizeOf164
  v85 := Tryz.zeroValue164
  t127 := Tryz.underlying186
  a127 := Tryz.isAgg186
  z127 := Tryz.sizeOf186
  v127 := Tryz.zeroValue186
  t143 := Tryz.underlying187
  a143 := Tryz.isAgg187
  z143 := Tryz.sizeOf187
  v143 := Tryz.zeroValue187
  t145 := Tryz.underlying189
  a145 := Tryz.isAgg189
  z145 := Tryz.sizeOf189
  v145 := Tryz.zeroValue189
  t167 := Tryz.underlying163
  a167 := Tryz.isAgg163
  z167 := Tryz.sizeOf163
  v167 := Tryz.zeroValue163
  t168 := Tryz.underlying166
  a168 := Tryz.isAgg166
  z168 := Tryz.sizeOf166
  v168 := Tryz.zeroValue166
  t171 := Tryz.underlying135
  a171 := Tryz.isAgg135
  z171 := Tryz.sizeOf135
  v171 := Tryz.zeroValue135
  t173 := Tryz.underlying138
  a173 := Tryz.isAgg138
  z173 := Tryz.sizeOf138
  v173 := Tryz.zeroValue138
  t175 := Tryz.underlying173
  a175 := Tryz.isAgg173
  z175 := Tryz.sizeOf173
  v175 := Tryz.zeroValue173
  t210 := Tryz.underlying176
  a210 := Tryz.isAgg176
  z210 := Tryz.sizeOf176
  v210 := Tryz.zeroValue176
  t212 := Tryz.underlying153
  a212 := Tryz.isAgg153
  z212 := Tryz.sizeOf153
  v212 := Tryz.zeroValue153
  t213 := Tryz.underlying155
  a213 := Tryz.isAgg155
  z213 := Tryz.sizeOf155
  t232 := Tryz.underlying178
  a232 := Tryz.isAgg178
  z232 := Tryz.sizeOf178
  v232 := Tryz.zeroValue178
  t233 := Tryz.underlying179
  a233 := Tryz.isAgg179
  z233 := Tryz.sizeOf179
  v233 := Tryz.zeroValue179
  g15 := by kernel_rfl
  g16 := by kernel_rfl
  g17 := by kernel_rfl
  g18 := by kernel_rfl
  g19 := by kernel_rfl
  t80 := Tryz.underlying95
  a80 := Tryz.isAgg95
  z80 := Tryz.sizeOf95
  v80 := Tryz.zeroValue95
  i0 := by kernel_rfl
  i2 := by kernel_rfl
  i3 := by kernel_rfl
  i4 := by kernel_rfl
  i5 := by kernel_rfl
  i9 := by kernel_rfl
  i20 := by kernel_rfl
  i21 := by kernel_rfl
  i37 := by kernel_rfl
  i46 := by kernel_rfl
  i51 := by kernel_rfl
  i53 := by kernel_rfl
  i75 := by kernel_rfl
  i76 := by kernel_rfl
  i80 := by kernel_rfl
  i85 := by kernel_rfl
  i127 := by kernel_rfl
  i143 := by kernel_rfl
  i145 := by kernel_rfl
  i167 := by kernel_rfl
  i168 := by kernel_rfl
  i171 := by kernel_rfl
  i173 := by kernel_rfl
  i175 := by kernel_rfl
  i210 := by kernel_rfl
  i212 := by kernel_rfl
  i232 := by kernel_rfl
  i233 := by kernel_rfl
  m15 := by kernel_rfl
  m16 := by kernel_rfl
  m17 := by kernel_rfl
  m18 := by kernel_rfl
  m19 := by kernel_rfl
  c0 := by kernel_rfl
  c2 := by kernel_rfl
  c3 := by kernel_rfl
  c4 := by kernel_rfl
  c5 := by kernel_rfl
  c9 := by kernel_rfl
  c20 := by kernel_rfl
  c21 := by kernel_rfl
  c37 := by kernel_rfl
  c46 := by kernel_rfl
  c51 := by kernel_rfl
  c53 := by kernel_rfl
  c75 := by kernel_rfl
  c76 := by kernel_rfl
  c80 := by kernel_rfl
  c85 := by kernel_rfl
  c127 := by kernel_rfl
  c143 := by kernel_rfl
  c145 := by kernel_rfl
  c167 := by kernel_rfl
  c168 := by kernel_rfl
  c171 := by kernel_rfl
  c173 := by kernel_rfl
  c175 := by kernel_rfl
  c210 := by kernel_rfl
  c212 := by kernel_rfl
  c213 := by kernel_rfl
  c232 := by kernel_rfl
  c233 := by kernel_rfl }
open Go.RowKit in
theorem Tryz.strconv_Atoi_ok (s : ByteArray) (hmax : s.size ≤ 9223372036854775806) (v : Int) (h : Lib.atoiAll s.data.toList = .ok v) (w : World) :
    Calls Tryz.prog 70 #[.string s] w fun e w' => e = .returned (.tuple #[.int .i64 v, .nilIface]) ∧ (w' = w ∨ ∃ t, w' = Lib.bytesWorld w 5 t) := Any.strconv_Atoi_ok Tryz.laysC172 s hmax v h w
open Go.RowKit in
theorem Tryz.strconv_Atoi_syntax (s : ByteArray) (hlim : s.size ≤ 281474976710656) (h : Lib.atoiAll s.data.toList = .«syntax») (ev : Value) (w : World) (hv : w.cell? ⟨3, 0, none⟩ = some ev) (hev : ev = .nilIface ∨ ∃ te pe, ev = .iface te pe) :
    Calls Tryz.prog 70 #[.string s] w fun e w' => ∃ N, e = .returned (.tuple #[.int .i64 (0), .iface 166 (.pointer (some ⟨N, 0, none⟩))]) ∧ w.heap.size ≤ N ∧ w'.heap[N]? = some (.cells #[.string ⟨#[65, 116, 111, 105]⟩, .string s, ev] 176 (0, 0)) ∧ Below w.heap.size w w' := Any.strconv_Atoi_syntax Tryz.laysC172 s hlim h ev w hv hev
open Go.RowKit in
theorem Tryz.strconv_Atoi_range (s : ByteArray) (hlim : s.size ≤ 281474976710656) (h : Lib.atoiAll s.data.toList = .range) (ev : Value) (w : World) (hv : w.cell? ⟨4, 0, none⟩ = some ev) (hev : ev = .nilIface ∨ ∃ te pe, ev = .iface te pe) :
    Calls Tryz.prog 70 #[.string s] w fun e w' => ∃ N, e = .returned (.tuple #[.int .i64 (Lib.atoiSat s.data.toList), .iface 166 (.pointer (some ⟨N, 0, none⟩))]) ∧ w.heap.size ≤ N ∧ w'.heap[N]? = some (.cells #[.string ⟨#[65, 116, 111, 105]⟩, .string s, ev] 176 (0, 0)) ∧ Below w.heap.size w w' := Any.strconv_Atoi_range Tryz.laysC172 s hlim h ev w hv hev
def Tryz.lays219_ren : Go.Shelf.Ren := ⟨fun | 219 => 77 | 217 => 95 | 225 => 96 | 224 => 97 | 267 => 98 | 266 => 114 | 314 => 115 | n => n, fun | 9 => 9 | 3 => 3 | 4 => 4 | 5 => 5 | 46 => 156 | 146 => 170 | 51 => 154 | n => n, fun | 1 => 2 | n => n⟩
theorem Tryz.lays219 : Go.Proofs.Lays.n219 Tryz.prog Tryz.lays219_ren := {
  mixed := by kernel_rfl
  f217 := Tryz.func95.trans (congrArg some (by kernel_rfl))
  f219 := Tryz.func77.trans (congrArg some (by kernel_rfl))
  f224 := Tryz.func97.trans (congrArg some (by kernel_rfl))
  f225 := Tryz.func96.trans (congrArg some (by kernel_rfl))
  f266 := Tryz.func114.trans (congrArg some (by kernel_rfl))
  f267 := Tryz.func98.trans (congrArg some (by kernel_rfl))
  f314 := Tryz.func115.trans (congrArg some (by kernel_rfl))
  t3 := Tryz.underlying3
  a3 := Tryz.isAgg3
  z3 := Tryz.sizeOf3
  v3 := Tryz.zeroValue3
  t4 := Tryz.underlying4
  a4 := Tryz.isAgg4
  z4 := Tryz.sizeOf4
  v4 := Tryz.zeroValue4
  t5 := Tryz.underlying5
  a5 := Tryz.isAgg5
  z5 := Tryz.sizeOf5
  v5 := Tryz.zeroValue5
  t9 := Tryz.underlying9
  a9 := Tryz.isAgg9
  z9 := Tryz.sizeOf9
  v9 := Tryz.zeroValue9
  t46 := Tryz.underlying156
  a46 := Tryz.isAgg156
  z46 := Tryz.sizeOf156
  v46 := Tryz.zeroValue156
  t51 := Tryz.underlying154
  a51 := Tryz.isAgg154
  z51 := Tryz.sizeOf154
  v51 := Tryz.zeroValue154
  t146 := Tryz.underlying170
  a146 := Tryz.isAgg170
  z146 := Tryz.sizeOf170
  v146 := Tryz.zeroValue170
  g1 := by kernel_rfl }
open Go.RowKit Go.Lib in
theorem Tryz.stringslite_Index_one (s : ByteArray) (c : UInt8) (w : World) :
    Calls Tryz.prog 77 #[.string s, .string ⟨#[c]⟩] w fun e w' => e = .returned (.int .i64 (Lib.indexByte s.data.toList c)) ∧ w' = w := Any.stringslite_Index_one Tryz.lays219 s c w
def Tryz.lays206_ren : Go.Shelf.Ren := ⟨fun | 206 => 99 | n => n, fun | 9 => 9 | 4 => 4 | 3 => 3 | n => n, fun | n => n⟩
theorem Tryz.lays206 : Go.Proofs.Lays.n206 Tryz.prog Tryz.lays206_ren := {
  mixed := by kernel_rfl
  f206 := Tryz.func99.trans (congrArg some (by kernel_rfl))
  t3 := Tryz.underlying3
  a3 := Tryz.isAgg3
  z3 := Tryz.sizeOf3
  v3 := Tryz.zeroValue3
  t4 := Tryz.underlying4
  a4 := Tryz.isAgg4
  z4 := Tryz.sizeOf4
  v4 := Tryz.zeroValue4
  t9 := Tryz.underlying9
  a9 := Tryz.isAgg9
  z9 := Tryz.sizeOf9
  v9 := Tryz.zeroValue9 }
open Go.RowKit Go.Lib in
theorem Tryz.stringslite_HasPrefix (s p : ByteArray) (w : World) :
    Calls Tryz.prog 99 #[.string s, .string p] w fun e w' => e = .returned (.bool (Lib.hasPrefix s.data.toList p.data.toList)) ∧ w' = w := Any.stringslite_HasPrefix Tryz.lays206 s p w
end Go.Proofs.YtclkoffnjiiioaaGreatDoor
namespace Go.Proofs.YtclkoffnjiiioaaGreatDoor
open Go.ChangeShapes Go.WideShapes Go.RowKit
set_option linter.unusedVariables false
set_option linter.unusedSimpArgs false
theorem oc3 : Tryz.prog.cellsOf 3 = 1 := by kernel_rfl
theorem oc9 : Tryz.prog.cellsOf 9 = 1 := by kernel_rfl
theorem oc68 : Tryz.prog.cellsOf 82 = 2 := by kernel_rfl
instance : Inhabited LitT := ⟨.mk 0 ⟨#[]⟩ 0 none 0 []⟩
section
variable {H : Type} {enc : TypeId × Value → H} {w : World} {spare : Nat → Bool} {held : Bool}
/-- a table of structs of a text and an integer, cell by cell -/
theorem two_table {fuel : Nat} {cs : List Value} {vals : List (ByteArray × Int)} {p : List MemPlace}
    (hd : DataW.trod enc Tryz.prog w 0 spare held fuel 83 cs = some (.agg (vals.map fun v => .agg [.lit (.string v.1.data.toList), .lit (.int .i64 v.2)]), p)) (i : Nat) (v : ByteArray × Int) (hvi : vals[i]? = some v) :
    cs[i * 2]? = some (.string v.1) ∧ cs[i * 2 + 1]? = some (.int .i64 v.2) := by
  obtain ⟨xs, m, _, hx, _, hn, hel⟩ := DataW.trod_array Tryz.underlying83 hd
  simp only [Prod.mk.injEq, DataW.agg.injEq] at hx
  have hi : i < vals.length := (List.getElem?_eq_some_iff.1 hvi).1
  have hlen : xs.length = vals.length := by
    have := congrArg List.length hx.1
    simpa using this.symm
  have h := hel i (by omega)
  rw [oc68] at h
  obtain ⟨x, hxi⟩ : ∃ x, xs[i]? = some x := ⟨xs[i]'(by omega), by rw [List.getElem?_eq_getElem (by omega)]⟩
  rw [hxi] at h
  have hxv : x.1 = .agg [.lit (.string v.1.data.toList), .lit (.int .i64 v.2)] := by
    have h3 := congrArg (fun l => l[i]?) hx.1
    simp only [List.getElem?_map, hxi, hvi, Option.map_some, Option.some.injEq] at h3
    exact h3.symm
  obtain ⟨ys, k, _, hy, hcl, hyl, hf⟩ := DataW.trod_struct Tryz.underlying82 h
  rw [oc68] at hcl
  rw [hy] at hxv
  simp only [DataW.agg.injEq] at hxv
  match ys, hyl, hxv with
  | [y0, y1], _, hxv =>
    have g0 : DataW.trod enc Tryz.prog w 0 spare held k 9 (((List.take 2 (List.drop (i * 2) cs)).drop 0).take (Tryz.prog.cellsOf 9)) = some y0 := hf 0 _ rfl
    have g1 : DataW.trod enc Tryz.prog w 0 spare held k 3 (((List.take 2 (List.drop (i * 2) cs)).drop 1).take (Tryz.prog.cellsOf 3)) = some y1 := hf 1 _ rfl
    simp only [List.map_cons, List.map_nil, List.cons.injEq, and_true] at hxv
    obtain ⟨z0, z1⟩ := hxv
    obtain ⟨s, e1, e2, _⟩ := DataW.trod_string Tryz.underlying9 g0
    obtain ⟨n, e3, e4, _⟩ := DataW.trod_int Tryz.underlying3 g1
    rw [e2] at z0
    rw [e4] at z1
    simp at z0 z1
    subst z1
    have hs : s = v.1 := by
      have : s.data = v.1.data := by simpa using z0
      cases s; cases hv : v.1; simp_all
    subst hs
    rw [oc9] at e1
    rw [oc3] at e3
    have h5 := congrArg (fun l => l[0]?) e1
    have h6 := congrArg (fun l => l[0]?) e3
    simp [List.getElem?_take, List.getElem?_drop] at h5 h6
    exact ⟨h5, h6⟩
end
end Go.Proofs.YtclkoffnjiiioaaGreatDoor

