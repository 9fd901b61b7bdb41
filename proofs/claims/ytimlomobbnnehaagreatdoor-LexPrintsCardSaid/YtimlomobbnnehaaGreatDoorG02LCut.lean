import Derived.Shelf.Small.Strs
import Derived.Shelf.LaysM
import Derived.Shelf.Strconv.Clone
import Derived.Shelf.Strings.Prefix
import Derived.Shelf.Strings.Replace
import Derived.Shelf.Strings.SplitShaped
import Derived.Test.YtimlomobbnnehaaGreatDoorChecked
import Derived.Test.YtimlomobbnnehaaGreatDoorG01LBase
import Derived.Lib.IndexBytes
namespace Go.Proofs.YtimlomobbnnehaaGreatDoor
open Go Go.Shelf
set_option linter.unusedVariables false
def Tryz.lays137_ren : Go.Shelf.Ren := ⟨fun | 137 => 59 | 217 => 79 | 266 => 91 | n => n, fun | 9 => 9 | 5 => 5 | 3 => 3 | n => n, fun | n => n⟩
theorem Tryz.lays137 : Go.Proofs.Lays.n137 Tryz.prog Tryz.lays137_ren := {
  mixed := by kernel_rfl
  f137 := Tryz.func59.trans (congrArg some (by kernel_rfl))
  f217 := Tryz.func79.trans (congrArg some (by kernel_rfl))
  f266 := Tryz.func91.trans (congrArg some (by kernel_rfl))
  t3 := Tryz.underlying3
  a3 := Tryz.isAgg3
  z3 := Tryz.sizeOf3
  v3 := Tryz.zeroValue3
  t5 := Tryz.underlying5
  a5 := Tryz.isAgg5
  z5 := Tryz.sizeOf5
  v5 := Tryz.zeroValue5
  t9 := Tryz.underlying9
  a9 := Tryz.isAgg9
  z9 := Tryz.sizeOf9
  v9 := Tryz.zeroValue9 }
open Go.RowKit in
theorem Tryz.strings_IndexByte (s : ByteArray) (c : Int) (w : World) :
    Calls Tryz.prog 59 #[.string s, .int .u8 c] w fun e w' => e = .returned (.int .i64 (Lib.indexByte s.data.toList c.toNat.toUInt8)) ∧ w' = w := Any.strings_IndexByte Tryz.lays137 s c w
def Tryz.laysM316_ren : Go.Shelf.Ren := ⟨fun | 316 => 49 | n => n, fun | 9 => 9 | 3 => 3 | 4 => 4 | 37 => 45 | 0 => 0 | 127 => 69 | 5 => 5 | n => n, fun | n => n⟩
theorem Tryz.laysM316 : Go.Proofs.LaysM.n316 Tryz.prog Tryz.laysM316_ren := {
  mixed := by kernel_rfl
  f316 := Tryz.func49.trans (congrArg some (by kernel_rfl))
  t0 := Tryz.underlying0
  a0 := Tryz.isAgg0
  z0 := Tryz.sizeOf0
  v0 := Tryz.zeroValue0
  t3 := Tryz.underlying3
  a3 := Tryz.isAgg3
  z3 := Tryz.sizeOf3
  v3 := Tryz.zeroValue3
  t4 := Tryz.underlying4
  a4 := Tryz.isAgg4
  z4 := Tryz.sizeOf4
  v4 := Tryz.zeroValue4
  t9 := Tryz.underlying9
  a9 := Tryz.isAgg9
  z9 := Tryz.sizeOf9
  v9 := Tryz.zeroValue9
  t37 := Tryz.underlying45
  a37 := Tryz.isAgg45
  z37 := Tryz.sizeOf45
  v37 := Tryz.zeroValue45
  t127 := Tryz.underlying69
  a127 := Tryz.isAgg69
  z127 := Tryz.sizeOf69
  v127 := Tryz.zeroValue69
  t5 := Tryz.underlying5
  a5 := Tryz.isAgg5
  z5 := Tryz.sizeOf5
  v5 := Tryz.zeroValue5
  i0 := by kernel_rfl
  i3 := by kernel_rfl
  i4 := by kernel_rfl
  i5 := by kernel_rfl
  i9 := by kernel_rfl
  i37 := by kernel_rfl
  i127 := by kernel_rfl }
open Go.RowKit in
theorem Tryz.stringslite_Clone (s : ByteArray) (w : World) (hlim : s.size ≤ 281474976710656) :
    Calls Tryz.prog 49 #[.string s] w fun e w' => e = .returned (.string s) ∧ Below w.heap.size w w' := Any.stringslite_Clone Tryz.laysM316 s w hlim
def Tryz.lays99_ren : Go.Shelf.Ren := ⟨fun | 99 => 61 | 206 => 80 | n => n, fun | 9 => 9 | 4 => 4 | 3 => 3 | n => n, fun | n => n⟩
theorem Tryz.lays99 : Go.Proofs.Lays.n99 Tryz.prog Tryz.lays99_ren := {
  mixed := by kernel_rfl
  f99 := Tryz.func61.trans (congrArg some (by kernel_rfl))
  f206 := Tryz.func80.trans (congrArg some (by kernel_rfl))
  t3 := Tryz.underlying3
  a3 := Tryz.isAgg3
  z3 := Tryz.sizeOf3
  v3 := Tryz.zeroValue3
  t4 := Tryz.underlying4
  a4 := Tryz.isAgg4
  z4 := Tryz.sizeOf4
  v4 := Tryz.zeroValue4
  t9 := Tryz.underlying9
  a9 := Tryz.isAgg9
  z9 := Tryz.sizeOf9
  v9 := Tryz.zeroValue9 }
open Go.RowKit Go.Lib in
theorem Tryz.strings_HasPrefix (s p : ByteArray) (w : World) :
    Calls Tryz.prog 61 #[.string s, .string p] w fun e w' => e = .returned (.bool (Lib.hasPrefix s.data.toList p.data.toList)) ∧ w' = w := Any.strings_HasPrefix Tryz.lays99 s p w
def Tryz.lays155_ren : Go.Shelf.Ren := ⟨fun | 155 => 33 | 154 => 56 | 138 => 63 | 165 => 64 | 143 => 65 | 166 => 17 | 197 => 66 | 169 => 19 | 195 => 85 | 218 => 86 | 240 => 31 | 241 => 87 | 219 => 88 | 260 => 89 | 276 => 54 | 277 => 97 | 217 => 79 | 225 => 98 | 224 => 99 | 267 => 100 | 266 => 91 | 314 => 103 | n => n, fun | 9 => 9 | 3 => 3 | 4 => 4 | 72 => 47 | 0 => 0 | 76 => 51 | 105 => 86 | 21 => 21 | 5 => 5 | 70 => 44 | 20 => 20 | 37 => 45 | 75 => 49 | 127 => 69 | 164 => 74 | 46 => 106 | 119 => 109 | 139 => 112 | 138 => 111 | 146 => 114 | 51 => 103 | 80 => 54 | n => n, fun | 1 => 2 | 3 => 3 | 4 => 4 | n => n⟩
theorem Tryz.lays155 : Go.Proofs.Lays.n155 Tryz.prog Tryz.lays155_ren := {
  mixed := by kernel_rfl
  f138 := Tryz.func63.trans (congrArg some (by kernel_rfl))
  f143 := Tryz.func65.trans (congrArg some (by kernel_rfl))
  f154 := Tryz.func56.trans (congrArg some (by kernel_rfl))
  f155 := Tryz.func33.trans (congrArg some (by kernel_rfl))
  f165 := Tryz.func64.trans (congrArg some (by kernel_rfl))
  f166 := Tryz.func17.trans (congrArg some (by kernel_rfl))
  f169 := Tryz.func19.trans (congrArg some (by kernel_rfl))
  f195 := Tryz.func85.trans (congrArg some (by kernel_rfl))
  f197 := Tryz.func66.trans (congrArg some (by kernel_rfl))
  f217 := Tryz.func79.trans (congrArg some (by kernel_rfl))
  f218 := Tryz.func86.trans (congrArg some (by kernel_rfl))
  f219 := Tryz.func88.trans (congrArg some (by kernel_rfl))
  f224 := Tryz.func99.trans (congrArg some (by kernel_rfl))
  f225 := Tryz.func98.trans (congrArg some (by kernel_rfl))
  f240 := Tryz.func31.trans (congrArg some (by kernel_rfl))
  f241 := Tryz.func87.trans (congrArg some (by kernel_rfl))
  f260 := Tryz.func89.trans (congrArg some (by kernel_rfl))
  f266 := Tryz.func91.trans (congrArg some (by kernel_rfl))
  f267 := Tryz.func100.trans (congrArg some (by kernel_rfl))
  f276 := Tryz.func54.trans (congrArg some (by kernel_rfl))
  f277 := Tryz.func97.trans (congrArg some (by kernel_rfl))
  f314 := Tryz.func103.trans (congrArg some (by kernel_rfl))
  t0 := Tryz.underlying0
  a0 := Tryz.isAgg0
  z0 := Tryz.sizeOf0
  v0 := Tryz.zeroValue0
  t3 := Tryz.underlying3
  a3 := Tryz.isAgg3
  z3 := Tryz.sizeOf3
  v3 := Tryz.zeroValue3
  t4 := Tryz.underlying4
  a4 := Tryz.isAgg4
  z4 := Tryz.sizeOf4
  v4 := Tryz.zeroValue4
  t5 := Tryz.underlying5
  a5 := Tryz.isAgg5
  z5 := Tryz.sizeOf5
  v5 := Tryz.zeroValue5
  t9 := Tryz.underlying9
  a9 := Tryz.isAgg9
  z9 := Tryz.sizeOf9
  v9 := Tryz.zeroValue9
  t20 := Tryz.underlying20
  a20 := Tryz.isAgg20
  z20 := Tryz.sizeOf20
  v20 := Tryz.zeroValue20
  t21 := Tryz.underlying21
  a21 := Tryz.isAgg21
  z21 := Tryz.sizeOf21
  v21 := Tryz.zeroValue21
  t37 := Tryz.underlying45
  a37 := Tryz.isAgg45
  z37 := Tryz.sizeOf45
  v37 := Tryz.zeroValue45
  t46 := Tryz.underlying106
  a46 := Tryz.isAgg106
  z46 := Tryz.sizeOf106
  v46 := Tryz.zeroValue106
  t51 := Tryz.underlying103
  a51 := Tryz.isAgg103
  z51 := Tryz.sizeOf103
  v51 := Tryz.zeroValue103
  t70 := Tryz.underlying44
  a70 := Tryz.isAgg44
  z70 := Tryz.sizeOf44
  v70 := Tryz.zeroValue44
  t72 := Tryz.underlying47
  a72 := Tryz.isAgg47
  z72 := Tryz.sizeOf47
  v72 := Tryz.zeroValue47
  t75 := Tryz.underlying49
  a75 := Tryz.isAgg49
  z75 := Tryz.sizeOf49
  v75 := Tryz.zeroValue49
  t76 := Tryz.underlying51
  a76 := Tryz.isAgg51
  z76 := Tryz.sizeOf51
  v76 := Tryz.zeroValue51
  t105 := Tryz.underlying86
  a105 := Tryz.isAgg86
  z105 := Tryz.sizeOf86
  v105 := Tryz.zeroValue86
  t119 := Tryz.underlying109
  a119 := Tryz.isAgg109
  z119 := Tryz.sizeOf109
  t127 := Tryz.underlying69
  a127 := Tryz.isAgg69
  z127 := Tryz.sizeOf69
  v127 := Tryz.zeroValue69
  t138 := Tryz.underlying111
  a138 := Tryz.isAgg111
  z138 := Tryz.sizeOf111
  v138 := Tryz.zeroValue111
  t139 := Tryz.underlying112
  a139 := Tryz.isAgg112
  z139 := Tryz.sizeOf112
  v139 := Tryz.zeroValue112
  t146 := Tryz.underlying114
  a146 := Tryz.isAgg114
  z146 := Tryz.sizeOf114
  v146 := Tryz.zeroValue114
  t164 := Tryz.underlying74
  a164 := Tryz.isAgg74
  z164 := Tryz.sizeOf74
  v164 := Tryz.zeroValue74
  g1 := by kernel_rfl
  g3 := by kernel_rfl
  g4 := by kernel_rfl }
theorem Tryz.Builder_Extra_155 : Builder.Extra Tryz.prog Tryz.lays155_ren := {
  sizeBuilder := by kernel_rfl
  liesBuilder := by kernel_rfl
  t5 := Tryz.underlying5
  a5 := Tryz.isAgg5
  z5 := Tryz.sizeOf5
  v5 := Tryz.zeroValue5
  infoByte := by kernel_rfl
  cellsByte := by kernel_rfl
  sizeByte := by kernel_rfl
  neB5 := by decide }
open Go.RowKit Go.Lib in
theorem Tryz.strings_ReplaceAll (s old new : ByteArray) (m : Int) (w : World) (hs : s.size < 4294967281) (hm : w.cell? ⟨2, 0, none⟩ = some (.int .i64 m)) (h1 : 1 ≤ old.size) (hlen : s.size + Lib.countB s old * new.size ≤ 140737488355328) :
    Calls Tryz.prog 33 #[.string s, .string old, .string new] w fun e w' =>
      e = .returned (.string ⟨(Lib.replaceAll s.data.toList old.data.toList new.data.toList).toArray⟩) ∧ Below w.heap.size w w' := Any.strings_ReplaceAll Tryz.lays155 Tryz.Builder_Extra_155 s old new m w hs hm h1 hlen
def Tryz.laysM155_ren : Go.Shelf.Ren := ⟨fun | 155 => 33 | 154 => 56 | 138 => 63 | 165 => 64 | 143 => 65 | 166 => 17 | 197 => 66 | 169 => 19 | 195 => 85 | 218 => 86 | 240 => 31 | 241 => 87 | 219 => 88 | 260 => 89 | 276 => 54 | 277 => 97 | 217 => 79 | 225 => 98 | 224 => 99 | 267 => 100 | 266 => 91 | 314 => 103 | n => n, fun | 9 => 9 | 3 => 3 | 4 => 4 | 72 => 47 | 0 => 0 | 76 => 51 | 105 => 86 | 21 => 21 | 5 => 5 | 70 => 44 | 20 => 20 | 37 => 45 | 75 => 49 | 127 => 69 | 164 => 74 | 46 => 106 | 119 => 109 | 139 => 112 | 138 => 111 | 146 => 114 | 51 => 103 | 80 => 54 | n => n, fun | 1 => 2 | 3 => 3 | 4 => 4 | n => n⟩
theorem Tryz.laysM155 : Go.Proofs.LaysM.n155 Tryz.prog Tryz.laysM155_ren := {
  mixed := by kernel_rfl
  f138 := Tryz.func63.trans (congrArg some (by kernel_rfl))
  f143 := Tryz.func65.trans (congrArg some (by kernel_rfl))
  f154 := Tryz.func56.trans (congrArg some (by kernel_rfl))
  f155 := Tryz.func33.trans (congrArg some (by kernel_rfl))
  f165 := Tryz.func64.trans (congrArg some (by kernel_rfl))
  f166 := Tryz.func17.trans (congrArg some (by kernel_rfl))
  f169 := Tryz.func19.trans (congrArg some (by kernel_rfl))
  f195 := Tryz.func85.trans (congrArg some (by kernel_rfl))
  f197 := Tryz.func66.trans (congrArg some (by kernel_rfl))
  f217 := Tryz.func79.trans (congrArg some (by kernel_rfl))
  f218 := Tryz.func86.trans (congrArg some (by kernel_rfl))
  f219 := Tryz.func88.trans (congrArg some (by kernel_rfl))
  f224 := Tryz.func99.trans (congrArg some (by kernel_rfl))
  f225 := Tryz.func98.trans (congrArg some (by kernel_rfl))
  f240 := Tryz.func31.trans (congrArg some (by kernel_rfl))
  f241 := Tryz.func87.trans (congrArg some (by kernel_rfl))
  f260 := Tryz.func89.trans (congrArg some (by kernel_rfl))
  f266 := Tryz.func91.trans (congrArg some (by kernel_rfl))
  f267 := Tryz.func100.trans (congrArg some (by kernel_rfl))
  f276 := Tryz.func54.trans (congrArg some (by kernel_rfl))
  f277 := Tryz.func97.trans (congrArg some (by kernel_rfl))
  f314 := Tryz.func103.trans (congrArg some (by kernel_rfl))
  t0 := Tryz.underlying0
  a0 := Tryz.isAgg0
  z0 := Tryz.sizeOf0
  v0 := Tryz.zeroValue0
  t3 := Tryz.underlying3
  a3 := Tryz.isAgg3
  z3 := Tryz.sizeOf3
  v3 := Tryz.zeroValue3
  t4 := Tryz.underlying4
  a4 := Tryz.isAgg4
  z4 := Tryz.sizeOf4
  v4 := Tryz.zeroValue4
  t5 := Tryz.underlying5
  a5 := Tryz.isAgg5
  z5 := Tryz.sizeOf5
  v5 := Tryz.zeroValue5
  t9 := Tryz.underlying9
  a9 := Tryz.isAgg9
  z9 := Tryz.sizeOf9
  v9 := Tryz.zeroValue9
  t20 := Tryz.underlying20
  a20 := Tryz.isAgg20
  z20 := Tryz.sizeOf20
  v20 := Tryz.zeroValue20
  t21 := Tryz.underlying21
  a21 := Tryz.isAgg21
  z21 := Tryz.sizeOf21
  v21 := Tryz.zeroValue21
  t37 := Tryz.underlying45
  a37 := Tryz.isAgg45
  z37 := Tryz.sizeOf45
  v37 := Tryz.zeroValue45
  t46 := Tryz.underlying106
  a46 := Tryz.isAgg106
  z46 := Tryz.sizeOf106
  v46 := Tryz.zeroValue106
  t51 := Tryz.underlying103
  a51 := Tryz.isAgg103
  z51 := Tryz.sizeOf103
  v51 := Tryz.zeroValue103
  t70 := Tryz.underlying44
  a70 := Tryz.isAgg44
  z70 := Tryz.sizeOf44
  v70 := Tryz.zeroValue44
  t72 := Tryz.underlying47
  a72 := Tryz.isAgg47
  z72 := Tryz.sizeOf47
  v72 := Tryz.zeroValue47
  t75 := Tryz.underlying49
  a75 := Tryz.isAgg49
  z75 := Tryz.sizeOf49
  v75 := Tryz.zeroValue49
  t76 := Tryz.underlying51
  a76 := Tryz.isAgg51
  z76 := Tryz.sizeOf51
  v76 := Tryz.zeroValue51
  t105 := Tryz.underlying86
  a105 := Tryz.isAgg86
  z105 := Tryz.sizeOf86
  v105 := Tryz.zeroValue86
  t119 := Tryz.underlying109
  a119 := Tryz.isAgg109
  z119 := Tryz.sizeOf109
  t127 := Tryz.underlying69
  a127 := Tryz.isAgg69
  z127 := Tryz.sizeOf69
  v127 := Tryz.zeroValue69
  t138 := Tryz.underlying111
  a138 := Tryz.isAgg111
  z138 := Tryz.sizeOf111
  v138 := Tryz.zeroValue111
  t139 := Tryz.underlying112
  a139 := Tryz.isAgg112
  z139 := Tryz.sizeOf112
  v139 := Tryz.zeroValue112
  t146 := Tryz.underlying114
  a146 := Tryz.isAgg114
  z146 := Tryz.sizeOf114
  v146 := Tryz.zeroValue114
  t164 := Tryz.underlying74
  a164 := Tryz.isAgg74
  z164 := Tryz.sizeOf74
  v164 := Tryz.zeroValue74
  g1 := by kernel_rfl
  g3 := by kernel_rfl
  g4 := by kernel_rfl
  t80 := Tryz.underlying54
  a80 := Tryz.isAgg54
  z80 := Tryz.sizeOf54
  v80 := Tryz.zeroValue54
  i0 := by kernel_rfl
  i3 := by kernel_rfl
  i4 := by kernel_rfl
  i5 := by kernel_rfl
  i9 := by kernel_rfl
  i20 := by kernel_rfl
  i21 := by kernel_rfl
  i37 := by kernel_rfl
  i46 := by kernel_rfl
  i51 := by kernel_rfl
  i70 := by kernel_rfl
  i72 := by kernel_rfl
  i75 := by kernel_rfl
  i76 := by kernel_rfl
  i80 := by kernel_rfl
  i105 := by kernel_rfl
  i127 := by kernel_rfl
  i138 := by kernel_rfl
  i139 := by kernel_rfl
  i146 := by kernel_rfl
  i164 := by kernel_rfl
  m1 := by kernel_rfl
  s1_3 := fun w h => Go.Proofs.cell_of_shapedOpen_int (zero := #[.int .i64 0]) (t := 3) h (of_decide_eq_true (by kernel_rfl)) (by kernel_rfl) rfl (by kernel_rfl) (by kernel_rfl) Tryz.underlying3
  m3 := by kernel_rfl
  m4 := by kernel_rfl }
end Go.Proofs.YtimlomobbnnehaaGreatDoor

namespace Go.Proofs.YtimlomobbnnehaaGreatDoor
open Go.RowKit
set_option linter.unusedVariables false
set_option linter.unusedSimpArgs false
theorem isEmpty_of {s : ByteArray} (h : s.size = 0) : s.toList.isEmpty = true := by
  have e : s.toList = s.data.toList := ByteArray.toList_eq s
  rw [e, List.isEmpty_iff]
  exact List.length_eq_zero_iff.1 h
theorem not_empty_of {s : ByteArray} (h : ¬ s.size = 0) : s.toList.isEmpty = false := by
  have e : s.toList = s.data.toList := ByteArray.toList_eq s
  rw [e, Bool.eq_false_iff]
  intro h2
  rw [List.isEmpty_iff] at h2
  exact h (List.length_eq_zero_iff.2 h2)
theorem isOb_ok (c : UInt8) (w : World) : Calls Tryz.prog 48 #[.int .u8 c.toNat] w fun e w' => e = .returned (.bool (isO c.toNat)) ∧ w' = w := by
  have key0 : ∀ n, n < 256 → decide ((0 : Int) ≤ Lib.indexByte [43, 45, 42, 47, 92, 60, 62, 61, 126, 44, 37, 38, 63, 64] (UInt8.ofNat n)) = isO n := by decide +kernel
  have key : decide ((0 : Int) ≤ Lib.indexByte [43, 45, 42, 47, 92, 60, 62, 61, 126, 44, 37, 38, 63, 64] c) = isO c.toNat := by
    have := key0 c.toNat c.toNat_lt
    rwa [UInt8.ofNat_toNat] at this
  clear key0
  go_enter Tryz.func48, Tryz.ntmps48
  go_wp2_with (go_at_call 59; refine (Tryz.strings_IndexByte _ _ _).mono ?_; rintro e w' ⟨rfl, rfl⟩)
  go_ret
  exact ⟨congrArg (fun b => Ending.returned (Value.bool b)) rfl, rfl⟩
set_option maxHeartbeats 4000000 in
set_option maxRecDepth 1000000 in
theorem opLength_ok (s : ByteArray) (w : World) (hs : s.size ≤ 140737488355328) : Calls Tryz.prog 51 #[.string s] w fun e w' => e = .returned (.int .i64 (opLen (lst s))) ∧ w' = w := by
  by_cases h0 : s.size = 0
  · have hE : s.toList.isEmpty = true := isEmpty_of h0
    have e : opLen (lst s) = 0 := by
      have : lst s = [] := List.length_eq_zero_iff.1 (by rw [lst_len]; exact h0)
      rw [this]; rfl
    go_enter Tryz.func51, Tryz.ntmps51
    go_wp2_with (go_at_call 48; refine (isOb_ok _ _).mono ?_; rintro e w' ⟨rfl, rfl⟩)
    go_ret
    exact ⟨by rw [e]; rfl, rfl⟩
  · have hE : s.toList.isEmpty = false := not_empty_of h0
    have hp : 0 < s.size := by omega
    have b0 : hd (lst s) = (s[0]'hp).toNat := get_lst s 0 hp
    by_cases cO : isO (s[0]'hp).toNat = true
    · by_cases h1 : s.size = 1
      · have e : opLen (lst s) = 1 := by
          unfold opLen
          rw [b0, if_pos cO, hd_drop_end (by rw [lst_len]; omega), if_neg (by rintro ⟨h, _⟩; exact absurd h (by decide))]
        go_enter Tryz.func51, Tryz.ntmps51
        go_wp2_with (go_at_call 48; refine (isOb_ok _ _).mono ?_; rintro e w' ⟨rfl, rfl⟩)
        go_ret
        exact ⟨by rw [e]; rfl, rfl⟩
      · have hp1 : 1 < s.size := by omega
        have b1 : hd ((lst s).drop 1) = (s[1]'hp1).toNat := get_lst s 1 hp1
        by_cases cP : isO (s[1]'hp1).toNat = true
        · have e1 : Hid ((s[0]'hp).toNat = 45 → opLen (lst s) = 1) := mkHid fun c2 => by
            unfold opLen
            rw [b0, if_pos cO, if_neg (by rintro ⟨_, h, _⟩; exact h c2)]
          have e2 : Hid ((s[1]'hp1).toNat = 45 → opLen (lst s) = 1) := mkHid fun c3 => by
            unfold opLen
            rw [b0, if_pos cO, if_neg (by rintro ⟨_, _, h⟩; exact h (b1.trans c3))]
          have e3 : Hid ((s[0]'hp).toNat ≠ 45 → (s[1]'hp1).toNat ≠ 45 → opLen (lst s) = 2) := mkHid fun c2 c3 => by
            unfold opLen
            rw [b0, if_pos cO, b1, if_pos ⟨cP, c2, c3⟩]
          go_enter Tryz.func51, Tryz.ntmps51
          go_wp2_with (go_at_call 48; refine (isOb_ok _ _).mono ?_; rintro e w' ⟨rfl, rfl⟩)
          all_goals (go_ret; refine ⟨?_, rfl⟩)
          all_goals try simp only [beq_iff_eq, Bool.or_eq_true, Bool.or_eq_false_iff, beq_eq_false_iff_ne, not_or, ne_eq] at *
          all_goals first
            | (rw [e1.out (by omega)]; rfl)
            | (rw [e2.out (by omega)]; rfl)
            | (rw [e3.out (by omega) (by omega)]; rfl)
        · have cP' : isO (s[1]'hp1).toNat = false := by simpa using cP
          have e : opLen (lst s) = 1 := by
            unfold opLen
            rw [b0, if_pos cO, b1, if_neg (by rintro ⟨h, _⟩; exact cP h)]
          clear cP
          go_enter Tryz.func51, Tryz.ntmps51
          go_wp2_with (go_at_call 48; refine (isOb_ok _ _).mono ?_; rintro e w' ⟨rfl, rfl⟩)
          all_goals (go_ret; exact ⟨by rw [e]; rfl, rfl⟩)
    · have cO' : isO (s[0]'hp).toNat = false := by simpa using cO
      have e : opLen (lst s) = 0 := by
        unfold opLen
        rw [b0, if_neg cO]
      clear cO
      go_enter Tryz.func51, Tryz.ntmps51
      go_wp2_with (go_at_call 48; refine (isOb_ok _ _).mono ?_; rintro e w' ⟨rfl, rfl⟩)
      all_goals (go_ret; exact ⟨by rw [e]; rfl, rfl⟩)
end Go.Proofs.YtimlomobbnnehaaGreatDoor

namespace Go.Proofs.YtimlomobbnnehaaGreatDoor
open Go.RowKit
set_option linter.unusedVariables false
set_option linter.unusedSimpArgs false
theorem lst_from (s : ByteArray) (k : Nat) : lst (s.extract k s.size) = (lst s).drop k := Lib.extract_to_end s k
theorem size_from (s : ByteArray) (k : Nat) : (s.extract k s.size).size = s.size - k := by
  rw [← lst_len, lst_from, List.length_drop, lst_len]
theorem pre1 (l : Bs) (c : UInt8) : Lib.hasPrefix l [c] = decide (hd l = c.toNat) := by
  cases l with
  | nil => rw [decide_eq_false (fun h => by have := c.toNat_lt; rw [show hd [] = 256 from rfl] at h; omega)]; rfl
  | cons d r =>
    have e : hd (d :: r) = d.toNat := rfl
    rw [e]
    simp [Lib.hasPrefix, List.isPrefixOf]
    rw [Bool.eq_iff_iff]
    simp
    rw [eq_comm, UInt8.toNat_inj]
theorem pre2 (l : Bs) (c d : UInt8) : Lib.hasPrefix l [c, d] = decide (hd l = c.toNat ∧ hd (l.drop 1) = d.toNat) := by
  cases l with
  | nil => rw [decide_eq_false (fun h => by have := c.toNat_lt; have h := h.1; rw [show hd [] = 256 from rfl] at h; omega)]; rfl
  | cons x r =>
    have h := pre1 r d
    have e : hd (x :: r) = x.toNat := rfl
    have e2 : (x :: r).drop 1 = r := rfl
    rw [e, e2]
    unfold Lib.hasPrefix at h ⊢
    rw [List.isPrefixOf_cons_cons, h, Bool.eq_iff_iff]
    simp
    intro _
    rw [eq_comm, UInt8.toNat_inj]
theorem prefix_b (s p : ByteArray) (b : Bool) (h : Lib.hasPrefix s.data.toList p.data.toList = b) (w : World) : Calls Tryz.prog 61 #[.string s, .string p] w fun e w' => e = .returned (.bool b) ∧ w' = w := by
  subst h; exact Tryz.strings_HasPrefix s p w
set_option maxHeartbeats 4000000 in
set_option maxRecDepth 1000000 in
theorem kwLength_ok (s : ByteArray) (w : World) (hs : s.size ≤ 140737488355328) : Calls Tryz.prog 52 #[.string s] w fun e w' => e = .returned (.int .i64 (kwLen (lst s))) ∧ Bl w w' := by
  have hn := nameLength_ok s w hs
  have hle := nameLen_le (lst s)
  rw [lst_len] at hle
  have e0 : Hid (nameLen (lst s) = 0 → kwLen (lst s) = 0) := mkHid fun h => by unfold kwLen; rw [if_neg (by rintro ⟨h1, _⟩; exact h1 h)]
  have p1 := pre1 ((lst s).drop (nameLen (lst s))) 58
  have p2 := pre2 ((lst s).drop (nameLen (lst s))) 58 61
  have e1 : Hid (hd ((lst s).drop (nameLen (lst s))) ≠ 58 → kwLen (lst s) = 0) := mkHid fun h => by
    unfold kwLen; rw [if_neg]; rintro ⟨_, h2⟩; unfold colonAt at h2; exact h (of_decide_eq_true h2).1
  have e2 : Hid (hd (((lst s).drop (nameLen (lst s))).drop 1) = 61 → kwLen (lst s) = 0) := mkHid fun h => by
    unfold kwLen; rw [if_neg]; rintro ⟨_, h2⟩; unfold colonAt at h2; exact (of_decide_eq_true h2).2 h
  have e3 : Hid (nameLen (lst s) ≠ 0 → hd ((lst s).drop (nameLen (lst s))) = 58 → hd (((lst s).drop (nameLen (lst s))).drop 1) ≠ 61 → kwLen (lst s) = nameLen (lst s) + 1) := mkHid fun h1 h2 h3 => by
    unfold kwLen; rw [if_pos ⟨h1, by unfold colonAt; exact decide_eq_true ⟨h2, h3⟩⟩]
  rw [← lst_from] at p1 p2 e1 e2 e3
  generalize nameLen (lst s) = k at *
  unfold lst at p1 p2
  have kz : (k : Int) ≤ s.size := by omega
  have hf : ∀ {n : Nat}, kwLen (lst s) = n → ∀ {v : Value}, v = .int .i64 n → Ending.returned v = Ending.returned (.int .i64 (kwLen (lst s))) := by rintro n h v rfl; rw [h]
  by_cases k0 : k = 0
  · have e := e0.out k0
    subst k0
    go_enter Tryz.func52, Tryz.ntmps52
    go_wp2_with (go_at_call 50; refine hn.mono ?_; rintro e w1 ⟨rfl, b1⟩)
    go_ret
    exact ⟨hf e rfl, b1⟩
  · by_cases c1 : hd (lst (s.extract k s.size)) = 58
    · have q1 : Lib.hasPrefix (s.extract k s.size).data.toList [58] = true := by rw [p1]; exact decide_eq_true c1
      by_cases c2 : hd ((lst (s.extract k s.size)).drop 1) = 61
      · have q2 : Lib.hasPrefix (s.extract k s.size).data.toList [58, 61] = true := by rw [p2]; exact decide_eq_true ⟨c1, c2⟩
        have e := e2.out c2
        clear p1 p2 c1 c2
        go_enter Tryz.func52, Tryz.ntmps52
        go_wp2_with (first | (go_at_call 50; refine hn.mono ?_; rintro e w1 ⟨rfl, b1⟩) | (go_at_call 61; refine (prefix_b _ ⟨#[58]⟩ _ q1 _).mono ?_; rintro e w' ⟨rfl, rfl⟩) | (go_at_call 61; refine (prefix_b _ ⟨#[58, 61]⟩ _ q2 _).mono ?_; rintro e w' ⟨rfl, rfl⟩))
        go_ret
        exact ⟨hf e rfl, b1⟩
      · have q2 : Lib.hasPrefix (s.extract k s.size).data.toList [58, 61] = false := by rw [p2]; exact decide_eq_false (fun h => c2 h.2)
        have e := e3.out k0 c1 c2
        clear p1 p2 c1 c2
        go_enter Tryz.func52, Tryz.ntmps52
        go_wp2_with (first | (go_at_call 50; refine hn.mono ?_; rintro e w1 ⟨rfl, b1⟩) | (go_at_call 61; refine (prefix_b _ ⟨#[58]⟩ _ q1 _).mono ?_; rintro e w' ⟨rfl, rfl⟩) | (go_at_call 61; refine (prefix_b _ ⟨#[58, 61]⟩ _ q2 _).mono ?_; rintro e w' ⟨rfl, rfl⟩))
        go_ret
        exact ⟨hf e rfl, b1⟩
    · have q1 : Lib.hasPrefix (s.extract k s.size).data.toList [58] = false := by rw [p1]; exact decide_eq_false c1
      have e := e1.out c1
      clear p1 p2 c1
      go_enter Tryz.func52, Tryz.ntmps52
      go_wp2_with (first | (go_at_call 50; refine hn.mono ?_; rintro e w1 ⟨rfl, b1⟩) | (go_at_call 61; refine (prefix_b _ ⟨#[58]⟩ _ q1 _).mono ?_; rintro e w' ⟨rfl, rfl⟩) | (go_at_call 61; refine (prefix_b _ ⟨#[58, 61]⟩ _ q2 _).mono ?_; rintro e w' ⟨rfl, rfl⟩))
      go_ret
      exact ⟨hf e rfl, b1⟩
end Go.Proofs.YtimlomobbnnehaaGreatDoor

namespace Go.Proofs.YtimlomobbnnehaaGreatDoor
open Go.RowKit
set_option linter.unusedVariables false
set_option linter.unusedSimpArgs false
def strN : Value → Nat | .string s => s.size | _ => 0
theorem kwsF_any {l : Bs} {f g : Nat} (hf : l.length ≤ f) (hg : l.length ≤ g) : kwsF f l = kwsF g l := by
  have := kwsF_ext (R := []) (Or.inl rfl) f g l [] hf hg (fun _ => by simp [hd]) (by rw [List.append_nil]; exact kwsF_le _ _)
  rwa [List.append_nil] at this
theorem kwsLen_step (l : Bs) : kwsLen l = if kwLen l = 0 then 0 else kwLen l + kwsLen (l.drop (kwLen l)) := by
  unfold kwsLen
  cases h : l.length with
  | zero =>
    have : l = [] := List.length_eq_zero_iff.1 h
    subst this
    rfl
  | succ n =>
    show (if kwLen l = 0 then 0 else kwLen l + kwsF n (l.drop (kwLen l))) = _
    by_cases hk : kwLen l = 0
    · rw [if_pos hk, if_pos hk]
    · rw [if_neg hk, if_neg hk, kwsF_any (l := l.drop (kwLen l)) (by simp; omega) (Nat.le_refl _)]
set_option maxHeartbeats 4000000 in
set_option maxRecDepth 1000000 in
theorem digLength_ok (s : ByteArray) (w : World) (hs : s.size ≤ 140737488355328) :
    Calls Tryz.prog 60 #[.string s] w fun e w' => e = .returned (.int .i64 (digLen (lst s))) ∧ Bl w w' := by
  go_enter Tryz.func60, Tryz.ntmps60
  go_wp2
  go_loopw [] (fun wr => ∃ pos : Nat, wr.heap[w.heap.size]? = some (.stringIter s pos) ∧ Below w.heap.size w wr ∧ pos ≤ s.size ∧ ∀ j, j < pos → isD (hd ((lst s).drop j)) = true) (fun wr => s.size - wr.iterPos w.heap.size)
  case atStart =>
    refine ⟨0, ?_, (Below.refl _ w).alloc (Nat.le_refl _) _, Nat.zero_le _, fun j h => by omega⟩
    have := World.iter_heap w s 0
    simpa using this
  case round =>
    obtain ⟨pos, hit, hb, hps, h1⟩ := hrel
    have hfin : (∀ h : pos < s.size, isD (hd ((lst s).drop pos)) = false) → digLen (lst s) = pos := fun h => by
      unfold digLen
      refine tw_eq dN (lst s) pos (by rw [lst_len]; omega) (fun j hj hjk => ?_) (fun h' => ?_)
      · unfold dN; rw [hd_at hj]; exact h1 j hjk
      · unfold dN; rw [hd_at h']; exact h (by rw [lst_len] at h'; exact h')
    by_cases hp : pos < s.size
    · have hnx : ∀ ty, (Instr.next (.pointer (some ⟨w.heap.size, 0, none⟩)) true ty).run Tryz.prog wr = _ := fun ty => Lib.run_next_any_at wr w.heap.size s pos ty hit hp
      have hit2 := Lib.iterAt_heap wr w.heap.size s pos (pos + (Utf8.decode s pos).2) hit
      have hbw2 := Lib.below_iterAt hb (k := w.heap.size) (Nat.le_refl _) s (pos + (Utf8.decode s pos).2)
      obtain ⟨r, hr, hw1, hr2, hcase⟩ := rune_at s pos hp
      generalize hW : wr.iterAt w.heap.size s (pos + (Utf8.decode s pos).2) = W at *
      rw [hr] at hnx
      simp only at hnx
      clear hr hW
      have hDr : isD (hd ((lst s).drop pos)) = isD r := by
        rcases hcase with h | h
        · rw [h.2.1]
        · have : ∀ n, 128 ≤ n → isD n = false := fun n hn => by rw [Bool.eq_false_iff]; intro hc; rw [isD_iff] at hc; omega
          rw [this _ h.1, this _ h.2]
      have hgo : isD r = true → (Utf8.decode s pos).2 = 1 := fun h => by
        rcases hcase with h2 | h2
        · exact h2.2.2
        · exfalso; rw [isD_iff] at h; omega
      clear hcase
      by_cases cD : isD r = true
      · have hw := hgo cD
        go_wp2_with (go_at_call 47; refine (isDigit_ok r _).mono ?_; rintro e w' ⟨rfl, rfl⟩)
        go_roundw
        case rel =>
          refine ⟨pos + 1, by rw [hit2, hw], hbw2, by omega, fun j hj => ?_⟩
          by_cases hj2 : j < pos
          · exact h1 j hj2
          · have : j = pos := by omega
            subst this
            rw [hDr]; exact cD
        case measure =>
          simp only [World.iterPos, hit2, hit]
          omega
      · have cD' : isD r = false := by simpa using cD
        have hf := hfin (fun _ => by rw [hDr]; exact cD')
        clear cD
        go_wp2_with (go_at_call 47; refine (isDigit_ok r _).mono ?_; rintro e w' ⟨rfl, rfl⟩)
        go_ret
        exact ⟨by rw [hf]; rfl, hbw2⟩
    · have hnx : ∀ ty, (Instr.next (.pointer (some ⟨w.heap.size, 0, none⟩)) true ty).run Tryz.prog wr = _ := fun ty => Lib.run_next_end_at wr w.heap.size s pos ty hit hp
      have hf := hfin (fun h => absurd h hp)
      go_wp2
      go_wp2
      go_ret
      refine ⟨?_, hb⟩
      rw [hf]
      have : pos = s.size := by omega
      rw [this]
      rfl
set_option maxHeartbeats 4000000 in
set_option maxRecDepth 1000000 in
theorem symLength_ok (s : ByteArray) (w : World) (hs : s.size ≤ 140737488355328) :
    Calls Tryz.prog 53 #[.string s] w fun e w' => e = .returned (.int .i64 (symLen (lst s))) ∧ Bl w w' := by
  have hk0 := kwLength_ok s w hs
  go_enter Tryz.func53, Tryz.ntmps53
  go_wp2_with (go_at_call 52; refine hk0.mono ?_; rintro e w1 ⟨rfl, b1⟩)
  go_loopw [3, 4] (fun a c wr => ∃ n : Nat, n ≤ s.size ∧ a = .int .i64 n ∧ c = .int .i64 (kwLen ((lst s).drop n)) ∧ kwsLen (lst s) = n + kwsLen ((lst s).drop n) ∧ Hid (Bl w wr)) (fun a _ _ => s.size - (intOf a).toNat)
  case atStart => exact ⟨0, Nat.zero_le _, rfl, rfl, by simp, b1⟩
  case round =>
    obtain ⟨n, hn, rfl, rfl, hkw, hB⟩ := hrel
    have hst := kwsLen_step ((lst s).drop n)
    have hle := kwLen_le ((lst s).drop n)
    rw [List.length_drop, lst_len] at hle
    rw [List.drop_drop] at hst
    by_cases hz : kwLen ((lst s).drop n) = 0
    · rw [if_pos hz] at hst
      have e : kwsLen (lst s) = n := by omega
      rw [hz]
      by_cases n0 : n = 0
      · have es : symLen (lst s) = max (nameLen (lst s)) (opLen (lst s)) := by unfold symLen; rw [if_pos (by omega)]
        have hnm := nameLength_ok s wr hs
        have hl1 := nameLen_le (lst s)
        have hl2 := opLen_le (lst s)
        rw [lst_len] at hl1 hl2
        subst n0
        clear hkw hst hz hle e
        go_wp2_with (go_at_call 50; fail)
        go_wp2_with (first | (go_at_call 50; refine hnm.mono ?_; rintro e w2 ⟨rfl, b2⟩) | (go_at_call 51; refine (opLength_ok s _ hs).mono ?_; rintro e w3 ⟨rfl, rfl⟩))
        go_ret
        refine ⟨?_, hB.out.trans b2⟩
        rw [es]
        exact congrArg (fun n => Ending.returned (Value.int .i64 n)) (by omega)
      · have es : symLen (lst s) = n := by unfold symLen; rw [if_neg (by omega), e]
        clear hkw hst hz hle e
        go_wp2
        go_wp2
        go_ret
        exact ⟨by rw [es]; rfl, hB.out⟩
    · rw [if_neg hz] at hst
      have hk := kwLength_ok (s.extract (n + kwLen ((lst s).drop n)) s.size) wr (by rw [size_from]; omega)
      rw [lst_from] at hk
      have hm : n + kwLen ((lst s).drop n) ≤ s.size := by omega
      have hm0 : 0 < kwLen ((lst s).drop n) := by omega
      have hK : Hid (kwsLen (lst s) = (n + kwLen ((lst s).drop n)) + kwsLen ((lst s).drop (n + kwLen ((lst s).drop n)))) := by unfold Hid; omega
      clear hst hkw hz hle
      generalize kwLen ((lst s).drop n) = d at *
      have hi : (n : Int) + d ≤ s.size := by omega
      go_wp2_with (go_at_call 52; refine hk.mono ?_; rintro e w2 ⟨rfl, b2⟩)
      go_roundw
      case rel => exact ⟨n + d, hm, by simp, rfl, hK.out, hB.out.trans b2⟩
      case measure => simp [intOf]; omega
end Go.Proofs.YtimlomobbnnehaaGreatDoor

namespace Go.Proofs.YtimlomobbnnehaaGreatDoor
open Go.RowKit
set_option linter.unusedVariables false
set_option linter.unusedSimpArgs false
def ba (l : Bs) : ByteArray := ⟨l.toArray⟩
theorem lst_ba (l : Bs) : lst (ba l) = l := by simp [lst, ba]
theorem ba_lst (s : ByteArray) : ba (lst s) = s := by simp [lst, ba]
theorem ba_from (s : ByteArray) (k : Nat) : ba ((lst s).drop k) = s.extract k s.size := by rw [← lst_from, ba_lst]
theorem lst_mid (s : ByteArray) (a b : Nat) : lst (s.extract a b) = ((lst s).drop a).take (b - a) := by
  unfold lst
  simp [ByteArray.data_extract, List.extract_eq_take_drop]
theorem ba_mid (s : ByteArray) (a b : Nat) : ba (((lst s).drop a).take (b - a)) = s.extract a b := by rw [← lst_mid, ba_lst]
theorem ba_upto (s : ByteArray) (b : Nat) : ba ((lst s).take b) = s.extract 0 b := by
  have := ba_mid s 0 b
  simpa using this
abbrev Q4 := Nat × Bs × Nat × Nat
/-- a token (its place 0) and a length, as a call answers them -/
def cv (x : Q4) : Value := .tuple #[.agg #[.int .i64 x.1, .string (ba x.2.1), .int .i64 x.2.2.1, .int .i64 0], .int .i64 x.2.2.2]
def cutQ (l : Bs) : Q4 := match cut l with
  | none => (0, [], 0, 0)
  | some (none, n) => (0, [], 0, n)
  | some (some t, n) => (t.kind, t.text, t.num, n)
theorem ba_nil : ba [] = ⟨#[]⟩ := rfl
theorem indexByte_cmt (r : Bs) : Lib.indexByte r 34 = match cmt r with | none => -1 | some n => (n : Int) - 1 := by
  induction r with
  | nil => rfl
  | cons c r ih =>
    unfold Lib.indexByte cmt
    by_cases h : c = 34
    · subst h; simp
    · have h2 : ¬ c.toNat = 34 := fun e => h (UInt8.toNat_inj.1 e)
      rw [if_neg h2]
      simp [h]
      rw [ih]
      cases hc : cmt r with
      | none => simp
      | some n => have := cmt_n _ _ hc; simp; omega
def kindN (n : Nat) : Nat := if isB n = true then 1 else if n = 34 then 2 else if n = 35 then 5 else if n = 39 then 7 else if markK n ≠ 0 then 8 else if isL n = true then 3 else if isD n = true then 4 else if isO n = true then 6 else 0
set_option maxHeartbeats 4000000 in
theorem cutNothing_ok (s : ByteArray) (w : World) : Calls Tryz.prog 37 #[.string s] w fun e w' => e = .returned (cv (0, [], 0, 0)) ∧ Bl w w' := by
  go_enter Tryz.func37, Tryz.ntmps37
  go_wp2
  refine bodyPost_ret (v := cv (0, [], 0, 0)) (by simp [results, Tryz.results37, go_sem, cv, ba]) rfl ⟨rfl, Bl.alloc _ _⟩
set_option maxHeartbeats 4000000 in
theorem cutBlank_ok (s : ByteArray) (w : World) : Calls Tryz.prog 38 #[.string s] w fun e w' => e = .returned (cv (0, [], 0, 1)) ∧ Bl w w' := by
  go_enter Tryz.func38, Tryz.ntmps38
  go_wp2
  refine bodyPost_ret (v := cv (0, [], 0, 1)) (by simp [results, Tryz.results38, go_sem, cv, ba]) rfl ⟨rfl, Bl.alloc _ _⟩
end Go.Proofs.YtimlomobbnnehaaGreatDoor

