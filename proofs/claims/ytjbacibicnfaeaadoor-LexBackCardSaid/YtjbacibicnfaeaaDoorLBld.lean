import Derived.Test.YtjbacibicnfaeaaDoorLShelf
import Derived.Test.YtjbacibicnfaeaaDoorLBase
import Derived.Shelf.Strings.Builder1
import Derived.Shelf.Strings.Builder2
import Derived.Shelf.Strings.BuilderK
namespace Go.Proofs.YtjbacibicnfaeaaDoor
open Go Go.Shelf Go.RowKit
set_option linter.unusedVariables false
theorem bl166 : Lays.n166 Tryd.prog Tryd.lays155_ren := { Tryd.lays155 with }
theorem bl169 : Lays.n169 Tryd.prog Tryd.lays155_ren := { Tryd.lays155 with }
def ren167 : Go.Shelf.Ren := ⟨fun | 167 => 35 | n => Tryd.lays155_ren.f n, Tryd.lays155_ren.t, Tryd.lays155_ren.g⟩
theorem bl167 : Lays.n167 Tryd.prog ren167 := {
  mixed := Tryd.lays155.mixed
  f167 := Tryd.func35.trans (congrArg some (by kernel_rfl))
  f240 := Tryd.func58.trans (congrArg some (by kernel_rfl))
  f276 := Tryd.func65.trans (congrArg some (by kernel_rfl))
  t0 := Tryd.lays155.t0, a0 := Tryd.lays155.a0, z0 := Tryd.lays155.z0, v0 := Tryd.lays155.v0
  t4 := Tryd.lays155.t4, a4 := Tryd.lays155.a4, z4 := Tryd.lays155.z4, v4 := Tryd.lays155.v4
  t5 := Tryd.underlying5, a5 := Tryd.isAgg5, z5 := Tryd.sizeOf5, v5 := Tryd.zeroValue5
  t9 := Tryd.lays155.t9, a9 := Tryd.lays155.a9, z9 := Tryd.lays155.z9, v9 := Tryd.lays155.v9
  t20 := Tryd.lays155.t20, a20 := Tryd.lays155.a20, z20 := Tryd.lays155.z20, v20 := Tryd.lays155.v20
  t37 := Tryd.lays155.t37, a37 := Tryd.lays155.a37, z37 := Tryd.lays155.z37, v37 := Tryd.lays155.v37
  t70 := Tryd.lays155.t70, a70 := Tryd.lays155.a70, z70 := Tryd.lays155.z70, v70 := Tryd.lays155.v70
  t72 := Tryd.lays155.t72, a72 := Tryd.lays155.a72, z72 := Tryd.lays155.z72, v72 := Tryd.lays155.v72
  t75 := Tryd.lays155.t75, a75 := Tryd.lays155.a75, z75 := Tryd.lays155.z75, v75 := Tryd.lays155.v75
  t164 := Tryd.lays155.t164, a164 := Tryd.lays155.a164, z164 := Tryd.lays155.z164, v164 := Tryd.lays155.v164 }
theorem ex167 : Builder.Extra Tryd.prog ren167 := {
  sizeBuilder := by kernel_rfl
  liesBuilder := by kernel_rfl
  t5 := Tryd.underlying5
  a5 := Tryd.isAgg5
  z5 := Tryd.sizeOf5
  v5 := Tryd.zeroValue5
  infoByte := by kernel_rfl
  cellsByte := by kernel_rfl
  sizeByte := by kernel_rfl
  neB5 := by decide }
theorem WriteByte_ok (B b : Nat) (bs : List Value) (c : Int) (w : World) (h : Lib.IsBuilder 63 5 B b bs w) (hlen : bs.length + 1 ≤ 140737488355328) (hBw : B ≤ w.heap.size) :
    Calls Tryd.prog 35 #[.pointer (some ⟨b, 0, none⟩), .int .u8 c] w fun e w' => e = .returned .nilIface ∧ (Lib.BuilderAt 63 5 B b (.pointer (some ⟨b, 0, none⟩)) (bs ++ [.int .u8 c]) w' ∧ Below B w w') := Any.Builder_WriteByte bl167 ex167 B b bs c w h hlen hBw
theorem WriteString_ok (B b : Nat) (bs : List Value) (s : ByteArray) (w : World) (h : Lib.IsBuilder 63 5 B b bs w) (hlen : bs.length + s.size ≤ 140737488355328) (hBw : B ≤ w.heap.size) :
    Calls Tryd.prog 36 #[.pointer (some ⟨b, 0, none⟩), .string s] w fun e w' => e = .returned (.tuple #[.int .i64 s.size, .nilIface]) ∧ (Lib.BuilderAt 63 5 B b (.pointer (some ⟨b, 0, none⟩)) (bs ++ Lib.strCells s) w' ∧ Below B w w') := Any.Builder_WriteString bl166 Tryd.Builder_Extra_155 B b bs s w h hlen hBw
theorem String_ok (B b : Nat) (l : List UInt8) (w : World) (h : Lib.IsBuilder 63 5 B b (Lib.byteCells l) w) (hBw : B ≤ w.heap.size) :
    Calls Tryd.prog 38 #[.pointer (some ⟨b, 0, none⟩)] w fun e w' => e = .returned (.string ⟨l.toArray⟩) ∧ Below B w w' := Any.Builder_String_any bl169 Tryd.Builder_Extra_155 B b l w h hBw
theorem WriteByte_k (B b : Nat) (bs : List Value) (c : Int) (w : World) (h : Lib.IsBuilderF 63 5 B b bs w) (hlen : bs.length + 1 ≤ 140737488355328) (hBw : B ≤ w.heap.size) :
    Calls Tryd.prog 35 #[.pointer (some ⟨b, 0, none⟩), .int .u8 c] w fun e w' => e = .returned .nilIface ∧ (Lib.BuilderAtF 63 5 B b (.pointer (some ⟨b, 0, none⟩)) (bs ++ [.int .u8 c]) w' ∧ Below B w w' ∧ Lib.OthersKept 5 (some b) w w') := Any.Builder_WriteByte_k bl167 ex167 B b bs c w h hlen hBw
theorem WriteString_k (B b : Nat) (bs : List Value) (s : ByteArray) (w : World) (h : Lib.IsBuilderF 63 5 B b bs w) (hlen : bs.length + s.size ≤ 140737488355328) (hBw : B ≤ w.heap.size) :
    Calls Tryd.prog 36 #[.pointer (some ⟨b, 0, none⟩), .string s] w fun e w' => e = .returned (.tuple #[.int .i64 s.size, .nilIface]) ∧ (Lib.BuilderAtF 63 5 B b (.pointer (some ⟨b, 0, none⟩)) (bs ++ Lib.strCells s) w' ∧ Below B w w' ∧ Lib.OthersKept 5 (some b) w w') := Any.Builder_WriteString_k bl166 Tryd.Builder_Extra_155 B b bs s w h hlen hBw
theorem String_k (B b : Nat) (l : List UInt8) (w : World) (h : Lib.IsBuilderF 63 5 B b (Lib.byteCells l) w) (hBw : B ≤ w.heap.size) :
    Calls Tryd.prog 38 #[.pointer (some ⟨b, 0, none⟩)] w fun e w' => e = .returned (.string ⟨l.toArray⟩) ∧ (Lib.IsBuilderF 63 5 B b (Lib.byteCells l) w' ∧ Below B w w' ∧ Lib.OthersKept 5 (some b) w w') := Any.Builder_String_any_k bl169 Tryd.Builder_Extra_155 B b l w h hBw
end Go.Proofs.YtjbacibicnfaeaaDoor
