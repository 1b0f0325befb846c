/- strings.Builder's contracts at this translation: laid by hand, because a body that was cut no longer names two of the types that the structures ask for. -/
import Derived.Shelf.Strings.Builder1
import Derived.Test.YtjadlianlnaomaaDoorProg
namespace Go.Proofs
open Go.Shelf

def Tryd.bld_ren : Go.Shelf.Ren := ⟨fun | 240 => 34 | 276 => 37 | 166 => 24 | 167 => 31 | n => n, fun | 0 => 0 | 3 => 3 | 4 => 4 | 5 => 5 | 9 => 9 | 20 => 20 | 37 => 35 | 70 => 34 | 72 => 37 | 75 => 39 | 80 => 43 | 164 => 57 | n => n, fun | n => n⟩

theorem Tryd.bld240 : Go.Proofs.Lays.n240 Tryd.prog Tryd.bld_ren := {
  mixed := by kernel_rfl
  f240 := Tryd.func34.trans (congrArg some (by kernel_rfl))
  f276 := Tryd.func37.trans (congrArg some (by kernel_rfl))
  t0 := by first | exact Tryd.underlying0 | kernel_rfl
  a0 := by first | exact Tryd.isAgg0 | exact fun _ => by kernel_rfl
  z0 := by first | exact Tryd.sizeOf0 | exact fun _ => by kernel_rfl
  v0 := by first | exact Tryd.zeroValue0 | exact fun _ => by kernel_rfl
  t4 := by first | exact Tryd.underlying4 | kernel_rfl
  a4 := by first | exact Tryd.isAgg4 | exact fun _ => by kernel_rfl
  z4 := by first | exact Tryd.sizeOf4 | exact fun _ => by kernel_rfl
  v4 := by first | exact Tryd.zeroValue4 | exact fun _ => by kernel_rfl
  t9 := by first | exact Tryd.underlying9 | kernel_rfl
  a9 := by first | exact Tryd.isAgg9 | exact fun _ => by kernel_rfl
  z9 := by first | exact Tryd.sizeOf9 | exact fun _ => by kernel_rfl
  v9 := by first | exact Tryd.zeroValue9 | exact fun _ => by kernel_rfl
  t20 := by first | exact Tryd.underlying20 | kernel_rfl
  a20 := by first | exact Tryd.isAgg20 | exact fun _ => by kernel_rfl
  z20 := by first | exact Tryd.sizeOf20 | exact fun _ => by kernel_rfl
  v20 := by first | exact Tryd.zeroValue20 | exact fun _ => by kernel_rfl
  t70 := by first | exact Tryd.underlying34 | kernel_rfl
  a70 := by first | exact Tryd.isAgg34 | exact fun _ => by kernel_rfl
  z70 := by first | exact Tryd.sizeOf34 | exact fun _ => by kernel_rfl
  v70 := by first | exact Tryd.zeroValue34 | exact fun _ => by kernel_rfl
  t72 := by first | exact Tryd.underlying37 | kernel_rfl
  a72 := by first | exact Tryd.isAgg37 | exact fun _ => by kernel_rfl
  z72 := by first | exact Tryd.sizeOf37 | exact fun _ => by kernel_rfl
  v72 := by first | exact Tryd.zeroValue37 | exact fun _ => by kernel_rfl
  t164 := by first | exact Tryd.underlying57 | kernel_rfl
  a164 := by first | exact Tryd.isAgg57 | exact fun _ => by kernel_rfl
  z164 := by first | exact Tryd.sizeOf57 | exact fun _ => by kernel_rfl
  v164 := by first | exact Tryd.zeroValue57 | exact fun _ => by kernel_rfl }

theorem Tryd.bld167 : Go.Proofs.Lays.n167 Tryd.prog Tryd.bld_ren := {
  mixed := by kernel_rfl
  f167 := Tryd.func31.trans (congrArg some (by kernel_rfl))
  f240 := Tryd.func34.trans (congrArg some (by kernel_rfl))
  f276 := Tryd.func37.trans (congrArg some (by kernel_rfl))
  t0 := by first | exact Tryd.underlying0 | kernel_rfl
  a0 := by first | exact Tryd.isAgg0 | exact fun _ => by kernel_rfl
  z0 := by first | exact Tryd.sizeOf0 | exact fun _ => by kernel_rfl
  v0 := by first | exact Tryd.zeroValue0 | exact fun _ => by kernel_rfl
  t4 := by first | exact Tryd.underlying4 | kernel_rfl
  a4 := by first | exact Tryd.isAgg4 | exact fun _ => by kernel_rfl
  z4 := by first | exact Tryd.sizeOf4 | exact fun _ => by kernel_rfl
  v4 := by first | exact Tryd.zeroValue4 | exact fun _ => by kernel_rfl
  t5 := by first | exact Tryd.underlying5 | kernel_rfl
  a5 := by first | exact Tryd.isAgg5 | exact fun _ => by kernel_rfl
  z5 := by first | exact Tryd.sizeOf5 | exact fun _ => by kernel_rfl
  v5 := by first | exact Tryd.zeroValue5 | exact fun _ => by kernel_rfl
  t9 := by first | exact Tryd.underlying9 | kernel_rfl
  a9 := by first | exact Tryd.isAgg9 | exact fun _ => by kernel_rfl
  z9 := by first | exact Tryd.sizeOf9 | exact fun _ => by kernel_rfl
  v9 := by first | exact Tryd.zeroValue9 | exact fun _ => by kernel_rfl
  t20 := by first | exact Tryd.underlying20 | kernel_rfl
  a20 := by first | exact Tryd.isAgg20 | exact fun _ => by kernel_rfl
  z20 := by first | exact Tryd.sizeOf20 | exact fun _ => by kernel_rfl
  v20 := by first | exact Tryd.zeroValue20 | exact fun _ => by kernel_rfl
  t37 := by first | exact Tryd.underlying35 | kernel_rfl
  a37 := by first | exact Tryd.isAgg35 | exact fun _ => by kernel_rfl
  z37 := by first | exact Tryd.sizeOf35 | exact fun _ => by kernel_rfl
  v37 := by first | exact Tryd.zeroValue35 | exact fun _ => by kernel_rfl
  t70 := by first | exact Tryd.underlying34 | kernel_rfl
  a70 := by first | exact Tryd.isAgg34 | exact fun _ => by kernel_rfl
  z70 := by first | exact Tryd.sizeOf34 | exact fun _ => by kernel_rfl
  v70 := by first | exact Tryd.zeroValue34 | exact fun _ => by kernel_rfl
  t72 := by first | exact Tryd.underlying37 | kernel_rfl
  a72 := by first | exact Tryd.isAgg37 | exact fun _ => by kernel_rfl
  z72 := by first | exact Tryd.sizeOf37 | exact fun _ => by kernel_rfl
  v72 := by first | exact Tryd.zeroValue37 | exact fun _ => by kernel_rfl
  t75 := by first | exact Tryd.underlying39 | kernel_rfl
  a75 := by first | exact Tryd.isAgg39 | exact fun _ => by kernel_rfl
  z75 := by first | exact Tryd.sizeOf39 | exact fun _ => by kernel_rfl
  v75 := by first | exact Tryd.zeroValue39 | exact fun _ => by kernel_rfl
  t164 := by first | exact Tryd.underlying57 | kernel_rfl
  a164 := by first | exact Tryd.isAgg57 | exact fun _ => by kernel_rfl
  z164 := by first | exact Tryd.sizeOf57 | exact fun _ => by kernel_rfl
  v164 := by first | exact Tryd.zeroValue57 | exact fun _ => by kernel_rfl }

theorem Tryd.bld166 : Go.Proofs.Lays.n166 Tryd.prog Tryd.bld_ren := {
  mixed := by kernel_rfl
  f166 := Tryd.func24.trans (congrArg some (by kernel_rfl))
  f240 := Tryd.func34.trans (congrArg some (by kernel_rfl))
  f276 := Tryd.func37.trans (congrArg some (by kernel_rfl))
  t0 := by first | exact Tryd.underlying0 | kernel_rfl
  a0 := by first | exact Tryd.isAgg0 | exact fun _ => by kernel_rfl
  z0 := by first | exact Tryd.sizeOf0 | exact fun _ => by kernel_rfl
  v0 := by first | exact Tryd.zeroValue0 | exact fun _ => by kernel_rfl
  t3 := by first | exact Tryd.underlying3 | kernel_rfl
  a3 := by first | exact Tryd.isAgg3 | exact fun _ => by kernel_rfl
  z3 := by first | exact Tryd.sizeOf3 | exact fun _ => by kernel_rfl
  v3 := by first | exact Tryd.zeroValue3 | exact fun _ => by kernel_rfl
  t4 := by first | exact Tryd.underlying4 | kernel_rfl
  a4 := by first | exact Tryd.isAgg4 | exact fun _ => by kernel_rfl
  z4 := by first | exact Tryd.sizeOf4 | exact fun _ => by kernel_rfl
  v4 := by first | exact Tryd.zeroValue4 | exact fun _ => by kernel_rfl
  t9 := by first | exact Tryd.underlying9 | kernel_rfl
  a9 := by first | exact Tryd.isAgg9 | exact fun _ => by kernel_rfl
  z9 := by first | exact Tryd.sizeOf9 | exact fun _ => by kernel_rfl
  v9 := by first | exact Tryd.zeroValue9 | exact fun _ => by kernel_rfl
  t20 := by first | exact Tryd.underlying20 | kernel_rfl
  a20 := by first | exact Tryd.isAgg20 | exact fun _ => by kernel_rfl
  z20 := by first | exact Tryd.sizeOf20 | exact fun _ => by kernel_rfl
  v20 := by first | exact Tryd.zeroValue20 | exact fun _ => by kernel_rfl
  t37 := by first | exact Tryd.underlying35 | kernel_rfl
  a37 := by first | exact Tryd.isAgg35 | exact fun _ => by kernel_rfl
  z37 := by first | exact Tryd.sizeOf35 | exact fun _ => by kernel_rfl
  v37 := by first | exact Tryd.zeroValue35 | exact fun _ => by kernel_rfl
  t70 := by first | exact Tryd.underlying34 | kernel_rfl
  a70 := by first | exact Tryd.isAgg34 | exact fun _ => by kernel_rfl
  z70 := by first | exact Tryd.sizeOf34 | exact fun _ => by kernel_rfl
  v70 := by first | exact Tryd.zeroValue34 | exact fun _ => by kernel_rfl
  t72 := by first | exact Tryd.underlying37 | kernel_rfl
  a72 := by first | exact Tryd.isAgg37 | exact fun _ => by kernel_rfl
  z72 := by first | exact Tryd.sizeOf37 | exact fun _ => by kernel_rfl
  v72 := by first | exact Tryd.zeroValue37 | exact fun _ => by kernel_rfl
  t75 := by first | exact Tryd.underlying39 | kernel_rfl
  a75 := by first | exact Tryd.isAgg39 | exact fun _ => by kernel_rfl
  z75 := by first | exact Tryd.sizeOf39 | exact fun _ => by kernel_rfl
  v75 := by first | exact Tryd.zeroValue39 | exact fun _ => by kernel_rfl
  t164 := by first | exact Tryd.underlying57 | kernel_rfl
  a164 := by first | exact Tryd.isAgg57 | exact fun _ => by kernel_rfl
  z164 := by first | exact Tryd.sizeOf57 | exact fun _ => by kernel_rfl
  v164 := by first | exact Tryd.zeroValue57 | exact fun _ => by kernel_rfl }

theorem Tryd.bldX : Builder.X72 Tryd.prog Tryd.bld_ren := {
  sizeBuilder := by kernel_rfl
  liesBuilder := by kernel_rfl }

theorem Tryd.bldE : Builder.Extra Tryd.prog Tryd.bld_ren := {
  sizeBuilder := by kernel_rfl
  liesBuilder := by kernel_rfl
  t5 := Tryd.underlying5
  a5 := Tryd.isAgg5
  z5 := Tryd.sizeOf5
  v5 := Tryd.zeroValue5
  infoByte := by kernel_rfl
  cellsByte := by kernel_rfl
  sizeByte := by kernel_rfl
  neB5 := by decide }

open Go.RowKit in
theorem Tryd.Builder_copyCheck (B b : Nat) (bs : List Value) (w : World) (h : Lib.IsBuilder 37 5 B b bs w) :
    Calls Tryd.prog 34 #[.pointer (some ⟨b, 0, none⟩)] w fun e w' => e = .returned (.tuple #[]) ∧ (Lib.BuilderAt 37 5 B b (.pointer (some ⟨b, 0, none⟩)) bs w' ∧ Below B w w') :=
  Any.Builder_copyCheck Tryd.bld240 Tryd.bldX B b bs w h

open Go.RowKit in
theorem Tryd.Builder_WriteByte (B b : Nat) (bs : List Value) (c : Int) (w : World) (h : Lib.IsBuilder 37 5 B b bs w) (hlen : bs.length + 1 ≤ 140737488355328) (hBw : B ≤ w.heap.size) :
    Calls Tryd.prog 31 #[.pointer (some ⟨b, 0, none⟩), .int .u8 c] w fun e w' => e = .returned .nilIface ∧ (Lib.BuilderAt 37 5 B b (.pointer (some ⟨b, 0, none⟩)) (bs ++ [.int .u8 c]) w' ∧ Below B w w') :=
  Any.Builder_WriteByte Tryd.bld167 Tryd.bldE B b bs c w h hlen hBw

open Go.RowKit in
theorem Tryd.Builder_WriteString (B b : Nat) (bs : List Value) (s : ByteArray) (w : World) (h : Lib.IsBuilder 37 5 B b bs w) (hlen : bs.length + s.size ≤ 140737488355328) (hBw : B ≤ w.heap.size) :
    Calls Tryd.prog 24 #[.pointer (some ⟨b, 0, none⟩), .string s] w fun e w' => e = .returned (.tuple #[.int .i64 s.size, .nilIface]) ∧ (Lib.BuilderAt 37 5 B b (.pointer (some ⟨b, 0, none⟩)) (bs ++ Lib.strCells s) w' ∧ Below B w w') :=
  Any.Builder_WriteString Tryd.bld166 Tryd.bldE B b bs s w h hlen hBw
end Go.Proofs
