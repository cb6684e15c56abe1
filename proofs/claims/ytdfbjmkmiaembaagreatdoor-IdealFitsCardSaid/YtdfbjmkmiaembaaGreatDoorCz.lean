/- Library contracts laid at this program: maps.Keys, slices.Collect. -/
import Derived.Shelf.SlGeneric
import Derived.Ground.GgzProg
import Derived.Shelf.SlIterI.Collect
import Derived.Test.YtdfbjmkmiaembaaGreatDoorProg
namespace Go.Proofs
open Go.Shelf
def Tryz.laysZI7_ren : Go.Shelf.Ren := ⟨fun | 7 => 79 | 10 => 122 | n => n, fun | 23 => 88 | 26 => 2 | 3 => 84 | 28 => 142 | 0 => 0 | 27 => 141 | 33 => 146 | 4 => 4 | n => n, fun | n => n⟩
theorem Tryz.laysZI7 : Go.Proofs.SlLaysZI.n7 Tryz.prog Tryz.laysZI7_ren := {
  mixed := by kernel_rfl
  f7 := ⟨Tryz.f79.name, by decide, Tryz.func79.trans (congrArg some (by kernel_rfl))⟩
  f10 := ⟨Tryz.f122.name, by decide, Tryz.func122.trans (congrArg some (by kernel_rfl))⟩
  t0 := Tryz.underlying0
  a0 := Tryz.isAgg0
  z0 := Tryz.sizeOf0
  v0 := Tryz.zeroValue0
  t4 := Tryz.underlying4
  a4 := Tryz.isAgg4
  z4 := Tryz.sizeOf4
  v4 := Tryz.zeroValue4
  t23 := Tryz.underlying88
  a23 := Tryz.isAgg88
  z23 := Tryz.sizeOf88
  v23 := Tryz.zeroValue88
  t26 := Tryz.underlying2
  a26 := Tryz.isAgg2
  z26 := Tryz.sizeOf2
  v26 := Tryz.zeroValue2
  t27 := Tryz.underlying141
  a27 := Tryz.isAgg141
  z27 := Tryz.sizeOf141
  v27 := Tryz.zeroValue141
  t28 := Tryz.underlying142
  a28 := Tryz.isAgg142
  z28 := Tryz.sizeOf142
  v28 := Tryz.zeroValue142
  t33 := Tryz.underlying146
  a33 := Tryz.isAgg146
  z33 := Tryz.sizeOf146
  v33 := Tryz.zeroValue146 }
def Tryz.laysZI10_ren : Go.Shelf.Ren := ⟨fun | 10 => 122 | n => n, fun | 33 => 146 | 23 => 88 | 0 => 0 | 4 => 4 | 26 => 2 | 3 => 84 | n => n, fun | n => n⟩
theorem Tryz.laysZI10 : Go.Proofs.SlLaysZI.n10 Tryz.prog Tryz.laysZI10_ren := {
  mixed := by kernel_rfl
  f10 := ⟨Tryz.f122.name, by decide, Tryz.func122.trans (congrArg some (by kernel_rfl))⟩
  t0 := Tryz.underlying0
  a0 := Tryz.isAgg0
  z0 := Tryz.sizeOf0
  v0 := Tryz.zeroValue0
  t4 := Tryz.underlying4
  a4 := Tryz.isAgg4
  z4 := Tryz.sizeOf4
  v4 := Tryz.zeroValue4
  t23 := Tryz.underlying88
  a23 := Tryz.isAgg88
  z23 := Tryz.sizeOf88
  v23 := Tryz.zeroValue88
  t26 := Tryz.underlying2
  a26 := Tryz.isAgg2
  z26 := Tryz.sizeOf2
  v26 := Tryz.zeroValue2
  t33 := Tryz.underlying146
  a33 := Tryz.isAgg146
  z33 := Tryz.sizeOf146
  v33 := Tryz.zeroValue146 }
def Tryz.laysZI8_ren : Go.Shelf.Ren := ⟨fun | 8 => 78 | 11 => 121 | n => n, fun | 26 => 2 | 28 => 142 | 24 => 81 | 0 => 0 | 33 => 146 | 4 => 4 | n => n, fun | n => n⟩
theorem Tryz.laysZI8 : Go.Proofs.SlLaysZI.n8 Tryz.prog Tryz.laysZI8_ren := {
  mixed := by kernel_rfl
  f8 := ⟨Tryz.f78.name, by decide, Tryz.func78.trans (congrArg some (by kernel_rfl))⟩
  f11 := ⟨Tryz.f121.name, by decide, Tryz.func121.trans (congrArg some (by kernel_rfl))⟩
  t0 := Tryz.underlying0
  a0 := Tryz.isAgg0
  z0 := Tryz.sizeOf0
  v0 := Tryz.zeroValue0
  t24 := Tryz.underlying81
  a24 := Tryz.isAgg81
  z24 := Tryz.sizeOf81
  v24 := Tryz.zeroValue81
  t26 := Tryz.underlying2
  a26 := Tryz.isAgg2
  z26 := Tryz.sizeOf2
  v26 := Tryz.zeroValue2
  t28 := Tryz.underlying142
  a28 := Tryz.isAgg142
  z28 := Tryz.sizeOf142
  v28 := Tryz.zeroValue142
  i26 := by kernel_rfl }
def Tryz.laysZI11_ren : Go.Shelf.Ren := ⟨fun | 11 => 121 | n => n, fun | 24 => 81 | 26 => 2 | 28 => 142 | 0 => 0 | 33 => 146 | 4 => 4 | n => n, fun | n => n⟩
theorem Tryz.laysZI11 : Go.Proofs.SlLaysZI.n11 Tryz.prog Tryz.laysZI11_ren := {
  mixed := by kernel_rfl
  f11 := ⟨Tryz.f121.name, by decide, Tryz.func121.trans (congrArg some (by kernel_rfl))⟩
  t0 := Tryz.underlying0
  a0 := Tryz.isAgg0
  z0 := Tryz.sizeOf0
  v0 := Tryz.zeroValue0
  t24 := Tryz.underlying81
  a24 := Tryz.isAgg81
  z24 := Tryz.sizeOf81
  v24 := Tryz.zeroValue81
  t26 := Tryz.underlying2
  a26 := Tryz.isAgg2
  z26 := Tryz.sizeOf2
  v26 := Tryz.zeroValue2
  t28 := Tryz.underlying142
  a28 := Tryz.isAgg142
  z28 := Tryz.sizeOf142
  v28 := Tryz.zeroValue142
  i26 := by kernel_rfl }
end Go.Proofs
