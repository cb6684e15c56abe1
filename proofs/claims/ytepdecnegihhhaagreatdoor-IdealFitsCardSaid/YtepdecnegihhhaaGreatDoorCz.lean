/- Library contracts laid at this program: maps.Keys, slices.Collect. -/
import Derived.Shelf.SlGeneric
import Derived.Ground.GgzProg
import Derived.Shelf.SlIterI.Collect
import Derived.Test.YtepdecnegihhhaaGreatDoorProg
namespace Go.Proofs
open Go.Shelf
def Tryz.laysZI7_ren : Go.Shelf.Ren := ⟨fun | 7 => 62 | 10 => 99 | n => n, fun | 23 => 81 | 26 => 2 | 3 => 77 | 28 => 130 | 0 => 0 | 27 => 129 | 33 => 134 | 4 => 4 | n => n, fun | n => n⟩
theorem Tryz.laysZI7 : Go.Proofs.SlLaysZI.n7 Tryz.prog Tryz.laysZI7_ren := {
  mixed := by kernel_rfl
  f7 := ⟨Tryz.f62.name, by decide, Tryz.func62.trans (congrArg some (by kernel_rfl))⟩
  f10 := ⟨Tryz.f99.name, by decide, Tryz.func99.trans (congrArg some (by kernel_rfl))⟩
  t0 := Tryz.underlying0
  a0 := Tryz.isAgg0
  z0 := Tryz.sizeOf0
  v0 := Tryz.zeroValue0
  t4 := Tryz.underlying4
  a4 := Tryz.isAgg4
  z4 := Tryz.sizeOf4
  v4 := Tryz.zeroValue4
  t23 := Tryz.underlying81
  a23 := Tryz.isAgg81
  z23 := Tryz.sizeOf81
  v23 := Tryz.zeroValue81
  t26 := Tryz.underlying2
  a26 := Tryz.isAgg2
  z26 := Tryz.sizeOf2
  v26 := Tryz.zeroValue2
  t27 := Tryz.underlying129
  a27 := Tryz.isAgg129
  z27 := Tryz.sizeOf129
  v27 := Tryz.zeroValue129
  t28 := Tryz.underlying130
  a28 := Tryz.isAgg130
  z28 := Tryz.sizeOf130
  v28 := Tryz.zeroValue130
  t33 := Tryz.underlying134
  a33 := Tryz.isAgg134
  z33 := Tryz.sizeOf134
  v33 := Tryz.zeroValue134 }
def Tryz.laysZI10_ren : Go.Shelf.Ren := ⟨fun | 10 => 99 | n => n, fun | 33 => 134 | 23 => 81 | 0 => 0 | 4 => 4 | 26 => 2 | 3 => 77 | n => n, fun | n => n⟩
theorem Tryz.laysZI10 : Go.Proofs.SlLaysZI.n10 Tryz.prog Tryz.laysZI10_ren := {
  mixed := by kernel_rfl
  f10 := ⟨Tryz.f99.name, by decide, Tryz.func99.trans (congrArg some (by kernel_rfl))⟩
  t0 := Tryz.underlying0
  a0 := Tryz.isAgg0
  z0 := Tryz.sizeOf0
  v0 := Tryz.zeroValue0
  t4 := Tryz.underlying4
  a4 := Tryz.isAgg4
  z4 := Tryz.sizeOf4
  v4 := Tryz.zeroValue4
  t23 := Tryz.underlying81
  a23 := Tryz.isAgg81
  z23 := Tryz.sizeOf81
  v23 := Tryz.zeroValue81
  t26 := Tryz.underlying2
  a26 := Tryz.isAgg2
  z26 := Tryz.sizeOf2
  v26 := Tryz.zeroValue2
  t33 := Tryz.underlying134
  a33 := Tryz.isAgg134
  z33 := Tryz.sizeOf134
  v33 := Tryz.zeroValue134 }
def Tryz.laysZI8_ren : Go.Shelf.Ren := ⟨fun | 8 => 61 | 11 => 98 | n => n, fun | 26 => 2 | 28 => 130 | 24 => 74 | 0 => 0 | 33 => 134 | 4 => 4 | n => n, fun | n => n⟩
theorem Tryz.laysZI8 : Go.Proofs.SlLaysZI.n8 Tryz.prog Tryz.laysZI8_ren := {
  mixed := by kernel_rfl
  f8 := ⟨Tryz.f61.name, by decide, Tryz.func61.trans (congrArg some (by kernel_rfl))⟩
  f11 := ⟨Tryz.f98.name, by decide, Tryz.func98.trans (congrArg some (by kernel_rfl))⟩
  t0 := Tryz.underlying0
  a0 := Tryz.isAgg0
  z0 := Tryz.sizeOf0
  v0 := Tryz.zeroValue0
  t24 := Tryz.underlying74
  a24 := Tryz.isAgg74
  z24 := Tryz.sizeOf74
  v24 := Tryz.zeroValue74
  t26 := Tryz.underlying2
  a26 := Tryz.isAgg2
  z26 := Tryz.sizeOf2
  v26 := Tryz.zeroValue2
  t28 := Tryz.underlying130
  a28 := Tryz.isAgg130
  z28 := Tryz.sizeOf130
  v28 := Tryz.zeroValue130
  i26 := by kernel_rfl }
def Tryz.laysZI11_ren : Go.Shelf.Ren := ⟨fun | 11 => 98 | n => n, fun | 24 => 74 | 26 => 2 | 28 => 130 | 0 => 0 | 33 => 134 | 4 => 4 | n => n, fun | n => n⟩
theorem Tryz.laysZI11 : Go.Proofs.SlLaysZI.n11 Tryz.prog Tryz.laysZI11_ren := {
  mixed := by kernel_rfl
  f11 := ⟨Tryz.f98.name, by decide, Tryz.func98.trans (congrArg some (by kernel_rfl))⟩
  t0 := Tryz.underlying0
  a0 := Tryz.isAgg0
  z0 := Tryz.sizeOf0
  v0 := Tryz.zeroValue0
  t24 := Tryz.underlying74
  a24 := Tryz.isAgg74
  z24 := Tryz.sizeOf74
  v24 := Tryz.zeroValue74
  t26 := Tryz.underlying2
  a26 := Tryz.isAgg2
  z26 := Tryz.sizeOf2
  v26 := Tryz.zeroValue2
  t28 := Tryz.underlying130
  a28 := Tryz.isAgg130
  z28 := Tryz.sizeOf130
  v28 := Tryz.zeroValue130
  i26 := by kernel_rfl }
end Go.Proofs
