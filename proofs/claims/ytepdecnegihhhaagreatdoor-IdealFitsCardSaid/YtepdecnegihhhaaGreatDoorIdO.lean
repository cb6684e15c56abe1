/- A node that came in, opened. -/
import Derived.Test.YtepdecnegihhhaaGreatDoorIdN
import Derived.Test.YtepdecnegihhhaaGreatDoorIdT
import Derived.OpenShut
import Derived.ShutString
set_option linter.unusedSimpArgs false
set_option linter.unusedVariables false
namespace Go.Proofs.YtepdecnegihhhaaGreatDoor.idl
open Go.RowKit
open opr (Nv nodeV)
theorem c5 : Tryz.prog.cellsOf 5 = 1 := by kernel_rfl
theorem c3 : Tryz.prog.cellsOf 3 = 1 := by kernel_rfl
theorem c2 : Tryz.prog.cellsOf 2 = 1 := by kernel_rfl
theorem c25 : Tryz.prog.cellsOf 44 = 1 := by kernel_rfl
theorem c27 : Tryz.prog.cellsOf 46 = 3 := by kernel_rfl
theorem u8_nat {a : Int} (h : (Lit.int .u8 a).wf = true) : ∃ k : Nat, a = (k : Int) := by
 simp [Lit.wf, IntKind.min, IntKind.max, IntKind.signed, IntKind.bits] at h
 exact ⟨a.toNat, by omega⟩
set_option maxRecDepth 100000 in
theorem node_in {H : Type} {enc : TypeId × Value → H} {w : World} {spare : Nat → Bool} {held : Bool} {n : Nat} {cs : List Value} {x : DataW H × List MemPlace}
  (h : DataW.trod enc Tryz.prog w 0 spare held n 48 cs = some x) : ∃ nv : Nv, cs = nv.cells.toList := by
 obtain ⟨xs, k, _, _, hl, hxl, hf⟩ := DataW.trod_struct Tryz.underlying48 h
 have c9 : Tryz.prog.cellsOf 9 = 1 := by kernel_rfl
 have c24 : Tryz.prog.cellsOf 43 = 1 := by kernel_rfl
 have c29 : Tryz.prog.cellsOf 48 = 7 := by kernel_rfl
 rw [c29] at hl
 match cs, hl, xs, hxl with
 | [v0, v1, v2, v3, v4, v5, v6], _, [y0, y1, y2, y3, y4], _ =>
  have g0 := hf 0 _ rfl
  have g1 := hf 1 _ rfl
  have g2 := hf 2 _ rfl
  have g3 := hf 3 _ rfl
  have g4 := hf 4 _ rfl
  simp [c9, c5, c24, c27, c3] at g0 g1 g2 g3 g4
  obtain ⟨s, e0, _, _⟩ := DataW.trod_string Tryz.underlying9 g0
  obtain ⟨a1, e1, _, f1⟩ := DataW.trod_int Tryz.underlying5 g1
  obtain ⟨a6, e6, _, f6⟩ := DataW.trod_int Tryz.underlying3 g4
  have hv2 : ∃ a n c, v2 = .slice a n c := by
   rcases Go.Deep.open_slice Tryz.underlying43 g2 with ⟨hcs, _⟩ | ⟨y, l, c, m, n, D, Pl, hcs, _⟩
   · simp at hcs; exact ⟨_, _, _, hcs⟩
   · simp at hcs; exact ⟨_, _, _, hcs⟩
  obtain ⟨zs, k2, _, _, hl2, hzl, hf2⟩ := DataW.trod_struct Tryz.underlying46 g3
  match zs, hzl with
  | [z0, z1, z2], _ =>
   have g5 := hf2 0 _ rfl
   have g6 := hf2 1 _ rfl
   have g7 := hf2 2 _ rfl
   simp [c5, c2, c25] at g5 g6 g7
   obtain ⟨a3, e3, _, f3⟩ := DataW.trod_int Tryz.underlying5 g5
   obtain ⟨a4, e4, _, f4⟩ := DataW.trod_int Tryz.underlying2 g6
   have hv5 : ∃ a n c, v5 = .slice a n c := by
    rcases Go.Deep.open_slice Tryz.underlying44 g7 with ⟨hcs, _⟩ | ⟨y, l, c, m, n, D, Pl, hcs, _⟩
    · simp at hcs; exact ⟨_, _, _, hcs⟩
    · simp at hcs; exact ⟨_, _, _, hcs⟩
   obtain ⟨xa, xl, xc, e5⟩ := hv5
   obtain ⟨ia, il, ic, e2⟩ := hv2
   obtain ⟨kd, hkd⟩ := u8_nat f1
   obtain ⟨op, hop⟩ := u8_nat f3
   simp at e0 e1 e3 e4 e6
   subst e0 e1 e2 e3 e4 e5 e6 hkd hop
   exact ⟨⟨s, kd, ia, il, ic, op, a4, xa, xl, xc, a6⟩, rfl⟩
end Go.Proofs.YtepdecnegihhhaaGreatDoor.idl
