/- What table answers. What look's closure answers of a part. What look's closure answers: walked. What look and Of answer. What Of answers. -/
import Derived.Test.YtepdecnegihhhaaGreatDoorMKd
import Derived.Test.YtepdecnegihhhaaGreatDoorMEx
import Derived.Deep.DeepCutAuto
import Derived.Deep.LoopGhost
set_option linter.unusedSimpArgs false
set_option linter.unusedVariables false
namespace Go.Proofs.YtepdecnegihhhaaGreatDoor.exp
section
open Go.RowKit nam
open Go.ChangeMaps (setBlock heap_setBlock_same heap_setBlock_other)
set_option maxRecDepth 100000 in
theorem fill_all {Q : Exit → Act → World → Prop} (hQ : ∀ c (a : Act) d v w, Q (.panic c) (a.put d v) w → Q (.panic c) a w) {W : World} {N : Nat} (p0 : PM kR vB (fun _ => True) W N (fun _ => none))
  (h : ∀ w', PM kR vB (fun _ => True) w' N tab → Only (fun k => k = N) W w' → Q .normal { tmps := #[.map (some N), .map (some N), .agg #[.int .u8 0, .int .u8 0, .int .u8 0], .agg #[.int .u8 1, .int .u8 0, .int .u8 0, .int .u8 0], .agg #[.int .u8 0, .int .u8 0, .int .u8 0], .agg #[.int .u8 2, .int .u8 0, .int .u8 0, .int .u8 0], .agg #[.int .u8 0, .int .u8 0, .int .u8 0], .agg #[.int .u8 3, .int .u8 0, .int .u8 0, .int .u8 0], .agg #[.int .u8 0, .int .u8 0, .int .u8 0], .agg #[.int .u8 4, .int .u8 0, .int .u8 0, .int .u8 0], .agg #[.int .u8 1, .int .u8 0, .int .u8 0], .agg #[.int .u8 5, .int .u8 1, .int .u8 0, .int .u8 0], .agg #[.int .u8 1, .int .u8 1, .int .u8 0], .agg #[.int .u8 7, .int .u8 1, .int .u8 1, .int .u8 0], .agg #[.int .u8 1, .int .u8 1, .int .u8 0], .agg #[.int .u8 8, .int .u8 1, .int .u8 1, .int .u8 0], .agg #[.int .u8 1, .int .u8 1, .int .u8 0], .agg #[.int .u8 9, .int .u8 1, .int .u8 1, .int .u8 0], .agg #[.int .u8 1, .int .u8 1, .int .u8 0], .agg #[.int .u8 10, .int .u8 1, .int .u8 1, .int .u8 0], .agg #[.int .u8 1, .int .u8 1, .int .u8 0], .agg #[.int .u8 11, .int .u8 1, .int .u8 1, .int .u8 0], .agg #[.int .u8 2, .int .u8 0, .int .u8 0], .agg #[.int .u8 6, .int .u8 2, .int .u8 0, .int .u8 0], .agg #[.int .u8 2, .int .u8 2, .int .u8 0], .agg #[.int .u8 16, .int .u8 2, .int .u8 2, .int .u8 0], .agg #[.int .u8 2, .int .u8 2, .int .u8 0], .agg #[.int .u8 17, .int .u8 2, .int .u8 2, .int .u8 0], .agg #[.int .u8 1, .int .u8 1, .int .u8 0], .agg #[.int .u8 12, .int .u8 1, .int .u8 1, .int .u8 0], .agg #[.int .u8 1, .int .u8 1, .int .u8 0], .agg #[.int .u8 13, .int .u8 1, .int .u8 1, .int .u8 0], .agg #[.int .u8 1, .int .u8 1, .int .u8 0], .agg #[.int .u8 14, .int .u8 1, .int .u8 1, .int .u8 0], .agg #[.int .u8 2, .int .u8 2, .int .u8 0], .agg #[.int .u8 14, .int .u8 2, .int .u8 2, .int .u8 0], .agg #[.int .u8 1, .int .u8 1, .int .u8 0], .agg #[.int .u8 15, .int .u8 1, .int .u8 1, .int .u8 0], .agg #[.int .u8 2, .int .u8 2, .int .u8 0], .agg #[.int .u8 15, .int .u8 2, .int .u8 2, .int .u8 0], .agg #[.int .u8 2, .int .u8 1, .int .u8 1], .agg #[.int .u8 18, .int .u8 2, .int .u8 1, .int .u8 1], .agg #[.int .u8 2, .int .u8 2, .int .u8 2], .agg #[.int .u8 18, .int .u8 2, .int .u8 2, .int .u8 2], .map (some N)], defers := [] } w') : wpAny Tryz.prog .any tOps Q 23 #[true, true, true, false, true, true, false, true, true, false, true, true, false, true, true, false, true, true, false, true, true, false, true, true, false, true, true, false, true, true, false, true, true, false, true, true, false, true, true, false, true, true, false, true, true, false, true, true, false, true, true, false, true, true, false, true, true, false, true, true, false, true, true, false, false, false] { tmps := #[.map none, .map (some N), .agg #[.int .u8 0, .int .u8 0, .int .u8 0], .agg #[.int .u8 1, .int .u8 0, .int .u8 0, .int .u8 0], .agg #[.int .u8 0, .int .u8 0, .int .u8 0], .agg #[.int .u8 2, .int .u8 0, .int .u8 0, .int .u8 0], .agg #[.int .u8 0, .int .u8 0, .int .u8 0], .agg #[.int .u8 3, .int .u8 0, .int .u8 0, .int .u8 0], .agg #[.int .u8 0, .int .u8 0, .int .u8 0], .agg #[.int .u8 4, .int .u8 0, .int .u8 0, .int .u8 0], .agg #[.int .u8 1, .int .u8 0, .int .u8 0], .agg #[.int .u8 5, .int .u8 1, .int .u8 0, .int .u8 0], .agg #[.int .u8 1, .int .u8 1, .int .u8 0], .agg #[.int .u8 7, .int .u8 1, .int .u8 1, .int .u8 0], .agg #[.int .u8 1, .int .u8 1, .int .u8 0], .agg #[.int .u8 8, .int .u8 1, .int .u8 1, .int .u8 0], .agg #[.int .u8 1, .int .u8 1, .int .u8 0], .agg #[.int .u8 9, .int .u8 1, .int .u8 1, .int .u8 0], .agg #[.int .u8 1, .int .u8 1, .int .u8 0], .agg #[.int .u8 10, .int .u8 1, .int .u8 1, .int .u8 0], .agg #[.int .u8 1, .int .u8 1, .int .u8 0], .agg #[.int .u8 11, .int .u8 1, .int .u8 1, .int .u8 0], .agg #[.int .u8 2, .int .u8 0, .int .u8 0], .agg #[.int .u8 6, .int .u8 2, .int .u8 0, .int .u8 0], .agg #[.int .u8 2, .int .u8 2, .int .u8 0], .agg #[.int .u8 16, .int .u8 2, .int .u8 2, .int .u8 0], .agg #[.int .u8 2, .int .u8 2, .int .u8 0], .agg #[.int .u8 17, .int .u8 2, .int .u8 2, .int .u8 0], .agg #[.int .u8 1, .int .u8 1, .int .u8 0], .agg #[.int .u8 12, .int .u8 1, .int .u8 1, .int .u8 0], .agg #[.int .u8 1, .int .u8 1, .int .u8 0], .agg #[.int .u8 13, .int .u8 1, .int .u8 1, .int .u8 0], .agg #[.int .u8 1, .int .u8 1, .int .u8 0], .agg #[.int .u8 14, .int .u8 1, .int .u8 1, .int .u8 0], .agg #[.int .u8 2, .int .u8 2, .int .u8 0], .agg #[.int .u8 14, .int .u8 2, .int .u8 2, .int .u8 0], .agg #[.int .u8 1, .int .u8 1, .int .u8 0], .agg #[.int .u8 15, .int .u8 1, .int .u8 1, .int .u8 0], .agg #[.int .u8 2, .int .u8 2, .int .u8 0], .agg #[.int .u8 15, .int .u8 2, .int .u8 2, .int .u8 0], .agg #[.int .u8 2, .int .u8 1, .int .u8 1], .agg #[.int .u8 18, .int .u8 2, .int .u8 1, .int .u8 1], .agg #[.int .u8 2, .int .u8 2, .int .u8 2], .agg #[.int .u8 18, .int .u8 2, .int .u8 2, .int .u8 2], undef], defers := [] } W := by
 refine wpAny_fills (L := ents) (T := tab) (fe := 2) (fin := #[true, true, true, true, true, true, true, true, true, true, true, true, true, true, true, true, true, true, true, true, true, true, true, true, true, true, true, true, true, true, true, true, true, true, true, true, true, true, true, true, true, true, true, true, true, true, true, true, true, true, true, true, true, true, true, true, true, true, true, true, true, true, true, true, false, false]) (b := N) ?hop (by kernel_rfl) (by kernel_rfl) (by kernel_rfl) (by kernel_rfl) (by decide) (by decide) ents_tab tab_in ?hend p0
 case hop =>
  intro e he
  simp only [ents, List.mem_cons, List.not_mem_nil, or_false] at he
  rcases he with rfl | rfl | rfl | rfl | rfl | rfl | rfl | rfl | rfl | rfl | rfl | rfl | rfl | rfl | rfl | rfl | rfl | rfl | rfl | rfl | rfl
  · exact ⟨{ dst := none, op := .insert 294 (.tmp 1) (.tmp 3) (.const (.int .u8 1)), type := 0, pos := pss, after := #[{ on := 0, ground := Ground.data }, { on := 2, ground := Ground.data }], guard := none }, by kernel_rfl, rfl, by kernel_rfl, rfl, by kernel_rfl, by kernel_rfl⟩
  · exact ⟨{ dst := none, op := .insert 294 (.tmp 1) (.tmp 5) (.const (.int .u8 1)), type := 0, pos := pss, after := #[{ on := 0, ground := Ground.data }, { on := 5, ground := Ground.data }], guard := none }, by kernel_rfl, rfl, by kernel_rfl, rfl, by kernel_rfl, by kernel_rfl⟩
  · exact ⟨{ dst := none, op := .insert 294 (.tmp 1) (.tmp 7) (.const (.int .u8 1)), type := 0, pos := pss, after := #[{ on := 0, ground := Ground.data }, { on := 8, ground := Ground.data }], guard := none }, by kernel_rfl, rfl, by kernel_rfl, rfl, by kernel_rfl, by kernel_rfl⟩
  · exact ⟨{ dst := none, op := .insert 294 (.tmp 1) (.tmp 9) (.const (.int .u8 1)), type := 0, pos := pss, after := #[{ on := 0, ground := Ground.data }, { on := 11, ground := Ground.data }], guard := none }, by kernel_rfl, rfl, by kernel_rfl, rfl, by kernel_rfl, by kernel_rfl⟩
  · exact ⟨{ dst := none, op := .insert 294 (.tmp 1) (.tmp 11) (.const (.int .u8 1)), type := 0, pos := pss, after := #[{ on := 0, ground := Ground.data }, { on := 14, ground := Ground.data }], guard := none }, by kernel_rfl, rfl, by kernel_rfl, rfl, by kernel_rfl, by kernel_rfl⟩
  · exact ⟨{ dst := none, op := .insert 294 (.tmp 1) (.tmp 13) (.const (.int .u8 1)), type := 0, pos := pss, after := #[{ on := 0, ground := Ground.data }, { on := 17, ground := Ground.data }], guard := none }, by kernel_rfl, rfl, by kernel_rfl, rfl, by kernel_rfl, by kernel_rfl⟩
  · exact ⟨{ dst := none, op := .insert 294 (.tmp 1) (.tmp 15) (.const (.int .u8 1)), type := 0, pos := pss, after := #[{ on := 0, ground := Ground.data }, { on := 20, ground := Ground.data }], guard := none }, by kernel_rfl, rfl, by kernel_rfl, rfl, by kernel_rfl, by kernel_rfl⟩
  · exact ⟨{ dst := none, op := .insert 294 (.tmp 1) (.tmp 17) (.const (.int .u8 1)), type := 0, pos := pss, after := #[{ on := 0, ground := Ground.data }, { on := 23, ground := Ground.data }], guard := none }, by kernel_rfl, rfl, by kernel_rfl, rfl, by kernel_rfl, by kernel_rfl⟩
  · exact ⟨{ dst := none, op := .insert 294 (.tmp 1) (.tmp 19) (.const (.int .u8 1)), type := 0, pos := pss, after := #[{ on := 0, ground := Ground.data }, { on := 26, ground := Ground.data }], guard := none }, by kernel_rfl, rfl, by kernel_rfl, rfl, by kernel_rfl, by kernel_rfl⟩
  · exact ⟨{ dst := none, op := .insert 294 (.tmp 1) (.tmp 21) (.const (.int .u8 1)), type := 0, pos := pss, after := #[{ on := 0, ground := Ground.data }, { on := 29, ground := Ground.data }], guard := none }, by kernel_rfl, rfl, by kernel_rfl, rfl, by kernel_rfl, by kernel_rfl⟩
  · exact ⟨{ dst := none, op := .insert 294 (.tmp 1) (.tmp 23) (.const (.int .u8 2)), type := 0, pos := pss, after := #[{ on := 0, ground := Ground.data }, { on := 32, ground := Ground.data }], guard := none }, by kernel_rfl, rfl, by kernel_rfl, rfl, by kernel_rfl, by kernel_rfl⟩
  · exact ⟨{ dst := none, op := .insert 294 (.tmp 1) (.tmp 25) (.const (.int .u8 2)), type := 0, pos := pss, after := #[{ on := 0, ground := Ground.data }, { on := 35, ground := Ground.data }], guard := none }, by kernel_rfl, rfl, by kernel_rfl, rfl, by kernel_rfl, by kernel_rfl⟩
  · exact ⟨{ dst := none, op := .insert 294 (.tmp 1) (.tmp 27) (.const (.int .u8 2)), type := 0, pos := pss, after := #[{ on := 0, ground := Ground.data }, { on := 38, ground := Ground.data }], guard := none }, by kernel_rfl, rfl, by kernel_rfl, rfl, by kernel_rfl, by kernel_rfl⟩
  · exact ⟨{ dst := none, op := .insert 294 (.tmp 1) (.tmp 29) (.const (.int .u8 2)), type := 0, pos := pss, after := #[{ on := 0, ground := Ground.data }, { on := 41, ground := Ground.data }], guard := none }, by kernel_rfl, rfl, by kernel_rfl, rfl, by kernel_rfl, by kernel_rfl⟩
  · exact ⟨{ dst := none, op := .insert 294 (.tmp 1) (.tmp 31) (.const (.int .u8 2)), type := 0, pos := pss, after := #[{ on := 0, ground := Ground.data }, { on := 44, ground := Ground.data }], guard := none }, by kernel_rfl, rfl, by kernel_rfl, rfl, by kernel_rfl, by kernel_rfl⟩
  · exact ⟨{ dst := none, op := .insert 294 (.tmp 1) (.tmp 33) (.const (.int .u8 2)), type := 0, pos := pss, after := #[{ on := 0, ground := Ground.data }, { on := 47, ground := Ground.data }], guard := none }, by kernel_rfl, rfl, by kernel_rfl, rfl, by kernel_rfl, by kernel_rfl⟩
  · exact ⟨{ dst := none, op := .insert 294 (.tmp 1) (.tmp 35) (.const (.int .u8 2)), type := 0, pos := pss, after := #[{ on := 0, ground := Ground.data }, { on := 50, ground := Ground.data }], guard := none }, by kernel_rfl, rfl, by kernel_rfl, rfl, by kernel_rfl, by kernel_rfl⟩
  · exact ⟨{ dst := none, op := .insert 294 (.tmp 1) (.tmp 37) (.const (.int .u8 2)), type := 0, pos := pss, after := #[{ on := 0, ground := Ground.data }, { on := 53, ground := Ground.data }], guard := none }, by kernel_rfl, rfl, by kernel_rfl, rfl, by kernel_rfl, by kernel_rfl⟩
  · exact ⟨{ dst := none, op := .insert 294 (.tmp 1) (.tmp 39) (.const (.int .u8 2)), type := 0, pos := pss, after := #[{ on := 0, ground := Ground.data }, { on := 56, ground := Ground.data }], guard := none }, by kernel_rfl, rfl, by kernel_rfl, rfl, by kernel_rfl, by kernel_rfl⟩
  · exact ⟨{ dst := none, op := .insert 294 (.tmp 1) (.tmp 41) (.const (.int .u8 1)), type := 0, pos := pss, after := #[{ on := 0, ground := Ground.data }, { on := 59, ground := Ground.data }], guard := none }, by kernel_rfl, rfl, by kernel_rfl, rfl, by kernel_rfl, by kernel_rfl⟩
  · exact ⟨{ dst := none, op := .insert 294 (.tmp 1) (.tmp 43) (.const (.int .u8 2)), type := 0, pos := pss, after := #[{ on := 0, ground := Ground.data }, { on := 62, ground := Ground.data }], guard := none }, by kernel_rfl, rfl, by kernel_rfl, rfl, by kernel_rfl, by kernel_rfl⟩
 case hend =>
  intro w' hp ho
  have hns : Region.noSelect tOps = true := by kernel_rfl
  refine wpAny_take (i := 64) (fuel := 1) (oi := { dst := some 44, op := .move (.tmp 1), type := 294, pos := pss, after := #[{ on := 0, ground := Ground.data }, { on := 1, ground := Ground.data }, { on := 2, ground := Ground.data }, { on := 3, ground := Ground.data }, { on := 4, ground := Ground.data }, { on := 5, ground := Ground.data }, { on := 6, ground := Ground.data }, { on := 7, ground := Ground.data }, { on := 8, ground := Ground.data }, { on := 9, ground := Ground.data }, { on := 10, ground := Ground.data }, { on := 11, ground := Ground.data }, { on := 12, ground := Ground.data }, { on := 13, ground := Ground.data }, { on := 14, ground := Ground.data }, { on := 15, ground := Ground.data }, { on := 16, ground := Ground.data }, { on := 17, ground := Ground.data }, { on := 18, ground := Ground.data }, { on := 19, ground := Ground.data }, { on := 20, ground := Ground.data }, { on := 21, ground := Ground.data }, { on := 22, ground := Ground.data }, { on := 23, ground := Ground.data }, { on := 24, ground := Ground.data }, { on := 25, ground := Ground.data }, { on := 26, ground := Ground.data }, { on := 27, ground := Ground.data }, { on := 28, ground := Ground.data }, { on := 29, ground := Ground.data }, { on := 30, ground := Ground.data }, { on := 31, ground := Ground.data }, { on := 32, ground := Ground.data }, { on := 33, ground := Ground.data }, { on := 34, ground := Ground.data }, { on := 35, ground := Ground.data }, { on := 36, ground := Ground.data }, { on := 37, ground := Ground.data }, { on := 38, ground := Ground.data }, { on := 39, ground := Ground.data }, { on := 40, ground := Ground.data }, { on := 41, ground := Ground.data }, { on := 42, ground := Ground.data }, { on := 43, ground := Ground.data }, { on := 44, ground := Ground.data }, { on := 45, ground := Ground.data }, { on := 46, ground := Ground.data }, { on := 47, ground := Ground.data }, { on := 48, ground := Ground.data }, { on := 49, ground := Ground.data }, { on := 50, ground := Ground.data }, { on := 51, ground := Ground.data }, { on := 52, ground := Ground.data }, { on := 53, ground := Ground.data }, { on := 54, ground := Ground.data }, { on := 55, ground := Ground.data }, { on := 56, ground := Ground.data }, { on := 57, ground := Ground.data }, { on := 58, ground := Ground.data }, { on := 59, ground := Ground.data }, { on := 60, ground := Ground.data }, { on := 61, ground := Ground.data }, { on := 62, ground := Ground.data }, { on := 63, ground := Ground.data }], guard := none }) (v := .map (some N)) (by kernel_rfl) hns (by kernel_rfl) (by kernel_rfl) (fun c a w h => hQ c a _ _ w h) (Or.inl ⟨by kernel_rfl, fun _ => by kernel_rfl⟩) ?r64
  show wpAny Tryz.prog .any tOps Q 1 #[true, true, true, true, true, true, true, true, true, true, true, true, true, true, true, true, true, true, true, true, true, true, true, true, true, true, true, true, true, true, true, true, true, true, true, true, true, true, true, true, true, true, true, true, true, true, true, true, true, true, true, true, true, true, true, true, true, true, true, true, true, true, true, true, true, false] { tmps := #[.map none, .map (some N), .agg #[.int .u8 0, .int .u8 0, .int .u8 0], .agg #[.int .u8 1, .int .u8 0, .int .u8 0, .int .u8 0], .agg #[.int .u8 0, .int .u8 0, .int .u8 0], .agg #[.int .u8 2, .int .u8 0, .int .u8 0, .int .u8 0], .agg #[.int .u8 0, .int .u8 0, .int .u8 0], .agg #[.int .u8 3, .int .u8 0, .int .u8 0, .int .u8 0], .agg #[.int .u8 0, .int .u8 0, .int .u8 0], .agg #[.int .u8 4, .int .u8 0, .int .u8 0, .int .u8 0], .agg #[.int .u8 1, .int .u8 0, .int .u8 0], .agg #[.int .u8 5, .int .u8 1, .int .u8 0, .int .u8 0], .agg #[.int .u8 1, .int .u8 1, .int .u8 0], .agg #[.int .u8 7, .int .u8 1, .int .u8 1, .int .u8 0], .agg #[.int .u8 1, .int .u8 1, .int .u8 0], .agg #[.int .u8 8, .int .u8 1, .int .u8 1, .int .u8 0], .agg #[.int .u8 1, .int .u8 1, .int .u8 0], .agg #[.int .u8 9, .int .u8 1, .int .u8 1, .int .u8 0], .agg #[.int .u8 1, .int .u8 1, .int .u8 0], .agg #[.int .u8 10, .int .u8 1, .int .u8 1, .int .u8 0], .agg #[.int .u8 1, .int .u8 1, .int .u8 0], .agg #[.int .u8 11, .int .u8 1, .int .u8 1, .int .u8 0], .agg #[.int .u8 2, .int .u8 0, .int .u8 0], .agg #[.int .u8 6, .int .u8 2, .int .u8 0, .int .u8 0], .agg #[.int .u8 2, .int .u8 2, .int .u8 0], .agg #[.int .u8 16, .int .u8 2, .int .u8 2, .int .u8 0], .agg #[.int .u8 2, .int .u8 2, .int .u8 0], .agg #[.int .u8 17, .int .u8 2, .int .u8 2, .int .u8 0], .agg #[.int .u8 1, .int .u8 1, .int .u8 0], .agg #[.int .u8 12, .int .u8 1, .int .u8 1, .int .u8 0], .agg #[.int .u8 1, .int .u8 1, .int .u8 0], .agg #[.int .u8 13, .int .u8 1, .int .u8 1, .int .u8 0], .agg #[.int .u8 1, .int .u8 1, .int .u8 0], .agg #[.int .u8 14, .int .u8 1, .int .u8 1, .int .u8 0], .agg #[.int .u8 2, .int .u8 2, .int .u8 0], .agg #[.int .u8 14, .int .u8 2, .int .u8 2, .int .u8 0], .agg #[.int .u8 1, .int .u8 1, .int .u8 0], .agg #[.int .u8 15, .int .u8 1, .int .u8 1, .int .u8 0], .agg #[.int .u8 2, .int .u8 2, .int .u8 0], .agg #[.int .u8 15, .int .u8 2, .int .u8 2, .int .u8 0], .agg #[.int .u8 2, .int .u8 1, .int .u8 1], .agg #[.int .u8 18, .int .u8 2, .int .u8 1, .int .u8 1], .agg #[.int .u8 2, .int .u8 2, .int .u8 2], .agg #[.int .u8 18, .int .u8 2, .int .u8 2, .int .u8 2], .map (some N)], defers := [] } w'
  refine wpAny_take (i := 65) (fuel := 0) (oi := { dst := some 0, op := .assign (.tmp 44), type := 294, pos := pss, after := #[{ on := 64, ground := Ground.data }, { on := 0, ground := Ground.phase }, { on := 1, ground := Ground.phase }, { on := 2, ground := Ground.phase }, { on := 3, ground := Ground.phase }, { on := 4, ground := Ground.phase }, { on := 5, ground := Ground.phase }, { on := 6, ground := Ground.phase }, { on := 7, ground := Ground.phase }, { on := 8, ground := Ground.phase }, { on := 9, ground := Ground.phase }, { on := 10, ground := Ground.phase }, { on := 11, ground := Ground.phase }, { on := 12, ground := Ground.phase }, { on := 13, ground := Ground.phase }, { on := 14, ground := Ground.phase }, { on := 15, ground := Ground.phase }, { on := 16, ground := Ground.phase }, { on := 17, ground := Ground.phase }, { on := 18, ground := Ground.phase }, { on := 19, ground := Ground.phase }, { on := 20, ground := Ground.phase }, { on := 21, ground := Ground.phase }, { on := 22, ground := Ground.phase }, { on := 23, ground := Ground.phase }, { on := 24, ground := Ground.phase }, { on := 25, ground := Ground.phase }, { on := 26, ground := Ground.phase }, { on := 27, ground := Ground.phase }, { on := 28, ground := Ground.phase }, { on := 29, ground := Ground.phase }, { on := 30, ground := Ground.phase }, { on := 31, ground := Ground.phase }, { on := 32, ground := Ground.phase }, { on := 33, ground := Ground.phase }, { on := 34, ground := Ground.phase }, { on := 35, ground := Ground.phase }, { on := 36, ground := Ground.phase }, { on := 37, ground := Ground.phase }, { on := 38, ground := Ground.phase }, { on := 39, ground := Ground.phase }, { on := 40, ground := Ground.phase }, { on := 41, ground := Ground.phase }, { on := 42, ground := Ground.phase }, { on := 43, ground := Ground.phase }, { on := 44, ground := Ground.phase }, { on := 45, ground := Ground.phase }, { on := 46, ground := Ground.phase }, { on := 47, ground := Ground.phase }, { on := 48, ground := Ground.phase }, { on := 49, ground := Ground.phase }, { on := 50, ground := Ground.phase }, { on := 51, ground := Ground.phase }, { on := 52, ground := Ground.phase }, { on := 53, ground := Ground.phase }, { on := 54, ground := Ground.phase }, { on := 55, ground := Ground.phase }, { on := 56, ground := Ground.phase }, { on := 57, ground := Ground.phase }, { on := 58, ground := Ground.phase }, { on := 59, ground := Ground.phase }, { on := 60, ground := Ground.phase }, { on := 61, ground := Ground.phase }, { on := 62, ground := Ground.phase }, { on := 63, ground := Ground.phase }, { on := 64, ground := Ground.phase }], guard := none }) (v := .map (some N)) (by kernel_rfl) hns (by kernel_rfl) (by kernel_rfl) (fun c a w h => hQ c a _ _ w h) (Or.inl ⟨by kernel_rfl, fun _ => by kernel_rfl⟩) ?r65
  show wpAny Tryz.prog .any tOps Q 0 #[true, true, true, true, true, true, true, true, true, true, true, true, true, true, true, true, true, true, true, true, true, true, true, true, true, true, true, true, true, true, true, true, true, true, true, true, true, true, true, true, true, true, true, true, true, true, true, true, true, true, true, true, true, true, true, true, true, true, true, true, true, true, true, true, true, true] { tmps := #[.map (some N), .map (some N), .agg #[.int .u8 0, .int .u8 0, .int .u8 0], .agg #[.int .u8 1, .int .u8 0, .int .u8 0, .int .u8 0], .agg #[.int .u8 0, .int .u8 0, .int .u8 0], .agg #[.int .u8 2, .int .u8 0, .int .u8 0, .int .u8 0], .agg #[.int .u8 0, .int .u8 0, .int .u8 0], .agg #[.int .u8 3, .int .u8 0, .int .u8 0, .int .u8 0], .agg #[.int .u8 0, .int .u8 0, .int .u8 0], .agg #[.int .u8 4, .int .u8 0, .int .u8 0, .int .u8 0], .agg #[.int .u8 1, .int .u8 0, .int .u8 0], .agg #[.int .u8 5, .int .u8 1, .int .u8 0, .int .u8 0], .agg #[.int .u8 1, .int .u8 1, .int .u8 0], .agg #[.int .u8 7, .int .u8 1, .int .u8 1, .int .u8 0], .agg #[.int .u8 1, .int .u8 1, .int .u8 0], .agg #[.int .u8 8, .int .u8 1, .int .u8 1, .int .u8 0], .agg #[.int .u8 1, .int .u8 1, .int .u8 0], .agg #[.int .u8 9, .int .u8 1, .int .u8 1, .int .u8 0], .agg #[.int .u8 1, .int .u8 1, .int .u8 0], .agg #[.int .u8 10, .int .u8 1, .int .u8 1, .int .u8 0], .agg #[.int .u8 1, .int .u8 1, .int .u8 0], .agg #[.int .u8 11, .int .u8 1, .int .u8 1, .int .u8 0], .agg #[.int .u8 2, .int .u8 0, .int .u8 0], .agg #[.int .u8 6, .int .u8 2, .int .u8 0, .int .u8 0], .agg #[.int .u8 2, .int .u8 2, .int .u8 0], .agg #[.int .u8 16, .int .u8 2, .int .u8 2, .int .u8 0], .agg #[.int .u8 2, .int .u8 2, .int .u8 0], .agg #[.int .u8 17, .int .u8 2, .int .u8 2, .int .u8 0], .agg #[.int .u8 1, .int .u8 1, .int .u8 0], .agg #[.int .u8 12, .int .u8 1, .int .u8 1, .int .u8 0], .agg #[.int .u8 1, .int .u8 1, .int .u8 0], .agg #[.int .u8 13, .int .u8 1, .int .u8 1, .int .u8 0], .agg #[.int .u8 1, .int .u8 1, .int .u8 0], .agg #[.int .u8 14, .int .u8 1, .int .u8 1, .int .u8 0], .agg #[.int .u8 2, .int .u8 2, .int .u8 0], .agg #[.int .u8 14, .int .u8 2, .int .u8 2, .int .u8 0], .agg #[.int .u8 1, .int .u8 1, .int .u8 0], .agg #[.int .u8 15, .int .u8 1, .int .u8 1, .int .u8 0], .agg #[.int .u8 2, .int .u8 2, .int .u8 0], .agg #[.int .u8 15, .int .u8 2, .int .u8 2, .int .u8 0], .agg #[.int .u8 2, .int .u8 1, .int .u8 1], .agg #[.int .u8 18, .int .u8 2, .int .u8 1, .int .u8 1], .agg #[.int .u8 2, .int .u8 2, .int .u8 2], .agg #[.int .u8 18, .int .u8 2, .int .u8 2, .int .u8 2], .map (some N)], defers := [] } w'
  exact wpAny_done (by kernel_rfl) (h w' hp ho) 0
set_option maxRecDepth 100000 in
theorem region_all {Q : Exit → Act → World → Prop} (hQ : ∀ c (a : Act) d v w, Q (.panic c) (a.put d v) w → Q (.panic c) a w) {w : World} {N : Nat} (hN : w.heap.size = N)
  (h : ∀ w', PM kR vB (fun _ => True) w' N tab → Only (fun k => k = N) (w.alloc (.map #[] 0)) w' → Q .normal { tmps := #[.map (some N), .map (some N), .agg #[.int .u8 0, .int .u8 0, .int .u8 0], .agg #[.int .u8 1, .int .u8 0, .int .u8 0, .int .u8 0], .agg #[.int .u8 0, .int .u8 0, .int .u8 0], .agg #[.int .u8 2, .int .u8 0, .int .u8 0, .int .u8 0], .agg #[.int .u8 0, .int .u8 0, .int .u8 0], .agg #[.int .u8 3, .int .u8 0, .int .u8 0, .int .u8 0], .agg #[.int .u8 0, .int .u8 0, .int .u8 0], .agg #[.int .u8 4, .int .u8 0, .int .u8 0, .int .u8 0], .agg #[.int .u8 1, .int .u8 0, .int .u8 0], .agg #[.int .u8 5, .int .u8 1, .int .u8 0, .int .u8 0], .agg #[.int .u8 1, .int .u8 1, .int .u8 0], .agg #[.int .u8 7, .int .u8 1, .int .u8 1, .int .u8 0], .agg #[.int .u8 1, .int .u8 1, .int .u8 0], .agg #[.int .u8 8, .int .u8 1, .int .u8 1, .int .u8 0], .agg #[.int .u8 1, .int .u8 1, .int .u8 0], .agg #[.int .u8 9, .int .u8 1, .int .u8 1, .int .u8 0], .agg #[.int .u8 1, .int .u8 1, .int .u8 0], .agg #[.int .u8 10, .int .u8 1, .int .u8 1, .int .u8 0], .agg #[.int .u8 1, .int .u8 1, .int .u8 0], .agg #[.int .u8 11, .int .u8 1, .int .u8 1, .int .u8 0], .agg #[.int .u8 2, .int .u8 0, .int .u8 0], .agg #[.int .u8 6, .int .u8 2, .int .u8 0, .int .u8 0], .agg #[.int .u8 2, .int .u8 2, .int .u8 0], .agg #[.int .u8 16, .int .u8 2, .int .u8 2, .int .u8 0], .agg #[.int .u8 2, .int .u8 2, .int .u8 0], .agg #[.int .u8 17, .int .u8 2, .int .u8 2, .int .u8 0], .agg #[.int .u8 1, .int .u8 1, .int .u8 0], .agg #[.int .u8 12, .int .u8 1, .int .u8 1, .int .u8 0], .agg #[.int .u8 1, .int .u8 1, .int .u8 0], .agg #[.int .u8 13, .int .u8 1, .int .u8 1, .int .u8 0], .agg #[.int .u8 1, .int .u8 1, .int .u8 0], .agg #[.int .u8 14, .int .u8 1, .int .u8 1, .int .u8 0], .agg #[.int .u8 2, .int .u8 2, .int .u8 0], .agg #[.int .u8 14, .int .u8 2, .int .u8 2, .int .u8 0], .agg #[.int .u8 1, .int .u8 1, .int .u8 0], .agg #[.int .u8 15, .int .u8 1, .int .u8 1, .int .u8 0], .agg #[.int .u8 2, .int .u8 2, .int .u8 0], .agg #[.int .u8 15, .int .u8 2, .int .u8 2, .int .u8 0], .agg #[.int .u8 2, .int .u8 1, .int .u8 1], .agg #[.int .u8 18, .int .u8 2, .int .u8 1, .int .u8 1], .agg #[.int .u8 2, .int .u8 2, .int .u8 2], .agg #[.int .u8 18, .int .u8 2, .int .u8 2, .int .u8 2], .map (some N)], defers := [] } w') : wpAny Tryz.prog .any tOps Q 66 (Array.replicate 66 false) { tmps := #[.map none, undef, undef, undef, undef, undef, undef, undef, undef, undef, undef, undef, undef, undef, undef, undef, undef, undef, undef, undef, undef, undef, undef, undef, undef, undef, undef, undef, undef, undef, undef, undef, undef, undef, undef, undef, undef, undef, undef, undef, undef, undef, undef, undef, undef], defers := [] } w := by
 refine takes_all hQ ?_
 refine wpAny_ready (rs := [0]) (by kernel_rfl) (by simp) ?_
 refine AllReady.cons (o := { dst := some 1, op := .makeMap 294 none, type := 294, pos := pss, after := #[], guard := none }) (by kernel_rfl) (fun K hK => ?_) AllReady.nil
 rw [if_pos (by kernel_rfl)]
 unfold Oper.wp
 have hmk : (Instr.makeMap 294 none).run Tryz.prog w = .ok (.map (some w.heap.size)) (w.alloc (.map #[] 0)) := by kernel_rfl
 simp only [execOp, Option.map_none, Sem.run_bind, hmk, Result.andThen_ok, Sem.run_pure]
 refine hK _ _ ?_
 subst hN
 have p0 : PM kR vB (fun _ => True) (w.alloc (.map #[] 0)) w.heap.size (fun _ => none) := PM.made w
 exact fill_all hQ p0 h
set_option maxRecDepth 100000 in
theorem table_any (w : World) : Calls Tryz.prog 219 #[] w fun e w' => ∃ tb, e = .returned (.map (some tb)) ∧ w.heap.size ≤ tb ∧ PM kR vB (fun _ => True) w' tb tab ∧ Below w.heap.size w w' := by
 have HP := Lib.hid (fun (Q : Exit → Act → World → Prop) hQ h => region_all (Q := Q) hQ (w := w.drew) (N := w.heap.size) rfl h)
 go_enter Tryz.func219, Tryz.ntmps219
 go_wp2_with fail
 refine wp_region_any (by kernel_rfl) ?_
 refine HP.out _ ?_ ?_
 · exact fun _ _ d _ _ h => by cases d <;> exact h
 · intro w' hp ho
   have hb : Below w.heap.size w w' := by
    have h1 : Below w.heap.size w (w.drew.alloc (.map #[] 0)) := ((Below.refl _ _).drew).alloc (Nat.le_refl _) _
    exact h1.trans (ho.below (by rw [World.size_alloc, World.size_drew]; omega) (fun k hk => by omega))
   have HX := Lib.hid (And.intro hp hb); clear hp hb ho HP
   go_wp2_with fail
   go_ret
   exact ⟨_, rfl, Nat.le_refl _, HX.out.1, HX.out.2⟩
end
section
open Go.RowKit nam
open Go.ChangeMaps (setBlock heap_setBlock_same heap_setBlock_other)
def LkF (mb ba k : Nat) : Prop := k = mb ∨ k = ba
structure Lk (W : World) (mb tb bm ba bi bt : Nat) (w : World) (m : Addr → Option Nat) (A : Bool) : Prop where
 tr : Tr W w
 mp : PM kA vB (GA W) w mb m
 tp : PM kR vB (fun _ => True) w tb tab
 b1 : w.heap[bm]? = some (.cells #[.map (some mb)] 296 (0, 0))
 b2 : w.heap[ba]? = some (.cells #[.bool A] 4 (0, 0))
 b3 : w.heap[bi]? = some (.cells #[.func (.func 220) #[] #[ptr bm, ptr ba, ptr bi, ptr bt]] 297 (0, 0))
 b4 : w.heap[bt]? = some (.cells #[.map (some tb)] 294 (0, 0))
 inv : ∀ q v, m q = some v → ∃ y, q.spot = none ∧ At W Any q.block q.off y ∧ v = y.ty ∧ (y.acc = true → A = true)
 ne : mb ≠ tb
theorem Lk.drew {W : World} {mb tb bm ba bi bt : Nat} {w : World} {m : Addr → Option Nat} {A : Bool} (h : Lk W mb tb bm ba bi bt w m A) : Lk W mb tb bm ba bi bt w.drew m A :=
 ⟨h.tr, h.mp.kept rfl, h.tp.kept rfl, h.b1, h.b2, h.b3, h.b4, h.inv, h.ne⟩
theorem Lk.moves {W : World} {mb tb bm ba bi bt : Nat} {w : World} {m : Addr → Option Nat} {A : Bool} (h : Lk W mb tb bm ba bi bt w m A) {k : Nat} (hk : LkF mb ba k) (c : Array Value) : W.heap[k]? ≠ some (.cells c 46 (0, 0)) := fun e => by
 have e2 := (h.tr k c e).trans e
 rcases hk with rfl | rfl
 · obtain ⟨es, clock, h1, _⟩ := h.mp.is
   rw [h1] at e2
   cases e2
 · have h1 := h.b2
   rw [h1] at e2
   simp at e2
theorem Lk.set {W : World} {mb tb bm ba bi bt : Nat} {w : World} {m : Addr → Option Nat} {A B : Bool} (h : Lk W mb tb bm ba bi bt w m A) (hAB : A = true → B = true) :
  Lk W mb tb bm ba bi bt (w.setCell ⟨ba, 0, none⟩ (.bool B)) m B ∧ Only (LkF mb ba) w (w.setCell ⟨ba, 0, none⟩ (.bool B)) := by
 have hon : Only (LkF mb ba) w (w.setCell ⟨ba, 0, none⟩ (.bool B)) := Only.setCell _ _ _ _ (.inr rfl)
 have hba : w.heap[ba]? = some (.cells #[.bool A] 4 (0, 0)) := h.b2
 have st : ∀ {k : Nat} {o : Obj}, w.heap[k]? = some o → o ≠ .cells #[.bool A] 4 (0, 0) → (w.setCell ⟨ba, 0, none⟩ (.bool B)).heap[k]? = w.heap[k]? := fun {k o} hk hne =>
  Below.heap_setCell w _ _ k (fun e => hne (by subst e; exact Option.some.inj (hk.symm.trans hba)))
 obtain ⟨es, clock, hm, _⟩ := h.mp.is
 obtain ⟨es2, clock2, ht, _⟩ := h.tp.is
 refine ⟨⟨h.tr.only hon fun k hk c => h.moves hk c, h.mp.kept (st hm (by simp)), h.tp.kept (st ht (by simp)), (st h.b1 (by simp)).trans h.b1, heap_setCell_same w ba 0 _ 4 _ hba, (st h.b3 (by simp)).trans h.b3, (st h.b4 (by simp)).trans h.b4, fun q v hq => ?_, h.ne⟩, hon⟩
 obtain ⟨y, h1, h2, h3, h4⟩ := h.inv q v hq
 exact ⟨y, h1, h2, h3, fun hy => hAB (h4 hy)⟩
theorem Lk.other {W : World} {mb tb bm ba bi bt : Nat} {w w' : World} {m : Addr → Option Nat} {A : Bool} {F : Nat → Prop} (h : Lk W mb tb bm ba bi bt w m A) (ho : Only F w w')
  (hF : ∀ k, F k → ∃ c, w.heap[k]? = some (.cells c 301 (0, 0))) : Lk W mb tb bm ba bi bt w' m A := by
 have st : ∀ {k : Nat} {o : Obj}, w.heap[k]? = some o → (∀ c, o ≠ .cells c 301 (0, 0)) → w'.heap[k]? = w.heap[k]? := fun {k o} hk hne =>
  ho.block k (Array.getElem?_eq_some_iff.1 hk).1 fun hf => by obtain ⟨c, hc⟩ := hF k hf; exact hne c (Option.some.inj (hk.symm.trans hc))
 obtain ⟨es, clock, hm, _⟩ := h.mp.is
 obtain ⟨es2, clock2, ht, _⟩ := h.tp.is
 refine ⟨h.tr.only ho fun k hk c e => ?_, h.mp.kept (st hm (by simp)), h.tp.kept (st ht (by simp)), (st h.b1 (by simp)).trans h.b1, (st h.b2 (by simp)).trans h.b2, (st h.b3 (by simp)).trans h.b3, (st h.b4 (by simp)).trans h.b4, h.inv, h.ne⟩
 obtain ⟨c', hc⟩ := hF k hk
 have := (h.tr k c e).trans e
 rw [hc] at this
 simp at this
def LPost (W : World) (mb tb bm ba bi bt : Nat) (w : World) (A : Bool) (x : Ex) (e : Ending) (w' : World) : Prop :=
 ∃ m', e = .returned (.int .u8 (x.ty : Int)) ∧ Lk W mb tb bm ba bi bt w' m' (A || x.acc) ∧ Only (LkF mb ba) w w'
theorem of_met {W : World} {mb tb bm ba bi bt : Nat} {w : World} {m : Addr → Option Nat} {A : Bool} (h : Lk W mb tb bm ba bi bt w m A) {b o : Nat} {x : Ex} (ha : At W Any b o x) {v : Nat} (hm : m ⟨b, o, none⟩ = some v) :
  Calls Tryz.prog 220 #[.pointer (some ⟨b, o, none⟩), ptr bm, ptr ba, ptr bi, ptr bt] w (LPost W mb tb bm ba bi bt w A x) := by
 have cm : w.cell? ⟨bm, 0, none⟩ = some (.map (some mb)) := cell_of h.b1 rfl
 obtain ⟨cur, hcur⟩ : ∃ c, W.heap[b]? = some (.cells c 46 (0, 0)) := by obtain ⟨cur, v, _, h2, _⟩ := ha; exact ⟨cur, h2⟩
 have hl := h.mp.look (keyG h.tr) (a := ⟨b, o, none⟩) ⟨cur, hcur⟩ Tryz.underlying296 (z := .int .u8 0) (by kernel_rfl) true
 rw [hm] at hl
 simp only [Option.elim, vB, kA, if_true, Option.isSome_some] at hl
 have HP : Hid (LPost W mb tb bm ba bi bt w A x (.returned (.int .u8 (v : Int))) w) := Lib.hid (by
  obtain ⟨y, h1, h2, h3, h4⟩ := h.inv _ _ hm
  have hxy := h2.det ha
  subst hxy
  refine ⟨m, by rw [h3], ?_, Only.refl _ _⟩
  have : (A || y.acc) = A := by
   cases hy : y.acc with
   | false => simp
   | true => rw [h4 hy]; rfl
  rw [this]
  exact h)
 clear h ha hm hcur
 unfold ptr at *
 go_enter Tryz.func220, Tryz.ntmps220
 go_wp2_with fail
 go_ret
 exact HP.out
end
section
open Go.RowKit nam
open Go.ChangeMaps (setBlock heap_setBlock_same heap_setBlock_other)
def rowC (o : Nat) (l : List Nat) : Array Value := #[.int .u8 (o : Int), .int .u8 ((l.getD 0 0 : Nat) : Int), .int .u8 ((l.getD 1 0 : Nat) : Int), .int .u8 ((l.getD 2 0 : Nat) : Int)]
theorem rowC_snoc {o k t : Nat} {l : List Nat} (hl : l.length = k) (hk : k < 3) : (rowC o l).setIfInBounds (1 + k) (.int .u8 (t : Int)) = rowC o (l ++ [t]) := by
 match k, l, hl with
 | 0, [], _ => rfl
 | 1, [a], _ => rfl
 | 2, [a, b], _ => rfl
 | k + 3, _, _ => omega
structure LRnd (W : World) (mb tb bm ba bi bt : Nat) (w : World) (A : Bool) (x : Ex) (N k : Nat) (wr : World) (mr : Addr → Option Nat) : Prop where
 lk : Lk W mb tb bm ba bi bt wr mr (A || x.op == 4 || accs (x.args.take k))
 only : Only (LkF mb ba) w wr
 row : wr.heap[N]? = some (.cells (rowC x.op (tys (x.args.take k))) 301 (0, 0))
 hN : w.heap.size ≤ N
theorem rowC_at {o k : Nat} {l : List Nat} (hk : k < 3) : (rowC o l)[1 + k]? = some (.int .u8 ((l.getD k 0 : Nat) : Int)) := by
 rcases (show k = 0 ∨ k = 1 ∨ k = 2 by omega) with rfl | rfl | rfl <;> rfl
theorem LRnd.apart {W : World} {mb tb bm ba bi bt : Nat} {w : World} {A : Bool} {x : Ex} {N k : Nat} {wr : World} {mr : Addr → Option Nat} (h : LRnd W mb tb bm ba bi bt w A x N k wr mr) : ¬ LkF mb ba N := fun hf => by
 have hr := h.row
 rcases hf with rfl | rfl
 · obtain ⟨es, clock, h1, _⟩ := h.lk.mp.is
   rw [h1] at hr; cases hr
 · rw [h.lk.b2] at hr; simp at hr
theorem LRnd.next {W : World} {mb tb bm ba bi bt : Nat} {w : World} {A : Bool} {x : Ex} {N k : Nat} {wr : World} {mr : Addr → Option Nat} (h : LRnd W mb tb bm ba bi bt w A x N k wr mr) (hk : k < x.args.length) (hk3 : k < 3)
  {w' : World} {m' : Addr → Option Nat} (hl : Lk W mb tb bm ba bi bt w' m' ((A || x.op == 4 || accs (x.args.take k)) || x.args[k].acc)) (ho : Only (LkF mb ba) wr w') :
  LRnd W mb tb bm ba bi bt w A x N (k + 1) (w'.setCell ⟨N, 1 + k, none⟩ (.int .u8 (x.args[k].ty : Int))) m' := by
 have hn : ¬ LkF mb ba N := fun hf => by
  have hr := h.row
  rcases hf with rfl | rfl
  · obtain ⟨es, clock, h1, _⟩ := h.lk.mp.is
    rw [h1] at hr; cases hr
  · rw [h.lk.b2] at hr; simp at hr
 have hr : w'.heap[N]? = some (.cells (rowC x.op (tys (x.args.take k))) 301 (0, 0)) := (ho.block N (Array.getElem?_eq_some_iff.1 h.row).1 hn).trans h.row
 have hon : Only (fun j => j = N) w' (w'.setCell ⟨N, 1 + k, none⟩ (.int .u8 (x.args[k].ty : Int))) := Only.setCell _ _ _ _ rfl
 refine ⟨?_, ⟨ho.os.trans h.only.os, ho.tape.trans h.only.tape, ho.output.trans h.only.output, Nat.le_trans h.only.size (Nat.le_trans ho.size hon.size), fun j hj hf => ?_⟩, ?_, h.hN⟩
 · have := hl.other hon (fun j hj => by subst hj; exact ⟨_, hr⟩)
   rw [accs_take hk, ← Bool.or_assoc]
   exact this
 · have := h.hN
   have h1 := h.only.size
   have h2 := ho.size
   rw [hon.block j (by omega) (by omega), ho.block j (by omega) hf]
   exact h.only.block j hj hf
 · rw [heap_setCell_same w' N (1 + k) _ 301 _ hr, rowC_snoc (by rw [tys_len, List.length_take]; omega) hk3, tys_take hk]
theorem fit_part {x y : Ex} (h : Fit x) (hy : y ∈ x.args) : Fit y := ((fit_eq x).1 h).2 y hy
theorem fit_three {x : Ex} (h : Fit x) : x.args.length ≤ 3 := fitsB_three ((fit_eq x).1 h).1
set_option maxHeartbeats 1600000 in
set_option maxRecDepth 1000000 in
theorem of_any (W : World) (mb tb bm ba bi bt : Nat) : ∀ (s : Nat), s ≤ 1000000 → ∀ (x : Ex), x.size ≤ s → Fit x → ∀ (w : World) (m : Addr → Option Nat) (A : Bool) (b o : Nat), Lk W mb tb bm ba bi bt w m A → At W Any b o x →
  Calls Tryz.prog 220 #[.pointer (some ⟨b, o, none⟩), ptr bm, ptr ba, ptr bi, ptr bt] w (LPost W mb tb bm ba bi bt w A x) := by
 intro s
 induction s with
 | zero => intro _ x hx; have := size_pos x; omega
 | succ s ih =>
  intro hs x hx hfit w m A b o h ha
  cases hm : m ⟨b, o, none⟩ with
  | some v => exact of_met h ha hm
  | none =>
  have cm : w.cell? ⟨bm, 0, none⟩ = some (.map (some mb)) := cell_of h.b1 rfl
  have hGA : GA W ⟨b, o, none⟩ := by obtain ⟨cur, v, _, h2, _⟩ := ha; exact ⟨cur, h2⟩
  have hl := h.mp.look (keyG h.tr) (a := ⟨b, o, none⟩) hGA Tryz.underlying296 (z := .int .u8 0) (by kernel_rfl) true
  rw [hm] at hl
  simp only [Option.elim, kA, if_true, Option.isSome_none] at hl
  have ca : w.cell? ⟨ba, 0, none⟩ = some (.bool A) := cell_of h.b2 rfl
  have fa : w.frozen? ⟨ba, 0, none⟩ = false := by simp [World.frozen?, h.b2]
  obtain ⟨AB, hAB⟩ : ∃ AB, (A || x.op == 4) = AB := ⟨_, rfl⟩
  obtain ⟨hset, hson⟩ := h.set (B := AB) (fun hA => by rw [← hAB, hA]; rfl)
  obtain ⟨cur, va, _, hcur, g0, g1, g2, hlies⟩ := ha
  have c0 : w.cell? ⟨b, o, none⟩ = some (.int .u8 (x.op : Int)) := cell_of ((h.tr b cur hcur).trans hcur) g0
  obtain ⟨a, c, rfl, hch⟩ := hlies.form
  have hsz : (w.setCell ⟨ba, 0, none⟩ (.bool AB)).heap.size = w.heap.size := by simp
  have HS := Lib.hid (And.intro hset (And.intro hson hsz)); have HGA := Lib.hid hGA
  have HAt : Hid (At W Any b o x) := Lib.hid ⟨cur, _, trivial, hcur, g0, g1, g2, hlies⟩
  have HCH := Lib.hid hch; have HCUR := Lib.hid hcur; have HAB := Lib.hid hAB; have HFIT := Lib.hid hfit
  have hop4 : ((x.op : Int) == 4) = (x.op == 4) := by rw [Bool.eq_iff_iff]; simp only [beq_iff_eq]; omega
  clear h hset hson hcur hch hlies hfit hm hGA g1 hsz
  unfold ptr
  go_enter Tryz.func220, Tryz.ntmps220
  go_upto_region 4 with fail
  go_cut [26] (fun t w1 => t = .bool AB ∧ w1 = w.setCell ⟨ba, 0, none⟩ (.bool AB))
  case first =>
   cases A with
   | true =>
    rw [Bool.true_or] at hAB
    subst hAB
    go_wp2_with fail
    go_meet
    exact ⟨rfl, rfl⟩
   | false =>
    rw [Bool.false_or] at hAB
    rw [hAB] at hop4
    go_wp2_with fail
    go_meet
    exact ⟨rfl, rfl⟩
  case rest =>
   rename World => w1
   obtain ⟨rfl, rfl⟩ := hcut
   clear c0 cm ca fa hl
   obtain ⟨w1, hw1⟩ : ∃ w1, w.setCell ⟨ba, 0, none⟩ (.bool AB) = w1 := ⟨_, rfl⟩
   rw [hw1] at HS ⊢
   clear hw1
   have c0 : w1.cell? ⟨b, o, none⟩ = some (.int .u8 (x.op : Int)) := cell_of ((HS.out.1.tr b cur HCUR.out).trans HCUR.out) g0
   have c2 : w1.cell? ⟨b, o + 2, none⟩ = some (.slice a x.args.length c) := cell_of ((HS.out.1.tr b cur HCUR.out).trans HCUR.out) g2
   obtain ⟨N, hN⟩ : ∃ N, w1.heap.size = N := ⟨_, rfl⟩
   obtain ⟨W2, hW2⟩ : ∃ W2, w1.alloc (.cells #[.int .u8 (x.op : Int), .int .u8 0, .int .u8 0, .int .u8 0] 301) = W2 := ⟨_, rfl⟩
   have HR0 : Hid (LRnd W mb tb bm ba bi bt w A x N 0 W2 m ∧ W2.cell? ⟨b, o + 2, none⟩ = some (.slice a x.args.length c)) := Lib.hid (by
    obtain ⟨lk1, on1, sz1⟩ := HS.out
    have hb : Below w1.heap.size w1 W2 := by rw [← hW2]; exact (Below.refl _ _).alloc (Nat.le_refl _) _
    have ho : Only (fun _ => False) w1 W2 := Only.of_below hb
    refine ⟨⟨?_, on1.then (ho.mono fun _ hf => hf.elim), ?_, by omega⟩, ?_⟩
    · have := lk1.other ho (fun k hk => hk.elim)
      rw [List.take_zero, accs_nil, Bool.or_false, HAB.out]
      exact this
    · rw [← hW2, List.take_zero, tys_nil]
      exact heap_last hN.symm
    · exact cell_of ((((lk1.other ho (fun k hk => hk.elim)).tr b cur HCUR.out)).trans HCUR.out) g2)
   have HW2 := Lib.hid hW2; clear hW2
   go_upto_region 6 with fail
   rw [HW2.out]
   have c3 := HR0.out.2
   clear c0 c2 hN
   go_wp2_with fail
   go_loopg [37] x.args.length (fun g v37 wr => ∃ (k : Nat) (mr : Addr → Option Nat), k + g = x.args.length ∧ v37 = .int .i64 (k : Int) ∧ LRnd W mb tb bm ba bi bt w A x N k wr mr)
   case atStart => exact ⟨0, m, by omega, rfl, HR0.out.1⟩
   case round =>
    rename World => wr
    obtain ⟨k, mr, hk, rfl, hrel⟩ := hrel
    have HR := Lib.hid hrel; clear hrel
    have hlen3 := fit_three HFIT.out
    by_cases hk' : k < x.args.length
    · obtain ⟨b', rfl, hel⟩ := HCH.out (by omega)
      have HAK := Lib.hid (hel k hk'); clear hel
      have hcn := size_arg (List.getElem_mem hk')
      have hkn : (k : Int) < (x.args.length : Int) := by omega
      have hk3 : (k : Int) < 3 := by omega
      have s2 : wr.cell? ⟨b, o + 2, none⟩ = some (.slice (some ⟨b', 0, none⟩) x.args.length c) := cell_of ((HR.out.lk.tr b cur HCUR.out).trans HCUR.out) g2
      have si : wr.cell? ⟨bi, 0, none⟩ = some (.func (.func 220) #[] #[ptr bm, ptr ba, ptr bi, ptr bt]) := cell_of HR.out.lk.b3 rfl
      have HC := Lib.hid (ih (by omega) x.args[k] (by omega) (fit_part HFIT.out (List.getElem_mem hk')) wr.drew mr _ b' (k * 3) HR.out.lk.drew HAK.out)
      unfold ptr at HC si
      obtain ⟨tk, htk⟩ : ∃ tk : Nat, x.args[k].ty = tk := ⟨_, rfl⟩
      have HTK := Lib.hid htk
      rw [show LPost W mb tb bm ba bi bt wr.drew (A || x.op == 4 || accs (x.args.take k)) x.args[k] = fun e w' => ∃ m', e = .returned (.int .u8 (tk : Int)) ∧ Lk W mb tb bm ba bi bt w' m' ((A || x.op == 4 || accs (x.args.take k)) || x.args[k].acc) ∧ Only (LkF mb ba) wr.drew w' by rw [← htk]; rfl] at HC
      clear htk
      have HCC : Hid (Calls Tryz.prog 220 #[.pointer (some ⟨b', k * 3, none⟩), .pointer (some ⟨bm, 0, none⟩), .pointer (some ⟨ba, 0, none⟩), .pointer (some ⟨bi, 0, none⟩), .pointer (some ⟨bt, 0, none⟩)] wr.drew (fun e w' => e = .returned (.int .u8 (tk : Int)) ∧ w'.cell? ⟨N, 1 + k, none⟩ = some (.int .u8 (((tys (x.args.take k)).getD k 0 : Nat) : Int)) ∧ w'.frozen? ⟨N, 1 + k, none⟩ = false ∧ ∃ m', LRnd W mb tb bm ba bi bt w A x N (k + 1) (w'.setCell ⟨N, 1 + k, none⟩ (.int .u8 (tk : Int))) m')) := Lib.hid (HC.out.mono (fun e w' he => by
       obtain ⟨m', rfl, lk3, on3⟩ := he
       have hrow : w'.heap[N]? = some (.cells (rowC x.op (tys (x.args.take k))) 301 (0, 0)) := (on3.of_drew.block N (Array.getElem?_eq_some_iff.1 HR.out.row).1 HR.out.apart).trans HR.out.row
       refine ⟨rfl, cell_of hrow (rowC_at (by omega)), by simp [World.frozen?, hrow], m', ?_⟩
       have := HR.out.next hk' (by omega) lk3 on3.of_drew
       rw [HTK.out] at this
       exact this))
      go_upto_region 9 with fail
      go_region_with (go_at_call 220; (refine HCC.out.mono ?_); rintro e w3 ⟨rfl, d3, f3, hx3⟩; have HX3 := Lib.hid hx3; clear hx3)
      all_goals (
       obtain ⟨m4, hn4⟩ := HX3.out
       obtain ⟨w4, hw4⟩ : ∃ w4, w3.setCell ⟨N, 1 + k, none⟩ (.int .u8 (tk : Int)) = w4 := ⟨_, rfl⟩
       rw [hw4] at hn4 ⊢
       have HN := Lib.hid hn4; clear hn4 hw4 HX3 d3 f3
       go_wp2_with fail
       go_roundg (gk - 1)
       case measure => omega
       case rel => exact ⟨k + 1, m4, by omega, by go_num, HN.out⟩)
    · obtain rfl : k = x.args.length := by omega
      have hrow := HR.out.row
      have hlk := HR.out.lk.drew
      have hon := HR.out.only
      rw [List.take_length] at hrow hlk
      have hacc : (A || x.op == 4 || accs x.args) = (A || x.acc) := by rw [acc_eq, Bool.or_assoc]
      rw [hacc] at hlk
      obtain ⟨t0, h0⟩ : ∃ t : Nat, (tys x.args).getD 0 0 = t := ⟨_, rfl⟩
      obtain ⟨t1, h1⟩ : ∃ t : Nat, (tys x.args).getD 1 0 = t := ⟨_, rfl⟩
      obtain ⟨t2, h2⟩ : ∃ t : Nat, (tys x.args).getD 2 0 = t := ⟨_, rfl⟩
      unfold rowC at hrow
      rw [h0, h1, h2] at hrow
      have hty : x.ty = (tab (x.op, t0, t1, t2)).getD 0 := by rw [ty_eq, tyRow, rw3, h0, h1, h2]
      have n0 : wr.cell? ⟨N, 0, none⟩ = some (.int .u8 (x.op : Int)) := cell_of hrow rfl
      have n1 : wr.cell? ⟨N, 1, none⟩ = some (.int .u8 (t0 : Int)) := cell_of hrow rfl
      have n2 : wr.cell? ⟨N, 2, none⟩ = some (.int .u8 (t1 : Int)) := cell_of hrow rfl
      have n3 : wr.cell? ⟨N, 3, none⟩ = some (.int .u8 (t2 : Int)) := cell_of hrow rfl
      have e1 : wr.cell? ⟨bm, 0, none⟩ = some (.map (some mb)) := cell_of HR.out.lk.b1 rfl
      have e4 : wr.cell? ⟨bt, 0, none⟩ = some (.map (some tb)) := cell_of HR.out.lk.b4 rfl
      obtain ⟨tx, htx⟩ : ∃ t : Nat, x.ty = t := ⟨_, rfl⟩
      rw [htx] at hty
      have hlt := hlk.tp.look (keyR wr.drew) (a := (x.op, t0, t1, t2)) trivial Tryz.underlying294 (z := .int .u8 0) (by kernel_rfl) false
      simp only [Bool.false_eq_true, if_false] at hlt
      rw [show (tab (x.op, t0, t1, t2)).elim (.int .u8 0) vB = .int .u8 (tx : Int) by rw [hty]; cases tab (x.op, t0, t1, t2) <;> rfl] at hlt
      unfold kR at hlt
      obtain ⟨ob, hst, hpm, es, clock, hmb⟩ := hlk.mp.store (keyG hlk.tr) (a := ⟨b, o, none⟩) HGA.out Tryz.underlying296 tx
      simp only [vB, kA] at hst
      have HF : Hid (LPost W mb tb bm ba bi bt w A x (.returned (.int .u8 (tx : Int))) (setBlock wr.drew mb ob)) := Lib.hid (by
       have hO : Only (fun j => j = mb) wr.drew (setBlock wr.drew mb ob) := Only.setBlock hmb _ rfl
       refine ⟨upd mr ⟨b, o, none⟩ tx, by rw [htx], ?_, hon.then (hO.of_drew.mono fun _ h => .inl h)⟩
       have st : ∀ {j : Nat} {c : Array Value} {t : TypeId} {fr : Nat × Nat}, wr.heap[j]? = some (.cells c t fr) → (setBlock wr.drew mb ob).heap[j]? = some (.cells c t fr) := fun {j c t fr} hj =>
        (heap_setBlock_other hmb ob (fun e => by subst e; have h5 : wr.heap[j]? = some (.map es clock) := hmb; rw [h5] at hj; cases hj)).trans hj
       refine ⟨hlk.tr.only hO fun j hj c => hlk.moves (.inl hj) c, hpm, hlk.tp.kept (heap_setBlock_other hmb ob (Ne.symm hlk.ne)), st hlk.b1, st hlk.b2, st hlk.b3, st hlk.b4, fun q v hq => ?_, hlk.ne⟩
       by_cases hqp : q = ⟨b, o, none⟩
       · subst hqp
         rw [upd_same] at hq
         exact ⟨x, rfl, HAt.out, (Option.some.inj hq).symm.trans htx.symm, fun hx => by rw [hx, Bool.or_true]⟩
       · rw [upd_other _ _ hqp] at hq
         exact hlk.inv q v hq)
      obtain ⟨w5, hw5⟩ : ∃ w5, setBlock wr.drew mb ob = w5 := ⟨_, rfl⟩
      have hkg : KeyT Tryz.prog w5 kA (GA W) 161 := keyG (by obtain ⟨m', _, hl, _⟩ := HF.out; rw [hw5] at hl; exact hl.tr)
      rw [hw5] at hst hpm HF
      have hl5 := hpm.look hkg (a := ⟨b, o, none⟩) HGA.out Tryz.underlying296 (z := .int .u8 0) (by kernel_rfl) false
      rw [upd_same] at hl5
      simp only [Option.elim, vB, kA, Bool.false_eq_true, if_false] at hl5
      have e5 : w5.cell? ⟨bm, 0, none⟩ = some (.map (some mb)) := by obtain ⟨m', _, hl, _⟩ := HF.out; exact cell_of hl.b1 rfl
      clear hw5 hpm hlk hon hrow hacc h0 h1 h2 hty htx hmb hkg
      have hkn : ¬ ((x.args.length : Int) < (x.args.length : Int)) := by omega
      go_upto_region 11 with fail
      go_region
      go_wp2_with fail
      go_ret
      exact HF.out
end
section
open Go.RowKit nam
open Go.ChangeMaps (setBlock heap_setBlock_same heap_setBlock_other)
set_option maxRecDepth 1000000 in
theorem look_any {w : World} {b o : Nat} {x : Ex} (ha : At w Any b o x) (hs : x.size ≤ 1000000) (hf : Fit x) :
  Calls Tryz.prog 197 #[.pointer (some ⟨b, o, none⟩)] w fun e w' => e = .returned (.tuple #[.int .u8 (x.ty : Int), .bool x.acc]) ∧ Below w.heap.size w w' := by
 have hmm := @run_makeMap Tryz.prog
 obtain ⟨ax, hax⟩ : ∃ c, x.acc = c := ⟨_, rfl⟩
 obtain ⟨tx, htx⟩ : ∃ c : Nat, x.ty = c := ⟨_, rfl⟩
 rw [hax, htx]
 have HAX := Lib.hid hax; have HTX := Lib.hid htx
 clear hax htx
 obtain ⟨N, hN⟩ : ∃ N, w.heap.size = N := ⟨_, rfl⟩
 obtain ⟨W1, hW1⟩ : ∃ W, w.alloc (.cells #[.bool false] 4) = W := ⟨_, rfl⟩
 have q1 : W1.heap[N]? = some (.cells #[.bool false] 4 (0, 0)) := by rw [← hW1]; exact heap_last hN.symm
 have s1 : W1.heap.size = N + 1 := by rw [← hW1, ← hN]; simp
 have hb1 : Below w.heap.size w W1 := by rw [← hW1]; exact (Below.refl _ _).alloc (Nat.le_refl _) _
 have HT := Lib.hid (table_any W1)
 have H1 := Lib.hid (And.intro q1 (And.intro s1 hb1)); have HA := Lib.hid ha; have HN := Lib.hid hN; have HF := Lib.hid hf
 clear q1 s1 hb1 ha hf
 go_enter Tryz.func197, Tryz.ntmps197
 go_wp2_with fail
 refine HT.out.mono ?_
 rintro e w2 ⟨tb, rfl, htb, hpm, hb2⟩
 obtain ⟨q1, s1, hb1⟩ := H1.out
 obtain ⟨T, hT⟩ : ∃ T, w2.heap.size = T := ⟨_, rfl⟩
 obtain ⟨W6, hW6⟩ : ∃ W, (((w2.alloc (.cells #[.map (some tb)] 294)).alloc (.map #[] 0)).alloc (.cells #[.map (some (T + 1))] 296)).alloc (.cells #[.nilFunc] 297) = W := ⟨_, rfl⟩
 obtain ⟨W7, hW7⟩ : ∃ W7, W6.setCell ⟨T + 1 + 1 + 1, 0, none⟩ (.func (.func 220) #[] #[ptr (T + 1 + 1), ptr N, ptr (T + 1 + 1 + 1), ptr T]) = W7 := ⟨_, rfl⟩
 have hs2 := hb2.size
 have r1 : W6.heap[N]? = some (.cells #[.bool false] 4 (0, 0)) := by
  rw [← hW6]
  exact heap_old (heap_old (heap_old (heap_old ((hb2.block N (by omega)).trans q1))))
 have r4 : W6.heap[T]? = some (.cells #[.map (some tb)] 294 (0, 0)) := by rw [← hW6]; exact heap_old (heap_old (heap_old (heap_last hT.symm)))
 have r5 : W6.heap[T + 1]? = some (.map #[] 0) := by rw [← hW6]; exact heap_old (heap_old (heap_last (by simp [hT])))
 have r6 : W6.heap[T + 1 + 1]? = some (.cells #[.map (some (T + 1))] 296 (0, 0)) := by rw [← hW6]; exact heap_old (heap_last (by simp [hT]))
 have r7 : W6.heap[T + 1 + 1 + 1]? = some (.cells #[.nilFunc] 297 (0, 0)) := by rw [← hW6]; exact heap_last (by simp [hT])
 have gb : Below w2.heap.size w2 W6 := by
  rw [← hW6]
  exact ((((Below.refl _ _).alloc (Nat.le_refl _) _).alloc (by simp) _).alloc (by simp; omega) _).alloc (by simp; omega) _
 have hbb : Below w.heap.size w W7 := by
  rw [← hW7]
  exact ((hb1.trans (hb2.mono (by omega))).trans (gb.mono (by omega))).setCell (by show w.heap.size ≤ T + 1 + 1 + 1; omega) _
 have hlt := hpm.lt
 have hlk : Lk w (T + 1) tb (T + 1 + 1) N (T + 1 + 1 + 1) T W7 (fun _ => none) false := by
  rw [← hW7]
  refine ⟨fun b c hb => ?_, ⟨#[], 0, heap_set r5 (by omega), by simp, by simp, by simp⟩, hpm.kept ?_, heap_set r6 (by omega), heap_set r1 (by omega), heap_setCell_same W6 _ 0 _ 297 _ r7, heap_set r4 (by omega), fun q v hq => (by cases hq), by omega⟩
  · have hl := (Array.getElem?_eq_some_iff.1 hb).1
    rw [hW7]
    exact hbb.block b hl
  · rw [Below.heap_setCell _ _ _ _ (by show tb ≠ T + 1 + 1 + 1; omega)]
    exact gb.block tb (by omega)
 have c7 : W7.cell? ⟨T + 1 + 1 + 1, 0, none⟩ = some (.func (.func 220) #[] #[ptr (T + 1 + 1), ptr N, ptr (T + 1 + 1 + 1), ptr T]) := cell_of hlk.b3 rfl
 have c6 : W6.cell? ⟨T + 1 + 1 + 1, 0, none⟩ = some .nilFunc := cell_of r7 rfl
 have f6 : W6.frozen? ⟨T + 1 + 1 + 1, 0, none⟩ = false := by simp [World.frozen?, r7]
 have HO := Lib.hid (of_any w (T + 1) tb (T + 1 + 1) N (T + 1 + 1 + 1) T x.size hs x (Nat.le_refl _) HF.out W7 _ false b o hlk HA.out)
 have HB := Lib.hid hbb
 have HH := Lib.hid (And.intro hT (And.intro htb (And.intro hs2 s1)))
 clear hpm hb2 q1 hb1 r1 r4 r5 r6 r7 gb hbb hlk hlt hs2 htb s1
 unfold ptr at *
 go_wp2_with fail
 refine HO.out.mono ?_
 rintro e w8 ⟨m8, rfl, hl8, ho8⟩
 rw [Bool.false_or] at hl8
 rw [HAX.out] at hl8
 rw [HTX.out]
 have d8 : w8.heap[N]? = some (.cells #[.bool ax] 4 (0, 0)) := hl8.b2
 have c8 : w8.cell? ⟨N, 0, none⟩ = some (.bool ax) := cell_of d8 rfl
 have f8 : w8.frozen? ⟨N, 0, none⟩ = false := by simp [World.frozen?, d8]
 have d9 : (w8.setCell ⟨N, 0, none⟩ (.bool ax)).drew.cell? ⟨N, 0, none⟩ = some (.bool ax) := cell_of (w := (w8.setCell ⟨N, 0, none⟩ (.bool ax)).drew) (heap_setCell_same w8 N 0 _ 4 _ d8) rfl
 have HX : Hid (Below w.heap.size w (w8.setCell ⟨N, 0, none⟩ (.bool ax)).drew) := Lib.hid (by
  obtain ⟨hT, htb, hs2, s1⟩ := HH.out
  have hN := HN.out
  have h1 : Below w.heap.size w w8 := HB.out.trans (ho8.below (by have := HB.out.size; omega) (fun k hk => by rcases hk with rfl | rfl <;> omega))
  exact (h1.setCell (by show w.heap.size ≤ N; omega) _).drew)
 clear hl8 ho8 d8
 go_upto_region 6 with fail
 go_region
 obtain ⟨w9, hw9⟩ : ∃ w9, (w8.setCell ⟨N, 0, none⟩ (.bool ax)).drew = w9 := ⟨_, rfl⟩
 rw [hw9] at d9 HX ⊢
 clear hw9
 go_wp2_with fail
 refine bodyPost_ret (v := .tuple #[.int .u8 (tx : Int), .bool ax]) (by simp [results, Tryz.f197, go_sem, d9]) rfl ⟨rfl, HX.out⟩
end
section
open Go.RowKit nam
theorem kind_any {x : Ex} {v : Value} {B : Nat → Prop} {w : World} (h : Lies w B v x.args) (hs : x.size ≤ 1000000) (acc : Bool) :
  Calls Tryz.prog 165 #[exV x v, .bool acc] w fun e w' => e = .returned (.tuple #[.int .u8 ((kindO x acc).1 : Int), .int .i64 (kindO x acc).2]) ∧ Below w.heap.size w w' := by
 obtain ⟨N, hN⟩ : ∃ N, w.heap.size = N := ⟨_, rfl⟩
 obtain ⟨W, hW⟩ : ∃ W, w.alloc (.cells #[.int .u8 (x.op : Int), .int .i64 x.n, v] 46) = W := ⟨_, rfl⟩
 have hwb : Below w.heap.size w W := by rw [← hW]; exact (Below.refl _ _).alloc (Nat.le_refl _) _
 have hW0 : W.heap[N]? = some (.cells #[.int .u8 (x.op : Int), .int .i64 x.n, v] 46 (0, 0)) := by rw [← hW]; exact heap_last hN.symm
 have hat : At W Any N 0 x := ⟨_, v, trivial, hW0, rfl, rfl, rfl, (h.mono (fun _ _ => trivial)).under hwb⟩
 obtain ⟨c0, c1, c2⟩ := box_cells hW
 rw [hN] at c0 c1 c2
 have HM := Lib.hid (may_any (h.under hwb) hs)
 have HB := Lib.hid hwb; have HA := Lib.hid hat; have HN := Lib.hid hN
 clear h hwb hat hW0
 obtain ⟨r, hr⟩ : ∃ r, kindO x acc = r := ⟨_, rfl⟩
 rw [hr]
 unfold exV at *
 obtain ⟨g, hg⟩ : ∃ g, good FM x 1 = g := ⟨_, rfl⟩
 rw [hg] at HM
 cases g with
 | false =>
  obtain rfl : r = (0, 2) := by rw [← hr, kindO, if_pos hg]
  clear hr hg
  go_enter Tryz.func165, Tryz.ntmps165
  go_wp2_with fail
  refine HM.out.mono ?_
  rintro e w1 ⟨rfl, hb1⟩
  have HX := Lib.hid (HB.out.trans (hb1.mono HB.out.size)); clear hb1
  go_wp2_with fail
  go_ret2
  exact ⟨rfl, HX.out⟩
 | true =>
  have hfit := ((good_FM x 1).1 hg).2
  obtain ⟨ax, hax⟩ : ∃ c, x.acc = c := ⟨_, rfl⟩
  obtain ⟨tx, htx⟩ : ∃ c : Nat, x.ty = c := ⟨_, rfl⟩
  have hk : r = if ax = true ∧ acc = false then (0, 90) else if tx = 0 then (0, 91) else (tx, 0) := by
   rw [← hr, kindO, if_neg (by rw [hg]; simp), hax, htx]
  have HF := Lib.hid hfit; have HAX := Lib.hid hax; have HTX := Lib.hid htx
  clear hr hg hfit hax htx
  have hcase : ∃ (z : Bool), ((tx : Int) == 0) = z ∧ r = if ax = true ∧ acc = false then (0, 90) else if z = true then (0, 91) else (tx, 0) := by
   refine ⟨_, rfl, ?_⟩
   rw [hk]
   by_cases h0 : tx = 0
   · simp [h0]
   · have : ((tx : Int) == 0) = false := by rw [beq_eq_false_iff_ne]; omega
     simp [h0, this]
  obtain ⟨z, hz, hk'⟩ := hcase
  clear hk
  go_enter Tryz.func165, Tryz.ntmps165
  go_wp2_with fail
  refine HM.out.mono ?_
  rintro e w1 ⟨rfl, hb1⟩
  have HL := Lib.hid (look_any (w := w1) (HA.out.under' hb1) hs HF.out)
  rw [HAX.out, HTX.out] at HL
  have HX := Lib.hid (HB.out.trans (hb1.mono HB.out.size)); clear hb1
  go_wp2_with fail
  refine HL.out.mono ?_
  rintro e w2 ⟨rfl, hb2⟩
  have HX2 := Lib.hid (HX.out.trans (hb2.mono HX.out.size)); clear hb2
  cases ax with
  | true =>
   cases acc with
   | false =>
    rw [if_pos ⟨rfl, rfl⟩] at hk'
    subst hk'
    go_wp2_with fail
    go_ret2
    exact ⟨rfl, by first | exact HX2.out | exact HN.out ▸ HX2.out⟩
   | true =>
    rw [if_neg (by simp)] at hk'
    cases z <;> (simp only [if_true, Bool.false_eq_true, if_false] at hk'; subst hk'; go_wp2_with fail; go_ret2; exact ⟨rfl, by first | exact HX2.out | exact HN.out ▸ HX2.out⟩)
  | false =>
   rw [if_neg (by simp)] at hk'
   cases z <;> (simp only [if_true, Bool.false_eq_true, if_false] at hk'; subst hk'; go_wp2_with fail; go_ret2; exact ⟨rfl, by first | exact HX2.out | exact HN.out ▸ HX2.out⟩)
end
end Go.Proofs.YtepdecnegihhhaaGreatDoor.exp
