/- slices.Equal over two rows of the same tokens; what 'works' answers. -/
import Derived.Test.YtffhmbiamkbchaaDoorLxG
import Derived.Test.YtffhmbiamkbchaaDoorLxR
import Derived.Deep.MidRow
import Derived.Laws.StructEq
import Derived.Deep.RegionLaw
import Derived.Deep.RegionHeld3
import Derived.Laws.EntriesVeiled
import Derived.Deep.DrawnRows
namespace Go.Proofs.YtffhmbiamkbchaaDoor.lex
set_option linter.unusedSimpArgs false
set_option linter.unusedVariables false
open Go.RowKit nam

theorem neq_tok (k n p : Int) (s : ByteArray) (w : World) : (binOp .neq 75 (.agg #[.int .u8 k, .string s, .int .i64 n, .int .i64 p]) (.agg #[.int .u8 k, .string s, .int .i64 n, .int .i64 p])).run Tryd.prog w = .ok (.bool false) w := by
  have u2 := Tryd.underlying2
  have a2 := Tryd.isAgg2
  have z2 := Tryd.sizeOf2
  have u3 := Tryd.underlying3
  have a3 := Tryd.isAgg3
  have z3 := Tryd.sizeOf3
  have u5 := Tryd.underlying5
  have a5 := Tryd.isAgg5
  have z5 := Tryd.sizeOf5
  have u9 := Tryd.underlying9
  have a9 := Tryd.isAgg9
  have z9 := Tryd.sizeOf9
  have hS : Tryd.prog.underlying 75 = some (.struct (Tryd.prog.fieldsOf 75)) := by kernel_rfl
  have hp : Tryd.prog.stoodInHeld 75 = false := by kernel_rfl
  rw [run_neq_struct, show (10000 : Nat) = 9999 + 1 from rfl, run_equalIn_agg w 9999 75 _ _ hS hp]
  simp only [Program.fieldsOf, Tryd.underlying75]
  go_simp
theorem guardTok : Tryd.prog.eqGuardType Tryd.prog.depth 75 = false := by kernel_rfl
theorem infoTok4 : (Tryd.prog.info? 75).map (·.size) = some 4 := by kernel_rfl
theorem flat_get : ∀ (l : List Tok) (j : Nat) (t : Tok) (i : Nat), l[j]? = some t → i < 4 → (flat l)[j * 4 + i]? = (tokV t)[i]?
  | [], j, t, i, h, _ => by simp at h
  | x :: l, 0, t, i, h, hi => by
    simp at h
    subst h
    have e : flat (x :: l) = tokV x ++ flat l := rfl
    rw [e, Nat.zero_mul, Nat.zero_add, List.getElem?_append_left (by exact hi)]
  | x :: l, j + 1, t, i, h, hi => by
    have e : flat (x :: l) = tokV x ++ flat l := rfl
    have e4 : (tokV x).length = 4 := rfl
    rw [e, List.getElem?_append_right (by rw [e4]; omega), e4, show (j + 1) * 4 + i - 4 = j * 4 + i by omega]
    exact flat_get l j t i (by simpa using h) hi
theorem toks_range {w : World} {B g n cap j : Nat} {l : List Tok} {t : Tok} (h : Toks w B (.slice (some ⟨g, 0, none⟩) n cap) l) (hn : n = l.length) (ht : l[j]? = some t) : w.rangeAt g (j * 4) (tokV t) := by
  subst hn
  intro i v hv
  have hi : i < 4 := (List.getElem?_eq_some_iff.1 hv).1
  have hj : j < l.length := (List.getElem?_eq_some_iff.1 ht).1
  rw [World.ownsRow.cellAt h (j * 4 + i) (by omega), flat_get l j t i ht hi]
  exact hv
theorem toks_form {w : World} {B : Nat} {v : Value} {l : List Tok} (h : Toks w B v l) : ∃ a c, v = .slice a l.length c ∧ (0 < l.length → ∃ g, a = some ⟨g, 0, none⟩) := by
  rcases h.2 with ⟨rfl, h0⟩ | ⟨g, cap, _, rfl, _⟩
  · exact ⟨none, 0, by rw [h0], fun h1 => by omega⟩
  · exact ⟨_, cap, rfl, fun _ => ⟨g, rfl⟩⟩
theorem below_dr {w w' : World} {B : Nat} (h : Below B w w') : Below B w w'.drew := ⟨h.os, h.tape, h.output, h.size, h.block⟩

theorem tokens_of {s : ByteArray} {l : List Tok} {p : Nat} {c : Int} (h : toksO s = (l, p, c)) (w : World) : Calls Tryd.prog 34 #[.string s] w fun e w' =>
    ∃ v, e = .returned (.tuple #[v, .int .i64 p, .int .i64 c]) ∧ Toks w' w.heap.size v l ∧ Below w.heap.size w w' := by
  refine (tokens_any s w).mono ?_
  rintro e w' ⟨v, he, ht, hb⟩
  rw [h] at he ht
  exact ⟨v, he, ht, hb⟩
end Go.Proofs.YtffhmbiamkbchaaDoor.lex
