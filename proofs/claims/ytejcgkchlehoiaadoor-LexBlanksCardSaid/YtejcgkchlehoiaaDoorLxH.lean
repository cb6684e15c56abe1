/- slices.Equal over two rows of the same tokens; what 'works' answers. -/
import Derived.Test.YtejcgkchlehoiaaDoorLxG
import Derived.Test.YtejcgkchlehoiaaDoorLxR
import Derived.Deep.MidRow
import Derived.Laws.StructEq
import Derived.Deep.RegionLaw
import Derived.Deep.RegionHeld3
import Derived.Laws.EntriesVeiled
import Derived.Deep.DrawnRows
namespace Go.Proofs.YtejcgkchlehoiaaDoor.lex
set_option linter.unusedSimpArgs false
set_option linter.unusedVariables false
open Go.RowKit nam

theorem neq_tok (k n p : Int) (s : ByteArray) (w : World) : (binOp .neq 29 (.agg #[.int .u8 k, .string s, .int .i64 n, .int .i64 p]) (.agg #[.int .u8 k, .string s, .int .i64 n, .int .i64 p])).run Tryd.prog w = .ok (.bool false) w := by
  have u2 := Tryd.underlying2
  have a2 := Tryd.isAgg2
  have z2 := Tryd.sizeOf2
  have u3 := Tryd.underlying3
  have a3 := Tryd.isAgg3
  have z3 := Tryd.sizeOf3
  have u5 := Tryd.underlying5
  have a5 := Tryd.isAgg5
  have z5 := Tryd.sizeOf5
  have u9 := Tryd.underlying9
  have a9 := Tryd.isAgg9
  have z9 := Tryd.sizeOf9
  have hS : Tryd.prog.underlying 29 = some (.struct (Tryd.prog.fieldsOf 29)) := by kernel_rfl
  have hp : Tryd.prog.stoodInHeld 29 = false := by kernel_rfl
  rw [run_neq_struct, show (10000 : Nat) = 9999 + 1 from rfl, run_equalIn_agg w 9999 29 _ _ hS hp]
  simp only [Program.fieldsOf, Tryd.underlying29]
  go_simp
theorem guardTok : Tryd.prog.eqGuardType Tryd.prog.depth 29 = false := by kernel_rfl
theorem infoTok4 : (Tryd.prog.info? 29).map (·.size) = some 4 := by kernel_rfl
theorem flat_get : ∀ (l : List Tok) (j : Nat) (t : Tok) (i : Nat), l[j]? = some t → i < 4 → (flat l)[j * 4 + i]? = (tokV t)[i]?
  | [], j, t, i, h, _ => by simp at h
  | x :: l, 0, t, i, h, hi => by
    simp at h
    subst h
    have e : flat (x :: l) = tokV x ++ flat l := rfl
    rw [e, Nat.zero_mul, Nat.zero_add, List.getElem?_append_left (by exact hi)]
  | x :: l, j + 1, t, i, h, hi => by
    have e : flat (x :: l) = tokV x ++ flat l := rfl
    have e4 : (tokV x).length = 4 := rfl
    rw [e, List.getElem?_append_right (by rw [e4]; omega), e4, show (j + 1) * 4 + i - 4 = j * 4 + i by omega]
    exact flat_get l j t i (by simpa using h) hi
theorem toks_range {w : World} {B g n cap j : Nat} {l : List Tok} {t : Tok} (h : Toks w B (.slice (some ⟨g, 0, none⟩) n cap) l) (hn : n = l.length) (ht : l[j]? = some t) : w.rangeAt g (j * 4) (tokV t) := by
  subst hn
  intro i v hv
  have hi : i < 4 := (List.getElem?_eq_some_iff.1 hv).1
  have hj : j < l.length := (List.getElem?_eq_some_iff.1 ht).1
  rw [World.ownsRow.cellAt h (j * 4 + i) (by omega), flat_get l j t i ht hi]
  exact hv
theorem toks_form {w : World} {B : Nat} {v : Value} {l : List Tok} (h : Toks w B v l) : ∃ a c, v = .slice a l.length c ∧ (0 < l.length → ∃ g, a = some ⟨g, 0, none⟩) := by
  rcases h.2 with ⟨rfl, h0⟩ | ⟨g, cap, _, rfl, _⟩
  · exact ⟨none, 0, by rw [h0], fun h1 => by omega⟩
  · exact ⟨_, cap, rfl, fun _ => ⟨g, rfl⟩⟩
theorem below_dr {w w' : World} {B : Nat} (h : Below B w w') : Below B w w'.drew := ⟨h.os, h.tape, h.output, h.size, h.block⟩

set_option maxHeartbeats 1600000 in
set_option maxRecDepth 1000000 in
theorem equal_toks {w : World} {B B' : Nat} {v v' : Value} {l : List Tok} (h : Toks w B v l) (h' : Toks w B' v' l) (hl : l.length ≤ 1000) :
    Calls Tryd.prog 11 #[v, v'] w fun e w' => e = .returned (.bool true) ∧ Below w.heap.size w w' := by
  obtain ⟨a, c, rfl, ha⟩ := toks_form h
  obtain ⟨a', c', rfl, ha'⟩ := toks_form h'
  obtain ⟨n, hn⟩ : ∃ n, l.length = n := ⟨_, rfl⟩
  rw [hn] at ha ha' h h' hl ⊢
  have HN := Lib.hid hn; clear hn
  have HH := Lib.hid h; have HH' := Lib.hid h'
  have HA := Lib.hid ha; have HA' := Lib.hid ha'
  clear h h' ha ha'
  have hnb : (n : Int) ≤ 1000 := by omega
  have hne : ((n : Int) != (n : Int)) = false := by simp
  go_enter Tryd.func11, Tryd.ntmps11
  go_wp2_with fail
  go_loopw [13] (fun i wr => ∃ j : Nat, j ≤ n ∧ i = .int .i64 j ∧ Below w.heap.size w wr) (fun i _ => n - (intOf i).toNat)
  case atStart => exact ⟨0, by omega, rfl, Below.refl _ _⟩
  case round =>
    obtain ⟨j, hj, rfl, hb⟩ := hrel
    have HB := Lib.hid hb
    by_cases hjl : j < n
    · obtain ⟨g, rfl⟩ := HA.out (by omega)
      obtain ⟨g', rfl⟩ := HA'.out (by omega)
      obtain ⟨t, ht⟩ : ∃ t, l[j]? = some t := ⟨_, List.getElem?_eq_getElem (by have := HN.out; omega)⟩
      have hS := And.intro (toks_range (toks_below HH.out hb) HN.out.symm ht) (toks_range (toks_below HH'.out hb) HN.out.symm ht)
      dsimp only [tokV] at hS
      have HSS := Lib.hid hS
      have hj0 : (0 : Int) ≤ (j : Int) := by omega
      have hj1 : (j : Int) < (n : Int) := by omega
      have hneq := fun w0 => neq_tok t.kind t.n t.place (textOf t.text) w0
      have hgd := guardTok
      clear ht hS hb hj hjl
      go_wp2_with fail
      refine wp_region_peel2 (by kernel_rfl) (by simp only [List.dropLast_cons_cons, List.dropLast_singleton]; exact rfl) rfl (by kernel_rfl) ?_
      refine wpAny_of_held (S := fun w' => w'.rangeAt g (j * 4) [.int .u8 t.kind, .string (textOf t.text), .int .i64 t.n, .int .i64 t.place] ∧ w'.rangeAt g' (j * 4) [.int .u8 t.kind, .string (textOf t.text), .int .i64 t.n, .int .i64 t.place]) _ _ _ _ ?_
      have hHeld : wr.drew.rangeAt g (j * 4) [.int .u8 t.kind, .string (textOf t.text), .int .i64 t.n, .int .i64 t.place] ∧ wr.drew.rangeAt g' (j * 4) [.int .u8 t.kind, .string (textOf t.text), .int .i64 t.n, .int .i64 t.place] := HSS.out
      refine wpAnyH_take (i := 0) (v := ?v1) rfl (by kernel_rfl) (by kernel_rfl) (by kernel_rfl) (fun _ _ _ h => h) (Or.inl ⟨by rfl, ?hy1⟩) (by assumption) ?rest1
      case hy1 => (intro w0 hSw; (try dsimp only at hSw); go_simp; try with_reducible rfl)
      try simp only [Act.put, List.getElem_toArray, List.getElem_cons_zero, List.getElem_cons_succ, List.setIfInBounds_toArray, List.set_cons_zero, List.set_cons_succ]
      refine wpAnyH_take (i := 1) (v := ?v2) rfl (by kernel_rfl) (by kernel_rfl) (by kernel_rfl) (fun _ _ _ h => h) (Or.inl ⟨by rfl, ?hy2⟩) (by assumption) ?rest2
      case hy2 => (intro w0 hSw; (try dsimp only at hSw); go_simp; try with_reducible rfl)
      try simp only [Act.put, List.getElem_toArray, List.getElem_cons_zero, List.getElem_cons_succ, List.setIfInBounds_toArray, List.set_cons_zero, List.set_cons_succ]
      refine wpAnyH_take (i := 2) (v := ?v3) rfl (by kernel_rfl) (by kernel_rfl) (by kernel_rfl) (fun _ _ _ h => h) (Or.inl ⟨by rfl, ?hy3⟩) (by assumption) ?rest3
      case hy3 => (intro w0 hSw; (try dsimp only at hSw); go_simp; try with_reducible rfl)
      try simp only [Act.put, List.getElem_toArray, List.getElem_cons_zero, List.getElem_cons_succ, List.setIfInBounds_toArray, List.set_cons_zero, List.set_cons_succ]
      refine wpAnyH_take (i := 3) (v := .agg #[.int .u8 t.kind, .string (textOf t.text), .int .i64 t.n, .int .i64 t.place]) rfl (by kernel_rfl) (by kernel_rfl) (by kernel_rfl) (fun _ _ _ h => h) (yieldsIf_load_mid (by rfl) 29 (.tmp 18) rfl g (j * 4) (by simp [Act.eval]) [.int .u8 t.kind, .string (textOf t.text), .int .i64 t.n, .int .i64 t.place] _ (fun W hW => hW.1) Tryd.underlying29 rfl infoTok4) (by assumption) ?_
      try simp only [Act.put, List.getElem_toArray, List.getElem_cons_zero, List.getElem_cons_succ, List.setIfInBounds_toArray, List.set_cons_zero, List.set_cons_succ]
      refine wpAnyH_take (i := 4) (v := ?v4) rfl (by kernel_rfl) (by kernel_rfl) (by kernel_rfl) (fun _ _ _ h => h) (Or.inl ⟨by rfl, ?hy4⟩) (by assumption) ?rest4
      case hy4 => (intro w0 hSw; (try dsimp only at hSw); go_simp; try with_reducible rfl)
      try simp only [Act.put, List.getElem_toArray, List.getElem_cons_zero, List.getElem_cons_succ, List.setIfInBounds_toArray, List.set_cons_zero, List.set_cons_succ]
      refine wpAnyH_take (i := 5) (v := ?v5) rfl (by kernel_rfl) (by kernel_rfl) (by kernel_rfl) (fun _ _ _ h => h) (Or.inl ⟨by rfl, ?hy5⟩) (by assumption) ?rest5
      case hy5 => (intro w0 hSw; (try dsimp only at hSw); go_simp; try with_reducible rfl)
      try simp only [Act.put, List.getElem_toArray, List.getElem_cons_zero, List.getElem_cons_succ, List.setIfInBounds_toArray, List.set_cons_zero, List.set_cons_succ]
      refine wpAnyH_take (i := 6) (v := ?v6) rfl (by kernel_rfl) (by kernel_rfl) (by kernel_rfl) (fun _ _ _ h => h) (Or.inl ⟨by rfl, ?hy6⟩) (by assumption) ?rest6
      case hy6 => (intro w0 hSw; (try dsimp only at hSw); go_simp; try with_reducible rfl)
      try simp only [Act.put, List.getElem_toArray, List.getElem_cons_zero, List.getElem_cons_succ, List.setIfInBounds_toArray, List.set_cons_zero, List.set_cons_succ]
      refine wpAnyH_take (i := 7) (v := .agg #[.int .u8 t.kind, .string (textOf t.text), .int .i64 t.n, .int .i64 t.place]) rfl (by kernel_rfl) (by kernel_rfl) (by kernel_rfl) (fun _ _ _ h => h) (yieldsIf_load_mid (by rfl) 29 (.tmp 22) rfl g' (j * 4) (by simp [Act.eval]) [.int .u8 t.kind, .string (textOf t.text), .int .i64 t.n, .int .i64 t.place] _ (fun W hW => hW.2) Tryd.underlying29 rfl infoTok4) (by assumption) ?_
      try simp only [Act.put, List.getElem_toArray, List.getElem_cons_zero, List.getElem_cons_succ, List.setIfInBounds_toArray, List.set_cons_zero, List.set_cons_succ]
      refine wpAnyH_done (by kernel_rfl) ?_ _
      change wpList _ _ _ _ _ _
      clear hHeld
      go_wp2_with fail
      go_roundw
      case rel => exact ⟨j + 1, by omega, by go_num, below_dr HB.out⟩
      case measure => simp [intOf]; omega
    · have hj1 : (n : Int) ≤ (j : Int) := by omega
      clear hb
      go_wp2_with fail
      go_ret
      exact ⟨rfl, HB.out⟩

/-- What works asks of. -/
def worksText : ByteArray := ⟨#[107, 101, 121, 43, 49, 50, 32, 60, 61, 32, 195, 188]⟩
def worksToks : List Tok := [⟨1, [107, 101, 121], 0, 0⟩, ⟨3, [43], 0, 3⟩, ⟨2, [], 12, 4⟩, ⟨3, [60, 61], 0, 7⟩, ⟨1, [252], 0, 10⟩]
theorem toksO_works : toksO worksText = (worksToks, 0, 0) := by kernel_rfl
theorem tokens_of {s : ByteArray} {l : List Tok} {p : Nat} {c : Int} (h : toksO s = (l, p, c)) (w : World) : Calls Tryd.prog 5 #[.string s] w fun e w' =>
    ∃ v, e = .returned (.tuple #[v, .int .i64 p, .int .i64 c]) ∧ Toks w' w.heap.size v l ∧ Below w.heap.size w w' := by
  refine (tokens_any s w).mono ?_
  rintro e w' ⟨v, he, ht, hb⟩
  rw [h] at he ht
  exact ⟨v, he, ht, hb⟩

def worksRow : Array Value := #[.int .u8 1, .string ⟨#[107, 101, 121]⟩, .int .i64 0, .int .i64 0, .int .u8 3, .string ⟨#[43]⟩, .int .i64 0, .int .i64 3, .int .u8 2, .string ⟨#[]⟩, .int .i64 12, .int .i64 4, .int .u8 3, .string ⟨#[60, 61]⟩, .int .i64 0, .int .i64 7, .int .u8 1, .string ⟨#[195, 188]⟩, .int .i64 0, .int .i64 10]
theorem worksRow_eq : worksRow.toList = flat worksToks := by kernel_rfl
theorem equal_works {w : World} {B : Nat} {v : Value} (h : Toks w B v worksToks) :
    Calls Tryd.prog 11 #[v, .slice (some ⟨w.heap.size, 0, none⟩) 5 5] (w.alloc (.cells #[.int .u8 1, .string ⟨#[107, 101, 121]⟩, .int .i64 0, .int .i64 0, .int .u8 3, .string ⟨#[43]⟩, .int .i64 0, .int .i64 3, .int .u8 2, .string ⟨#[]⟩, .int .i64 12, .int .i64 4, .int .u8 3, .string ⟨#[60, 61]⟩, .int .i64 0, .int .i64 7, .int .u8 1, .string ⟨#[195, 188]⟩, .int .i64 0, .int .i64 10] 29)) fun e w' => e = .returned (.bool true) ∧ Below w.heap.size w w' := by
  have h1 : Toks (w.alloc (.cells worksRow 29)) B v worksToks := World.ownsRow.alloc h _
  have h2 : Toks (w.alloc (.cells worksRow 29)) 0 (.slice (some ⟨w.heap.size, 0, none⟩) 5 5) worksToks := by
    have := World.ownsRow_lit (base := 0) (e := 29) (size := 4) w worksRow 5 (Nat.zero_le _) (by unfold maxLen; omega) rfl
    rw [worksRow_eq] at this
    exact this
  refine (equal_toks h1 h2 (by decide)).mono ?_
  rintro e w' ⟨rfl, hb⟩
  exact ⟨rfl, ((Below.refl _ w).alloc (Nat.le_refl _) _).trans (hb.mono (by simp))⟩

set_option maxHeartbeats 800000 in
set_option maxRecDepth 1000000 in
theorem works_any (w : World) : Calls Tryd.prog 6 #[] w fun e w' => e = .returned (.bool true) ∧ Below w.heap.size w w' := by
  have HT := Lib.hid (tokens_of toksO_works w)
  unfold worksText at HT
  go_enter Tryd.func6, Tryd.ntmps6
  go_wp2_with fail
  refine HT.out.mono ?_
  rintro e w1 ⟨v, rfl, ht, hb1⟩
  have HB1 := Lib.hid hb1; have HO := Lib.hid ht
  clear hb1 ht
  go_wp2_with fail
  refine (equal_works HO.out).mono ?_
  rintro e w2 ⟨rfl, hb2⟩
  have HB2 := Lib.hid (below_on' HB1.out hb2)
  clear hb2
  go_wp2_with fail
  go_ret
  exact ⟨rfl, HB2.out⟩
end Go.Proofs.YtejcgkchlehoiaaDoor.lex
