/- Whom a line is told: a counter, a writer; what WriteString, Len, Grow and String do. strconv.FormatInt where the library's table stands. -/
import Derived.Test.YtffhmbiamkbchaaDoorMLy
import Derived.Test.YtffhmbiamkbchaaDoorMNm
import Derived.Test.YtffhmbiamkbchaaDoorCr
import Derived.Lib.AppendIntMem
import Derived.Lib.Builder
import Derived.Lib.AppendStr
import Derived.Lib.UnsafeStr
import Derived.Lib.MakeNoZero
import Derived.Laws.Externs
import Derived.Laws.IdiomCopy
import Derived.WalkKit
import Derived.BigQuiet
import Derived.Handy
import Derived.Lib.Hide
import Derived.OwnWalk
import Derived.RegionTactic
namespace Go.Proofs.YtffhmbiamkbchaaDoor.exp
set_option linter.unusedSimpArgs false
set_option linter.unusedVariables false
open Go.RowKit nam lex

/-- The library's table of powers stands, whatever is made from block B on. -/
def Tab (B : Nat) (w : World) : Prop := Lib.TabBelow Tryd.prog B w "internal/strconv.uint64pow10" .u64 Lib.pow10Tab
theorem fmt_any {B : Nat} {w : World} (h : Tab B w) (u : Nat) (hu : u ≤ 9223372036854775807) : Calls Tryd.prog 39 #[.int .i64 u, .int .i64 10] w fun e w' => e = .returned (.string (textOf (digR u))) ∧ Below w.heap.size w w' := by
  refine (Tryd.strconv_FormatInt_10 (u : Int) (by omega) (by omega) w h.here).mono ?_
  rintro e w' ⟨rfl, k, os, rfl⟩
  exact ⟨by rw [itoa_text], Lib.below_grow _ _ (Nat.le_refl _) _ _⟩

/-- Nothing that was there ahead of block B is turned, nor is any row of texts. -/
structure Step (B : Nat) (w w' : World) : Prop where
  below : Below B w w'
  same : ∀ (k : Nat) (cs : Array Value) (fr : Nat × Nat), w.heap[k]? = some (.cells cs 9 fr) → w'.heap[k]? = w.heap[k]?
theorem Step.refl (B : Nat) (w : World) : Step B w w := ⟨Below.refl B w, fun _ _ _ _ => rfl⟩
theorem Step.trans {B : Nat} {a b c : World} (h : Step B a b) (k : Step B b c) : Step B a c :=
  ⟨h.below.trans k.below, fun i cs fr hi => (k.same i cs fr ((h.same i cs fr hi).trans hi)).trans (h.same i cs fr hi)⟩
theorem Step.of {B : Nat} {w w' : World} (h : Below w.heap.size w w') (hB : B ≤ w.heap.size) : Step B w w' :=
  ⟨h.mono hB, fun k cs fr hk => h.block k (Array.getElem?_eq_some_iff.1 hk).1⟩

/-! The counter. -/
def Cnt (B c : Nat) (T : ByteArray) (w : World) : Prop := B ≤ c ∧ B ≤ w.heap.size ∧ w.heap[c]? = some (.cells #[.int .i64 (T.size : Int)] 39 (0, 0))
theorem Cnt.keep {B c : Nat} {T : ByteArray} {w w' : World} (h : Cnt B c T w) (hb : Below w.heap.size w w') : Cnt B c T w' :=
  ⟨h.1, Nat.le_trans h.2.1 hb.size, (hb.block c (Array.getElem?_eq_some_iff.1 h.2.2).1).trans h.2.2⟩
set_option maxRecDepth 1000000 in
theorem cnt_put {B c : Nat} {T : ByteArray} {w : World} (h : Cnt B c T w) (s : ByteArray) (hs : T.size + s.size ≤ 140737488355328) :
    Calls Tryd.prog 122 #[.pointer (some ⟨c, 0, none⟩), .string s] w fun e w' => e = .returned (.tuple #[.int .i64 s.size, .nilIface]) ∧ Cnt B c (T ++ s) w' ∧ Step B w w' := by
  obtain ⟨hB, hW, hc⟩ := h
  have c0 : w.cell? ⟨c, 0, none⟩ = some (.int .i64 (T.size : Int)) := by simp [World.cell?, hc]
  have f0 : w.frozen? ⟨c, 0, none⟩ = false := by simp [World.frozen?, hc]
  have e : (T.size : Int) + s.size = ((T ++ s).size : Int) := by rw [ByteArray.size_append]; omega
  have hw : IntKind.i64.wrap ((T.size : Int) + s.size) = (T.size : Int) + s.size := IntWalk.i64_in _ ⟨by omega, by omega⟩
  have HC := Lib.hid hc; have HE := Lib.hid e
  clear hc e
  go_enter Tryd.func122, Tryd.ntmps122
  go_wp2_with fail
  go_ret2
  refine ⟨rfl, ⟨hB, by simpa using hW, ?_⟩, (Below.refl B w).setCell (p := ⟨c, 0, none⟩) hB _, fun k cs fr hk => ?_⟩
  · have := HC.out
    rw [← HE.out]
    simp [World.setCell, Array.getElem?_modify, this]
  · refine Below.heap_setCell _ _ _ _ (fun e => ?_)
    have := HC.out
    simp only at e
    subst e
    rw [this] at hk
    cases hk
set_option maxRecDepth 1000000 in
theorem cnt_len {B c : Nat} {T : ByteArray} {w : World} (h : Cnt B c T w) :
    Calls Tryd.prog 22 #[.pointer (some ⟨c, 0, none⟩)] w fun e w' => e = .returned (.int .i64 (T.size : Int)) ∧ w' = w := by
  obtain ⟨hB, hW, hc⟩ := h
  have c0 : w.cell? ⟨c, 0, none⟩ = some (.int .i64 (T.size : Int)) := by simp [World.cell?, hc]
  clear hc
  go_enter Tryd.func22, Tryd.ntmps22
  go_wp2_with fail
  go_ret
  exact ⟨rfl, rfl⟩

/-! The writer: a builder within a struct of its own. -/
theorem builder_size : (Tryd.prog.info? 47).map (·.size) = some 2 := by kernel_rfl
theorem builder_lies : liesAt Tryd.prog Tryd.prog.depth 49 (2 / Tryd.prog.cellsOf 49) 0 47 1 = true := by kernel_rfl
theorem byte_info : (Tryd.prog.info? 5).map (fun i => (i.zero, i.size, i.bytes)) = some (some (.int .u8 0), 1, 1) := by kernel_rfl
set_option maxHeartbeats 1000000 in
set_option maxRecDepth 1000000 in
theorem copy_used (b : Nat) (w : World) (h0 : w.cell? ⟨b, 0, none⟩ = some (.pointer (some ⟨b, 0, none⟩))) :
    Calls Tryd.prog 42 #[.pointer (some ⟨b, 0, none⟩)] w fun e w' => e = .returned (.tuple #[]) ∧ w' = w := by
  obtain ⟨j, hj, _⟩ := Option.map_eq_some_iff.1 builder_size
  go_enter Tryd.func42, Tryd.ntmps42
  go_wp2
  rw [Lib.run_neq_ptr_same w _ Tryd.underlying44 hj]
  go_wp2
  go_end0
  exact ⟨rfl, rfl⟩
set_option maxHeartbeats 1000000 in
set_option maxRecDepth 1000000 in
theorem copy_fresh (b : Nat) (w : World) (h0 : w.cell? ⟨b, 0, none⟩ = some (.pointer none)) (hsh : w.shape? b = some (49, 2)) (hfz : w.frozen? ⟨b, 0, none⟩ = false) :
    Calls Tryd.prog 42 #[.pointer (some ⟨b, 0, none⟩)] w fun e w' => e = .returned (.tuple #[]) ∧ w' = w.setCell ⟨b, 0, none⟩ (.pointer (some ⟨b, 0, none⟩)) := by
  obtain ⟨j, hj, hjs⟩ := Option.map_eq_some_iff.1 builder_size
  go_enter Tryd.func42, Tryd.ntmps42
  go_wp2
  rw [Lib.run_to_unsafe w ⟨b, 0, none⟩ Tryd.underlying44 Tryd.underlying109 hj (by rw [hjs]; decide) hsh (Nat.zero_lt_succ 1)]
  simp only [Result.andThen]
  rw [Oper.upon_value]
  go_wp2
  rw [run_callFunc_extern Tryd.func57 (by kernel_rfl) (by kernel_rfl) (by kernel_rfl) (e := Extern.AbiNoEscape.same) (by kernel_rfl)]
  rw [Lib.run_noEscape]
  simp only [Result.andThen]
  rw [Oper.upon_value]
  go_wp2
  rw [Lib.run_from_unsafe w ⟨b, 0, none⟩ Tryd.underlying109 Tryd.underlying44 hj hsh builder_lies]
  simp only [Result.andThen]
  rw [Oper.upon_value]
  go_wp2
  go_end0
  exact ⟨rfl, rfl⟩
/-- A builder in its writer's block: fresh, or written. -/
abbrev BA (B b : Nat) (p : Value) (bs : List Value) (w : World) : Prop := Lib.BuilderAt 49 5 B b p bs w
theorem step_set {B b i : Nat} {w : World} {cs : Array Value} {T : TypeId} {fr : Nat × Nat} (hB : B ≤ b) (hb : w.heap[b]? = some (.cells cs T fr)) (hT : T ≠ 9) (v : Value) : Step B w (w.setCell ⟨b, i, none⟩ v) :=
  ⟨(Below.refl B w).setCell (p := ⟨b, i, none⟩) hB _, fun k cs fr hk => Below.heap_setCell _ _ _ _ (fun e => by
    simp only at e
    subst e
    rw [hb] at hk
    cases hk
    exact hT rfl)⟩
theorem copy_any {B b : Nat} {bs : List Value} {w : World} (h : Lib.IsBuilder 49 5 B b bs w) :
    Calls Tryd.prog 42 #[.pointer (some ⟨b, 0, none⟩)] w fun e w' => e = .returned (.tuple #[]) ∧ BA B b (.pointer (some ⟨b, 0, none⟩)) bs w' ∧ Step B w w' := by
  rcases h with h | h
  · refine (copy_fresh b w h.cell0 h.shape h.frozen0).mono ?_
    rintro e w' ⟨rfl, rfl⟩
    have hk := h
    obtain ⟨hB, v, hb, _⟩ := hk
    exact ⟨rfl, h.used _, step_set hB hb (by decide) _⟩
  · refine (copy_used b w h.cell0).mono ?_
    rintro e w' ⟨rfl, rfl⟩
    exact ⟨rfl, h, Step.refl B _⟩
/-- A writer that holds these bytes. -/
def Wrt (B b : Nat) (T : ByteArray) (w : World) : Prop := B ≤ w.heap.size ∧ Lib.IsBuilder 49 5 B b (Lib.strCells T) w
theorem ba_keep {B b : Nat} {p : Value} {bs : List Value} {w w' : World} (h : BA B b p bs w) (hb : Below w.heap.size w w') : BA B b p bs w' := by
  have hlt := h.lt
  obtain ⟨hB, v, h1, h2, h3⟩ := h
  exact ⟨hB, v, (hb.block b hlt).trans h1, own_below h2 hb, h3⟩
theorem Wrt.keep {B b : Nat} {T : ByteArray} {w w' : World} (h : Wrt B b T w) (hb : Below w.heap.size w w') : Wrt B b T w' := by
  refine ⟨Nat.le_trans h.1 hb.size, ?_⟩
  rcases h.2 with h | h
  · exact .inl (ba_keep h hb)
  · exact .inr (ba_keep h hb)
theorem strCells_app (a b : ByteArray) : Lib.strCells (a ++ b) = Lib.strCells a ++ Lib.strCells b := by
  rw [Lib.strCells_eq, Lib.strCells_eq, Lib.strCells_eq, append_toList, Lib.byteCells_append]
theorem strCells_len (a : ByteArray) : (Lib.strCells a).length = a.size := by
  rw [Lib.strCells_eq, Lib.byteCells_length]; rfl
/-- An append's step. -/
theorem step_grown {B : Nat} {w w' : World} {v : Value} {n : Nat} {xs : List Value} (hown : w.ownsRow B 5 1 v n xs) (h : w.grownBy w' v.ownBlock) (hB : B ≤ w.heap.size) : Step B w w' := by
  refine ⟨(Below.refl B w).grown h hB (fun k hk => (hown.lt k hk).1), fun k cs fr hk => ?_⟩
  exact h.block k (Array.getElem?_eq_some_iff.1 hk).1 (fun e => Lib.ownBlock_ne hown hk (by decide) e.symm)
set_option maxHeartbeats 2000000 in
set_option maxRecDepth 1000000 in
theorem wrt_put {B b : Nat} {T : ByteArray} {w : World} (h : Wrt B b T w) (s : ByteArray) (hs : T.size + s.size ≤ 140737488355328) :
    Calls Tryd.prog 125 #[.pointer (some ⟨b, 0, none⟩), .string s] w fun e w' => e = .returned (.tuple #[.int .i64 s.size, .nilIface]) ∧ Wrt B b (T ++ s) w' ∧ Step B w w' := by
  obtain ⟨i0, hi, hz0, hz1, hz2⟩ := info_parts byte_info
  obtain ⟨hBw, hI⟩ := h
  go_enter Tryd.func125, Tryd.ntmps125
  go_wp2_with (go_at_call 42; refine (copy_any hI).mono ?_)
  rintro e w1 ⟨rfl, h1, hb1⟩
  obtain ⟨hB, v, hbk, hown, hne⟩ := h1
  have hB1 : B ≤ w1.heap.size := Nat.le_trans hBw hb1.below.size
  have c0 : w1.cell? ⟨b, 0, none⟩ = some (.pointer (some ⟨b, 0, none⟩)) := by rw [Lib.cell_of_heap hbk]; rfl
  have c1 : w1.cell? ⟨b, 1, none⟩ = some v := by rw [Lib.cell_of_heap hbk]; rfl
  have HL : Hid ((Lib.strCells T).length + s.size ≤ 140737488355328) := Lib.hid (by rw [strCells_len]; exact hs)
  go_wp2_with (at_builtin; refine Lib.wpList_append_own_string _ rfl _ _ 45 9 rfl B 5 i0 Tryd.underlying45 Tryd.underlying9 hi hz0 hz1 hz2 _ _ _ rfl hown s rfl ?c3 ?c4 ?c5 ?_)
  case c3 => have := HL.out; unfold maxLen; omega
  case c4 => exact HL.out
  case c5 => exact hB1
  intro v' w2 hown' hgrow _
  have hlt : b < w1.heap.size := (Array.getElem?_eq_some_iff.1 hbk).1
  have hb2 : w2.heap[b]? = some (.cells #[.pointer (some ⟨b, 0, none⟩), v] 49 (0, 0)) := by
    rw [hgrow.block b hlt (fun e => hne e.symm)]
    exact hbk
  have d0 : w2.cell? ⟨b, 0, none⟩ = some (.pointer (some ⟨b, 0, none⟩)) := by rw [Lib.cell_of_heap hb2]; rfl
  have d1 : w2.cell? ⟨b, 1, none⟩ = some v := by rw [Lib.cell_of_heap hb2]; rfl
  have f1 : w2.frozen? ⟨b, 1, none⟩ = false := Lib.frozen_of_heap hb2 1
  obtain ⟨ao, n', cap, rfl⟩ : ∃ ao n' cap, v' = .slice ao n' cap := by
    rcases hown'.2 with ⟨hv, _⟩ | ⟨g, cap, cur, hv, _⟩
    · exact ⟨_, _, _, hv⟩
    · exact ⟨_, _, _, hv⟩
  have HS2 := Lib.hid (hb1.trans (step_grown hown hgrow hB1))
  go_wp2
  go_ret2
  refine ⟨rfl, ⟨?_, .inr ?_⟩, HS2.out.trans (step_set hB hb2 (by decide) _)⟩
  · have := HS2.out.below.size
    simp [World.setCell]
    omega
  · rw [strCells_app]
    exact Lib.BuilderAt.put (T := 49) (e := 5) hB hb2 (bs' := Lib.strCells T ++ Lib.strCells s) (by simpa [Lib.strCells_length] using hown') (by decide)
set_option maxHeartbeats 1000000 in
set_option maxRecDepth 1000000 in
theorem wrt_len {B b : Nat} {T : ByteArray} {w : World} (h : Wrt B b T w) :
    Calls Tryd.prog 123 #[.pointer (some ⟨b, 0, none⟩)] w fun e w' => e = .returned (.int .i64 (T.size : Int)) ∧ w' = w := by
  obtain ⟨p, hB, v, hbk, hown, hne⟩ : ∃ p, BA B b p (Lib.strCells T) w := by
    rcases h.2 with h | h
    · exact ⟨_, h⟩
    · exact ⟨_, h⟩
  rw [strCells_len] at hown
  obtain ⟨ao, cap, rfl⟩ : ∃ ao cap, v = .slice ao T.size cap := by
    rcases hown.2 with ⟨hv, h0⟩ | ⟨g, cap, cur, hv, _⟩
    · exact ⟨none, 0, by rw [hv, h0]⟩
    · exact ⟨_, _, hv⟩
  have c1 : w.cell? ⟨b, 1, none⟩ = some (.slice ao T.size cap) := by rw [Lib.cell_of_heap hbk]; rfl
  clear hown hbk hne h
  go_enter Tryd.func123, Tryd.ntmps123
  go_wp2
  go_ret
  exact ⟨rfl, rfl⟩
end Go.Proofs.YtffhmbiamkbchaaDoor.exp
