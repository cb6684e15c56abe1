/- The reader of tokens in memory: what token, takes, ofTwo answer. -/
import Derived.Test.YteicfdgadloheaaExT
import Derived.Test.YteicfdgadloheaaExQ
import Derived.Test.YteicfdgadloheaaLxH
import Derived.Test.YteicfdgadloheaaCt
import Derived.Laws.StructEq
namespace Go.Proofs.Yteicfdgadloheaa.exp
set_option linter.unusedSimpArgs false
set_option linter.unusedVariables false
open Go.RowKit nam lex

/-- What a reader reads: its tokens, in a slice, and where the text ends. -/
structure Src where
  B : Nat
  tv : Value
  toks : List Tok
  en : Nat
  rb : Nat
/-- It stands at token i. -/
structure Rs (S : Src) (w : World) (i : Nat) : Prop where
  row : Toks w S.B S.tv S.toks
  box : w.heap[S.rb]? = some (.cells #[S.tv, .int .i64 (i : Int), .int .i64 (S.en : Int)] 55 (0, 0))
  le : i ≤ S.toks.length
  few : S.toks.length ≤ 400
  ok : ∀ t ∈ S.toks, TokOk t
def Src.at (S : Src) (i : Nat) : List Tok := S.toks.drop i
def Mine (S : Src) (k : Nat) : Prop := k = S.rb
theorem Rs.lt {S : Src} {w : World} {i : Nat} (h : Rs S w i) : S.rb < w.heap.size := (Array.getElem?_eq_some_iff.1 h.box).1
theorem Rs.frame {S : Src} {w w' : World} {i : Nat} (h : Rs S w i) (hf : ∀ b, b < w.heap.size → w'.heap[b]? = w.heap[b]?) : Rs S w' i := by
  refine ⟨?_, (hf _ h.lt).trans h.box, h.le, h.few, h.ok⟩
  have h1 := h.row
  rcases h1 with ⟨h2, h3 | ⟨g, cap, cur, h4, h5, h6, h7⟩⟩
  · exact ⟨h2, .inl h3⟩
  · exact ⟨h2, .inr ⟨g, cap, cur, h4, h5, (hf g (Array.getElem?_eq_some_iff.1 h6).1).trans h6, h7⟩⟩
theorem Rs.under {S : Src} {w w' : World} {i : Nat} (h : Rs S w i) (hb : Below w.heap.size w w') : Rs S w' i := h.frame fun b hb' => hb.block b hb'
theorem Rs.drew {S : Src} {w : World} {i : Nat} (h : Rs S w i) : Rs S w.drew i := h.frame fun _ _ => rfl
/-- Its place is another one. -/
theorem Rs.set {S : Src} {w : World} {i : Nat} (h : Rs S w i) {j : Nat} (hj : j ≤ S.toks.length) : Rs S (w.setCell ⟨S.rb, 1, none⟩ (.int .i64 (j : Int))) j := by
  refine ⟨?_, heap_setCell_same w S.rb 1 _ 55 _ h.box, hj, h.few, h.ok⟩
  rcases h.row with ⟨h2, h3 | ⟨g, cap, cur, h4, h5, h6, h7⟩⟩
  · exact ⟨h2, .inl h3⟩
  · have hne : g ≠ S.rb := by
      rintro rfl
      have := h.box
      rw [h6] at this
      simp at this
    exact ⟨h2, .inr ⟨g, cap, cur, h4, h5, (Below.heap_setCell w ⟨S.rb, 1, none⟩ _ g hne).trans h6, h7⟩⟩
theorem Rs.cells {S : Src} {w : World} {i : Nat} (h : Rs S w i) : w.cell? ⟨S.rb, 0, none⟩ = some S.tv ∧ w.cell? ⟨S.rb, 1, none⟩ = some (.int .i64 (i : Int)) ∧ w.cell? ⟨S.rb, 2, none⟩ = some (.int .i64 (S.en : Int)) ∧ w.frozen? ⟨S.rb, 1, none⟩ = false :=
  ⟨cell_of h.box rfl, cell_of h.box rfl, cell_of h.box rfl, by simp [World.frozen?, h.box]⟩
/-- The token that is next, as token tells it. -/
def tokA (l : List Tok) (en : Nat) : Value := .agg #[.int .u8 (knd l : Int), .string (textOf (txt l)), .int .i64 (num l : Int), .int .i64 (placeOf l en : Int)]
theorem at_nil {S : Src} {i : Nat} (h : i = S.toks.length) : S.at i = [] := by unfold Src.at; rw [List.drop_eq_nil_of_le (by omega)]
theorem at_cons {S : Src} {i : Nat} (h : i < S.toks.length) : S.at i = S.toks[i] :: S.at (i + 1) := List.drop_eq_getElem_cons h
theorem at_tail (S : Src) (i : Nat) : (S.at i).tail = S.at (i + 1) := by unfold Src.at; rw [List.tail_drop]
theorem at_len (S : Src) (i : Nat) : (S.at i).length = S.toks.length - i := by unfold Src.at; rw [List.length_drop]
theorem at_ok {S : Src} {w : World} {i : Nat} (h : Rs S w i) : ∀ r ∈ txt (S.at i), okR r := by
  by_cases hi : i < S.toks.length
  · rw [at_cons hi]
    exact (h.ok _ (List.getElem_mem hi)).ok
  · rw [at_nil (by have := h.le; omega)]
    intro r hr
    cases hr
theorem at_lt {S : Src} {i : Nat} (h : txt (S.at i) ≠ []) : i < S.toks.length := by
  by_cases hi : i < S.toks.length
  · exact hi
  · exact absurd (by unfold Src.at; rw [List.drop_eq_nil_of_le (by omega)]; rfl) h

set_option maxHeartbeats 1600000 in
set_option maxRecDepth 1000000 in
theorem token_at {S : Src} {w : World} {i : Nat} (h0 : Rs S w i) : Calls Try.prog 24 #[ptr S.rb] w fun e w' => e = .returned (tokA (S.at i) S.en) ∧ Below w.heap.size w w' := by
  obtain ⟨W, hW⟩ : ∃ W, w.alloc (.cells #[.int .u8 0, .string ⟨#[]⟩, .int .i64 0, .int .i64 0] 59) = W := ⟨_, rfl⟩
  obtain ⟨N, hN⟩ : ∃ N, w.heap.size = N := ⟨_, rfl⟩
  have hwb : Below w.heap.size w W := by rw [← hW]; exact (Below.refl _ _).alloc (Nat.le_refl _) _
  have hbx : W.heap[N]? = some (.cells #[.int .u8 0, .string ⟨#[]⟩, .int .i64 0, .int .i64 0] 59 (0, 0)) := by rw [← hW]; exact heap_last hN.symm
  have h := h0.under hwb
  obtain ⟨c0, c1, c2, _⟩ := h.cells
  obtain ⟨a, c, hv, ha⟩ := toks_form h.row
  have hfew := h.few
  have hle := h.le
  have hrow := h.row
  rw [hv] at c0 hrow
  unfold ptr
  obtain ⟨n, hn⟩ : ∃ n, S.toks.length = n := ⟨_, rfl⟩
  rw [hn] at c0 hfew hle hrow ha
  have z0 : W.cell? ⟨N, 0, none⟩ = some (.int .u8 0) := cell_of hbx rfl
  have z1 : W.cell? ⟨N, 1, none⟩ = some (.string ⟨#[]⟩) := cell_of hbx rfl
  have z2 : W.cell? ⟨N, 2, none⟩ = some (.int .i64 0) := cell_of hbx rfl
  have z3 : W.cell? ⟨N, 3, none⟩ = some (.int .i64 0) := cell_of hbx rfl
  have zf : ∀ j, W.frozen? ⟨N, j, none⟩ = false := fun j => by simp [World.frozen?, hbx]
  have zf0 := zf 0; have zf1 := zf 1; have zf2 := zf 2; have zf3 := zf 3
  have HWB : Hid (∀ (W' : World) (a b c d : Value), W'.heap = (((((W.setCell ⟨N, 0, none⟩ a).setCell ⟨N, 1, none⟩ b).setCell ⟨N, 2, none⟩ c).setCell ⟨N, 3, none⟩ d)).heap → W'.os = W.os → W'.tape = W.tape → W'.output = W.output → Below w.heap.size w W') := Lib.hid (by
    intro W' a b c d e1 e2 e3 e4
    have hb := (((hwb.setCell (p := ⟨N, 0, none⟩) (by show w.heap.size ≤ N; omega) a).setCell (p := ⟨N, 1, none⟩) (by show w.heap.size ≤ N; omega) b).setCell (p := ⟨N, 2, none⟩) (by show w.heap.size ≤ N; omega) c).setCell (p := ⟨N, 3, none⟩) (by show w.heap.size ≤ N; omega) d
    exact ⟨e2.trans hb.os, e3.trans hb.tape, e4.trans hb.output, by rw [e1]; exact hb.size, fun k hk => by rw [e1]; exact hb.block k hk⟩)
  by_cases hi : i < n
  · obtain ⟨g, rfl⟩ := ha (by omega)
    have hi' : i < S.toks.length := by omega
    have hr := toks_range (j := i) (t := S.toks[i]) hrow (by omega) (by simp [hi'])
    have e0 : W.cell? ⟨g, i * 4, none⟩ = some (.int .u8 (S.toks[i].kind : Int)) := hr 0 _ rfl
    have e1 : W.cell? ⟨g, i * 4 + 1, none⟩ = some (.string (textOf S.toks[i].text)) := hr 1 _ rfl
    have e2 : W.cell? ⟨g, i * 4 + 2, none⟩ = some (.int .i64 (S.toks[i].n : Int)) := hr 2 _ rfl
    have e3 : W.cell? ⟨g, i * 4 + 3, none⟩ = some (.int .i64 (S.toks[i].place : Int)) := hr 3 _ rfl
    have hA : tokA (S.at i) S.en = .agg #[.int .u8 (S.toks[i].kind : Int), .string (textOf S.toks[i].text), .int .i64 (S.toks[i].n : Int), .int .i64 (S.toks[i].place : Int)] := by rw [at_cons hi']; rfl
    rw [hA]
    generalize S.toks[i] = t at e0 e1 e2 e3
    have hne : ((i : Int) == (n : Int)) = false := by simp; omega
    have hin : (i : Int) < (n : Int) := by omega
    have hHN := Lib.hid hn
    clear h h0 hA hr hrow hn hbx hwb zf
    go_enter Try.func24, Try.ntmps24
    go_wp2_with fail
    go_quiet (fail)
    go_wp2_with fail
    go_region
    all_goals (go_wp2_with fail; refine bodyPost_ret (v := .agg #[.int .u8 (t.kind : Int), .string (textOf t.text), .int .i64 (t.n : Int), .int .i64 (t.place : Int)]) (by simp [results, Try.f24, go_sem, z0, z1, z2, z3]) rfl ⟨rfl, HWB.out _ _ _ _ _ rfl rfl rfl rfl⟩)
  · have hin : i = n := by omega
    have hA : tokA (S.at i) S.en = .agg #[.int .u8 0, .string ⟨#[]⟩, .int .i64 0, .int .i64 (S.en : Int)] := by rw [at_nil (by omega)]; rfl
    rw [hA]
    have hne : ((i : Int) == (n : Int)) = true := by simp; omega
    have hHN := Lib.hid hn
    have HI := Lib.hid hin
    clear h h0 hA hrow hn ha hin hbx hwb zf
    go_enter Try.func24, Try.ntmps24
    go_wp2_with fail
    go_quiet (fail)
    go_wp2_with fail
    refine bodyPost_ret (v := .agg #[.int .u8 0, .string ⟨#[]⟩, .int .i64 0, .int .i64 (S.en : Int)]) (by simp [results, Try.f24, go_sem, z0, z1, z2, z3]) rfl ⟨rfl, HWB.out _ _ _ _ _ rfl rfl rfl rfl⟩
end Go.Proofs.Yteicfdgadloheaa.exp
