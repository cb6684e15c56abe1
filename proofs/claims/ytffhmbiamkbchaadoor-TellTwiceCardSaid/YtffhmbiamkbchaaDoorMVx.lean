/- The reader of tokens in memory: what token, takes, ofTwo answer. What takes and ofTwo answer. What level answers: parts with signs between them. -/
import Derived.Test.YtffhmbiamkbchaaDoorMTt
import Derived.Test.YtffhmbiamkbchaaDoorExQ
import Derived.Test.YtffhmbiamkbchaaDoorLxH
import Derived.Test.YtffhmbiamkbchaaDoorCt
import Derived.Laws.StructEq
section
namespace Go.Proofs.YtffhmbiamkbchaaDoor.exp
set_option linter.unusedSimpArgs false
set_option linter.unusedVariables false
open Go.RowKit nam lex

/-- What a reader reads: its tokens, in a slice, and where the text ends. -/
structure Src where
  B : Nat
  tv : Value
  toks : List Tok
  en : Nat
  rb : Nat
/-- It stands at token i. -/
structure Rs (S : Src) (w : World) (i : Nat) : Prop where
  row : Toks w S.B S.tv S.toks
  box : w.heap[S.rb]? = some (.cells #[S.tv, .int .i64 (i : Int), .int .i64 (S.en : Int)] 71 (0, 0))
  le : i ≤ S.toks.length
  few : S.toks.length ≤ 400
  ok : ∀ t ∈ S.toks, TokOk t
def Src.at (S : Src) (i : Nat) : List Tok := S.toks.drop i
def Mine (S : Src) (k : Nat) : Prop := k = S.rb
theorem Rs.lt {S : Src} {w : World} {i : Nat} (h : Rs S w i) : S.rb < w.heap.size := (Array.getElem?_eq_some_iff.1 h.box).1
theorem Rs.frame {S : Src} {w w' : World} {i : Nat} (h : Rs S w i) (hf : ∀ b, b < w.heap.size → w'.heap[b]? = w.heap[b]?) : Rs S w' i := by
  refine ⟨?_, (hf _ h.lt).trans h.box, h.le, h.few, h.ok⟩
  have h1 := h.row
  rcases h1 with ⟨h2, h3 | ⟨g, cap, cur, h4, h5, h6, h7⟩⟩
  · exact ⟨h2, .inl h3⟩
  · exact ⟨h2, .inr ⟨g, cap, cur, h4, h5, (hf g (Array.getElem?_eq_some_iff.1 h6).1).trans h6, h7⟩⟩
theorem Rs.under {S : Src} {w w' : World} {i : Nat} (h : Rs S w i) (hb : Below w.heap.size w w') : Rs S w' i := h.frame fun b hb' => hb.block b hb'
theorem Rs.drew {S : Src} {w : World} {i : Nat} (h : Rs S w i) : Rs S w.drew i := h.frame fun _ _ => rfl
/-- Its place is another one. -/
theorem Rs.set {S : Src} {w : World} {i : Nat} (h : Rs S w i) {j : Nat} (hj : j ≤ S.toks.length) : Rs S (w.setCell ⟨S.rb, 1, none⟩ (.int .i64 (j : Int))) j := by
  refine ⟨?_, heap_setCell_same w S.rb 1 _ 71 _ h.box, hj, h.few, h.ok⟩
  rcases h.row with ⟨h2, h3 | ⟨g, cap, cur, h4, h5, h6, h7⟩⟩
  · exact ⟨h2, .inl h3⟩
  · have hne : g ≠ S.rb := by
      rintro rfl
      have := h.box
      rw [h6] at this
      simp at this
    exact ⟨h2, .inr ⟨g, cap, cur, h4, h5, (Below.heap_setCell w ⟨S.rb, 1, none⟩ _ g hne).trans h6, h7⟩⟩
theorem Rs.cells {S : Src} {w : World} {i : Nat} (h : Rs S w i) : w.cell? ⟨S.rb, 0, none⟩ = some S.tv ∧ w.cell? ⟨S.rb, 1, none⟩ = some (.int .i64 (i : Int)) ∧ w.cell? ⟨S.rb, 2, none⟩ = some (.int .i64 (S.en : Int)) ∧ w.frozen? ⟨S.rb, 1, none⟩ = false :=
  ⟨cell_of h.box rfl, cell_of h.box rfl, cell_of h.box rfl, by simp [World.frozen?, h.box]⟩
/-- The token that is next, as token tells it. -/
def tokA (l : List Tok) (en : Nat) : Value := .agg #[.int .u8 (knd l : Int), .string (textOf (txt l)), .int .i64 (num l : Int), .int .i64 (placeOf l en : Int)]
theorem at_nil {S : Src} {i : Nat} (h : i = S.toks.length) : S.at i = [] := by unfold Src.at; rw [List.drop_eq_nil_of_le (by omega)]
theorem at_cons {S : Src} {i : Nat} (h : i < S.toks.length) : S.at i = S.toks[i] :: S.at (i + 1) := List.drop_eq_getElem_cons h
theorem at_tail (S : Src) (i : Nat) : (S.at i).tail = S.at (i + 1) := by unfold Src.at; rw [List.tail_drop]
theorem at_len (S : Src) (i : Nat) : (S.at i).length = S.toks.length - i := by unfold Src.at; rw [List.length_drop]
theorem at_ok {S : Src} {w : World} {i : Nat} (h : Rs S w i) : ∀ r ∈ txt (S.at i), okR r := by
  by_cases hi : i < S.toks.length
  · rw [at_cons hi]
    exact (h.ok _ (List.getElem_mem hi)).ok
  · rw [at_nil (by have := h.le; omega)]
    intro r hr
    cases hr
theorem at_lt {S : Src} {i : Nat} (h : txt (S.at i) ≠ []) : i < S.toks.length := by
  by_cases hi : i < S.toks.length
  · exact hi
  · exact absurd (by unfold Src.at; rw [List.drop_eq_nil_of_le (by omega)]; rfl) h

set_option maxHeartbeats 1600000 in
set_option maxRecDepth 1000000 in
theorem token_at {S : Src} {w : World} {i : Nat} (h0 : Rs S w i) : Calls Tryd.prog 37 #[ptr S.rb] w fun e w' => e = .returned (tokA (S.at i) S.en) ∧ Below w.heap.size w w' := by
  obtain ⟨W, hW⟩ : ∃ W, w.alloc (.cells #[.int .u8 0, .string ⟨#[]⟩, .int .i64 0, .int .i64 0] 75) = W := ⟨_, rfl⟩
  obtain ⟨N, hN⟩ : ∃ N, w.heap.size = N := ⟨_, rfl⟩
  have hwb : Below w.heap.size w W := by rw [← hW]; exact (Below.refl _ _).alloc (Nat.le_refl _) _
  have hbx : W.heap[N]? = some (.cells #[.int .u8 0, .string ⟨#[]⟩, .int .i64 0, .int .i64 0] 75 (0, 0)) := by rw [← hW]; exact heap_last hN.symm
  have h := h0.under hwb
  obtain ⟨c0, c1, c2, _⟩ := h.cells
  obtain ⟨a, c, hv, ha⟩ := toks_form h.row
  have hfew := h.few
  have hle := h.le
  have hrow := h.row
  rw [hv] at c0 hrow
  unfold ptr
  obtain ⟨n, hn⟩ : ∃ n, S.toks.length = n := ⟨_, rfl⟩
  rw [hn] at c0 hfew hle hrow ha
  have z0 : W.cell? ⟨N, 0, none⟩ = some (.int .u8 0) := cell_of hbx rfl
  have z1 : W.cell? ⟨N, 1, none⟩ = some (.string ⟨#[]⟩) := cell_of hbx rfl
  have z2 : W.cell? ⟨N, 2, none⟩ = some (.int .i64 0) := cell_of hbx rfl
  have z3 : W.cell? ⟨N, 3, none⟩ = some (.int .i64 0) := cell_of hbx rfl
  have zf : ∀ j, W.frozen? ⟨N, j, none⟩ = false := fun j => by simp [World.frozen?, hbx]
  have zf0 := zf 0; have zf1 := zf 1; have zf2 := zf 2; have zf3 := zf 3
  have HWB : Hid (∀ (W' : World) (a b c d : Value), W'.heap = (((((W.setCell ⟨N, 0, none⟩ a).setCell ⟨N, 1, none⟩ b).setCell ⟨N, 2, none⟩ c).setCell ⟨N, 3, none⟩ d)).heap → W'.os = W.os → W'.tape = W.tape → W'.output = W.output → Below w.heap.size w W') := Lib.hid (by
    intro W' a b c d e1 e2 e3 e4
    have hb := (((hwb.setCell (p := ⟨N, 0, none⟩) (by show w.heap.size ≤ N; omega) a).setCell (p := ⟨N, 1, none⟩) (by show w.heap.size ≤ N; omega) b).setCell (p := ⟨N, 2, none⟩) (by show w.heap.size ≤ N; omega) c).setCell (p := ⟨N, 3, none⟩) (by show w.heap.size ≤ N; omega) d
    exact ⟨e2.trans hb.os, e3.trans hb.tape, e4.trans hb.output, by rw [e1]; exact hb.size, fun k hk => by rw [e1]; exact hb.block k hk⟩)
  by_cases hi : i < n
  · obtain ⟨g, rfl⟩ := ha (by omega)
    have hi' : i < S.toks.length := by omega
    have hr := toks_range (j := i) (t := S.toks[i]) hrow (by omega) (by simp [hi'])
    have e0 : W.cell? ⟨g, i * 4, none⟩ = some (.int .u8 (S.toks[i].kind : Int)) := hr 0 _ rfl
    have e1 : W.cell? ⟨g, i * 4 + 1, none⟩ = some (.string (textOf S.toks[i].text)) := hr 1 _ rfl
    have e2 : W.cell? ⟨g, i * 4 + 2, none⟩ = some (.int .i64 (S.toks[i].n : Int)) := hr 2 _ rfl
    have e3 : W.cell? ⟨g, i * 4 + 3, none⟩ = some (.int .i64 (S.toks[i].place : Int)) := hr 3 _ rfl
    have hA : tokA (S.at i) S.en = .agg #[.int .u8 (S.toks[i].kind : Int), .string (textOf S.toks[i].text), .int .i64 (S.toks[i].n : Int), .int .i64 (S.toks[i].place : Int)] := by rw [at_cons hi']; rfl
    rw [hA]
    generalize S.toks[i] = t at e0 e1 e2 e3
    have hne : ((i : Int) == (n : Int)) = false := by simp; omega
    have hin : (i : Int) < (n : Int) := by omega
    have hHN := Lib.hid hn
    clear h h0 hA hr hrow hn hbx hwb zf
    go_enter Tryd.func37, Tryd.ntmps37
    go_wp2_with fail
    go_quiet (fail)
    go_wp2_with fail
    go_region
    all_goals (go_wp2_with fail; refine bodyPost_ret (v := .agg #[.int .u8 (t.kind : Int), .string (textOf t.text), .int .i64 (t.n : Int), .int .i64 (t.place : Int)]) (by simp [results, Tryd.f37, go_sem, z0, z1, z2, z3]) rfl ⟨rfl, HWB.out _ _ _ _ _ rfl rfl rfl rfl⟩)
  · have hin : i = n := by omega
    have hA : tokA (S.at i) S.en = .agg #[.int .u8 0, .string ⟨#[]⟩, .int .i64 0, .int .i64 (S.en : Int)] := by rw [at_nil (by omega)]; rfl
    rw [hA]
    have hne : ((i : Int) == (n : Int)) = true := by simp; omega
    have hHN := Lib.hid hn
    have HI := Lib.hid hin
    clear h h0 hA hrow hn ha hin hbx hwb zf
    go_enter Tryd.func37, Tryd.ntmps37
    go_wp2_with fail
    go_quiet (fail)
    go_wp2_with fail
    refine bodyPost_ret (v := .agg #[.int .u8 0, .string ⟨#[]⟩, .int .i64 0, .int .i64 (S.en : Int)]) (by simp [results, Tryd.f37, go_sem, z0, z1, z2, z3]) rfl ⟨rfl, HWB.out _ _ _ _ _ rfl rfl rfl rfl⟩
end Go.Proofs.YtffhmbiamkbchaaDoor.exp
end
section
namespace Go.Proofs.YtffhmbiamkbchaaDoor.exp
set_option linter.unusedSimpArgs false
set_option linter.unusedVariables false
open Go.RowKit nam lex

theorem Rs.next {S : Src} {w : World} {i : Nat} (h : Rs S w i) (hi : i < S.toks.length) : Rs S (w.setCell ⟨S.rb, 1, none⟩ (.int .i64 ((i : Int) + 1))) (i + 1) := by
  rw [show ((i : Int) + 1) = ((i + 1 : Nat) : Int) by omega]
  exact h.set (by omega)
theorem field_txt (a b c : Value) (X : ByteArray) (w : World) : (Instr.field 75 (.agg #[a, .string X, b, c]) 1).run Tryd.prog w = .ok (.string X) w := by kernel_rfl
theorem field_at (a b c : Value) (n : Int) (w : World) : (Instr.field 75 (.agg #[a, b, c, .int .i64 n]) 3).run Tryd.prog w = .ok (.int .i64 n) w := by kernel_rfl
theorem str_eq {a b : ByteArray} (h : a = b) : (a.toList == b.toList) = true := by subst h; simp
theorem str_ne {a b : ByteArray} (h : a ≠ b) : (a.toList == b.toList) = false := by
  rw [beq_eq_false_iff_ne]
  intro e
  rw [ByteArray.toList_eq, ByteArray.toList_eq] at e
  exact h (WideShapes.bytes_inj e)
theorem str_nne {a b : ByteArray} (h : a ≠ b) : (a.toList != b.toList) = true := by unfold bne; rw [str_ne h]; rfl
theorem str_neq {a b : ByteArray} (h : a = b) : (a.toList != b.toList) = false := by unfold bne; rw [str_eq h]; rfl
theorem txt_ne' {l : List Nat} {t : List Nat} {T : ByteArray} (hl : ∀ r ∈ l, okR r) (ht : ∀ r ∈ t, okR r) (hT : textOf t = T) (h : l ≠ t) : textOf l ≠ T := fun e => h (textOf_inj hl ht (e.trans hT.symm))
set_option maxRecDepth 1000000 in
theorem takes_no {S : Src} {w : World} {i : Nat} (h : Rs S w i) {t : List Nat} (hto : ∀ r ∈ t, okR r) {T : ByteArray} (hT : textOf t = T) (hn : txt (S.at i) ≠ t) :
    Calls Tryd.prog 103 #[ptr S.rb, .string T] w fun e w' => e = .returned (.bool false) ∧ Rs S w' i ∧ Below w.heap.size w w' := by
  have hx := str_ne (txt_ne' (at_ok h) hto hT hn)
  have HT := Lib.hid (token_at h)
  have hft := field_txt
  have HR := Lib.hid h
  unfold tokA at HT
  unfold ptr at *
  generalize textOf (txt (S.at i)) = X at hx HT
  clear h hn
  go_enter Tryd.func103, Tryd.ntmps103
  go_wp2_with fail
  refine HT.out.mono ?_
  rintro e w' ⟨rfl, hb⟩
  have HB := Lib.hid hb; clear hb
  go_wp2_with fail
  go_ret
  exact ⟨rfl, HR.out.under HB.out, HB.out⟩
set_option maxRecDepth 1000000 in
theorem takes_yes {S : Src} {w : World} {i : Nat} (h : Rs S w i) {t : List Nat} (ht : t ≠ []) {T : ByteArray} (hT : textOf t = T) (hn : txt (S.at i) = t) :
    Calls Tryd.prog 103 #[ptr S.rb, .string T] w fun e w' => e = .returned (.bool true) ∧ Rs S w' (i + 1) ∧ Only (Mine S) w w' := by
  have hi : i < S.toks.length := at_lt (by rw [hn]; exact ht)
  have hx := str_eq (a := textOf (txt (S.at i))) (b := T) (by rw [hn, hT])
  have HT := Lib.hid (token_at h)
  have hft := field_txt
  have HR := Lib.hid h
  have hfew := h.few
  have hi400 : (i : Int) < 400 := by omega
  unfold tokA at HT
  unfold ptr at *
  generalize textOf (txt (S.at i)) = X at hx HT
  clear h hn
  go_enter Tryd.func103, Tryd.ntmps103
  go_wp2_with fail
  refine HT.out.mono ?_
  rintro e w' ⟨rfl, hb⟩
  have hr := HR.out.under hb
  obtain ⟨c0, c1, c2, cf⟩ := hr.cells
  have HR2 := Lib.hid hr
  have HB := Lib.hid hb; clear hb hr
  go_wp2_with fail
  go_ret
  exact ⟨rfl, HR2.out.next hi, (Only.of_below HB.out).then (Only.setCell _ _ _ _ rfl)⟩

/-- The signs of each level, as texts. -/
def sgs (r : Nat) : List (List Nat) :=
  if r = 0 then [[124]] else if r = 1 then [[38]] else if r = 2 then [[60], [60, 61], [61], [33, 61]] else if r = 3 then [[43], [45]] else [[42], [47], [37]]
theorem opAt_sgs {r : Nat} (hr : r < 5) (s : List Nat) : opAt r s ≠ 0 ↔ s ∈ sgs r := by
  rcases (show r = 0 ∨ r = 1 ∨ r = 2 ∨ r = 3 ∨ r = 4 by omega) with rfl | rfl | rfl | rfl | rfl
  · unfold opAt sgs; by_cases h : s = [124] <;> simp [h]
  · unfold opAt sgs; by_cases h : s = [38] <;> simp [h]
  · unfold opAt sgs
    by_cases h1 : s = [60]
    · simp [h1]
    by_cases h2 : s = [60, 61]
    · simp [h2]
    by_cases h3 : s = [61]
    · simp [h3]
    by_cases h4 : s = [33, 61]
    · simp [h4]
    · simp [h1, h2, h3, h4]
  · unfold opAt sgs
    by_cases h1 : s = [43]
    · simp [h1]
    by_cases h2 : s = [45]
    · simp [h2]
    · simp [h1, h2]
  · unfold opAt sgs
    by_cases h1 : s = [42]
    · simp [h1]
    by_cases h2 : s = [47]
    · simp [h2]
    by_cases h3 : s = [37]
    · simp [h3]
    · simp [h1, h2, h3]
theorem lit1 (a : Nat) (ha : a < 128) : textOf [a] = ⟨#[UInt8.ofNat a]⟩ := by
  apply byteArray_ext
  rw [textOf_toList]
  simp [enc, ha]
theorem lit2 (a b : Nat) (ha : a < 128) (hb : b < 128) : textOf [a, b] = ⟨#[UInt8.ofNat a, UInt8.ofNat b]⟩ := by
  apply byteArray_ext
  rw [textOf_toList]
  simp [enc, ha, hb]
theorem lit3 (a b c : Nat) (ha : a < 128) (hb : b < 128) (hc : c < 128) : textOf [a, b, c] = ⟨#[UInt8.ofNat a, UInt8.ofNat b, UInt8.ofNat c]⟩ := by
  apply byteArray_ext
  rw [textOf_toList]
  simp [enc, ha, hb, hc]
theorem lit4 (a b c d : Nat) (ha : a < 128) (hb : b < 128) (hc : c < 128) (hd : d < 128) : textOf [a, b, c, d] = ⟨#[UInt8.ofNat a, UInt8.ofNat b, UInt8.ofNat c, UInt8.ofNat d]⟩ := by
  apply byteArray_ext
  rw [textOf_toList]
  simp [enc, ha, hb, hc, hd]
set_option maxHeartbeats 1600000 in
set_option maxRecDepth 1000000 in
theorem ofTwo_any {r : Nat} (hr : r < 5) {s : List Nat} (h : opAt r s ≠ 0) (w : World) : Calls Tryd.prog 70 #[.string (textOf s)] w fun e w' => e = .returned (.int .u8 (opAt r s : Int)) ∧ w = w' := by
  have hs := (opAt_sgs hr s).1 h
  rcases (show r = 0 ∨ r = 1 ∨ r = 2 ∨ r = 3 ∨ r = 4 by omega) with rfl | rfl | rfl | rfl | rfl
  all_goals (simp [sgs] at hs)
  · subst hs
    rw [lit1 _ (by omega)]
    go_enter Tryd.func70, Tryd.ntmps70
    go_wp2
    go_ret
    exact ⟨rfl, rfl⟩
  · subst hs
    rw [lit1 _ (by omega)]
    go_enter Tryd.func70, Tryd.ntmps70
    go_wp2
    go_ret
    exact ⟨rfl, rfl⟩
  · rcases hs with rfl | rfl | rfl | rfl
    · rw [lit1 _ (by omega)]
      go_enter Tryd.func70, Tryd.ntmps70
      go_wp2
      go_ret
      exact ⟨rfl, rfl⟩
    · rw [lit2 _ _ (by omega) (by omega)]
      go_enter Tryd.func70, Tryd.ntmps70
      go_wp2
      go_ret
      exact ⟨rfl, rfl⟩
    · rw [lit1 _ (by omega)]
      go_enter Tryd.func70, Tryd.ntmps70
      go_wp2
      go_ret
      exact ⟨rfl, rfl⟩
    · rw [lit2 _ _ (by omega) (by omega)]
      go_enter Tryd.func70, Tryd.ntmps70
      go_wp2
      go_ret
      exact ⟨rfl, rfl⟩
  · rcases hs with rfl | rfl
    · rw [lit1 _ (by omega)]
      go_enter Tryd.func70, Tryd.ntmps70
      go_wp2
      go_ret
      exact ⟨rfl, rfl⟩
    · rw [lit1 _ (by omega)]
      go_enter Tryd.func70, Tryd.ntmps70
      go_wp2
      go_ret
      exact ⟨rfl, rfl⟩
  · rcases hs with rfl | rfl | rfl
    · rw [lit1 _ (by omega)]
      go_enter Tryd.func70, Tryd.ntmps70
      go_wp2
      go_ret
      exact ⟨rfl, rfl⟩
    · rw [lit1 _ (by omega)]
      go_enter Tryd.func70, Tryd.ntmps70
      go_wp2
      go_ret
      exact ⟨rfl, rfl⟩
    · rw [lit1 _ (by omega)]
      go_enter Tryd.func70, Tryd.ntmps70
      go_wp2
      go_ret
      exact ⟨rfl, rfl⟩
end Go.Proofs.YtffhmbiamkbchaaDoor.exp
end
section
namespace Go.Proofs.YtffhmbiamkbchaaDoor.exp
set_option linter.unusedSimpArgs false
set_option linter.unusedVariables false
open Go.RowKit nam lex

/-- What a rule's answer tells: the expression and where the reader stands, or where it may not go on. -/
def Tells (S : Src) (F : Nat → Prop) (o : Out) (w' : World) (A N : Int) (p : Option Addr) (n c : Nat) (b : Bool) (i : Nat) : Prop :=
  match o with
  | .bad l => b = false ∧ S.at i = l
  | .ok x l => b = true ∧ A = (x.op : Int) ∧ N = x.n ∧ n = x.args.length ∧ Lies w' F (.slice p n c) x.args ∧ S.at i = l
def From (w : World) (b : Nat) : Prop := w.heap.size ≤ b
def PPost (S : Src) (o : Out) (w : World) (e : Ending) (w' : World) : Prop :=
  ∃ (A N : Int) (p : Option Addr) (n c : Nat) (b : Bool) (i : Nat), e = .returned (.tuple #[.agg #[.int .u8 A, .int .i64 N, .slice p n c], .bool b]) ∧ Rs S w' i ∧ Only (Mine S) w w' ∧ Tells S (From w) o w' A N p n c b i
/-- An expression's own cells, in a box. -/
def Bx (w : World) (b : Nat) (A N : Int) (p : Option Addr) (n c : Nat) : Prop := w.heap[b]? = some (.cells #[.int .u8 A, .int .i64 N, .slice p n c] 27 (0, 0))
theorem Bx.cells {w : World} {b n c : Nat} {A N : Int} {p : Option Addr} (h : Bx w b A N p n c) : w.cell? ⟨b, 0, none⟩ = some (.int .u8 A) ∧ w.cell? ⟨b, 1, none⟩ = some (.int .i64 N) ∧ w.cell? ⟨b, 2, none⟩ = some (.slice p n c) ∧
    w.frozen? ⟨b, 0, none⟩ = false ∧ w.frozen? ⟨b, 1, none⟩ = false ∧ w.frozen? ⟨b, 2, none⟩ = false :=
  ⟨cell_of h rfl, cell_of h rfl, cell_of h rfl, by simp [World.frozen?, show w.heap[b]? = _ from h], by simp [World.frozen?, show w.heap[b]? = _ from h], by simp [World.frozen?, show w.heap[b]? = _ from h]⟩
theorem Bx.lt {w : World} {b n c : Nat} {A N : Int} {p : Option Addr} (h : Bx w b A N p n c) : b < w.heap.size := (Array.getElem?_eq_some_iff.1 h).1
theorem Bx.under {w w' : World} {b n c : Nat} {A N : Int} {p : Option Addr} (h : Bx w b A N p n c) (hb : Below w.heap.size w w') : Bx w' b A N p n c := (hb.block b h.lt).trans h
theorem Bx.only {S : Src} {w w' : World} {b n c i : Nat} {A N : Int} {p : Option Addr} (h : Bx w b A N p n c) (hb : Only (Mine S) w w') (hr : Rs S w i) : Bx w' b A N p n c :=
  (hb.block b h.lt (fun e => by
    have h1 := hr.box
    have h2 : w.heap[b]? = _ := h
    rw [show b = S.rb from e, h1] at h2
    simp at h2)).trans h
/-- Its three cells, stored. -/
def set3 (w : World) (b : Nat) (A N : Int) (p : Option Addr) (n c : Nat) : World := ((w.setCell ⟨b, 0, none⟩ (.int .u8 A)).setCell ⟨b, 1, none⟩ (.int .i64 N)).setCell ⟨b, 2, none⟩ (.slice p n c)
theorem Bx.set {w : World} {b n c : Nat} {A N : Int} {p : Option Addr} (h : Bx w b A N p n c) (A' N' : Int) (p' : Option Addr) (n' c' : Nat) : Bx (set3 w b A' N' p' n' c') b A' N' p' n' c' := by
  have h1 := heap_setCell_same w b 0 _ 27 (.int .u8 A') h
  have h2 := heap_setCell_same _ b 1 _ 27 (.int .i64 N') h1
  exact heap_setCell_same _ b 2 _ 27 (.slice p' n' c') h2
theorem set3_other {w : World} {b k n c : Nat} {A N : Int} {p : Option Addr} (hk : k ≠ b) : (set3 w b A N p n c).heap[k]? = w.heap[k]? := by
  unfold set3
  rw [Below.heap_setCell _ _ _ _ hk, Below.heap_setCell _ _ _ _ hk, Below.heap_setCell _ _ _ _ hk]
theorem set3_only {F : Nat → Prop} {w w' : World} {b n c : Nat} {A N : Int} {p : Option Addr} (h : Only F w w') (hb : w.heap.size ≤ b) : Only F w (set3 w' b A N p n c) := by
  refine ⟨h.os, h.tape, h.output, ?_, fun k hk hn => ?_⟩
  · have := h.size; simp [set3]; exact this
  · rw [set3_other (by omega)]; exact h.block k hk hn
/-- Two expressions in a row. -/
theorem lies_two {w : World} {F : Nat → Prop} {b c1 c2 n1 n2 : Nat} {p1 p2 : Option Addr} {x y : Ex} (hF : F b) (hb : w.heap[b]? = some (.cells #[.int .u8 (x.op : Int), .int .i64 x.n, .slice p1 n1 c1, .int .u8 (y.op : Int), .int .i64 y.n, .slice p2 n2 c2] 27 (0, 0)))
    (h1 : Lies w F (.slice p1 n1 c1) x.args) (h2 : Lies w F (.slice p2 n2 c2) y.args) : Lies w F (.slice (some ⟨b, 0, none⟩) 2 2) [x, y] := by
  refine .row b 2 2 _ [x, y] (fun i => if i = 0 then .slice p1 n1 c1 else .slice p2 n2 c2) hF hb rfl ?_ ?_
  · intro i hi
    match i, hi with
    | 0, _ => exact ⟨rfl, rfl, rfl⟩
    | 1, _ => exact ⟨rfl, rfl, rfl⟩
  · intro i hi
    match i, hi with
    | 0, _ => exact h1
    | 1, _ => exact h2

/-- The signs that level is told. -/
def Sgs (w : World) (sb : Nat) (zs : List ByteArray) : Prop := ∃ cur, w.heap[sb]? = some (.cells cur 9 (0, 0)) ∧ ∀ j (h : j < zs.length), cur[j]? = some (.string zs[j])
theorem Sgs.cell {w : World} {sb : Nat} {zs : List ByteArray} (h : Sgs w sb zs) : ∀ j, j < zs.length → w.cell? ⟨sb, 0 + j, none⟩ = some (.string (zs.getD j ByteArray.empty)) := by
  obtain ⟨cur, h1, h2⟩ := h
  intro j hj
  rw [Nat.zero_add]
  exact cell_of h1 (by rw [h2 j hj]; simp [hj])
theorem Sgs.only {S : Src} {w w' : World} {sb i : Nat} {zs : List ByteArray} (h : Sgs w sb zs) (hb : Only (Mine S) w w') (hr : Rs S w i) : Sgs w' sb zs := by
  obtain ⟨cur, h1, h2⟩ := h
  refine ⟨cur, (hb.block sb (Array.getElem?_eq_some_iff.1 h1).1 (fun e => ?_)).trans h1, h2⟩
  have h3 := hr.box
  rw [show sb = S.rb from e, h3] at h1
  simp at h1

theorem level_sgn {S : Src} {w : World} {i sb c r : Nat} {zs : List ByteArray} (hr : r < 5) (hz : zs = (sgs r).map textOf) (h : Sgs w sb zs) (hs : Rs S w i) :
    Calls Tryd.prog 69 #[.slice (some ⟨sb, 0, none⟩) zs.length c, .string (textOf (txt (S.at i)))] w fun e w' => e = .returned (.bool (decide (opAt r (txt (S.at i)) ≠ 0))) ∧ w = w' := by
  have hl : zs.length ≤ 4 := by
    rw [hz, List.length_map]
    unfold sgs
    split
    · simp
    split
    · simp
    split
    · simp
    split
    · simp
    · simp
  have hc := Tryd.slices_Contains_string sb 0 zs.length c zs (textOf (txt (S.at i))) w (Nat.le_refl _) (by omega) h.cell
  rw [List.take_length] at hc
  refine hc.mono ?_
  rintro e w' ⟨rfl, rfl⟩
  refine ⟨ret_bool ?_, rfl⟩
  rw [Bool.eq_iff_iff, Lib.containsS_iff, decide_eq_true_eq, opAt_sgs hr, hz, List.mem_map]
  constructor
  · rintro ⟨s, h1, h2⟩
    have : s = txt (S.at i) := textOf_inj (fun x hx => ?_) (at_ok hs) h2
    · exact this ▸ h1
    · have : ∀ s ∈ sgs r, ∀ x ∈ s, okR x := by
        rcases (show r = 0 ∨ r = 1 ∨ r = 2 ∨ r = 3 ∨ r = 4 by omega) with rfl | rfl | rfl | rfl | rfl <;> simp [sgs, okR]
      exact this s h1 x hx
  · exact fun h => ⟨_, h, rfl⟩
theorem tok_txt {S : Src} {w : World} {i : Nat} (h : Rs S w i) {X : ByteArray} (hX : textOf (txt (S.at i)) = X) : Calls Tryd.prog 37 #[ptr S.rb] w fun e w' => ∃ a b c, e = .returned (.agg #[a, .string X, b, c]) ∧ Below w.heap.size w w' := by
  refine (token_at h).mono ?_
  rintro e w' ⟨rfl, hb⟩
  exact ⟨_, _, _, by unfold tokA; rw [hX], hb⟩
theorem sgn_txt {S : Src} {w : World} {i sb c r : Nat} {zs : List ByteArray} (hr : r < 5) (hz : zs = (sgs r).map textOf) (h : Sgs w sb zs) (hs : Rs S w i) {X : ByteArray} (hX : textOf (txt (S.at i)) = X) {b : Bool} (hb : decide (opAt r (txt (S.at i)) ≠ 0) = b) :
    Calls Tryd.prog 69 #[.slice (some ⟨sb, 0, none⟩) zs.length c, .string X] w fun e w' => e = .returned (.bool b) ∧ w = w' := by
  have := level_sgn (c := c) hr hz h hs
  rw [hX, hb] at this
  exact this
theorem two_txt {r : Nat} (hr : r < 5) {s : List Nat} (h : opAt r s ≠ 0) {X : ByteArray} (hX : textOf s = X) {o : Nat} (ho : opAt r s = o) (w : World) : Calls Tryd.prog 70 #[.string X] w fun e w' => e = .returned (.int .u8 (o : Int)) ∧ w = w' := by
  have := ofTwo_any hr h w
  rw [hX, ho] at this
  exact this

theorem Rs.set3 {S : Src} {w : World} {i b n c n' c' : Nat} {A N A' N' : Int} {p p' : Option Addr} (hr : Rs S w i) (h1 : Bx w b A N p n c) : Rs S (set3 w b A' N' p' n' c') i := by
  unfold Bx at h1
  have hne : S.rb ≠ b := fun e => by
    rw [← e, hr.box] at h1
    simp at h1
  refine ⟨?_, (set3_other hne).trans hr.box, hr.le, hr.few, hr.ok⟩
  rcases hr.row with ⟨h2, h3 | ⟨g, cap, cur, h4, h5, h6, h7⟩⟩
  · exact ⟨h2, .inl h3⟩
  · refine ⟨h2, .inr ⟨g, cap, cur, h4, h5, (set3_other fun e => ?_).trans h6, h7⟩⟩
    rw [← e, h6] at h1
    simp at h1
theorem Bx.set3 {w : World} {b k n c n' c' n1 c1 : Nat} {A N A' N' A1 N1 : Int} {p p' p1 : Option Addr} (h : Bx w k A N p n c) (hne : k ≠ b) : Bx (set3 w b A' N' p' n' c') k A N p n c := (set3_other hne).trans h
def rowO (f : List Tok → Out) (r m : Nat) (l : List Tok) : Out :=
  match f l with
  | .bad l' => .bad l'
  | .ok x l' => loopP f r m x l'
def Fx (w : World) (N0 N1 : Nat) (b : Nat) : Prop := w.heap.size ≤ b ∧ b ≠ N0 ∧ b ≠ N1
/-- What is known at each round's head. -/
structure Lv (S : Src) (w : World) (f : List Tok → Out) (r L N0 N1 : Nat) (O : Out) (m : Nat) (b : Bool) (wr : World) (A N : Int) (p : Option Addr) (n c i : Nat) : Prop where
  only : Only (Mine S) w wr
  box0 : Bx wr N0 0 0 none 0 0
  box1 : Bx wr N1 A N p n c
  rs : Rs S wr i
  yes : b = true → ∃ x : Ex, A = (x.op : Int) ∧ N = x.n ∧ n = x.args.length ∧ Lies wr (Fx w N0 N1) (.slice p n c) x.args ∧ loopP f r m x (S.at i) = O ∧ (S.at i).length < L
  no : b = false → O = .bad (S.at i)

theorem Lv.under {S : Src} {w : World} {f : List Tok → Out} {r L N0 N1 : Nat} {O : Out} {m : Nat} {b : Bool} {wr w5 : World} {A N : Int} {p : Option Addr} {n c i : Nat} (h : Lv S w f r L N0 N1 O m b wr A N p n c i) (hb : Below wr.heap.size wr w5) : Lv S w f r L N0 N1 O m b w5 A N p n c i :=
  ⟨h.only.then (.of_below hb), h.box0.under hb, h.box1.under hb, h.rs.under hb, fun hy => by obtain ⟨x, h1, h2, h3, h4, h5⟩ := h.yes hy; exact ⟨x, h1, h2, h3, h4.under hb, h5⟩, h.no⟩
theorem lv_end {S : Src} {w : World} {f : List Tok → Out} {r L N0 N1 : Nat} {O : Out} {m : Nat} {b : Bool} {wr : World} {A N : Int} {p : Option Addr} {n c i : Nat} (h : Lv S w f r L N0 N1 O m b wr A N p n c i) (hN0 : w.heap.size = N0) (hN1 : N0 < N1)
    (hx : b = true → opAt r (txt (S.at i)) = 0 ∨ m = 0) : PPost S O w (.returned (.tuple #[.agg #[.int .u8 A, .int .i64 N, .slice p n c], .bool b])) (set3 wr N0 A N p n c) := by
  have hrs : Rs S (set3 wr N0 A N p n c) i := h.rs.set3 h.box0
  refine ⟨A, N, p, n, c, b, i, rfl, hrs, set3_only h.only (by omega), ?_⟩
  cases b with
  | false => rw [h.no rfl]; exact ⟨rfl, rfl⟩
  | true =>
    obtain ⟨x, h1, h2, h3, h4, h5, h6⟩ := h.yes rfl
    have ho : O = .ok x (S.at i) := by
      rw [← h5]
      rcases hx rfl with h7 | rfl
      · exact loopP_none h7
      · rfl
    rw [ho]
    exact ⟨rfl, h1, h2, h3, (h4.frame fun k cc hk hcc => set3_other (fun e => hk.2.1 e)).mono fun k hk => hk.1, rfl⟩
theorem Lv.cells {S : Src} {w : World} {f : List Tok → Out} {r L N0 N1 : Nat} {O : Out} {m : Nat} {b : Bool} {wr : World} {A N : Int} {p : Option Addr} {n c i : Nat} (h : Lv S w f r L N0 N1 O m b wr A N p n c i) :
    wr.cell? ⟨N0, 0, none⟩ = some (.int .u8 0) ∧ wr.cell? ⟨N0, 1, none⟩ = some (.int .i64 0) ∧ wr.cell? ⟨N0, 2, none⟩ = some (.slice none 0 0) ∧ wr.frozen? ⟨N0, 0, none⟩ = false ∧ wr.frozen? ⟨N0, 1, none⟩ = false ∧ wr.frozen? ⟨N0, 2, none⟩ = false ∧
    wr.cell? ⟨N1, 0, none⟩ = some (.int .u8 A) ∧ wr.cell? ⟨N1, 1, none⟩ = some (.int .i64 N) ∧ wr.cell? ⟨N1, 2, none⟩ = some (.slice p n c) := by
  obtain ⟨a1, a2, a3, a4, a5, a6⟩ := h.box0.cells
  obtain ⟨b1, b2, b3, _⟩ := h.box1.cells
  exact ⟨a1, a2, a3, a4, a5, a6, b1, b2, b3⟩


/-- What a round leaves: a sign, and a part behind it. -/
structure Stp (S : Src) (f : List Tok → Out) (wb wd we : World) (i3 N2 : Nat) (A2 M2 : Int) (p2 : Option Addr) (n2 c2 : Nat) (b2 : Bool) (i4 : Nat) : Prop where
  eq : (wb.setCell ⟨S.rb, 1, none⟩ (.int .i64 ((i3 : Int) + 1))).alloc (.cells #[.int .u8 0, .int .i64 0, .slice none 0 0] 27) = wd
  size : wb.heap.size = N2
  rs : Rs S we i4
  only : Only (Mine S) wd we
  tells : Tells S (From wd) (f (S.at (i3 + 1))) we A2 M2 p2 n2 c2 b2 i4
theorem Stp.pre {S : Src} {w : World} {f : List Tok → Out} {r L N0 N1 : Nat} {O : Out} {m : Nat} {wb wd : World} {A N : Int} {p : Option Addr} {n c i3 N2 : Nat} (h : Lv S w f r L N0 N1 O m true wb A N p n c i3) (hop : opAt r (txt (S.at i3)) ≠ 0)
    (hw : (wb.setCell ⟨S.rb, 1, none⟩ (.int .i64 ((i3 : Int) + 1))).alloc (.cells #[.int .u8 0, .int .i64 0, .slice none 0 0] 27) = wd) (hN2 : wb.heap.size = N2) :
    Rs S wd (i3 + 1) ∧ (S.at (i3 + 1)).length ≤ L ∧ Bx wd N2 0 0 none 0 0 ∧ Only (Mine S) wb wd ∧ Bx wd N0 0 0 none 0 0 ∧ Bx wd N1 A N p n c ∧ wd.heap.size = N2 + 1 := by
  have hi := at_lt (op_ne hop)
  obtain ⟨x, _, _, _, _, _, hl⟩ := h.yes rfl
  have hs : (wb.setCell ⟨S.rb, 1, none⟩ (.int .i64 ((i3 : Int) + 1))).heap.size = wb.heap.size := by simp
  have hon : Only (Mine S) wb (wb.setCell ⟨S.rb, 1, none⟩ (.int .i64 ((i3 : Int) + 1))) := Only.setCell _ _ _ _ rfl
  have hb : Below (wb.setCell ⟨S.rb, 1, none⟩ (.int .i64 ((i3 : Int) + 1))).heap.size (wb.setCell ⟨S.rb, 1, none⟩ (.int .i64 ((i3 : Int) + 1))) wd := by rw [← hw]; exact (Below.refl _ _).alloc (Nat.le_refl _) _
  refine ⟨(h.rs.next hi).under hb, ?_, by rw [← hw]; exact heap_last (by rw [hs]; exact hN2.symm), hon.then (.of_below hb), (h.box0.only hon h.rs).under hb, (h.box1.only hon h.rs).under hb, by rw [← hw]; simp [hN2]⟩
  rw [at_len] at *; omega
theorem lv_step {S : Src} {w : World} {f : List Tok → Out} {r L N0 N1 : Nat} {O : Out} {m : Nat} {wb wd we wf wg : World} {A N : Int} {p : Option Addr} {n c i3 N2 : Nat} {A2 M2 : Int} {p2 : Option Addr} {n2 c2 : Nat} {b2 : Bool} {i4 o N3 : Nat}
    (h : Lv S w f r L N0 N1 O (m + 1) true wb A N p n c i3) (hop : opAt r (txt (S.at i3)) ≠ 0) (ho : opAt r (txt (S.at i3)) = o) (hN0 : w.heap.size = N0) (hN01 : N0 < N1) (hfl : ∀ l, Less l.length (f l))
    (hs : Stp S f wb wd we i3 N2 A2 M2 p2 n2 c2 b2 i4) (hwf : exp.set3 we N2 A2 M2 p2 n2 c2 = wf) (hN3 : wf.heap.size = N3) (hwg : wf.alloc (.cells #[.int .u8 A, .int .i64 N, .slice p n c, .int .u8 A2, .int .i64 M2, .slice p2 n2 c2] 27) = wg) :
    Bx we N2 0 0 none 0 0 ∧ Bx wf N1 A N p n c ∧ Bx wf N2 A2 M2 p2 n2 c2 ∧ Bx wg N1 A N p n c ∧
    Lv S w f r L N0 N1 O m b2 (exp.set3 wg N1 (o : Int) 0 (some ⟨N3, 0, none⟩) 2 2) (o : Int) 0 (some ⟨N3, 0, none⟩) 2 2 i4 := by
  obtain ⟨k1, k2, k3, k4, k5, k6, k7⟩ := Stp.pre h hop hs.eq hs.size
  have hlt1 := h.box1.lt
  have hlt0 := h.box0.lt
  have hs2 := hs.size
  have e2 : Bx we N2 0 0 none 0 0 := k3.only hs.only k1
  have e0 : Bx we N0 0 0 none 0 0 := k5.only hs.only k1
  have e1 : Bx we N1 A N p n c := k6.only hs.only k1
  have hwes := hs.only.size
  have f2 : Bx wf N2 A2 M2 p2 n2 c2 := by rw [← hwf]; exact e2.set _ _ _ _ _
  have f1 : Bx wf N1 A N p n c := by rw [← hwf]; exact (set3_other (by omega)).trans e1
  have f0 : Bx wf N0 0 0 none 0 0 := by rw [← hwf]; exact (set3_other (by omega)).trans e0
  have hwfs : wf.heap.size = we.heap.size := by rw [← hwf]; simp [exp.set3]
  have hbg : Below wf.heap.size wf wg := by rw [← hwg]; exact (Below.refl _ _).alloc (Nat.le_refl _) _
  have g1 : Bx wg N1 A N p n c := f1.under hbg
  have hgr : wg.heap[N3]? = some (.cells #[.int .u8 A, .int .i64 N, .slice p n c, .int .u8 A2, .int .i64 M2, .slice p2 n2 c2] 27 (0, 0)) := by rw [← hwg]; exact heap_last hN3.symm
  refine ⟨e2, f1, f2, g1, ?_⟩
  have hrf : Rs S wf i4 := by rw [← hwf]; exact hs.rs.set3 e2
  have hwsz := h.only.size
  have hof : Only (Mine S) w wf := by rw [← hwf]; exact set3_only ((h.only.then k4).then hs.only) (by omega)
  refine ⟨set3_only (hof.then (.of_below hbg)) (by omega), (set3_other (by omega)).trans (f0.under hbg), g1.set _ _ _ _ _, (hrf.under hbg).set3 g1, fun hb2 => ?_, fun hb2 => ?_⟩
  · obtain ⟨x, h1, h2, h3, h4, h5, h6⟩ := h.yes rfl
    have ht := hs.tells
    cases hfo : f (S.at (i3 + 1)) with
    | bad l => rw [hfo] at ht; rw [ht.1] at hb2; cases hb2
    | ok y l =>
      rw [hfo] at ht
      obtain ⟨_, t1, t2, t3, t4, t5⟩ := ht
      have hless := hfl (S.at (i3 + 1))
      rw [hfo] at hless
      simp only [Less] at hless
      refine ⟨.mk o 0 [x, y], rfl, rfl, rfl, ?_, ?_, ?_⟩
      · have hx : Lies (exp.set3 wg N1 (o : Int) 0 (some ⟨N3, 0, none⟩) 2 2) (Fx w N0 N1) (.slice p n c) x.args := by
          refine (h4.here.frame fun k cc hk hcc => ?_).mono fun k hk => hk.1
          have hk2 : k < N2 := by have := hk.2; omega
          rw [set3_other hk.1.2.2, hbg.block k (by omega), ← hwf, set3_other (by omega), hs.only.block k (by omega) (fun e => ?_), k4.block k hk.2 (fun e => ?_)]
          · have := h.rs.box; rw [show k = S.rb from e, this] at hcc; simp at hcc
          · have := h.rs.box; rw [show k = S.rb from e, this] at hcc; simp at hcc
        have hy : Lies (exp.set3 wg N1 (o : Int) 0 (some ⟨N3, 0, none⟩) 2 2) (Fx w N0 N1) (.slice p2 n2 c2) y.args := by
          refine (t4.here.frame fun k cc hk hcc => ?_).mono fun k hk => ?_
          · have hk1 : wd.heap.size ≤ k := hk.1
            rw [set3_other (by omega), hbg.block k (by have := hk.2; omega), ← hwf, set3_other (by omega)]
          · have hk1 : wd.heap.size ≤ k := hk.1
            exact ⟨by omega, by omega, by omega⟩
        subst h1; subst h2; subst h3; subst t1; subst t2; subst t3
        exact lies_two (x := x) (y := y) ⟨by omega, by omega, by omega⟩ ((set3_other (by omega)).trans hgr) hx hy
      · rw [← h5, loopP_ok hop (by rw [at_tail]; exact hfo), ho, t5]
      · rw [t5]; rw [at_len] at *; omega
  · obtain ⟨x, h1, h2, h3, h4, h5, h6⟩ := h.yes rfl
    have ht := hs.tells
    cases hfo : f (S.at (i3 + 1)) with
    | bad l => rw [hfo] at ht; rw [ht.2, ← h5, loopP_bad hop (by rw [at_tail]; exact hfo)]
    | ok y l => rw [hfo] at ht; rw [ht.1] at hb2; cases hb2
end Go.Proofs.YtffhmbiamkbchaaDoor.exp
end
