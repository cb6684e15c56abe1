/- What takes and ofTwo answer. -/
import Derived.Test.YteicfdgadloheaaExV
namespace Go.Proofs.Yteicfdgadloheaa.exp
set_option linter.unusedSimpArgs false
set_option linter.unusedVariables false
open Go.RowKit nam lex

theorem Rs.next {S : Src} {w : World} {i : Nat} (h : Rs S w i) (hi : i < S.toks.length) : Rs S (w.setCell ⟨S.rb, 1, none⟩ (.int .i64 ((i : Int) + 1))) (i + 1) := by
  rw [show ((i : Int) + 1) = ((i + 1 : Nat) : Int) by omega]
  exact h.set (by omega)
theorem field_txt (a b c : Value) (X : ByteArray) (w : World) : (Instr.field 59 (.agg #[a, .string X, b, c]) 1).run Try.prog w = .ok (.string X) w := by kernel_rfl
theorem field_at (a b c : Value) (n : Int) (w : World) : (Instr.field 59 (.agg #[a, b, c, .int .i64 n]) 3).run Try.prog w = .ok (.int .i64 n) w := by kernel_rfl
theorem str_eq {a b : ByteArray} (h : a = b) : (a.toList == b.toList) = true := by subst h; simp
theorem str_ne {a b : ByteArray} (h : a ≠ b) : (a.toList == b.toList) = false := by
  rw [beq_eq_false_iff_ne]
  intro e
  rw [ByteArray.toList_eq, ByteArray.toList_eq] at e
  exact h (WideShapes.bytes_inj e)
theorem str_nne {a b : ByteArray} (h : a ≠ b) : (a.toList != b.toList) = true := by unfold bne; rw [str_ne h]; rfl
theorem str_neq {a b : ByteArray} (h : a = b) : (a.toList != b.toList) = false := by unfold bne; rw [str_eq h]; rfl
theorem txt_ne' {l : List Nat} {t : List Nat} {T : ByteArray} (hl : ∀ r ∈ l, okR r) (ht : ∀ r ∈ t, okR r) (hT : textOf t = T) (h : l ≠ t) : textOf l ≠ T := fun e => h (textOf_inj hl ht (e.trans hT.symm))
set_option maxRecDepth 1000000 in
theorem takes_no {S : Src} {w : World} {i : Nat} (h : Rs S w i) {t : List Nat} (hto : ∀ r ∈ t, okR r) {T : ByteArray} (hT : textOf t = T) (hn : txt (S.at i) ≠ t) :
    Calls Try.prog 83 #[ptr S.rb, .string T] w fun e w' => e = .returned (.bool false) ∧ Rs S w' i ∧ Below w.heap.size w w' := by
  have hx := str_ne (txt_ne' (at_ok h) hto hT hn)
  have HT := Lib.hid (token_at h)
  have hft := field_txt
  have HR := Lib.hid h
  unfold tokA at HT
  unfold ptr at *
  generalize textOf (txt (S.at i)) = X at hx HT
  clear h hn
  go_enter Try.func83, Try.ntmps83
  go_wp2_with fail
  refine HT.out.mono ?_
  rintro e w' ⟨rfl, hb⟩
  have HB := Lib.hid hb; clear hb
  go_wp2_with fail
  go_ret
  exact ⟨rfl, HR.out.under HB.out, HB.out⟩
set_option maxRecDepth 1000000 in
theorem takes_yes {S : Src} {w : World} {i : Nat} (h : Rs S w i) {t : List Nat} (ht : t ≠ []) {T : ByteArray} (hT : textOf t = T) (hn : txt (S.at i) = t) :
    Calls Try.prog 83 #[ptr S.rb, .string T] w fun e w' => e = .returned (.bool true) ∧ Rs S w' (i + 1) ∧ Only (Mine S) w w' := by
  have hi : i < S.toks.length := at_lt (by rw [hn]; exact ht)
  have hx := str_eq (a := textOf (txt (S.at i))) (b := T) (by rw [hn, hT])
  have HT := Lib.hid (token_at h)
  have hft := field_txt
  have HR := Lib.hid h
  have hfew := h.few
  have hi400 : (i : Int) < 400 := by omega
  unfold tokA at HT
  unfold ptr at *
  generalize textOf (txt (S.at i)) = X at hx HT
  clear h hn
  go_enter Try.func83, Try.ntmps83
  go_wp2_with fail
  refine HT.out.mono ?_
  rintro e w' ⟨rfl, hb⟩
  have hr := HR.out.under hb
  obtain ⟨c0, c1, c2, cf⟩ := hr.cells
  have HR2 := Lib.hid hr
  have HB := Lib.hid hb; clear hb hr
  go_wp2_with fail
  go_ret
  exact ⟨rfl, HR2.out.next hi, (Only.of_below HB.out).then (Only.setCell _ _ _ _ rfl)⟩

/-- The signs of each level, as texts. -/
def sgs (r : Nat) : List (List Nat) :=
  if r = 0 then [[124]] else if r = 1 then [[38]] else if r = 2 then [[60], [60, 61], [61], [33, 61]] else if r = 3 then [[43], [45]] else [[42], [47], [37]]
theorem opAt_sgs {r : Nat} (hr : r < 5) (s : List Nat) : opAt r s ≠ 0 ↔ s ∈ sgs r := by
  rcases (show r = 0 ∨ r = 1 ∨ r = 2 ∨ r = 3 ∨ r = 4 by omega) with rfl | rfl | rfl | rfl | rfl
  · unfold opAt sgs; by_cases h : s = [124] <;> simp [h]
  · unfold opAt sgs; by_cases h : s = [38] <;> simp [h]
  · unfold opAt sgs
    by_cases h1 : s = [60]
    · simp [h1]
    by_cases h2 : s = [60, 61]
    · simp [h2]
    by_cases h3 : s = [61]
    · simp [h3]
    by_cases h4 : s = [33, 61]
    · simp [h4]
    · simp [h1, h2, h3, h4]
  · unfold opAt sgs
    by_cases h1 : s = [43]
    · simp [h1]
    by_cases h2 : s = [45]
    · simp [h2]
    · simp [h1, h2]
  · unfold opAt sgs
    by_cases h1 : s = [42]
    · simp [h1]
    by_cases h2 : s = [47]
    · simp [h2]
    by_cases h3 : s = [37]
    · simp [h3]
    · simp [h1, h2, h3]
theorem lit1 (a : Nat) (ha : a < 128) : textOf [a] = ⟨#[UInt8.ofNat a]⟩ := by
  apply byteArray_ext
  rw [textOf_toList]
  simp [enc, ha]
theorem lit2 (a b : Nat) (ha : a < 128) (hb : b < 128) : textOf [a, b] = ⟨#[UInt8.ofNat a, UInt8.ofNat b]⟩ := by
  apply byteArray_ext
  rw [textOf_toList]
  simp [enc, ha, hb]
theorem lit3 (a b c : Nat) (ha : a < 128) (hb : b < 128) (hc : c < 128) : textOf [a, b, c] = ⟨#[UInt8.ofNat a, UInt8.ofNat b, UInt8.ofNat c]⟩ := by
  apply byteArray_ext
  rw [textOf_toList]
  simp [enc, ha, hb, hc]
theorem lit4 (a b c d : Nat) (ha : a < 128) (hb : b < 128) (hc : c < 128) (hd : d < 128) : textOf [a, b, c, d] = ⟨#[UInt8.ofNat a, UInt8.ofNat b, UInt8.ofNat c, UInt8.ofNat d]⟩ := by
  apply byteArray_ext
  rw [textOf_toList]
  simp [enc, ha, hb, hc, hd]
set_option maxHeartbeats 1600000 in
set_option maxRecDepth 1000000 in
theorem ofTwo_any {r : Nat} (hr : r < 5) {s : List Nat} (h : opAt r s ≠ 0) (w : World) : Calls Try.prog 53 #[.string (textOf s)] w fun e w' => e = .returned (.int .u8 (opAt r s : Int)) ∧ w = w' := by
  have hs := (opAt_sgs hr s).1 h
  rcases (show r = 0 ∨ r = 1 ∨ r = 2 ∨ r = 3 ∨ r = 4 by omega) with rfl | rfl | rfl | rfl | rfl
  all_goals (simp [sgs] at hs)
  · subst hs
    rw [lit1 _ (by omega)]
    go_enter Try.func53, Try.ntmps53
    go_wp2
    go_ret
    exact ⟨rfl, rfl⟩
  · subst hs
    rw [lit1 _ (by omega)]
    go_enter Try.func53, Try.ntmps53
    go_wp2
    go_ret
    exact ⟨rfl, rfl⟩
  · rcases hs with rfl | rfl | rfl | rfl
    · rw [lit1 _ (by omega)]
      go_enter Try.func53, Try.ntmps53
      go_wp2
      go_ret
      exact ⟨rfl, rfl⟩
    · rw [lit2 _ _ (by omega) (by omega)]
      go_enter Try.func53, Try.ntmps53
      go_wp2
      go_ret
      exact ⟨rfl, rfl⟩
    · rw [lit1 _ (by omega)]
      go_enter Try.func53, Try.ntmps53
      go_wp2
      go_ret
      exact ⟨rfl, rfl⟩
    · rw [lit2 _ _ (by omega) (by omega)]
      go_enter Try.func53, Try.ntmps53
      go_wp2
      go_ret
      exact ⟨rfl, rfl⟩
  · rcases hs with rfl | rfl
    · rw [lit1 _ (by omega)]
      go_enter Try.func53, Try.ntmps53
      go_wp2
      go_ret
      exact ⟨rfl, rfl⟩
    · rw [lit1 _ (by omega)]
      go_enter Try.func53, Try.ntmps53
      go_wp2
      go_ret
      exact ⟨rfl, rfl⟩
  · rcases hs with rfl | rfl | rfl
    · rw [lit1 _ (by omega)]
      go_enter Try.func53, Try.ntmps53
      go_wp2
      go_ret
      exact ⟨rfl, rfl⟩
    · rw [lit1 _ (by omega)]
      go_enter Try.func53, Try.ntmps53
      go_wp2
      go_ret
      exact ⟨rfl, rfl⟩
    · rw [lit1 _ (by omega)]
      go_enter Try.func53, Try.ntmps53
      go_wp2
      go_ret
      exact ⟨rfl, rfl⟩
end Go.Proofs.Yteicfdgadloheaa.exp
