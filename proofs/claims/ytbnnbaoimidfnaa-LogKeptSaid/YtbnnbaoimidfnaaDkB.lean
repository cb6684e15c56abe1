/- What disk's small functions answer: within, operate, refusal. -/
import Derived.Test.YtbnnbaoimidfnaaDkA
import Derived.Outline
namespace Go.Proofs.Ytbnnbaoimidfnaa.dsk
set_option linter.unusedSimpArgs false
set_option linter.unusedVariables false
open Go.RowKit

theorem ret_int {k : IntKind} {a b : Int} (h : a = b) : Ending.returned (.int k a) = .returned (.int k b) := by rw [h]
theorem within_any (n : Int) (m : Nat) (w : World) (h1 : -9223372036854775808 ≤ n) (h2 : n ≤ 9223372036854775807) (hm : (m : Int) ≤ 9223372036854775807) :
    Calls Try.prog 28 #[.int .i64 n, .int .i64 m] w fun e w' => e = .returned (.int .i64 (win n m : Nat)) ∧ w = w' := by
  have hw := Lib.hid (win_int n m)
  go_enter Try.func28, Try.ntmps28
  go_wp2
  all_goals
    go_ret
    exact ⟨ret_int (by rw [hw.out]; omega), rfl⟩

theorem operate_on (d : Nat) (w : World) (hl : w.cell? ⟨d, 2, none⟩ = some (.int .i64 (-1))) :
    Calls Try.prog 38 #[.pointer (some ⟨d, 0, none⟩)] w fun e w' => e = .returned (.int .i64 0) ∧ w = w' := by
  go_enter Try.func38, Try.ntmps38
  go_wp2
  go_ret
  exact ⟨rfl, rfl⟩
theorem operate_gone (d : Nat) (w : World) (hl : w.cell? ⟨d, 2, none⟩ = some (.int .i64 0)) (o : Bool) (hc : w.cell? ⟨d, 1, none⟩ = some (.bool o)) (hf : w.frozen? ⟨d, 1, none⟩ = false) :
    Calls Try.prog 38 #[.pointer (some ⟨d, 0, none⟩)] w fun e w' => e = .returned (.int .i64 50) ∧ w' = w.setCell ⟨d, 1, none⟩ (.bool true) := by
  go_enter Try.func38, Try.ntmps38
  go_wp2
  go_ret
  exact ⟨rfl, rfl⟩
theorem operate_less (d : Nat) (w : World) (n : Int) (hn : 0 < n) (hn2 : n ≤ 9223372036854775807) (hl : w.cell? ⟨d, 2, none⟩ = some (.int .i64 n)) (hf : w.frozen? ⟨d, 2, none⟩ = false) :
    Calls Try.prog 38 #[.pointer (some ⟨d, 0, none⟩)] w fun e w' => e = .returned (.int .i64 0) ∧ w' = w.setCell ⟨d, 2, none⟩ (.int .i64 (n - 1)) := by
  have h1 : (n == -1) = false := by simp; omega
  have h2 : (n == 0) = false := by simp; omega
  go_enter Try.func38, Try.ntmps38
  go_wp2
  go_ret
  exact ⟨rfl, rfl⟩

theorem refusal_nil (w : World) (a : Option Addr) (n cap : Nat) :
    Calls Try.prog 27 #[.pointer none, .slice a n cap] w fun e w' => e = .returned (.int .i64 1) ∧ w = w' := by
  go_enter Try.func27, Try.ntmps27
  go_wp2
  go_ret
  exact ⟨rfl, rfl⟩
theorem refusal_off (d : Nat) (w : World) (a : Option Addr) (n cap : Nat) (ho : w.cell? ⟨d, 1, none⟩ = some (.bool true)) :
    Calls Try.prog 27 #[.pointer (some ⟨d, 0, none⟩), .slice a n cap] w fun e w' => e = .returned (.int .i64 50) ∧ w = w' := by
  go_enter Try.func27, Try.ntmps27
  go_wp2
  go_ret
  exact ⟨rfl, rfl⟩
/-- The files that were named. -/
def Nm (w : World) (a : Option Addr) (l : List Int) : Prop :=
  l ≠ [] → ∃ b, a = some ⟨b, 0, none⟩ ∧ ∀ j, j < l.length → w.cell? ⟨b, j, none⟩ = some (.int .i64 (l.getD j 0))
def allFiles (l : List Int) : Int := if l.all isFile = true then 0 else 2
def RefRel (l : List Int) (k : Nat) : Prop := (l.take k).all isFile = true
set_option maxHeartbeats 400000 in
theorem refusal_any (d : Nat) (l : List Int) (w : World) (a : Option Addr) (cap : Nat) (ho : w.cell? ⟨d, 1, none⟩ = some (.bool false)) (hn : Nm w a l) (hlen : l.length ≤ 1000) :
    Calls Try.prog 27 #[.pointer (some ⟨d, 0, none⟩), .slice a l.length cap] w fun e w' => e = .returned (.int .i64 (allFiles l)) ∧ w = w' := by
  have HN := Lib.hid hn; clear hn
  go_enter Try.func27, Try.ntmps27
  go_wp2
  go_loop [17] (fun i => ∃ k : Nat, k ≤ l.length ∧ i = .int .i64 k ∧ RefRel l k) (fun i => l.length - (intOf i).toNat)
  case atStart => exact ⟨0, Nat.zero_le _, rfl, by simp [RefRel]⟩
  case round =>
    obtain ⟨k, hk, rfl, hr⟩ := hrel
    by_cases hlt : k < l.length
    · obtain ⟨b, rfl, hc⟩ := HN.out (by rintro rfl; simp at hlt)
      obtain ⟨x, hx⟩ : ∃ x, l.getD k 0 = x := ⟨_, rfl⟩
      have hc0 := hc k hlt
      rw [hx] at hc0
      have hget : l[k]? = some x := by rw [List.getElem?_eq_getElem hlt]; rw [List.getD_eq_getElem?_getD, List.getElem?_eq_getElem hlt] at hx; simpa using hx
      have hsn : (l.take (k + 1)).all isFile = ((l.take k).all isFile && isFile x) := by
        rw [List.take_add_one, hget, List.all_append]; simp
      have HX := Lib.hid hx; have HG := Lib.hid hget; have HS := Lib.hid hsn; have HR := Lib.hid hr
      clear hc hx hget hsn hr
      rcases hf : isFile x with _ | _
      · have HF := Lib.hid hf
        have hr : allFiles l = 2 := by
          unfold allFiles
          rw [if_neg]
          intro h
          have := List.all_eq_true.1 h x (List.mem_of_getElem? HG.out)
          rw [HF.out] at this; cases this
        have HA := Lib.hid hr
        have hf' := isFile_not.1 hf
        clear hf hr
        by_cases hneg : x < 0
        · clear hf'
          go_wp2
          go_ret
          exact ⟨by rw [HA.out]; rfl, rfl⟩
        · have h16 : 16 ≤ x := by omega
          clear hf'
          go_wp2
          go_ret
          exact ⟨by rw [HA.out]; rfl, rfl⟩
      · have h0 := (isFile_iff.1 hf).1
        have h16 := (isFile_iff.1 hf).2
        have HF := Lib.hid hf
        clear hf
        go_wp2
        go_round
        case rel => exact ⟨k + 1, by omega, by go_num, by have := HR.out; unfold RefRel at this ⊢; rw [HS.out, HF.out, this]; rfl⟩
        case measure => simp [intOf]; omega
    · obtain rfl : k = l.length := by omega
      have HA := Lib.hid (show allFiles l = 0 by unfold allFiles; rw [if_pos (by have := hr; unfold RefRel at this; rwa [List.take_length] at this)])
      have HR := Lib.hid hr; clear hr
      go_wp2
      go_ret
      exact ⟨by rw [HA.out]; rfl, rfl⟩

theorem left_nil (w : World) : Calls Try.prog 33 #[.pointer none] w fun e w' => e = .returned (.int .i64 0) ∧ w = w' := by
  go_enter Try.func33, Try.ntmps33
  go_wp2
  go_ret
  exact ⟨rfl, rfl⟩

/-! ### Files by value -/
def row16 (vs : Nat → Value) : List Value := (List.range 16).map vs
theorem row16_length (vs : Nat → Value) : (row16 vs).length = 16 := by simp [row16]
theorem row16_get (vs : Nat → Value) {j : Nat} (h : j < 16) : (row16 vs)[j]? = some (vs j) := by
  unfold row16; rw [List.getElem?_map, List.getElem?_range h]; rfl
theorem row16_congr {vs us : Nat → Value} (h : ∀ i, i < 16 → vs i = us i) : row16 vs = row16 us := List.map_congr_left fun i hi => h i (List.mem_range.1 hi)
theorem info59 : (Try.prog.info? 46).map (·.size) = some 16 := by kernel_rfl
theorem info57 : (Try.prog.info? 44).map (·.size) = some 1 := by kernel_rfl
theorem range_of_row {w : World} {b T n o : Nat} {F vs : Nat → Value} (h : w.rowIs b T n F) (ho : o + 16 ≤ n) (hF : ∀ i, i < 16 → F (o + i) = vs i) : w.rangeAt b o (row16 vs) := fun j v hv => by
  have hj : j < 16 := by have := (List.getElem?_eq_some_iff.1 hv).1; rwa [row16_length] at this
  rw [row16_get vs hj] at hv
  rw [h.cell (by omega), hF j hj, hv]
theorem run_index_row (vs : Nat → Value) (k : Nat) (hk : k < 16) (w : World) : (Instr.index 46 (.agg (row16 vs).toArray) (.int .i64 k)).run Try.prog w = .ok (vs k) w := by
  cases h57 : Try.prog.info? 44 with
  | none => have := info57; simp [h57] at this
  | some i0 =>
    have hs : i0.size = 1 := by have := info57; simpa [h57] using this
    have hg : (row16 vs).toArray[k]? = some (vs k) := by rw [List.getElem?_toArray]; exact row16_get vs hk
    simp [Instr.index, run_underlying Try.underlying46, asIntOf, Go.part, isAgg, run_underlying Try.underlying44, sizeOf, typeInfo, h57, hs, hk, Sem.run_bind, row16_get vs hk]
theorem wpList_index_row {ops : Array Oper} {rest : List Oper} {o : Oper} {a : Act} {w : World} {Q : Exit → Act → World → Prop} (hgd : o.guard = none) (x i : Operand) (ho : o.op = .index 46 x i)
    (vs : Nat → Value) (k : Nat) (v : Value) (hk : k < 16) (hx : a.eval x = .agg (row16 vs).toArray) (hi : a.eval i = .int .i64 k) (hv : vs k = v)
    (h : wpList Try.prog ops Q rest (a.put o.dst v) w) : wpList Try.prog ops Q (o :: rest) a w := by
  refine wpList_plain hgd fun K hK => ?_
  have hr := run_index_row vs k hk w
  rw [hv] at hr
  unfold Oper.wp execOp
  simp only [ho, hx, hi, Sem.run_bind, hr, Result.andThen_ok, Sem.run_pure]
  exact hK _ _ h

def totalTo (f : Files) (k : Nat) : Nat := ((List.range k).map fun i => (f i).size).sum
theorem totalTo_succ (f : Files) (k : Nat) : totalTo f (k + 1) = totalTo f k + (f k).size := by
  unfold totalTo; rw [List.range_succ, List.map_append, List.sum_append]; simp
theorem totalTo_le (f : Files) {k m : Nat} (h : k ≤ m) : totalTo f k ≤ totalTo f m := by
  induction m with
  | zero => obtain rfl : k = 0 := by omega
            exact Nat.le_refl _
  | succ m ih =>
    rcases Nat.lt_or_ge m k with h' | h'
    · obtain rfl : k = m + 1 := by omega
      exact Nat.le_refl _
    · have := ih h'; rw [totalTo_succ]; omega
set_option maxHeartbeats 400000 in
theorem left_to (d : Nat) (room : Nat) (vs : Nat → Value) (sz T : Nat → Nat) (tot : Nat) (w : World) (h0 : w.cell? ⟨d, 0, none⟩ = some (.int .i64 room)) (hr : w.rangeAt d 3 (row16 vs)) (hs : ∀ i, i < 16 → ∃ a cap, vs i = .slice a (sz i) cap)
    (h1 : room ≤ 4194304) (h2 : tot ≤ room) (hT0 : T 0 = 0) (hTs : ∀ k, T (k + 1) = T k + sz k) (hTl : ∀ k, k ≤ 16 → T k ≤ tot) (hTt : T 16 = tot) :
    Calls Try.prog 33 #[.pointer (some ⟨d, 0, none⟩)] w fun e w' => e = .returned (.int .i64 ((room : Int) - tot)) ∧ w = w' := by
  have HR := Lib.hid hr; have HS := Lib.hid hs; have HT0 := Lib.hid hT0; have HTs := Lib.hid hTs; have HTl := Lib.hid hTl; have HTt := Lib.hid hTt
  clear hr hs hT0 hTs hTl hTt
  go_enter Try.func33, Try.ntmps33
  go_wp2_with (refine wpList_load_mid rfl 46 (.tmp 14) rfl d 3 rfl (row16 vs) _ HR.out Try.underlying46 rfl (by rw [row16_length]; exact info59) ?_)
  go_loop [3, 16] (fun t i => ∃ k : Nat, k ≤ 16 ∧ i = .int .i64 k ∧ t = .int .i64 ((room : Int) - (T k : Nat))) (fun _ i => 16 - (intOf i).toNat)
  case atStart => exact ⟨0, by omega, rfl, by rw [HT0.out]; simp⟩
  case round =>
    obtain ⟨k, hk, rfl, rfl⟩ := hrel
    have hk2 := HTl.out k hk
    by_cases hlt : k < 16
    · obtain ⟨a, cap, ev⟩ := HS.out k hlt
      have HV := Lib.hid ev
      have hsu := Lib.hid (HTs.out k)
      have hsz : T k + sz k ≤ tot := by rw [← HTs.out]; exact HTl.out _ hlt
      clear ev
      go_wp2_with (refine wpList_index_row rfl (.tmp 15) (.tmp 16) rfl vs k _ hlt rfl rfl HV.out ?_)
      go_round
      case rel => exact ⟨k + 1, by omega, by go_num, by rw [hsu.out]; go_num⟩
      case measure => simp [intOf]; omega
    · obtain rfl : k = 16 := by omega
      go_wp2
      go_ret
      exact ⟨by rw [HTt.out]; rfl, rfl⟩
theorem left_any (d : Nat) (room : Nat) (vs : Nat → Value) (f : Files) (w : World) (h0 : w.cell? ⟨d, 0, none⟩ = some (.int .i64 room)) (hr : w.rangeAt d 3 (row16 vs)) (hs : ∀ i, i < 16 → ∃ a cap, vs i = .slice a (f i).size cap)
    (h1 : room ≤ 4194304) (h2 : total f ≤ room) :
    Calls Try.prog 33 #[.pointer (some ⟨d, 0, none⟩)] w fun e w' => e = .returned (.int .i64 ((room : Int) - (total f : Nat))) ∧ w = w' :=
  left_to d room vs (fun i => (f i).size) (totalTo f) (total f) w h0 hr hs h1 h2 rfl (totalTo_succ f) (fun _ h => totalTo_le f h) rfl
end Go.Proofs.Ytbnnbaoimidfnaa.dsk
