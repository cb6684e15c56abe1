/- What Len, Sure, At answer; all methods of no log. -/
import Derived.Test.YtbnnbaoimidfnaaA
import Derived.Test.YtbnnbaoimidfnaaFrG
namespace Go.Proofs.Ytbnnbaoimidfnaa.lg
set_option linter.unusedSimpArgs false
set_option linter.unusedVariables false
open Go.RowKit byt frm dsk

theorem info62r : (Try.prog.info? 62).map (·.size) = some 3 := by kernel_rfl
theorem info62 : (Try.prog.info? 62).map (fun i => (i.zero, i.size, i.bytes)) = some (some (.agg #[.int .u8 0, .string ⟨#[]⟩, .int .i64 0]), 3, 32) := by kernel_rfl
theorem below_drewN {B : Nat} {w w' : World} (h : Below B w w') (n : Nat) : Below B w (w'.drewN n) := ⟨h.os, h.tape, h.output, h.size, h.block⟩
theorem len_nil (w : World) : Calls Try.prog 10 #[.pointer none] w fun e w' => e = .returned (.int .i64 0) ∧ w = w' := by
  go_enter Try.func10, Try.ntmps10
  go_wp2
  go_ret
  exact ⟨rfl, rfl⟩
theorem sure_nil (w : World) : Calls Try.prog 13 #[.pointer none] w fun e w' => e = .returned (.int .i64 0) ∧ w = w' := by
  go_enter Try.func13, Try.ntmps13
  go_wp2
  go_ret
  exact ⟨rfl, rfl⟩
theorem at_nil (i : Int) (w : World) : Calls Try.prog 14 #[.pointer none, .int .i64 i] w fun e w' => e = .returned (.tuple #[.int .u8 0, .string ⟨#[]⟩, .int .i64 1]) ∧ w = w' := by
  go_enter Try.func14, Try.ntmps14
  go_wp2
  go_ret3
  exact ⟨rfl, rfl⟩
theorem put_nil (k : Int) (s : ByteArray) (w : World) : Calls Try.prog 11 #[.pointer none, .int .u8 k, .string s] w fun e w' => e = .returned (.int .i64 1) ∧ w = w' := by
  go_enter Try.func11, Try.ntmps11
  go_wp2
  go_ret
  exact ⟨rfl, rfl⟩
theorem sync_nil (w : World) : Calls Try.prog 15 #[.pointer none] w fun e w' => e = .returned (.int .i64 1) ∧ w = w' := by
  go_enter Try.func15, Try.ntmps15
  go_wp2
  go_ret
  exact ⟨rfl, rfl⟩
theorem cut_nil (n : Int) (w : World) : Calls Try.prog 12 #[.pointer none, .int .i64 n] w fun e w' => e = .returned (.int .i64 1) ∧ w = w' := by
  go_enter Try.func12, Try.ntmps12
  go_wp2
  go_ret
  exact ⟨rfl, rfl⟩
section
variable {w : World} {G F : Nat → Prop} {l d : Nat} {x : D} {y : Lg} {v : Value}
theorem len_any (hat : LogAt w l d y v) {n : Nat} (hn : y.recs.length = n) : Calls Try.prog 10 #[ptr l 0] w fun e w' => e = .returned (.int .i64 n) ∧ w = w' := by
  subst hn
  obtain ⟨a, cap, ev⟩ := hat.recs.len
  have h3 := hat.cell3
  rw [ev] at h3
  clear ev
  go_enter Try.func10, Try.ntmps10
  go_wp2
  go_ret
  exact ⟨rfl, rfl⟩
theorem sure_any (hat : LogAt w l d y v) {n : Nat} (hn : y.sure = n) : Calls Try.prog 13 #[ptr l 0] w fun e w' => e = .returned (.int .i64 n) ∧ w = w' := by
  subst hn
  have h3 := hat.cell4
  go_enter Try.func13, Try.ntmps13
  go_wp2
  go_ret
  exact ⟨rfl, rfl⟩
theorem Row.range3 {g cap n : Nat} {l : List Fr} {k : Nat} {r : Fr} (h : Row w 62 3 (.slice (some ⟨g, 0, none⟩) n cap) n (rowsFrom 0 l)) (hr : l[k]? = some r) : w.rangeAt g (k * 3) [.int .u8 (r.1.1 : Nat), .string r.1.2, .int .i64 (whl (l.take k) : Nat)] := by
  obtain ⟨h1, h2, h3⟩ := rowsFrom_get 0 l k r hr
  rw [Nat.zero_add] at h3
  intro j u hj
  match j, hj with
  | 0, hj => simp at hj; subst hj; exact h.cellAt h1
  | 1, hj => simp at hj; subst hj; exact h.cellAt h2
  | 2, hj => simp at hj; subst hj; exact h.cellAt h3
  | (j + 3), hj => simp at hj
theorem some_of {l : List Fr} {n k : Nat} {r : Fr} (h : Row w 62 3 v n (rowsFrom 0 l)) (hn : n = l.length) (hr : l[k]? = some r) : ∃ g cap, v = .slice (some ⟨g, 0, none⟩) n cap ∧ n ≤ cap ∧ cap ≤ maxLen := by
  rcases h.form with ⟨_, h0⟩ | h
  · have := (List.getElem?_eq_some_iff.1 hr).1; omega
  · exact h
set_option maxRecDepth 100000 in
theorem at_any (hat : LogAt w l d y v) {k : Nat} {r : Fr} (hr : y.recs[k]? = some r) :
    Calls Try.prog 14 #[ptr l 0, .int .i64 k] w fun e w' => e = .returned (.tuple #[.int .u8 (r.1.1 : Nat), .string r.1.2, .int .i64 0]) ∧ Below w.heap.size w w' := by
  have hk := (List.getElem?_eq_some_iff.1 hr).1
  obtain ⟨g, cap, rfl, h1, h2⟩ := some_of hat.recs rfl hr
  have h3 := hat.cell3
  have HC := Lib.hid (hat.recs.range3 hr)
  obtain ⟨t, ht⟩ : ∃ t : Nat, whl (y.recs.take k) = t := ⟨_, rfl⟩
  rw [ht] at HC
  have hlt : (k : Int) < (y.recs.length : Int) := by omega
  have hge : (0 : Int) ≤ (k : Int) := by omega
  clear hat hr
  go_enter Try.func14, Try.ntmps14
  go_wp2_with (first | (refine wpList_load_mid rfl 62 (.tmp 28) rfl g (k * 3) rfl [.int .u8 (r.1.1 : Nat), .string r.1.2, .int .i64 t] _ HC.out Try.underlying62 rfl info62r ?_) | (go_quiet (fail)))
  go_ret3
  exact ⟨rfl, below_drewN ((Below.refl _ w).alloc (Nat.le_refl _) _) _⟩
end
end Go.Proofs.Ytbnnbaoimidfnaa.lg
