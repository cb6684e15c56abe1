/- The reference's reader in memory: what number and many answer, and what they leave. -/
import Derived.Test.YtghpbhcnblninaaTcC
import Derived.Test.YtghpbhcnblninaaTbT
import Derived.Test.YtghpbhcnblninaaByG
import Derived.Test.YtghpbhcnblninaaByK
namespace Go.Proofs.Ytghpbhcnblninaa.tbl.ref
set_option linter.unusedSimpArgs false
set_option linter.unusedVariables false
open Go.RowKit
attribute [local go_sem ↓] Go.wp_at_zero Go.wp_at_succ
open Go.Proofs.Ytghpbhcnblninaa.grp (gof gof_in fits fits_wf IRow intV below_on' below_made ret_bool own_below ret_int)
open Go.Proofs.Ytghpbhcnblninaa.byt (txt bl)
def RdAt (w : World) (R : Nat) (s : St) : Prop := w.heap[R]? = some (.cells #[.string (txt s.1), .int .i64 s.2] 93 (0, 0))
theorem RdAt.facts {w : World} {R : Nat} {s : St} (h : RdAt w R s) : w.cell? ⟨R, 0, none⟩ = some (.string (txt s.1)) ∧ w.cell? ⟨R, 1, none⟩ = some (.int .i64 s.2) ∧ w.frozen? ⟨R, 0, none⟩ = false ∧ w.frozen? ⟨R, 1, none⟩ = false :=
  ⟨by rw [cell_of_row w R 0 _ _ _ h]; rfl, by rw [cell_of_row w R 1 _ _ _ h]; rfl, frozen_of_row w R 0 _ _ h, frozen_of_row w R 1 _ _ h⟩
theorem RdAt.set {w : World} {R : Nat} {s : St} (h : RdAt w R s) (l : List UInt8) (c : Int) : RdAt ((w.setCell ⟨R, 0, none⟩ (.string (txt l))).setCell ⟨R, 1, none⟩ (.int .i64 c)) R (l, c) := by
  unfold RdAt at *
  rw [heap_setCell_same _ R 1 #[.string (txt l), .int .i64 s.2] 93 _ (by rw [heap_setCell_same w R 0 _ _ _ h]; rfl)]; rfl
theorem RdAt.setC {w : World} {R : Nat} {s : St} (h : RdAt w R s) (c : Int) : RdAt (w.setCell ⟨R, 1, none⟩ (.int .i64 c)) R (s.1, c) := by
  unfold RdAt at *
  rw [heap_setCell_same w R 1 _ _ _ h]; rfl
theorem RdAt.below {w w' : World} {R : Nat} {s : St} (h : RdAt w R s) (hb : Below w.heap.size w w') : RdAt w' R s := (hb.block R (lt_of_get h)).trans h
theorem only_two (w : World) (R : Nat) (u v : Value) : Only (· = R) w ((w.setCell ⟨R, 0, none⟩ u).setCell ⟨R, 1, none⟩ v) := (Only.setCell w R 0 u).then (Only.setCell _ R 1 v)
def NumPost (R : Nat) (s : St) (w : World) (e : Ending) (w' : World) : Prop := e = .returned (.int .i64 (numO s).1) ∧ RdAt w' R (numO s).2 ∧ Only (· = R) w w'
theorem rows_R {w w' : World} {R : Nat} {s : St} (h : RdAt w R s) (ho : Only (· = R) w w') : Rows2 w w' := .of_only ho (fun g cur fr hg he => by rw [hg, h] at he; cases he)
theorem take_words {l : List UInt8} {n : Int} {k : Nat} {c : Int} (h : byt.take l = (n, k, c)) (w : World) (hl : (txt l).size ≤ 9223372036854775807) :
    Calls Try.prog 68 #[.string (txt l)] w fun e w' => e = .returned (.tuple #[.int .i64 n, .int .i64 k, .int .i64 c]) ∧ w' = w := by
  refine (byt.refTake_any (txt l) w hl).mono ?_
  rintro e w' ⟨he, rfl⟩
  refine ⟨?_, rfl⟩
  rw [he]
  unfold byt.takeE
  rw [byt.txt_bl, h]
set_option maxHeartbeats 800000 in
theorem number_any {w : World} {R : Nat} {s : St} (h : RdAt w R s) (hl : s.1.length ≤ 1000000) : Calls Try.prog 53 #[.pointer (some ⟨R, 0, none⟩)] w (NumPost R s w) := by
  obtain ⟨c0, c1, f0, f1⟩ := h.facts
  have hP : NumPost R s w = fun e w' => e = .returned (.int .i64 (numO s).1) ∧ RdAt w' R (numO s).2 ∧ Only (· = R) w w' := rfl
  rw [hP]
  by_cases h2 : s.2 = 0
  · have hsz : (txt s.1).size ≤ 9223372036854775807 := by rw [byt.txt_size]; omega
    obtain ⟨n, hn⟩ : ∃ n, (byt.take s.1).1 = n := ⟨_, rfl⟩
    obtain ⟨k, hk⟩ : ∃ n, (byt.take s.1).2.1 = n := ⟨_, rfl⟩
    obtain ⟨c, hc⟩ : ∃ n, (byt.take s.1).2.2 = n := ⟨_, rfl⟩
    have ht : byt.take s.1 = (n, k, c) := by rw [← hn, ← hk, ← hc]
    have hks : k ≤ (txt s.1).size := by
      rw [byt.txt_size]
      by_cases e : c = 0
      · have := (byt.take_size (by rw [hc]; exact e)).2.2.1; omega
      · rcases byt.take_bad (by rw [hc]; exact e) with e2 | e2 <;> (rw [e2] at hk; simp at hk; omega)
    have hO : numO s = (n, (s.1.drop k, c)) := by rw [num_ok h2, hn, hk, hc]
    have HTA := Lib.hid (take_words ht w hsz)
    have hki : (k : Int) ≤ ((txt s.1).size : Int) := by omega
    have he := txt_drop s.1 k
    have HF : Hid (RdAt ((w.setCell ⟨R, 1, none⟩ (.int .i64 c)).setCell ⟨R, 0, none⟩ (.string (txt (s.1.drop k)))) R (s.1.drop k, c)) := Lib.hid (by
      have h1 := h.setC c
      unfold RdAt at h1 ⊢
      rw [heap_setCell_same _ R 0 _ _ _ h1]; rfl)
    have HQ : Hid (Only (· = R) w ((w.setCell ⟨R, 1, none⟩ (.int .i64 c)).setCell ⟨R, 0, none⟩ (.string (txt (s.1.drop k))))) := Lib.hid ((Only.setCell w R 1 _).then (Only.setCell _ R 0 _))
    rw [hO]
    rw [h2] at c1
    obtain ⟨S, hS⟩ : ∃ S, txt s.1 = S := ⟨_, rfl⟩
    obtain ⟨T, hT⟩ : ∃ T, txt (s.1.drop k) = T := ⟨_, rfl⟩
    rw [hS] at c0 hks hki HTA he
    rw [hT] at he HF HQ
    obtain ⟨Z, hZ⟩ : ∃ Z, S.size = Z := ⟨_, rfl⟩
    rw [hZ] at hks hki he
    clear hP h hl hsz hn hk hc ht hO h2 hS hT
    go_enter Try.func53, Try.ntmps53
    go_wp2_with fail
    refine HTA.out.mono ?_
    rintro e w1 ⟨rfl, rfl⟩
    go_wp2_with fail
    go_ret
    exact ⟨rfl, HF.out, HQ.out⟩
  · have hne : (s.2 != 0) = true := by simp [h2]
    have HF := Lib.hid h
    rw [num_bad h2]
    obtain ⟨c, hc⟩ : ∃ c, s.2 = c := ⟨_, rfl⟩
    rw [hc] at c1 hne
    clear hP h hl h2 hc
    go_enter Try.func53, Try.ntmps53
    go_wp2_with fail
    go_ret
    exact ⟨rfl, HF.out, Only.refl _ _⟩
theorem within_any {w : World} {R : Nat} {s : St} (most : Int) (hmo : 0 ≤ most) (h : RdAt w R s) (hl : s.1.length ≤ 1000000) : Calls Try.prog 52 #[.pointer (some ⟨R, 0, none⟩), .int .i64 most] w fun e w' => e = .returned (.int .i64 (withinO most s).1) ∧ RdAt w' R (withinO most s).2 ∧ Only (· = R) w w' := by
  have HN := Lib.hid (number_any h hl)
  unfold NumPost at HN
  have HW : Hid (withinO most s = if (numO s).1 < 0 ∨ most < (numO s).1 then (0, ((numO s).2.1, 21)) else numO s) := Lib.hid rfl
  have hz := num_zero (s := s)
  obtain ⟨n, hn⟩ : ∃ n, (numO s).1 = n := ⟨_, rfl⟩
  obtain ⟨s1, hs1⟩ : ∃ s1, (numO s).2 = s1 := ⟨_, rfl⟩
  have he : numO s = (n, s1) := by rw [← hn, ← hs1]
  rw [he] at HN HW hz
  dsimp only at HN HW hz
  rw [HW.out]
  clear h hl HW hn hs1 he
  by_cases hs0 : s1.2 = 0
  · by_cases h0 : n < 0
    · rw [if_pos (.inl h0)]
      clear hz
      go_enter Try.func52, Try.ntmps52
      go_wp2_with fail
      refine HN.out.mono ?_
      rintro e w1 ⟨rfl, hr, ho⟩
      obtain ⟨c0, c1, f0, f1⟩ := hr.facts
      rw [hs0] at c1
      have HF := Lib.hid (hr.setC 21)
      have HO := Lib.hid (ho.then (Only.setCell w1 R 1 (.int .i64 21)))
      clear hr ho
      go_wp2_with fail
      go_ret
      exact ⟨rfl, HF.out, HO.out⟩
    · by_cases h1 : most < n
      · rw [if_pos (.inr h1)]
        clear hz
        go_enter Try.func52, Try.ntmps52
        go_wp2_with fail
        refine HN.out.mono ?_
        rintro e w1 ⟨rfl, hr, ho⟩
        obtain ⟨c0, c1, f0, f1⟩ := hr.facts
        rw [hs0] at c1
        have HF := Lib.hid (hr.setC 21)
        have HO := Lib.hid (ho.then (Only.setCell w1 R 1 (.int .i64 21)))
        clear hr ho
        go_wp2_with fail
        go_ret
        exact ⟨rfl, HF.out, HO.out⟩
      · rw [if_neg (fun e => by rcases e with e | e; exact h0 e; exact h1 e)]
        clear hz
        go_enter Try.func52, Try.ntmps52
        go_wp2_with fail
        refine HN.out.mono ?_
        rintro e w1 ⟨rfl, hr, ho⟩
        obtain ⟨c0, c1, f0, f1⟩ := hr.facts
        rw [hs0] at c1
        have HF := Lib.hid hr
        have HO := Lib.hid ho
        clear hr ho
        go_wp2_with fail
        go_ret
        exact ⟨rfl, HF.out, HO.out⟩
  · have hn0 := hz hs0
    subst hn0
    rw [if_neg (fun e => by omega)]
    clear hz
    go_enter Try.func52, Try.ntmps52
    go_wp2_with fail
    refine HN.out.mono ?_
    rintro e w1 ⟨rfl, hr, ho⟩
    obtain ⟨c0, c1, f0, f1⟩ := hr.facts
    have HF := Lib.hid hr
    have HO := Lib.hid ho
    obtain ⟨c, hc⟩ : ∃ c, s1.2 = c := ⟨_, rfl⟩
    rw [hc] at c1 hs0
    have hne : (c != 0) = true := by simp [hs0]
    have hne2 : (c == 0) = false := by simp [hs0]
    clear hr ho hc
    go_wp2_with fail
    go_ret
    exact ⟨rfl, HF.out, HO.out⟩
end Go.Proofs.Ytghpbhcnblninaa.tbl.ref
