/- SumOf returns true of every row of parts that together hold at most 1048576 bytes, in whatever world, and turns nothing that was there. -/
import Derived.Test.YtcjheicmicbmjaaJ
import Derived.Test.YtcjheicmicbmjaaL3
namespace Go.Proofs.Ytcjheicmicbmjaa
open Go.RowKit

theorem join_empty : ∀ (xs : List (List UInt8)), Lib.join xs [] = xs.flatten
  | [] => rfl
  | [x] => by simp [Lib.join, List.intercalate]
  | x :: y :: r => by
    have ih := join_empty (y :: r)
    unfold Lib.join List.intercalate at ih ⊢
    simp at ih ⊢
    exact ih
theorem join_fl (l : List ByteArray) : Lib.join (l.map (·.data.toList)) [] = fl l := by
  rw [join_empty, fl, List.flatMap_def]
/-- strings.Join of a row of parts, with nothing between them. -/
theorem joined_any (l : List ByteArray) (a : Option Addr) (cap : Nat) (w : World) (hr : Rd w w.heap.size a l) (hl : l.length ≤ cap) (hn : l.length ≤ 1048576) (hf : (fl l).length ≤ 1048576) :
    Calls Try.prog 8 #[.slice a l.length cap, .string ⟨#[]⟩] w fun e w' => e = .returned (.string (txt (fl l))) ∧ Below w.heap.size w w' := by
  by_cases h0 : l = []
  · subst h0
    refine (Try.strings_Join_none _ _ _ w).mono ?_
    rintro e w' ⟨rfl, rfl⟩
    exact ⟨rfl, Below.refl _ _⟩
  · obtain ⟨b, o, rfl, hb, hc⟩ := hr h0
    have hj : Lib.join (l.map (·.data.toList)) (⟨#[]⟩ : ByteArray).data.toList = fl l := join_fl l
    refine (Try.strings_Join b o cap l ⟨#[]⟩ w (fun j x hx => ?_) hb (by omega) hl (by rw [hj]; omega)).mono ?_
    · have hjl : j < l.length := by
        rcases Nat.lt_or_ge j l.length with h5 | h5
        · exact h5
        · rw [List.getElem?_eq_none h5] at hx; cases hx
      have := hc j hjl
      rw [List.getD_eq_getElem?_getD, hx] at this
      exact this
    · rintro e w' ⟨rfl, h2⟩
      exact ⟨by rw [hj]; rfl, h2⟩
theorem fl_mem {l : List ByteArray} {s : ByteArray} (h : s ∈ l) : s.size ≤ (fl l).length := by
  induction l with
  | nil => cases h
  | cons x l ih =>
    rw [fl_cons, List.length_append, bl_length]
    rcases List.mem_cons.1 h with rfl | h2
    · omega
    · have := ih h2; omega
theorem txt_fl_size (l : List ByteArray) : (txt (fl l)).size = (fl l).length := txt_size _

set_option maxHeartbeats 800000 in
set_option maxRecDepth 1000000 in
theorem law_of (l : List ByteArray) (a : Option Addr) (cap : Nat) (w : World) (hr : Rd w w.heap.size a l) (hl : l.length ≤ cap) (hn : l.length ≤ 1048576) (hf : (fl l).length ≤ 1048576) :
    Calls Try.prog 3 #[.slice a l.length cap] w fun e w' => e = .returned (.bool true) ∧ Below w.heap.size w w' := by
  have HR := Lib.hid hr
  have HS := Lib.hid (fun (s : ByteArray) (h : s ∈ l) => show s.size ≤ 9223372036854775807 by have := fl_mem h; omega)
  have HZ := Lib.hid (txt_fl_size l)
  have HJ := Lib.hid (joined_any l a cap w hr hl hn hf)
  have HC := Lib.hid (bl_txt (fl l))
  obtain ⟨t, et⟩ : ∃ t, txt (fl l) = t := ⟨_, rfl⟩
  obtain ⟨x, ex⟩ : ∃ x, sm (fl l) = x := ⟨_, rfl⟩
  have HX := Lib.hid ex
  rw [et] at HZ HJ HC
  clear hr et ex
  by_cases hbig : 100000 < t.size
  · have hb' : (100000 : Int) < (t.size : Int) := by omega
    clear hbig
    go_enter Try.func3, Try.ntmps3
    go_wp2_with fail
    refine HJ.out.mono ?_
    rintro e w1 ⟨rfl, hb⟩
    have HB := Lib.hid hb; clear hb
    go_wp2_with fail
    refine (works_any _).mono ?_
    rintro e w2 ⟨rfl, hb⟩
    have HB := Lib.hid (below_on' HB.out hb); clear hb
    go_wp2_with fail
    go_ret
    exact ⟨rfl, HB.out⟩
  · have hb' : (t.size : Int) ≤ 100000 := by omega
    clear hbig
    go_enter Try.func3, Try.ntmps3
    go_wp2_with fail
    refine HJ.out.mono ?_
    rintro e w1 ⟨rfl, hb⟩
    have HB := Lib.hid hb; clear hb
    go_wp2_with fail
    refine (of_any l a cap w1 (HR.out.on HB.out) HS.out (by omega)).mono ?_
    rintro e w2 ⟨rfl, hb⟩
    rw [HX.out]
    have HB := Lib.hid (below_on' HB.out hb); clear hb
    go_wp2_with fail
    refine (refOf_at HC.out _ (by omega)).mono ?_
    rw [HX.out]
    rintro e w3 ⟨rfl, rfl⟩
    go_wp2_with fail
    refine (works_any _).mono ?_
    rintro e w3 ⟨rfl, hb⟩
    have HB := Lib.hid (below_on' HB.out hb); clear hb
    go_wp2_with fail
    go_ret
    exact ⟨rfl, HB.out⟩
end Go.Proofs.Ytcjheicmicbmjaa
