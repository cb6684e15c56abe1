/- BytesTakes returns true of every text, in whatever world, and turns nothing that was there. -/
import Derived.Test.YtnkpkmfobmbneaaL1
namespace Go.Proofs.Ytnkpkmfobmbneaa
open Go.RowKit

theorem numsO_many (s : ByteArray) : (numsO s).1.length ≤ s.size := by
  have := nums_many s.size [] (bl s) (Nat.le_refl _)
  simpa [numsO, bl_length] using this
theorem equal_same {w : World} {l : List Int} {a a' : Option Addr} (c c' : Nat) (h : Rd w w.heap.size a l) (h' : Rd w w.heap.size a' l) (hl : l.length ≤ 1000000) :
    Calls Try.prog 19 #[.slice a l.length c, .slice a' l.length c'] w fun e w' => e = .returned (.bool true) ∧ Below w.heap.size w w' := by
  refine (equal_any l l a a' c c' w h h' hl hl).mono ?_
  rintro e w' ⟨rfl, hb⟩
  exact ⟨by simp, hb⟩

set_option maxHeartbeats 1600000 in
set_option maxRecDepth 1000000 in
theorem law_takes (s : ByteArray) (hs : s.size ≤ maxLen) (w : World) : Calls Try.prog 5 #[.string s] w fun e w' => e = .returned (.bool true) ∧ Below w.heap.size w w' := by
  unfold maxLen at hs
  by_cases hl : 10000 < s.size
  · go_enter Try.func5, Try.ntmps5
    go_wp2_with fail
    refine (works_any _).mono ?_
    rintro e w1 ⟨rfl, hb⟩
    have HB := Lib.hid hb; clear hb
    go_wp2_with fail
    go_ret
    exact ⟨rfl, HB.out⟩
  · obtain ⟨n, k, c, ht⟩ : ∃ n k c, take (bl s) = (n, k, c) := ⟨_, _, _, rfl⟩
    obtain ⟨l, d, hn⟩ : ∃ l d, numsO s = (l, d) := ⟨_, _, rfl⟩
    obtain ⟨t, m, f, hx⟩ : ∃ t m f, textO s = (t, m, f) := ⟨_, _, _, rfl⟩
    have hll : l.length ≤ 1000000 := by have := numsO_many s; rw [hn] at this; simp only at this; omega
    have HT := Lib.hid ht; have HN := Lib.hid hn; have HX := Lib.hid hx
    clear ht hn hx
    go_enter Try.func5, Try.ntmps5
    go_wp2_with fail
    refine (take_of HT.out _ (by omega)).mono ?_
    rintro e w1 ⟨rfl, rfl⟩
    go_wp2_with fail
    refine (refTake_of HT.out _ (by omega)).mono ?_
    rintro e w1 ⟨rfl, rfl⟩
    go_wp2_with fail
    refine (numbers_at HN.out _ (by omega)).mono ?_
    rintro e w1 ⟨a1, c1, rfl, hr, hb⟩
    have HB := Lib.hid hb; have HR := Lib.hid hr
    clear hb hr
    go_wp2_with fail
    refine (refNumbers_at HN.out _ (by omega)).mono ?_
    rintro e w2 ⟨a2, c2, rfl, hr, hb⟩
    have HR := Lib.hid (HR.out.on hb)
    have HR2 := Lib.hid hr
    have HB := Lib.hid (below_on' HB.out hb)
    clear hb hr
    go_wp2_with fail
    refine (equal_same c1 c2 HR.out HR2.out hll).mono ?_
    rintro e w3 ⟨rfl, hb⟩
    have HB := Lib.hid (below_on' HB.out hb); clear hb
    go_wp2_with fail
    refine (takeText_at HX.out _ (by omega)).mono ?_
    rintro e w4 ⟨rfl, rfl⟩
    go_wp2_with fail
    refine (refTakeText_at HX.out _ (by omega)).mono ?_
    rintro e w4 ⟨rfl, rfl⟩
    go_wp2_with fail
    refine (works_any _).mono ?_
    rintro e w4 ⟨rfl, hb⟩
    have HB := Lib.hid (below_on' HB.out hb); clear hb
    go_wp2_with fail
    go_ret
    exact ⟨rfl, HB.out⟩
end Go.Proofs.Ytnkpkmfobmbneaa
