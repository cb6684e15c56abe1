/- The statements' own check: numbers are put together. -/
import Derived.Test.YtepdecnegihhhaaGreatDoorIdI
import Derived.Test.YtepdecnegihhhaaGreatDoorMOq
set_option linter.unusedSimpArgs false
set_option linter.unusedVariables false
namespace Go.Proofs.YtepdecnegihhhaaGreatDoor.idl
open Go.RowKit
open opr (Rc Sr Own acc0)
open tbl (Two lt_of_get putO)
open grp (below_on' below_made fits)
open exp (intO)
attribute [local go_sem ↓] Go.wp_at_zero Go.wp_at_succ
theorem sum_one : intO exSum ⟨5, 2, acc0 [] 5⟩ = 2 := by kernel_rfl
theorem sum_two : intO exSum ⟨5, 4, acc0 [(5, (2, []))] 5⟩ = 6 := by kernel_rfl
theorem feed_one {B : Nat} {w : World} {d t b : Nat} (h : IsSums B w d t b []) :
  Calls Tryz.prog 9 #[.pointer (some ⟨d, 0, none⟩), .int .i64 5, .int .i64 2] w fun e w' => ∃ v', e = .returned v' ∧ Own w' w.heap.size v' [(1, 5, 2)] ∧ IsSums B w' d t b [(5, (2, []))] ∧ tbl.Only (Two t b) w w' :=
 feed_sums h ⟨by decide, by decide⟩ sum_one ⟨by decide, by decide⟩ (by decide)
theorem feed_two {B : Nat} {w : World} {d t b : Nat} (h : IsSums B w d t b [(5, (2, []))]) :
  Calls Tryz.prog 9 #[.pointer (some ⟨d, 0, none⟩), .int .i64 5, .int .i64 4] w fun e w' => ∃ v', e = .returned v' ∧ Own w' w.heap.size v' [(1, 5, 6)] ∧ IsSums B w' d t b [(5, (6, []))] ∧ tbl.Only (Two t b) w w' :=
 feed_sums h ⟨by decide, by decide⟩ sum_two ⟨by decide, by decide⟩ (by decide)
theorem feed_six {B : Nat} {w : World} {d t b : Nat} (h : IsSums B w d t b []) :
  Calls Tryz.prog 9 #[.pointer (some ⟨d, 0, none⟩), .int .i64 6, .int .i64 1] w fun e w' => ∃ v', e = .returned v' ∧ Own w' w.heap.size v' [(1, 6, 1)] ∧ IsSums B w' d t b [(6, (1, []))] ∧ tbl.Only (Two t b) w w' :=
 feed_sums h ⟨by decide, by decide⟩ (show intO exSum ⟨6, 1, acc0 [] 6⟩ = 1 by kernel_rfl) ⟨by decide, by decide⟩ (by decide)
theorem same_rec {w : World} {u : Value} {B : Nat} (k v : Int) (h : Own w B u [(1, k, v)]) :
  Calls Tryz.prog 8 #[u, .slice (some ⟨w.heap.size, 0, none⟩) 1 1] (w.alloc (.cells #[.int .i64 1, .int .i64 k, .int .i64 v] 34)) fun e w' => e = .returned (.bool true) ∧ Below w.heap.size w w' := by
 have hb := below_made w (.cells #[.int .i64 1, .int .i64 k, .int .i64 v] 34)
 have h2 := opr.sr_made w [(1, k, v)] (by simp) (by simp) #[.int .i64 1, .int .i64 k, .int .i64 v] rfl
 have h1 := opr.equal_any (h.below hb).sr h2 (by simp) (by simp)
 rw [decide_eq_true rfl] at h1
 refine h1.mono ?_
 rintro e w' ⟨rfl, hb'⟩
 exact ⟨rfl, below_on' hb hb'⟩
set_option maxHeartbeats 1600000 in
set_option maxRecDepth 1000000 in
theorem works_any {w : World} (hk : sc.KTab w) (ht : jb.Tab w) : Calls Tryz.prog 7 #[] w fun e w' => e = .returned (.bool true) ∧ Below w.heap.size w w' := by
 have HM : Hid (Calls Tryz.prog 6 #[.string sumsT] w fun e w' => ∃ a c, e = .returned (.agg #[.int .i64 2, .slice a 3 c]) ∧ jb.Nodes w' (.slice a 3 c) sumsN ∧ Below w.heap.size w w') := Lib.hid (made_sums hk ht)
 have HT := Lib.hid (fun w' (hb : Below w.heap.size w w') => ht.on hb)
 unfold sumsT at HM
 clear hk ht
 go_enter Tryz.func7, Tryz.ntmps7
 go_wp2_with fail
 refine HM.out.mono ?_
 rintro e w1 ⟨a, c, rfl, hn, hb1⟩
 have HN := Lib.hid (new_sums (HT.out w1 hb1) hn)
 have HB1 := Lib.hid hb1
 clear hn hb1 HM
 go_wp2_with fail
 refine HN.out.mono ?_
 rintro e w2 ⟨d, t, b, rfl, hs, hb2⟩
 have HF1 := Lib.hid (feed_one hs)
 have HL := Lib.hid hs.lo
 have HB2 := Lib.hid (HB1.out.trans (hb2.mono HB1.out.size))
 clear hs hb2
 go_wp2_with fail
 refine HF1.out.mono ?_
 rintro e w3 ⟨v3, rfl, ho3, hs3, hon3⟩
 obtain ⟨a3, c3, rfl⟩ := ho3.len
 have HE3 := Lib.hid (same_rec 5 2 ho3)
 have HS3 := Lib.hid hs3
 have HB3 : Hid (Below w.heap.size w w3) := Lib.hid (HB2.out.trans (hon3.below HB2.out.size (fun k e => by have := HL.out; have := HB1.out.size; rcases e with e | e <;> omega)))
 dsimp only [List.length_cons, List.length_nil] at HE3 ⊢
 clear ho3 hs3 hon3 HF1
 go_wp2_with fail
 refine HE3.out.mono ?_
 rintro e w4 ⟨rfl, hb4⟩
 have HF2 := Lib.hid (feed_two (HS3.out.below hb4))
 have HB4 := Lib.hid (HB3.out.trans (hb4.mono HB3.out.size))
 clear hb4
 go_wp2_with fail
 refine HF2.out.mono ?_
 rintro e w5 ⟨v5, rfl, ho5, hs5, hon5⟩
 obtain ⟨a5, c5, rfl⟩ := ho5.len
 have HE5 := Lib.hid (same_rec 5 6 ho5)
 have HB5 : Hid (Below w.heap.size w w5) := Lib.hid (HB4.out.trans (hon5.below HB4.out.size (fun k e => by have := HL.out; have := HB1.out.size; rcases e with e | e <;> omega)))
 dsimp only [List.length_cons, List.length_nil] at HE5 ⊢
 clear ho5 hs5 hon5 HF2
 go_wp2_with fail
 refine HE5.out.mono ?_
 rintro e w6 ⟨rfl, hb6⟩
 have HB6 := Lib.hid (HB5.out.trans (hb6.mono HB5.out.size))
 clear hb6
 go_wp2_with fail
 go_ret
 exact ⟨rfl, HB6.out⟩
end Go.Proofs.YtepdecnegihhhaaGreatDoor.idl
