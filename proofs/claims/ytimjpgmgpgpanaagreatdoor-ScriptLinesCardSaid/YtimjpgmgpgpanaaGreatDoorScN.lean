/- The document's examples. -/
import Derived.Test.YtimjpgmgpgpanaaGreatDoorScM
namespace Go.Proofs.YtimjpgmgpgpanaaGreatDoor.sc
set_option linter.unusedSimpArgs false
set_option linter.unusedVariables false
open Go.RowKit nam exp jb

def smallT : ByteArray := ⟨#[112, 97, 114, 32, 50, 10, 115, 32, 115, 111, 117, 114, 99, 101, 10, 109, 32, 109, 97, 112, 32, 115, 32, 58, 32, 118, 97, 108, 32, 43, 32, 49, 10, 116, 32, 115, 105, 110, 107, 32, 109]⟩
def smallL : ByteArray := ⟨#[112, 97, 114, 32, 50, 10, 115, 32, 115, 111, 117, 114, 99, 101, 10, 109, 32, 109, 97, 112, 32, 115, 32, 58, 32, 40, 118, 97, 108, 32, 43, 32, 49, 41, 10, 116, 32, 115, 105, 110, 107, 32, 109, 10]⟩
def smallN : List Nd := [⟨⟨#[115]⟩, 1, [], Ex.zero, 0⟩, ⟨⟨#[109]⟩, 2, [0], ⟨7, 0, [⟨3, 0, []⟩, ⟨1, 1, []⟩]⟩, 0⟩, ⟨⟨#[116]⟩, 9, [1], Ex.zero, 0⟩]
set_option maxRecDepth 1000000 in
theorem parse_small : parseJ smallT = (2, smallN, 0, 0) := by kernel_rfl
set_option maxRecDepth 1000000 in
theorem text_small : textO 2 smallN = (smallL, 0) := by kernel_rfl
set_option maxRecDepth 1000000 in
theorem parse_1 : parseJ ⟨#[112, 97, 114, 32, 49, 10, 115, 32, 115, 111, 117, 114, 99, 101, 10, 116, 32, 115, 105, 110, 107, 32, 120]⟩ = (0, [], 3, 130) := by kernel_rfl
set_option maxRecDepth 1000000 in
theorem parse_2 : parseJ ⟨#[112, 97, 114, 32, 49, 10, 115, 32, 115, 111, 117, 114, 99, 101, 10, 116, 32, 115, 105, 110, 107, 32, 115, 32, 58, 32, 49]⟩ = (0, [], 3, 130) := by kernel_rfl
set_option maxRecDepth 1000000 in
theorem parse_3 : parseJ ⟨#[]⟩ = (0, [], 0, 130) := by kernel_rfl
set_option maxRecDepth 1000000 in
theorem parse_4 : parseJ ⟨#[112, 97, 114, 32, 49, 10, 10, 35, 32, 120, 10, 115, 32, 115, 111, 117, 114, 99, 101, 10, 109, 32, 109, 97, 112, 32, 115, 32, 58, 32, 49, 32, 60, 32, 50, 10, 116, 32, 115, 105, 110, 107, 32, 109]⟩ = (0, [], 5, 120) := by kernel_rfl
theorem fine_small : Fine smallN := by
  refine ⟨fun nd h => ?_, fun nd h => ?_, by decide⟩
  · simp only [smallN, List.mem_cons, List.not_mem_nil, or_false] at h
    rcases h with rfl | rfl | rfl
    · exact ⟨by decide, by decide, by decide, by decide, by unfold Num; kernel_rfl, by decide⟩
    · exact ⟨by decide, by decide, by decide, by decide, by unfold Num; kernel_rfl, by decide⟩
    · exact ⟨by decide, by decide, by decide, by decide, by unfold Num; kernel_rfl, by decide⟩
  · simp only [smallN, List.mem_cons, List.not_mem_nil, or_false] at h
    rcases h with rfl | rfl | rfl <;> decide
theorem parse_of {s : ByteArray} {o : Res} (h : parseJ s = o) {w : World} (hk : KTab w) (ht : jb.Tab w) : Calls Tryz.prog 7 #[.string s] w fun e w' =>
    ∃ a c, e = .returned (.tuple #[.agg #[.int .i64 o.1, .slice a o.2.1.length c], .int .i64 o.2.2.1, .int .i64 o.2.2.2]) ∧ Nodes w' (.slice a o.2.1.length c) o.2.1 ∧ Below w.heap.size w w' := by
  have := parse_any s hk ht
  rw [h] at this
  refine this.mono ?_
  rintro e w' ⟨v, rfl, hn, hb⟩
  obtain ⟨a, c, rfl, -, -⟩ := hn.nodes
  exact ⟨a, c, rfl, hn.nodes, hb⟩
set_option maxHeartbeats 800000 in
set_option maxRecDepth 1000000 in
theorem works_any {w : World} (hk : KTab w) (ht : jb.Tab w) (htab : exp.Tab w.heap.size w) : Calls Tryz.prog 8 #[] w fun e w' => e = .returned (.bool true) ∧ Below w.heap.size w w' := by
  have HP := Lib.hid (parse_of parse_small hk ht)
  have HT : Hid (∀ w' v, Below w.heap.size w w' → Nodes w' v smallN → Calls Tryz.prog 10 #[.agg #[.int .i64 2, v]] w' fun e w'' => e = .returned (.tuple #[.string smallL, .int .i64 0]) ∧ Below w'.heap.size w' w'') := Lib.hid (fun w' v hb hn => by
    have := text_any 2 (hk.on hb) (ht.on hb) (tab_on htab hb) hn fine_small
    rw [text_small] at this
    exact this)
  have HL : Hid (smallL.toList == [112, 97, 114, 32, 50, 10, 115, 32, 115, 111, 117, 114, 99, 101, 10, 109, 32, 109, 97, 112, 32, 115, 32, 58, 32, 40, 118, 97, 108, 32, 43, 32, 49, 41, 10, 116, 32, 115, 105, 110, 107, 32, 109, 10]) := Lib.hid (lex.str_eq (l := [112, 97, 114, 32, 50, 10, 115, 32, 115, 111, 117, 114, 99, 101, 10, 109, 32, 109, 97, 112, 32, 115, 32, 58, 32, 40, 118, 97, 108, 32, 43, 32, 49, 41, 10, 116, 32, 115, 105, 110, 107, 32, 109, 10]) rfl)
  unfold smallT at HP
  clear hk ht htab
  go_enter Tryz.func8, Tryz.ntmps8
  go_wp2_with fail
  refine HP.out.mono ?_
  rintro e w1 ⟨a, c, rfl, hn, hb1⟩
  have hn3 : smallN.length = 3 := rfl
  rw [hn3] at hn
  simp only [hn3]
  obtain ⟨W1, hW1⟩ : ∃ W, w1.alloc (.cells #[.int .i64 2, .slice a 3 c] 24) = W := ⟨_, rfl⟩
  obtain ⟨N, hN⟩ : ∃ N, w1.heap.size = N := ⟨_, rfl⟩
  have hbm : Below w1.heap.size w1 W1 := by rw [← hW1]; exact below_made _ _
  have HB1 : Hid (Below w.heap.size w W1) := Lib.hid (hb1.trans (hbm.mono hb1.size))
  have HT1 := Lib.hid (HT.out W1 _ HB1.out (hn.on hbm))
  obtain ⟨c0, c1⟩ := box2 hW1
  rw [hN] at c0 c1
  have HN := Lib.hid hN; have HW1 := Lib.hid hW1
  clear hn hb1 hbm hN hW1 hn3 HT
  go_upto_region 2 with fail
  rw [HN.out, HW1.out]
  go_wp2_with fail
  refine HT1.out.mono ?_
  rintro e w2 ⟨rfl, hb2⟩
  have d0 := cell_on c0 hb2
  have d1 := cell_on c1 hb2
  have HB2 := Lib.hid (HB1.out.trans (hb2.mono HB1.out.size))
  have hL := HL.out
  clear hb2 c0 c1
  obtain ⟨SL, hSL⟩ : ∃ x, smallL = x := ⟨_, rfl⟩
  rw [hSL] at hL ⊢
  clear hSL
  go_wp2_with fail
  all_goals (go_ret; exact ⟨ret_bool (by simp_all), HB2.out⟩)
set_option maxHeartbeats 1600000 in
set_option maxRecDepth 1000000 in
theorem law_known {w : World} (hk : KTab w) (ht : jb.Tab w) (htab : exp.Tab w.heap.size w) : Calls Tryz.prog 3 #[] w fun e w' => e = .returned (.bool true) ∧ Below w.heap.size w w' := by
  have HWK : Hid (∀ w', Below w.heap.size w w' → Calls Tryz.prog 8 #[] w' fun e w'' => e = .returned (.bool true) ∧ Below w'.heap.size w' w'') := Lib.hid (fun w' hb => works_any (hk.on hb) (ht.on hb) (tab_on htab hb))
  have HP1 := Lib.hid (fun w' (hb : Below w.heap.size w w') => parse_of parse_1 (hk.on hb) (ht.on hb))
  have HP2 := Lib.hid (fun w' (hb : Below w.heap.size w w') => parse_of parse_2 (hk.on hb) (ht.on hb))
  have HP3 := Lib.hid (fun w' (hb : Below w.heap.size w w') => parse_of parse_3 (hk.on hb) (ht.on hb))
  have HP4 := Lib.hid (fun w' (hb : Below w.heap.size w w') => parse_of parse_4 (hk.on hb) (ht.on hb))
  have HB0 := Lib.hid (Below.refl w.heap.size w)
  clear hk ht htab
  go_enter Tryz.func3, Tryz.ntmps3
  go_wp2_with fail
  refine (HP1.out _ HB0.out).mono ?_
  rintro e w1 ⟨a1, c1, rfl, -, hb1⟩
  have HB1 : Hid (∀ o, Below w.heap.size w (w1.alloc o)) := Lib.hid (fun o => hb1.alloc hb1.size o)
  clear hb1
  go_wp2_with fail
  refine (HP2.out _ (HB1.out _)).mono ?_
  rintro e w2 ⟨a2, c2, rfl, -, hb2⟩
  have HB2 : Hid (∀ o, Below w.heap.size w (w2.alloc o)) := Lib.hid (fun o => ((HB1.out _).trans (hb2.mono (HB1.out _).size)).alloc ((HB1.out _).trans (hb2.mono (HB1.out _).size)).size o)
  clear hb2
  go_wp2_with fail
  refine (HP3.out _ (HB2.out _)).mono ?_
  rintro e w3 ⟨a3, c3, rfl, -, hb3⟩
  have HB3 : Hid (∀ o, Below w.heap.size w (w3.alloc o)) := Lib.hid (fun o => ((HB2.out _).trans (hb3.mono (HB2.out _).size)).alloc ((HB2.out _).trans (hb3.mono (HB2.out _).size)).size o)
  clear hb3
  go_wp2_with fail
  refine (HP4.out _ (HB3.out _)).mono ?_
  rintro e w4 ⟨a4, c4, rfl, -, hb4⟩
  have HB4 : Hid (∀ o, Below w.heap.size w (w4.alloc o)) := Lib.hid (fun o => ((HB3.out _).trans (hb4.mono (HB3.out _).size)).alloc ((HB3.out _).trans (hb4.mono (HB3.out _).size)).size o)
  clear hb4
  go_wp2_with fail
  refine (HWK.out _ (HB4.out _)).mono ?_
  rintro e w5 ⟨rfl, hb5⟩
  have HB5 := Lib.hid ((HB4.out _).trans (hb5.mono (HB4.out _).size))
  clear hb5
  go_wp2_with fail
  go_ret
  exact ⟨rfl, HB5.out⟩
end Go.Proofs.YtimjpgmgpgpanaaGreatDoor.sc
