/- What bytes.Numbers answers: of every text. -/
import Derived.Test.YtknldabnkaecdaaByF
namespace Go.Proofs.Ytknldabnkaecdaa.byt
open Go.RowKit

set_option maxHeartbeats 1600000 in
set_option maxRecDepth 1000000 in
theorem numbers_any (s : ByteArray) (w : World) (hs : s.size ≤ 1000000) : Calls Try.prog 32 #[.string s] w (NumsPost s w) := by
  obtain ⟨i0, hi, hz0, hz1, hz2⟩ := info_parts info2
  go_enter Try.func32, Try.ntmps32
  go_wp2
  go_loopg [0, 4] s.size (fun g v0 v4 wr => NumsRel s w wr v0 v4 g)
  case atStart => exact ⟨s, [], rfl, World.ownsRow_nil _ _ _ _, Below.refl _ _, rfl, Nat.le_refl _, by simp⟩
  case round =>
    obtain ⟨r, acc, rfl, hown, hb, hn, hg, hl⟩ := hrel
    by_cases hr : 0 < r.size
    · obtain ⟨g, rfl⟩ : ∃ g, gk = g + 1 := ⟨gk - 1, by omega⟩
      by_cases h0 : (take (bl r)).2.2 = 0
      · have hsz := take_size h0
        obtain ⟨n, k, ht⟩ : ∃ n k, take (bl r) = (n, k, 0) := ⟨_, _, by rw [← h0]⟩
        rw [ht] at hsz
        simp only [bl_length] at hsz
        obtain ⟨z1, z2, z3, z4, z5⟩ := hsz
        have z3' : (k : Int) ≤ (r.size : Int) := by omega
        have HSZ : Hid (∀ o, w.heap.size ≤ (wr.alloc o).heap.size) := Lib.hid (fun o => by rw [World.size_alloc]; have := hb.size; omega)
        have HL := Lib.hid (fun j hj => (hown.lt j hj).1)
        have HT := Lib.hid ht; have HO := Lib.hid hown; have HB := Lib.hid hb; have HN := Lib.hid hn
        clear ht hown hb hn h0
        go_wp2_with (first | (go_at_call 36; ((with_reducible refine (take_of HT.out _ (by omega)).mono ?_); rintro e w' ⟨rfl, rfl⟩)) | (at_builtin; refine wpList_append_own _ rfl (.tmp 20) (.tmp 22) 52 rfl w.heap.size 2 i0 (.int .i64 0) 1 8 Try.underlying52 hi hz0 hz1 hz2 rfl (by decide) _ _ _ rfl (HO.out.alloc _) ⟨_, 0, none⟩ 1 1 [.int .i64 n] rfl rfl (cell_one_new _ _ _) (by simp [Value.oneCell']) (by unfold maxLen; omega) (by omega) (HSZ.out _) ?_))
        intro v4 w2 k4 g4 _
        have HR := Lib.hid (nums_more hr z1 z3 HT.out HB.out HN.out hg hl HL.out k4 g4)
        clear k4 g4
        go_wp2
        go_roundg g
        case measure => omega
        case rel => exact HR.out
      · have hne : bl r ≠ [] := by rw [Ne, bl_nil]; omega
        rw [nums_bad hne h0] at hn
        have hbad := take_bad h0
        have HN := Lib.hid hn; have HB := Lib.hid hb
        clear hn hb hown h0
        rcases hbad with ht | ht
        · have HE := Lib.hid (show numsO s = ([], 20) by rw [← HN.out, ht])
          have HT := Lib.hid ht
          clear ht
          go_wp2_with (go_at_call 36; ((with_reducible refine (take_of HT.out _ (by omega)).mono ?_); rintro e w' ⟨rfl, rfl⟩))
          go_ret2
          exact nums_fail HE.out HB.out
        · have HE := Lib.hid (show numsO s = ([], 21) by rw [← HN.out, ht])
          have HT := Lib.hid ht
          clear ht
          go_wp2_with (go_at_call 36; ((with_reducible refine (take_of HT.out _ (by omega)).mono ?_); rintro e w' ⟨rfl, rfl⟩))
          go_ret2
          exact nums_fail HE.out HB.out
    · have hz : bl r = [] := bl_nil.2 (by omega)
      rw [hz, nums_end] at hn
      have HN := Lib.hid hn; have HB := Lib.hid hb; have HO := Lib.hid hown
      clear hn hb hown hz
      go_wp2
      go_ret2
      exact nums_fine HN.out.symm HO.out HB.out
theorem numbers_at {s : ByteArray} {l : List Int} {c : Int} (h : numsO s = (l, c)) (w : World) (hs : s.size ≤ 1000000) : Calls Try.prog 32 #[.string s] w (NumsAt l c w) :=
  (numbers_any s w hs).mono fun _ _ hp => nums_at h hp
end Go.Proofs.Ytknldabnkaecdaa.byt
