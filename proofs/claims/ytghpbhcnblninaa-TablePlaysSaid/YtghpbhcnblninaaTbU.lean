/- The examples, and no table. -/
import Derived.Test.YtghpbhcnblninaaTbE
import Derived.Test.YtghpbhcnblninaaTbT
namespace Go.Proofs.Ytghpbhcnblninaa.tbl
set_option linter.unusedSimpArgs false
set_option linter.unusedVariables false
open Go.RowKit
attribute [local go_sem ↓] Go.wp_at_zero Go.wp_at_succ
open Go.Proofs.Ytghpbhcnblninaa.grp (gof gof_in fits fits_wf IRow intV below_on' below_made ret_bool own_below irow_new below_drewN EqPost eq_yes eq_no)
open Go.Proofs.Ytghpbhcnblninaa.byt (txt bl)
theorem of_at {w : World} {t b : Nat} {L L' : Rows} (h : IsTab w t b L) {v : Value} {gs : List Int} (hO : ofL L gs = L') (hv : IRow w v gs) (hl : gs.length ≤ 1000000) :
    Calls Try.prog 16 #[.pointer (some ⟨t, 0, none⟩), v] w fun e w' => ∃ t' b', e = .returned (.pointer (some ⟨t', 0, none⟩)) ∧ MadeT w.heap.size w w' t' b' L' := by
  rw [← hO]; exact of_any h hv hl
theorem bytes_at {w : World} {t b : Nat} {L : Rows} {s : ByteArray} (hs : tabB L = s) (h : IsTab w t b L) : Calls Try.prog 13 #[.pointer (some ⟨t, 0, none⟩)] w fun e w' => e = .returned (.string s) ∧ Below w.heap.size w w' := by
  rw [← hs]; exact bytes_any h
set_option maxHeartbeats 3200000 in
theorem known_any (w : World) : Calls Try.prog 3 #[] w fun e w' => e = .returned (.bool true) ∧ Below w.heap.size w w' := by
  have O1 : Hid (putO [] 8 (1, []) = (0, [(8, (1, []))])) := Lib.hid (by decide)
  have O2 : Hid (putO [(8, (1, []))] 1 (0, []) = (0, [(8, (1, [])), (1, (0, []))])) := Lib.hid (by decide)
  have O3 : Hid (ofL [(8, (1, [])), (1, (0, []))] [0] = [(8, (1, []))]) := Lib.hid (by decide)
  have OB : Hid (tabB [] = ⟨#[0]⟩) := Lib.hid (congrArg txt (show byt.flat (numsL []) = [0] by unfold byt.flat; show byt.sev 0 ++ [] = [0]; rw [byt.sev_small (by omega)]; rfl))
  have OT : Hid (takeT (bl ⟨#[]⟩) = (20, [])) := Lib.hid (by decide)
  go_enter Try.func3, Try.ntmps3
  go_wp2_with fail
  refine (new_any w).mono ?_
  rintro e w1 ⟨t, b, rfl, ht, hwt, hwb, hb⟩
  have HT := Lib.hid ht
  have HB := Lib.hid hb
  clear ht hb
  go_wp2_with fail
  refine (take_any ⟨#[]⟩ w1 (by decide)).mono ?_
  intro e w2 hp
  unfold TakePost at hp
  rw [OT.out, if_neg (by decide)] at hp
  obtain ⟨rfl, hb⟩ := hp
  have HT := Lib.hid (HT.out.below hb)
  have HB := Lib.hid (below_on' HB.out hb)
  clear hb
  dsimp only
  go_wp2_with fail
  refine (works_any w2).mono ?_
  rintro e w3 ⟨rfl, hb⟩
  have HT := Lib.hid (HT.out.below hb)
  have HB := Lib.hid (below_on' HB.out hb)
  clear hb
  go_wp2_with fail
  refine (bytes_at OB.out HT.out).mono ?_
  rintro e w4 ⟨rfl, hb⟩
  have HT := Lib.hid (HT.out.below hb)
  have HB := Lib.hid (below_on' HB.out hb)
  clear hb
  go_wp2_with fail
  refine (put_at O1.out rfl HT.out (fits_small (by omega) (by omega)) (fits_small (by omega) (by omega)) (by simp) (Sl.nil _) (fun _ => none_blk _) (by simp)).mono ?_
  rintro e w5 ⟨rfl, ht, ho⟩
  have HT := Lib.hid ht
  have HB := Lib.hid (below_only HB.out ho hwt hwb)
  clear ht ho
  go_wp2_with fail
  refine (put_at O2.out rfl HT.out (fits_small (by omega) (by omega)) (fits_small (by omega) (by omega)) (by simp) (Sl.nil _) (fun _ => none_blk _) (by simp)).mono ?_
  rintro e w6 ⟨rfl, ht, ho⟩
  have HT := Lib.hid ht
  have HB := Lib.hid (below_only HB.out ho hwt hwb)
  clear ht ho
  go_wp2_with fail
  refine (of_at (HT.out.below (below_made _ _)) O3.out (irow_new w6 [0] 1 1 rfl _) (by decide)).mono ?_
  rintro e w7 ⟨t2, b2, rfl, ht2, -, -, hb⟩
  have HT := Lib.hid ((HT.out.below (below_made _ _)).below hb)
  have HT2 := Lib.hid ht2
  have HB := Lib.hid (below_on' (below_on' HB.out (below_made _ _)) hb)
  clear ht2 hb
  go_wp2_with fail
  refine (keys_at (l := [8]) rfl HT2.out).mono ?_
  rintro e w8 ⟨v, rfl, hr, hb⟩
  have HR := Lib.hid hr
  have HT := Lib.hid (HT.out.below hb)
  have HB := Lib.hid (below_on' HB.out hb)
  clear hr hb
  go_wp2_with fail
  refine (equal_nums_same (HR.out.on (below_made _ _)) (irow_new w8 [8] 1 1 rfl _) (by decide)).mono ?_
  rintro e w9 ⟨rfl, hb⟩
  have HB := Lib.hid (below_on' HB.out (below_on' (below_made _ _) hb))
  clear hb
  go_wp2_with fail
  refine (get_nil 0 w9).mono ?_
  rintro e w10 ⟨rfl, hb⟩
  have HB := Lib.hid (below_on' HB.out hb)
  clear hb
  unfold mkC
  go_wp2_with fail
  refine (put_nil 0 (0, none, 0, 0) _).mono ?_
  rintro e w11 ⟨rfl, hb⟩
  have HB := Lib.hid (below_on' (below_on' HB.out (below_made _ _)) hb)
  clear hb
  go_wp2_with fail
  refine (drop_nil 0 _).mono ?_
  rintro e w12 ⟨rfl, rfl⟩
  go_wp2_with fail
  refine (keys_nil _).mono ?_
  rintro e w13 ⟨rfl, rfl⟩
  go_wp2_with fail
  refine (of_nil _ _).mono ?_
  rintro e w14 ⟨rfl, rfl⟩
  have HB := Lib.hid (below_on' HB.out (below_made w13 (.cells #[.int .i64 0] 3)))
  go_wp2_with fail
  refine (join_nil _ _).mono ?_
  rintro e w15 ⟨rfl, rfl⟩
  go_wp2_with fail
  refine (join_none _ _).mono ?_
  rintro e w16 ⟨rfl, rfl⟩
  go_wp2_with fail
  refine (bytes_nil _).mono ?_
  rintro e w17 ⟨rfl, rfl⟩
  go_wp2_with fail
  refine (copy_nil _).mono ?_
  rintro e w18 ⟨rfl, rfl⟩
  go_wp2_with fail
  go_ret
  exact ⟨rfl, HB.out⟩
end Go.Proofs.Ytghpbhcnblninaa.tbl
