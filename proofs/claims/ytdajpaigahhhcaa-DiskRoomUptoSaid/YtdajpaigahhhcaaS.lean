/- DiskMoves returns true. -/
import Derived.Test.YtdajpaigahhhcaaQ
namespace Go.Proofs.Ytdajpaigahhhcaa.dsk
set_option linter.unusedSimpArgs false
set_option linter.unusedVariables false
open Go.RowKit

theorem op_untold {x : D} (hl : x.left = -1) : x.op = (0, x) := by
  unfold D.op
  rw [if_neg (by omega), if_pos hl, ← hl]
theorem chg_untold {x : D} (hl : x.left = -1) (c : Chg) : x.chg c = (0, { x with loose := x.loose ++ [c] }) := by
  unfold D.chg; rw [op_untold hl]; rfl
theorem append_fine {x : D} (ho : x.off = false) (hl : x.left = -1) (i : Nat) (hi : i < 16) (s : ByteArray) (hr : total x.now + s.size ≤ x.room) : x.append i s = (0, { x with loose := x.loose ++ [.app i s] }) := by
  unfold D.append
  have hf : isFile (i : Int) = true := isFile_iff.2 ⟨by omega, by omega⟩
  rw [if_neg (by rw [ho]; decide), if_neg (by rw [hf]; decide), if_neg (by unfold D.room'; omega), chg_untold hl, Int.toNat_natCast]
theorem move_fine {x : D} (ho : x.off = false) (hl : x.left = -1) (a b : Nat) (ha : a < 16) (hb : b < 16) (hne : a ≠ b) : x.move a b = (0, { x with loose := x.loose ++ [.mov a b] }) := by
  unfold D.move
  have hf : isFile (a : Int) = true := isFile_iff.2 ⟨by omega, by omega⟩
  have hg : isFile (b : Int) = true := isFile_iff.2 ⟨by omega, by omega⟩
  rw [if_neg (by rw [ho]; decide), if_neg (by rw [hf, hg]; decide), if_neg (by omega), chg_untold hl, Int.toNat_natCast, Int.toNat_natCast]

def mv (l : List Chg) : D := ⟨4194304, false, -1, fun _ => empty, l⟩
theorem mv1 (a : ByteArray) (h : a.size ≤ 10000) : (mv []).append 1 a = (0, mv [.app 1 a]) :=
  append_fine rfl rfl 1 (by decide) a (by have : total (mv []).now = 0 := total_empty; rw [this]; show 0 + a.size ≤ 4194304; omega)
theorem size_ea (a : ByteArray) : (empty ++ a).size = a.size := by rw [empty_append']
theorem mv_total (a : ByteArray) : total (mv [.app 1 a]).now = a.size := by
  have h := total_upd (fun _ => empty) (i := 1) (empty ++ a) (by decide)
  rw [total_empty, size_ea] at h
  have e : empty.size = 0 := rfl
  have h' : total (upd (fun _ => empty) 1 (empty ++ a)) = a.size := by
    have : ((fun _ => empty : Files) 1).size = 0 := rfl
    omega
  exact h'
theorem mv2 (a b : ByteArray) (h : a.size + b.size ≤ 10000) : (mv [.app 1 a]).append 2 b = (0, mv [.app 1 a, .app 2 b]) :=
  append_fine rfl rfl 2 (by decide) b (by rw [mv_total]; show a.size + b.size ≤ 4194304; omega)
theorem mv3 (a b : ByteArray) : (mv [.app 1 a, .app 2 b]).move 1 2 = (0, mv [.app 1 a, .app 2 b, .mov 1 2]) := move_fine rfl rfl 1 2 (by decide) (by decide) (by decide)
theorem mv4 (a b : ByteArray) : (mv [.app 1 a, .app 2 b, .mov 1 2]).move 2 1 = (0, mv [.app 1 a, .app 2 b, .mov 1 2, .mov 2 1]) := move_fine rfl rfl 2 1 (by decide) (by decide) (by decide)
def mvd (a b : ByteArray) : D := mv [.app 1 a, .app 2 b, .mov 1 2, .mov 2 1]
theorem mv5 (a b : ByteArray) : (mvd a b).read 1 = (a, 0) := by
  have : (mvd a b).read 1 = (empty ++ a, 0) := rfl
  rw [this, empty_append']
theorem mv6 (a b : ByteArray) : (mvd a b).read 2 = (⟨#[]⟩, 0) := rfl
theorem mv_now (a b : ByteArray) (i : Nat) (hi : i < 16) : (mvd a b).now i = upd (fun _ => empty) 1 (empty ++ a) i := by
  show upd (upd (upd (upd (upd (upd (fun _ => empty) 1 (empty ++ a)) 2 (empty ++ b)) 2 _) 1 empty) 1 _) 2 empty i = _
  by_cases h1 : i = 1
  · subst h1
    rw [upd_other _ _ (by decide), upd_same, upd_same]; rfl
  · by_cases h2 : i = 2
    · subst h2; rw [upd_same]; rfl
    · rw [upd_other _ _ h2, upd_other _ _ h1, upd_other _ _ h1, upd_other _ _ h2, upd_other _ _ h2]
theorem total_congr {f g : Files} (h : ∀ i, i < 16 → f i = g i) : total f = total g := by
  unfold total
  rw [List.map_congr_left fun i hi => by rw [h i (List.mem_range.1 hi)]]
theorem mv7 (a b : ByteArray) : (mvd a b).room' = 4194304 - (a.size : Int) := by
  unfold D.room'
  rw [total_congr (mv_now a b)]
  have := mv_total a
  have e : total (upd (fun _ => empty) 1 (empty ++ a)) = a.size := this
  rw [e]; rfl
theorem mv8 (a b : ByteArray) : (mvd a b).move 1 1 = (2, mvd a b) := rfl
set_option maxHeartbeats 3200000 in
set_option maxRecDepth 100000 in
theorem law_moves (a b : ByteArray) (ha : a.size ≤ 140737488351232) (hb : b.size ≤ 140737488351232) (w : World) : Calls Try.prog 8 #[.string a, .string b] w fun e w' => e = .returned (.bool true) ∧ Below w.heap.size w w' := by
  by_cases hl : 10000 < a.size + b.size
  · have hl' : (10000 : Int) < (a.size : Int) + (b.size : Int) := by omega
    go_enter Try.func8, Try.ntmps8
    go_wp2_with fail
    refine (works_any _).mono ?_
    rintro e a1 ⟨rfl, hb⟩
    have HB := Lib.hid hb; clear hb
    go_wp2_with fail
    go_ret
    exact ⟨rfl, HB.out⟩
  · have hl' : (a.size : Int) + (b.size : Int) ≤ 10000 := by omega
    have H1 := Lib.hid (fun (_ : Unit) => mv1 a (by omega))
    have H2 := Lib.hid (fun (_ : Unit) => mv2 a b (by omega))
    have HL := Lib.hid (fun (_ : Unit) => mv7 a b)
    clear hl
    go_enter Try.func8, Try.ntmps8
    go_wp2_with fail
    refine (new_here 4194304 (by decide) (by decide) w).mono ?_
    rintro e a1 ⟨rfl, h⟩
    have H := Lib.hid (show Here _ _ _ (mv []) _ from h); clear h
    go_wp2_with fail
    refine (append_here (H1.out ()) H.out (Nat.le_trans (show _ ≤ 4 by simp [mvd, mv]) (by decide))).mono ?_
    rintro e a2 ⟨rfl, h⟩
    have H := Lib.hid h; clear h
    go_wp2_with fail
    refine (append_here (H2.out ()) H.out (Nat.le_trans (show _ ≤ 4 by simp [mvd, mv]) (by decide))).mono ?_
    rintro e a3 ⟨rfl, h⟩
    have H := Lib.hid h; clear h
    go_wp2_with fail
    refine (move_here (mv3 a b) H.out (Nat.le_trans (show _ ≤ 4 by simp [mvd, mv]) (by decide))).mono ?_
    rintro e a4 ⟨rfl, h⟩
    have H := Lib.hid h; clear h
    go_wp2_with fail
    refine (move_here (mv4 a b) H.out (Nat.le_trans (show _ ≤ 4 by simp [mvd, mv]) (by decide))).mono ?_
    rintro e a5 ⟨rfl, h⟩
    have H := Lib.hid (show Here _ _ _ (mvd a b) _ from h); clear h
    go_wp2_with fail
    refine (read_here (mv5 a b) H.out).mono ?_
    rintro e a6 ⟨rfl, h⟩
    have H := Lib.hid h; clear h
    go_wp2_with fail
    refine (read_here (mv6 a b) H.out).mono ?_
    rintro e a7 ⟨rfl, h⟩
    have H := Lib.hid h; clear h
    go_wp2_with fail
    refine (left_here (HL.out ()) H.out).mono ?_
    rintro e a8 ⟨rfl, rfl⟩
    go_wp2_with fail
    refine (move_here (mv8 a b) H.out (Nat.le_trans (show _ ≤ 4 by simp [mvd, mv]) (by decide))).mono ?_
    rintro e a9 ⟨rfl, h⟩
    have H := Lib.hid h; clear h
    go_wp2_with fail
    refine (works_any _).mono ?_
    rintro e a10 ⟨rfl, hb⟩
    have H := Lib.hid (H.out.on hb); clear hb
    go_wp2_with fail
    go_ret
    exact ⟨rfl, H.out.below⟩
end Go.Proofs.Ytdajpaigahhhcaa.dsk
