/- What the library answers that a script asks: Trim, TrimLeft, Cut at a colon; a text's lines; lines that say nothing. -/
import Derived.Test.YtimjpgmgpgpanaaGreatDoorScA
import Derived.Test.YtimjpgmgpgpanaaGreatDoorCs
import Derived.Shelf.Strings.SlTrimAscii
namespace Go.Proofs.YtimjpgmgpgpanaaGreatDoor.sc
set_option linter.unusedSimpArgs false
set_option linter.unusedVariables false
open Go.RowKit nam exp jb

theorem trim_any (s : ByteArray) (hs : s.size ≤ 1000000) (w : World) : Calls Tryz.prog 38 #[.string s, .string ⟨#[32, 9]⟩] w fun e w' => e = .returned (.string (ba (Lib.trimS s.data.toList [32, 9]))) ∧ Below w.heap.size w w' :=
  Any.strings_Trim_laid Tryz.lays160 (by kernel_rfl) s ⟨#[32, 9]⟩ w (by omega) (by decide) (ascii_of_all (by decide))
theorem trimLeft_any (s : ByteArray) (w : World) : Calls Tryz.prog 73 #[.string s, .string ⟨#[32, 9]⟩] w fun e w' => e = .returned (.string (ba (Lib.trimLeftS s.data.toList [32, 9]))) ∧ Below w.heap.size w w' :=
  Any.strings_TrimLeft_laid Tryz.lays161 (by kernel_rfl) s ⟨#[32, 9]⟩ w (by decide) (ascii_of_all (by decide))
theorem bdN (w : World) (n : Nat) : Below w.heap.size w (w.drewN n) := ⟨rfl, rfl, rfl, Nat.le_refl _, fun _ _ => rfl⟩
def cutV (s : ByteArray) : Value := .tuple #[.string (cutO s).1, .string (cutO s).2.1, .bool (cutO s).2.2]
theorem indexByte_lt : ∀ (l : List UInt8) (c : UInt8), 0 ≤ Lib.indexByte l c → Lib.indexByte l c < l.length
  | [], c, h => by simp [Lib.indexByte] at h
  | b :: l, c, h => by
    rw [Lib.indexByte] at h ⊢
    by_cases h1 : (b == c) = true
    · rw [if_pos h1]; simp
    · rw [if_neg h1] at h ⊢
      by_cases h2 : (Lib.indexByte l c == -1) = true
      · rw [if_pos h2] at h; omega
      · rw [if_neg h2] at h ⊢
        have h3 : 0 ≤ Lib.indexByte l c ∨ Lib.indexByte l c = -1 := by omega
        rcases h3 with h3 | h3
        · have := indexByte_lt l c h3
          rw [List.length_cons]; omega
        · exact absurd (by simp [h3]) h2
set_option maxHeartbeats 800000 in
set_option maxRecDepth 1000000 in
theorem liteCut_any (s : ByteArray) (hs : s.size ≤ 1000000) (w : World) :
    Calls Tryz.prog 68 #[.string s, .string ⟨#[58]⟩] w fun e w' => e = .returned (cutV s) ∧ Below w.heap.size w w' := by
  have HI := Lib.hid (Tryz.stringslite_Index_one s 58)
  obtain ⟨i, hi⟩ : ∃ i, Lib.indexByte s.data.toList 58 = i := ⟨_, rfl⟩
  have hlt := indexByte_lt s.data.toList 58
  have hl : s.data.toList.length = s.size := by rw [Array.length_toList]; rfl
  rw [hi, hl] at hlt
  rw [hi] at HI
  clear hl
  by_cases h0 : 0 ≤ i
  · obtain ⟨n, rfl⟩ : ∃ n : Nat, i = n := ⟨i.toNat, by omega⟩
    have hn := hlt h0
    have HE : Hid (Ending.returned (.tuple #[.string (s.extract 0 n), .string (s.extract (n + 1) s.size), .bool true]) = .returned (cutV s)) := Lib.hid (by
      unfold cutV cutO; rw [hi, if_pos h0]; simp)
    have h1 : (n : Int) + 1 ≤ (s.size : Int) := by omega
    have h2 : (n : Int) ≤ (s.size : Int) := by omega
    clear hi hlt
    go_enter Tryz.func68, Tryz.ntmps68
    go_wp2_with fail
    refine (HI.out _).mono ?_
    rintro e w1 ⟨rfl, rfl⟩
    go_wp2_with fail
    go_quiet (fail)
    go_wp2_with fail
    go_ret3
    exact ⟨HE.out, bdN _ _⟩
  · have HE : Hid (Ending.returned (.tuple #[.string s, .string ⟨#[]⟩, .bool false]) = .returned (cutV s)) := Lib.hid (by
      unfold cutV cutO; rw [hi, if_neg h0])
    clear hi hlt
    go_enter Tryz.func68, Tryz.ntmps68
    go_wp2_with fail
    refine (HI.out _).mono ?_
    rintro e w1 ⟨rfl, rfl⟩
    go_wp2_with fail
    go_ret3
    exact ⟨HE.out, Below.refl _ _⟩
set_option maxRecDepth 1000000 in
theorem cut_any (s : ByteArray) (hs : s.size ≤ 1000000) (w : World) :
    Calls Tryz.prog 39 #[.string s, .string ⟨#[58]⟩] w fun e w' => e = .returned (cutV s) ∧ Below w.heap.size w w' := by
  have HC := Lib.hid (liteCut_any s hs w)
  unfold cutV at HC ⊢
  obtain ⟨a, ha⟩ : ∃ a, (cutO s).1 = a := ⟨_, rfl⟩
  obtain ⟨b, hb⟩ : ∃ b, (cutO s).2.1 = b := ⟨_, rfl⟩
  obtain ⟨c, hc⟩ : ∃ c, (cutO s).2.2 = c := ⟨_, rfl⟩
  rw [ha, hb, hc] at HC ⊢
  clear ha hb hc
  go_enter Tryz.func39, Tryz.ntmps39
  go_wp2_with fail
  refine HC.out.mono ?_
  rintro e w1 ⟨rfl, hb1⟩
  have HB1 := Lib.hid hb1; clear hb1
  go_wp2_with fail
  go_ret3
  exact ⟨rfl, HB1.out⟩
set_option maxRecDepth 1000000 in
theorem silent_any (s : ByteArray) (hs : s.size ≤ 1000000) (w : World) :
    Calls Tryz.prog 16 #[.string s] w fun e w' => e = .returned (.bool (silentB s)) ∧ Below w.heap.size w w' := by
  have HP := Lib.hid (Tryz.strings_HasPrefix s ⟨#[35]⟩ w)
  have HT := Lib.hid (trim_any s hs w)
  obtain ⟨p, hp⟩ : ∃ p, Lib.hasPrefix s.data.toList [35] = p := ⟨_, rfl⟩
  have hp' : Lib.hasPrefix s.data.toList (⟨#[35]⟩ : ByteArray).data.toList = p := hp
  rw [hp'] at HP
  obtain ⟨T, hT⟩ : ∃ T, ba (Lib.trimS s.data.toList [32, 9]) = T := ⟨_, rfl⟩
  rw [hT] at HT
  have HS : Hid (silentB s = (p || decide (T = ⟨#[]⟩))) := Lib.hid (by
    unfold silentB
    rw [hp]
    congr 1
    rw [← hT, Bool.eq_iff_iff, decide_eq_true_eq, List.isEmpty_iff]
    constructor
    · intro h; rw [h]; rfl
    · intro h
      have := congrArg (fun b : ByteArray => b.data.toList) h
      simpa [ba] using this)
  rw [HS.out]
  clear hp hp' hT HS
  cases p with
  | true =>
    go_enter Tryz.func16, Tryz.ntmps16
    go_wp2_with fail
    refine HP.out.mono ?_
    rintro e w1 ⟨rfl, rfl⟩
    go_wp2_with fail
    go_ret
    exact ⟨ret_bool (by simp), Below.refl _ _⟩
  | false =>
    by_cases hT : T = ⟨#[]⟩
    · have h1 : (T.toList == []) = true := lex.str_eq (l := []) hT
      have h2 : Hid (Ending.returned (.bool true) = .returned (.bool (false || decide (T = ⟨#[]⟩)))) := Lib.hid (by simp [hT])
      clear hT
      go_enter Tryz.func16, Tryz.ntmps16
      go_wp2_with fail
      refine HP.out.mono ?_
      rintro e w1 ⟨rfl, rfl⟩
      go_wp2_with fail
      refine HT.out.mono ?_
      rintro e w1 ⟨rfl, hb1⟩
      have HB1 := Lib.hid hb1; clear hb1
      go_wp2_with fail
      go_ret
      exact ⟨h2.out, HB1.out⟩
    · have h1 : (T.toList == []) = false := lex.str_ne (l := []) hT
      have h2 : Hid (Ending.returned (.bool false) = .returned (.bool (false || decide (T = ⟨#[]⟩)))) := Lib.hid (by simp [hT])
      clear hT
      go_enter Tryz.func16, Tryz.ntmps16
      go_wp2_with fail
      refine HP.out.mono ?_
      rintro e w1 ⟨rfl, rfl⟩
      go_wp2_with fail
      refine HT.out.mono ?_
      rintro e w1 ⟨rfl, hb1⟩
      have HB1 := Lib.hid hb1; clear hb1
      go_wp2_with fail
      go_ret
      exact ⟨h2.out, HB1.out⟩

/-! A text's lines. -/
def LinesPost (s : ByteArray) (w : World) (e : Ending) (w' : World) : Prop :=
  ∃ v, e = .returned v ∧ w'.ownsRow w.heap.size 9 1 v (linesO s).length ((linesO s).map Value.string) ∧ Below w.heap.size w w'
def LinesRel (s : ByteArray) (w : World) (u3 u4 : Value) (wr : World) : Prop :=
  ∃ pos b acc, wr.heap[w.heap.size]? = some (.stringIter s pos) ∧ wr.ownsRow w.heap.size 9 1 u3 acc.length (acc.map Value.string) ∧ u4 = .int .i64 (b : Nat) ∧ Below w.heap.size w wr ∧
    linesGo s b acc (runesAt s pos) = linesO s ∧ acc.length + (runesAt s pos).length ≤ s.size ∧ b ≤ pos ∧ b ≤ s.size
theorem lines_on {s : ByteArray} {w wr : World} {u3 : Value} {pos b : Nat} {acc : List ByteArray} (hp : pos < s.size)
    (hit : wr.heap[w.heap.size]? = some (.stringIter s pos)) (h3 : wr.ownsRow w.heap.size 9 1 u3 acc.length (acc.map Value.string)) (hb : Below w.heap.size w wr)
    (hg : linesGo s b acc (runesAt s pos) = linesO s) (hl : acc.length + (runesAt s pos).length ≤ s.size) (hbp : b ≤ pos) (hr : (Utf8.decode s pos).1 ≠ 10) :
    LinesRel s w u3 (.int .i64 b) (wr.iterAt w.heap.size s (pos + (Utf8.decode s pos).2)) ∧ (wr.iterAt w.heap.size s (pos + (Utf8.decode s pos).2)).heap[w.heap.size]? = some (.stringIter s (pos + (Utf8.decode s pos).2)) := by
  have hit2 := Lib.iterAt_heap wr w.heap.size s pos (pos + (Utf8.decode s pos).2) hit
  have hwd := width_pos s pos hp
  rw [runesAt_step s pos hp] at hg hl
  rw [List.length_cons] at hl
  rw [linesGo, if_neg hr] at hg
  exact ⟨⟨_, b, acc, hit2, own_iterAt h3 hit _, rfl, Lib.below_iterAt hb (Nat.le_refl _) s _, hg, by omega, by omega, by omega⟩, hit2⟩
theorem lines_more {s : ByteArray} {w wr w1 : World} {u3 v3 : Value} {pos b : Nat} {acc : List ByteArray} (hp : pos < s.size)
    (hit : wr.heap[w.heap.size]? = some (.stringIter s pos)) (h3 : wr.ownsRow w.heap.size 9 1 u3 acc.length (acc.map Value.string)) (hb : Below w.heap.size w wr)
    (hg : linesGo s b acc (runesAt s pos) = linesO s) (hl : acc.length + (runesAt s pos).length ≤ s.size) (hbp : b ≤ pos) (hr : (Utf8.decode s pos).1 = 10)
    (k3 : w1.ownsRow w.heap.size 9 1 v3 (acc.length + 1) (acc.map Value.string ++ [.string (s.extract b pos)]))
    (g3 : ((wr.iterAt w.heap.size s (pos + (Utf8.decode s pos).2)).alloc (.cells #[.string (s.extract b pos)] 9)).grownBy w1 u3.ownBlock) :
    LinesRel s w v3 (.int .i64 ((pos + 1 : Nat) : Int)) w1 ∧ w1.heap[w.heap.size]? = some (.stringIter s (pos + (Utf8.decode s pos).2)) := by
  have hsz : w.heap.size < wr.heap.size := (Array.getElem?_eq_some_iff.1 hit).1
  have hit2 := Lib.iterAt_heap wr w.heap.size s pos (pos + (Utf8.decode s pos).2) hit
  have hsz2 : (wr.iterAt w.heap.size s (pos + (Utf8.decode s pos).2)).heap.size = wr.heap.size := Lib.iterAt_size _ _ _ _
  have h4b := own_iterAt h3 hit (pos + (Utf8.decode s pos).2)
  have hwd := width_pos s pos hp
  have hit3 : w1.heap[w.heap.size]? = some (.stringIter s (pos + (Utf8.decode s pos).2)) := by
    rw [g3.block w.heap.size (by simp; omega) (own_ne_iter h4b hit2), Below.heap_alloc _ _ _ (by omega)]
    exact hit2
  have hb2 := Lib.below_iterAt hb (k := w.heap.size) (Nat.le_refl _) s (pos + (Utf8.decode s pos).2)
  have hb3 : Below w.heap.size w w1 := (hb2.alloc (by omega) _).grown g3 (by simp; omega) (fun j hj => (h3.lt j hj).1)
  rw [runesAt_step s pos hp] at hg hl
  rw [List.length_cons] at hl
  rw [linesGo, if_pos hr] at hg
  exact ⟨⟨_, pos + 1, acc ++ [s.extract b pos], hit3, by simpa using k3, rfl, hb3, hg, by simp; omega, by omega, by omega⟩, hit3⟩
theorem lines_end {s : ByteArray} {pos b : Nat} {acc : List ByteArray} (hp : ¬ pos < s.size) (hg : linesGo s b acc (runesAt s pos) = linesO s) : linesO s = acc ++ [s.extract b s.size] := by
  rw [runesAt_end s pos hp] at hg
  rw [← hg]; rfl
set_option maxHeartbeats 1600000 in
set_option maxRecDepth 1000000 in
theorem lines_any (s : ByteArray) (hs : s.size ≤ 1000000) (w : World) : Calls Tryz.prog 15 #[.string s] w (LinesPost s w) := by
  obtain ⟨i0, hi, hz0, hz1, hz2⟩ := info_parts info9
  go_enter Tryz.func15, Tryz.ntmps15
  go_wp2
  go_loopw [3, 4] (fun u3 u4 wr => LinesRel s w u3 u4 wr) (fun _ _ wr => s.size - wr.iterPos w.heap.size)
  case atStart => exact ⟨0, 0, [], World.iter_heap w s 0, World.ownsRow_nil _ _ _ _, rfl, below_iter w s 0, rfl, by have := runesAt_length s 0; simpa using this, Nat.zero_le _, Nat.zero_le _⟩
  case round =>
    obtain ⟨pos, b, acc, hit, h3, rfl, hb, hg, hl, hbp, hbs⟩ := hrel
    have HG := Lib.hid hg; clear hg
    by_cases hp : pos < s.size
    · have hnx : ∀ ty, (Instr.next (.pointer (some ⟨w.heap.size, 0, none⟩)) true ty).run Tryz.prog wr = _ := fun ty => Lib.run_next_any_at wr w.heap.size s pos ty hit hp
      have hwd := width_pos s pos hp
      have HW := Lib.hid hit
      by_cases hr : (Utf8.decode s pos).1 = 10
      · have hbp' : (b : Int) ≤ (pos : Int) := by omega
        have hps : (pos : Int) ≤ (s.size : Int) := by omega
        have h4b := own_iterAt h3 hit (pos + (Utf8.decode s pos).2)
        have hsz : w.heap.size < wr.heap.size := (Array.getElem?_eq_some_iff.1 hit).1
        have HSZ : Hid (∀ o, w.heap.size ≤ ((wr.iterAt w.heap.size s (pos + (Utf8.decode s pos).2)).alloc o).heap.size) := Lib.hid (fun o => by
          rw [World.size_alloc, Lib.iterAt_size]; omega)
        have hr' : (((Utf8.decode s pos).1 : Int) == 10) = true := by rw [hr]; rfl
        have HR := Lib.hid hr; clear hr
        go_wp2_with (at_builtin; refine wpList_append_own _ rfl (.tmp 15) (.tmp 20) 41 rfl w.heap.size 9 i0 (.string ⟨#[]⟩) 1 16 Tryz.underlying41 hi hz0 hz1 hz2 rfl (by decide) _ _ _ rfl (h4b.alloc _) ⟨_, 0, none⟩ 1 1 [.string (s.extract b pos)] rfl rfl (cell_one_new _ _ _) (by simp [Value.oneCell']) (by unfold maxLen; omega) (by omega) (HSZ.out _) ?_)
        intro v3 w1 k3 g3 _
        have HM := Lib.hid (lines_more hp hit h3 hb HG.out hl hbp HR.out k3 g3)
        clear hit
        go_wp2
        go_roundw
        case rel => exact HM.out.1
        case measure => simp only [World.iterPos, HM.out.2, HW.out]; omega
      · have hr' : (((Utf8.decode s pos).1 : Int) == 10) = false := by simp; omega
        have HM := Lib.hid (lines_on hp hit h3 hb HG.out hl hbp hr)
        clear hit hr
        go_wp2_with fail
        go_roundw
        case rel => exact HM.out.1
        case measure => simp only [World.iterPos, HM.out.2, HW.out]; omega
    · have hnx : ∀ ty, (Instr.next (.pointer (some ⟨w.heap.size, 0, none⟩)) true ty).run Tryz.prog wr = _ := fun ty => Lib.run_next_end_at wr w.heap.size s pos ty hit hp
      have hsz : w.heap.size < wr.heap.size := (Array.getElem?_eq_some_iff.1 hit).1
      have HE := Lib.hid (lines_end hp HG.out)
      have hbs' : (b : Int) ≤ (s.size : Int) := by omega
      have HSZ : Hid (∀ o, w.heap.size ≤ (wr.alloc o).heap.size) := Lib.hid (fun o => by rw [World.size_alloc]; omega)
      go_wp2_with (at_builtin; refine wpList_append_own _ rfl (.tmp 24) (.tmp 28) 41 rfl w.heap.size 9 i0 (.string ⟨#[]⟩) 1 16 Tryz.underlying41 hi hz0 hz1 hz2 rfl (by decide) _ _ _ rfl (h3.alloc _) ⟨_, 0, none⟩ 1 1 [.string (s.extract b s.size)] rfl rfl (cell_one_new _ _ _) (by simp [Value.oneCell']) (by unfold maxLen; omega) (by omega) (HSZ.out _) ?_)
      intro v3 w1 k3 g3 _
      have hb3 : Below w.heap.size w w1 := (hb.alloc (by omega) _).grown g3 (HSZ.out _) (fun j hj => (h3.lt j hj).1)
      go_wp2
      go_ret
      exact ⟨_, rfl, by rw [HE.out]; simpa using k3, hb3⟩
end Go.Proofs.YtimjpgmgpgpanaaGreatDoor.sc
