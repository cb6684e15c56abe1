/- What changelingref02.Put, and PutText of either, answer; what bytes.TakeText answers. -/
import Derived.Test.YtnkpkmfobmbneaaE
namespace Go.Proofs.Ytnkpkmfobmbneaa
open Go.RowKit

theorem below_on' {w w' w'' : World} (h : Below w.heap.size w w') (k : Below w'.heap.size w' w'') : Below w.heap.size w w'' := h.trans (k.mono h.size)
def RefPutRel (l : List Int) (w wr : World) (v3 v4 : Value) (g : Nat) : Prop :=
  ∃ k : Nat, k + g = l.length ∧ v4 = .int .i64 k ∧ v3 = .string (txt (flat (l.take k))) ∧ Below w.heap.size w wr

set_option maxHeartbeats 800000 in
set_option maxRecDepth 1000000 in
theorem refPut_any (l : List Int) (a : Option Addr) (cap : Nat) (w : World) (hr : Rd w w.heap.size a l) (hf : ∀ n ∈ l, fits n) (hl : l.length ≤ 1000000) :
    Calls Try.prog 15 #[.slice a l.length cap] w (PutPost l w) := by
  have HR := Lib.hid hr; have HF := Lib.hid hf
  clear hr hf
  go_enter Try.func15, Try.ntmps15
  go_wp2
  go_loopg [3, 4] l.length (fun g v3 v4 wr => RefPutRel l w wr v3 v4 g)
  case atStart => exact ⟨0, by omega, rfl, rfl, Below.refl _ _⟩
  case round =>
    obtain ⟨k, hkg, rfl, rfl, hb⟩ := hrel
    have HB := Lib.hid hb
    clear hb
    cases gk with
    | zero =>
      have hkz : ¬ ((k : Int) < (l.length : Int)) := by omega
      obtain ⟨t, et⟩ : ∃ t, txt (flat (l.take k)) = t := ⟨_, rfl⟩
      rw [et]
      rw [show k = l.length by omega, List.take_length] at et
      have ET := Lib.hid et; clear et
      go_wp2
      go_ret
      exact ⟨by rw [ET.out]; rfl, HB.out⟩
    | succ g =>
      have hkz : (k : Int) < (l.length : Int) := by omega
      obtain ⟨b, o, rfl, hlt, hc⟩ := HR.out (by intro e; rw [e] at hkz; simp at hkz; omega)
      have hck := (HB.out.cell (p := ⟨b, o + k, none⟩) hlt).trans (hc k (by omega))
      have hfk : fits (l.getD k 0) := HF.out _ (by rw [List.getD_eq_getElem?_getD, List.getElem?_eq_getElem (by omega)]; simp)
      obtain ⟨x, ex⟩ : ∃ x, l.getD k 0 = x := ⟨_, rfl⟩
      have HT := Lib.hid (take_more (by omega) ex)
      rw [ex] at hck hfk
      clear hc ex
      have h1 : (txt (flat (l.take k))).size ≤ 10000000 := by
        have := take_size' HF.out k
        rw [txt_size]; omega
      have h2 : (txt (sev (tf x))).size ≤ 10 := by rw [txt_size]; exact sev_ten (tf_lt hfk.1 hfk.2)
      go_wp2_with (go_at_call 26; ((with_reducible refine (one_any _ _ hfk).mono ?_); rintro e w2 ⟨rfl, hb2⟩))
      go_roundg g
      case measure => omega
      case rel => exact ⟨k + 1, by omega, by go_num, by rw [HT.out, txt_append], below_on' HB.out hb2⟩

/-- Put of one number. -/
theorem rd_one (w : World) (n : Int) : Rd (w.alloc (.cells #[.int .i64 n] 2)) (w.alloc (.cells #[.int .i64 n] 2)).heap.size (some ⟨w.heap.size, 0, none⟩) [n] := fun _ =>
  ⟨w.heap.size, 0, rfl, by simp, fun j hj => by
    obtain rfl : j = 0 := by simpa using hj
    exact cell_one_new w (.int .i64 n) 2 0 _ rfl⟩
theorem put_one (n : Int) (w : World) (hn : fits n) : Calls Try.prog 14 #[.slice (some ⟨w.heap.size, 0, none⟩) 1 1] (w.alloc (.cells #[.int .i64 n] 2)) (OnePost n w) := by
  refine (put_any [n] _ 1 _ (rd_one w n) (by simpa using hn) (by simp)).mono ?_
  rintro e w' ⟨rfl, hb⟩
  exact ⟨by simp [flat], ((Below.refl _ w).alloc (Nat.le_refl _) _).trans (hb.mono (by simp))⟩

/-- What PutText answers. -/
def putO (s : ByteArray) : ByteArray × Int := if 65536 < s.size then (txt [], 3) else (txt (sev (tf s.size)) ++ s, 0)
def PutTextPost (s : ByteArray) (w : World) (e : Ending) (w' : World) : Prop := e = .returned (.tuple #[.string (putO s).1, .int .i64 (putO s).2]) ∧ Below w.heap.size w w'
theorem putText_long {s : ByteArray} {w w' : World} (h : 65536 < s.size) (hb : Below w.heap.size w w') : PutTextPost s w (.returned (.tuple #[.string ⟨#[]⟩, .int .i64 3])) w' :=
  ⟨by unfold putO; rw [if_pos h]; rfl, hb⟩
theorem putText_fine {s : ByteArray} {w w' : World} (h : ¬ 65536 < s.size) (hb : Below w.heap.size w w') : PutTextPost s w (.returned (.tuple #[.string (txt (sev (tf s.size)) ++ s), .int .i64 0])) w' :=
  ⟨by unfold putO; rw [if_neg h], hb⟩
theorem fits_size {s : ByteArray} (h : ¬ 65536 < s.size) : fits (s.size : Int) := ⟨by omega, by omega⟩
theorem sev_room {n : Int} (h : fits n) : (txt (sev (tf n))).size ≤ 10 := by rw [txt_size]; exact sev_ten (tf_lt h.1 h.2)

set_option maxRecDepth 1000000 in
theorem putText_any (s : ByteArray) (w : World) (hs : s.size ≤ 9223372036854775807) : Calls Try.prog 11 #[.string s] w (PutTextPost s w) := by
  by_cases h : 65536 < s.size
  · go_enter Try.func11, Try.ntmps11
    go_wp2
    go_ret2
    exact putText_long h (Below.refl _ _)
  · have hz := sev_room (fits_size h)
    go_enter Try.func11, Try.ntmps11
    go_wp2_with (go_at_call 14; ((with_reducible refine (put_one _ _ (fits_size h)).mono ?_); rintro e w2 ⟨rfl, hb2⟩))
    go_ret2
    exact putText_fine h hb2
set_option maxRecDepth 1000000 in
theorem refPutText_any (s : ByteArray) (w : World) (hs : s.size ≤ 9223372036854775807) : Calls Try.prog 21 #[.string s] w (PutTextPost s w) := by
  by_cases h : 65536 < s.size
  · go_enter Try.func21, Try.ntmps21
    go_wp2
    go_ret2
    exact putText_long h (Below.refl _ _)
  · have hz := sev_room (fits_size h)
    go_enter Try.func21, Try.ntmps21
    go_wp2_with (go_at_call 26; ((with_reducible refine (one_any _ _ (fits_size h)).mono ?_); rintro e w2 ⟨rfl, hb2⟩))
    go_ret2
    exact putText_fine h hb2

/-- What TakeText answers: the text, how many bytes, the code. -/
def textO (s : ByteArray) : ByteArray × Nat × Int :=
  if (take (bl s)).2.2 ≠ 0 then (txt [], 0, (take (bl s)).2.2)
  else if (take (bl s)).1 < 0 then (txt [], 0, 21)
  else if 65536 < (take (bl s)).1 then (txt [], 0, 3)
  else if s.size < (take (bl s)).2.1 + (take (bl s)).1.toNat then (txt [], 0, 20)
  else (s.extract (take (bl s)).2.1 ((take (bl s)).2.1 + (take (bl s)).1.toNat), (take (bl s)).2.1 + (take (bl s)).1.toNat, 0)
def textE (s : ByteArray) : Ending := .returned (.tuple #[.string (textO s).1, .int .i64 (textO s).2.1, .int .i64 (textO s).2.2])
theorem textE_of {s t : ByteArray} {n : Nat} {c : Int} (h : textO s = (t, n, c)) : textE s = .returned (.tuple #[.string t, .int .i64 n, .int .i64 c]) := by unfold textE; rw [h]
theorem text_bad {s : ByteArray} {c : Int} (h : take (bl s) = (0, 0, c)) (hc : c ≠ 0) : textE s = .returned (.tuple #[.string ⟨#[]⟩, .int .i64 0, .int .i64 c]) :=
  textE_of (n := 0) (by unfold textO; rw [h, if_pos hc]; rfl)
theorem text_neg {s : ByteArray} {n : Int} {k : Nat} (h : take (bl s) = (n, k, 0)) (hn : n < 0) : textE s = .returned (.tuple #[.string ⟨#[]⟩, .int .i64 0, .int .i64 21]) :=
  textE_of (n := 0) (by unfold textO; rw [h, if_neg (by simp), if_pos hn]; rfl)
theorem text_long {s : ByteArray} {n : Int} {k : Nat} (h : take (bl s) = (n, k, 0)) (hn : 65536 < n) : textE s = .returned (.tuple #[.string ⟨#[]⟩, .int .i64 0, .int .i64 3]) :=
  textE_of (n := 0) (by unfold textO; rw [h, if_neg (by simp), if_neg (by simp only; omega), if_pos hn]; rfl)
theorem text_short {s : ByteArray} {m k : Nat} (h : take (bl s) = ((m : Int), k, 0)) (hn : m ≤ 65536) (hl : s.size < k + m) : textE s = .returned (.tuple #[.string ⟨#[]⟩, .int .i64 0, .int .i64 20]) :=
  textE_of (n := 0) (by unfold textO; rw [h, if_neg (by simp), if_neg (by simp only; omega), if_neg (by simp only; omega), if_pos (by simpa using hl)]; rfl)
theorem text_fine {s : ByteArray} {m k : Nat} (h : take (bl s) = ((m : Int), k, 0)) (hn : m ≤ 65536) (hl : ¬ s.size < k + m) : textE s = .returned (.tuple #[.string (s.extract k (k + m)), .int .i64 (k + m : Nat), .int .i64 0]) :=
  textE_of (by unfold textO; rw [h, if_neg (by simp), if_neg (by simp only; omega), if_neg (by simp only; omega), if_neg (by simpa using hl)]; rfl)

set_option maxHeartbeats 800000 in
set_option maxRecDepth 1000000 in
theorem takeText_any (s : ByteArray) (w : World) (hs : s.size ≤ 9223372036854775807) : Calls Try.prog 12 #[.string s] w fun e w' => e = textE s ∧ w = w' := by
  by_cases h0 : (take (bl s)).2.2 = 0
  · have hsz := take_size h0
    obtain ⟨n, k, ht⟩ : ∃ n k, take (bl s) = (n, k, 0) := ⟨_, _, by rw [← h0]⟩
    rw [ht] at hsz
    simp only [bl_length] at hsz
    obtain ⟨z1, z2, z3, z4, z5⟩ := hsz
    have HT := Lib.hid ht
    clear ht h0
    by_cases hn : n < 0
    · go_enter Try.func12, Try.ntmps12
      go_wp2_with (go_at_call 10; ((with_reducible refine (take_of HT.out _ hs).mono ?_); rintro e w' ⟨rfl, rfl⟩))
      go_ret3
      exact ⟨(text_neg HT.out hn).symm, rfl⟩
    · by_cases hm : 65536 < n
      · go_enter Try.func12, Try.ntmps12
        go_wp2_with (go_at_call 10; ((with_reducible refine (take_of HT.out _ hs).mono ?_); rintro e w' ⟨rfl, rfl⟩))
        go_ret3
        exact ⟨(text_long HT.out hm).symm, rfl⟩
      · obtain ⟨m, rfl⟩ : ∃ m : Nat, n = m := ⟨n.toNat, by omega⟩
        by_cases hl : s.size < k + m
        · have hl' : (s.size : Int) - (k : Int) < (m : Int) := by omega
          go_enter Try.func12, Try.ntmps12
          go_wp2_with (go_at_call 10; ((with_reducible refine (take_of HT.out _ hs).mono ?_); rintro e w' ⟨rfl, rfl⟩))
          go_ret3
          exact ⟨(text_short HT.out (by omega) hl).symm, rfl⟩
        · have hl' : (m : Int) ≤ (s.size : Int) - (k : Int) := by omega
          have hl2 : (k : Int) + (m : Int) ≤ (s.size : Int) := by omega
          have hl3 : (k : Int) ≤ (k : Int) + (m : Int) := by omega
          go_enter Try.func12, Try.ntmps12
          go_wp2_with (go_at_call 10; ((with_reducible refine (take_of HT.out _ hs).mono ?_); rintro e w' ⟨rfl, rfl⟩))
          go_ret3
          exact ⟨(text_fine HT.out (by omega) hl).symm, rfl⟩
  · rcases take_bad h0 with ht | ht
    · have HT := Lib.hid ht
      clear ht h0
      go_enter Try.func12, Try.ntmps12
      go_wp2_with (go_at_call 10; ((with_reducible refine (take_of HT.out _ hs).mono ?_); rintro e w' ⟨rfl, rfl⟩))
      go_ret3
      exact ⟨(text_bad HT.out (by decide)).symm, rfl⟩
    · have HT := Lib.hid ht
      clear ht h0
      go_enter Try.func12, Try.ntmps12
      go_wp2_with (go_at_call 10; ((with_reducible refine (take_of HT.out _ hs).mono ?_); rintro e w' ⟨rfl, rfl⟩))
      go_ret3
      exact ⟨(text_bad HT.out (by decide)).symm, rfl⟩
end Go.Proofs.Ytnkpkmfobmbneaa
