/- What changelingref02.Put and Numbers answer: as bytes.Put and Numbers. -/
import Derived.Test.YtknldabnkaecdaaByH
import Derived.Test.YtknldabnkaecdaaByE
namespace Go.Proofs.Ytknldabnkaecdaa.byt
open Go.RowKit
def RefPutRel (l : List Int) (w wr : World) (v3 v4 : Value) (g : Nat) : Prop :=
  ∃ k : Nat, k + g = l.length ∧ v4 = .int .i64 k ∧ v3 = .string (txt (flat (l.take k))) ∧ Below w.heap.size w wr

set_option maxHeartbeats 800000 in
set_option maxRecDepth 1000000 in
theorem refPut_any (l : List Int) (a : Option Addr) (cap : Nat) (w : World) (hr : Rd w w.heap.size a l) (hf : ∀ n ∈ l, fits n) (hl : l.length ≤ 1000000) :
    Calls Try.prog 31 #[.slice a l.length cap] w (PutPost l w) := by
  have HR := Lib.hid hr; have HF := Lib.hid hf
  clear hr hf
  go_enter Try.func31, Try.ntmps31
  go_wp2
  go_loopg [3, 4] l.length (fun g v3 v4 wr => RefPutRel l w wr v3 v4 g)
  case atStart => exact ⟨0, by omega, rfl, rfl, Below.refl _ _⟩
  case round =>
    obtain ⟨k, hkg, rfl, rfl, hb⟩ := hrel
    have HB := Lib.hid hb
    clear hb
    cases gk with
    | zero =>
      have hkz : ¬ ((k : Int) < (l.length : Int)) := by omega
      obtain ⟨t, et⟩ : ∃ t, txt (flat (l.take k)) = t := ⟨_, rfl⟩
      rw [et]
      rw [show k = l.length by omega, List.take_length] at et
      have ET := Lib.hid et; clear et
      go_wp2
      go_ret
      exact ⟨by rw [ET.out]; rfl, HB.out⟩
    | succ g =>
      have hkz : (k : Int) < (l.length : Int) := by omega
      obtain ⟨b, o, rfl, hlt, hc⟩ := HR.out (by intro e; rw [e] at hkz; simp at hkz; omega)
      have hck := (HB.out.cell (p := ⟨b, o + k, none⟩) hlt).trans (hc k (by omega))
      have hfk : fits (l.getD k 0) := HF.out _ (by rw [List.getD_eq_getElem?_getD, List.getElem?_eq_getElem (by omega)]; simp)
      obtain ⟨x, ex⟩ : ∃ x, l.getD k 0 = x := ⟨_, rfl⟩
      have HT := Lib.hid (take_more (by omega) ex)
      rw [ex] at hck hfk
      clear hc ex
      have h1 : (txt (flat (l.take k))).size ≤ 10000000 := by
        have := take_size' HF.out k
        rw [txt_size]; omega
      have h2 : (txt (sev (tf x))).size ≤ 10 := by rw [txt_size]; exact sev_ten (tf_lt hfk.1 hfk.2)
      go_wp2_with (go_at_call 35; ((with_reducible refine (one_any _ _ hfk).mono ?_); rintro e w2 ⟨rfl, hb2⟩))
      go_roundg g
      case measure => omega
      case rel => exact ⟨k + 1, by omega, by go_num, by rw [HT.out, txt_append], below_on' HB.out hb2⟩

theorem size_extract (s : ByteArray) (a : Nat) : (s.extract a s.size).size = s.size - a := by rw [← bl_length, bl_extract, List.length_drop]; rfl
/-- What holds at each round's head: the place, the numbers that are had. -/
def RefNumsRel (s : ByteArray) (w wr : World) (v4 v5 : Value) (g : Nat) : Prop :=
  ∃ (a : Nat) (acc : List Int), a ≤ s.size ∧ v5 = .int .i64 a ∧ wr.ownsRow w.heap.size 2 1 v4 acc.length (acc.map intV) ∧ Below w.heap.size w wr ∧ nums g acc ((bl s).drop a) = numsO s ∧ s.size - a ≤ g ∧ acc.length ≤ a
theorem refNums_more {s : ByteArray} {w wr w2 : World} {acc : List Int} {n : Int} {a k g : Nat} {v4 : Value} {o : Obj} {ro : Option Nat} (ha : a < s.size) (hk1 : 1 ≤ k) (hk : k ≤ s.size - a) (ht : take ((bl s).drop a) = (n, k, 0))
    (hb : Below w.heap.size w wr) (hn : nums (g + 1) acc ((bl s).drop a) = numsO s) (hg : s.size - a ≤ g + 1) (hl : acc.length ≤ a)
    (hro : ∀ j, ro = some j → w.heap.size ≤ j) (k4 : w2.ownsRow w.heap.size 2 1 v4 (acc.length + 1) (acc.map intV ++ [.int .i64 n])) (g4 : (wr.alloc o).grownBy w2 ro) :
    RefNumsRel s w w2 v4 (.int .i64 ((a : Int) + (k : Int))) g := by
  have hne : (bl s).drop a ≠ [] := by
    intro h0
    have := congrArg List.length h0
    rw [List.length_drop, bl_length, List.length_nil] at this
    omega
  rw [nums_step hne (by rw [ht]), ht, List.drop_drop] at hn
  exact ⟨a + k, acc ++ [n], by omega, by rw [Int.natCast_add], by simpa [intV] using k4, (hb.alloc hb.size _).grown g4 (by rw [World.size_alloc]; have := hb.size; omega) hro, hn, by omega, by rw [List.length_append, List.length_singleton]; omega⟩

set_option maxHeartbeats 1600000 in
set_option maxRecDepth 1000000 in
theorem refNumbers_any (s : ByteArray) (w : World) (hs : s.size ≤ 1000000) : Calls Try.prog 33 #[.string s] w (NumsPost s w) := by
  obtain ⟨i0, hi, hz0, hz1, hz2⟩ := info_parts info2
  go_enter Try.func33, Try.ntmps33
  go_wp2
  go_loopg [4, 5] s.size (fun g v4 v5 wr => RefNumsRel s w wr v4 v5 g)
  case atStart => exact ⟨0, [], Nat.zero_le _, rfl, World.ownsRow_nil _ _ _ _, Below.refl _ _, rfl, by omega, by simp⟩
  case round =>
    obtain ⟨a, acc, ha, rfl, hown, hb, hn, hg, hl⟩ := hrel
    by_cases hr : a < s.size
    · obtain ⟨g, rfl⟩ : ∃ g, gk = g + 1 := ⟨gk - 1, by omega⟩
      have ha' : (a : Int) ≤ (s.size : Int) := by omega
      have hes : (s.extract a s.size).size ≤ 9223372036854775807 := by rw [size_extract]; omega
      have HES := Lib.hid hes
      clear hes
      by_cases h0 : (take ((bl s).drop a)).2.2 = 0
      · have hsz := take_size h0
        obtain ⟨n, k, ht⟩ : ∃ n k, take ((bl s).drop a) = (n, k, 0) := ⟨_, _, by rw [← h0]⟩
        rw [ht, List.length_drop, bl_length] at hsz
        simp only at hsz
        obtain ⟨z1, z2, z3, z4, z5⟩ := hsz
        have HSZ : Hid (∀ o, w.heap.size ≤ (wr.alloc o).heap.size) := Lib.hid (fun o => by rw [World.size_alloc]; have := hb.size; omega)
        have HL := Lib.hid (fun j hj => (hown.lt j hj).1)
        have HT := Lib.hid ht; have HO := Lib.hid hown; have HB := Lib.hid hb; have HN := Lib.hid hn
        have HT2 := Lib.hid (show take (bl (s.extract a s.size)) = (n, k, 0) by rw [bl_extract]; exact ht)
        clear ht hown hb hn h0
        go_wp2_with (first | (go_at_call 37; ((with_reducible refine (refTake_of HT2.out _ HES.out).mono ?_); rintro e w' ⟨rfl, rfl⟩)) | (at_builtin; refine wpList_append_own _ rfl (.tmp 24) (.tmp 26) 52 rfl w.heap.size 2 i0 (.int .i64 0) 1 8 Try.underlying52 hi hz0 hz1 hz2 rfl (by decide) _ _ _ rfl (HO.out.alloc _) ⟨_, 0, none⟩ 1 1 [.int .i64 n] rfl rfl (cell_one_new _ _ _) (by simp [Value.oneCell']) (by unfold maxLen; omega) (by omega) (HSZ.out _) ?_))
        intro v4 w2 k4 g4 _
        have HR := Lib.hid (refNums_more hr z1 z3 HT.out HB.out HN.out hg hl HL.out k4 g4)
        clear k4 g4
        go_wp2
        go_roundg g
        case measure => omega
        case rel => exact HR.out
      · have hne : (bl s).drop a ≠ [] := by
          intro h0
          have := congrArg List.length h0
          rw [List.length_drop, bl_length, List.length_nil] at this
          omega
        rw [nums_bad hne h0] at hn
        have hbad := take_bad h0
        rw [← bl_extract] at hbad hn
        have HN := Lib.hid hn; have HB := Lib.hid hb
        clear hn hb hown h0
        rcases hbad with ht | ht
        · have HE := Lib.hid (show numsO s = ([], 20) by rw [← HN.out, ht])
          have HT := Lib.hid ht
          clear ht
          go_wp2_with (go_at_call 37; ((with_reducible refine (refTake_of HT.out _ HES.out).mono ?_); rintro e w' ⟨rfl, rfl⟩))
          go_ret2
          exact nums_fail HE.out HB.out
        · have HE := Lib.hid (show numsO s = ([], 21) by rw [← HN.out, ht])
          have HT := Lib.hid ht
          clear ht
          go_wp2_with (go_at_call 37; ((with_reducible refine (refTake_of HT.out _ HES.out).mono ?_); rintro e w' ⟨rfl, rfl⟩))
          go_ret2
          exact nums_fail HE.out HB.out
    · have hz : (bl s).drop a = [] := List.drop_eq_nil_of_le (by rw [bl_length]; omega)
      rw [hz, nums_end] at hn
      have HN := Lib.hid hn; have HB := Lib.hid hb; have HO := Lib.hid hown
      clear hn hb hown hz
      go_wp2
      go_ret2
      exact nums_fine HN.out.symm HO.out HB.out
end Go.Proofs.Ytknldabnkaecdaa.byt
