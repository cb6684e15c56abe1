/- What names.Words answers: of every text. -/
import Derived.Test.YtmhdjmfkndgboaaC
namespace Go.Proofs.Ytmhdjmfkndgboaa
open Go.RowKit

/-- The words of the runes that are left, behind those that are had; none: a rune that may not stand. -/
def wordsGo (s : ByteArray) : Bool → Nat → List ByteArray → List (Nat × Nat) → Option (List ByteArray)
  | within, b, acc, [] => some (if within then acc ++ [s.extract b s.size] else acc)
  | within, b, acc, (p, r) :: t =>
    if mayB r then
      if blkB r then (if within then wordsGo s false b (acc ++ [s.extract b p]) t else wordsGo s false b acc t)
      else (if within then wordsGo s true b acc t else wordsGo s true p acc t)
    else none
/-- What Words answers: the words, the code. -/
def wordsO (s : ByteArray) : List ByteArray × Int :=
  if 400 < s.size then ([], 3) else
  match wordsGo s false 0 [] (runesAt s 0) with
  | none => ([], 10)
  | some l => (l, 0)

def WordsPost (s : ByteArray) (w : World) (e : Ending) (w' : World) : Prop :=
  ∃ v, e = .returned (.tuple #[v, .int .i64 (wordsO s).2]) ∧ w'.ownsRow w.heap.size 9 1 v (wordsO s).1.length ((wordsO s).1.map Value.string) ∧ Below w.heap.size w w'

theorem words_fail {s : ByteArray} {w w' : World} {c : Int} (h : wordsO s = ([], c)) (hb : Below w.heap.size w w') : WordsPost s w (.returned (.tuple #[.slice none 0 0, .int .i64 c])) w' :=
  ⟨.slice none 0 0, by rw [h], by rw [h]; exact World.ownsRow_nil _ _ _ _, hb⟩
theorem words_fine {s : ByteArray} {w w' : World} {v : Value} {l : List ByteArray} (h : wordsO s = (l, 0)) (ho : w'.ownsRow w.heap.size 9 1 v l.length (l.map Value.string)) (hb : Below w.heap.size w w') : WordsPost s w (.returned (.tuple #[v, .int .i64 0])) w' :=
  ⟨v, by rw [h], by rw [h]; exact ho, hb⟩

/-- What holds at each round's head. -/
def WordsRel (s : ByteArray) (w : World) (u4 u5 u6 : Value) (wr : World) : Prop :=
  ∃ pos b within acc, wr.heap[w.heap.size]? = some (.stringIter s pos) ∧ wr.ownsRow w.heap.size 9 1 u4 acc.length (acc.map Value.string) ∧ u5 = .int .i64 (b : Nat) ∧ u6 = .bool within ∧ Below w.heap.size w wr ∧
    wordsGo s within b acc (runesAt s pos) = wordsGo s false 0 [] (runesAt s 0) ∧ acc.length + (runesAt s pos).length ≤ s.size ∧ b ≤ pos ∧ b ≤ s.size

/-- The iterator moved on, the words as they were. -/
theorem words_on {s : ByteArray} {w wr : World} {u4 : Value} {pos b b' : Nat} {within within' : Bool} {acc : List ByteArray} (hp : pos < s.size)
    (hit : wr.heap[w.heap.size]? = some (.stringIter s pos)) (h4 : wr.ownsRow w.heap.size 9 1 u4 acc.length (acc.map Value.string)) (hb : Below w.heap.size w wr)
    (hg : wordsGo s within b acc (runesAt s pos) = wordsGo s false 0 [] (runesAt s 0)) (hl : acc.length + (runesAt s pos).length ≤ s.size)
    (hs : wordsGo s within b acc ((pos, (Utf8.decode s pos).1) :: runesAt s (pos + (Utf8.decode s pos).2)) = wordsGo s within' b' acc (runesAt s (pos + (Utf8.decode s pos).2))) (hb' : b' ≤ pos) :
    WordsRel s w u4 (.int .i64 b') (.bool within') (wr.iterAt w.heap.size s (pos + (Utf8.decode s pos).2)) ∧ (wr.iterAt w.heap.size s (pos + (Utf8.decode s pos).2)).heap[w.heap.size]? = some (.stringIter s (pos + (Utf8.decode s pos).2)) := by
  have hit2 := Lib.iterAt_heap wr w.heap.size s pos (pos + (Utf8.decode s pos).2) hit
  have hwd := width_pos s pos hp
  rw [runesAt_step s pos hp] at hg hl
  rw [List.length_cons] at hl
  exact ⟨⟨_, b', within', acc, hit2, own_iterAt h4 hit _, rfl, rfl, Lib.below_iterAt hb (Nat.le_refl _) s _, hs.symm.trans hg, by omega, by omega, by omega⟩, hit2⟩

/-- A word more. -/
theorem words_more {s : ByteArray} {w wr w1 : World} {u4 v4 : Value} {pos b : Nat} {acc : List ByteArray} (hp : pos < s.size)
    (hit : wr.heap[w.heap.size]? = some (.stringIter s pos)) (h4 : wr.ownsRow w.heap.size 9 1 u4 acc.length (acc.map Value.string)) (hb : Below w.heap.size w wr)
    (hg : wordsGo s true b acc (runesAt s pos) = wordsGo s false 0 [] (runesAt s 0)) (hl : acc.length + (runesAt s pos).length ≤ s.size) (hb' : b ≤ pos)
    (hm : mayB (Utf8.decode s pos).1 = true) (hk : blkB (Utf8.decode s pos).1 = true)
    (k4 : w1.ownsRow w.heap.size 9 1 v4 (acc.length + 1) (acc.map Value.string ++ [.string (s.extract b pos)]))
    (g4 : ((wr.iterAt w.heap.size s (pos + (Utf8.decode s pos).2)).alloc (.cells #[.string (s.extract b pos)] 9)).grownBy w1 u4.ownBlock) :
    WordsRel s w v4 (.int .i64 b) (.bool false) w1 ∧ w1.heap[w.heap.size]? = some (.stringIter s (pos + (Utf8.decode s pos).2)) := by
  have hsz : w.heap.size < wr.heap.size := (Array.getElem?_eq_some_iff.1 hit).1
  have hit2 := Lib.iterAt_heap wr w.heap.size s pos (pos + (Utf8.decode s pos).2) hit
  have hsz2 : (wr.iterAt w.heap.size s (pos + (Utf8.decode s pos).2)).heap.size = wr.heap.size := Lib.iterAt_size _ _ _ _
  have h4b := own_iterAt h4 hit (pos + (Utf8.decode s pos).2)
  have hwd := width_pos s pos hp
  have hit3 : w1.heap[w.heap.size]? = some (.stringIter s (pos + (Utf8.decode s pos).2)) := by
    rw [g4.block w.heap.size (by simp; omega) (own_ne_iter h4b hit2), Below.heap_alloc _ _ _ (by omega)]
    exact hit2
  have hb2 := Lib.below_iterAt hb (k := w.heap.size) (Nat.le_refl _) s (pos + (Utf8.decode s pos).2)
  have hb3 : Below w.heap.size w w1 := (hb2.alloc (by omega) _).grown g4 (by simp; omega) (fun j hj => (h4.lt j hj).1)
  rw [runesAt_step s pos hp] at hg hl
  rw [List.length_cons] at hl
  refine ⟨⟨_, b, false, acc ++ [s.extract b pos], hit3, by simpa using k4, rfl, rfl, hb3, ?_, by simp; omega, by omega, by omega⟩, hit3⟩
  rw [← hg]
  simp [wordsGo, hm, hk]

/-- At the end. -/
theorem words_end {s : ByteArray} {pos b : Nat} {within : Bool} {acc : List ByteArray} (hp : ¬ pos < s.size) (h400 : ¬ 400 < s.size) (hg : wordsGo s within b acc (runesAt s pos) = wordsGo s false 0 [] (runesAt s 0)) :
    wordsO s = (if within then acc ++ [s.extract b s.size] else acc, 0) := by
  rw [runesAt_end s pos hp] at hg
  unfold wordsO
  rw [if_neg h400, ← hg]
  rfl
theorem words_bad {s : ByteArray} {pos b : Nat} {within : Bool} {acc : List ByteArray} (hp : pos < s.size) (h400 : ¬ 400 < s.size) (hg : wordsGo s within b acc (runesAt s pos) = wordsGo s false 0 [] (runesAt s 0)) (hm : mayB (Utf8.decode s pos).1 = false) :
    wordsO s = ([], 10) := by
  rw [runesAt_step s pos hp] at hg
  unfold wordsO
  rw [if_neg h400, ← hg]
  simp [wordsGo, hm]

set_option maxRecDepth 1000000 in
theorem words_long (s : ByteArray) (w : World) (hs : 400 < s.size) : Calls Try.prog 9 #[.string s] w (WordsPost s w) := by
  go_enter Try.func9, Try.ntmps9
  go_wp2
  go_ret2
  exact words_fail (by unfold wordsO; rw [if_pos hs]) (Below.refl _ _)

set_option maxHeartbeats 1600000 in
set_option maxRecDepth 1000000 in
theorem words_any (s : ByteArray) (w : World) : Calls Try.prog 9 #[.string s] w (WordsPost s w) := by
  by_cases h400 : 400 < s.size
  · exact words_long s w h400
  obtain ⟨i0, hi, hz0, hz1, hz2⟩ := info_parts info9
  go_enter Try.func9, Try.ntmps9
  go_wp2
  go_loopw [4, 5, 6] (fun u4 u5 u6 wr => WordsRel s w u4 u5 u6 wr) (fun _ _ _ wr => s.size - wr.iterPos w.heap.size)
  case atStart => exact ⟨0, 0, false, [], World.iter_heap w s 0, World.ownsRow_nil _ _ _ _, rfl, rfl, below_iter w s 0, rfl, by have := runesAt_length s 0; simpa using this, Nat.zero_le _, Nat.zero_le _⟩
  case round =>
    obtain ⟨pos, b, within, acc, hit, h4, rfl, rfl, hb, hg, hl, hbp, hbs⟩ := hrel
    have HG := Lib.hid hg; clear hg
    by_cases hp : pos < s.size
    · have hnx : ∀ ty, (Instr.next (.pointer (some ⟨w.heap.size, 0, none⟩)) true ty).run Try.prog wr = _ := fun ty => Lib.run_next_any_at wr w.heap.size s pos ty hit hp
      have hwd := width_pos s pos hp
      have HW := Lib.hid hit
      cases hm : mayB (Utf8.decode s pos).1 with
      | false =>
        have hb2 := Lib.below_iterAt hb (k := w.heap.size) (Nat.le_refl _) s (pos + (Utf8.decode s pos).2)
        go_wp2_with (first | (go_at_call 22; refine (mayStand_any _ _).mono ?_; rintro e w' ⟨rfl, rfl⟩) | (go_at_call 23; refine (blank_any _ _).mono ?_; rintro e w' ⟨rfl, rfl⟩))
        go_ret2
        exact words_fail (words_bad hp h400 HG.out hm) hb2
      | true =>
        cases hk : blkB (Utf8.decode s pos).1 <;> cases within
        · have HR := Lib.hid (words_on (within' := true) (b' := pos) hp hit h4 hb HG.out hl (by simp [wordsGo, hm, hk]) (Nat.le_refl _))
          clear hit
          go_wp2_with (first | (go_at_call 22; refine (mayStand_any _ _).mono ?_; rintro e w' ⟨rfl, rfl⟩) | (go_at_call 23; refine (blank_any _ _).mono ?_; rintro e w' ⟨rfl, rfl⟩))
          go_roundw
          case rel => exact HR.out.1
          case measure => simp only [World.iterPos, HR.out.2, HW.out]; omega
        · have HR := Lib.hid (words_on (within' := true) (b' := b) hp hit h4 hb HG.out hl (by simp [wordsGo, hm, hk]) hbp)
          clear hit
          go_wp2_with (first | (go_at_call 22; refine (mayStand_any _ _).mono ?_; rintro e w' ⟨rfl, rfl⟩) | (go_at_call 23; refine (blank_any _ _).mono ?_; rintro e w' ⟨rfl, rfl⟩))
          go_roundw
          case rel => exact HR.out.1
          case measure => simp only [World.iterPos, HR.out.2, HW.out]; omega
        · have HR := Lib.hid (words_on (within' := false) (b' := b) hp hit h4 hb HG.out hl (by simp [wordsGo, hm, hk]) hbp)
          clear hit
          go_wp2_with (first | (go_at_call 22; refine (mayStand_any _ _).mono ?_; rintro e w' ⟨rfl, rfl⟩) | (go_at_call 23; refine (blank_any _ _).mono ?_; rintro e w' ⟨rfl, rfl⟩))
          go_roundw
          case rel => exact HR.out.1
          case measure => simp only [World.iterPos, HR.out.2, HW.out]; omega
        · have hbp' : (b : Int) ≤ (pos : Int) := by omega
          have hps : (pos : Int) ≤ (s.size : Int) := by omega
          have h4b := own_iterAt h4 hit (pos + (Utf8.decode s pos).2)
          have hsz : w.heap.size < wr.heap.size := (Array.getElem?_eq_some_iff.1 hit).1
          have HSZ : Hid (∀ o, w.heap.size ≤ ((wr.iterAt w.heap.size s (pos + (Utf8.decode s pos).2)).alloc o).heap.size) := Lib.hid (fun o => by
            rw [World.size_alloc, Lib.iterAt_size]; omega)
          go_wp2_with (first | (go_at_call 22; refine (mayStand_any _ _).mono ?_; rintro e w' ⟨rfl, rfl⟩) | (go_at_call 23; refine (blank_any _ _).mono ?_; rintro e w' ⟨rfl, rfl⟩) | (at_builtin; refine wpList_append_own _ rfl (.tmp 28) (.tmp 33) 22 rfl w.heap.size 9 i0 (.string ⟨#[]⟩) 1 16 Try.underlying22 hi hz0 hz1 hz2 rfl (by decide) _ _ _ rfl (h4b.alloc _) ⟨_, 0, none⟩ 1 1 [.string (s.extract b pos)] rfl rfl (cell_one_new _ _ _) (by simp [Value.oneCell']) (by unfold maxLen; omega) (by omega) (HSZ.out _) ?_))
          intro v4 w1 k4 g4 _
          have HR := Lib.hid (words_more hp hit h4 hb HG.out hl hbp hm hk k4 g4)
          clear hit
          go_wp2
          go_roundw
          case rel => exact HR.out.1
          case measure => simp only [World.iterPos, HR.out.2, HW.out]; omega
    · have hnx : ∀ ty, (Instr.next (.pointer (some ⟨w.heap.size, 0, none⟩)) true ty).run Try.prog wr = _ := fun ty => Lib.run_next_end_at wr w.heap.size s pos ty hit hp
      have hsz : w.heap.size < wr.heap.size := (Array.getElem?_eq_some_iff.1 hit).1
      have HE := Lib.hid (words_end hp h400 HG.out)
      cases within
      · go_wp2
        go_ret2
        exact words_fine HE.out h4 hb
      · have HSZ : Hid (∀ o, w.heap.size ≤ (wr.alloc o).heap.size) := Lib.hid (fun o => by rw [World.size_alloc]; omega)
        go_wp2_with (at_builtin; refine wpList_append_own _ rfl (.tmp 45) (.tmp 49) 22 rfl w.heap.size 9 i0 (.string ⟨#[]⟩) 1 16 Try.underlying22 hi hz0 hz1 hz2 rfl (by decide) _ _ _ rfl (h4.alloc _) ⟨_, 0, none⟩ 1 1 [.string (s.extract b s.size)] rfl rfl (cell_one_new _ _ _) (by simp [Value.oneCell']) (by unfold maxLen; omega) (by omega) (HSZ.out _) ?_)
        intro v4 w1 k4 g4 _
        have hb3 : Below w.heap.size w w1 := (hb.alloc (by omega) _).grown g4 (HSZ.out _) (fun j hj => (h4.lt j hj).1)
        go_wp2
        go_ret2
        exact words_fine HE.out (by simpa using k4) hb3
end Go.Proofs.Ytmhdjmfkndgboaa
