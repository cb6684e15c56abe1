/- What changelingref01.Words answers: of every text; NamesWords returns true of every text. -/
import Derived.Test.YtmhdjmfkndgboaaR
import Derived.Test.YtmhdjmfkndgboaaL3
namespace Go.Proofs.Ytmhdjmfkndgboaa
open Go.RowKit

/-- What holds at each head of the loop over bytes. -/
def RefRel (s : ByteArray) (B : Nat) (W : World) (u7 u8 u9 : Value) (wr : World) : Prop :=
  ∃ (k : Nat) (word : ByteArray) (acc : List ByteArray), k ≤ s.size ∧ u9 = .int .i64 k ∧ u8 = .string word ∧ wr.ownsRow B 9 1 u7 acc.length (acc.map Value.string) ∧ Below B W wr ∧ B ≤ wr.heap.size ∧
    refGo word.data.toList acc (s.data.toList.drop k) = refGo [] [] s.data.toList ∧ acc.length ≤ k ∧ word.size ≤ k
theorem drop_byte {s : ByteArray} {k : Nat} (h : k < s.size) : s.data.toList.drop k = s[k] :: s.data.toList.drop (k + 1) := by
  rw [List.drop_eq_getElem_cons (by simpa using h)]
  rfl
theorem extract_one {s : ByteArray} {k : Nat} (h : k < s.size) : (s.extract k (k + 1)).data.toList = [s[k]] := by
  rw [extract_toList', drop_byte h]; rfl
theorem empty_word {word : ByteArray} (h : word.size = 0) : word = ⟨#[]⟩ := by
  apply byteArray_ext
  have : word.data.toList.length = 0 := by simpa using h
  exact List.eq_nil_of_length_eq_zero this

theorem toList_data (word : ByteArray) : word.toList = word.data.toList := by rw [ByteArray.toList_eq]
theorem word_empty {word : ByteArray} (h : (!word.toList.isEmpty) = false) : word.data.toList = [] := by
  rw [toList_data] at h; simpa using h
theorem word_full {word : ByteArray} (h : (!word.toList.isEmpty) = true) : word.data.toList ≠ [] := by
  rw [toList_data] at h; simpa using h
theorem blk_cases {c : UInt8} (h : blkC c = true) : ((c.toNat : Int) == 32) = true ∨ (((c.toNat : Int) == 32) = false ∧ ((c.toNat : Int) == 9) = true) := by
  unfold blkC at h
  simp only [decide_eq_true_eq] at h
  by_cases h1 : c.toNat = 32
  · left; simp [h1]
  · right
    have h2 : c.toNat = 9 := by omega
    simp [h2]
theorem blk_not {c : UInt8} (h : blkC c = false) : ((c.toNat : Int) == 32) = false ∧ ((c.toNat : Int) == 9) = false := by
  unfold blkC at h
  simp only [decide_eq_false_iff_not] at h
  constructor <;> simp <;> omega
theorem slice_one {s : ByteArray} {k : Nat} (W : World) (h : k < s.size) : (Instr.slice 9 (.string s) (some (.int .i64 (k : Int))) (some (.int .i64 ((k : Int) + 1))) none).run Try.prog W = .ok (.string (s.extract k (k + 1))) W := by
  rw [run_slice_string W 9 s .i64 .i64 k ((k : Int) + 1) Try.underlying9 (by omega) (by omega) (by omega)]
  have e : ((k : Int) + 1).toNat = k + 1 := by omega
  rw [e, Int.toNat_natCast]
theorem one_size {s : ByteArray} {k : Nat} (h : k < s.size) : (s.extract k (k + 1)).size ≤ 1000000 := by
  have := congrArg List.length (extract_one h)
  simp at this
  rw [ByteArray.size_extract]; omega
theorem ref_skip {s : ByteArray} {B k : Nat} {W wr : World} {u7 : Value} {word : ByteArray} {acc : List ByteArray} (hk : k < s.size) (h7 : wr.ownsRow B 9 1 u7 acc.length (acc.map Value.string)) (hb : Below B W wr) (hB : B ≤ wr.heap.size)
    (hg : refGo word.data.toList acc (s.data.toList.drop k) = refGo [] [] s.data.toList) (hl : acc.length ≤ k) (he : word.data.toList = []) (hc : blkC s[k] = true) :
    RefRel s B W u7 (.string ⟨#[]⟩) (.int .i64 ((k : Int) + 1)) wr := by
  refine ⟨k + 1, ⟨#[]⟩, acc, hk, by go_num, rfl, h7, hb, hB, ?_, by omega, Nat.zero_le _⟩
  rw [drop_byte hk, he] at hg
  simp only [refGo, hc, if_true] at hg
  exact hg
theorem ref_on {s : ByteArray} {B k : Nat} {W wr : World} {u7 : Value} {word : ByteArray} {acc : List ByteArray} (hk : k < s.size) (h7 : wr.ownsRow B 9 1 u7 acc.length (acc.map Value.string)) (hb : Below B W wr) (hB : B ≤ wr.heap.size)
    (hg : refGo word.data.toList acc (s.data.toList.drop k) = refGo [] [] s.data.toList) (hl : acc.length ≤ k) (hw : word.size ≤ k) (hc : blkC s[k] = false) :
    RefRel s B W u7 (.string (word ++ s.extract k (k + 1))) (.int .i64 ((k : Int) + 1)) wr := by
  refine ⟨k + 1, word ++ s.extract k (k + 1), acc, hk, by go_num, rfl, h7, hb, hB, ?_, by omega, ?_⟩
  · rw [drop_byte hk] at hg
    simp only [refGo, hc, Bool.false_eq_true, if_false] at hg
    rw [append_toList, extract_one hk]
    exact hg
  · have h1 := congrArg List.length (append_toList word (s.extract k (k + 1)))
    rw [List.length_append, extract_one hk] at h1
    simp at h1
    rw [ByteArray.size_append, ByteArray.size_extract]; omega
theorem ref_more {s : ByteArray} {B k : Nat} {W wr w2 : World} {u7 v7 : Value} {word : ByteArray} {acc : List ByteArray} {o : Obj} (hk : k < s.size) (h7 : wr.ownsRow B 9 1 u7 acc.length (acc.map Value.string)) (hb : Below B W wr) (hB : B ≤ wr.heap.size)
    (hg : refGo word.data.toList acc (s.data.toList.drop k) = refGo [] [] s.data.toList) (hl : acc.length ≤ k) (he : word.data.toList ≠ []) (hc : blkC s[k] = true)
    (k7 : w2.ownsRow B 9 1 v7 (acc.length + 1) (acc.map Value.string ++ [.string word])) (g7 : (wr.alloc o).grownBy w2 u7.ownBlock) :
    RefRel s B W v7 (.string ⟨#[]⟩) (.int .i64 ((k : Int) + 1)) w2 := by
  have hs := g7.size
  rw [World.size_alloc] at hs
  refine ⟨k + 1, ⟨#[]⟩, acc ++ [word], hk, by go_num, rfl, by simpa using k7, (hb.alloc hB _).grown g7 (by rw [World.size_alloc]; omega) (fun j hj => (h7.lt j hj).1), by omega, ?_, by simp; omega, Nat.zero_le _⟩
  rw [drop_byte hk] at hg
  simp only [refGo, hc, if_true] at hg
  rw [if_neg he] at hg
  rw [← hg]
theorem ref_end {s : ByteArray} {word : ByteArray} {acc : List ByteArray} (hg : refGo word.data.toList acc (s.data.toList.drop s.size) = refGo [] [] s.data.toList) (he : word.data.toList = []) : refGo [] [] s.data.toList = acc := by
  rw [← hg, he, List.drop_eq_nil_of_le (by simp)]
  rfl
theorem ref_end2 {s : ByteArray} {word : ByteArray} {acc : List ByteArray} (hg : refGo word.data.toList acc (s.data.toList.drop s.size) = refGo [] [] s.data.toList) (he : word.data.toList ≠ []) : refGo [] [] s.data.toList = acc ++ [word] := by
  rw [← hg, List.drop_eq_nil_of_le (by simp)]
  simp only [refGo]
  rw [if_neg he]
theorem may_9 {r : Nat} (h : r = 9) : mayB r = true := by subst h; rfl
theorem may_F {r : Nat} (h : r = 65533) : mayB r = false := by subst h; rfl
theorem may_32 {r : Nat} (h : ¬ r = 65533) (h' : 32 ≤ r) : mayB r = true := by unfold mayB; simp; omega
theorem may_no {r : Nat} (h : ¬ r = 9) (h' : r < 32) : mayB r = false := by unfold mayB; simp; omega
theorem may_more {l : List (Nat × Nat)} {k : Nat} {x : Nat × Nat} (h : ∀ j y, j < k → l[j]? = some y → mayB y.2 = true) (hx : l[k]? = some x) (hn : mayB x.2 = true) : ∀ j y, j < k + 1 → l[j]? = some y → mayB y.2 = true := by
  intro j y hj hy
  rcases Nat.lt_or_ge j k with h1 | h1
  · exact h j y h1 hy
  · obtain rfl : j = k := by omega
    rw [hx] at hy
    cases hy
    exact hn

set_option maxHeartbeats 1600000 in
set_option maxRecDepth 1000000 in
theorem refWords_any (s : ByteArray) (w : World) (hs : s.size ≤ 1000000) : Calls Try.prog 18 #[.string s] w (WordsPost s w) := by
  by_cases h400 : 400 < s.size
  · go_enter Try.func18, Try.ntmps18
    go_wp2_with fail
    go_ret2
    exact words_fail (wordsO_long h400) (Below.refl _ _)
  obtain ⟨i0, hi, hz0, hz1, hz2⟩ := info_parts info9
  have hrl := runesAt_length s 0
  go_enter Try.func18, Try.ntmps18
  go_wp2_with fail
  refine (runes_read s _ hs).mono ?_
  rintro e w1 ⟨a1, c1, a2, c2, rfl, hb, hc⟩
  have HB := Lib.hid hb
  have HC := Lib.hid hc
  clear hc hb
  go_wp2_with fail
  go_loop [6] (fun i => ∃ k : Nat, k ≤ (runesAt s 0).length ∧ i = .int .i64 k ∧ Hid (∀ j x, j < k → (runesAt s 0)[j]? = some x → mayB x.2 = true)) (fun i => (runesAt s 0).length - (intOf i).toNat)
  case atStart => exact ⟨0, Nat.zero_le _, rfl, Lib.hid (fun j x hj => by omega)⟩
  case round =>
    obtain ⟨k, hk, rfl, HA⟩ := hrel
    by_cases hlt : k < (runesAt s 0).length
    · obtain ⟨x, hx⟩ : ∃ x, (runesAt s 0)[k]? = some x := ⟨_, List.getElem?_eq_getElem hlt⟩
      obtain ⟨g1, g2, rfl, rfl, _, _, hcc⟩ := HC.out (by omega)
      have hc := (hcc k x hx).1
      clear hcc
      have HX := Lib.hid hx
      clear hx
      by_cases h9 : x.2 = 9
      · have HM := Lib.hid (may_more HA.out HX.out (may_9 h9))
        have hc9 : w1.cell? ⟨g1, k, none⟩ = some (.int .i32 9) := by rw [hc, h9]; rfl
        clear hc h9
        go_wp2_with fail
        go_round
        case rel => exact ⟨k + 1, by omega, by go_num, HM⟩
        case measure => simp [intOf]; omega
      · by_cases hF : x.2 = 65533
        · have HN := Lib.hid (wordsO_bad h400 (List.mem_of_getElem? HX.out) (may_F hF))
          have hcF : w1.cell? ⟨g1, k, none⟩ = some (.int .i32 65533) := by rw [hc, hF]; rfl
          clear hc hF h9
          go_wp2_with fail
          go_ret2
          exact words_fail HN.out HB.out
        · have h1 : ((x.2 : Int) == 65533) = false := by simp; omega
          have h9' : ((x.2 : Int) != 9) = true := by simp; omega
          by_cases h32 : 32 ≤ x.2
          · have HM := Lib.hid (may_more HA.out HX.out (may_32 hF h32))
            have h3 : ¬ (x.2 : Int) < 32 := by omega
            clear hF h9 h32
            go_wp2_with fail
            go_round
            case rel => exact ⟨k + 1, by omega, by go_num, HM⟩
            case measure => simp [intOf]; omega
          · have HN := Lib.hid (wordsO_bad h400 (List.mem_of_getElem? HX.out) (may_no h9 (by omega)))
            have h3 : (x.2 : Int) < 32 := by omega
            clear hF h9 h32
            go_wp2_with fail
            go_ret2
            exact words_fail HN.out HB.out
    · obtain rfl : k = (runesAt s 0).length := by omega
      have HM := Lib.hid (wordsO_good h400 (fun x hx => by
        obtain ⟨j, hj, he⟩ := List.mem_iff_getElem.1 hx
        exact HA.out j x hj (by rw [List.getElem?_eq_getElem hj, he])))
      have hB := HB.out.size
      go_wp2_with fail
      go_loopw [7, 8, 9] (fun u7 u8 u9 wr => RefRel s w.heap.size w u7 u8 u9 wr) (fun _ _ i _ => s.size - (intOf i).toNat)
      case atStart => exact ⟨0, ⟨#[]⟩, [], Nat.zero_le _, rfl, rfl, World.ownsRow_nil _ _ _ _, HB.out, hB, rfl, Nat.le_refl _, Nat.le_refl _⟩
      case round =>
        obtain ⟨k, word, acc, hk, rfl, rfl, h7, hb, hBs, hg, hl, hw⟩ := hrel
        have HG := Lib.hid hg
        have HB2 := Lib.hid hb
        clear hg hb
        have hki : (k : Int) < 1000000 := by omega
        cases he : (!word.toList.isEmpty) with
        | false =>
          have HE := Lib.hid (word_empty he)
          by_cases hlt : k < s.size
          · have HD := Lib.hid (drop_byte hlt)
            cases hk : blkC s[k] with
            | true =>
              have HR := Lib.hid (ref_skip hlt h7 HB2.out hBs HG.out hl HE.out hk)
              rcases blk_cases hk with h32 | ⟨h32, h9⟩
              · clear hk h7 hBs HE
                go_wp2_with fail
                go_roundw
                case rel => exact HR.out
                case measure => simp [intOf]; omega
              · clear hk h7 hBs HE
                go_wp2_with fail
                go_roundw
                case rel => exact HR.out
                case measure => simp [intOf]; omega
            | false =>
              have HR := Lib.hid (ref_on hlt h7 HB2.out hBs HG.out hl hw hk)
              obtain ⟨h32, h9⟩ := blk_not hk
              have hws : word.size ≤ 1000000 := by omega
              have hes := one_size hlt
              have hsl := fun W => slice_one W hlt
              clear hk h7 hBs HE
              go_wp2_with fail
              go_roundw
              case rel => exact HR.out
              case measure => simp [intOf]; omega
          · obtain rfl : k = s.size := by omega
            have HF := Lib.hid (ref_end HG.out HE.out)
            clear HE
            go_wp2_with fail
            go_ret2
            exact words_fine (HM.out.trans (by rw [HF.out])) h7 HB2.out
        | true =>
          have HE := Lib.hid (word_full he)
          have HSZ : Hid (∀ o, w.heap.size ≤ (wr.alloc o).heap.size) := Lib.hid (fun o => by rw [World.size_alloc]; omega)
          by_cases hlt : k < s.size
          · cases hk : blkC s[k] with
            | true =>
              rcases blk_cases hk with h32 | ⟨h32, h9⟩
              · have HK := Lib.hid hk; clear hk
                go_wp2_with (at_builtin; refine wpList_append_own _ rfl (.tmp 61) (.tmp 63) 22 rfl w.heap.size 9 i0 (.string ⟨#[]⟩) 1 16 Try.underlying22 hi hz0 hz1 hz2 rfl (by decide) _ _ _ rfl (h7.alloc _) ⟨_, 0, none⟩ 1 1 [.string word] rfl rfl (cell_one_new _ _ _) (by simp [Value.oneCell']) (by unfold maxLen; omega) (by omega) (HSZ.out _) ?_)
                intro v7 w2 k7 g7 _
                have HR := Lib.hid (ref_more hlt h7 HB2.out hBs HG.out hl HE.out HK.out k7 g7)
                clear k7 g7
                go_wp2_with fail
                go_roundw
                case rel => exact HR.out
                case measure => simp [intOf]; omega
              · have HK := Lib.hid hk; clear hk
                go_wp2_with (at_builtin; refine wpList_append_own _ rfl (.tmp 61) (.tmp 63) 22 rfl w.heap.size 9 i0 (.string ⟨#[]⟩) 1 16 Try.underlying22 hi hz0 hz1 hz2 rfl (by decide) _ _ _ rfl (h7.alloc _) ⟨_, 0, none⟩ 1 1 [.string word] rfl rfl (cell_one_new _ _ _) (by simp [Value.oneCell']) (by unfold maxLen; omega) (by omega) (HSZ.out _) ?_)
                intro v7 w2 k7 g7 _
                have HR := Lib.hid (ref_more hlt h7 HB2.out hBs HG.out hl HE.out HK.out k7 g7)
                clear k7 g7
                go_wp2_with fail
                go_roundw
                case rel => exact HR.out
                case measure => simp [intOf]; omega
            | false =>
              have HR := Lib.hid (ref_on hlt h7 HB2.out hBs HG.out hl hw hk)
              obtain ⟨h32, h9⟩ := blk_not hk
              have hws : word.size ≤ 1000000 := by omega
              have hes := one_size hlt
              have hsl := fun W => slice_one W hlt
              clear hk h7 hBs HE
              go_wp2_with fail
              go_roundw
              case rel => exact HR.out
              case measure => simp [intOf]; omega
          · obtain rfl : k = s.size := by omega
            have HF := Lib.hid (ref_end2 HG.out HE.out)
            go_wp2_with (at_builtin; refine wpList_append_own _ rfl (.tmp 74) (.tmp 76) 22 rfl w.heap.size 9 i0 (.string ⟨#[]⟩) 1 16 Try.underlying22 hi hz0 hz1 hz2 rfl (by decide) _ _ _ rfl (h7.alloc _) ⟨_, 0, none⟩ 1 1 [.string word] rfl rfl (cell_one_new _ _ _) (by simp [Value.oneCell']) (by unfold maxLen; omega) (by omega) (HSZ.out _) ?_)
            intro v7 w2 k7 g7 _
            have HR := Lib.hid ((HB2.out.alloc hBs _).grown g7 (HSZ.out _) (fun j hj => (h7.lt j hj).1))
            go_wp2_with fail
            go_ret2
            exact words_fine (HM.out.trans (by rw [HF.out])) (by simpa using k7) HR.out

theorem words_both {s : ByteArray} {w w1 : World} {f : Nat} (h : Calls Try.prog f #[.string s] w1 (WordsPost s w1)) (hb : Below w.heap.size w w1) : Calls Try.prog f #[.string s] w1 fun e w' =>
    ∃ v, e = .returned (.tuple #[v, .int .i64 (wordsO s).2]) ∧ w'.ownsRow w1.heap.size 9 1 v (wordsO s).1.length ((wordsO s).1.map Value.string) ∧ Below w1.heap.size w1 w' ∧ Below w.heap.size w w' := by
  refine h.mono ?_
  rintro e w' ⟨v, rfl, ho, hb2⟩
  exact ⟨v, rfl, ho, hb2, below_on' hb hb2⟩

set_option maxHeartbeats 1600000 in
set_option maxRecDepth 1000000 in
theorem law_words (s : ByteArray) (hs : s.size ≤ maxLen) (w : World) : Calls Try.prog 5 #[.string s] w fun e w' => e = .returned (.bool true) ∧ Below w.heap.size w w' := by
  unfold maxLen at hs
  by_cases hl : 5000 < s.size
  · go_enter Try.func5, Try.ntmps5
    go_wp2_with fail
    refine (works_any _).mono ?_
    rintro e w1 ⟨rfl, hb⟩
    have HB := Lib.hid hb; clear hb
    go_wp2_with fail
    go_ret
    exact ⟨rfl, HB.out⟩
  · obtain ⟨c, hc⟩ : ∃ c, (wordsO s).2 = c := ⟨_, rfl⟩
    go_enter Try.func5, Try.ntmps5
    go_wp2_with fail
    refine (words_both (words_any s w) (Below.refl _ _)).mono ?_
    rintro e w1 ⟨v1, rfl, ho1, _, hb⟩
    have HO1 := Lib.hid ho1; have HB := Lib.hid hb; clear ho1 hb
    rw [hc]
    go_wp2_with fail
    refine (words_both (refWords_any s _ (by omega)) HB.out).mono ?_
    rintro e w2 ⟨v2, rfl, ho2, hb2, hb⟩
    have HO1 := Lib.hid (own_below HO1.out hb2)
    have HO2 := Lib.hid ho2; have HB := Lib.hid hb; clear ho2 hb2 hb
    rw [hc]
    have HC := Lib.hid hc; clear hc
    go_wp2_with fail
    refine (equal_own HO1.out HO2.out).mono ?_
    rintro e w3 ⟨rfl, hb⟩
    have HB := Lib.hid (below_on' HB.out hb); clear hb
    rw [decide_eq_true rfl]
    go_wp2_with fail
    refine (works_any _).mono ?_
    rintro e w4 ⟨rfl, hb⟩
    have HB := Lib.hid (below_on' HB.out hb); clear hb
    go_wp2_with fail
    go_ret
    exact ⟨rfl, HB.out⟩
end Go.Proofs.Ytmhdjmfkndgboaa
