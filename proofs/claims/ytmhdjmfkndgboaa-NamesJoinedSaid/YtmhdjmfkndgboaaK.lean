/- strings.Join and strings.Repeat, laid from the library's contracts (lay-plain); NamesJoined returns true of every text. -/
import Derived.Shelf.Strings.OnBuilder
import Derived.Shelf.Strings.Repeat
import Derived.Test.YtmhdjmfkndgboaaProg
import Derived.Test.YtmhdjmfkndgboaaJ
import Derived.Test.YtmhdjmfkndgboaaE
import Derived.Test.YtmhdjmfkndgboaaL1
namespace Go.Proofs
open Go.Shelf
def Try.lays156_ren : Go.Shelf.Ren := ⟨fun | 156 => 20 | 165 => 27 | 166 => 28 | 169 => 29 | 240 => 33 | 241 => 34 | 276 => 38 | 277 => 39 | n => n, fun | 31 => 22 | 9 => 9 | 3 => 3 | 4 => 4 | 0 => 0 | 20 => 20 | 72 => 47 | 76 => 51 | 70 => 44 | 37 => 45 | 75 => 50 | 127 => 59 | 164 => 66 | 5 => 5 | 80 => 53 | n => n, fun | n => n⟩
theorem Try.lays156 : Go.Proofs.Lays.n156 Try.prog Try.lays156_ren := {
  mixed := by kernel_rfl
  f156 := Try.func20.trans (congrArg some (by kernel_rfl))
  f165 := Try.func27.trans (congrArg some (by kernel_rfl))
  f166 := Try.func28.trans (congrArg some (by kernel_rfl))
  f169 := Try.func29.trans (congrArg some (by kernel_rfl))
  f240 := Try.func33.trans (congrArg some (by kernel_rfl))
  f241 := Try.func34.trans (congrArg some (by kernel_rfl))
  f276 := Try.func38.trans (congrArg some (by kernel_rfl))
  f277 := Try.func39.trans (congrArg some (by kernel_rfl))
  t0 := Try.underlying0
  a0 := Try.isAgg0
  z0 := Try.sizeOf0
  v0 := Try.zeroValue0
  t3 := Try.underlying3
  a3 := Try.isAgg3
  z3 := Try.sizeOf3
  v3 := Try.zeroValue3
  t4 := Try.underlying4
  a4 := Try.isAgg4
  z4 := Try.sizeOf4
  v4 := Try.zeroValue4
  t9 := Try.underlying9
  a9 := Try.isAgg9
  z9 := Try.sizeOf9
  v9 := Try.zeroValue9
  t20 := Try.underlying20
  a20 := Try.isAgg20
  z20 := Try.sizeOf20
  v20 := Try.zeroValue20
  t31 := Try.underlying22
  a31 := Try.isAgg22
  z31 := Try.sizeOf22
  v31 := Try.zeroValue22
  t37 := Try.underlying45
  a37 := Try.isAgg45
  z37 := Try.sizeOf45
  v37 := Try.zeroValue45
  t70 := Try.underlying44
  a70 := Try.isAgg44
  z70 := Try.sizeOf44
  v70 := Try.zeroValue44
  t72 := Try.underlying47
  a72 := Try.isAgg47
  z72 := Try.sizeOf47
  v72 := Try.zeroValue47
  t75 := Try.underlying50
  a75 := Try.isAgg50
  z75 := Try.sizeOf50
  v75 := Try.zeroValue50
  t76 := Try.underlying51
  a76 := Try.isAgg51
  z76 := Try.sizeOf51
  v76 := Try.zeroValue51
  t127 := Try.underlying59
  a127 := Try.isAgg59
  z127 := Try.sizeOf59
  v127 := Try.zeroValue59
  t164 := Try.underlying66
  a164 := Try.isAgg66
  z164 := Try.sizeOf66
  v164 := Try.zeroValue66 }
theorem Try.Builder_Extra_156 : Builder.Extra Try.prog Try.lays156_ren := {
  sizeBuilder := by kernel_rfl
  liesBuilder := by kernel_rfl
  t5 := Try.underlying5
  a5 := Try.isAgg5
  z5 := Try.sizeOf5
  v5 := Try.zeroValue5
  infoByte := by kernel_rfl
  cellsByte := by kernel_rfl
  sizeByte := by kernel_rfl
  neB5 := by decide }
open Go.RowKit in
/-- No element: the empty string; the world is as it was. (Whatever the slice's address and capacity: a nil slice too.) (LAID: no walk: one application.) -/
theorem Try.strings_Join_none (a : Option Addr) (c : Nat) (sep : ByteArray) (w : World) :
    Calls Try.prog 20 #[.slice a 0 c, .string sep] w fun e w' => e = .returned (.string ⟨#[]⟩) ∧ w' = w := Any.strings_Join_none Try.lays156 Try.Builder_Extra_156 a c sep w
open Go.RowKit in
/-- strings.Join: "Join concatenates the elements of its first argument to create a single string. The separator string sep is placed between elements in the resulting string.": HOWEVER MANY ELEMENTS. Below the heap's end the world is as it was. (LAID: no walk: one application.) -/
theorem Try.strings_Join (bk o c : Nat) (xs : List ByteArray) (sep : ByteArray) (w : World) (hcells : ∀ (j : Nat) x, xs[j]? = some x → w.cell? ⟨bk, o + j, none⟩ = some (.string x)) (hbk : bk < w.heap.size) (hN : xs.length ≤ 140737488355328) (hcap : xs.length ≤ c) (hlen : (Lib.join (xs.map (·.data.toList)) sep.data.toList).length ≤ 140737488355328) :
    Calls Try.prog 20 #[.slice (some ⟨bk, o, none⟩) xs.length c, .string sep] w fun e w' => e = .returned (.string ⟨(Lib.join (xs.map (·.data.toList)) sep.data.toList).toArray⟩) ∧ Below w.heap.size w w' := Any.strings_Join Try.lays156 Try.Builder_Extra_156 bk o c xs sep w hcells hbk hN hcap hlen
def Try.lays105_ren : Go.Shelf.Ren := ⟨fun | 105 => 21 | 212 => 30 | 99 => 31 | 165 => 27 | 166 => 28 | 170 => 32 | 169 => 29 | 263 => 35 | 264 => 36 | 206 => 37 | 240 => 33 | 241 => 34 | 276 => 38 | 277 => 39 | n => n, fun | 9 => 9 | 3 => 3 | 4 => 4 | 20 => 20 | 0 => 0 | 46 => 54 | 109 => 55 | 5 => 5 | 72 => 47 | 76 => 51 | 51 => 60 | 146 => 61 | 53 => 63 | 148 => 64 | 70 => 44 | 37 => 45 | 75 => 50 | 127 => 59 | 164 => 66 | 80 => 53 | n => n, fun | n => n⟩
theorem Try.lays105 : Go.Proofs.Lays.n105 Try.prog Try.lays105_ren := {
  mixed := by kernel_rfl
  f99 := Try.func31.trans (congrArg some (by kernel_rfl))
  f105 := Try.func21.trans (congrArg some (by kernel_rfl))
  f165 := Try.func27.trans (congrArg some (by kernel_rfl))
  f166 := Try.func28.trans (congrArg some (by kernel_rfl))
  f169 := Try.func29.trans (congrArg some (by kernel_rfl))
  f170 := Try.func32.trans (congrArg some (by kernel_rfl))
  f206 := Try.func37.trans (congrArg some (by kernel_rfl))
  f212 := Try.func30.trans (congrArg some (by kernel_rfl))
  f240 := Try.func33.trans (congrArg some (by kernel_rfl))
  f241 := Try.func34.trans (congrArg some (by kernel_rfl))
  f263 := Try.func35.trans (congrArg some (by kernel_rfl))
  f264 := Try.func36.trans (congrArg some (by kernel_rfl))
  f276 := Try.func38.trans (congrArg some (by kernel_rfl))
  f277 := Try.func39.trans (congrArg some (by kernel_rfl))
  t0 := Try.underlying0
  a0 := Try.isAgg0
  z0 := Try.sizeOf0
  v0 := Try.zeroValue0
  t3 := Try.underlying3
  a3 := Try.isAgg3
  z3 := Try.sizeOf3
  v3 := Try.zeroValue3
  t4 := Try.underlying4
  a4 := Try.isAgg4
  z4 := Try.sizeOf4
  v4 := Try.zeroValue4
  t5 := Try.underlying5
  a5 := Try.isAgg5
  z5 := Try.sizeOf5
  v5 := Try.zeroValue5
  t9 := Try.underlying9
  a9 := Try.isAgg9
  z9 := Try.sizeOf9
  v9 := Try.zeroValue9
  t20 := Try.underlying20
  a20 := Try.isAgg20
  z20 := Try.sizeOf20
  v20 := Try.zeroValue20
  t37 := Try.underlying45
  a37 := Try.isAgg45
  z37 := Try.sizeOf45
  v37 := Try.zeroValue45
  t46 := Try.underlying54
  a46 := Try.isAgg54
  z46 := Try.sizeOf54
  v46 := Try.zeroValue54
  t51 := Try.underlying60
  a51 := Try.isAgg60
  z51 := Try.sizeOf60
  v51 := Try.zeroValue60
  t53 := Try.underlying63
  a53 := Try.isAgg63
  z53 := Try.sizeOf63
  v53 := Try.zeroValue63
  t70 := Try.underlying44
  a70 := Try.isAgg44
  z70 := Try.sizeOf44
  v70 := Try.zeroValue44
  t72 := Try.underlying47
  a72 := Try.isAgg47
  z72 := Try.sizeOf47
  v72 := Try.zeroValue47
  t75 := Try.underlying50
  a75 := Try.isAgg50
  z75 := Try.sizeOf50
  v75 := Try.zeroValue50
  t76 := Try.underlying51
  a76 := Try.isAgg51
  z76 := Try.sizeOf51
  v76 := Try.zeroValue51
  t109 := Try.underlying55
  a109 := Try.isAgg55
  z109 := Try.sizeOf55
  v109 := Try.zeroValue55
  t127 := Try.underlying59
  a127 := Try.isAgg59
  z127 := Try.sizeOf59
  v127 := Try.zeroValue59
  t146 := Try.underlying61
  a146 := Try.isAgg61
  z146 := Try.sizeOf61
  v146 := Try.zeroValue61
  t148 := Try.underlying64
  a148 := Try.isAgg64
  z148 := Try.sizeOf64
  v148 := Try.zeroValue64
  t164 := Try.underlying66
  a164 := Try.isAgg66
  z164 := Try.sizeOf66
  v164 := Try.zeroValue66 }
theorem Try.Builder_Extra_105 : Builder.Extra Try.prog Try.lays105_ren := {
  sizeBuilder := by kernel_rfl
  liesBuilder := by kernel_rfl
  t5 := Try.underlying5
  a5 := Try.isAgg5
  z5 := Try.sizeOf5
  v5 := Try.zeroValue5
  infoByte := by kernel_rfl
  cellsByte := by kernel_rfl
  sizeByte := by kernel_rfl
  neB5 := by decide }
open Go.RowKit Go.Lib in
/-- **strings.Repeat: count ≥ 0, the result within one allocation: count copies of s.** (LAID: no walk: one application.) -/
theorem Try.strings_Repeat (s : ByteArray) (c : Nat) (w : World) (hc : c ≤ 9223372036854775807) (hlen : s.size * c ≤ 140737488355328) :
    Calls Try.prog 21 #[.string s, .int .i64 c] w fun e w' => e = .returned (.string ⟨(Lib.repeatL s.data.toList c).toArray⟩) ∧ Below w.heap.size w w' := Any.strings_Repeat Try.lays105 Try.Builder_Extra_105 s c w hc hlen
namespace Ytmhdjmfkndgboaa
open Go.RowKit

/-- strings.Join of an owned slice of words. -/
theorem join_own {w : World} {B : Nat} {v : Value} {l : List ByteArray} {sep : ByteArray} (h : w.ownsRow B 9 1 v l.length (l.map Value.string)) (hg : ∀ x ∈ l, Good 400 x) (hl : l.length ≤ 401) (hs : sep.size ≤ 100) :
    Calls Try.prog 20 #[v, .string sep] w fun e w' => e = .returned (.string (joinB l sep)) ∧ Below w.heap.size w w' := by
  by_cases h0 : l.length = 0
  · obtain ⟨a, cap, rfl, _, _⟩ := own_slice h
    obtain rfl := List.eq_nil_of_length_eq_zero h0
    refine (Try.strings_Join_none _ _ _ w).mono ?_
    rintro e w' ⟨rfl, rfl⟩
    exact ⟨rfl, Below.refl _ _⟩
  · obtain ⟨g, cap, rfl, h1, h2, h3, h4⟩ := own_getD h (by omega)
    exact Try.strings_Join _ _ _ l sep w (fun j x hx => by
      have hj : j < l.length := by
        rcases Nat.lt_or_ge j l.length with h5 | h5
        · exact h5
        · rw [List.getElem?_eq_none h5] at hx; cases hx
      have := h4 j hj
      rw [List.getD_eq_getElem?_getD, hx] at this
      exact this) h3 (by omega) h1 (by have := join_length l sep hg hl hs; omega)
theorem repeat_c (c : Nat) (hc : c ≤ 100) (w : World) : Calls Try.prog 21 #[.string ⟨#[32]⟩, .int .i64 c] w fun e w' => e = .returned (.string (blanks c)) ∧ Below w.heap.size w w' := by
  have h1 : (⟨#[32]⟩ : ByteArray).size = 1 := rfl
  refine (Try.strings_Repeat ⟨#[32]⟩ c w (by omega) (by rw [h1]; omega)).mono ?_
  rintro e w' ⟨rfl, hb⟩
  refine ⟨?_, hb⟩
  have h2 := Lib.repeatL_replicate 32 1 c
  rw [Nat.mul_one] at h2
  have h3 : Lib.repeatL [32] c = List.replicate c (32 : UInt8) := h2
  show Ending.returned (.string ⟨(Lib.repeatL [32] c).toArray⟩) = _
  rw [h3]; rfl
theorem blanks_size (n : Nat) : (blanks n).size = n := by
  show (List.replicate n (32 : UInt8)).toArray.size = n
  simp

theorem repeat_n (n : Nat) (hn : n ≤ 2) (w : World) : Calls Try.prog 21 #[.string ⟨#[32]⟩, .int .i64 ((n : Int) + 1)] w fun e w' => e = .returned (.string (blanks (n + 1))) ∧ Below w.heap.size w w' := repeat_c (n + 1) (by omega) w
theorem words_res {s : ByteArray} {l : List ByteArray} {c : Int} (h : wordsO s = (l, c)) (w : World) : Calls Try.prog 9 #[.string s] w fun e w' =>
    ∃ v, e = .returned (.tuple #[v, .int .i64 c]) ∧ w'.ownsRow w.heap.size 9 1 v l.length (l.map Value.string) ∧ Below w.heap.size w w' := by
  refine (words_any s w).mono ?_
  rintro e w' ⟨v, rfl, ho, hb⟩
  rw [h] at ho
  exact ⟨v, by rw [h], ho, hb⟩

set_option maxHeartbeats 1600000 in
set_option maxRecDepth 1000000 in
theorem joined_rest (s : ByteArray) (b : Int) (n : Nat) (h0 : 0 ≤ b) (h1 : b ≤ 255) (hb : b % 3 = (n : Int)) (hn : n ≤ 2) (h : (wordsO s).2 = 0) (w : World) : Calls Try.prog 8 #[.string s, .int .u8 b] w fun e w' => e = .returned (.bool true) ∧ Below w.heap.size w w' := by
  obtain ⟨hs, hg, hl⟩ := wordsO_facts h
  obtain ⟨l, c, hwl⟩ : ∃ l c, wordsO s = (l, c) := ⟨_, _, rfl⟩
  rw [hwl] at h hg hl
  simp only at h hg hl
  subst h
  have HG := Lib.hid hg; have HWL := Lib.hid hwl; clear hg hwl
  have HT := Lib.hid (fun hs => words_joined n l HG.out hs)
  by_cases h4 : 400 < (joinB l (blanks (n + 1))).size
  · have HL := Lib.hid (wordsO_long h4)
    have h4' : 400 < ((joinB l (blanks (n + 1))).size : Int) := by omega
    go_enter Try.func8, Try.ntmps8
    go_wp2_with fail
    refine (words_res HWL.out w).mono ?_
    rintro e w1 ⟨v1, rfl, ho, hb1⟩
    have HO := Lib.hid ho; have HB := Lib.hid hb1; clear ho hb1
    go_wp2_with fail
    refine (repeat_n n hn _).mono ?_
    rintro e w2 ⟨rfl, hb2⟩
    have HO := Lib.hid (own_below HO.out hb2)
    have HB := Lib.hid (below_on' HB.out hb2); clear hb2
    go_wp2_with fail
    refine (join_own HO.out HG.out hl (by rw [blanks_size]; omega)).mono ?_
    rintro e w3 ⟨rfl, hb3⟩
    have HB := Lib.hid (below_on' HB.out hb3); clear hb3
    go_wp2_with fail
    refine (words_res HL.out _).mono ?_
    rintro e w4 ⟨v4, rfl, _, hb4⟩
    have HB := Lib.hid (below_on' HB.out hb4); clear hb4
    go_wp2_with fail
    refine (works_any _).mono ?_
    rintro e w5 ⟨rfl, hb5⟩
    have HB := Lib.hid (below_on' HB.out hb5); clear hb5
    go_wp2_with fail
    go_ret
    exact ⟨rfl, HB.out⟩
  · have HL := Lib.hid (HT.out h4)
    have h4' : ¬ 400 < ((joinB l (blanks (n + 1))).size : Int) := by omega
    go_enter Try.func8, Try.ntmps8
    go_wp2_with fail
    refine (words_res HWL.out w).mono ?_
    rintro e w1 ⟨v1, rfl, ho, hb1⟩
    have HO := Lib.hid ho; have HB := Lib.hid hb1; clear ho hb1
    go_wp2_with fail
    refine (repeat_n n hn _).mono ?_
    rintro e w2 ⟨rfl, hb2⟩
    have HO := Lib.hid (own_below HO.out hb2)
    have HB := Lib.hid (below_on' HB.out hb2); clear hb2
    go_wp2_with fail
    refine (join_own HO.out HG.out hl (by rw [blanks_size]; omega)).mono ?_
    rintro e w3 ⟨rfl, hb3⟩
    have HO := Lib.hid (own_below HO.out hb3)
    have HB := Lib.hid (below_on' HB.out hb3); clear hb3
    go_wp2_with fail
    refine (words_res HL.out _).mono ?_
    rintro e w4 ⟨v4, rfl, ho4, hb4⟩
    have HO := Lib.hid (own_below HO.out hb4)
    have HO4 := Lib.hid ho4
    have HB := Lib.hid (below_on' HB.out hb4); clear hb4 ho4
    go_wp2_with fail
    refine (join_own HO4.out HG.out hl (by decide)).mono ?_
    rintro e w5 ⟨rfl, hb5⟩
    have HO := Lib.hid (own_below HO.out hb5)
    have HB := Lib.hid (below_on' HB.out hb5); clear hb5
    go_wp2_with fail
    refine (join_own HO.out HG.out hl (by decide)).mono ?_
    rintro e w6 ⟨rfl, hb6⟩
    have HB := Lib.hid (below_on' HB.out hb6); clear hb6
    go_wp2_with fail
    refine (works_any _).mono ?_
    rintro e w7 ⟨rfl, hb7⟩
    have HB := Lib.hid (below_on' HB.out hb7); clear hb7
    go_wp2_with fail
    go_ret
    exact ⟨rfl, HB.out⟩

set_option maxHeartbeats 1600000 in
set_option maxRecDepth 1000000 in
theorem joined_other (s : ByteArray) (b : Int) (hs : s.size ≤ maxLen) (h : ¬ (wordsO s).2 = 0) (w : World) : Calls Try.prog 8 #[.string s, .int .u8 b] w fun e w' => e = .returned (.bool true) ∧ Below w.heap.size w w' := by
  unfold maxLen at hs
  obtain ⟨l, c, hwl⟩ : ∃ l c, wordsO s = (l, c) := ⟨_, _, rfl⟩
  rw [hwl] at h
  simp only at h
  have hc : (c != 0) = true := by simp [h]
  have HWL := Lib.hid hwl; clear hwl h
  by_cases hl : 5000 < s.size
  · go_enter Try.func8, Try.ntmps8
    go_wp2_with fail
    refine (words_res HWL.out w).mono ?_
    rintro e w1 ⟨v1, rfl, _, hb1⟩
    have HB := Lib.hid hb1; clear hb1
    go_wp2_with fail
    refine (works_any _).mono ?_
    rintro e w5 ⟨rfl, hb5⟩
    have HB := Lib.hid (below_on' HB.out hb5); clear hb5
    go_wp2_with fail
    go_ret
    exact ⟨rfl, HB.out⟩
  · go_enter Try.func8, Try.ntmps8
    go_wp2_with fail
    refine (words_res HWL.out w).mono ?_
    rintro e w1 ⟨v1, rfl, _, hb1⟩
    have HB := Lib.hid hb1; clear hb1
    go_wp2_with fail
    refine (works_any _).mono ?_
    rintro e w5 ⟨rfl, hb5⟩
    have HB := Lib.hid (below_on' HB.out hb5); clear hb5
    go_wp2_with fail
    go_ret
    exact ⟨rfl, HB.out⟩
theorem law_joined (s : ByteArray) (b : Int) (hs : s.size ≤ maxLen) (hwf : (Lit.int .u8 b).wf = true) (w : World) : Calls Try.prog 8 #[.string s, .int .u8 b] w fun e w' => e = .returned (.bool true) ∧ Below w.heap.size w w' := by
  have hb : 0 ≤ b ∧ b ≤ 255 := by
    have h1 : IntKind.u8.min = 0 := rfl
    have h2 : IntKind.u8.max = 255 := rfl
    simp [Lit.wf, IntKind.wrap, IntKind.bits, IntKind.signed] at hwf
    omega
  by_cases h : (wordsO s).2 = 0
  · exact joined_rest s b (b % 3).toNat hb.1 hb.2 (by omega) (by omega) h w
  · exact joined_other s b hs h w
end Ytmhdjmfkndgboaa
end Go.Proofs
