/- LexTokens returns true of every text, in whatever world, and turns nothing that was there. -/
import Derived.Test.YtejcgkchlehoiaaLxW
import Derived.Test.YtejcgkchlehoiaaLxI
namespace Go.Proofs.Ytejcgkchlehoiaa.lex
set_option linter.unusedSimpArgs false
set_option linter.unusedVariables false
open Go.RowKit nam

theorem scan_few : ∀ (L : List Nat) (done : List Tok) (cur : Option Tok) (p q : Nat), done.length + cur.toList.length ≤ q → (scan done cur p L).1.length ≤ q + L.length
  | [], done, cur, p, q, h => by rw [scan_nil, List.length_append]; simpa using h
  | r :: L, done, cur, p, q, h => by
    rw [List.length_cons]
    cases hk : keepO cur r with
    | yes t =>
      rw [scan_yes hk]
      have := scan_few L done (some t) (p + 1) (q + 1) (by simp; omega)
      omega
    | big => rw [scan_big hk]; simp
    | no =>
      cases hb : blkB r with
      | true =>
        rw [scan_blank hk hb]
        have := scan_few L (done ++ cur.toList) none (p + 1) (q + 1) (by simp; omega)
        omega
      | false =>
        cases hg : beg r p with
        | some t =>
          rw [scan_beg hk hb hg]
          have := scan_few L (done ++ cur.toList) (some t) (p + 1) (q + 1) (by simp; omega)
          omega
        | none => rw [scan_bad hk hb hg]; simp
theorem toks_few (s : ByteArray) : (toksO s).1.length ≤ 400 := by
  unfold toksO
  split
  · simp
  · have h1 := scan_few (rn s 0) [] none 0 0 (by simp)
    have h2 := rn_length s 0
    omega
theorem ref_of {s : ByteArray} {l : List Tok} {p : Nat} {c : Int} (h : toksO s = (l, p, c)) (w : World) : Calls Try.prog 8 #[.string s] w fun e w' =>
    ∃ v, e = .returned (.tuple #[v, .int .i64 p, .int .i64 c]) ∧ Toks w' w.heap.size v l ∧ Below w.heap.size w w' := by
  refine (ref_any s w).mono ?_
  rintro e w' ⟨v, he, ht, hb⟩
  rw [h] at he ht
  exact ⟨v, he, ht, hb⟩

set_option maxHeartbeats 1600000 in
set_option maxRecDepth 1000000 in
theorem law_tokens (s : ByteArray) (hs : s.size ≤ maxLen) (w : World) : Calls Try.prog 4 #[.string s] w fun e w' => e = .returned (.bool true) ∧ Below w.heap.size w w' := by
  unfold maxLen at hs
  by_cases hl : 5000 < s.size
  · have hl' : (5000 : Int) < (s.size : Int) := by omega
    clear hs hl
    go_enter Try.func4, Try.ntmps4
    go_wp2_with fail
    refine (works_any _).mono ?_
    rintro e w1 ⟨rfl, hb⟩
    have HB := Lib.hid hb; clear hb
    go_wp2_with fail
    go_ret
    exact ⟨rfl, HB.out⟩
  · have hl' : ¬ (5000 : Int) < (s.size : Int) := by omega
    obtain ⟨l, p, c, h1⟩ : ∃ l p c, toksO s = (l, p, c) := ⟨_, _, _, rfl⟩
    have hfew : l.length ≤ 1000 := by have := toks_few s; rw [h1] at this; exact Nat.le_trans this (by omega)
    have HT1 := Lib.hid (fun w => tokens_of h1 w)
    have HT2 := Lib.hid (fun w => ref_of h1 w)
    clear hs hl h1
    go_enter Try.func4, Try.ntmps4
    go_wp2_with fail
    refine (HT1.out _).mono ?_
    rintro e w1 ⟨v1, rfl, ht1, hb⟩
    have HB := Lib.hid hb; have HV1 := Lib.hid ht1; clear hb ht1
    go_wp2_with fail
    refine (HT2.out _).mono ?_
    rintro e w2 ⟨v2, rfl, ht2, hb⟩
    have HV2 := Lib.hid ht2
    have HV1 := Lib.hid (toks_below HV1.out hb)
    have HB := Lib.hid (below_on' HB.out hb); clear hb ht2
    go_wp2_with fail
    refine (equal_toks HV1.out HV2.out hfew).mono ?_
    rintro e w3 ⟨rfl, hb⟩
    have HB := Lib.hid (below_on' HB.out hb); clear hb
    go_wp2_with fail
    refine (works_any _).mono ?_
    rintro e w4 ⟨rfl, hb⟩
    have HB := Lib.hid (below_on' HB.out hb); clear hb
    go_wp2_with fail
    go_ret
    exact ⟨rfl, HB.out⟩
end Go.Proofs.Ytejcgkchlehoiaa.lex
