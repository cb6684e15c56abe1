/- What tells, works and Same answer; TellKnown. -/
import Derived.Test.YtffhmbiamkbchaaDoorTlF
import Derived.Test.YtffhmbiamkbchaaDoorMZc
import Derived.Test.YtffhmbiamkbchaaDoorMUu
namespace Go.Proofs.YtffhmbiamkbchaaDoor.exp
set_option linter.unusedSimpArgs false
set_option linter.unusedVariables false
open Go.RowKit nam lex

theorem parse_of {s : ByteArray} {x : Ex} {p : Nat} {c : Int} (h : parseO s = (x, p, c)) (w : World) : Calls Tryd.prog 17 #[.string s] w fun e w' =>
    ∃ (a : Option Addr) (k : Nat), e = .returned (.tuple #[.agg #[.int .u8 (x.op : Int), .int .i64 x.n, .slice a x.args.length k], .int .i64 (p : Int), .int .i64 c]) ∧ Lies w' (From w) (.slice a x.args.length k) x.args ∧ Below w.heap.size w w' := by
  have := parse_any s w
  rw [h] at this
  exact this
/-- What is known of what is read. -/
theorem parseO_facts (s : ByteArray) : (parseO s).1.size ≤ 1000 ∧ ((parseO s).2.2 ≠ 0 → (parseO s).1 = Ex.zero) ∧ ((parseO s).2.2 = 0 → good FM (parseO s).1 1 = true ∧ (parseO s).1.dep ≤ 16 ∧ (parseO s).2.1 = 0) := by
  have hz : Ex.zero.size ≤ 1000 := by decide
  by_cases h : (toksO s).2.2 = 0
  · cases hp : par 4000 0 (toksO s).1 with
    | bad l => rw [parseO_bad h hp]; exact ⟨hz, fun _ => rfl, fun h => by simp at h⟩
    | ok x l =>
      obtain ⟨g1, g2⟩ := par_size hp
      have hl := (toks_ok s).2
      by_cases he : l = []
      · subst he
        by_cases hd : 16 < x.dep
        · have : parseO s = (Ex.zero, 0, 81) := by unfold parseO; rw [if_neg (by simp [h]), hp]; simp only []; rw [if_pos hd]
          rw [this]; exact ⟨hz, fun _ => rfl, fun h => by simp at h⟩
        · rw [parseO_ok h hp hd]
          exact ⟨by simp only []; omega, fun h => by simp at h, fun _ => ⟨(good_FM x 1).2 ⟨by omega, g2⟩, by simp only []; omega, rfl⟩⟩
      · rw [parseO_more h hp he]; exact ⟨hz, fun _ => rfl, fun h => by simp at h⟩
  · rw [parseO_err h]; exact ⟨hz, fun _ => rfl, fun h' => absurd h' h⟩
theorem line_any {x : Ex} {v : Value} {F : Nat → Prop} {w : World} (hx : Lies w F v x.args) (hs : x.size ≤ 1000000) (hn : Num x) (htab : Tab w.heap.size w) :
    Calls Tryd.prog 12 #[exV x v] w fun e w' => e = .returned (.tuple #[.string (lineS x), .int .i64 (lineC x)]) ∧ Below w.heap.size w w' := by
  cases hg : good FM x 1 with
  | true => exact line_yes hx hs hg hn htab
  | false => exact line_no hx hs hg
theorem tab_on {w w' : World} (h : Tab w.heap.size w) (hb : Below w.heap.size w w') : Tab w'.heap.size w' := tab_up h hb hb.size
/-- An expression behind a call, in a box of its own. -/
theorem boxed {x : Ex} {a : Option Addr} {k : Nat} {w w1 : World} (hL : Lies w1 (From w) (.slice a x.args.length k) x.args) (hb : Below w.heap.size w w1) : ∃ N W, w1.heap.size = N ∧ w1.alloc (.cells #[.int .u8 (x.op : Int), .int .i64 x.n, .slice a x.args.length k] 27) = W ∧ Bx W N (x.op : Int) x.n a x.args.length k ∧ Lies W (From w) (.slice a x.args.length k) x.args ∧ Below w.heap.size w W := by
  have hbW : Below w1.heap.size w1 (w1.alloc (.cells #[.int .u8 (x.op : Int), .int .i64 x.n, .slice a x.args.length k] 27)) := (Below.refl _ _).alloc (Nat.le_refl _) _
  exact ⟨_, _, rfl, rfl, heap_last rfl, hL.under hbW, hb.trans (hbW.mono hb.size)⟩
set_option maxRecDepth 1000000 in
theorem tells_any {s : ByteArray} {x : Ex} {p : Nat} {c : Int} (hp : parseO s = (x, p, c)) {t : ByteArray} (ht : lineS x = t) {w : World} (htab : Tab w.heap.size w) :
    Calls Tryd.prog 9 #[.string s] w fun e w' => e = .returned (.string t) ∧ Below w.heap.size w w' := by
  have hsz := (parseO_facts s).1
  have hnm := parseO_num s
  have HP := Lib.hid (parse_of hp w)
  rw [hp] at hsz hnm
  simp only [] at hsz hnm
  have HF := Lib.hid (And.intro hsz hnm); have HT := Lib.hid htab; have HTT := Lib.hid ht
  clear hsz hnm htab hp ht
  go_enter Tryd.func9, Tryd.ntmps9
  go_wp2_with fail
  refine HP.out.mono ?_
  rintro e w1 ⟨a, k, rfl, hL, hb⟩
  obtain ⟨N, W, hN, hW, hbx, hLW, hbW⟩ := boxed hL hb
  obtain ⟨e0, e1, e2, _⟩ := hbx.cells
  have HLI := Lib.hid (line_any hLW (by have := HF.out.1; omega) HF.out.2 (tab_on HT.out hbW))
  unfold exV at HLI
  have HB := Lib.hid hbW
  clear hL hb hbx hLW hbW
  go_wp2_with fail
  refine HLI.out.mono ?_
  rintro e w2 ⟨rfl, hb2⟩
  rw [HTT.out]
  have HZ := Lib.hid (HB.out.trans (hb2.mono HB.out.size))
  clear hb2
  go_wp2_with fail
  go_ret
  exact ⟨rfl, HZ.out⟩
def nm (n : Int) : Ex := .mk 1 n []
def wTree : Ex := .mk 7 0 [nm 1, .mk 9 0 [nm 2, .mk 2 0 []]]
theorem parse_works : parseO ⟨#[49, 32, 43, 32, 50, 32, 42, 32, 107, 101, 121]⟩ = (wTree, 0, 0) := by kernel_rfl
theorem line_works : lineS wTree = ⟨#[40, 49, 32, 43, 32, 40, 50, 32, 42, 32, 107, 101, 121, 41, 41]⟩ := by kernel_rfl
set_option maxRecDepth 1000000 in
theorem works_any {w : World} (htab : Tab w.heap.size w) : Calls Tryd.prog 8 #[] w fun e w' => e = .returned (.bool true) ∧ Below w.heap.size w w' := by
  have HT := Lib.hid (tells_any parse_works line_works htab)
  go_enter Tryd.func8, Tryd.ntmps8
  go_wp2_with fail
  refine HT.out.mono ?_
  rintro e w1 ⟨rfl, hb⟩
  have HB := Lib.hid hb; clear hb
  go_wp2_with fail
  go_ret
  exact ⟨rfl, HB.out⟩
/-- Same's answer. -/
def AreOne (a b : ByteArray) : Prop := (parseO a).2.2 = 0 ∧ (parseO b).2.2 = 0 ∧ (parseO a).1 = (parseO b).1
set_option maxHeartbeats 1600000 in
set_option maxRecDepth 1000000 in
theorem tsame_any (a b : ByteArray) (w : World) : Calls Tryd.prog 10 #[.string a, .string b] w fun e w' => ∃ r : Bool, e = .returned (.bool r) ∧ (r = true ↔ AreOne a b) ∧ Below w.heap.size w w' := by
  obtain ⟨x, p, c, hx⟩ : ∃ x p c, parseO a = (x, p, c) := ⟨_, _, _, rfl⟩
  obtain ⟨y, q, d, hy⟩ : ∃ y q d, parseO b = (y, q, d) := ⟨_, _, _, rfl⟩
  have hsx := (parseO_facts a).1
  rw [hx] at hsx
  simp only [] at hsx
  have HX := Lib.hid (fun w => parse_of hx w); have HY := Lib.hid (fun w => parse_of hy w)
  have HO : Hid (AreOne a b ↔ (c = 0 ∧ d = 0 ∧ x = y)) := Lib.hid (by unfold AreOne; rw [hx, hy])
  have HS := Lib.hid hsx
  clear hx hy hsx
  by_cases hc : c = 0
  · subst hc
    by_cases hd : d = 0
    · subst hd
      go_enter Tryd.func10, Tryd.ntmps10
      go_wp2_with fail
      refine (HX.out _).mono ?_
      rintro e w1 ⟨a1, k1, rfl, hL1, hb1⟩
      obtain ⟨N1, W1, hN1, hW1, hbx1, hLW1, hbW1⟩ := boxed hL1 hb1
      have H1 := Lib.hid (And.intro hbx1 (And.intro hLW1 hbW1))
      clear hL1 hb1 hbx1 hLW1 hbW1
      go_wp2_with fail
      refine (HY.out _).mono ?_
      rintro e w2 ⟨a2, k2, rfl, hL2, hb2⟩
      obtain ⟨N2, W2, hN2, hW2, hbx2, hLW2, hbW2⟩ := boxed hL2 hb2
      obtain ⟨g0, g1, g2, _⟩ := hbx2.cells
      obtain ⟨e0, e1, e2, _⟩ := (H1.out.1.under hbW2).cells
      have HSM := Lib.hid (same_any (H1.out.2.1.under hbW2) hLW2 (by have := HS.out; omega))
      unfold exV SPost at HSM
      have HB := Lib.hid (H1.out.2.2.trans (hbW2.mono H1.out.2.2.size))
      clear hL2 hb2 hbx2 hLW2 hbW2
      go_wp2_with fail
      refine HSM.out.mono ?_
      rintro e w3 ⟨r, rfl, hr, hb3⟩
      have HZ := Lib.hid (And.intro hr (HB.out.trans (hb3.mono HB.out.size)))
      clear hr hb3
      go_wp2_with fail
      go_ret
      exact ⟨r, rfl, by rw [HO.out, HZ.out.1]; simp, HZ.out.2⟩
    · have hd' : (d == 0) = false := by simp [hd]
      go_enter Tryd.func10, Tryd.ntmps10
      go_wp2_with fail
      refine (HX.out _).mono ?_
      rintro e w1 ⟨a1, k1, rfl, hL1, hb1⟩
      obtain ⟨N1, W1, hN1, hW1, hbx1, hLW1, hbW1⟩ := boxed hL1 hb1
      have H1 := Lib.hid hbW1
      clear hL1 hb1 hbx1 hLW1 hbW1
      go_wp2_with fail
      refine (HY.out _).mono ?_
      rintro e w2 ⟨a2, k2, rfl, hL2, hb2⟩
      obtain ⟨N2, W2, hN2, hW2, hbx2, hLW2, hbW2⟩ := boxed hL2 hb2
      have HB := Lib.hid (H1.out.trans (hbW2.mono H1.out.size))
      clear hL2 hb2 hbx2 hLW2 hbW2
      go_wp2_with fail
      go_ret
      exact ⟨false, rfl, by rw [HO.out]; simp [hd], HB.out⟩
  · have hc' : (c == 0) = false := by simp [hc]
    go_enter Tryd.func10, Tryd.ntmps10
    go_wp2_with fail
    refine (HX.out _).mono ?_
    rintro e w1 ⟨a1, k1, rfl, hL1, hb1⟩
    obtain ⟨N1, W1, hN1, hW1, hbx1, hLW1, hbW1⟩ := boxed hL1 hb1
    have H1 := Lib.hid hbW1
    clear hL1 hb1 hbx1 hLW1 hbW1
    go_wp2_with fail
    refine (HY.out _).mono ?_
    rintro e w2 ⟨a2, k2, rfl, hL2, hb2⟩
    obtain ⟨N2, W2, hN2, hW2, hbx2, hLW2, hbW2⟩ := boxed hL2 hb2
    have HB := Lib.hid (H1.out.trans (hbW2.mono H1.out.size))
    clear hL2 hb2 hbx2 hLW2 hbW2
    go_wp2_with fail
    go_ret
    exact ⟨false, rfl, by rw [HO.out]; simp [hc], HB.out⟩
end Go.Proofs.YtffhmbiamkbchaaDoor.exp
