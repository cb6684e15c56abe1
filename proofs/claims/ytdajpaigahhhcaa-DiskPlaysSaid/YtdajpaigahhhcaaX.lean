/- What a script does to a disk that is on and has as many operations as it likes; the states that there are; what a crash makes of them. -/
import Derived.Test.YtdajpaigahhhcaaW
namespace Go.Proofs.Ytdajpaigahhhcaa.dsk
set_option linter.unusedSimpArgs false
set_option linter.unusedVariables false
open Go.RowKit

/-- The states: behind none of the changes, behind the first, .. -/
def states (x : D) : List Files := (List.range (x.loose.length + 1)).map fun j => run x.sure (x.loose.take j)
theorem states_length (x : D) : (states x).length = x.loose.length + 1 := by simp [states]
theorem states_get (x : D) {j : Nat} (hj : j ≤ x.loose.length) : (states x)[j]? = some (run x.sure (x.loose.take j)) := by
  unfold states
  rw [List.getElem?_map, List.getElem?_range (by omega)]
  rfl
theorem states_none {x : D} (h : x.loose = []) : states x = [x.now] := by
  unfold states D.now
  rw [h]
  rfl
theorem states_snoc (x : D) (c : Chg) {x2 : D} (h : x2 = { x with loose := x.loose ++ [c] }) : states x2 = states x ++ [x2.now] := by
  subst h
  unfold states D.now
  simp only [List.length_append, List.length_cons, List.length_nil]
  rw [List.range_succ, List.map_append]
  congr 1
  · refine List.map_congr_left fun j hj => ?_
    have := List.mem_range.1 hj
    rw [List.take_append_of_le_length (by omega)]
  · simp only [List.map_cons, List.map_nil]
    rw [List.take_of_length_le (by simp)]

/-- The call p made the change c. -/
def Mat (p : Opn) : Chg → Prop
  | .app i s => p.kind = 0 ∧ p.f = i ∧ i < 16 ∧ p.s = s
  | .cut _ _ => p.kind ≠ 0
  | .mov _ _ => p.kind ≠ 0
def Mats (ops : List Opn) (l : List Chg) : Prop := ops.length = l.length ∧ ∀ (j : Nat) (p : Opn) (c : Chg), ops[j]? = some p → l[j]? = some c → Mat p c
theorem Mats.nil : Mats [] [] := ⟨rfl, fun j p c h => by simp at h⟩
theorem Mats.snoc {ops : List Opn} {l : List Chg} {p : Opn} {c : Chg} (h : Mats ops l) (hm : Mat p c) : Mats (ops ++ [p]) (l ++ [c]) := by
  refine ⟨by rw [List.length_append, List.length_append, h.1]; rfl, fun j q e hq he => ?_⟩
  have hl := h.1
  rcases Nat.lt_or_ge j ops.length with h5 | h5
  · rw [List.getElem?_append_left h5] at hq
    rw [List.getElem?_append_left (by omega)] at he
    exact h.2 j q e hq he
  · rw [List.getElem?_append_right h5] at hq
    rw [List.getElem?_append_right (by omega)] at he
    obtain ⟨i, hi⟩ : ∃ i, j - ops.length = i := ⟨_, rfl⟩
    rw [hi] at hq
    rw [← hl, hi] at he
    match i with
    | 0 =>
      simp at hq he
      subst hq he
      exact hm
    | (i + 1) => simp at hq

/-- A call of a change: it is refused, and nothing turns; or it is one change more. -/
def Two (x : D) (p : Opn) (E : Int) (x2 : D) : Prop := (E ≠ 0 ∧ x2 = x) ∨ (E = 0 ∧ ∃ c, x2 = { x with loose := x.loose ++ [c] } ∧ Mat p c)
theorem chg_two {x : D} (ho : x.off = false) (hl : x.left = -1) (c : Chg) : x.chg c = (0, { x with loose := x.loose ++ [c] }) := by
  obtain ⟨r, o, l, s, lo⟩ := x
  simp only at ho hl
  subst ho hl
  rfl
theorem append_two {x : D} (ho : x.off = false) (hl : x.left = -1) {p : Opn} (hp : p.kind = 0) : ∃ E x2, x.append p.f p.s = (E, x2) ∧ Two x p E x2 := by
  unfold D.append
  rw [if_neg (by rw [ho]; decide)]
  by_cases h1 : isFile p.f = false
  · rw [if_pos h1]
    exact ⟨_, _, rfl, .inl ⟨by decide, rfl⟩⟩
  · rw [if_neg h1]
    have h1' := isFile_iff.1 (by simpa using h1)
    by_cases h2 : x.room' < p.s.size
    · rw [if_pos h2]
      exact ⟨_, _, rfl, .inl ⟨by decide, rfl⟩⟩
    · rw [if_neg h2, chg_two ho hl]
      exact ⟨_, _, rfl, .inr ⟨rfl, _, rfl, hp, by omega, by omega, rfl⟩⟩
theorem cut_two {x : D} (ho : x.off = false) (hl : x.left = -1) {p : Opn} (hp : p.kind ≠ 0) : ∃ E x2, x.cut p.f p.n = (E, x2) ∧ Two x p E x2 := by
  unfold D.cut
  rw [if_neg (by rw [ho]; decide)]
  by_cases h1 : isFile p.f = false
  · rw [if_pos h1]
    exact ⟨_, _, rfl, .inl ⟨by decide, rfl⟩⟩
  · rw [if_neg h1]
    split
    · exact ⟨_, _, rfl, .inl ⟨by decide, rfl⟩⟩
    · rw [chg_two ho hl]
      exact ⟨_, _, rfl, .inr ⟨rfl, _, rfl, hp⟩⟩
theorem move_two {x : D} (ho : x.off = false) (hl : x.left = -1) {p : Opn} (hp : p.kind ≠ 0) : ∃ E x2, x.move p.f p.n = (E, x2) ∧ Two x p E x2 := by
  unfold D.move
  rw [if_neg (by rw [ho]; decide)]
  split
  · exact ⟨_, _, rfl, .inl ⟨by decide, rfl⟩⟩
  · split
    · exact ⟨_, _, rfl, .inl ⟨by decide, rfl⟩⟩
    · rw [chg_two ho hl]
      exact ⟨_, _, rfl, .inr ⟨rfl, _, rfl, hp⟩⟩
theorem sync_two {x : D} (ho : x.off = false) (hl : x.left = -1) : x.sync = (0, { x with sure := x.now, loose := [] }) := by
  obtain ⟨r, o, l, s, lo⟩ := x
  simp only at ho hl
  subst ho hl
  rfl
theorem synced_now (x : D) {x2 : D} (h : x2 = { x with sure := x.now, loose := [] }) : x2.now = x.now ∧ states x2 = [x.now] := by
  subst h
  exact ⟨rfl, states_none rfl⟩

/-- What a crash keeps, by the states and the calls. -/
theorem kept_call {x : D} {ops : List Opn} (hm : Mats ops x.loose) {n b : Int} {p : Opn} (hp : ops[win n ops.length]? = some p) (hk : p.kind = 0) :
    ∃ i : Nat, p.f = i ∧ i < 16 ∧ x.kept n b = upd (run x.sure (x.loose.take (win n ops.length))) i (run x.sure (x.loose.take (win n ops.length)) i ++ p.s.extract 0 (win b p.s.size)) := by
  have hl := hm.1
  have hlt := (List.getElem?_eq_some_iff.1 hp).1
  obtain ⟨c, hc⟩ : ∃ c, x.loose[win n ops.length]? = some c := ⟨_, List.getElem?_eq_getElem (by omega)⟩
  have h1 := hm.2 _ _ _ hp hc
  unfold D.kept
  rw [← hl, hc]
  cases c with
  | app i s =>
    obtain ⟨_, h2, h3, h4⟩ := h1
    subst h4
    exact ⟨i, h2, h3, rfl⟩
  | cut i m => exact absurd hk h1
  | mov i m => exact absurd hk h1
theorem kept_other {x : D} {ops : List Opn} (hm : Mats ops x.loose) {n b : Int} (h : ∀ p, ops[win n ops.length]? = some p → p.kind ≠ 0) : x.kept n b = run x.sure (x.loose.take (win n ops.length)) := by
  have hl := hm.1
  unfold D.kept
  rw [← hl]
  cases hc : x.loose[win n ops.length]? with
  | none => rfl
  | some c =>
    obtain ⟨p, hp⟩ : ∃ p, ops[win n ops.length]? = some p := ⟨_, List.getElem?_eq_getElem (by have := (List.getElem?_eq_some_iff.1 hc).1; omega)⟩
    have h1 := hm.2 _ _ _ hp hc
    cases c with
    | app i s => exact absurd h1.1 (h p hp)
    | cut i m => rfl
    | mov i m => rfl
theorem crash_now (x : D) (n b : Int) : (x.crash n b).now = x.kept n b := rfl
theorem crash_twice (x : D) (n b m c : Int) : ((x.crash n b).crash m c).now = x.kept n b := by
  show D.kept (x.crash n b) m c = x.kept n b
  obtain ⟨g, hg⟩ : ∃ g, x.kept n b = g := ⟨_, rfl⟩
  unfold D.crash
  rw [hg]
  unfold D.kept
  simp [run_nil]
/-- The number of changes that are kept, as the statement reckons it. -/
theorem win_maxmin (n : Int) (k : Nat) : max (min n (k : Int)) 0 = (win n k : Nat) := by unfold win; omega
end Go.Proofs.Ytdajpaigahhhcaa.dsk
