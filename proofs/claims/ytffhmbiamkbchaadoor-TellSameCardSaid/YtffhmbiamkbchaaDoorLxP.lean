/- Plain facts on the tokens of runes, told from the left: no program's run in this file. -/
import Derived.Test.YtffhmbiamkbchaaDoorMNm
namespace Go.Proofs.YtffhmbiamkbchaaDoor.lex
set_option linter.unusedSimpArgs false
set_option linter.unusedVariables false
open nam

structure Tok where
  kind : Nat
  text : List Nat
  n : Nat
  place : Nat

/-- The signs of one rune. -/
def sgnB (r : Nat) : Bool := [43, 45, 42, 47, 37, 40, 41, 38, 124, 33, 61, 60].contains r
/-- What a rune does to a token: it goes on, it does not, it is too great. -/
inductive Goes where
  | yes (t : Tok)
  | no
  | big
def keepOn (t : Tok) (r : Nat) : Goes :=
  if t.kind = 1 then (if letB r then .yes ⟨1, t.text ++ [r], t.n, t.place⟩ else .no)
  else if t.kind = 2 then (if digB r then (if (9223372036854775807 - (r - 48)) / 10 < t.n then .big else .yes ⟨2, t.text, 10 * t.n + (r - 48), t.place⟩) else .no)
  else if t.text ++ [r] = [33, 61] ∨ t.text ++ [r] = [60, 61] then .yes ⟨3, t.text ++ [r], t.n, t.place⟩ else .no
def keepO : Option Tok → Nat → Goes
  | none, _ => .no
  | some t, r => keepOn t r
/-- The token that a rune begins. -/
def beg (r p : Nat) : Option Tok :=
  if letB r then some ⟨1, [r], 0, p⟩ else if digB r then some ⟨2, [], r - 48, p⟩ else if sgnB r then some ⟨3, [r], 0, p⟩ else none
def placeO : Option Tok → Nat
  | none => 0
  | some t => t.place
/-- What the runes from place p on come to, behind tokens that are done and one that may go on: the tokens, the error's place, the code. -/
def scan : List Tok → Option Tok → Nat → List Nat → List Tok × Nat × Int
  | done, cur, _, [] => (done ++ cur.toList, 0, 0)
  | done, cur, p, r :: rest =>
    match keepO cur r with
    | .yes t => scan done (some t) (p + 1) rest
    | .big => ([], placeO cur, 71)
    | .no =>
      if blkB r then scan (done ++ cur.toList) none (p + 1) rest
      else match beg r p with
        | some t => scan (done ++ cur.toList) (some t) (p + 1) rest
        | none => ([], p, 70)
def toksO (s : ByteArray) : List Tok × Nat × Int := if 400 < s.size then ([], 0, 3) else scan [] none 0 (rn s 0)

theorem scan_nil (done : List Tok) (cur : Option Tok) (p : Nat) : scan done cur p [] = (done ++ cur.toList, 0, 0) := rfl
theorem scan_yes {done : List Tok} {cur : Option Tok} {p r : Nat} {rest : List Nat} {t : Tok} (h : keepO cur r = .yes t) : scan done cur p (r :: rest) = scan done (some t) (p + 1) rest := by
  simp only [scan, h]
theorem scan_big {done : List Tok} {cur : Option Tok} {p r : Nat} {rest : List Nat} (h : keepO cur r = .big) : scan done cur p (r :: rest) = ([], placeO cur, 71) := by
  simp only [scan, h]
theorem scan_blank {done : List Tok} {cur : Option Tok} {p r : Nat} {rest : List Nat} (h : keepO cur r = .no) (hb : blkB r = true) : scan done cur p (r :: rest) = scan (done ++ cur.toList) none (p + 1) rest := by
  simp only [scan, h, hb, if_true]
theorem scan_beg {done : List Tok} {cur : Option Tok} {p r : Nat} {rest : List Nat} {t : Tok} (h : keepO cur r = .no) (hb : blkB r = false) (hg : beg r p = some t) : scan done cur p (r :: rest) = scan (done ++ cur.toList) (some t) (p + 1) rest := by
  simp only [scan, h, hb, hg]; rfl
theorem scan_bad {done : List Tok} {cur : Option Tok} {p r : Nat} {rest : List Nat} (h : keepO cur r = .no) (hb : blkB r = false) (hg : beg r p = none) : scan done cur p (r :: rest) = ([], p, 70) := by
  simp only [scan, h, hb, hg]; rfl

/-- What a token that may go on is like. -/
structure Wf (t : Tok) (p : Nat) : Prop where
  kind : t.kind = 1 ∨ t.kind = 2 ∨ t.kind = 3
  ok : ∀ r ∈ t.text, okR r
  len : t.text.length ≤ p
  num : t.n ≤ 9223372036854775807
  at_ : t.place ≤ p
def WfO (cur : Option Tok) (p : Nat) : Prop := ∀ t, cur = some t → Wf t p

theorem keepOn_wf {t t' : Tok} {p r : Nat} (h : Wf t p) (hr : okR r) (hk : keepOn t r = .yes t') : Wf t' (p + 1) ∧ t'.kind = t.kind := by
  unfold keepOn at hk
  have happ : ∀ x ∈ t.text ++ [r], okR x := fun x hx => by
    rcases List.mem_append.1 hx with h1 | h1
    · exact h.ok x h1
    · simp at h1; exact h1 ▸ hr
  have hl := h.len
  have ha := h.at_
  have hn := h.num
  split at hk
  · rename_i hk1
    split at hk
    · cases hk
      exact ⟨⟨.inl rfl, happ, by simp; omega, hn, by simp; omega⟩, hk1.symm⟩
    · cases hk
  · split at hk
    · rename_i hk2
      split at hk
      · rename_i hd
        split at hk
        · cases hk
        · rename_i hnb
          cases hk
          unfold digB at hd
          simp at hd
          exact ⟨⟨.inr (.inl rfl), h.ok, by simp; omega, by simp; omega, by simp; omega⟩, hk2.symm⟩
      · cases hk
    · rename_i hk1 hk2
      split at hk
      · cases hk
        have := h.kind
        exact ⟨⟨.inr (.inr rfl), happ, by simp; omega, hn, by simp; omega⟩, by simp; omega⟩
      · cases hk
theorem beg_wf {r p : Nat} {t : Tok} (hr : okR r) (hg : beg r p = some t) : Wf t (p + 1) ∧ t.place = p := by
  unfold beg at hg
  split at hg
  · cases hg; exact ⟨⟨.inl rfl, by simpa using hr, by simp, by simp, by simp⟩, rfl⟩
  · split at hg
    · rename_i hd
      unfold digB at hd
      simp at hd
      cases hg; exact ⟨⟨.inr (.inl rfl), by simp, by simp, by simp; omega, by simp⟩, rfl⟩
    · split at hg
      · cases hg; exact ⟨⟨.inr (.inr rfl), by simpa using hr, by simp, by simp, by simp⟩, rfl⟩
      · cases hg
theorem textOf_inj {a b : List Nat} (ha : ∀ r ∈ a, okR r) (hb : ∀ r ∈ b, okR r) (h : textOf a = textOf b) : a = b := by
  rw [← rn_textOf a ha, ← rn_textOf b hb, h]
theorem textOf_snoc (l : List Nat) (r : Nat) (h : okR r) : textOf l ++ Utf8.encode (r : Int) = textOf (l ++ [r]) := by
  rw [encode_enc r h]
  apply byteArray_ext
  rw [append_toList, textOf_toList, textOf_toList]
  simp
theorem textOf_one (r : Nat) (h : okR r) : Utf8.encode (r : Int) = textOf [r] := by
  rw [encode_enc r h]
  apply byteArray_ext
  rw [textOf_toList]
  simp
theorem textOf_bound (l : List Nat) (n : Nat) (h : l.length ≤ n) : (textOf l).size ≤ 4 * n := by
  rw [textOf_size]
  have := (flat_length l).2
  omega
/-- The two signs of two runes, as the program tells them. -/
theorem two_iff {l : List Nat} {r : Nat} (hl : ∀ x ∈ l, okR x) (hr : okR r) (a : Nat) (ha : a < 128) : textOf (l ++ [r]) = ⟨#[UInt8.ofNat a, 61]⟩ ↔ l ++ [r] = [a, 61] := by
  have e : (⟨#[UInt8.ofNat a, 61]⟩ : ByteArray) = textOf [a, 61] := by
    apply byteArray_ext
    rw [textOf_toList]
    simp [enc, ha]
  rw [e]
  constructor
  · intro h
    refine textOf_inj ?_ ?_ h
    · intro x hx
      rcases List.mem_append.1 hx with h1 | h1
      · exact hl x h1
      · simp at h1; exact h1 ▸ hr
    · intro x hx
      simp at hx
      unfold okR
      omega
  · intro h; rw [h]
theorem nameB_one (r : Nat) (h : okR r) : nameB (textOf [r]) = letB r := by
  rw [nameB_textOf _ (by simpa using h)]
  unfold nameFrom nameFrom
  cases letB r <;> simp
end Go.Proofs.YtffhmbiamkbchaaDoor.lex
