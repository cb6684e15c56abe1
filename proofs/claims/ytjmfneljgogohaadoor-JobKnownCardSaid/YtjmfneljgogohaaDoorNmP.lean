/- Plain facts on the runes of a text: no program's run in this file. -/
import Derived.Laws.RangeAny
import Derived.Lib.Hide
namespace Go.Proofs.YtjmfneljgogohaaDoor.nam

def letB (n : Nat) : Bool := decide (97 ≤ n ∧ n ≤ 122 ∨ 65 ≤ n ∧ n ≤ 90 ∨ 191 < n ∧ n ≠ 65533)
def digB (n : Nat) : Bool := decide (48 ≤ n ∧ n ≤ 57)
def blkB (n : Nat) : Bool := decide (n = 32 ∨ n = 9)
def mayB (n : Nat) : Bool := decide (n ≠ 65533 ∧ (32 ≤ n ∨ n = 9))

theorem width_pos (s : ByteArray) (pos : Nat) (h : pos < s.size) : 1 ≤ (Utf8.decode s pos).2 := by
  by_cases ha : (s[pos]'h).toNat < 128
  · rw [decode_ascii s pos h ha]
    exact Nat.le_refl _
  · exact (decode_high s pos h (by omega)).2

/-- The runes of s from byte pos on, at most fuel of them, each with the byte at which it begins. -/
def runesFrom (s : ByteArray) : Nat → Nat → List (Nat × Nat)
  | 0, _ => []
  | f + 1, pos => if pos < s.size then (pos, (Utf8.decode s pos).1) :: runesFrom s f (pos + (Utf8.decode s pos).2) else []

theorem runesFrom_fuel (s : ByteArray) : ∀ (f g pos : Nat), s.size ≤ pos + f → s.size ≤ pos + g → runesFrom s f pos = runesFrom s g pos
  | 0, 0, _, _, _ => rfl
  | 0, g + 1, pos, h, _ => by simp only [runesFrom]; rw [if_neg (by omega)]
  | f + 1, 0, pos, _, h => by simp only [runesFrom]; rw [if_neg (by omega)]
  | f + 1, g + 1, pos, h1, h2 => by
    simp only [runesFrom]
    by_cases hp : pos < s.size
    · have hw := width_pos s pos hp
      rw [if_pos hp, if_pos hp, runesFrom_fuel s f g _ (by omega) (by omega)]
    · rw [if_neg hp, if_neg hp]

/-- All runes from byte pos on. -/
def runesAt (s : ByteArray) (pos : Nat) : List (Nat × Nat) := runesFrom s s.size pos

theorem runesAt_step (s : ByteArray) (pos : Nat) (h : pos < s.size) : runesAt s pos = (pos, (Utf8.decode s pos).1) :: runesAt s (pos + (Utf8.decode s pos).2) := by
  have hw := width_pos s pos h
  have e : runesAt s pos = runesFrom s (s.size + 1) pos := runesFrom_fuel s _ _ _ (by omega) (by omega)
  rw [e]
  simp only [runesFrom]
  rw [if_pos h]
  rfl

theorem runesAt_end (s : ByteArray) (pos : Nat) (h : ¬ pos < s.size) : runesAt s pos = [] := by
  unfold runesAt
  cases s.size with
  | zero => rfl
  | succ n => simp only [runesFrom]; rw [if_neg h]

theorem runesFrom_length (s : ByteArray) : ∀ f pos, (runesFrom s f pos).length ≤ f
  | 0, _ => Nat.le_refl _
  | f + 1, pos => by
    simp only [runesFrom]
    split
    · have := runesFrom_length s f (pos + (Utf8.decode s pos).2)
      simp only [List.length_cons]; omega
    · simp
theorem runesAt_length (s : ByteArray) (pos : Nat) : (runesAt s pos).length ≤ s.size := runesFrom_length s _ _

/-- The runes alone. -/
def rn (s : ByteArray) (pos : Nat) : List Nat := (runesAt s pos).map Prod.snd
theorem rn_step (s : ByteArray) (pos : Nat) (h : pos < s.size) : rn s pos = (Utf8.decode s pos).1 :: rn s (pos + (Utf8.decode s pos).2) := by
  unfold rn; rw [runesAt_step s pos h]; rfl
theorem rn_end (s : ByteArray) (pos : Nat) (h : ¬ pos < s.size) : rn s pos = [] := by
  unfold rn; rw [runesAt_end s pos h]; rfl
theorem rn_length (s : ByteArray) (pos : Nat) : (rn s pos).length ≤ s.size := by unfold rn; rw [List.length_map]; exact runesAt_length s pos

/-- Whether runes, behind so many others, make a name. -/
def nameFrom : Nat → List Nat → Bool
  | many, [] => decide (0 < many)
  | many, r :: t => if letB r = false ∧ (many = 0 ∨ digB r = false ∧ r ≠ 45) then false else if 24 < many + 1 then false else nameFrom (many + 1) t
def nameB (s : ByteArray) : Bool := nameFrom 0 (rn s 0)

end Go.Proofs.YtjmfneljgogohaaDoor.nam
