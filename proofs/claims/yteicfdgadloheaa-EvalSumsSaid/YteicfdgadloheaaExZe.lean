/- What each rule answers. -/
import Derived.Test.YteicfdgadloheaaExZd
import Derived.Test.YteicfdgadloheaaExTb
namespace Go.Proofs.Yteicfdgadloheaa.exp
set_option linter.unusedSimpArgs false
set_option linter.unusedVariables false
open Go.RowKit nam lex

def fnum : Nat → Nat
  | 0 => 23
  | 1 => 34
  | 2 => 54
  | 3 => 68
  | 4 => 79
  | 5 => 81
  | _ => 84
theorem rule_any (S : Src) : ∀ (k r : Nat) (i : Nat) (w : World), r ≤ 6 → Rs S w i → need r (S.at i) ≤ k → Calls Try.prog (fnum r) #[ptr S.rb] w (PPost S (par k r (S.at i)) w) := by
  intro k
  induction k with
  | zero => intro r i w hr hs hn; unfold need at hn; omega
  | succ k ih =>
    intro r i w hr hs hn
    unfold need at hn
    have hrow : ∀ r, r < 5 → need r (S.at i) ≤ k + 1 → (∀ (w' : World) (i' : Nat), Rs S w' i' → (S.at i').length ≤ (S.at i).length → Calls Try.prog (fnum (r + 1)) #[ptr S.rb] w' (PPost S (par k (r + 1) (S.at i')) w')) := fun r hr5 hn w' i' hs' hl => ih (r + 1) i' w' (by omega) hs' (by unfold need at *; omega)
    rcases (show r = 0 ∨ r = 1 ∨ r = 2 ∨ r = 3 ∨ r = 4 ∨ r = 5 ∨ r = 6 by omega) with rfl | rfl | rfl | rfl | rfl | rfl | rfl
    · rw [par_row k 0 _ (by omega)]
      exact row0_any (f := par k 1) (hrow 0 (by omega) hn) (fun l => par_less k 1 l) hs (Nat.le_refl _)
    · rw [par_row k 1 _ (by omega)]
      exact row1_any (f := par k 2) (hrow 1 (by omega) hn) (fun l => par_less k 2 l) hs (Nat.le_refl _)
    · rw [par_row k 2 _ (by omega)]
      exact row2_any (f := par k 3) (hrow 2 (by omega) hn) (fun l => par_less k 3 l) hs (Nat.le_refl _)
    · rw [par_row k 3 _ (by omega)]
      exact row3_any (f := par k 4) (hrow 3 (by omega) hn) (fun l => par_less k 4 l) hs (Nat.le_refl _)
    · rw [par_row k 4 _ (by omega)]
      exact row4_any (f := par k 5) (hrow 4 (by omega) hn) (fun l => par_less k 5 l) hs (Nat.le_refl _)
    · rw [par_unary]
      exact unary_any (f5 := par k 5) (f6 := par k 6) (fun w' i' hs' hl => ih 5 i' w' (by omega) hs' (by unfold need; omega)) (fun w' i' hs' hl => ih 6 i' w' (by omega) hs' (by unfold need; omega)) hs (Nat.le_refl _)
    · rw [par_one]
      have hf : ∀ (w' : World) (i' : Nat), Rs S w' i' → (S.at i').length < (S.at i).length → Calls Try.prog 23 #[ptr S.rb] w' (PPost S (par k 0 (S.at i')) w') := fun w' i' hs' hl => ih 0 i' w' (by omega) hs' (by unfold need; omega)
      show Calls Try.prog 84 _ _ _
      by_cases h2 : knd (S.at i) = 2
      · exact one_num hs (Nat.le_refl _) h2
      by_cases h3 : txt (S.at i) = [107, 101, 121]
      · exact one_key hs (Nat.le_refl _) h2 h3
      by_cases h4 : txt (S.at i) = [118, 97, 108]
      · exact one_val hs (Nat.le_refl _) h2 h3 h4
      by_cases h5 : txt (S.at i) = [97, 99, 99]
      · exact one_acc hs (Nat.le_refl _) h2 h3 h4 h5
      by_cases h6 : txt (S.at i) = [40]
      · exact one_paren hf hs (Nat.le_refl _) h2 h3 h4 h5 h6
      by_cases h7 : txt (S.at i) = wIf
      · exact one_if (fun w' hs' => choice_any hf (fun l => par_less k 0 l) hs' (Nat.le_refl _) h7) hs (Nat.le_refl _) h2 h3 h4 h5 h6 h7
      · exact one_none hs (Nat.le_refl _) h2 h3 h4 h5 h6 h7
end Go.Proofs.Yteicfdgadloheaa.exp
