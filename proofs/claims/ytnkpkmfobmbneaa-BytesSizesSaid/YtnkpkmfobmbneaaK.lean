/- strings.HasPrefix, where it answers no. -/
import Derived.Test.YtnkpkmfobmbneaaQ
namespace Go.Proofs.Ytnkpkmfobmbneaa
open Go.RowKit
theorem str_ne {a b : ByteArray} (h : a ≠ b) : (a.toList == b.toList) = false := by
  rw [beq_eq_false_iff_ne]
  intro e
  rw [ByteArray.toList_eq, ByteArray.toList_eq] at e
  exact h (WideShapes.bytes_inj e)
set_option maxRecDepth 1000000 in
theorem prefix_no (s p : ByteArray) (w : World) (hs : s.size ≤ 9223372036854775807) (hp : p.size ≤ 9223372036854775807) (h : p.size ≤ s.size → s.extract 0 p.size ≠ p) :
    Calls Try.prog 22 #[.string s, .string p] w fun e w' => e = .returned (.bool false) ∧ w = w' := by
  by_cases hl : p.size ≤ s.size
  · have hne := str_ne (h hl)
    have hl' : (p.size : Int) ≤ (s.size : Int) := by omega
    clear h
    go_enter Try.func22, Try.ntmps22
    go_wp2
    go_ret
    exact ⟨rfl, rfl⟩
  · have hl' : (s.size : Int) < (p.size : Int) := by omega
    clear h
    go_enter Try.func22, Try.ntmps22
    go_wp2
    go_ret
    exact ⟨rfl, rfl⟩
end Go.Proofs.Ytnkpkmfobmbneaa
