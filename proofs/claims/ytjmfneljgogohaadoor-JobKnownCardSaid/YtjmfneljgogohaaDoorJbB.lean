/- What a kind asks for, read off the variable. -/
import Derived.Test.YtjmfneljgogohaaDoorJbA
namespace Go.Proofs.YtjmfneljgogohaaDoor.jb
set_option linter.unusedSimpArgs false
set_option linter.unusedVariables false
open Go.RowKit nam exp

theorem box_ask {w : World} {N : Nat} {a b c d e f g : Value} {t : TypeId} (hN : w.heap.size = N) : (w.alloc (.cells #[a, b, c, d, e, f, g] t)).cell? ⟨N, 0, none⟩ = some a ∧ (w.alloc (.cells #[a, b, c, d, e, f, g] t)).cell? ⟨N, 1, none⟩ = some b ∧ (w.alloc (.cells #[a, b, c, d, e, f, g] t)).cell? ⟨N, 2, none⟩ = some c ∧
    (w.alloc (.cells #[a, b, c, d, e, f, g] t)).cell? ⟨N, 3, none⟩ = some d ∧ (w.alloc (.cells #[a, b, c, d, e, f, g] t)).cell? ⟨N, 4, none⟩ = some e ∧ (w.alloc (.cells #[a, b, c, d, e, f, g] t)).cell? ⟨N, 5, none⟩ = some f ∧ (w.alloc (.cells #[a, b, c, d, e, f, g] t)).cell? ⟨N, 6, none⟩ = some g := by
  subst hN; exact box7 rfl
set_option maxRecDepth 1000000 in
theorem asked_at {w : World} (h : Tab w) {k : Nat} :
    Calls Tryd.prog 29 #[.int .u8 (k : Int)] w fun e w' => e = .returned (.tuple #[askV (askR k), .bool (kindOk k)]) ∧ Below w.heap.size w w' := by
  have HB : Hid (∀ o, Below w.heap.size w (w.alloc o)) := Lib.hid (fun o => below_made w o)
  have hT := h.on (below_made w (.cells #[.int .i64 0, .int .i64 0, .int .u8 0, .bool false, .int .i64 0, .int .i64 0, .bool false] 54))
  have bx := fun (a b c d e f g : Value) => @box7 w _ a b c d e f g 54 rfl
  by_cases hk : kindOk k = true
  · have hk' := hk
    unfold kindOk at hk'
    rw [decide_eq_true_eq] at hk'
    obtain ⟨c0, c1, c2, c3, c4, c5, c6⟩ := hT.row (k := k) (by omega)
    have h1 : (1 : Int) ≤ (k : Int) := by omega
    have h9 : (k : Int) ≤ 9 := by omega
    have h10 : (k : Int) < 10 := by omega
    rw [hk]
    generalize askR k = R at *
    obtain ⟨few, many, ty, acc, least, most, keeps⟩ := R
    simp only at c0 c1 c2 c3 c4 c5 c6
    have hb7 := bx (.int .i64 few) (.int .i64 many) (.int .u8 (ty : Int)) (.bool acc) (.int .i64 least) (.int .i64 most) (.bool keeps)
    have HX := Lib.hid hb7
    clear h hT hk hk' bx hb7
    go_enter Tryd.func29, Tryd.ntmps29
    go_wp2_with fail
    obtain ⟨d0, d1, d2, d3, d4, d5, d6⟩ := HX.out
    exact bodyPost_ret (v := .tuple #[askV ⟨few, many, ty, acc, least, most, keeps⟩, .bool true]) (by simp [results, Tryd.f29, go_sem, askV, d0, d1, d2, d3, d4, d5, d6]) rfl ⟨rfl, HB.out _⟩
  · have hkf : kindOk k = false := by simpa using hk
    rw [hkf, askR_out hkf]
    have hb7 := bx (.int .i64 0) (.int .i64 0) (.int .u8 0) (.bool false) (.int .i64 0) (.int .i64 0) (.bool false)
    have HX := Lib.hid hb7
    have hor : ((k : Int) < 1 ∧ ¬ 9 < (k : Int)) ∨ (¬ (k : Int) < 1 ∧ 9 < (k : Int)) := by
      unfold kindOk at hkf
      simp at hkf
      omega
    clear h hT hk hkf bx hb7
    rcases hor with ⟨ho, ho2⟩ | ⟨ho, ho2⟩
    all_goals
      go_enter Tryd.func29, Tryd.ntmps29
      go_wp2_with fail
      obtain ⟨d0, d1, d2, d3, d4, d5, d6⟩ := HX.out
      exact bodyPost_ret (v := .tuple #[askV ask0, .bool false]) (by simp [results, Tryd.f29, go_sem, askV, ask0, d0, d1, d2, d3, d4, d5, d6]) rfl ⟨rfl, HB.out _⟩
end Go.Proofs.YtjmfneljgogohaaDoor.jb
