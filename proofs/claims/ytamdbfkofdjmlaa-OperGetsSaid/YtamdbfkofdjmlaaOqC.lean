/- What is too much; the law OperGets. -/
import Derived.Test.YtamdbfkofdjmlaaOqB
namespace Go.Proofs.Ytamdbfkofdjmlaa.opr
set_option linter.unusedSimpArgs false
set_option linter.unusedVariables false
open Go.RowKit
attribute [local go_sem ↓] Go.wp_at_zero Go.wp_at_succ
open Go.Proofs.Ytamdbfkofdjmlaa.tbl (Only lt_of_get)
open Go.Proofs.Ytamdbfkofdjmlaa.grp (below_on' below_made)
theorem heavy16_nil (w : World) : Calls Try.prog 22 #[.slice none 0 0] w fun e w' => e = .returned (.bool false) ∧ w' = w := by
  go_enter Try.func22, Try.ntmps22
  go_wp2
  refine wp_loop_rounds 1 ?_
  rw [rounds_succ]
  go_wp2
  go_ret
  exact ⟨rfl, rfl⟩
theorem tot_small {ls : List (List Rc)} (hc : ∀ l ∈ ls, l.length ≤ 140737488355328) : ∀ k, (tot ls k).length ≤ k * 140737488355328
  | 0 => by simp [tot_zero]
  | k + 1 => by
    by_cases hk : k < ls.length
    · have hb : ls[k]? = some ls[k] := List.getElem?_eq_getElem hk
      rw [tot_succ hb, List.length_append]
      have h2 := tot_small hc k
      have h3 := hc _ (List.getElem_mem hk)
      rw [Nat.add_mul, Nat.one_mul]
      exact Nat.add_le_add h2 h3
    · have : tot ls (k + 1) = tot ls k := by
        unfold tot
        have e1 : ls.take (k + 1) = ls := List.take_of_length_le (by omega)
        have e2 : ls.take k = ls := List.take_of_length_le (by omega)
        rw [e1, e2]
      rw [this]
      have h2 := tot_small hc k
      exact Nat.le_trans h2 (Nat.mul_le_mul_right _ (Nat.le_succ k))
def HvPost (ls : List (List Rc)) (w : World) (e : Ending) (w' : World) : Prop := (e = .returned (.bool true) ∨ (e = .returned (.bool false) ∧ ls.flatten.length ≤ 500 ∧ ls.length ≤ 20)) ∧ Below w.heap.size w w'
set_option maxHeartbeats 6400000 in
set_option maxRecDepth 1000000 in
theorem heavy_many {w : World} {v : Value} {vs : List Value} {ls : List (List Rc)} (h : Lr w v vs ls) (hl : ls.length ≤ maxLen) (nv : Nv) (h20 : 20 < ls.length) :
    Calls Try.prog 13 #[nodeV nv, .slice none 0 0, v] w (HvPost ls w) := by
  obtain ⟨a, c, rfl⟩ := h.len
  have hb0 := below_made w (.cells nv.cells 29)
  have HL := Lib.hid (h.below hb0)
  have HB0 := Lib.hid hb0
  obtain ⟨n, hn⟩ : ∃ n, ls.length = n := ⟨_, rfl⟩
  have HN := Lib.hid hn
  have hn1 : (n : Int) ≤ 9223372036854775807 := by unfold maxLen at hl; omega
  have hn2 : (20 : Int) < (n : Int) := by omega
  rw [hn]
  obtain ⟨s, kd, ia, il, ic, op, xn, xa, xl, xc, nn⟩ := nv
  have HF : Hid (∀ w', Below (w.alloc (.cells #[.string s, .int .u8 (kd : Int), .slice ia il ic, .int .u8 (op : Int), .int .i64 xn, .slice xa xl xc, .int .i64 nn] 29)).heap.size (w.alloc (.cells #[.string s, .int .u8 (kd : Int), .slice ia il ic, .int .u8 (op : Int), .int .i64 xn, .slice xa xl xc, .int .i64 nn] 29)) w' → HvPost ls w (.returned (.bool true)) w') := Lib.hid fun w' hw => ⟨.inl rfl, below_on' hb0 hw⟩
  unfold nodeV Nv.cells
  unfold Nv.cells at HL HB0
  dsimp only at HL HB0 ⊢
  obtain ⟨W0, hW0⟩ : ∃ W, w.alloc (.cells #[.string s, .int .u8 (kd : Int), .slice ia il ic, .int .u8 (op : Int), .int .i64 xn, .slice xa xl xc, .int .i64 nn] 29) = W := ⟨_, rfl⟩
  rw [hW0] at HF HL HB0
  have HWE := Lib.hid hW0
  have HFF := Lib.hid (HF.out W0 (Below.refl _ _))
  clear h hb0 hn hl h20 hW0 HF
  go_enter Try.func13, Try.ntmps13
  go_wp2
  rw [HWE.out]
  go_loopg [7, 12] n (fun g v7 v12 wr => ∃ (k : Nat) (K : Int), v12 = .int .i64 (k : Nat) ∧ v7 = .int .i64 K ∧ k + g = n ∧ W0 = wr)
  case atStart => exact ⟨0, 0, rfl, rfl, by omega, rfl⟩
  case round =>
    obtain ⟨k, K, rfl, rfl, hk, rfl⟩ := hrel
    by_cases hlt : k < n
    · have hlt' : (k : Int) < (n : Int) := by omega
      have hk0 : (0 : Int) ≤ (k : Int) := by omega
      obtain ⟨g, o, c', l, ax, cx, e1, e2, e3, e4, e5⟩ := HL.out.at (k := k) (by have := HN.out; omega)
      rw [HN.out] at e1
      injection e1 with e1a _ e1b
      subst e1a e1b
      obtain ⟨m, hm⟩ : ∃ m, l.length = m := ⟨_, rfl⟩
      rw [hm] at e4
      have HKK := Lib.hid (And.intro hk hlt)
      clear hlt e5 e3 hm hk e2
      go_wp2
      go_roundg (n - (k + 1))
      case measure => have := HKK.out; omega
      case rel => exact ⟨k + 1, _, rfl, rfl, by have := HKK.out; omega, rfl⟩
    · have hlt' : ¬ ((k : Int) < (n : Int)) := by omega
      clear hlt hk
      by_cases hK : 500 < K
      · go_wp2
        go_ret
        exact HFF.out
      · go_wp2
        go_ret
        exact HFF.out
set_option maxHeartbeats 6400000 in
set_option maxRecDepth 1000000 in
theorem heavy_few {w : World} {v : Value} {vs : List Value} {ls : List (List Rc)} (h : Lr w v vs ls) (nv : Nv) (hx : Cm w (.slice nv.xa nv.xl nv.xc)) (h20 : ls.length ≤ 20) (hbig : ∀ l ∈ ls, l.length ≤ 140737488355328) :
    Calls Try.prog 13 #[nodeV nv, .slice none 0 0, v] w (HvPost ls w) := by
  obtain ⟨a, c, rfl⟩ := h.len
  have hb0 := below_made w (.cells nv.cells 29)
  have HL := Lib.hid (h.below hb0)
  have HB0 := Lib.hid hb0
  have HCAP := Lib.hid (tot_small hbig)
  obtain ⟨c0, c1, c2, c3, c4, c5, c6⟩ := (NBox.new w nv).facts
  obtain ⟨n, hn⟩ : ∃ n, ls.length = n := ⟨_, rfl⟩
  have HN := Lib.hid hn
  have hn1 : (n : Int) ≤ 20 := by omega
  rw [hn]
  have HSZ := Lib.hid (size_any hx _ hb0 (nv.op : Int) nv.xn)
  obtain ⟨s, kd, ia, il, ic, op, xn, xa, xl, xc, nn⟩ := nv
  unfold nodeV Nv.cells
  unfold Nv.cells at HL HB0 HSZ c0 c1 c2 c3 c4 c5 c6
  dsimp only at HL HB0 HSZ c0 c1 c2 c3 c4 c5 c6 ⊢
  have HT : Hid (∀ w', Below (w.alloc (.cells #[.string s, .int .u8 (kd : Int), .slice ia il ic, .int .u8 (op : Int), .int .i64 xn, .slice xa xl xc, .int .i64 nn] 29)).heap.size (w.alloc (.cells #[.string s, .int .u8 (kd : Int), .slice ia il ic, .int .u8 (op : Int), .int .i64 xn, .slice xa xl xc, .int .i64 nn] 29)) w' → HvPost ls w (.returned (.bool true)) w') := Lib.hid fun w' hw => ⟨.inl rfl, below_on' hb0 hw⟩
  have HFA : Hid (ls.flatten.length ≤ 500 → ∀ w', Below (w.alloc (.cells #[.string s, .int .u8 (kd : Int), .slice ia il ic, .int .u8 (op : Int), .int .i64 xn, .slice xa xl xc, .int .i64 nn] 29)).heap.size (w.alloc (.cells #[.string s, .int .u8 (kd : Int), .slice ia il ic, .int .u8 (op : Int), .int .i64 xn, .slice xa xl xc, .int .i64 nn] 29)) w' → HvPost ls w (.returned (.bool false)) w') := Lib.hid fun hf w' hw => ⟨.inr ⟨rfl, hf, h20⟩, below_on' hb0 hw⟩
  have HNIL := Lib.hid (fun w => heavy16_nil w)
  clear h hb0 hn h20 hx hbig
  go_enter Try.func13, Try.ntmps13
  go_wp2
  obtain ⟨W0, hW0⟩ : ∃ W, w.alloc (.cells #[.string s, .int .u8 (kd : Int), .slice ia il ic, .int .u8 (op : Int), .int .i64 xn, .slice xa xl xc, .int .i64 nn] 29) = W := ⟨_, rfl⟩
  rw [hW0] at HT HFA HL HB0 HSZ c0 c1 c2 c3 c4 c5 c6 ⊢
  clear hW0
  go_loopg [7, 12] n (fun g v7 v12 wr => ∃ (k T : Nat), v12 = .int .i64 (k : Nat) ∧ v7 = .int .i64 (T : Nat) ∧ k + g = n ∧ T = (tot ls k).length ∧ W0 = wr)
  case atStart => exact ⟨0, 0, rfl, rfl, by omega, rfl, rfl⟩
  case round =>
    obtain ⟨k, T, rfl, rfl, hk, hT, rfl⟩ := hrel
    have hTB := HCAP.out k
    by_cases hlt : k < n
    · have hlt' : (k : Int) < (n : Int) := by omega
      have hk0 : (0 : Int) ≤ (k : Int) := by omega
      obtain ⟨g, o, c', l, ax, cx, e1, e2, e3, e4, e5⟩ := HL.out.at (k := k) (by have := HN.out; omega)
      rw [HN.out] at e1
      injection e1 with e1a _ e1b
      subst e1a e1b
      obtain ⟨m, hm⟩ : ∃ m, l.length = m := ⟨_, rfl⟩
      rw [hm] at e4
      have hT1 : (tot ls (k + 1)).length = T + m := by rw [tot_succ e3, List.length_append, ← hT, hm]
      have hTB1 := HCAP.out (k + 1)
      have hTm : (T : Int) + (m : Int) ≤ 9223372036854775807 := by
        rw [hT1] at hTB1
        omega
      have HT1 := Lib.hid hT1
      have HKK := Lib.hid (And.intro hk hlt)
      clear hlt e5 e3 hm hk e2 hT hTB hT1 hTB1
      go_wp2
      go_roundg (n - (k + 1))
      case measure => have := HKK.out; omega
      case rel => exact ⟨k + 1, T + m, rfl, by go_num, by have := HKK.out; omega, HT1.out.symm, rfl⟩
    · have hlt' : ¬ ((k : Int) < (n : Int)) := by omega
      have HTA : Hid (T = ls.flatten.length) := Lib.hid (by rw [hT, ← tot_all, HN.out]; congr 2; omega)
      have HTT := Lib.hid (HT.out W0 (Below.refl _ _))
      clear hlt hk hT hTB
      by_cases hK : 500 < T
      · have hK' : (500 : Int) < (T : Int) := by omega
        clear hK
        go_wp2
        go_ret
        exact HTT.out
      · have hK' : ¬ ((500 : Int) < (T : Int)) := by omega
        have HFF := Lib.hid (HFA.out (by have := HTA.out; omega))
        have hn3 : ¬ ((20 : Int) < (n : Int)) := by omega
        clear hK
        go_wp2_with fail
        refine (HNIL.out _).mono ?_
        rintro e w1 ⟨rfl, rfl⟩
        go_wp2_with fail
        (with_reducible refine HSZ.out.mono ?_)
        rintro e w2 ⟨q, rfl, hq1, hq2, hb2⟩
        have HT2 := Lib.hid (HT.out w2 hb2)
        have HF2 := Lib.hid (HFF.out w2 hb2)
        clear hb2
        by_cases hq : 500 ≤ q
        · go_wp2
          go_ret
          exact HT2.out
        · have hqd : decide (500 ≤ q) = false := decide_eq_false hq
          have hqd2 : decide (q ≥ 500) = false := decide_eq_false hq
          go_wp2
          go_ret
          have := HF2.out
          first | exact this | (rw [← hqd] at this; exact this)
theorem heavy_any {w : World} {v : Value} {vs : List Value} {ls : List (List Rc)} (h : Lr w v vs ls) (hl : ls.length ≤ maxLen) (nv : Nv) (hx : Cm w (.slice nv.xa nv.xl nv.xc)) (hbig : ∀ l ∈ ls, l.length ≤ 140737488355328) :
    Calls Try.prog 13 #[nodeV nv, .slice none 0 0, v] w (HvPost ls w) := by
  by_cases h20 : 20 < ls.length
  · exact heavy_many h hl nv h20
  · exact heavy_few h nv hx (by omega) hbig
end Go.Proofs.Ytamdbfkofdjmlaa.opr
