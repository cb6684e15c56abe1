/- Slices of records' slices; a record put in at a place. -/
import Derived.Test.YtamdbfkofdjmlaaOpW
namespace Go.Proofs.Ytamdbfkofdjmlaa.opr
set_option linter.unusedSimpArgs false
set_option linter.unusedVariables false
open Go.RowKit
open Go.Proofs.Ytamdbfkofdjmlaa.tbl (Only lt_of_get)
open Go.Proofs.Ytamdbfkofdjmlaa.grp (below_on' below_made)
theorem Sr.take {w : World} {a : Option Addr} {n c : Nat} {rs : List Rc} (h : Sr w (.slice a n c) rs) (k : Nat) (hk : k ≤ rs.length) : Sr w (.slice a k c) (rs.take k) := by
  obtain ⟨a', c', h1, h2, h3, h4, h5⟩ := h
  injection h1 with e1 e2 e3
  subst e1 e3
  have hl : (rs.take k).length = k := by rw [List.length_take]; omega
  refine ⟨a, c, by rw [hl], h2, by omega, h4, fun h0 => ?_⟩
  obtain ⟨g, o, r1, r2, r3⟩ := h5 (by omega)
  refine ⟨g, o, r1, r2, fun j u hu => r3 j u ?_⟩
  rw [cellsR_take, List.getElem?_take] at hu
  split at hu
  · exact hu
  · cases hu
theorem Sr.drop {w : World} {g o n c : Nat} {rs : List Rc} (h : Sr w (.slice (some ⟨g, o, none⟩) n c) rs) (k : Nat) (hk : k ≤ rs.length) : Sr w (.slice (some ⟨g, o + k * 3, none⟩) (n - k) (c - k)) (rs.drop k) := by
  obtain ⟨a', c', h1, h2, h3, h4, h5⟩ := h
  injection h1 with e1 e2 e3
  subst e1 e2 e3
  refine ⟨_, c - k, by rw [List.length_drop], (fun e => by cases e), by rw [List.length_drop]; omega, by omega, fun h0 => ?_⟩
  rw [List.length_drop] at h0
  obtain ⟨g', o', r1, r2, r3⟩ := h5 (by omega)
  obtain ⟨rfl, rfl⟩ : g = g' ∧ o = o' := by
    have := Option.some.inj r1
    injection this with e1 e2 e3
    exact ⟨e1, e2⟩
  refine ⟨g, o + k * 3, rfl, r2, fun j u hu => ?_⟩
  rw [cellsR_drop, List.getElem?_drop] at hu
  rw [show o + k * 3 + j = o + (k * 3 + j) by omega]
  exact r3 _ _ hu
theorem Sr.zero {w : World} (a : Option Addr) (c : Nat) (h1 : a = none → c = 0) (h2 : c ≤ maxLen) : Sr w (.slice a 0 c) [] := ⟨a, c, rfl, h1, Nat.zero_le _, h2, fun h => by simp at h⟩
theorem infoRs : (Try.prog.info? 32).map (·.size) = some 3 := by kernel_rfl
theorem sizeR (W : World) : (sizeOf 32).run Try.prog W = .ok 3 W := by kernel_rfl
theorem elemR : Try.prog.elem 22 = 32 := by kernel_rfl
theorem Sr.addr {w : World} {a : Option Addr} {n c : Nat} {rs : List Rc} (h : Sr w (.slice a n c) rs) : rs = [] ∨ ∃ g o, a = some ⟨g, o, none⟩ := by
  by_cases h0 : rs = []
  · exact .inl h0
  · obtain ⟨a', c', h1, h2, h3, h4, h5⟩ := h
    injection h1 with e1 e2 e3
    subst e1
    obtain ⟨g, o, r1, _, _⟩ := h5 (List.length_pos_iff.2 h0)
    exact .inr ⟨g, o, r1⟩
/-- The first k rows. -/
theorem slice_head {w : World} {a : Option Addr} {n c : Nat} {rs : List Rc} (h : Sr w (.slice a n c) rs) (k : Nat) (hk : k ≤ rs.length) :
    ∃ a', (∀ W, (Instr.sliceAt 22 (.slice a n c) none (some (.int .i64 k)) none).run Try.prog W = .ok (.slice a' k c) W) ∧ ∀ W, RowsR w W → Sr W (.slice a' k c) (rs.take k) := by
  obtain ⟨rfl, hc1, hc2, hc3⟩ := h.caps
  have hkc : (k : Int) ≤ (c : Int) := by omega
  have hrun : ∀ W, (Instr.sliceAt 22 (.slice a rs.length c) none (some (.int .i64 k)) none).run Try.prog W = .ok (sliced a 0 k c 3) W := fun W => by
    rw [run_sliceAt_slice _ _ _ _ _ _ (by rw [elemR]; exact Try.underlying22), run_slice_h _ _ _ _ _ (by rw [elemR]; exact Try.underlying22) .i64 k (by omega) hkc, elemR, sizeR]
    rfl
  by_cases h0 : c = 0
  · subst h0
    obtain rfl : k = 0 := by omega
    refine ⟨a, fun W => by rw [hrun]; simp [sliced], fun W _ => ?_⟩
    rw [List.take_zero]
    exact .zero _ _ (fun _ => rfl) hc2
  · have hne : ¬ (c = 0) := h0
    refine ⟨a.map (·.add (0 * 3)), fun W => by rw [hrun]; simp [sliced, hne], fun W hr => ?_⟩
    rcases h.addr with rfl | ⟨g, o, rfl⟩
    · obtain rfl : k = 0 := by simpa using hk
      refine .zero _ _ (fun e => hc3 ?_) hc2
      cases a with
      | none => rfl
      | some => cases e
    · have hadd : ((some (⟨g, o, none⟩ : Addr)).map (·.add (0 * 3))) = some ⟨g, o, none⟩ := by simp [Addr.add]
      rw [hadd]
      exact (h.take k hk).keep hr
/-- The rows from k on. -/
theorem slice_tail {w : World} {a : Option Addr} {n c : Nat} {rs : List Rc} (h : Sr w (.slice a n c) rs) (k : Nat) (hk : k ≤ rs.length) :
    ∃ a', (∀ W, (Instr.sliceAt 22 (.slice a n c) (some (.int .i64 k)) none none).run Try.prog W = .ok (.slice a' (n - k) (c - k)) W) ∧ ∀ W, RowsR w W → Sr W (.slice a' (n - k) (c - k)) (rs.drop k) := by
  obtain ⟨rfl, hc1, hc2, hc3⟩ := h.caps
  have hkc : (k : Int) ≤ (rs.length : Int) := by omega
  have hrun : ∀ W, (Instr.sliceAt 22 (.slice a rs.length c) (some (.int .i64 k)) none none).run Try.prog W = .ok (sliced a k rs.length c 3) W := fun W => by
    rw [run_sliceAt_slice _ _ _ _ _ _ (by rw [elemR]; exact Try.underlying22), run_slice_l _ _ _ _ _ (by rw [elemR]; exact Try.underlying22) .i64 k (by omega) (by omega), elemR, sizeR]
    rfl
  by_cases h0 : c = k
  · subst h0
    refine ⟨a, fun W => by rw [hrun]; simp [sliced], fun W _ => ?_⟩
    have hl : rs.length = c := by omega
    rw [List.drop_of_length_le (by omega), hl, Nat.sub_self]
    exact .zero _ _ (fun _ => rfl) (by unfold maxLen; omega)
  · have hne : ¬ (c = k) := h0
    refine ⟨a.map (·.add (k * 3)), fun W => by rw [hrun]; simp [sliced, hne], fun W hr => ?_⟩
    rcases h.addr with rfl | ⟨g, o, rfl⟩
    · obtain rfl : k = 0 := by simpa using hk
      simp only [List.drop_zero, Nat.sub_zero, List.length_nil]
      refine .zero _ _ (fun e => hc3 ?_) hc2
      cases a with
      | none => rfl
      | some => cases e
    · have hadd : ((some (⟨g, o, none⟩ : Addr)).map (·.add (k * 3))) = some ⟨g, o + k * 3, none⟩ := by
        simp only [Option.map_some, Addr.add]; split <;> simp_all
      rw [hadd]
      exact (h.drop k hk).keep hr
/-- The row that the reference makes of a record and a row. -/
theorem ref_ins {wr : World} {u : Value} {out : List Rc} (h : Sr wr u out) {k : Nat} (hk : k ≤ out.length) (hl : out.length ≤ 1000) (x : Rc) (a : Option Addr) (n c : Nat) (hu : u = .slice a n c) :
    ∃ ah at' v1 w1 v2 w2 v3 w3, (∀ W, (Instr.sliceAt 22 (.slice a n c) none (some (.int .i64 k)) none).run Try.prog W = .ok (.slice ah k c) W) ∧
      (∀ W, (Instr.sliceAt 22 (.slice a n c) (some (.int .i64 k)) none none).run Try.prog W = .ok (.slice at' (n - k) (c - k)) W) ∧
      (∀ ty, (Builtin.append_ #[22, 22] ty #[.slice none 0 0, .slice ah k c]).run Try.prog wr = .ok v1 w1) ∧ Below wr.heap.size wr w1 ∧
      (∀ ty, (Builtin.append_ #[22, 22] ty #[v1, .slice (some ⟨w1.heap.size, 0, none⟩) 1 1]).run Try.prog (w1.alloc (.cells #[.int .i64 x.1, .int .i64 x.2.1, .int .i64 x.2.2] 32)) = .ok v2 w2) ∧
      (∀ ty, (Builtin.append_ #[22, 22] ty #[v2, .slice at' (n - k) (c - k)]).run Try.prog w2 = .ok v3 w3) ∧
      Own w3 wr.heap.size v3 (out.take k ++ x :: out.drop k) ∧ Below wr.heap.size wr w3 := by
  subst hu
  obtain ⟨ah, h1, h2⟩ := slice_head h k hk
  obtain ⟨at', h3, h4⟩ := slice_tail h k hk
  have hs1 := h2 wr (.of_below (Below.refl _ _))
  obtain ⟨v1, w1, r1, o1, g1, b1⟩ := (Own.nil wr wr.heap.size).app hs1 (by simp only [List.length_nil, List.length_take]; omega) (Nat.le_refl _) 0
  have hb1 : Below wr.heap.size wr w1 := (Below.refl _ wr).grown g1 (Nat.le_refl _) b1
  have hb1a := below_on' hb1 (below_made w1 (.cells #[.int .i64 x.1, .int .i64 x.2.1, .int .i64 x.2.2] 32))
  rw [List.nil_append] at o1
  obtain ⟨v2, w2, r2, o2, g2, b2⟩ := (o1.below (below_made w1 _)).app (srR_new w1 x) (by simp only [List.length_take, List.length_cons, List.length_nil]; omega) hb1a.size 0
  have hb2 := hb1a.grown g2 hb1a.size b2
  obtain ⟨v3, w3, r3, o3, g3, b3⟩ := o2.app (h4 w2 (.of_below hb2)) (by simp only [List.length_append, List.length_take, List.length_drop, List.length_cons, List.length_nil]; omega) hb2.size 0
  refine ⟨ah, at', v1, w1, v2, w2, v3, w3, h1, h3, fun _ => r1, hb1, fun _ => r2, fun _ => r3, ?_, hb2.grown g3 hb2.size b3⟩
  rw [List.append_assoc] at o3
  exact o3
end Go.Proofs.Ytamdbfkofdjmlaa.opr
