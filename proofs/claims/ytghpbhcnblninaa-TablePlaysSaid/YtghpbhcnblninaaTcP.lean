/- Slices of the reference's rows. -/
import Derived.Test.YtghpbhcnblninaaTcH
namespace Go.Proofs.Ytghpbhcnblninaa.tbl
set_option linter.unusedSimpArgs false
set_option linter.unusedVariables false
open Go.RowKit
theorem cells3_take (rs : List Rw) (k : Nat) : cells3 (rs.take k) = (cells3 rs).take (k * 3) := by
  induction rs generalizing k with
  | nil => simp [cells3_nil]
  | cons r rs ih =>
    cases k with
    | zero => simp [cells3_nil]
    | succ k =>
      have h3 : r.cells.length = 3 := rfl
      rw [List.take_succ_cons, cells3_cons, cells3_cons, ih, List.take_append, h3, List.take_of_length_le (l := r.cells) (by rw [h3]; omega), show (k + 1) * 3 - 3 = k * 3 by omega]
theorem cells3_drop (rs : List Rw) (k : Nat) : cells3 (rs.drop k) = (cells3 rs).drop (k * 3) := by
  induction rs generalizing k with
  | nil => simp [cells3_nil]
  | cons r rs ih =>
    cases k with
    | zero => simp
    | succ k =>
      have h3 : r.cells.length = 3 := rfl
      rw [List.drop_succ_cons, cells3_cons, ih, List.drop_append, h3, List.drop_of_length_le (l := r.cells) (by rw [h3]; omega), show (k + 1) * 3 - 3 = k * 3 by omega, List.nil_append]
theorem Sr.take {w : World} {a : Option Addr} {n c : Nat} {rs : List Rw} (h : Sr w (.slice a n c) rs) (k : Nat) (hk : k ≤ rs.length) : Sr w (.slice a k c) (rs.take k) := by
  obtain ⟨a', c', h1, h2, h3, h4, h5⟩ := h
  injection h1 with e1 e2 e3
  subst e1 e3
  have hl : (rs.take k).length = k := by rw [List.length_take]; omega
  refine ⟨a, c, by rw [hl], h2, by omega, h4, fun h0 => ?_⟩
  obtain ⟨g, o, cur, fr, r1, r2, r3⟩ := h5 (by omega)
  refine ⟨g, o, cur, fr, r1, r2, fun j u hu => r3 j u ?_⟩
  rw [cells3_take, List.getElem?_take] at hu
  split at hu
  · exact hu
  · cases hu
theorem Sr.drop {w : World} {g o n c : Nat} {rs : List Rw} (h : Sr w (.slice (some ⟨g, o, none⟩) n c) rs) (k : Nat) (hk : k ≤ rs.length) : Sr w (.slice (some ⟨g, o + k * 3, none⟩) (n - k) (c - k)) (rs.drop k) := by
  obtain ⟨a', c', h1, h2, h3, h4, h5⟩ := h
  injection h1 with e1 e2 e3
  subst e1 e2 e3
  refine ⟨_, c - k, by rw [List.length_drop], (fun e => by cases e), by rw [List.length_drop]; omega, by omega, fun h0 => ?_⟩
  rw [List.length_drop] at h0
  obtain ⟨g', o', cur, fr, r1, r2, r3⟩ := h5 (by omega)
  obtain ⟨rfl, rfl⟩ : g = g' ∧ o = o' := by
    have := Option.some.inj r1
    injection this with e1 e2 e3
    exact ⟨e1, e2⟩
  refine ⟨g, o + k * 3, cur, fr, rfl, r2, fun j u hu => ?_⟩
  rw [cells3_drop, List.getElem?_drop] at hu
  rw [show o + k * 3 + j = o + (k * 3 + j) by omega]
  exact r3 _ _ hu
theorem Sr.caps {w : World} {a : Option Addr} {n c : Nat} {rs : List Rw} (h : Sr w (.slice a n c) rs) : n = rs.length ∧ rs.length ≤ c ∧ c ≤ maxLen ∧ (a = none → c = 0) := by
  obtain ⟨a', c', h1, h2, h3, h4, h5⟩ := h
  injection h1 with e1 e2 e3
  subst e1 e3
  exact ⟨e2, h3, h4, h2⟩
theorem Sr.zero {w : World} (a : Option Addr) (c : Nat) (h1 : a = none → c = 0) (h2 : c ≤ maxLen) : Sr w (.slice a 0 c) [] := ⟨a, c, rfl, h1, Nat.zero_le _, h2, fun h => by simp at h⟩
theorem info89s : (Try.prog.info? 89).map (·.size) = some 3 := by kernel_rfl
theorem size89 (W : World) : (sizeOf 89).run Try.prog W = .ok 3 W := by kernel_rfl
theorem elem43 : Try.prog.elem 43 = 89 := by kernel_rfl
theorem Sr.addr {w : World} {a : Option Addr} {n c : Nat} {rs : List Rw} (h : Sr w (.slice a n c) rs) : rs = [] ∨ ∃ g o, a = some ⟨g, o, none⟩ := by
  by_cases h0 : rs = []
  · exact .inl h0
  · obtain ⟨a', c', h1, h2, h3, h4, h5⟩ := h
    injection h1 with e1 e2 e3
    subst e1
    obtain ⟨g, o, cur, fr, r1, _, _⟩ := h5 (List.length_pos_iff.2 h0)
    exact .inr ⟨g, o, r1⟩
/-- The first k rows. -/
theorem slice_head {w : World} {a : Option Addr} {n c : Nat} {rs : List Rw} (h : Sr w (.slice a n c) rs) (k : Nat) (hk : k ≤ rs.length) :
    ∃ a', (∀ W, (Instr.sliceAt 43 (.slice a n c) none (some (.int .i64 k)) none).run Try.prog W = .ok (.slice a' k c) W) ∧ ∀ W, Rows3 w W → Sr W (.slice a' k c) (rs.take k) := by
  obtain ⟨rfl, hc1, hc2, hc3⟩ := h.caps
  have hkc : (k : Int) ≤ (c : Int) := by omega
  have hrun : ∀ W, (Instr.sliceAt 43 (.slice a rs.length c) none (some (.int .i64 k)) none).run Try.prog W = .ok (sliced a 0 k c 3) W := fun W => by
    rw [run_sliceAt_slice _ _ _ _ _ _ (by rw [elem43]; exact Try.underlying43), run_slice_h _ _ _ _ _ (by rw [elem43]; exact Try.underlying43) .i64 k (by omega) hkc, elem43, size89]
    rfl
  by_cases h0 : c = 0
  · subst h0
    obtain rfl : k = 0 := by omega
    refine ⟨a, fun W => by rw [hrun]; simp [sliced], fun W _ => ?_⟩
    rw [List.take_zero]
    exact .zero _ _ (fun _ => rfl) hc2
  · have hne : ¬ (c = 0) := h0
    refine ⟨a.map (·.add (0 * 3)), fun W => by rw [hrun]; simp [sliced, hne], fun W hr => ?_⟩
    rcases h.addr with rfl | ⟨g, o, rfl⟩
    · obtain rfl : k = 0 := by simpa using hk
      refine .zero _ _ (fun e => hc3 ?_) hc2
      cases a with
      | none => rfl
      | some => cases e
    · have hadd : ((some (⟨g, o, none⟩ : Addr)).map (·.add (0 * 3))) = some ⟨g, o, none⟩ := by simp [Addr.add]
      rw [hadd]
      exact (h.take k hk).keep hr
/-- The rows from k on. -/
theorem slice_tail {w : World} {a : Option Addr} {n c : Nat} {rs : List Rw} (h : Sr w (.slice a n c) rs) (k : Nat) (hk : k ≤ rs.length) :
    ∃ a', (∀ W, (Instr.sliceAt 43 (.slice a n c) (some (.int .i64 k)) none none).run Try.prog W = .ok (.slice a' (n - k) (c - k)) W) ∧ ∀ W, Rows3 w W → Sr W (.slice a' (n - k) (c - k)) (rs.drop k) := by
  obtain ⟨rfl, hc1, hc2, hc3⟩ := h.caps
  have hkc : (k : Int) ≤ (rs.length : Int) := by omega
  have hrun : ∀ W, (Instr.sliceAt 43 (.slice a rs.length c) (some (.int .i64 k)) none none).run Try.prog W = .ok (sliced a k rs.length c 3) W := fun W => by
    rw [run_sliceAt_slice _ _ _ _ _ _ (by rw [elem43]; exact Try.underlying43), run_slice_l _ _ _ _ _ (by rw [elem43]; exact Try.underlying43) .i64 k (by omega) (by omega), elem43, size89]
    rfl
  by_cases h0 : c = k
  · subst h0
    refine ⟨a, fun W => by rw [hrun]; simp [sliced], fun W _ => ?_⟩
    have hl : rs.length = c := by omega
    rw [List.drop_of_length_le (by omega), hl, Nat.sub_self]
    exact .zero _ _ (fun _ => rfl) (by unfold maxLen; omega)
  · have hne : ¬ (c = k) := h0
    refine ⟨a.map (·.add (k * 3)), fun W => by rw [hrun]; simp [sliced, hne], fun W hr => ?_⟩
    rcases h.addr with rfl | ⟨g, o, rfl⟩
    · obtain rfl : k = 0 := by simpa using hk
      simp only [List.drop_zero, Nat.sub_zero, List.length_nil]
      refine .zero _ _ (fun e => hc3 ?_) hc2
      cases a with
      | none => rfl
      | some => cases e
    · have hadd : ((some (⟨g, o, none⟩ : Addr)).map (·.add (k * 3))) = some ⟨g, o + k * 3, none⟩ := by
        simp only [Option.map_some, Addr.add]; split <;> simp_all
      rw [hadd]
      exact (h.drop k hk).keep hr
/-- What an append to a row of rows leaves. -/
theorem rows2_grown {W w' : World} {B n : Nat} {v : Value} {xs : List Value} (h : W.ownsRow B 89 3 v n xs) (hg : W.grownBy w' v.ownBlock) : Rows2 W w' :=
  .of_only (F := fun j => v.ownBlock = some j) (.of_grown hg (fun j hj => hj)) (fun g cur fr hF he => by
    obtain ⟨cur', h2, _⟩ := ref.own_blk3 h hF
    rw [h2] at he; cases he)
theorem keep_grown {W w' : World} {B n : Nat} {v : Value} {xs : List Value} (h : W.ownsRow B 89 3 v n xs) (hg : W.grownBy w' v.ownBlock) (j : Nat) (ob : Obj) (hj : W.heap[j]? = some ob) (hno : ∀ cur : Array Value, ob ≠ Obj.cells cur 89 (0, 0)) : w'.heap[j]? = some ob := by
  rw [hg.block j (lt_of_get hj) (fun e => by
    obtain ⟨cur, h2, _⟩ := ref.own_blk3 h e.symm
    rw [hj] at h2
    exact hno cur (Option.some.inj h2))]
  exact hj
end Go.Proofs.Ytghpbhcnblninaa.tbl
