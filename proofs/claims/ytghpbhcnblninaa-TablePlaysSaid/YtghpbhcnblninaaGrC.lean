/- Slices of whole numbers: slices.Equal, slices.Index, slices.Contains of them. -/
import Derived.Test.YtghpbhcnblninaaGrB
namespace Go.Proofs.Ytghpbhcnblninaa.grp
set_option linter.unusedSimpArgs false
set_option linter.unusedVariables false
open Go.RowKit

/-- A slice of whole numbers. -/
def IRow (w : World) (v : Value) (l : List Int) : Prop :=
  ∃ a c, v = .slice a l.length c ∧ (0 < l.length → ∃ b o, a = some ⟨b, o, none⟩ ∧ b < w.heap.size ∧ ∀ i (h : i < l.length), w.cell? ⟨b, o + i, none⟩ = some (.int .i64 l[i]))
theorem IRow.on {w w' : World} {v : Value} {l : List Int} (h : IRow w v l) (hb : Below w.heap.size w w') : IRow w' v l := by
  obtain ⟨a, c, h1, h2⟩ := h
  refine ⟨a, c, h1, fun hl => ?_⟩
  obtain ⟨b, o, h3, h4, h5⟩ := h2 hl
  exact ⟨b, o, h3, by have := hb.size; omega, fun i hi => (hb.cell (p := ⟨b, o + i, none⟩) h4).trans (h5 i hi)⟩
theorem own_irow {w : World} {B n : Nat} {v : Value} {l : List Int} (h : w.ownsRow B 3 1 v n (l.map intV)) : IRow w v l := by
  have hn : n = l.length := by have := h.1; simpa using this.symm
  subst hn
  rcases own_cases h with ⟨rfl, h0⟩ | ⟨g, cap, rfl, _, _, _, hlt, hc⟩
  · exact ⟨none, 0, by rw [h0], fun h1 => by omega⟩
  · exact ⟨_, cap, rfl, fun _ => ⟨g, 0, rfl, hlt, fun i hi => by rw [Nat.zero_add]; exact hc i _ (by simp [hi, intV])⟩⟩
/-- A row that was just made of these numbers. -/
theorem irow_new (w : World) (l : List Int) (n c : Nat) (hn : l.length = n) (t : TypeId) : IRow (w.alloc (.cells (l.map intV).toArray t)) (.slice (some ⟨w.heap.size, 0, none⟩) n c) l := by
  subst hn
  refine ⟨_, c, rfl, fun _ => ⟨_, 0, rfl, by simp, fun i hi => ?_⟩⟩
  have hh : (w.alloc (.cells (l.map intV).toArray t)).heap[w.heap.size]? = some (.cells (l.map intV).toArray t (0, 0)) := heap_alloc_new w _
  rw [cell_of_row _ w.heap.size (0 + i) _ _ _ hh]
  simp [hi, intV]

def EqPost (xs ys : List Int) (w : World) (e : Ending) (w' : World) : Prop := e = .returned (.bool (decide (xs = ys))) ∧ Below w.heap.size w w'
theorem eq_yes {xs ys : List Int} {w w' : World} (h : xs = ys) (hb : Below w.heap.size w w') : EqPost xs ys w (.returned (.bool true)) w' := ⟨by rw [decide_eq_true h], hb⟩
theorem eq_no {xs ys : List Int} {w w' : World} (h : xs ≠ ys) (hb : Below w.heap.size w w') : EqPost xs ys w (.returned (.bool false)) w' := ⟨by rw [decide_eq_false h], hb⟩
def Pre (xs ys : List Int) (k : Nat) : Prop := xs.take k = ys.take k
theorem pre_more {xs ys : List Int} {k : Nat} (h : Pre xs ys k) (hk : k < xs.length) (hk2 : k < ys.length) (he : xs[k] = ys[k]) : Pre xs ys (k + 1) := by
  unfold Pre at h ⊢
  rw [List.take_succ_eq_append_getElem hk, List.take_succ_eq_append_getElem hk2, h, he]
def isP (p : Int) (x : Int) : Bool := decide (p = x)
def firstI (f : Int → Bool) : List Int → Int → Int
  | [], _ => -1
  | x :: l, k => if f x = true then k else firstI f l (k + 1)
theorem firstI_drop {f : Int → Bool} {l : List Int} {k : Nat} (hk : k < l.length) : firstI f (l.drop k) k = if f l[k] = true then (k : Int) else firstI f (l.drop (k + 1)) (k + 1) := by
  rw [List.drop_eq_getElem_cons hk]; rfl
theorem firstI_lt {f : Int → Bool} : ∀ {l : List Int} {k : Int}, 0 ≤ k → (0 ≤ firstI f l k ↔ ∃ x ∈ l, f x = true)
  | [], k, _ => by simp [firstI]
  | x :: l, k, hk => by
    have ih := firstI_lt (f := f) (l := l) (k := k + 1) (by omega)
    simp only [firstI]
    by_cases hx : f x = true
    · rw [if_pos hx]
      exact ⟨fun _ => ⟨x, by simp, hx⟩, fun _ => hk⟩
    · rw [if_neg hx, ih]
      constructor
      · rintro ⟨y, h1, h2⟩
        exact ⟨y, by simp [h1], h2⟩
      · rintro ⟨y, h1, h2⟩
        rcases List.mem_cons.1 h1 with rfl | h1
        · exact absurd h2 hx
        · exact ⟨y, h1, h2⟩
set_option maxHeartbeats 800000 in
set_option maxRecDepth 1000000 in
theorem index_any {w : World} {v : Value} {l : List Int} (h : IRow w v l) (hl : l.length ≤ 1000000) (p : Int) :
    Calls Try.prog 59 #[v, .int .i64 p] w fun e w' => e = .returned (.int .i64 (firstI (isP p) l 0)) ∧ w' = w := by
  obtain ⟨a, c, rfl, h2⟩ := h
  have HC := Lib.hid h2
  clear h2
  obtain ⟨n, hn⟩ : ∃ n, l.length = n := ⟨_, rfl⟩
  have HN := Lib.hid hn
  rw [hn] at hl
  rw [hn]
  clear hn
  go_enter Try.func59, Try.ntmps59
  go_wp2_with fail
  go_loopg [8] n (fun g v8 wr => ∃ k : Nat, k + g = n ∧ v8 = .int .i64 k ∧ firstI (isP p) (l.drop k) k = firstI (isP p) l 0 ∧ wr = w)
  case atStart => exact ⟨0, by omega, rfl, rfl, rfl⟩
  case round =>
    obtain ⟨k, hk, rfl, hf, rfl⟩ := hrel
    have HF := Lib.hid hf; clear hf
    by_cases hkn : k < n
    · have hkl : k < l.length := by rw [HN.out]; exact hkn
      have hki : (k : Int) < (n : Int) := by omega
      obtain ⟨b, o, rfl, _, hc⟩ := HC.out (by omega)
      have hc := hc k hkl
      have HD := Lib.hid (firstI_drop (f := isP p) (k := k) hkl)
      obtain ⟨x, hx⟩ : ∃ x, l[k] = x := ⟨_, rfl⟩
      rw [hx] at hc HD
      have HP : Hid (isP p x = decide (p = x)) := Lib.hid rfl
      clear hx hkl hkn
      by_cases hpx : p = x
      · subst hpx
        have HE : Hid (Ending.returned (.int .i64 (k : Int)) = .returned (.int .i64 (firstI (isP p) l 0))) := Lib.hid (by rw [← HF.out, HD.out, HP.out]; simp)
        go_wp2_with fail
        try rw [Exit.noGoto_ret]
        go_ret
        exact ⟨HE.out, rfl⟩
      · have hne : (p == x) = false := by rw [beq_eq_false_iff_ne]; exact hpx
        have HE : Hid (firstI (isP p) (l.drop (k + 1)) (k + 1) = firstI (isP p) l 0) := Lib.hid (by rw [← HF.out, HD.out, HP.out]; simp [hpx])
        go_wp2_with fail
        go_roundg (gk - 1)
        case rel => exact ⟨k + 1, by omega, by go_num, HE.out, rfl⟩
        case measure => omega
    · have hki : ¬ (k : Int) < (n : Int) := by omega
      have HE : Hid (Ending.returned (.int .i64 (-1)) = .returned (.int .i64 (firstI (isP p) l 0))) := Lib.hid (by rw [← HF.out, List.drop_eq_nil_of_le (by rw [HN.out]; omega)]; rfl)
      clear hkn
      go_wp2_with fail
      try rw [Exit.noGoto_ret]
      go_ret
      exact ⟨HE.out, rfl⟩
theorem contains_any {w : World} {v : Value} {l : List Int} (h : IRow w v l) (hl : l.length ≤ 1000000) (p : Int) :
    Calls Try.prog 43 #[v, .int .i64 p] w fun e w' => e = .returned (.bool (decide (p ∈ l))) ∧ w' = w := by
  have HI := Lib.hid (index_any h hl p)
  have HR : Hid (decide (p ∈ l) = decide (0 ≤ firstI (isP p) l 0)) := Lib.hid (by
    rw [Bool.eq_iff_iff, decide_eq_true_eq, decide_eq_true_eq, firstI_lt (by omega)]
    constructor
    · exact fun h => ⟨p, h, by simp [isP]⟩
    · rintro ⟨x, h1, h2⟩
      have : p = x := by simpa [isP] using h2
      rw [this]; exact h1)
  obtain ⟨r, hr⟩ : ∃ r, firstI (isP p) l 0 = r := ⟨_, rfl⟩
  rw [hr] at HI HR
  rw [HR.out]
  clear h hr HR
  go_enter Try.func43, Try.ntmps43
  go_wp2_with fail
  refine HI.out.mono ?_
  rintro e w1 ⟨rfl, rfl⟩
  go_wp2_with fail
  go_ret
  exact ⟨ret_bool (by simp), rfl⟩
end Go.Proofs.Ytghpbhcnblninaa.grp
