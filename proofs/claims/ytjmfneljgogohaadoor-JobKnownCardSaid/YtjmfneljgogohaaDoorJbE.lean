/- Whether a node at a place may read these. -/
import Derived.Test.YtjmfneljgogohaaDoorJbD
namespace Go.Proofs.YtjmfneljgogohaaDoor.jb
set_option linter.unusedSimpArgs false
set_option linter.unusedVariables false
open Go.RowKit nam exp

theorem box1 {w W : World} {a : Value} {t : TypeId} (hW : w.alloc (.cells #[a] t) = W) : W.cell? ⟨w.heap.size, 0, none⟩ = some a := by
  subst hW
  exact cell_of (heap_last (w := w) (o := .cells #[a] t) rfl) rfl
theorem lt_of_cell {w : World} {b o : Nat} {v : Value} (h : w.cell? ⟨b, o, none⟩ = some v) : b < w.heap.size := by
  cases hb : w.heap[b]? with
  | none => simp [World.cell?, hb] at h
  | some _ => exact (Array.getElem?_eq_some_iff.1 hb).1
theorem cell_on {w w' : World} {b o : Nat} {v : Value} (h : w.cell? ⟨b, o, none⟩ = some v) (hb : Below w.heap.size w w') : w'.cell? ⟨b, o, none⟩ = some v := (hb.cell (p := ⟨b, o, none⟩) (lt_of_cell h)).trans h
theorem same_at {w : World} {b : Nat} {i : Int} (c : w.cell? ⟨b, 0, none⟩ = some (.int .i64 i)) (y : Int) :
    Calls Tryd.prog 50 #[.int .i64 y, .pointer (some ⟨b, 0, none⟩)] w fun e w' => e = .returned (.bool (decide (y = i))) ∧ Below w.heap.size w w' := by
  go_enter Tryd.func50, Tryd.ntmps50
  go_wp2
  go_ret
  exact ⟨ret_bool (by rw [Bool.eq_iff_iff]; simp), Below.refl _ _⟩
set_option maxHeartbeats 800000 in
set_option maxRecDepth 1000000 in
theorem bad_at {w : World} {v : Value} {l : List Int} {p b1 b2 : Nat} (c1 : w.cell? ⟨b1, 0, none⟩ = some v) (c2 : w.cell? ⟨b2, 0, none⟩ = some (.int .i64 (p : Int))) (h : IRow w v l) (hl : l.length ≤ 1000000) (i : Int) :
    Calls Tryd.prog 48 #[.int .i64 i, .pointer (some ⟨b1, 0, none⟩), .pointer (some ⟨b2, 0, none⟩)] w fun e w' => e = .returned (.bool (badIn l p i)) ∧ Below w.heap.size w w' := by
  obtain ⟨W, hW⟩ : ∃ W, w.alloc (.cells #[.int .i64 i] 3) = W := ⟨_, rfl⟩
  have hwb : Below w.heap.size w W := by rw [← hW]; exact below_made _ _
  have c3 := box1 hW
  have d1 := cell_on c1 hwb
  have d2 := cell_on c2 hwb
  have HPL := Lib.hid (places_int (f := fun y => decide (y = i)) (h.on hwb) hl (enters_of Tryd.func50 (by kernel_rfl) rfl) (cp := #[.pointer (some ⟨w.heap.size, 0, none⟩)])
    (fun j hj w' hb => same_at (cell_on c3 hb) l[j]))
  have HB := Lib.hid hwb
  obtain ⟨m, hm⟩ : ∃ m, (placesI (fun y => decide (y = i)) l 0).length = m := ⟨_, rfl⟩
  have HR : Hid (badIn l p i = (decide (i < 0) || decide ((p : Int) ≤ i) || decide (1 < m))) := Lib.hid (by rw [← hm, placesI_len]; rfl)
  have HM := Lib.hid hm
  rw [HR.out]
  have HC2 := Lib.hid d2
  clear h hwb c1 c2 hm HR
  have hor : i < 0 ∨ (¬ i < 0 ∧ (p : Int) ≤ i) ∨ (¬ i < 0 ∧ ¬ (p : Int) ≤ i) := by omega
  go_enter Tryd.func48, Tryd.ntmps48
  go_wp2_with fail
  refine HPL.out.mono ?_
  rintro e w1 ⟨u, rfl, ho, hb1⟩
  rw [HM.out] at ho
  obtain ⟨a, cap, rfl, _, _⟩ := own_slice ho
  have e3 := cell_on c3 hb1
  have e2 := cell_on d2 hb1
  have HX := Lib.hid (HB.out.trans (hb1.mono HB.out.size))
  clear hb1 ho d1 d2 c3
  rcases hor with h0 | ⟨h0, h1⟩ | ⟨h0, h1⟩
  all_goals
    go_wp2_with fail
    go_ret
    exact ⟨ret_bool (by rw [Bool.eq_iff_iff]; simp; omega), HX.out⟩
set_option maxHeartbeats 800000 in
set_option maxRecDepth 1000000 in
theorem takesIn_any {w : World} {v : Value} {l : List Int} {p : Nat} (a : Ask) (hm : a.many ≤ 1000000) (h : IRow w v l) :
    Calls Tryd.prog 43 #[askV a, v, .int .i64 (p : Int)] w fun e w' => e = .returned (.bool (takesInB a l p)) ∧ Below w.heap.size w w' := by
  obtain ⟨s, c, rfl, h2⟩ := h
  have HROW : Hid (IRow w (.slice s l.length c) l) := Lib.hid ⟨s, c, rfl, h2⟩
  clear h2
  obtain ⟨few, many, ty, acc, least, most, keeps⟩ := a
  obtain ⟨n, hn⟩ : ∃ n, l.length = n := ⟨_, rfl⟩
  have HN := Lib.hid hn
  obtain ⟨W, hW⟩ : ∃ W, ((w.alloc (.cells #[.int .i64 few, .int .i64 many, .int .u8 (ty : Int), .bool acc, .int .i64 least, .int .i64 most, .bool keeps] 54)).alloc (.cells #[.slice s n c] 25)).alloc (.cells #[.int .i64 (p : Int)] 3) = W := ⟨_, rfl⟩
  have hwb : Below w.heap.size w W := by
    rw [← hW]
    exact (((below_made _ _).alloc (by simp) _).alloc (by simp; omega) _)
  obtain ⟨N, hN⟩ : ∃ N, w.heap.size = N := ⟨_, rfl⟩
  have bx := @box7 w _ (.int .i64 few) (.int .i64 many) (.int .u8 (ty : Int)) (.bool acc) (.int .i64 least) (.int .i64 most) (.bool keeps) 54 rfl
  have s1 : (w.alloc (.cells #[.int .i64 few, .int .i64 many, .int .u8 (ty : Int), .bool acc, .int .i64 least, .int .i64 most, .bool keeps] 54)).heap.size = N + 1 := by simp [hN]
  have up : Below (w.alloc (.cells #[.int .i64 few, .int .i64 many, .int .u8 (ty : Int), .bool acc, .int .i64 least, .int .i64 most, .bool keeps] 54)).heap.size (w.alloc (.cells #[.int .i64 few, .int .i64 many, .int .u8 (ty : Int), .bool acc, .int .i64 least, .int .i64 most, .bool keeps] 54)) W := by
    rw [← hW]
    exact (below_made _ _).alloc (by simp) _
  have c0 := cell_on bx.1 up
  have c1 := cell_on bx.2.1 up
  rw [hN] at c0 c1
  have c7 : W.cell? ⟨N + 1, 0, none⟩ = some (.slice s n c) := by
    rw [← hW]
    refine cell_on (w := (w.alloc (.cells #[.int .i64 few, .int .i64 many, .int .u8 (ty : Int), .bool acc, .int .i64 least, .int .i64 most, .bool keeps] 54)).alloc (.cells #[.slice s n c] 25)) ?_ (below_made _ _)
    have := @box1 (w.alloc (.cells #[.int .i64 few, .int .i64 many, .int .u8 (ty : Int), .bool acc, .int .i64 least, .int .i64 most, .bool keeps] 54)) _ (.slice s n c) 25 rfl
    rw [s1] at this
    exact this
  have c8 : W.cell? ⟨N + 1 + 1, 0, none⟩ = some (.int .i64 (p : Int)) := by
    have := @box1 ((w.alloc (.cells #[.int .i64 few, .int .i64 many, .int .u8 (ty : Int), .bool acc, .int .i64 least, .int .i64 most, .bool keeps] 54)).alloc (.cells #[.slice s n c] 25)) W (.int .i64 (p : Int)) 3 hW
    rw [World.size_alloc, s1] at this
    exact this
  have HFI := Lib.hid (fun (hl : n ≤ 1000000) => first_int (f := badIn l p) (HROW.out.on hwb) (by rw [HN.out]; exact hl) (enters_of Tryd.func48 (by kernel_rfl) rfl) (cp := #[.pointer (some ⟨N + 1, 0, none⟩), .pointer (some ⟨N + 1 + 1, 0, none⟩)])
    (fun j hj w' hb => bad_at (cell_on c7 hb) (cell_on c8 hb) (by rw [← HN.out]; exact ((HROW.out.on hwb).on hb)) (by rw [HN.out]; exact hl) l[j]))
  rw [HN.out] at HFI
  obtain ⟨r, hr⟩ : ∃ r, firstI (badIn l p) l 0 = r := ⟨_, rfl⟩
  rw [hr] at HFI
  have HR : Hid (takesInB ⟨few, many, ty, acc, least, most, keeps⟩ l p = (decide (few ≤ (n : Int) ∧ (n : Int) ≤ many) && decide (r < 0))) := Lib.hid (by
    unfold takesInB
    rw [HN.out]
    congr 1
    rw [Bool.eq_iff_iff, List.all_eq_true, decide_eq_true_eq]
    constructor
    · intro h0
      have := (firstI_lt (f := badIn l p) (l := l) (k := 0))
      rw [hr] at this
      by_cases hr0 : r < 0
      · exact hr0
      · obtain ⟨x, hx1, hx2⟩ := this.1 (by omega)
        have := h0 x hx1
        rw [hx2] at this
        cases this
    · intro h0 x hx
      cases hbx : badIn l p x with
      | false => rfl
      | true =>
        have := (firstI_lt (f := badIn l p) (l := l) (k := 0)).2 ⟨x, hx, hbx⟩
        rw [hr] at this
        omega)
  rw [HR.out]
  have HB := Lib.hid hwb
  rw [hn]
  clear hwb up s1 bx hn hr HR HROW HN
  unfold askV
  simp only at hm
  have hor : ((n : Int) < few) ∨ (¬ (n : Int) < few ∧ many < (n : Int)) ∨ (¬ (n : Int) < few ∧ ¬ many < (n : Int)) := by omega
  rcases hor with h0 | ⟨h0, h1⟩ | ⟨h0, h1⟩
  · go_enter Tryd.func43, Tryd.ntmps43
    go_wp2_with fail
    go_ret
    exact ⟨ret_bool (by simp; omega), by first | exact HB.out | exact hN ▸ HB.out⟩
  · go_enter Tryd.func43, Tryd.ntmps43
    go_wp2_with fail
    go_ret
    exact ⟨ret_bool (by simp; omega), by first | exact HB.out | exact hN ▸ HB.out⟩
  · have HF1 := Lib.hid (HFI.out (by omega))
    clear HFI
    go_enter Tryd.func43, Tryd.ntmps43
    go_wp2_with fail
    refine HF1.out.mono ?_
    rintro e w1 ⟨rfl, hb1⟩
    have HX := Lib.hid (HB.out.trans (hb1.mono HB.out.size)); clear hb1
    go_wp2_with fail
    go_ret
    exact ⟨ret_bool (by rw [Bool.eq_iff_iff]; simp; omega), by first | exact HX.out | exact hN ▸ HX.out⟩
end Go.Proofs.YtjmfneljgogohaaDoor.jb
