/- What came in: rows of records, rows of rows; expressions, however deep; how many they are. -/
import Derived.Test.YtamdbfkofdjmlaaOqA
import Derived.Deep.Slices
import Derived.ChangeArms
namespace Go.Proofs.Ytamdbfkofdjmlaa.opr
set_option linter.unusedSimpArgs false
set_option linter.unusedVariables false
open Go.RowKit
attribute [local go_sem ↓] Go.wp_at_zero Go.wp_at_succ
open Go.Proofs.Ytamdbfkofdjmlaa.tbl (Only lt_of_get)
open Go.Proofs.Ytamdbfkofdjmlaa.grp (below_on' below_made)
section
variable {H : Type} {enc : TypeId × Value → H} {w : World} {spare : Nat → Bool} {held : Bool}
theorem c3 : Try.prog.cellsOf 3 = 1 := by kernel_rfl
theorem c2 : Try.prog.cellsOf 2 = 1 := by kernel_rfl
theorem c32 : Try.prog.cellsOf 32 = 3 := by kernel_rfl
theorem c22 : Try.prog.cellsOf 22 = 1 := by kernel_rfl
theorem c5 : Try.prog.cellsOf 5 = 1 := by kernel_rfl
theorem c27 : Try.prog.cellsOf 27 = 3 := by kernel_rfl
theorem c25 : Try.prog.cellsOf 25 = 1 := by kernel_rfl
set_option maxRecDepth 100000 in
theorem one_rec {n : Nat} {cs : List Value} {x : DataW H × List MemPlace} (h : DataW.trod enc Try.prog w 0 spare held n 32 cs = some x) : ∃ r : Rc, cs = rcC r := by
  obtain ⟨xs, k, _, _, hl, hxl, hf⟩ := DataW.trod_struct Try.underlying32 h
  rw [c32] at hl
  match cs, hl, xs, hxl with
  | [v0, v1, v2], _, [y0, y1, y2], _ =>
    have g0 := hf 0 _ rfl
    have g1 := hf 1 _ rfl
    have g2 := hf 2 _ rfl
    simp [c2] at g0 g1 g2
    obtain ⟨a0, e0, _, _⟩ := DataW.trod_int Try.underlying2 g0
    obtain ⟨a1, e1, _, _⟩ := DataW.trod_int Try.underlying2 g1
    obtain ⟨a2, e2, _, _⟩ := DataW.trod_int Try.underlying2 g2
    simp at e0 e1 e2
    subst e0 e1 e2
    exact ⟨(a0, a1, a2), rfl⟩
theorem spot_none {y : Addr} {v : Value} (h : w.cell? (y.add 0) = some v) : ∃ g o, y = ⟨g, o, none⟩ ∧ g < w.heap.size := by
  obtain ⟨b, off, spot⟩ := y
  have hspot : spot = none := by simpa [Addr.add] using World.cell?_spot h
  subst hspot
  refine ⟨b, off, rfl, ?_⟩
  have := World.block_lt_of_cell? w _ h
  have hadd : ∀ k, (⟨b, off, none⟩ : Addr).add k = ⟨b, off + k, none⟩ := fun k => by unfold Addr.add; split <;> simp_all
  rw [hadd] at this
  exact this
theorem add_plain (b off k : Nat) : (⟨b, off, none⟩ : Addr).add k = ⟨b, off + k, none⟩ := by unfold Addr.add; split <;> simp_all
set_option maxRecDepth 100000 in
theorem sr_in {fuel : Nat} {v : Value} {x : DataW H × List MemPlace} (h : DataW.trod enc Try.prog w 0 spare held fuel 22 [v] = some x) : ∃ l : List Rc, Sr w v l ∧ ((x.1 = .nil ∧ l = []) ∨ ∃ el sp, x.1 = .slice el sp ∧ el.length = l.length) := by
  rcases Go.Deep.open_slice Try.underlying22 h with ⟨hcs, hx0⟩ | ⟨y, len, c, m, n, D, Pl, hcs, _, hl, hm, hmm, hx0, hx⟩
  · simp at hcs
    subst hcs
    exact ⟨[], Sr.nil w, .inl ⟨by rw [hx0], rfl⟩⟩
  · simp at hcs
    subst hcs
    have hlm : len ≤ m := by rw [hmm]; split <;> omega
    rw [c32] at hx
    have each : ∀ i, i < m → ∃ r : Rc, ∀ j v, (rcC r)[j]? = some v → w.cell? (y.add (i * 3 + j)) = some v := fun i hi => by
      obtain ⟨cs, h1, h2⟩ := hx i hi
      obtain ⟨r, rfl⟩ := one_rec h2
      obtain ⟨_, _, hcell⟩ := World.cells?_some h1
      refine ⟨r, fun j v hj => ?_⟩
      have hj3 : j < 3 := (List.getElem?_eq_some_iff.1 hj).1
      have := hcell j hj3
      rw [Go.Deep.add_add] at this
      rw [this, hj]
    obtain ⟨q, hq⟩ := Go.Deep.choose_lt (α := Rc) (p := fun i r => ∀ j v, (rcC r)[j]? = some v → w.cell? (y.add (i * 3 + j)) = some v) each
    refine ⟨(List.range len).map q, ⟨some y, c, by simp, (fun e => by cases e), by simpa using hl, hm, fun h0 => ?_⟩, .inr ⟨_, _, by rw [hx0], by simp⟩⟩
    have hlen : 0 < len := by simpa using h0
    obtain ⟨g, o, rfl, hg⟩ := spot_none (hq 0 (by omega) 0 _ rfl)
    refine ⟨g, o, rfl, hg, fun j u hu => ?_⟩
    obtain ⟨k, i, r, rfl, hi, hk, hr⟩ := cells_at hu
    rw [List.getElem?_map] at hk
    have hkl : k < len := by
      rcases Nat.lt_or_ge k len with h1 | h1
      · exact h1
      · rw [List.getElem?_eq_none (by simpa using h1)] at hk; cases hk
    rw [List.getElem?_range hkl] at hk
    injection hk with hk
    have := hq k (by omega) i u (by rw [hk]; exact hr)
    rw [add_plain] at this
    exact this
set_option maxRecDepth 100000 in
theorem lr_in {fuel : Nat} {v : Value} {x : DataW H × List MemPlace} (h : DataW.trod enc Try.prog w 0 spare held fuel 38 [v] = some x) : ∃ vs ls, Lr w v vs ls ∧ ls.length ≤ maxLen ∧ ((x.1 = .nil ∧ ls = []) ∨ ∃ el sp, x.1 = .slice el sp ∧ ∀ l ∈ ls, l = [] ∨ ∃ el' sp', DataW.slice el' sp' ∈ el ∧ el'.length = l.length) := by
  rcases Go.Deep.open_slice1 Try.underlying38 c22 h with ⟨hcs, hx0⟩ | ⟨y, len, c, m, n, V, D, Pl, hcs, _, hl, hm, hmm, hx0, hx⟩
  · simp at hcs
    subst hcs
    exact ⟨[], [], ⟨none, 0, rfl, rfl, Nat.le_refl _, fun h => by simp at h, fun i x l hx _ => by simp at hx⟩, by simp, .inl ⟨by rw [hx0], rfl⟩⟩
  · simp at hcs
    subst hcs
    have hlm : len ≤ m := by rw [hmm]; split <;> omega
    have each : ∀ i, i < m → ∃ l : List Rc, Sr w (V i) l ∧ ((D i = .nil ∧ l = []) ∨ ∃ el sp, D i = .slice el sp ∧ el.length = l.length) := fun i hi => sr_in (hx i hi).2
    obtain ⟨q, hq⟩ := Go.Deep.choose_lt (α := List Rc) (p := fun i l => Sr w (V i) l ∧ ((D i = .nil ∧ l = []) ∨ ∃ el sp, D i = .slice el sp ∧ el.length = l.length)) each
    refine ⟨(List.range len).map V, (List.range len).map q, ⟨some y, c, by simp, by simp, by simpa using hl, fun h0 => ?_, fun i x l h1 h2 => ?_⟩, by simp; omega, .inr ⟨_, _, by rw [hx0], fun l hl => ?_⟩⟩
    · have hlen : 0 < len := by simpa using h0
      obtain ⟨g, o, rfl, hg⟩ := spot_none (hx 0 (by omega)).1
      refine ⟨g, o, rfl, hg, fun i x hi => ?_⟩
      rw [List.getElem?_map] at hi
      have hil : i < len := by
        rcases Nat.lt_or_ge i len with h1 | h1
        · exact h1
        · rw [List.getElem?_eq_none (by simpa using h1)] at hi; cases hi
      rw [List.getElem?_range hil] at hi
      injection hi with hi
      have := (hx i (by omega)).1
      rw [add_plain, hi] at this
      exact this
    · rw [List.getElem?_map] at h1 h2
      have hil : i < len := by
        rcases Nat.lt_or_ge i len with h3 | h3
        · exact h3
        · rw [List.getElem?_eq_none (by simpa using h3)] at h1; cases h1
      rw [List.getElem?_range hil] at h1 h2
      injection h1 with h1
      injection h2 with h2
      subst h1 h2
      exact (hq i (by omega)).1
    · obtain ⟨i, hi, rfl⟩ := List.mem_map.1 hl
      have hi := List.mem_range.1 hi
      rcases (hq i (by omega)).2 with ⟨_, h2⟩ | ⟨el, sp, h1, h2⟩
      · exact .inl h2
      · exact .inr ⟨el, sp, List.mem_map.2 ⟨i, List.mem_range.2 hi, h1⟩, h2⟩
/-- The bytes that a row, or a row of rows, may be. -/
theorem weights_all {P : Program} {e : TypeId} {d : DataW H} : ∀ {l : List (DataW H)}, d ∈ l → ∀ x ∈ d.weights P e, x ∈ DataW.weightsAll P e l
  | a :: l, h, x, hx => by
    unfold DataW.weightsAll
    rcases List.mem_cons.1 h with rfl | h
    · exact List.mem_append_left _ hx
    · exact List.mem_append_right _ (weights_all h x hx)
theorem weights_each {P : Program} {t : TypeId} {d : DataW H} : ∀ {ts : List TypeId} {ds : List (DataW H)} {j : Nat}, ts[j]? = some t → ds[j]? = some d → ∀ x ∈ d.weights P t, x ∈ DataW.weightsEach P ts ds
  | [], _, _, h, _, _, _ => by simp at h
  | _ :: _, [], _, _, h, _, _ => by simp at h
  | t' :: ts, d' :: ds, 0, h1, h2, x, hx => by
    injection h1 with h1
    injection h2 with h2
    subst h1 h2
    unfold DataW.weightsEach
    exact List.mem_append_left _ hx
  | t' :: ts, d' :: ds, j + 1, h1, h2, x, hx => by
    unfold DataW.weightsEach
    exact List.mem_append_right _ (weights_each (j := j) (by simpa using h1) (by simpa using h2) x hx)
theorem bytes32 : Try.prog.bytesOf 32 = 24 := by kernel_rfl
theorem row_small {ts : List TypeId} {ds : List (DataW H)} (h : (DataW.weightsEach Try.prog ts ds).all (· ≤ reachBytes) = true) {j : Nat} {d : DataW H} {l : List Rc} (ht : ts[j]? = some 22) (hd : ds[j]? = some d)
    (hx : (d = .nil ∧ l = []) ∨ ∃ el sp, d = .slice el sp ∧ el.length = l.length) : l.length ≤ 140737488355328 := by
  rcases hx with ⟨_, rfl⟩ | ⟨el, sp, rfl, hl⟩
  · exact Nat.zero_le _
  · have h1 : (el.length + sp.length) * Try.prog.bytesOf 32 ∈ (DataW.slice el sp).weights Try.prog 22 := by
      unfold DataW.weights
      rw [Try.underlying22]
      exact List.mem_cons_self ..
    have h2 := of_decide_eq_true (List.all_eq_true.1 h _ (weights_each ht hd _ h1))
    rw [bytes32] at h2
    unfold reachBytes at h2
    omega
theorem rows_small {ts : List TypeId} {ds : List (DataW H)} (h : (DataW.weightsEach Try.prog ts ds).all (· ≤ reachBytes) = true) {j : Nat} {d : DataW H} {ls : List (List Rc)} (ht : ts[j]? = some 38) (hd : ds[j]? = some d)
    (hx : (d = .nil ∧ ls = []) ∨ ∃ el sp, d = .slice el sp ∧ ∀ l ∈ ls, l = [] ∨ ∃ el' sp', DataW.slice el' sp' ∈ el ∧ el'.length = l.length) : ∀ l ∈ ls, l.length ≤ 140737488355328 := by
  rcases hx with ⟨_, rfl⟩ | ⟨el, sp, rfl, hl⟩
  · intro l hl; cases hl
  · intro l hm
    rcases hl l hm with rfl | ⟨el', sp', h1, h2⟩
    · exact Nat.zero_le _
    · have h3 : (el'.length + sp'.length) * Try.prog.bytesOf 32 ∈ (DataW.slice el' sp').weights Try.prog 22 := by
        unfold DataW.weights
        rw [Try.underlying22]
        exact List.mem_cons_self ..
      have h4 : (el'.length + sp'.length) * Try.prog.bytesOf 32 ∈ (DataW.slice el sp).weights Try.prog 38 := by
        unfold DataW.weights
        rw [Try.underlying38]
        exact List.mem_cons_of_mem _ (List.mem_append_left _ (weights_all h1 _ h3))
      have h5 := of_decide_eq_true (List.all_eq_true.1 h _ (weights_each ht hd _ h4))
      rw [bytes32] at h5
      unfold reachBytes at h5
      omega
end
/-- A row of expressions that came in. -/
inductive Cm (w : World) : Value → Prop
  | row (a : Option Addr) (n c : Nat) (op xn : Nat → Int) (V : Nat → Value) (hn : n ≤ maxLen)
      (hc : 0 < n → ∃ g o, a = some ⟨g, o, none⟩ ∧ g < w.heap.size ∧ ∀ i, i < n → w.cell? ⟨g, o + i * 3, none⟩ = some (.int .u8 (op i)) ∧ w.cell? ⟨g, o + i * 3 + 1, none⟩ = some (.int .i64 (xn i)) ∧ w.cell? ⟨g, o + i * 3 + 2, none⟩ = some (V i))
      (hl : ∀ i, i < n → Cm w (V i)) : Cm w (.slice a n c)
theorem Cm.form {w : World} {v : Value} (h : Cm w v) : ∃ a n c, v = .slice a n c := by
  cases h with
  | row a n c => exact ⟨a, n, c, rfl⟩
set_option maxRecDepth 100000 in
theorem cm_in {H : Type} {enc : TypeId × Value → H} {w : World} {spare : Nat → Bool} {held : Bool} : ∀ (fuel : Nat) {v : Value} {x : DataW H × List MemPlace}, DataW.trod enc Try.prog w 0 spare held fuel 25 [v] = some x → Cm w v := by
  intro fuel
  induction fuel using Nat.strongRecOn with
  | _ fuel ih =>
    intro v x h
    rcases DataW.trod_slice Try.underlying25 h with ⟨hcs, _⟩ | ⟨a, len, cap, elems, rest, n, hfu, hcs, -, -, hl, hm, hel, hall, -, -⟩
    · simp at hcs
      subst hcs
      exact .row none 0 0 (fun _ => 0) (fun _ => 0) (fun _ => .slice none 0 0) (Nat.zero_le _) (fun h => by simp at h) (fun i hi => by simp at hi)
    · simp at hcs
      subst hcs
      rw [c27] at hall
      have each : ∀ i, i < len → ∃ p : Int × Int × Value, (w.cell? (a.add (i * 3)) = some (.int .u8 p.1) ∧ w.cell? (a.add (i * 3 + 1)) = some (.int .i64 p.2.1) ∧ w.cell? (a.add (i * 3 + 2)) = some p.2.2) ∧ Cm w p.2.2 := fun i hi => by
        have h1 := hall i hi
        rw [List.getElem?_eq_getElem (by omega)] at h1
        obtain ⟨cs', h2, h3⟩ := Option.bind_eq_some_iff.1 h1
        obtain ⟨_, _, hcell⟩ := World.cells?_some h2
        obtain ⟨xs, k, hk, _, hlc, hxl, hf⟩ := DataW.trod_struct Try.underlying27 h3
        rw [c27] at hlc
        match cs', hlc, xs, hxl with
        | [v0, v1, v2], _, [y0, y1, y2], _ =>
          have g0 := hf 0 _ rfl
          have g1 := hf 1 _ rfl
          have g2 := hf 2 _ rfl
          simp [c2, c5, c25] at g0 g1 g2
          obtain ⟨a0, e0, _, _⟩ := DataW.trod_int Try.underlying5 g0
          obtain ⟨a1, e1, _, _⟩ := DataW.trod_int Try.underlying2 g1
          simp at e0 e1
          subst e0 e1
          have d0 := hcell 0 (by omega)
          have d1 := hcell 1 (by omega)
          have d2 := hcell 2 (by omega)
          rw [Go.Deep.add_add] at d0 d1 d2
          exact ⟨(a0, a1, v2), ⟨d0, d1, d2⟩, ih k (by omega) g2⟩
      obtain ⟨q, hq⟩ := Go.Deep.choose_lt (α := Int × Int × Value) (p := fun i p => (w.cell? (a.add (i * 3)) = some (.int .u8 p.1) ∧ w.cell? (a.add (i * 3 + 1)) = some (.int .i64 p.2.1) ∧ w.cell? (a.add (i * 3 + 2)) = some p.2.2) ∧ Cm w p.2.2) each
      refine .row (some a) len cap (fun i => (q i).1) (fun i => (q i).2.1) (fun i => (q i).2.2) (by omega) (fun h0 => ?_) (fun i hi => (hq i hi).2)
      obtain ⟨g, o, rfl, hg⟩ := spot_none (v := .int .u8 (q 0).1) (by have := (hq 0 h0).1.1; rwa [Nat.zero_mul] at this)
      refine ⟨g, o, rfl, hg, fun i hi => ?_⟩
      have := (hq i hi).1
      rw [add_plain, add_plain, add_plain] at this
      rw [Nat.add_assoc, Nat.add_assoc]
      exact this
theorem Cm.under {w w' : World} (hb : Below w.heap.size w w') {v : Value} (h : Cm w v) : Cm w' v := by
  induction h with
  | row a n c op xn V hn hc hl ih =>
    refine .row a n c op xn V hn (fun h0 => ?_) ih
    obtain ⟨g, o, e1, e2, e3⟩ := hc h0
    refine ⟨g, o, e1, Nat.lt_of_lt_of_le e2 hb.size, fun i hi => ?_⟩
    obtain ⟨f1, f2, f3⟩ := e3 i hi
    exact ⟨(hb.cell (p := ⟨g, o + i * 3, none⟩) e2).trans f1, (hb.cell (p := ⟨g, o + i * 3 + 1, none⟩) e2).trans f2, (hb.cell (p := ⟨g, o + i * 3 + 2, none⟩) e2).trans f3⟩
set_option maxHeartbeats 6400000 in
set_option maxRecDepth 1000000 in
theorem size_any {w0 : World} {v : Value} (h : Cm w0 v) : ∀ (w : World), Below w0.heap.size w0 w → ∀ (op xn : Int), Calls Try.prog 23 #[.agg #[.int .u8 op, .int .i64 xn, v]] w fun e w' => ∃ k : Int, e = .returned (.int .i64 k) ∧ 0 ≤ k ∧ k ≤ 2000 ∧ Below w.heap.size w w' := by
  induction h with
  | row a n c op' xn' V hn hc hl ih =>
    intro w hw op xn
    have hb0 := below_made w (.cells #[.int .u8 op, .int .i64 xn, .slice a n c] 27)
    have q2 : (w.alloc (.cells #[.int .u8 op, .int .i64 xn, .slice a n c] 27)).cell? ⟨w.heap.size, 2, none⟩ = some (.slice a n c) := by rw [cell_of_row _ _ _ _ _ _ (Go.heap_alloc_new w _)]; rfl
    have HC := Lib.hid hc
    have HV := Lib.hid (fun i (hi : i < n) => (hl i hi).form)
    have HI := Lib.hid ih
    have HW := Lib.hid (below_on' hw hb0)
    have HB := Lib.hid hb0
    have HR0 : Hid (Below (w.alloc (.cells #[.int .u8 op, .int .i64 xn, .slice a n c] 27)).heap.size (w.alloc (.cells #[.int .u8 op, .int .i64 xn, .slice a n c] 27)) (w.alloc (.cells #[.int .u8 op, .int .i64 xn, .slice a n c] 27))) := Lib.hid (Below.refl _ _)
    have hn1 : (n : Int) ≤ 9223372036854775807 := by unfold maxLen at hn; omega
    clear hc hl ih hw hb0 hn
    go_enter Try.func23, Try.ntmps23
    go_wp2
    obtain ⟨W0, hW0⟩ : ∃ W, w.alloc (.cells #[.int .u8 op, .int .i64 xn, .slice a n c] 27) = W := ⟨_, rfl⟩
    rw [hW0] at HW HB HR0 q2 ⊢
    clear hW0 q2
    go_loopg [3, 9] n (fun g v3 v9 wr => ∃ (i : Nat) (k : Int), v9 = .int .i64 (i : Nat) ∧ v3 = .int .i64 k ∧ i + g = n ∧ 1 ≤ k ∧ k ≤ 4000 ∧ Hid (Below W0.heap.size W0 wr))
    case atStart => exact ⟨0, 1, rfl, rfl, by omega, by omega, by omega, HR0⟩
    case round =>
      clear HR0
      obtain ⟨i, k, rfl, rfl, hi, hk1, hk2, HR⟩ := hrel
      by_cases hlt : i < n
      · have hlt' : (i : Int) < (n : Int) := by omega
        have hi0 : (0 : Int) ≤ (i : Int) := by omega
        obtain ⟨g, o, e1, e2, e3⟩ := HC.out (by omega)
        obtain ⟨f1, f2, f3⟩ := e3 i hlt
        obtain ⟨a2, n2, c2', hV⟩ := HV.out i hlt
        have hw0r := below_on' HW.out HR.out
        have s1 := (hw0r.cell (p := ⟨g, o + i * 3, none⟩) e2).trans f1
        have s2 := (hw0r.cell (p := ⟨g, o + i * 3 + 1, none⟩) e2).trans f2
        have s3 := (hw0r.cell (p := ⟨g, o + i * 3 + 2, none⟩) e2).trans f3
        have HCL := Lib.hid (HI.out i hlt)
        rw [hV] at s3 HCL
        subst e1
        obtain ⟨o', ho'⟩ : ∃ z, op' i = z := ⟨_, rfl⟩
        obtain ⟨x', hx'⟩ : ∃ z, xn' i = z := ⟨_, rfl⟩
        rw [ho'] at s1
        rw [hx'] at s2
        have HII := Lib.hid (And.intro hi hlt)
        have hbx := below_made wr (.cells #[.int .u8 o', .int .i64 x', .slice a2 n2 c2'] 27)
        obtain ⟨t1, t2, t3⟩ : (wr.alloc (.cells #[.int .u8 o', .int .i64 x', .slice a2 n2 c2'] 27)).cell? ⟨wr.heap.size, 0, none⟩ = some (.int .u8 o') ∧ (wr.alloc (.cells #[.int .u8 o', .int .i64 x', .slice a2 n2 c2'] 27)).cell? ⟨wr.heap.size, 1, none⟩ = some (.int .i64 x') ∧ (wr.alloc (.cells #[.int .u8 o', .int .i64 x', .slice a2 n2 c2'] 27)).cell? ⟨wr.heap.size, 2, none⟩ = some (.slice a2 n2 c2') :=
          ⟨by rw [cell_of_row _ _ _ _ _ _ (Go.heap_alloc_new wr _)]; rfl, by rw [cell_of_row _ _ _ _ _ _ (Go.heap_alloc_new wr _)]; rfl, by rw [cell_of_row _ _ _ _ _ _ (Go.heap_alloc_new wr _)]; rfl⟩
        have HCL2 := Lib.hid (HCL.out _ (below_on' hw0r hbx) o' x')
        have HBX := Lib.hid (below_on' HR.out hbx)
        clear e3 f1 f2 f3 hV hw0r ho' hx' hi hlt hbx HCL e2
        by_cases hk3 : k < 2000
        · go_wp2_with fail
          (with_reducible refine HCL2.out.mono ?_)
          rintro e w2 ⟨k2, rfl, hk4, hk5, hb2⟩
          have HR2 := Lib.hid (below_on' HBX.out hb2)
          clear hb2
          go_wp2
          go_roundg (n - (i + 1))
          case measure => have := HII.out; omega
          case rel => exact ⟨i + 1, k + k2, rfl, rfl, by have := HII.out; omega, by omega, by omega, HR2⟩
        · go_wp2
          go_roundg (n - (i + 1))
          case measure => have := HII.out; omega
          case rel => exact ⟨i + 1, k, rfl, rfl, by have := HII.out; omega, hk1, hk2, HBX⟩
      · have hlt' : ¬ ((i : Int) < (n : Int)) := by omega
        have HF := Lib.hid (below_on' HB.out HR.out)
        clear hlt hi
        by_cases hk3 : k ≤ 2000
        · go_wp2
          go_ret
          exact ⟨_, rfl, by omega, by omega, HF.out⟩
        · go_wp2
          go_ret
          exact ⟨_, rfl, by omega, by omega, HF.out⟩
end Go.Proofs.Ytamdbfkofdjmlaa.opr
