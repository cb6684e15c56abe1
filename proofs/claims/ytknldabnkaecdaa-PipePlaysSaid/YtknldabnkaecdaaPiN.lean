/- What Bytes answers. -/
import Derived.Test.YtknldabnkaecdaaPiK
namespace Go.Proofs.Ytknldabnkaecdaa.pip
set_option linter.unusedSimpArgs false
set_option linter.unusedVariables false
open Go.RowKit
attribute [local go_sem ↓] Go.wp_at_zero Go.wp_at_succ
open Go.Proofs.Ytknldabnkaecdaa.byt (fits intV txt flat)
def numR (r : Rc) : List Int := [r.1, r.2.1, r.2.2]
def numsTo (m : Ms) (i : Nat) : List Int := [m.1, m.2.1, (m.2.2.length : Int)] ++ (m.2.2.take i).flatMap numR
/-- A message's numbers. -/
def numsM (m : Ms) : List Int := [m.1, m.2.1, (m.2.2.length : Int)] ++ m.2.2.flatMap numR
def fitM (m : Ms) : Prop := fits m.1 ∧ fits m.2.1 ∧ ∀ r ∈ m.2.2, fits r.1 ∧ fits r.2.1 ∧ fits r.2.2
theorem numsTo_all (m : Ms) : numsTo m m.2.2.length = numsM m := by unfold numsTo numsM; rw [List.take_length]
theorem numsTo_succ {m : Ms} {i : Nat} {r : Rc} (h : m.2.2[i]? = some r) : numsTo m (i + 1) = numsTo m i ++ numR r := by
  unfold numsTo
  rw [List.take_add_one, h]
  simp
theorem flatR_len (rs : List Rc) : (rs.flatMap numR).length = 3 * rs.length := by
  induction rs with
  | nil => rfl
  | cons r rs ih => rw [List.flatMap_cons, List.length_append, ih]; simp [numR]; omega
theorem numsTo_len {m : Ms} {i : Nat} (h : i ≤ m.2.2.length) : (numsTo m i).length = 3 + 3 * i := by
  unfold numsTo
  rw [List.length_append, flatR_len, List.length_take, Nat.min_eq_left h]; rfl
theorem numsM_len (m : Ms) : (numsM m).length = 3 + 3 * m.2.2.length := by rw [← numsTo_all, numsTo_len (Nat.le_refl _)]
theorem numsM_fits {m : Ms} (h : fitM m) (hl : m.2.2.length ≤ 1000000) : ∀ n ∈ numsM m, fits n := by
  intro n hn
  unfold numsM at hn
  simp only [List.cons_append, List.nil_append, List.mem_cons, List.mem_flatMap] at hn
  rcases hn with rfl | rfl | rfl | ⟨r, hr, hn⟩
  · exact h.1
  · exact h.2.1
  · exact ⟨by omega, by omega⟩
  · simp only [numR, List.mem_cons, List.not_mem_nil, or_false] at hn
    rcases hn with rfl | rfl | rfl
    · exact (h.2.2 r hr).1
    · exact (h.2.2 r hr).2.1
    · exact (h.2.2 r hr).2.2
theorem cell_three_at (w : World) (x y z : Value) (t : TypeId) (b : Nat) (hb : b = w.heap.size) : ∀ j v, [x, y, z][j]? = some v → (w.alloc (.cells #[x, y, z] t)).cell? ((⟨b, 0, none⟩ : Addr).add j) = some v := by
  subst hb
  intro j v hj
  have hadd : (⟨w.heap.size, 0, none⟩ : Addr).add j = ⟨w.heap.size, j, none⟩ := by unfold Addr.add; split <;> simp_all
  rw [hadd, cell_of_row _ _ _ _ _ _ (Go.heap_alloc_new w _), ← hj]
  match j with
  | 0 | 1 | 2 => rfl
  | (j + 3) => simp
/-- A row of three numbers, made new. -/
theorem own_three (w : World) (B : Nat) (hB : B ≤ w.heap.size) (x y z : Int) : (w.alloc (.cells #[.int .i64 x, .int .i64 y, .int .i64 z] 2)).ownsRow B 2 1 (.slice (some ⟨w.heap.size, 0, none⟩) 3 3) 3 ([x, y, z].map intV) :=
  ⟨rfl, .inr ⟨w.heap.size, 3, _, rfl, hB, Go.heap_alloc_new w _, Nat.le_refl _, by decide, rfl, rfl⟩⟩
/-- A record's own block. -/
def Rx (w : World) (N : Nat) (r : Rc) : Prop := w.heap[N]? = some (.cells #[.int .i64 r.1, .int .i64 r.2.1, .int .i64 r.2.2] 26 (0, 0))
theorem Rx.new (w : World) (r : Rc) : Rx (w.alloc (.cells #[.int .i64 r.1, .int .i64 r.2.1, .int .i64 r.2.2] 26)) w.heap.size r := Go.heap_alloc_new w _
theorem Rx.facts {w : World} {N : Nat} {r : Rc} (h : Rx w N r) : (w.cell? ⟨N, 0, none⟩ = some (.int .i64 r.1) ∧ w.cell? ⟨N, 1, none⟩ = some (.int .i64 r.2.1) ∧ w.cell? ⟨N, 2, none⟩ = some (.int .i64 r.2.2)) ∧ ∀ o, w.frozen? ⟨N, o, none⟩ = false :=
  ⟨⟨by rw [cell_of_row w N 0 _ _ _ h]; rfl, by rw [cell_of_row w N 1 _ _ _ h]; rfl, by rw [cell_of_row w N 2 _ _ _ h]; rfl⟩, fun o => frozen_of_row w N o _ _ h⟩
def setR (w : World) (N : Nat) (r : Rc) : World := ((w.setCell ⟨N, 0, none⟩ (.int .i64 r.1)).setCell ⟨N, 1, none⟩ (.int .i64 r.2.1)).setCell ⟨N, 2, none⟩ (.int .i64 r.2.2)
theorem Rx.set {w : World} {N : Nat} {r : Rc} (h : Rx w N r) (q : Rc) : Rx (setR w N q) N q := by
  unfold Rx setR at *
  have h1 := heap_setCell_same w N 0 _ _ (.int .i64 q.1) h
  have h2 := heap_setCell_same _ N 1 _ _ (.int .i64 q.2.1) h1
  rw [heap_setCell_same _ N 2 _ _ (.int .i64 q.2.2) h2]; rfl
theorem below_setR {B : Nat} {w w' : World} (h : Below B w w') {N : Nat} (hN : B ≤ N) (r : Rc) : Below B w (setR w' N r) :=
  ((h.setCell (p := ⟨N, 0, none⟩) hN _).setCell (p := ⟨N, 1, none⟩) hN _).setCell (p := ⟨N, 2, none⟩) hN _
theorem own_setR {w w' : World} {B e z n N : Nat} {v : Value} {xs : List Value} (h : w.ownsRow B e z v n xs) (hb : Below w.heap.size w w') (hN : w.heap.size ≤ N) (r : Rc) : (setR w' N r).ownsRow B e z v n xs :=
  byt.own_below h (below_setR hb hN r)
def BytesPost (m : Ms) (w : World) (e : Ending) (w' : World) : Prop :=
  e = (if mayB m = true then .returned (.tuple #[.string (txt (flat (numsM m))), .int .i64 0]) else .returned (.tuple #[.string ⟨#[]⟩, .int .i64 2])) ∧ Below w.heap.size w w'
set_option maxHeartbeats 3200000 in
set_option maxRecDepth 1000000 in
theorem bytes_any {v : Value} {m : Ms} (w : World) (hv : MV w v m) (hf : fitM m) (hl : m.2.2.length ≤ 100000) :
    Calls Try.prog 8 #[v] w (BytesPost m w) := by
  obtain ⟨i0, hi, hz0, hz1, hz2⟩ := info_parts byt.info2
  obtain ⟨a, c, rfl, hs⟩ := hv.parts
  have HE : Hid (∀ w', Below w.heap.size w w' → mayB m = false → BytesPost m w (.returned (.tuple #[.string ⟨#[]⟩, .int .i64 2])) w') := Lib.hid (fun w' hb hm => ⟨by rw [hm]; rfl, hb⟩)
  have HG : Hid (∀ w', Below w.heap.size w w' → mayB m = true → BytesPost m w (.returned (.tuple #[.string (txt (flat (numsM m))), .int .i64 0])) w') := Lib.hid (fun w' hb hm => ⟨by rw [if_pos hm], hb⟩)
  have HFT := Lib.hid (numsM_fits hf (by omega))
  have HLN := Lib.hid (numsM_len m)
  have HTO := Lib.hid (numsTo_all m)
  have HSU : Hid (∀ i r, m.2.2[i]? = some r → numsTo m (i + 1) = numsTo m i ++ numR r) := Lib.hid (fun i r h => numsTo_succ h)
  have HZE : Hid (numsTo m 0 = [m.1, m.2.1, (m.2.2.length : Int)]) := Lib.hid (by unfold numsTo; simp)
  obtain ⟨n, hn⟩ : ∃ q, m.2.2.length = q := ⟨_, rfl⟩
  obtain ⟨x, hx⟩ : ∃ q, m.1 = q := ⟨_, rfl⟩
  obtain ⟨y, hy⟩ : ∃ q, m.2.1 = q := ⟨_, rfl⟩
  obtain ⟨rs, hrs⟩ : ∃ q, m.2.2 = q := ⟨_, rfl⟩
  obtain ⟨B, hB⟩ : ∃ q, mayB m = q := ⟨_, rfl⟩
  rw [hn] at HLN HTO HZE hl
  rw [hx, hy] at HZE
  rw [hrs] at HSU hs hn
  have hb0 := below_made w (.cells #[.int .i64 x, .int .i64 y, .slice a n c] 29)
  have hx0 := Bx.new w x y (.slice a n c)
  rw [hx, hy, hrs, hn]
  rw [hn] at hs
  obtain ⟨W0, hW0⟩ : ∃ W, w.alloc (.cells #[.int .i64 x, .int .i64 y, .slice a n c] 29) = W := ⟨_, rfl⟩
  rw [hW0] at hb0 hx0
  have HMAY : Hid (Calls Try.prog 16 #[.agg #[.int .i64 x, .int .i64 y, .slice a n c]] W0 fun e w' => e = .returned (.bool B) ∧ Below W0.heap.size W0 w') := Lib.hid (by
    have := may_any (v := .agg #[.int .i64 x, .int .i64 y, .slice a n c]) (m := m) W0 ⟨.slice a n c, by rw [hx, hy], by rw [hrs]; exact hs.below hb0⟩ (by rw [hrs, hn]; omega)
    rwa [hB] at this)
  have HB0 := Lib.hid hb0
  have HX0 := Lib.hid hx0
  have HS := Lib.hid hs
  have HN := Lib.hid hn
  have hn1 : (n : Int) ≤ 100000 := by omega
  obtain ⟨⟨c0, c1, c2⟩, f0⟩ := hx0.facts
  have HBB := Lib.hid hB
  clear hv hs hb0 hx0 hx hy hrs hn hf hB
  cases B with
  | false =>
    go_enter Try.func8, Try.ntmps8
    go_wp2_with (go_at_call 16; ((with_reducible refine HMAY.out.mono ?_); rintro e W1 ⟨rfl, h1⟩; have HB1 := Lib.hid h1; clear h1))
    go_ret2
    exact HE.out _ (below_on' HB0.out HB1.out) HBB.out
  | true =>
    go_enter Try.func8, Try.ntmps8
    go_upto_region 3 with (go_at_call 16; ((with_reducible refine HMAY.out.mono ?_); rintro e W1 ⟨rfl, h1⟩; have HB1 := Lib.hid h1; have hx1 := HX0.out.below h1; have HX1 := Lib.hid hx1; obtain ⟨⟨d0, d1, d2⟩, g0⟩ := hx1.facts; clear h1 hx1))
    have HO1 := Lib.hid (own_three W1 w.heap.size (by have := HB0.out.size; have := HB1.out.size; omega) x y (n : Int))
    have hb2 := below_made W1 (.cells #[.int .i64 x, .int .i64 y, .int .i64 (n : Int)] 2)
    have hx2 := HX1.out.below hb2
    have HB2 := Lib.hid (below_on' (below_on' HB0.out HB1.out) hb2)
    obtain ⟨W2, hW2⟩ : ∃ W, W1.alloc (.cells #[.int .i64 x, .int .i64 y, .int .i64 (n : Int)] 2) = W := ⟨_, rfl⟩
    rw [hW2] at hb2 hx2 HO1 HB2
    obtain ⟨⟨k0, k1, k2⟩, l0⟩ := hx2.facts
    clear hb2 hx2
    go_wp2_with fail
    go_loopg [4, 21] n (fun g v4 v21 wr => ∃ i : Nat, i + g = n ∧ v21 = .int .i64 i ∧ Hid (wr.ownsRow w.heap.size 2 1 v4 (3 + 3 * i) ((numsTo m i).map intV)) ∧ Hid (Below w.heap.size w wr))
    case atStart => exact ⟨0, by omega, rfl, Lib.hid (by rw [HZE.out]; exact HO1.out), HB2⟩
    case round =>
      clear HB2 HO1 HX1 HX0 hW2 c0 c1 c2 f0 d0 d1 d2 g0 k0 k1 k2 l0
      obtain ⟨i, hig, rfl, HO, HB⟩ := hrel
      cases gk with
      | zero =>
        have hiz : ¬ ((i : Int) < (n : Int)) := by omega
        have hown := HO.out
        rw [show i = n by omega, HTO.out, ← HLN.out] at hown
        obtain ⟨b, cap, rfl, hrd⟩ := byt.own_rd hown
        have HPT := Lib.hid (byt.put_any (numsM m) b cap wr hrd HFT.out (by rw [HLN.out]; omega))
        obtain ⟨q, hq⟩ : ∃ q, (numsM m).length = q := ⟨_, rfl⟩
        rw [hq] at HPT ⊢
        clear hown hrd hq
        go_wp2_with (go_at_call 28; ((with_reducible refine HPT.out.mono ?_); rintro e W7 ⟨rfl, h1⟩; have HB7 := Lib.hid h1; clear h1))
        go_ret2
        exact HG.out _ (below_on' HB.out HB7.out) HBB.out
      | succ g =>
        have hiz : ((i : Int) < (n : Int)) := by omega
        obtain ⟨r, hr⟩ := rec_at (rs := rs) (k := i) (by rw [HN.out]; omega)
        have hsr := HS.out.below HB.out
        rw [← HN.out] at hsr
        obtain ⟨gb, o, c', e1, e2, p1, p2, p3⟩ := hsr.at hr
        injection e1 with e1a e1n e1b
        subst e1a e1b
        have HSX := Lib.hid (HSU.out i r hr)
        have hy := Rx.new wr (0, 0, 0)
        have HY0 := Lib.hid (below_made wr (.cells #[.int .i64 0, .int .i64 0, .int .i64 0] 26))
        obtain ⟨M, hM⟩ : ∃ q, wr.heap.size = q := ⟨_, rfl⟩
        dsimp only at hy
        obtain ⟨W5, hW5⟩ : ∃ W, wr.alloc (.cells #[.int .i64 0, .int .i64 0, .int .i64 0] 26) = W := ⟨_, rfl⟩
        rw [hW5] at hy HY0
        rw [hM] at hy
        have HY := Lib.hid hy
        have HM := Lib.hid hM
        obtain ⟨⟨d0, d1, d2⟩, g0⟩ := hy.facts
        dsimp only at d0 d1 d2
        obtain ⟨r1, r2, r3⟩ := r
        dsimp only at p1 p2 p3
        have HIG := Lib.hid hig
        clear hy e1n e2 hr hsr hig
        go_upto_region 7 with fail
        have hx6 : Rx (setR W5 M (r1, r2, r3)) M (r1, r2, r3) := HY.out.set _
        have hb6 : Below w.heap.size w (setR W5 M (r1, r2, r3)) := below_setR (below_on' HB.out HY0.out) (by have := HB.out.size; rw [HM.out] at this; exact this) _
        have ho6 := own_setR HO.out HY0.out (N := M) (by rw [HM.out]; exact Nat.le_refl _) (r1, r2, r3)
        change Code.wp _ _ _ _ (setR W5 M (r1, r2, r3))
        generalize setR W5 M (r1, r2, r3) = W6 at hx6 hb6 ho6 ⊢
        obtain ⟨⟨m0, m1, m2⟩, _⟩ := hx6.facts
        dsimp only at m0 m1 m2
        have HB6 := Lib.hid hb6
        have HO6 := Lib.hid ho6
        have HLT6 := Lib.hid (fun j hj => (ho6.lt j hj).1)
        have HSZ6 : Hid (∀ o, w.heap.size ≤ (W6.alloc o).heap.size) := Lib.hid (fun o => by rw [World.size_alloc]; have := hb6.size; omega)
        clear hx6 hb6 ho6 p1 p2 p3 d0 d1 d2 g0 hW5 hM HO HB
        have hi3 : (3 + 3 * i + 3) * 8 ≤ 140737488355328 := by omega
        go_wp2_with (at_builtin; refine wpList_append_own _ rfl (.tmp 25) (.tmp 32) 52 rfl w.heap.size 2 i0 (.int .i64 0) 1 8 Try.underlying52 hi hz0 hz1 hz2 rfl (by decide) _ _ _ rfl (HO6.out.alloc _) ⟨_, 0, none⟩ 3 3 [.int .i64 r1, .int .i64 r2, .int .i64 r3] rfl rfl (cell_three_at _ _ _ _ _ _ rfl) (by simp [Value.oneCell']) (by unfold maxLen; omega) hi3 (HSZ6.out _) ?_)
        intro v4 w2 k4 g4 _
        have HO9 : Hid (w2.ownsRow w.heap.size 2 1 v4 (3 + 3 * (i + 1)) ((numsTo m (i + 1)).map intV)) := Lib.hid (by
          rw [HSX.out, List.map_append]
          have h := k4
          rw [show 3 + 3 * i + 3 = 3 + 3 * (i + 1) by omega] at h
          exact h)
        have HB9 : Hid (Below w.heap.size w w2) := Lib.hid ((HB6.out.alloc HB6.out.size _).grown g4 (by rw [World.size_alloc]; have := HB6.out.size; omega) HLT6.out)
        clear k4 g4 HSX
        go_wp2
        go_roundg g
        case measure => omega
        case rel => exact ⟨i + 1, by have := HIG.out; omega, rfl, HO9, HB9⟩
end Go.Proofs.Ytknldabnkaecdaa.pip
