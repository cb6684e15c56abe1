/- slices.Equal and slices.Contains of records. -/
import Derived.Test.YtamdbfkofdjmlaaOpN
import Derived.Laws.StructEq
namespace Go.Proofs.Ytamdbfkofdjmlaa.opr
set_option linter.unusedSimpArgs false
set_option linter.unusedVariables false
open Go.RowKit
attribute [local go_sem ↓] Go.wp_at_zero Go.wp_at_succ
open Go.Proofs.Ytamdbfkofdjmlaa.tbl (Only lt_of_get)
open Go.Proofs.Ytamdbfkofdjmlaa.grp (below_on' below_made)
set_option maxHeartbeats 6400000 in
set_option maxRecDepth 1000000 in
theorem equal_any {w : World} {u v : Value} {l q : List Rc} (h : Sr w u l) (h' : Sr w v q) (hl : l.length ≤ 1000000) (hq : q.length ≤ 1000000) :
    Calls Try.prog 12 #[u, v] w fun e w' => e = .returned (.bool (decide (l = q))) ∧ Below w.heap.size w w' := by
  obtain ⟨a, c, rfl⟩ := h.len
  obtain ⟨a', c', rfl⟩ := h'.len
  by_cases hlen : l.length = q.length
  case neg =>
    have hd : decide (l = q) = false := decide_eq_false (fun e => hlen (by rw [e]))
    rw [hd]
    have hne : ¬ ((l.length : Int) = (q.length : Int)) := by omega
    obtain ⟨n, hn⟩ : ∃ n, l.length = n := ⟨_, rfl⟩
    obtain ⟨m, hm⟩ : ∃ n, q.length = n := ⟨_, rfl⟩
    rw [hn, hm] at hne ⊢
    have HB : Hid (Below w.heap.size w w) := Lib.hid (Below.refl _ _)
    clear h h' hd hlen hl hq hn hm
    go_enter Try.func12, Try.ntmps12
    go_wp2
    go_ret
    exact ⟨rfl, HB.out⟩
  case pos =>
    obtain ⟨n, hn⟩ : ∃ n, l.length = n := ⟨_, rfl⟩
    have hm : q.length = n := by omega
    rw [hn, hm]
    have HL := Lib.hid h
    have HQ := Lib.hid h'
    have HN := Lib.hid hn
    have HM := Lib.hid hm
    have hn1 : (n : Int) ≤ 1000000 := by omega
    have HB0 : Hid (Below w.heap.size w w) := Lib.hid (Below.refl _ _)
    clear h h' hn hm hl hq hlen
    go_enter Try.func12, Try.ntmps12
    go_wp2
    go_loopg [13] n (fun g v13 wr => ∃ k, v13 = .int .i64 (k : Nat) ∧ k + g = n ∧ Hid (l.take k = q.take k) ∧ Hid (Below w.heap.size w wr))
    case atStart => exact ⟨0, rfl, by omega, Lib.hid rfl, HB0⟩
    case round =>
      clear HB0
      obtain ⟨k, rfl, hk, HT, HB⟩ := hrel
      by_cases hlt : k < n
      · have hlt' : (k : Int) < (n : Int) := by omega
        have hk0 : (0 : Int) ≤ (k : Int) := by omega
        have hl1 : k < l.length := by rw [HN.out]; exact hlt
        have hq1 : k < q.length := by rw [HM.out]; exact hlt
        obtain ⟨x, gx⟩ := rec_at hl1
        obtain ⟨y, gy⟩ := rec_at hq1
        obtain ⟨g, o, c1, e1, e2, p1, p2, p3⟩ := (HL.out.below HB.out).at gx
        obtain ⟨g', o', c2, e3, e4, q1, q2, q3⟩ := (HQ.out.below HB.out).at gy
        rw [HN.out] at e1
        rw [HM.out] at e3
        injection e1 with e1a _ e1b
        injection e3 with e3a _ e3b
        subst e1a e1b e3a e3b
        have HKK := Lib.hid (And.intro hk hlt)
        have HXY := Lib.hid (And.intro gx gy)
        have HBD := Lib.hid HB.out.drew
        by_cases hxy : x = y
        · have HNX : Hid (l.take (k + 1) = q.take (k + 1)) := Lib.hid (by rw [List.take_add_one, List.take_add_one, gx, gy, HT.out, hxy])
          subst hxy
          obtain ⟨x1, x2, x3⟩ := x
          dsimp only at p1 p2 p3 q1 q2 q3
          clear gx gy e2 e4 hl1 hq1 hk hlt
          go_wp2_with fail
          go_region
          all_goals go_wp2
          go_roundg (n - (k + 1))
          case measure => have := HKK.out; omega
          case rel => exact ⟨k + 1, rfl, by have := HKK.out; omega, HNX, HBD⟩
        · have HD : Hid (decide (l = q) = false) := Lib.hid (decide_eq_false (fun e => hxy (by rw [e, gy] at gx; injection gx with gx; exact gx.symm)))
          have hne : ¬ (x.1 = y.1 ∧ x.2.1 = y.2.1 ∧ x.2.2 = y.2.2) := fun ⟨h1, h2, h3⟩ => hxy (Prod.ext h1 (Prod.ext h2 h3))
          obtain ⟨x1, x2, x3⟩ := x
          obtain ⟨y1, y2, y3⟩ := y
          dsimp only at p1 p2 p3 q1 q2 q3 hne
          clear gx gy e2 e4 hl1 hq1 hk hlt hxy
          by_cases hx1 : x1 = y1
          · subst hx1
            by_cases hx2 : x2 = y2
            · subst hx2
              have hb3 : (x3 == y3) = false := beq_eq_false_iff_ne.2 (fun e => hne ⟨rfl, rfl, e⟩)
              clear hne
              go_wp2_with fail
              go_region
              all_goals go_wp2
              all_goals (go_ret; exact ⟨grp.ret_bool HD.out.symm, HBD.out⟩)
            · have hb2 : (x2 == y2) = false := beq_eq_false_iff_ne.2 hx2
              clear hne hx2
              go_wp2_with fail
              go_region
              all_goals go_wp2
              all_goals (go_ret; exact ⟨grp.ret_bool HD.out.symm, HBD.out⟩)
          · have hb1 : (x1 == y1) = false := beq_eq_false_iff_ne.2 hx1
            clear hne hx1
            go_wp2_with fail
            go_region
            all_goals go_wp2
            all_goals (go_ret; exact ⟨grp.ret_bool HD.out.symm, HBD.out⟩)
      · have hlt' : ¬ ((k : Int) < (n : Int)) := by omega
        have HD : Hid (decide (l = q) = true) := Lib.hid (decide_eq_true (by
          have h1 := HT.out
          rwa [show k = n by omega, List.take_of_length_le (by rw [HN.out]; exact Nat.le_refl _), List.take_of_length_le (by rw [HM.out]; exact Nat.le_refl _)] at h1))
        clear hlt hk
        go_wp2
        go_ret
        exact ⟨grp.ret_bool HD.out.symm, HB.out⟩
theorem box_at {w : World} {r : Rc} {k : Nat} (N : Nat) (hN : w.heap.size = N) : ∀ w', Below (N + 1) (w.alloc (.cells #[.int .i64 r.1, .int .i64 r.2.1, .int .i64 r.2.2] 32)) w' →
    w'.cell? ⟨N, 0, none⟩ = some (.int .i64 r.1) ∧ w'.cell? ⟨N, 1, none⟩ = some (.int .i64 r.2.1) ∧ w'.cell? ⟨N, 2, none⟩ = some (.int .i64 r.2.2) := fun w' hb => by
  subst hN
  have h := (hb.block w.heap.size (Nat.lt_succ_self _)).trans (Go.heap_alloc_new w _)
  exact ⟨by rw [cell_of_row _ _ _ _ _ _ h]; rfl, by rw [cell_of_row _ _ _ _ _ _ h]; rfl, by rw [cell_of_row _ _ _ _ _ _ h]; rfl⟩
set_option maxHeartbeats 6400000 in
set_option maxRecDepth 1000000 in
theorem index_any {w : World} {u : Value} {l : List Rc} (h : Sr w u l) (hl : l.length ≤ 1000000) (r : Rc) :
    Calls Try.prog 32 #[u, rcA r] w fun e w' => ∃ i : Int, e = .returned (.int .i64 i) ∧ i ≤ 1000000 ∧ (0 ≤ i ↔ r ∈ l) ∧ Below w.heap.size w w' := by
  obtain ⟨a, c, rfl⟩ := h.len
  obtain ⟨n, hn⟩ : ∃ n, l.length = n := ⟨_, rfl⟩
  obtain ⟨N, hN⟩ : ∃ n, w.heap.size = n := ⟨_, rfl⟩
  have HN := Lib.hid hn
  have HNN := Lib.hid hN
  have hn1 : (n : Int) ≤ 1000000 := by omega
  have HBX := Lib.hid (box_at (w := w) (r := r) (k := 0) N hN)
  have hb0 := below_made w (.cells #[.int .i64 r.1, .int .i64 r.2.1, .int .i64 r.2.2] 32)
  have HL := Lib.hid (h.below hb0)
  have HS0 : Hid (Below (N + 1) (w.alloc (.cells #[.int .i64 r.1, .int .i64 r.2.1, .int .i64 r.2.2] 32)) (w.alloc (.cells #[.int .i64 r.1, .int .i64 r.2.1, .int .i64 r.2.2] 32))) := Lib.hid (Below.refl _ _)
  have HSZ : Hid ((w.alloc (.cells #[.int .i64 r.1, .int .i64 r.2.1, .int .i64 r.2.2] 32)).heap.size = N + 1) := Lib.hid (by rw [World.size_alloc, hN])
  have HB0 := Lib.hid hb0
  rw [hn]
  rw [hN] at HB0 ⊢
  clear h hn hN hb0 hl
  unfold rcA
  obtain ⟨r1, r2, r3⟩ := r
  dsimp only at HBX HL HS0 HB0 HSZ ⊢
  obtain ⟨W0, hW0⟩ : ∃ W, w.alloc (.cells #[.int .i64 r1, .int .i64 r2, .int .i64 r3] 32) = W := ⟨_, rfl⟩
  rw [hW0] at HBX HL HS0 HB0 HSZ
  have HW0 := Lib.hid hW0
  clear hW0
  go_enter Try.func32, Try.ntmps32
  go_wp2
  rw [HNN.out, HW0.out]
  go_loopg [8] n (fun g v8 wr => ∃ k, v8 = .int .i64 (k : Nat) ∧ k + g = n ∧ Hid ((r1, r2, r3) ∉ l.take k) ∧ Hid (Below (N + 1) W0 wr))
  case atStart => exact ⟨0, rfl, by omega, Lib.hid (by simp), HS0⟩
  case round =>
    clear HS0
    obtain ⟨k, rfl, hk, HT, HB⟩ := hrel
    by_cases hlt : k < n
    · have hlt' : (k : Int) < (n : Int) := by omega
      have hk0 : (0 : Int) ≤ (k : Int) := by omega
      have hl1 : k < l.length := by rw [HN.out]; exact hlt
      obtain ⟨x, gx⟩ := rec_at hl1
      have HBW : Hid (Below W0.heap.size W0 wr) := Lib.hid (by rw [HSZ.out]; exact HB.out)
      obtain ⟨g, o, c1, e1, e2, p1, p2, p3⟩ := (HL.out.below HBW.out).at gx
      obtain ⟨q1, q2, q3⟩ := HBX.out _ HB.out
      rw [HN.out] at e1
      injection e1 with e1a _ e1b
      subst e1a e1b
      have HKK := Lib.hid (And.intro hk hlt)
      have HBD := Lib.hid HB.out.drew
      have HGX := Lib.hid gx
      by_cases hxy : (r1, r2, r3) = x
      · have HD : Hid ((0 : Int) ≤ (k : Int) ↔ (r1, r2, r3) ∈ l) := Lib.hid ⟨fun _ => by rw [hxy]; exact List.mem_of_getElem? gx, fun _ => by omega⟩
        subst hxy
        have HF : Hid (Below N w wr.drew) := Lib.hid (HB0.out.trans ((HB.out.drew).mono (Nat.le_succ _)))
        have hkn : (k : Int) ≤ 1000000 := by omega
        dsimp only at p1 p2 p3 q1 q2 q3
        clear gx e2 hl1 hk hlt
        go_wp2_with fail
        go_region
        all_goals go_wp2
        all_goals (go_ret; exact ⟨_, rfl, hkn, HD.out, HF.out⟩)
      · have HNX : Hid ((r1, r2, r3) ∉ l.take (k + 1)) := Lib.hid (by
          rw [List.take_add_one, HGX.out]
          simp only [Option.toList_some, List.mem_append, List.mem_singleton, not_or]
          exact ⟨HT.out, hxy⟩)
        have hne : ¬ (r1 = x.1 ∧ r2 = x.2.1 ∧ r3 = x.2.2) := fun ⟨h1, h2, h3⟩ => hxy (Prod.ext h1 (Prod.ext h2 h3))
        obtain ⟨x1, x2, x3⟩ := x
        dsimp only at p1 p2 p3 q1 q2 q3 hne
        clear gx e2 hl1 hk hlt hxy
        by_cases hx1 : r1 = x1
        · subst hx1
          by_cases hx2 : r2 = x2
          · subst hx2
            have hb3 : (r3 == x3) = false := beq_eq_false_iff_ne.2 (fun e => hne ⟨rfl, rfl, e⟩)
            clear hne
            go_wp2_with fail
            go_region
            all_goals go_wp2
            go_roundg (n - (k + 1))
            case measure => have := HKK.out; omega
            case rel => exact ⟨k + 1, rfl, by have := HKK.out; omega, HNX, HBD⟩
          · have hb2 : (r2 == x2) = false := beq_eq_false_iff_ne.2 hx2
            clear hne hx2
            go_wp2_with fail
            go_region
            all_goals go_wp2
            go_roundg (n - (k + 1))
            case measure => have := HKK.out; omega
            case rel => exact ⟨k + 1, rfl, by have := HKK.out; omega, HNX, HBD⟩
        · have hb1 : (r1 == x1) = false := beq_eq_false_iff_ne.2 hx1
          clear hne hx1
          go_wp2_with fail
          go_region
          all_goals go_wp2
          go_roundg (n - (k + 1))
          case measure => have := HKK.out; omega
          case rel => exact ⟨k + 1, rfl, by have := HKK.out; omega, HNX, HBD⟩
    · have hlt' : ¬ ((k : Int) < (n : Int)) := by omega
      have HD : Hid ((0 : Int) ≤ (-1) ↔ (r1, r2, r3) ∈ l) := Lib.hid ⟨fun h => by omega, fun h => absurd (by rw [List.take_of_length_le (by rw [HN.out]; omega)]; exact h) HT.out⟩
      have HF : Hid (Below N w wr) := Lib.hid (HB0.out.trans ((HB.out).mono (Nat.le_succ _)))
      clear hlt hk
      go_wp2
      go_ret
      exact ⟨_, rfl, by omega, HD.out, HF.out⟩
theorem contains_any {w : World} {u : Value} {l : List Rc} (h : Sr w u l) (hl : l.length ≤ 1000000) (r : Rc) :
    Calls Try.prog 20 #[u, rcA r] w fun e w' => e = .returned (.bool (decide (r ∈ l))) ∧ Below w.heap.size w w' := by
  obtain ⟨N, hN⟩ : ∃ n, w.heap.size = n := ⟨_, rfl⟩
  have hb0 := below_made w (.cells #[.int .i64 r.1, .int .i64 r.2.1, .int .i64 r.2.2] 32)
  have HI := Lib.hid (index_any (h.below hb0) hl r)
  obtain ⟨q1, q2, q3⟩ := box_at (w := w) (r := r) (k := 0) N hN _ (Below.refl _ _)
  have HB0 := Lib.hid hb0
  have HNN := Lib.hid hN
  rw [hN] at HB0 ⊢
  obtain ⟨r1, r2, r3⟩ := r
  unfold rcA at HI ⊢
  dsimp only at HI HB0 q1 q2 q3 ⊢
  obtain ⟨W0, hW0⟩ : ∃ W, w.alloc (.cells #[.int .i64 r1, .int .i64 r2, .int .i64 r3] 32) = W := ⟨_, rfl⟩
  rw [hW0] at HI HB0 q1 q2 q3
  have HW0 := Lib.hid hW0
  clear hW0 h hl hb0 hN
  go_enter Try.func20, Try.ntmps20
  go_wp2_with fail
  rw [HW0.out]
  (with_reducible refine HI.out.mono ?_)
  rintro e w1 ⟨i, rfl, hi1, hi2, hb1⟩
  have HF : Hid (Below N w w1) := Lib.hid (HB0.out.trans (hb1.mono (by rw [← HNN.out]; exact HB0.out.size)))
  by_cases hm : (r1, r2, r3) ∈ l
  · have h0 : (0 : Int) ≤ i := hi2.2 hm
    have HD : Hid (decide ((r1, r2, r3) ∈ l) = true) := Lib.hid (decide_eq_true hm)
    clear hi2 hm hb1
    go_wp2
    go_ret
    exact ⟨grp.ret_bool HD.out.symm, HF.out⟩
  · have h0 : ¬ ((0 : Int) ≤ i) := fun h => hm (hi2.1 h)
    have HD : Hid (decide ((r1, r2, r3) ∈ l) = false) := Lib.hid (decide_eq_false hm)
    clear hi2 hm hb1
    go_wp2
    go_ret
    exact ⟨grp.ret_bool (by rw [HD.out]; first | rfl | exact decide_eq_false (by omega)), HF.out⟩
end Go.Proofs.Ytamdbfkofdjmlaa.opr
