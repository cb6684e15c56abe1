/- oper.Gets and the reference's. -/
import Derived.Test.YtamdbfkofdjmlaaOpY
namespace Go.Proofs.Ytamdbfkofdjmlaa.opr
set_option linter.unusedSimpArgs false
set_option linter.unusedVariables false
open Go.RowKit
attribute [local go_sem ↓] Go.wp_at_zero Go.wp_at_succ
open Go.Proofs.Ytamdbfkofdjmlaa.tbl (Only lt_of_get)
open Go.Proofs.Ytamdbfkofdjmlaa.grp (below_on' below_made)
/-- A record's place among those that a union gets. -/
def sh (u : Bool) (b : Nat) (r : Rc) : Rc := if u = true then (Go.RowKit.wrap64 (Go.RowKit.wrap64 (8 * r.1) + (b : Int)), r.2.1, r.2.2) else r
def row (ls : List (List Rc)) (b : Nat) : List Rc := ls.getD b []
def pre (u : Bool) (ls : List (List Rc)) (b : Nat) : List Rc := (List.range b).flatMap (fun j => (row ls j).map (sh u j))
theorem pre_succ (u : Bool) (ls : List (List Rc)) (b : Nat) : pre u ls (b + 1) = pre u ls b ++ (row ls b).map (sh u b) := by
  unfold pre
  rw [List.range_succ, List.flatMap_append]
  simp
theorem row_of {ls : List (List Rc)} {b : Nat} {l : List Rc} (h : ls[b]? = some l) : row ls b = l := by
  unfold row
  rw [List.getD_eq_getElem?_getD, h]; rfl
theorem pre_len (u : Bool) {ls : List (List Rc)} : ∀ {b : Nat}, b ≤ ls.length → (pre u ls b).length = (tot ls b).length
  | 0, _ => rfl
  | b + 1, h => by
    have hb : ls[b]? = some ls[b] := List.getElem?_eq_getElem (by omega)
    rw [pre_succ, tot_succ hb, List.length_append, List.length_append, List.length_map, row_of hb, pre_len u (by omega)]
theorem pre_no {ls : List (List Rc)} : ∀ {b : Nat}, b ≤ ls.length → pre false ls b = tot ls b
  | 0, _ => rfl
  | b + 1, h => by
    have hb : ls[b]? = some ls[b] := List.getElem?_eq_getElem (by omega)
    have hm : (ls[b]).map (sh false b) = ls[b] := by
      have : sh false b = id := funext fun r => by unfold sh; simp
      rw [this, List.map_id]
    rw [pre_succ, tot_succ hb, row_of hb, pre_no (by omega), hm]
def GtRel (w : World) (u : Bool) (ls : List (List Rc)) (b i : Nat) (v : Value) (wr : World) : Prop := Own wr w.heap.size v (pre u ls b ++ ((row ls b).take i).map (sh u b)) ∧ Below w.heap.size w wr
theorem GtRel.next {w wr : World} {u : Bool} {ls : List (List Rc)} {b i : Nat} {v : Value} (h : GtRel w u ls b i v wr) (hi : (row ls b).length ≤ i) : GtRel w u ls (b + 1) 0 v wr := by
  refine ⟨?_, h.2⟩
  have := h.1
  rw [List.take_of_length_le hi, ← pre_succ] at this
  rw [List.take_zero, List.map_nil, List.append_nil]
  exact this
theorem gt_step {w wr : World} {u : Bool} {ls : List (List Rc)} {b i : Nat} {v : Value} (h : GtRel w u ls b i v wr) {r : Rc} (hr : (row ls b)[i]? = some r) (hb : b < ls.length) (ht : ls.flatten.length ≤ 900) (o : Obj) (x : Rc) (hx : x = sh u b r) :
    ∃ v' w', (∀ ty, (Builtin.append_ #[22, 22] ty #[v, .slice (some ⟨wr.heap.size + 1, 0, none⟩) 1 1]).run Try.prog ((wr.alloc o).alloc (.cells #[.int .i64 x.1, .int .i64 x.2.1, .int .i64 x.2.2] 32)) = .ok v' w') ∧ GtRel w u ls b (i + 1) v' w' := by
  have hb1 := below_on' (below_on' h.2 (below_made wr o)) (below_made _ (.cells #[.int .i64 x.1, .int .i64 x.2.1, .int .i64 x.2.2] 32))
  have ho := (h.1.below (below_made wr o)).below (below_made _ (.cells #[.int .i64 x.1, .int .i64 x.2.1, .int .i64 x.2.2] 32))
  have hs := srR_new (wr.alloc o) x
  rw [World.size_alloc] at hs
  have h1 := pre_len u (ls := ls) (show b ≤ ls.length by omega)
  have hbl : ls[b]? = some ls[b] := List.getElem?_eq_getElem hb
  have h2 := tot_le ls (b + 1)
  rw [tot_succ hbl, List.length_append] at h2
  have h3 := row_of hbl
  have hi := (List.getElem?_eq_some_iff.1 hr).1
  obtain ⟨v', w', r1, o1, g1, b1⟩ := ho.app hs (by simp only [List.length_append, List.length_map, List.length_take, List.length_cons, List.length_nil]; rw [h3] at hi ⊢; omega) hb1.size 0
  refine ⟨v', w', fun _ => r1, ?_, hb1.grown g1 hb1.size b1⟩
  rw [List.append_assoc] at o1
  rw [take_snoc hr, List.map_append, List.map_cons, List.map_nil, ← hx]
  exact o1
theorem lr_one {w : World} (v : Value) (l : List Rc) (h : Sr w v l) : Lr (w.alloc (.cells #[v] 22)) (.slice (some ⟨w.heap.size, 0, none⟩) 1 1) [v] [l] := by
  refine ⟨_, 1, rfl, rfl, Nat.le_refl _, fun _ => ⟨w.heap.size, 0, rfl, by simp, fun i x hx => ?_⟩, fun i x q hx hq => ?_⟩
  · rw [cell_of_row _ _ _ _ _ _ (Go.heap_alloc_new w _), Nat.zero_add]
    simpa using hx
  · match i, hx, hq with
    | 0, hx, hq =>
      injection hx with hx
      injection hq with hq
      subst hx hq
      exact h.below (below_made _ _)
    | i + 1, hx, _ => simp at hx
set_option maxHeartbeats 6400000 in
set_option maxRecDepth 1000000 in
theorem gets_any {w : World} {v : Value} {vs : List Value} {ls : List (List Rc)} (h : Lr w v vs ls) (ht : ls.flatten.length ≤ 900) (hl : ls.length ≤ 900) (nv : Nv) :
    Calls Try.prog 10 #[nodeV nv, v] w fun e w' => ∃ v', e = .returned v' ∧ Own w' w.heap.size v' (srt (pre (decide (nv.kd = 8)) ls ls.length)) ∧ Below w.heap.size w w' := by
  obtain ⟨a, c, rfl⟩ := h.len
  have hb0 := below_made w (.cells nv.cells 29)
  obtain ⟨c0, c1, c2, c3, c4, c5, c6⟩ := (NBox.new w nv).facts
  have HB0 := Lib.hid hb0
  have HL := Lib.hid h
  have HLB := Lib.hid (h.below hb0)
  have HT := Lib.hid ht
  have HLL := Lib.hid hl
  obtain ⟨n, hn⟩ : ∃ n, ls.length = n := ⟨_, rfl⟩
  have HN := Lib.hid hn
  have hn1 : (n : Int) ≤ 900 := by omega
  obtain ⟨s, kd, ia, il, ic, op, xn, xa, xl, xc, nn⟩ := nv
  unfold nodeV Nv.cells
  unfold Nv.cells at HB0 HLB c0 c1 c2 c3 c4 c5 c6
  dsimp only at HB0 HLB c0 c1 c2 c3 c4 c5 c6 ⊢
  by_cases hkd : kd = 8
  case neg =>
    have hd : decide (kd = 8) = false := decide_eq_false hkd
    rw [hd, pre_no (Nat.le_refl _), tot_all]
    have hk : ¬ ((kd : Int) = 8) := by omega
    have hk2 : ((kd : Int) == 8) = false := beq_eq_false_iff_ne.2 hk
    have HM := Lib.hid (merge_any HLB.out (by have := HT.out; omega) (by have := HLL.out; omega))
    rw [hn] at HM ⊢
    clear h hb0 ht hl hn hd hkd
    go_enter Try.func10, Try.ntmps10
    go_wp2_with fail
    (with_reducible refine HM.out.mono ?_)
    rintro e w1 ⟨v', rfl, ho, hb⟩
    obtain ⟨a1, c1', rfl⟩ := ho.len
    have HF := Lib.hid (show ∃ v', Ending.returned (.slice a1 (srt ls.flatten).length c1') = .returned v' ∧ Own w1 w.heap.size v' (srt ls.flatten) ∧ Below w.heap.size w w1 from ⟨_, rfl, ho.base HB0.out.size, below_on' HB0.out hb⟩)
    clear ho hb
    go_wp2
    go_ret
    exact HF.out
  case pos =>
    have hd : decide (kd = 8) = true := decide_eq_true hkd
    rw [hd]
    subst hkd
    have HR0 : Hid (∀ w', Below w.heap.size w w' → GtRel w true ls 0 0 (.slice none 0 0) w') := Lib.hid fun w' hw => ⟨Own.nil _ _, hw⟩
    rw [hn]
    clear h hb0 ht hl hn hd
    go_enter Try.func10, Try.ntmps10
    go_wp2
    go_loopg [5, 17] n (fun g v5 v17 wr => ∃ b, v17 = .int .i64 (b : Nat) ∧ b + g = n ∧ Hid (GtRel w true ls b 0 v5 wr))
    case atStart => exact ⟨0, rfl, by omega, Lib.hid (HR0.out _ HB0.out)⟩
    case round =>
      clear HR0
      obtain ⟨b, rfl, hb, HR⟩ := hrel
      by_cases hlt : b < n
      · have hlt' : (b : Int) < (n : Int) := by omega
        have hb0 : (0 : Int) ≤ (b : Int) := by omega
        obtain ⟨g, o, c', l, ax, cx, e1, e2, e3, e4, e5⟩ := HL.out.at (k := b) (by have := HN.out; omega)
        rw [HN.out] at e1
        injection e1 with e1a _ e1b
        subst e1a e1b
        have hc := merge_cells HR.out.2 e2 e4
        obtain ⟨m, hm⟩ : ∃ m, l.length = m := ⟨_, rfl⟩
        rw [hm] at hc e5
        have HM := Lib.hid hm
        have HROW := Lib.hid (row_of e3)
        have hm1 : (m : Int) ≤ 900 := by
          have h1 := tot_le ls (b + 1)
          rw [tot_succ e3, List.length_append] at h1
          have := HT.out
          omega
        have HS := Lib.hid e5
        have HKK := Lib.hid (And.intro hb hlt)
        have HBN : Hid (b < ls.length) := Lib.hid (by rw [HN.out]; exact hlt)
        clear e4 e5 e3 hb hlt hm e2
        go_wp2
        go_loopg [5, 24] m (fun g v5 v24 wr => ∃ i, v24 = .int .i64 (i : Nat) ∧ i + g = m ∧ Hid (GtRel w true ls b i v5 wr))
        case atStart => exact ⟨0, rfl, by omega, HR⟩
        case round =>
          clear HR hc
          obtain ⟨i, rfl, hi, HR⟩ := hrel
          by_cases hlt : i < m
          · have hlti : (i : Int) < (m : Int) := by omega
            have hi0 : (0 : Int) ≤ (i : Int) := by omega
            obtain ⟨r, gr⟩ := rec_at (l := l) (k := i) (by rw [HM.out]; exact hlt)
            obtain ⟨g', o', c2, f1, f2, p1, p2, p3⟩ := (HS.out.below HR.out.2).at gr
            rw [HM.out] at f1
            injection f1 with f1a _ f1b
            subst f1a f1b
            obtain ⟨r1, r2, r3⟩ := r
            dsimp only at p1 p2 p3
            obtain ⟨v', w', t1, t2⟩ := gt_step HR.out (r := (r1, r2, r3)) (by rw [HROW.out]; exact gr) HBN.out HT.out (.cells #[.int .i64 (Go.RowKit.wrap64 (Go.RowKit.wrap64 (8 * r1) + (b : Int))), .int .i64 r2, .int .i64 r3] 32) (Go.RowKit.wrap64 (Go.RowKit.wrap64 (8 * r1) + (b : Int)), r2, r3) (by unfold sh; rw [if_pos rfl])
            have HT1 := Lib.hid t1
            have HT2 := Lib.hid t2
            have HII := Lib.hid (And.intro hi hlt)
            dsimp only at HT1
            clear gr t1 t2 hi hlt f2
            go_wp2_with (at_builtin; refine wpList_appR rfl (.tmp 34) (.tmp 36) 22 rfl rfl rfl (HT1.out _) ?_)
            go_roundg (m - (i + 1))
            case measure => have := HII.out; omega
            case rel => exact ⟨i + 1, rfl, by have := HII.out; omega, HT2⟩
          · have hlti : ¬ ((i : Int) < (m : Int)) := by omega
            have HR2 := Lib.hid (HR.out.next (by rw [HROW.out, HM.out]; omega))
            clear hlt hi
            go_wp2
            go_roundg (n - (b + 1))
            case measure => have := HKK.out; omega
            case rel => exact ⟨b + 1, rfl, by have := HKK.out; omega, HR2⟩
      · have hlt' : ¬ ((b : Int) < (n : Int)) := by omega
        have hown := HR.out.1
        rw [List.take_zero, List.map_nil, List.append_nil, show b = n by omega] at hown
        obtain ⟨a5, c5, rfl⟩ := hown.len
        obtain ⟨q, hq⟩ : ∃ q, (pre true ls n).length = q := ⟨_, rfl⟩
        have hq9 : q ≤ 900 := by
          rw [← hq, pre_len true (by rw [HN.out]; exact Nat.le_refl _), ← HN.out, tot_all]
          exact HT.out
        have hb1 := below_made wr (.cells #[.slice a5 q c5] 22)
        have hlr : Lr (wr.alloc (.cells #[.slice a5 q c5] 22)) (.slice (some ⟨wr.heap.size, 0, none⟩) 1 1) [.slice a5 q c5] [pre true ls n] := lr_one _ _ (by rw [← hq]; exact hown.sr)
        have HM := Lib.hid (merge_any hlr (by simp only [List.flatten_cons, List.flatten_nil, List.append_nil]; omega) (by simp))
        rw [show [pre true ls n].flatten = pre true ls n by simp] at HM
        have HBW := Lib.hid (below_on' HR.out.2 hb1)
        rw [hq]
        clear hlt hb hown hq hq9 hb1 hlr HR
        go_wp2_with fail
        refine HM.out.mono ?_
        rintro e w1 ⟨v', rfl, ho, hb⟩
        obtain ⟨a1, c1', rfl⟩ := ho.len
        have HF := Lib.hid (show ∃ v', Ending.returned (.slice a1 (srt (pre true ls n)).length c1') = .returned v' ∧ Own w1 w.heap.size v' (srt (pre true ls n)) ∧ Below w.heap.size w w1 from ⟨_, rfl, ho.base HBW.out.size, below_on' HBW.out hb⟩)
        clear ho hb
        go_wp2
        go_ret
        exact HF.out
end Go.Proofs.Ytamdbfkofdjmlaa.opr
