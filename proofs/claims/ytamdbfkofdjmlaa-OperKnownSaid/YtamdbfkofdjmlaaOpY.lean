/- The reference's Merge. -/
import Derived.Test.YtamdbfkofdjmlaaOpX
namespace Go.Proofs.Ytamdbfkofdjmlaa.opr
set_option linter.unusedSimpArgs false
set_option linter.unusedVariables false
open Go.RowKit
attribute [local go_sem ↓] Go.wp_at_zero Go.wp_at_succ
open Go.Proofs.Ytamdbfkofdjmlaa.tbl (Only lt_of_get)
open Go.Proofs.Ytamdbfkofdjmlaa.grp (below_on' below_made)
theorem srt_snoc {l : List Rc} {x : Rc} {k : Nat} (hk : k ≤ (srt l).length) (hlo : ∀ y, 0 < k → (srt l)[k - 1]? = some y → y.1 ≤ x.1) (hhi : ∀ (j : Nat) y, k ≤ j → (srt l)[j]? = some y → x.1 < y.1) :
    (srt l).take k ++ x :: (srt l).drop k = srt (l ++ [x]) := by
  have hB : ∀ y ∈ (srt l).drop k, x.1 < y.1 := fun y hy => by
    obtain ⟨j, hj⟩ := List.mem_iff_getElem?.1 hy
    rw [List.getElem?_drop] at hj
    exact hhi _ y (by omega) hj
  have hA : ∀ y ∈ (srt l).take k, y.1 ≤ x.1 := fun y hy => by
    obtain ⟨j, hj⟩ := List.mem_iff_getElem?.1 hy
    rw [List.getElem?_take] at hj
    split at hj
    · rename_i hjk
      have hl : (srt l)[k - 1]? = some (srt l)[k - 1] := List.getElem?_eq_getElem (by omega)
      have h1 := (UpR.of_up (srt_up l) 0 (srt l).length).le (Nat.zero_le _) (show j ≤ k - 1 by omega) (by omega) hj hl
      have h2 := hlo _ (by omega) hl
      omega
    · cases hj
  refine srt_of (fun p => ?_) ?_
  · have e1 : fil p (srt l) = fil p ((srt l).take k) ++ fil p ((srt l).drop k) := by rw [← fil_append, List.take_append_drop]
    rw [fil_append, fil_append, ← srt_same l p, e1, fil_cons, fil_cons, fil_nil]
    by_cases hp : x.1 = p
    · have : fil p ((srt l).drop k) = [] := by
        rw [List.eq_nil_iff_forall_not_mem]
        intro y hy
        obtain ⟨h1, h2⟩ := fil_mem.1 hy
        have := hB y h1
        omega
      rw [this]; simp [hp]
    · simp [hp]
  · have hu := srt_up l
    rw [← List.take_append_drop k (srt l)] at hu
    obtain ⟨u1, u2, u3⟩ := List.pairwise_append.1 hu
    refine List.pairwise_append.2 ⟨u1, List.pairwise_cons.2 ⟨fun y hy => by have := hB y hy; omega, u2⟩, fun y hy z hz => ?_⟩
    rcases List.mem_cons.1 hz with rfl | hz
    · exact hA y hy
    · exact u3 y hy z hz
theorem take_snoc {l : List Rc} {k : Nat} {x : Rc} (h : l[k]? = some x) : l.take (k + 1) = l.take k ++ [x] := by rw [List.take_add_one, h]; rfl
set_option maxHeartbeats 6400000 in
set_option maxRecDepth 1000000 in
theorem rmerge_any {w : World} {u : Value} {l : List Rc} (h : Sr w u l) (hl : l.length ≤ 900) :
    Calls Try.prog 16 #[u] w fun e w' => ∃ v', e = .returned v' ∧ Own w' w.heap.size v' (srt l) ∧ Below w.heap.size w w' := by
  obtain ⟨a, c, rfl⟩ := h.len
  obtain ⟨n, hn⟩ : ∃ n, l.length = n := ⟨_, rfl⟩
  have HN := Lib.hid hn
  have HL := Lib.hid h
  have hn1 : (n : Int) ≤ 900 := by omega
  have HB0 : Hid (Below w.heap.size w w) := Lib.hid (Below.refl _ _)
  rw [hn]
  clear h hn hl
  go_enter Try.func16, Try.ntmps16
  go_wp2
  go_loopg [3, 4] n (fun g v3 v4 wr => ∃ i, v4 = .int .i64 (i : Nat) ∧ i + g = n ∧ Hid (Own wr w.heap.size v3 (srt (l.take i))) ∧ Hid (Below w.heap.size w wr))
  case atStart => exact ⟨0, rfl, by omega, Lib.hid (Own.nil _ _), HB0⟩
  case round =>
    clear HB0
    obtain ⟨i, rfl, hi, HO, HB⟩ := hrel
    obtain ⟨a3, c3, hv3⟩ := HO.out.len
    obtain ⟨m, hm⟩ : ∃ m, (srt (l.take i)).length = m := ⟨_, rfl⟩
    rw [hm] at hv3
    subst hv3
    have hmi : m ≤ 900 := by rw [← hm, srt_len, List.length_take]; have := HN.out; omega
    by_cases hlt : i < n
    · have hlt' : (i : Int) < (n : Int) := by omega
      have hi0 : (0 : Int) ≤ (i : Int) := by omega
      have hm1 : (m : Int) ≤ 900 := by omega
      have HM := Lib.hid hm
      obtain ⟨x, gx⟩ := rec_at (l := l) (k := i) (by rw [HN.out]; exact hlt)
      have HGX := Lib.hid gx
      have HKK := Lib.hid (And.intro hi hlt)
      have HP0 : Hid (∀ (j : Nat) y, m ≤ j → (srt (l.take i))[j]? = some y → x.1 < y.1) := Lib.hid fun j y hj hy => by
        have := (List.getElem?_eq_some_iff.1 hy).1
        omega
      clear gx hi hm hmi
      go_wp2
      go_loopg [5] m (fun g v5 w2 => ∃ k, v5 = .int .i64 (k : Nat) ∧ k ≤ g ∧ k ≤ m ∧ Hid (∀ (j : Nat) y, k ≤ j → (srt (l.take i))[j]? = some y → x.1 < y.1) ∧ Hid (Own w2 w.heap.size (.slice a3 m c3) (srt (l.take i)) ∧ Below w.heap.size w w2))
      case atStart => exact ⟨m, rfl, Nat.le_refl _, Nat.le_refl _, HP0, Lib.hid ⟨HO.out, HB.out⟩⟩
      case round =>
        clear HP0 HO HB
        obtain ⟨k, rfl, hk, hkm, HP, HOB⟩ := hrel
        have HKM := Lib.hid (And.intro hk hkm)
        obtain ⟨g, o, c', e1, e2, p1, p2, p3⟩ := (HL.out.below HOB.out.2).at HGX.out
        rw [HN.out] at e1
        injection e1 with e1a _ e1b
        subst e1a e1b
        have hk0' : (0 : Int) ≤ (k : Int) := by omega
        have hkmI : (k : Int) ≤ (m : Int) := by omega
        by_cases hstop : 0 < k ∧ ∀ y, (srt (l.take i))[k - 1]? = some y → x.1 < y.1
        · -- on
          obtain ⟨hk0, hst⟩ := hstop
          obtain ⟨q, hq⟩ : ∃ q, k = q + 1 := ⟨k - 1, by omega⟩
          obtain ⟨y, gy⟩ := rec_at (l := srt (l.take i)) (k := q) (by rw [HM.out]; omega)
          obtain ⟨g', o', c2, f1, f2, q1, q2, q3⟩ := HOB.out.1.sr.at gy
          rw [HM.out] at f1
          injection f1 with f1a _ f1b
          subst f1a f1b
          have hxy : x.1 < y.1 := hst y (by rw [hq]; exact gy)
          have hkp : (0 : Int) < (k : Int) := by omega
          have hqm : (q : Int) < (m : Int) := by omega
          have hq0 : (0 : Int) ≤ (q : Int) := by omega
          have hkq : (k : Int) - 1 = (q : Int) := by omega
          have wq : IntKind.i64.wrap ((k : Int) - 1) = (q : Int) := by rw [IntKind.wrap_i64]; omega
          have wqq : IntKind.i64.wrap (q : Int) = (q : Int) := by rw [IntKind.wrap_i64]; omega
          have HP1 : Hid (∀ (j : Nat) y, q ≤ j → (srt (l.take i))[j]? = some y → x.1 < y.1) := Lib.hid fun j z hj hz => by
            by_cases e : q = j
            · subst e; rw [gy] at hz; injection hz with hz; rw [← hz]; exact hxy
            · exact HP.out j z (by omega) hz
          have HOB1 : Hid (∀ w', Below wr.heap.size wr w' → Own w' w.heap.size (.slice (some ⟨g', o', none⟩) m c3) (srt (l.take i)) ∧ Below w.heap.size w w') := Lib.hid fun w' hw => ⟨HOB.out.1.below hw, below_on' HOB.out.2 hw⟩
          have HQ := Lib.hid hq
          obtain ⟨x1, x2, x3⟩ := x
          obtain ⟨y1, y2, y3⟩ := y
          dsimp only at p1 p2 p3 q1 q2 q3 hxy
          clear hst gy e2 f2 hk hkm hq hlt
          go_wp2_with fail
          go_quiet (fail)
          have HOB2 := Lib.hid (HOB1.out _ (grp.below_drewN wr nq))
          go_wp2
          go_roundg q
          case measure => have := HKM.out; have := HQ.out; omega
          case rel => exact ⟨q, rfl, Nat.le_refl _, by have := HKM.out; have := HQ.out; omega, HP1, HOB2⟩
        · -- out
          have HKL : Hid (∀ y, 0 < k → (srt (l.take i))[k - 1]? = some y → y.1 ≤ x.1) := Lib.hid fun y h0 hy => by
            apply Int.not_lt.1
            intro hc
            exact hstop ⟨h0, fun z hz => by rw [hy] at hz; injection hz with hz; rw [← hz]; exact hc⟩
          have HNW : Hid ((srt (l.take i)).take k ++ x :: (srt (l.take i)).drop k = srt (l.take (i + 1))) := Lib.hid (by
            rw [take_snoc HGX.out]
            exact srt_snoc (by rw [HM.out]; exact hkm) HKL.out HP.out)
          have HEND : Hid (∀ wq, Below wr.heap.size wr wq → ∃ ah at' v1 w1 v2 w2 v3 w3, (∀ W, (Instr.sliceAt 22 (.slice a3 m c3) none (some (.int .i64 k)) none).run Try.prog W = .ok (.slice ah k c3) W) ∧
              (∀ W, (Instr.sliceAt 22 (.slice a3 m c3) (some (.int .i64 k)) none none).run Try.prog W = .ok (.slice at' (m - k) (c3 - k)) W) ∧
              (∀ ty, (Builtin.append_ #[22, 22] ty #[.slice none 0 0, .slice ah k c3]).run Try.prog wq = .ok v1 w1) ∧ Below wq.heap.size wq w1 ∧
              (∀ ty, (Builtin.append_ #[22, 22] ty #[v1, .slice (some ⟨w1.heap.size, 0, none⟩) 1 1]).run Try.prog (w1.alloc (.cells #[.int .i64 x.1, .int .i64 x.2.1, .int .i64 x.2.2] 32)) = .ok v2 w2) ∧
              (∀ ty, (Builtin.append_ #[22, 22] ty #[v2, .slice at' (m - k) (c3 - k)]).run Try.prog w2 = .ok v3 w3) ∧
              Own w3 w.heap.size v3 (srt (l.take (i + 1))) ∧ Below w.heap.size w w3 ∧ Below w.heap.size w w1) := Lib.hid fun wq hq => by
            have hs := HOB.out.1.sr.below hq
            obtain ⟨ah, at', v1, w1, v2, w2, v3, w3, t1, t2, t3, t4, t5, t6, t7, t8⟩ := ref_ins hs (k := k) (by rw [HM.out]; exact hkm) (by rw [HM.out]; omega) x a3 m c3 rfl
            have hbq := below_on' HOB.out.2 hq
            rw [HNW.out] at t7
            exact ⟨ah, at', v1, w1, v2, w2, v3, w3, t1, t2, t3, t4, t5, t6, Own.base t7 hbq.size, below_on' hbq t8, below_on' hbq t4⟩
          have HLX : Hid (∀ w1, Below w.heap.size w w1 → w1.cell? ⟨g, o + i * 3, none⟩ = some (.int .i64 x.1) ∧ w1.cell? ⟨g, o + i * 3 + 1, none⟩ = some (.int .i64 x.2.1) ∧ w1.cell? ⟨g, o + i * 3 + 2, none⟩ = some (.int .i64 x.2.2)) := Lib.hid fun w1 hw => by
            obtain ⟨g', o', c', e1, e2, p1, p2, p3⟩ := (HL.out.below hw).at HGX.out
            rw [HN.out] at e1
            injection e1 with e1a _ e1b
            injection e1a with e1a
            injection e1a with e1a e1o
            subst e1a e1o
            exact ⟨p1, p2, p3⟩
          have hkc : (k : Int) ≤ 900 := by omega
          by_cases hk0 : k = 0
          · have hdec : decide ((k : Int) > 0) = false := decide_eq_false (by omega)
            have hkz : ¬ ((0 : Int) < (k : Int)) := by omega
            have hdec3 : decide (0 < k) = false := decide_eq_false (by omega)
            have hdec2 : decide ((0 : Int) < (k : Int)) = false := decide_eq_false (by omega)
            obtain ⟨x1, x2, x3⟩ := x
            dsimp only at p1 p2 p3
            clear hk hkm e2 hlt hstop hk0
            go_wp2_with fail
            go_quiet (fail)
            obtain ⟨ah, at', v1, w1, v2, w2, v3, w3, t1, t2, t3, t4, t5, t6, t7, t8, t9⟩ := HEND.out _ (grp.below_drewN wr nq)
            obtain ⟨z1, z2, z3⟩ := HLX.out w1 t9
            have HT3 := Lib.hid t3
            have HT5 := Lib.hid t5
            have HT6 := Lib.hid t6
            have HT7 := Lib.hid t7
            have HT8 := Lib.hid t8
            clear t3 t4 t5 t6 t7 t8 t9
            try dsimp only at HT5 z1 z2 z3
            go_wp2_with (at_builtin; first | (refine wpList_appR rfl (.tmp 33) (.tmp 36) 22 rfl rfl rfl (HT3.out _) ?_) | (refine wpList_appR rfl (.tmp 38) (.tmp 43) 22 rfl rfl rfl (HT5.out _) ?_) | (refine wpList_appR rfl (.tmp 45) (.tmp 48) 22 rfl rfl rfl (HT6.out _) ?_))
            go_roundg (n - (i + 1))
            case measure => have := HKK.out; omega
            case rel => exact ⟨i + 1, rfl, by have := HKK.out; omega, HT7, HT8⟩
          · obtain ⟨q, hq⟩ : ∃ q, k = q + 1 := ⟨k - 1, by omega⟩
            obtain ⟨y, gy⟩ := rec_at (l := srt (l.take i)) (k := q) (by rw [HM.out]; omega)
            obtain ⟨g', o', c2, f1, f2, q1, q2, q3⟩ := HOB.out.1.sr.at gy
            rw [HM.out] at f1
            injection f1 with f1a _ f1b
            subst f1a f1b
            have hxy : ¬ (x.1 < y.1) := by have := HKL.out y (by omega) (by rw [hq]; exact gy); omega
            have hkp : (0 : Int) < (k : Int) := by omega
            have hqm : (q : Int) < (m : Int) := by omega
            have hq0 : (0 : Int) ≤ (q : Int) := by omega
            have hkq : (k : Int) - 1 = (q : Int) := by omega
            have wq : IntKind.i64.wrap ((k : Int) - 1) = (q : Int) := by rw [IntKind.wrap_i64]; omega
            have wqq : IntKind.i64.wrap (q : Int) = (q : Int) := by rw [IntKind.wrap_i64]; omega
            obtain ⟨x1, x2, x3⟩ := x
            obtain ⟨y1, y2, y3⟩ := y
            dsimp only at p1 p2 p3 q1 q2 q3 hxy
            have hkn : 0 < k := by omega
            have hd1 : decide (y1 > x1) = false := decide_eq_false hxy
            have hd2 : decide (x1 < y1) = false := decide_eq_false hxy
            clear gy e2 f2 hk hkm hq hlt hstop hk0
            go_wp2_with fail
            go_quiet (fail)
            obtain ⟨ah, at', v1, w1, v2, w2, v3, w3, t1, t2, t3, t4, t5, t6, t7, t8, t9⟩ := HEND.out _ (grp.below_drewN wr nq)
            obtain ⟨z1, z2, z3⟩ := HLX.out w1 t9
            have HT3 := Lib.hid t3
            have HT5 := Lib.hid t5
            have HT6 := Lib.hid t6
            have HT7 := Lib.hid t7
            have HT8 := Lib.hid t8
            clear t3 t4 t5 t6 t7 t8 t9
            try dsimp only at HT5 z1 z2 z3
            go_wp2_with (at_builtin; first | (refine wpList_appR rfl (.tmp 33) (.tmp 36) 22 rfl rfl rfl (HT3.out _) ?_) | (refine wpList_appR rfl (.tmp 38) (.tmp 43) 22 rfl rfl rfl (HT5.out _) ?_) | (refine wpList_appR rfl (.tmp 45) (.tmp 48) 22 rfl rfl rfl (HT6.out _) ?_))
            go_roundg (n - (i + 1))
            case measure => have := HKK.out; omega
            case rel => exact ⟨i + 1, rfl, by have := HKK.out; omega, HT7, HT8⟩
    · have hlt' : ¬ ((i : Int) < (n : Int)) := by omega
      have HE : Hid (∃ v', Ending.returned (.slice a3 m c3) = .returned v' ∧ Own wr w.heap.size v' (srt l) ∧ Below w.heap.size w wr) := Lib.hid ⟨_, rfl, by
        have := HO.out
        rwa [List.take_of_length_le (by rw [HN.out]; omega)] at this, HB.out⟩
      clear hlt hi hm hmi
      go_wp2
      go_ret
      exact HE.out
end Go.Proofs.Ytamdbfkofdjmlaa.opr
