/- Whether there are neither too few nor too many of anything. -/
import Derived.Test.YtjmfneljgogohaaDoorJbJ
namespace Go.Proofs.YtjmfneljgogohaaDoor.jb
set_option linter.unusedSimpArgs false
set_option linter.unusedVariables false
open Go.RowKit nam exp

theorem box2 {w W : World} {a b : Value} {t : TypeId} (hW : w.alloc (.cells #[a, b] t) = W) : W.cell? ⟨w.heap.size, 0, none⟩ = some a ∧ W.cell? ⟨w.heap.size, 1, none⟩ = some b := by
  subst hW
  have h := heap_last (w := w) (o := .cells #[a, b] t) rfl
  exact ⟨cell_of h rfl, cell_of h rfl⟩
theorem room_drop {l : List Nd} {k : Nat} {q : Int} (h : k < l.length) : roomN (l.drop k) q = roomN (l.drop (k + 1)) (leave l[k].x.size q) := by
  rw [List.drop_eq_getElem_cons h]; rfl
set_option maxHeartbeats 1600000 in
set_option maxRecDepth 1000000 in
theorem bounded_any {w : World} {v : Value} {l : List Nd} (par : Int) (h : Nodes w v l) :
    Calls Tryd.prog 18 #[.agg #[.int .i64 par, v]] w fun e w' => e = .returned (.bool (boundedB par l)) ∧ Below w.heap.size w w' := by
  obtain ⟨W, hW⟩ : ∃ W, w.alloc (.cells #[.int .i64 par, v] 33) = W := ⟨_, rfl⟩
  have hwb : Below w.heap.size w W := by rw [← hW]; exact below_made _ _
  obtain ⟨c0, c1⟩ := box2 hW
  have HNS := Lib.hid (h.on hwb)
  have HB := Lib.hid hwb
  obtain ⟨a, c, rfl, -, -⟩ := id h
  obtain ⟨n, hn⟩ : ∃ n, l.length = n := ⟨_, rfl⟩
  have HN := Lib.hid hn
  have HR : Hid (boundedB par l = (decide (1 ≤ par ∧ par ≤ 4 ∧ 2 ≤ n ∧ n ≤ 12) && decide (0 ≤ roomN l 1000))) := Lib.hid (by unfold boundedB; rw [hn])
  rw [HR.out]
  clear HR
  rw [hn] at c1 HNS hW ⊢
  clear h hn hwb
  have hor : par < 1 ∨ (¬ par < 1 ∧ 4 < par) ∨ (¬ par < 1 ∧ ¬ 4 < par ∧ (n : Int) < 2) ∨ (¬ par < 1 ∧ ¬ 4 < par ∧ ¬ (n : Int) < 2 ∧ 12 < (n : Int)) ∨ (¬ par < 1 ∧ ¬ 4 < par ∧ ¬ (n : Int) < 2 ∧ ¬ 12 < (n : Int)) := by omega
  rcases hor with h1 | ⟨h1, h2⟩ | ⟨h1, h2, h3⟩ | ⟨h1, h2, h3, h4⟩ | ⟨h1, h2, h3, h4⟩
  · rw [decide_eq_false (by omega), Bool.false_and]
    go_enter Tryd.func18, Tryd.ntmps18
    go_wp2_with fail
    go_ret
    exact ⟨rfl, HB.out⟩
  · rw [decide_eq_false (by omega), Bool.false_and]
    go_enter Tryd.func18, Tryd.ntmps18
    go_wp2_with fail
    go_ret
    exact ⟨rfl, HB.out⟩
  · rw [decide_eq_false (by omega), Bool.false_and]
    go_enter Tryd.func18, Tryd.ntmps18
    go_wp2_with fail
    go_ret
    exact ⟨rfl, HB.out⟩
  · rw [decide_eq_false (by omega), Bool.false_and]
    go_enter Tryd.func18, Tryd.ntmps18
    go_wp2_with fail
    go_ret
    exact ⟨rfl, HB.out⟩
  · rw [decide_eq_true (by omega), Bool.true_and]
    go_enter Tryd.func18, Tryd.ntmps18
    go_wp2_with fail
    go_loopg [3, 28] n (fun g v3 v28 wr => ∃ (k : Nat) (q : Int), k + g = n ∧ v28 = .int .i64 k ∧ v3 = .int .i64 q ∧ roomN (l.drop k) q = roomN l 1000 ∧ -(k : Int) ≤ q ∧ q ≤ 1000 ∧ wr = W)
    case atStart => exact ⟨0, 1000, by omega, rfl, by go_num, rfl, by omega, by omega, rfl⟩
    case round =>
      obtain ⟨k, q, hk, rfl, rfl, hf, hq1, hq2, rfl⟩ := hrel
      have HF := Lib.hid hf; clear hf
      by_cases hkn : k < n
      · have hkl : k < l.length := by rw [HN.out]; exact hkn
        have hki : (k : Int) < (n : Int) := by omega
        obtain ⟨a', c', hac, -, hat⟩ := HNS.out
        obtain ⟨rfl, rfl⟩ : a = a' ∧ c = c' := by simp at hac; exact ⟨hac.1, hac.2.2⟩
        obtain ⟨b1, rfl, hat2⟩ := hat (by omega)
        obtain ⟨-, vi, va, -, -, -, -, -, k5, -, -, hva⟩ := hat2 k hkl
        have HC := Lib.hid (left_at _ _ (Nat.le_refl _) wr b1 (k * 7 + 3) va q k5 hva (by omega) hq2)
        rw [← size_eq] at HC
        have HD := Lib.hid (room_drop (q := q) hkl)
        have hls := leave_bound (s := l[k].x.size) (m := (k : Int)) hq1 (by omega) hq2
        obtain ⟨q', hq'⟩ : ∃ q', leave l[k].x.size q = q' := ⟨_, rfl⟩
        rw [hq'] at HC HD hls
        obtain ⟨g1, g2⟩ := hls
        clear hkl hat hat2 hq' hac k5 hva
        go_wp2_with fail
        refine HC.out.mono ?_
        rintro e w1 ⟨rfl, rfl⟩
        go_wp2_with fail
        go_roundg (gk - 1)
        case rel => exact ⟨k + 1, q', by omega, by go_num, rfl, by rw [← HD.out]; exact HF.out, by push_cast; omega, by omega, rfl⟩
        case measure => omega
      · have hki : ¬ (k : Int) < (n : Int) := by omega
        have HE : Hid (q = roomN l 1000) := Lib.hid (by rw [← HF.out, List.drop_eq_nil_of_le (by rw [HN.out]; omega)]; rfl)
        clear hkn
        go_wp2_with fail
        try rw [Exit.noGoto_ret]
        go_ret
        exact ⟨ret_bool (by rw [← HE.out]), HB.out⟩
end Go.Proofs.YtjmfneljgogohaaDoor.jb
