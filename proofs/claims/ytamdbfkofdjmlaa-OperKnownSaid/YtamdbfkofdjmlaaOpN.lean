/- slices.Concat and oper.Merge. -/
import Derived.Test.YtamdbfkofdjmlaaOpL
namespace Go.Proofs.Ytamdbfkofdjmlaa.opr
set_option linter.unusedSimpArgs false
set_option linter.unusedVariables false
open Go.RowKit
attribute [local go_sem ↓] Go.wp_at_zero Go.wp_at_succ
open Go.Proofs.Ytamdbfkofdjmlaa.tbl (Only lt_of_get)
open Go.Proofs.Ytamdbfkofdjmlaa.grp (below_on' below_made)
/-- A row of records of one's own. -/
def Own (w : World) (B : Nat) (v : Value) (l : List Rc) : Prop := w.ownsRow B 32 3 v l.length (cellsR l)
theorem Own.sr {w : World} {B : Nat} {v : Value} {l : List Rc} (h : Own w B v l) : Sr w v l := (Sr.own h).2
theorem Own.len {w : World} {B : Nat} {v : Value} {l : List Rc} (h : Own w B v l) : ∃ a c, v = .slice a l.length c := h.sr.len
theorem Own.nil (w : World) (B : Nat) : Own w B (.slice none 0 0) [] := World.ownsRow_nil _ _ _ _
theorem own_below3 {W W' : World} {B e size n : Nat} {v : Value} {xs : List Value} (h : W.ownsRow B e size v n xs) (hb : Below W.heap.size W W') : W'.ownsRow B e size v n xs :=
  h.kept (row := none) ⟨hb.os, hb.tape, hb.output, hb.size, fun k hk _ => hb.block k hk⟩ (by cases hv : v.ownBlock <;> simp)
theorem Own.below {w w' : World} {B : Nat} {v : Value} {l : List Rc} (h : Own w B v l) (hb : Below w.heap.size w w') : Own w' B v l := own_below3 h hb
/-- Records more. -/
theorem Own.app {w : World} {B : Nat} {v u : Value} {l q : List Rc} (h : Own w B v l) (hu : Sr w u q) (hl : l.length + q.length ≤ 1000000) (hB : B ≤ w.heap.size) (ty : TypeId) :
    ∃ v' w', (Builtin.append_ #[22, 22] ty #[v, u]).run Try.prog w = .ok v' w' ∧ Own w' B v' (l ++ q) ∧ w.grownBy w' v.ownBlock ∧ ∀ j, v.ownBlock = some j → B ≤ j := by
  obtain ⟨v', w', h1, h2, h3⟩ := appR_run h hu hl hB ty
  refine ⟨v', w', h1, ?_, h3, fun j hj => (h.lt j hj).1⟩
  unfold Own
  rw [List.length_append, cellsR_append]
  exact h2
def CcRel (w : World) (ls : List (List Rc)) (k : Nat) (v : Value) (wr : World) : Prop := Own wr w.heap.size v (tot ls k) ∧ Below w.heap.size w wr
theorem cc_step {w wr : World} {ls : List (List Rc)} {k : Nat} {v u : Value} {l : List Rc} (h : CcRel w ls k v wr) (hk : ls[k]? = some l) (hu : Sr wr u l) (ht : ls.flatten.length ≤ 1000000) :
    ∃ v' w', (∀ ty, (Builtin.append_ #[22, 22] ty #[v, u]).run Try.prog wr = .ok v' w') ∧ CcRel w ls (k + 1) v' w' := by
  have h1 := tot_le ls (k + 1)
  rw [tot_succ hk, List.length_append] at h1
  obtain ⟨v', w', h2, h3, h4, h5⟩ := h.1.app hu (by omega) h.2.size 0
  refine ⟨v', w', fun ty => ?_, ?_, h.2.grown h4 h.2.size h5⟩
  · obtain ⟨v2, w2, k2, -, -, -⟩ := h.1.app hu (by omega) h.2.size ty
    exact h2
  · rw [tot_succ hk]; exact h3
theorem merge_cells {g o k : Nat} {w wr : World} {v : Value} (hb : Below w.heap.size w wr) (hg : g < w.heap.size) (h : w.cell? ⟨g, o + k, none⟩ = some v) : wr.cell? ⟨g, o + k, none⟩ = some v := (hb.cell (p := ⟨g, o + k, none⟩) hg).trans h
set_option maxHeartbeats 6400000 in
set_option maxRecDepth 1000000 in
theorem concat_any {w : World} {v : Value} {vs : List Value} {ls : List (List Rc)} (h : Lr w v vs ls) (ht : ls.flatten.length ≤ 1000000) (hl : ls.length ≤ 1000000) :
    Calls Try.prog 17 #[v] w fun e w' => ∃ v', e = .returned v' ∧ Own w' w.heap.size v' ls.flatten ∧ Below w.heap.size w w' := by
  obtain ⟨a, c, rfl⟩ := h.len
  have HL := Lib.hid h
  have HT := Lib.hid ht
  obtain ⟨n, hn⟩ : ∃ n, ls.length = n := ⟨_, rfl⟩
  have HN := Lib.hid hn
  have hn1 : (n : Int) ≤ 1000000 := by omega
  rw [hn]
  clear h ht hl hn
  have HG := Lib.hid (fun k (hk : k ≤ 1000000) w => grow_any k hk w)
  go_enter Try.func17, Try.ntmps17
  go_wp2
  go_loopg [3, 11] n (fun g v3 v11 wr => ∃ k T, v11 = .int .i64 (k : Nat) ∧ v3 = .int .i64 (T : Nat) ∧ k + g = n ∧ T = (tot ls k).length ∧ w = wr)
  case atStart => exact ⟨0, 0, rfl, rfl, by omega, rfl, rfl⟩
  case round =>
    obtain ⟨k, T, rfl, rfl, hk, hT, rfl⟩ := hrel
    have hT1 : T ≤ 1000000 := by rw [hT]; exact Nat.le_trans (tot_le ls k) HT.out
    have hT2 : (T : Int) ≤ 1000000 := by omega
    have hT0 : ¬ ((T : Int) < 0) := by omega
    by_cases hlt : k < n
    · have hlt' : (k : Int) < (n : Int) := by omega
      have hk0 : (0 : Int) ≤ (k : Int) := by omega
      obtain ⟨g, o, c', l, ax, cx, e1, e2, e3, e4, e5⟩ := HL.out.at (k := k) (by have := HN.out; omega)
      rw [HN.out] at e1
      injection e1 with e1a _ e1b
      subst e1a e1b
      obtain ⟨m, hm⟩ : ∃ m, l.length = m := ⟨_, rfl⟩
      rw [hm] at e4
      have hTk : (tot ls (k + 1)).length = T + m := by rw [tot_succ e3, List.length_append, ← hT, hm]
      have hTm : T + m ≤ 1000000 := by rw [← hTk]; exact Nat.le_trans (tot_le ls _) HT.out
      have hTm' : (T : Int) + (m : Int) ≤ 1000000 := by omega
      have hTm0 : ¬ ((T : Int) + (m : Int) < 0) := by omega
      have HTK := Lib.hid hTk
      have HKK := Lib.hid (And.intro hk hlt)
      clear hT hT1 hlt e5 e3 hm hTk hTm hk
      go_wp2
      go_roundg (n - (k + 1))
      case measure => have := HKK.out; omega
      case rel => exact ⟨k + 1, T + m, rfl, rfl, by have := HKK.out; omega, HTK.out.symm, rfl⟩
    · have hlt' : ¬ ((k : Int) < (n : Int)) := by omega
      have hTA : Hid (T ≤ 1000000) := Lib.hid hT1
      clear hT hT1 hlt hk
      go_wp2_with fail
      refine (HG.out T hTA.out _).mono ?_
      rintro e w1 ⟨v1, rfl, ho1, hb1⟩
      have HR0 : Hid (CcRel w ls 0 v1 w1) := Lib.hid ⟨ho1, hb1⟩
      clear ho1 hb1
      go_wp2
      go_loopg [6, 27] n (fun g v6 v27 w2 => ∃ k, v27 = .int .i64 (k : Nat) ∧ k + g = n ∧ Hid (CcRel w ls k v6 w2))
      case atStart => exact ⟨0, rfl, by omega, HR0⟩
      case round =>
        clear HR0
        obtain ⟨k, rfl, hk, HR⟩ := hrel
        obtain ⟨a6, c6, hv6⟩ := HR.out.1.len
        subst hv6
        by_cases hlt : k < n
        · have hlt' : (k : Int) < (n : Int) := by omega
          have hk0 : (0 : Int) ≤ (k : Int) := by omega
          obtain ⟨g, o, c', l, ax, cx, e1, e2, e3, e4, e5⟩ := HL.out.at (k := k) (by have := HN.out; omega)
          rw [HN.out] at e1
          injection e1 with e1a _ e1b
          subst e1a e1b
          obtain ⟨v', w', hr1, hr2⟩ := cc_step HR.out e3 (e5.below HR.out.2) HT.out
          have e6 := merge_cells HR.out.2 e2 e4
          have HR1 := Lib.hid hr1
          have HS1 := Lib.hid hr2
          have HKK := Lib.hid (And.intro hk hlt)
          clear hr1 hr2 e3 e4 e5 hk hlt
          go_wp2_with (at_builtin; refine wpList_appR rfl (.tmp 31) (.tmp 32) 22 rfl rfl rfl (HR1.out _) ?_)
          go_roundg (n - (k + 1))
          case measure => have := HKK.out; omega
          case rel => exact ⟨k + 1, rfl, by have := HKK.out; omega, HS1⟩
        · have hlt' : ¬ ((k : Int) < (n : Int)) := by omega
          have HE := Lib.hid (show ∃ v', Ending.returned (.slice a6 (tot ls k).length c6) = .returned v' ∧ Own wr w.heap.size v' ls.flatten ∧ Below w.heap.size w wr from ⟨_, rfl, by
            have h1 := HR.out.1
            have h2 : tot ls k = ls.flatten := by rw [← tot_all, HN.out]; congr 1; omega
            rw [h2] at h1 ⊢
            exact h1, HR.out.2⟩)
          clear hlt hk
          go_wp2
          go_ret
          exact HE.out
set_option maxHeartbeats 6400000 in
set_option maxRecDepth 1000000 in
theorem merge_any {w : World} {v : Value} {vs : List Value} {ls : List (List Rc)} (h : Lr w v vs ls) (ht : ls.flatten.length ≤ 1000000) (hl : ls.length ≤ 1000000) :
    Calls Try.prog 15 #[v] w fun e w' => ∃ v', e = .returned v' ∧ Own w' w.heap.size v' (srt ls.flatten) ∧ Below w.heap.size w w' := by
  have HC := Lib.hid (concat_any h ht hl)
  have HT := Lib.hid ht
  clear h ht hl
  go_enter Try.func15, Try.ntmps15
  go_wp2_with fail
  refine HC.out.mono ?_
  rintro e w1 ⟨v1, rfl, ho1, hb1⟩
  by_cases h0 : ls.flatten.length = 0
  · have e0 : ls.flatten = [] := List.length_eq_zero_iff.1 h0
    rw [e0] at ho1
    obtain ⟨ad, cc, rfl⟩ := ho1.len
    have HSN := Lib.hid (fun w => sortStable_nil ad cc w)
    have HF : Hid (∃ v', Ending.returned (.slice ad 0 cc) = .returned v' ∧ Own w1 w.heap.size v' (srt ls.flatten) ∧ Below w.heap.size w w1) := Lib.hid ⟨_, rfl, by rw [e0]; exact ho1, hb1⟩
    clear h0 e0 ho1 hb1
    dsimp only [List.length_nil]
    go_wp2_with fail
    refine (HSN.out _).mono ?_
    rintro e w2 ⟨rfl, rfl⟩
    go_wp2
    go_ret
    exact HF.out
  · obtain ⟨g, cap, S, rfl, hc1, hc2, hBg, hblk, hback⟩ := Blk.own ho1 (by omega)
    obtain ⟨n, hn⟩ : ∃ n, ls.flatten.length = n := ⟨_, rfl⟩
    have HS := Lib.hid (sortStable_any (cap := cap) hblk hn (by rw [← hn]; exact HT.out))
    have HF : Hid (∀ w2, Blk w2 g 0 S (srt ls.flatten) → Only (· = g) w1 w2 → ∃ v', Ending.returned (.slice (some ⟨g, 0, none⟩) n cap) = .returned v' ∧ Own w2 w.heap.size v' (srt ls.flatten) ∧ Below w.heap.size w w2) := Lib.hid fun w2 hb ho => by
      have h1 := hback w2 (srt ls.flatten) (srt_len _) hb
      refine ⟨_, rfl, ?_, hb1.trans (ho.below hb1.size (fun k hk => by rw [hk]; exact hBg))⟩
      unfold Own
      rw [srt_len]
      rw [hn] at h1 ⊢
      exact h1
    rw [hn]
    clear h0 ho1 hc1 hc2 hblk hback hb1 hn
    go_wp2_with fail
    refine HS.out.mono ?_
    rintro e w2 ⟨rfl, h1, h2⟩
    have HF2 := Lib.hid (HF.out w2 h1 h2)
    clear h1 h2 HF
    go_wp2
    go_ret
    exact HF2.out
end Go.Proofs.Ytamdbfkofdjmlaa.opr
