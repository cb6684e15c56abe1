/- The reference's Gets; what is too much. -/
import Derived.Test.YtamdbfkofdjmlaaOpZ
namespace Go.Proofs.Ytamdbfkofdjmlaa.opr
set_option linter.unusedSimpArgs false
set_option linter.unusedVariables false
open Go.RowKit
attribute [local go_sem ↓] Go.wp_at_zero Go.wp_at_succ
open Go.Proofs.Ytamdbfkofdjmlaa.tbl (Only lt_of_get)
open Go.Proofs.Ytamdbfkofdjmlaa.grp (below_on' below_made)
set_option maxHeartbeats 12800000 in
set_option maxRecDepth 1000000 in
theorem rgets_any {w : World} {v : Value} {vs : List Value} {ls : List (List Rc)} (h : Lr w v vs ls) (ht : ls.flatten.length ≤ 900) (hl : ls.length ≤ 900) (nv : Nv) :
    Calls Try.prog 14 #[nodeV nv, v] w fun e w' => ∃ v', e = .returned v' ∧ Own w' w.heap.size v' (srt (pre (decide (nv.kd = 8)) ls ls.length)) ∧ Below w.heap.size w w' := by
  obtain ⟨a, c, rfl⟩ := h.len
  have hb0 := below_made w (.cells nv.cells 29)
  have HB0 := Lib.hid hb0
  have HNB := NBox.new w nv
  have HL := Lib.hid (h.below hb0)
  have HT := Lib.hid ht
  obtain ⟨n, hn⟩ : ∃ n, ls.length = n := ⟨_, rfl⟩
  have HN := Lib.hid hn
  have hn1 : (n : Int) ≤ 900 := by omega
  obtain ⟨U, hU⟩ : ∃ U, decide (nv.kd = 8) = U := ⟨_, rfl⟩
  have HU := Lib.hid hU
  have HSZ : Hid ((w.alloc (.cells nv.cells 29)).heap.size = w.heap.size + 1) := Lib.hid (by rw [World.size_alloc])
  have HK0 : Hid (∀ w', Below (w.alloc (.cells nv.cells 29)).heap.size (w.alloc (.cells nv.cells 29)) w' → w'.cell? ⟨w.heap.size, 1, none⟩ = some (.int .u8 (nv.kd : Int))) := Lib.hid fun w' hw => (HNB.below hw).facts.2.1
  obtain ⟨s, kd, ia, il, ic, op, xn, xa, xl, xc, nn⟩ := nv
  unfold nodeV Nv.cells
  unfold Nv.cells at HB0 HL HSZ HK0
  dsimp only at HB0 HU HL HSZ HK0 ⊢
  dsimp only at hU
  rw [hU]
  rw [hn]
  obtain ⟨W0, hW0⟩ : ∃ W, w.alloc (.cells #[.string s, .int .u8 (kd : Int), .slice ia il ic, .int .u8 (op : Int), .int .i64 xn, .slice xa xl xc, .int .i64 nn] 29) = W := ⟨_, rfl⟩
  rw [hW0] at HB0 HL HSZ HK0
  have HWE := Lib.hid hW0
  have HR0 : Hid (GtRel W0 U ls 0 0 (.slice none 0 0) W0) := Lib.hid ⟨Own.nil _ _, Below.refl _ _⟩
  clear h hb0 ht hl hn hU HNB hW0
  go_enter Try.func14, Try.ntmps14
  go_wp2
  rw [HWE.out]
  go_loopg [5, 6] n (fun g v5 v6 wr => ∃ b, v6 = .int .i64 (b : Nat) ∧ b + g = n ∧ Hid (GtRel W0 U ls b 0 v5 wr))
  case atStart => exact ⟨0, rfl, by omega, HR0⟩
  case round =>
    clear HR0
    obtain ⟨b, rfl, hb, HR⟩ := hrel
    by_cases hlt : b < n
    · have hlt' : (b : Int) < (n : Int) := by omega
      have hb0 : (0 : Int) ≤ (b : Int) := by omega
      obtain ⟨g, o, c', l, ax, cx, e1, e2, e3, e4, e5⟩ := HL.out.at (k := b) (by have := HN.out; omega)
      rw [HN.out] at e1
      injection e1 with e1a _ e1b
      subst e1a e1b
      obtain ⟨m, hm⟩ : ∃ m, l.length = m := ⟨_, rfl⟩
      rw [hm] at e4 e5
      have HM := Lib.hid hm
      have HROW := Lib.hid (row_of e3)
      have hm1 : (m : Int) ≤ 900 := by
        have h1 := tot_le ls (b + 1)
        rw [tot_succ e3, List.length_append] at h1
        have := HT.out
        omega
      have HS := Lib.hid e5
      have HKK := Lib.hid (And.intro hb hlt)
      have HBN : Hid (b < ls.length) := Lib.hid (by rw [HN.out]; exact hlt)
      have HC := Lib.hid (fun w' (hw : Below W0.heap.size W0 w') => merge_cells hw e2 e4)
      clear e4 e5 e3 hb hlt hm e2
      go_wp2
      go_loopg [5, 7] m (fun g v5 v7 wr => ∃ i, v7 = .int .i64 (i : Nat) ∧ i + g = m ∧ Hid (GtRel W0 U ls b i v5 wr))
      case atStart => exact ⟨0, rfl, by omega, HR⟩
      case round =>
        clear HR
        obtain ⟨i, rfl, hi, HR⟩ := hrel
        have hc := HC.out _ HR.out.2
        have hk := HK0.out _ HR.out.2
        by_cases hlt : i < m
        · have hlti : (i : Int) < (m : Int) := by omega
          have hi0 : (0 : Int) ≤ (i : Int) := by omega
          obtain ⟨r, gr⟩ := rec_at (l := l) (k := i) (by rw [HM.out]; exact hlt)
          obtain ⟨g', o', c2, f1, f2, p1, p2, p3⟩ := (HS.out.below HR.out.2).at gr
          rw [HM.out] at f1
          injection f1 with f1a _ f1b
          subst f1a f1b
          obtain ⟨r1, r2, r3⟩ := r
          dsimp only at p1 p2 p3
          have HGR := Lib.hid gr
          have HII := Lib.hid (And.intro hi hlt)
          clear gr hi hlt f2
          by_cases hkd : kd = 8
          · subst hkd
            have hUt : U = true := HU.out.symm
            subst hUt
            obtain ⟨v', w', t1, t2⟩ := gt_step HR.out (r := (r1, r2, r3)) (by rw [HROW.out]; exact HGR.out) HBN.out HT.out (.cells #[.int .i64 (Go.RowKit.wrap64 (Go.RowKit.wrap64 (8 * r1) + (b : Int))), .int .i64 r2, .int .i64 r3] 32) (Go.RowKit.wrap64 (Go.RowKit.wrap64 (8 * r1) + (b : Int)), r2, r3) (by unfold sh; rw [if_pos rfl])
            have HT1 := Lib.hid t1
            have HT2 := Lib.hid t2
            dsimp only at HT1
            clear t1 t2
            have hkn : wr.cell? ⟨w.heap.size, 1, none⟩ = some (.int .u8 8) := hk
            have hk' : ((wr.alloc (.cells #[.int .i64 r1, .int .i64 r2, .int .i64 r3] 32))).cell? ⟨w.heap.size, 1, none⟩ = some (.int .u8 8) := ((below_made wr _).cell (p := ⟨w.heap.size, 1, none⟩) (World.block_lt_of_cell? wr _ hkn)).trans hkn
            go_wp2_with (at_builtin; refine wpList_appR rfl (.tmp 40) (.tmp 42) 22 rfl rfl rfl (HT1.out _) ?_)
            go_roundg (m - (i + 1))
            case measure => have := HII.out; omega
            case rel => exact ⟨i + 1, rfl, by have := HII.out; omega, HT2⟩
          · have hUf : U = false := by rw [← HU.out]; exact decide_eq_false hkd
            subst hUf
            obtain ⟨v', w', t1, t2⟩ := gt_step HR.out (r := (r1, r2, r3)) (by rw [HROW.out]; exact HGR.out) HBN.out HT.out (.cells #[.int .i64 r1, .int .i64 r2, .int .i64 r3] 32) (r1, r2, r3) (by unfold sh; rw [if_neg (by simp)])
            have HT1 := Lib.hid t1
            have HT2 := Lib.hid t2
            dsimp only at HT1
            clear t1 t2
            have hk' : ((wr.alloc (.cells #[.int .i64 r1, .int .i64 r2, .int .i64 r3] 32))).cell? ⟨w.heap.size, 1, none⟩ = some (.int .u8 (kd : Int)) := ((below_made wr _).cell (p := ⟨w.heap.size, 1, none⟩) (World.block_lt_of_cell? wr _ hk)).trans hk
            have hkd1 : ¬ ((kd : Int) = 8) := by omega
            have hkd2 : ((kd : Int) == 8) = false := beq_eq_false_iff_ne.2 hkd1
            clear hkd
            go_wp2_with (at_builtin; refine wpList_appR rfl (.tmp 40) (.tmp 42) 22 rfl rfl rfl (HT1.out _) ?_)
            go_roundg (m - (i + 1))
            case measure => have := HII.out; omega
            case rel => exact ⟨i + 1, rfl, by have := HII.out; omega, HT2⟩
        · have hlti : ¬ ((i : Int) < (m : Int)) := by omega
          have HR2 := Lib.hid (HR.out.next (by rw [HROW.out, HM.out]; omega))
          clear hlt hi
          go_wp2
          go_roundg (n - (b + 1))
          case measure => have := HKK.out; omega
          case rel => exact ⟨b + 1, rfl, by have := HKK.out; omega, HR2⟩
    · have hlt' : ¬ ((b : Int) < (n : Int)) := by omega
      have hown := HR.out.1
      rw [List.take_zero, List.map_nil, List.append_nil, show b = n by omega] at hown
      have hq9 : (pre U ls n).length ≤ 900 := by
        rw [pre_len U (by rw [HN.out]; exact Nat.le_refl _), ← HN.out, tot_all]
        exact HT.out
      obtain ⟨a5, c5, rfl⟩ := hown.len
      have HM := Lib.hid (rmerge_any hown.sr hq9)
      have HBW := Lib.hid (below_on' HB0.out (by rw [← HSZ.out] at *; exact HR.out.2))
      clear hlt hb hown hq9
      go_wp2_with fail
      refine HM.out.mono ?_
      rintro e w1 ⟨v', rfl, ho, hb⟩
      obtain ⟨a1, c1', rfl⟩ := ho.len
      have HF := Lib.hid (show ∃ v', Ending.returned (.slice a1 (srt (pre U ls n)).length c1') = .returned v' ∧ Own w1 w.heap.size v' (srt (pre U ls n)) ∧ Below w.heap.size w w1 from ⟨_, rfl, ho.base HBW.out.size, below_on' HBW.out hb⟩)
      clear ho hb
      go_wp2
      go_ret
      exact HF.out
end Go.Proofs.Ytamdbfkofdjmlaa.opr
