/- ExprBlanks returns true at any text in whatever world, and turns nothing that was there. -/
import Derived.Test.YtnnaejkhbccnaaaExG
import Derived.Test.YtnnaejkhbccnaaaExBa
namespace Go.Proofs.Ytnnaejkhbccnaaa.exp
set_option linter.unusedSimpArgs false
set_option linter.unusedVariables false
open Go.RowKit nam lex

theorem wide_lone {l : List Nat} {r : Nat} (h : okR r) : textOf l ++ ((⟨#[32]⟩ : ByteArray) ++ Utf8.encode (r : Int) ++ ⟨#[32]⟩) = textOf (l ++ [32, r, 32]) := by
  rw [textOf_one r h]
  apply byteArray_ext
  rw [append_toList, append_toList, append_toList, textOf_toList, textOf_toList, textOf_toList]
  simp
  rfl
/-- At each round's head. -/
def WideRel (s : ByteArray) (w : World) (u : Value) (w' : World) : Prop :=
  ∃ (pos : Nat) (L : List Nat), w' = w.iter s pos ∧ u = .string (textOf (spread L)) ∧ L ++ rn s pos = rn s 0 ∧ L.length ≤ pos ∧ pos ≤ s.size

set_option maxHeartbeats 1600000 in
set_option maxRecDepth 1000000 in
theorem law_blanks (s : ByteArray) (hs : s.size ≤ 140737488351232) (w : World) : Calls Try.prog 8 #[.string s] w fun e w' => e = .returned (.bool true) ∧ Below w.heap.size w w' := by
  go_enter Try.func8, Try.ntmps8
  go_wp2_with fail
  go_loopw [3] (fun u w' => WideRel s w u w') (fun _ w' => s.size - w'.iterPos w.heap.size)
  case atStart => exact ⟨0, [], rfl, rfl, rfl, Nat.zero_le _, Nat.zero_le _⟩
  case round =>
    obtain ⟨pos, L, rfl, rfl, hL, hlen, hps⟩ := hrel
    have HL := Lib.hid hL
    by_cases hp : pos < s.size
    · have hnx : ∀ ty, (Instr.next (.pointer (some ⟨w.heap.size, 0, none⟩)) true ty).run Try.prog (w.iter s pos) = _ := fun ty => run_next_any w s pos ty hp
      rw [rn_step s pos hp] at hL
      have hwd := width_pos s pos hp
      have hft := decode_fits s pos hp
      obtain ⟨r, hr⟩ : ∃ r, (Utf8.decode s pos).1 = r := ⟨_, rfl⟩
      obtain ⟨d, hd⟩ : ∃ d, (Utf8.decode s pos).2 = d := ⟨_, rfl⟩
      rw [hr, hd] at hL
      rw [hd] at hwd hft
      simp only [hr, hd] at hnx
      have hok : okR r := rn_ok s 0 r (by rw [← hL]; simp)
      have HN : Hid (∀ u, u = .string (textOf (spread (L ++ [r]))) → WideRel s w u (w.iter s (pos + d))) := Lib.hid fun u hu => ⟨pos + d, L ++ [r], rfl, hu, by rw [← hL]; simp, by simp; omega, hft⟩
      have hs1 := textOf_bound (spread L) (3 * s.size) (Nat.le_trans (spread_len L) (by omega))
      obtain ⟨A, hA⟩ : ∃ A, textOf (spread L) = A := ⟨_, rfl⟩
      have hen : (Utf8.encode (r : Int)).size ≤ 4 := by rw [textOf_one r hok]; exact textOf_bound [r] 1 (by simp)
      obtain ⟨E, hE⟩ : ∃ E, Utf8.encode (r : Int) = E := ⟨_, rfl⟩
      rw [hA] at hs1 ⊢
      rw [hE] at hen
      have HM : Hid (s.size - (pos + d) < s.size - pos) := Lib.hid (by omega)
      have HOK := Lib.hid hok; have HE := Lib.hid hE; have HA := Lib.hid hA
      clear hr hd hok hA hE hL
      by_cases hl : lone r = true
      · have HW : Hid (A ++ ((⟨#[32]⟩ : ByteArray) ++ E ++ ⟨#[32]⟩) = textOf (spread (L ++ [r]))) := Lib.hid (by rw [← HA.out, ← HE.out, wide_lone HOK.out, spread_snoc, if_pos hl])
        have hz32 : (⟨#[32]⟩ : ByteArray).size = 1 := rfl
        rcases lone_of hl with rfl | rfl | rfl | rfl | rfl
        all_goals
          have hE' := HE.out
          push_cast at hE'
          clear hl
          go_wp2_with fail
          go_roundw
          case rel => exact HN.out _ (by rw [← HW.out])
          case measure => simpa using HM.out
      · have HW : Hid (A ++ E = textOf (spread (L ++ [r]))) := Lib.hid (by rw [← HA.out, ← HE.out, textOf_snoc _ _ HOK.out, spread_snoc, if_neg hl])
        have g : r ≠ 40 ∧ r ≠ 41 ∧ r ≠ 43 ∧ r ≠ 42 ∧ r ≠ 45 := by
          refine ⟨?_, ?_, ?_, ?_, ?_⟩ <;> (rintro rfl; exact hl (by decide))
        have g1 : ((r : Int) == 40) = false := by simp; omega
        have g2 : ((r : Int) == 41) = false := by simp; omega
        have g3 : ((r : Int) == 43) = false := by simp; omega
        have g4 : ((r : Int) == 42) = false := by simp; omega
        have g5 : ((r : Int) == 45) = false := by simp; omega
        have hE' := HE.out
        clear hl g
        go_wp2_with fail
        go_roundw
        case rel => exact HN.out _ (by rw [← HW.out])
        case measure => simpa using HM.out
    · have hnx : ∀ ty, (Instr.next (.pointer (some ⟨w.heap.size, 0, none⟩)) true ty).run Try.prog (w.iter s pos) = _ := fun ty => run_next_end w s pos ty hp
      rw [rn_end s pos hp, List.append_nil] at hL
      subst hL
      have hs1 := textOf_bound (spread (rn s 0)) (3 * s.size) (Nat.le_trans (spread_len _) (by have := rn_length s 0; omega))
      have HF := Lib.hid (fun h1 h2 => blanks_facts (s := s) h1 h2)
      obtain ⟨T, hT⟩ : ∃ T, textOf (spread (rn s 0)) = T := ⟨_, rfl⟩
      rw [hT] at HF hs1 ⊢
      clear hT
      have HBW : Hid (Below w.heap.size w (w.iter s pos)) := Lib.hid (below_iter w s pos)
      obtain ⟨W, hW⟩ : ∃ W, w.iter s pos = W := ⟨_, rfl⟩
      rw [hW] at hnx HBW ⊢
      clear hW hlen hps hp
      obtain ⟨x, p, c, h1⟩ : ∃ x p c, parseO s = (x, p, c) := ⟨_, _, _, rfl⟩
      obtain ⟨y, q, d, h2⟩ : ∃ y q d, parseO T = (y, q, d) := ⟨_, _, _, rfl⟩
      have HP1 := Lib.hid h1; have HP2 := Lib.hid h2
      have hxs : x.size ≤ 1000 := by have := (parseO_facts s).1; rw [h1] at this; exact this
      rw [h1, h2] at HF
      have HXS := Lib.hid hxs
      clear h1 h2 hxs
      obtain ⟨z, hz⟩ : ∃ z : Nat, s.size = z := ⟨_, rfl⟩
      obtain ⟨z2, hz2⟩ : ∃ z : Nat, T.size = z := ⟨_, rfl⟩
      rw [hz, hz2] at HF
      by_cases b1 : (z : Int) > 5000
      · go_wp2_with fail
        refine (works_any _).mono ?_
        rintro e w1 ⟨rfl, hb⟩
        have HB := Lib.hid (HBW.out.trans (hb.mono HBW.out.size)); clear hb
        go_wp2_with fail
        try rw [Exit.noGoto_ret]
        go_ret
        exact ⟨rfl, HB.out⟩
      by_cases b2 : (z2 : Int) > 400
      · go_wp2_with fail
        refine (works_any _).mono ?_
        rintro e w1 ⟨rfl, hb⟩
        have HB := Lib.hid (HBW.out.trans (hb.mono HBW.out.size)); clear hb
        go_wp2_with fail
        try rw [Exit.noGoto_ret]
        go_ret
        exact ⟨rfl, HB.out⟩
      by_cases b3 : (z : Int) > 400
      · go_wp2_with fail
        refine (works_any _).mono ?_
        rintro e w1 ⟨rfl, hb⟩
        have HB := Lib.hid (HBW.out.trans (hb.mono HBW.out.size)); clear hb
        go_wp2_with fail
        try rw [Exit.noGoto_ret]
        go_ret
        exact ⟨rfl, HB.out⟩
      obtain ⟨hd, hy⟩ := HF.out (by omega) (by omega)
      simp only [] at hd hy
      subst hd; subst hy
      go_wp2_with fail
      refine (parse_of HP1.out _).mono ?_
      rintro e w1 ⟨a, k1, rfl, hL1, hb⟩
      obtain ⟨N1, hN1⟩ : ∃ N, w1.heap.size = N := ⟨_, rfl⟩
      obtain ⟨W1, hW1⟩ : ∃ W, w1.alloc (.cells #[.int .u8 (y.op : Int), .int .i64 y.n, .slice a y.args.length k1] 24) = W := ⟨_, rfl⟩
      have hbW : Below w1.heap.size w1 W1 := by rw [← hW1]; exact (Below.refl _ _).alloc (Nat.le_refl _) _
      have HBX : Hid (Bx W1 N1 (y.op : Int) y.n a y.args.length k1) := by refine Lib.hid ?_; rw [← hW1]; exact heap_last hN1.symm
      have HL := Lib.hid (hL1.under hbW)
      have HB : Hid (Below w.heap.size w W1) := Lib.hid (HBW.out.trans ((hb.trans (hbW.mono hb.size)).mono HBW.out.size))
      clear hL1 hb hbW
      go_wp2_with fail
      refine (parse_of HP2.out _).mono ?_
      rintro e w4 ⟨a', k2, rfl, hL4, hb4⟩
      obtain ⟨N2, hN2⟩ : ∃ N, w4.heap.size = N := ⟨_, rfl⟩
      obtain ⟨W2, hW2⟩ : ∃ W, w4.alloc (.cells #[.int .u8 (y.op : Int), .int .i64 y.n, .slice a' y.args.length k2] 24) = W := ⟨_, rfl⟩
      have hbW : Below w4.heap.size w4 W2 := by rw [← hW2]; exact (Below.refl _ _).alloc (Nat.le_refl _) _
      have hb1W : Below W1.heap.size W1 W2 := hb4.trans (hbW.mono hb4.size)
      have hy0 : Bx W2 N2 (y.op : Int) y.n a' y.args.length k2 := by rw [← hW2]; exact heap_last hN2.symm
      have hx0 := HBX.out.under hb1W
      obtain ⟨f0, f1, f2, _⟩ := hx0.cells
      obtain ⟨g0, g1, g2, _⟩ := hy0.cells
      have HS := Lib.hid (same_any (HL.out.under hb1W) (hL4.under hbW) (by have := HXS.out; omega))
      unfold exV at HS
      have HBZ := Lib.hid (HB.out.trans (hb1W.mono HB.out.size))
      clear hL4 hb4 hbW hb1W hy0 hx0
      go_wp2_with fail
      refine HS.out.mono ?_
      rintro e w5 ⟨r, rfl, hr, hb5⟩
      have hrt : r = true := hr.2 rfl
      subst hrt
      have HB5 := Lib.hid (HBZ.out.trans (hb5.mono HBZ.out.size))
      clear hb5 hr
      go_wp2_with fail
      refine (works_any _).mono ?_
      rintro e w6 ⟨rfl, hb6⟩
      have HB6 := Lib.hid (HB5.out.trans (hb6.mono HB5.out.size))
      clear hb6
      go_wp2_with fail
      go_ret
      exact ⟨rfl, HB6.out⟩
end Go.Proofs.Ytnnaejkhbccnaaa.exp
