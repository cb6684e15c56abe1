/- PipePlays: each answer of a pipe is the reference's; the law. -/
import Derived.Test.YtknldabnkaecdaaPiZa
import Derived.Deep.RegionHeld3
namespace Go.Proofs.Ytknldabnkaecdaa.pip
set_option linter.unusedSimpArgs false
set_option linter.unusedVariables false
open Go.RowKit
attribute [local go_sem ↓] Go.wp_at_zero Go.wp_at_succ
open Go.Proofs.Ytknldabnkaecdaa.byt (fits intV txt flat own_below cell_one_new)
set_option maxHeartbeats 6400000 in
set_option maxRecDepth 1000000 in
theorem law_plays (room : Int) (l : List Opn) (a : Option Addr) (cap : Nat) (w : World) (hr : Ops w a l) (hl : l.length ≤ cap) (hc : cap ≤ maxLen) (hslim : Slim l) :
    Calls Try.prog 4 #[.int .i64 room, .slice a l.length cap] w fun e w' => e = .returned (.bool true) ∧ Below w.heap.size w w' := by
  have hn1 : (l.length : Int) ≤ 9223372036854775807 := by unfold maxLen at hc; omega
  obtain ⟨n, hn⟩ : ∃ q, l.length = q := ⟨_, rfl⟩
  have HN := Lib.hid hn
  have HR := Lib.hid hr
  have HSLIM := Lib.hid hslim
  rw [hn] at hn1 ⊢
  clear hr hl hc hn hslim
  by_cases h300 : 300 < n
  · have h3 : 300 < (n : Int) := by omega
    clear HR h300
    go_enter Try.func4, Try.ntmps4
    go_wp2_with (go_at_call 12; ((with_reducible refine (works_any _).mono ?_); rintro e W9 ⟨rfl, h1⟩; have HB9 := Lib.hid h1; clear h1))
    go_ret
    exact ⟨rfl, HB9.out⟩
  have h3 : ¬ 300 < (n : Int) := by omega
  by_cases hroom : room < 1 ∨ 8 < room
  · have HNEW := Lib.hid (new_no room w hroom)
    have HRNEW := Lib.hid (rnew_no room w hroom)
    clear HR h300 hroom
    go_enter Try.func4, Try.ntmps4
    go_wp2_with (first
      | (go_at_call 11; ((with_reducible refine HNEW.out.mono ?_); rintro e W1 ⟨rfl, rfl⟩))
      | (go_at_call 17; ((with_reducible refine HRNEW.out.mono ?_); rintro e W1 ⟨rfl, rfl⟩))
      | (go_at_call 12; ((with_reducible refine (works_any _).mono ?_); rintro e W9 ⟨rfl, h1⟩; have HB9 := Lib.hid h1; clear h1)))
    go_ret
    exact ⟨rfl, HB9.out⟩
  obtain ⟨R, rfl⟩ : ∃ r : Nat, room = r := ⟨room.toNat, by omega⟩
  have hr1 : 1 ≤ R := by omega
  have hr8 : R ≤ 8 := by omega
  obtain ⟨c, hcc⟩ : ∃ q, w.heap.size = q := ⟨_, rfl⟩
  obtain ⟨p, hpp⟩ : ∃ q, w.heap.size + 1 = q := ⟨_, rfl⟩
  have hnew := new_yes R w hr1 hr8
  rw [hpp, hcc] at hnew
  have HNEW := Lib.hid hnew
  have HC := Lib.hid hcc
  have HP := Lib.hid hpp
  have hr8i : (R : Int) ≤ 8 := by omega
  have HR8 : Hid (R ≤ 8) := Lib.hid hr8
  have HR1 : Hid (1 ≤ R) := Lib.hid hr1
  have HRNEW : Hid (∀ W, Calls Try.prog 17 #[.int .i64 R] W fun e w' => e = .returned (.tuple #[.pointer (some ⟨W.heap.size, 0, none⟩), .int .i64 0]) ∧ IsRef w' W.heap.size R [] ∧ Below W.heap.size W w') := Lib.hid (fun W => rnew_yes R W (by omega) hr8i)
  clear hnew hcc hpp hroom h300 hr1 hr8
  go_enter Try.func4, Try.ntmps4
  go_upto_region 4 with (go_at_call 11; ((with_reducible refine HNEW.out.mono ?_); rintro e W1 ⟨rfl, h1, h2⟩; have HP1 := Lib.hid h1; have HB1 := Lib.hid h2; clear h1 h2))
  go_upto_region 5 with (go_at_call 17; ((with_reducible refine (HRNEW.out _).mono ?_); rintro e W2 ⟨rfl, h1, h2⟩; obtain ⟨r, hrr⟩ : ∃ q, W1.heap.size = q := ⟨_, rfl⟩; have HRR := Lib.hid hrr; rw [hrr] at h1 ⊢; have HR2 := Lib.hid h1; have HB2 := Lib.hid h2; clear h1 h2 hrr))
  have h2 : Pl w W2 p c r R W2.heap.size [] [] [] := by
    have hlt := HP1.out.lt
    have h2 := HP1.out.below HB2.out
    have hrr := HRR.out
    have hb : Below w.heap.size w W2 := below_on' (by have := HB1.out; rwa [HC.out]) HB2.out
    exact ⟨h2, trivial, HR2.out, HR2.out.inn, by simp, hb, by rw [HC.out, ← HP.out, HC.out, ← hrr]; have h5 := HB1.out.size; omega, ⟨h2.lt.2, h2.lt.1, HR2.out.lt⟩, by omega⟩
  have HPL2 := Lib.hid h2
  clear h2 HP1 HB1 HR2 HB2 HRR HNEW HRNEW HC HP
  go_wp2_with fail
  go_loopg [6, 8, 39] n (fun g v6 v8 v39 wr => ∃ (i : Nat) (L : List Value) (ms : List Ms) (E : Int), v6 = .int .i64 E ∧ v8 = .int .i64 E ∧ i + g = n ∧ v39 = .int .i64 i ∧ Hid (Pl w wr p c r R wr.heap.size L ms ms))
  case atStart => exact ⟨0, [], [], 0, rfl, rfl, by omega, rfl, HPL2⟩
  case round =>
    clear HPL2
    obtain ⟨i, L, ms, E0, rfl, rfl, hig, rfl, HPL⟩ := hrel
    cases gk with
    | zero =>
      have hiz : ¬ ((i : Int) < (n : Int)) := by omega
      have HB0 := Lib.hid HPL.out.below
      clear HR hig HPL
      go_wp2_with (go_at_call 12; ((with_reducible refine (works_any _).mono ?_); rintro e W9 ⟨rfl, h1⟩; have HB9 := Lib.hid (below_on' HB0.out h1); clear h1))
      go_ret
      exact ⟨rfl, HB9.out⟩
    | succ g =>
      have hiz : ((i : Int) < (n : Int)) := by omega
      have hra := HR.out.below HPL.out.below
      obtain ⟨b0, o0, q, ea, gq, hq, c0, c1, c2, c3⟩ := hra.at (k := i) (by rw [HN.out]; omega)
      have hql := HSLIM.out q (List.mem_of_getElem? gq)
      subst ea
      obtain ⟨kind, ⟨m1, m2, mr⟩, aq, kq⟩ := q
      unfold Opn.Here at hq
      dsimp only at c0 c1 c2 c3 hq hql
      obtain ⟨M, hM⟩ : ∃ q, wr.heap.size = q := ⟨_, rfl⟩
      have hy : Ox (wr.alloc (.cells #[.int .i64 0, .int .i64 0, .int .i64 0, .slice none 0 0] 44)) wr.heap.size ⟨0, zeroM, none, 0⟩ := Go.heap_alloc_new wr _
      have HYB := Lib.hid (below_made wr (.cells #[.int .i64 0, .int .i64 0, .int .i64 0, .slice none 0 0] 44))
      obtain ⟨W5, hW5⟩ : ∃ W, wr.alloc (.cells #[.int .i64 0, .int .i64 0, .int .i64 0, .slice none 0 0] 44) = W := ⟨_, rfl⟩
      rw [hW5] at hy HYB
      rw [hM] at hy
      have HY := Lib.hid hy
      obtain ⟨⟨d0, d1, d2, d3⟩, g0⟩ := hy.facts
      dsimp only [zeroM] at d0 d1 d2 d3
      have HIG := Lib.hid hig
      have HSLQ := Lib.hid hql
      have HQH := Lib.hid hq
      clear hy gq hq hql hig hra
      go_upto_region 12 with fail
      have hb6 : Below wr.heap.size wr (setO W5 M ⟨kind, (m1, m2, mr), aq, kq⟩) := below_setO HYB.out (by rw [hM]; exact Nat.le_refl _) _
      have hx6 : Ox (setO W5 M ⟨kind, (m1, m2, mr), aq, kq⟩) M ⟨kind, (m1, m2, mr), aq, kq⟩ := HY.out.set _
      have hig : i + (g + 1) = n := HIG.out
      clear c0 c1 c2 c3 d0 d1 d2 d3 g0 hW5 HYB HY HIG
      change Code.wp _ _ _ _ (setO W5 M ⟨kind, (m1, m2, mr), aq, kq⟩)
      generalize setO W5 M ⟨kind, (m1, m2, mr), aq, kq⟩ = W6 at hb6 hx6 ⊢
      have h6 := (HPL.out.on hb6).rebase
      obtain ⟨N1, hN1⟩ : ∃ q, W6.heap.size = q := ⟨_, rfl⟩
      have hz1 := Bx.new W6 0 0 (.slice none 0 0)
      have hzb1 := below_made W6 (.cells #[.int .i64 0, .int .i64 0, .slice none 0 0] 29)
      obtain ⟨W7, hW7⟩ : ∃ W, W6.alloc (.cells #[.int .i64 0, .int .i64 0, .slice none 0 0] 29) = W := ⟨_, rfl⟩
      rw [hW7] at hz1 hzb1
      obtain ⟨N2, hN2⟩ : ∃ q, W7.heap.size = q := ⟨_, rfl⟩
      have hz2 := Bx.new W7 0 0 (.slice none 0 0)
      have hzb2 := below_made W7 (.cells #[.int .i64 0, .int .i64 0, .slice none 0 0] 29)
      obtain ⟨W8, hW8⟩ : ∃ W, W7.alloc (.cells #[.int .i64 0, .int .i64 0, .slice none 0 0] 29) = W := ⟨_, rfl⟩
      rw [hW8] at hz2 hzb2
      have hbb := below_on' hzb1 hzb2
      have h8 := h6.on hbb
      have hx8 := hx6.below hbb
      have hy1 := hz1.below hzb2
      have hmlt := lt_of_get hx6
      have hsq := (HQH.out.below hb6).below hbb
      have hrl := h6.hi
      have hmne : M ≠ c ∧ M ≠ r := by have h1 := HPL.out.pipe.lt; have h2 := HPL.out.ref.lt; omega
      have h7s : W7.heap.size = W6.heap.size + 1 := by rw [← hW7, World.size_alloc]
      rw [hN1] at h8 hy1 hmlt hrl h7s
      rw [hN2] at hz2 h7s
      have H8 : Hid (Pl w W8 p c r R N1 L ms ms) := Lib.hid h8
      have HX8 := Lib.hid hx8
      have HX1 := Lib.hid hy1
      have HX2 := Lib.hid hz2
      have HSQ := Lib.hid hsq
      have HNS : Hid (M < N1 ∧ N1 < N2 ∧ c < N1 ∧ p < N1 ∧ r < N1 ∧ M ≠ c ∧ M ≠ r) := Lib.hid (by omega)
      obtain ⟨⟨m0, -, -, -⟩, -⟩ := hx8.facts
      dsimp only at m0
      clear hb6 hx6 h6 hz1 hzb1 hz2 hzb2 hbb h8 hx8 hy1 hmlt hsq hrl hmne h7s hM HPL HQH
      go_upto_region 13 with fail
      clear hN1 hW7 hN2 hW8
      by_cases hk0 : kind = 0
      · subst hk0
        go_upto_region 15 with fail
        obtain ⟨⟨E, ms2⟩, hE⟩ : ∃ q, putO R ms (m1, m2, mr) = q := ⟨_, rfl⟩
        have hd : Below W8.heap.size W8 W8.drew := (Below.refl _ _).drew
        have hput := put_pl (H8.out.on hd) (v := .agg #[.int .i64 m1, .int .i64 m2, .slice aq mr.length kq]) (m := (m1, m2, mr)) ⟨_, rfl, HSQ.out.below hd⟩ HSLQ.out
        rw [hE] at hput
        have HPUT := Lib.hid hput
        have HRPUT : Hid (∀ L' W, Pl w W p c r R N1 L' ms2 ms → MV W (.agg #[.int .i64 m1, .int .i64 m2, .slice aq mr.length kq]) (m1, m2, mr) → Calls Try.prog 18 #[.pointer (some ⟨r, 0, none⟩), .agg #[.int .i64 m1, .int .i64 m2, .slice aq mr.length kq]] W fun e w' => e = .returned (.int .i64 E) ∧ Pl w w' p c r R w'.heap.size L' ms2 ms2 ∧ Only (· = r) W w') := Lib.hid (fun L' W h hv => by
          have := rput_pl h hv HSLQ.out (by have := H8.out.len; have := HR8.out; omega)
          rw [hE] at this
          exact this)
        have HCM : Hid (∀ W, Ox W M ⟨0, (m1, m2, mr), aq, kq⟩ → W.cell? ⟨M, 1, none⟩ = some (.int .i64 m1) ∧ W.cell? ⟨M, 2, none⟩ = some (.int .i64 m2) ∧ W.cell? ⟨M, 3, none⟩ = some (.slice aq mr.length kq)) := Lib.hid (fun W h => ⟨h.facts.1.2.1, h.facts.1.2.2.1, h.facts.1.2.2.2⟩)
        have HXD := Lib.hid (HX8.out.below hd)
        have HB1D := Lib.hid (HX1.out.below hd)
        have HB2D := Lib.hid (HX2.out.below hd)
        have HSL : Hid ((((0, 0, []) : Ms)).2.2.length ≤ 9223372036854775806) := Lib.hid (Nat.zero_le _)
        clear hE hd hput HX1 HX2 HX8 H8 m0
        go_region_held3 (fun w' => w'.cell? ⟨M, 1, none⟩ = some (.int .i64 m1) ∧ w'.cell? ⟨M, 2, none⟩ = some (.int .i64 m2) ∧ w'.cell? ⟨M, 3, none⟩ = some (.slice aq mr.length kq)) (first | exact HCM.out _ HXD.out | exact HCM.out _ hx9 | exact HCM.out _ hx10) (first
          | (go_at_call 13; with_reducible refine HPUT.out.mono ?_; rintro e w9 ⟨rfl, ⟨L9, h9⟩, ho9, hv9⟩; have hx9 := HXD.out.off ho9 (by have := HNS.out; omega); have hb19 := HB1D.out.off ho9 (by have := HNS.out; omega); have hb29 := HB2D.out.off ho9 (by have := HNS.out; omega))
          | (go_at_call 18; with_reducible refine (HRPUT.out _ _ h9 hv9).mono ?_; rintro e w10 ⟨rfl, h10, ho10⟩; have hx10 := hx9.off ho10 (by have := HNS.out; omega)))
        have HX1 : Hid (Bx w10 N1 0 0 (.slice none 0 0)) := Lib.hid (hb19.off ho10 (by have := HNS.out; omega))
        have HX2 : Hid (Bx w10 N2 0 0 (.slice none 0 0)) := Lib.hid (hb29.off ho10 (by have := HNS.out; omega))
        have HP := Lib.hid h10
        have HS1 := Lib.hid (Sr.nil w10)
        have HS2 := Lib.hid (Sr.nil w10)
        clear h9 ho9 hv9 hx9 hb19 hb29 h10 ho10 hx10 HPUT HRPUT HCM HXD HB1D HB2D
        go_upto_region 22 with fail
        obtain ⟨nz, hnz⟩ : ∃ q, ms2.length = q := ⟨_, rfl⟩
        obtain ⟨ar, cr, hrc⟩ := HP.out.ref.cell
        rw [hnz] at hrc
        have hnR : (nz : Int) ≤ (R : Int) := by have := HP.out.len; omega
        have hfin : (((R : Int) - (nz : Int)) != IntKind.i64.wrap ((R : Int) - (nz : Int))) = false := by rw [IntWalk.i64_in _ ⟨by omega, by omega⟩]; exact bne_self_eq_false _
        have HCC : Hid (∀ W, Below w10.heap.size w10 W → W.cell? ⟨N1, 0, none⟩ = some (.int .i64 0) ∧ W.cell? ⟨N1, 1, none⟩ = some (.int .i64 0) ∧ W.cell? ⟨N1, 2, none⟩ = some (.slice none 0 0) ∧ W.cell? ⟨N2, 0, none⟩ = some (.int .i64 0) ∧ W.cell? ⟨N2, 1, none⟩ = some (.int .i64 0) ∧ W.cell? ⟨N2, 2, none⟩ = some (.slice none 0 0) ∧ W.cell? ⟨r, 0, none⟩ = some (.slice ar nz cr)) := Lib.hid (fun W hW => by
          obtain ⟨⟨b0, b1, b2⟩, -⟩ := (HX1.out.below hW).facts
          obtain ⟨⟨b3, b4, b5⟩, -⟩ := (HX2.out.below hW).facts
          exact ⟨b0, b1, b2, b3, b4, b5, (hW.cell (p := ⟨r, 0, none⟩) HP.out.ref.lt).trans hrc⟩)
        have HSAME : Hid (∀ W, Below w10.heap.size w10 W → Calls Try.prog 21 #[.agg #[.int .i64 0, .int .i64 0, .slice none 0 0], .agg #[.int .i64 0, .int .i64 0, .slice none 0 0]] W fun e w' => e = .returned (.bool true) ∧ Below w10.heap.size w10 w') := Lib.hid (fun W hW =>
          (same_same (m := (0, 0, [])) W ⟨_, rfl, HS1.out.below hW⟩ ⟨_, rfl, HS2.out.below hW⟩ HSL.out).mono fun e w' hp => ⟨hp.1, below_on' hW hp.2⟩)
        have HLEN : Hid (∀ W, Below w10.heap.size w10 W → Calls Try.prog 14 #[.pointer (some ⟨p, 0, none⟩)] W fun e w' => e = .returned (.int .i64 nz) ∧ Below w10.heap.size w10 w') := Lib.hid (fun W hW =>
          (len_pl (HP.out.on hW) hnz).mono fun e w' hp => ⟨hp.1, by rw [hp.2]; exact hW⟩)
        have HROOM : Hid (∀ W, Below w10.heap.size w10 W → Calls Try.prog 15 #[.pointer (some ⟨p, 0, none⟩)] W fun e w' => e = .returned (.int .i64 ((R : Int) - nz)) ∧ Below w10.heap.size w10 w') := Lib.hid (fun W hW =>
          (room_pl (HP.out.on hW) HR8.out hnz).mono fun e w' hp => ⟨hp.1, below_on' hW hp.2⟩)
        clear hrc hnz HX1 HX2 HS1 HS2
        go_region_held3 (fun w' => w'.cell? ⟨N1, 0, none⟩ = some (.int .i64 0) ∧ w'.cell? ⟨N1, 1, none⟩ = some (.int .i64 0) ∧ w'.cell? ⟨N1, 2, none⟩ = some (.slice none 0 0) ∧ w'.cell? ⟨N2, 0, none⟩ = some (.int .i64 0) ∧ w'.cell? ⟨N2, 1, none⟩ = some (.int .i64 0) ∧ w'.cell? ⟨N2, 2, none⟩ = some (.slice none 0 0) ∧ w'.cell? ⟨r, 0, none⟩ = some (.slice ar nz cr)) (first | exact HCC.out _ (Below.refl _ _).drew | exact HCC.out _ hb3 | exact HCC.out _ hb4 | exact HCC.out _ hb5) (first
          | (go_at_call 21; with_reducible refine (HSAME.out _ ?_).mono ?_; exact (Below.refl _ _).drew; rintro e w3 ⟨rfl, hb3⟩)
          | (go_at_call 14; with_reducible refine (HLEN.out _ ?_).mono ?_; exact hb3; rintro e w4 ⟨rfl, hb4⟩)
          | (go_at_call 15; with_reducible refine (HROOM.out _ ?_).mono ?_; exact hb4; rintro e w5 ⟨rfl, hb5⟩))
        have HP5 : Hid (Pl w w5 p c r R w5.heap.size L9 ms2 ms2) := Lib.hid (HP.out.on hb5).rebase
        clear hb3 hb4 hb5
        go_wp2_with fail
        clear hfin
        go_roundg g
        case measure => omega
        case rel => exact ⟨i + 1, _, _, _, rfl, rfl, by omega, rfl, HP5⟩
      by_cases hk1 : kind = 1
      · subst hk1
        clear hk0 HX8
        go_upto_region 17 with fail
        clear m0
        obtain ⟨⟨⟨x, y, rs⟩, E⟩, hH⟩ : ∃ q, headO ms = q := ⟨_, rfl⟩
        have HHEAD := Lib.hid (head_pl H8.out HR8.out)
        rw [hH] at HHEAD
        have HSL := Lib.hid (headO_slim H8.out)
        rw [hH] at HSL
        have HH := Lib.hid hH
        clear hH
        obtain ⟨⟨d0, d1, d2⟩, g0⟩ := HX1.out.facts
        go_upto_region 18 with (go_at_call 9; ((with_reducible refine (HHEAD.out).mono ?_); rintro e W9 ⟨vv, rfl, hv, ⟨L9, h1⟩, ho⟩; obtain ⟨a9, k9, rfl, hs⟩ := hv.parts; dsimp only; have H9 := Lib.hid h1; have HS9 := Lib.hid hs; have HBN1 := Lib.hid (HX1.out.off ho (by have := HNS.out; omega)); have HBN2 := Lib.hid (HX2.out.off ho (by have := HNS.out; omega)); clear h1; obtain ⟨⟨d0, d1, d2⟩, g0⟩ := HBN1.out.facts; clear hv ho hs))
        have h10 : Pl w (setM W9 N1 x y (.slice a9 rs.length k9)) p c r R N1 L9 ms ms := H9.out.box (Nat.le_refl _) HBN1.out (only_setM (B := 0) N1 _ _ _)
        have hx10 : Bx (setM W9 N1 x y (.slice a9 rs.length k9)) N1 x y (.slice a9 rs.length k9) := HBN1.out.set _ _ _
        have hy10 : Bx (setM W9 N1 x y (.slice a9 rs.length k9)) N2 0 0 (.slice none 0 0) := HBN2.out.off (only_setM (B := 0) N1 _ _ _) (by have := HNS.out; omega)
        have hs10 : Sr (setM W9 N1 x y (.slice a9 rs.length k9)) (.slice a9 rs.length k9) rs := HS9.out.msg (only_setM (B := 0) N1 _ _ _) (HS9.out.ne_msg HBN1.out)
        clear H9 HS9 HBN1 HBN2 HX1 HX2 d0 d1 d2 g0
        change Code.wp _ _ _ _ (setM W9 N1 x y (.slice a9 rs.length k9))
        generalize setM W9 N1 x y (.slice a9 rs.length k9) = W10 at h10 hx10 hy10 hs10 ⊢
        have H10 := Lib.hid h10
        have HX10 := Lib.hid hx10
        have HY10 := Lib.hid hy10
        have HS10 := Lib.hid hs10
        have HRH := Lib.hid (rhead_pl H10.out)
        rw [HH.out] at HRH
        obtain ⟨⟨d0, d1, d2⟩, g0⟩ := hy10.facts
        clear h10 hx10 hy10 hs10
        go_upto_region 22 with (go_at_call 19; ((with_reducible refine (HRH.out).mono ?_); rintro e W11 ⟨vv, rfl, hv, h1, ho⟩; obtain ⟨a11, k11, rfl, hs⟩ := hv.parts; dsimp only; have H11 := Lib.hid h1; have HS11 := Lib.hid hs; have HS11A := Lib.hid (HS10.out.refs H10.out.ref ho); have HBN1 := Lib.hid (HX10.out.off ho (by have := HNS.out; omega)); have HBN2 := Lib.hid (HY10.out.off ho (by have := HNS.out; omega)); clear h1; obtain ⟨⟨d0, d1, d2⟩, g0⟩ := HBN2.out.facts; clear hv ho hs))
        have h12 : Pl w (setM W11 N2 x y (.slice a11 rs.length k11)) p c r R N1 L9 ms ms := H11.out.box (by have := HNS.out; omega) HBN2.out (only_setM (B := 0) N2 _ _ _)
        have hx12 : Bx (setM W11 N2 x y (.slice a11 rs.length k11)) N1 x y (.slice a9 rs.length k9) := HBN1.out.off (only_setM (B := 0) N2 _ _ _) (by have := HNS.out; omega)
        have hy12 : Bx (setM W11 N2 x y (.slice a11 rs.length k11)) N2 x y (.slice a11 rs.length k11) := HBN2.out.set _ _ _
        have hs12 : Sr (setM W11 N2 x y (.slice a11 rs.length k11)) (.slice a9 rs.length k9) rs := HS11A.out.msg (only_setM (B := 0) N2 _ _ _) (HS11A.out.ne_msg HBN2.out)
        have ht12 : Sr (setM W11 N2 x y (.slice a11 rs.length k11)) (.slice a11 rs.length k11) rs := HS11.out.msg (only_setM (B := 0) N2 _ _ _) (HS11.out.ne_msg HBN2.out)
        clear H11 HS11 HS11A HBN1 HBN2 HX10 HY10 HS10 H10 HRH HHEAD d0 d1 d2 g0
        change Code.wp _ _ _ _ (setM W11 N2 x y (.slice a11 rs.length k11))
        generalize setM W11 N2 x y (.slice a11 rs.length k11) = W12 at h12 hx12 hy12 hs12 ht12 ⊢
        have HP := Lib.hid h12
        have HX1 := Lib.hid hx12
        have HX2 := Lib.hid hy12
        have HS1 := Lib.hid hs12
        have HS2 := Lib.hid ht12
        clear h12 hx12 hy12 hs12 ht12
        obtain ⟨nz, hnz⟩ : ∃ q, ms.length = q := ⟨_, rfl⟩
        obtain ⟨ar, cr, hrc⟩ := HP.out.ref.cell
        rw [hnz] at hrc
        have hnR : (nz : Int) ≤ (R : Int) := by have := HP.out.len; omega
        have hfin : (((R : Int) - (nz : Int)) != IntKind.i64.wrap ((R : Int) - (nz : Int))) = false := by rw [IntWalk.i64_in _ ⟨by omega, by omega⟩]; exact bne_self_eq_false _
        have HCC : Hid (∀ W, Below W12.heap.size W12 W → W.cell? ⟨N1, 0, none⟩ = some (.int .i64 x) ∧ W.cell? ⟨N1, 1, none⟩ = some (.int .i64 y) ∧ W.cell? ⟨N1, 2, none⟩ = some (.slice a9 rs.length k9) ∧ W.cell? ⟨N2, 0, none⟩ = some (.int .i64 x) ∧ W.cell? ⟨N2, 1, none⟩ = some (.int .i64 y) ∧ W.cell? ⟨N2, 2, none⟩ = some (.slice a11 rs.length k11) ∧ W.cell? ⟨r, 0, none⟩ = some (.slice ar nz cr)) := Lib.hid (fun W hW => by
          obtain ⟨⟨b0, b1, b2⟩, -⟩ := (HX1.out.below hW).facts
          obtain ⟨⟨b3, b4, b5⟩, -⟩ := (HX2.out.below hW).facts
          exact ⟨b0, b1, b2, b3, b4, b5, (hW.cell (p := ⟨r, 0, none⟩) HP.out.ref.lt).trans hrc⟩)
        have HSAME : Hid (∀ W, Below W12.heap.size W12 W → Calls Try.prog 21 #[.agg #[.int .i64 x, .int .i64 y, .slice a9 rs.length k9], .agg #[.int .i64 x, .int .i64 y, .slice a11 rs.length k11]] W fun e w' => e = .returned (.bool true) ∧ Below W12.heap.size W12 w') := Lib.hid (fun W hW =>
          (same_same (m := (x, y, rs)) W ⟨_, rfl, HS1.out.below hW⟩ ⟨_, rfl, HS2.out.below hW⟩ HSL.out).mono fun e w' hp => ⟨hp.1, below_on' hW hp.2⟩)
        have HLEN : Hid (∀ W, Below W12.heap.size W12 W → Calls Try.prog 14 #[.pointer (some ⟨p, 0, none⟩)] W fun e w' => e = .returned (.int .i64 nz) ∧ Below W12.heap.size W12 w') := Lib.hid (fun W hW =>
          (len_pl (HP.out.on hW) hnz).mono fun e w' hp => ⟨hp.1, by rw [hp.2]; exact hW⟩)
        have HROOM : Hid (∀ W, Below W12.heap.size W12 W → Calls Try.prog 15 #[.pointer (some ⟨p, 0, none⟩)] W fun e w' => e = .returned (.int .i64 ((R : Int) - nz)) ∧ Below W12.heap.size W12 w') := Lib.hid (fun W hW =>
          (room_pl (HP.out.on hW) HR8.out hnz).mono fun e w' hp => ⟨hp.1, below_on' hW hp.2⟩)
        clear hrc hnz HX1 HX2 HS1 HS2
        go_region_held3 (fun w' => w'.cell? ⟨N1, 0, none⟩ = some (.int .i64 x) ∧ w'.cell? ⟨N1, 1, none⟩ = some (.int .i64 y) ∧ w'.cell? ⟨N1, 2, none⟩ = some (.slice a9 rs.length k9) ∧ w'.cell? ⟨N2, 0, none⟩ = some (.int .i64 x) ∧ w'.cell? ⟨N2, 1, none⟩ = some (.int .i64 y) ∧ w'.cell? ⟨N2, 2, none⟩ = some (.slice a11 rs.length k11) ∧ w'.cell? ⟨r, 0, none⟩ = some (.slice ar nz cr)) (first | exact HCC.out _ (Below.refl _ _).drew | exact HCC.out _ hb3 | exact HCC.out _ hb4 | exact HCC.out _ hb5) (first
          | (go_at_call 21; with_reducible refine (HSAME.out _ ?_).mono ?_; exact (Below.refl _ _).drew; rintro e w3 ⟨rfl, hb3⟩)
          | (go_at_call 14; with_reducible refine (HLEN.out _ ?_).mono ?_; exact hb3; rintro e w4 ⟨rfl, hb4⟩)
          | (go_at_call 15; with_reducible refine (HROOM.out _ ?_).mono ?_; exact hb4; rintro e w5 ⟨rfl, hb5⟩))
        have HP5 : Hid (Pl w w5 p c r R w5.heap.size L9 ms ms) := Lib.hid (HP.out.on hb5).rebase
        clear hb3 hb4 hb5
        go_wp2_with fail
        clear hfin
        go_roundg g
        case measure => omega
        case rel => exact ⟨i + 1, _, _, _, rfl, rfl, by omega, rfl, HP5⟩
      by_cases hk2 : kind = 2
      · subst hk2
        clear hk0 hk1 HX8
        go_upto_region 20 with fail
        clear m0
        obtain ⟨⟨⟨x, y, rs⟩, E⟩, hH⟩ : ∃ q, headO ms = q := ⟨_, rfl⟩
        have HHEAD := Lib.hid (take_pl H8.out)
        rw [hH] at HHEAD
        have HSL := Lib.hid (headO_slim H8.out)
        rw [hH] at HSL
        have HH := Lib.hid hH
        clear hH
        obtain ⟨⟨d0, d1, d2⟩, g0⟩ := HX1.out.facts
        go_upto_region 21 with (go_at_call 10; ((with_reducible refine (HHEAD.out).mono ?_); rintro e W9 ⟨vv, rfl, hv, ⟨L9, h1⟩, ho⟩; obtain ⟨a9, k9, rfl, hs⟩ := hv.parts; dsimp only; have H9 := Lib.hid h1; have HS9 := Lib.hid hs; have HBN1 := Lib.hid (HX1.out.off ho (by have := HNS.out; omega)); have HBN2 := Lib.hid (HX2.out.off ho (by have := HNS.out; omega)); clear h1; obtain ⟨⟨d0, d1, d2⟩, g0⟩ := HBN1.out.facts; clear hv ho hs))
        have h10 : Pl w (setM W9 N1 x y (.slice a9 rs.length k9)) p c r R N1 L9 ms.tail ms := H9.out.box (Nat.le_refl _) HBN1.out (only_setM (B := 0) N1 _ _ _)
        have hx10 : Bx (setM W9 N1 x y (.slice a9 rs.length k9)) N1 x y (.slice a9 rs.length k9) := HBN1.out.set _ _ _
        have hy10 : Bx (setM W9 N1 x y (.slice a9 rs.length k9)) N2 0 0 (.slice none 0 0) := HBN2.out.off (only_setM (B := 0) N1 _ _ _) (by have := HNS.out; omega)
        have hs10 : Sr (setM W9 N1 x y (.slice a9 rs.length k9)) (.slice a9 rs.length k9) rs := HS9.out.msg (only_setM (B := 0) N1 _ _ _) (HS9.out.ne_msg HBN1.out)
        clear H9 HS9 HBN1 HBN2 HX1 HX2 d0 d1 d2 g0
        change Code.wp _ _ _ _ (setM W9 N1 x y (.slice a9 rs.length k9))
        generalize setM W9 N1 x y (.slice a9 rs.length k9) = W10 at h10 hx10 hy10 hs10 ⊢
        have H10 := Lib.hid h10
        have HX10 := Lib.hid hx10
        have HY10 := Lib.hid hy10
        have HS10 := Lib.hid hs10
        have HRH := Lib.hid (rtake_pl H10.out)
        rw [HH.out] at HRH
        obtain ⟨⟨d0, d1, d2⟩, g0⟩ := hy10.facts
        clear h10 hx10 hy10 hs10
        go_upto_region 22 with (go_at_call 20; ((with_reducible refine (HRH.out).mono ?_); rintro e W11 ⟨vv, rfl, hv, h1, ho⟩; obtain ⟨a11, k11, rfl, hs⟩ := hv.parts; dsimp only; have H11 := Lib.hid h1; have HS11 := Lib.hid hs; have HS11A := Lib.hid (HS10.out.refs H10.out.ref ho); have HBN1 := Lib.hid (HX10.out.off ho (by have := HNS.out; omega)); have HBN2 := Lib.hid (HY10.out.off ho (by have := HNS.out; omega)); clear h1; obtain ⟨⟨d0, d1, d2⟩, g0⟩ := HBN2.out.facts; clear hv ho hs))
        have h12 : Pl w (setM W11 N2 x y (.slice a11 rs.length k11)) p c r R N1 L9 ms.tail ms.tail := H11.out.box (by have := HNS.out; omega) HBN2.out (only_setM (B := 0) N2 _ _ _)
        have hx12 : Bx (setM W11 N2 x y (.slice a11 rs.length k11)) N1 x y (.slice a9 rs.length k9) := HBN1.out.off (only_setM (B := 0) N2 _ _ _) (by have := HNS.out; omega)
        have hy12 : Bx (setM W11 N2 x y (.slice a11 rs.length k11)) N2 x y (.slice a11 rs.length k11) := HBN2.out.set _ _ _
        have hs12 : Sr (setM W11 N2 x y (.slice a11 rs.length k11)) (.slice a9 rs.length k9) rs := HS11A.out.msg (only_setM (B := 0) N2 _ _ _) (HS11A.out.ne_msg HBN2.out)
        have ht12 : Sr (setM W11 N2 x y (.slice a11 rs.length k11)) (.slice a11 rs.length k11) rs := HS11.out.msg (only_setM (B := 0) N2 _ _ _) (HS11.out.ne_msg HBN2.out)
        clear H11 HS11 HS11A HBN1 HBN2 HX10 HY10 HS10 H10 HRH HHEAD d0 d1 d2 g0
        change Code.wp _ _ _ _ (setM W11 N2 x y (.slice a11 rs.length k11))
        generalize setM W11 N2 x y (.slice a11 rs.length k11) = W12 at h12 hx12 hy12 hs12 ht12 ⊢
        have HP := Lib.hid h12
        have HX1 := Lib.hid hx12
        have HX2 := Lib.hid hy12
        have HS1 := Lib.hid hs12
        have HS2 := Lib.hid ht12
        clear h12 hx12 hy12 hs12 ht12
        obtain ⟨nz, hnz⟩ : ∃ q, ms.tail.length = q := ⟨_, rfl⟩
        obtain ⟨ar, cr, hrc⟩ := HP.out.ref.cell
        rw [hnz] at hrc
        have hnR : (nz : Int) ≤ (R : Int) := by have := HP.out.len; omega
        have hfin : (((R : Int) - (nz : Int)) != IntKind.i64.wrap ((R : Int) - (nz : Int))) = false := by rw [IntWalk.i64_in _ ⟨by omega, by omega⟩]; exact bne_self_eq_false _
        have HCC : Hid (∀ W, Below W12.heap.size W12 W → W.cell? ⟨N1, 0, none⟩ = some (.int .i64 x) ∧ W.cell? ⟨N1, 1, none⟩ = some (.int .i64 y) ∧ W.cell? ⟨N1, 2, none⟩ = some (.slice a9 rs.length k9) ∧ W.cell? ⟨N2, 0, none⟩ = some (.int .i64 x) ∧ W.cell? ⟨N2, 1, none⟩ = some (.int .i64 y) ∧ W.cell? ⟨N2, 2, none⟩ = some (.slice a11 rs.length k11) ∧ W.cell? ⟨r, 0, none⟩ = some (.slice ar nz cr)) := Lib.hid (fun W hW => by
          obtain ⟨⟨b0, b1, b2⟩, -⟩ := (HX1.out.below hW).facts
          obtain ⟨⟨b3, b4, b5⟩, -⟩ := (HX2.out.below hW).facts
          exact ⟨b0, b1, b2, b3, b4, b5, (hW.cell (p := ⟨r, 0, none⟩) HP.out.ref.lt).trans hrc⟩)
        have HSAME : Hid (∀ W, Below W12.heap.size W12 W → Calls Try.prog 21 #[.agg #[.int .i64 x, .int .i64 y, .slice a9 rs.length k9], .agg #[.int .i64 x, .int .i64 y, .slice a11 rs.length k11]] W fun e w' => e = .returned (.bool true) ∧ Below W12.heap.size W12 w') := Lib.hid (fun W hW =>
          (same_same (m := (x, y, rs)) W ⟨_, rfl, HS1.out.below hW⟩ ⟨_, rfl, HS2.out.below hW⟩ HSL.out).mono fun e w' hp => ⟨hp.1, below_on' hW hp.2⟩)
        have HLEN : Hid (∀ W, Below W12.heap.size W12 W → Calls Try.prog 14 #[.pointer (some ⟨p, 0, none⟩)] W fun e w' => e = .returned (.int .i64 nz) ∧ Below W12.heap.size W12 w') := Lib.hid (fun W hW =>
          (len_pl (HP.out.on hW) hnz).mono fun e w' hp => ⟨hp.1, by rw [hp.2]; exact hW⟩)
        have HROOM : Hid (∀ W, Below W12.heap.size W12 W → Calls Try.prog 15 #[.pointer (some ⟨p, 0, none⟩)] W fun e w' => e = .returned (.int .i64 ((R : Int) - nz)) ∧ Below W12.heap.size W12 w') := Lib.hid (fun W hW =>
          (room_pl (HP.out.on hW) HR8.out hnz).mono fun e w' hp => ⟨hp.1, below_on' hW hp.2⟩)
        clear hrc hnz HX1 HX2 HS1 HS2
        go_region_held3 (fun w' => w'.cell? ⟨N1, 0, none⟩ = some (.int .i64 x) ∧ w'.cell? ⟨N1, 1, none⟩ = some (.int .i64 y) ∧ w'.cell? ⟨N1, 2, none⟩ = some (.slice a9 rs.length k9) ∧ w'.cell? ⟨N2, 0, none⟩ = some (.int .i64 x) ∧ w'.cell? ⟨N2, 1, none⟩ = some (.int .i64 y) ∧ w'.cell? ⟨N2, 2, none⟩ = some (.slice a11 rs.length k11) ∧ w'.cell? ⟨r, 0, none⟩ = some (.slice ar nz cr)) (first | exact HCC.out _ (Below.refl _ _).drew | exact HCC.out _ hb3 | exact HCC.out _ hb4 | exact HCC.out _ hb5) (first
          | (go_at_call 21; with_reducible refine (HSAME.out _ ?_).mono ?_; exact (Below.refl _ _).drew; rintro e w3 ⟨rfl, hb3⟩)
          | (go_at_call 14; with_reducible refine (HLEN.out _ ?_).mono ?_; exact hb3; rintro e w4 ⟨rfl, hb4⟩)
          | (go_at_call 15; with_reducible refine (HROOM.out _ ?_).mono ?_; exact hb4; rintro e w5 ⟨rfl, hb5⟩))
        have HP5 : Hid (Pl w w5 p c r R w5.heap.size L9 ms.tail ms.tail) := Lib.hid (HP.out.on hb5).rebase
        clear hb3 hb4 hb5
        go_wp2_with fail
        clear hfin
        go_roundg g
        case measure => omega
        case rel => exact ⟨i + 1, _, _, _, rfl, rfl, by omega, rfl, HP5⟩
      have hb0 : (kind == 0) = false := by simp [hk0]
      have hb1 : (kind == 1) = false := by simp [hk1]
      have hb2 : (kind == 2) = false := by simp [hk2]
      have HSL : Hid ((((0, 0, []) : Ms)).2.2.length ≤ 9223372036854775806) := Lib.hid (Nat.zero_le _)
      have HP := H8
      have HS1 := Lib.hid (Sr.nil W8)
      have HS2 := Lib.hid (Sr.nil W8)
      clear hk0 hk1 hk2 H8 HX8
      go_upto_region 22 with fail
      clear m0 hb0 hb1 hb2
      obtain ⟨nz, hnz⟩ : ∃ q, ms.length = q := ⟨_, rfl⟩
      obtain ⟨ar, cr, hrc⟩ := HP.out.ref.cell
      rw [hnz] at hrc
      have hnR : (nz : Int) ≤ (R : Int) := by have := HP.out.len; omega
      have hfin : (((R : Int) - (nz : Int)) != IntKind.i64.wrap ((R : Int) - (nz : Int))) = false := by rw [IntWalk.i64_in _ ⟨by omega, by omega⟩]; exact bne_self_eq_false _
      have HCC : Hid (∀ W, Below W8.heap.size W8 W → W.cell? ⟨N1, 0, none⟩ = some (.int .i64 0) ∧ W.cell? ⟨N1, 1, none⟩ = some (.int .i64 0) ∧ W.cell? ⟨N1, 2, none⟩ = some (.slice none 0 0) ∧ W.cell? ⟨N2, 0, none⟩ = some (.int .i64 0) ∧ W.cell? ⟨N2, 1, none⟩ = some (.int .i64 0) ∧ W.cell? ⟨N2, 2, none⟩ = some (.slice none 0 0) ∧ W.cell? ⟨r, 0, none⟩ = some (.slice ar nz cr)) := Lib.hid (fun W hW => by
        obtain ⟨⟨b0, b1, b2⟩, -⟩ := (HX1.out.below hW).facts
        obtain ⟨⟨b3, b4, b5⟩, -⟩ := (HX2.out.below hW).facts
        exact ⟨b0, b1, b2, b3, b4, b5, (hW.cell (p := ⟨r, 0, none⟩) HP.out.ref.lt).trans hrc⟩)
      have HSAME : Hid (∀ W, Below W8.heap.size W8 W → Calls Try.prog 21 #[.agg #[.int .i64 0, .int .i64 0, .slice none 0 0], .agg #[.int .i64 0, .int .i64 0, .slice none 0 0]] W fun e w' => e = .returned (.bool true) ∧ Below W8.heap.size W8 w') := Lib.hid (fun W hW =>
        (same_same (m := (0, 0, [])) W ⟨_, rfl, HS1.out.below hW⟩ ⟨_, rfl, HS2.out.below hW⟩ HSL.out).mono fun e w' hp => ⟨hp.1, below_on' hW hp.2⟩)
      have HLEN : Hid (∀ W, Below W8.heap.size W8 W → Calls Try.prog 14 #[.pointer (some ⟨p, 0, none⟩)] W fun e w' => e = .returned (.int .i64 nz) ∧ Below W8.heap.size W8 w') := Lib.hid (fun W hW =>
        (len_pl (HP.out.on hW) hnz).mono fun e w' hp => ⟨hp.1, by rw [hp.2]; exact hW⟩)
      have HROOM : Hid (∀ W, Below W8.heap.size W8 W → Calls Try.prog 15 #[.pointer (some ⟨p, 0, none⟩)] W fun e w' => e = .returned (.int .i64 ((R : Int) - nz)) ∧ Below W8.heap.size W8 w') := Lib.hid (fun W hW =>
        (room_pl (HP.out.on hW) HR8.out hnz).mono fun e w' hp => ⟨hp.1, below_on' hW hp.2⟩)
      clear hrc hnz HX1 HX2 HS1 HS2
      go_region_held3 (fun w' => w'.cell? ⟨N1, 0, none⟩ = some (.int .i64 0) ∧ w'.cell? ⟨N1, 1, none⟩ = some (.int .i64 0) ∧ w'.cell? ⟨N1, 2, none⟩ = some (.slice none 0 0) ∧ w'.cell? ⟨N2, 0, none⟩ = some (.int .i64 0) ∧ w'.cell? ⟨N2, 1, none⟩ = some (.int .i64 0) ∧ w'.cell? ⟨N2, 2, none⟩ = some (.slice none 0 0) ∧ w'.cell? ⟨r, 0, none⟩ = some (.slice ar nz cr)) (first | exact HCC.out _ (Below.refl _ _).drew | exact HCC.out _ hb3 | exact HCC.out _ hb4 | exact HCC.out _ hb5) (first
        | (go_at_call 21; with_reducible refine (HSAME.out _ ?_).mono ?_; exact (Below.refl _ _).drew; rintro e w3 ⟨rfl, hb3⟩)
        | (go_at_call 14; with_reducible refine (HLEN.out _ ?_).mono ?_; exact hb3; rintro e w4 ⟨rfl, hb4⟩)
        | (go_at_call 15; with_reducible refine (HROOM.out _ ?_).mono ?_; exact hb4; rintro e w5 ⟨rfl, hb5⟩))
      have HP5 : Hid (Pl w w5 p c r R w5.heap.size L ms ms) := Lib.hid (HP.out.on hb5).rebase
      clear hb3 hb4 hb5
      go_wp2_with fail
      clear hfin
      go_roundg g
      case measure => omega
      case rel => exact ⟨i + 1, _, _, _, rfl, rfl, by omega, rfl, HP5⟩
end Go.Proofs.Ytknldabnkaecdaa.pip
