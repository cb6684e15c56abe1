/- What is taken are the messages that were put, in their order: the law. -/
import Derived.Test.YtknldabnkaecdaaPiP
namespace Go.Proofs.Ytknldabnkaecdaa.pip
set_option linter.unusedSimpArgs false
set_option linter.unusedVariables false
open Go.RowKit
attribute [local go_sem ↓] Go.wp_at_zero Go.wp_at_succ
open Go.Proofs.Ytknldabnkaecdaa.byt (fits intV txt flat own_below cell_one_new)
/-- Len, Take, Put of where the law stands. -/
theorem st_len {w0 wr : World} {p c room : Nat} {L : List Value} {qs ins outs : List Int} {v7 v8 : Value} (h : St w0 wr p c room L qs ins outs v7 v8) : L.length = qs.length ∧ L.length ≤ room := ⟨by have := h.msgs.len; simpa using this, h.pipe.len⟩
theorem len_st {w0 wr : World} {p c room : Nat} {L : List Value} {qs ins outs : List Int} {v7 v8 : Value} (h : St w0 wr p c room L qs ins outs v7 v8) {n : Nat} (hn : qs.length = n) :
    Calls Try.prog 14 #[.pointer (some ⟨p, 0, none⟩)] wr fun e w' => e = .returned (.int .i64 n) ∧ w' = wr := by
  have := len_any h.pipe
  rwa [(st_len h).1, hn] at this
theorem put_st_ok {w0 wr : World} {p c room : Nat} {L : List Value} {qs ins outs : List Int} {v7 v8 : Value} (h : St w0 wr p c room L qs ins outs v7 v8) {q : Int} (hq : 0 ≤ q) (hr : qs.length < room) {M : Nat} {o : Opn} (hx : Ox wr M o) :
    Calls Try.prog 13 #[.pointer (some ⟨p, 0, none⟩), .agg #[.int .i64 q, .int .i64 0, .slice none 0 0]] wr fun e w' => e = .returned (.int .i64 0) ∧ (∃ L', St w0 w' p c room L' (qs ++ [q]) ins outs v7 v8) ∧ Ox w' M o :=
  (put_ok h.pipe (bare_mv wr q) (by simp [bare]) (bare_may hq) (by rw [(st_len h).1]; exact hr)).mono fun e w' hp => by
    obtain ⟨e1, v', h1, h2, h3⟩ := hp
    exact ⟨e1, ⟨_, h.put h1 h2 h3⟩, hx.chan h.pipe h3⟩
theorem put_st_full {w0 wr : World} {p c room : Nat} {L : List Value} {qs ins outs : List Int} {v7 v8 : Value} (h : St w0 wr p c room L qs ins outs v7 v8) {q : Int} (hq : 0 ≤ q) (hr : room ≤ qs.length) {M : Nat} {o : Opn} (hx : Ox wr M o) :
    Calls Try.prog 13 #[.pointer (some ⟨p, 0, none⟩), .agg #[.int .i64 q, .int .i64 0, .slice none 0 0]] wr fun e w' => e = .returned (.int .i64 7) ∧ St w0 w' p c room L qs ins outs v7 v8 ∧ Ox w' M o :=
  (put_full h.pipe (bare_mv wr q) (by simp [bare]) (bare_may hq) (by rw [(st_len h).1]; exact hr)).mono fun e w' hp => by
    obtain ⟨e1, hb⟩ := hp
    exact ⟨e1, h.on hb, hx.below hb⟩
theorem take_st_none {w0 wr : World} {p c room : Nat} {L : List Value} {ins outs : List Int} {v7 v8 : Value} (h : St w0 wr p c room L [] ins outs v7 v8) :
    Calls Try.prog 10 #[.pointer (some ⟨p, 0, none⟩)] wr fun e w' => e = .returned (.tuple #[.agg #[.int .i64 0, .int .i64 0, .slice none 0 0], .int .i64 4]) ∧ St w0 w' p c room L [] ins outs v7 v8 := by
  have hL : L = [] := List.eq_nil_of_length_eq_zero (st_len h).1
  subst hL
  exact (take_none h.pipe).mono fun e w' hp => ⟨hp.1, h.on hp.2⟩
theorem take_st_some {w0 wr : World} {p c room : Nat} {L : List Value} {q : Int} {qs ins outs : List Int} {v7 v8 : Value} (h : St w0 wr p c room L (q :: qs) ins outs v7 v8) :
    Calls Try.prog 10 #[.pointer (some ⟨p, 0, none⟩)] wr fun e w' => ∃ a k, e = .returned (.tuple #[.agg #[.int .i64 q, .int .i64 0, .slice a 0 k], .int .i64 0]) ∧ ∃ L', St w0 w' p c room L' qs ins outs v7 v8 := by
  match L, h with
  | [], h => exact h.msgs.elim
  | v :: L', h =>
    obtain ⟨a, k, rfl⟩ := bare_parts h.msgs.1
    exact (take_some h.pipe).mono fun e w' hp => ⟨a, k, hp.1, L', h.take hp.2.1 hp.2.2⟩
/-- The rows' lengths tell how many lie in the pipe. -/
theorem st_row {w0 wr : World} {p c room : Nat} {L : List Value} {qs ins outs : List Int} {v7 v8 : Value} (h : St w0 wr p c room L qs ins outs v7 v8) (hq : ins = outs ++ qs) (hl : ins.length ≤ 301) :
    ∃ a7 A c7 a8 B c8 m, v7 = .slice a7 A c7 ∧ v8 = .slice a8 B c8 ∧ qs.length = m ∧ ((m : Int) != (A : Int) - (B : Int)) = false ∧ ¬ ((room : Int) < (m : Int)) ∧ (A : Int) ≤ 301 ∧ (B : Int) ≤ 301 ∧ (0 : Int) ≤ (A : Int) - (B : Int) := by
  obtain ⟨a7, c7, h7, _⟩ := byt.own_rd h.o7
  obtain ⟨a8, c8, h8, _⟩ := byt.own_rd h.o8
  have hlen : ins.length = outs.length + qs.length := by rw [hq, List.length_append]
  have h1 := st_len h
  refine ⟨a7, ins.length, c7, a8, outs.length, c8, qs.length, h7, h8, rfl, ?_, by omega, by omega, by omega, by omega⟩
  rw [bne_eq_false_iff_eq]
  omega
theorem own_nil_i64 (w : World) (B : Nat) : w.ownsRow B 2 1 (.slice none 0 0) ([] : List Int).length (([] : List Int).map intV) := World.ownsRow_nil _ _ _ _
set_option maxHeartbeats 6400000 in
set_option maxRecDepth 1000000 in
theorem law_order (room : Int) (l : List Opn) (a : Option Addr) (cap : Nat) (w : World) (hr : Ops w a l) (hl : l.length ≤ cap) (hc : cap ≤ maxLen) :
    Calls Try.prog 6 #[.int .i64 room, .slice a l.length cap] w fun e w' => e = .returned (.bool true) ∧ Below w.heap.size w w' := by
  obtain ⟨i0, hi, hz0, hz1, hz2⟩ := info_parts byt.info2
  have hn1 : (l.length : Int) ≤ 9223372036854775807 := by unfold maxLen at hc; omega
  obtain ⟨n, hn⟩ : ∃ q, l.length = q := ⟨_, rfl⟩
  have HN := Lib.hid hn
  have HR := Lib.hid hr
  rw [hn] at hn1 ⊢
  clear hr hl hc hn
  by_cases h300 : 300 < n
  · have h3 : 300 < (n : Int) := by omega
    clear HR h300
    go_enter Try.func6, Try.ntmps6
    go_wp2_with (go_at_call 12; ((with_reducible refine (works_any _).mono ?_); rintro e W9 ⟨rfl, h1⟩; have HB9 := Lib.hid h1; clear h1))
    go_ret
    exact ⟨rfl, HB9.out⟩
  have h3 : ¬ 300 < (n : Int) := by omega
  by_cases hroom : room < 1 ∨ 8 < room
  · have HNEW := Lib.hid (new_no room w hroom)
    clear HR h300 hroom
    go_enter Try.func6, Try.ntmps6
    go_wp2_with (first
      | (go_at_call 11; ((with_reducible refine HNEW.out.mono ?_); rintro e W1 ⟨rfl, rfl⟩))
      | (go_at_call 12; ((with_reducible refine (works_any _).mono ?_); rintro e W9 ⟨rfl, h1⟩; have HB9 := Lib.hid h1; clear h1)))
    go_ret
    exact ⟨rfl, HB9.out⟩
  obtain ⟨r, rfl⟩ : ∃ r : Nat, room = r := ⟨room.toNat, by omega⟩
  have hr1 : 1 ≤ r := by omega
  have hr8 : r ≤ 8 := by omega
  obtain ⟨c, hcc⟩ : ∃ q, w.heap.size = q := ⟨_, rfl⟩
  obtain ⟨p, hpp⟩ : ∃ q, w.heap.size + 1 = q := ⟨_, rfl⟩
  have hnew := new_yes r w hr1 hr8
  rw [hpp, hcc] at hnew
  have HNEW := Lib.hid hnew
  have HC := Lib.hid hcc
  have HP := Lib.hid hpp
  have hr8i : (r : Int) ≤ 8 := by omega
  have HR1 : Hid (1 ≤ r) := Lib.hid hr1
  clear hnew hcc hpp hroom h300 hr1
  go_enter Try.func6, Try.ntmps6
  go_wp2_with (go_at_call 11; ((with_reducible refine HNEW.out.mono ?_); rintro e W1 ⟨rfl, h1, h2⟩; have HP1 := Lib.hid h1; have HB1 := Lib.hid h2; clear h1 h2))
  go_loopg [7, 8, 29] n (fun g v7 v8 v29 wr => ∃ (i : Nat) (L : List Value) (qs ins outs : List Int) (u7 u8 : Value), v7 = u7 ∧ v8 = u8 ∧ i + g = n ∧ v29 = .int .i64 i ∧ Hid (St w wr p c r L qs ins outs u7 u8) ∧ Hid (ins = outs ++ qs ∧ ins.length ≤ i))
  case atStart =>
    refine ⟨0, [], [], [], [], _, _, rfl, rfl, by omega, rfl, Lib.hid ⟨HP1.out, trivial, own_nil_i64 _ _, own_nil_i64 _ _, (fun b hb => by cases hb), by rw [HC.out]; exact HB1.out, by rw [HC.out]; exact Nat.le_refl _, by rw [HC.out, ← HP.out, HC.out]; omega⟩, Lib.hid ⟨rfl, Nat.le_refl _⟩⟩
  case round =>
    clear HP1 HB1
    obtain ⟨i, L, qs, ins, outs, u7, u8, rfl, rfl, hig, rfl, HS, HQ⟩ := hrel
    cases gk with
    | zero =>
      have hiz : ¬ ((i : Int) < (n : Int)) := by omega
      have hil : ins.length ≤ 300 := by have := HQ.out.2; omega
      have HIL := Lib.hid hil
      have HE0 := Lib.hid HQ.out.1
      clear HR HNEW hig HQ hil
      go_wp2_with fail
      go_loopg [8] qs.length (fun g v8' wr' => ∃ (L' : List Value) (qs' outs' : List Int) (u9 : Value), v8' = u9 ∧ qs'.length = g ∧ Hid (St w wr' p c r L' qs' ins outs' u7 u9) ∧ Hid (ins = outs' ++ qs'))
      case atStart => exact ⟨L, qs, outs, _, rfl, rfl, HS, HE0⟩
      case round =>
        clear HS HE0
        rename World => Wj
        obtain ⟨L', qs', outs', u9, rfl, hqg, HSj, HEj⟩ := hrel
        cases qs' with
        | nil =>
          have hlen0 := len_st HSj.out (n := 0) rfl
          have HLEN := Lib.hid hlen0
          have hio : ins = outs' := by have := HEj.out; simpa using this
          have HEQ := Lib.hid (equal_nums (own_irow HSj.out.o7) (own_irow HSj.out.o8) (by have := HIL.out; omega) (by rw [← hio]; have := HIL.out; omega))
          have HIO := Lib.hid hio
          clear hlen0 hio hqg
          go_wp2_with (first
            | (go_at_call 14; ((with_reducible refine HLEN.out.mono ?_); rintro e Wl ⟨rfl, rfl⟩))
            | (go_at_call 26; ((with_reducible refine HEQ.out.mono ?_); rintro e W7 ⟨he, h2⟩; rw [decide_eq_true HIO.out] at he; subst he; have HB7 := Lib.hid (below_on' HSj.out.below h2); clear h2))
            | (go_at_call 12; ((with_reducible refine (works_any _).mono ?_); rintro e W9 ⟨rfl, h1⟩; have HB9 := Lib.hid (below_on' HB7.out h1); clear h1)))
          go_ret
          exact ⟨rfl, HB9.out⟩
        | cons q qs'' =>
          obtain ⟨m, hm⟩ : ∃ m, (q :: qs'').length = m := ⟨_, rfl⟩
          have hlen0 := len_st HSj.out hm
          have HLEN := Lib.hid hlen0
          have hm0 : (0 : Int) < (m : Int) := by rw [← hm, List.length_cons]; omega
          have hgk : gk = qs''.length + 1 := by rw [← hqg]; rfl
          have hol : outs'.length ≤ 300 := by have h := HEj.out; have h2 := HIL.out; rw [h, List.length_append] at h2; omega
          have HE2 : Hid (ins = (outs' ++ [q]) ++ qs'') := Lib.hid (by have h := HEj.out; rw [h]; simp)
          clear hlen0 hm hqg
          go_upto_region 20 with (go_at_call 14; ((with_reducible refine HLEN.out.mono ?_); rintro e Wl ⟨rfl, rfl⟩))
          go_upto_region 21 with (go_at_call 10; ((with_reducible refine (take_st_some HSj.out).mono ?_); rintro e W4 ⟨a4, k4, rfl, L4, h1⟩; have HS4 := Lib.hid h1; obtain ⟨M4, hM4⟩ : ∃ n, W4.heap.size = n := ⟨_, rfl⟩; have hy := Bx.new W4 0 0 (.slice none 0 0); have HYBW5 := Lib.hid (below_made W4 (.cells #[.int .i64 0, .int .i64 0, .slice none 0 0] 29)); obtain ⟨W5, hW5⟩ : ∃ W, W4.alloc (.cells #[.int .i64 0, .int .i64 0, .slice none 0 0] 29) = W := ⟨_, rfl⟩; rw [hW5] at hy HYBW5; rw [hM4] at hy; have HYW5 := Lib.hid hy; obtain ⟨⟨d0, d1, d2⟩, g0⟩ := hy.facts; clear hy h1))
          have h4 : St w (setM W5 M4 q 0 (.slice a4 0 k4)) p c r L4 qs'' ins outs' u7 _ := HS4.out.on (below_setM HYBW5.out (by rw [hM4]; exact Nat.le_refl _) _ _ _)
          have hx4 : Bx (setM W5 M4 q 0 (.slice a4 0 k4)) M4 q 0 (.slice a4 0 k4) := HYW5.out.set _ _ _
          change Code.wp _ _ _ _ (setM W5 M4 q 0 (.slice a4 0 k4))
          generalize setM W5 M4 q 0 (.slice a4 0 k4) = W6 at h4 hx4 ⊢
          have HS6 := Lib.hid h4
          obtain ⟨⟨m0, m1, m2⟩, _⟩ := hx4.facts
          have HSZ6 : Hid (∀ o, w.heap.size ≤ (W6.alloc o).heap.size) := Lib.hid (fun o => by rw [World.size_alloc]; have := h4.below.size; omega)
          clear h4 hx4 d0 d1 d2 g0 hW5 hM4
          go_wp2_with (at_builtin; refine wpList_append_own_at _ rfl (.tmp 88) (.tmp 91) 52 rfl w.heap.size 2 i0 (.int .i64 0) 1 8 Try.underlying52 hi hz0 hz1 hz2 rfl (by decide) _ _ _ rfl (HS6.out.o8.alloc _) ⟨_, 0, none⟩ 1 1 [.int .i64 q] rfl rfl (cell_one_new _ _ _) (by simp [Value.oneCell']) (by unfold maxLen; omega) (by omega) (HSZ6.out _) ?_)
          intro v9 w2 k9 g9 _ h9
          have HS9 := Lib.hid (HS6.out.app8 k9 g9 (by first | exact h9 | exact h9.imp id (fun h => by rw [World.size_alloc]; exact h)))
          clear k9 g9 h9
          go_wp2_with fail
          go_roundg qs''.length
          case measure => omega
          case rel => exact ⟨L4, qs'', outs' ++ [q], _, rfl, rfl, HS9, HE2⟩
    | succ g =>
      have hiz : ((i : Int) < (n : Int)) := by omega
      obtain ⟨b0, o0, q, ea, gq, hq, c0, c1, c2, c3⟩ := (HR.out.below HS.out.below).at (k := i) (by rw [HN.out]; omega)
      subst ea
      obtain ⟨kind, mq, aq, kq⟩ := q
      dsimp only at c0 c1 c2 c3
      obtain ⟨M, hM⟩ : ∃ q, wr.heap.size = q := ⟨_, rfl⟩
      have hy : Ox (wr.alloc (.cells #[.int .i64 0, .int .i64 0, .int .i64 0, .slice none 0 0] 44)) wr.heap.size ⟨0, zeroM, none, 0⟩ := Go.heap_alloc_new wr _
      have HYB := Lib.hid (below_made wr (.cells #[.int .i64 0, .int .i64 0, .int .i64 0, .slice none 0 0] 44))
      obtain ⟨W5, hW5⟩ : ∃ W, wr.alloc (.cells #[.int .i64 0, .int .i64 0, .int .i64 0, .slice none 0 0] 44) = W := ⟨_, rfl⟩
      rw [hW5] at hy HYB
      rw [hM] at hy
      have HY := Lib.hid hy
      obtain ⟨⟨d0, d1, d2, d3⟩, g0⟩ := hy.facts
      dsimp only [zeroM] at d0 d1 d2 d3
      have HIG := Lib.hid hig
      clear hy gq hq hig
      go_upto_region 10 with fail
      have h6 : St w (setO W5 M ⟨kind, mq, aq, kq⟩) p c r L qs ins outs _ _ := HS.out.on (below_setO HYB.out (by rw [hM]; exact Nat.le_refl _) _)
      have hx6 : Ox (setO W5 M ⟨kind, mq, aq, kq⟩) M ⟨kind, mq, aq, kq⟩ := HY.out.set _
      change Code.wp _ _ _ _ (setO W5 M ⟨kind, mq, aq, kq⟩)
      generalize setO W5 M ⟨kind, mq, aq, kq⟩ = W6 at h6 hx6 ⊢
      have HS6 := Lib.hid h6
      have HX6 := Lib.hid hx6
      obtain ⟨⟨m0, -, -, -⟩, -⟩ := hx6.facts
      dsimp only at m0
      have hins : ins.length ≤ 300 := by have := HQ.out.2; have := HIG.out; omega
      have hout : outs.length ≤ 300 := by have h := HQ.out.1; rw [h, List.length_append] at hins; omega
      have hig : i + (g + 1) = n := HIG.out
      clear h6 hx6 c0 c1 c2 c3 d0 d1 d2 d3 g0 hW5 hM HS
      by_cases hk0 : kind = 0
      · subst hk0
        by_cases hfull : qs.length < r
        · have HPUT := Lib.hid (put_st_ok HS6.out (q := (i : Int)) (by omega) hfull HX6.out)
          have HQ9 : Hid (ins ++ [(i : Int)] = outs ++ (qs ++ [(i : Int)]) ∧ (ins ++ [(i : Int)]).length ≤ i + 1) := Lib.hid ⟨by rw [HQ.out.1, List.append_assoc], by rw [List.length_append]; have := HQ.out.2; simp; omega⟩
          clear hfull
          go_upto_region 11 with (go_at_call 13; ((with_reducible refine HPUT.out.mono ?_); rintro e W7 ⟨rfl, ⟨L7, h1⟩, h2⟩; have HS7 := Lib.hid h1; have HX7 := Lib.hid h2; have HSZ : Hid (∀ o, w.heap.size ≤ (W7.alloc o).heap.size) := Lib.hid (fun o => by rw [World.size_alloc]; have := h1.below.size; omega); clear h1 h2))
          go_upto_region 12 with ((at_builtin; refine wpList_append_own_at _ rfl (.tmp 44) (.tmp 46) 52 rfl w.heap.size 2 i0 (.int .i64 0) 1 8 Try.underlying52 hi hz0 hz1 hz2 rfl (by decide) _ _ _ rfl (HS7.out.o7.alloc _) ⟨_, 0, none⟩ 1 1 [.int .i64 (i : Int)] rfl rfl (cell_one_new _ _ _) (by simp [Value.oneCell']) (by unfold maxLen; omega) (by omega) (HSZ.out _) ?_); intro v9 W9 k9 g9 _ h9; have HS9 := Lib.hid (HS7.out.app7 k9 g9 (by first | exact h9 | exact h9.imp id (fun h => by rw [World.size_alloc]; exact h))); have hx9 := HX7.out.grown HS7.out.o7 g9; obtain ⟨⟨n0, -, -, -⟩, -⟩ := hx9.facts; dsimp only at n0; clear k9 g9 h9 hx9)
          go_upto_region 16 with fail
          obtain ⟨a7, A, c7, a8, B, c8, m, rfl, rfl, hm, t1, t2, t3, t4, t5⟩ := st_row HS9.out HQ9.out.1 (by have := HQ9.out.2; omega)
          have HLEN := Lib.hid (len_st HS9.out hm)
          clear hm
          go_wp2_with (go_at_call 14; ((with_reducible refine HLEN.out.mono ?_); rintro e Wl ⟨rfl, rfl⟩))
          go_roundg g
          case measure => omega
          case rel => exact ⟨i + 1, L7, qs ++ [(i : Int)], ins ++ [(i : Int)], outs, _, _, rfl, rfl, by omega, rfl, HS9, HQ9⟩
        · have HPUT := Lib.hid (put_st_full HS6.out (q := (i : Int)) (by omega) (by omega) HX6.out)
          have HQ9 : Hid (ins = outs ++ qs ∧ ins.length ≤ i + 1) := Lib.hid ⟨HQ.out.1, by have := HQ.out.2; omega⟩
          clear hfull
          go_upto_region 12 with (go_at_call 13; ((with_reducible refine HPUT.out.mono ?_); rintro e W7 ⟨rfl, h1, h2⟩; have HS9 := Lib.hid h1; obtain ⟨⟨n0, -, -, -⟩, -⟩ := h2.facts; dsimp only at n0; clear h1 h2))
          go_upto_region 16 with fail
          obtain ⟨a7, A, c7, a8, B, c8, m, rfl, rfl, hm, t1, t2, t3, t4, t5⟩ := st_row HS9.out HQ9.out.1 (by have := HQ9.out.2; omega)
          have HLEN := Lib.hid (len_st HS9.out hm)
          clear hm
          go_wp2_with (go_at_call 14; ((with_reducible refine HLEN.out.mono ?_); rintro e Wl ⟨rfl, rfl⟩))
          go_roundg g
          case measure => omega
          case rel => exact ⟨i + 1, L, qs, ins, outs, _, _, rfl, rfl, by omega, rfl, HS9, HQ9⟩
      by_cases hk2 : kind = 2
      · subst hk2
        clear hk0
        cases qs with
        | nil =>
          have HQ9 : Hid (ins = outs ++ [] ∧ ins.length ≤ i + 1) := Lib.hid ⟨HQ.out.1, by have := HQ.out.2; omega⟩
          go_upto_region 13 with fail
          go_upto_region 14 with (go_at_call 10; ((with_reducible refine (take_st_none HS6.out).mono ?_); rintro e W7 ⟨rfl, h1⟩; have HS7 := Lib.hid h1; obtain ⟨M8, hM8⟩ : ∃ n, W7.heap.size = n := ⟨_, rfl⟩; have hy := Bx.new W7 0 0 (.slice none 0 0); have HYBW8 := Lib.hid (below_made W7 (.cells #[.int .i64 0, .int .i64 0, .slice none 0 0] 29)); obtain ⟨W8, hW8⟩ : ∃ W, W7.alloc (.cells #[.int .i64 0, .int .i64 0, .slice none 0 0] 29) = W := ⟨_, rfl⟩; rw [hW8] at hy HYBW8; rw [hM8] at hy; have HYW8 := Lib.hid hy; obtain ⟨⟨d0, d1, d2⟩, g0⟩ := hy.facts; clear hy h1))
          have h8 : St w (setM W8 M8 0 0 (.slice none 0 0)) p c r L [] ins outs _ _ := HS7.out.on (below_setM HYBW8.out (by rw [hM8]; exact Nat.le_refl _) _ _ _)
          change Code.wp _ _ _ _ (setM W8 M8 0 0 (.slice none 0 0))
          generalize setM W8 M8 0 0 (.slice none 0 0) = W9 at h8 ⊢
          have HS9 := Lib.hid h8
          clear h8 d0 d1 d2 g0 hW8 hM8 m0
          go_upto_region 16 with fail
          obtain ⟨a7, A, c7, a8, B, c8, m, rfl, rfl, hm, t1, t2, t3, t4, t5⟩ := st_row HS9.out HQ9.out.1 (by have := HQ9.out.2; omega)
          have HLEN := Lib.hid (len_st HS9.out hm)
          clear hm
          go_wp2_with (go_at_call 14; ((with_reducible refine HLEN.out.mono ?_); rintro e Wl ⟨rfl, rfl⟩))
          go_roundg g
          case measure => omega
          case rel => exact ⟨i + 1, L, [], ins, outs, _, _, rfl, rfl, by omega, rfl, HS9, HQ9⟩
        | cons q qs =>
          have HQ9 : Hid (ins = (outs ++ [q]) ++ qs ∧ ins.length ≤ i + 1) := Lib.hid ⟨by rw [HQ.out.1]; simp, by have := HQ.out.2; omega⟩
          go_upto_region 13 with fail
          go_upto_region 14 with (go_at_call 10; ((with_reducible refine (take_st_some HS6.out).mono ?_); rintro e W7 ⟨a4, k4, rfl, L4, h1⟩; have HS7 := Lib.hid h1; obtain ⟨M8, hM8⟩ : ∃ n, W7.heap.size = n := ⟨_, rfl⟩; have hy := Bx.new W7 0 0 (.slice none 0 0); have HYBW8 := Lib.hid (below_made W7 (.cells #[.int .i64 0, .int .i64 0, .slice none 0 0] 29)); obtain ⟨W8, hW8⟩ : ∃ W, W7.alloc (.cells #[.int .i64 0, .int .i64 0, .slice none 0 0] 29) = W := ⟨_, rfl⟩; rw [hW8] at hy HYBW8; rw [hM8] at hy; have HYW8 := Lib.hid hy; obtain ⟨⟨d0, d1, d2⟩, g0⟩ := hy.facts; clear hy h1))
          have h8 : St w (setM W8 M8 q 0 (.slice a4 0 k4)) p c r L4 qs ins outs _ _ := HS7.out.on (below_setM HYBW8.out (by rw [hM8]; exact Nat.le_refl _) _ _ _)
          have hx8 : Bx (setM W8 M8 q 0 (.slice a4 0 k4)) M8 q 0 (.slice a4 0 k4) := HYW8.out.set _ _ _
          change Code.wp _ _ _ _ (setM W8 M8 q 0 (.slice a4 0 k4))
          generalize setM W8 M8 q 0 (.slice a4 0 k4) = W10 at h8 hx8 ⊢
          have HS8 := Lib.hid h8
          obtain ⟨⟨n0, -, -⟩, -⟩ := hx8.facts
          have HSZ : Hid (∀ o, w.heap.size ≤ (W10.alloc o).heap.size) := Lib.hid (fun o => by rw [World.size_alloc]; have := h8.below.size; omega)
          clear h8 hx8 d0 d1 d2 g0 hW8 hM8 m0
          go_upto_region 16 with ((at_builtin; refine wpList_append_own_at _ rfl (.tmp 58) (.tmp 61) 52 rfl w.heap.size 2 i0 (.int .i64 0) 1 8 Try.underlying52 hi hz0 hz1 hz2 rfl (by decide) _ _ _ rfl (HS8.out.o8.alloc _) ⟨_, 0, none⟩ 1 1 [.int .i64 q] rfl rfl (cell_one_new _ _ _) (by simp [Value.oneCell']) (by unfold maxLen; omega) (by omega) (HSZ.out _) ?_); intro v9 W9 k9 g9 _ h9; have HS9 := Lib.hid (HS8.out.app8 k9 g9 (by first | exact h9 | exact h9.imp id (fun h => by rw [World.size_alloc]; exact h))); clear k9 g9 h9)
          obtain ⟨a7, A, c7, a8, B, c8, m, rfl, rfl, hm, t1, t2, t3, t4, t5⟩ := st_row HS9.out HQ9.out.1 (by have := HQ9.out.2; omega)
          have HLEN := Lib.hid (len_st HS9.out hm)
          clear hm
          go_wp2_with (go_at_call 14; ((with_reducible refine HLEN.out.mono ?_); rintro e Wl ⟨rfl, rfl⟩))
          go_roundg g
          case measure => omega
          case rel => exact ⟨i + 1, L4, qs, ins, outs ++ [q], _, _, rfl, rfl, by omega, rfl, HS9, HQ9⟩
      · have hb0 : (kind == 0) = false := by simp [hk0]
        have hb2 : (kind == 2) = false := by simp [hk2]
        have HQ9 : Hid (ins = outs ++ qs ∧ ins.length ≤ i + 1) := Lib.hid ⟨HQ.out.1, by have := HQ.out.2; omega⟩
        clear hk0 hk2
        go_upto_region 16 with fail
        obtain ⟨a7, A, c7, a8, B, c8, m, rfl, rfl, hm, t1, t2, t3, t4, t5⟩ := st_row HS6.out HQ9.out.1 (by have := HQ9.out.2; omega)
        have HLEN := Lib.hid (len_st HS6.out hm)
        clear hm
        go_wp2_with (go_at_call 14; ((with_reducible refine HLEN.out.mono ?_); rintro e Wl ⟨rfl, rfl⟩))
        go_roundg g
        case measure => omega
        case rel => exact ⟨i + 1, L, qs, ins, outs, _, _, rfl, rfl, by omega, rfl, HS6, HQ9⟩
end Go.Proofs.Ytknldabnkaecdaa.pip
