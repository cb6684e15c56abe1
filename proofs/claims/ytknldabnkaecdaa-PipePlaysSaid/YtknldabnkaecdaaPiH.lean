/- What Head answers of a pipe that has messages, and what it leaves: the messages as they were. -/
import Derived.Test.YtknldabnkaecdaaPiG
namespace Go.Proofs.Ytknldabnkaecdaa.pip
set_option linter.unusedSimpArgs false
set_option linter.unusedVariables false
open Go.RowKit
open Go.Conc (rcase scase heap_setChan size_setChan)
attribute [local go_sem ↓] Go.wp_at_zero Go.wp_at_succ
/-- Records don't lie in a message's own block. -/
theorem Sr.ne_msg {w : World} {v : Value} {rs : List Rc} (h : Sr w v rs) {N : Nat} {x y : Int} {a : Option Addr} {n c : Nat} (hb : Bx w N x y (.slice a n c)) :
    ∀ ad m k, v = .slice (some ad) m k → 0 < rs.length → ad.block ≠ N := by
  intro ad m k e hl hN
  obtain ⟨r, hr⟩ := rec_at (rs := rs) (k := 0) hl
  obtain ⟨g, o, c', e1, e2, p1, p2, p3⟩ := h.at hr
  rw [e] at e1
  injection e1 with e1 _ _
  obtain rfl := Option.some.inj e1
  obtain rfl : g = N := hN
  rw [cell_of_row w g _ _ _ _ hb] at p3
  have hlt : o + 0 * 3 + 2 < 3 := by
    have := (Array.getElem?_eq_some_iff.1 p3).1
    simpa using this
  obtain rfl : o = 0 := by omega
  simp at p3
theorem turn_step {v u : Value} {L : List Value} {k : Nat} (hk : L[k]? = some u) : L.drop k ++ v :: L.take k = u :: (L.drop (k + 1) ++ v :: L.take k) ∧ (L.drop (k + 1) ++ v :: L.take k) ++ [u] = L.drop (k + 1) ++ v :: L.take (k + 1) := by
  obtain ⟨hlt, rfl⟩ := List.getElem?_eq_some_iff.1 hk
  refine ⟨?_, ?_⟩
  · rw [List.drop_eq_getElem_cons hlt]; rfl
  · rw [List.take_add_one, hk]; simp
set_option maxHeartbeats 3200000 in
set_option maxRecDepth 1000000 in
theorem head_some {w : World} {p c room : Nat} {v : Value} {m : Ms} {L : List Value} (h : IsPipe w p c room (v :: L)) (hv : MV w v m) (hl : m.2.2.length * 24 ≤ 140737488355328) (hroom : room ≤ 8) :
    Calls Try.prog 9 #[.pointer (some ⟨p, 0, none⟩)] w fun e w' => ∃ v', e = .returned (.tuple #[v', .int .i64 0]) ∧ MV w' v' m ∧ IsPipe w' p c room (v :: L) ∧ Only (· = c) w w' := by
  obtain ⟨a, k, rfl, hs⟩ := hv.parts
  obtain ⟨x, y, rs⟩ := m
  dsimp only at hs hl ⊢ hv h
  obtain ⟨n, hn⟩ : ∃ q, rs.length = q := ⟨_, rfl⟩
  have hllen := h.len
  have hlt := h.lt
  rw [List.length_cons] at hllen
  rw [hn] at hs h hv ⊢
  obtain ⟨N, hN⟩ : ∃ n, w.heap.size = n := ⟨_, rfl⟩
  have hb0 := below_made w (.cells #[.int .i64 0, .int .i64 0, .slice none 0 0] 29)
  have hx0 := Bx.new w 0 0 (.slice none 0 0)
  obtain ⟨W0, hW0⟩ : ∃ W, w.alloc (.cells #[.int .i64 0, .int .i64 0, .slice none 0 0] 29) = W := ⟨_, rfl⟩
  rw [hW0] at hb0 hx0
  rw [hN] at hx0 hlt
  have HTK := Lib.hid (take_some (h.below hb0))
  have HCH0 := Lib.hid (h.below hb0).way
  have HB0 := Lib.hid hb0
  have HX0 := Lib.hid hx0
  have HS := Lib.hid (hs.below hb0)
  have HLT := Lib.hid hlt
  have HNN := Lib.hid hN
  have HN := Lib.hid hn
  obtain ⟨l, hln⟩ : ∃ q, L.length = q := ⟨_, rfl⟩
  have HLN := Lib.hid hln
  have hl8 : (l : Int) ≤ 8 := by omega
  have HRM : Hid (l < room) := Lib.hid (by omega)
  have HL := Lib.hid hl
  clear hb0 hx0 h hv hs hlt hllen hln hroom hl hn
  go_enter Try.func9, Try.ntmps9
  go_upto_region 4 with (go_at_call 10; ((with_reducible refine HTK.out.mono ?_); rintro e W1 ⟨rfl, h1, h2⟩; have HP1 := Lib.hid h1; have HO1 := Lib.hid h2; obtain ⟨M, hM⟩ : ∃ n, W1.heap.size = n := ⟨_, rfl⟩; have hy := Bx.new W1 0 0 (.slice none 0 0); have HYB := Lib.hid (below_made W1 (.cells #[.int .i64 0, .int .i64 0, .slice none 0 0] 29)); obtain ⟨W2, hW2⟩ : ∃ W, W1.alloc (.cells #[.int .i64 0, .int .i64 0, .slice none 0 0] 29) = W := ⟨_, rfl⟩; rw [hW2] at hy HYB; rw [hM] at hy; have HY := Lib.hid hy; obtain ⟨⟨d0, d1, d2⟩, g0⟩ := hy.facts; clear h1 h2 hy))
  have hNM : N < M := by have h1 := lt_of_get HX0.out; have h2 := HO1.out.size; omega
  have hcN : c < N := HLT.out.2
  have hpN : p < N := HLT.out.1
  have hx2 : Bx W2 N 0 0 (.slice none 0 0) := (HX0.out.only HO1.out (by omega)).below HYB.out
  have hx3 : Bx (setM W2 M x y (.slice a n k)) N 0 0 (.slice none 0 0) := hx2.otherM (by omega) _ _ _
  have hy3 : Bx (setM W2 M x y (.slice a n k)) M x y (.slice a n k) := HY.out.set _ _ _
  have hp3 : IsPipe (setM W2 M x y (.slice a n k)) p c room L := (HP1.out.below HYB.out).setM (by omega) (by omega) _ _ _
  have hs3 : Sr (setM W2 M x y (.slice a n k)) (.slice a n k) rs := by
    obtain ⟨s, r, hc0⟩ := HCH0.out
    have h1 := (HS.out.chan hc0 HO1.out).below HYB.out
    refine h1.msg (only_setM (B := 0) M _ _ _) (fun ad q z e h0 => ?_)
    obtain ⟨a1, k1, e1, _, _, _, h5⟩ := HS.out
    obtain ⟨gb, ob, e2, e3, _⟩ := h5 h0
    rw [e] at e1
    injection e1 with e1 _ _
    rw [e2] at e1
    obtain rfl := Option.some.inj e1
    have := HO1.out.size
    show gb ≠ M
    omega
  have ho3 : Only (· = c) w (setM W2 M x y (.slice a n k)) := (((Only.of_below HB0.out).then HO1.out).on HYB.out).new (only_setM (B := 0) M _ _ _) (fun i hi => by rw [hi, hN]; omega)
  change Code.wp _ _ _ _ (setM W2 M x y (.slice a n k))
  generalize setM W2 M x y (.slice a n k) = W3 at hx3 hy3 hp3 hs3 ho3 ⊢
  have hcell3 := hp3.cell
  have hlen3 := chan_len hp3.way
  obtain ⟨s, r, hc3⟩ := hp3.way
  obtain ⟨⟨m0, m1, m2⟩, _⟩ := hy3.facts
  have HX3 := Lib.hid hx3
  have HY3 := Lib.hid hy3
  have HP3 := Lib.hid hp3
  have HS3 := Lib.hid hs3
  have HO3 := Lib.hid ho3
  have HC3 := Lib.hid hc3
  have HNM := Lib.hid hNM
  have HCN := Lib.hid hcN
  have HPN := Lib.hid hpN
  have hlen3' : ∀ ty, (Builtin.len_ #[56] ty #[.chan (some c)]).run Try.prog W3 = .ok (.int .i64 l) W3 := fun ty => by rw [← HLN.out]; exact hlen3 ty
  clear hx2 hx3 hy3 hp3 hs3 ho3 hc3 hW2 hM hlen3 d0 d1 d2 g0 hNM hcN hpN hW0
  go_upto_region 5 with fail
  refine sent_region hcell3 m0 m1 m2 HC3.out (by have := HRM.out; have h2 := HLN.out; simp; omega) ?_
  have ho4 : Only (· = c) W3 (W3.drew.setChan c room (L.toArray.push (.agg #[.int .i64 x, .int .i64 y, .slice a n k])) false (s + 1) r false) := (Only.of_below (below_drewN W3 1)).then (Only.setChan W3.drew _ _ _ _ _ _ _)
  have hp4 : IsPipe (W3.drew.setChan c room (L.toArray.push (.agg #[.int .i64 x, .int .i64 y, .slice a n k])) false (s + 1) r false) p c room (L ++ [.agg #[.int .i64 x, .int .i64 y, .slice a n k]]) := by
    rw [push_list]
    exact (HP3.out.below (below_drewN W3 1)).turn (by have := HRM.out; have h2 := HLN.out; simp; omega) (s + 1) r
  generalize W3.drew.setChan c room (L.toArray.push (.agg #[.int .i64 x, .int .i64 y, .slice a n k])) false (s + 1) r false = W4 at ho4 hp4 ⊢
  have HO4 := Lib.hid ho4
  have HP4 : Hid (IsPipe W4 p c room (L.drop 0 ++ .agg #[.int .i64 x, .int .i64 y, .slice a n k] :: L.take 0)) := Lib.hid (by simpa using hp4)
  clear ho4 hp4 m0 m1 m2 hcell3 hlen3'
  dsimp only
  go_wp2_with fail
  go_loopg [27] l (fun g v27 wr => ∃ i : Nat, i + g = l ∧ v27 = .int .i64 i ∧ Hid (IsPipe wr p c room (L.drop i ++ .agg #[.int .i64 x, .int .i64 y, .slice a n k] :: L.take i)) ∧ Hid (Only (· = c) W3 wr))
  case atStart => exact ⟨0, by omega, rfl, HP4, HO4⟩
  case round =>
    clear HP4 HO4
    obtain ⟨i, hig, rfl, HPi, HOi⟩ := hrel
    cases gk with
    | zero =>
      have hiz : ¬ ((i : Int) < (l : Int)) := by omega
      have hil : i = L.length := by rw [HLN.out]; omega
      have HPE : Hid (IsPipe wr p c room (.agg #[.int .i64 x, .int .i64 y, .slice a n k] :: L)) := Lib.hid (by
        have h := HPi.out
        rw [hil, List.drop_length, List.take_length] at h
        exact h)
      have hym : Bx wr M x y (.slice a n k) := HY3.out.only HOi.out (by have := HNM.out; have h2 := HCN.out; omega)
      obtain ⟨⟨m0, m1, m2⟩, _⟩ := hym.facts
      have hsr : Sr wr (.slice a n k) rs := HS3.out.chan HC3.out HOi.out
      have HAP := Lib.hid (apart_any (v := .agg #[.int .i64 x, .int .i64 y, .slice a n k]) (m := (x, y, rs)) wr ⟨_, rfl, hsr⟩ (by exact HL.out))
      have HXN : Hid (Bx wr N 0 0 (.slice none 0 0)) := Lib.hid (HX3.out.only HOi.out (by have h2 := HCN.out; omega))
      have HOO := Lib.hid (HO3.out.then HOi.out)
      clear hym hsr hil hig HPi
      go_upto_region 10 with fail
      go_wp2_with (go_at_call 29; ((with_reducible refine HAP.out.mono ?_); rintro e W5 ⟨v5, rfl, h5, h6⟩; obtain ⟨a5, k5, rfl, h7⟩ := h5.parts; have HV5 := Lib.hid h7; have HB5 := Lib.hid h6; have hx5 := HXN.out.below h6; have HX5 := Lib.hid hx5; obtain ⟨⟨c0, c1, c2⟩, f0⟩ := hx5.facts; clear h5 h6 h7 hx5))
      have hne := HV5.out.ne_msg HX5.out
      have hsf : Sr (setM W5 N x y (.slice a5 rs.length k5)) (.slice a5 rs.length k5) rs := HV5.out.msg (only_setM (B := 0) N _ _ _) hne
      have hpf : IsPipe (setM W5 N x y (.slice a5 rs.length k5)) p c room (.agg #[.int .i64 x, .int .i64 y, .slice a n k] :: L) := (HPE.out.below HB5.out).setM (by have := HPN.out; omega) (by have := HCN.out; omega) _ _ _
      have hof : Only (· = c) w (setM W5 N x y (.slice a5 rs.length k5)) := (HOO.out.on HB5.out).new (only_setM (B := 0) N _ _ _) (fun i hi => by rw [hi, hN]; exact Nat.le_refl _)
      obtain ⟨⟨r0, r1, r2⟩, -⟩ := (HX5.out.set x y (.slice a5 rs.length k5)).facts
      unfold setM at r0 r1 r2
      refine bodyPost_ret (v := .tuple #[.agg #[.int .i64 x, .int .i64 y, .slice a5 rs.length k5], .int .i64 0]) (by simp [results, Try.f9, go_sem, r0, r1, r2]) rfl ?_
      exact ⟨_, rfl, ⟨_, rfl, hsf⟩, hpf, hof⟩
    | succ g =>
      have hiz : ((i : Int) < (l : Int)) := by omega
      have hgi : L[i]? = some (L[i]'(by have := HLN.out; omega)) := List.getElem?_eq_getElem _
      obtain ⟨t1, t2⟩ := turn_step (v := .agg #[.int .i64 x, .int .i64 y, .slice a n k]) hgi
      have hpi := HPi.out
      rw [t1] at hpi
      obtain ⟨si, ri, hci⟩ := hpi.way
      have hcl := hpi.cell
      have HCI := Lib.hid hci
      have HT2 := Lib.hid t2
      have HPI := Lib.hid hpi
      have HIG := Lib.hid hig
      obtain ⟨u, hu⟩ : ∃ q, (L[i]'(by have := HLN.out; omega)) = q := ⟨_, rfl⟩
      rw [hu] at HCI HT2 HPI
      obtain ⟨T, hT⟩ : ∃ q, L.drop (i + 1) ++ .agg #[.int .i64 x, .int .i64 y, .slice a n k] :: L.take i = q := ⟨_, rfl⟩
      rw [hT] at HCI HT2 HPI
      have HRT : Hid (T.toArray.size < room) := Lib.hid (by have := HPI.out.len; simp at this; simp; omega)
      have HRT' : Hid ((T ++ [u]).length ≤ room) := Lib.hid (by have := HPI.out.len; simp at this; simp; omega)
      clear hpi hci t1 t2 hgi HPi hu hT hig
      go_upto_region 8 with fail
      refine turned_region (v := u) (L := T) hcl HPI.out.ne HCI.out HRT.out ?_
      have hp9 : IsPipe ((wr.drew.setChan c room T.toArray false si (ri + 1) false).setChan c room (T.toArray.push u) false (si + 1) (ri + 1) false) p c room (L.drop (i + 1) ++ .agg #[.int .i64 x, .int .i64 y, .slice a n k] :: L.take (i + 1)) := by
        rw [push_list, ← HT2.out]
        exact ((HPI.out.below (below_drewN wr 1)).turn (L' := T) (by have := HRT.out; simp at this; omega) si (ri + 1)).turn HRT'.out (si + 1) (ri + 1)
      have ho9 : Only (· = c) W3 ((wr.drew.setChan c room T.toArray false si (ri + 1) false).setChan c room (T.toArray.push u) false (si + 1) (ri + 1) false) :=
        (((HOi.out).on (below_drewN wr 1)).then (Only.setChan _ _ _ _ _ _ _ _)).then (Only.setChan _ _ _ _ _ _ _ _)
      generalize (wr.drew.setChan c room T.toArray false si (ri + 1) false).setChan c room (T.toArray.push u) false (si + 1) (ri + 1) false = W9 at hp9 ho9 ⊢
      have HP9 := Lib.hid hp9
      have HO9 := Lib.hid ho9
      clear hp9 ho9 hcl
      dsimp only
      go_wp2_with fail
      go_roundg g
      case measure => omega
      case rel => exact ⟨i + 1, by have := HIG.out; omega, rfl, HP9, HO9⟩
end Go.Proofs.Ytknldabnkaecdaa.pip
