/- What the reference's Bytes answers: as Bytes. -/
import Derived.Test.YtknldabnkaecdaaPiT
import Derived.Maps.AppendAt
namespace Go.Proofs.Ytknldabnkaecdaa.pip
set_option linter.unusedSimpArgs false
set_option linter.unusedVariables false
open Go.RowKit
attribute [local go_sem ↓] Go.wp_at_zero Go.wp_at_succ
open Go.Proofs.Ytknldabnkaecdaa.byt (fits intV txt flat)
theorem step_app {P : Program} {ops : Array Oper} {o : Oper} {a : Act} {K : Act → World → Prop} {Q : Exit → Act → World → Prop} {E : Prop} {w w' : World} {v u r : Value} (hgd : o.guard = none) (s x : Operand) (t : TypeId)
    (ho : o.op = .call { callee := .builtin .append, args := #[s, x], argTypes := #[t, t] }) (hs : a.eval s = v) (hx : a.eval x = u) (hr : (Builtin.append_ #[t, t] o.type #[v, u]).run P w = .ok r w')
    (h : K (a.put o.dst r) w') : if Region.wanted o (yielded ops a.tmps) = true then Oper.wp P o a w K Q else E := by
  have hw : Region.wanted o (yielded ops a.tmps) = true := by simp [Region.wanted, hgd]
  rw [if_pos hw]
  unfold Oper.wp execOp
  simp only [ho, resolve, invoke, builtin, Sem.run_bind, Sem.run_pure, Result.andThen_ok, List.map_toArray, List.map_cons, List.map_nil, hs, hx, hr]
  exact h
set_option maxHeartbeats 3200000 in
set_option maxRecDepth 1000000 in
theorem rbytes_any {v : Value} {m : Ms} (w : World) (hv : MV w v m) (hf : fitM m) (hl : m.2.2.length ≤ 100000) :
    Calls Try.prog 22 #[v] w (BytesPost m w) := by
  obtain ⟨i0, hi, hz0, hz1, hz2⟩ := info_parts byt.info2
  obtain ⟨a, c, rfl, hs⟩ := hv.parts
  have HE : Hid (∀ w', Below w.heap.size w w' → mayB m = false → BytesPost m w (.returned (.tuple #[.string ⟨#[]⟩, .int .i64 2])) w') := Lib.hid (fun w' hb hm => ⟨by rw [hm]; rfl, hb⟩)
  have HG : Hid (∀ w', Below w.heap.size w w' → mayB m = true → BytesPost m w (.returned (.tuple #[.string (txt (flat (numsM m))), .int .i64 0])) w') := Lib.hid (fun w' hb hm => ⟨by rw [if_pos hm], hb⟩)
  have HFT := Lib.hid (numsM_fits hf (by omega))
  have HLN := Lib.hid (numsM_len m)
  have HTO := Lib.hid (numsTo_all m)
  have HSU : Hid (∀ i r, m.2.2[i]? = some r → numsTo m (i + 1) = numsTo m i ++ numR r) := Lib.hid (fun i r h => numsTo_succ h)
  have HZE : Hid (numsTo m 0 = [m.1, m.2.1, (m.2.2.length : Int)]) := Lib.hid (by unfold numsTo; simp)
  obtain ⟨n, hn⟩ : ∃ q, m.2.2.length = q := ⟨_, rfl⟩
  obtain ⟨x, hx⟩ : ∃ q, m.1 = q := ⟨_, rfl⟩
  obtain ⟨y, hy⟩ : ∃ q, m.2.1 = q := ⟨_, rfl⟩
  obtain ⟨rs, hrs⟩ : ∃ q, m.2.2 = q := ⟨_, rfl⟩
  obtain ⟨B, hB⟩ : ∃ q, mayB m = q := ⟨_, rfl⟩
  rw [hn] at HLN HTO HZE hl
  rw [hx, hy] at HZE
  rw [hrs] at HSU hs hn
  have hb0 := below_made w (.cells #[.int .i64 x, .int .i64 y, .slice a n c] 29)
  have hx0 := Bx.new w x y (.slice a n c)
  rw [hx, hy, hrs, hn]
  rw [hn] at hs
  obtain ⟨W0, hW0⟩ : ∃ W, w.alloc (.cells #[.int .i64 x, .int .i64 y, .slice a n c] 29) = W := ⟨_, rfl⟩
  rw [hW0] at hb0 hx0
  have HMAY : Hid (Calls Try.prog 23 #[.agg #[.int .i64 x, .int .i64 y, .slice a n c]] W0 fun e w' => e = .returned (.bool B) ∧ Below W0.heap.size W0 w') := Lib.hid (by
    have := rmay_any (v := .agg #[.int .i64 x, .int .i64 y, .slice a n c]) (m := m) W0 ⟨.slice a n c, by rw [hx, hy], by rw [hrs]; exact hs.below hb0⟩ (by rw [hrs, hn]; omega)
    rwa [hB] at this)
  have HB0 := Lib.hid hb0
  have HX0 := Lib.hid hx0
  have HS := Lib.hid hs
  have HN := Lib.hid hn
  have hn1 : (n : Int) ≤ 100000 := by omega
  obtain ⟨⟨c0, c1, c2⟩, f0⟩ := hx0.facts
  have HBB := Lib.hid hB
  clear hv hs hb0 hx0 hx hy hrs hn hf hB
  cases B with
  | false =>
    go_enter Try.func22, Try.ntmps22
    go_wp2_with (go_at_call 23; ((with_reducible refine HMAY.out.mono ?_); rintro e W1 ⟨rfl, h1⟩; have HB1 := Lib.hid h1; clear h1))
    go_ret2
    exact HE.out _ (below_on' HB0.out HB1.out) HBB.out
  | true =>
    go_enter Try.func22, Try.ntmps22
    go_upto_region 3 with (go_at_call 23; ((with_reducible refine HMAY.out.mono ?_); rintro e W1 ⟨rfl, h1⟩; have HB1 := Lib.hid h1; have hx1 := HX0.out.below h1; have HX1 := Lib.hid hx1; obtain ⟨⟨d0, d1, d2⟩, g0⟩ := hx1.facts; clear h1 hx1))
    have HO1 := Lib.hid (own_three W1 w.heap.size (by have := HB0.out.size; have := HB1.out.size; omega) x y (n : Int))
    have hb2 := below_made W1 (.cells #[.int .i64 x, .int .i64 y, .int .i64 (n : Int)] 2)
    have hx2 := HX1.out.below hb2
    have HB2 := Lib.hid (below_on' (below_on' HB0.out HB1.out) hb2)
    obtain ⟨W2, hW2⟩ : ∃ W, W1.alloc (.cells #[.int .i64 x, .int .i64 y, .int .i64 (n : Int)] 2) = W := ⟨_, rfl⟩
    rw [hW2] at hb2 hx2 HO1 HB2
    have HX2 := Lib.hid hx2
    clear hb2 hx2
    go_wp2_with fail
    go_loopg [4, 5] n (fun g v4 v5 wr => ∃ (i : Nat) (u4 : Value), v4 = u4 ∧ i + g = n ∧ v5 = .int .i64 i ∧ Hid (wr.ownsRow w.heap.size 2 1 u4 (3 + 3 * i) ((numsTo m i).map intV)) ∧ Hid (Below w.heap.size w wr) ∧ Hid (Bx wr w.heap.size x y (.slice a n c)))
    case atStart => exact ⟨0, _, rfl, by omega, rfl, Lib.hid (by rw [HZE.out]; exact HO1.out), HB2, HX2⟩
    case round =>
      clear HB2 HO1 HX1 HX0 HX2 hW2 c0 c1 c2 f0 d0 d1 d2 g0
      obtain ⟨i, u4, rfl, hig, rfl, HO, HB, HX⟩ := hrel
      obtain ⟨⟨-, -, k2⟩, -⟩ := HX.out.facts
      cases gk with
      | zero =>
        have hiz : ¬ ((i : Int) < (n : Int)) := by omega
        have hown := HO.out
        rw [show i = n by omega, HTO.out, ← HLN.out] at hown
        obtain ⟨b, cap, rfl, hrd⟩ := byt.own_rd hown
        have HPT := Lib.hid (byt.refPut_any (numsM m) b cap wr hrd HFT.out (by rw [HLN.out]; omega))
        unfold byt.PutPost at HPT
        obtain ⟨q, hq⟩ : ∃ q, (numsM m).length = q := ⟨_, rfl⟩
        rw [hq] at HPT ⊢
        clear hown hrd hq
        go_wp2_with (go_at_call 31; ((with_reducible refine HPT.out.mono ?_); rintro e W7 ⟨rfl, h1⟩; have HB7 := Lib.hid h1; clear h1))
        go_ret2
        exact HG.out _ (below_on' HB.out HB7.out) HBB.out
      | succ g =>
        have hiz : ((i : Int) < (n : Int)) := by omega
        have hi0 : (0 : Int) ≤ (i : Int) := by omega
        obtain ⟨r, hr⟩ := rec_at (rs := rs) (k := i) (by rw [HN.out]; omega)
        have hsr := HS.out.below HB.out
        rw [← HN.out] at hsr
        obtain ⟨gb, o, c', e1, e2, p1, p2, p3⟩ := hsr.at hr
        injection e1 with e1a e1n e1b
        subst e1a e1b
        have HSX := Lib.hid (HSU.out i r hr)
        obtain ⟨r1, r2, r3⟩ := r
        dsimp only at p1 p2 p3
        have HIG := Lib.hid hig
        -- what the append leaves
        have hb4 : Below wr.heap.size wr (wr.drew.alloc (.cells #[.int .i64 r1, .int .i64 r2, .int .i64 r3] 2)) := ((Below.refl _ wr).drew).alloc (Nat.le_refl _) _
        have ho4 := byt.own_below HO.out hb4
        have hi3 : (3 + 3 * i + 3) * 8 ≤ 140737488355328 := by omega
        obtain ⟨v5, w5, hr5, ho5, hg5, _, hat5⟩ := run_append_own_at (P := Try.prog) (wr.drew.alloc (.cells #[.int .i64 r1, .int .i64 r2, .int .i64 r3] 2)) w.heap.size 52 52 2 i0 (.int .i64 0) 1 8 Try.underlying52 hi hz0 hz1 hz2 rfl (by decide) _ _ _ ho4 ⟨wr.drew.heap.size, 0, none⟩ 3 3 [.int .i64 r1, .int .i64 r2, .int .i64 r3] rfl (cell_three_at wr.drew (.int .i64 r1) (.int .i64 r2) (.int .i64 r3) 2 _ rfl) (by simp [Value.oneCell']) (by unfold maxLen; omega) hi3 (Nat.le_trans HB.out.size hb4.size)
        have hoff : ∀ ob k, wr.heap[k]? = some ob → (∀ cur : Array Value, ob ≠ Obj.cells cur 2 (0, 0)) → w5.heap[k]? = some ob := fun ob k hk hno => by
          have hlt := lt_of_get hk
          rw [hg5.block k (Nat.lt_of_lt_of_le hlt hb4.size) (fun e => by
            rcases HO.out.2 with ⟨h0, _⟩ | ⟨g', cap', cur, h0, _, hgg, _⟩
            · rw [h0] at e; cases e
            · rw [h0] at e
              obtain rfl := Option.some.inj e
              rw [hk] at hgg
              exact hno cur (Option.some.inj hgg)), hb4.block k hlt]
          exact hk
        have HX5 : Hid (Bx w5 w.heap.size x y (.slice (some ⟨gb, o, none⟩) n c)) := Lib.hid (hoff _ _ HX.out (fun cur e => by cases e))
        have HB5 : Hid (Below w.heap.size w w5) := Lib.hid ((below_on' HB.out hb4).grown hg5 (Nat.le_trans HB.out.size hb4.size) (fun j hj => (HO.out.lt j hj).1))
        have HO5 : Hid (w5.ownsRow w.heap.size 2 1 v5 (3 + 3 * (i + 1)) ((numsTo m (i + 1)).map intV)) := Lib.hid (by
          rw [HSX.out, List.map_append]
          have h := ho5
          rw [show 3 + 3 * i + 3 = 3 + 3 * (i + 1) by omega] at h
          exact h)
        have HR5 := Lib.hid hr5
        -- the record's cells behind the append: as they came in
        have hsr5 : Sr w5 (.slice (some ⟨gb, o, none⟩) rs.length c) rs := by rw [HN.out]; exact HS.out.below HB5.out
        obtain ⟨gb5, o5, c5, e5, _, s1, s2, s3⟩ := hsr5.at hr
        injection e5 with e5a e5n e5b
        injection e5a with e5a
        injection e5a with e5c e5d
        subst e5c e5d
        dsimp only at s1 s2 s3
        obtain ⟨⟨-, -, y2⟩, -⟩ := HX5.out.facts
        have LQ : w5.cell? ⟨w.heap.size, 2, none⟩ = some (.slice (some ⟨gb, o, none⟩) n c) ∧ w5.cell? ⟨gb, o + i * 3, none⟩ = some (.int .i64 r1) ∧ w5.cell? ⟨gb, o + i * 3 + 1, none⟩ = some (.int .i64 r2) ∧ w5.cell? ⟨gb, o + i * 3 + 2, none⟩ = some (.int .i64 r3) := ⟨y2, s1, s2, s3⟩
        have LP : (wr.drew.alloc (.cells #[.int .i64 r1, .int .i64 r2, .int .i64 r3] 2)).cell? ⟨w.heap.size, 2, none⟩ = some (.slice (some ⟨gb, o, none⟩) n c) ∧ (wr.drew.alloc (.cells #[.int .i64 r1, .int .i64 r2, .int .i64 r3] 2)).cell? ⟨gb, o + i * 3, none⟩ = some (.int .i64 r1) ∧ (wr.drew.alloc (.cells #[.int .i64 r1, .int .i64 r2, .int .i64 r3] 2)).cell? ⟨gb, o + i * 3 + 1, none⟩ = some (.int .i64 r2) ∧ (wr.drew.alloc (.cells #[.int .i64 r1, .int .i64 r2, .int .i64 r3] 2)).cell? ⟨gb, o + i * 3 + 2, none⟩ = some (.int .i64 r3) := ⟨(hb4.cell (p := ⟨w.heap.size, 2, none⟩) (World.block_lt_of_cell? wr _ k2)).trans k2, (hb4.cell (p := ⟨gb, o + i * 3, none⟩) (World.block_lt_of_cell? wr _ p1)).trans p1, (hb4.cell (p := ⟨gb, o + i * 3 + 1, none⟩) (World.block_lt_of_cell? wr _ p2)).trans p2, (hb4.cell (p := ⟨gb, o + i * 3 + 2, none⟩) (World.block_lt_of_cell? wr _ p3)).trans p3⟩
        clear hr5 hb4 ho4 ho5 hg5 hat5 hoff hsr5 e1n e5n e5b e2 hr hsr hig s1 s2 s3 y2
        go_wp2_with fail
        refine wp_region_held_drew (S := fun w' => w'.cell? ⟨w.heap.size, 2, none⟩ = some (.slice (some ⟨gb, o, none⟩) n c) ∧ w'.cell? ⟨gb, o + i * 3, none⟩ = some (.int .i64 r1) ∧ w'.cell? ⟨gb, o + i * 3 + 1, none⟩ = some (.int .i64 r2) ∧ w'.cell? ⟨gb, o + i * 3 + 2, none⟩ = some (.int .i64 r3)) (by kernel_rfl) (show wr.drew.cell? ⟨w.heap.size, 2, none⟩ = some (.slice (some ⟨gb, o, none⟩) n c) ∧ wr.drew.cell? ⟨gb, o + i * 3, none⟩ = some (.int .i64 r1) ∧ wr.drew.cell? ⟨gb, o + i * 3 + 1, none⟩ = some (.int .i64 r2) ∧ wr.drew.cell? ⟨gb, o + i * 3 + 2, none⟩ = some (.int .i64 r3) from ⟨k2, p1, p2, p3⟩) (fun hHeld => ?_)
        refine wpAnyH_take (i := 0) (v := ?v1) rfl (by kernel_rfl) (by kernel_rfl) (by kernel_rfl) (fun _ _ _ h => h) (Or.inl ⟨by rfl, ?hy1⟩) (by assumption) ?rest1
        case hy1 => (intro w0 hSw; (try dsimp only at hSw); go_simp; try with_reducible rfl)
        try simp only [Act.put, List.getElem_toArray, List.getElem_cons_zero, List.getElem_cons_succ, List.setIfInBounds_toArray, List.set_cons_zero, List.set_cons_succ]
        refine wpAnyH_take (i := 1) (v := ?v2) rfl (by kernel_rfl) (by kernel_rfl) (by kernel_rfl) (fun _ _ _ h => h) (Or.inl ⟨by rfl, ?hy2⟩) (by assumption) ?rest2
        case hy2 => (intro w0 hSw; (try dsimp only at hSw); go_simp; try with_reducible rfl)
        try simp only [Act.put, List.getElem_toArray, List.getElem_cons_zero, List.getElem_cons_succ, List.setIfInBounds_toArray, List.set_cons_zero, List.set_cons_succ]
        refine wpAnyH_take (i := 2) (v := ?v3) rfl (by kernel_rfl) (by kernel_rfl) (by kernel_rfl) (fun _ _ _ h => h) (Or.inl ⟨by rfl, ?hy3⟩) (by assumption) ?rest3
        case hy3 => (intro w0 hSw; (try dsimp only at hSw); go_simp; try with_reducible rfl)
        try simp only [Act.put, List.getElem_toArray, List.getElem_cons_zero, List.getElem_cons_succ, List.setIfInBounds_toArray, List.set_cons_zero, List.set_cons_succ]
        refine wpAnyH_take (i := 3) (v := ?v4) rfl (by kernel_rfl) (by kernel_rfl) (by kernel_rfl) (fun _ _ _ h => h) (Or.inl ⟨by rfl, ?hy4⟩) (by assumption) ?rest4
        case hy4 => (intro w0 hSw; (try dsimp only at hSw); go_simp; try with_reducible rfl)
        try simp only [Act.put, List.getElem_toArray, List.getElem_cons_zero, List.getElem_cons_succ, List.setIfInBounds_toArray, List.set_cons_zero, List.set_cons_succ]
        refine wpAnyH_take (i := 4) (v := ?v5) rfl (by kernel_rfl) (by kernel_rfl) (by kernel_rfl) (fun _ _ _ h => h) (Or.inl ⟨by rfl, ?hy5⟩) (by assumption) ?rest5
        case hy5 => (intro w0 hSw; (try dsimp only at hSw); go_simp; try with_reducible rfl)
        try simp only [Act.put, List.getElem_toArray, List.getElem_cons_zero, List.getElem_cons_succ, List.setIfInBounds_toArray, List.set_cons_zero, List.set_cons_succ]
        refine wpAnyH_take (i := 5) (v := ?v6) rfl (by kernel_rfl) (by kernel_rfl) (by kernel_rfl) (fun _ _ _ h => h) (Or.inl ⟨by rfl, ?hy6⟩) (by assumption) ?rest6
        case hy6 => (intro w0 hSw; (try dsimp only at hSw); go_simp; try with_reducible rfl)
        try simp only [Act.put, List.getElem_toArray, List.getElem_cons_zero, List.getElem_cons_succ, List.setIfInBounds_toArray, List.set_cons_zero, List.set_cons_succ]
        refine wpAnyH_take (i := 6) (v := ?v7) rfl (by kernel_rfl) (by kernel_rfl) (by kernel_rfl) (fun _ _ _ h => h) (Or.inl ⟨by rfl, ?hy7⟩) (by assumption) ?rest7
        case hy7 => (intro w0 hSw; (try dsimp only at hSw); go_simp; try with_reducible rfl)
        try simp only [Act.put, List.getElem_toArray, List.getElem_cons_zero, List.getElem_cons_succ, List.setIfInBounds_toArray, List.set_cons_zero, List.set_cons_succ]
        refine wpAnyH_take (i := 7) (v := ?v8) rfl (by kernel_rfl) (by kernel_rfl) (by kernel_rfl) (fun _ _ _ h => h) (Or.inl ⟨by rfl, ?hy8⟩) (by assumption) ?rest8
        case hy8 => (intro w0 hSw; (try dsimp only at hSw); go_simp; try with_reducible rfl)
        try simp only [Act.put, List.getElem_toArray, List.getElem_cons_zero, List.getElem_cons_succ, List.setIfInBounds_toArray, List.set_cons_zero, List.set_cons_succ]
        refine wpAnyH_take (i := 8) (v := ?v9) rfl (by kernel_rfl) (by kernel_rfl) (by kernel_rfl) (fun _ _ _ h => h) (Or.inl ⟨by rfl, ?hy9⟩) (by assumption) ?rest9
        case hy9 => (intro w0 hSw; (try dsimp only at hSw); go_simp; try with_reducible rfl)
        try simp only [Act.put, List.getElem_toArray, List.getElem_cons_zero, List.getElem_cons_succ, List.setIfInBounds_toArray, List.set_cons_zero, List.set_cons_succ]
        refine wpAnyH_take (i := 9) (v := ?v10) rfl (by kernel_rfl) (by kernel_rfl) (by kernel_rfl) (fun _ _ _ h => h) (Or.inl ⟨by rfl, ?hy10⟩) (by assumption) ?rest10
        case hy10 => (intro w0 hSw; (try dsimp only at hSw); go_simp; try with_reducible rfl)
        try simp only [Act.put, List.getElem_toArray, List.getElem_cons_zero, List.getElem_cons_succ, List.setIfInBounds_toArray, List.set_cons_zero, List.set_cons_succ]
        refine wpAnyH_take (i := 10) (v := ?v11) rfl (by kernel_rfl) (by kernel_rfl) (by kernel_rfl) (fun _ _ _ h => h) (Or.inl ⟨by rfl, ?hy11⟩) (by assumption) ?rest11
        case hy11 => (intro w0 hSw; (try dsimp only at hSw); go_simp; try with_reducible rfl)
        try simp only [Act.put, List.getElem_toArray, List.getElem_cons_zero, List.getElem_cons_succ, List.setIfInBounds_toArray, List.set_cons_zero, List.set_cons_succ]
        refine wpAnyH_take (i := 11) (v := ?v12) rfl (by kernel_rfl) (by kernel_rfl) (by kernel_rfl) (fun _ _ _ h => h) (Or.inl ⟨by rfl, ?hy12⟩) (by assumption) ?rest12
        case hy12 => (intro w0 hSw; (try dsimp only at hSw); go_simp; try with_reducible rfl)
        try simp only [Act.put, List.getElem_toArray, List.getElem_cons_zero, List.getElem_cons_succ, List.setIfInBounds_toArray, List.set_cons_zero, List.set_cons_succ]
        refine wpAnyH_take (i := 12) (v := ?v13) rfl (by kernel_rfl) (by kernel_rfl) (by kernel_rfl) (fun _ _ _ h => h) (Or.inl ⟨by rfl, ?hy13⟩) (by assumption) ?rest13
        case hy13 => (intro w0 hSw; (try dsimp only at hSw); go_simp; try with_reducible rfl)
        try simp only [Act.put, List.getElem_toArray, List.getElem_cons_zero, List.getElem_cons_succ, List.setIfInBounds_toArray, List.set_cons_zero, List.set_cons_succ]
        refine wpAnyH_take (i := 13) (v := ?v14) rfl (by kernel_rfl) (by kernel_rfl) (by kernel_rfl) (fun _ _ _ h => h) (Or.inl ⟨by rfl, ?hy14⟩) (by assumption) ?rest14
        case hy14 => (intro w0 hSw; (try dsimp only at hSw); go_simp; try with_reducible rfl)
        try simp only [Act.put, List.getElem_toArray, List.getElem_cons_zero, List.getElem_cons_succ, List.setIfInBounds_toArray, List.set_cons_zero, List.set_cons_succ]
        refine wpAnyH_take (i := 14) (v := ?v15) rfl (by kernel_rfl) (by kernel_rfl) (by kernel_rfl) (fun _ _ _ h => h) (Or.inl ⟨by rfl, ?hy15⟩) (by assumption) ?rest15
        case hy15 => (intro w0 hSw; (try dsimp only at hSw); go_simp; try with_reducible rfl)
        try simp only [Act.put, List.getElem_toArray, List.getElem_cons_zero, List.getElem_cons_succ, List.setIfInBounds_toArray, List.set_cons_zero, List.set_cons_succ]
        refine wpAnyH_take (i := 15) (v := ?v16) rfl (by kernel_rfl) (by kernel_rfl) (by kernel_rfl) (fun _ _ _ h => h) (Or.inl ⟨by rfl, ?hy16⟩) (by assumption) ?rest16
        case hy16 => (intro w0 hSw; (try dsimp only at hSw); go_simp; try with_reducible rfl)
        try simp only [Act.put, List.getElem_toArray, List.getElem_cons_zero, List.getElem_cons_succ, List.setIfInBounds_toArray, List.set_cons_zero, List.set_cons_succ]
        refine wpAnyH_take (i := 16) (v := ?v17) rfl (by kernel_rfl) (by kernel_rfl) (by kernel_rfl) (fun _ _ _ h => h) (Or.inl ⟨by rfl, ?hy17⟩) (by assumption) ?rest17
        case hy17 => (intro w0 hSw; (try dsimp only at hSw); go_simp; try with_reducible rfl)
        try simp only [Act.put, List.getElem_toArray, List.getElem_cons_zero, List.getElem_cons_succ, List.setIfInBounds_toArray, List.set_cons_zero, List.set_cons_succ]
        refine wpAnyH_take (i := 17) (v := ?v18) rfl (by kernel_rfl) (by kernel_rfl) (by kernel_rfl) (fun _ _ _ h => h) (Or.inl ⟨by rfl, ?hy18⟩) (by assumption) ?rest18
        case hy18 => (intro w0 hSw; (try dsimp only at hSw); go_simp; try with_reducible rfl)
        try simp only [Act.put, List.getElem_toArray, List.getElem_cons_zero, List.getElem_cons_succ, List.setIfInBounds_toArray, List.set_cons_zero, List.set_cons_succ]
        refine wpAnyH_take (i := 18) (v := ?v19) rfl (by kernel_rfl) (by kernel_rfl) (by kernel_rfl) (fun _ _ _ h => h) (Or.inl ⟨by rfl, ?hy19⟩) (by assumption) ?rest19
        case hy19 => (intro w0 hSw; (try dsimp only at hSw); go_simp; try with_reducible rfl)
        try simp only [Act.put, List.getElem_toArray, List.getElem_cons_zero, List.getElem_cons_succ, List.setIfInBounds_toArray, List.set_cons_zero, List.set_cons_succ]
        refine wpAnyH_ready (rs := [19]) (by kernel_rfl) (by simp) ?_
        refine AllReadyH.cons rfl (fun KQ hKQ => ?_) AllReadyH.nil
        go_simp
        refine hKQ.out _ _ ?_ (fun hHeld => ?_)
        · exact LP
        clear hKQ KQ
        try simp only [Act.put, List.getElem_toArray, List.getElem_cons_zero, List.getElem_cons_succ, List.setIfInBounds_toArray, List.set_cons_zero, List.set_cons_succ]
        refine wpAnyH_ready (rs := [20]) (by kernel_rfl) (by simp) ?_
        refine AllReadyH.cons rfl (fun KQ hKQ => ?_) AllReadyH.nil
        refine step_app rfl (.tmp 24) (.tmp 43) 52 rfl rfl (by rfl) HR5.out ?_
        refine hKQ.out _ _ ?_ (fun hHeld => ?_)
        · exact LQ
        clear hKQ KQ
        try simp only [Act.put, List.getElem_toArray, List.getElem_cons_zero, List.getElem_cons_succ, List.setIfInBounds_toArray, List.set_cons_zero, List.set_cons_succ]
        refine wpAnyH_take (i := 21) (v := ?v20) rfl (by kernel_rfl) (by kernel_rfl) (by kernel_rfl) (fun _ _ _ h => h) (Or.inl ⟨by rfl, ?hy20⟩) (by assumption) ?rest20
        case hy20 => (intro w0 hSw; (try dsimp only at hSw); go_simp; try with_reducible rfl)
        try simp only [Act.put, List.getElem_toArray, List.getElem_cons_zero, List.getElem_cons_succ, List.setIfInBounds_toArray, List.set_cons_zero, List.set_cons_succ]
        refine wpAnyH_done (by kernel_rfl) ?_ _
        clear LP LQ hHeld
        go_wp2_with fail
        go_roundg g
        case measure => omega
        case rel => exact ⟨i + 1, _, rfl, by have := HIG.out; omega, by go_num, HO5, HB5, HX5⟩
end Go.Proofs.Ytknldabnkaecdaa.pip
