/- What the reference's Bytes answers. -/
import Derived.Test.YtghpbhcnblninaaTcF
namespace Go.Proofs.Ytghpbhcnblninaa.tbl
set_option linter.unusedSimpArgs false
set_option linter.unusedVariables false
open Go.RowKit
attribute [local go_sem ↓] Go.wp_at_zero Go.wp_at_succ
open Go.Proofs.Ytghpbhcnblninaa.grp (gof gof_in fits fits_wf IRow intV below_on' below_made ret_bool own_below ret_int rof_any)
open Go.Proofs.Ytghpbhcnblninaa.byt (txt bl)
set_option maxHeartbeats 3200000 in
set_option maxRecDepth 1000000 in
theorem rbytes_any {w : World} {r : Nat} {rs : List Rw} (h : IsRs w r rs) (hG : Good (rs.map Rw.p)) :
    Calls Try.prog 30 #[.pointer (some ⟨r, 0, none⟩)] w fun e w' => e = .returned (.string (tabB (rs.map Rw.p))) ∧ Below w.heap.size w w' := by
  have HH := Lib.hid h
  obtain ⟨v, hr, hs, -⟩ := h
  have HS := Lib.hid hs
  have c0 := cell_of_row w r 0 _ _ _ hr
  have HC := Lib.hid c0
  have hlen : rs.length ≤ 320 := by have := hG.len; rwa [List.length_map] at this
  obtain ⟨L, hL⟩ : ∃ L, rs.map Rw.p = L := ⟨_, rfl⟩
  have HLG : Hid (∀ j (h : j < rs.length), ∃ h' : j < L.length, L[j] = rs[j].p) := Lib.hid (fun j hj => by subst hL; exact ⟨by simpa using hj, by simp⟩)
  rw [hL] at hG ⊢
  have HG := Lib.hid hG
  have hLl : L.length = rs.length := by rw [← hL]; simp
  obtain ⟨n, hn⟩ : ∃ n, rs.length = n := ⟨_, rfl⟩
  have HN := Lib.hid hn
  have HLL := Lib.hid (hLl.trans hn)
  obtain ⟨a0, c1, hv⟩ := hs.len
  rw [hn] at hlen hv
  have HV := Lib.hid hv
  subst hv
  have hr0 : BytesRel w (w.alloc (.cells #[.int .i64 (n : Int)] 2)) L (.slice (some ⟨w.heap.size, 0, none⟩) 1 1) 0 := by
    unfold BytesRel
    rw [numsK_zero, HLL.out]
    exact ⟨own_new w [(n : Int)] 1 rfl (by omega), below_made _ _⟩
  have HR0 := Lib.hid hr0
  change w.cell? ⟨r, 0, none⟩ = some (.slice a0 n c1) at c0
  clear hr hs hG hn hr0 hL hLl
  go_enter Try.func30, Try.ntmps30
  go_wp2_with fail
  go_loopg [3, 4] n (fun g v3 v4 wr => ∃ k : Nat, k + g = n ∧ v4 = .int .i64 k ∧ BytesRel w wr L v3 k)
  case atStart => exact ⟨0, by omega, rfl, HR0.out⟩
  case round =>
    rename World => wr
    obtain ⟨k, hkg, rfl, hrel⟩ := hrel
    have HRL := Lib.hid hrel
    have hb := hrel.2
    have hsz := hb.size
    have HB1 := Lib.hid hb
    clear hrel
    cases gk with
    | zero =>
      have hkz : ¬ ((k : Int) < (n : Int)) := by omega
      obtain rfl : k = n := by omega
      have hc := (hb.cell (p := ⟨r, 0, none⟩) (World.block_lt_of_cell? w _ HC.out)).trans HC.out
      change wr.cell? ⟨r, 0, none⟩ = some (.slice a0 k c1) at hc
      have ho := HRL.out.1
      rw [← HLL.out, numsK_all] at ho
      obtain ⟨-, a5, cap5, hv5, hna5⟩ := NR.own ho
      have hl5 : (numsL L).length ≤ 1000000 := by have := numsK_len HG.out L.length; rw [numsK_all] at this; have := HG.out.len; omega
      have HP := Lib.hid (byt.refPut_any (numsL L) a5 cap5 wr hna5.1.rd (numsL_fits HG.out) hl5)
      unfold byt.PutPost at HP
      rw [hv5]
      clear ho hna5 hv5 hl5 hb
      go_wp2_with fail
      refine HP.out.mono ?_
      rintro e w6 ⟨rfl, hb6⟩
      have HB6 := Lib.hid (below_on' HRL.out.2 hb6)
      clear hb6
      go_wp2_with fail
      try rw [Exit.noGoto_ret]
      go_ret
      exact ⟨rfl, HB6.out⟩
    | succ g =>
      have hkz : (k : Int) < (n : Int) := by omega
      have hk0 : (0 : Int) ≤ (k : Int) := by omega
      have hkl : k < rs.length := by have := HN.out; omega
      obtain ⟨gb, o, c2, hv2, e1, e2, e3⟩ := HS.out.at hkl
      rw [HN.out] at hv2
      obtain ⟨rfl, rfl⟩ : a0 = some ⟨gb, o, none⟩ ∧ c1 = c2 := by injection hv2 with h1 h2 h3; exact ⟨h1, h3⟩
      obtain ⟨hkL, hLk⟩ := HLG.out k hkl
      have hmore := numsK_more hkL
      have hgd := HG.out.cell _ (List.getElem_mem hkL)
      rw [hLk] at hmore hgd
      obtain ⟨v0, -, hs0, hna0⟩ := HH.out
      have hna := hna0 _ (List.getElem_mem hkl)
      have hc := (hb.cell (p := ⟨r, 0, none⟩) (World.block_lt_of_cell? w _ HC.out)).trans HC.out
      change wr.cell? ⟨r, 0, none⟩ = some (.slice (some ⟨gb, o, none⟩) n c1) at hc
      have f1 := (hb.cell (p := ⟨gb, o + k * 3, none⟩) (World.block_lt_of_cell? w _ e1)).trans e1
      have f2 := (hb.cell (p := ⟨gb, o + k * 3 + 1, none⟩) (World.block_lt_of_cell? w _ e2)).trans e2
      have f3 := (hb.cell (p := ⟨gb, o + k * 3 + 2, none⟩) (World.block_lt_of_cell? w _ e3)).trans e3
      obtain ⟨q, hq⟩ : ∃ q, rs[k] = q := ⟨_, rfl⟩
      rw [hq] at e1 f1 f2 f3 hmore hgd hna
      obtain ⟨key, x, a2, ns, cap2⟩ := q
      simp only [Rw.p] at hmore hgd
      dsimp only at e1 f1 f2 f3 hna
      have HMORE := Lib.hid hmore
      have HLEN := Lib.hid (numsK_len HG.out k)
      have HF2 := Lib.hid hgd.few
      have HKN := Lib.hid hkg
      obtain ⟨M, hM⟩ : ∃ M, ns.length = M := ⟨_, rfl⟩
      have HMM := Lib.hid hM
      rw [hM] at f3
      have hb3 : Below wr.heap.size wr (wr.alloc (.cells #[.int .i64 x, .slice a2 M cap2] 32)) := below_made _ _
      have hbx := Box2.new wr (x, a2, M, cap2)
      obtain ⟨W3, hW3⟩ : ∃ W, wr.alloc (.cells #[.int .i64 x, .slice a2 M cap2] 32) = W := ⟨_, rfl⟩
      dsimp only at hbx
      rw [hW3] at hb3 hbx
      have HW3 := Lib.hid hW3
      obtain ⟨N, hN⟩ : ∃ N, wr.heap.size = N := ⟨_, rfl⟩
      have HNN := Lib.hid hN
      rw [hN] at hbx
      have HBX := Lib.hid hbx
      have HB3 := Lib.hid hb3
      obtain ⟨x0, x1, -, -⟩ := hbx.facts
      dsimp only at x0 x1
      have q0 := (hb3.cell (p := ⟨r, 0, none⟩) (World.block_lt_of_cell? wr _ hc)).trans hc
      have q1 := (hb3.cell (p := ⟨gb, o + k * 3, none⟩) (World.block_lt_of_cell? wr _ f1)).trans f1
      have hld : wr.rangeAt gb (o + k * 3 + 1) [.int .i64 x, .slice a2 M cap2] := fun j u hj => by
        match j, hj with
        | 0, hj => simp at hj; subst hj; exact f2
        | 1, hj => simp at hj; subst hj; exact f3
      have HLD := Lib.hid hld
      -- what the two appends leave
      have ho3 := own_below HRL.out.1 HB3.out
      have hb4 : Below W3.heap.size W3 (W3.drew.alloc (.cells #[.int .i64 key, .int .i64 x, .int .i64 (M : Int)] 2)) := ((Below.refl _ W3).drew).alloc (Nat.le_refl _) _
      have hwle : w.heap.size ≤ W3.heap.size := Nat.le_trans HRL.out.2.size HB3.out.size
      obtain ⟨v5, w5, hr5, ho5, hg5⟩ := app_run (own_below ho3 hb4) (sl_new W3.drew [key, x, (M : Int)] 2 3) (by have := HLEN.out; simp only [List.length_cons, List.length_nil]; omega) (Nat.le_trans hwle hb4.size) 30
      have hbw3 := below_on' HRL.out.2 (below_on' HB3.out hb4)
      have hb5 := hbw3.grown hg5 hbw3.size (fun j hj => (ho3.lt j hj).1)
      have hnB : ∀ i ob, W3.heap[i]? = some ob → (∀ cur : Array Value, ob ≠ Obj.cells cur 2 (0, 0)) → w5.heap[i]? = some ob := fun i ob hi hno => by
        rw [hg5.block i (Nat.lt_of_lt_of_le (lt_of_get hi) hb4.size) (fun e => by
          obtain ⟨cur, h2, _⟩ := own_blk ho3 e.symm
          rw [hi] at h2
          exact hno cur (Option.some.inj h2)), hb4.block i (lt_of_get hi)]
        exact hi
      have hbx5 : Box2 w5 N (x, a2, M, cap2) := hnB N _ HBX.out (fun cur e => by cases e)
      have hna5 : NA w5 a2 cap2 ns := hna.keep (.of_below hb5)
      obtain ⟨v6, w6, hr6, ho6, hg6⟩ := app_run ho5 hna5.sl (by have := HLEN.out; have : ns.length ≤ 16 := HF2.out; simp only [List.length_append, List.length_cons, List.length_nil]; omega) hb5.size 30
      have hb6 := hb5.grown hg6 hb5.size (fun j hj => (ho5.lt j hj).1)
      have HNX : Hid (BytesRel w w6 L v6 (k + 1)) := Lib.hid (by
        unfold BytesRel
        have hm := HMORE.out
        rw [HMM.out] at hm
        rw [hm]
        exact ⟨own_len ho6, hb6⟩)
      have HR5 : Hid ((Builtin.append_ #[30, 30] 30 #[u3, .slice (some ⟨W3.drew.heap.size, 0, none⟩) 3 3]).run Try.prog (W3.drew.alloc (.cells #[.int .i64 key, .int .i64 x, .int .i64 (M : Int)] 2)) = .ok v5 w5) := Lib.hid hr5
      rw [HMM.out] at hr6
      have HR6 := Lib.hid hr6
      obtain ⟨y0, y1, -, -⟩ := hbx5.facts
      dsimp only at y0 y1
      have LQ : w5.cell? ⟨r, 0, none⟩ = some (.slice (some ⟨gb, o, none⟩) n c1) ∧ w5.cell? ⟨gb, o + k * 3, none⟩ = some (.int .i64 key) ∧ w5.cell? ⟨N, 0, none⟩ = some (.int .i64 x) ∧ w5.cell? ⟨N, 1, none⟩ = some (.slice a2 M cap2) :=
        ⟨(hb5.cell (p := ⟨r, 0, none⟩) (World.block_lt_of_cell? w _ HC.out)).trans HC.out, (hb5.cell (p := ⟨gb, o + k * 3, none⟩) (World.block_lt_of_cell? w _ e1)).trans e1, y0, y1⟩
      have LP : (W3.drew.alloc (.cells #[.int .i64 key, .int .i64 x, .int .i64 (M : Int)] 2)).cell? ⟨r, 0, none⟩ = some (.slice (some ⟨gb, o, none⟩) n c1) ∧ (W3.drew.alloc (.cells #[.int .i64 key, .int .i64 x, .int .i64 (M : Int)] 2)).cell? ⟨gb, o + k * 3, none⟩ = some (.int .i64 key) ∧ (W3.drew.alloc (.cells #[.int .i64 key, .int .i64 x, .int .i64 (M : Int)] 2)).cell? ⟨N, 0, none⟩ = some (.int .i64 x) ∧ (W3.drew.alloc (.cells #[.int .i64 key, .int .i64 x, .int .i64 (M : Int)] 2)).cell? ⟨N, 1, none⟩ = some (.slice a2 M cap2) :=
        ⟨(hb4.cell (p := ⟨r, 0, none⟩) (World.block_lt_of_cell? W3 _ q0)).trans q0, (hb4.cell (p := ⟨gb, o + k * 3, none⟩) (World.block_lt_of_cell? W3 _ q1)).trans q1, (hb4.cell (p := ⟨N, 0, none⟩) (lt_of_get HBX.out)).trans x0, (hb4.cell (p := ⟨N, 1, none⟩) (lt_of_get HBX.out)).trans x1⟩
      clear hr5 hr6 ho3 hb4 hwle ho5 hg5 hbw3 hb5 hnB hbx5 hna5 ho6 hg6 hb6 hna hna0 hs0 hmore hgd hq hM hb3 hbx hW3 hN hld e1 e2 e3 f2 f3 hkL hLk hkl hb
      go_wp2_with (first | (refine wpList_load_mid rfl 32 (.tmp 27) rfl gb (o + k * 3 + 1) rfl [.int .i64 x, .slice a2 M cap2] _ HLD.out Try.underlying32 rfl (by kernel_rfl) ?_))
      rw [HW3.out, HNN.out]
      refine dsk.wp_region_peel2 (by kernel_rfl) (by simp only [List.dropLast_cons_cons, List.dropLast_singleton]; exact rfl) rfl (by kernel_rfl) ?_
      refine wpAny_of_held (S := fun w' => w'.cell? ⟨r, 0, none⟩ = some (.slice (some ⟨gb, o, none⟩) n c1) ∧ w'.cell? ⟨gb, o + k * 3, none⟩ = some (.int .i64 key) ∧ w'.cell? ⟨N, 0, none⟩ = some (.int .i64 x) ∧ w'.cell? ⟨N, 1, none⟩ = some (.slice a2 M cap2)) _ _ _ _ ?_
      have hHeld := (show W3.drew.cell? ⟨r, 0, none⟩ = some (.slice (some ⟨gb, o, none⟩) n c1) ∧ W3.drew.cell? ⟨gb, o + k * 3, none⟩ = some (.int .i64 key) ∧ W3.drew.cell? ⟨N, 0, none⟩ = some (.int .i64 x) ∧ W3.drew.cell? ⟨N, 1, none⟩ = some (.slice a2 M cap2) from ⟨q0, q1, x0, x1⟩)
      refine wpAnyH_take (i := 0) (v := ?v1) rfl (by kernel_rfl) (by kernel_rfl) (by kernel_rfl) (fun _ _ _ h => h) (Or.inl ⟨by rfl, ?hy1⟩) (by assumption) ?rest1
      case hy1 => (intro w0 hSw; (try dsimp only at hSw); go_simp; try with_reducible rfl)
      try simp only [Act.put, List.getElem_toArray, List.getElem_cons_zero, List.getElem_cons_succ, List.setIfInBounds_toArray, List.set_cons_zero, List.set_cons_succ]
      refine wpAnyH_take (i := 1) (v := ?v2) rfl (by kernel_rfl) (by kernel_rfl) (by kernel_rfl) (fun _ _ _ h => h) (Or.inl ⟨by rfl, ?hy2⟩) (by assumption) ?rest2
      case hy2 => (intro w0 hSw; (try dsimp only at hSw); go_simp; try with_reducible rfl)
      try simp only [Act.put, List.getElem_toArray, List.getElem_cons_zero, List.getElem_cons_succ, List.setIfInBounds_toArray, List.set_cons_zero, List.set_cons_succ]
      refine wpAnyH_take (i := 2) (v := ?v3) rfl (by kernel_rfl) (by kernel_rfl) (by kernel_rfl) (fun _ _ _ h => h) (Or.inl ⟨by rfl, ?hy3⟩) (by assumption) ?rest3
      case hy3 => (intro w0 hSw; (try dsimp only at hSw); go_simp; try with_reducible rfl)
      try simp only [Act.put, List.getElem_toArray, List.getElem_cons_zero, List.getElem_cons_succ, List.setIfInBounds_toArray, List.set_cons_zero, List.set_cons_succ]
      refine wpAnyH_take (i := 3) (v := ?v4) rfl (by kernel_rfl) (by kernel_rfl) (by kernel_rfl) (fun _ _ _ h => h) (Or.inl ⟨by rfl, ?hy4⟩) (by assumption) ?rest4
      case hy4 => (intro w0 hSw; (try dsimp only at hSw); go_simp; try with_reducible rfl)
      try simp only [Act.put, List.getElem_toArray, List.getElem_cons_zero, List.getElem_cons_succ, List.setIfInBounds_toArray, List.set_cons_zero, List.set_cons_succ]
      refine wpAnyH_take (i := 4) (v := ?v5) rfl (by kernel_rfl) (by kernel_rfl) (by kernel_rfl) (fun _ _ _ h => h) (Or.inl ⟨by rfl, ?hy5⟩) (by assumption) ?rest5
      case hy5 => (intro w0 hSw; (try dsimp only at hSw); go_simp; try with_reducible rfl)
      try simp only [Act.put, List.getElem_toArray, List.getElem_cons_zero, List.getElem_cons_succ, List.setIfInBounds_toArray, List.set_cons_zero, List.set_cons_succ]
      refine wpAnyH_take (i := 5) (v := ?v6) rfl (by kernel_rfl) (by kernel_rfl) (by kernel_rfl) (fun _ _ _ h => h) (Or.inl ⟨by rfl, ?hy6⟩) (by assumption) ?rest6
      case hy6 => (intro w0 hSw; (try dsimp only at hSw); go_simp; try with_reducible rfl)
      try simp only [Act.put, List.getElem_toArray, List.getElem_cons_zero, List.getElem_cons_succ, List.setIfInBounds_toArray, List.set_cons_zero, List.set_cons_succ]
      refine wpAnyH_take (i := 6) (v := ?v7) rfl (by kernel_rfl) (by kernel_rfl) (by kernel_rfl) (fun _ _ _ h => h) (Or.inl ⟨by rfl, ?hy7⟩) (by assumption) ?rest7
      case hy7 => (intro w0 hSw; (try dsimp only at hSw); go_simp; try with_reducible rfl)
      try simp only [Act.put, List.getElem_toArray, List.getElem_cons_zero, List.getElem_cons_succ, List.setIfInBounds_toArray, List.set_cons_zero, List.set_cons_succ]
      refine wpAnyH_take (i := 7) (v := ?v8) rfl (by kernel_rfl) (by kernel_rfl) (by kernel_rfl) (fun _ _ _ h => h) (Or.inl ⟨by rfl, ?hy8⟩) (by assumption) ?rest8
      case hy8 => (intro w0 hSw; (try dsimp only at hSw); go_simp; try with_reducible rfl)
      try simp only [Act.put, List.getElem_toArray, List.getElem_cons_zero, List.getElem_cons_succ, List.setIfInBounds_toArray, List.set_cons_zero, List.set_cons_succ]
      refine wpAnyH_take (i := 8) (v := ?v9) rfl (by kernel_rfl) (by kernel_rfl) (by kernel_rfl) (fun _ _ _ h => h) (Or.inl ⟨by rfl, ?hy9⟩) (by assumption) ?rest9
      case hy9 => (intro w0 hSw; (try dsimp only at hSw); go_simp; try with_reducible rfl)
      try simp only [Act.put, List.getElem_toArray, List.getElem_cons_zero, List.getElem_cons_succ, List.setIfInBounds_toArray, List.set_cons_zero, List.set_cons_succ]
      refine wpAnyH_take (i := 9) (v := ?v10) rfl (by kernel_rfl) (by kernel_rfl) (by kernel_rfl) (fun _ _ _ h => h) (Or.inl ⟨by rfl, ?hy10⟩) (by assumption) ?rest10
      case hy10 => (intro w0 hSw; (try dsimp only at hSw); go_simp; try with_reducible rfl)
      try simp only [Act.put, List.getElem_toArray, List.getElem_cons_zero, List.getElem_cons_succ, List.setIfInBounds_toArray, List.set_cons_zero, List.set_cons_succ]
      refine wpAnyH_take (i := 10) (v := ?v11) rfl (by kernel_rfl) (by kernel_rfl) (by kernel_rfl) (fun _ _ _ h => h) (Or.inl ⟨by rfl, ?hy11⟩) (by assumption) ?rest11
      case hy11 => (intro w0 hSw; (try dsimp only at hSw); go_simp; try with_reducible rfl)
      try simp only [Act.put, List.getElem_toArray, List.getElem_cons_zero, List.getElem_cons_succ, List.setIfInBounds_toArray, List.set_cons_zero, List.set_cons_succ]
      refine wpAnyH_take (i := 11) (v := ?v12) rfl (by kernel_rfl) (by kernel_rfl) (by kernel_rfl) (fun _ _ _ h => h) (Or.inl ⟨by rfl, ?hy12⟩) (by assumption) ?rest12
      case hy12 => (intro w0 hSw; (try dsimp only at hSw); go_simp; try with_reducible rfl)
      try simp only [Act.put, List.getElem_toArray, List.getElem_cons_zero, List.getElem_cons_succ, List.setIfInBounds_toArray, List.set_cons_zero, List.set_cons_succ]
      refine wpAnyH_take (i := 12) (v := ?v13) rfl (by kernel_rfl) (by kernel_rfl) (by kernel_rfl) (fun _ _ _ h => h) (Or.inl ⟨by rfl, ?hy13⟩) (by assumption) ?rest13
      case hy13 => (intro w0 hSw; (try dsimp only at hSw); go_simp; try with_reducible rfl)
      try simp only [Act.put, List.getElem_toArray, List.getElem_cons_zero, List.getElem_cons_succ, List.setIfInBounds_toArray, List.set_cons_zero, List.set_cons_succ]
      refine wpAnyH_take (i := 13) (v := ?v14) rfl (by kernel_rfl) (by kernel_rfl) (by kernel_rfl) (fun _ _ _ h => h) (Or.inl ⟨by rfl, ?hy14⟩) (by assumption) ?rest14
      case hy14 => (intro w0 hSw; (try dsimp only at hSw); go_simp; try with_reducible rfl)
      try simp only [Act.put, List.getElem_toArray, List.getElem_cons_zero, List.getElem_cons_succ, List.setIfInBounds_toArray, List.set_cons_zero, List.set_cons_succ]
      refine wpAnyH_ready (rs := [14]) (by kernel_rfl) (by simp) ?_
      refine AllReadyH.cons rfl (fun KQ hKQ => ?_) AllReadyH.nil
      go_simp
      refine hKQ.out _ _ ?_ (fun hHeld => ?_)
      · exact LP
      clear hKQ KQ
      try simp only [Act.put, List.getElem_toArray, List.getElem_cons_zero, List.getElem_cons_succ, List.setIfInBounds_toArray, List.set_cons_zero, List.set_cons_succ]
      refine wpAnyH_ready (rs := [15]) (by kernel_rfl) (by simp) ?_
      refine AllReadyH.cons rfl (fun KQ hKQ => ?_) AllReadyH.nil
      refine step_app rfl (.tmp 29) (.tmp 43) 30 rfl rfl (by rfl) HR5.out ?_
      refine hKQ.out _ _ ?_ (fun hHeld => ?_)
      · exact LQ
      clear hKQ KQ
      try simp only [Act.put, List.getElem_toArray, List.getElem_cons_zero, List.getElem_cons_succ, List.setIfInBounds_toArray, List.set_cons_zero, List.set_cons_succ]
      refine wpAnyH_done (by kernel_rfl) ?_ _
      change wpList _ _ _ _ _ _
      clear LP LQ hHeld
      go_wp2_with (at_builtin; refine wpList_app rfl (.tmp 45) (.tmp 47) 30 rfl rfl rfl HR6.out ?_)
      go_roundg g
      case measure => omega
      case rel => exact ⟨k + 1, by have := HKN.out; omega, by go_num, HNX.out⟩
end Go.Proofs.Ytghpbhcnblninaa.tbl
