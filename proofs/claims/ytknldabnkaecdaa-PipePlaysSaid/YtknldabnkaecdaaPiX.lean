/- What Read answers. -/
import Derived.Test.YtknldabnkaecdaaPiS
import Derived.Test.YtknldabnkaecdaaByN
import Derived.Test.YtknldabnkaecdaaDkR
namespace Go.Proofs.Ytknldabnkaecdaa.pip
set_option linter.unusedSimpArgs false
set_option linter.unusedVariables false
open Go.RowKit
attribute [local go_sem ↓] Go.wp_at_zero Go.wp_at_succ
open Go.Proofs.Ytknldabnkaecdaa.byt (fits intV txt flat bl numsO nums)
/-- A row of records lies neither in a message's block nor in a row of numbers. -/
theorem rec_off {W : World} {B n : Nat} {v : Value} {xs : List Value} (h : W.ownsRow B 26 3 v n xs) {k : Nat} {ob : Obj} (hk : W.heap[k]? = some ob) (hno : ∀ cur : Array Value, ob ≠ Obj.cells cur 26 (0, 0)) : some k ≠ v.ownBlock := by
  intro e
  rcases h.2 with ⟨rfl, _⟩ | ⟨g, cap, cur, rfl, _, hg, _⟩
  · cases e
  · obtain rfl := Option.some.inj e
    rw [hk] at hg
    exact hno cur (Option.some.inj hg)
theorem rec_only {W W' : World} {F : Nat → Prop} {B n : Nat} {v : Value} {xs : List Value} (ho : W.ownsRow B 26 3 v n xs) (h : Only F W W') (hF : ∀ b, v.ownBlock = some b → ¬ F b) : W'.ownsRow B 26 3 v n xs := by
  refine ⟨ho.1, ?_⟩
  rcases ho.2 with h0 | ⟨g, cap, cur, rfl, h1, hg, h2⟩
  · exact .inl h0
  · exact .inr ⟨g, cap, cur, rfl, h1, (h.block g (lt_of_get hg) (hF g rfl)).trans hg, h2⟩
theorem elem52 : Try.prog.elem 52 = 2 := by kernel_rfl
theorem size2 (W : World) : (sizeOf 2).run Try.prog W = .ok 1 W := by kernel_rfl
/-- The numbers behind the first three. -/
theorem tail3 {g o n c k : Nat} (hn : n = k + 3) (hc : n ≤ c) : ∃ o', (∀ W, (Instr.sliceAt 52 (.slice (some ⟨g, o, none⟩) n c) (some (.int .i64 3)) none none).run Try.prog W = .ok (.slice (some ⟨g, o', none⟩) k (c - 3)) W) ∧ (0 < k → o' = o + 3) := by
  have hrun : ∀ W, (Instr.sliceAt 52 (.slice (some ⟨g, o, none⟩) n c) (some (.int .i64 3)) none none).run Try.prog W = .ok (sliced (some ⟨g, o, none⟩) 3 n c 1) W := fun W => by
    rw [run_sliceAt_slice _ _ _ _ _ _ (by rw [elem52]; exact Try.underlying52), run_slice_l _ _ _ _ _ (by rw [elem52]; exact Try.underlying52) .i64 (3 : Int) (by omega) (by omega), elem52, size2]
    rfl
  have hk : n - 3 = k := by omega
  by_cases h0 : c = 3
  · subst h0
    exact ⟨o, fun W => by rw [hrun]; simp [sliced, hk], fun h => by omega⟩
  · refine ⟨o + 3, fun W => ?_, fun _ => rfl⟩
    rw [hrun]
    have hadd : (⟨g, o, none⟩ : Addr).add 3 = ⟨g, o + 3, none⟩ := by simp only [Addr.add]; split <;> simp_all
    simp [sliced, h0, hk, hadd]
def ReadPost (s : ByteArray) (w : World) (e : Ending) (w' : World) : Prop :=
  ∃ v, e = .returned (.tuple #[v, .int .i64 (readO s).2]) ∧ MV w' v (readO s).1 ∧ Below w.heap.size w w'
/-- What an append of one record to a row of one's own leaves. -/
theorem app_rec (W : World) (base : Nat) {v : Value} {n : Nat} {rs : List Rc} (ho : W.ownsRow base 26 3 v n (cellsR rs)) (hn : n ≤ 1000000) (r : Rc) (hB : base ≤ W.heap.size) (ty : TypeId) :
    ∃ v' w', (Builtin.append_ #[27, 27] ty #[v, .slice (some ⟨W.heap.size, 0, none⟩) 1 1]).run Try.prog (W.alloc (.cells #[.int .i64 r.1, .int .i64 r.2.1, .int .i64 r.2.2] 26)) = .ok v' w' ∧
      w'.ownsRow base 26 3 v' (n + 1) (cellsR (rs ++ [r])) ∧ (W.alloc (.cells #[.int .i64 r.1, .int .i64 r.2.1, .int .i64 r.2.2] 26)).grownBy w' v.ownBlock := by
  obtain ⟨i0, hi, hz0, hz1, hz2⟩ : ∃ i0, Try.prog.info? 26 = some i0 ∧ (∃ z, i0.zero = some z ∧ z.cells.size = 3) ∧ i0.size = 3 ∧ i0.bytes = 24 := by
    have := infoR
    cases hi : Try.prog.info? 26 with
    | none => rw [hi] at this; cases this
    | some i0 =>
      rw [hi] at this
      simp only [Option.map_some, Option.some.injEq, Prod.mk.injEq, Option.map_eq_some_iff] at this
      exact ⟨i0, rfl, this.1, this.2.1, this.2.2⟩
  obtain ⟨z, hz, hz3⟩ := hz0
  have ho2 : (W.alloc (.cells #[.int .i64 r.1, .int .i64 r.2.1, .int .i64 r.2.2] 26)).ownsRow base 26 3 v n (cellsR rs) := byt.own_below ho (below_made _ _)
  obtain ⟨v', w', e1, e2, e3, _⟩ := run_append_own (P := Try.prog) (W.alloc (.cells #[.int .i64 r.1, .int .i64 r.2.1, .int .i64 r.2.2] 26)) base 27 ty 26 i0 z 3 24 Try.underlying27 hi hz hz1 hz2 hz3 (by decide) v n _ ho2 ⟨W.heap.size, 0, none⟩ 1 1 (rcC r) rfl
    (cell_three_at W (.int .i64 r.1) (.int .i64 r.2.1) (.int .i64 r.2.2) 26 W.heap.size rfl) (by intro u hu; simp [rcC] at hu; rcases hu with rfl | rfl | rfl <;> rfl) (by unfold maxLen; omega) (by omega) (by rw [World.size_alloc]; omega)
  exact ⟨v', w', e1, by rw [cellsR_append]; have h1 : cellsR [r] = rcC r := by simp [cellsR]
                        rw [h1]; exact e2, e3⟩
/-- A row of numbers that lies in a block. -/
def Rl (w : World) (g : Nat) (l : List Int) : Prop := ∃ cur, w.heap[g]? = some (.cells cur 2 (0, 0)) ∧ ∀ (j : Nat) (u : Int), l[j]? = some u → cur[j]? = some (.int .i64 u)
theorem Rl.keep {w w' : World} {g : Nat} {l : List Int} (h : Rl w g l) (hg : w'.heap[g]? = w.heap[g]?) : Rl w' g l := by
  obtain ⟨cur, h1, h2⟩ := h; exact ⟨cur, hg.trans h1, h2⟩
theorem Rl.lt {w : World} {g : Nat} {l : List Int} (h : Rl w g l) : g < w.heap.size := by obtain ⟨cur, h1, _⟩ := h; exact lt_of_get h1
theorem Rl.cell {w : World} {g : Nat} {l : List Int} (h : Rl w g l) {j : Nat} {u : Int} (hu : l[j]? = some u) : w.cell? ⟨g, j, none⟩ = some (.int .i64 u) := by
  obtain ⟨cur, h1, h2⟩ := h
  rw [cell_of_row w g j _ _ _ h1]; exact h2 j u hu
theorem three_of : ∀ {l : List Int}, 3 ≤ l.length → ∃ x y z t, l = x :: y :: z :: t
  | x :: y :: z :: t, _ => ⟨x, y, z, t, rfl⟩
  | [], h => by simp at h
  | [_], h => by simp at h
  | [_, _], h => by simp at h
set_option maxHeartbeats 6400000 in
set_option maxRecDepth 1000000 in
theorem read_any (s : ByteArray) (w : World) (hs : s.size ≤ 1000000) : Calls Try.prog 24 #[.string s] w (ReadPost s w) := by
  obtain ⟨N, hN⟩ : ∃ n, w.heap.size = n := ⟨_, rfl⟩
  have hb0 := below_made w (.cells #[.int .i64 0, .int .i64 0, .slice none 0 0] 29)
  have hx0 := Bx.new w 0 0 (.slice none 0 0)
  have hsz0 : (w.alloc (.cells #[.int .i64 0, .int .i64 0, .slice none 0 0] 29)).heap.size = N + 1 := by rw [World.size_alloc, hN]
  obtain ⟨W0, hW0⟩ : ∃ W, w.alloc (.cells #[.int .i64 0, .int .i64 0, .slice none 0 0] 29) = W := ⟨_, rfl⟩
  rw [hW0] at hb0 hx0 hsz0
  rw [hN] at hx0
  have HB0 := Lib.hid hb0
  have HX0 := Lib.hid hx0
  have HSZ0 := Lib.hid hsz0
  -- a way out: no message's
  have HBAD : Hid (∀ W, Below W0.heap.size W0 W → readO s = (zeroM, 21) → ReadPost s w (.returned (.tuple #[zeroV, .int .i64 21])) (setM W N 0 0 (.slice none 0 0))) := Lib.hid (fun W hW hr => by
    refine ⟨zeroV, by rw [hr], by rw [hr]; exact MV.zero _, below_setM (below_on' hb0 hW) (by rw [hN]; exact Nat.le_refl _) _ _ _⟩)
  have HX : Hid (∀ W, Below W0.heap.size W0 W → Bx W N 0 0 (.slice none 0 0)) := Lib.hid (fun W hW => hx0.below hW)
  have HNUM := Lib.hid (byt.numbers_any s W0 hs)
  unfold byt.NumsPost at HNUM
  clear hb0 hx0 hsz0
  by_cases hc : (numsO s).2 = 0
  case neg =>
    have HC := Lib.hid (read_no (s := s) (l := (numsO s).1) (c := (numsO s).2) rfl (fun h => absurd h hc))
    obtain ⟨c, hcc⟩ : ∃ c, (numsO s).2 = c := ⟨_, rfl⟩
    obtain ⟨l, hll⟩ : ∃ l, (numsO s).1 = l := ⟨_, rfl⟩
    rw [hcc] at hc HNUM
    rw [hll] at HNUM
    have hcb : (c != 0) = true := by simp [hc]
    clear hc hcc hll
    go_enter Try.func24, Try.ntmps24
    go_upto_region 3 with (go_at_call 32; ((with_reducible refine HNUM.out.mono ?_); rintro e W1 ⟨v1, rfl, h1, h2⟩; have HB1 := Lib.hid h2; clear h1 h2))
    obtain ⟨⟨c0, c1, c2⟩, f0⟩ := (HX.out _ HB1.out).facts
    have HR3 := Lib.hid ((HX.out _ HB1.out).set 0 0 (.slice none 0 0)).facts.1
    go_wp2_with fail
    obtain ⟨r0, r1, r2⟩ := HR3.out
    unfold setM at r0 r1 r2
    refine bodyPost_ret (v := .tuple #[zeroV, .int .i64 21]) (by simp [results, Try.f24, go_sem, r0, r1, r2, zeroV]) rfl ?_
    exact HBAD.out _ HB1.out HC.out
  case pos =>
    obtain ⟨l, hll⟩ : ∃ l, (numsO s).1 = l := ⟨_, rfl⟩
    have hls : numsO s = (l, 0) := by rw [← hll, ← hc]
    have HLS := Lib.hid hls
    have HFS := Lib.hid (nums_text hls)
    rw [hll, hc] at HNUM
    clear hc hll hls
    by_cases h3 : l.length < 3
    · have HC := Lib.hid (read_no HLS.out (fun _ h => by have := h.1; omega))
      obtain ⟨n, hn⟩ : ∃ n, l.length = n := ⟨_, rfl⟩
      rw [hn] at h3 HNUM
      have h3i : (n : Int) < 3 := by omega
      have HNN := Lib.hid hn
      clear h3 hn
      go_enter Try.func24, Try.ntmps24
      go_upto_region 2 with (go_at_call 32; ((with_reducible refine HNUM.out.mono ?_); rintro e W1 ⟨v1, rfl, h1, h2⟩; have HB1 := Lib.hid h2; rw [← HNN.out] at h1; obtain ⟨a1, k1, rfl, _⟩ := byt.own_rd h1; rw [HNN.out]; clear h1 h2))
      obtain ⟨⟨c0, c1, c2⟩, f0⟩ := (HX.out _ HB1.out).facts
      have HR3 := Lib.hid ((HX.out _ HB1.out).set 0 0 (.slice none 0 0)).facts.1
      go_wp2_with fail
      obtain ⟨r0, r1, r2⟩ := HR3.out
      unfold setM at r0 r1 r2
      refine bodyPost_ret (v := .tuple #[zeroV, .int .i64 21]) (by simp [results, Try.f24, go_sem, r0, r1, r2, zeroV]) rfl ?_
      exact HBAD.out _ HB1.out HC.out
    · obtain ⟨x, y, z, t, rfl⟩ : ∃ x y z t, l = x :: y :: z :: t := three_of (by omega)
      · skip
        obtain ⟨k, hk⟩ : ∃ k, t.length = k := ⟨_, rfl⟩
        obtain ⟨n, hn⟩ : ∃ n, (x :: y :: z :: t).length = n := ⟨_, rfl⟩
        have hnk : n = k + 3 := by rw [← hn]; simp [hk]
        have HNK := Lib.hid hnk
        have hn0 : (0 : Int) < (n : Int) := by omega
        have hm0 : 0 < n := by omega
        have hm1 : 1 < n := by omega
        have hm2 : 2 < n := by omega
        have hn1' : (1 : Int) < (n : Int) := by omega
        have hn2' : (2 : Int) < (n : Int) := by omega
        have hn3' : (3 : Int) ≤ (n : Int) := by omega
        have hn3'' : ¬ ((n : Int) < 3) := by omega
        rw [hn] at HNUM
        have HK := Lib.hid hk
        have HN3 := Lib.hid hn
        clear h3 hn hk hnk
        go_enter Try.func24, Try.ntmps24
        go_upto_region 2 with (go_at_call 32; ((with_reducible refine HNUM.out.mono ?_); rintro e W1 ⟨v1, rfl, h1, h2⟩; have HB1 := Lib.hid h2; have HO1 := Lib.hid h1; clear h1 h2))
        obtain ⟨g, cap, cur, hv, hBg, hg, hn1, hn2, hn3, hn4⟩ : ∃ g cap cur, v1 = .slice (some ⟨g, 0, none⟩) n cap ∧ W0.heap.size ≤ g ∧ W1.heap[g]? = some (.cells cur 2 (0, 0)) ∧ n ≤ cap ∧ cap ≤ maxLen ∧ cur.size = cap * 1 ∧ cur.toList.take (n * 1) = (x :: y :: z :: t).map intV := by
          rcases HO1.out.2 with ⟨_, h⟩ | ⟨g, cap, cur, h1, h2, h3, h4, h5, h6, h7⟩
          · have := HNK.out; omega
          · exact ⟨g, cap, cur, h1, h2, h3, h4, h5, h6, h7⟩
        subst hv
        have hrl : Rl W1 g (x :: y :: z :: t) := ⟨cur, hg, fun j u hu => by
          have hj : j < n := by rw [← HN3.out]; exact (List.getElem?_eq_some_iff.1 hu).1
          have h5 : (cur.toList.take (n * 1))[j]? = ((x :: y :: z :: t).map intV)[j]? := by rw [hn4]
          rw [List.getElem?_take_of_lt (by omega), Array.getElem?_toList] at h5
          rw [h5, List.getElem?_map, hu]; rfl⟩
        have HRL := Lib.hid hrl
        have e0 := hrl.cell (j := 0) rfl
        have e1 := hrl.cell (j := 1) rfl
        have e2 := hrl.cell (j := 2) rfl
        have HGB := Lib.hid hBg
        clear hg hn3 hn4 hrl hBg
        go_upto_region 4 with fail
        obtain ⟨M, hM⟩ : ∃ n, W1.heap.size = n := ⟨_, rfl⟩
        have hM' : W1.drew.heap.size = M := hM
        have hgM : g < M := by rw [← hM]; exact HRL.out.lt
        have hy := Bx.new W1.drew 0 0 (.slice none 0 0)
        have hyb : Below W1.heap.size W1 (W1.drew.alloc (.cells #[.int .i64 0, .int .i64 0, .slice none 0 0] 29)) := ((Below.refl _ W1).drew).alloc (Nat.le_refl _) _
        obtain ⟨W2, hW2⟩ : ∃ W, W1.drew.alloc (.cells #[.int .i64 0, .int .i64 0, .slice none 0 0] 29) = W := ⟨_, rfl⟩
        rw [hW2] at hy hyb
        rw [hM'] at hy
        have HY := Lib.hid hy
        obtain ⟨⟨d0, d1, d2⟩, g0⟩ := hy.facts
        have hr2 : Rl W2 g (x :: y :: z :: t) := HRL.out.keep (hyb.block g HRL.out.lt)
        have HB2 := Lib.hid (below_on' HB1.out hyb)
        have hr3 : Rl (setM W2 M x y (.slice none 0 0)) g (x :: y :: z :: t) := hr2.keep ((only_setM (B := 0) M _ _ _).block g hr2.lt (by omega))
        have HB3 : Hid (Below W0.heap.size W0 (setM W2 M x y (.slice none 0 0))) := Lib.hid (below_setM HB2.out (by have := HB1.out.size; omega) _ _ _)
        have HX3 : Hid (Bx (setM W2 M x y (.slice none 0 0)) M x y (.slice none 0 0)) := Lib.hid (hy.set _ _ _)
        have HR3 := Lib.hid hr3
        have HGM := Lib.hid hgM
        have LP : W2.cell? ⟨g, 0, none⟩ = some (.int .i64 x) ∧ W2.cell? ⟨g, 1, none⟩ = some (.int .i64 y) ∧ W2.cell? ⟨g, 2, none⟩ = some (.int .i64 z) := ⟨hr2.cell (j := 0) rfl, hr2.cell (j := 1) rfl, hr2.cell (j := 2) rfl⟩
        have LQ : (setM W2 M x y (.slice none 0 0)).cell? ⟨g, 0, none⟩ = some (.int .i64 x) ∧ (setM W2 M x y (.slice none 0 0)).cell? ⟨g, 1, none⟩ = some (.int .i64 y) ∧ (setM W2 M x y (.slice none 0 0)).cell? ⟨g, 2, none⟩ = some (.int .i64 z) := ⟨hr3.cell (j := 0) rfl, hr3.cell (j := 1) rfl, hr3.cell (j := 2) rfl⟩
        clear hy hyb hr2 hr3 hgM
        refine wp_region_held_drew (S := fun w' => w'.cell? ⟨g, 0, none⟩ = some (.int .i64 x) ∧ w'.cell? ⟨g, 1, none⟩ = some (.int .i64 y) ∧ w'.cell? ⟨g, 2, none⟩ = some (.int .i64 z)) (by kernel_rfl) (show W1.drew.cell? ⟨g, 0, none⟩ = some (.int .i64 x) ∧ W1.drew.cell? ⟨g, 1, none⟩ = some (.int .i64 y) ∧ W1.drew.cell? ⟨g, 2, none⟩ = some (.int .i64 z) from ⟨e0, e1, e2⟩) (fun hHeld => ?_)
        refine wpAnyH_take (i := 0) (v := ?v1) rfl (by kernel_rfl) (by kernel_rfl) (by kernel_rfl) (fun _ _ _ h => h) (Or.inl ⟨by rfl, ?hy1⟩) (by assumption) ?rest1
        case hy1 => (intro w0 hSw; (try dsimp only at hSw); go_simp; try with_reducible rfl)
        try simp only [Act.put, List.getElem_toArray, List.getElem_cons_zero, List.getElem_cons_succ, List.setIfInBounds_toArray, List.set_cons_zero, List.set_cons_succ]
        refine wpAnyH_take (i := 1) (v := ?v2) rfl (by kernel_rfl) (by kernel_rfl) (by kernel_rfl) (fun _ _ _ h => h) (Or.inl ⟨by rfl, ?hy2⟩) (by assumption) ?rest2
        case hy2 => (intro w0 hSw; (try dsimp only at hSw); go_simp; try with_reducible rfl)
        try simp only [Act.put, List.getElem_toArray, List.getElem_cons_zero, List.getElem_cons_succ, List.setIfInBounds_toArray, List.set_cons_zero, List.set_cons_succ]
        refine wpAnyH_take (i := 2) (v := ?v3) rfl (by kernel_rfl) (by kernel_rfl) (by kernel_rfl) (fun _ _ _ h => h) (Or.inl ⟨by rfl, ?hy3⟩) (by assumption) ?rest3
        case hy3 => (intro w0 hSw; (try dsimp only at hSw); go_simp; try with_reducible rfl)
        try simp only [Act.put, List.getElem_toArray, List.getElem_cons_zero, List.getElem_cons_succ, List.setIfInBounds_toArray, List.set_cons_zero, List.set_cons_succ]
        refine wpAnyH_take (i := 3) (v := ?v4) rfl (by kernel_rfl) (by kernel_rfl) (by kernel_rfl) (fun _ _ _ h => h) (Or.inl ⟨by rfl, ?hy4⟩) (by assumption) ?rest4
        case hy4 => (intro w0 hSw; (try dsimp only at hSw); go_simp; try with_reducible rfl)
        try simp only [Act.put, List.getElem_toArray, List.getElem_cons_zero, List.getElem_cons_succ, List.setIfInBounds_toArray, List.set_cons_zero, List.set_cons_succ]
        refine wpAnyH_take (i := 4) (v := ?v5) rfl (by kernel_rfl) (by kernel_rfl) (by kernel_rfl) (fun _ _ _ h => h) (Or.inl ⟨by rfl, ?hy5⟩) (by assumption) ?rest5
        case hy5 => (intro w0 hSw; (try dsimp only at hSw); go_simp; try with_reducible rfl)
        try simp only [Act.put, List.getElem_toArray, List.getElem_cons_zero, List.getElem_cons_succ, List.setIfInBounds_toArray, List.set_cons_zero, List.set_cons_succ]
        refine wpAnyH_take (i := 5) (v := ?v6) rfl (by kernel_rfl) (by kernel_rfl) (by kernel_rfl) (fun _ _ _ h => h) (Or.inl ⟨by rfl, ?hy6⟩) (by assumption) ?rest6
        case hy6 => (intro w0 hSw; (try dsimp only at hSw); go_simp; try with_reducible rfl)
        try simp only [Act.put, List.getElem_toArray, List.getElem_cons_zero, List.getElem_cons_succ, List.setIfInBounds_toArray, List.set_cons_zero, List.set_cons_succ]
        refine wpAnyH_take (i := 6) (v := ?v7) rfl (by kernel_rfl) (by kernel_rfl) (by kernel_rfl) (fun _ _ _ h => h) (Or.inl ⟨by rfl, ?hy7⟩) (by assumption) ?rest7
        case hy7 => (intro w0 hSw; (try dsimp only at hSw); go_simp; try with_reducible rfl)
        try simp only [Act.put, List.getElem_toArray, List.getElem_cons_zero, List.getElem_cons_succ, List.setIfInBounds_toArray, List.set_cons_zero, List.set_cons_succ]
        refine wpAnyH_take (i := 7) (v := ?v8) rfl (by kernel_rfl) (by kernel_rfl) (by kernel_rfl) (fun _ _ _ h => h) (Or.inl ⟨by rfl, ?hy8⟩) (by assumption) ?rest8
        case hy8 => (intro w0 hSw; (try dsimp only at hSw); go_simp; try with_reducible rfl)
        try simp only [Act.put, List.getElem_toArray, List.getElem_cons_zero, List.getElem_cons_succ, List.setIfInBounds_toArray, List.set_cons_zero, List.set_cons_succ]
        refine wpAnyH_take (i := 8) (v := ?v9) rfl (by kernel_rfl) (by kernel_rfl) (by kernel_rfl) (fun _ _ _ h => h) (Or.inl ⟨by rfl, ?hy9⟩) (by assumption) ?rest9
        case hy9 => (intro w0 hSw; (try dsimp only at hSw); go_simp; try with_reducible rfl)
        try simp only [Act.put, List.getElem_toArray, List.getElem_cons_zero, List.getElem_cons_succ, List.setIfInBounds_toArray, List.set_cons_zero, List.set_cons_succ]
        refine wpAnyH_take (i := 9) (v := ?v10) rfl (by kernel_rfl) (by kernel_rfl) (by kernel_rfl) (fun _ _ _ h => h) (Or.inl ⟨by rfl, ?hy10⟩) (by assumption) ?rest10
        case hy10 => (intro w0 hSw; (try dsimp only at hSw); go_simp; try with_reducible rfl)
        try simp only [Act.put, List.getElem_toArray, List.getElem_cons_zero, List.getElem_cons_succ, List.setIfInBounds_toArray, List.set_cons_zero, List.set_cons_succ]
        refine wpAnyH_ready (rs := [10]) (by kernel_rfl) (by simp) ?_
        refine AllReadyH.cons rfl (fun KQ hKQ => ?_) AllReadyH.nil
        go_simp
        refine hKQ.out _ _ ?_ (fun hHeld => ?_)
        · exact LP
        clear hKQ KQ
        try simp only [Act.put, List.getElem_toArray, List.getElem_cons_zero, List.getElem_cons_succ, List.setIfInBounds_toArray, List.set_cons_zero, List.set_cons_succ]
        refine wpAnyH_ready (rs := [11]) (by kernel_rfl) (by simp) ?_
        refine AllReadyH.cons rfl (fun KQ hKQ => ?_) AllReadyH.nil
        go_simp
        refine hKQ.out _ _ ?_ (fun hHeld => ?_)
        · exact LQ
        clear hKQ KQ
        try simp only [Act.put, List.getElem_toArray, List.getElem_cons_zero, List.getElem_cons_succ, List.setIfInBounds_toArray, List.set_cons_zero, List.set_cons_succ]
        refine wpAnyH_take (i := 12) (v := ?v11) rfl (by kernel_rfl) (by kernel_rfl) (by kernel_rfl) (fun _ _ _ h => h) (Or.inl ⟨by rfl, ?hy11⟩) (by assumption) ?rest11
        case hy11 => (intro w0 hSw; (try dsimp only at hSw); go_simp; try with_reducible rfl)
        try simp only [Act.put, List.getElem_toArray, List.getElem_cons_zero, List.getElem_cons_succ, List.setIfInBounds_toArray, List.set_cons_zero, List.set_cons_succ]
        refine wpAnyH_done (by kernel_rfl) ?_ _
        clear LP LQ hHeld e0 e1 e2 hM' d0 d1 d2 g0 hW2
        change Exit.then _ _ _ _ (setM W2 M x y (.slice none 0 0))
        generalize setM W2 M x y (.slice none 0 0) = W4 at HB3 HX3 HR3 ⊢
        obtain ⟨o1, hsl, ho1⟩ := tail3 (g := g) (o := 0) (n := n) (c := cap) (k := k) HNK.out hn1
        have HO1' := Lib.hid ho1
        have HXN : Hid (Bx W4 N 0 0 (.slice none 0 0)) := Lib.hid (HX.out _ HB3.out)
        have HQ9 : Hid (∀ (e0 : (x :: y :: z :: t).length - 3 = k), True) := Lib.hid (fun _ => trivial)
        have hlen3 : (x :: y :: z :: t).length - 3 = k := by rw [HN3.out, HNK.out]; omega
        have HLEN3 := Lib.hid hlen3
        clear ho1 hlen3
        by_cases hrem : k % 3 = 0
        case neg =>
          have hrb : ((k : Int) % 3 != 0) = true := by simp; omega
          have HC := Lib.hid (read_no HLS.out (fun _ h => hrem (by have := h.2.1; rwa [HLEN3.out] at this)))
          obtain ⟨⟨c0, c1, c2⟩, f0⟩ := HXN.out.facts
          have HRZ := Lib.hid (HXN.out.set 0 0 (.slice none 0 0)).facts.1
          clear hrem
          go_wp2_with fail
          obtain ⟨r0, r1, r2⟩ := HRZ.out
          unfold setM at r0 r1 r2
          refine bodyPost_ret (v := .tuple #[zeroV, .int .i64 21]) (by simp [results, Try.f24, go_sem, r0, r1, r2, zeroV]) rfl ?_
          exact HBAD.out _ HB3.out HC.out
        obtain ⟨q, hq⟩ : ∃ q, k / 3 = q := ⟨_, rfl⟩
        have hrb : ((k : Int) % 3 != 0) = false := by simp; omega
        have hqd : (k : Int) / 3 = (q : Int) := by omega
        have hqs : q ≤ 1000000 := by have := HFS.out.2.2; rw [HN3.out, HNK.out] at this; omega
        obtain ⟨Q, hQ⟩ : ∃ Q : Int, (q : Int) = Q := ⟨_, rfl⟩
        have hqw : wrap64 Q = Q := by unfold wrap64; omega
        have HQQ := Lib.hid hQ
        rw [hQ] at hqd
        clear hqs hQ
        by_cases hzq : z = Q
        case neg =>
          have hzb : (z != Q) = true := by simp [hzq]
          have HC := Lib.hid (read_no HLS.out (fun _ h => hzq (by
            have := h.2.2.1
            rw [HLEN3.out, hq, HQQ.out] at this
            exact this)))
          obtain ⟨⟨c0, c1, c2⟩, f0⟩ := HXN.out.facts
          have HRZ := Lib.hid (HXN.out.set 0 0 (.slice none 0 0)).facts.1
          clear hrem hq hzq
          go_wp2_with fail
          obtain ⟨r0, r1, r2⟩ := HRZ.out
          unfold setM at r0 r1 r2
          refine bodyPost_ret (v := .tuple #[zeroV, .int .i64 21]) (by simp [results, Try.f24, go_sem, r0, r1, r2, zeroV]) rfl ?_
          exact HBAD.out _ HB3.out HC.out
        have hzb : (z != Q) = false := by simp [hzq]
        have HKQ : Hid (k = 3 * q) := Lib.hid (by omega)
        have HTL : Hid ((triples t).length = q) := Lib.hid (by rw [triples_len, HK.out, hq])
        have HZQ : Hid (z = (q : Int)) := Lib.hid (by rw [HQQ.out]; exact hzq)
        have HQL : Hid (q ≤ 1000000) := Lib.hid (by have := HFS.out.2.2; rw [HN3.out, HNK.out] at this; omega)
        have HCAP : Hid (k ≤ cap - 3 ∧ cap - 3 ≤ maxLen) := Lib.hid (by have := HNK.out; omega)
        clear hrem hq hzq
        go_wp2_with fail
        go_loopg [4] q (fun gg v4 wr => ∃ (i o' kk c' : Nat) (au : Option Addr) (cu : Nat), i + gg = q ∧ v4 = .slice (some ⟨g, o', none⟩) kk c' ∧ Hid (kk = 3 * gg) ∧ Hid (0 < gg → o' = 3 + 3 * i) ∧ Hid (kk ≤ c' ∧ c' ≤ maxLen) ∧ Hid (Bx wr M x y (.slice au i cu)) ∧ Hid (wr.ownsRow W0.heap.size 26 3 (.slice au i cu) i (cellsR ((triples t).take i))) ∧ Hid (Rl wr g (x :: y :: z :: t)) ∧ Hid (Below W0.heap.size W0 wr))
        case atStart => exact ⟨0, o1, k, cap - 3, none, 0, by omega, rfl, HKQ, Lib.hid (fun h => by have := HO1'.out (by have := HKQ.out; omega); omega), HCAP, HX3, Lib.hid (World.ownsRow_nil _ _ _ _), HR3, HB3⟩
        case round =>
          clear HX3 HR3 HB3 HXN HCAP HO1' hsl hqw hqd hzb hrb
          obtain ⟨i, o', kk, c', au, cu, hig, rfl, HKK, HOO, HCC, HBX, HOW, HRW, HBW⟩ := hrel
          cases gk with
          | zero =>
            have hkk : kk = 0 := by have := HKK.out; omega
            obtain rfl : i = q := by omega
            subst hkk
            have how := HOW.out
            rw [List.take_of_length_le (by rw [HTL.out]; exact Nat.le_refl _)] at how
            have HSR := Lib.hid (Sr.own how).2
            obtain ⟨⟨m0, m1, m2⟩, mf⟩ := HBX.out.facts
            have hmv : MV wr (.agg #[.int .i64 x, .int .i64 y, .slice au i cu]) (readM (x :: y :: z :: t)) := ⟨_, rfl, HSR.out⟩
            have HMAY := Lib.hid (may_any wr hmv (by show (triples t).length ≤ _; rw [HTL.out]; have := HQL.out; omega))
            have hok : ∀ hm : MayP (readM (x :: y :: z :: t)), ReadOk (x :: y :: z :: t) := fun hm => ⟨by rw [HN3.out, HNK.out]; omega, by rw [HLEN3.out, HKQ.out]; omega, by rw [HLEN3.out, HKQ.out]; show z = _; rw [HZQ.out, Nat.mul_div_cancel_left _ (by omega)], hm⟩
            have HOK := Lib.hid hok
            clear how hmv hok HKK HOO HCC HOW hig
            by_cases hmay : MayP (readM (x :: y :: z :: t))
            · rw [mayB_yes hmay] at HMAY
              have HRY := Lib.hid (read_yes HLS.out (HOK.out hmay))
              clear hmay
              go_upto_region 13 with (go_at_call 16; ((with_reducible refine HMAY.out.mono ?_); rintro e W7 ⟨rfl, h1⟩; have HB7 := Lib.hid h1; have hx7 := HBX.out.below h1; obtain ⟨⟨n0, n1, n2⟩, nf⟩ := hx7.facts; have HW7 := Lib.hid (below_on' HBW.out h1); clear h1 hx7))
              obtain ⟨⟨c0, c1, c2⟩, f0⟩ := (HX.out _ HW7.out).facts
              have HRZ := Lib.hid ((HX.out _ HW7.out).set x y (.slice au i cu)).facts.1
              have hsr7 := HSR.out.below HB7.out
              have HSF : Hid (Sr (setM W7 N x y (.slice au i cu)) (.slice au i cu) (triples t)) := Lib.hid (hsr7.msg (only_setM (B := 0) N _ _ _) (hsr7.ne_msg (HX.out _ HW7.out)))
              have HBF : Hid (Below w.heap.size w (setM W7 N x y (.slice au i cu))) := Lib.hid (below_setM (below_on' HB0.out HW7.out) (by rw [hN]; exact Nat.le_refl _) _ _ _)
              clear hsr7
              go_wp2_with fail
              obtain ⟨r0, r1, r2⟩ := HRZ.out
              unfold setM at r0 r1 r2
              refine bodyPost_ret (v := .tuple #[.agg #[.int .i64 x, .int .i64 y, .slice au i cu], .int .i64 0]) (by simp [results, Try.f24, go_sem, r0, r1, r2]) rfl ?_
              exact ⟨_, by rw [HRY.out], by rw [HRY.out]; exact ⟨_, rfl, HSF.out⟩, HBF.out⟩
            · rw [mayB_no hmay] at HMAY
              have HRY := Lib.hid (read_no HLS.out (fun _ h => hmay h.2.2.2))
              clear hmay
              go_upto_region 12 with (go_at_call 16; ((with_reducible refine HMAY.out.mono ?_); rintro e W7 ⟨rfl, h1⟩; have HW7 := Lib.hid (below_on' HBW.out h1); clear h1))
              obtain ⟨⟨c0, c1, c2⟩, f0⟩ := (HX.out _ HW7.out).facts
              have HRZ := Lib.hid ((HX.out _ HW7.out).set 0 0 (.slice none 0 0)).facts.1
              go_wp2_with fail
              obtain ⟨r0, r1, r2⟩ := HRZ.out
              unfold setM at r0 r1 r2
              refine bodyPost_ret (v := .tuple #[zeroV, .int .i64 21]) (by simp [results, Try.f24, go_sem, r0, r1, r2, zeroV]) rfl ?_
              exact HBAD.out _ HW7.out HRY.out
          | succ gg =>
            have hkk0 : 0 < kk := by have := HKK.out; omega
            have hkk1 : 1 < kk := by have := HKK.out; omega
            have hkk2 : 2 < kk := by have := HKK.out; omega
            have hki0 : (0 : Int) < (kk : Int) := by omega
            have hki1 : (1 : Int) < (kk : Int) := by omega
            have hki2 : (2 : Int) < (kk : Int) := by omega
            have hoo := HOO.out (by omega)
            have hit : i < t.length / 3 := by have := HTL.out; rw [triples_len] at this; omega
            obtain ⟨p1, p2, p3, t1, t2, t3, t4⟩ := triples_get t i hit
            have e0 : wr.cell? ⟨g, o', none⟩ = some (.int .i64 p1) := by rw [hoo, show 3 + 3 * i = 3 * i + 1 + 1 + 1 by omega]; exact HRW.out.cell (by simpa using t1)
            have e1 : wr.cell? ⟨g, o' + 1, none⟩ = some (.int .i64 p2) := by rw [hoo, show 3 + 3 * i + 1 = (3 * i + 1) + 1 + 1 + 1 by omega]; exact HRW.out.cell (by simpa using t2)
            have e2 : wr.cell? ⟨g, o' + 2, none⟩ = some (.int .i64 p3) := by rw [hoo, show 3 + 3 * i + 2 = (3 * i + 2) + 1 + 1 + 1 by omega]; exact HRW.out.cell (by simpa using t3)
            obtain ⟨⟨-, -, m2⟩, mf⟩ := HBX.out.facts
            have hsz := HBW.out.size
            obtain ⟨v5, w5, hr5, ho5, hg5⟩ := app_rec wr.drew W0.heap.size (byt.own_below HOW.out ⟨rfl, rfl, rfl, Nat.le_refl _, fun _ _ => rfl⟩) (by have := HQL.out; omega) (p1, p2, p3) hsz 27
            have htk : (triples t).take i ++ [(p1, p2, p3)] = (triples t).take (i + 1) := by rw [List.take_add_one, t4]; rfl
            rw [htk] at ho5
            obtain ⟨a5, c5, hv5⟩ := (Sr.own ho5).2.len
            have hl5 := (Sr.own ho5).1
            rw [← hl5] at hv5
            subst hv5
            have hb4 : Below wr.heap.size wr (wr.drew.alloc (.cells #[.int .i64 p1, .int .i64 p2, .int .i64 p3] 26)) := ((Below.refl _ wr).drew).alloc (Nat.le_refl _) _
            have hoff : ∀ ob j, wr.heap[j]? = some ob → (∀ cur : Array Value, ob ≠ Obj.cells cur 26 (0, 0)) → w5.heap[j]? = some ob := fun ob j hj hno => by
              rw [hg5.block j (Nat.lt_of_lt_of_le (lt_of_get hj) hb4.size) (rec_off HOW.out hj hno), hb4.block j (lt_of_get hj)]
              exact hj
            have hx5 : Bx w5 M x y (.slice au i cu) := hoff _ _ HBX.out (fun cur e => by cases e)
            have hrl5 : Rl w5 g (x :: y :: z :: t) := by
              obtain ⟨cr, h1, h2⟩ := HRW.out
              exact ⟨cr, hoff _ _ h1 (fun cur e => by cases e), h2⟩
            have hb5 : Below W0.heap.size W0 w5 := (HBW.out.trans (hb4.mono hsz)).grown hg5 (Nat.le_trans hsz hb4.size) (fun j hj => (HOW.out.lt j hj).1)
            have hMW : W0.heap.size ≤ M := by have := HB1.out.size; omega
            have HX6 : Hid (Bx (w5.setCell ⟨M, 2, none⟩ (.slice a5 (i + 1) c5)) M x y (.slice a5 (i + 1) c5)) := Lib.hid (hx5.set2 _)
            have HB6 : Hid (Below W0.heap.size W0 (w5.setCell ⟨M, 2, none⟩ (.slice a5 (i + 1) c5))) := Lib.hid (hb5.setCell (p := ⟨M, 2, none⟩) hMW _)
            have HR6 : Hid (Rl (w5.setCell ⟨M, 2, none⟩ (.slice a5 (i + 1) c5)) g (x :: y :: z :: t)) := Lib.hid (hrl5.keep ((Only.setCell w5 M 2 _).block g hrl5.lt (by have := HGM.out; omega)))
            have HO6 : Hid ((w5.setCell ⟨M, 2, none⟩ (.slice a5 (i + 1) c5)).ownsRow W0.heap.size 26 3 (.slice a5 (i + 1) c5) (i + 1) (cellsR ((triples t).take (i + 1)))) := Lib.hid (rec_only ho5 (Only.setCell w5 M 2 _) (fun b hb e => rec_off ho5 hx5 (fun cur e => by cases e) (by rw [hb, e])))
            obtain ⟨⟨-, -, n2⟩, nf⟩ := hx5.facts
            have q0 : w5.cell? ⟨g, o', none⟩ = some (.int .i64 p1) := by rw [hoo, show 3 + 3 * i = 3 * i + 1 + 1 + 1 by omega]; exact hrl5.cell (by simpa using t1)
            have q1 : w5.cell? ⟨g, o' + 1, none⟩ = some (.int .i64 p2) := by rw [hoo, show 3 + 3 * i + 1 = (3 * i + 1) + 1 + 1 + 1 by omega]; exact hrl5.cell (by simpa using t2)
            have q2 : w5.cell? ⟨g, o' + 2, none⟩ = some (.int .i64 p3) := by rw [hoo, show 3 + 3 * i + 2 = (3 * i + 2) + 1 + 1 + 1 by omega]; exact hrl5.cell (by simpa using t3)
            have LP : (wr.drew.alloc (.cells #[.int .i64 p1, .int .i64 p2, .int .i64 p3] 26)).cell? ⟨M, 2, none⟩ = some (.slice au i cu) ∧ (wr.drew.alloc (.cells #[.int .i64 p1, .int .i64 p2, .int .i64 p3] 26)).cell? ⟨g, o', none⟩ = some (.int .i64 p1) ∧ (wr.drew.alloc (.cells #[.int .i64 p1, .int .i64 p2, .int .i64 p3] 26)).cell? ⟨g, o' + 1, none⟩ = some (.int .i64 p2) ∧ (wr.drew.alloc (.cells #[.int .i64 p1, .int .i64 p2, .int .i64 p3] 26)).cell? ⟨g, o' + 2, none⟩ = some (.int .i64 p3) := ⟨(hb4.cell (p := ⟨M, 2, none⟩) (World.block_lt_of_cell? wr _ m2)).trans m2, (hb4.cell (p := ⟨g, o', none⟩) (World.block_lt_of_cell? wr _ e0)).trans e0, (hb4.cell (p := ⟨g, o' + 1, none⟩) (World.block_lt_of_cell? wr _ e1)).trans e1, (hb4.cell (p := ⟨g, o' + 2, none⟩) (World.block_lt_of_cell? wr _ e2)).trans e2⟩
            have LQ : w5.cell? ⟨M, 2, none⟩ = some (.slice au i cu) ∧ w5.cell? ⟨g, o', none⟩ = some (.int .i64 p1) ∧ w5.cell? ⟨g, o' + 1, none⟩ = some (.int .i64 p2) ∧ w5.cell? ⟨g, o' + 2, none⟩ = some (.int .i64 p3) := ⟨n2, q0, q1, q2⟩
            have HR5 := Lib.hid hr5
            obtain ⟨o2, hsl2, ho2⟩ := tail3 (g := g) (o := o') (n := kk) (c := c') (k := 3 * gg) (by have := HKK.out; omega) HCC.out.1
            have HO2 : Hid (0 < gg → o2 = 3 + 3 * (i + 1)) := Lib.hid (fun h => by rw [ho2 (by omega), hoo]; omega)
            have HC2 : Hid (3 * gg ≤ c' - 3 ∧ c' - 3 ≤ maxLen) := Lib.hid (by have := HKK.out; have := HCC.out; omega)
            have HIG := Lib.hid hig
            clear hr5 ho5 hg5 hb4 hoff hx5 hrl5 hb5 hMW htk hl5 t1 t2 t3 t4 hit hoo hig ho2 q0 q1 q2 HOO hsz
            go_wp2_with fail
            refine dsk.wp_region_peel2 (by kernel_rfl) (by simp only [List.dropLast_cons_cons, List.dropLast_singleton]; exact rfl) rfl (by kernel_rfl) ?_
            refine wpAny_of_held (S := fun w' => w'.cell? ⟨M, 2, none⟩ = some (.slice au i cu) ∧ w'.cell? ⟨g, o', none⟩ = some (.int .i64 p1) ∧ w'.cell? ⟨g, o' + 1, none⟩ = some (.int .i64 p2) ∧ w'.cell? ⟨g, o' + 2, none⟩ = some (.int .i64 p3)) _ _ _ _ ?_
            have hHeld := (show wr.drew.cell? ⟨M, 2, none⟩ = some (.slice au i cu) ∧ wr.drew.cell? ⟨g, o', none⟩ = some (.int .i64 p1) ∧ wr.drew.cell? ⟨g, o' + 1, none⟩ = some (.int .i64 p2) ∧ wr.drew.cell? ⟨g, o' + 2, none⟩ = some (.int .i64 p3) from ⟨m2, e0, e1, e2⟩)
            refine wpAnyH_take (i := 0) (v := ?v25) rfl (by kernel_rfl) (by kernel_rfl) (by kernel_rfl) (fun _ _ _ h => h) (Or.inl ⟨by rfl, ?hy25⟩) (by assumption) ?rest25
            case hy25 => (intro w0 hSw; (try dsimp only at hSw); go_simp; try with_reducible rfl)
            try simp only [Act.put, List.getElem_toArray, List.getElem_cons_zero, List.getElem_cons_succ, List.setIfInBounds_toArray, List.set_cons_zero, List.set_cons_succ]
            refine wpAnyH_take (i := 1) (v := ?v26) rfl (by kernel_rfl) (by kernel_rfl) (by kernel_rfl) (fun _ _ _ h => h) (Or.inl ⟨by rfl, ?hy26⟩) (by assumption) ?rest26
            case hy26 => (intro w0 hSw; (try dsimp only at hSw); go_simp; try with_reducible rfl)
            try simp only [Act.put, List.getElem_toArray, List.getElem_cons_zero, List.getElem_cons_succ, List.setIfInBounds_toArray, List.set_cons_zero, List.set_cons_succ]
            refine wpAnyH_take (i := 2) (v := ?v27) rfl (by kernel_rfl) (by kernel_rfl) (by kernel_rfl) (fun _ _ _ h => h) (Or.inl ⟨by rfl, ?hy27⟩) (by assumption) ?rest27
            case hy27 => (intro w0 hSw; (try dsimp only at hSw); go_simp; try with_reducible rfl)
            try simp only [Act.put, List.getElem_toArray, List.getElem_cons_zero, List.getElem_cons_succ, List.setIfInBounds_toArray, List.set_cons_zero, List.set_cons_succ]
            refine wpAnyH_take (i := 3) (v := ?v28) rfl (by kernel_rfl) (by kernel_rfl) (by kernel_rfl) (fun _ _ _ h => h) (Or.inl ⟨by rfl, ?hy28⟩) (by assumption) ?rest28
            case hy28 => (intro w0 hSw; (try dsimp only at hSw); go_simp; try with_reducible rfl)
            try simp only [Act.put, List.getElem_toArray, List.getElem_cons_zero, List.getElem_cons_succ, List.setIfInBounds_toArray, List.set_cons_zero, List.set_cons_succ]
            refine wpAnyH_take (i := 4) (v := ?v29) rfl (by kernel_rfl) (by kernel_rfl) (by kernel_rfl) (fun _ _ _ h => h) (Or.inl ⟨by rfl, ?hy29⟩) (by assumption) ?rest29
            case hy29 => (intro w0 hSw; (try dsimp only at hSw); go_simp; try with_reducible rfl)
            try simp only [Act.put, List.getElem_toArray, List.getElem_cons_zero, List.getElem_cons_succ, List.setIfInBounds_toArray, List.set_cons_zero, List.set_cons_succ]
            refine wpAnyH_take (i := 5) (v := ?v30) rfl (by kernel_rfl) (by kernel_rfl) (by kernel_rfl) (fun _ _ _ h => h) (Or.inl ⟨by rfl, ?hy30⟩) (by assumption) ?rest30
            case hy30 => (intro w0 hSw; (try dsimp only at hSw); go_simp; try with_reducible rfl)
            try simp only [Act.put, List.getElem_toArray, List.getElem_cons_zero, List.getElem_cons_succ, List.setIfInBounds_toArray, List.set_cons_zero, List.set_cons_succ]
            refine wpAnyH_take (i := 6) (v := ?v31) rfl (by kernel_rfl) (by kernel_rfl) (by kernel_rfl) (fun _ _ _ h => h) (Or.inl ⟨by rfl, ?hy31⟩) (by assumption) ?rest31
            case hy31 => (intro w0 hSw; (try dsimp only at hSw); go_simp; try with_reducible rfl)
            try simp only [Act.put, List.getElem_toArray, List.getElem_cons_zero, List.getElem_cons_succ, List.setIfInBounds_toArray, List.set_cons_zero, List.set_cons_succ]
            refine wpAnyH_take (i := 7) (v := ?v32) rfl (by kernel_rfl) (by kernel_rfl) (by kernel_rfl) (fun _ _ _ h => h) (Or.inl ⟨by rfl, ?hy32⟩) (by assumption) ?rest32
            case hy32 => (intro w0 hSw; (try dsimp only at hSw); go_simp; try with_reducible rfl)
            try simp only [Act.put, List.getElem_toArray, List.getElem_cons_zero, List.getElem_cons_succ, List.setIfInBounds_toArray, List.set_cons_zero, List.set_cons_succ]
            refine wpAnyH_take (i := 8) (v := ?v33) rfl (by kernel_rfl) (by kernel_rfl) (by kernel_rfl) (fun _ _ _ h => h) (Or.inl ⟨by rfl, ?hy33⟩) (by assumption) ?rest33
            case hy33 => (intro w0 hSw; (try dsimp only at hSw); go_simp; try with_reducible rfl)
            try simp only [Act.put, List.getElem_toArray, List.getElem_cons_zero, List.getElem_cons_succ, List.setIfInBounds_toArray, List.set_cons_zero, List.set_cons_succ]
            refine wpAnyH_take (i := 9) (v := ?v34) rfl (by kernel_rfl) (by kernel_rfl) (by kernel_rfl) (fun _ _ _ h => h) (Or.inl ⟨by rfl, ?hy34⟩) (by assumption) ?rest34
            case hy34 => (intro w0 hSw; (try dsimp only at hSw); go_simp; try with_reducible rfl)
            try simp only [Act.put, List.getElem_toArray, List.getElem_cons_zero, List.getElem_cons_succ, List.setIfInBounds_toArray, List.set_cons_zero, List.set_cons_succ]
            refine wpAnyH_take (i := 10) (v := ?v35) rfl (by kernel_rfl) (by kernel_rfl) (by kernel_rfl) (fun _ _ _ h => h) (Or.inl ⟨by rfl, ?hy35⟩) (by assumption) ?rest35
            case hy35 => (intro w0 hSw; (try dsimp only at hSw); go_simp; try with_reducible rfl)
            try simp only [Act.put, List.getElem_toArray, List.getElem_cons_zero, List.getElem_cons_succ, List.setIfInBounds_toArray, List.set_cons_zero, List.set_cons_succ]
            refine wpAnyH_take (i := 11) (v := ?v36) rfl (by kernel_rfl) (by kernel_rfl) (by kernel_rfl) (fun _ _ _ h => h) (Or.inl ⟨by rfl, ?hy36⟩) (by assumption) ?rest36
            case hy36 => (intro w0 hSw; (try dsimp only at hSw); go_simp; try with_reducible rfl)
            try simp only [Act.put, List.getElem_toArray, List.getElem_cons_zero, List.getElem_cons_succ, List.setIfInBounds_toArray, List.set_cons_zero, List.set_cons_succ]
            refine wpAnyH_ready (rs := [12]) (by kernel_rfl) (by simp) ?_
            refine AllReadyH.cons rfl (fun KQ hKQ => ?_) AllReadyH.nil
            go_simp
            refine hKQ.out _ _ ?_ (fun hHeld => ?_)
            · exact LP
            clear hKQ KQ
            try simp only [Act.put, List.getElem_toArray, List.getElem_cons_zero, List.getElem_cons_succ, List.setIfInBounds_toArray, List.set_cons_zero, List.set_cons_succ]
            refine wpAnyH_ready (rs := [13]) (by kernel_rfl) (by simp) ?_
            refine AllReadyH.cons rfl (fun KQ hKQ => ?_) AllReadyH.nil
            refine step_app rfl (.tmp 51) (.tmp 62) 27 rfl rfl (by rfl) HR5.out ?_
            refine hKQ.out _ _ ?_ (fun hHeld => ?_)
            · exact LQ
            clear hKQ KQ
            try simp only [Act.put, List.getElem_toArray, List.getElem_cons_zero, List.getElem_cons_succ, List.setIfInBounds_toArray, List.set_cons_zero, List.set_cons_succ]
            refine wpAnyH_take (i := 14) (v := ?v37) rfl (by kernel_rfl) (by kernel_rfl) (by kernel_rfl) (fun _ _ _ h => h) (Or.inl ⟨by rfl, ?hy37⟩) (by assumption) ?rest37
            case hy37 => (intro w0 hSw; (try dsimp only at hSw); go_simp; try with_reducible rfl)
            try simp only [Act.put, List.getElem_toArray, List.getElem_cons_zero, List.getElem_cons_succ, List.setIfInBounds_toArray, List.set_cons_zero, List.set_cons_succ]
            refine wpAnyH_done (by kernel_rfl) ?_ _
            change wpList _ _ _ _ _ _
            clear LP LQ hHeld e0 e1 e2 m2 mf
            go_wp2_with fail
            go_roundg gg
            case measure => omega
            case rel => exact ⟨i + 1, o2, 3 * gg, c' - 3, a5, c5, by have := HIG.out; omega, rfl, Lib.hid rfl, HO2, HC2, HX6, HO6, HR6, HB6⟩
end Go.Proofs.Ytknldabnkaecdaa.pip
