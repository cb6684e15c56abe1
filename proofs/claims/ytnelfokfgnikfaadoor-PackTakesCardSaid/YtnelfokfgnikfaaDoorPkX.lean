/- What withExpr answers. -/
import Derived.Test.YtnelfokfgnikfaaDoorPkS
namespace Go.Proofs.YtnelfokfgnikfaaDoor.pk
set_option linter.unusedSimpArgs false
set_option linter.unusedVariables false
open Go.RowKit nam exp jb

/-- A row of numbers that is owned. -/
def RowN (w : World) (v : Value) (l : List Int) : Prop := lg.Row w 2 1 v l.length (l.map byt.intV)
/-- v' is v's row, or a newer one. -/
def Newer (w : World) (v v' : Value) : Prop := ∀ g, v'.ownBlock = some g → v.ownBlock = some g ∨ w.heap.size ≤ g
theorem grown_trans {w w1 w2 : World} {v v1 v2 : Value} (h : w.grownBy w1 v.ownBlock) (hn : Newer w v v1) (h2 : w1.grownBy w2 v1.ownBlock) (hn2 : Newer w1 v1 v2) : w.grownBy w2 v.ownBlock ∧ Newer w v v2 := by
  refine ⟨⟨h2.os.trans h.os, h2.tape.trans h.tape, h2.output.trans h.output, Nat.le_trans h.size h2.size, fun k hk hne => ?_⟩, fun g hg => ?_⟩
  · rw [h2.block k (Nat.lt_of_lt_of_le hk h.size) ?_, h.block k hk hne]
    intro e
    rcases hn k e.symm with h3 | h3
    · exact hne h3.symm
    · omega
  · rcases hn2 g hg with h3 | h3
    · exact hn g h3
    · exact .inr (Nat.le_trans h.size h3)
theorem grown_alloc {w w1 : World} {o : Obj} {row : Option Nat} (h : (w.alloc o).grownBy w1 row) : w.grownBy w1 row :=
  ⟨h.os, h.tape, h.output, by have := h.size; rw [World.size_alloc] at this; omega, fun k hk hne => (h.block k (by rw [World.size_alloc]; omega) hne).trans (Below.heap_alloc _ _ _ hk)⟩
theorem grown_lies {w w1 : World} {v : Value} {n : Nat} {xs : List Value} {B : Nat → Prop} {u : Value} {l : List Ex} (h : w.grownBy w1 v.ownBlock) (hr : lg.Row w 2 1 v n xs) (hl : Lies w B u l) : Lies w1 B u l :=
  hl.frame fun b c hb hc => h.block b (Array.getElem?_eq_some_iff.1 hc).1 (fun e => by
    obtain ⟨cur, hk⟩ := hr.kind e.symm
    rw [hc] at hk
    simp only [Option.some.injEq, Obj.cells.injEq] at hk
    exact absurd hk.2.1 (by decide))
theorem grown_cells {w w1 : World} {v : Value} {n : Nat} {xs : List Value} {b : Nat} {c : Array Value} {t : TypeId} {fr : Nat × Nat} (h : w.grownBy w1 v.ownBlock) (hr : lg.Row w 2 1 v n xs) (hb : w.heap[b]? = some (.cells c t fr)) (ht : t ≠ 2) : w1.heap[b]? = some (.cells c t fr) := by
  rw [h.block b (Array.getElem?_eq_some_iff.1 hb).1 ?_]
  · exact hb
  · intro e
    obtain ⟨cur, hk⟩ := hr.kind e.symm
    rw [hb] at hk
    simp only [Option.some.injEq, Obj.cells.injEq] at hk
    exact ht hk.2.1
theorem grown_below {w W w1 : World} {row : Option Nat} (h : Below w.heap.size w W) (hg : W.grownBy w1 row) : w.grownBy w1 row :=
  ⟨hg.os.trans h.os, hg.tape.trans h.tape, hg.output.trans h.output, Nat.le_trans h.size hg.size, fun k hk hne => (hg.block k (Nat.lt_of_lt_of_le hk h.size) hne).trans (h.block k hk)⟩
theorem sizes_take_le : ∀ (l : List Ex) (k : Nat) (hk : k < l.length), sizes (l.take k) + (l[k]).size ≤ sizes l
  | [], k, hk => by simp at hk
  | x :: l, 0, hk => by simp [sizes_cons, sizes_nil]
  | x :: l, k + 1, hk => by
    have := sizes_take_le l k (by simpa using hk)
    simp only [List.take_succ_cons, sizes_cons, List.getElem_cons_succ]
    omega
/-- What withExpr leaves. -/
def WithPost (w : World) (v : Value) (l : List Int) (e : Ending) (w' : World) : Prop := ∃ v', e = .returned v' ∧ RowN w' v' l ∧ w.grownBy w' v.ownBlock ∧ Newer w v v'
theorem info2 : (Tryd.prog.info? 2).map (fun i => (i.zero, i.size, i.bytes)) = some (some (.int .i64 0), 1, 8) := by kernel_rfl
theorem row_cut {v : Value} {w : World} {n : Nat} {xs : List Value} (h : lg.Row w 2 1 v n xs) : ∃ a c, v = .slice a n c := h.len
set_option maxHeartbeats 1600000 in
set_option maxRecDepth 1000000 in
theorem with_any : ∀ (s : Nat), s ≤ 100000 → ∀ (x : Ex), x.size ≤ s → ∀ (va v : Value) (l : List Int) (w : World), l.length + 3 * x.size ≤ 1000000 → (∀ m ∈ exN x, byt.fits m) → Lies w Any va x.args → RowN w v l →
    Calls Tryd.prog 49 #[v, exV x va] w (WithPost w v (l ++ exN x)) := by
  obtain ⟨i0, hi, hz0, hz1, hz2⟩ := info_parts info2
  intro s
  induction s with
  | zero => intro _ x hx; have := size_pos x; omega
  | succ s ih =>
    intro hs x hx va v l w hlen hfit hla hrow
    have hop : (x.op : Int) ≤ 9223372036854775807 := (hfit x.op (by rw [exN_eq]; simp)).2
    have hop0 : (0 : Int) ≤ (x.op : Int) := by omega
    have HFA : Hid (∀ k (hk : k < x.args.length), ∀ m ∈ exN x.args[k], byt.fits m) := Lib.hid (fun k hk m hm => hfit m (by rw [exN_eq]; exact List.mem_cons_of_mem _ (List.mem_cons_of_mem _ (List.mem_cons_of_mem _ (exNs_mem (List.getElem_mem hk) m hm)))))
    clear hfit
    obtain ⟨N, hN⟩ : ∃ N, w.heap.size = N := ⟨_, rfl⟩
    obtain ⟨aa, ca, rfl, -⟩ := hla.form
    obtain ⟨W, hW⟩ : ∃ W, w.alloc (.cells #[.int .u8 (x.op : Int), .int .i64 x.n, .slice aa x.args.length ca] 50) = W := ⟨_, rfl⟩
    have hwb : Below w.heap.size w W := by rw [← hW]; exact below_made _ _
    obtain ⟨c0, c1, c2⟩ := box_cells hW
    rw [hN] at c0 c1 c2
    have HW := Lib.hid hwb; have HNN := Lib.hid hN
    have HWS : Hid (W.heap.size = N + 1) := Lib.hid (by rw [← hW, ← hN]; simp)
    have HRW : Hid (RowN W v l) := Lib.hid (hrow.below hwb)
    have HLW : Hid (Lies W Any (.slice aa x.args.length ca) x.args) := Lib.hid (hla.under hwb)
    have hxl : x.args.length < x.size := by rw [size_eq x]; have := sizes_len x.args; omega
    have HEX := Lib.hid (exN_eq x)
    have HXB : Hid (W.heap[N]? = some (.cells #[.int .u8 (x.op : Int), .int .i64 x.n, .slice aa x.args.length ca] 50 (0, 0))) := Lib.hid (by rw [← hW]; exact heap_last hN.symm)
    have HLO : Hid (Lies w Any (.slice aa x.args.length ca) x.args) := Lib.hid hla
    have HRO : Hid (lg.Row w 2 1 v l.length (l.map byt.intV)) := Lib.hid hrow
    unfold exV
    clear hwb hla hrow
    go_enter Tryd.func49, Tryd.ntmps49
    go_upto_region 1 with fail
    have HRA : Hid (∀ o, lg.Row (W.alloc o) 2 1 v l.length (l.map byt.intV)) := Lib.hid (fun o => lg.Row.below (w := W) HRW.out (below_made W o))
    go_wp2_with (at_builtin; refine lg.wpList_append_row _ rfl (.tmp 7) (.tmp 16) 57 rfl 2 i0 (.int .i64 0) 1 8 Tryd.underlying57 hi hz0 hz1 hz2 rfl (by decide) _ _ _ rfl (HRA.out _) ⟨_, 0, none⟩ 3 3 [.int .i64 (x.op : Int), .int .i64 x.n, .int .i64 (x.args.length : Int)] rfl rfl (cells_new _ [.int .i64 (x.op : Int), .int .i64 x.n, .int .i64 (x.args.length : Int)] _) (by simp [Value.oneCell']) (by decide) (by unfold maxLen; omega) (by omega) _ rfl ?_)
    intro gb cap w1 k1 g1 hat hlt
    obtain ⟨v1, hv1⟩ : ∃ v1, Value.slice (some ⟨gb, 0, none⟩) (l.length + 3) cap = v1 := ⟨_, rfl⟩
    have HL1 : Hid ((l ++ [(x.op : Int), x.n, (x.args.length : Int)]).length = l.length + 3) := Lib.hid (by simp)
    have HR1 : Hid (RowN w1 v1 (l ++ [(x.op : Int), x.n, (x.args.length : Int)])) := Lib.hid (by
      unfold RowN
      rw [HL1.out, ← hv1]
      simpa [byt.intV] using k1)
    have HG1 : Hid (w.grownBy w1 v.ownBlock ∧ Newer w v v1) := Lib.hid (by
      refine ⟨grown_below HW.out (grown_alloc g1), fun g hg => ?_⟩
      rw [← hv1] at hg
      simp only [Value.ownBlock, Option.some.injEq] at hg
      subst hg
      rcases hat with h1 | h1
      · exact .inl h1
      · right; have := HWS.out; have := HNN.out; omega)
    have HXB1 : Hid (w1.heap[N]? = some (.cells #[.int .u8 (x.op : Int), .int .i64 x.n, .slice aa x.args.length ca] 50 (0, 0))) := Lib.hid (grown_cells (grown_alloc g1) HRW.out HXB.out (by decide))
    rw [hv1]
    clear k1 g1 hat hlt hv1
    have e2 : w1.cell? ⟨N, 2, none⟩ = some (.slice aa x.args.length ca) := cell_of (HXB1.out) rfl
    have HSZ : Hid (∀ k (hk : k < x.args.length), (l ++ [(x.op : Int), x.n, (x.args.length : Int)] ++ exNs (x.args.take k)).length + 3 * (x.args[k]).size ≤ 1000000 ∧ (x.args[k]).size ≤ s) := Lib.hid (fun k hk => by
      have h1 := exNs_len_of (l := x.args.take k) (fun y _ => exN_len y)
      have h2 := sizes_take_le x.args k hk
      have h3 := size_eq x
      have h4 := size_arg (List.getElem_mem hk)
      rw [List.length_append, HL1.out, h1]
      omega)
    have HAR : Hid (∀ wr, w.grownBy wr v.ownBlock → Lies wr Any (.slice aa x.args.length ca) x.args) := Lib.hid (fun wr hg => grown_lies hg HRO.out HLO.out)
    have HXL : Hid ((x.args.length : Int) ≤ 1000000) := Lib.hid (by omega)
    clear hxl c0 c1 c2 hW hN
    go_wp2_with fail
    go_loopg [0, 21] x.args.length (fun g v0 v21 wr => ∃ k : Nat, k + g = x.args.length ∧ v21 = .int .i64 (k : Int) ∧ RowN wr v0 (l ++ [(x.op : Int), x.n, (x.args.length : Int)] ++ exNs (x.args.take k)) ∧ w.grownBy wr v.ownBlock ∧ Newer w v v0)
    case atStart => exact ⟨0, by omega, rfl, by simpa [exNs_nil] using HR1.out, HG1.out⟩
    case round =>
      rename World => wr
      obtain ⟨k, hk, rfl, hr, hg, hnw⟩ := hrel
      have HR := Lib.hid hr; have HG := Lib.hid (And.intro hg hnw)
      by_cases hk' : k < x.args.length
      · have hkn : (k : Int) < (x.args.length : Int) := by omega
        have hkb : (x.args.length : Int) ≤ 1000000 := HXL.out
        have hlw := HAR.out wr hg
        obtain ⟨a', c', he, hex⟩ := hlw.form
        obtain ⟨b1, hb1, hat⟩ := hex (by omega)
        obtain rfl : aa = some ⟨b1, 0, none⟩ := by simp only [Value.slice.injEq] at he; rw [he.1, hb1]
        obtain ⟨a1, d1, p0, p1, p2, hlp, -⟩ := (hat k hk').cells
        obtain ⟨hs1, hs2⟩ := HSZ.out k hk'
        have hf1 := HFA.out k hk'
        have hTK := exNs_take hk'
        obtain ⟨X, hX⟩ : ∃ X, x.args[k] = X := ⟨_, rfl⟩
        rw [hX] at p0 p1 p2 hlp hs1 hs2 hf1 hTK
        obtain ⟨L0, hL0⟩ : ∃ L0, l ++ [(x.op : Int), x.n, (x.args.length : Int)] ++ exNs (x.args.take k) = L0 := ⟨_, rfl⟩
        have HL0 : Hid (l ++ [(x.op : Int), x.n, (x.args.length : Int)] ++ exNs (x.args.take (k + 1)) = L0 ++ exN X) := Lib.hid (by rw [hTK, ← hL0]; simp only [List.append_assoc])
        rw [hL0] at HR hs1
        obtain ⟨W2, hW2⟩ : ∃ W2, wr.alloc (.cells #[.int .u8 (X.op : Int), .int .i64 X.n, .slice a1 X.args.length d1] 50) = W2 := ⟨_, rfl⟩
        have hwb2 : Below wr.heap.size wr W2 := by rw [← hW2]; exact below_made _ _
        obtain ⟨c0, c1, c2⟩ := box_cells hW2
        have HC := Lib.hid (ih (by omega) X hs2 _ u0 L0 W2 (by omega) hf1 (hlp.under hwb2) (HR.out.below hwb2))
        unfold exV at HC
        have HW2 := Lib.hid hwb2
        clear hr hg hnw hlw he hb1 hat hlp hs1 hs2 hf1 hTK hX hL0 hwb2
        go_wp2_with fail
        refine HC.out.mono ?_
        rintro e w3 ⟨v', rfl, hr3, hg3, hn3⟩
        have HR3 := Lib.hid hr3
        have HG3 := Lib.hid (grown_trans HG.out.1 HG.out.2 (grown_below HW2.out hg3) (fun g hg => (hn3 g hg).imp id (fun h => Nat.le_trans HW2.out.size h)))
        clear hr3 hg3 hn3
        go_wp2_with fail
        go_roundg (gk - 1)
        case measure => omega
        case rel => exact ⟨k + 1, by omega, by go_num, by rw [HL0.out]; exact HR3.out, HG3.out⟩
      · have hkn : ¬ (k : Int) < (x.args.length : Int) := by omega
        have HE : Hid (RowN wr u0 (l ++ exN x)) := Lib.hid (by
          rw [HEX.out]
          have htk : x.args.take k = x.args := List.take_of_length_le (by omega)
          rw [htk] at hr
          simpa using hr)
        clear hr hg hnw
        go_wp2_with fail
        try rw [Exit.noGoto_ret]
        go_ret
        exact ⟨_, rfl, HE.out, HG.out⟩
end Go.Proofs.YtnelfokfgnikfaaDoor.pk
