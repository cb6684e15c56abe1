/- What readRow answers at expressions and nodes, whatever reads the next one. -/
import Derived.Test.YtnelfokfgnikfaaDoorPkR
namespace Go.Proofs.YtnelfokfgnikfaaDoor.pk
set_option linter.unusedSimpArgs false
set_option linter.unusedVariables false
open Go.RowKit nam exp jb

/-- An expression, the slice of its Args. -/
abbrev ERow := Ex × Value
def eCells (c : ERow) : List Value := [.int .u8 (c.1.op : Int), .int .i64 c.1.n, c.2]
def flatE (l : List ERow) : List Value := l.flatMap eCells
theorem flatE_snoc (l : List ERow) (c : ERow) : flatE (l ++ [c]) = flatE l ++ eCells c := by simp [flatE]
theorem flatE_get : ∀ (l : List ERow) (i j : Nat) (h : i < l.length), j < 3 → (flatE l)[i * 3 + j]? = (eCells l[i])[j]?
  | [], i, j, h, hj => by simp at h
  | c :: l, 0, j, h, hj => by
    have e : flatE (c :: l) = eCells c ++ flatE l := rfl
    have e7 : (eCells c).length = 3 := rfl
    rw [e, List.getElem?_append_left (by omega)]
    simp
  | c :: l, i + 1, j, h, hj => by
    have e : flatE (c :: l) = eCells c ++ flatE l := rfl
    have e7 : (eCells c).length = 3 := rfl
    rw [e, List.getElem?_append_right (by omega), show (i + 1) * 3 + j - (eCells c).length = i * 3 + j by omega, flatE_get l i j (by simpa using h) hj]
    rfl
/-- The row of expressions that are had, all on blocks from H on. -/
def ERowsAt (H : Nat) (w : World) (v : Value) (rows : List ERow) : Prop :=
  lg.Row w 50 3 v rows.length (flatE rows) ∧ (∀ g, v.ownBlock = some g → H ≤ g) ∧ ∀ c ∈ rows, Lies w (fun b => H ≤ b ∧ v.ownBlock ≠ some b) c.2 c.1.args
theorem ERowsAt.nil (H : Nat) (w : World) : ERowsAt H w (.slice none 0 0) [] := ⟨lg.Row.nil _ _ _, fun g hg => by simp [Value.ownBlock] at hg, fun c hc => by cases hc⟩
theorem ERowsAt.leaves {H : Nat} {L : Lay} {w w' : World} {q : St} {v : Value} {rows : List ERow} (h : ERowsAt H w v rows) (hl : Leaves L w w') (hr : IsR w L q) (hM : L.M ≤ H) : ERowsAt H w' v rows :=
  ⟨hl.row hr h.1 (fun g hg => Nat.le_trans hM (h.2.1 g hg)), h.2.1, fun c hc => hl.lies hr (h.2.2 c hc)⟩
theorem ERowsAt.push {H g cap : Nat} {w w5 : World} {v : Value} {rows : List ERow} {c : ERow} {o : Obj} (h : ERowsAt H w v rows) (hHw : H ≤ w.heap.size) (hc : Lies w (fun b => H ≤ b ∧ v.ownBlock ≠ some b) c.2 c.1.args) (hg : (w.alloc o).grownBy w5 v.ownBlock)
    (hrow : lg.Row w5 50 3 (.slice (some ⟨g, 0, none⟩) (rows.length + 1) cap) (rows.length + 1) (flatE rows ++ eCells c)) (hat : v.ownBlock = some g ∨ g = (w.alloc o).heap.size) :
    ERowsAt H w5 (.slice (some ⟨g, 0, none⟩) (rows.length + 1) cap) (rows ++ [c]) := by
  have hbut := But.of_grown hg
  have key : ∀ {u : Value} {l : List Ex}, Lies w (fun b => H ≤ b ∧ v.ownBlock ≠ some b) u l → Lies w5 (fun b => H ≤ b ∧ (Value.slice (some ⟨g, 0, none⟩) (rows.length + 1) cap).ownBlock ≠ some b) u l := by
    intro u l hu
    refine (hu.here.frame (fun b c hb hbb => hbut.2 b hb.2 hb.1.2)).mono ?_
    rintro b ⟨⟨h1, h2⟩, h3⟩
    refine ⟨h1, fun e => ?_⟩
    simp only [Value.ownBlock, Option.some.injEq] at e
    subst e
    rcases hat with h4 | h4
    · exact h2 h4
    · rw [h4, World.size_alloc] at h3
      omega
  refine ⟨by rw [List.length_append, List.length_singleton, flatE_snoc]; exact hrow, fun g' hg' => ?_, fun d hd => ?_⟩
  · simp only [Value.ownBlock, Option.some.injEq] at hg'
    subst hg'
    rcases hat with h4 | h4
    · exact h.2.1 g h4
    · rw [h4, World.size_alloc]; omega
  · rcases List.mem_append.1 hd with hd | hd
    · exact key (h.2.2 d hd)
    · rw [List.mem_singleton.1 hd]
      exact key hc
theorem ERowsAt.lies {H : Nat} {w : World} {v : Value} {rows : List ERow} (h : ERowsAt H w v rows) : Lies w (fun b => H ≤ b) v (rows.map (·.1)) := by
  obtain ⟨⟨h0, h1⟩, h2, h3⟩ := h
  rcases h1 with ⟨rfl, hn⟩ | ⟨g, cap, cur, rfl, hg, hn, _, hs, ht⟩
  · rw [List.eq_nil_of_length_eq_zero hn]
    exact .nil
  · refine .row g _ cap cur _ (fun i => ((rows[i]?).getD default).2) (h2 g rfl) hg (by rw [List.length_map]) (fun i hi => ?_) (fun i hi => ?_)
    · have hi2 : i < rows.length := by simpa using hi
      have hget : ∀ j, j < 3 → cur[i * 3 + j]? = (eCells rows[i])[j]? := fun j hj => by
        rw [← flatE_get rows i j hi2 hj, ← ht, List.getElem?_take, if_pos (by omega)]
        simp
      rw [List.getElem_map, List.getElem?_eq_getElem hi2]
      exact ⟨hget 0 (by omega), hget 1 (by omega), hget 2 (by omega)⟩
    · have hi2 : i < rows.length := by simpa using hi
      rw [List.getElem_map, List.getElem?_eq_getElem hi2]
      exact (h3 _ (List.getElem_mem hi2)).mono fun b hb => hb.1
instance : Inhabited Value := ⟨.bool false⟩
theorem info_expr : (Tryd.prog.info? 50).map (fun i => (i.zero, i.size, i.bytes)) = some (some (.agg #[.int .u8 0, .int .i64 0, .slice none 0 0]), 3, 40) := by kernel_rfl
set_option maxHeartbeats 1600000 in
set_option maxRecDepth 1000000 in
theorem row_expr {w : World} {L : Lay} {q : St} {K : FuncId} {cp : Array Value} {f : St → Ex × St} (most : Int) (h0 : 0 ≤ most) (h12 : most ≤ 12) (h : IsR w L q) (hen : ∀ args w, (callFunc K args).run Tryd.prog w = .ok (.enter K args) w)
    (hK : 0 < most → ∀ q1 w1, IsR w1 L q1 → Leaves L w w1 → Calls Tryd.prog K cp w1 fun e w2 => ∃ va, e = .returned (exV (f q1).1 va) ∧ Lies w2 (fun b => w1.heap.size ≤ b) va (f q1).1.args ∧ RPost L w1 (f q1).2 w2) :
    Calls Tryd.prog 71 #[rdV L, .int .i64 most, .func (.func K) #[] cp] w fun e w' => ∃ v, e = .returned v ∧ Lies w' (fun b => w.heap.size ≤ b) v (rowO f (withinO most 3 q).1.toNat (withinO most 3 q).2).1 ∧ RPost L w (rowO f (withinO most 3 q).1.toNat (withinO most 3 q).2).2 w' := by
  obtain ⟨i0, hi, hz0, hz1, hz2⟩ := info_parts info_expr
  obtain ⟨W, hW⟩ : ∃ W, w.alloc (.cells #[numV L, withinV L, textV L, faultV L] 41) = W := ⟨_, rfl⟩
  have hwb : Below w.heap.size w W := by rw [← hW]; exact below_made _ _
  have c1 : W.cell? ⟨w.heap.size, 1, none⟩ = some (withinV L) := cell_of (box4 hW) rfl
  have HW := Lib.hid (within_any most 3 (h.under hwb))
  have HB := Lib.hid hwb
  have HK := Lib.hid hK; have HM := Lib.hid h.lM
  obtain ⟨n, hn⟩ : ∃ m : Nat, (withinO most 3 q).1.toNat = m := ⟨_, rfl⟩
  have hm := nat_back (most := most) (why := 3) (q := q) h0
  have hr := within_range (most := most) (why := 3) (q := q) h0
  rw [hn] at hm ⊢
  rw [← hm] at HW hr
  obtain ⟨q1, hq1⟩ : ∃ q1, (withinO most 3 q).2 = q1 := ⟨_, rfl⟩
  rw [hq1] at HW ⊢
  have hn12 : n ≤ 12 := by omega
  have hnm : (n : Int) ≤ most := hr.2
  unfold numV withinV textV faultV at *
  unfold rdV numV withinV textV faultV
  clear h hwb hm hr hn hq1 hK
  go_enter Tryd.func71, Tryd.ntmps71
  go_wp2_with fail
  refine HW.out.mono ?_
  rintro e w1 ⟨rfl, hp⟩
  have HP : Hid (RPost L w q1 w1) := Lib.hid ⟨hp.1, (Leaves.of_below HB.out).trans hp.2⟩
  clear hp
  go_wp2_with fail
  go_loopg [7, 12] n (fun g v7 v12 wr => ∃ (k : Nat) (rows : List ERow), k + g = n ∧ v12 = .int .i64 (k : Int) ∧ rows.length = k ∧ rows.map (·.1) = (rowO f k q1).1 ∧ ERowsAt w.heap.size wr v7 rows ∧ RPost L w (rowO f k q1).2 wr)
  case atStart => exact ⟨0, [], by omega, rfl, rfl, rfl, ERowsAt.nil _ _, HP.out⟩
  case round =>
    rename World => wr
    obtain ⟨k, rows, hk, rfl, hlen, hmap, hr, hp⟩ := hrel
    have HR := Lib.hid hr; have HQ := Lib.hid hp; have HMP := Lib.hid hmap; have HLN := Lib.hid hlen; clear hr hp hmap hlen
    by_cases hkn : k < n
    · have hki : (k : Int) < (n : Int) := by omega
      have HC := Lib.hid (HK.out (by omega) _ wr HQ.out.1 HQ.out.2)
      have HS := Lib.hid (rowO_snoc (f := f) k q1)
      obtain ⟨l, hl⟩ : ∃ l, (rowO f k q1).1 = l := ⟨_, rfl⟩
      obtain ⟨qk, hqk⟩ : ∃ qk, (rowO f k q1).2 = qk := ⟨_, rfl⟩
      rw [hl] at HMP HS
      rw [hqk] at HQ HC HS
      obtain ⟨x, hx⟩ : ∃ x, (f qk).1 = x := ⟨_, rfl⟩
      obtain ⟨qj, hqj⟩ : ∃ qj, (f qk).2 = qj := ⟨_, rfl⟩
      rw [hx, hqj] at HC HS
      clear hl hqk hx hqj
      go_wp2_with fail
      refine HC.out.mono ?_
      rintro e w2 ⟨va, rfl, hla, hp2⟩
      have HO := Lib.hid (HR.out.leaves hp2.2 HQ.out.1 HM.out)
      have HL := Lib.hid (HQ.out.2.trans hp2.2)
      have HI := Lib.hid hp2.1
      obtain ⟨aa, ca, rfl, -⟩ := hla.form
      have HLA : Hid (Lies w2 (fun b => w.heap.size ≤ b ∧ u7.ownBlock ≠ some b) (.slice aa x.args.length ca) x.args) := Lib.hid (hla.mono fun b hb => ⟨by have := HQ.out.2.size; omega, fun e => by have := HR.out.1.lt e; omega⟩)
      have HSZ : Hid (∀ o, w.heap.size ≤ (w2.alloc o).heap.size) := Lib.hid (fun o => by rw [World.size_alloc]; have := HL.out.size; omega)
      have HRW : Hid (∀ o, lg.Row (w2.alloc o) 50 3 u7 k (flatE rows)) := Lib.hid (fun o => by have h1 := HO.out.1.below (below_made w2 o); rw [HLN.out] at h1; exact h1)
      clear hp2 hla
      unfold exV
      go_wp2_with (at_builtin; refine lg.wpList_append_row _ rfl (.tmp 14) (.tmp 17) 48 rfl 50 i0 (.agg #[.int .u8 0, .int .i64 0, .slice none 0 0]) 3 40 Tryd.underlying48 hi hz0 hz1 hz2 rfl (by decide) _ _ _ rfl (HRW.out _) ⟨_, 0, none⟩ 1 1 [.int .u8 (x.op : Int), .int .i64 x.n, .slice aa x.args.length ca] rfl rfl (cells_new _ [.int .u8 (x.op : Int), .int .i64 x.n, .slice aa x.args.length ca] _) (by simp [Value.oneCell']) (by decide) (by unfold maxLen; omega) (by omega) _ rfl ?_)
      intro gb cap w3 k4 g4 hat _
      have HG := Lib.hid (grown_leaves HI.out HM.out HL.out.size g4 (fun j hj => HO.out.2.1 j hj))
      have HO2 : Hid (ERowsAt w.heap.size w3 (.slice (some ⟨gb, 0, none⟩) (k + 1) cap) (rows ++ [(x, .slice aa x.args.length ca)])) := Lib.hid (by
        have h1 := HO.out.push (c := (x, .slice aa x.args.length ca)) (g := gb) (cap := cap) (w5 := w3) HL.out.size HLA.out g4 (by rw [HLN.out]; exact k4) (by rw [World.size_alloc]; exact hat)
        rw [HLN.out] at h1
        exact h1)
      clear k4 g4 hat
      go_wp2
      go_roundg (gk - 1)
      case rel => exact ⟨k + 1, rows ++ [(x, .slice aa x.args.length ca)], by omega, by go_num, by simp [HLN.out], by rw [HS.out, List.map_append, HMP.out]; rfl, HO2.out, by rw [HS.out]; exact HG.out.1, HL.out.then HG.out.2⟩
      case measure => omega
    · have hki : ¬ (k : Int) < (n : Int) := by omega
      obtain rfl : k = n := by omega
      have HE : Hid (Lies wr (fun b => w.heap.size ≤ b) u7 (rowO f k q1).1) := Lib.hid (by rw [← HMP.out]; exact HR.out.lies)
      clear hkn
      go_wp2_with fail
      try rw [Exit.noGoto_ret]
      go_ret
      exact ⟨_, rfl, HE.out, HQ.out⟩
end Go.Proofs.YtnelfokfgnikfaaDoor.pk
