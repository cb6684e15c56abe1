/- What readExpr answers. -/
import Derived.Test.YtnelfokfgnikfaaDoorPkT
import Derived.Deep.RegionHeld3
import Derived.Deep.DeepCutAuto
import Derived.Test.YtnelfokfgnikfaaDoorDkR
namespace Go.Proofs.YtnelfokfgnikfaaDoor.pk
set_option linter.unusedSimpArgs false
set_option linter.unusedVariables false
open Go.RowKit nam exp jb
attribute [local go_sem ↓] Go.wp_at_zero Go.wp_at_succ

/-- The reader, as its box holds it. -/
def BoxR (w : World) (L : Lay) (N : Nat) : Prop := w.heap[N]? = some (.cells #[numV L, withinV L, textV L, faultV L] 41 (0, 0)) ∧ L.M ≤ N
theorem BoxR.leaves {L : Lay} {w w' : World} {q : St} {N : Nat} (h : BoxR w L N) (hl : Leaves L w w') (hr : IsR w L q) : BoxR w' L N := ⟨hl.ty hr h.1 (by decide) (by decide), h.2⟩
theorem BoxR.under {L : Lay} {w w' : World} {N : Nat} (h : BoxR w L N) (hb : Below w.heap.size w w') : BoxR w' L N := ⟨(hb.block _ (Array.getElem?_eq_some_iff.1 h.1).1).trans h.1, h.2⟩
/-- The reader's four closures, loaded. -/
def Four (L : Lay) (N : Nat) (w : World) : Prop := w.cell? ⟨N, 0, none⟩ = some (.func (.func 35) #[] #[ptr L.f, ptr L.s, ptr L.a]) ∧ w.cell? ⟨N, 1, none⟩ = some (.func (.func 37) #[] #[ptr L.n, ptr L.f]) ∧
  w.cell? ⟨N, 2, none⟩ = some (.func (.func 38) #[] #[ptr L.f, ptr L.s, ptr L.a]) ∧ w.cell? ⟨N, 3, none⟩ = some (.func (.func 40) #[] #[ptr L.f])
theorem BoxR.four {L : Lay} {w : World} {N : Nat} (h : BoxR w L N) : Four L N w := ⟨cell_of h.1 rfl, cell_of h.1 rfl, cell_of h.1 rfl, cell_of h.1 rfl⟩
/-- What a call that reads, made at a world that stands on, leaves of what stood: the reader, its box, the blocks of the caller's own. -/
structure On (L : Lay) (N : Nat) (w0 : World) (q : St) (w : World) : Prop where
  rd : IsR w L q
  box : BoxR w L N
  lv : Leaves L w0 w
theorem On.call {L : Lay} {N : Nat} {w0 w w' : World} {q q' : St} (h : On L N w0 q w) (hp : RPost L w q' w') : On L N w0 q' w' := ⟨hp.1, h.box.leaves hp.2 h.rd, h.lv.trans hp.2⟩
theorem On.made {L : Lay} {N : Nat} {w0 w : World} {q : St} (h : On L N w0 q w) (o : Obj) : On L N w0 q (w.alloc o) := ⟨h.rd.under (below_made _ _), h.box.under (below_made _ _), h.lv.trans (Leaves.of_below (below_made _ _))⟩
theorem On.drew {L : Lay} {N : Nat} {w0 w : World} {q : St} (h : On L N w0 q w) : On L N w0 q w.drew := ⟨h.rd.under (Below.refl _ _).drew, h.box.under (Below.refl _ _).drew, h.lv.trans (Leaves.of_below (Below.refl _ _).drew)⟩
theorem On.put {L : Lay} {N b j : Nat} {w0 w : World} {q : St} {z : Value} (h : On L N w0 q w) (hb : w0.heap.size ≤ b) (hN : N < b) : On L N w0 q (w.setCell ⟨b, j, none⟩ z) := by
  have hB : Below b w (w.setCell ⟨b, j, none⟩ z) := (Below.refl b w).setCell (p := ⟨b, j, none⟩) (Nat.le_refl _) _
  have hM := h.box.2
  exact ⟨h.rd.on (hB.mono (by omega)), ⟨(hB.block _ hN).trans h.box.1, h.box.2⟩, h.lv.then (hB.mono hb)⟩
theorem RPost.put {L : Lay} {w w' : World} {q : St} {b j : Nat} {z : Value} (h : RPost L w q w') (hM : L.M ≤ w.heap.size) (hb : w.heap.size ≤ b) : RPost L w q (w'.setCell ⟨b, j, none⟩ z) := by
  have hB : Below w.heap.size w' (w'.setCell ⟨b, j, none⟩ z) := (Below.refl _ w').setCell (p := ⟨b, j, none⟩) hb _
  exact ⟨h.1.on (hB.mono hM), h.2.then hB⟩
theorem Lies.put {w : World} {B : Nat → Prop} {v : Value} {l : List Ex} {b j : Nat} {z : Value} (h : Lies w B v l) (hB : ∀ k, B k → k ≠ b) : Lies (w.setCell ⟨b, j, none⟩ z) B v l :=
  h.frame fun k c hk _ => Below.heap_setCell _ _ _ _ (hB k hk)
theorem lies_put3 {w : World} {B : Nat → Prop} {v : Value} {l : List Ex} {b : Nat} {x y z : Value} (h : Lies w B v l) (hB : ∀ k, B k → k ≠ b) : Lies (((w.setCell ⟨b, 0, none⟩ x).setCell ⟨b, 1, none⟩ y).setCell ⟨b, 2, none⟩ z) B v l := Lies.put (Lies.put (Lies.put h hB) hB) hB
/-- What readExpr leaves. -/
def ExprPost (L : Lay) (w : World) (x : Ex) (q' : St) (e : Ending) (w' : World) : Prop := ∃ va, e = .returned (exV x va) ∧ Lies w' (fun b => w.heap.size ≤ b) va x.args ∧ RPost L w q' w'
abbrev zeroE : Obj := .cells #[.int .u8 0, .int .i64 0, .slice none 0 0] 50
/-- An expression's block. -/
theorem set3 {w : World} {b : Nat} {x y z x' y' z' : Value} {t : TypeId} (h : w.heap[b]? = some (.cells #[x, y, z] t (0, 0))) : (((w.setCell ⟨b, 0, none⟩ x').setCell ⟨b, 1, none⟩ y').setCell ⟨b, 2, none⟩ z').heap[b]? = some (.cells #[x', y', z'] t (0, 0)) := setCell_heap (setCell_heap (setCell_heap h))
theorem cells3 {w : World} {b : Nat} {x y z : Value} {t : TypeId} (h : w.heap[b]? = some (.cells #[x, y, z] t (0, 0))) : w.cell? ⟨b, 0, none⟩ = some x ∧ w.cell? ⟨b, 1, none⟩ = some y ∧ w.cell? ⟨b, 2, none⟩ = some z ∧
    w.frozen? ⟨b, 0, none⟩ = false ∧ w.frozen? ⟨b, 1, none⟩ = false ∧ w.frozen? ⟨b, 2, none⟩ = false :=
  ⟨cell_of h rfl, cell_of h rfl, cell_of h rfl, by simp [World.frozen?, h], by simp [World.frozen?, h], by simp [World.frozen?, h]⟩
set_option maxHeartbeats 800000 in
set_option maxRecDepth 1000000 in
theorem expr1_any {l : Nat} (hl : 1 ≤ l) (h17 : l ≤ 17) (ih : ∀ w L q, IsR w L q → Calls Tryd.prog 62 #[rdV L, .int .i64 (l : Int)] w (ExprPost L w (exprO l q).1 (exprO l q).2))
    {w : World} {L : Lay} {q : St} {N N2 : Nat} (h : IsR w L q) (hb : BoxR w L N) (hn : w.cell? ⟨N2, 0, none⟩ = some (.int .i64 ((l : Int) + 1))) :
    Calls Tryd.prog 72 #[ptr N, ptr N2] w (ExprPost L w (exprO l q).1 (exprO l q).2) := by
  obtain ⟨W, hW⟩ : ∃ W, w.alloc zeroE = W := ⟨_, rfl⟩
  have hwb : Below w.heap.size w W := by rw [← hW]; exact below_made _ _
  have HB := Lib.hid hwb; have HMM := Lib.hid h.lM
  have HZ : Hid (W.heap[w.heap.size]? = some (.cells #[.int .u8 0, .int .i64 0, .slice none 0 0] 50 (0, 0))) := Lib.hid (by rw [← hW]; exact heap_last rfl)
  obtain ⟨c0, c1, c2, c3⟩ := (hb.under hwb).four
  have cn := cell_on hn hwb
  have HC := Lib.hid (ih W L q (h.under hwb))
  have HR := Lib.hid (h.under hwb)
  obtain ⟨x, hx⟩ : ∃ x, (exprO l q).1 = x := ⟨_, rfl⟩
  obtain ⟨q1, hq1⟩ : ∃ q1, (exprO l q).2 = q1 := ⟨_, rfl⟩
  rw [hx, hq1] at HC ⊢
  have hl1 : (l : Int) + 1 - 1 = (l : Int) := by omega
  unfold rdV numV withinV textV faultV at HC
  clear h hb hn hwb hx hq1 ih
  go_enter Tryd.func72, Tryd.ntmps72
  go_wp2_with fail
  refine HC.out.mono ?_
  rintro e w1 ⟨va, rfl, hla, hp⟩
  obtain ⟨aa, ca, rfl, -⟩ := hla.form
  have HP := Lib.hid hp; have HL := Lib.hid hla
  have HZ1 := Lib.hid (hp.2.ty HR.out HZ.out (by decide) (by decide))
  obtain ⟨z0, z1, z2, f0, f1, f2⟩ := cells3 HZ1.out
  obtain ⟨M, hM⟩ : ∃ M, w.heap.size = M := ⟨_, rfl⟩
  rw [hM] at z0 z1 z2 f0 f1 f2 ⊢
  clear hp hla
  unfold exV
  go_wp2_with fail
  obtain ⟨e0, e1, e2, -, -, -⟩ := cells3 (set3 (x' := .int .u8 (x.op : Int)) (y' := .int .i64 x.n) (z' := .slice aa x.args.length ca) HZ1.out)
  rw [hM] at e0 e1 e2
  have hM2 := HR.out.lM
  have hWs : W.heap.size = M + 1 := by rw [← hW, ← hM]; simp
  have hRP : RPost L w q1 w1 := ⟨HP.out.1, (Leaves.of_below HB.out).trans HP.out.2⟩
  refine bodyPost_ret (v := .agg #[.int .u8 (x.op : Int), .int .i64 x.n, .slice aa x.args.length ca]) (by simp [results, Tryd.f72, go_sem, e0, e1, e2]) rfl ⟨_, rfl, ?_, ?_⟩
  · exact (lies_put3 HL.out (fun b hb => by have hb' : W.heap.size ≤ b := hb; omega)).mono fun b hb => by have hb' : W.heap.size ≤ b := hb; rw [hM]; omega
  · exact ((hRP.put HMM.out (by omega)).put HMM.out (by omega)).put HMM.out (by omega)

theorem On.stays {L : Lay} {N : Nat} {w0 w w' : World} {q : St} (h : On L N w0 q w) (hl : Leaves L w w') {b : Nat} {c : Array Value} {t : TypeId} {fr : Nat × Nat} (hb : w.heap[b]? = some (.cells c t fr)) (h3 : t ≠ 3) (hf : t ≠ 25) : w'.heap[b]? = some (.cells c t fr) := hl.ty h.rd hb h3 hf
set_option maxHeartbeats 3200000 in
set_option maxRecDepth 1000000 in
theorem expr_any : ∀ (l : Nat), 1 ≤ l → l ≤ 17 → ∀ (w : World) (L : Lay) (q : St), IsR w L q → Calls Tryd.prog 62 #[rdV L, .int .i64 (l : Int)] w (ExprPost L w (exprO l q).1 (exprO l q).2)
  | 0, h, _ => absurd h (by omega)
  | l + 1, _, h17 => by
    intro w L q h
    have IH : Hid (1 ≤ l → ∀ (w : World) (L : Lay) (q : St), IsR w L q → Calls Tryd.prog 62 #[rdV L, .int .i64 (l : Int)] w (ExprPost L w (exprO l q).1 (exprO l q).2)) := Lib.hid (fun h1 => expr_any l h1 (by omega))
    obtain ⟨W, hW⟩ : ∃ W, ((w.alloc (.cells #[numV L, withinV L, textV L, faultV L] 41)).alloc (.cells #[.int .i64 ((l : Int) + 1)] 3)).alloc zeroE = W := ⟨_, rfl⟩
    obtain ⟨N, hN⟩ : ∃ N, w.heap.size = N := ⟨_, rfl⟩
    have hwb : Below w.heap.size w W := by rw [← hW]; exact (((below_made w _).alloc (by simp) _).alloc (by simp; omega) _)
    have hWs : W.heap.size = N + 1 + 1 + 1 := by rw [← hW, ← hN]; simp
    have hb0 : W.heap[N]? = some (.cells #[numV L, withinV L, textV L, faultV L] 41 (0, 0)) := by rw [← hW]; exact heap_old (heap_old (heap_last hN.symm))
    have hb1 : W.heap[N + 1]? = some (.cells #[.int .i64 ((l : Int) + 1)] 3 (0, 0)) := by rw [← hW]; exact heap_old (heap_last (by simp [hN]))
    have hb2 : W.heap[N + 1 + 1]? = some (.cells #[.int .u8 0, .int .i64 0, .slice none 0 0] 50 (0, 0)) := by rw [← hW]; exact heap_last (by simp [hN])
    have HB := Lib.hid hwb; have HLM := Lib.hid h.lM
    have HO0 : Hid (On L N W q W) := Lib.hid ⟨h.under hwb, ⟨hb0, by rw [← hN]; exact h.lM⟩, Leaves.refl _ _⟩
    have HB1 := Lib.hid hb1; have HB2 := Lib.hid hb2
    have HNW : Hid (∀ b, W.heap.size ≤ b → N < b) := Lib.hid (fun b hb => by omega)
    have HW := Lib.hid hWs
    have HE : Hid (exprO (l + 1) q = _) := Lib.hid (by rw [exprO])
    obtain ⟨m, hm⟩ : ∃ m : Nat, (withinO 255 2 q).1.toNat = m := ⟨_, rfl⟩
    have hmi := nat_back (most := 255) (why := 2) (q := q) (by omega)
    have hmr := within_range (most := 255) (why := 2) (q := q) (by omega)
    rw [hm] at hmi
    have HBY : Hid (∀ w', On L N W q w' → Calls Tryd.prog 59 #[rdV L] w' fun e w'' => e = .returned (.int .u8 (m : Int)) ∧ RPost L w' (withinO 255 2 q).2 w'') := Lib.hid (fun w' h1 => by have := byte_any h1.rd; rw [← hmi] at this; exact this)
    obtain ⟨q1, hq1⟩ : ∃ q1, (withinO 255 2 q).2 = q1 := ⟨_, rfl⟩
    rw [hq1] at HBY
    have HNU : Hid (∀ w', On L N W q1 w' → Calls Tryd.prog 35 #[ptr L.f, ptr L.s, ptr L.a] w' fun e w'' => e = .returned (.int .i64 (numO q1).1) ∧ RPost L w' (numO q1).2 w'') := Lib.hid (fun w' h1 => num_any h1.rd)
    obtain ⟨n, hn⟩ : ∃ n, (numO q1).1 = n := ⟨_, rfl⟩
    obtain ⟨q2, hq2⟩ : ∃ q2, (numO q1).2 = q2 := ⟨_, rfl⟩
    rw [hn, hq2] at HNU
    rw [hm, hq1, hn, hq2] at HE
    obtain ⟨most, hmost⟩ : ∃ most : Int, (if l = 0 then 0 else 3) = most := ⟨_, rfl⟩
    rw [hmost] at HE
    have HMO := Lib.hid hmost
    obtain ⟨l', hl'⟩ : ∃ l', (rowO (exprO l) (withinO most 3 q2).1.toNat (withinO most 3 q2).2).1 = l' := ⟨_, rfl⟩
    obtain ⟨q4, hq4⟩ : ∃ q4, (rowO (exprO l) (withinO most 3 q2).1.toNat (withinO most 3 q2).2).2 = q4 := ⟨_, rfl⟩
    rw [hl', hq4] at HE
    have HL4 := Lib.hid (And.intro hl' hq4)
    have hen1 := enters1
    rw [HE.out]
    unfold rdV numV withinV textV faultV at HBY
    unfold rdV numV withinV textV faultV
    unfold numV withinV textV faultV at hW
    have HWW := Lib.hid hW
    have HNN := Lib.hid hN
    clear h hwb hb0 hb1 hb2 hWs hm hmi hmr hq1 hn hq2 hW hN hmost hl' hq4
    go_enter Tryd.func62, Tryd.ntmps62
    go_upto_region 1 with fail
    rw [HNN.out, HWW.out]
    go_cut [5] (fun t wx => ∃ b, t = ptr b ∧ W.heap.size ≤ b ∧ wx.heap[b]? = some (.cells #[.int .u8 (m : Int), .int .i64 n, .slice none 0 0] 50 (0, 0)) ∧ On L N W q2 wx)
    case first =>
      refine dsk.wp_region_peel2 (by kernel_rfl) (by simp only [List.dropLast_cons_cons, List.dropLast_singleton]; exact rfl) rfl (by kernel_rfl) ?_
      refine wpAny_of_held (S := fun w' => w'.cell? ⟨N, 0, none⟩ = some (.func (.func 35) #[] #[ptr L.f, ptr L.s, ptr L.a]) ∧ w'.cell? ⟨N, 1, none⟩ = some (.func (.func 37) #[] #[ptr L.n, ptr L.f]) ∧ w'.cell? ⟨N, 2, none⟩ = some (.func (.func 38) #[] #[ptr L.f, ptr L.s, ptr L.a]) ∧ w'.cell? ⟨N, 3, none⟩ = some (.func (.func 40) #[] #[ptr L.f])) _ _ _ _ ?_
      have hHeld : W.drew.cell? ⟨N, 0, none⟩ = some (.func (.func 35) #[] #[ptr L.f, ptr L.s, ptr L.a]) ∧ W.drew.cell? ⟨N, 1, none⟩ = some (.func (.func 37) #[] #[ptr L.n, ptr L.f]) ∧ W.drew.cell? ⟨N, 2, none⟩ = some (.func (.func 38) #[] #[ptr L.f, ptr L.s, ptr L.a]) ∧ W.drew.cell? ⟨N, 3, none⟩ = some (.func (.func 40) #[] #[ptr L.f]) := HO0.out.drew.box.four
      have HO := Lib.hid HO0.out.drew
      refine wpAnyH_take (i := 0) (v := ?v1) rfl (by kernel_rfl) (by kernel_rfl) (by kernel_rfl) (fun _ _ _ h => h) (Or.inl ⟨by rfl, ?hy1⟩) (by assumption) ?rest1
      case hy1 => (intro w0 hSw; (try dsimp only at hSw); go_simp; try with_reducible rfl)
      try simp only [Act.put, List.getElem_toArray, List.getElem_cons_zero, List.getElem_cons_succ, List.setIfInBounds_toArray, List.set_cons_zero, List.set_cons_succ]
      refine wpAnyH_take (i := 2) (v := ?v2) rfl (by kernel_rfl) (by kernel_rfl) (by kernel_rfl) (fun _ _ _ h => h) (Or.inl ⟨by rfl, ?hy2⟩) (by assumption) ?rest2
      case hy2 => (intro w0 hSw; (try dsimp only at hSw); go_simp; try with_reducible rfl)
      try simp only [Act.put, List.getElem_toArray, List.getElem_cons_zero, List.getElem_cons_succ, List.setIfInBounds_toArray, List.set_cons_zero, List.set_cons_succ]
      refine wpAnyH_take (i := 3) (v := ?v3) rfl (by kernel_rfl) (by kernel_rfl) (by kernel_rfl) (fun _ _ _ h => h) (Or.inl ⟨by rfl, ?hy3⟩) (by assumption) ?rest3
      case hy3 => (intro w0 hSw; (try dsimp only at hSw); go_simp; try with_reducible rfl)
      try simp only [Act.put, List.getElem_toArray, List.getElem_cons_zero, List.getElem_cons_succ, List.setIfInBounds_toArray, List.set_cons_zero, List.set_cons_succ]
      refine wpAnyH_ready (rs := [1, 6]) (by kernel_rfl) (by simp) ?_
      refine AllReadyH.cons rfl (fun KQ hKQ => ?_) (AllReadyH.cons rfl (fun KQ hKQ => ?_) AllReadyH.nil)
      · go_simp
        refine (HBY.out _ HO.out).mono ?_
        rintro e WX1 ⟨rfl, hp⟩
        have HO := Lib.hid (HO.out.call hp)
        clear hp
        refine hKQ.out _ _ ?_ (fun hHeld => ?_)
        · exact HO.out.box.four
        clear hKQ KQ
        try simp only [Act.put, List.getElem_toArray, List.getElem_cons_zero, List.getElem_cons_succ, List.setIfInBounds_toArray, List.set_cons_zero, List.set_cons_succ]
        refine wpAnyH_ready (rs := [4, 6]) (by kernel_rfl) (by simp) ?_
        refine AllReadyH.cons rfl (fun KQ hKQ => ?_) (AllReadyH.cons rfl (fun KQ hKQ => ?_) AllReadyH.nil)
        · go_simp
          refine (HNU.out _ HO.out).mono ?_
          rintro e WX2 ⟨rfl, hp⟩
          have HO := Lib.hid (HO.out.call hp)
          clear hp
          refine hKQ.out _ _ ?_ (fun hHeld => ?_)
          · exact HO.out.box.four
          clear hKQ KQ
          try simp only [Act.put, List.getElem_toArray, List.getElem_cons_zero, List.getElem_cons_succ, List.setIfInBounds_toArray, List.set_cons_zero, List.set_cons_succ]
          refine wpAnyH_ready (rs := [5, 6]) (by kernel_rfl) (by simp) ?_
          refine AllReadyH.cons rfl (fun KQ hKQ => ?_) (AllReadyH.cons rfl (fun KQ hKQ => ?_) AllReadyH.nil)
          · go_simp
            refine hKQ.out _ _ ?_ (fun hHeld => ?_)
            · exact HO.out.box.four
            clear hKQ KQ
            try simp only [Act.put, List.getElem_toArray, List.getElem_cons_zero, List.getElem_cons_succ, List.setIfInBounds_toArray, List.set_cons_zero, List.set_cons_succ]
            refine wpAnyH_ready (rs := [6]) (by kernel_rfl) (by simp) ?_
            refine AllReadyH.cons rfl (fun KQ hKQ => ?_) AllReadyH.nil
            go_simp
            refine hKQ.out _ _ ?_ (fun hHeld => ?_)
            · exact (HO.out.made (zeroE)).box.four
            clear hKQ KQ
            try simp only [Act.put, List.getElem_toArray, List.getElem_cons_zero, List.getElem_cons_succ, List.setIfInBounds_toArray, List.set_cons_zero, List.set_cons_succ]
            have HZ := Lib.hid (heap_last (w := WX2) (o := zeroE) rfl)
            have HBM : Hid (W.heap.size ≤ WX2.heap.size) := Lib.hid HO.out.lv.size
            have HOB := Lib.hid HO.out
            have HO := Lib.hid (HO.out.made (zeroE))
            refine wpAnyH_done (by kernel_rfl) ?_ _
            change wpList _ _ _ _ _ _
            go_wp2_with fail
            go_meet
            exact ⟨_, rfl, HBM.out, heap_last rfl, HOB.out.made _⟩
          · go_simp
            refine hKQ.out _ _ ?_ (fun hHeld => ?_)
            · exact (HO.out.made (zeroE)).box.four
            clear hKQ KQ
            try simp only [Act.put, List.getElem_toArray, List.getElem_cons_zero, List.getElem_cons_succ, List.setIfInBounds_toArray, List.set_cons_zero, List.set_cons_succ]
            have HZ := Lib.hid (heap_last (w := WX2) (o := zeroE) rfl)
            have HBM : Hid (W.heap.size ≤ WX2.heap.size) := Lib.hid HO.out.lv.size
            have HOB := Lib.hid HO.out
            have HO := Lib.hid (HO.out.made (zeroE))
            refine wpAnyH_ready (rs := [5]) (by kernel_rfl) (by simp) ?_
            refine AllReadyH.cons rfl (fun KQ hKQ => ?_) AllReadyH.nil
            go_simp
            refine hKQ.out _ _ ?_ (fun hHeld => ?_)
            · exact HO.out.box.four
            clear hKQ KQ
            try simp only [Act.put, List.getElem_toArray, List.getElem_cons_zero, List.getElem_cons_succ, List.setIfInBounds_toArray, List.set_cons_zero, List.set_cons_succ]
            refine wpAnyH_done (by kernel_rfl) ?_ _
            change wpList _ _ _ _ _ _
            go_wp2_with fail
            go_meet
            exact ⟨_, rfl, HBM.out, heap_last rfl, HOB.out.made _⟩
        · go_simp
          refine hKQ.out _ _ ?_ (fun hHeld => ?_)
          · exact (HO.out.made (zeroE)).box.four
          clear hKQ KQ
          try simp only [Act.put, List.getElem_toArray, List.getElem_cons_zero, List.getElem_cons_succ, List.setIfInBounds_toArray, List.set_cons_zero, List.set_cons_succ]
          have HZ := Lib.hid (heap_last (w := WX1) (o := zeroE) rfl)
          have HBM : Hid (W.heap.size ≤ WX1.heap.size) := Lib.hid HO.out.lv.size
          have HOB := Lib.hid HO.out
          have HO := Lib.hid (HO.out.made (zeroE))
          refine wpAnyH_ready (rs := [4]) (by kernel_rfl) (by simp) ?_
          refine AllReadyH.cons rfl (fun KQ hKQ => ?_) AllReadyH.nil
          go_simp
          refine (HNU.out _ HO.out).mono ?_
          rintro e WX2 ⟨rfl, hp⟩
          have HZ := Lib.hid (HO.out.stays hp.2 HZ.out (by decide) (by decide))
          have HO := Lib.hid (HO.out.call hp)
          clear hp
          refine hKQ.out _ _ ?_ (fun hHeld => ?_)
          · exact HO.out.box.four
          clear hKQ KQ
          try simp only [Act.put, List.getElem_toArray, List.getElem_cons_zero, List.getElem_cons_succ, List.setIfInBounds_toArray, List.set_cons_zero, List.set_cons_succ]
          refine wpAnyH_ready (rs := [5]) (by kernel_rfl) (by simp) ?_
          refine AllReadyH.cons rfl (fun KQ hKQ => ?_) AllReadyH.nil
          go_simp
          refine hKQ.out _ _ ?_ (fun hHeld => ?_)
          · exact HO.out.box.four
          clear hKQ KQ
          try simp only [Act.put, List.getElem_toArray, List.getElem_cons_zero, List.getElem_cons_succ, List.setIfInBounds_toArray, List.set_cons_zero, List.set_cons_succ]
          refine wpAnyH_done (by kernel_rfl) ?_ _
          change wpList _ _ _ _ _ _
          obtain ⟨z0, z1, z2, f0, f1, f2⟩ := cells3 HZ.out
          have HS3 := Lib.hid (set3 (x' := .int .u8 (m : Int)) (y' := .int .i64 n) (z' := .slice none 0 0) HZ.out)
          go_wp2_with fail
          go_meet
          exact ⟨_, rfl, HBM.out, HS3.out, ((HO.out.put HBM.out (HNW.out _ HBM.out)).put HBM.out (HNW.out _ HBM.out)).put HBM.out (HNW.out _ HBM.out)⟩
      · go_simp
        refine hKQ.out _ _ ?_ (fun hHeld => ?_)
        · exact (HO.out.made (zeroE)).box.four
        clear hKQ KQ
        try simp only [Act.put, List.getElem_toArray, List.getElem_cons_zero, List.getElem_cons_succ, List.setIfInBounds_toArray, List.set_cons_zero, List.set_cons_succ]
        have HZ : Hid ((W.drew.alloc (zeroE)).heap[W.heap.size]? = some (zeroE)) := Lib.hid (heap_last rfl)
        have HBM : Hid (W.heap.size ≤ W.heap.size) := Lib.hid HO.out.lv.size
        have HOB := Lib.hid HO.out
        have HO := Lib.hid (HO.out.made (zeroE))
        refine wpAnyH_ready (rs := [1]) (by kernel_rfl) (by simp) ?_
        refine AllReadyH.cons rfl (fun KQ hKQ => ?_) AllReadyH.nil
        go_simp
        refine (HBY.out _ HO.out).mono ?_
        rintro e WX1 ⟨rfl, hp⟩
        have HZ := Lib.hid (HO.out.stays hp.2 HZ.out (by decide) (by decide))
        have HO := Lib.hid (HO.out.call hp)
        clear hp
        refine hKQ.out _ _ ?_ (fun hHeld => ?_)
        · exact HO.out.box.four
        clear hKQ KQ
        try simp only [Act.put, List.getElem_toArray, List.getElem_cons_zero, List.getElem_cons_succ, List.setIfInBounds_toArray, List.set_cons_zero, List.set_cons_succ]
        refine wpAnyH_ready (rs := [4]) (by kernel_rfl) (by simp) ?_
        refine AllReadyH.cons rfl (fun KQ hKQ => ?_) AllReadyH.nil
        go_simp
        refine (HNU.out _ HO.out).mono ?_
        rintro e WX2 ⟨rfl, hp⟩
        have HZ := Lib.hid (HO.out.stays hp.2 HZ.out (by decide) (by decide))
        have HO := Lib.hid (HO.out.call hp)
        clear hp
        refine hKQ.out _ _ ?_ (fun hHeld => ?_)
        · exact HO.out.box.four
        clear hKQ KQ
        try simp only [Act.put, List.getElem_toArray, List.getElem_cons_zero, List.getElem_cons_succ, List.setIfInBounds_toArray, List.set_cons_zero, List.set_cons_succ]
        refine wpAnyH_ready (rs := [5]) (by kernel_rfl) (by simp) ?_
        refine AllReadyH.cons rfl (fun KQ hKQ => ?_) AllReadyH.nil
        go_simp
        refine hKQ.out _ _ ?_ (fun hHeld => ?_)
        · exact HO.out.box.four
        clear hKQ KQ
        try simp only [Act.put, List.getElem_toArray, List.getElem_cons_zero, List.getElem_cons_succ, List.setIfInBounds_toArray, List.set_cons_zero, List.set_cons_succ]
        refine wpAnyH_done (by kernel_rfl) ?_ _
        change wpList _ _ _ _ _ _
        obtain ⟨z0, z1, z2, f0, f1, f2⟩ := cells3 HZ.out
        have HS3 := Lib.hid (set3 (x' := .int .u8 (m : Int)) (y' := .int .i64 n) (z' := .slice none 0 0) HZ.out)
        go_wp2_with fail
        go_meet
        exact ⟨_, rfl, HBM.out, HS3.out, ((HO.out.put HBM.out (HNW.out _ HBM.out)).put HBM.out (HNW.out _ HBM.out)).put HBM.out (HNW.out _ HBM.out)⟩
    case rest =>
      rename World => w4
      obtain ⟨b, rfl, hb, hz, ho⟩ := hcut
      have HMR : Hid (0 ≤ most ∧ most ≤ 12 ∧ (0 < most → 1 ≤ l)) := Lib.hid (by have := HMO.out; split at this <;> omega)
      have HROW := Lib.hid (row_expr (K := 72) (cp := #[ptr N, ptr (N + 1)]) (f := exprO l) most HMR.out.1 HMR.out.2.1 ho.rd (enters_of Tryd.func72 (by kernel_rfl) rfl) (fun hm q5 w5 h5 hl5 => by
        have hL5 := ho.lv.trans hl5
        exact expr1_any (HMR.out.2.2 hm) (by omega) (IH.out (HMR.out.2.2 hm)) h5 (HO0.out.box.leaves hL5 HO0.out.rd) (cell_of ((hL5.far HO0.out.rd (by rw [HW.out]; omega) (by have := HO0.out.box.2; omega)).trans HB1.out) rfl)))
      rw [HL4.out.1, HL4.out.2] at HROW
      unfold rdV numV withinV textV faultV at HROW
      obtain ⟨c0, c1, c2, c3⟩ := ho.box.four
      have cl : w4.cell? ⟨N + 1, 0, none⟩ = some (.int .i64 ((l : Int) + 1)) := cell_of ((ho.lv.far HO0.out.rd (by rw [HW.out]; omega) (by have := HO0.out.box.2; omega)).trans HB1.out) rfl
      have HO4 := Lib.hid ho; have HZ4 := Lib.hid hz; have HBB := Lib.hid hb
      have HR4 : Hid (w4.heap[N + 1 + 1]? = some (.cells #[.int .u8 0, .int .i64 0, .slice none 0 0] 50 (0, 0))) := Lib.hid (ho.lv.ty HO0.out.rd HB2.out (by decide) (by decide))
      clear ho hz hb
      by_cases hl0 : l = 0
      · have hd : ((l : Int) + 1 == 1) = true := by simp; omega
        obtain rfl : (0 : Int) = most := by have := HMO.out; rw [if_pos hl0] at this; exact this
        clear hl0
        go_wp2_with fail
        refine HROW.out.mono ?_
        rintro e w5 ⟨v, rfl, hla, hp⟩
        obtain ⟨av, cv, rfl, -⟩ := hla.form
        obtain ⟨nv, hnv⟩ : ∃ nv, l'.length = nv := ⟨_, rfl⟩
        rw [hnv] at hla ⊢
        have HLA := Lib.hid hla; have HP5 := Lib.hid hp
        have HZ5 := Lib.hid (hp.2.ty HO4.out.rd HZ4.out (by decide) (by decide))
        have HR5 := Lib.hid (hp.2.ty HO4.out.rd HR4.out (by decide) (by decide))
        obtain ⟨z0, z1, z2, f0, f1, f2⟩ := cells3 HZ5.out
        clear hla hp
        go_upto_region 6 with fail
        obtain ⟨W5, hW5⟩ : ∃ W5, w5.setCell ⟨b, 2, none⟩ (.slice av nv cv) = W5 := ⟨_, rfl⟩
        rw [hW5]
        have hne : N + 1 + 1 ≠ b := by have := HBB.out; have := HW.out; omega
        have HE5 : Hid (W5.heap[b]? = some (.cells #[.int .u8 (m : Int), .int .i64 n, .slice av nv cv] 50 (0, 0))) := Lib.hid (by rw [← hW5]; exact setCell_heap HZ5.out)
        have HT5 : Hid (W5.heap[N + 1 + 1]? = some (.cells #[.int .u8 0, .int .i64 0, .slice none 0 0] 50 (0, 0))) := Lib.hid (by rw [← hW5, Below.heap_setCell _ _ _ _ hne]; exact HR5.out)
        obtain ⟨y0, y1, y2, -, -, -⟩ := cells3 HE5.out
        obtain ⟨t0, t1, t2, g0, g1, g2⟩ := cells3 HT5.out
        have HE6 := Lib.hid (set3 (x' := .int .u8 (m : Int)) (y' := .int .i64 n) (z' := .slice av nv cv) HT5.out)
        have HFIN : Hid (ExprPost L w (.mk m n l') q4 (.returned (.agg #[.int .u8 (m : Int), .int .i64 n, .slice av nv cv])) (((W5.setCell ⟨N + 1 + 1, 0, none⟩ (.int .u8 (m : Int))).setCell ⟨N + 1 + 1, 1, none⟩ (.int .i64 n)).setCell ⟨N + 1 + 1, 2, none⟩ (.slice av nv cv))) := Lib.hid (by
          have hN := HNN.out; have hWsz := HW.out; have hbb := HBB.out; have hLM := HLM.out; have h4sz := HO4.out.lv.size
          have hRP : RPost L w q4 w5 := ⟨HP5.out.1, (Leaves.of_below HB.out).trans (HO4.out.lv.trans HP5.out.2)⟩
          refine ⟨_, rfl, ?_, ?_⟩
          · rw [← hW5]
            exact (lies_put3 (Lies.put HLA.out (fun k hk e => by have hk' : w4.heap.size ≤ k := hk; have := (Array.getElem?_eq_some_iff.1 HZ4.out).1; omega)) (fun k hk e => by have hk' : w4.heap.size ≤ k := hk; omega)).mono fun k hk => by have hk' : w4.heap.size ≤ k := hk; omega
          · rw [← hW5]
            exact (((hRP.put hLM (by omega)).put hLM (by omega)).put hLM (by omega)).put hLM (by omega))
        clear z0 z1 z2 f0 f1 f2
        go_wp2_with fail
        obtain ⟨e0, e1, e2, -, -, -⟩ := cells3 HE6.out
        exact bodyPost_ret (v := .agg #[.int .u8 (m : Int), .int .i64 n, .slice av nv cv]) (by simp [results, Tryd.f62, go_sem, e0, e1, e2]) rfl HFIN.out
      · have hd : ((l : Int) + 1 == 1) = false := by simp; omega
        obtain rfl : (3 : Int) = most := by have := HMO.out; rw [if_neg hl0] at this; exact this
        clear hl0
        go_wp2_with fail
        refine HROW.out.mono ?_
        rintro e w5 ⟨v, rfl, hla, hp⟩
        obtain ⟨av, cv, rfl, -⟩ := hla.form
        obtain ⟨nv, hnv⟩ : ∃ nv, l'.length = nv := ⟨_, rfl⟩
        rw [hnv] at hla ⊢
        have HLA := Lib.hid hla; have HP5 := Lib.hid hp
        have HZ5 := Lib.hid (hp.2.ty HO4.out.rd HZ4.out (by decide) (by decide))
        have HR5 := Lib.hid (hp.2.ty HO4.out.rd HR4.out (by decide) (by decide))
        obtain ⟨z0, z1, z2, f0, f1, f2⟩ := cells3 HZ5.out
        clear hla hp
        go_upto_region 6 with fail
        obtain ⟨W5, hW5⟩ : ∃ W5, w5.setCell ⟨b, 2, none⟩ (.slice av nv cv) = W5 := ⟨_, rfl⟩
        rw [hW5]
        have hne : N + 1 + 1 ≠ b := by have := HBB.out; have := HW.out; omega
        have HE5 : Hid (W5.heap[b]? = some (.cells #[.int .u8 (m : Int), .int .i64 n, .slice av nv cv] 50 (0, 0))) := Lib.hid (by rw [← hW5]; exact setCell_heap HZ5.out)
        have HT5 : Hid (W5.heap[N + 1 + 1]? = some (.cells #[.int .u8 0, .int .i64 0, .slice none 0 0] 50 (0, 0))) := Lib.hid (by rw [← hW5, Below.heap_setCell _ _ _ _ hne]; exact HR5.out)
        obtain ⟨y0, y1, y2, -, -, -⟩ := cells3 HE5.out
        obtain ⟨t0, t1, t2, g0, g1, g2⟩ := cells3 HT5.out
        have HE6 := Lib.hid (set3 (x' := .int .u8 (m : Int)) (y' := .int .i64 n) (z' := .slice av nv cv) HT5.out)
        have HFIN : Hid (ExprPost L w (.mk m n l') q4 (.returned (.agg #[.int .u8 (m : Int), .int .i64 n, .slice av nv cv])) (((W5.setCell ⟨N + 1 + 1, 0, none⟩ (.int .u8 (m : Int))).setCell ⟨N + 1 + 1, 1, none⟩ (.int .i64 n)).setCell ⟨N + 1 + 1, 2, none⟩ (.slice av nv cv))) := Lib.hid (by
          have hN := HNN.out; have hWsz := HW.out; have hbb := HBB.out; have hLM := HLM.out; have h4sz := HO4.out.lv.size
          have hRP : RPost L w q4 w5 := ⟨HP5.out.1, (Leaves.of_below HB.out).trans (HO4.out.lv.trans HP5.out.2)⟩
          refine ⟨_, rfl, ?_, ?_⟩
          · rw [← hW5]
            exact (lies_put3 (Lies.put HLA.out (fun k hk e => by have hk' : w4.heap.size ≤ k := hk; have := (Array.getElem?_eq_some_iff.1 HZ4.out).1; omega)) (fun k hk e => by have hk' : w4.heap.size ≤ k := hk; omega)).mono fun k hk => by have hk' : w4.heap.size ≤ k := hk; omega
          · rw [← hW5]
            exact (((hRP.put hLM (by omega)).put hLM (by omega)).put hLM (by omega)).put hLM (by omega))
        clear z0 z1 z2 f0 f1 f2
        go_wp2_with fail
        obtain ⟨e0, e1, e2, -, -, -⟩ := cells3 HE6.out
        exact bodyPost_ret (v := .agg #[.int .u8 (m : Int), .int .i64 n, .slice av nv cv]) (by simp [results, Tryd.f62, go_sem, e0, e1, e2]) rfl HFIN.out
end Go.Proofs.YtnelfokfgnikfaaDoor.pk
