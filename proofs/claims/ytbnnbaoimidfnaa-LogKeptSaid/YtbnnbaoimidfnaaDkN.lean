/- What a crash makes of a disk. -/
import Derived.Test.YtbnnbaoimidfnaaDkM
namespace Go.Proofs.Ytbnnbaoimidfnaa.dsk
set_option linter.unusedSimpArgs false
set_option linter.unusedVariables false
open Go.RowKit
attribute [local go_sem ↓] Go.wp_at_zero Go.wp_at_succ

def nils16 : Array Value := #[.slice none 0 0, .slice none 0 0, .slice none 0 0, .slice none 0 0, .slice none 0 0, .slice none 0 0, .slice none 0 0, .slice none 0 0, .slice none 0 0, .slice none 0 0, .slice none 0 0, .slice none 0 0, .slice none 0 0, .slice none 0 0, .slice none 0 0, .slice none 0 0]
def crashW (w : World) (us : Nat → Value) : World := (w.drew.alloc (.cells nils16 46)).setCells w.heap.size 0 (row16 us)
theorem yieldsIf_build {ops : Array Oper} {S : World → Prop} {op : Oper} {a : Act} (hw : Region.wanted op (yielded ops a.tmps) = true) (ho : op.op = .build 49 #[(0, .tmp 70), (2, .const (.int .i64 (-1))), (3, .tmp 71), (4, .tmp 72)]) (room : Nat) (gs : Nat → Value)
    (h0 : a.eval (.tmp 70) = .int .i64 room) (h3 : a.eval (.tmp 71) = .agg (row16 gs).toArray) (h4 : a.eval (.tmp 72) = .agg (row16 gs).toArray) : YieldsIf Try.prog ops S op (.agg (rowD room gs).toArray) a :=
  .inl ⟨hw, fun w _ => by
    have h2 : a.eval (.const (.int .i64 (-1))) = .int .i64 (-1) := rfl
    have hr := run_build_disk room gs w
    unfold execOp
    simp only [ho, Sem.run_bind, Sem.run_pure, List.map_toArray, List.map_cons, List.map_nil, h0, h2, h3, h4, hr, Result.andThen_ok]⟩
section
variable {w wr w' : World} {F : Nat → Prop} {d b : Nat} {x : D} {vs us gs gs' : Nat → Value} {lo : Value} {ps : List (Value × Value)} {f f' : Files}
theorem crash_held (m : Cm w wr F d x vs us lo ps b gs f) : wr.drew.cell? ⟨d, 0, none⟩ = some (.int .i64 x.room) ∧ wr.drew.rangeAt b 0 (row16 gs) :=
  ⟨by show wr.cell? _ = _; rw [m.row.cell (by omega)]; rfl, (show wr.rangeAt b 0 (row16 gs) from range_of_row m.arr (by decide) fun i _ => by rw [Nat.zero_add])⟩
theorem crash_there (m : Cm w wr F d x vs us lo ps b gs f) : wr.drew.there d 0 (rowD x.room gs).toArray.size := by
  rw [List.size_toArray, rowD_length]
  exact (there_of_row (w := wr) (m := 36) (o := 0) m.row (by decide))
theorem crash_ones (m : Cm w wr F d x vs us lo ps b gs f) : (rowD x.room gs).toArray.all (·.oneCell') = true := by
  refine all_oneCell_toArray fun v hv => ?_
  obtain ⟨i, hi, rfl⟩ := List.mem_map.1 hv
  have hi' := List.mem_range.1 hi
  have hg : ∀ j, j < 16 → (gs j).oneCell' = true := fun j hj => by
    obtain ⟨a, cap, ev⟩ := (m.fls.has j hj).len
    rw [ev]; rfl
  unfold cellsD
  split
  · rfl
  · split
    · rfl
    · split
      · rfl
      · split
        · exact hg _ (by omega)
        · split
          · exact hg _ (by omega)
          · rfl
theorem run_slice_loose (a : Option Addr) (n cap k : Nat) (h : (a = none ∧ n = 0 ∧ cap = 0) ∨ ∃ g, a = some ⟨g, 0, none⟩ ∧ n ≤ cap) (hk : k ≤ n) (w : World) : (Instr.slice 47 (.slice a n cap) none (some (.int .i64 k)) none).run Try.prog w = .ok (.slice a k cap) w := by
  cases h70 : Try.prog.info? 69 with
  | none => have := info70; simp [h70] at this
  | some i0 =>
    rcases h with ⟨rfl, rfl, rfl⟩ | ⟨g, rfl, h1⟩
    · obtain rfl : k = 0 := by omega
      simp [Instr.slice, run_underlying Try.underlying47, Instr.sliceBounds, Instr.sliceBound, asIntOf, sizeOf, typeInfo, h70, Sem.run_bind]
    · have h2 : (k : Int) ≤ (cap : Int) := by omega
      simp [Instr.slice, run_underlying Try.underlying47, Instr.sliceBounds, Instr.sliceBound, asIntOf, sizeOf, typeInfo, h70, Sem.run_bind, h2, Addr.add]
      omega
theorem loose_form {n cap : Nat} {a : Option Addr} {xs : List Value} (h : w.ownsRow 0 69 2 (.slice a n cap) n xs) : (a = none ∧ n = 0 ∧ cap = 0) ∨ ∃ g, a = some ⟨g, 0, none⟩ ∧ n ≤ cap := by
  rcases h.2 with ⟨e, _⟩ | ⟨g, cap', cur, e, _, _, h1, _⟩
  · simp only [Value.slice.injEq] at e; exact .inl e
  · simp only [Value.slice.injEq, true_and] at e; exact .inr ⟨g, e.1, by rw [e.2]; exact h1⟩
end
/-- Of the loose ones so many have been gone over. -/
def CrRel (w : World) (F : Nat → Prop) (d : Nat) (x : D) (vs us : Nat → Value) (lo : Value) (ps : List (Value × Value)) (m : Nat) (i : Value) (wr : World) : Prop :=
  ∃ kk : Nat, kk ≤ m ∧ i = .int .i64 kk ∧ ∃ gs, Cm w wr F d x vs us lo ps w.heap.size gs (run x.sure (x.loose.take kk))
theorem take_run {x : D} {kk : Nat} {c : Chg} (h : x.loose[kk]? = some c) : run x.sure (x.loose.take (kk + 1)) = doIt (run x.sure (x.loose.take kk)) c := by
  have hlt : kk < x.loose.length := (List.getElem?_eq_some_iff.1 h).1
  rw [List.take_succ_eq_append_getElem hlt, run_snoc, (List.getElem?_eq_some_iff.1 h).2]
theorem whole_chg2 {w : World} {F : Nat → Prop} {c : Chg} {v1 v2 : Value} (hc : IsChg w F c v1 v2) : ∃ K p q, v1 = .func (.func K) #[] #[ptr p 0, ptr q 0] ∧ ((K = 36 ∧ ∃ r, v2 = .func (.func 34) #[] #[ptr r 0, ptr q 0]) ∨ ((K = 37 ∨ False) ∧ v2 = .nilFunc)) ∧
    ∀ (w' : World) (room b o n : Nat) (T : TypeId) (R vs : Nat → Value) (f : Files), (∀ k T v, F k → boxT T → Box w k T v → Box w' k T v) → ok room f c → total f ≤ room → room ≤ 4194304 → w'.rowIs b T n R → T ≠ 5 → T ≠ 3 → T ≠ 9 → o + 16 ≤ n → (∀ j, j < 16 → R (o + j) = vs j) → Fls w' vs f →
      Calls Try.prog K #[ptr b o, ptr p 0, ptr q 0] w' (DidPost w' b o n T R vs (doIt f c)) := by
  obtain ⟨K, p, q, e1, hK, hcall⟩ := whole_chg hc
  refine ⟨K, p, q, e1, ?_, hcall⟩
  rcases chg_forms hc with ⟨i, s, p', q', r, _, e1', e2, _⟩ | ⟨_, p', q', e1', e2⟩
  · rw [e1] at e1'
    simp only [Value.func.injEq, Fn.func.injEq, Array.mk.injEq, List.cons.injEq, Value.pointer.injEq, Option.some.injEq, Addr.mk.injEq, and_true, true_and] at e1'
    obtain ⟨rfl, rfl, rfl⟩ := e1'
    exact .inl ⟨rfl, r, e2⟩
  · refine .inr ⟨?_, e2⟩
    rw [e1] at e1'
    rcases e1' with e | e
    · simp only [Value.func.injEq, Fn.func.injEq] at e; exact .inl e.1
    · exact e.elim
theorem neq_func (r q : Nat) (w : World) : (binOp .neq 67 (.func (.func 34) #[] #[ptr r 0, ptr q 0]) .nilFunc).run Try.prog w = .ok (.bool true) w := by kernel_rfl
theorem neq_nil (w : World) : (binOp .neq 67 .nilFunc .nilFunc).run Try.prog w = .ok (.bool false) w := by kernel_rfl
theorem crash_nil (n k : Int) (w : World) : Calls Try.prog 17 #[.pointer none, .int .i64 n, .int .i64 k] w fun e w' => e = .returned (.tuple #[]) ∧ w = w' := by
  go_enter Try.func17, Try.ntmps17
  go_wp2
  exact bodyPost_ret (v := .tuple #[]) (by simp [results, Try.results17, go_sem]) rfl ⟨rfl, rfl⟩
set_option maxHeartbeats 6400000 in
set_option maxRecDepth 100000 in
theorem crash_some {x : D} (n k : Int) (h1 : -9223372036854775808 ≤ n) (h2 : n ≤ 9223372036854775807) (h3 : -9223372036854775808 ≤ k) (h4 : k ≤ 9223372036854775807) (w : World) (F : Nat → Prop) (d : Nat) (m cap : Nat) (a : Option Addr) (hm : win n x.loose.length = m)
    (vs us : Nat → Value) (ps : List (Value × Value)) (hlen : x.loose.length ≤ 1099511627776) (hr : w.rowIs d 49 36 (cellsD x.room x.off x.left vs us (.slice a x.loose.length cap))) (hR : Rest w F x x.now vs us (.slice a x.loose.length cap) ps) (hok : x.Ok) (hd : F d) :
    Calls Try.prog 17 #[ptr d 0, .int .i64 n, .int .i64 k] w fun e w' => e = .returned (.tuple #[]) ∧ Post F d (x.crash n k) w w' := by
  have hlen' : (x.loose.length : Int) ≤ 9223372036854775807 := by omega
  have hne : d ≠ w.heap.size := by have := hr.lt; omega
  have HM := Lib.hid hm
  have hc35 : w.cell? ⟨d, 35, none⟩ = some (.slice a x.loose.length cap) := by rw [hr.cell (by omega), cellsD_loose]
  have HRG := Lib.hid (show w.rangeAt d 19 (row16 us) from range_of_row hr (by decide) fun i hi => cellsD_sure i hi)
  have HONE := Lib.hid (fls_one hR.sure)
  have HCM := Lib.hid (show Cm w (crashW w us) F d x vs us (.slice a x.loose.length cap) ps w.heap.size us x.sure from cm_start (Z := nils16) hr hR hd rfl rfl)
  have HS1 := Lib.hid (show (w.drew.alloc (.cells nils16 46)).rangeAt d 19 (row16 us) ∧ (w.drew.alloc (.cells nils16 46)).cell? ⟨d, 35, none⟩ = some (.slice a x.loose.length cap) from
    ⟨World.rangeAt_alloc (w := w.drew) HRG.out _, by rw [World.cell?_alloc_some _ _ _ (by show (w.cell? _).isSome = true; rw [hc35]; rfl)]; exact hc35⟩)
  have HS2 := Lib.hid (show (crashW w us).rangeAt d 19 (row16 us) ∧ (crashW w us).cell? ⟨d, 35, none⟩ = some (.slice a x.loose.length cap) from
    ⟨World.rangeAt_setCells_apart HS1.out.1 _ _ _ (.inl hne), by rw [HCM.out.row.cell (by omega), cellsD_loose]⟩)
  have HTH := Lib.hid (show (w.drew.alloc (.cells nils16 46)).there w.heap.size 0 16 from by
    have hnew : (w.drew.alloc (.cells nils16 46)).heap[w.heap.size]? = some (.cells nils16 46 (0, 0)) := heap_alloc_new w.drew _
    have hrow : (w.drew.alloc (.cells nils16 46)).rowIs w.heap.size 46 16 (fun j => nils16.getD j undef) := ⟨nils16, hnew, rfl, fun i hi => by
      have hs : nils16.size = 16 := rfl
      simp [hs, hi]⟩
    exact there_of_row hrow (by decide))
  clear hr hR hm
  go_enter Try.func17, Try.ntmps17
  go_wp2_with fail
  refine wp_ends (A := { tmps := #[ptr d 0, .int .i64 n, .int .i64 k, undef, undef, undef, ptr w.heap.size 0, .int .i64 m, undef, undef, ptr d 0, .bool false, ptr d 0, ptr d 0, ptr d 19, .agg (row16 us).toArray, .int .i64 n, ptr d 0, ptr d 0, ptr d 35, .slice a x.loose.length cap, .int .i64 x.loose.length, .int .i64 m, undef, undef, undef, undef, undef, undef, undef, undef, undef, undef, undef, undef, undef, undef, undef, undef, undef, undef, undef, undef, undef, undef, undef, undef, undef, undef, undef, undef, undef, undef, undef, undef, undef, undef, undef, undef, undef, undef, undef, undef, undef, undef, undef, undef, undef, undef, undef, undef, undef, undef, undef, undef], defers := [] }) (W := crashW w us) ?reg ?after
  case reg =>
    refine wp_region_held_drew (S := fun w' => w'.rangeAt d 19 (row16 us) ∧ w'.cell? ⟨d, 35, none⟩ = some (.slice a x.loose.length cap)) (by kernel_rfl) ⟨HRG.out, hc35⟩ (fun hHeld => ?_)
    refine wpAnyH_take (i := 0) (v := ?v1) rfl (by kernel_rfl) (by kernel_rfl) (by kernel_rfl) (fun _ _ _ h => h) (Or.inl ⟨by rfl, ?hy1⟩) (by assumption) ?rest1
    case hy1 => (intro w0 hSw; (try dsimp only at hSw); go_simp; try with_reducible rfl)
    try simp only [Act.put, List.setIfInBounds_toArray, List.set_cons_zero, List.set_cons_succ]
    refine wpAnyH_take (i := 1) (v := ?v2) rfl (by kernel_rfl) (by kernel_rfl) (by kernel_rfl) (fun _ _ _ h => h) (Or.inl ⟨by rfl, ?hy2⟩) (by assumption) ?rest2
    case hy2 => (intro w0 hSw; (try dsimp only at hSw); go_simp; try with_reducible rfl)
    try simp only [Act.put, List.setIfInBounds_toArray, List.set_cons_zero, List.set_cons_succ]
    refine wpAnyH_take (i := 2) (v := ?v3) rfl (by kernel_rfl) (by kernel_rfl) (by kernel_rfl) (fun _ _ _ h => h) (Or.inl ⟨by rfl, ?hy3⟩) (by assumption) ?rest3
    case hy3 => (intro w0 hSw; (try dsimp only at hSw); go_simp; try with_reducible rfl)
    try simp only [Act.put, List.setIfInBounds_toArray, List.set_cons_zero, List.set_cons_succ]
    refine' wpAnyH_take (i := 3) (v := _) rfl (by kernel_rfl) (by kernel_rfl) (by kernel_rfl) (fun _ _ _ h => h) (yieldsIf_load_mid (by rfl) 46 _ rfl d 19 rfl (row16 us) _ ?hS4 Try.underlying46 rfl (by rw [row16_length]; exact info59)) (by assumption) ?rest4
    case hS4 => exact fun w0 hS => hS.1
    try simp only [Act.put, List.setIfInBounds_toArray, List.set_cons_zero, List.set_cons_succ]
    refine wpAnyH_take (i := 4) (v := ?v5) rfl (by kernel_rfl) (by kernel_rfl) (by kernel_rfl) (fun _ _ _ h => h) (Or.inl ⟨by rfl, ?hy5⟩) (by assumption) ?rest5
    case hy5 => (intro w0 hSw; (try dsimp only at hSw); go_simp; try with_reducible rfl)
    try simp only [Act.put, List.setIfInBounds_toArray, List.set_cons_zero, List.set_cons_succ]
    refine wpAnyH_take (i := 5) (v := ?v6) rfl (by kernel_rfl) (by kernel_rfl) (by kernel_rfl) (fun _ _ _ h => h) (Or.inl ⟨by rfl, ?hy6⟩) (by assumption) ?rest6
    case hy6 => (intro w0 hSw; (try dsimp only at hSw); go_simp; try with_reducible rfl)
    try simp only [Act.put, List.setIfInBounds_toArray, List.set_cons_zero, List.set_cons_succ]
    refine wpAnyH_take (i := 6) (v := ?v7) rfl (by kernel_rfl) (by kernel_rfl) (by kernel_rfl) (fun _ _ _ h => h) (Or.inl ⟨by rfl, ?hy7⟩) (by assumption) ?rest7
    case hy7 => (intro w0 hSw; (try dsimp only at hSw); go_simp; try with_reducible rfl)
    try simp only [Act.put, List.setIfInBounds_toArray, List.set_cons_zero, List.set_cons_succ]
    refine wpAnyH_take (i := 7) (v := ?v8) rfl (by kernel_rfl) (by kernel_rfl) (by kernel_rfl) (fun _ _ _ h => h) (Or.inl ⟨by rfl, ?hy8⟩) (by assumption) ?rest8
    case hy8 => (intro w0 hSw; (try dsimp only at hSw); go_simp; try with_reducible rfl)
    try simp only [Act.put, List.setIfInBounds_toArray, List.set_cons_zero, List.set_cons_succ]
    refine wpAnyH_take (i := 8) (v := ?v9) rfl (by kernel_rfl) (by kernel_rfl) (by kernel_rfl) (fun _ _ _ h => h) (Or.inl ⟨by rfl, ?hy9⟩) (by assumption) ?rest9
    case hy9 => (intro w0 hSw; (try dsimp only at hSw); go_simp; try with_reducible rfl)
    try simp only [Act.put, List.setIfInBounds_toArray, List.set_cons_zero, List.set_cons_succ]
    refine wpAnyH_take (i := 9) (v := ?v10) rfl (by kernel_rfl) (by kernel_rfl) (by kernel_rfl) (fun _ _ _ h => h) (Or.inl ⟨by rfl, ?hy10⟩) (by assumption) ?rest10
    case hy10 => (intro w0 hSw; (try dsimp only at hSw); go_simp; try with_reducible rfl)
    try simp only [Act.put, List.setIfInBounds_toArray, List.set_cons_zero, List.set_cons_succ]
    refine wpAnyH_ready (rs := [10, 11]) (by kernel_rfl) (by simp) ?_
    refine AllReadyH.cons rfl (fun K hK => ?_) (AllReadyH.cons rfl (fun K hK => ?_) (AllReadyH.nil))
    · go_simp
      go_at_call 28
      refine (within_at HM.out _ h1 h2 hlen').mono ?_
      rintro e w' ⟨rfl, rfl⟩
      dsimp only
      refine hK.out _ _ ?_ (fun hHeld => ?_)
      · exact ⟨HRG.out, hc35⟩
      clear hK K
      try simp only [Act.put, List.setIfInBounds_toArray, List.set_cons_zero, List.set_cons_succ]
      refine wpAnyH_ready (rs := [11]) (by kernel_rfl) (by simp) ?_
      refine AllReadyH.cons rfl (fun K hK => ?_) AllReadyH.nil
      go_simp
      refine hK.out _ _ ?_ (fun hHeld => ?_)
      · exact HS1.out
      clear hK K
      try simp only [Act.put, List.setIfInBounds_toArray, List.set_cons_zero, List.set_cons_succ]
      refine wpAnyH_ready (rs := [12]) (by kernel_rfl) (by simp) ?_
      refine AllReadyH.cons rfl (fun K hK => ?_) AllReadyH.nil
      rw [if_pos (by rfl)]
      refine wp_store_mid 46 _ _ rfl w.heap.size 0 (row16 us).toArray rfl rfl HTH.out (by rw [List.size_toArray, row16_length]; exact info59) HONE.out ?_
      simp only [List.toList_toArray]
      refine hK.out _ _ ?_ (fun hHeld => ?_)
      · exact HS2.out
      clear hK K
      try simp only [Act.put, List.setIfInBounds_toArray, List.set_cons_zero, List.set_cons_succ]
      refine wpAnyH_ready (rs := [13]) (by kernel_rfl) (by simp) ?_
      refine AllReadyH.cons rfl (fun K hK => ?_) AllReadyH.nil
      go_simp
      refine hK.out _ _ ?_ (fun hHeld => ?_)
      · exact HS2.out
      clear hK K
      try simp only [Act.put, List.setIfInBounds_toArray, List.set_cons_zero, List.set_cons_succ]
      refine wpAnyH_done (by kernel_rfl) ?_ _
      exact ⟨rfl, rfl⟩
    · go_simp
      refine hK.out _ _ ?_ (fun hHeld => ?_)
      · exact HS1.out
      clear hK K
      try simp only [Act.put, List.setIfInBounds_toArray, List.set_cons_zero, List.set_cons_succ]
      refine wpAnyH_ready (rs := [10]) (by kernel_rfl) (by simp) ?_
      refine AllReadyH.cons rfl (fun K hK => ?_) AllReadyH.nil
      go_simp
      go_at_call 28
      refine (within_at HM.out _ h1 h2 hlen').mono ?_
      rintro e w' ⟨rfl, rfl⟩
      dsimp only
      refine hK.out _ _ ?_ (fun hHeld => ?_)
      · exact HS1.out
      clear hK K
      try simp only [Act.put, List.setIfInBounds_toArray, List.set_cons_zero, List.set_cons_succ]
      refine wpAnyH_ready (rs := [12]) (by kernel_rfl) (by simp) ?_
      refine AllReadyH.cons rfl (fun K hK => ?_) AllReadyH.nil
      rw [if_pos (by rfl)]
      refine wp_store_mid 46 _ _ rfl w.heap.size 0 (row16 us).toArray rfl rfl HTH.out (by rw [List.size_toArray, row16_length]; exact info59) HONE.out ?_
      simp only [List.toList_toArray]
      refine hK.out _ _ ?_ (fun hHeld => ?_)
      · exact HS2.out
      clear hK K
      try simp only [Act.put, List.setIfInBounds_toArray, List.set_cons_zero, List.set_cons_succ]
      refine wpAnyH_ready (rs := [13]) (by kernel_rfl) (by simp) ?_
      refine AllReadyH.cons rfl (fun K hK => ?_) AllReadyH.nil
      go_simp
      refine hK.out _ _ ?_ (fun hHeld => ?_)
      · exact HS2.out
      clear hK K
      try simp only [Act.put, List.setIfInBounds_toArray, List.set_cons_zero, List.set_cons_succ]
      refine wpAnyH_done (by kernel_rfl) ?_ _
      exact ⟨rfl, rfl⟩
  case after =>
    obtain ⟨w1, hw1⟩ : ∃ w1, crashW w us = w1 := ⟨_, rfl⟩
    rw [hw1] at HCM ⊢
    have hc35' : w1.cell? ⟨d, 35, none⟩ = some (.slice a x.loose.length cap) := by rw [HCM.out.row.cell (by omega), cellsD_loose]
    have HLO := Lib.hid (loose_form HCM.out.loose)
    have hml : m ≤ x.loose.length := by rw [← HM.out]; exact win_le _ _
    have hsl := fun w0 => run_slice_loose a x.loose.length cap m HLO.out hml w0
    have HW1 := Lib.hid hw1
    clear hw1 hc35 HRG HONE HS1 HS2 HTH
    go_wp2_with fail
    clear hsl hc35'
    go_loopw [30] (fun i wr => CrRel w F d x vs us (.slice a x.loose.length cap) ps m i wr) (fun i _ => m - (intOf i).toNat)
    case atStart => exact ⟨0, Nat.zero_le _, rfl, us, HCM.out⟩
    case round =>
      obtain ⟨kk, hk, rfl, gs, hcm⟩ := hrel
      have HC := Lib.hid hcm
      clear hcm
      by_cases hlt : kk < m
      · obtain ⟨c, hgc⟩ : ∃ c, x.loose[kk]? = some c := ⟨_, List.getElem?_eq_getElem (by omega)⟩
        obtain ⟨p0, hgp⟩ : ∃ p0, ps[kk]? = some p0 := ⟨_, List.getElem?_eq_getElem (by have := HC.out.num; omega)⟩
        obtain ⟨v1, v2⟩ := p0
        have hIs := HC.out.chg kk c (v1, v2) hgc hgp
        obtain ⟨hq1, hq2⟩ := pairs_get ps kk (v1, v2) hgp
        have hok' := okRun_get hok.run hgc
        have htot := total_run (okRun_take hok.run kk) hok.total
        have HG := Lib.hid hgc
        rcases HLO.out with ⟨rfl, h0, rfl⟩ | ⟨g, rfl, hcap⟩
        · omega
        · have hcl1 : wr.cell? ⟨g, kk * 2, none⟩ = some v1 := by rw [HC.out.loose.cellAt (kk * 2) (by omega)]; exact hq1
          have hcl2 : wr.cell? ⟨g, kk * 2 + 1, none⟩ = some v2 := by rw [HC.out.loose.cellAt (kk * 2 + 1) (by omega)]; exact hq2
          have hkk0 : (0 : Int) ≤ (kk : Int) := by omega
          have hkk1 : (kk : Int) < (m : Int) := by omega
          obtain ⟨K, p, q, e1, hK, hcall⟩ := whole_chg2 hIs
          simp only at e1 hK
          subst e1
          have HCALL := Lib.hid (hcall (wr.alloc (.cells #[.func (.func K) #[] #[ptr p 0, ptr q 0], v2] 69)) x.room w.heap.size 0 16 46 gs gs (run x.sure (x.loose.take kk)) (fun b T v _ _ hx => (heap_alloc_old wr _ (Array.getElem?_eq_some_iff.1 hx).1).trans hx) hok' htot hok.room2 (HC.out.arr.alloc _) (by decide) (by decide) (by decide) (by decide) (fun j _ => by rw [Nat.zero_add]) (HC.out.fls.below ((Below.refl _ _).alloc (Nat.le_refl _) _)))
          clear hcall hIs hq1 hq2 hok' htot hgc hgp
          rcases hK with ⟨rfl, r, rfl⟩ | ⟨rfl | hff, rfl⟩
          rotate_right
          · exact hff.elim
          · go_wp2_with fail
            refine HCALL.out.mono ?_
            rintro e w' ⟨rfl, gs', hdid⟩
            have HD := Lib.hid hdid
            clear hdid
            go_wp2_with fail
            go_roundw
            case rel => exact ⟨kk + 1, by omega, by go_num, gs', by rw [take_run HG.out]; exact Cm.did (Cm.below HC.out ((Below.refl _ _).alloc (Nat.le_refl _) _)) HD.out⟩
            case measure => simp [intOf]; omega
          · go_wp2_with fail
            refine HCALL.out.mono ?_
            rintro e w' ⟨rfl, gs', hdid⟩
            have HD := Lib.hid hdid
            clear hdid
            go_wp2_with fail
            go_roundw
            case rel => exact ⟨kk + 1, by omega, by go_num, gs', by rw [take_run HG.out]; exact Cm.did (Cm.below HC.out ((Below.refl _ _).alloc (Nat.le_refl _) _)) HD.out⟩
            case measure => simp [intOf]; omega
      · obtain rfl : kk = m := by omega
        clear hlt hk hml
        rcases Nat.lt_or_ge kk x.loose.length with hml' | hml'
        · obtain ⟨c, hgc⟩ : ∃ c, x.loose[kk]? = some c := ⟨_, List.getElem?_eq_getElem (by omega)⟩
          obtain ⟨p0, hgp⟩ : ∃ p0, ps[kk]? = some p0 := ⟨_, List.getElem?_eq_getElem (by have := HC.out.num; omega)⟩
          obtain ⟨v1, v2⟩ := p0
          have hIs := HC.out.chg kk c (v1, v2) hgc hgp
          obtain ⟨hq1, hq2⟩ := pairs_get ps kk (v1, v2) hgp
          have hok' := okRun_get hok.run hgc
          have htot := total_run (okRun_take hok.run kk) hok.total
          have hkp : x.kept n k = part (run x.sure (x.loose.take kk)) c k := by unfold D.kept; rw [HM.out, hgc]
          have hc35'' : wr.cell? ⟨d, 35, none⟩ = some (.slice a x.loose.length cap) := by rw [HC.out.row.cell (by omega), cellsD_loose]
          rcases HLO.out with ⟨rfl, h0, rfl⟩ | ⟨g, rfl, hcap⟩
          · omega
          · have hcl2 : wr.cell? ⟨g, kk * 2 + 1, none⟩ = some v2 := by rw [HC.out.loose.cellAt (kk * 2 + 1) (by omega)]; exact hq2
            have hkk0 : (0 : Int) ≤ (kk : Int) := by omega
            have hkk1 : (kk : Int) < (x.loose.length : Int) := by omega
            rcases chg_forms hIs with ⟨i, s, p, q, r, rfl, e1, e2, hb1, hb2⟩ | ⟨hp, p, q, e1, e2⟩
            · simp only at e2
              subst e2
              have hnf := fun w0 => neq_func r q w0
              have HK := Lib.hid (first_any w.heap.size 0 r q 16 i (win k s.size) k 46 gs gs (run x.sure (x.loose.take kk)) s wr HC.out.arr (by decide) (by decide) (by decide) (by decide) (fun j _ => by rw [Nat.zero_add]) HC.out.fls hok'.1 h3 h4 rfl (by have := le_total (run x.sure (x.loose.take kk)) hok'.1; have := hok'.2; have := hok.room2; omega) hb2 hb1)
              have HP := Lib.hid hkp
              clear hIs hq1 hq2 hok' htot hgc hgp hkp e1 hb1 hb2
              go_wp2_with fail
              refine HK.out.mono ?_
              rintro e w' ⟨rfl, gs', hdid⟩
              have HC' := Lib.hid (Cm.did HC.out hdid)
              clear hdid
              go_wp2_with fail
              refine wp_region_peel2 (by kernel_rfl) (by simp only [List.dropLast_cons_cons, List.dropLast_singleton]; exact rfl) rfl (by kernel_rfl) ?_
              refine wpAny_of_held (S := fun w' => w'.cell? ⟨d, 0, none⟩ = some (.int .i64 x.room) ∧ w'.rangeAt w.heap.size 0 (row16 gs')) _ _ _ _ ?_
              have hHeld : w'.drew.cell? ⟨d, 0, none⟩ = some (.int .i64 x.room) ∧ w'.drew.rangeAt w.heap.size 0 (row16 gs') := crash_held HC'.out
              refine wpAnyH_take (i := 0) (v := ?v101) rfl (by kernel_rfl) (by kernel_rfl) (by kernel_rfl) (fun _ _ _ h => h) (Or.inl ⟨by rfl, ?hy101⟩) (by assumption) ?rest101
              case hy101 => (intro w0 hSw; (try dsimp only at hSw); go_simp; try with_reducible rfl)
              try simp only [Act.put, List.setIfInBounds_toArray, List.set_cons_zero, List.set_cons_succ]
              refine wpAnyH_take (i := 1) (v := ?v102) rfl (by kernel_rfl) (by kernel_rfl) (by kernel_rfl) (fun _ _ _ h => h) (Or.inl ⟨by rfl, ?hy102⟩) (by assumption) ?rest102
              case hy102 => (intro w0 hSw; (try dsimp only at hSw); go_simp; try with_reducible rfl)
              try simp only [Act.put, List.setIfInBounds_toArray, List.set_cons_zero, List.set_cons_succ]
              refine wpAnyH_take (i := 2) (v := ?v103) rfl (by kernel_rfl) (by kernel_rfl) (by kernel_rfl) (fun _ _ _ h => h) (Or.inl ⟨by rfl, ?hy103⟩) (by assumption) ?rest103
              case hy103 => (intro w0 hSw; (try dsimp only at hSw); go_simp; try with_reducible rfl)
              try simp only [Act.put, List.setIfInBounds_toArray, List.set_cons_zero, List.set_cons_succ]
              refine wpAnyH_take (i := 3) (v := ?v104) rfl (by kernel_rfl) (by kernel_rfl) (by kernel_rfl) (fun _ _ _ h => h) (Or.inl ⟨by rfl, ?hy104⟩) (by assumption) ?rest104
              case hy104 => (intro w0 hSw; (try dsimp only at hSw); go_simp; try with_reducible rfl)
              try simp only [Act.put, List.setIfInBounds_toArray, List.set_cons_zero, List.set_cons_succ]
              refine wpAnyH_take (i := 4) (v := ?v105) rfl (by kernel_rfl) (by kernel_rfl) (by kernel_rfl) (fun _ _ _ h => h) (Or.inl ⟨by rfl, ?hy105⟩) (by assumption) ?rest105
              case hy105 => (intro w0 hSw; (try dsimp only at hSw); go_simp; try with_reducible rfl)
              try simp only [Act.put, List.setIfInBounds_toArray, List.set_cons_zero, List.set_cons_succ]
              refine' wpAnyH_take (i := 5) (v := _) rfl (by kernel_rfl) (by kernel_rfl) (by kernel_rfl) (fun _ _ _ h => h) (yieldsIf_load_mid (by rfl) 46 _ rfl w.heap.size 0 rfl (row16 gs') _ ?hS106 Try.underlying46 rfl (by rw [row16_length]; exact info59)) (by assumption) ?rest106
              case hS106 => exact fun w0 hS => hS.2
              try simp only [Act.put, List.setIfInBounds_toArray, List.set_cons_zero, List.set_cons_succ]
              refine' wpAnyH_take (i := 6) (v := _) rfl (by kernel_rfl) (by kernel_rfl) (by kernel_rfl) (fun _ _ _ h => h) (yieldsIf_load_mid (by rfl) 46 _ rfl w.heap.size 0 rfl (row16 gs') _ ?hS107 Try.underlying46 rfl (by rw [row16_length]; exact info59)) (by assumption) ?rest107
              case hS107 => exact fun w0 hS => hS.2
              try simp only [Act.put, List.setIfInBounds_toArray, List.set_cons_zero, List.set_cons_succ]
              refine' wpAnyH_take (i := 7) (v := _) rfl (by kernel_rfl) (by kernel_rfl) (by kernel_rfl) (fun _ _ _ h => h) (yieldsIf_build (by rfl) (by rfl) x.room gs' (by simp [Act.eval]) (by simp [Act.eval]) (by simp [Act.eval])) (by assumption) ?rest108
              try simp only [Act.put, List.setIfInBounds_toArray, List.set_cons_zero, List.set_cons_succ]
              refine wpAnyH_take (i := 8) (v := ?v109) rfl (by kernel_rfl) (by kernel_rfl) (by kernel_rfl) (fun _ _ _ h => h) (Or.inl ⟨by rfl, ?hy109⟩) (by assumption) ?rest109
              case hy109 => (intro w0 hSw; (try dsimp only at hSw); go_simp; try with_reducible rfl)
              try simp only [Act.put, List.setIfInBounds_toArray, List.set_cons_zero, List.set_cons_succ]
              refine wpAnyH_done (by kernel_rfl) ?_ _
              change wpList _ _ _ _ _ _
              go_wp2_with (refine wpList_store_mid rfl 49 (.tmp 74) (.tmp 73) rfl d 0 (rowD x.room gs').toArray (by simp [Act.eval]) (by simp [Act.eval]) (crash_there HC'.out) (by rw [List.size_toArray, rowD_length]; exact info62) (crash_ones HC'.out) ?_; try simp only [List.toList_toArray]; obtain ⟨w9, e9⟩ : ∃ w9, w'.drew.setCells d 0 (rowD x.room gs') = w9 := ⟨_, rfl⟩; rw [e9]; have E9 := Lib.hid e9; clear e9)
              go_end0
              refine ⟨rfl, ?_⟩
              rw [← E9.out]
              exact crash_close (HC'.out.below ((Below.refl _ _).drew)) hok HP.out
            · simp only at e2
              subst e2
              have hnf := fun w0 => neq_nil w0
              have HP := Lib.hid (hkp.trans (hp _ _))
              clear hIs hq1 hq2 hok' htot hgc hgp hkp e1 hp
              go_wp2_with fail
              refine wp_region_peel2 (by kernel_rfl) (by simp only [List.dropLast_cons_cons, List.dropLast_singleton]; exact rfl) rfl (by kernel_rfl) ?_
              refine wpAny_of_held (S := fun w' => w'.cell? ⟨d, 0, none⟩ = some (.int .i64 x.room) ∧ w'.rangeAt w.heap.size 0 (row16 gs)) _ _ _ _ ?_
              have hHeld : wr.drew.cell? ⟨d, 0, none⟩ = some (.int .i64 x.room) ∧ wr.drew.rangeAt w.heap.size 0 (row16 gs) := crash_held HC.out
              refine wpAnyH_take (i := 0) (v := ?v110) rfl (by kernel_rfl) (by kernel_rfl) (by kernel_rfl) (fun _ _ _ h => h) (Or.inl ⟨by rfl, ?hy110⟩) (by assumption) ?rest110
              case hy110 => (intro w0 hSw; (try dsimp only at hSw); go_simp; try with_reducible rfl)
              try simp only [Act.put, List.setIfInBounds_toArray, List.set_cons_zero, List.set_cons_succ]
              refine wpAnyH_take (i := 1) (v := ?v111) rfl (by kernel_rfl) (by kernel_rfl) (by kernel_rfl) (fun _ _ _ h => h) (Or.inl ⟨by rfl, ?hy111⟩) (by assumption) ?rest111
              case hy111 => (intro w0 hSw; (try dsimp only at hSw); go_simp; try with_reducible rfl)
              try simp only [Act.put, List.setIfInBounds_toArray, List.set_cons_zero, List.set_cons_succ]
              refine wpAnyH_take (i := 2) (v := ?v112) rfl (by kernel_rfl) (by kernel_rfl) (by kernel_rfl) (fun _ _ _ h => h) (Or.inl ⟨by rfl, ?hy112⟩) (by assumption) ?rest112
              case hy112 => (intro w0 hSw; (try dsimp only at hSw); go_simp; try with_reducible rfl)
              try simp only [Act.put, List.setIfInBounds_toArray, List.set_cons_zero, List.set_cons_succ]
              refine wpAnyH_take (i := 3) (v := ?v113) rfl (by kernel_rfl) (by kernel_rfl) (by kernel_rfl) (fun _ _ _ h => h) (Or.inl ⟨by rfl, ?hy113⟩) (by assumption) ?rest113
              case hy113 => (intro w0 hSw; (try dsimp only at hSw); go_simp; try with_reducible rfl)
              try simp only [Act.put, List.setIfInBounds_toArray, List.set_cons_zero, List.set_cons_succ]
              refine wpAnyH_take (i := 4) (v := ?v114) rfl (by kernel_rfl) (by kernel_rfl) (by kernel_rfl) (fun _ _ _ h => h) (Or.inl ⟨by rfl, ?hy114⟩) (by assumption) ?rest114
              case hy114 => (intro w0 hSw; (try dsimp only at hSw); go_simp; try with_reducible rfl)
              try simp only [Act.put, List.setIfInBounds_toArray, List.set_cons_zero, List.set_cons_succ]
              refine' wpAnyH_take (i := 5) (v := _) rfl (by kernel_rfl) (by kernel_rfl) (by kernel_rfl) (fun _ _ _ h => h) (yieldsIf_load_mid (by rfl) 46 _ rfl w.heap.size 0 rfl (row16 gs) _ ?hS115 Try.underlying46 rfl (by rw [row16_length]; exact info59)) (by assumption) ?rest115
              case hS115 => exact fun w0 hS => hS.2
              try simp only [Act.put, List.setIfInBounds_toArray, List.set_cons_zero, List.set_cons_succ]
              refine' wpAnyH_take (i := 6) (v := _) rfl (by kernel_rfl) (by kernel_rfl) (by kernel_rfl) (fun _ _ _ h => h) (yieldsIf_load_mid (by rfl) 46 _ rfl w.heap.size 0 rfl (row16 gs) _ ?hS116 Try.underlying46 rfl (by rw [row16_length]; exact info59)) (by assumption) ?rest116
              case hS116 => exact fun w0 hS => hS.2
              try simp only [Act.put, List.setIfInBounds_toArray, List.set_cons_zero, List.set_cons_succ]
              refine' wpAnyH_take (i := 7) (v := _) rfl (by kernel_rfl) (by kernel_rfl) (by kernel_rfl) (fun _ _ _ h => h) (yieldsIf_build (by rfl) (by rfl) x.room gs (by simp [Act.eval]) (by simp [Act.eval]) (by simp [Act.eval])) (by assumption) ?rest117
              try simp only [Act.put, List.setIfInBounds_toArray, List.set_cons_zero, List.set_cons_succ]
              refine wpAnyH_take (i := 8) (v := ?v118) rfl (by kernel_rfl) (by kernel_rfl) (by kernel_rfl) (fun _ _ _ h => h) (Or.inl ⟨by rfl, ?hy118⟩) (by assumption) ?rest118
              case hy118 => (intro w0 hSw; (try dsimp only at hSw); go_simp; try with_reducible rfl)
              try simp only [Act.put, List.setIfInBounds_toArray, List.set_cons_zero, List.set_cons_succ]
              refine wpAnyH_done (by kernel_rfl) ?_ _
              change wpList _ _ _ _ _ _
              go_wp2_with (refine wpList_store_mid rfl 49 (.tmp 74) (.tmp 73) rfl d 0 (rowD x.room gs).toArray (by simp [Act.eval]) (by simp [Act.eval]) (crash_there HC.out) (by rw [List.size_toArray, rowD_length]; exact info62) (crash_ones HC.out) ?_; try simp only [List.toList_toArray]; obtain ⟨w9, e9⟩ : ∃ w9, wr.drew.setCells d 0 (rowD x.room gs) = w9 := ⟨_, rfl⟩; rw [e9]; have E9 := Lib.hid e9; clear e9)
              go_end0
              refine ⟨rfl, ?_⟩
              rw [← E9.out]
              exact crash_close (HC.out.below ((Below.refl _ _).drew)) hok HP.out
        · have HP := Lib.hid (show x.kept n k = run x.sure (x.loose.take kk) by unfold D.kept; rw [HM.out, List.getElem?_eq_none (by omega)])
          have hc35'' : wr.cell? ⟨d, 35, none⟩ = some (.slice a x.loose.length cap) := by rw [HC.out.row.cell (by omega), cellsD_loose]
          have hdc : decide (kk < x.loose.length) = false := by simp; omega
          go_wp2_with fail
          refine wp_region_peel2 (by kernel_rfl) (by simp only [List.dropLast_cons_cons, List.dropLast_singleton]; exact rfl) rfl (by kernel_rfl) ?_
          refine wpAny_of_held (S := fun w' => w'.cell? ⟨d, 0, none⟩ = some (.int .i64 x.room) ∧ w'.rangeAt w.heap.size 0 (row16 gs)) _ _ _ _ ?_
          have hHeld : wr.drew.cell? ⟨d, 0, none⟩ = some (.int .i64 x.room) ∧ wr.drew.rangeAt w.heap.size 0 (row16 gs) := crash_held HC.out
          refine wpAnyH_take (i := 0) (v := ?v119) rfl (by kernel_rfl) (by kernel_rfl) (by kernel_rfl) (fun _ _ _ h => h) (Or.inl ⟨by rfl, ?hy119⟩) (by assumption) ?rest119
          case hy119 => (intro w0 hSw; (try dsimp only at hSw); go_simp; try with_reducible rfl)
          try simp only [Act.put, List.setIfInBounds_toArray, List.set_cons_zero, List.set_cons_succ]
          refine wpAnyH_take (i := 1) (v := ?v120) rfl (by kernel_rfl) (by kernel_rfl) (by kernel_rfl) (fun _ _ _ h => h) (Or.inl ⟨by rfl, ?hy120⟩) (by assumption) ?rest120
          case hy120 => (intro w0 hSw; (try dsimp only at hSw); go_simp; try with_reducible rfl)
          try simp only [Act.put, List.setIfInBounds_toArray, List.set_cons_zero, List.set_cons_succ]
          refine wpAnyH_take (i := 2) (v := ?v121) rfl (by kernel_rfl) (by kernel_rfl) (by kernel_rfl) (fun _ _ _ h => h) (Or.inl ⟨by rfl, ?hy121⟩) (by assumption) ?rest121
          case hy121 => (intro w0 hSw; (try dsimp only at hSw); go_simp; try with_reducible rfl)
          try simp only [Act.put, List.setIfInBounds_toArray, List.set_cons_zero, List.set_cons_succ]
          refine wpAnyH_take (i := 3) (v := ?v122) rfl (by kernel_rfl) (by kernel_rfl) (by kernel_rfl) (fun _ _ _ h => h) (Or.inl ⟨by rfl, ?hy122⟩) (by assumption) ?rest122
          case hy122 => (intro w0 hSw; (try dsimp only at hSw); go_simp; try with_reducible rfl)
          try simp only [Act.put, List.setIfInBounds_toArray, List.set_cons_zero, List.set_cons_succ]
          refine wpAnyH_take (i := 4) (v := ?v123) rfl (by kernel_rfl) (by kernel_rfl) (by kernel_rfl) (fun _ _ _ h => h) (Or.inl ⟨by rfl, ?hy123⟩) (by assumption) ?rest123
          case hy123 => (intro w0 hSw; (try dsimp only at hSw); go_simp; try with_reducible rfl)
          try simp only [Act.put, List.setIfInBounds_toArray, List.set_cons_zero, List.set_cons_succ]
          refine' wpAnyH_take (i := 5) (v := _) rfl (by kernel_rfl) (by kernel_rfl) (by kernel_rfl) (fun _ _ _ h => h) (yieldsIf_load_mid (by rfl) 46 _ rfl w.heap.size 0 rfl (row16 gs) _ ?hS124 Try.underlying46 rfl (by rw [row16_length]; exact info59)) (by assumption) ?rest124
          case hS124 => exact fun w0 hS => hS.2
          try simp only [Act.put, List.setIfInBounds_toArray, List.set_cons_zero, List.set_cons_succ]
          refine' wpAnyH_take (i := 6) (v := _) rfl (by kernel_rfl) (by kernel_rfl) (by kernel_rfl) (fun _ _ _ h => h) (yieldsIf_load_mid (by rfl) 46 _ rfl w.heap.size 0 rfl (row16 gs) _ ?hS125 Try.underlying46 rfl (by rw [row16_length]; exact info59)) (by assumption) ?rest125
          case hS125 => exact fun w0 hS => hS.2
          try simp only [Act.put, List.setIfInBounds_toArray, List.set_cons_zero, List.set_cons_succ]
          refine' wpAnyH_take (i := 7) (v := _) rfl (by kernel_rfl) (by kernel_rfl) (by kernel_rfl) (fun _ _ _ h => h) (yieldsIf_build (by rfl) (by rfl) x.room gs (by simp [Act.eval]) (by simp [Act.eval]) (by simp [Act.eval])) (by assumption) ?rest126
          try simp only [Act.put, List.setIfInBounds_toArray, List.set_cons_zero, List.set_cons_succ]
          refine wpAnyH_take (i := 8) (v := ?v127) rfl (by kernel_rfl) (by kernel_rfl) (by kernel_rfl) (fun _ _ _ h => h) (Or.inl ⟨by rfl, ?hy127⟩) (by assumption) ?rest127
          case hy127 => (intro w0 hSw; (try dsimp only at hSw); go_simp; try with_reducible rfl)
          try simp only [Act.put, List.setIfInBounds_toArray, List.set_cons_zero, List.set_cons_succ]
          refine wpAnyH_done (by kernel_rfl) ?_ _
          change wpList _ _ _ _ _ _
          go_wp2_with (refine wpList_store_mid rfl 49 (.tmp 74) (.tmp 73) rfl d 0 (rowD x.room gs).toArray (by simp [Act.eval]) (by simp [Act.eval]) (crash_there HC.out) (by rw [List.size_toArray, rowD_length]; exact info62) (crash_ones HC.out) ?_; try simp only [List.toList_toArray]; obtain ⟨w9, e9⟩ : ∃ w9, wr.drew.setCells d 0 (rowD x.room gs) = w9 := ⟨_, rfl⟩; rw [e9]; have E9 := Lib.hid e9; clear e9)
          go_end0
          refine ⟨rfl, ?_⟩
          rw [← E9.out]
          exact crash_close (HC.out.below ((Below.refl _ _).drew)) hok HP.out
end Go.Proofs.Ytbnnbaoimidfnaa.dsk
