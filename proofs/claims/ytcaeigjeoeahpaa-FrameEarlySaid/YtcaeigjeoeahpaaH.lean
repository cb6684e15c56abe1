/- What frame.Whole answers: of every text that is no longer than 1000000 bytes. -/
import Derived.Test.YtcaeigjeoeahpaaG
namespace Go.Proofs.Ytcaeigjeoeahpaa
open Go.RowKit Go.Shelf byt
attribute [local go_sem] Oper.semAt_some

theorem cell_box {W : World} {B : Nat} {v : Value} {t : TypeId} (h : W.heap[B]? = some (.cells #[v] t (0, 0))) : W.cell? ⟨B, 0, none⟩ = some v ∧ W.frozen? ⟨B, 0, none⟩ = false := by
  constructor <;> simp [World.cell?, World.frozen?, h]
theorem cell_new (W : World) (v : Value) (t : TypeId) : (W.alloc (.cells #[v] t)).cell? ⟨W.heap.size, 0, none⟩ = some v ∧ (W.alloc (.cells #[v] t)).frozen? ⟨W.heap.size, 0, none⟩ = false :=
  cell_box (World.alloc_heap_new W _)
theorem cell_on {W : World} {a : Addr} {v : Value} (o : Obj) (h : W.cell? a = some v) : (W.alloc o).cell? a = some v := cell_kept h (World.grownBy_alloc W o none) (fun r e => by cases e)
theorem frozen_on {W : World} {a : Addr} {v : Value} (o : Obj) (h : W.cell? a = some v) (hf : W.frozen? a = false) : (W.alloc o).frozen? a = false := (frozen_kept h (World.grownBy_alloc W o none) (fun r e => by cases e)).trans hf

/-- Put of one number, behind a draw. -/
theorem put_one_drew {n : Int} {t : ByteArray} (ht : txt (sev (tf n)) = t) (W : World) (hn : fits n) :
    Calls Try.prog 25 #[.slice (some ⟨W.heap.size, 0, none⟩) 1 1] (W.alloc (.cells #[.int .i64 n] 2)).drew fun e w' => e = .returned (.string t) ∧ Below W.heap.size W w' :=
  (put_one_at ht W.drew hn).mono fun _ _ h => ⟨h.1, h.2.os, h.2.tape, h.2.output, h.2.size, h.2.block⟩
theorem held_cell {W W2 : World} {a : Addr} {v : Value} (hb : Below W.heap.size W W2) (hlt : a.block < W.heap.size) (hc : W.cell? a = some v) : W2.cell? a = some v := (hb.cell hlt).trans hc
theorem held_frozen {W W2 : World} {a : Addr} (hb : Below W.heap.size W W2) (hlt : a.block < W.heap.size) (hf : W.frozen? a = false) : W2.frozen? a = false := (World.frozen?_of_block (w := W) (hb.block _ hlt)).trans hf
theorem below_keeps {W W2 : World} (hb : Below W.heap.size W W2) : KeepsOthers W W2 := KeepsOthers.of_grownBy (grown_of_below hb) (fun j o e => by cases e)
theorem whole_round {w W W2 : World} {z : Int} {l : Nat} {v : Value} (h2 : Below W.heap.size W W2) (hB : Below w.heap.size w W) (hc : W2.cell? ⟨w.heap.size, 0, none⟩ = some v) (hf : W2.frozen? ⟨w.heap.size, 0, none⟩ = false) (hz : z = l) :
    KeepsOthers W (W2.setCell ⟨w.heap.size, 0, none⟩ (.int .i64 z)) ∧ True ∧ (((W2.setCell ⟨w.heap.size, 0, none⟩ (.int .i64 z)).cell? ⟨w.heap.size, 0, none⟩ = some (.int .i64 l) ∧ (W2.setCell ⟨w.heap.size, 0, none⟩ (.int .i64 z)).frozen? ⟨w.heap.size, 0, none⟩ = false) ∧
      Below w.heap.size w (W2.setCell ⟨w.heap.size, 0, none⟩ (.int .i64 z))) := by
  subst hz
  exact ⟨(below_keeps h2).trans (KeepsOthers.setCell _ _ _), trivial, ⟨World.cell?_setCell_same' _ _ _ (by rw [hc]; rfl), by rw [World.frozen?_setCell]; exact hf⟩, (hB.trans (h2.mono hB.size)).setCell (p := ⟨w.heap.size, 0, none⟩) (Nat.le_refl _) _⟩
set_option maxRecDepth 1000000 in
set_option maxHeartbeats 2000000 in
theorem whole_any (s : ByteArray) (w : World) (hs : s.size ≤ 1000000) : Calls Try.prog 16 #[.string s] w fun e w' => e = .returned (.int .i64 (whl (all s) : Nat)) ∧ Below w.heap.size w w' := by
  have hs' : s.size ≤ 9223372036854775807 := by omega
  refine (callsIn_wide (n := 3)).1 ?_
  refine callsIn_of_wp_marks Try.func16 rfl trivial ?_ rfl
  simp only [Try.ntmps16, List.size_toArray, List.length_cons, List.length_nil, Nat.reduceAdd, Nat.reduceSub, Array.replicate_succ, Array.replicate_zero, List.push_toArray, List.append_toArray, List.nil_append, List.cons_append]
  gi_wp2_with (refine ⟨trivial, ?_⟩; gi_at_call 15; ((with_reducible refine (callsIn_wide.2 (all_in s _)).mono ?_); rintro e w' ⟨rfl, rfl⟩))
  have c0 := cell_new w (.int .i64 0) 3
  have c1 := cell_new (w.alloc (.cells #[.int .i64 0] 3)) (.string s) 9
  rw [World.size_alloc] at c1
  have hB0 : Below w.heap.size w ((w.alloc (.cells #[.int .i64 0] 3)).alloc (.cells #[.string s] 9)) := ((Below.refl _ w).alloc (Nat.le_refl _) _).alloc (by simp) _
  refine wpIn_rangeFunc_ownF rfl (by omega) (gf := 24) (lb := #[.pointer (some ⟨w.heap.size + 1, 0, none⟩)]) rfl trivial (enters_of Try.func24 (by kernel_rfl) rfl)
    (all_stops _ (w.heap.size + 1) s hs' _ (by simp) c1.1) (fun _ _ => trivial) (fun _ _ _ _ _ _ _ _ => trivial) (Below.refl _ _) (fun _ => rfl)
    (fun pre W => (W.cell? ⟨w.heap.size, 0, none⟩ = some (.int .i64 (whl pre : Nat)) ∧ W.frozen? ⟨w.heap.size, 0, none⟩ = false) ∧ Below w.heap.size w W)
    (fun _ _ _ => False)
    (OwnFrom.and (Own.from (fun s A B row hs hg hr => ⟨cell_kept hs.1 hg hr, (frozen_kept hs.1 hg hr).trans hs.2⟩) _) (ownFrom_below (Nat.le_refl _) (by simp; omega)))
    (fun _ _ _ _ _ hs _ _ => hs)
    ⟨⟨cell_on _ c0.1, frozen_on _ c0.1 c0.2⟩, hB0⟩
    (fun x => { tmps := #[.string s, undef, .int .i64 0, .pointer (some ⟨w.heap.size, 0, none⟩), undef, .string x.1.2, .string s, .func (.func 24) #[] #[.pointer (some ⟨w.heap.size + 1, 0, none⟩)], .int .u8 x.1.1, .string x.1.2, undef, undef, undef, undef, undef, undef, undef, undef, undef, undef, undef, undef, undef], defers := [] }) ?assign ?body ?done ?stop
  case assign =>
    intro l x W K hK
    gi_wp2
    exact hK
  case body =>
    rintro l pre ⟨⟨k, p⟩, hk, hp⟩ W ⟨⟨hc, hf⟩, hB⟩ hlen
    dsimp only at hk hp ⊢
    have hlt : w.heap.size < W.heap.size := World.block_lt_of_cell? W _ hc
    have hfit : fits (p.size : Int) := fits_size (by omega)
    obtain ⟨q, hq⟩ : ∃ q, txt (sev (tf p.size)) = q := ⟨_, rfl⟩
    have hq10 : q.size ≤ 10 := by rw [← hq]; exact sev_room hfit
    have hfz : fsz ⟨(k, p), hk, hp⟩ = 1 + q.size + p.size + 4 := by unfold fsz; rw [← hq, txt_size]
    have hlen' : pre.length ≤ 1000000 := by have := whl_len (all s); have := all_whl s; omega
    have hwl := whl_le pre
    obtain ⟨m, hm⟩ : ∃ m, whl pre = m := ⟨_, rfl⟩
    have HS := Lib.hid (show whl (pre ++ [⟨(k, p), hk, hp⟩]) = m + (1 + q.size + p.size + 4) by rw [whl_append, whl, whl, hfz, hm])
    rw [hm] at hc hwl
    have HQ := Lib.hid hq
    clear hq hfz hm
    have hw1 : IntKind.i64.wrap (1 + (q.size : Int)) = 1 + (q.size : Int) := by rw [IntKind.wrap_i64]; omega
    have hw2 : IntKind.i64.wrap (1 + (q.size : Int) + (p.size : Int)) = 1 + (q.size : Int) + (p.size : Int) := by rw [IntKind.wrap_i64]; omega
    have hw3 : IntKind.i64.wrap (1 + (q.size : Int) + (p.size : Int) + 4) = 1 + (q.size : Int) + (p.size : Int) + 4 := by rw [IntKind.wrap_i64]; omega
    have hw4 : IntKind.i64.wrap ((m : Int) + (1 + (q.size : Int) + (p.size : Int) + 4)) = (m : Int) + (1 + (q.size : Int) + (p.size : Int) + 4) := by rw [IntKind.wrap_i64]; omega
    gi_wp2
    refine round_region (by kernel_rfl) (by kernel_rfl) (fun ⟨_, _, h⟩ => h) ?_
    refine wpAny_take (i := 1) (v := ?v1) rfl (by kernel_rfl) (by kernel_rfl) (by kernel_rfl) (fun _ _ _ h => h) (Or.inl ⟨by rfl, ?hy1⟩) ?rest1
    case hy1 => (intro w0; go_simp; try with_reducible rfl)
    refine wpAny_take (i := 2) (v := ?v2) rfl (by kernel_rfl) (by kernel_rfl) (by kernel_rfl) (fun _ _ _ h => h) (Or.inl ⟨by rfl, ?hy2⟩) ?rest2
    case hy2 => (intro w0; go_simp; try with_reducible rfl)
    refine wpAny_take (i := 7) (v := ?v3) rfl (by kernel_rfl) (by kernel_rfl) (by kernel_rfl) (fun _ _ _ h => h) (Or.inl ⟨by rfl, ?hy3⟩) ?rest3
    case hy3 => (intro w0; go_simp; try with_reducible rfl)
    refine wpAny_take (i := 8) (v := ?v4) rfl (by kernel_rfl) (by kernel_rfl) (by kernel_rfl) (fun _ _ _ h => h) (Or.inl ⟨by rfl, ?hy4⟩) ?rest4
    case hy4 => (intro w0; go_simp; try with_reducible rfl)
    refine wpAny_ready (rs := [0, 3]) (by kernel_rfl) (by simp) ?_
    refine (AllReady.cons rfl (fun K hK => ?_) (AllReady.cons rfl (fun K hK => ?_) AllReady.nil))
    · go_simp
      refine hK _ _ ?_
      clear hK K
      refine wpAny_ready (rs := [3]) (by kernel_rfl) (by simp) ?_
      refine (AllReady.cons rfl (fun K hK => ?_) AllReady.nil)
      go_simp
      refine hK _ _ ?_
      clear hK K
      refine wpAny_ready (rs := [4]) (by kernel_rfl) (by simp) ?_
      refine (AllReady.cons rfl (fun K hK => ?_) AllReady.nil)
      go_simp
      go_at_call 25
      refine (put_one_drew HQ.out W hfit).mono ?_
      rintro e W2 ⟨rfl, hb2⟩
      have hc2 := held_cell hb2 hlt hc
      have hf2 := held_frozen hb2 hlt hf
      have HB2 := Lib.hid hb2
      clear hb2
      dsimp only
      refine hK _ _ ?_
      clear hK K
      refine wpAny_take (i := 5) (v := ?v5) rfl (by kernel_rfl) (by kernel_rfl) (by kernel_rfl) (fun _ _ _ h => h) (Or.inl ⟨by rfl, ?hy5⟩) ?rest5
      case hy5 => (intro w0; go_simp; try with_reducible rfl)
      refine wpAny_take (i := 6) (v := ?v6) rfl (by kernel_rfl) (by kernel_rfl) (by kernel_rfl) (fun _ _ _ h => h) (Or.inl ⟨by rfl, ?hy6⟩) ?rest6
      case hy6 => (intro w0; go_simp; try with_reducible rfl)
      refine wpAny_take (i := 9) (v := ?v7) rfl (by kernel_rfl) (by kernel_rfl) (by kernel_rfl) (fun _ _ _ h => h) (Or.inl ⟨by rfl, ?hy7⟩) ?rest7
      case hy7 => (intro w0; go_simp; try with_reducible rfl)
      refine wpAny_take (i := 10) (v := ?v8) rfl (by kernel_rfl) (by kernel_rfl) (by kernel_rfl) (fun _ _ _ h => h) (Or.inl ⟨by rfl, ?hy8⟩) ?rest8
      case hy8 => (intro w0; go_simp; try with_reducible rfl)
      refine wpAny_take (i := 11) (v := ?v9) rfl (by kernel_rfl) (by kernel_rfl) (by kernel_rfl) (fun _ _ _ h => h) (Or.inl ⟨by rfl, ?hy9⟩) ?rest9
      case hy9 => (intro w0; go_simp; try with_reducible rfl)
      refine wpAny_ready (rs := [12]) (by kernel_rfl) (by simp) ?_
      refine (AllReady.cons rfl (fun K hK => ?_) AllReady.nil)
      go_simp
      refine hK _ _ ?_
      clear hK K
      refine wpAny_done (by kernel_rfl) ?_ _
      exact whole_round HB2.out hB hc2 hf2 (by rw [HS.out]; omega)
    · go_simp
      refine hK _ _ ?_
      clear hK K
      refine wpAny_ready (rs := [0, 4]) (by kernel_rfl) (by simp) ?_
      refine (AllReady.cons rfl (fun K hK => ?_) (AllReady.cons rfl (fun K hK => ?_) AllReady.nil))
      · go_simp
        refine hK _ _ ?_
        clear hK K
        refine wpAny_ready (rs := [4]) (by kernel_rfl) (by simp) ?_
        refine (AllReady.cons rfl (fun K hK => ?_) AllReady.nil)
        go_simp
        go_at_call 25
        refine (put_one_drew HQ.out W hfit).mono ?_
        rintro e W2 ⟨rfl, hb2⟩
        have hc2 := held_cell hb2 hlt hc
        have hf2 := held_frozen hb2 hlt hf
        have HB2 := Lib.hid hb2
        clear hb2
        dsimp only
        refine hK _ _ ?_
        clear hK K
        refine wpAny_take (i := 5) (v := ?v10) rfl (by kernel_rfl) (by kernel_rfl) (by kernel_rfl) (fun _ _ _ h => h) (Or.inl ⟨by rfl, ?hy10⟩) ?rest10
        case hy10 => (intro w0; go_simp; try with_reducible rfl)
        refine wpAny_take (i := 6) (v := ?v11) rfl (by kernel_rfl) (by kernel_rfl) (by kernel_rfl) (fun _ _ _ h => h) (Or.inl ⟨by rfl, ?hy11⟩) ?rest11
        case hy11 => (intro w0; go_simp; try with_reducible rfl)
        refine wpAny_take (i := 9) (v := ?v12) rfl (by kernel_rfl) (by kernel_rfl) (by kernel_rfl) (fun _ _ _ h => h) (Or.inl ⟨by rfl, ?hy12⟩) ?rest12
        case hy12 => (intro w0; go_simp; try with_reducible rfl)
        refine wpAny_take (i := 10) (v := ?v13) rfl (by kernel_rfl) (by kernel_rfl) (by kernel_rfl) (fun _ _ _ h => h) (Or.inl ⟨by rfl, ?hy13⟩) ?rest13
        case hy13 => (intro w0; go_simp; try with_reducible rfl)
        refine wpAny_take (i := 11) (v := ?v14) rfl (by kernel_rfl) (by kernel_rfl) (by kernel_rfl) (fun _ _ _ h => h) (Or.inl ⟨by rfl, ?hy14⟩) ?rest14
        case hy14 => (intro w0; go_simp; try with_reducible rfl)
        refine wpAny_ready (rs := [12]) (by kernel_rfl) (by simp) ?_
        refine (AllReady.cons rfl (fun K hK => ?_) AllReady.nil)
        go_simp
        refine hK _ _ ?_
        clear hK K
        refine wpAny_done (by kernel_rfl) ?_ _
        exact whole_round HB2.out hB hc2 hf2 (by rw [HS.out]; omega)
      · go_simp
        go_at_call 25
        refine (put_one_drew HQ.out W hfit).mono ?_
        rintro e W2 ⟨rfl, hb2⟩
        have hc2 := held_cell hb2 hlt hc
        have hf2 := held_frozen hb2 hlt hf
        have HB2 := Lib.hid hb2
        clear hb2
        dsimp only
        refine hK _ _ ?_
        clear hK K
        refine wpAny_take (i := 5) (v := ?v15) rfl (by kernel_rfl) (by kernel_rfl) (by kernel_rfl) (fun _ _ _ h => h) (Or.inl ⟨by rfl, ?hy15⟩) ?rest15
        case hy15 => (intro w0; go_simp; try with_reducible rfl)
        refine wpAny_take (i := 6) (v := ?v16) rfl (by kernel_rfl) (by kernel_rfl) (by kernel_rfl) (fun _ _ _ h => h) (Or.inl ⟨by rfl, ?hy16⟩) ?rest16
        case hy16 => (intro w0; go_simp; try with_reducible rfl)
        refine wpAny_take (i := 9) (v := ?v17) rfl (by kernel_rfl) (by kernel_rfl) (by kernel_rfl) (fun _ _ _ h => h) (Or.inl ⟨by rfl, ?hy17⟩) ?rest17
        case hy17 => (intro w0; go_simp; try with_reducible rfl)
        refine wpAny_take (i := 10) (v := ?v18) rfl (by kernel_rfl) (by kernel_rfl) (by kernel_rfl) (fun _ _ _ h => h) (Or.inl ⟨by rfl, ?hy18⟩) ?rest18
        case hy18 => (intro w0; go_simp; try with_reducible rfl)
        refine wpAny_ready (rs := [0]) (by kernel_rfl) (by simp) ?_
        refine (AllReady.cons rfl (fun K hK => ?_) AllReady.nil)
        go_simp
        refine hK _ _ ?_
        clear hK K
        refine wpAny_take (i := 11) (v := ?v19) rfl (by kernel_rfl) (by kernel_rfl) (by kernel_rfl) (fun _ _ _ h => h) (Or.inl ⟨by rfl, ?hy19⟩) ?rest19
        case hy19 => (intro w0; go_simp; try with_reducible rfl)
        refine wpAny_ready (rs := [12]) (by kernel_rfl) (by simp) ?_
        refine (AllReady.cons rfl (fun K hK => ?_) AllReady.nil)
        go_simp
        refine hK _ _ ?_
        clear hK K
        refine wpAny_done (by kernel_rfl) ?_ _
        exact whole_round HB2.out hB hc2 hf2 (by rw [HS.out]; omega)
  case done =>
    rintro D ys W hD rfl ⟨⟨hc, _⟩, hB⟩ hK
    gi_wp2
    refine ⟨by simp, .inl ⟨_, _, rfl, run_takeDeferred hK, ?_⟩⟩
    exact ⟨_, results_tmp rfl _ _ _, rfl, hB.trans (belowK_b (w := w) (Nat.le_refl _) W D _ _ (by simp at hD; omega) hK rfl rfl)⟩
  case stop =>
    rintro D c pre W _ _ h _
    exact h.elim
end Go.Proofs.Ytcaeigjeoeahpaa
