/- What May, apart, New, Len and Room answer. -/
import Derived.Test.YtknldabnkaecdaaPiA
namespace Go.Proofs.Ytknldabnkaecdaa.pip
set_option linter.unusedSimpArgs false
set_option linter.unusedVariables false
open Go.RowKit
open Go.Conc (run_makeChan run_len_chan run_cap_chan)
attribute [local go_sem ↓] Go.wp_at_zero Go.wp_at_succ
theorem wpList_appR {P : Program} {w w' : World} {ops : Array Oper} {rest : List Oper} {o : Oper} {a : Act} {Q : Exit → Act → World → Prop} {v u r : Value} (hg : o.guard = none) (s x : Operand) (t : TypeId)
    (ho : o.op = .call { callee := .builtin .append, args := #[s, x], argTypes := #[t, t] }) (hs : a.eval s = v) (hx : a.eval x = u) (hr : (Builtin.append_ #[t, t] o.type #[v, u]).run P w = .ok r w')
    (h : wpList P ops Q rest (a.put o.dst r) w') : wpList P ops Q (o :: rest) a w := by
  refine wpList_plain hg fun K' hK' => ?_
  unfold Oper.wp execOp
  simp only [ho, resolve, invoke, builtin, Sem.run_bind, Sem.run_pure, Result.andThen_ok, List.map_toArray, List.map_cons, List.map_nil, hs, hx, hr]
  exact hK' _ _ h
theorem msg_at {w : World} {x y : Int} {u : Value} (N : Nat) (hN : w.heap.size = N) : ∀ w', Below (N + 1) (w.alloc (.cells #[.int .i64 x, .int .i64 y, u] 29)) w' →
    w'.cell? ⟨N, 0, none⟩ = some (.int .i64 x) ∧ w'.cell? ⟨N, 1, none⟩ = some (.int .i64 y) ∧ w'.cell? ⟨N, 2, none⟩ = some u := fun w' hb => by
  subst hN
  have h := (hb.block w.heap.size (Nat.lt_succ_self _)).trans (Go.heap_alloc_new w _)
  exact ⟨by rw [cell_of_row _ _ _ _ _ _ h]; rfl, by rw [cell_of_row _ _ _ _ _ _ h]; rfl, by rw [cell_of_row _ _ _ _ _ _ h]; rfl⟩
set_option maxHeartbeats 1600000 in
set_option maxRecDepth 1000000 in
theorem may_any {v : Value} {m : Ms} (w : World) (h : MV w v m) (hl : m.2.2.length ≤ 9223372036854775807) :
    Calls Try.prog 16 #[v] w fun e w' => e = .returned (.bool (mayB m)) ∧ Below w.heap.size w w' := by
  obtain ⟨a, c, rfl, hs⟩ := h.parts
  obtain ⟨x, y, rs⟩ := m
  dsimp only at hs hl ⊢
  obtain ⟨n, hn⟩ : ∃ n, rs.length = n := ⟨_, rfl⟩
  have hb0 := below_made w (.cells #[.int .i64 x, .int .i64 y, .slice a rs.length c] 29)
  have HB0 := Lib.hid hb0
  have HRI := Lib.hid (rise_any _ (hs.below hb0) hl)
  rw [hn] at HB0 HRI ⊢
  clear hs hb0 hl
  by_cases hx : x < 0
  · have HE : Hid (false = mayB (x, y, rs)) := Lib.hid (mayB_no (fun h => by have := h.1; simp at this; omega)).symm
    clear hn
    go_enter Try.func16, Try.ntmps16
    go_wp2_with fail
    go_ret
    exact ⟨ret_bool HE.out, HB0.out⟩
  by_cases hy : y < 0
  · have HE : Hid (false = mayB (x, y, rs)) := Lib.hid (mayB_no (fun h => by have := h.2.1; simp at this; omega)).symm
    clear hn
    go_enter Try.func16, Try.ntmps16
    go_wp2_with fail
    go_ret
    exact ⟨ret_bool HE.out, HB0.out⟩
  by_cases hy0 : 0 < y
  · by_cases hz : n = 0
    · subst hz
      have HE : Hid (true = mayB (x, y, rs)) := Lib.hid (mayB_yes ⟨by simp; omega, by simp; omega, fun _ => List.eq_nil_of_length_eq_zero hn, by rw [show (x, y, rs).2.2 = [] from List.eq_nil_of_length_eq_zero hn]; exact rises_nil⟩).symm
      clear hn
      go_enter Try.func16, Try.ntmps16
      go_wp2_with fail
      go_ret
      exact ⟨ret_bool HE.out, HB0.out⟩
    · have HE : Hid (false = mayB (x, y, rs)) := Lib.hid (mayB_no (fun h => by have := h.2.2.1 hy0; simp at this; rw [this] at hn; simp at hn; omega)).symm
      have hz' : ((n : Int) == 0) = false := by simp; omega
      have hz2 : ¬ (n : Int) = 0 := by omega
      clear hn
      go_enter Try.func16, Try.ntmps16
      go_wp2_with fail
      go_ret
      exact ⟨ret_bool HE.out, HB0.out⟩
  · have HE : Hid (riseB rs = mayB (x, y, rs)) := Lib.hid (by
      classical
      by_cases hr : Rises rs
      · rw [← riseB_yes hr, mayB_yes ⟨by simp; omega, by simp; omega, fun h => absurd h hy0, hr⟩]
      · rw [mayB_no (fun h => hr h.2.2.2)]; exact decide_eq_false hr)
    clear hn
    go_enter Try.func16, Try.ntmps16
    go_wp2_with (go_at_call 30; ((with_reducible refine HRI.out.mono ?_); rintro e w' ⟨rfl, h1⟩; have HB1 := Lib.hid h1; clear h1))
    go_ret
    exact ⟨ret_bool HE.out, below_on' HB0.out HB1.out⟩
theorem zeroMsg (w : World) : (zeroValue 29).run Try.prog w = .ok zeroV w := by kernel_rfl
/-- A message's own block. -/
def Bx (w : World) (N : Nat) (x y : Int) (u : Value) : Prop := w.heap[N]? = some (.cells #[.int .i64 x, .int .i64 y, u] 29 (0, 0))
theorem Bx.new (w : World) (x y : Int) (u : Value) : Bx (w.alloc (.cells #[.int .i64 x, .int .i64 y, u] 29)) w.heap.size x y u := Go.heap_alloc_new w _
theorem Bx.below {w w' : World} {N : Nat} {x y : Int} {u : Value} (h : Bx w N x y u) (hb : Below w.heap.size w w') : Bx w' N x y u := (hb.block N (lt_of_get h)).trans h
theorem Bx.other {w : World} {N : Nat} {x y : Int} {u : Value} (h : Bx w N x y u) {M o : Nat} (hne : N ≠ M) (v : Value) : Bx (w.setCell ⟨M, o, none⟩ v) N x y u := (Below.heap_setCell _ _ _ _ hne).trans h
theorem Bx.facts {w : World} {N : Nat} {x y : Int} {u : Value} (h : Bx w N x y u) : (w.cell? ⟨N, 0, none⟩ = some (.int .i64 x) ∧ w.cell? ⟨N, 1, none⟩ = some (.int .i64 y) ∧ w.cell? ⟨N, 2, none⟩ = some u) ∧ ∀ o, w.frozen? ⟨N, o, none⟩ = false :=
  ⟨⟨by rw [cell_of_row w N 0 _ _ _ h]; rfl, by rw [cell_of_row w N 1 _ _ _ h]; rfl, by rw [cell_of_row w N 2 _ _ _ h]; rfl⟩, fun o => frozen_of_row w N o _ _ h⟩
theorem Bx.set2 {w : World} {N : Nat} {x y : Int} {u : Value} (h : Bx w N x y u) (v : Value) : Bx (w.setCell ⟨N, 2, none⟩ v) N x y v := by
  unfold Bx at *
  rw [heap_setCell_same w N 2 _ _ _ h]; rfl
/-- A message is stored. -/
def setM (w : World) (N : Nat) (x y : Int) (u : Value) : World := ((w.setCell ⟨N, 0, none⟩ (.int .i64 x)).setCell ⟨N, 1, none⟩ (.int .i64 y)).setCell ⟨N, 2, none⟩ u
theorem Bx.set {w : World} {N : Nat} {x y : Int} {u : Value} (h : Bx w N x y u) (x' y' : Int) (u' : Value) : Bx (setM w N x' y' u') N x' y' u' := by
  unfold Bx setM at *
  have h1 := heap_setCell_same w N 0 _ _ (.int .i64 x') h
  have h2 := heap_setCell_same _ N 1 _ _ (.int .i64 y') h1
  rw [heap_setCell_same _ N 2 _ _ u' h2]; rfl
theorem below_setM {B : Nat} {w w' : World} (h : Below B w w') {N : Nat} (hN : B ≤ N) (x y : Int) (u : Value) : Below B w (setM w' N x y u) :=
  ((h.setCell (p := ⟨N, 0, none⟩) hN _).setCell (p := ⟨N, 1, none⟩) hN _).setCell (p := ⟨N, 2, none⟩) hN _
theorem only_setM {B : Nat} {w : World} (N : Nat) (x y : Int) (u : Value) : Only (· = N) w (setM w N x y u) := ((Only.setCell w N 0 _).then (Only.setCell _ N 1 _)).then (Only.setCell _ N 2 _)
/-- What a slice reads stays where a message's block is turned. -/
theorem Sr.msg {w w' : World} {v : Value} {rs : List Rc} (h : Sr w v rs) {N : Nat} (ho : Only (· = N) w w') (hN : ∀ a n c, v = .slice (some a) n c → 0 < rs.length → a.block ≠ N) : Sr w' v rs := by
  obtain ⟨a, k, h1, h2, h3, h4, h5⟩ := h
  refine ⟨a, k, h1, h2, h3, h4, fun hl => ?_⟩
  obtain ⟨g, o, e1, e2, e3⟩ := h5 hl
  have hne : g ≠ N := by have := hN ⟨g, o, none⟩ rs.length k (by rw [h1, e1]) hl; exact this
  refine ⟨g, o, e1, Nat.lt_of_lt_of_le e2 ho.size, fun j u hu => ?_⟩
  rw [World.cell?_of_block (w := w) (a := ⟨g, o + j, none⟩) (ho.block g e2 hne)]
  exact e3 j u hu
theorem own_ge {w : World} {B n : Nat} {a : Addr} {m c : Nat} {xs : List Value} {e z : Nat} (h : w.ownsRow B e z (.slice (some a) m c) n xs) : B ≤ a.block := by
  rcases h.2 with ⟨h0, _⟩ | ⟨g, cap, cur, h0, hb, _⟩
  · cases h0
  · injection h0 with h0
    injection h0 with h0
    subst h0
    exact hb
set_option maxHeartbeats 1600000 in
set_option maxRecDepth 1000000 in
/-- apart: the same message, its records in a row of their own. -/
theorem apart_any {v : Value} {m : Ms} (w : World) (h : MV w v m) (hl : m.2.2.length * 24 ≤ 140737488355328) :
    Calls Try.prog 29 #[v] w fun e w' => ∃ v', e = .returned v' ∧ MV w' v' m ∧ Below w.heap.size w w' := by
  obtain ⟨a, c, rfl, hs⟩ := h.parts
  obtain ⟨x, y, rs⟩ := m
  dsimp only at hs hl ⊢
  obtain ⟨n, hn⟩ : ∃ n, rs.length = n := ⟨_, rfl⟩
  obtain ⟨N, hN⟩ : ∃ n, w.heap.size = n := ⟨_, rfl⟩
  have hb0 := below_made w (.cells #[.int .i64 x, .int .i64 y, .slice a n c] 29)
  have hx0 := Bx.new w x y (.slice a n c)
  obtain ⟨W0, hW0⟩ : ∃ W, w.alloc (.cells #[.int .i64 x, .int .i64 y, .slice a n c] 29) = W := ⟨_, rfl⟩
  have hs0 : W0.heap.size = N + 1 := by rw [← hW0, World.size_alloc, hN]
  rw [hW0] at hb0 hx0
  have hb1 := below_made W0 (.cells #[.int .i64 0, .int .i64 0, .slice none 0 0] 29)
  have hx1 := Bx.new W0 0 0 (.slice none 0 0)
  have hx2 := hx0.below hb1
  obtain ⟨W1, hW1⟩ : ∃ W, W0.alloc (.cells #[.int .i64 0, .int .i64 0, .slice none 0 0] 29) = W := ⟨_, rfl⟩
  have hs1 : W1.heap.size = N + 2 := by rw [← hW1, World.size_alloc, hs0]
  rw [hW1] at hb1 hx1 hx2
  rw [hN] at hx2
  rw [hs0] at hx1
  have hb2 := below_on' hb0 hb1
  have hs2 := hs.below hb2
  rw [hn] at hs2 ⊢
  obtain ⟨a', c', W2, hr, ho2, hs3, hb3⟩ := appN_run hs2 hl 27
  rw [hn] at hr ho2 hs3
  have hx3 := hx2.below hb3
  have hx4 := hx1.below hb3
  have hg : ∀ ad m k, Value.slice a' n c' = .slice (some ad) m k → 0 < rs.length → ad.block ≠ N ∧ ad.block ≠ N + 1 := fun ad m k e _ => by
    injection e with e1 _ _
    rw [e1] at ho2
    have := own_ge ho2
    omega
  have HX4 := Lib.hid ((hx4.other (M := N) (o := 2) (by omega) (.slice a' n c')).set x y (.slice a' n c'))
  have HS : Hid (Sr (setM (W2.setCell ⟨N, 2, none⟩ (.slice a' n c')) (N + 1) x y (.slice a' n c')) (.slice a' n c') rs) := Lib.hid
    ((hs3.msg (Only.setCell _ N 2 _) (fun ad m k e h0 => (hg ad m k e h0).1)).msg (only_setM (B := 0) (N + 1) _ _ _) (fun ad m k e h0 => (hg ad m k e h0).2))
  have HB : Hid (Below w.heap.size w (setM (W2.setCell ⟨N, 2, none⟩ (.slice a' n c')) (N + 1) x y (.slice a' n c'))) := Lib.hid
    (below_setM ((below_on' hb2 hb3).setCell (p := ⟨N, 2, none⟩) (by rw [hN]; exact Nat.le_refl _) _) (by rw [hN]; omega) _ _ _)
  have HR := Lib.hid hr
  obtain ⟨⟨c0, c1, c2⟩, f0⟩ := hx2.facts
  obtain ⟨⟨d0, d1, d2⟩, g0⟩ := hx3.facts
  have hx5 := hx3.set2 (.slice a' n c')
  obtain ⟨⟨k0, k1, k2⟩, l0⟩ := hx5.facts
  obtain ⟨⟨p0, p1, p2⟩, q0⟩ := (hx4.other (M := N) (o := 2) (by omega) (.slice a' n c')).facts
  obtain ⟨⟨r0, r1, r2⟩, -⟩ := HX4.out.facts
  rw [hN] at HB ⊢
  clear h hs hs2 hs3 hb0 hb1 hb2 hb3 hx0 hx1 hx2 hx3 hx4 hx5 hr ho2 hl hn hg
  go_enter Try.func29, Try.ntmps29
  go_wp2_with (at_builtin; refine wpList_appR rfl (.const (.slice none 0 0)) (.tmp 4) 27 rfl rfl rfl HR.out ?_)
  unfold setM at r0 r1 r2
  refine bodyPost_ret (v := .agg #[.int .i64 x, .int .i64 y, .slice a' n c']) (by simp [results, Try.f29, go_sem, r0, r1, r2]) rfl ?_
  exact ⟨_, rfl, ⟨_, rfl, HS.out⟩, HB.out⟩
theorem infoM : (Try.prog.info? 29).map (·.bytes) = some 40 := by kernel_rfl
theorem make_chan (r : Nat) (hr : r ≤ 8) (w : World) : (Instr.makeChan 56 (.int .i64 r)).run Try.prog w = .ok (.chan (some w.heap.size)) (w.alloc (.chan r #[] false 0 0 false)) := by
  obtain ⟨i, hi, hb⟩ := Option.map_eq_some_iff.1 infoM
  exact run_makeChan (P := Try.prog) (w := w) Try.underlying56 hi .i64 r (by omega) (by rw [hb]; omega)
set_option maxRecDepth 1000000 in
theorem new_no (r : Int) (w : World) (h : r < 1 ∨ 8 < r) : Calls Try.prog 11 #[.int .i64 r] w fun e w' => e = .returned (.tuple #[.pointer none, .int .i64 2]) ∧ w' = w := by
  by_cases h1 : r < 1
  · clear h
    go_enter Try.func11, Try.ntmps11
    go_wp2_with fail
    go_ret2
    exact ⟨rfl, rfl⟩
  · have h8 : 8 < r := by omega
    clear h
    go_enter Try.func11, Try.ntmps11
    go_wp2_with fail
    go_ret2
    exact ⟨rfl, rfl⟩
theorem newPipe_is (w : World) (r : Nat) : IsPipe ((w.alloc (.chan r #[] false 0 0 false)).alloc (.cells #[.chan (some w.heap.size)] 58)) (w.heap.size + 1) w.heap.size r [] := by
  refine ⟨?_, ⟨0, 0, ?_⟩, Nat.zero_le _⟩
  · have := Go.heap_alloc_new (w.alloc (.chan r #[] false 0 0 false)) (.cells #[.chan (some w.heap.size)] 58)
    rwa [World.size_alloc] at this
  · rw [Below.heap_alloc _ _ _ (by simp)]
    exact Go.heap_alloc_new w _
set_option maxRecDepth 1000000 in
theorem new_yes (r : Nat) (w : World) (h1 : 1 ≤ r) (h8 : r ≤ 8) : Calls Try.prog 11 #[.int .i64 r] w fun e w' =>
    e = .returned (.tuple #[.pointer (some ⟨w.heap.size + 1, 0, none⟩), .int .i64 0]) ∧ IsPipe w' (w.heap.size + 1) w.heap.size r [] ∧ Below w.heap.size w w' := by
  have HP := Lib.hid (newPipe_is w r)
  have HB : Hid (Below w.heap.size w ((w.alloc (.chan r #[] false 0 0 false)).alloc (.cells #[.chan (some w.heap.size)] 58))) := Lib.hid (below_on' (below_made _ _) (below_made _ _))
  have hmc := make_chan r h8 w
  have g1 : ¬ ((r : Int) < 1) := by omega
  have g2 : ¬ (8 < (r : Int)) := by omega
  clear h1 h8
  go_enter Try.func11, Try.ntmps11
  go_wp2_with fail
  go_ret2
  exact ⟨rfl, HP.out, HB.out⟩
set_option maxRecDepth 1000000 in
theorem len_nil (w : World) : Calls Try.prog 14 #[.pointer none] w fun e w' => e = .returned (.int .i64 0) ∧ w' = w := by
  go_enter Try.func14, Try.ntmps14
  go_wp2_with fail
  go_ret
  exact ⟨rfl, rfl⟩
set_option maxRecDepth 1000000 in
theorem room_nil (w : World) : Calls Try.prog 15 #[.pointer none] w fun e w' => e = .returned (.int .i64 0) ∧ w' = w := by
  go_enter Try.func15, Try.ntmps15
  go_wp2_with fail
  go_ret
  exact ⟨rfl, rfl⟩
theorem chan_len {w : World} {c room : Nat} {L : List Value} (h : ChanAt w c room L) (ty : TypeId) : (Builtin.len_ #[56] ty #[.chan (some c)]).run Try.prog w = .ok (.int .i64 L.length) w := by
  obtain ⟨s, r, hc⟩ := h
  have := run_len_chan (P := Try.prog) 56 ty Try.underlying56 hc
  simpa [goInt] using this
theorem chan_cap {w : World} {c room : Nat} {L : List Value} (h : ChanAt w c room L) (ty : TypeId) : (Builtin.cap_ #[56] ty #[.chan (some c)]).run Try.prog w = .ok (.int .i64 room) w := by
  obtain ⟨s, r, hc⟩ := h
  exact run_cap_chan (P := Try.prog) 56 ty Try.underlying56 hc
set_option maxRecDepth 1000000 in
theorem len_any {w : World} {p c room : Nat} {L : List Value} (h : IsPipe w p c room L) : Calls Try.prog 14 #[.pointer (some ⟨p, 0, none⟩)] w fun e w' => e = .returned (.int .i64 L.length) ∧ w' = w := by
  have hc := h.cell
  have hl := chan_len h.way
  clear h
  go_enter Try.func14, Try.ntmps14
  go_wp2_with fail
  go_ret
  exact ⟨rfl, rfl⟩
set_option maxRecDepth 1000000 in
theorem room_any {w : World} {p c room : Nat} {L : List Value} (h : IsPipe w p c room L) (hr : room ≤ 8) : Calls Try.prog 15 #[.pointer (some ⟨p, 0, none⟩)] w fun e w' => e = .returned (.int .i64 ((room : Int) - L.length)) ∧ Below w.heap.size w w' := by
  have hc := h.cell
  have hl : ∀ n ty, (Builtin.len_ #[56] ty #[.chan (some c)]).run Try.prog (w.drewN n) = .ok (.int .i64 L.length) (w.drewN n) := fun n ty => chan_len (w := w.drewN n) (by obtain ⟨s, r, hc⟩ := h.way; exact ⟨s, r, hc⟩) ty
  have hk : ∀ n ty, (Builtin.cap_ #[56] ty #[.chan (some c)]).run Try.prog (w.drewN n) = .ok (.int .i64 room) (w.drewN n) := fun n ty => chan_cap (w := w.drewN n) (by obtain ⟨s, r, hc⟩ := h.way; exact ⟨s, r, hc⟩) ty
  obtain ⟨n, hn⟩ : ∃ n, L.length = n := ⟨_, rfl⟩
  have h2 : (n : Int) ≤ 8 := by have := h.len; omega
  have h3 : (room : Int) ≤ 8 := by omega
  rw [hn] at hl ⊢
  clear h hn hr
  go_enter Try.func15, Try.ntmps15
  go_wp2_with fail
  go_quiet (fail)
  go_wp2_with fail
  go_ret
  exact ⟨rfl, below_drewN _ _⟩
end Go.Proofs.Ytknldabnkaecdaa.pip
