/- What a node that reduces does of a record. -/
import Derived.Test.YtamdbfkofdjmlaaOpT
namespace Go.Proofs.Ytamdbfkofdjmlaa.opr
set_option linter.unusedSimpArgs false
set_option linter.unusedVariables false
open Go.RowKit
attribute [local go_sem ↓] Go.wp_at_zero Go.wp_at_succ
open Go.Proofs.Ytamdbfkofdjmlaa.tbl (Only lt_of_get IsTab Two putO TabO Rows2 mkC GetPost PutPost)
open Go.Proofs.Ytamdbfkofdjmlaa.grp (below_on' below_made fits)
open Go.Proofs.Ytamdbfkofdjmlaa.exp (Ex Lies En intO exV enV)
theorem IsTab.stay {w w' : World} {t b : Nat} {L : tbl.Rows} (h : IsTab w t b L) (hs : Stay w w') : IsTab w' t b L := by
  obtain ⟨es, ck, hb⟩ := h.map.isMap
  have ht := h.obj
  unfold TabO at ht
  exact h.keep ((hs t _ ht (fun cur fr e => by cases e)).trans ht.symm) ((hs b _ hb (fun cur fr e => by cases e)).trans hb.symm) (fun g cur fr hg => hs g _ hg (fun cur fr e => by cases e))
theorem Own.base {w : World} {B C : Nat} {v : Value} {l : List Rc} (h : Own w B v l) (hC : C ≤ B) : Own w C v l := by
  rcases h.2 with ⟨e1, e2⟩ | ⟨g, cap, cur, e1, e2, e3, e4⟩
  · exact ⟨h.1, .inl ⟨e1, e2⟩⟩
  · exact ⟨h.1, .inr ⟨g, cap, cur, e1, Nat.le_trans hC e2, e3, e4⟩⟩
/-- A box of one value. -/
def One (w : World) (b : Nat) (ty : TypeId) (v : Value) : Prop := w.heap[b]? = some (.cells #[v] ty (0, 0))
theorem One.below {w w' : World} {b : Nat} {ty : TypeId} {v : Value} (h : One w b ty v) (hb : Below w.heap.size w w') : One w' b ty v := (hb.block b (lt_of_get h)).trans h
theorem One.cell {w : World} {b : Nat} {ty : TypeId} {v : Value} (h : One w b ty v) : w.cell? ⟨b, 0, none⟩ = some v := by rw [cell_of_row _ _ _ _ _ _ h]; rfl
theorem One.new (w : World) (ty : TypeId) (v : Value) : One (w.alloc (.cells #[v] ty)) w.heap.size ty v := Go.heap_alloc_new w _
theorem only_two {w w' : World} {t b : Nat} {L : tbl.Rows} (h : IsTab w t b L) (ho : Only (Two t b) w w') {j : Nat} {ob : Obj} (hj : w.heap[j]? = some ob) (h1 : ∀ (cur : Array Value) (fr : Nat × Nat), ob ≠ Obj.cells cur 57 fr) (h2 : ∀ es ck, ob ≠ Obj.map es ck) : w'.heap[j]? = some ob := by
  obtain ⟨es, ck, hb⟩ := h.map.isMap
  have ht := h.obj
  unfold TabO at ht
  refine (ho.block j (lt_of_get hj) ?_).trans hj
  rintro (e | e)
  · rw [e, ht] at hj; exact h1 _ _ (Option.some.inj hj).symm
  · rw [e, hb] at hj; exact h2 _ _ (Option.some.inj hj).symm
/-- What stands of a node that reduces. -/
structure RedI (nv : Nv) (args : List Ex) (B : Nat → Prop) (t b : Nat) (bd : Array Value) (L : tbl.Rows) (w : World) : Prop where
  tab : IsTab w t b L
  ex : ∃ b1 b2 nb, bd = #[.pointer (some ⟨b1, 0, none⟩), .pointer (some ⟨b2, 0, none⟩)] ∧ One w b1 33 (.pointer (some ⟨t, 0, none⟩)) ∧
    One w b2 80 (.func (.func 33) #[] #[.pointer (some ⟨nb, 0, none⟩)]) ∧ NBox w nb nv ∧ Lies w B (.slice nv.xa nv.xl nv.xc) args
theorem RedI.stay {nv : Nv} {args : List Ex} {B : Nat → Prop} {t b : Nat} {bd : Array Value} {L : tbl.Rows} {w w' : World} (h : RedI nv args B t b bd L w) (hs : Stay w w') : RedI nv args B t b bd L w' := by
  obtain ⟨b1, b2, nb, e, h1, h2, h3, h4⟩ := h.ex
  refine ⟨IsTab.stay h.tab hs, b1, b2, nb, e, hs _ _ h1 (fun cur fr e => by cases e), hs _ _ h2 (fun cur fr e => by cases e), hs _ _ h3 (fun cur fr e => by cases e), h4.frame (fun k c _ hk => (hs k _ hk (fun cur fr e => by cases e)).trans hk.symm)⟩
theorem RedI.two {nv : Nv} {args : List Ex} {B : Nat → Prop} {t b : Nat} {bd : Array Value} {L L' : tbl.Rows} {w w' : World} (h : RedI nv args B t b bd L w) (ht : IsTab w' t b L') (ho : Only (Two t b) w w') : RedI nv args B t b bd L' w' := by
  obtain ⟨b1, b2, nb, e, h1, h2, h3, h4⟩ := h.ex
  have k := fun (j : Nat) (ob : Obj) (hj : w.heap[j]? = some ob) => only_two h.tab ho hj
  refine ⟨ht, b1, b2, nb, e, k _ _ h1 (fun cur fr e => by cases e) (fun es ck e => by cases e), k _ _ h2 (fun cur fr e => by cases e) (fun es ck e => by cases e), k _ _ h3 (fun cur fr e => by cases e) (fun es ck e => by cases e), h4.frame (fun q c _ hq => (k _ _ hq (fun cur fr e => by cases e) (fun es ck e => by cases e)).trans hq.symm)⟩
/-- What is kept of a key. -/
def acc0 (L : tbl.Rows) (k : Int) : Int := match tbl.look L k with
  | none => 0
  | some c => c.1
theorem get_acc {w : World} {t b : Nat} {L : tbl.Rows} (h : IsTab w t b L) {k : Int} (hk : fits k) : Calls Try.prog 60 #[.pointer (some ⟨t, 0, none⟩), .int .i64 k] w fun e w' =>
    ∃ a n cap f, e = .returned (.tuple #[.agg #[.int .i64 (acc0 L k), .slice a n cap], .bool f]) ∧ Below w.heap.size w w' := by
  refine (tbl.get_any h hk).mono ?_
  rintro e w' ⟨h1, h2⟩
  unfold acc0
  cases hl : tbl.look L k with
  | none =>
    rw [hl] at h1
    exact ⟨none, 0, 0, false, h1, h2⟩
  | some c =>
    rw [hl] at h1
    obtain ⟨a, cap, h3, h4⟩ := h1
    exact ⟨a, c.2.length, cap, true, h3, h2⟩
theorem put_acc {w : World} {t b : Nat} {L L' : tbl.Rows} (h : IsTab w t b L) {k x : Int} (hk : fits k) (hx : fits x) (hp : putO L k (x, []) = (0, L')) : Calls Try.prog 28 #[.pointer (some ⟨t, 0, none⟩), .int .i64 k, .agg #[.int .i64 x, .slice none 0 0]] w fun e w' =>
    e = .returned (.int .i64 0) ∧ IsTab w' t b L' ∧ Only (Two t b) w w' := by
  refine (tbl.put_any h hk hx (ns := []) (by simp) (tbl.Sl.nil w) (by simp) (by simp)).mono ?_
  rintro e w' ⟨h1, h2, h3⟩
  rw [hp] at h1 h2
  exact ⟨h1, h2, h3⟩
set_option maxHeartbeats 6400000 in
set_option maxRecDepth 1000000 in
theorem red_step {w : World} {nv : Nv} {args : List Ex} {B : Nat → Prop} {t b : Nat} {bd : Array Value} {L L' : tbl.Rows} (h : RedI nv args B t b bd L w) (hs : (Ex.mk nv.op nv.xn args).size ≤ 1000000) (r : Rc) (hk : fits r.2.1) {x : Int} (hx : intO (Ex.mk nv.op nv.xn args) ⟨r.2.1, r.2.2, acc0 L r.2.1⟩ = x) (hfx : fits x) (hp : putO L r.2.1 (x, []) = (0, L')) :
    Calls Try.prog 59 (#[rcA r] ++ bd) w fun e w' => ∃ v', e = .returned v' ∧ Own w' w.heap.size v' [(r.1, r.2.1, x)] ∧ RedI nv args B t b bd L' w' ∧ Only (Two t b) w w' := by
  obtain ⟨b1, b2, nb, rfl, h1, h2, h3, h4⟩ := id h.ex
  have hb0 := below_made w (.cells #[.int .i64 r.1, .int .i64 r.2.1, .int .i64 r.2.2] 32)
  obtain ⟨q0, q1, q2⟩ := rec_box w r
  have z1 := (h1.below hb0).cell
  have HG := Lib.hid (get_acc (h.tab.below hb0) hk)
  have HH := Lib.hid h
  have HB0 := Lib.hid hb0
  have HX := Lib.hid (fun W (hW : Below w.heap.size w W) => x_any (h3.below hW) (h4.under hW) hs r (acc0 L r.2.1))
  have H2 := Lib.hid (fun W (hW : Below w.heap.size w W) => (h2.below hW).cell)
  have H1 := Lib.hid (fun W (hW : Below w.heap.size w W) => (h1.below hW).cell)
  have HPUT := Lib.hid (fun W (hW : Below w.heap.size w W) => put_acc (h.tab.below hW) hk hfx hp)
  have HONE := Lib.hid (fun W => one_any r.1 r.2.1 x W)
  have HREC := Lib.hid (fun W (hW : Below (w.alloc (.cells #[.int .i64 r.1, .int .i64 r.2.1, .int .i64 r.2.2] 32)).heap.size (w.alloc (.cells #[.int .i64 r.1, .int .i64 r.2.1, .int .i64 r.2.2] 32)) W) =>
    (show W.cell? ⟨w.heap.size, 0, none⟩ = some (.int .i64 r.1) ∧ W.cell? ⟨w.heap.size, 1, none⟩ = some (.int .i64 r.2.1) ∧ W.cell? ⟨w.heap.size, 2, none⟩ = some (.int .i64 r.2.2) from
      ⟨(hW.cell (p := ⟨w.heap.size, 0, none⟩) (by simp)).trans q0, (hW.cell (p := ⟨w.heap.size, 1, none⟩) (by simp)).trans q1, (hW.cell (p := ⟨w.heap.size, 2, none⟩) (by simp)).trans q2⟩))
  obtain ⟨A, hA⟩ : ∃ A, acc0 L r.2.1 = A := ⟨_, rfl⟩
  rw [hA] at hx HG HX
  simp only [hx] at HX
  clear h h1 h2 h3 h4 hb0 hs hk hx hfx hp hA
  obtain ⟨r1, r2, r3⟩ := r
  unfold rcA at HX ⊢
  dsimp only at HG HX HPUT HONE HREC HB0 q0 q1 q2 z1 ⊢
  go_enter Try.func59, Try.ntmps59
  go_wp2_with fail
  (with_reducible refine HG.out.mono ?_)
  rintro e w1 ⟨a, n, cap, f, rfl, hb1⟩
  have hbm := below_made w1 (.cells #[.int .i64 A, .slice a n cap] 69)
  have hbw := below_on' hb1 hbm
  have hbw0 := below_on' HB0.out hbw
  obtain ⟨p0, p1, p2⟩ := HREC.out _ hbw
  have p3 := H2.out _ hbw0
  obtain ⟨p4, -, -, -⟩ := (tbl.Box2.new w1 (A, a, n, cap)).facts
  dsimp only at p4
  have HX2 := Lib.hid (HX.out _ hbw0)
  have HBW := Lib.hid hbw
  have HBW0 := Lib.hid hbw0
  clear hb1 hbm hbw hbw0 HG HX
  go_wp2_with fail
  (with_reducible refine HX2.out.mono ?_)
  rintro e w2 ⟨rfl, hb2⟩
  have hbw := below_on' HBW.out hb2
  have hbw0 := below_on' HBW0.out hb2
  obtain ⟨s0, s1, s2⟩ := HREC.out _ hbw
  have s3 := H1.out _ hbw0
  have HP2 := Lib.hid (HPUT.out _ hbw0)
  have HBV := Lib.hid hbw
  have HBV0 := Lib.hid hbw0
  clear hb2 hbw hbw0 HX2 p0 p1 p2 p3 p4
  go_wp2_with fail
  (with_reducible refine HP2.out.mono ?_)
  rintro e w3 ⟨rfl, ht3, ho3⟩
  have hon : Only (Two t b) w w3 := (Only.of_below HBV0.out).then ho3
  have HRI := Lib.hid (HH.out.two ht3 hon)
  have hr3 : w3.heap[w.heap.size]? = some (.cells #[.int .i64 r1, .int .i64 r2, .int .i64 r3] 32 (0, 0)) := by
    have e1 := (HBV.out.block w.heap.size (by simp)).trans (Go.heap_alloc_new w (.cells #[.int .i64 r1, .int .i64 r2, .int .i64 r3] 32))
    exact only_two (HH.out.tab.below HBV0.out) ho3 e1 (fun cur fr e => by cases e) (fun es ck e => by cases e)
  have y0 : w3.cell? ⟨w.heap.size, 0, none⟩ = some (.int .i64 r1) := by rw [cell_of_row _ _ _ _ _ _ hr3]; rfl
  have y1 : w3.cell? ⟨w.heap.size, 1, none⟩ = some (.int .i64 r2) := by rw [cell_of_row _ _ _ _ _ _ hr3]; rfl
  have HON := Lib.hid hon
  clear ht3 ho3 hon hr3 HP2 s0 s1 s2 s3
  go_wp2_with fail
  refine (HONE.out _).mono ?_
  rintro e w4 ⟨v', rfl, ho4, hb4⟩
  obtain ⟨a4, c4, rfl⟩ := ho4.len
  have HF := Lib.hid (show ∃ v', Ending.returned (.slice a4 [(r1, r2, x)].length c4) = .returned v' ∧ Own w4 w.heap.size v' [(r1, r2, x)] ∧ RedI nv args B t b #[.pointer (some ⟨b1, 0, none⟩), .pointer (some ⟨b2, 0, none⟩)] L' w4 ∧ Only (Two t b) w w4 from
    ⟨_, rfl, ho4.base HON.out.size, HRI.out.stay (.of_below hb4), HON.out.on hb4⟩)
  clear ho4 hb4
  go_wp2
  go_ret
  exact HF.out
end Go.Proofs.Ytamdbfkofdjmlaa.opr
