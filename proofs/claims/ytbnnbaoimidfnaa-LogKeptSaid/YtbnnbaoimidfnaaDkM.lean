/- What a crash goes through: the files that are kept, in an array of their own. -/
import Derived.Test.YtbnnbaoimidfnaaDkL
namespace Go.Proofs.Ytbnnbaoimidfnaa.dsk
set_option linter.unusedSimpArgs false
set_option linter.unusedVariables false
open Go.RowKit

/-- One way out alone, in one state. -/
def EndsAt (A : Act) (W : World) : Exit → Act → World → Prop
  | .normal, a, w => a = A ∧ w = W
  | _, _, _ => False
theorem wp_ends {P : Program} {c : Code} {Q : Exit → Act → World → Prop} {a A : Act} {w W : World} (h : c.wp P (EndsAt A W) a w) (hq : Q .normal A W) : c.wp P Q a w :=
  wp_mono h fun e a w h => by
    cases e with
    | normal => obtain ⟨rfl, rfl⟩ := h; exact hq
    | _ => exact h.elim

/-- The cells of a disk behind a crash. -/
def rowD (room : Nat) (gs : Nat → Value) : List Value := (List.range 36).map (cellsD room false (-1) gs gs (.slice none 0 0))
theorem rowD_length (room : Nat) (gs : Nat → Value) : (rowD room gs).length = 36 := by simp [rowD]
theorem info62 : (Try.prog.info? 49).map (·.size) = some 36 := by kernel_rfl
theorem run_build_disk (room : Nat) (gs : Nat → Value) (w : World) :
    (Instr.build 49 #[(0, .int .i64 room), (2, .int .i64 (-1)), (3, .agg (row16 gs).toArray), (4, .agg (row16 gs).toArray)]).run Try.prog w = .ok (.agg (rowD room gs).toArray) w := by
  kernel_rfl

/-- In the midst of a crash of the disk x in w: the array b has the files f. -/
structure Cm (w wr : World) (F : Nat → Prop) (d : Nat) (x : D) (vs us : Nat → Value) (lo : Value) (ps : List (Value × Value)) (b : Nat) (gs : Nat → Value) (f : Files) : Prop where
  row : wr.rowIs d 49 36 (cellsD x.room x.off x.left vs us lo)
  arr : wr.rowIs b 46 16 gs
  fls : Fls wr gs f
  loose : wr.ownsRow 0 69 2 lo x.loose.length (pairs ps)
  num : ps.length = x.loose.length
  chg : ∀ (k : Nat) (c : Chg) (p : Value × Value), x.loose[k]? = some c → ps[k]? = some p → IsChg wr F c p.1 p.2
  only : Only F w wr
  blk : ∀ i, i < 16 → ∀ g, (gs i).ownBlock = some g → Grow F w wr g
  ge : w.heap.size ≤ b
  own : F d
  lt : ∀ k, F k → k < w.heap.size
section
variable {w wr w' : World} {F : Nat → Prop} {d b : Nat} {x : D} {vs us gs gs' : Nat → Value} {lo : Value} {ps : List (Value × Value)} {f f' : Files}
theorem Cm.below (m : Cm w wr F d x vs us lo ps b gs f) (hb : Below wr.heap.size wr w') : Cm w w' F d x vs us lo ps b gs f := by
  have hblk : ∀ (k : Nat) (C : Array Value) (T : TypeId) (fr : Nat × Nat), wr.heap[k]? = some (.cells C T fr) → w'.heap[k]? = wr.heap[k]? := fun k C T fr hk => hb.block k (Array.getElem?_eq_some_iff.1 hk).1
  refine ⟨m.row.of_block (hb.block d m.row.lt), m.arr.of_block (hb.block b m.arr.lt), m.fls.below hb, own_frame m.loose fun g hg => ?_, m.num, fun k c p h1 h2 => (m.chg k c p h1 h2).frame (fun k T v _ _ hx => (hblk k _ T _ hx).trans hx) fun _ h => h, m.only.on hb, fun i hi g hg => ?_, m.ge, m.own, m.lt⟩
  · obtain ⟨cur, hc⟩ := own_kind m.loose hg
    exact hblk g _ _ _ hc
  · rcases m.blk i hi g hg with h | ⟨h1, h2⟩
    · exact .inl h
    · exact .inr ⟨h1, Nat.lt_of_lt_of_le h2 hb.size⟩
theorem Cm.did (m : Cm w wr F d x vs us lo ps b gs f) (hd : Did wr w' b 0 16 46 gs gs gs' f') : Cm w w' F d x vs us lo ps b gs' f' := by
  have hoth : ∀ (k : Nat) (C : Array Value) (T : TypeId) (fr : Nat × Nat), wr.heap[k]? = some (.cells C T fr) → T ≠ 5 → T ≠ 46 → w'.heap[k]? = wr.heap[k]? := fun k C T fr hk h5 h59 => hd.other m.fls m.arr hk h5 h59
  obtain ⟨c, hdc, _⟩ := id m.row
  refine ⟨m.row.of_block (hoth d _ _ _ hdc (by decide) (by decide)), hd.row.congr fun j hj => ?_, hd.fls, own_frame m.loose fun g hg => ?_, m.num, fun k c p h1 h2 => (m.chg k c p h1 h2).frame (fun k T v _ hT hx => (hoth k _ T _ hx ?_ ?_).trans hx) fun _ h => h, ?_, fun i hi g hg => ?_, m.ge, m.own, m.lt⟩
  · have := with16_in (o := 0) (F := gs) (vs := gs') (i := j) hj
    rwa [Nat.zero_add] at this
  · obtain ⟨cur, hc⟩ := own_kind m.loose hg
    exact hoth g _ _ _ hc (by decide) (by decide)
  · rcases hT with rfl | rfl | rfl <;> decide
  · rcases hT with rfl | rfl | rfl <;> decide
  · have ho := m.only
    refine ⟨hd.os.trans ho.os, hd.tape.trans ho.tape, hd.output.trans ho.output, Nat.le_trans ho.size hd.size, fun k hk hn => ?_⟩
    rw [hd.block k (Nat.lt_of_lt_of_le hk ho.size) (by have := m.ge; omega) fun i hi e => ?_]
    · exact ho.block k hk hn
    · rcases m.blk i hi k e with h | ⟨h1, _⟩
      · exact hn h
      · omega
  · rcases hd.own i hi g hg with ⟨j, hj, h1⟩ | h1
    · rcases m.blk j hj g h1 with h | ⟨h2, h3⟩
      · exact .inl h
      · exact .inr ⟨h2, Nat.lt_of_lt_of_le h3 hd.size⟩
    · exact .inr ⟨Nat.le_trans m.only.size h1, (hd.fls.has i hi).lt hg⟩
/-- Behind the last store it is the disk that the crash made. -/
theorem crash_close (m : Cm w wr F d x vs us lo ps b gs f) (hok : x.Ok) {n k : Int} (hf : x.kept n k = f) : Post F d (x.crash n k) w (wr.setCells d 0 (rowD x.room gs)) := by
  have hr := row_setCells (rowD x.room gs) 0 wr _ m.row
  have hfl : Fls (wr.setCells d 0 (rowD x.room gs)) gs f := by
    refine m.fls.frame fun i hi g hg => ?_
    obtain ⟨cur, hc⟩ := (m.fls.has i hi).kind hg
    obtain ⟨c, hd', _⟩ := m.row
    exact heap_setCells_other d _ 0 wr g (kind_ne hc hd' (by decide))
  have hsz := (setCells_world d (rowD x.room gs) 0 wr).2.2.2
  refine ⟨⟨gs, gs, .slice none 0 0, [], hr.congr fun j hj => ?_, ⟨by rw [D.crash_now, hf]; exact hfl, by show Fls _ gs (x.kept n k); rw [hf]; exact hfl, hfl.crs, World.ownsRow_nil _ _ _ _, rfl, fun k c p h => by simp [D.crash] at h, fun i hi g hg => ?_, fun i hi g hg => ?_, fun g hg => by simp [Value.ownBlock] at hg, fun k hk => ?_⟩, D.crash_ok hok n k, .inl m.own⟩, m.only.then ((only_setCells d _ 0 wr).mono fun k hk => by rw [hk]; exact m.own)⟩
  · rw [rowD_length, if_pos (by omega), Nat.sub_zero, List.getD_eq_getElem?_getD]
    unfold rowD
    rw [List.getElem?_map, List.getElem?_range hj]
    rfl
  · rcases m.blk i hi g hg with h | ⟨h1, h2⟩
    · exact .inl h
    · exact .inr ⟨h1, by rw [hsz]; exact h2⟩
  · rcases m.blk i hi g hg with h | ⟨h1, h2⟩
    · exact .inl h
    · exact .inr ⟨h1, by rw [hsz]; exact h2⟩
  · rcases hk with h | h
    · rw [hsz]; exact Nat.lt_of_lt_of_le (m.lt k h) m.only.size
    · exact h.2
/-- The array that the crash begins with. -/
theorem cm_start {o : Obj} {Z : Array Value} (hx : w.rowIs d 49 36 (cellsD x.room x.off x.left vs us lo)) (hR : Rest w F x x.now vs us lo ps) (hd : F d) (hZ : Z.size = 16) (ho : o = .cells Z 46) :
    Cm w ((w.drew.alloc o).setCells w.heap.size 0 (row16 us)) F d x vs us lo ps w.heap.size us x.sure := by
  subst ho
  have hnew : (w.drew.alloc (.cells Z 46)).heap[w.heap.size]? = some (.cells Z 46 (0, 0)) := heap_alloc_new w.drew _
  have hrow : (w.drew.alloc (.cells Z 46)).rowIs w.heap.size 46 16 (fun j => Z.getD j undef) := ⟨Z, hnew, hZ, fun i hi => by simp [hZ, hi]⟩
  have hold : ∀ k, k < w.heap.size → ((w.drew.alloc (.cells Z 46)).setCells w.heap.size 0 (row16 us)).heap[k]? = w.heap[k]? := fun k hk => by
    rw [heap_setCells_other _ _ _ _ k (by omega)]
    exact heap_alloc_old w.drew _ hk
  obtain ⟨h1, h2, h3, h4⟩ := setCells_world w.heap.size (row16 us) 0 (w.drew.alloc (.cells Z 46))
  have hsz : w.heap.size ≤ ((w.drew.alloc (.cells Z 46)).setCells w.heap.size 0 (row16 us)).heap.size := by rw [h4]; simp
  refine ⟨hx.of_block (hold d hx.lt), (row_set16 hrow us).congr fun j hj => ?_, hR.sure.frame fun i hi g hg => hold g (hR.lt g (hR.fu i hi g hg)), own_frame hR.loose fun g hg => hold g (hR.lt g (hR.fl g hg)), hR.num, fun k c p h1 h2 => (hR.chg k c p h1 h2).frame (fun b T v hb _ hx => (hold b (hR.lt b hb)).trans hx) fun _ h => h, ⟨h1, h2, h3, hsz, fun k hk _ => hold k hk⟩, fun i hi g hg => .inl (hR.fu i hi g hg), Nat.le_refl _, hd, hR.lt⟩
  have := with16_in (o := 0) (F := fun j => Z.getD j undef) (vs := us) (i := j) hj
  rwa [Nat.zero_add] at this
/-- What the k-th of the loose ones looks like. -/
theorem chg_forms {c : Chg} {v1 v2 : Value} (hc : IsChg w F c v1 v2) : (∃ i s p q r, c = .app i s ∧ v1 = .func (.func 36) #[] #[ptr p 0, ptr q 0] ∧ v2 = .func (.func 34) #[] #[ptr r 0, ptr q 0] ∧ Box w q 9 (.string s) ∧ Box w r 3 (.int .i64 i)) ∨
    ((∀ f n, part f c n = f) ∧ ∃ p q, (v1 = .func (.func 37) #[] #[ptr p 0, ptr q 0] ∨ False) ∧ v2 = .nilFunc) := by
  cases c with
  | app i s =>
    obtain ⟨bf, bs, bi, e1, e2, _, h2, h3⟩ := hc
    exact .inl ⟨i, s, bf, bs, bi, rfl, e1, e2, h2.1, h3.1⟩
  | cut i m =>
    obtain ⟨bi, bn, e1, e2, _⟩ := hc
    exact .inr ⟨fun _ _ => rfl, bi, bn, .inl e1, e2⟩
  | mov a b =>
    exact hc.elim
end
end Go.Proofs.Ytbnnbaoimidfnaa.dsk
