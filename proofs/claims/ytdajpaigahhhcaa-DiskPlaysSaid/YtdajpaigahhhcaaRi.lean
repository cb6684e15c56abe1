/- A call on both disks: they answer alike. -/
import Derived.Test.YtdajpaigahhhcaaRh
namespace Go.Proofs.Ytdajpaigahhhcaa.dsk
set_option linter.unusedSimpArgs false
set_option linter.unusedVariables false
open Go.RowKit

/-- Both disks, apart, made by the call itself. -/
structure Pair (B : Nat) (w0 : World) (F G : Nat → Prop) (d r : Nat) (x y : D) (w : World) : Prop where
  disk : IsDisk w F d x
  ref : IsRef w G r y
  apart : ∀ k, F k → ¬ G k
  fB : ∀ k, F k → B ≤ k
  gB : ∀ k, G k → B ≤ k
  below : Below B w0 w
  base : B ≤ w0.heap.size
section
variable {B : Nat} {w0 w w' : World} {F G : Nat → Prop} {d r : Nat} {x y x2 y2 : D}
theorem Pair.size (h : Pair B w0 F G d r x y w) : B ≤ w.heap.size := Nat.le_trans h.base h.below.size
theorem Pair.on (h : Pair B w0 F G d r x y w) (hb : Below w.heap.size w w') : Pair B w0 F G d r x y w' :=
  ⟨h.disk.below hb, h.ref.below hb, h.apart, h.fB, h.gB, h.below.trans (hb.mono h.size), h.base⟩
theorem grow_B (h : ∀ k, F k → B ≤ k) (hs : B ≤ w.heap.size) : ∀ k, Grow F w w' k → B ≤ k := fun k hk => by
  rcases hk with hk | hk
  · exact h k hk
  · omega
theorem Pair.did (h : Pair B w0 F G d r x y w) (hp : Post F d x2 w w') : Pair B w0 (Grow F w w') G d r x2 y w' :=
  ⟨hp.disk, h.ref.other hp.only (fun k hk hF => h.apart k hF hk), fun k hk hG => by
    rcases hk with hk | hk
    · exact h.apart k hk hG
    · have := h.ref.lt hG; omega, grow_B h.fB h.size, h.gB, h.below.trans (hp.only.below h.size h.fB), h.base⟩
theorem Pair.redid (h : Pair B w0 F G d r x y w) (hp : PostR G r y2 w w') : Pair B w0 F (Grow G w w') d r x y2 w' :=
  ⟨h.disk.other hp.only (fun k hF hG => h.apart k hF hG), hp.disk, fun k hF hk => by
    rcases hk with hk | hk
    · exact h.apart k hF hk
    · have := h.disk.lt hF; omega, h.fB, grow_B h.gB h.size, h.below.trans (hp.only.below h.size h.gB), h.base⟩
/-- .. and the box of the call. -/
structure PB (B : Nat) (w0 : World) (F G : Nat → Prop) (d r : Nat) (x y : D) (bx : Nat) (p : Opn) (w : World) : Prop where
  pair : Pair B w0 F G d r x y w
  box : w.heap[bx]? = some (.cells #[.int .i64 p.kind, .int .i64 p.f, .int .i64 p.n, .int .i64 p.m, .string p.s] 41 (0, 0))
  nF : ¬ F bx
  nG : ¬ G bx
variable {bx : Nat} {p : Opn}
theorem PB.on (h : PB B w0 F G d r x y bx p w) (hb : Below w.heap.size w w') : PB B w0 F G d r x y bx p w' :=
  ⟨h.pair.on hb, (hb.block bx (Array.getElem?_eq_some_iff.1 h.box).1).trans h.box, h.nF, h.nG⟩
theorem PB.did (h : PB B w0 F G d r x y bx p w) (hp : Post F d x2 w w') : PB B w0 (Grow F w w') G d r x2 y bx p w' :=
  ⟨h.pair.did hp, (hp.only.block bx (Array.getElem?_eq_some_iff.1 h.box).1 h.nF).trans h.box, fun hk => by
    rcases hk with hk | hk
    · exact h.nF hk
    · have := (Array.getElem?_eq_some_iff.1 h.box).1; omega, h.nG⟩
theorem PB.redid (h : PB B w0 F G d r x y bx p w) (hp : PostR G r y2 w w') : PB B w0 F (Grow G w w') d r x y2 bx p w' :=
  ⟨h.pair.redid hp, (hp.only.block bx (Array.getElem?_eq_some_iff.1 h.box).1 h.nG).trans h.box, h.nF, fun hk => by
    rcases hk with hk | hk
    · exact h.nG hk
    · have := (Array.getElem?_eq_some_iff.1 h.box).1; omega⟩
theorem PB.of (h : Pair B w0 F G d r x y w) (p : Opn) : PB B w0 F G d r x y w.heap.size p (w.alloc (.cells #[.int .i64 p.kind, .int .i64 p.f, .int .i64 p.n, .int .i64 p.m, .string p.s] 41)) :=
  ⟨h.on (below_alloc _ _), heap_alloc_new w _, fun hk => by have := h.disk.lt hk; omega, fun hk => by have := h.ref.lt hk; omega⟩
theorem PB.c (h : PB B w0 F G d r x y bx p w) : w.cell? ⟨bx, 0, none⟩ = some (.int .i64 p.kind) ∧ w.cell? ⟨bx, 1, none⟩ = some (.int .i64 p.f) ∧ w.cell? ⟨bx, 2, none⟩ = some (.int .i64 p.n) ∧ w.cell? ⟨bx, 3, none⟩ = some (.int .i64 p.m) ∧ w.cell? ⟨bx, 4, none⟩ = some (.string p.s) :=
  ⟨by rw [cell_of_row _ _ _ _ _ _ h.box]; rfl, by rw [cell_of_row _ _ _ _ _ _ h.box]; rfl, by rw [cell_of_row _ _ _ _ _ _ h.box]; rfl, by rw [cell_of_row _ _ _ _ _ _ h.box]; rfl, by rw [cell_of_row _ _ _ _ _ _ h.box]; rfl⟩
end
theorem op_len {x x2 : D} {E : Int} (h : x.op = (E, x2)) : x2.loose.length = x.loose.length := by
  have := D.op_loose x; rw [h] at this; rw [show x2.loose = x.loose from this]
theorem chg_len {x x2 : D} {E : Int} {c : Chg} (h : x.chg c = (E, x2)) : x2.loose.length ≤ x.loose.length + 1 := by
  unfold D.chg at h
  split at h
  · rw [← (Prod.mk.inj h).2]; simp
  · have := op_len h; omega
theorem append_len {x x2 : D} {E i : Int} {s : ByteArray} (h : x.append i s = (E, x2)) : x2.loose.length ≤ x.loose.length + 1 := by
  unfold D.append at h
  split at h
  · rw [← (Prod.mk.inj h).2]; omega
  · split at h
    · rw [← (Prod.mk.inj h).2]; omega
    · split at h
      · rw [← (Prod.mk.inj h).2]; omega
      · exact chg_len h
theorem cut_len {x x2 : D} {E i n : Int} (h : x.cut i n = (E, x2)) : x2.loose.length ≤ x.loose.length + 1 := by
  unfold D.cut at h
  split at h
  · rw [← (Prod.mk.inj h).2]; omega
  · split at h
    · rw [← (Prod.mk.inj h).2]; omega
    · split at h
      · rw [← (Prod.mk.inj h).2]; omega
      · exact chg_len h
theorem move_len {x x2 : D} {E a b : Int} (h : x.move a b = (E, x2)) : x2.loose.length ≤ x.loose.length + 1 := by
  unfold D.move at h
  split at h
  · rw [← (Prod.mk.inj h).2]; omega
  · split at h
    · rw [← (Prod.mk.inj h).2]; omega
    · split at h
      · rw [← (Prod.mk.inj h).2]; omega
      · exact chg_len h
theorem sync_len {x x2 : D} {E : Int} (h : x.sync = (E, x2)) : x2.loose.length ≤ x.loose.length + 1 := by
  unfold D.sync at h
  split at h
  · rw [← (Prod.mk.inj h).2]; omega
  · split at h
    · rw [← (Prod.mk.inj h).2]; simp
    · have := op_len h; omega
theorem power_len {x x2 : D} {E n : Int} (h : x.power n = (E, x2)) : x2.loose.length ≤ x.loose.length + 1 := by
  unfold D.power at h
  split at h
  · rw [← (Prod.mk.inj h).2]; omega
  · split at h
    · rw [← (Prod.mk.inj h).2]; omega
    · rw [← (Prod.mk.inj h).2]; simp
/-- Behind a call both are the same disk. -/
def Alike (B : Nat) (w0 : World) (d r m : Nat) (w : World) : Prop := ∃ F G x, Pair B w0 F G d r x x w ∧ x.loose.length ≤ m
set_option maxHeartbeats 6400000 in
set_option maxRecDepth 100000 in
theorem does_any (p : Opn) (hfit : p.fit) (B : Nat) (w0 : World) (F G : Nat → Prop) (d r : Nat) (x : D) (w : World) (h : Pair B w0 F G d r x x w) (hlen : x.loose.length ≤ 300) :
    Calls Try.prog 23 #[ptr d 0, ptr r 0, .agg #[.int .i64 p.kind, .int .i64 p.f, .int .i64 p.n, .int .i64 p.m, .string p.s]] w fun e w' => e = .returned (.bool true) ∧ Alike B w0 d r (x.loose.length + 1) w' := by
  obtain ⟨W, hW⟩ : ∃ W, w.alloc (.cells #[.int .i64 p.kind, .int .i64 p.f, .int .i64 p.n, .int .i64 p.m, .string p.s] 41) = W := ⟨_, rfl⟩
  have hpb := PB.of h p
  rw [hW] at hpb
  obtain ⟨bx, hbx⟩ : ∃ bx, w.heap.size = bx := ⟨_, rfl⟩
  rw [hbx] at hpb
  have HP0 := Lib.hid hpb
  have HW := Lib.hid hW
  have HBX := Lib.hid hbx
  have HLEN := Lib.hid hlen
  have HLEN2 := Lib.hid (show x.loose.length ≤ 1099511627776 by omega)
  obtain ⟨hc0, hc1, hc2, hc3, hc4⟩ := hpb.c
  obtain ⟨fk, ff, fn, fm, fs⟩ := hfit
  have HFN := Lib.hid fn
  have HFM := Lib.hid fm
  clear hpb hW hbx hlen h fk ff fn fm fs
  by_cases hk0 : p.kind = 0
  · have hkb0 : (p.kind == 0) = true := by simp [hk0]
    clear hk0
    obtain ⟨E, x2, hcall⟩ : ∃ E x2, x.append p.f p.s = (E, x2) := ⟨_, _, rfl⟩
    have HC := Lib.hid (fun (_ : Unit) => hcall)
    have HL := Lib.hid (append_len hcall)
    clear hcall
    go_enter Try.func23, Try.ntmps23
    go_wp2_with (rw [HBX.out, HW.out])
    refine wp_region_held (S := fun W => W.cell? ⟨bx, 1, none⟩ = some (.int .i64 p.f) ∧ W.cell? ⟨bx, 4, none⟩ = some (.string p.s)) (by kernel_rfl) ?_
    have HP1 := Lib.hid (HP0.out.on (below_drew _))
    have hHeld : (fun W : World => W.cell? ⟨bx, 1, none⟩ = some (.int .i64 p.f) ∧ W.cell? ⟨bx, 4, none⟩ = some (.string p.s)) W.drew := by
      obtain ⟨g0, g1, g2, g3, g4⟩ := HP1.out.c
      exact ⟨by assumption, by assumption⟩
    refine wpAnyH_take (i := 0) (v := ?v1) rfl (by kernel_rfl) (by kernel_rfl) (by kernel_rfl) (fun _ _ _ h => h) (Or.inl ⟨by rfl, ?hy1⟩) (by assumption) ?rest1
    case hy1 => (intro w0 hSw; (try dsimp only at hSw); go_simp; try with_reducible rfl)
    try simp only [Act.put, List.getElem_toArray, List.getElem_cons_zero, List.getElem_cons_succ, List.setIfInBounds_toArray, List.set_cons_zero, List.set_cons_succ]
    refine wpAnyH_take (i := 1) (v := ?v2) rfl (by kernel_rfl) (by kernel_rfl) (by kernel_rfl) (fun _ _ _ h => h) (Or.inl ⟨by rfl, ?hy2⟩) (by assumption) ?rest2
    case hy2 => (intro w0 hSw; (try dsimp only at hSw); go_simp; try with_reducible rfl)
    try simp only [Act.put, List.getElem_toArray, List.getElem_cons_zero, List.getElem_cons_succ, List.setIfInBounds_toArray, List.set_cons_zero, List.set_cons_succ]
    refine wpAnyH_take (i := 2) (v := ?v3) rfl (by kernel_rfl) (by kernel_rfl) (by kernel_rfl) (fun _ _ _ h => h) (Or.inl ⟨by rfl, ?hy3⟩) (by assumption) ?rest3
    case hy3 => (intro w0 hSw; (try dsimp only at hSw); go_simp; try with_reducible rfl)
    try simp only [Act.put, List.getElem_toArray, List.getElem_cons_zero, List.getElem_cons_succ, List.setIfInBounds_toArray, List.set_cons_zero, List.set_cons_succ]
    refine wpAnyH_take (i := 3) (v := ?v4) rfl (by kernel_rfl) (by kernel_rfl) (by kernel_rfl) (fun _ _ _ h => h) (Or.inl ⟨by rfl, ?hy4⟩) (by assumption) ?rest4
    case hy4 => (intro w0 hSw; (try dsimp only at hSw); go_simp; try with_reducible rfl)
    try simp only [Act.put, List.getElem_toArray, List.getElem_cons_zero, List.getElem_cons_succ, List.setIfInBounds_toArray, List.set_cons_zero, List.set_cons_succ]
    refine wpAnyH_take (i := 4) (v := ?v5) rfl (by kernel_rfl) (by kernel_rfl) (by kernel_rfl) (fun _ _ _ h => h) (Or.inl ⟨by rfl, ?hy5⟩) (by assumption) ?rest5
    case hy5 => (intro w0 hSw; (try dsimp only at hSw); go_simp; try with_reducible rfl)
    try simp only [Act.put, List.getElem_toArray, List.getElem_cons_zero, List.getElem_cons_succ, List.setIfInBounds_toArray, List.set_cons_zero, List.set_cons_succ]
    refine wpAnyH_take (i := 6) (v := ?v6) rfl (by kernel_rfl) (by kernel_rfl) (by kernel_rfl) (fun _ _ _ h => h) (Or.inl ⟨by rfl, ?hy6⟩) (by assumption) ?rest6
    case hy6 => (intro w0 hSw; (try dsimp only at hSw); go_simp; try with_reducible rfl)
    try simp only [Act.put, List.getElem_toArray, List.getElem_cons_zero, List.getElem_cons_succ, List.setIfInBounds_toArray, List.set_cons_zero, List.set_cons_succ]
    refine wpAnyH_take (i := 7) (v := ?v7) rfl (by kernel_rfl) (by kernel_rfl) (by kernel_rfl) (fun _ _ _ h => h) (Or.inl ⟨by rfl, ?hy7⟩) (by assumption) ?rest7
    case hy7 => (intro w0 hSw; (try dsimp only at hSw); go_simp; try with_reducible rfl)
    try simp only [Act.put, List.getElem_toArray, List.getElem_cons_zero, List.getElem_cons_succ, List.setIfInBounds_toArray, List.set_cons_zero, List.set_cons_succ]
    refine wpAnyH_take (i := 8) (v := ?v8) rfl (by kernel_rfl) (by kernel_rfl) (by kernel_rfl) (fun _ _ _ h => h) (Or.inl ⟨by rfl, ?hy8⟩) (by assumption) ?rest8
    case hy8 => (intro w0 hSw; (try dsimp only at hSw); go_simp; try with_reducible rfl)
    try simp only [Act.put, List.getElem_toArray, List.getElem_cons_zero, List.getElem_cons_succ, List.setIfInBounds_toArray, List.set_cons_zero, List.set_cons_succ]
    refine wpAnyH_take (i := 9) (v := ?v9) rfl (by kernel_rfl) (by kernel_rfl) (by kernel_rfl) (fun _ _ _ h => h) (Or.inl ⟨by rfl, ?hy9⟩) (by assumption) ?rest9
    case hy9 => (intro w0 hSw; (try dsimp only at hSw); go_simp; try with_reducible rfl)
    try simp only [Act.put, List.getElem_toArray, List.getElem_cons_zero, List.getElem_cons_succ, List.setIfInBounds_toArray, List.set_cons_zero, List.set_cons_succ]
    refine wpAnyH_take (i := 10) (v := ?v10) rfl (by kernel_rfl) (by kernel_rfl) (by kernel_rfl) (fun _ _ _ h => h) (Or.inl ⟨by rfl, ?hy10⟩) (by assumption) ?rest10
    case hy10 => (intro w0 hSw; (try dsimp only at hSw); go_simp; try with_reducible rfl)
    try simp only [Act.put, List.getElem_toArray, List.getElem_cons_zero, List.getElem_cons_succ, List.setIfInBounds_toArray, List.set_cons_zero, List.set_cons_succ]
    refine wpAnyH_ready (rs := [5]) (by kernel_rfl) (by simp) ?_
    refine AllReadyH.cons rfl (fun KK hK => ?_) AllReadyH.nil
    go_simp
    go_at_call 11
    refine (append_at (HC.out ()) _ F d HP1.out.pair.disk HLEN2.out).mono ?_
    rintro e w3 ⟨rfl, hp⟩
    have HP3 := Lib.hid (HP1.out.did hp)
    clear hp
    refine hK.out _ _ ?_ (fun hHeld => ?_)
    · exact (by obtain ⟨g0, g1, g2, g3, g4⟩ := HP3.out.c; exact ⟨by assumption, by assumption⟩)
    clear hK KK
    try simp only [Act.put, List.getElem_toArray, List.getElem_cons_zero, List.getElem_cons_succ, List.setIfInBounds_toArray, List.set_cons_zero, List.set_cons_succ]
    refine wpAnyH_ready (rs := [11]) (by kernel_rfl) (by simp) ?_
    refine AllReadyH.cons rfl (fun KK hK => ?_) AllReadyH.nil
    go_simp
    go_at_call 38
    refine (rappend_at (HC.out ()) HLEN.out _ G r HP3.out.pair.ref).mono ?_
    rintro e w4 ⟨rfl, hp⟩
    have HP4 := Lib.hid (HP3.out.redid hp)
    clear hp
    refine hK.out _ _ ?_ (fun hHeld => ?_)
    · exact (by obtain ⟨g0, g1, g2, g3, g4⟩ := HP4.out.c; exact ⟨by assumption, by assumption⟩)
    clear hK KK
    try simp only [Act.put, List.getElem_toArray, List.getElem_cons_zero, List.getElem_cons_succ, List.setIfInBounds_toArray, List.set_cons_zero, List.set_cons_succ]
    refine wpAnyH_take (i := 12) (v := ?v11) rfl (by kernel_rfl) (by kernel_rfl) (by kernel_rfl) (fun _ _ _ h => h) (Or.inl ⟨by rfl, ?hy11⟩) (by assumption) ?rest11
    case hy11 => (intro w0 hSw; (try dsimp only at hSw); go_simp; try with_reducible rfl)
    try simp only [Act.put, List.getElem_toArray, List.getElem_cons_zero, List.getElem_cons_succ, List.setIfInBounds_toArray, List.set_cons_zero, List.set_cons_succ]
    refine wpAnyH_take (i := 13) (v := ?v12) rfl (by kernel_rfl) (by kernel_rfl) (by kernel_rfl) (fun _ _ _ h => h) (Or.inl ⟨by rfl, ?hy12⟩) (by assumption) ?rest12
    case hy12 => (intro w0 hSw; (try dsimp only at hSw); go_simp; try with_reducible rfl)
    try simp only [Act.put, List.getElem_toArray, List.getElem_cons_zero, List.getElem_cons_succ, List.setIfInBounds_toArray, List.set_cons_zero, List.set_cons_succ]
    refine wpAnyH_done (by kernel_rfl) ?_ _
    clear hHeld
    go_wp2
    go_ret
    exact ⟨rfl, _, _, _, HP4.out.pair, HL.out⟩
  by_cases hk1 : p.kind = 1
  · have hkb0 : (p.kind == 0) = false := by simp [hk1]
    have hkb1 : (p.kind == 1) = true := by simp [hk1]
    clear hk0 hk1
    obtain ⟨E, x2, hcall⟩ : ∃ E x2, x.cut p.f p.n = (E, x2) := ⟨_, _, rfl⟩
    have HC := Lib.hid (fun (_ : Unit) => hcall)
    have HL := Lib.hid (cut_len hcall)
    clear hcall
    go_enter Try.func23, Try.ntmps23
    go_wp2_with (rw [HBX.out, HW.out])
    refine wp_region_held (S := fun W => W.cell? ⟨bx, 1, none⟩ = some (.int .i64 p.f) ∧ W.cell? ⟨bx, 2, none⟩ = some (.int .i64 p.n)) (by kernel_rfl) ?_
    have HP1 := Lib.hid (HP0.out.on (below_drew _))
    have hHeld : (fun W : World => W.cell? ⟨bx, 1, none⟩ = some (.int .i64 p.f) ∧ W.cell? ⟨bx, 2, none⟩ = some (.int .i64 p.n)) W.drew := by
      obtain ⟨g0, g1, g2, g3, g4⟩ := HP1.out.c
      exact ⟨by assumption, by assumption⟩
    refine wpAnyH_take (i := 0) (v := ?v13) rfl (by kernel_rfl) (by kernel_rfl) (by kernel_rfl) (fun _ _ _ h => h) (Or.inl ⟨by rfl, ?hy13⟩) (by assumption) ?rest13
    case hy13 => (intro w0 hSw; (try dsimp only at hSw); go_simp; try with_reducible rfl)
    try simp only [Act.put, List.getElem_toArray, List.getElem_cons_zero, List.getElem_cons_succ, List.setIfInBounds_toArray, List.set_cons_zero, List.set_cons_succ]
    refine wpAnyH_take (i := 1) (v := ?v14) rfl (by kernel_rfl) (by kernel_rfl) (by kernel_rfl) (fun _ _ _ h => h) (Or.inl ⟨by rfl, ?hy14⟩) (by assumption) ?rest14
    case hy14 => (intro w0 hSw; (try dsimp only at hSw); go_simp; try with_reducible rfl)
    try simp only [Act.put, List.getElem_toArray, List.getElem_cons_zero, List.getElem_cons_succ, List.setIfInBounds_toArray, List.set_cons_zero, List.set_cons_succ]
    refine wpAnyH_take (i := 2) (v := ?v15) rfl (by kernel_rfl) (by kernel_rfl) (by kernel_rfl) (fun _ _ _ h => h) (Or.inl ⟨by rfl, ?hy15⟩) (by assumption) ?rest15
    case hy15 => (intro w0 hSw; (try dsimp only at hSw); go_simp; try with_reducible rfl)
    try simp only [Act.put, List.getElem_toArray, List.getElem_cons_zero, List.getElem_cons_succ, List.setIfInBounds_toArray, List.set_cons_zero, List.set_cons_succ]
    refine wpAnyH_take (i := 3) (v := ?v16) rfl (by kernel_rfl) (by kernel_rfl) (by kernel_rfl) (fun _ _ _ h => h) (Or.inl ⟨by rfl, ?hy16⟩) (by assumption) ?rest16
    case hy16 => (intro w0 hSw; (try dsimp only at hSw); go_simp; try with_reducible rfl)
    try simp only [Act.put, List.getElem_toArray, List.getElem_cons_zero, List.getElem_cons_succ, List.setIfInBounds_toArray, List.set_cons_zero, List.set_cons_succ]
    refine wpAnyH_take (i := 4) (v := ?v17) rfl (by kernel_rfl) (by kernel_rfl) (by kernel_rfl) (fun _ _ _ h => h) (Or.inl ⟨by rfl, ?hy17⟩) (by assumption) ?rest17
    case hy17 => (intro w0 hSw; (try dsimp only at hSw); go_simp; try with_reducible rfl)
    try simp only [Act.put, List.getElem_toArray, List.getElem_cons_zero, List.getElem_cons_succ, List.setIfInBounds_toArray, List.set_cons_zero, List.set_cons_succ]
    refine wpAnyH_take (i := 6) (v := ?v18) rfl (by kernel_rfl) (by kernel_rfl) (by kernel_rfl) (fun _ _ _ h => h) (Or.inl ⟨by rfl, ?hy18⟩) (by assumption) ?rest18
    case hy18 => (intro w0 hSw; (try dsimp only at hSw); go_simp; try with_reducible rfl)
    try simp only [Act.put, List.getElem_toArray, List.getElem_cons_zero, List.getElem_cons_succ, List.setIfInBounds_toArray, List.set_cons_zero, List.set_cons_succ]
    refine wpAnyH_take (i := 7) (v := ?v19) rfl (by kernel_rfl) (by kernel_rfl) (by kernel_rfl) (fun _ _ _ h => h) (Or.inl ⟨by rfl, ?hy19⟩) (by assumption) ?rest19
    case hy19 => (intro w0 hSw; (try dsimp only at hSw); go_simp; try with_reducible rfl)
    try simp only [Act.put, List.getElem_toArray, List.getElem_cons_zero, List.getElem_cons_succ, List.setIfInBounds_toArray, List.set_cons_zero, List.set_cons_succ]
    refine wpAnyH_take (i := 8) (v := ?v20) rfl (by kernel_rfl) (by kernel_rfl) (by kernel_rfl) (fun _ _ _ h => h) (Or.inl ⟨by rfl, ?hy20⟩) (by assumption) ?rest20
    case hy20 => (intro w0 hSw; (try dsimp only at hSw); go_simp; try with_reducible rfl)
    try simp only [Act.put, List.getElem_toArray, List.getElem_cons_zero, List.getElem_cons_succ, List.setIfInBounds_toArray, List.set_cons_zero, List.set_cons_succ]
    refine wpAnyH_take (i := 9) (v := ?v21) rfl (by kernel_rfl) (by kernel_rfl) (by kernel_rfl) (fun _ _ _ h => h) (Or.inl ⟨by rfl, ?hy21⟩) (by assumption) ?rest21
    case hy21 => (intro w0 hSw; (try dsimp only at hSw); go_simp; try with_reducible rfl)
    try simp only [Act.put, List.getElem_toArray, List.getElem_cons_zero, List.getElem_cons_succ, List.setIfInBounds_toArray, List.set_cons_zero, List.set_cons_succ]
    refine wpAnyH_take (i := 10) (v := ?v22) rfl (by kernel_rfl) (by kernel_rfl) (by kernel_rfl) (fun _ _ _ h => h) (Or.inl ⟨by rfl, ?hy22⟩) (by assumption) ?rest22
    case hy22 => (intro w0 hSw; (try dsimp only at hSw); go_simp; try with_reducible rfl)
    try simp only [Act.put, List.getElem_toArray, List.getElem_cons_zero, List.getElem_cons_succ, List.setIfInBounds_toArray, List.set_cons_zero, List.set_cons_succ]
    refine wpAnyH_ready (rs := [5]) (by kernel_rfl) (by simp) ?_
    refine AllReadyH.cons rfl (fun KK hK => ?_) AllReadyH.nil
    go_simp
    go_at_call 18
    refine (cut_at (HC.out ()) _ F d HP1.out.pair.disk HLEN2.out).mono ?_
    rintro e w3 ⟨rfl, hp⟩
    have HP3 := Lib.hid (HP1.out.did hp)
    clear hp
    refine hK.out _ _ ?_ (fun hHeld => ?_)
    · exact (by obtain ⟨g0, g1, g2, g3, g4⟩ := HP3.out.c; exact ⟨by assumption, by assumption⟩)
    clear hK KK
    try simp only [Act.put, List.getElem_toArray, List.getElem_cons_zero, List.getElem_cons_succ, List.setIfInBounds_toArray, List.set_cons_zero, List.set_cons_succ]
    refine wpAnyH_ready (rs := [11]) (by kernel_rfl) (by simp) ?_
    refine AllReadyH.cons rfl (fun KK hK => ?_) AllReadyH.nil
    go_simp
    go_at_call 39
    refine (rcut_at (HC.out ()) HLEN.out _ G r HP3.out.pair.ref).mono ?_
    rintro e w4 ⟨rfl, hp⟩
    have HP4 := Lib.hid (HP3.out.redid hp)
    clear hp
    refine hK.out _ _ ?_ (fun hHeld => ?_)
    · exact (by obtain ⟨g0, g1, g2, g3, g4⟩ := HP4.out.c; exact ⟨by assumption, by assumption⟩)
    clear hK KK
    try simp only [Act.put, List.getElem_toArray, List.getElem_cons_zero, List.getElem_cons_succ, List.setIfInBounds_toArray, List.set_cons_zero, List.set_cons_succ]
    refine wpAnyH_take (i := 12) (v := ?v23) rfl (by kernel_rfl) (by kernel_rfl) (by kernel_rfl) (fun _ _ _ h => h) (Or.inl ⟨by rfl, ?hy23⟩) (by assumption) ?rest23
    case hy23 => (intro w0 hSw; (try dsimp only at hSw); go_simp; try with_reducible rfl)
    try simp only [Act.put, List.getElem_toArray, List.getElem_cons_zero, List.getElem_cons_succ, List.setIfInBounds_toArray, List.set_cons_zero, List.set_cons_succ]
    refine wpAnyH_take (i := 13) (v := ?v24) rfl (by kernel_rfl) (by kernel_rfl) (by kernel_rfl) (fun _ _ _ h => h) (Or.inl ⟨by rfl, ?hy24⟩) (by assumption) ?rest24
    case hy24 => (intro w0 hSw; (try dsimp only at hSw); go_simp; try with_reducible rfl)
    try simp only [Act.put, List.getElem_toArray, List.getElem_cons_zero, List.getElem_cons_succ, List.setIfInBounds_toArray, List.set_cons_zero, List.set_cons_succ]
    refine wpAnyH_done (by kernel_rfl) ?_ _
    clear hHeld
    go_wp2
    go_ret
    exact ⟨rfl, _, _, _, HP4.out.pair, HL.out⟩
  by_cases hk2 : p.kind = 2
  · have hkb0 : (p.kind == 0) = false := by simp [hk2]
    have hkb1 : (p.kind == 1) = false := by simp [hk2]
    have hkb2 : (p.kind == 2) = true := by simp [hk2]
    clear hk0 hk1 hk2
    obtain ⟨E, x2, hcall⟩ : ∃ E x2, x.move p.f p.n = (E, x2) := ⟨_, _, rfl⟩
    have HC := Lib.hid (fun (_ : Unit) => hcall)
    have HL := Lib.hid (move_len hcall)
    clear hcall
    go_enter Try.func23, Try.ntmps23
    go_wp2_with (rw [HBX.out, HW.out])
    refine wp_region_held (S := fun W => W.cell? ⟨bx, 1, none⟩ = some (.int .i64 p.f) ∧ W.cell? ⟨bx, 2, none⟩ = some (.int .i64 p.n)) (by kernel_rfl) ?_
    have HP1 := Lib.hid (HP0.out.on (below_drew _))
    have hHeld : (fun W : World => W.cell? ⟨bx, 1, none⟩ = some (.int .i64 p.f) ∧ W.cell? ⟨bx, 2, none⟩ = some (.int .i64 p.n)) W.drew := by
      obtain ⟨g0, g1, g2, g3, g4⟩ := HP1.out.c
      exact ⟨by assumption, by assumption⟩
    refine wpAnyH_take (i := 0) (v := ?v25) rfl (by kernel_rfl) (by kernel_rfl) (by kernel_rfl) (fun _ _ _ h => h) (Or.inl ⟨by rfl, ?hy25⟩) (by assumption) ?rest25
    case hy25 => (intro w0 hSw; (try dsimp only at hSw); go_simp; try with_reducible rfl)
    try simp only [Act.put, List.getElem_toArray, List.getElem_cons_zero, List.getElem_cons_succ, List.setIfInBounds_toArray, List.set_cons_zero, List.set_cons_succ]
    refine wpAnyH_take (i := 1) (v := ?v26) rfl (by kernel_rfl) (by kernel_rfl) (by kernel_rfl) (fun _ _ _ h => h) (Or.inl ⟨by rfl, ?hy26⟩) (by assumption) ?rest26
    case hy26 => (intro w0 hSw; (try dsimp only at hSw); go_simp; try with_reducible rfl)
    try simp only [Act.put, List.getElem_toArray, List.getElem_cons_zero, List.getElem_cons_succ, List.setIfInBounds_toArray, List.set_cons_zero, List.set_cons_succ]
    refine wpAnyH_take (i := 2) (v := ?v27) rfl (by kernel_rfl) (by kernel_rfl) (by kernel_rfl) (fun _ _ _ h => h) (Or.inl ⟨by rfl, ?hy27⟩) (by assumption) ?rest27
    case hy27 => (intro w0 hSw; (try dsimp only at hSw); go_simp; try with_reducible rfl)
    try simp only [Act.put, List.getElem_toArray, List.getElem_cons_zero, List.getElem_cons_succ, List.setIfInBounds_toArray, List.set_cons_zero, List.set_cons_succ]
    refine wpAnyH_take (i := 3) (v := ?v28) rfl (by kernel_rfl) (by kernel_rfl) (by kernel_rfl) (fun _ _ _ h => h) (Or.inl ⟨by rfl, ?hy28⟩) (by assumption) ?rest28
    case hy28 => (intro w0 hSw; (try dsimp only at hSw); go_simp; try with_reducible rfl)
    try simp only [Act.put, List.getElem_toArray, List.getElem_cons_zero, List.getElem_cons_succ, List.setIfInBounds_toArray, List.set_cons_zero, List.set_cons_succ]
    refine wpAnyH_take (i := 4) (v := ?v29) rfl (by kernel_rfl) (by kernel_rfl) (by kernel_rfl) (fun _ _ _ h => h) (Or.inl ⟨by rfl, ?hy29⟩) (by assumption) ?rest29
    case hy29 => (intro w0 hSw; (try dsimp only at hSw); go_simp; try with_reducible rfl)
    try simp only [Act.put, List.getElem_toArray, List.getElem_cons_zero, List.getElem_cons_succ, List.setIfInBounds_toArray, List.set_cons_zero, List.set_cons_succ]
    refine wpAnyH_take (i := 6) (v := ?v30) rfl (by kernel_rfl) (by kernel_rfl) (by kernel_rfl) (fun _ _ _ h => h) (Or.inl ⟨by rfl, ?hy30⟩) (by assumption) ?rest30
    case hy30 => (intro w0 hSw; (try dsimp only at hSw); go_simp; try with_reducible rfl)
    try simp only [Act.put, List.getElem_toArray, List.getElem_cons_zero, List.getElem_cons_succ, List.setIfInBounds_toArray, List.set_cons_zero, List.set_cons_succ]
    refine wpAnyH_take (i := 7) (v := ?v31) rfl (by kernel_rfl) (by kernel_rfl) (by kernel_rfl) (fun _ _ _ h => h) (Or.inl ⟨by rfl, ?hy31⟩) (by assumption) ?rest31
    case hy31 => (intro w0 hSw; (try dsimp only at hSw); go_simp; try with_reducible rfl)
    try simp only [Act.put, List.getElem_toArray, List.getElem_cons_zero, List.getElem_cons_succ, List.setIfInBounds_toArray, List.set_cons_zero, List.set_cons_succ]
    refine wpAnyH_take (i := 8) (v := ?v32) rfl (by kernel_rfl) (by kernel_rfl) (by kernel_rfl) (fun _ _ _ h => h) (Or.inl ⟨by rfl, ?hy32⟩) (by assumption) ?rest32
    case hy32 => (intro w0 hSw; (try dsimp only at hSw); go_simp; try with_reducible rfl)
    try simp only [Act.put, List.getElem_toArray, List.getElem_cons_zero, List.getElem_cons_succ, List.setIfInBounds_toArray, List.set_cons_zero, List.set_cons_succ]
    refine wpAnyH_take (i := 9) (v := ?v33) rfl (by kernel_rfl) (by kernel_rfl) (by kernel_rfl) (fun _ _ _ h => h) (Or.inl ⟨by rfl, ?hy33⟩) (by assumption) ?rest33
    case hy33 => (intro w0 hSw; (try dsimp only at hSw); go_simp; try with_reducible rfl)
    try simp only [Act.put, List.getElem_toArray, List.getElem_cons_zero, List.getElem_cons_succ, List.setIfInBounds_toArray, List.set_cons_zero, List.set_cons_succ]
    refine wpAnyH_take (i := 10) (v := ?v34) rfl (by kernel_rfl) (by kernel_rfl) (by kernel_rfl) (fun _ _ _ h => h) (Or.inl ⟨by rfl, ?hy34⟩) (by assumption) ?rest34
    case hy34 => (intro w0 hSw; (try dsimp only at hSw); go_simp; try with_reducible rfl)
    try simp only [Act.put, List.getElem_toArray, List.getElem_cons_zero, List.getElem_cons_succ, List.setIfInBounds_toArray, List.set_cons_zero, List.set_cons_succ]
    refine wpAnyH_ready (rs := [5]) (by kernel_rfl) (by simp) ?_
    refine AllReadyH.cons rfl (fun KK hK => ?_) AllReadyH.nil
    go_simp
    go_at_call 17
    refine (move_at (HC.out ()) _ F d HP1.out.pair.disk HLEN2.out).mono ?_
    rintro e w3 ⟨rfl, hp⟩
    have HP3 := Lib.hid (HP1.out.did hp)
    clear hp
    refine hK.out _ _ ?_ (fun hHeld => ?_)
    · exact (by obtain ⟨g0, g1, g2, g3, g4⟩ := HP3.out.c; exact ⟨by assumption, by assumption⟩)
    clear hK KK
    try simp only [Act.put, List.getElem_toArray, List.getElem_cons_zero, List.getElem_cons_succ, List.setIfInBounds_toArray, List.set_cons_zero, List.set_cons_succ]
    refine wpAnyH_ready (rs := [11]) (by kernel_rfl) (by simp) ?_
    refine AllReadyH.cons rfl (fun KK hK => ?_) AllReadyH.nil
    go_simp
    go_at_call 40
    refine (rmove_at (HC.out ()) HLEN.out _ G r HP3.out.pair.ref).mono ?_
    rintro e w4 ⟨rfl, hp⟩
    have HP4 := Lib.hid (HP3.out.redid hp)
    clear hp
    refine hK.out _ _ ?_ (fun hHeld => ?_)
    · exact (by obtain ⟨g0, g1, g2, g3, g4⟩ := HP4.out.c; exact ⟨by assumption, by assumption⟩)
    clear hK KK
    try simp only [Act.put, List.getElem_toArray, List.getElem_cons_zero, List.getElem_cons_succ, List.setIfInBounds_toArray, List.set_cons_zero, List.set_cons_succ]
    refine wpAnyH_take (i := 12) (v := ?v35) rfl (by kernel_rfl) (by kernel_rfl) (by kernel_rfl) (fun _ _ _ h => h) (Or.inl ⟨by rfl, ?hy35⟩) (by assumption) ?rest35
    case hy35 => (intro w0 hSw; (try dsimp only at hSw); go_simp; try with_reducible rfl)
    try simp only [Act.put, List.getElem_toArray, List.getElem_cons_zero, List.getElem_cons_succ, List.setIfInBounds_toArray, List.set_cons_zero, List.set_cons_succ]
    refine wpAnyH_take (i := 13) (v := ?v36) rfl (by kernel_rfl) (by kernel_rfl) (by kernel_rfl) (fun _ _ _ h => h) (Or.inl ⟨by rfl, ?hy36⟩) (by assumption) ?rest36
    case hy36 => (intro w0 hSw; (try dsimp only at hSw); go_simp; try with_reducible rfl)
    try simp only [Act.put, List.getElem_toArray, List.getElem_cons_zero, List.getElem_cons_succ, List.setIfInBounds_toArray, List.set_cons_zero, List.set_cons_succ]
    refine wpAnyH_done (by kernel_rfl) ?_ _
    clear hHeld
    go_wp2
    go_ret
    exact ⟨rfl, _, _, _, HP4.out.pair, HL.out⟩
  by_cases hk3 : p.kind = 3
  · have hkb0 : (p.kind == 0) = false := by simp [hk3]
    have hkb1 : (p.kind == 1) = false := by simp [hk3]
    have hkb2 : (p.kind == 2) = false := by simp [hk3]
    have hkb3 : (p.kind == 3) = true := by simp [hk3]
    clear hk0 hk1 hk2 hk3
    obtain ⟨E, x2, hcall⟩ : ∃ E x2, x.sync = (E, x2) := ⟨_, _, rfl⟩
    have HC := Lib.hid (fun (_ : Unit) => hcall)
    have HL := Lib.hid (sync_len hcall)
    clear hcall
    go_enter Try.func23, Try.ntmps23
    go_wp2_with (rw [HBX.out, HW.out])
    refine (sync_at (HC.out ()) _ F d HP0.out.pair.disk).mono ?_
    rintro e w3 ⟨rfl, hp⟩
    have HP3 := Lib.hid (HP0.out.did hp)
    clear hp
    go_wp2_with fail
    refine (rsync_at (HC.out ()) _ G r HP3.out.pair.ref).mono ?_
    rintro e w4 ⟨rfl, hp⟩
    have HP4 := Lib.hid (HP3.out.redid hp)
    clear hp
    go_wp2_with fail
    go_ret
    exact ⟨rfl, _, _, _, HP4.out.pair, HL.out⟩
  by_cases hk4 : p.kind = 4
  · have hkb0 : (p.kind == 0) = false := by simp [hk4]
    have hkb1 : (p.kind == 1) = false := by simp [hk4]
    have hkb2 : (p.kind == 2) = false := by simp [hk4]
    have hkb3 : (p.kind == 3) = false := by simp [hk4]
    have hkb4 : (p.kind == 4) = true := by simp [hk4]
    clear hk0 hk1 hk2 hk3 hk4
    obtain ⟨s, E, hcall⟩ : ∃ s E, x.read p.f = (s, E) := ⟨_, _, rfl⟩
    have HC := Lib.hid (fun (_ : Unit) => hcall)
    clear hcall
    go_enter Try.func23, Try.ntmps23
    go_wp2_with (rw [HBX.out, HW.out])
    refine (read_at (HC.out ()) _ F d HP0.out.pair.disk).mono ?_
    rintro e w3 ⟨rfl, hb⟩
    have HP3 := Lib.hid (HP0.out.on hb)
    have hq1 := HP3.out.c.2.1
    clear hb
    go_wp2_with fail
    refine (rread_at (HC.out ()) _ G r HP3.out.pair.ref).mono ?_
    rintro e w4 ⟨rfl, rfl⟩
    go_wp2_with fail
    go_ret
    exact ⟨rfl, _, _, _, HP3.out.pair, Nat.le_succ _⟩
  by_cases hk5 : p.kind = 5
  · have hkb0 : (p.kind == 0) = false := by simp [hk5]
    have hkb1 : (p.kind == 1) = false := by simp [hk5]
    have hkb2 : (p.kind == 2) = false := by simp [hk5]
    have hkb3 : (p.kind == 3) = false := by simp [hk5]
    have hkb4 : (p.kind == 4) = false := by simp [hk5]
    have hkb5 : (p.kind == 5) = true := by simp [hk5]
    clear hk0 hk1 hk2 hk3 hk4 hk5
    obtain ⟨E, x2, hcall⟩ : ∃ E x2, x.power p.n = (E, x2) := ⟨_, _, rfl⟩
    have HC := Lib.hid (fun (_ : Unit) => hcall)
    have HL := Lib.hid (power_len hcall)
    clear hcall
    go_enter Try.func23, Try.ntmps23
    go_wp2_with (rw [HBX.out, HW.out])
    refine wp_region_held (S := fun W => W.cell? ⟨bx, 2, none⟩ = some (.int .i64 p.n) ∧ W.cell? ⟨bx, 3, none⟩ = some (.int .i64 p.m)) (by kernel_rfl) ?_
    have HP1 := Lib.hid (HP0.out.on (below_drew _))
    have hHeld : (fun W : World => W.cell? ⟨bx, 2, none⟩ = some (.int .i64 p.n) ∧ W.cell? ⟨bx, 3, none⟩ = some (.int .i64 p.m)) W.drew := by
      obtain ⟨g0, g1, g2, g3, g4⟩ := HP1.out.c
      exact ⟨by assumption, by assumption⟩
    refine wpAnyH_take (i := 0) (v := ?v37) rfl (by kernel_rfl) (by kernel_rfl) (by kernel_rfl) (fun _ _ _ h => h) (Or.inl ⟨by rfl, ?hy37⟩) (by assumption) ?rest37
    case hy37 => (intro w0 hSw; (try dsimp only at hSw); go_simp; try with_reducible rfl)
    try simp only [Act.put, List.getElem_toArray, List.getElem_cons_zero, List.getElem_cons_succ, List.setIfInBounds_toArray, List.set_cons_zero, List.set_cons_succ]
    refine wpAnyH_take (i := 1) (v := ?v38) rfl (by kernel_rfl) (by kernel_rfl) (by kernel_rfl) (fun _ _ _ h => h) (Or.inl ⟨by rfl, ?hy38⟩) (by assumption) ?rest38
    case hy38 => (intro w0 hSw; (try dsimp only at hSw); go_simp; try with_reducible rfl)
    try simp only [Act.put, List.getElem_toArray, List.getElem_cons_zero, List.getElem_cons_succ, List.setIfInBounds_toArray, List.set_cons_zero, List.set_cons_succ]
    refine wpAnyH_take (i := 2) (v := ?v39) rfl (by kernel_rfl) (by kernel_rfl) (by kernel_rfl) (fun _ _ _ h => h) (Or.inl ⟨by rfl, ?hy39⟩) (by assumption) ?rest39
    case hy39 => (intro w0 hSw; (try dsimp only at hSw); go_simp; try with_reducible rfl)
    try simp only [Act.put, List.getElem_toArray, List.getElem_cons_zero, List.getElem_cons_succ, List.setIfInBounds_toArray, List.set_cons_zero, List.set_cons_succ]
    refine wpAnyH_take (i := 4) (v := ?v40) rfl (by kernel_rfl) (by kernel_rfl) (by kernel_rfl) (fun _ _ _ h => h) (Or.inl ⟨by rfl, ?hy40⟩) (by assumption) ?rest40
    case hy40 => (intro w0 hSw; (try dsimp only at hSw); go_simp; try with_reducible rfl)
    try simp only [Act.put, List.getElem_toArray, List.getElem_cons_zero, List.getElem_cons_succ, List.setIfInBounds_toArray, List.set_cons_zero, List.set_cons_succ]
    refine wpAnyH_take (i := 5) (v := ?v41) rfl (by kernel_rfl) (by kernel_rfl) (by kernel_rfl) (fun _ _ _ h => h) (Or.inl ⟨by rfl, ?hy41⟩) (by assumption) ?rest41
    case hy41 => (intro w0 hSw; (try dsimp only at hSw); go_simp; try with_reducible rfl)
    try simp only [Act.put, List.getElem_toArray, List.getElem_cons_zero, List.getElem_cons_succ, List.setIfInBounds_toArray, List.set_cons_zero, List.set_cons_succ]
    refine wpAnyH_take (i := 6) (v := ?v42) rfl (by kernel_rfl) (by kernel_rfl) (by kernel_rfl) (fun _ _ _ h => h) (Or.inl ⟨by rfl, ?hy42⟩) (by assumption) ?rest42
    case hy42 => (intro w0 hSw; (try dsimp only at hSw); go_simp; try with_reducible rfl)
    try simp only [Act.put, List.getElem_toArray, List.getElem_cons_zero, List.getElem_cons_succ, List.setIfInBounds_toArray, List.set_cons_zero, List.set_cons_succ]
    refine wpAnyH_ready (rs := [3]) (by kernel_rfl) (by simp) ?_
    refine AllReadyH.cons rfl (fun KK hK => ?_) AllReadyH.nil
    go_simp
    go_at_call 14
    refine (power_at (HC.out ()) HFN.out.2 _ F d HP1.out.pair.disk).mono ?_
    rintro e w3 ⟨rfl, hp⟩
    have HP3 := Lib.hid (HP1.out.did hp)
    clear hp
    refine hK.out _ _ ?_ (fun hHeld => ?_)
    · exact (by obtain ⟨g0, g1, g2, g3, g4⟩ := HP3.out.c; exact ⟨by assumption, by assumption⟩)
    clear hK KK
    try simp only [Act.put, List.getElem_toArray, List.getElem_cons_zero, List.getElem_cons_succ, List.setIfInBounds_toArray, List.set_cons_zero, List.set_cons_succ]
    refine wpAnyH_ready (rs := [7]) (by kernel_rfl) (by simp) ?_
    refine AllReadyH.cons rfl (fun KK hK => ?_) AllReadyH.nil
    go_simp
    go_at_call 42
    refine (rpower_at (HC.out ()) HFN.out.2 _ G r HP3.out.pair.ref).mono ?_
    rintro e w4 ⟨rfl, hp⟩
    have HP4 := Lib.hid (HP3.out.redid hp)
    clear hp
    refine hK.out _ _ ?_ (fun hHeld => ?_)
    · exact (by obtain ⟨g0, g1, g2, g3, g4⟩ := HP4.out.c; exact ⟨by assumption, by assumption⟩)
    clear hK KK
    try simp only [Act.put, List.getElem_toArray, List.getElem_cons_zero, List.getElem_cons_succ, List.setIfInBounds_toArray, List.set_cons_zero, List.set_cons_succ]
    refine wpAnyH_take (i := 8) (v := ?v43) rfl (by kernel_rfl) (by kernel_rfl) (by kernel_rfl) (fun _ _ _ h => h) (Or.inl ⟨by rfl, ?hy43⟩) (by assumption) ?rest43
    case hy43 => (intro w0 hSw; (try dsimp only at hSw); go_simp; try with_reducible rfl)
    try simp only [Act.put, List.getElem_toArray, List.getElem_cons_zero, List.getElem_cons_succ, List.setIfInBounds_toArray, List.set_cons_zero, List.set_cons_succ]
    refine wpAnyH_take (i := 9) (v := ?v44) rfl (by kernel_rfl) (by kernel_rfl) (by kernel_rfl) (fun _ _ _ h => h) (Or.inl ⟨by rfl, ?hy44⟩) (by assumption) ?rest44
    case hy44 => (intro w0 hSw; (try dsimp only at hSw); go_simp; try with_reducible rfl)
    try simp only [Act.put, List.getElem_toArray, List.getElem_cons_zero, List.getElem_cons_succ, List.setIfInBounds_toArray, List.set_cons_zero, List.set_cons_succ]
    refine wpAnyH_done (by kernel_rfl) ?_ _
    clear hHeld
    go_wp2
    go_ret
    exact ⟨rfl, _, _, _, HP4.out.pair, HL.out⟩
  by_cases hk6 : p.kind = 6
  · have hkb0 : (p.kind == 0) = false := by simp [hk6]
    have hkb1 : (p.kind == 1) = false := by simp [hk6]
    have hkb2 : (p.kind == 2) = false := by simp [hk6]
    have hkb3 : (p.kind == 3) = false := by simp [hk6]
    have hkb4 : (p.kind == 4) = false := by simp [hk6]
    have hkb5 : (p.kind == 5) = false := by simp [hk6]
    have hkb6 : (p.kind == 6) = true := by simp [hk6]
    clear hk0 hk1 hk2 hk3 hk4 hk5 hk6
    go_enter Try.func23, Try.ntmps23
    go_wp2_with (rw [HBX.out, HW.out])
    refine (crash_at p.n p.m HFN.out.1 HFN.out.2 HFM.out.1 HFM.out.2 _ F d HP0.out.pair.disk HLEN2.out).mono ?_
    rintro e w3 ⟨rfl, hp⟩
    have HP3 := Lib.hid (HP0.out.did hp)
    have hq2 := HP3.out.c.2.2.1
    have hq3 := HP3.out.c.2.2.2.1
    clear hp
    go_wp2_with fail
    refine (rcrash_at p.n p.m _ G r HP3.out.pair.ref HLEN.out).mono ?_
    rintro e w4 ⟨rfl, hp⟩
    have HP4 := Lib.hid (HP3.out.redid hp)
    clear hp
    go_wp2_with fail
    go_ret
    exact ⟨rfl, _, _, _, HP4.out.pair, Nat.zero_le _⟩
  have hkb0 : (p.kind == 0) = false := by simp [hk0]
  have hkb1 : (p.kind == 1) = false := by simp [hk1]
  have hkb2 : (p.kind == 2) = false := by simp [hk2]
  have hkb3 : (p.kind == 3) = false := by simp [hk3]
  have hkb4 : (p.kind == 4) = false := by simp [hk4]
  have hkb5 : (p.kind == 5) = false := by simp [hk5]
  have hkb6 : (p.kind == 6) = false := by simp [hk6]
  clear hk0 hk1 hk2 hk3 hk4 hk5 hk6
  go_enter Try.func23, Try.ntmps23
  go_wp2_with (rw [HBX.out, HW.out])
  go_ret
  exact ⟨rfl, _, _, _, HP0.out.pair, Nat.le_succ _⟩
end Go.Proofs.Ytdajpaigahhhcaa.dsk
