/- What readByte and readRow answer, whatever reads the next one. -/
import Derived.Test.YtnelfokfgnikfaaDoorPkM
import Derived.Test.YtnelfokfgnikfaaDoorMEu
import Derived.Deep.LoopGhost
namespace Go.Proofs.YtnelfokfgnikfaaDoor.pk
set_option linter.unusedSimpArgs false
set_option linter.unusedVariables false
open Go.RowKit nam exp jb

theorem cells_new (w : World) (xs : List Value) (t : TypeId) : ∀ j u, xs[j]? = some u → (w.alloc (.cells xs.toArray t)).cell? ((⟨w.heap.size, 0, none⟩ : Addr).add j) = some u := by
  intro j u hj
  have hh : (w.alloc (.cells xs.toArray t)).heap[w.heap.size]? = some (.cells xs.toArray t (0, 0)) := heap_alloc_new w _
  have hadd : (⟨w.heap.size, 0, none⟩ : Addr).add j = ⟨w.heap.size, 0 + j, none⟩ := Go.WideShapes.add_plain _ 0 j
  rw [hadd, cell_of_row _ w.heap.size (0 + j) _ _ _ hh, Nat.zero_add]
  simpa using hj
/-- The reader's box. -/
theorem box4 {w W : World} {a b c d : Value} {t : TypeId} (hW : w.alloc (.cells #[a, b, c, d] t) = W) : W.heap[w.heap.size]? = some (.cells #[a, b, c, d] t (0, 0)) := by
  subst hW
  exact heap_last rfl
theorem grown_leaves {L : Lay} {w w' : World} {o : Obj} {row : Option Nat} {q : St} {B : Nat} (hr : IsR w L q) (hB : L.M ≤ B) (hBw : B ≤ w.heap.size) (hg : (w.alloc o).grownBy w' row) (hrow : ∀ j, row = some j → B ≤ j) : IsR w' L q ∧ Below B w w' := by
  have hb : Below B w w' := (((Below.refl w.heap.size w).alloc (Nat.le_refl _) o).mono hBw).grown hg (by rw [World.size_alloc]; omega) hrow
  exact ⟨hr.on (hb.mono hB), hb⟩
theorem grown_keeps {L : Lay} {w w' : World} {o : Obj} {row : Option Nat} {b : Nat} {c : Array Value} {t : TypeId} {fr : Nat × Nat} (hg : (w.alloc o).grownBy w' row) (hb : w.heap[b]? = some (.cells c t fr)) (hne : row ≠ some b) : w'.heap[b]? = some (.cells c t fr) := by
  have hlt := (Array.getElem?_eq_some_iff.1 hb).1
  rw [hg.block b (by rw [World.size_alloc]; omega) (fun e => hne e.symm), Below.heap_alloc _ _ _ hlt]
  exact hb
/-- What stands but for one row's block. -/
def But (row : Option Nat) (w w' : World) : Prop := w.heap.size ≤ w'.heap.size ∧ ∀ b, b < w.heap.size → row ≠ some b → w'.heap[b]? = w.heap[b]?
theorem But.of_grown {w w' : World} {o : Obj} {row : Option Nat} (hg : (w.alloc o).grownBy w' row) : But row w w' :=
  ⟨by have := hg.size; rw [World.size_alloc] at this; omega, fun b hb hne => (hg.block b (by rw [World.size_alloc]; omega) (fun e => hne e.symm)).trans (Below.heap_alloc _ _ _ hb)⟩
theorem But.own {w w' : World} {row : Option Nat} (h : But row w w') {B e size n : Nat} {v : Value} {xs : List Value} (ho : w.ownsRow B e size v n xs) (hne : ∀ g, v.ownBlock = some g → row ≠ some g) : w'.ownsRow B e size v n xs := by
  obtain ⟨k1, k2 | ⟨g, cap, cur, rfl, a1, a2, a3⟩⟩ := ho
  · exact ⟨k1, .inl k2⟩
  · exact ⟨k1, .inr ⟨g, cap, cur, rfl, a1, (h.2 g (Array.getElem?_eq_some_iff.1 a2).1 (hne g rfl)).trans a2, a3⟩⟩
/-- Rows' blocks of two types are two blocks. -/
theorem own_ty {w : World} {B e size n : Nat} {v : Value} {xs : List Value} (h : w.ownsRow B e size v n xs) {b : Nat} {c : Array Value} {t : TypeId} {fr : Nat × Nat} (hb : w.heap[b]? = some (.cells c t fr)) (hne : t ≠ e) : v.ownBlock ≠ some b := by
  intro e1
  rcases h.2 with ⟨rfl, _⟩ | ⟨g, cap, cur, rfl, _, hg, _⟩
  · simp [Value.ownBlock] at e1
  · simp [Value.ownBlock] at e1
    subst e1
    rw [hb] at hg
    simp only [Option.some.injEq, Obj.cells.injEq] at hg
    exact hne hg.2.1
theorem own_kind {w : World} {B e size n : Nat} {v : Value} {xs : List Value} (h : w.ownsRow B e size v n xs) {g : Nat} (hg : v.ownBlock = some g) : ∃ cur, w.heap[g]? = some (.cells cur e (0, 0)) := by
  rcases h.2 with ⟨rfl, _⟩ | ⟨g', cap, cur, rfl, _, hh, _⟩
  · simp [Value.ownBlock] at hg
  · simp [Value.ownBlock] at hg; subst hg; exact ⟨cur, hh⟩
/-- Expressions' rows are not written by the growing of one that none of them is. -/
theorem Lies.but {w w' : World} {row : Option Nat} {B : Nat → Prop} {v : Value} {l : List Ex} (h : But row w w') (hl : Lies w B v l) (hB : ∀ b, B b → row ≠ some b) : Lies w' B v l :=
  hl.frame fun b c hb hc => h.2 b (Array.getElem?_eq_some_iff.1 hc).1 (hB b hb)

set_option maxHeartbeats 800000 in
set_option maxRecDepth 1000000 in
theorem byte_any {w : World} {L : Lay} {q : St} (h : IsR w L q) : Calls Tryd.prog 59 #[rdV L] w fun e w' => e = .returned (.int .u8 (withinO 255 2 q).1) ∧ RPost L w (withinO 255 2 q).2 w' := by
  obtain ⟨W, hW⟩ : ∃ W, w.alloc (.cells #[numV L, withinV L, textV L, faultV L] 41) = W := ⟨_, rfl⟩
  have hwb : Below w.heap.size w W := by rw [← hW]; exact below_made _ _
  have c1 : W.cell? ⟨w.heap.size, 1, none⟩ = some (withinV L) := cell_of (box4 hW) rfl
  have HW := Lib.hid (within_any 255 2 (h.under hwb))
  have HB := Lib.hid hwb
  obtain ⟨m, hm⟩ : ∃ m : Nat, (withinO 255 2 q).1 = (m : Int) := ⟨_, (nat_back (by omega)).symm⟩
  have hr := within_range (most := 255) (why := 2) (q := q) (by omega)
  rw [hm] at HW hr ⊢
  have hr2 : m < 256 := by omega
  unfold numV withinV textV faultV at *
  unfold rdV numV withinV textV faultV
  clear h hwb hm hr
  go_enter Tryd.func59, Tryd.ntmps59
  go_wp2_with fail
  refine HW.out.mono ?_
  rintro e w1 ⟨rfl, hp⟩
  have HP : Hid (RPost L w (withinO 255 2 q).2 w1) := Lib.hid ⟨hp.1, (Leaves.of_below HB.out).trans hp.2⟩
  clear hp
  go_wp2_with fail
  go_ret
  exact ⟨ret_int (by omega), HP.out⟩

theorem info_int : (Tryd.prog.info? 3).map (fun i => (i.zero, i.size, i.bytes)) = some (some (.int .i64 0), 1, 8) := by kernel_rfl
set_option maxHeartbeats 1600000 in
set_option maxRecDepth 1000000 in
theorem row_int {w : World} {L : Lay} {q : St} {K : FuncId} {cp : Array Value} {f : St → Int × St} (most : Int) (h0 : 0 ≤ most) (h12 : most ≤ 12) (h : IsR w L q) (hen : ∀ args w, (callFunc K args).run Tryd.prog w = .ok (.enter K args) w)
    (hK : ∀ q1 w1, IsR w1 L q1 → Leaves L w w1 → Calls Tryd.prog K cp w1 fun e w2 => e = .returned (.int .i64 (f q1).1) ∧ RPost L w1 (f q1).2 w2) :
    Calls Tryd.prog 60 #[rdV L, .int .i64 most, .func (.func K) #[] cp] w fun e w' => ∃ v, e = .returned v ∧ w'.ownsRow w.heap.size 3 1 v (rowO f (withinO most 3 q).1.toNat (withinO most 3 q).2).1.length ((rowO f (withinO most 3 q).1.toNat (withinO most 3 q).2).1.map intV) ∧ RPost L w (rowO f (withinO most 3 q).1.toNat (withinO most 3 q).2).2 w' := by
  obtain ⟨i0, hi, hz0, hz1, hz2⟩ := info_parts info_int
  obtain ⟨W, hW⟩ : ∃ W, w.alloc (.cells #[numV L, withinV L, textV L, faultV L] 41) = W := ⟨_, rfl⟩
  have hwb : Below w.heap.size w W := by rw [← hW]; exact below_made _ _
  have c1 : W.cell? ⟨w.heap.size, 1, none⟩ = some (withinV L) := cell_of (box4 hW) rfl
  have HW := Lib.hid (within_any most 3 (h.under hwb))
  have HB := Lib.hid hwb
  have HK := Lib.hid hK; have HM := Lib.hid h.lM
  obtain ⟨n, hn⟩ : ∃ m : Nat, (withinO most 3 q).1.toNat = m := ⟨_, rfl⟩
  have hm := nat_back (most := most) (why := 3) (q := q) h0
  have hr := within_range (most := most) (why := 3) (q := q) h0
  rw [hn] at hm ⊢
  rw [← hm] at HW hr
  obtain ⟨q1, hq1⟩ : ∃ q1, (withinO most 3 q).2 = q1 := ⟨_, rfl⟩
  rw [hq1] at HW ⊢
  rw [rowO_len]
  have hn12 : n ≤ 12 := by omega
  unfold numV withinV textV faultV at *
  unfold rdV numV withinV textV faultV
  clear h hwb hm hr hn hq1 hK
  go_enter Tryd.func60, Tryd.ntmps60
  go_wp2_with fail
  refine HW.out.mono ?_
  rintro e w1 ⟨rfl, hp⟩
  have HP : Hid (RPost L w q1 w1) := Lib.hid ⟨hp.1, (Leaves.of_below HB.out).trans hp.2⟩
  clear hp
  go_wp2_with fail
  go_loopg [7, 12] n (fun g v7 v12 wr => ∃ k : Nat, k + g = n ∧ v12 = .int .i64 (k : Int) ∧ wr.ownsRow w.heap.size 3 1 v7 k ((rowO f k q1).1.map intV) ∧ RPost L w (rowO f k q1).2 wr)
  case atStart => exact ⟨0, by omega, rfl, World.ownsRow_nil _ _ _ _, HP.out⟩
  case round =>
    rename World => wr
    obtain ⟨k, hk, rfl, hr, hp⟩ := hrel
    have HR := Lib.hid hr; have HQ := Lib.hid hp; clear hr hp
    by_cases hkn : k < n
    · have hki : (k : Int) < (n : Int) := by omega
      have HC := Lib.hid (HK.out _ wr HQ.out.1 HQ.out.2)
      have HS := Lib.hid (rowO_snoc (f := f) k q1)
      obtain ⟨l, hl⟩ : ∃ l, (rowO f k q1).1 = l := ⟨_, rfl⟩
      obtain ⟨qk, hqk⟩ : ∃ qk, (rowO f k q1).2 = qk := ⟨_, rfl⟩
      rw [hl] at HR HS
      rw [hqk] at HQ HC HS
      obtain ⟨x, hx⟩ : ∃ x, (f qk).1 = x := ⟨_, rfl⟩
      obtain ⟨qj, hqj⟩ : ∃ qj, (f qk).2 = qj := ⟨_, rfl⟩
      rw [hx, hqj] at HC HS
      clear hl hqk hx hqj
      go_wp2_with fail
      refine HC.out.mono ?_
      rintro e w2 ⟨rfl, hp2⟩
      have HO := Lib.hid (hp2.2.own HQ.out.1 HM.out HR.out)
      have HL := Lib.hid (HQ.out.2.trans hp2.2)
      have HI := Lib.hid hp2.1
      have HSZ : Hid (∀ o, w.heap.size ≤ (w2.alloc o).heap.size) := Lib.hid (fun o => by rw [World.size_alloc]; have := HL.out.size; omega)
      clear hp2
      go_wp2_with (at_builtin; refine wpList_append_own _ rfl (.tmp 14) (.tmp 17) 47 rfl w.heap.size 3 i0 (.int .i64 0) 1 8 Tryd.underlying47 hi hz0 hz1 hz2 rfl (by decide) _ _ _ rfl (HO.out.alloc _) ⟨_, 0, none⟩ 1 1 [.int .i64 x] rfl rfl (cells_new _ [.int .i64 x] _) (by simp [Value.oneCell']) (by unfold maxLen; omega) (by omega) (HSZ.out _) ?_)
      intro v' w3 k4 g4 _
      have HG := Lib.hid (grown_leaves HI.out HM.out HL.out.size g4 (fun j hj => (HO.out.lt j hj).1))
      have HO2 := Lib.hid k4
      clear k4 g4
      go_wp2
      go_roundg (gk - 1)
      case rel => exact ⟨k + 1, by omega, by go_num, by rw [HS.out]; simpa [intV] using HO2.out, by rw [HS.out]; exact HG.out.1, HL.out.then HG.out.2⟩
      case measure => omega
    · have hki : ¬ (k : Int) < (n : Int) := by omega
      obtain rfl : k = n := by omega
      clear hkn
      go_wp2_with fail
      try rw [Exit.noGoto_ret]
      go_ret
      exact ⟨_, rfl, HR.out, HQ.out⟩
end Go.Proofs.YtnelfokfgnikfaaDoor.pk
