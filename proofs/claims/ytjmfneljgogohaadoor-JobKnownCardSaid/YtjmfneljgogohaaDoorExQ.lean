/- What over, May and Deep answer of an expression. -/
import Derived.Test.YtjmfneljgogohaaDoorExO
import Derived.Laws.EntriesVeiled
namespace Go.Proofs.YtjmfneljgogohaaDoor.exp
set_option linter.unusedSimpArgs false
set_option linter.unusedVariables false
open Go.RowKit nam
open Go.ChangeMaps (setBlock heap_setBlock_same heap_setBlock_other)

def exV (x : Ex) (v : Value) : Value := .agg #[.int .u8 (x.op : Int), .int .i64 x.n, v]
def OPost (md : Option Nat) (x : Ex) (w : World) (e : Ending) (w' : World) : Prop :=
  ∃ D', e = .returned (.bool (good (fF md) x 1)) ∧ (∀ bd, md = some bd → Dp w' bd D') ∧ Only (fun k => md = some k) w w' ∧ (good (fF md) x 1 = true → D' = x.dep) ∧ (good (fF md) x 1 = false → md ≠ none → D' = 17)
theorem heap_last {w : World} {o : Obj} {n : Nat} (hn : n = w.heap.size) : (w.alloc o).heap[n]? = some o := by subst hn; exact heap_alloc_new w o
theorem heap_old {w : World} {o x : Obj} {n : Nat} (h : w.heap[n]? = some x) : (w.alloc o).heap[n]? = some x := (Below.heap_alloc w o n (Array.getElem?_eq_some_iff.1 h).1).trans h
theorem heap_set {w : World} {b o n : Nat} {x : Obj} {u : Value} (h : w.heap[n]? = some x) (hb : n ≠ b) : (w.setCell ⟨b, o, none⟩ u).heap[n]? = some x := (Below.heap_setCell w ⟨b, o, none⟩ u n hb).trans h
theorem over_post {md : Option Nat} {x : Ex} {w W W6 w' : World} {N bm bf bi D' : Nat} {m' : Addr → Option Int} (ho : Only (fun k => md = some k) w W6) (hN : w.heap.size = N) (hov : Ov W md (N + 1 + 1) bm bf bi w' m' D') (hon : Only (Moves md (N + 1 + 1)) W6 w')
    (h1 : good (fF md) x 1 = true → New W (fF md) (fun _ => none) m' x.size D' ∧ D' = max 0 (1 - 1 + x.dep)) (h2 : good (fF md) x 1 = false → md ≠ none → D' = 17) : OPost md x w (.returned (.bool (good (fF md) x 1))) w' := by
  refine ⟨D', rfl, hov.st, ⟨hon.os.trans ho.os, hon.tape.trans ho.tape, hon.output.trans ho.output, Nat.le_trans ho.size hon.size, fun k hk hn => ?_⟩, fun hg => by have := (h1 hg).2; omega, h2⟩
  have := ho.size
  rw [hon.block k (by omega) (fun h => by rcases h with rfl | h; omega; exact hn h)]
  exact ho.block k hk hn
theorem over_any {md : Option Nat} {x : Ex} {v : Value} {B : Nat → Prop} {w : World} (h : Lies w B v x.args) (hs : x.size ≤ 1000000) (hst : ∀ bd, md = some bd → Dp w bd 0) :
    Calls Tryd.prog 55 #[exV x v, .func (.func (fK md)) #[] (fC md)] w (OPost md x w) := by
  have hmm := @run_makeMap Tryd.prog
  obtain ⟨N, hN⟩ : ∃ N, w.heap.size = N := ⟨_, rfl⟩
  obtain ⟨W, hW⟩ : ∃ W, w.alloc (.cells #[.int .u8 (x.op : Int), .int .i64 x.n, v] 28) = W := ⟨_, rfl⟩
  have hWs : W.heap.size = N + 1 := by rw [← hW, ← hN]; simp
  have hW0 : W.heap[N]? = some (.cells #[.int .u8 (x.op : Int), .int .i64 x.n, v] 28 (0, 0)) := by rw [← hW]; exact heap_last hN.symm
  have hat : At W Any N 0 x := ⟨_, v, trivial, hW0, rfl, rfl, rfl, by
    rw [← hW]
    exact (h.mono (fun _ _ => trivial)).under ((Below.refl _ _).alloc (Nat.le_refl _) _)⟩
  obtain ⟨W5, hW5⟩ : ∃ W5, (((W.alloc (.cells #[.func (.func (fK md)) #[] (fC md)] 87)).alloc (.map #[] 0)).alloc (.cells #[.map (some (N + 1 + 1))] 96)).alloc (.cells #[.nilFunc] 87) = W5 := ⟨_, rfl⟩
  have g4 : W5.heap[N + 1 + 1 + 1 + 1]? = some (.cells #[.nilFunc] 87 (0, 0)) := by rw [← hW5]; exact heap_last (by simp [hWs])
  have g3 : W5.heap[N + 1 + 1 + 1]? = some (.cells #[.map (some (N + 1 + 1))] 96 (0, 0)) := by rw [← hW5]; exact heap_old (heap_last (by simp [hWs]))
  have g2 : W5.heap[N + 1 + 1]? = some (.map #[] 0) := by rw [← hW5]; exact heap_old (heap_old (heap_last (by simp [hWs])))
  have g1 : W5.heap[N + 1]? = some (.cells #[.func (.func (fK md)) #[] (fC md)] 87 (0, 0)) := by rw [← hW5]; exact heap_old (heap_old (heap_old (heap_last (by simp [hWs]))))
  have gb : Below W.heap.size W W5 := by
    rw [← hW5]
    exact ((((Below.refl _ _).alloc (Nat.le_refl _) _).alloc (by simp) _).alloc (by simp; omega) _).alloc (by simp; omega) _
  have hc5 : W5.cell? ⟨N + 1 + 1 + 1 + 1, 0, none⟩ = some .nilFunc := cell_of g4 rfl
  have hf5 : W5.frozen? ⟨N + 1 + 1 + 1 + 1, 0, none⟩ = false := by simp [World.frozen?, g4]
  have hwb : Below w.heap.size w W := by rw [← hW]; exact (Below.refl _ _).alloc (Nat.le_refl _) _
  obtain ⟨W6, hW6⟩ : ∃ W6, W5.setCell ⟨N + 1 + 1 + 1 + 1, 0, none⟩ (.func (.func 60) #[] #[ptr (N + 1 + 1 + 1), ptr (N + 1), ptr (N + 1 + 1 + 1 + 1)]) = W6 := ⟨_, rfl⟩
  have hov : Ov W md (N + 1 + 1) (N + 1 + 1 + 1) (N + 1) (N + 1 + 1 + 1 + 1) W6 (fun _ => none) 0 := by
    rw [← hW6]
    refine ⟨fun b c hb => ?_, ⟨#[], 0, heap_set g2 (by omega), by simp, by simp, by simp⟩, heap_set g3 (by omega), heap_set g1 (by omega), ?_, fun bd hb => ?_, by omega⟩
    · have hlt := (Array.getElem?_eq_some_iff.1 hb).1
      rw [Below.heap_setCell _ _ _ _ (by show b ≠ N + 1 + 1 + 1 + 1; omega)]
      exact gb.block b (by omega)
    · exact heap_setCell_same W5 _ 0 _ 87 _ g4
    · exact (hst bd hb).elim
  have hon : Only (fun k => md = some k) w W6 := by
    rw [← hW6]
    refine Only.of_below ?_
    exact ((hwb.trans (gb.mono (by omega))).setCell (by show w.heap.size ≤ N + 1 + 1 + 1 + 1; omega) _)
  have hc6 : W6.cell? ⟨N + 1 + 1 + 1 + 1, 0, none⟩ = some (.func (.func 60) #[] #[ptr (N + 1 + 1 + 1), ptr (N + 1), ptr (N + 1 + 1 + 1 + 1)]) := cell_of hov.b3 rfl
  have HI : Hid (Calls Tryd.prog 60 #[.pointer (some ⟨N, 0, none⟩), .int .i64 1, ptr (N + 1 + 1 + 1), ptr (N + 1), ptr (N + 1 + 1 + 1 + 1)] W6 (IPost W md (N + 1 + 1) (N + 1 + 1 + 1) (N + 1) (N + 1 + 1 + 1 + 1) W6 (fun _ => none) 0 x 1)) := Lib.hid (into_any W md (N + 1 + 1) (N + 1 + 1 + 1) (N + 1) (N + 1 + 1 + 1 + 1) x.size hs x (Nat.le_refl _) W6 _ 0 N 0 1 hov hat (by omega) (by omega) (fun q u hq => by cases hq))
  have HO := Lib.hid hon
  have HN := Lib.hid hN
  have hNW : W.heap.size = N + 1 := hWs
  clear hov hon hat h hwb gb g1 g2 g3 g4 hW0 hst hWs
  unfold exV
  unfold ptr at *
  go_enter Tryd.func55, Tryd.ntmps55
  go_wp2_with fail
  refine HI.out.mono ?_
  rintro e w' ⟨m', D', rfl, hov, hon, h1, h2⟩
  have HX : Hid (OPost md x w (.returned (.bool (good (fF md) x 1))) w') := Lib.hid (over_post HO.out HN.out hov hon h1 h2)
  clear hov hon h1 h2
  go_wp2_with fail
  go_ret
  exact HX.out

theorem box_cells {w W : World} {a b c : Value} {t : TypeId} (hW : w.alloc (.cells #[a, b, c] t) = W) : W.cell? ⟨w.heap.size, 0, none⟩ = some a ∧ W.cell? ⟨w.heap.size, 1, none⟩ = some b ∧ W.cell? ⟨w.heap.size, 2, none⟩ = some c := by
  subst hW
  have h := heap_last (w := w) (o := .cells #[a, b, c] t) rfl
  exact ⟨cell_of h rfl, cell_of h rfl, cell_of h rfl⟩
theorem only_none {w w' : World} {F : Nat → Prop} (h : Only F w w') (hF : ∀ k, ¬ F k) : Below w.heap.size w w' := h.below (Nat.le_refl _) fun k hk => absurd hk (hF k)
/-- May: whether it may be. -/
theorem may_any {x : Ex} {v : Value} {B : Nat → Prop} {w : World} (h : Lies w B v x.args) (hs : x.size ≤ 1000000) :
    Calls Tryd.prog 53 #[exV x v] w fun e w' => e = .returned (.bool (good FM x 1)) ∧ Below w.heap.size w w' := by
  obtain ⟨W, hW⟩ : ∃ W, w.alloc (.cells #[.int .u8 (x.op : Int), .int .i64 x.n, v] 28) = W := ⟨_, rfl⟩
  have hwb : Below w.heap.size w W := by rw [← hW]; exact (Below.refl _ _).alloc (Nat.le_refl _) _
  have HO : Hid (Calls Tryd.prog 55 #[.agg #[.int .u8 (x.op : Int), .int .i64 x.n, v], .func (.func 56) #[] #[]] W (OPost none x W)) := Lib.hid (over_any (md := none) (h.under hwb) hs (fun bd hb => by cases hb))
  have HB := Lib.hid hwb
  obtain ⟨c0, c1, c2⟩ := box_cells hW
  clear h hwb
  unfold exV
  go_enter Tryd.func53, Tryd.ntmps53
  go_wp2_with fail
  refine HO.out.mono ?_
  rintro e w' ⟨D', rfl, _, hon, _, _⟩
  have HX := Lib.hid (HB.out.trans ((only_none hon (fun k hk => by cases hk)).mono HB.out.size))
  clear hon
  go_wp2_with fail
  go_ret
  exact ⟨rfl, HX.out⟩
end Go.Proofs.YtjmfneljgogohaaDoor.exp
