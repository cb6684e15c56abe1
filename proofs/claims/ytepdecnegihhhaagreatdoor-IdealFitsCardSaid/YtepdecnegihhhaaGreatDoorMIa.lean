/- An expression that is the same, and shares nothing. Nodes that are the same, and share nothing. -/
import Derived.Test.YtepdecnegihhhaaGreatDoorMSd
import Derived.Test.YtepdecnegihhhaaGreatDoorDkR
import Derived.Deep.RegionHeld3
import Derived.Deep.DeepCutAuto
import Derived.Laws.OwnMore
import Derived.Test.YtepdecnegihhhaaGreatDoorMOp
set_option linter.unusedSimpArgs false
set_option linter.unusedVariables false
namespace Go.Proofs.YtepdecnegihhhaaGreatDoor.idl
section
open Go.RowKit nam exp jb
open sc (setCell_heap)
attribute [local go_sem ↓] Go.wp_at_zero Go.wp_at_succ
abbrev ERow := Ex × Value
def eCells (c : ERow) : List Value := [.int .u8 (c.1.op : Int), .int .i64 c.1.n, c.2]
def flatE (l : List ERow) : List Value := l.flatMap eCells
theorem flatE_snoc (l : List ERow) (c : ERow) : flatE (l ++ [c]) = flatE l ++ eCells c := by simp [flatE]
theorem flatE_get : ∀ (l : List ERow) (i j : Nat) (h : i < l.length), j < 3 → (flatE l)[i * 3 + j]? = (eCells l[i])[j]?
 | [], i, j, h, hj => by simp at h
 | c :: l, 0, j, h, hj => by
  have e : flatE (c :: l) = eCells c ++ flatE l := rfl
  have e7 : (eCells c).length = 3 := rfl
  rw [e, List.getElem?_append_left (by omega)]
  simp
 | c :: l, i + 1, j, h, hj => by
  have e : flatE (c :: l) = eCells c ++ flatE l := rfl
  have e7 : (eCells c).length = 3 := rfl
  rw [e, List.getElem?_append_right (by omega), show (i + 1) * 3 + j - (eCells c).length = i * 3 + j by omega, flatE_get l i j (by simpa using h) hj]
  rfl
def ERowsAt (H : Nat) (w : World) (v : Value) (rows : List ERow) : Prop :=
 lg.Row w 46 3 v rows.length (flatE rows) ∧ (∀ g, v.ownBlock = some g → H ≤ g) ∧ ∀ c ∈ rows, Lies w (fun b => H ≤ b ∧ v.ownBlock ≠ some b) c.2 c.1.args
theorem ERowsAt.nil (H : Nat) (w : World) : ERowsAt H w (.slice none 0 0) [] := ⟨lg.Row.nil _ _ _, fun g hg => by simp [Value.ownBlock] at hg, fun c hc => by cases hc⟩
theorem ERowsAt.frame {H B : Nat} {w w' : World} {v : Value} {rows : List ERow} (h : ERowsAt H w v rows) (hs : w.heap.size ≤ w'.heap.size) (hk : ∀ b, H ≤ b → b < w.heap.size → w'.heap[b]? = w.heap[b]?) : ERowsAt H w' v rows :=
 ⟨h.1.frame fun g hg => hk g (h.2.1 g hg) (h.1.lt hg), h.2.1, fun c hc => (h.2.2 c hc).frame fun b _ hb hh => hk b hb.1 (Array.getElem?_eq_some_iff.1 hh).1⟩
theorem ERowsAt.below {H : Nat} {w w' : World} {v : Value} {rows : List ERow} (h : ERowsAt H w v rows) (hb : Below w.heap.size w w') : ERowsAt H w' v rows := h.frame (B := 0) hb.size fun b _ hlt => hb.block b hlt
theorem ERowsAt.push {H g cap : Nat} {w w5 : World} {v : Value} {rows : List ERow} {c : ERow} {o : Obj} (h : ERowsAt H w v rows) (hHw : H ≤ w.heap.size) (hc : Lies w (fun b => H ≤ b ∧ v.ownBlock ≠ some b) c.2 c.1.args) (hg : (w.alloc o).grownBy w5 v.ownBlock)
  (hrow : lg.Row w5 46 3 (.slice (some ⟨g, 0, none⟩) (rows.length + 1) cap) (rows.length + 1) (flatE rows ++ eCells c)) (hat : v.ownBlock = some g ∨ g = (w.alloc o).heap.size) :
  ERowsAt H w5 (.slice (some ⟨g, 0, none⟩) (rows.length + 1) cap) (rows ++ [c]) := by
 have hbut : ∀ b, b < w.heap.size → v.ownBlock ≠ some b → w5.heap[b]? = w.heap[b]? := fun b hb hne =>
  (hg.block b (by rw [World.size_alloc]; omega) (fun e => hne e.symm)).trans (Below.heap_alloc _ _ _ hb)
 have key : ∀ {u : Value} {l : List Ex}, Lies w (fun b => H ≤ b ∧ v.ownBlock ≠ some b) u l → Lies w5 (fun b => H ≤ b ∧ (Value.slice (some ⟨g, 0, none⟩) (rows.length + 1) cap).ownBlock ≠ some b) u l := by
  intro u l hu
  refine (hu.here.frame (fun b c hb hbb => hbut b hb.2 hb.1.2)).mono ?_
  rintro b ⟨⟨h1, h2⟩, h3⟩
  refine ⟨h1, fun e => ?_⟩
  simp only [Value.ownBlock, Option.some.injEq] at e
  subst e
  rcases hat with h4 | h4
  · exact h2 h4
  · rw [h4, World.size_alloc] at h3
    omega
 refine ⟨by rw [List.length_append, List.length_singleton, flatE_snoc]; exact hrow, fun g' hg' => ?_, fun d hd => ?_⟩
 · simp only [Value.ownBlock, Option.some.injEq] at hg'
   subst hg'
   rcases hat with h4 | h4
   · exact h.2.1 g h4
   · rw [h4, World.size_alloc]; omega
 · rcases List.mem_append.1 hd with hd | hd
   · exact key (h.2.2 d hd)
   · rw [List.mem_singleton.1 hd]
     exact key hc
theorem ERowsAt.lies {H : Nat} {w : World} {v : Value} {rows : List ERow} (h : ERowsAt H w v rows) : Lies w (fun b => H ≤ b) v (rows.map (·.1)) := by
 obtain ⟨⟨h0, h1⟩, h2, h3⟩ := h
 rcases h1 with ⟨rfl, hn⟩ | ⟨g, cap, cur, rfl, hg, hn, _, hs, ht⟩
 · rw [List.eq_nil_of_length_eq_zero hn]
   exact .nil
 · refine .row g _ cap cur _ (fun i => ((rows[i]?).getD (Ex.zero, .bool false)).2) (h2 g rfl) hg (by rw [List.length_map]) (fun i hi => ?_) (fun i hi => ?_)
   · have hi2 : i < rows.length := by simpa using hi
     have hget : ∀ j, j < 3 → cur[i * 3 + j]? = (eCells rows[i])[j]? := fun j hj => by
      rw [← flatE_get rows i j hi2 hj, ← ht, List.getElem?_take, if_pos (by omega)]
      simp
     rw [List.getElem_map, List.getElem?_eq_getElem hi2]
     exact ⟨hget 0 (by omega), hget 1 (by omega), hget 2 (by omega)⟩
   · have hi2 : i < rows.length := by simpa using hi
     rw [List.getElem_map, List.getElem?_eq_getElem hi2]
     exact (h3 _ (List.getElem_mem hi2)).mono fun b hb => hb.1
theorem info_expr : (Tryz.prog.info? 46).map (fun i => (i.zero, i.size, i.bytes)) = some (some (.agg #[.int .u8 0, .int .i64 0, .slice none 0 0]), 3, 40) := by kernel_rfl
theorem info_three : (Tryz.prog.info? 46).map (·.size) = some 3 := by kernel_rfl
theorem block_lt {w : World} {b : Nat} {o : Obj} (h : w.heap[b]? = some o) : b < w.heap.size := (Array.getElem?_eq_some_iff.1 h).1
theorem cells3 {w : World} {b : Nat} {x y z : Value} {t : TypeId} (h : w.heap[b]? = some (.cells #[x, y, z] t (0, 0))) : w.cell? ⟨b, 0, none⟩ = some x ∧ w.cell? ⟨b, 1, none⟩ = some y ∧ w.cell? ⟨b, 2, none⟩ = some z ∧
  w.frozen? ⟨b, 0, none⟩ = false ∧ w.frozen? ⟨b, 1, none⟩ = false ∧ w.frozen? ⟨b, 2, none⟩ = false :=
 ⟨cell_of h rfl, cell_of h rfl, cell_of h rfl, by simp [World.frozen?, h], by simp [World.frozen?, h], by simp [World.frozen?, h]⟩
theorem set3 {w : World} {b : Nat} {x y z x' y' z' : Value} {t : TypeId} (h : w.heap[b]? = some (.cells #[x, y, z] t (0, 0))) : (((w.setCell ⟨b, 0, none⟩ x').setCell ⟨b, 1, none⟩ y').setCell ⟨b, 2, none⟩ z').heap[b]? = some (.cells #[x', y', z'] t (0, 0)) := setCell_heap (setCell_heap (setCell_heap h))
theorem range_new {w : World} {b : Nat} {cs : List Value} {t : TypeId} {fr : Nat × Nat} (h : w.heap[b]? = some (.cells cs.toArray t fr)) : w.rangeAt b 0 cs := fun j u hj => by rw [Nat.zero_add]; exact cell_of h (by simpa using hj)
structure OnA (w0 : World) (N : Nat) (op : Nat) (n : Int) (u : Value) (w : World) : Prop where
 bel : Below N w0 w
 res : w.heap[N + 1]? = some (.cells #[.int .u8 0, .int .i64 0, .slice none 0 0] 46 (0, 0))
 own : w.heap[N + 1 + 1]? = some (.cells #[.int .u8 (op : Int), .int .i64 n, u] 46 (0, 0))
theorem OnA.under {w0 w w' : World} {N op : Nat} {n : Int} {u : Value} (h : OnA w0 N op n u w) (hN : N ≤ w.heap.size) (hb : Below w.heap.size w w') : OnA w0 N op n u w' :=
 ⟨h.bel.trans (hb.mono hN), (hb.block _ (block_lt h.res)).trans h.res, (hb.block _ (block_lt h.own)).trans h.own⟩
theorem OnA.grown {w0 w w5 : World} {N op : Nat} {n : Int} {u : Value} {o : Obj} (h : OnA w0 N op n u w) (hu : ∀ g, u.ownBlock = some g → N + 1 + 1 + 1 ≤ g) (hg : (w.alloc o).grownBy w5 u.ownBlock) : OnA w0 N op n u w5 := by
 have h2 := block_lt h.own
 have k : ∀ b, b < N + 1 + 1 + 1 → b < w.heap.size → w5.heap[b]? = w.heap[b]? := fun b hb hlt => (hg.block b (by rw [World.size_alloc]; omega) (fun e => by have := hu b e.symm; omega)).trans (Below.heap_alloc _ _ _ hlt)
 exact ⟨(h.bel.alloc (by omega) o).grown hg (by rw [World.size_alloc]; omega) (fun j hj => by have := hu j hj; omega), (k _ (by omega) (by omega)).trans h.res, (k _ (by omega) (by omega)).trans h.own⟩
theorem OnA.put {w0 w : World} {N op : Nat} {n : Int} {u v : Value} (h : OnA w0 N op n u w) : OnA w0 N op n v (w.setCell ⟨N + 1 + 1, 2, none⟩ v) :=
 ⟨h.bel.setCell (p := ⟨N + 1 + 1, 2, none⟩) (by show N ≤ N + 1 + 1; omega) _, (Below.heap_setCell _ _ _ _ (show N + 1 ≠ N + 1 + 1 by omega)).trans h.res, setCell_heap h.own⟩
theorem erows_put {w : World} {H b j : Nat} {z v : Value} {rows : List ERow} (h : ERowsAt H w v rows) (hb : b < H) : ERowsAt H (w.setCell ⟨b, j, none⟩ z) v rows :=
 h.frame (B := 0) (by simp) fun k hk _ => Below.heap_setCell _ _ _ _ (show k ≠ b by omega)
theorem lies_put3 {w : World} {B : Nat → Prop} {v : Value} {l : List Ex} {b : Nat} {x y z : Value} (h : Lies w B v l) (hB : ∀ k, B k → k ≠ b) : Lies (((w.setCell ⟨b, 0, none⟩ x).setCell ⟨b, 1, none⟩ y).setCell ⟨b, 2, none⟩ z) B v l :=
 h.frame fun k c hk _ => by rw [Below.heap_setCell _ _ _ _ (hB k hk), Below.heap_setCell _ _ _ _ (hB k hk), Below.heap_setCell _ _ _ _ (hB k hk)]
def ApPost (w : World) (x : Ex) (e : Ending) (w' : World) : Prop := ∃ va', e = .returned (exV x va') ∧ Lies w' (fun b => w.heap.size ≤ b) va' x.args ∧ Below w.heap.size w w'
set_option maxHeartbeats 3200000 in
set_option maxRecDepth 1000000 in
theorem apart_expr : ∀ (s : Nat), s ≤ 1000000 → ∀ (x : Ex), x.size ≤ s → ∀ (w : World) (B : Nat → Prop) (va : Value), Lies w B va x.args → Calls Tryz.prog 57 #[exV x va] w (ApPost w x) := by
 intro s
 induction s with
 | zero => intro _ x hx; have := size_pos x; omega
 | succ s ih =>
  intro hs x hx w B va hl
  obtain ⟨i0, hi, hz0, hz1, hz2⟩ := info_parts info_expr
  obtain ⟨N, hN⟩ : ∃ N, w.heap.size = N := ⟨_, rfl⟩
  obtain ⟨a, c, rfl, hat⟩ := hl.form
  obtain ⟨n, hn⟩ : ∃ n, x.args.length = n := ⟨_, rfl⟩
  have hn6 : n ≤ 1000000 := by rw [← hn]; have := sizes_len x.args; have := size_eq x; omega
  have HN6 := Lib.hid hn6
  obtain ⟨W, hW⟩ : ∃ W, ((w.alloc (.cells #[.int .u8 (x.op : Int), .int .i64 x.n, .slice a n c] 46)).alloc (.cells #[.int .u8 0, .int .i64 0, .slice none 0 0] 46)).alloc (.cells #[.int .u8 (x.op : Int), .int .i64 x.n, .slice none 0 0] 46) = W := ⟨_, rfl⟩
  have hwb : Below w.heap.size w W := by rw [← hW]; exact ((below_made w _).alloc (by simp) _).alloc (by simp; omega) _
  have hWs : W.heap.size = N + 1 + 1 + 1 := by rw [← hW, ← hN]; simp
  have hb0 : W.heap[N]? = some (.cells #[.int .u8 (x.op : Int), .int .i64 x.n, .slice a n c] 46 (0, 0)) := by rw [← hW]; exact heap_old (heap_old (heap_last hN.symm))
  have hb1 : W.heap[N + 1]? = some (.cells #[.int .u8 0, .int .i64 0, .slice none 0 0] 46 (0, 0)) := by rw [← hW]; exact heap_old (heap_last (by simp [hN]))
  have hb2 : W.heap[N + 1 + 1]? = some (.cells #[.int .u8 (x.op : Int), .int .i64 x.n, .slice none 0 0] 46 (0, 0)) := by rw [← hW]; exact heap_last (by simp [hN])
  have HO0 : Hid (OnA w N x.op x.n (.slice none 0 0) W) := Lib.hid ⟨by rw [← hN]; exact hwb, hb1, hb2⟩
  have HWS := Lib.hid hWs
  have HNN := Lib.hid hN
  have HAT : Hid (∀ k, k < n → ∃ b y, a = some ⟨b, 0, none⟩ ∧ x.args[k]? = some y ∧ At w B b (k * 3) y) := Lib.hid (fun k hk => by
   obtain ⟨b, e1, e2⟩ := hat (by omega)
   exact ⟨b, _, e1, List.getElem?_eq_getElem (by omega), e2 k (by omega)⟩)
  have HIH : Hid (∀ y ∈ x.args, ∀ (w' : World) (B' : Nat → Prop) (v' : Value), Lies w' B' v' y.args → Calls Tryz.prog 57 #[exV y v'] w' (ApPost w' y)) := Lib.hid (fun y hy => ih (by omega) y (by have := size_arg hy; omega))
  obtain ⟨z0, z1, z2, -, -, -⟩ := cells3 hb0
  have HFIN : Hid (∀ wr u rows, OnA w N x.op x.n u wr → ERowsAt (N + 1 + 1 + 1) wr u rows → rows.map (·.1) = x.args → ApPost w x (.returned (exV x u)) (((wr.setCell ⟨N + 1, 0, none⟩ (.int .u8 (x.op : Int))).setCell ⟨N + 1, 1, none⟩ (.int .i64 x.n)).setCell ⟨N + 1, 2, none⟩ u)) := Lib.hid (fun wr u rows ho hr hm => by
   refine ⟨u, rfl, ?_, ?_⟩
   · have := (lies_put3 (x := .int .u8 (x.op : Int)) (y := .int .i64 x.n) (z := u) hr.lies (b := N + 1) (fun k hk => by omega)).mono (B' := fun b => w.heap.size ≤ b) (fun b hb => by omega)
     rw [hm] at this; exact this
   · rw [hN]
     exact ((ho.bel.setCell (p := ⟨N + 1, 0, none⟩) (by show N ≤ N + 1; omega) _).setCell (p := ⟨N + 1, 1, none⟩) (by show N ≤ N + 1; omega) _).setCell (p := ⟨N + 1, 2, none⟩) (by show N ≤ N + 1; omega) _)
  have HNX := Lib.hid hn
  have HXP : Hid (∀ y ∈ x.args, True) := Lib.hid (fun _ _ => trivial)
  unfold exV
  rw [hn]
  have HWW := Lib.hid hW
  clear hs hx hl hat hn hwb hWs hb0 hb1 hb2 ih hW hN hn6
  go_enter Tryz.func57, Tryz.ntmps57
  go_upto_region 2 with fail
  rw [HNN.out, HWW.out]
  go_wp2_with fail
  go_loopg [14] n (fun g v14 wr => ∃ (k : Nat) (rows : List ERow) (u : Value), k + g = n ∧ v14 = .int .i64 (k : Int) ∧ Hid (rows.length = k) ∧ Hid (rows.map (·.1) = x.args.take k) ∧ Hid (ERowsAt (N + 1 + 1 + 1) wr u rows) ∧ Hid (OnA w N x.op x.n u wr))
  case atStart => exact ⟨0, [], _, by omega, rfl, Lib.hid rfl, Lib.hid (by simp), Lib.hid (ERowsAt.nil _ _), HO0⟩
  case round =>
   rename World => wr
   obtain ⟨k, rows, u, hk, rfl, HLN, HMP, HR, HO⟩ := hrel
   by_cases hkn : k < n
   · have hki : (k : Int) < (n : Int) := by omega
     have hk0 : (0 : Int) ≤ (k : Int) := by omega
     have hk6 : k ≤ 1000000 := by have := HN6.out; omega
     obtain ⟨b, y, rfl, hy, hya⟩ := HAT.out k hkn
     obtain ⟨a', c', y0, y1, y2, hyl, -⟩ := (hya.below (by have := HO.out.bel; rw [← HNN.out] at this; exact this)).cells
     obtain ⟨m, hm⟩ : ∃ m, y.args.length = m := ⟨_, rfl⟩
     rw [hm] at y2 hyl
     obtain ⟨PW, hPW⟩ : ∃ PW, wr.alloc (.cells #[.int .u8 (y.op : Int), .int .i64 y.n, .slice a' m c'] 46) = PW := ⟨_, rfl⟩
     have hpb : Below wr.heap.size wr PW := by rw [← hPW]; exact below_made _ _
     obtain ⟨P, hP⟩ : ∃ P, wr.heap.size = P := ⟨_, rfl⟩
     have hNP : N + 1 + 1 < P := by rw [← hP]; exact block_lt HO.out.own
     have hOP := HO.out.under (by omega) hpb
     have hRP := HR.out.below hpb
     have hPr : PW.heap[P]? = some (.cells #[.int .u8 (y.op : Int), .int .i64 y.n, .slice a' m c'] 46 (0, 0)) := by rw [← hPW]; exact heap_last hP.symm
     have HPS : Hid (PW.heap.size = P + 1) := Lib.hid (by rw [← hPW, ← hP]; simp)
     have HOP := Lib.hid hOP; have HRP := Lib.hid hRP; have HPR := Lib.hid hPr
     have HYL := Lib.hid (hyl.under hpb)
     have HC := Lib.hid (HIH.out y (List.mem_of_getElem? hy))
     have HYE := Lib.hid hy
     have HMM := Lib.hid hm
     have HPW := Lib.hid hPW
     have HP := Lib.hid hP
     have HNP := Lib.hid hNP
     have HSN : Hid ((rows ++ [(y, Value.bool false)]).map (·.1) = x.args.take (k + 1)) := Lib.hid (by rw [List.map_append, HMP.out, List.take_add_one, hy]; rfl)
     clear hya hyl hy hm hpb hOP hRP hPr hPW hP hNP
     go_upto_region 5 with fail
     rw [HP.out, HPW.out]
     refine dsk.wp_region_peel2 (by kernel_rfl) (by simp only [List.dropLast_cons_cons, List.dropLast_singleton]; exact rfl) rfl (by kernel_rfl) ?_
     refine wpAny_of_held (S := fun w' => w'.cell? ⟨N + 1 + 1, 2, none⟩ = some u ∧ w'.rangeAt P 0 [.int .u8 (y.op : Int), .int .i64 y.n, .slice a' m c']) _ _ _ _ ?_
     have hHeld := (show PW.drew.cell? ⟨N + 1 + 1, 2, none⟩ = some u ∧ PW.drew.rangeAt P 0 [.int .u8 (y.op : Int), .int .i64 y.n, .slice a' m c'] from ⟨(cells3 HOP.out.own).2.2.1, range_new HPR.out⟩)
     refine wpAnyH_take (i := 0) (v := ?v1) rfl (by kernel_rfl) (by kernel_rfl) (by kernel_rfl) (fun _ _ _ h => h) (Or.inl ⟨by rfl, ?hy1⟩) (by assumption) ?rest1
     case hy1 => (intro w0 hSw; (try dsimp only at hSw); go_simp; try with_reducible rfl)
     try simp only [Act.put, List.getElem_toArray, List.getElem_cons_zero, List.getElem_cons_succ, List.setIfInBounds_toArray, List.set_cons_zero, List.set_cons_succ]
     refine wpAnyH_take (i := 1) (v := ?v2) rfl (by kernel_rfl) (by kernel_rfl) (by kernel_rfl) (fun _ _ _ h => h) (Or.inl ⟨by rfl, ?hy2⟩) (by assumption) ?rest2
     case hy2 => (intro w0 hSw; (try dsimp only at hSw); go_simp; try with_reducible rfl)
     try simp only [Act.put, List.getElem_toArray, List.getElem_cons_zero, List.getElem_cons_succ, List.setIfInBounds_toArray, List.set_cons_zero, List.set_cons_succ]
     refine wpAnyH_take (i := 2) (v := .agg ([.int .u8 (y.op : Int), .int .i64 y.n, .slice a' m c'] : List Value).toArray) rfl (by kernel_rfl) (by kernel_rfl) (by kernel_rfl) (fun _ _ _ h => h) (yieldsIf_load_mid (by rfl) 46 (.tmp 5) rfl P (0) rfl [.int .u8 (y.op : Int), .int .i64 y.n, .slice a' m c'] _ (fun w0 hw0 => hw0.2) Tryz.underlying46 rfl info_three) (by assumption) ?_
     try simp only [Act.put, List.getElem_toArray, List.getElem_cons_zero, List.getElem_cons_succ, List.setIfInBounds_toArray, List.set_cons_zero, List.set_cons_succ]
     refine wpAnyH_ready (rs := [3]) (by kernel_rfl) (by simp) ?_
     refine AllReadyH.cons rfl (fun KQ hKQ => ?_) AllReadyH.nil
     go_simp
     refine (HC.out _ _ _ (show Lies PW.drew B (.slice a' m c') y.args from HYL.out.frame fun _ _ _ _ => rfl)).mono ?_
     rintro e w6 ⟨va6, rfl, hla, hb6⟩
     have hb6d : Below PW.heap.size PW w6 := ⟨hb6.os, hb6.tape, hb6.output, hb6.size, hb6.block⟩
     obtain ⟨aa, ca, rfl, -⟩ := hla.form
     rw [HMM.out] at hla ⊢
     have HB6 := Lib.hid hb6d
     have HO6 := Lib.hid (HOP.out.under (by have := HPS.out; have := HNP.out; omega) hb6d)
     have HR6 := Lib.hid (HRP.out.below hb6d)
     have HPR6 := Lib.hid ((hb6d.block P (block_lt HPR.out)).trans HPR.out)
     have HLA : Hid (Lies w6 (fun b => N + 1 + 1 + 1 ≤ b ∧ u.ownBlock ≠ some b) (.slice aa m ca) y.args) := Lib.hid (hla.mono fun b hb => by
      have hb' : PW.heap.size ≤ b := hb
      have h1 := HPS.out; have h2 := HNP.out
      exact ⟨by omega, fun e => by have := HRP.out.1.lt e; omega⟩)
     have HRW : Hid (∀ o, lg.Row (w6.alloc o) 46 3 u k (flatE rows)) := Lib.hid (fun o => by have h1 := HR6.out.1.below (below_made w6 o); rw [HLN.out] at h1; exact h1)
     have HSZ : Hid (N + 1 + 1 + 1 ≤ w6.heap.size) := Lib.hid (by have h1 := HPS.out; have h2 := HNP.out; have h3 := hb6d.size; omega)
     clear hla hb6 hb6d
     unfold exV
     refine hKQ.out _ _ ?_ (fun hHeld => ?_)
     · exact ⟨(cells3 HO6.out.own).2.2.1, range_new HPR6.out⟩
     clear hKQ KQ
     try simp only [Act.put, List.getElem_toArray, List.getElem_cons_zero, List.getElem_cons_succ, List.setIfInBounds_toArray, List.set_cons_zero, List.set_cons_succ]
     refine wpAnyH_ready (rs := [4]) (by kernel_rfl) (by simp) ?_
     refine AllReadyH.cons rfl (fun KQ hKQ => ?_) AllReadyH.nil
     go_simp
     refine hKQ.out _ _ ?_ (fun hHeld => ?_)
     · exact ⟨(cells3 (HO6.out.under (by have := HSZ.out; omega) (below_made _ _)).own).2.2.1, range_new ((Below.heap_alloc _ _ _ (block_lt HPR6.out)).trans HPR6.out)⟩
     clear hKQ KQ
     try simp only [Act.put, List.getElem_toArray, List.getElem_cons_zero, List.getElem_cons_succ, List.setIfInBounds_toArray, List.set_cons_zero, List.set_cons_succ]
     refine wpAnyH_ready (rs := [5]) (by kernel_rfl) (by simp) ?_
     refine AllReadyH.cons rfl (fun KQ hKQ => ?_) AllReadyH.nil
     refine lg.step_append_row _ (by rfl) (.tmp 19) (.tmp 22) 44 (by rfl) 46 i0 (.agg #[.int .u8 0, .int .i64 0, .slice none 0 0]) 3 40 Tryz.underlying44 hi hz0 hz1 hz2 rfl (by decide) u k (flatE rows) (by rfl) (HRW.out _) ⟨_, 0, none⟩ 1 1 [.int .u8 (y.op : Int), .int .i64 y.n, .slice aa m ca] (by rfl) (by rfl) (World.news_of_block (cs := #[.int .u8 (y.op : Int), .int .i64 y.n, .slice aa m ca]) (t := 46) (fr := (0, 0)) (heap_alloc_new _ _)) (by simp [Value.oneCell']) (by omega) (by unfold maxLen; omega) (by omega) _ rfl ?_
     intro gb cap w7 hown hg hat hlt
     have HO7 := Lib.hid (HO6.out.grown (fun j hj => HR6.out.2.1 j hj) hg)
     have HR7 : Hid (ERowsAt (N + 1 + 1 + 1) w7 (.slice (some ⟨gb, 0, none⟩) (k + 1) cap) (rows ++ [(y, .slice aa m ca)])) := Lib.hid (by
      have h1 := HR6.out.push (c := (y, .slice aa m ca)) (g := gb) (cap := cap) (w5 := w7) HSZ.out HLA.out hg (by rw [HLN.out]; exact hown) hat
      rw [HLN.out] at h1
      exact h1)
     have HPR7 : Hid (w7.heap[P]? = some (.cells #[.int .u8 (y.op : Int), .int .i64 y.n, .slice a' m c'] 46 (0, 0))) := Lib.hid ((hg.block P (by rw [World.size_alloc]; have := block_lt HPR6.out; omega) (fun e => by
      have h1 := HRP.out.1.lt e.symm; have h2 := HR.out.1.lt e.symm; have h3 := HP.out; omega)).trans ((Below.heap_alloc _ _ _ (block_lt HPR6.out)).trans HPR6.out))
     clear hown hg hat hlt
     refine hKQ.out _ _ ?_ (fun hHeld => ?_)
     · exact ⟨(cells3 HO7.out.own).2.2.1, range_new HPR7.out⟩
     clear hKQ KQ
     try simp only [Act.put, List.getElem_toArray, List.getElem_cons_zero, List.getElem_cons_succ, List.setIfInBounds_toArray, List.set_cons_zero, List.set_cons_succ]
     refine wpAnyH_take (i := 6) (v := ?v3) rfl (by kernel_rfl) (by kernel_rfl) (by kernel_rfl) (fun _ _ _ h => h) (Or.inl ⟨by rfl, ?hy3⟩) (by assumption) ?rest3
     case hy3 => (intro w0 hSw; (try dsimp only at hSw); go_simp; try with_reducible rfl)
     try simp only [Act.put, List.getElem_toArray, List.getElem_cons_zero, List.getElem_cons_succ, List.setIfInBounds_toArray, List.set_cons_zero, List.set_cons_succ]
     refine wpAnyH_done (by kernel_rfl) ?_ _
     change wpList _ _ _ _ _ _
     obtain ⟨x0, x1, x2, xf0, xf1, xf2⟩ := cells3 HO7.out.own
     have HO8 := Lib.hid (HO7.out.put (v := .slice (some ⟨gb, 0, none⟩) (k + 1) cap))
     have HR8 := Lib.hid (erows_put (z := .slice (some ⟨gb, 0, none⟩) (k + 1) cap) (j := 2) HR7.out (show N + 1 + 1 < N + 1 + 1 + 1 by omega))
     clear hHeld
     go_wp2_with fail
     go_roundg (gk - 1)
     case measure => omega
     case rel => exact ⟨k + 1, rows ++ [(y, .slice aa m ca)], _, by omega, by go_num, Lib.hid (by simp [HLN.out]), Lib.hid (by have h1 := HSN.out; rw [List.map_append] at h1 ⊢; exact h1), HR8, HO8⟩
   · have hki : ¬ (k : Int) < (n : Int) := by omega
     obtain rfl : k = n := by omega
     have HMX : Hid (rows.map (·.1) = x.args) := Lib.hid (by rw [HMP.out, List.take_of_length_le (by rw [HNX.out]; exact Nat.le_refl _)])
     obtain ⟨x0, x1, x2, -, -, -⟩ := cells3 HO.out.own
     obtain ⟨t0, t1, t2, g0, g1, g2⟩ := cells3 HO.out.res
     obtain ⟨au, lu, cu, eu⟩ : ∃ au lu cu, u = .slice au lu cu := by obtain ⟨au, cu, eu⟩ := HR.out.1.len; exact ⟨au, _, cu, eu⟩
     subst eu
     have HE6 := Lib.hid (set3 (x' := .int .u8 (x.op : Int)) (y' := .int .i64 x.n) (z' := .slice au lu cu) HO.out.res)
     have HFE := Lib.hid (HFIN.out wr _ rows HO.out HR.out HMX.out)
     unfold exV at HFE
     clear hkn
     go_wp2_with fail
     try rw [Exit.noGoto_ret]
     obtain ⟨e0, e1, e2, -, -, -⟩ := cells3 HE6.out
     exact bodyPost_ret (v := .agg #[.int .u8 (x.op : Int), .int .i64 x.n, .slice au lu cu]) (by simp [results, Tryz.f57, go_sem, e0, e1, e2]) rfl HFE.out
end
section
open Go.RowKit nam exp jb
open sc (setCell_heap NRow rowCells flatR flatR_len flatR_snoc flatR_get irow_of row_ty)
attribute [local go_sem ↓] Go.wp_at_zero Go.wp_at_succ
theorem info_int : (Tryz.prog.info? 3).map (fun i => (i.zero, i.size, i.bytes)) = some (some (.int .i64 0), 1, 8) := by kernel_rfl
theorem info_node : (Tryz.prog.info? 48).map (fun i => (i.zero, i.size, i.bytes)) = some (some (.agg #[.string ⟨#[]⟩, .int .u8 0, .slice none 0 0, .int .u8 0, .int .i64 0, .slice none 0 0, .int .i64 0]), 7, 96) := by kernel_rfl
theorem one_ints (l : List Int) : ∀ u ∈ l.map intV, u.oneCell' = true := by
 intro u hu
 obtain ⟨x, -, rfl⟩ := List.mem_map.1 hu
 rfl
theorem app_ins {W : World} {B : Nat} {v : Value} {l : List Int} (h : IRow W v l) (hl : l.length ≤ 1000000) (hB : B ≤ W.heap.size) :
  ∃ v' w', (∀ ty, (Builtin.append_ #[43, 43] ty #[.slice none 0 0, v]).run Tryz.prog W = .ok v' w') ∧ w'.ownsRow B 3 1 v' l.length (l.map intV) ∧ W.grownBy w' none := by
 obtain ⟨i0, hi, hz0, hz1, hz2⟩ := info_parts info_int
 obtain ⟨a, c, rfl, hc⟩ := h
 by_cases h0 : l.length = 0
 · have e0 : l = [] := List.eq_nil_of_length_eq_zero h0
   subst e0
   refine ⟨.slice none 0 0, W, fun ty => ?_, World.ownsRow_nil _ _ _ _, ⟨rfl, rfl, rfl, Nat.le_refl _, fun _ _ _ => rfl⟩⟩
   cases a <;> simp [Builtin.append_, run_underlying Tryz.underlying43, sizeOf, typeInfo, hi, Builtin.lenOf, Builtin.firstCells, storeCells, loadCells, loadCellsFrom]
 · obtain ⟨b, o, rfl, h1, h2⟩ := hc (by omega)
   have key := fun ty => run_append_own (P := Tryz.prog) W B 43 ty 3 i0 (.int .i64 0) 1 8 Tryz.underlying43 hi hz0 hz1 hz2 rfl (by decide) (.slice none 0 0) 0 [] (World.ownsRow_nil _ _ _ _) ⟨b, o, none⟩ l.length c (l.map intV) (by simp)
    (fun j u hu => by
     have hj : j < l.length := by
      rcases Nat.lt_or_ge j l.length with h1 | h1
      · exact h1
      · rw [List.getElem?_eq_none (by simpa using h1)] at hu; cases hu
     have hadd : (⟨b, o, none⟩ : Addr).add j = ⟨b, o + j, none⟩ := by unfold Addr.add; split <;> simp_all
     rw [hadd, h2 j hj, ← hu]
     simp [hj, intV]) (one_ints l) (by unfold maxLen; omega) (by omega) hB
   obtain ⟨v', w', r1, r2, r3, _⟩ := key 43
   refine ⟨v', w', fun ty => ?_, by simpa using r2, r3⟩
   obtain ⟨v2, w2, q1, -⟩ := key ty
   have : (Builtin.append_ #[43, 43] ty #[.slice none 0 0, .slice (some ⟨b, o, none⟩) l.length c]).run Tryz.prog W = (Builtin.append_ #[43, 43] 43 #[.slice none 0 0, .slice (some ⟨b, o, none⟩) l.length c]).run Tryz.prog W := rfl
   rw [this]; exact r1
def NOk (H : Nat) (w : World) (c : NRow) : Prop := lg.Row w 3 1 c.2.1 c.1.ins.length (c.1.ins.map intV) ∧ Lies w (fun b => H ≤ b) c.2.2 c.1.x.args
def NRowsAt (H : Nat) (w : World) (v : Value) (rows : List NRow) : Prop :=
 lg.Row w 48 7 v rows.length (flatR rows) ∧ (∀ g, v.ownBlock = some g → H ≤ g) ∧ ∀ c ∈ rows, NOk H w c
theorem NRowsAt.nil (H : Nat) (w : World) : NRowsAt H w (.slice none 0 0) [] := ⟨lg.Row.nil _ _ _, fun g hg => by simp [Value.ownBlock] at hg, fun c hc => by cases hc⟩
theorem NOk.below {H : Nat} {w w' : World} {c : NRow} (h : NOk H w c) (hb : Below w.heap.size w w') : NOk H w' c := ⟨h.1.below hb, h.2.under hb⟩
theorem NRowsAt.below {H : Nat} {w w' : World} {v : Value} {rows : List NRow} (h : NRowsAt H w v rows) (hb : Below w.heap.size w w') : NRowsAt H w' v rows :=
 ⟨h.1.below hb, h.2.1, fun c hc => (h.2.2 c hc).below hb⟩
theorem NRowsAt.push {H g cap : Nat} {w w5 : World} {v : Value} {rows : List NRow} {c : NRow} {o : Obj} (h : NRowsAt H w v rows) (hHw : H ≤ w.heap.size) (hc : NOk H w c) (hg : (w.alloc o).grownBy w5 v.ownBlock)
  (hrow : lg.Row w5 48 7 (.slice (some ⟨g, 0, none⟩) (rows.length + 1) cap) (rows.length + 1) (flatR rows ++ rowCells c)) (hat : v.ownBlock = some g ∨ g = (w.alloc o).heap.size) :
  NRowsAt H w5 (.slice (some ⟨g, 0, none⟩) (rows.length + 1) cap) (rows ++ [c]) := by
 have hbut : ∀ b, b < w.heap.size → v.ownBlock ≠ some b → w5.heap[b]? = w.heap[b]? := fun b hb hne =>
  (hg.block b (by rw [World.size_alloc]; omega) (fun e => hne e.symm)).trans (Below.heap_alloc _ _ _ hb)
 have key : ∀ {d : NRow}, NOk H w d → NOk H w5 d := by
  intro d hd
  refine ⟨hd.1.frame fun g hg' => ?_, hd.2.frame fun b cc _ hb => ?_⟩
  · obtain ⟨cur, hcur⟩ := hd.1.kind hg'
    exact hbut g (block_lt hcur) (row_ty h.1 hcur (by decide))
  · exact hbut b (block_lt hb) (row_ty h.1 hb (by decide))
 refine ⟨by rw [List.length_append, List.length_singleton, flatR_snoc]; exact hrow, fun g' hg' => ?_, fun d hd => ?_⟩
 · simp only [Value.ownBlock, Option.some.injEq] at hg'
   subst hg'
   rcases hat with h4 | h4
   · exact h.2.1 g h4
   · rw [h4, World.size_alloc]; omega
 · rcases List.mem_append.1 hd with hd | hd
   · exact key (h.2.2 d hd)
   · rw [List.mem_singleton.1 hd]
     exact key hc
theorem NRowsAt.nodes {H : Nat} {w : World} {v : Value} {rows : List NRow} {l : List Nd} (h : NRowsAt H w v rows) (hm : rows.map (·.1) = l) : Nodes w v l := by
 obtain ⟨hown, _, hok⟩ := h
 have hlen : rows.length = l.length := by rw [← hm, List.length_map]
 rcases hown.2 with ⟨rfl, h0⟩ | ⟨g, cap, cur, rfl, hg, h1, h2, h3, h4⟩
 · exact ⟨none, 0, by rw [← hlen, h0], by omega, fun h => by omega⟩
 · refine ⟨_, cap, by rw [← hlen], by omega, fun _ => ⟨g, rfl, fun i hi => ?_⟩⟩
   have hi2 : i < rows.length := by omega
   have e : rows[i].1 = l[i] := by subst hm; simp
   obtain ⟨k1, k3⟩ := hok rows[i] (List.getElem_mem hi2)
   have hcell : ∀ j u, j < 7 → (rowCells rows[i])[j]? = some u → w.cell? ⟨g, i * 7 + j, none⟩ = some u := fun j u hj hu => hown.cellAt (by rw [flatR_get rows i j hi2 hj]; exact hu)
   rw [← e]
   exact ⟨block_lt hg, rows[i].2.1, rows[i].2.2, hcell 0 _ (by omega) rfl, hcell 1 _ (by omega) rfl, hcell 2 _ (by omega) rfl, hcell 3 _ (by omega) rfl, hcell 4 _ (by omega) rfl, hcell 5 _ (by omega) rfl, hcell 6 _ (by omega) rfl, irow_of k1, k3.mono fun _ _ => trivial⟩
theorem cells7 {w : World} {b : Nat} {c0 c1 c2 c3 c4 c5 c6 : Value} {t : TypeId} (h : w.heap[b]? = some (.cells #[c0, c1, c2, c3, c4, c5, c6] t (0, 0))) : w.cell? ⟨b, 0, none⟩ = some c0 ∧ w.cell? ⟨b, 1, none⟩ = some c1 ∧ w.cell? ⟨b, 2, none⟩ = some c2 ∧
  w.cell? ⟨b, 3, none⟩ = some c3 ∧ w.cell? ⟨b, 4, none⟩ = some c4 ∧ w.cell? ⟨b, 5, none⟩ = some c5 ∧ w.cell? ⟨b, 6, none⟩ = some c6 ∧ (∀ j, w.frozen? ⟨b, j, none⟩ = false) :=
 ⟨cell_of h rfl, cell_of h rfl, cell_of h rfl, cell_of h rfl, cell_of h rfl, cell_of h rfl, cell_of h rfl, fun j => by simp [World.frozen?, h]⟩
set_option maxHeartbeats 3200000 in
set_option maxRecDepth 1000000 in
theorem apart_nodes {w : World} {v : Value} {l : List Nd} (h : Nodes w v l) (hl : l.length ≤ 1000000) (hi : ∀ nd ∈ l, nd.ins.length ≤ 1000000 ∧ nd.x.size ≤ 1000000) :
  Calls Tryz.prog 24 #[v] w fun e w' => ∃ v', e = .returned v' ∧ Nodes w' v' l ∧ Below w.heap.size w w' := by
 obtain ⟨i0, hio, hz0, hz1, hz2⟩ := info_parts info_node
 obtain ⟨a, c, rfl, -, hat⟩ := h
 obtain ⟨n, hn⟩ : ∃ n, l.length = n := ⟨_, rfl⟩
 have HN6 : Hid (n ≤ 1000000) := Lib.hid (by rw [← hn]; exact hl)
 have HNX := Lib.hid hn
 obtain ⟨H, hH⟩ : ∃ H, w.heap.size = H := ⟨_, rfl⟩
 have HAT : Hid (∀ k, k < n → ∃ b nd, a = some ⟨b, 0, none⟩ ∧ l[k]? = some nd ∧ NodeAt w b (k * 7) nd ∧ nd.ins.length ≤ 1000000 ∧ nd.x.size ≤ 1000000) := Lib.hid (fun k hk => by
  obtain ⟨b, e1, e2⟩ := hat (by omega)
  exact ⟨b, _, e1, List.getElem?_eq_getElem (by omega), e2 k (by omega), hi _ (List.getElem_mem _)⟩)
 have HHH := Lib.hid hH
 rw [hn, hH]
 clear hn hl hat hi hH
 go_enter Tryz.func24, Tryz.ntmps24
 go_wp2_with fail
 go_loopg [3, 8] n (fun g v3 v8 wr => ∃ (k : Nat) (rows : List NRow), k + g = n ∧ v8 = .int .i64 (k : Int) ∧ Hid (rows.length = k) ∧ Hid (rows.map (·.1) = l.take k) ∧ Hid (NRowsAt H wr v3 rows) ∧ Hid (Below H w wr))
 case atStart => exact ⟨0, [], by omega, rfl, Lib.hid rfl, Lib.hid (by simp), Lib.hid (NRowsAt.nil _ _), Lib.hid (Below.refl _ _)⟩
 case round =>
  rename World => wr
  obtain ⟨k, rows, hk, rfl, HLN, HMP, HR, HB⟩ := hrel
  by_cases hkn : k < n
  · have hki : (k : Int) < (n : Int) := by omega
    have hk0 : (0 : Int) ≤ (k : Int) := by omega
    have hk6 : k ≤ 1000000 := by have := HN6.out; omega
    obtain ⟨b, nd, rfl, hy, hya, hin, hxs⟩ := HAT.out k hkn
    obtain ⟨-, vi, va, y0, y1, y2, y3, y4, y5, y6, hir, hla⟩ := hya.on (by have := HB.out; rw [← HHH.out] at this; exact this)
    obtain ⟨PW, hPW⟩ : ∃ PW, wr.alloc (.cells #[.string nd.uid, .int .u8 (nd.kind : Int), vi, .int .u8 (nd.x.op : Int), .int .i64 nd.x.n, va, .int .i64 nd.n] 48) = PW := ⟨_, rfl⟩
    have hpb : Below wr.heap.size wr PW := by rw [← hPW]; exact below_made _ _
    obtain ⟨P, hP⟩ : ∃ P, wr.heap.size = P := ⟨_, rfl⟩
    have hPr : PW.heap[P]? = some (.cells #[.string nd.uid, .int .u8 (nd.kind : Int), vi, .int .u8 (nd.x.op : Int), .int .i64 nd.x.n, va, .int .i64 nd.n] 48 (0, 0)) := by rw [← hPW]; exact heap_last hP.symm
    have hPS : PW.heap.size = P + 1 := by rw [← hPW, ← hP]; simp
    have hHP : H ≤ P := by have := HB.out.size; rw [hP, HHH.out] at this; exact this
    obtain ⟨v2, w2, hr2, ho2, hg2⟩ := app_ins (B := P + 1) (hir.on hpb) hin (by omega)
    obtain ⟨va2, ca2, rfl⟩ : ∃ va2 ca2, v2 = .slice va2 nd.ins.length ca2 := by
     obtain ⟨va2, ca2, e, -⟩ := irow_of (lg.Row.own ho2)
     exact ⟨_, _, e⟩
    have hb2 : Below (P + 1) PW w2 := (Below.refl (P + 1) PW).grown hg2 (by omega) (fun j hj => by cases hj)
    have hPr2 := (hb2.block P (by omega)).trans hPr
    have hla2 : Lies w2 Any va nd.x.args := (hla.under hpb).frame fun b' _ _ hb' => hb2.block b' (by have := block_lt hb'; omega)
    obtain ⟨W3, hW3⟩ : ∃ W3, w2.setCell ⟨P, 2, none⟩ (.slice va2 nd.ins.length ca2) = W3 := ⟨_, rfl⟩
    have hPr3 : W3.heap[P]? = some (.cells #[.string nd.uid, .int .u8 (nd.kind : Int), (.slice va2 nd.ins.length ca2), .int .u8 (nd.x.op : Int), .int .i64 nd.x.n, va, .int .i64 nd.n] 48 (0, 0)) := by rw [← hW3]; exact setCell_heap hPr2
    have hla3 : Lies W3 (fun b => b ≠ P) va nd.x.args := by
     rw [← hW3]
     refine (hla.here.mono (B' := fun b => b ≠ P) (fun b hb => by have h2 : b < wr.heap.size := hb.2; show b ≠ P; omega)).frame fun b' _ hb hb' => ?_
     rw [Below.heap_setCell _ _ _ _ hb, hb2.block b' (by have := block_lt hb'; omega), hpb.block b' (block_lt hb')]
    have hro3 : lg.Row W3 3 1 (.slice va2 nd.ins.length ca2) nd.ins.length (nd.ins.map intV) := by
     rw [← hW3]
     refine (lg.Row.own ho2).frame fun g hg => Below.heap_setCell _ _ _ _ ?_
     show g ≠ P
     rcases ho2.2 with ⟨e9, _⟩ | ⟨g', cap', cur', e9, hge, _⟩
     · rw [e9] at hg; simp [Value.ownBlock] at hg
     · rw [e9] at hg; simp only [Value.ownBlock, Option.some.injEq] at hg; omega
    have hob : ∀ g, (Value.slice va2 nd.ins.length ca2).ownBlock = some g → P + 1 ≤ g := fun g hg => by
     rcases ho2.2 with ⟨e9, _⟩ | ⟨g', cap', cur', e9, hge, _⟩
     · rw [e9] at hg; simp [Value.ownBlock] at hg
     · rw [e9] at hg; simp only [Value.ownBlock, Option.some.injEq] at hg; omega
    have hb3 : Below P wr W3 := by
     rw [← hW3]
     refine Below.setCell (p := ⟨P, 2, none⟩) ?_ (Nat.le_refl _) _
     have h1 := hpb.trans (hb2.mono (show wr.heap.size ≤ P + 1 by omega))
     rw [hP] at h1; exact h1
    have HC := Lib.hid (apart_expr 1000000 (Nat.le_refl _) nd.x hxs W3 _ va hla3)
    obtain ⟨xa, xl, xc, exv⟩ : ∃ xa xl xc, va = .slice xa xl xc := by obtain ⟨xa, xc, exv, -⟩ := hla.form; exact ⟨_, _, _, exv⟩
    obtain ⟨ia, il, ic, eiv⟩ : ∃ ia il ic, vi = .slice ia il ic := by obtain ⟨ia, ic, eiv, -⟩ := hir; exact ⟨_, _, _, eiv⟩
    subst exv eiv
    obtain ⟨z0, z1, z2, z3, z4, z5, z6, zf⟩ := cells7 hPr
    obtain ⟨t0, t1, t2, t3, t4, t5, t6, tf⟩ := cells7 hPr2
    obtain ⟨s0, s1, s2, s3, s4, s5, s6, sf⟩ := cells7 hPr3
    have zf2 := zf 2
    have tf2 := tf 2
    have HR2 := Lib.hid hr2
    have HP3 := Lib.hid hPr3
    have HRO := Lib.hid hro3; have HOB := Lib.hid hob; have HB3 := Lib.hid hb3
    have HPW := Lib.hid hPW; have HP := Lib.hid hP; have HW3 := Lib.hid hW3; have HHP := Lib.hid hHP
    have HSN : Hid (∀ q1 q2 : Value, (rows ++ [((nd, q1, q2) : NRow)]).map (·.1) = l.take (k + 1)) := Lib.hid (fun q1 q2 => by rw [List.map_append, HMP.out, List.take_add_one, hy]; rfl)
    have HPS3 : Hid (P < W3.heap.size) := Lib.hid (block_lt hPr3)
    unfold exV at HC
    clear hy hya hin hxs hir hla hpb hPr hPS hHP hr2 ho2 hg2 hb2 hPr2 hla2 hPr3 hla3 hro3 hob hb3 hPW hP hW3 zf tf sf
    go_upto_region 5 with fail
    rw [HP.out, HPW.out]
    go_upto_region 6 with (at_builtin; refine opr.wpList_appR rfl (.const (.slice none 0 0)) (.tmp 13) 43 rfl rfl rfl (HR2.out _) ?_)
    rw [HW3.out]
    go_wp2_with fail
    (with_reducible refine HC.out.mono ?_)
    rintro e w4 ⟨vx, rfl, hlx, hb4⟩
    obtain ⟨aa, ca, rfl, -⟩ := hlx.form
    have hP4 := (hb4.block P HPS3.out).trans HP3.out
    obtain ⟨p0, p1, p2, p3, p4, p5, p6, pf⟩ := cells7 hP4
    have pf3 := pf 3
    have pf4 := pf 4
    have pf5 := pf 5
    obtain ⟨m, hm⟩ : ∃ m, nd.x.args.length = m := ⟨_, rfl⟩
    rw [hm] at hlx
    unfold exV
    rw [hm]
    obtain ⟨W5, hW5⟩ : ∃ W5, ((w4.setCell ⟨P, 3, none⟩ (.int .u8 (nd.x.op : Int))).setCell ⟨P, 4, none⟩ (.int .i64 nd.x.n)).setCell ⟨P, 5, none⟩ (.slice aa m ca) = W5 := ⟨_, rfl⟩
    have hP5 : W5.heap[P]? = some (.cells #[.string nd.uid, .int .u8 (nd.kind : Int), (.slice va2 nd.ins.length ca2), .int .u8 (nd.x.op : Int), .int .i64 nd.x.n, .slice aa m ca, .int .i64 nd.n] 48 (0, 0)) := by rw [← hW5]; exact setCell_heap (setCell_heap (setCell_heap hP4))
    have hne : ∀ g, g ≠ P → W5.heap[g]? = w4.heap[g]? := fun g hg => by rw [← hW5, Below.heap_setCell _ _ _ _ hg, Below.heap_setCell _ _ _ _ hg, Below.heap_setCell _ _ _ _ hg]
    have hb5 : Below P wr W5 := by
     rw [← hW5]
     exact (((HB3.out.trans (hb4.mono (by have := HPS3.out; omega))).setCell (p := ⟨P, 3, none⟩) (Nat.le_refl _) _).setCell (p := ⟨P, 4, none⟩) (Nat.le_refl _) _).setCell (p := ⟨P, 5, none⟩) (Nat.le_refl _) _
    have HOK : Hid (NOk H W5 (nd, (.slice va2 nd.ins.length ca2), .slice aa m ca)) := Lib.hid ⟨(HRO.out.below hb4).frame fun g hg => hne g (by have := HOB.out g hg; omega),
     (hlx.mono (B' := fun b => b ≠ P ∧ H ≤ b) (fun b hb => ⟨by have := HPS3.out; omega, by have := HPS3.out; have := HHP.out; omega⟩)).frame (fun b _ hb _ => hne b hb.1) |>.mono fun b hb => hb.2⟩
    have HR5 := Lib.hid (HR.out.below (by rw [HP.out]; exact hb5))
    have HB5 : Hid (Below H w W5) := Lib.hid (HB.out.trans (hb5.mono HHP.out))
    obtain ⟨q0, q1, q2, q3, q4, q5, q6, qf⟩ := cells7 hP5
    have HRW : Hid (∀ o, lg.Row (W5.alloc o) 48 7 u3 k (flatR rows)) := Lib.hid (fun o => by have h1 := HR5.out.1.below (below_made W5 o); rw [HLN.out] at h1; exact h1)
    have HW5 := Lib.hid hW5
    have HSZ5 : Hid (H ≤ W5.heap.size) := Lib.hid (by have := block_lt hP5; have := HHP.out; omega)
    clear hlx hb4 hP4 pf hm hW5 hP5 hne hb5 qf
    go_upto_region 7 with fail
    rw [HW5.out]
    go_wp2_with (at_builtin; refine lg.wpList_append_row _ rfl (.tmp 20) (.tmp 22) 26 rfl 48 i0 (.agg #[.string ⟨#[]⟩, .int .u8 0, .slice none 0 0, .int .u8 0, .int .i64 0, .slice none 0 0, .int .i64 0]) 7 96 Tryz.underlying26 hio hz0 hz1 hz2 rfl (by decide) _ _ _ rfl (HRW.out _) ⟨_, 0, none⟩ 1 1 [.string nd.uid, .int .u8 (nd.kind : Int), .slice va2 nd.ins.length ca2, .int .u8 (nd.x.op : Int), .int .i64 nd.x.n, .slice aa m ca, .int .i64 nd.n] rfl rfl (World.news_of_block (cs := #[.string nd.uid, .int .u8 (nd.kind : Int), .slice va2 nd.ins.length ca2, .int .u8 (nd.x.op : Int), .int .i64 nd.x.n, .slice aa m ca, .int .i64 nd.n]) (t := 48) (fr := (0, 0)) (heap_alloc_new _ _)) (by simp [Value.oneCell']) (by decide) (by unfold maxLen; omega) (by omega) _ rfl ?_)
    intro gb cap w7 hown hg hat hlt
    have HR7 : Hid (NRowsAt H w7 (.slice (some ⟨gb, 0, none⟩) (k + 1) cap) (rows ++ [(nd, .slice va2 nd.ins.length ca2, .slice aa m ca)])) := Lib.hid (by
     have h1 := HR5.out.push (c := (nd, .slice va2 nd.ins.length ca2, .slice aa m ca)) (g := gb) (cap := cap) (w5 := w7) HSZ5.out HOK.out hg (by rw [HLN.out]; exact hown) (by rw [World.size_alloc]; exact hat)
     rw [HLN.out] at h1
     exact h1)
    have HB7 : Hid (Below H w w7) := Lib.hid ((HB5.out.alloc HSZ5.out _).grown hg (by rw [World.size_alloc]; have := HSZ5.out; omega) (fun j hj => HR5.out.2.1 j hj))
    clear hown hg hat hlt
    go_wp2_with fail
    go_roundg (gk - 1)
    case measure => omega
    case rel => exact ⟨k + 1, _, by omega, by go_num, Lib.hid (by simp [HLN.out]), Lib.hid (HSN.out _ _), HR7, HB7⟩
  · have hki : ¬ (k : Int) < (n : Int) := by omega
    obtain rfl : k = n := by omega
    have HF : Hid (Nodes wr u3 l) := Lib.hid (HR.out.nodes (by rw [HMP.out, List.take_of_length_le (by rw [HNX.out]; exact Nat.le_refl _)]))
    clear hkn
    go_wp2_with fail
    try rw [Exit.noGoto_ret]
    go_ret
    exact ⟨_, rfl, HF.out, HB.out⟩
end
end Go.Proofs.YtepdecnegihhhaaGreatDoor.idl
