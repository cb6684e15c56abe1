/- The reader in memory. What node answers, and what it leaves in the reader. -/
import Derived.Test.YtepdecnegihhhaaGreatDoorMSc
import Derived.Test.YtepdecnegihhhaaGreatDoorScE
import Derived.Test.YtepdecnegihhhaaGreatDoorDkR
import Derived.Test.YtepdecnegihhhaaGreatDoorMEw
import Derived.Deep.DrawnRows
import Derived.Deep.RegionHeld
set_option linter.unusedSimpArgs false
set_option linter.unusedVariables false
namespace Go.Proofs.YtepdecnegihhhaaGreatDoor.sc
section
open Go.RowKit nam exp jb
abbrev NRow := Nd × Value × Value
def rowCells (c : NRow) : List Value := [.string c.1.uid, .int .u8 (c.1.kind : Int), c.2.1, .int .u8 (c.1.x.op : Int), .int .i64 c.1.x.n, c.2.2, .int .i64 c.1.n]
def flatR (l : List NRow) : List Value := l.flatMap rowCells
theorem flatR_len (l : List NRow) : (flatR l).length = l.length * 7 := by
 induction l with
 | nil => rfl
 | cons c l ih =>
  have e : flatR (c :: l) = rowCells c ++ flatR l := rfl
  have e7 : (rowCells c).length = 7 := rfl
  rw [e, List.length_append, e7, ih, List.length_cons]; omega
theorem flatR_snoc (l : List NRow) (c : NRow) : flatR (l ++ [c]) = flatR l ++ rowCells c := by simp [flatR]
theorem flatR_get : ∀ (l : List NRow) (i j : Nat) (h : i < l.length), j < 7 → (flatR l)[i * 7 + j]? = (rowCells l[i])[j]?
 | [], i, j, h, hj => by simp at h
 | c :: l, 0, j, h, hj => by
  have e : flatR (c :: l) = rowCells c ++ flatR l := rfl
  have e7 : (rowCells c).length = 7 := rfl
  rw [e, List.getElem?_append_left (by omega)]
  simp
 | c :: l, i + 1, j, h, hj => by
  have e : flatR (c :: l) = rowCells c ++ flatR l := rfl
  have e7 : (rowCells c).length = 7 := rfl
  rw [e, List.getElem?_append_right (by omega), show (i + 1) * 7 + j - (rowCells c).length = i * 7 + j by omega, flatR_get l i j (by simpa using h) hj]
  rfl
def RowOk (w : World) (vs : Value) (c : NRow) : Prop :=
 lg.Row w 3 1 c.2.1 c.1.ins.length (c.1.ins.map intV) ∧ (∀ g, c.2.1.ownBlock = some g → vs.ownBlock ≠ some g) ∧ Lies w Any c.2.2 c.1.x.args
def IsRdr (w : World) (B rb : Nat) (vn vs : Value) (rows : List NRow) (r : Rdr) : Prop :=
 w.heap[rb]? = some (.cells #[.int .i64 r.par, vn, vs] 105 (0, 0)) ∧ B ≤ rb ∧
  lg.Row w 48 7 vn rows.length (flatR rows) ∧ rows.map (·.1) = r.nodes ∧ (∀ c ∈ rows, RowOk w vs c) ∧
  lg.Row w 3 1 vs r.said.length (r.said.map intV) ∧ (∀ g, vs.ownBlock = some g → B ≤ g) ∧ (∀ g, vn.ownBlock = some g → B ≤ g)
def Kept (w w' : World) : Prop := w.heap.size ≤ w'.heap.size ∧ ∀ (b : Nat) (c : Array Value) (t : TypeId) (fr : Nat × Nat), w.heap[b]? = some (Obj.cells c t fr) → t ≠ 105 → t ≠ 48 → w'.heap[b]? = some (Obj.cells c t fr)
theorem Kept.refl (w : World) : Kept w w := ⟨Nat.le_refl _, fun _ _ _ _ h _ _ => h⟩
theorem Kept.of_below {w w' : World} (h : Below w.heap.size w w') : Kept w w' := ⟨h.size, fun b c t fr hb _ _ => (h.block b (Array.getElem?_eq_some_iff.1 hb).1).trans hb⟩
theorem Kept.trans {w w1 w2 : World} (h : Kept w w1) (h2 : Kept w1 w2) : Kept w w2 := ⟨Nat.le_trans h.1 h2.1, fun b c t fr hb h3 h4 => h2.2 b c t fr (h.2 b c t fr hb h3 h4) h3 h4⟩
theorem Kept.row {w w' : World} (h : Kept w w') {e : TypeId} {size n : Nat} {v : Value} {xs : List Value} (hr : lg.Row w e size v n xs) (h1 : e ≠ 105) (h2 : e ≠ 48) : lg.Row w' e size v n xs :=
 hr.frame fun g hg => by
  obtain ⟨cur, hc⟩ := hr.kind hg
  rw [hc]; exact h.2 g _ _ _ hc h1 h2
theorem Kept.lies {w w' : World} (h : Kept w w') {B : Nat → Prop} {v : Value} {l : List Ex} (hl : Lies w B v l) : Lies w' B v l :=
 hl.frame fun b c _ hb => by rw [hb]; exact h.2 b _ _ _ hb (by decide) (by decide)
theorem RowOk.kept {w w' : World} {vs : Value} {c : NRow} (h : RowOk w vs c) (hk : Kept w w') : RowOk w' vs c := ⟨hk.row h.1 (by decide) (by decide), h.2.1, hk.lies h.2.2⟩
theorem irow_of {w : World} {v : Value} {l : List Int} (h : lg.Row w 3 1 v l.length (l.map intV)) : IRow w v l := by
 rcases h.2 with ⟨rfl, h0⟩ | ⟨g, cap, cur, rfl, hg, h1, h2, h3, h4⟩
 · exact ⟨none, 0, by rw [h0], fun h => by omega⟩
 · refine ⟨_, cap, rfl, fun _ => ⟨g, 0, rfl, (Array.getElem?_eq_some_iff.1 hg).1, fun i hi => ?_⟩⟩
   rw [Nat.zero_add]
   exact h.cellAt (by rw [List.getElem?_map, List.getElem?_eq_getElem hi]; rfl)
theorem own_cellAt' {w : World} {B e size g cap n : Nat} {xs : List Value} (h : w.ownsRow B e size (.slice (some ⟨g, 0, none⟩) n cap) n xs) {j : Nat} {u : Value} (hu : xs[j]? = some u) : w.cell? ⟨g, j, none⟩ = some u := (lg.Row.own h).cellAt hu
section
variable {w w' : World} {B rb : Nat} {vn vs : Value} {rows : List NRow} {r : Rdr}
theorem IsRdr.rlt (h : IsRdr w B rb vn vs rows r) : rb < w.heap.size := (Array.getElem?_eq_some_iff.1 h.1).1
theorem IsRdr.cells (h : IsRdr w B rb vn vs rows r) : w.cell? ⟨rb, 0, none⟩ = some (.int .i64 r.par) ∧ w.cell? ⟨rb, 1, none⟩ = some vn ∧ w.cell? ⟨rb, 2, none⟩ = some vs ∧ (∀ j, w.frozen? ⟨rb, j, none⟩ = false) :=
 ⟨cell_of h.1 rfl, cell_of h.1 rfl, cell_of h.1 rfl, fun j => by simp [World.frozen?, h.1]⟩
theorem IsRdr.len (h : IsRdr w B rb vn vs rows r) : rows.length = r.nodes.length := by rw [← h.2.2.2.1, List.length_map]
theorem IsRdr.nodes (h : IsRdr w B rb vn vs rows r) : Nodes w vn r.nodes := by
 have hlen := h.len
 obtain ⟨_, _, hown, hmap, hok, _, _, _⟩ := h
 have hget : ∀ i (hi : i < r.nodes.length), ∃ c ∈ rows, c.1 = r.nodes[i] ∧ rows[i]? = some c := fun i hi => by
  have hi2 : i < rows.length := by omega
  refine ⟨rows[i], List.getElem_mem hi2, ?_, List.getElem?_eq_getElem hi2⟩
  have : (rows.map (·.1))[i]? = r.nodes[i]? := by rw [hmap]
  rw [List.getElem?_map, List.getElem?_eq_getElem hi2, List.getElem?_eq_getElem hi] at this
  exact Option.some.inj this
 rcases hown.2 with ⟨rfl, h0⟩ | ⟨g, cap, cur, rfl, hg, h1, h2, h3, h4⟩
 · exact ⟨none, 0, by rw [← hlen, h0], by omega, fun h => by omega⟩
 · refine ⟨_, cap, by rw [← hlen], by omega, fun _ => ⟨g, rfl, fun i hi => ?_⟩⟩
   obtain ⟨c, hc, e, hci⟩ := hget i hi
   obtain ⟨k1, k2, k3⟩ := hok c hc
   have hi2 : i < rows.length := by omega
   have hci2 : rows[i] = c := by rw [List.getElem?_eq_getElem hi2] at hci; exact Option.some.inj hci
   have hcell : ∀ j u, j < 7 → (rowCells c)[j]? = some u → w.cell? ⟨g, i * 7 + j, none⟩ = some u := fun j u hj hu => hown.cellAt (by rw [flatR_get rows i j hi2 hj, hci2]; exact hu)
   rw [← e]
   exact ⟨(Array.getElem?_eq_some_iff.1 hg).1, c.2.1, c.2.2, hcell 0 _ (by omega) rfl, hcell 1 _ (by omega) rfl, hcell 2 _ (by omega) rfl, hcell 3 _ (by omega) rfl, hcell 4 _ (by omega) rfl, hcell 5 _ (by omega) rfl, hcell 6 _ (by omega) rfl, irow_of k1, k3⟩
theorem row_ty {w : World} {e size n : Nat} {v : Value} {xs : List Value} (h : lg.Row w e size v n xs) {b : Nat} {c : Array Value} {t : TypeId} {fr : Nat × Nat} (hb : w.heap[b]? = some (.cells c t fr)) (hne : t ≠ e) : v.ownBlock ≠ some b := by
 intro e1
 obtain ⟨cur, hc⟩ := h.kind e1
 rw [hb] at hc
 simp only [Option.some.injEq, Obj.cells.injEq] at hc
 exact hne hc.2.1
theorem IsRdr.under (h : IsRdr w B rb vn vs rows r) (hb : Below w.heap.size w w') : IsRdr w' B rb vn vs rows r := by
 obtain ⟨h1, h2, h3, h4, h5, h6, h7, h8⟩ := h
 have hk := Kept.of_below hb
 exact ⟨(hb.block rb (Array.getElem?_eq_some_iff.1 h1).1).trans h1, h2, h3.below hb, h4, fun c hc => (h5 c hc).kept hk, hk.row h6 (by decide) (by decide), h7, h8⟩
theorem Kept.setCell {b j : Nat} {z : Value} {c : Array Value} {t : TypeId} {fr : Nat × Nat} (hb : w.heap[b]? = some (.cells c t fr)) (ht : t = 105 ∨ t = 48) : Kept w (w.setCell ⟨b, j, none⟩ z) := by
 refine ⟨by simp, fun b' c' t' fr' h h1 h2 => ?_⟩
 have hne : b' ≠ b := by
  intro e
  subst e
  rw [hb] at h
  simp only [Option.some.injEq, Obj.cells.injEq] at h
  rcases ht with rfl | rfl
  · exact h1 h.2.1.symm
  · exact h2 h.2.1.symm
 rw [Below.heap_setCell _ _ _ _ hne]
 exact h
theorem Kept.grown {o : Obj} {w5 : World} {e size n : Nat} {v : Value} {xs : List Value} (hr : lg.Row w e size v n xs) (he : e = 105 ∨ e = 48) (hg : (w.alloc o).grownBy w5 v.ownBlock) : Kept w w5 := by
 refine ⟨by have := hg.size; rw [World.size_alloc] at this; omega, fun b c t fr h h1 h2 => ?_⟩
 have hlt := (Array.getElem?_eq_some_iff.1 h).1
 have hne : v.ownBlock ≠ some b := row_ty hr h (by
  rcases he with rfl | rfl
  · exact h1
  · exact h2)
 rw [hg.block b (by rw [World.size_alloc]; omega) (fun e => hne e.symm), Below.heap_alloc _ _ _ hlt]
 exact h
theorem IsRdr.push {o : Obj} {w5 : World} {g cap : Nat} {c : NRow} (h : IsRdr w B rb vn vs rows r) (hc : RowOk w vs c) (hg : (w.drew.alloc o).grownBy w5 vn.ownBlock)
  (hown : lg.Row w5 48 7 (.slice (some ⟨g, 0, none⟩) (rows.length + 1) cap) (rows.length + 1) (flatR rows ++ rowCells c)) (hat : vn.ownBlock = some g ∨ g = (w.drew.alloc o).heap.size) :
  IsRdr (w5.setCell ⟨rb, 1, none⟩ (.slice (some ⟨g, 0, none⟩) (rows.length + 1) cap)) B rb (.slice (some ⟨g, 0, none⟩) (rows.length + 1) cap) vs (rows ++ [c]) ⟨r.par, r.nodes ++ [c.1], r.said⟩ ∧
   Below B w (w5.setCell ⟨rb, 1, none⟩ (.slice (some ⟨g, 0, none⟩) (rows.length + 1) cap)) ∧ Kept w (w5.setCell ⟨rb, 1, none⟩ (.slice (some ⟨g, 0, none⟩) (rows.length + 1) cap)) := by
 obtain ⟨h1, h2, h3, h4, h5, h6, h7, h8⟩ := h
 have hrb := (Array.getElem?_eq_some_iff.1 h1).1
 have hgr : (w.alloc o).grownBy w5 vn.ownBlock := ⟨hg.os, hg.tape, hg.output, hg.size, hg.block⟩
 have hk1 : Kept w w5 := Kept.grown h3 (.inr rfl) hgr
 have hne : vn.ownBlock ≠ some rb := row_ty h3 h1 (by decide)
 have hrb5 : w5.heap[rb]? = some (.cells #[.int .i64 r.par, vn, vs] 105 (0, 0)) := by
  rw [hgr.block rb (by rw [World.size_alloc]; omega) (fun e => hne e.symm), Below.heap_alloc _ _ _ hrb]
  exact h1
 have hk2 : Kept w5 (w5.setCell ⟨rb, 1, none⟩ (.slice (some ⟨g, 0, none⟩) (rows.length + 1) cap)) := Kept.setCell hrb5 (.inl rfl)
 have hgb : B ≤ g := by
  rcases hat with h | h
  · exact h8 g h
  · rw [h, World.size_alloc]
    have : w.drew.heap.size = w.heap.size := rfl
    omega
 have hgne : g ≠ rb := by
  intro e
  subst e
  exact row_ty hown hrb5 (by decide) rfl
 have hB5 : Below B w w5 := by
  have hb : Below B w (w.alloc o) := ((Below.refl w.heap.size w).alloc (Nat.le_refl _) o).mono (by omega)
  exact hb.grown hgr (by rw [World.size_alloc]; omega) (fun j hj => h8 j hj)
 refine ⟨⟨setCell_heap hrb5, h2, ?_, by rw [List.map_append, h4]; rfl, fun d hd => ?_, (hk1.trans hk2).row h6 (by decide) (by decide), h7, fun g' hg' => ?_⟩, hB5.setCell (p := ⟨rb, 1, none⟩) h2 _, hk1.trans hk2⟩
 · rw [flatR_snoc, List.length_append]
   exact hown.frame fun g' hg' => by
    simp only [Value.ownBlock, Option.some.injEq] at hg'
    subst hg'
    exact Below.heap_setCell _ _ _ _ hgne
 · rcases List.mem_append.1 hd with hd | hd
   · exact (h5 d hd).kept (hk1.trans hk2)
   · rw [List.mem_singleton.1 hd]
     exact hc.kept (hk1.trans hk2)
 · simp only [Value.ownBlock, Option.some.injEq] at hg'
   omega
end
end
section
open Go.RowKit nam exp jb
attribute [local go_sem ↓] Go.wp_at_zero Go.wp_at_succ
theorem con {w : World} {o : Obj} {p : Addr} {v : Value} (h : w.cell? p = some v) : (w.drew.alloc o).cell? p = some v := by
 have hlt : p.block < w.heap.size := by
  rcases Nat.lt_or_ge p.block w.heap.size with h1 | h1
  · exact h1
  · exfalso
    unfold World.cell? at h
    rw [Array.getElem?_eq_none h1] at h
    cases h
 have e : (w.drew.alloc o).heap[p.block]? = w.heap[p.block]? := Below.heap_alloc w.drew o _ hlt
 unfold World.cell? at h ⊢
 rw [e]
 exact h
theorem infoNode : (Tryz.prog.info? 48).map (fun i => (i.zero, i.size, i.bytes)) = some (some (.agg #[.string ⟨#[]⟩, .int .u8 0, .slice none 0 0, .int .u8 0, .int .i64 0, .slice none 0 0, .int .i64 0]), 7, 96) := by kernel_rfl
def NodePost (B rb : Nat) (vs : Value) (r : Rdr) (o : Except Int Nd) (w : World) (e : Ending) (w' : World) : Prop :=
 (match o with
  | .error c => e = .returned (.int .i64 c)
  | .ok nd => e = .returned (.int .i64 0) ∧ ∃ vn' rows', IsRdr w' B rb vn' vs rows' ⟨r.par, r.nodes ++ [nd], r.said⟩) ∧ Below B w w' ∧ Kept w w'
theorem told_kind (l : List Nd) (ws : List ByteArray) : (toldF l ws).1.kind < 10 := by
 unfold toldF
 split
 · simp
 · exact kindOf_lt _
theorem told_x (l : List Nd) (ws : List ByteArray) : (toldF l ws).1.x = Ex.zero := by
 unfold toldF
 split <;> rfl
set_option maxHeartbeats 3200000 in
set_option maxRecDepth 1000000 in
theorem node_any {w : World} {B rb : Nat} {vn vs v : Value} {rows : List NRow} {r : Rdr} {ws : List ByteArray} (text : ByteArray) (colon : Bool) (hk : KTab w) (h : IsRdr w B rb vn vs rows r) (hl : r.nodes.length ≤ 100000) (hs : SRow w v ws) (hw : ws.length ≤ 1000) :
  Calls Tryz.prog 74 #[.pointer (some ⟨rb, 0, none⟩), v, .string text, .bool colon] w (NodePost B rb vs r (nodeO r.nodes ws text colon) w) := by
 obtain ⟨i0, hi, hz0, hz1, hz2⟩ := info_parts infoNode
 have HTO := Lib.hid (told_any hk h.cells.1 h.cells.2.1 h.rlt h.nodes hl hs hw)
 unfold ToldPost at HTO
 have HH := Lib.hid h
 have hBw : B ≤ w.heap.size := by have := h.rlt; have := h.2.1; omega
 have HK := Lib.hid hk
 have HKI := Lib.hid (told_kind r.nodes ws)
 have HXZ := Lib.hid (told_x r.nodes ws)
 have hlen := h.len
 obtain ⟨td, htd⟩ : ∃ td, (toldF r.nodes ws).1 = td := ⟨_, rfl⟩
 obtain ⟨ok, hok⟩ : ∃ ok, (toldF r.nodes ws).2 = ok := ⟨_, rfl⟩
 have HN : Hid (nodeO r.nodes ws text colon = if ok = false then .error 130 else if colon != hasX td.kind then .error 130 else if colon then
   (if (parseO (ba (Lib.trimLeftS text.data.toList [32, 9]))).2.2 ≠ 0 then .error (parseO (ba (Lib.trimLeftS text.data.toList [32, 9]))).2.2
    else .ok ⟨td.uid, td.kind, td.ins, (parseO (ba (Lib.trimLeftS text.data.toList [32, 9]))).1, td.n⟩) else .ok td) := Lib.hid (by unfold nodeO; rw [htd, hok])
 rw [htd, hok] at HTO
 rw [htd] at HKI HXZ
 rw [HN.out]
 have hrl : rows.length ≤ 100000 := by omega
 clear htd hok h hk hs hw hlen
 obtain ⟨K, hK⟩ : ∃ K, td.kind = K := ⟨_, rfl⟩
 have HKK := Lib.hid hK
 rw [hK] at HTO HKI
 rw [hK]
 have hKi : (K : Int) < 10 := by have := HKI.out; omega
 obtain ⟨hx, hhx⟩ : ∃ b, hasX K = b := ⟨_, rfl⟩
 rw [hhx]
 have HHX := Lib.hid hhx
 clear hK hhx HN
 have HEE : Hid (∀ w', Below w.heap.size w w' → NodePost B rb vs r (.error 130) w (.returned (.int .i64 130)) w') := Lib.hid (fun w' hb => ⟨rfl, hb.mono hBw, Kept.of_below hb⟩)
 cases ok with
 | false =>
  rw [if_pos rfl]
  go_enter Tryz.func74, Tryz.ntmps74
  go_wp2_with fail
  refine HTO.out.mono ?_
  rintro e w1 ⟨vi, rfl, ho, hb1⟩
  obtain ⟨ai, ci, rfl, -, -⟩ := own_slice ho
  obtain ⟨mi, hmi⟩ : ∃ m, td.ins.length = m := ⟨_, rfl⟩
  rw [hmi] at ho
  rw [hmi]
  have HMI := Lib.hid hmi
  have HO := Lib.hid ho
  have HB1 := Lib.hid hb1
  clear hmi ho hb1
  unfold ndCells
  obtain ⟨N, hN⟩ : ∃ N, w1.heap.size = N := ⟨_, rfl⟩
  have HNN := Lib.hid hN
  obtain ⟨W1, hW1⟩ : ∃ W, w1.alloc (.cells #[.string td.uid, .int .u8 (K : Int), .slice ai mi ci, .int .u8 0, .int .i64 0, .slice none 0 0, .int .i64 td.n] 48) = W := ⟨_, rfl⟩
  have HB2 : Hid (Below w.heap.size w W1) := Lib.hid (by rw [← hW1]; exact (HB1.out).alloc HB1.out.size _)
  have HNB1 : Hid (W1.heap[N]? = some (.cells #[.string td.uid, .int .u8 (K : Int), .slice ai mi ci, .int .u8 0, .int .i64 0, .slice none 0 0, .int .i64 td.n] 48 (0, 0))) := Lib.hid (by rw [← hW1]; exact heap_last hN.symm)
  have HKR := Lib.hid ((HK.out.on HB2.out).row HKI.out)
  have hk1 : W1.cell? ⟨N, 1, none⟩ = some (.int .u8 (K : Int)) := cell_of HNB1.out rfl
  have hk2 := HKR.out.2.2
  rw [HHX.out] at hk2
  have HW1 := Lib.hid hW1
  clear hN hW1
  go_upto_region 2 with fail
  rw [HNN.out, HW1.out]
  go_wp2_with fail
  go_ret
  exact HEE.out _ HB2.out
 | true =>
  rw [if_neg (by simp)]
  by_cases hm : (colon != hx) = true
  · rw [if_pos hm]
    cases colon <;> cases hx <;> first | (exact absurd hm (by decide)) | skip
    all_goals
     go_enter Tryz.func74, Tryz.ntmps74
     go_wp2_with fail
     refine HTO.out.mono ?_
     rintro e w1 ⟨vi, rfl, ho, hb1⟩
     obtain ⟨ai, ci, rfl, -, -⟩ := own_slice ho
     obtain ⟨mi, hmi⟩ : ∃ m, td.ins.length = m := ⟨_, rfl⟩
     rw [hmi] at ho
     rw [hmi]
     have HMI := Lib.hid hmi
     have HO := Lib.hid ho
     have HB1 := Lib.hid hb1
     clear hmi ho hb1
     unfold ndCells
     obtain ⟨N, hN⟩ : ∃ N, w1.heap.size = N := ⟨_, rfl⟩
     have HNN := Lib.hid hN
     obtain ⟨W1, hW1⟩ : ∃ W, w1.alloc (.cells #[.string td.uid, .int .u8 (K : Int), .slice ai mi ci, .int .u8 0, .int .i64 0, .slice none 0 0, .int .i64 td.n] 48) = W := ⟨_, rfl⟩
     have HB2 : Hid (Below w.heap.size w W1) := Lib.hid (by rw [← hW1]; exact (HB1.out).alloc HB1.out.size _)
     have HNB1 : Hid (W1.heap[N]? = some (.cells #[.string td.uid, .int .u8 (K : Int), .slice ai mi ci, .int .u8 0, .int .i64 0, .slice none 0 0, .int .i64 td.n] 48 (0, 0))) := Lib.hid (by rw [← hW1]; exact heap_last hN.symm)
     have HKR := Lib.hid ((HK.out.on HB2.out).row HKI.out)
     have hk1 : W1.cell? ⟨N, 1, none⟩ = some (.int .u8 (K : Int)) := cell_of HNB1.out rfl
     have hk2 := HKR.out.2.2
     rw [HHX.out] at hk2
     have HW1 := Lib.hid hW1
     clear hN hW1
     go_upto_region 2 with fail
     rw [HNN.out, HW1.out]
     go_wp2_with fail
     go_ret
     exact HEE.out _ HB2.out
  · rw [if_neg hm]
    have hcx : colon = hx := by simpa using hm
    subst hcx
    clear hm
    cases colon with
    | false =>
     rw [if_neg (by simp)]
     go_enter Tryz.func74, Tryz.ntmps74
     go_wp2_with fail
     refine HTO.out.mono ?_
     rintro e w1 ⟨vi, rfl, ho, hb1⟩
     obtain ⟨ai, ci, rfl, -, -⟩ := own_slice ho
     obtain ⟨mi, hmi⟩ : ∃ m, td.ins.length = m := ⟨_, rfl⟩
     rw [hmi] at ho
     rw [hmi]
     have HMI := Lib.hid hmi
     have HO := Lib.hid ho
     have HB1 := Lib.hid hb1
     clear hmi ho hb1
     unfold ndCells
     obtain ⟨N, hN⟩ : ∃ N, w1.heap.size = N := ⟨_, rfl⟩
     have HNN := Lib.hid hN
     obtain ⟨W1, hW1⟩ : ∃ W, w1.alloc (.cells #[.string td.uid, .int .u8 (K : Int), .slice ai mi ci, .int .u8 0, .int .i64 0, .slice none 0 0, .int .i64 td.n] 48) = W := ⟨_, rfl⟩
     have HB2 : Hid (Below w.heap.size w W1) := Lib.hid (by rw [← hW1]; exact (HB1.out).alloc HB1.out.size _)
     have HNB1 : Hid (W1.heap[N]? = some (.cells #[.string td.uid, .int .u8 (K : Int), .slice ai mi ci, .int .u8 0, .int .i64 0, .slice none 0 0, .int .i64 td.n] 48 (0, 0))) := Lib.hid (by rw [← hW1]; exact heap_last hN.symm)
     have HKR := Lib.hid ((HK.out.on HB2.out).row HKI.out)
     have hk1 : W1.cell? ⟨N, 1, none⟩ = some (.int .u8 (K : Int)) := cell_of HNB1.out rfl
     have hk2 := HKR.out.2.2
     rw [HHX.out] at hk2
     have HW1 := Lib.hid hW1
     have HR : Hid (IsRdr W1 B rb vn vs rows r) := Lib.hid (HH.out.under HB2.out)
     have HNE : Hid (vn.ownBlock ≠ some N) := Lib.hid (fun e => by have := HH.out.2.2.1.lt e; have := HB1.out.size; have := HNN.out; omega)
     have HRC : Hid (rowCells (td, .slice ai mi ci, .slice none 0 0) = [.string td.uid, .int .u8 (K : Int), .slice ai mi ci, .int .u8 0, .int .i64 0, .slice none 0 0, .int .i64 td.n]) := Lib.hid (by unfold rowCells; simp only [HKK.out, HXZ.out]; rfl)
     have HOK : Hid (RowOk W1 vs (td, .slice ai mi ci, .slice none 0 0)) := Lib.hid (by
      refine ⟨?_, fun g hg e => ?_, ?_⟩
      · have h1 := lg.Row.own HO.out
        rw [← HW1.out]
        show lg.Row _ _ _ _ td.ins.length _
        rw [HMI.out]
        exact h1.below (below_made _ _)
      · have h1 := (HO.out.lt g hg).1
        have h2 := HH.out.2.2.2.2.2.1.lt e
        omega
      · show Lies _ _ _ td.x.args
        rw [HXZ.out]
        exact .nil)
     have HV : Hid (∀ u ∈ [Value.string td.uid, .int .u8 (K : Int), .slice ai mi ci, .int .u8 0, .int .i64 0, .slice none 0 0, .int .i64 td.n], u.oneCell' = true) := Lib.hid (by simp [Value.oneCell'])
     have HE : Hid (∀ vn' rows' w', IsRdr w' B rb vn' vs rows' ⟨r.par, r.nodes ++ [td], r.said⟩ → Below B W1 w' → Kept W1 w' → NodePost B rb vs r (.ok td) w (.returned (.int .i64 0)) w') := Lib.hid (fun vn' rows' w' h1 h2 h3 =>
      ⟨⟨rfl, _, _, h1⟩, (HB2.out.mono hBw).trans h2, (Kept.of_below HB2.out).trans h3⟩)
     have HNB := HNB1
     clear hN hW1
     go_upto_region 2 with fail
     rw [HNN.out, HW1.out]
     go_wp2_with fail
     clear hk1 hk2
     have hp0 := HR.out.cells.1
     have hp1 := HR.out.cells.2.1
     have hs0 : W1.cell? ⟨N, 0, none⟩ = some (.string td.uid) := cell_of HNB.out rfl
     have hs1 : W1.cell? ⟨N, 1, none⟩ = some (.int .u8 (K : Int)) := cell_of HNB.out rfl
     have hs2 : W1.cell? ⟨N, 2, none⟩ = some (.slice ai mi ci) := cell_of HNB.out rfl
     have hs3 : W1.cell? ⟨N, 3, none⟩ = some (.int .u8 0) := cell_of HNB.out rfl
     have hs4 : W1.cell? ⟨N, 4, none⟩ = some (.int .i64 0) := cell_of HNB.out rfl
     have hs5 : W1.cell? ⟨N, 5, none⟩ = some (.slice none 0 0) := cell_of HNB.out rfl
     have hs6 : W1.cell? ⟨N, 6, none⟩ = some (.int .i64 td.n) := cell_of HNB.out rfl
     have HALL : Hid (∀ o w5, (W1.drew.alloc o).grownBy w5 vn.ownBlock → w5.heap[rb]? = some (.cells #[.int .i64 r.par, vn, vs] 105 (0, 0)) ∧ w5.heap[N]? = some (.cells #[.string td.uid, .int .u8 (K : Int), .slice ai mi ci, .int .u8 0, .int .i64 0, .slice none 0 0, .int .i64 td.n] 48 (0, 0))) := Lib.hid (fun o w5 hg => by
      have e1 := (Array.getElem?_eq_some_iff.1 HR.out.1).1
      have e2 := (Array.getElem?_eq_some_iff.1 HNB.out).1
      have n1 : vn.ownBlock ≠ some rb := row_ty HR.out.2.2.1 HR.out.1 (by decide)
      refine ⟨?_, ?_⟩
      · rw [hg.block rb (by rw [World.size_alloc]; have : W1.drew.heap.size = W1.heap.size := rfl; omega) (fun e => n1 e.symm), Below.heap_alloc _ _ _ (by exact e1)]
        exact HR.out.1
      · rw [hg.block N (by rw [World.size_alloc]; have : W1.drew.heap.size = W1.heap.size := rfl; omega) (fun e => HNE.out e.symm), Below.heap_alloc _ _ _ (by exact e2)]
        exact HNB.out)
     refine dsk.wp_region_peel2 (by kernel_rfl) (by simp only [List.dropLast_cons_cons, List.dropLast_singleton]; exact rfl) rfl (by kernel_rfl) ?_
     refine wpAny_of_held (S := fun w' => w'.cell? ⟨rb, 0, none⟩ = some (.int .i64 r.par) ∧ w'.cell? ⟨rb, 1, none⟩ = some vn ∧ w'.cell? ⟨N, 0, none⟩ = some (.string td.uid) ∧ w'.cell? ⟨N, 1, none⟩ = some (.int .u8 (K : Int)) ∧ w'.cell? ⟨N, 2, none⟩ = some (.slice ai mi ci) ∧ w'.cell? ⟨N, 3, none⟩ = some (.int .u8 0) ∧ w'.cell? ⟨N, 4, none⟩ = some (.int .i64 0) ∧ w'.cell? ⟨N, 5, none⟩ = some (.slice none 0 0) ∧ w'.cell? ⟨N, 6, none⟩ = some (.int .i64 td.n)) _ _ _ _ ?_
     have hHeld : W1.drew.cell? ⟨rb, 0, none⟩ = some (.int .i64 r.par) ∧ W1.drew.cell? ⟨rb, 1, none⟩ = some vn ∧ W1.drew.cell? ⟨N, 0, none⟩ = some (.string td.uid) ∧ W1.drew.cell? ⟨N, 1, none⟩ = some (.int .u8 (K : Int)) ∧ W1.drew.cell? ⟨N, 2, none⟩ = some (.slice ai mi ci) ∧ W1.drew.cell? ⟨N, 3, none⟩ = some (.int .u8 0) ∧ W1.drew.cell? ⟨N, 4, none⟩ = some (.int .i64 0) ∧ W1.drew.cell? ⟨N, 5, none⟩ = some (.slice none 0 0) ∧ W1.drew.cell? ⟨N, 6, none⟩ = some (.int .i64 td.n) := ⟨hp0, hp1, hs0, hs1, hs2, hs3, hs4, hs5, hs6⟩
     refine wpAnyH_take (i := 0) (v := ?v1) rfl (by kernel_rfl) (by kernel_rfl) (by kernel_rfl) (fun _ _ _ h => h) (Or.inl ⟨by rfl, ?hy1⟩) (by assumption) ?rest1
     case hy1 => (intro w0 hSw; (try dsimp only at hSw); go_simp; try with_reducible rfl)
     try simp only [Act.put, List.getElem_toArray, List.getElem_cons_zero, List.getElem_cons_succ, List.setIfInBounds_toArray, List.set_cons_zero, List.set_cons_succ]
     refine wpAnyH_take (i := 1) (v := ?v2) rfl (by kernel_rfl) (by kernel_rfl) (by kernel_rfl) (fun _ _ _ h => h) (Or.inl ⟨by rfl, ?hy2⟩) (by assumption) ?rest2
     case hy2 => (intro w0 hSw; (try dsimp only at hSw); go_simp; try with_reducible rfl)
     try simp only [Act.put, List.getElem_toArray, List.getElem_cons_zero, List.getElem_cons_succ, List.setIfInBounds_toArray, List.set_cons_zero, List.set_cons_succ]
     refine wpAnyH_take (i := 2) (v := ?v3) rfl (by kernel_rfl) (by kernel_rfl) (by kernel_rfl) (fun _ _ _ h => h) (Or.inl ⟨by rfl, ?hy3⟩) (by assumption) ?rest3
     case hy3 => (intro w0 hSw; (try dsimp only at hSw); go_simp; try with_reducible rfl)
     try simp only [Act.put, List.getElem_toArray, List.getElem_cons_zero, List.getElem_cons_succ, List.setIfInBounds_toArray, List.set_cons_zero, List.set_cons_succ]
     refine wpAnyH_take (i := 3) (v := ?v4) rfl (by kernel_rfl) (by kernel_rfl) (by kernel_rfl) (fun _ _ _ h => h) (Or.inl ⟨by rfl, ?hy4⟩) (by assumption) ?rest4
     case hy4 => (intro w0 hSw; (try dsimp only at hSw); go_simp; try with_reducible rfl)
     try simp only [Act.put, List.getElem_toArray, List.getElem_cons_zero, List.getElem_cons_succ, List.setIfInBounds_toArray, List.set_cons_zero, List.set_cons_succ]
     refine wpAnyH_take (i := 4) (v := ?v5) rfl (by kernel_rfl) (by kernel_rfl) (by kernel_rfl) (fun _ _ _ h => h) (Or.inl ⟨by rfl, ?hy5⟩) (by assumption) ?rest5
     case hy5 => (intro w0 hSw; (try dsimp only at hSw); go_simp; try with_reducible rfl)
     try simp only [Act.put, List.getElem_toArray, List.getElem_cons_zero, List.getElem_cons_succ, List.setIfInBounds_toArray, List.set_cons_zero, List.set_cons_succ]
     refine wpAnyH_take (i := 5) (v := ?v6) rfl (by kernel_rfl) (by kernel_rfl) (by kernel_rfl) (fun _ _ _ h => h) (Or.inl ⟨by rfl, ?hy6⟩) (by assumption) ?rest6
     case hy6 => (intro w0 hSw; (try dsimp only at hSw); go_simp; try with_reducible rfl)
     try simp only [Act.put, List.getElem_toArray, List.getElem_cons_zero, List.getElem_cons_succ, List.setIfInBounds_toArray, List.set_cons_zero, List.set_cons_succ]
     refine wpAnyH_take (i := 6) (v := ?v7) rfl (by kernel_rfl) (by kernel_rfl) (by kernel_rfl) (fun _ _ _ h => h) (Or.inl ⟨by rfl, ?hy7⟩) (by assumption) ?rest7
     case hy7 => (intro w0 hSw; (try dsimp only at hSw); go_simp; try with_reducible rfl)
     try simp only [Act.put, List.getElem_toArray, List.getElem_cons_zero, List.getElem_cons_succ, List.setIfInBounds_toArray, List.set_cons_zero, List.set_cons_succ]
     refine wpAnyH_ready (rs := [7]) (by kernel_rfl) (by simp) ?_
     refine AllReadyH.cons rfl (fun KQ hKQ => ?_) AllReadyH.nil
     go_simp
     refine hKQ.out _ _ ?_ (fun hHeld => ?_)
     · exact ⟨con hp0, con hp1, con hs0, con hs1, con hs2, con hs3, con hs4, con hs5, con hs6⟩
     clear hKQ KQ
     try simp only [Act.put, List.getElem_toArray, List.getElem_cons_zero, List.getElem_cons_succ, List.setIfInBounds_toArray, List.set_cons_zero, List.set_cons_succ]
     refine wpAnyH_ready (rs := [8]) (by kernel_rfl) (by simp) ?_
     refine AllReadyH.cons rfl (fun KQ hKQ => ?_) AllReadyH.nil
     refine lg.step_append_row _ (by rfl) (.tmp 46) (.tmp 48) 26 (by rfl) 48 i0 (.agg #[.string ⟨#[]⟩, .int .u8 0, .slice none 0 0, .int .u8 0, .int .i64 0, .slice none 0 0, .int .i64 0]) 7 96 Tryz.underlying26 hi hz0 hz1 hz2 rfl (by decide) vn rows.length (flatR rows) (by rfl) (lg.Row.frame (w := W1) HR.out.2.2.1 fun g hg => heap_alloc_old W1.drew _ (HR.out.2.2.1.lt hg)) ⟨_, 0, none⟩ 1 1 [.string td.uid, .int .u8 (K : Int), .slice ai mi ci, .int .u8 0, .int .i64 0, .slice none 0 0, .int .i64 td.n] (by rfl) (by rfl) (World.news_of_block (cs := #[.string td.uid, .int .u8 (K : Int), .slice ai mi ci, .int .u8 0, .int .i64 0, .slice none 0 0, .int .i64 td.n]) (t := 48) (fr := (0, 0)) (heap_alloc_new _ _)) HV.out (by omega) (by unfold maxLen; omega) (by omega) _ rfl ?_
     intro g cap w5 hown5 hg5 hat5 hlt5
     obtain ⟨hrb5, hN5⟩ := HALL.out _ _ hg5
     refine hKQ.out _ _ ?_ (fun hHeld => ?_)
     · exact ⟨cell_of hrb5 rfl, cell_of hrb5 rfl, cell_of hN5 rfl, cell_of hN5 rfl, cell_of hN5 rfl, cell_of hN5 rfl, cell_of hN5 rfl, cell_of hN5 rfl, cell_of hN5 rfl⟩
     clear hKQ KQ
     try simp only [Act.put, List.getElem_toArray, List.getElem_cons_zero, List.getElem_cons_succ, List.setIfInBounds_toArray, List.set_cons_zero, List.set_cons_succ]
     refine wpAnyH_take (i := 9) (v := ?v8) rfl (by kernel_rfl) (by kernel_rfl) (by kernel_rfl) (fun _ _ _ h => h) (Or.inl ⟨by rfl, ?hy8⟩) (by assumption) ?rest8
     case hy8 => (intro w0 hSw; (try dsimp only at hSw); go_simp; try with_reducible rfl)
     try simp only [Act.put, List.getElem_toArray, List.getElem_cons_zero, List.getElem_cons_succ, List.setIfInBounds_toArray, List.set_cons_zero, List.set_cons_succ]
     refine wpAnyH_take (i := 10) (v := ?v9) rfl (by kernel_rfl) (by kernel_rfl) (by kernel_rfl) (fun _ _ _ h => h) (Or.inl ⟨by rfl, ?hy9⟩) (by assumption) ?rest9
     case hy9 => (intro w0 hSw; (try dsimp only at hSw); go_simp; try with_reducible rfl)
     try simp only [Act.put, List.getElem_toArray, List.getElem_cons_zero, List.getElem_cons_succ, List.setIfInBounds_toArray, List.set_cons_zero, List.set_cons_succ]
     refine wpAnyH_take (i := 11) (v := ?v10) rfl (by kernel_rfl) (by kernel_rfl) (by kernel_rfl) (fun _ _ _ h => h) (Or.inl ⟨by rfl, ?hy10⟩) (by assumption) ?rest10
     case hy10 => (intro w0 hSw; (try dsimp only at hSw); go_simp; try with_reducible rfl)
     try simp only [Act.put, List.getElem_toArray, List.getElem_cons_zero, List.getElem_cons_succ, List.setIfInBounds_toArray, List.set_cons_zero, List.set_cons_succ]
     refine wpAnyH_done (by kernel_rfl) ?_ _
     change wpList _ _ _ _ _ _
     have hc5 : w5.cell? ⟨rb, 1, none⟩ = some vn := cell_of hrb5 rfl
     have hf5 : w5.frozen? ⟨rb, 1, none⟩ = false := by simp [World.frozen?, hrb5]
     have HP := Lib.hid (HR.out.push HOK.out hg5 (by rw [HRC.out]; exact hown5) hat5)
     clear hown5 hg5 hat5 hlt5 hrb5 hN5 hHeld hp0 hp1 hs0 hs1 hs2 hs3 hs4 hs5 hs6
     go_wp2_with fail
     go_ret
     exact HE.out _ _ _ HP.out.1 HP.out.2.1 HP.out.2.2
    | true =>
     rw [if_pos rfl]
     have HTL : Hid (∀ w', Calls Tryz.prog 119 #[.string text, .string ⟨#[32, 9]⟩] w' fun e w'' => e = .returned (.string (ba (Lib.trimLeftS text.data.toList [32, 9]))) ∧ Below w'.heap.size w' w'') := Lib.hid (fun w' => trimLeft_any text w')
     obtain ⟨T, hT⟩ : ∃ T, ba (Lib.trimLeftS text.data.toList [32, 9]) = T := ⟨_, rfl⟩
     rw [hT] at HTL ⊢
     have HPA : Hid (∀ w', Calls Tryz.prog 118 #[.string T] w' (PaPost (parseO T) w')) := Lib.hid (fun w' => parse_any T w')
     unfold PaPost at HPA
     obtain ⟨px, hpx⟩ : ∃ x, (parseO T).1 = x := ⟨_, rfl⟩
     obtain ⟨pl, hpl⟩ : ∃ x, (parseO T).2.1 = x := ⟨_, rfl⟩
     obtain ⟨pc, hpc⟩ : ∃ x, (parseO T).2.2 = x := ⟨_, rfl⟩
     rw [hpx, hpl, hpc] at HPA
     rw [hpx, hpc]
     clear hT hpx hpl hpc
     obtain ⟨RES, hRES⟩ : ∃ x : Except Int Nd, (if pc ≠ 0 then .error pc else .ok ⟨td.uid, K, td.ins, px, td.n⟩) = x := ⟨_, rfl⟩
     rw [hRES]
     have HRES := Lib.hid hRES
     clear hRES
     go_enter Tryz.func74, Tryz.ntmps74
     go_wp2_with fail
     refine HTO.out.mono ?_
     rintro e w1 ⟨vi, rfl, ho, hb1⟩
     obtain ⟨ai, ci, rfl, -, -⟩ := own_slice ho
     obtain ⟨mi, hmi⟩ : ∃ m, td.ins.length = m := ⟨_, rfl⟩
     rw [hmi] at ho
     rw [hmi]
     have HMI := Lib.hid hmi
     have HO := Lib.hid ho
     have HB1 := Lib.hid hb1
     clear hmi ho hb1
     unfold ndCells
     obtain ⟨N, hN⟩ : ∃ N, w1.heap.size = N := ⟨_, rfl⟩
     have HNN := Lib.hid hN
     obtain ⟨W1, hW1⟩ : ∃ W, w1.alloc (.cells #[.string td.uid, .int .u8 (K : Int), .slice ai mi ci, .int .u8 0, .int .i64 0, .slice none 0 0, .int .i64 td.n] 48) = W := ⟨_, rfl⟩
     have HB2 : Hid (Below w.heap.size w W1) := Lib.hid (by rw [← hW1]; exact (HB1.out).alloc HB1.out.size _)
     have HNB1 : Hid (W1.heap[N]? = some (.cells #[.string td.uid, .int .u8 (K : Int), .slice ai mi ci, .int .u8 0, .int .i64 0, .slice none 0 0, .int .i64 td.n] 48 (0, 0))) := Lib.hid (by rw [← hW1]; exact heap_last hN.symm)
     have HKR := Lib.hid ((HK.out.on HB2.out).row HKI.out)
     have hk1 : W1.cell? ⟨N, 1, none⟩ = some (.int .u8 (K : Int)) := cell_of HNB1.out rfl
     have hk2 := HKR.out.2.2
     rw [HHX.out] at hk2
     have HW1 := Lib.hid hW1
     clear hN hW1
     go_upto_region 2 with fail
     rw [HNN.out, HW1.out]
     go_wp2_with fail
     refine (HTL.out _).mono ?_
     rintro e w2 ⟨rfl, hb2⟩
     have HC2 := Lib.hid hb2
     clear hb2
     go_wp2_with fail
     refine (HPA.out _).mono ?_
     rintro e w3 ⟨ax, cx, rfl, hL, hb3⟩
     have HC3 : Hid (Below W1.heap.size W1 w3) := Lib.hid (HC2.out.trans (hb3.mono HC2.out.size))
     have HL := Lib.hid (hL.mono (fun _ _ => trivial) : Lies w3 Any _ _)
     have HNB3 : Hid (w3.heap[N]? = _) := Lib.hid ((HC3.out.block N (Array.getElem?_eq_some_iff.1 HNB1.out).1).trans HNB1.out)
     have q3 : w3.cell? ⟨N, 3, none⟩ = some (.int .u8 0) := cell_of HNB3.out rfl
     have q4 : w3.cell? ⟨N, 4, none⟩ = some (.int .i64 0) := cell_of HNB3.out rfl
     have q5 : w3.cell? ⟨N, 5, none⟩ = some (.slice none 0 0) := cell_of HNB3.out rfl
     have f3 : w3.frozen? ⟨N, 3, none⟩ = false := by simp [World.frozen?, HNB3.out]
     have f4 : w3.frozen? ⟨N, 4, none⟩ = false := by simp [World.frozen?, HNB3.out]
     have f5 : w3.frozen? ⟨N, 5, none⟩ = false := by simp [World.frozen?, HNB3.out]
     obtain ⟨WX, hWX⟩ : ∃ W, ((w3.setCell ⟨N, 3, none⟩ (.int .u8 (px.op : Int))).setCell ⟨N, 4, none⟩ (.int .i64 px.n)).setCell ⟨N, 5, none⟩ (.slice ax px.args.length cx) = W := ⟨_, rfl⟩
     have HWX := Lib.hid hWX
     have HNB : Hid (WX.heap[N]? = some (.cells #[.string td.uid, .int .u8 (K : Int), .slice ai mi ci, .int .u8 (px.op : Int), .int .i64 px.n, .slice ax px.args.length cx, .int .i64 td.n] 48 (0, 0))) := Lib.hid (by
      rw [← HWX.out]; exact setCell_heap (setCell_heap (setCell_heap HNB3.out)))
     have HKP : Hid (Kept w3 WX) := Lib.hid (by
      rw [← HWX.out]
      exact ((Kept.setCell HNB3.out (.inr rfl)).trans (Kept.setCell (setCell_heap HNB3.out) (.inr rfl))).trans (Kept.setCell (setCell_heap (setCell_heap HNB3.out)) (.inr rfl)))
     have HNW : Hid (w.heap.size ≤ N) := Lib.hid (by have := HB1.out.size; have := HNN.out; omega)
     have HBX : Hid (Below w.heap.size w WX) := Lib.hid (by
      rw [← HWX.out]
      exact (((HB2.out.trans (HC3.out.mono HB2.out.size)).setCell (p := ⟨N, 3, none⟩) HNW.out _).setCell (p := ⟨N, 4, none⟩) HNW.out _).setCell (p := ⟨N, 5, none⟩) HNW.out _)
     clear hL hb3 hk1 hk2 hWX
     go_upto_region 7 with fail
     rw [HWX.out]
     clear q3 q4 q5 f3 f4 f5
     by_cases hp0 : pc = 0
     · have HRE : Hid (RES = .ok ⟨td.uid, K, td.ins, px, td.n⟩) := Lib.hid (by rw [← HRES.out, if_neg (by simp [hp0])])
       clear HRES
       subst hp0
       have HR : Hid (IsRdr WX B rb vn vs rows r) := Lib.hid (HH.out.under HBX.out)
       have HNE : Hid (vn.ownBlock ≠ some N) := Lib.hid (fun e => by have := HH.out.2.2.1.lt e; have := HNW.out; omega)
       have HRC : Hid (rowCells ((⟨td.uid, td.kind, td.ins, px, td.n⟩ : Nd), .slice ai mi ci, .slice ax px.args.length cx) = [.string td.uid, .int .u8 (K : Int), .slice ai mi ci, .int .u8 (px.op : Int), .int .i64 px.n, .slice ax px.args.length cx, .int .i64 td.n]) := Lib.hid (by unfold rowCells; simp only [HKK.out])
       have HOK : Hid (RowOk WX vs ((⟨td.uid, td.kind, td.ins, px, td.n⟩ : Nd), .slice ai mi ci, .slice ax px.args.length cx)) := Lib.hid (by
        refine ⟨?_, fun g hg e => ?_, ?_⟩
        · have h1 := lg.Row.own HO.out
          show lg.Row _ _ _ _ td.ins.length _
          rw [HMI.out]
          have h2 : lg.Row W1 3 1 (.slice ai mi ci) mi (td.ins.map intV) := by rw [← HW1.out]; exact h1.below (below_made _ _)
          exact HKP.out.row (h2.below HC3.out) (by decide) (by decide)
        · have h1 := (HO.out.lt g hg).1
          have h2 := HH.out.2.2.2.2.2.1.lt e
          omega
        · exact HKP.out.lies HL.out)
       have HV : Hid (∀ u ∈ [Value.string td.uid, .int .u8 (K : Int), .slice ai mi ci, .int .u8 (px.op : Int), .int .i64 px.n, .slice ax px.args.length cx, .int .i64 td.n], u.oneCell' = true) := Lib.hid (by simp [Value.oneCell'])
       have HE : Hid (∀ vn' rows' w', IsRdr w' B rb vn' vs rows' ⟨r.par, r.nodes ++ [⟨td.uid, td.kind, td.ins, px, td.n⟩], r.said⟩ → Below B WX w' → Kept WX w' → NodePost B rb vs r RES w (.returned (.int .i64 0)) w') := Lib.hid (fun vn' rows' w' h1 h2 h3 => by
        rw [HRE.out, ← HKK.out]
        exact ⟨⟨rfl, _, _, h1⟩, (HBX.out.mono hBw).trans h2, (Kept.of_below HBX.out).trans h3⟩)
       rw [show td.kind = K from HKK.out] at HE HRC HOK
       try rw [show td.kind = K from HKK.out]
       go_wp2_with fail
       have hp0 := HR.out.cells.1
       have hp1 := HR.out.cells.2.1
       have hs0 : WX.cell? ⟨N, 0, none⟩ = some (.string td.uid) := cell_of HNB.out rfl
       have hs1 : WX.cell? ⟨N, 1, none⟩ = some (.int .u8 (K : Int)) := cell_of HNB.out rfl
       have hs2 : WX.cell? ⟨N, 2, none⟩ = some (.slice ai mi ci) := cell_of HNB.out rfl
       have hs3 : WX.cell? ⟨N, 3, none⟩ = some (.int .u8 (px.op : Int)) := cell_of HNB.out rfl
       have hs4 : WX.cell? ⟨N, 4, none⟩ = some (.int .i64 px.n) := cell_of HNB.out rfl
       have hs5 : WX.cell? ⟨N, 5, none⟩ = some (.slice ax px.args.length cx) := cell_of HNB.out rfl
       have hs6 : WX.cell? ⟨N, 6, none⟩ = some (.int .i64 td.n) := cell_of HNB.out rfl
       have HALL : Hid (∀ o w5, (WX.drew.alloc o).grownBy w5 vn.ownBlock → w5.heap[rb]? = some (.cells #[.int .i64 r.par, vn, vs] 105 (0, 0)) ∧ w5.heap[N]? = some (.cells #[.string td.uid, .int .u8 (K : Int), .slice ai mi ci, .int .u8 (px.op : Int), .int .i64 px.n, .slice ax px.args.length cx, .int .i64 td.n] 48 (0, 0))) := Lib.hid (fun o w5 hg => by
        have e1 := (Array.getElem?_eq_some_iff.1 HR.out.1).1
        have e2 := (Array.getElem?_eq_some_iff.1 HNB.out).1
        have n1 : vn.ownBlock ≠ some rb := row_ty HR.out.2.2.1 HR.out.1 (by decide)
        refine ⟨?_, ?_⟩
        · rw [hg.block rb (by rw [World.size_alloc]; have : WX.drew.heap.size = WX.heap.size := rfl; omega) (fun e => n1 e.symm), Below.heap_alloc _ _ _ (by exact e1)]
          exact HR.out.1
        · rw [hg.block N (by rw [World.size_alloc]; have : WX.drew.heap.size = WX.heap.size := rfl; omega) (fun e => HNE.out e.symm), Below.heap_alloc _ _ _ (by exact e2)]
          exact HNB.out)
       refine dsk.wp_region_peel2 (by kernel_rfl) (by simp only [List.dropLast_cons_cons, List.dropLast_singleton]; exact rfl) rfl (by kernel_rfl) ?_
       refine wpAny_of_held (S := fun w' => w'.cell? ⟨rb, 0, none⟩ = some (.int .i64 r.par) ∧ w'.cell? ⟨rb, 1, none⟩ = some vn ∧ w'.cell? ⟨N, 0, none⟩ = some (.string td.uid) ∧ w'.cell? ⟨N, 1, none⟩ = some (.int .u8 (K : Int)) ∧ w'.cell? ⟨N, 2, none⟩ = some (.slice ai mi ci) ∧ w'.cell? ⟨N, 3, none⟩ = some (.int .u8 (px.op : Int)) ∧ w'.cell? ⟨N, 4, none⟩ = some (.int .i64 px.n) ∧ w'.cell? ⟨N, 5, none⟩ = some (.slice ax px.args.length cx) ∧ w'.cell? ⟨N, 6, none⟩ = some (.int .i64 td.n)) _ _ _ _ ?_
       have hHeld : WX.drew.cell? ⟨rb, 0, none⟩ = some (.int .i64 r.par) ∧ WX.drew.cell? ⟨rb, 1, none⟩ = some vn ∧ WX.drew.cell? ⟨N, 0, none⟩ = some (.string td.uid) ∧ WX.drew.cell? ⟨N, 1, none⟩ = some (.int .u8 (K : Int)) ∧ WX.drew.cell? ⟨N, 2, none⟩ = some (.slice ai mi ci) ∧ WX.drew.cell? ⟨N, 3, none⟩ = some (.int .u8 (px.op : Int)) ∧ WX.drew.cell? ⟨N, 4, none⟩ = some (.int .i64 px.n) ∧ WX.drew.cell? ⟨N, 5, none⟩ = some (.slice ax px.args.length cx) ∧ WX.drew.cell? ⟨N, 6, none⟩ = some (.int .i64 td.n) := ⟨hp0, hp1, hs0, hs1, hs2, hs3, hs4, hs5, hs6⟩
       refine wpAnyH_take (i := 0) (v := ?v21) rfl (by kernel_rfl) (by kernel_rfl) (by kernel_rfl) (fun _ _ _ h => h) (Or.inl ⟨by rfl, ?hy21⟩) (by assumption) ?rest21
       case hy21 => (intro w0 hSw; (try dsimp only at hSw); go_simp; try with_reducible rfl)
       try simp only [Act.put, List.getElem_toArray, List.getElem_cons_zero, List.getElem_cons_succ, List.setIfInBounds_toArray, List.set_cons_zero, List.set_cons_succ]
       refine wpAnyH_take (i := 1) (v := ?v22) rfl (by kernel_rfl) (by kernel_rfl) (by kernel_rfl) (fun _ _ _ h => h) (Or.inl ⟨by rfl, ?hy22⟩) (by assumption) ?rest22
       case hy22 => (intro w0 hSw; (try dsimp only at hSw); go_simp; try with_reducible rfl)
       try simp only [Act.put, List.getElem_toArray, List.getElem_cons_zero, List.getElem_cons_succ, List.setIfInBounds_toArray, List.set_cons_zero, List.set_cons_succ]
       refine wpAnyH_take (i := 2) (v := ?v23) rfl (by kernel_rfl) (by kernel_rfl) (by kernel_rfl) (fun _ _ _ h => h) (Or.inl ⟨by rfl, ?hy23⟩) (by assumption) ?rest23
       case hy23 => (intro w0 hSw; (try dsimp only at hSw); go_simp; try with_reducible rfl)
       try simp only [Act.put, List.getElem_toArray, List.getElem_cons_zero, List.getElem_cons_succ, List.setIfInBounds_toArray, List.set_cons_zero, List.set_cons_succ]
       refine wpAnyH_take (i := 3) (v := ?v24) rfl (by kernel_rfl) (by kernel_rfl) (by kernel_rfl) (fun _ _ _ h => h) (Or.inl ⟨by rfl, ?hy24⟩) (by assumption) ?rest24
       case hy24 => (intro w0 hSw; (try dsimp only at hSw); go_simp; try with_reducible rfl)
       try simp only [Act.put, List.getElem_toArray, List.getElem_cons_zero, List.getElem_cons_succ, List.setIfInBounds_toArray, List.set_cons_zero, List.set_cons_succ]
       refine wpAnyH_take (i := 4) (v := ?v25) rfl (by kernel_rfl) (by kernel_rfl) (by kernel_rfl) (fun _ _ _ h => h) (Or.inl ⟨by rfl, ?hy25⟩) (by assumption) ?rest25
       case hy25 => (intro w0 hSw; (try dsimp only at hSw); go_simp; try with_reducible rfl)
       try simp only [Act.put, List.getElem_toArray, List.getElem_cons_zero, List.getElem_cons_succ, List.setIfInBounds_toArray, List.set_cons_zero, List.set_cons_succ]
       refine wpAnyH_take (i := 5) (v := ?v26) rfl (by kernel_rfl) (by kernel_rfl) (by kernel_rfl) (fun _ _ _ h => h) (Or.inl ⟨by rfl, ?hy26⟩) (by assumption) ?rest26
       case hy26 => (intro w0 hSw; (try dsimp only at hSw); go_simp; try with_reducible rfl)
       try simp only [Act.put, List.getElem_toArray, List.getElem_cons_zero, List.getElem_cons_succ, List.setIfInBounds_toArray, List.set_cons_zero, List.set_cons_succ]
       refine wpAnyH_take (i := 6) (v := ?v27) rfl (by kernel_rfl) (by kernel_rfl) (by kernel_rfl) (fun _ _ _ h => h) (Or.inl ⟨by rfl, ?hy27⟩) (by assumption) ?rest27
       case hy27 => (intro w0 hSw; (try dsimp only at hSw); go_simp; try with_reducible rfl)
       try simp only [Act.put, List.getElem_toArray, List.getElem_cons_zero, List.getElem_cons_succ, List.setIfInBounds_toArray, List.set_cons_zero, List.set_cons_succ]
       refine wpAnyH_ready (rs := [7]) (by kernel_rfl) (by simp) ?_
       refine AllReadyH.cons rfl (fun KQ hKQ => ?_) AllReadyH.nil
       go_simp
       refine hKQ.out _ _ ?_ (fun hHeld => ?_)
       · exact ⟨con hp0, con hp1, con hs0, con hs1, con hs2, con hs3, con hs4, con hs5, con hs6⟩
       clear hKQ KQ
       try simp only [Act.put, List.getElem_toArray, List.getElem_cons_zero, List.getElem_cons_succ, List.setIfInBounds_toArray, List.set_cons_zero, List.set_cons_succ]
       refine wpAnyH_ready (rs := [8]) (by kernel_rfl) (by simp) ?_
       refine AllReadyH.cons rfl (fun KQ hKQ => ?_) AllReadyH.nil
       refine lg.step_append_row _ (by rfl) (.tmp 46) (.tmp 48) 26 (by rfl) 48 i0 (.agg #[.string ⟨#[]⟩, .int .u8 0, .slice none 0 0, .int .u8 0, .int .i64 0, .slice none 0 0, .int .i64 0]) 7 96 Tryz.underlying26 hi hz0 hz1 hz2 rfl (by decide) vn rows.length (flatR rows) (by rfl) (lg.Row.frame (w := WX) HR.out.2.2.1 fun g hg => heap_alloc_old WX.drew _ (HR.out.2.2.1.lt hg)) ⟨_, 0, none⟩ 1 1 [.string td.uid, .int .u8 (K : Int), .slice ai mi ci, .int .u8 (px.op : Int), .int .i64 px.n, .slice ax px.args.length cx, .int .i64 td.n] (by rfl) (by rfl) (World.news_of_block (cs := #[.string td.uid, .int .u8 (K : Int), .slice ai mi ci, .int .u8 (px.op : Int), .int .i64 px.n, .slice ax px.args.length cx, .int .i64 td.n]) (t := 48) (fr := (0, 0)) (heap_alloc_new _ _)) HV.out (by omega) (by unfold maxLen; omega) (by omega) _ rfl ?_
       intro g cap w5 hown5 hg5 hat5 hlt5
       obtain ⟨hrb5, hN5⟩ := HALL.out _ _ hg5
       refine hKQ.out _ _ ?_ (fun hHeld => ?_)
       · exact ⟨cell_of hrb5 rfl, cell_of hrb5 rfl, cell_of hN5 rfl, cell_of hN5 rfl, cell_of hN5 rfl, cell_of hN5 rfl, cell_of hN5 rfl, cell_of hN5 rfl, cell_of hN5 rfl⟩
       clear hKQ KQ
       try simp only [Act.put, List.getElem_toArray, List.getElem_cons_zero, List.getElem_cons_succ, List.setIfInBounds_toArray, List.set_cons_zero, List.set_cons_succ]
       refine wpAnyH_take (i := 9) (v := ?v28) rfl (by kernel_rfl) (by kernel_rfl) (by kernel_rfl) (fun _ _ _ h => h) (Or.inl ⟨by rfl, ?hy28⟩) (by assumption) ?rest28
       case hy28 => (intro w0 hSw; (try dsimp only at hSw); go_simp; try with_reducible rfl)
       try simp only [Act.put, List.getElem_toArray, List.getElem_cons_zero, List.getElem_cons_succ, List.setIfInBounds_toArray, List.set_cons_zero, List.set_cons_succ]
       refine wpAnyH_take (i := 10) (v := ?v29) rfl (by kernel_rfl) (by kernel_rfl) (by kernel_rfl) (fun _ _ _ h => h) (Or.inl ⟨by rfl, ?hy29⟩) (by assumption) ?rest29
       case hy29 => (intro w0 hSw; (try dsimp only at hSw); go_simp; try with_reducible rfl)
       try simp only [Act.put, List.getElem_toArray, List.getElem_cons_zero, List.getElem_cons_succ, List.setIfInBounds_toArray, List.set_cons_zero, List.set_cons_succ]
       refine wpAnyH_take (i := 11) (v := ?v30) rfl (by kernel_rfl) (by kernel_rfl) (by kernel_rfl) (fun _ _ _ h => h) (Or.inl ⟨by rfl, ?hy30⟩) (by assumption) ?rest30
       case hy30 => (intro w0 hSw; (try dsimp only at hSw); go_simp; try with_reducible rfl)
       try simp only [Act.put, List.getElem_toArray, List.getElem_cons_zero, List.getElem_cons_succ, List.setIfInBounds_toArray, List.set_cons_zero, List.set_cons_succ]
       refine wpAnyH_done (by kernel_rfl) ?_ _
       change wpList _ _ _ _ _ _
       have hc5 : w5.cell? ⟨rb, 1, none⟩ = some vn := cell_of hrb5 rfl
       have hf5 : w5.frozen? ⟨rb, 1, none⟩ = false := by simp [World.frozen?, hrb5]
       have HP := Lib.hid (HR.out.push HOK.out hg5 (by rw [HRC.out]; exact hown5) hat5)
       clear hown5 hg5 hat5 hlt5 hrb5 hN5 hHeld hp0 hp1 hs0 hs1 hs2 hs3 hs4 hs5 hs6
       go_wp2_with fail
       go_ret
       exact HE.out _ _ _ HP.out.1 HP.out.2.1 HP.out.2.2
     · have HRE : Hid (RES = .error pc) := Lib.hid (by rw [← HRES.out, if_pos hp0])
       clear HRES
       have hne : (pc != 0) = true := by simp [hp0]
       have HEP : Hid (NodePost B rb vs r RES w (.returned (.int .i64 pc)) WX) := Lib.hid (by rw [HRE.out]; exact ⟨rfl, HBX.out.mono hBw, Kept.of_below HBX.out⟩)
       clear hp0
       go_wp2_with fail
       go_ret
       exact HEP.out
end
end Go.Proofs.YtepdecnegihhhaaGreatDoor.sc
