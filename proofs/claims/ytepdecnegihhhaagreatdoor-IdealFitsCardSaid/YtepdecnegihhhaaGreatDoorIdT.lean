/- What a row lists, as the walks want it: what kinds ask for, kinds' words. -/
import Derived.Test.YtepdecnegihhhaaGreatDoorMSe
import Derived.LaidMore
import Derived.Test.YtepdecnegihhhaaGreatDoorRows
import Derived.OpenShut
import Derived.Lib.LaidTab
set_option linter.unusedSimpArgs false
set_option linter.unusedVariables false
namespace Go.Proofs.YtepdecnegihhhaaGreatDoor.jb
open Go.RowKit nam exp
section
variable {H : Type} {enc : TypeId × Value → H} {w : World} {base : Nat} {sp : Nat → Bool} {held : Bool} {fuel : Nat}
def askD (a : Ask) : DataW H := .agg [.lit (.int .i64 a.few), .lit (.int .i64 a.many), .lit (.int .u8 (a.ty : Int)), .lit (.bool a.acc), .lit (.int .i64 a.least), .lit (.int .i64 a.most), .lit (.bool a.keeps)]
theorem of_int {t : TypeId} {k : IntKind} {n : Nat} {cs : List Value} {x : DataW H × List MemPlace} {z : Int} (ht : Tryz.prog.underlying t = some (.int k)) (h : DataW.trod enc Tryz.prog w base sp held n t cs = some x) (hx : x.1 = .lit (.int k z)) : cs = [.int k z] := by
 obtain ⟨m, rfl, rfl, _⟩ := DataW.trod_int ht h
 simp at hx
 rw [hx]
theorem of_bool {t : TypeId} {n : Nat} {cs : List Value} {x : DataW H × List MemPlace} {z : Bool} (ht : Tryz.prog.underlying t = some .bool) (h : DataW.trod enc Tryz.prog w base sp held n t cs = some x) (hx : x.1 = .lit (.bool z)) : cs = [.bool z] := by
 obtain ⟨m, rfl, rfl⟩ := DataW.trod_bool ht h
 simp at hx
 rw [hx]
theorem seven {cs : List Value} (h : cs.length = 7) : ∃ a b c d e f g, cs = [a, b, c, d, e, f, g] := by
 match cs, h with
 | [a, b, c, d, e, f, g], _ => exact ⟨a, b, c, d, e, f, g, rfl⟩
theorem row_cells {cs : List Value} {a : Ask} {p : List MemPlace} (h : DataW.trod enc Tryz.prog w base sp held fuel 124 cs = some (askD a, p)) : cs = a.cells := by
 obtain ⟨fs, hfs⟩ : ∃ fs, Tryz.prog.underlying 124 = some (.struct fs) := ⟨_, Tryz.underlying124⟩
 obtain ⟨xs, n, rfl, hx, hl, hxl, hi⟩ := DataW.trod_struct hfs h
 have hl7 : cs.length = 7 := by rw [hl]; kernel_rfl
 obtain ⟨c0, c1, c2, c3, c4, c5, c6, rfl⟩ := seven hl7
 have hd : xs.map (·.1) = [.lit (.int .i64 a.few), .lit (.int .i64 a.many), .lit (.int .u8 (a.ty : Int)), .lit (.bool a.acc), .lit (.int .i64 a.least), .lit (.int .i64 a.most), .lit (.bool a.keeps)] := by
  have := congrArg Prod.fst hx
  simpa [askD] using this.symm
 have hfs2 := Option.some.inj (hfs.symm.trans Tryz.underlying124)
 simp only [TypeDesc.struct.injEq] at hfs2
 subst hfs2
 have get : ∀ i (d : DataW H), ([.lit (.int .i64 a.few), .lit (.int .i64 a.many), .lit (.int .u8 (a.ty : Int)), .lit (.bool a.acc), .lit (.int .i64 a.least), .lit (.int .i64 a.most), .lit (.bool a.keeps)] : List (DataW H))[i]? = some d → ∃ x : DataW H × List MemPlace, xs[i]? = some x ∧ x.1 = d := fun i d h => by
  rw [← hd, List.getElem?_map, Option.map_eq_some_iff] at h
  exact h
 have k3 : Tryz.prog.cellsOf 3 = 1 := by kernel_rfl
 have k5 : Tryz.prog.cellsOf 5 = 1 := by kernel_rfl
 have k4 : Tryz.prog.cellsOf 4 = 1 := by kernel_rfl
 obtain ⟨x0, e0, d0⟩ := get 0 _ rfl
 have h0 := hi 0 _ rfl
 rw [e0] at h0
 have g0 : List.take (Tryz.prog.cellsOf 3) (List.drop 0 [c0, c1, c2, c3, c4, c5, c6]) = [.int .i64 a.few] := of_int (k := .i64) Tryz.underlying3 h0 d0
 rw [k3] at g0
 obtain ⟨x1, e1, d1⟩ := get 1 _ rfl
 have h1 := hi 1 _ rfl
 rw [e1] at h1
 have g1 : List.take (Tryz.prog.cellsOf 3) (List.drop 1 [c0, c1, c2, c3, c4, c5, c6]) = [.int .i64 a.many] := of_int (k := .i64) Tryz.underlying3 h1 d1
 rw [k3] at g1
 obtain ⟨x2, e2, d2⟩ := get 2 _ rfl
 have h2 := hi 2 _ rfl
 rw [e2] at h2
 have g2 : List.take (Tryz.prog.cellsOf 5) (List.drop 2 [c0, c1, c2, c3, c4, c5, c6]) = [.int .u8 (a.ty : Int)] := of_int (k := .u8) Tryz.underlying5 h2 d2
 rw [k5] at g2
 obtain ⟨x3, e3, d3⟩ := get 3 _ rfl
 have h3 := hi 3 _ rfl
 rw [e3] at h3
 have g3 : List.take (Tryz.prog.cellsOf 4) (List.drop 3 [c0, c1, c2, c3, c4, c5, c6]) = [.bool a.acc] := of_bool Tryz.underlying4 h3 d3
 rw [k4] at g3
 obtain ⟨x4, e4, d4⟩ := get 4 _ rfl
 have h4 := hi 4 _ rfl
 rw [e4] at h4
 have g4 : List.take (Tryz.prog.cellsOf 3) (List.drop 4 [c0, c1, c2, c3, c4, c5, c6]) = [.int .i64 a.least] := of_int (k := .i64) Tryz.underlying3 h4 d4
 rw [k3] at g4
 obtain ⟨x5, e5, d5⟩ := get 5 _ rfl
 have h5 := hi 5 _ rfl
 rw [e5] at h5
 have g5 : List.take (Tryz.prog.cellsOf 3) (List.drop 5 [c0, c1, c2, c3, c4, c5, c6]) = [.int .i64 a.most] := of_int (k := .i64) Tryz.underlying3 h5 d5
 rw [k3] at g5
 obtain ⟨x6, e6, d6⟩ := get 6 _ rfl
 have h6 := hi 6 _ rfl
 rw [e6] at h6
 have g6 : List.take (Tryz.prog.cellsOf 4) (List.drop 6 [c0, c1, c2, c3, c4, c5, c6]) = [.bool a.keeps] := of_bool Tryz.underlying4 h6 d6
 rw [k4] at g6
 simp at g0 g1 g2 g3 g4 g5 g6
 unfold Ask.cells
 rw [g0, g1, g2, g3, g4, g5, g6]
theorem of_rows : ∀ (l : List Ask) (cs : List Value), cs.length = l.length * 7 → (∀ i (h : i < l.length), (cs.drop (i * 7)).take 7 = l[i].cells) → cs = l.flatMap Ask.cells
 | [], cs, h, _ => by
  obtain rfl : cs = [] := List.eq_nil_of_length_eq_zero (by simpa using h)
  rfl
 | a :: l, cs, h, hc => by
  have h0 := hc 0 (by simp)
  simp only [Nat.zero_mul, List.drop_zero, List.getElem_cons_zero] at h0
  have hr := of_rows l (cs.drop 7) (by rw [List.length_drop, h, List.length_cons]; omega) (fun i hi => by
   have := hc (i + 1) (by simp; omega)
   rw [List.getElem_cons_succ] at this
   rw [List.drop_drop, ← this]
   congr 2
   omega)
  rw [List.flatMap_cons, ← h0, ← hr, List.take_append_drop]
theorem asks_data : (Rows.laid_changeling_job_asks : DataW H) = .agg (askL.map askD) := rfl
theorem cells_of_asks {cs : List Value} {p : List MemPlace} (h : DataW.trod enc Tryz.prog w base sp held fuel 168 cs = some (Rows.laid_changeling_job_asks, p)) : cs = askCells := by
 obtain ⟨xs, m, rfl, hx, hl, hxl, hi⟩ := DataW.trod_array Tryz.underlying168 h
 have k54 : Tryz.prog.cellsOf 124 = 7 := by kernel_rfl
 have hl70 : cs.length = 70 := by rw [hl]; kernel_rfl
 have hd : xs.map (·.1) = (askL.map askD : List (DataW H)) := by
  have := congrArg Prod.fst hx
  rw [asks_data] at this
  simpa using this.symm
 have hlen : askL.length = 10 := rfl
 refine of_rows askL cs (by rw [hl70, hlen]) (fun i h10 => ?_)
 rw [hlen] at h10
 have h1 := hi i h10
 rw [k54] at h1
 have h2 : (xs.map (·.1))[i]? = some (askD askL[i]) := by rw [hd, List.getElem?_map, List.getElem?_eq_getElem (show i < askL.length by rw [hlen]; exact h10)]; rfl
 rw [List.getElem?_map, Option.map_eq_some_iff] at h2
 obtain ⟨⟨d, q⟩, e1, e2⟩ := h2
 rw [e1] at h1
 simp only at e2
 rw [e2] at h1
 exact row_cells h1
end
end Go.Proofs.YtepdecnegihhhaaGreatDoor.jb
namespace Go.Proofs.YtepdecnegihhhaaGreatDoor.sc
open Go.RowKit nam exp jb
section
variable {H : Type} {enc : TypeId × Value → H} {w : World} {base : Nat} {sp : Nat → Bool} {held : Bool} {fuel : Nat}
def kindD (k : Nat) : DataW H := .agg [.lit (.string (wordK k).data.toList), .lit (.bool (hasN k)), .lit (.bool (hasX k))]
theorem of_str {t : TypeId} {n : Nat} {cs : List Value} {x : DataW H × List MemPlace} {z : ByteArray} (ht : Tryz.prog.underlying t = some .string) (h : DataW.trod enc Tryz.prog w base sp held n t cs = some x) (hx : x.1 = .lit (.string z.data.toList)) : cs = [.string z] := by
 obtain ⟨m, rfl, rfl, _⟩ := DataW.trod_string ht h
 simp only [DataW.lit.injEq, Lit.string.injEq] at hx
 have : m = z := ByteArray.ext (by have := congrArg List.toArray hx; simpa using this)
 rw [this]
theorem three {cs : List Value} (h : cs.length = 3) : ∃ a b c, cs = [a, b, c] := by
 match cs, h with
 | [a, b, c], _ => exact ⟨a, b, c, rfl⟩
theorem kind_cells {cs : List Value} {k : Nat} {p : List MemPlace} (h : DataW.trod enc Tryz.prog w base sp held fuel 193 cs = some (kindD k, p)) : cs = kindCell k := by
 obtain ⟨fs, hfs⟩ : ∃ fs, Tryz.prog.underlying 193 = some (.struct fs) := ⟨_, Tryz.underlying193⟩
 obtain ⟨xs, n, rfl, hx, hl, hxl, hi⟩ := DataW.trod_struct hfs h
 have hl3 : cs.length = 3 := by rw [hl]; kernel_rfl
 obtain ⟨c0, c1, c2, rfl⟩ := three hl3
 have hd : xs.map (·.1) = [.lit (.string (wordK k).data.toList), .lit (.bool (hasN k)), .lit (.bool (hasX k))] := by
  have := congrArg Prod.fst hx
  simpa [kindD] using this.symm
 have hfs2 := Option.some.inj (hfs.symm.trans Tryz.underlying193)
 simp only [TypeDesc.struct.injEq] at hfs2
 subst hfs2
 have get : ∀ i (d : DataW H), ([.lit (.string (wordK k).data.toList), .lit (.bool (hasN k)), .lit (.bool (hasX k))] : List (DataW H))[i]? = some d → ∃ x : DataW H × List MemPlace, xs[i]? = some x ∧ x.1 = d := fun i d h => by
  rw [← hd, List.getElem?_map, Option.map_eq_some_iff] at h
  exact h
 have k9 : Tryz.prog.cellsOf 9 = 1 := by kernel_rfl
 have k4 : Tryz.prog.cellsOf 4 = 1 := by kernel_rfl
 obtain ⟨x0, e0, d0⟩ := get 0 _ rfl
 have h0 := hi 0 _ rfl
 rw [e0] at h0
 have g0 : List.take (Tryz.prog.cellsOf 9) (List.drop 0 [c0, c1, c2]) = [.string (wordK k)] := of_str Tryz.underlying9 h0 d0
 rw [k9] at g0
 obtain ⟨x1, e1, d1⟩ := get 1 _ rfl
 have h1 := hi 1 _ rfl
 rw [e1] at h1
 have g1 : List.take (Tryz.prog.cellsOf 4) (List.drop 1 [c0, c1, c2]) = [.bool (hasN k)] := of_bool Tryz.underlying4 h1 d1
 rw [k4] at g1
 obtain ⟨x2, e2, d2⟩ := get 2 _ rfl
 have h2 := hi 2 _ rfl
 rw [e2] at h2
 have g2 : List.take (Tryz.prog.cellsOf 4) (List.drop 2 [c0, c1, c2]) = [.bool (hasX k)] := of_bool Tryz.underlying4 h2 d2
 rw [k4] at g2
 simp at g0 g1 g2
 unfold kindCell
 rw [g0, g1, g2]
theorem of_rows3 : ∀ (l : List Nat) (cs : List Value), cs.length = l.length * 3 → (∀ i (h : i < l.length), (cs.drop (i * 3)).take 3 = kindCell l[i]) → cs = l.flatMap kindCell
 | [], cs, h, _ => by
  obtain rfl : cs = [] := List.eq_nil_of_length_eq_zero (by simpa using h)
  rfl
 | a :: l, cs, h, hc => by
  have h0 := hc 0 (by simp)
  simp only [Nat.zero_mul, List.drop_zero, List.getElem_cons_zero] at h0
  have hr := of_rows3 l (cs.drop 3) (by rw [List.length_drop, h, List.length_cons]; omega) (fun i hi => by
   have := hc (i + 1) (by simp; omega)
   rw [List.getElem_cons_succ] at this
   rw [List.drop_drop, ← this]
   congr 2
   omega)
  rw [List.flatMap_cons, ← h0, ← hr, List.take_append_drop]
theorem kinds_data : (Rows.laid_changeling_script_kinds : DataW H) = .agg ((List.range 10).map kindD) := rfl
theorem cells_of_kinds {cs : List Value} {p : List MemPlace} (h : DataW.trod enc Tryz.prog w base sp held fuel 194 cs = some (Rows.laid_changeling_script_kinds, p)) : cs = kindCells := by
 obtain ⟨xs, m, rfl, hx, hl, hxl, hi⟩ := DataW.trod_array Tryz.underlying194 h
 have k3 : Tryz.prog.cellsOf 193 = 3 := by kernel_rfl
 have hl30 : cs.length = 30 := by rw [hl]; kernel_rfl
 have hd : xs.map (·.1) = ((List.range 10).map kindD : List (DataW H)) := by
  have := congrArg Prod.fst hx
  rw [kinds_data] at this
  simpa using this.symm
 refine of_rows3 (List.range 10) cs (by rw [hl30]; rfl) (fun i h10 => ?_)
 have h10' : i < 10 := by simpa using h10
 have h1 := hi i h10'
 rw [k3] at h1
 have h2 : (xs.map (·.1))[i]? = some (kindD (List.range 10)[i]) := by rw [hd, List.getElem?_map, List.getElem?_eq_getElem h10]; rfl
 rw [List.getElem?_map, Option.map_eq_some_iff] at h2
 obtain ⟨⟨d, q⟩, e1, e2⟩ := h2
 rw [e1] at h1
 simp only at e2
 rw [e2] at h1
 exact kind_cells h1
end
structure Tabs (w : World) : Prop where
 kinds : KTab w
 asks : jb.Tab w
theorem cells_at {w : World} {name : String} {g : Nat} {cs : Array Value} (hg : Tryz.prog.globalNamed name = some g) (hv : w.var? Tryz.prog name = some cs) : ∃ t fr, w.heap[g]? = some (.cells cs t fr) := by
 unfold World.var? at hv
 rw [hg] at hv
 simp only [Option.bind_some] at hv
 split at hv
 · rename_i c t' fr hb
   simp only [Option.some.injEq] at hv
   exact ⟨t', fr, by rw [hb, hv]⟩
 · cases hv
theorem tabs_of {W : World} (h : laidMet Tryz.prog [("unicode/utf8.acceptRanges", Rows.laid_unicode_utf8_acceptRanges), ("changeling/job.asks", Rows.laid_changeling_job_asks), ("changeling/script.kinds", Rows.laid_changeling_script_kinds), ("unicode/utf8.first", Rows.laid_unicode_utf8_first)] W) : Tabs W := by
 obtain ⟨ps, ⟨g0, t0, cs0, f0, p0, q0, hg0, ht0, hv0, hd0, ⟨g1, t1, cs1, f1, p1, q1, hg1, ht1, hv1, hd1, ⟨g2, t2, cs2, f2, p2, q2, hg2, ht2, hv2, hd2, -⟩, -⟩, -⟩, -⟩ := h
 obtain rfl := Option.some.inj ((show Tryz.prog.globalNamed "changeling/job.asks" = some 0 by kernel_rfl).symm.trans hg1)
 obtain rfl := Option.some.inj ((show (Tryz.prog.globals[0]?).map (·.type) = some 168 by kernel_rfl).symm.trans ht1)
 obtain rfl := Option.some.inj ((show Tryz.prog.globalNamed "changeling/script.kinds" = some 1 by kernel_rfl).symm.trans hg2)
 obtain rfl := Option.some.inj ((show (Tryz.prog.globals[1]?).map (·.type) = some 194 by kernel_rfl).symm.trans ht2)
 refine ⟨?_, ?_⟩
 · have hc := cells_of_kinds hd2
   obtain ⟨t, fr, h⟩ := cells_at hg2 hv2
   exact ⟨t, fr, by rw [h, ← hc]⟩
 · have hc := cells_of_asks hd1
   obtain ⟨t, fr, h⟩ := cells_at hg1 hv1
   exact ⟨t, fr, by rw [h, ← hc]⟩
end Go.Proofs.YtepdecnegihhhaaGreatDoor.sc
