/- The first node of a name; who reads; how many make several records of one. -/
import Derived.Test.YtjmfneljgogohaaDoorJbH
namespace Go.Proofs.YtjmfneljgogohaaDoor.jb
set_option linter.unusedSimpArgs false
set_option linter.unusedVariables false
open Go.RowKit nam exp

theorem toList_iff {a b : ByteArray} : a.toList = b.toList ↔ a = b := by
  constructor
  · intro h
    rw [ByteArray.toList_eq, ByteArray.toList_eq] at h
    exact ByteArray.ext (by have := congrArg List.toArray h; simpa using this)
  · intro h; rw [h]
theorem own_lower {w : World} {base base' : Nat} {e : TypeId} {size : Nat} {v : Value} {n : Nat} {xs : List Value} (h : w.ownsRow base e size v n xs) (hb : base' ≤ base) : w.ownsRow base' e size v n xs := by
  obtain ⟨h1, h2 | ⟨g, cap, cur, a1, a2, a3⟩⟩ := h
  · exact ⟨h1, .inl h2⟩
  · exact ⟨h1, .inr ⟨g, cap, cur, a1, by omega, a3⟩⟩
theorem nd_box {w : World} {nd : Nd} {vi va : Value} : Box7 (w.alloc (.cells #[.string nd.uid, .int .u8 (nd.kind : Int), vi, .int .u8 (nd.x.op : Int), .int .i64 nd.x.n, va, .int .i64 nd.n] 30)) w.heap.size (.string nd.uid) (.int .u8 (nd.kind : Int)) vi (.int .u8 (nd.x.op : Int)) (.int .i64 nd.x.n) va (.int .i64 nd.n) := box7 rfl
theorem named_at {w : World} {u : Value} {nd : Nd} {b : Nat} {uid : ByteArray} (c : w.cell? ⟨b, 0, none⟩ = some (.string uid)) (h : NodeIs w u nd) :
    Calls Tryd.prog 41 #[u, .pointer (some ⟨b, 0, none⟩)] w fun e w' => e = .returned (.bool (named uid nd)) ∧ Below w.heap.size w w' := by
  obtain ⟨vi, va, rfl, _, _⟩ := h
  obtain ⟨d0, d1, d2, d3, d4, d5, d6⟩ := @nd_box w nd vi va
  have c1 := cell_on c (below_made w (.cells #[.string nd.uid, .int .u8 (nd.kind : Int), vi, .int .u8 (nd.x.op : Int), .int .i64 nd.x.n, va, .int .i64 nd.n] 30))
  have HB : Hid (∀ o, Below w.heap.size w (w.alloc o)) := Lib.hid (fun o => below_made w o)
  unfold nodeV
  go_enter Tryd.func41, Tryd.ntmps41
  go_wp2_with fail
  go_ret
  exact ⟨ret_bool (by unfold named; rw [Bool.eq_iff_iff]; simp [toList_iff]), HB.out _⟩
theorem reads_at {w : World} {u : Value} {nd : Nd} {b : Nat} {p : Int} (c : w.cell? ⟨b, 0, none⟩ = some (.int .i64 p)) (h : NodeIs w u nd) (hl : nd.ins.length ≤ 1000000) :
    Calls Tryd.prog 38 #[u, .pointer (some ⟨b, 0, none⟩)] w fun e w' => e = .returned (.bool (reads p nd)) ∧ Below w.heap.size w w' := by
  obtain ⟨vi, va, rfl, hi, _⟩ := h
  obtain ⟨d0, d1, d2, d3, d4, d5, d6⟩ := @nd_box w nd vi va
  have c1 := cell_on c (below_made w (.cells #[.string nd.uid, .int .u8 (nd.kind : Int), vi, .int .u8 (nd.x.op : Int), .int .i64 nd.x.n, va, .int .i64 nd.n] 30))
  have HB : Hid (∀ o, Below w.heap.size w (w.alloc o)) := Lib.hid (fun o => below_made w o)
  have HC : Hid (∀ o, Calls Tryd.prog 39 #[vi, .int .i64 p] (w.alloc o) fun e w' => e = .returned (.bool (decide (p ∈ nd.ins))) ∧ w' = w.alloc o) := Lib.hid (fun o => contains_any (hi.on (below_made w o)) hl p)
  have HR : Hid (reads p nd = decide (p ∈ nd.ins)) := Lib.hid rfl
  rw [HR.out]
  clear hi hl
  unfold nodeV
  go_enter Tryd.func38, Tryd.ntmps38
  go_wp2_with fail
  refine (HC.out _).mono ?_
  rintro e w1 ⟨rfl, rfl⟩
  go_wp2_with fail
  go_ret
  exact ⟨rfl, HB.out _⟩
theorem flat_at {w : World} {u : Value} {nd : Nd} (h : NodeIs w u nd) :
    Calls Tryd.prog 45 #[u] w fun e w' => e = .returned (.bool (flat nd)) ∧ Below w.heap.size w w' := by
  obtain ⟨vi, va, rfl, hi, _⟩ := h
  obtain ⟨d0, d1, d2, d3, d4, d5, d6⟩ := @nd_box w nd vi va
  have HB : Hid (∀ o, Below w.heap.size w (w.alloc o)) := Lib.hid (fun o => below_made w o)
  unfold nodeV
  go_enter Tryd.func45, Tryd.ntmps45
  go_wp2_with fail
  go_ret
  exact ⟨ret_bool (by unfold flat; rw [Bool.eq_iff_iff]; simp; omega), HB.out _⟩
theorem named_any {w : World} {v : Value} {l : List Nd} (uid : ByteArray) (h : Nodes w v l) (hl : l.length ≤ 1000000) :
    Calls Tryd.prog 23 #[v, .string uid] w fun e w' => e = .returned (.int .i64 (findI l uid)) ∧ Below w.heap.size w w' := by
  obtain ⟨W, hW⟩ : ∃ W, w.alloc (.cells #[.string uid] 9) = W := ⟨_, rfl⟩
  have hwb : Below w.heap.size w W := by rw [← hW]; exact below_made _ _
  have c := box1 hW
  have HF := Lib.hid (first_node (f := named uid) (h.on hwb) hl (enters_of Tryd.func41 (by kernel_rfl) rfl) (cp := #[.pointer (some ⟨w.heap.size, 0, none⟩)]) (fun i hi w' u hu hb => named_at (cell_on c hb) hu))
  have HR : Hid (findI l uid = firstI (named uid) l 0) := Lib.hid rfl
  have HB := Lib.hid hwb
  rw [HR.out]
  clear h hwb
  go_enter Tryd.func23, Tryd.ntmps23
  go_wp2_with fail
  refine HF.out.mono ?_
  rintro e w1 ⟨rfl, hb1⟩
  have HX := Lib.hid (HB.out.trans (hb1.mono HB.out.size)); clear hb1
  go_wp2_with fail
  go_ret
  exact ⟨rfl, HX.out⟩
/-- A post that ends in a made row, led back over what was made ahead. -/
theorem PlPost.back {l : List Int} {w W : World} (hb : Below w.heap.size w W) {e : Ending} {w' : World} (h : PlPost l W e w') : PlPost l w e w' := by
  obtain ⟨v, h1, h2, h3⟩ := h
  exact ⟨v, h1, own_lower h2 hb.size, hb.trans (h3.mono hb.size)⟩
theorem readers_any {w : World} {v : Value} {l : List Nd} (p : Int) (h : Nodes w v l) (hl : l.length ≤ 1000000) (hi : ∀ nd ∈ l, nd.ins.length ≤ 1000000) :
    Calls Tryd.prog 22 #[v, .int .i64 p] w (PlPost (readersI l p) w) := by
  obtain ⟨W, hW⟩ : ∃ W, w.alloc (.cells #[.int .i64 p] 3) = W := ⟨_, rfl⟩
  have hwb : Below w.heap.size w W := by rw [← hW]; exact below_made _ _
  have c := box1 hW
  have HF := Lib.hid (places_node (f := reads p) (h.on hwb) hl (enters_of Tryd.func38 (by kernel_rfl) rfl) (cp := #[.pointer (some ⟨w.heap.size, 0, none⟩)]) (fun i h' w' u hu hb => reads_at (cell_on c hb) hu (hi _ (List.getElem_mem h'))))
  have HB := Lib.hid hwb
  clear h hwb hi
  go_enter Tryd.func22, Tryd.ntmps22
  go_wp2_with fail
  refine HF.out.mono ?_
  rintro e w1 hp
  obtain ⟨u, rfl, h2, h3⟩ := PlPost.back HB.out hp
  have HX : Hid (PlPost (readersI l p) w (.returned u) w1) := Lib.hid ⟨u, rfl, h2, h3⟩
  clear hp h2 h3
  go_wp2_with fail
  go_ret
  exact HX.out
theorem flats_any {w : World} {v : Value} {l : List Nd} (h : Nodes w v l) (hl : l.length ≤ 1000000) :
    Calls Tryd.prog 36 #[v] w fun e w' => e = .returned (.int .i64 (flatsN l : Int)) ∧ Below w.heap.size w w' := by
  have HF := Lib.hid (places_node (f := flat) h hl (enters_of Tryd.func45 (by kernel_rfl) rfl) (cp := #[]) (fun i h' w' u hu hb => flat_at hu))
  have HR : Hid ((placesI flat l 0).length = flatsN l) := Lib.hid placesI_len
  clear h hl
  go_enter Tryd.func36, Tryd.ntmps36
  go_wp2_with fail
  refine HF.out.mono ?_
  rintro e w1 ⟨u, rfl, h2, h3⟩
  rw [HR.out] at h2
  obtain ⟨a, cap, rfl, _, _⟩ := own_slice h2
  have HX := Lib.hid h3; clear h2 h3
  go_wp2_with fail
  go_ret
  exact ⟨rfl, HX.out⟩
end Go.Proofs.YtjmfneljgogohaaDoor.jb
