/- Memory of a disk: what a file's slice holds, what is left alone while one of them grows; files in an array. -/
import Derived.Test.YtbnnbaoimidfnaaRows
import Derived.Test.YtbnnbaoimidfnaaDkP
import Derived.WalkKit
import Derived.BigQuiet
import Derived.Handy
import Derived.Lib.Hide
import Derived.Lib.OthersKept
import Derived.Lib.AppendStr
import Derived.OwnWalk
import Derived.Laws.BytesArg
import Derived.Deep.OwnRows
import Derived.Deep.MidRow
namespace Go.Proofs.Ytbnnbaoimidfnaa.dsk
set_option linter.unusedSimpArgs false
set_option linter.unusedVariables false
open Go.RowKit

/-- w' is w but for the blocks of F and new ones. -/
structure Only (F : Nat → Prop) (w w' : World) : Prop where
  os : w'.os = w.os
  tape : w'.tape = w.tape
  output : w'.output = w.output
  size : w.heap.size ≤ w'.heap.size
  block : ∀ k, k < w.heap.size → ¬ F k → w'.heap[k]? = w.heap[k]?
theorem Only.refl (F : Nat → Prop) (w : World) : Only F w w := ⟨rfl, rfl, rfl, Nat.le_refl _, fun _ _ _ => rfl⟩
theorem Only.mono {F G : Nat → Prop} {w w' : World} (h : Only F w w') (hF : ∀ k, F k → G k) : Only G w w' := ⟨h.os, h.tape, h.output, h.size, fun k hk hn => h.block k hk fun hf => hn (hF k hf)⟩
/-- Two steps; what the second one lets go is what the first one did, or new. -/
theorem Only.trans {F G : Nat → Prop} {a b c : World} (h : Only F a b) (k : Only G b c) (hG : ∀ k, G k → k < a.heap.size → F k) : Only F a c :=
  ⟨k.os.trans h.os, k.tape.trans h.tape, k.output.trans h.output, Nat.le_trans h.size k.size, fun i hi hn => (k.block i (Nat.lt_of_lt_of_le hi h.size) fun hg => hn (hG i hg hi)).trans (h.block i hi hn)⟩
theorem Only.then {F : Nat → Prop} {a b c : World} (h : Only F a b) (k : Only F b c) : Only F a c := h.trans k fun _ h _ => h
theorem Only.of_below {F : Nat → Prop} {w w' : World} (h : Below w.heap.size w w') : Only F w w' := ⟨h.os, h.tape, h.output, h.size, fun k hk _ => h.block k hk⟩
theorem Only.on {F : Nat → Prop} {a b c : World} (h : Only F a b) (k : Below b.heap.size b c) : Only F a c := h.then (.of_below k)
theorem Only.below {F : Nat → Prop} {w w' : World} {B : Nat} (h : Only F w w') (hB : B ≤ w.heap.size) (hF : ∀ k, F k → B ≤ k) : Below B w w' :=
  ⟨h.os, h.tape, h.output, h.size, fun k hk => h.block k (by omega) fun hf => by have := hF k hf; omega⟩
theorem Only.setCell (w : World) (b o : Nat) (v : Value) : Only (· = b) w (w.setCell ⟨b, o, none⟩ v) :=
  ⟨rfl, rfl, rfl, by simp, fun k _ hk => heap_setCell_other w _ k v hk⟩
theorem Only.alloc (F : Nat → Prop) (w : World) (o : Obj) : Only F w (w.alloc o) := ⟨rfl, rfl, rfl, by simp, fun k hk _ => heap_alloc_old w o hk⟩

/-- v is a slice that holds the bytes s. -/
def Has (w : World) (v : Value) (s : ByteArray) : Prop :=
  (v = .slice none 0 0 ∧ s = empty) ∨
  ∃ g cap cur, v = .slice (some ⟨g, 0, none⟩) s.size cap ∧ w.heap[g]? = some (.cells cur 5 (0, 0)) ∧ s.size ≤ cap ∧ cap ≤ maxLen ∧ cap ≤ cur.size ∧ cur.toList.take s.size = Lib.strCells s
theorem Has.nil (w : World) : Has w (.slice none 0 0) empty := .inl ⟨rfl, rfl⟩
theorem Has.frame {w w' : World} {v : Value} {s : ByteArray} (h : Has w v s) (hf : ∀ g, v.ownBlock = some g → w'.heap[g]? = w.heap[g]?) : Has w' v s := by
  rcases h with h | ⟨g, cap, cur, rfl, hg, r⟩
  · exact .inl h
  · exact .inr ⟨g, cap, cur, rfl, (hf g rfl).trans hg, r⟩
theorem Has.lt {w : World} {v : Value} {s : ByteArray} (h : Has w v s) {g : Nat} (hg : v.ownBlock = some g) : g < w.heap.size := by
  rcases h with ⟨rfl, _⟩ | ⟨g', cap, cur, rfl, h', _⟩
  · simp [Value.ownBlock] at hg
  · simp [Value.ownBlock] at hg; subst hg; exact (Array.getElem?_eq_some_iff.1 h').1
/-- Its row is one of bytes. -/
theorem Has.kind {w : World} {v : Value} {s : ByteArray} (h : Has w v s) {g : Nat} (hg : v.ownBlock = some g) : ∃ cur, w.heap[g]? = some (.cells cur 5 (0, 0)) := by
  rcases h with ⟨rfl, _⟩ | ⟨g', cap, cur, rfl, h', _⟩
  · simp [Value.ownBlock] at hg
  · simp [Value.ownBlock] at hg; subst hg; exact ⟨cur, h'⟩
theorem Has.only {F : Nat → Prop} {w w' : World} {v : Value} {s : ByteArray} (h : Has w v s) (ho : Only F w w') (hf : ∀ g, v.ownBlock = some g → ¬ F g) : Has w' v s :=
  h.frame fun g hg => ho.block g (h.lt hg) (hf g hg)
theorem Has.below {w w' : World} {v : Value} {s : ByteArray} (h : Has w v s) (hb : Below w.heap.size w w') : Has w' v s := h.frame fun g hg => hb.block g (h.lt hg)
theorem Has.len {w : World} {v : Value} {s : ByteArray} (h : Has w v s) : ∃ a cap, v = .slice a s.size cap := by
  rcases h with ⟨rfl, rfl⟩ | ⟨g, cap, cur, rfl, _⟩
  · exact ⟨none, 0, rfl⟩
  · exact ⟨_, cap, rfl⟩

theorem Has.len' {w : World} {v : Value} {s : ByteArray} (h : Has w v s) : ∃ a cap n, v = .slice a n cap := by
  obtain ⟨a, cap, e⟩ := h.len
  exact ⟨a, cap, _, e⟩

/-- While v grows at its end, u's bytes are left alone. -/
def Apart (v u : Value) : Prop := ∀ g n c m c', v = .slice (some ⟨g, 0, none⟩) n c → u = .slice (some ⟨g, 0, none⟩) m c' → n = c ∨ m ≤ n
theorem Apart.of_block {v u : Value} (h : ∀ g, v.ownBlock = some g → u.ownBlock ≠ some g) : Apart v u := by
  rintro g n c m c' rfl rfl
  exact absurd rfl (h g rfl)
theorem Apart.self (v : Value) : Apart v v := by
  rintro g n c m c' rfl e
  simp only [Value.slice.injEq] at e
  omega

/-- v has become v', which holds x. -/
structure Put (w w' : World) (v v' : Value) (x : ByteArray) : Prop where
  os : w'.os = w.os
  tape : w'.tape = w.tape
  output : w'.output = w.output
  size : w.heap.size ≤ w'.heap.size
  block : ∀ k, k < w.heap.size → v.ownBlock ≠ some k → w'.heap[k]? = w.heap[k]?
  has : Has w' v' x
  own : ∀ g, v'.ownBlock = some g → v.ownBlock = some g ∨ w.heap.size ≤ g
  keeps : ∀ u y, Has w u y → Apart v u → Has w' u y
  apart : ∀ u y, Has w u y → Apart v u → Apart v' u

theorem strCells_append (s t : ByteArray) : Lib.strCells (s ++ t) = Lib.strCells s ++ Lib.strCells t := by
  simp [Lib.strCells, ByteArray.toList_data_append]
theorem empty_of_size {t : ByteArray} (h : t.size = 0) : t = empty := by
  cases t with
  | mk d => simp [ByteArray.size] at h; subst h; rfl
theorem append_empty' (s : ByteArray) : s ++ empty = s := by
  show s ++ (⟨#[]⟩ : ByteArray) = s
  apply ByteArray.ext; simp [ByteArray.data_append]
theorem empty_append' (s : ByteArray) : empty ++ s = s := by
  show (⟨#[]⟩ : ByteArray) ++ s = s
  apply ByteArray.ext; simp [ByteArray.data_append]

theorem info5 : (Try.prog.info? 5).map (fun i => (i.zero, i.size, i.bytes)) = some (some (.int .u8 0), 1, 1) := by kernel_rfl

theorem take_take_eq {α : Type} {a b : List α} {n m : Nat} (h : a.take n = b.take n) (hm : m ≤ n) : a.take m = b.take m := by
  have : (a.take n).take m = (b.take n).take m := by rw [h]
  rwa [List.take_take, List.take_take, Nat.min_eq_left hm] at this
/-- A new row of bytes. -/
theorem put_new {w w' : World} {v : Value} {x : ByteArray} {cells : Array Value} {cap : Nat} (hw : w' = w.drew.alloc (.cells cells 5)) (h1 : x.size ≤ cap) (h2 : cap ≤ maxLen) (h3 : cap ≤ cells.size) (h4 : cells.toList.take x.size = Lib.strCells x) :
    Put w w' v (.slice (some ⟨w.heap.size, 0, none⟩) x.size cap) x := by
  subst hw
  have hold : ∀ k, k < w.heap.size → (w.drew.alloc (.cells cells 5)).heap[k]? = w.heap[k]? := fun k hk => heap_alloc_old w.drew _ hk
  refine ⟨rfl, rfl, rfl, by simp, fun k hk _ => hold k hk, .inr ⟨_, cap, cells, rfl, heap_alloc_new w.drew _, h1, h2, h3, h4⟩, fun g hg => ?_, fun u y hu _ => hu.frame fun g hg => hold g (hu.lt hg), fun u y hu _ => Apart.of_block fun g hg hg' => ?_⟩
  · simp [Value.ownBlock] at hg; omega
  · simp [Value.ownBlock] at hg; have := hu.lt hg'; omega
theorem put_room {w : World} {g n cap m : Nat} {cur : Array Value} {x t : ByteArray} (hg : w.heap[g]? = some (.cells cur 5 (0, 0))) (hn : n + t.size = m) (hx : x.size = m) (hc : m ≤ cap) (hm : cap ≤ maxLen) (hs : cap ≤ cur.size)
    (hl : cur.toList.take n ++ Lib.strCells t = Lib.strCells x) :
    Put w (w.setRow g (cur.toList.take n ++ Lib.strCells t ++ cur.toList.drop (n + t.size)).toArray) (.slice (some ⟨g, 0, none⟩) n cap) (.slice (some ⟨g, 0, none⟩) m cap) x := by
  subst hn
  have hnl : n ≤ cur.toList.length := by rw [Array.length_toList]; omega
  have hlen : (cur.toList.take n ++ Lib.strCells t ++ cur.toList.drop (n + t.size)).length = cur.size := by
    rw [List.length_append, List.length_append, List.length_take, List.length_drop, Lib.strCells_length, Array.length_toList]
    rw [Array.length_toList] at hnl; omega
  have hh := setRow_heap w g cur (cur.toList.take n ++ Lib.strCells t ++ cur.toList.drop (n + t.size)).toArray 5 (0, 0) hg
  refine ⟨rfl, rfl, rfl, by simp, fun k _ hk => setRow_other w g k _ fun e => hk (by simp [Value.ownBlock, e]), .inr ⟨g, cap, _, by rw [hx], hh, by omega, hm, by rw [List.size_toArray, hlen]; exact hs, ?_⟩, fun k hk => .inl hk, fun u y hu ha => ?_, fun u y hu ha => ?_⟩
  · show List.take x.size (cur.toList.take n ++ Lib.strCells t ++ cur.toList.drop (n + t.size)) = _
    have e : x.size = (cur.toList.take n ++ Lib.strCells t).length := by rw [List.length_append, List.length_take, Lib.strCells_length, Nat.min_eq_left hnl, hx]
    rw [e, List.take_left, hl]
  · rcases hu with hu | ⟨g', c', cur', rfl, hg', r1, r2, r3, r4⟩
    · exact .inl hu
    · by_cases e : g' = g
      · subst e
        obtain rfl : cur' = cur := by rw [hg] at hg'; simpa using hg'.symm
        refine .inr ⟨g', c', _, rfl, hh, r1, r2, by rw [List.size_toArray, hlen]; exact r3, ?_⟩
        rw [← r4]
        show List.take y.size (cur'.toList.take n ++ Lib.strCells t ++ cur'.toList.drop (n + t.size)) = _
        rcases ha g' n cap y.size c' rfl rfl with e | e
        · have ht : t.size = 0 := by omega
          have : Lib.strCells t = [] := List.eq_nil_of_length_eq_zero (by rw [Lib.strCells_length]; exact ht)
          rw [this, List.append_nil, ht, Nat.add_zero, List.take_append_drop]
        · rw [List.append_assoc, List.take_append_of_le_length (by rw [List.length_take]; omega), List.take_take, Nat.min_eq_left e]
      · exact .inr ⟨g', c', cur', rfl, (setRow_other w g g' _ e).trans hg', r1, r2, r3, r4⟩
  · rintro g' n' c m' c' e1 e2
    simp only [Value.slice.injEq, Option.some.injEq, Addr.mk.injEq, and_true] at e1
    obtain ⟨rfl, rfl, rfl⟩ := e1
    rcases ha g n cap m' c' rfl e2 with e | e
    · left; omega
    · right; omega
/-- A text's bytes go behind what a slice holds. -/
theorem append_has {w : World} {v : Value} {s : ByteArray} (h : Has w v s) (t : ByteArray) (ty : TypeId) (hsz : s.size + t.size ≤ 1099511627776) :
    ∃ v' w', (Builtin.append_ #[44, 9] ty #[v, .string t]).run Try.prog w = .ok v' w' ∧ Put w w' v v' (s ++ t) := by
  obtain ⟨i0, hi, hz0, hz1, hz2⟩ := info_parts info5
  rcases h with ⟨rfl, rfl⟩ | ⟨g, cap, cur, rfl, hg, h1, h2, h3, h4⟩
  · by_cases ht : t.size = 0
    · have hf := Lib.run_firstCells_string (P := Try.prog) w 1 t
      have hn : Lib.strCells t = [] := List.eq_nil_of_length_eq_zero (by rw [Lib.strCells_length]; exact ht)
      rw [ht, hn] at hf
      refine ⟨.slice none 0 0, w, ?_, ⟨rfl, rfl, rfl, Nat.le_refl _, fun _ _ _ => rfl, by rw [empty_of_size ht, append_empty']; exact .nil w, fun g hg => by simp [Value.ownBlock] at hg, fun _ _ h _ => h, fun _ _ _ h => h⟩⟩
      simp [Builtin.append_, run_underlying Try.underlying44, run_underlying Try.underlying9, sizeOf, typeInfo, hi, hz1, Builtin.lenOf, ht, hf]
    · have hr := run_append_nil_string (P := Try.prog) w 44 9 ty 5 i0 (.int .u8 0) Try.underlying44 Try.underlying9 hi hz0 t (by omega) (by have : empty.size = 0 := rfl; omega) (by rw [hz2]; have : empty.size = 0 := rfl; omega)
      have e1 : (t.data.map fun b => Value.int .u8 b.toNat) = (Lib.strCells t).toArray := by
        apply Array.ext'; simp [Lib.strCells]
      rw [e1] at hr
      refine ⟨_, _, hr, ?_⟩
      rw [empty_append']
      refine put_new rfl (grownCap_ge w t.size 0 5) (grownCap_le_maxLen w t.size 0 5 (by unfold maxLen; omega)) ?_ ?_
      · have hz : (Value.int IntKind.u8 0).cells.size = 1 := rfl
        have := grownCap_ge w t.size 0 5
        rw [Array.size_append, List.size_toArray, size_zeroCells, hz, Lib.strCells_length]; omega
      · rw [Array.toList_append]
        show List.take t.size (Lib.strCells t ++ _) = _
        rw [← Lib.strCells_length t, List.take_left]
  · by_cases hroom : s.size + t.size ≤ cap
    · have hr := Lib.run_append_room_string (P := Try.prog) w 44 9 ty 5 i0 Try.underlying44 Try.underlying9 hi hz1 g s.size cap cur hg t hroom (by omega)
      refine ⟨_, _, hr, put_room hg rfl (by rw [ByteArray.size_append]) hroom h2 h3 ?_⟩
      rw [h4, strCells_append]
    · have holds : ∀ j u, (Lib.strCells s)[j]? = some u → w.cell? ((⟨g, 0, none⟩ : Addr).add j) = some u := by
        intro j u hu
        have hadd : (⟨g, 0, none⟩ : Addr).add j = ⟨g, j, none⟩ := by unfold Addr.add; split <;> simp_all
        rw [hadd, cell_of_row w g j cur 5 (0, 0) hg]
        rw [← h4, List.getElem?_take] at hu
        split at hu
        · simpa using hu
        · cases hu
      have hr := Lib.run_append_grow_string (P := Try.prog) w 44 9 ty 5 i0 (.int .u8 0) Try.underlying44 Try.underlying9 hi hz0 ⟨g, 0, none⟩ s.size cap (Lib.strCells s) (by rw [hz1, Lib.strCells_length, Nat.mul_one]) holds t (by omega) (by omega)
        (by rw [hz2]; exact growslice_fits (by omega) (by omega))
      refine ⟨_, _, hr, ?_⟩
      have hx : s.size + t.size = (s ++ t).size := by rw [ByteArray.size_append]
      have hge := grownCap_ge w (s.size + t.size) cap 5
      have hle := grownCap_le_maxLen w (s.size + t.size) cap 5 (by unfold maxLen; omega)
      rw [hx] at hge hle ⊢
      refine put_new rfl hge hle ?_ ?_
      · have hz : (Value.int IntKind.u8 0).cells.size = 1 := rfl
        rw [Array.size_append, Array.size_append, List.size_toArray, List.size_toArray, size_zeroCells, hz, Lib.strCells_length, Lib.strCells_length]
        omega
      · rw [Array.toList_append, Array.toList_append]
        show List.take (s ++ t).size (Lib.strCells s ++ Lib.strCells t ++ _) = _
        rw [← strCells_append, ← Lib.strCells_length (s ++ t), List.take_left]
/-- A slice is cut, without room behind it. -/
theorem cut_has {w : World} {v : Value} {s : ByteArray} {a : Option Addr} {n cap k : Nat} (h : Has w v s) (hv : v = .slice a n cap) (hk : k ≤ s.size) : Put w w v (.slice a k k) (s.extract 0 k) := by
  have hz := extract_size hk
  refine ⟨rfl, rfl, rfl, Nat.le_refl _, fun _ _ _ => rfl, ?_, ?_, fun _ _ h _ => h, fun u y _ _ => ?_⟩
  · rcases h with ⟨rfl, rfl⟩ | ⟨g, cap', cur, rfl, hg, h1, h2, h3, h4⟩
    · have : empty.size = 0 := rfl
      simp only [Value.slice.injEq] at hv
      obtain rfl : k = 0 := by omega
      exact .inl ⟨by rw [← hv.1], empty_of_size hz⟩
    · simp only [Value.slice.injEq] at hv
      refine .inr ⟨g, k, cur, by rw [← hv.1, hz], hg, by omega, by omega, by omega, ?_⟩
      rw [hz]
      have e : (Lib.strCells s).take k = Lib.strCells (s.extract 0 k) := by
        simp [Lib.strCells, ByteArray.data_extract]
      rw [← e, ← h4, List.take_take, Nat.min_eq_left hk]
  · subst hv
    intro g hg
    left; cases a <;> simp only [Value.ownBlock] at hg ⊢ <;> exact hg
  · rintro g n' c m c' e _
    simp only [Value.slice.injEq] at e
    left; omega

/-! ### Files in an array -/
structure Fls (w : World) (vs : Nat → Value) (f : Files) : Prop where
  has : ∀ i, i < 16 → Has w (vs i) (f i)
  dist : ∀ i j, i < 16 → j < 16 → i ≠ j → ∀ g, (vs i).ownBlock = some g → (vs j).ownBlock ≠ some g
def Crs (vs us : Nat → Value) : Prop := ∀ i j, i < 16 → j < 16 → Apart (vs i) (us j)

theorem Fls.nil (w : World) : Fls w (fun _ => .slice none 0 0) (fun _ => empty) := ⟨fun _ _ => .nil w, fun _ _ _ _ _ g h => by simp [Value.ownBlock] at h⟩
theorem Fls.crs {w : World} {vs : Nat → Value} {f : Files} (h : Fls w vs f) : Crs vs vs := fun i j hi hj => by
  by_cases e : i = j
  · subst e; exact Apart.self _
  · exact Apart.of_block (h.dist i j hi hj e)
theorem Fls.frame {w w' : World} {vs : Nat → Value} {f : Files} (h : Fls w vs f) (hf : ∀ i, i < 16 → ∀ g, (vs i).ownBlock = some g → w'.heap[g]? = w.heap[g]?) : Fls w' vs f :=
  ⟨fun i hi => (h.has i hi).frame (hf i hi), h.dist⟩
theorem Fls.below {w w' : World} {vs : Nat → Value} {f : Files} (h : Fls w vs f) (hb : Below w.heap.size w w') : Fls w' vs f := h.frame fun i hi g hg => hb.block g ((h.has i hi).lt hg)
theorem Fls.congr {w : World} {vs vs' : Nat → Value} {f f' : Files} (h : Fls w vs f) (e : ∀ i, i < 16 → vs i = vs' i) (e' : ∀ i, i < 16 → f i = f' i) : Fls w vs' f' :=
  ⟨fun i hi => by rw [← e i hi, ← e' i hi]; exact h.has i hi, fun i j hi hj hne => by rw [← e i hi, ← e j hj]; exact h.dist i j hi hj hne⟩
/-- Another kind of block may be written. -/
theorem Fls.setCell {w : World} {vs : Nat → Value} {f : Files} (h : Fls w vs f) {b o n : Nat} {T : TypeId} {F : Nat → Value} (hr : w.rowIs b T n F) (hT : T ≠ 5) (v : Value) : Fls (w.setCell ⟨b, o, none⟩ v) vs f :=
  h.frame fun i hi g hg => heap_setCell_other w _ g v fun e => by
    obtain ⟨cur, hc⟩ := (h.has i hi).kind hg
    obtain ⟨c, hc', _⟩ := hr
    have e' : g = b := e
    rw [e', hc'] at hc
    simp only [Option.some.injEq, Obj.cells.injEq] at hc
    exact hT hc.2.1
theorem Fls.put {w w' : World} {vs : Nat → Value} {f : Files} {i : Nat} {v' : Value} {x : ByteArray} (h : Fls w vs f) (hi : i < 16) (p : Put w w' (vs i) v' x) : Fls w' (upd vs i v') (upd f i x) := by
  refine ⟨fun j hj => ?_, fun j k hj hk hne g hg => ?_⟩
  · by_cases e : j = i
    · subst e; rw [upd_same, upd_same]; exact p.has
    · rw [upd_other _ _ e, upd_other _ _ e]
      exact p.keeps _ _ (h.has j hj) (Apart.of_block (h.dist i j hi hj (Ne.symm e)))
  · by_cases e : j = i
    · subst e
      rw [upd_same] at hg
      rw [upd_other _ _ (Ne.symm hne)]
      intro hk'
      rcases p.own g hg with h' | h'
      · exact h.dist j k hj hk hne g h' hk'
      · have := (h.has k hk).lt hk'; omega
    · rw [upd_other _ _ e] at hg
      by_cases e' : k = i
      · subst e'
        rw [upd_same]
        intro hk'
        rcases p.own g hk' with h' | h'
        · exact h.dist j k hj hk hne g hg h'
        · have := (h.has j hj).lt hg; omega
      · rw [upd_other _ _ e']
        exact h.dist j k hj hk hne g hg
theorem Fls.other {w w' : World} {us : Nat → Value} {fs : Files} {v v' : Value} {x : ByteArray} (h : Fls w us fs) (p : Put w w' v v' x) (ha : ∀ j, j < 16 → Apart v (us j)) : Fls w' us fs :=
  ⟨fun j hj => p.keeps _ _ (h.has j hj) (ha j hj), h.dist⟩
theorem Crs.put {w w' : World} {vs us : Nat → Value} {fs : Files} {i : Nat} {v' : Value} {x : ByteArray} (h : Crs vs us) (hu : Fls w us fs) (hi : i < 16) (p : Put w w' (vs i) v' x) : Crs (upd vs i v') us := fun j k hj hk => by
  by_cases e : j = i
  · subst e; rw [upd_same]; exact p.apart _ _ (hu.has k hk) (h j k hi hk)
  · rw [upd_other _ _ e]; exact h j k hj hk
theorem Fls.move {w : World} {vs : Nat → Value} {f : Files} {a b : Nat} (h : Fls w vs f) (ha : a < 16) (hb : b < 16) (hne : a ≠ b) : Fls w (upd (upd vs b (vs a)) a (.slice none 0 0)) (upd (upd f b (f a)) a empty) := by
  have key : ∀ j, j < 16 → (j = a ∧ upd (upd vs b (vs a)) a (.slice none 0 0) j = .slice none 0 0) ∨ (j ≠ a ∧ j = b ∧ upd (upd vs b (vs a)) a (.slice none 0 0) j = vs a) ∨ (j ≠ a ∧ j ≠ b ∧ upd (upd vs b (vs a)) a (.slice none 0 0) j = vs j) := by
    intro j _
    by_cases e : j = a
    · subst e; exact .inl ⟨rfl, upd_same _ _ _⟩
    · by_cases e' : j = b
      · subst e'; exact .inr (.inl ⟨e, rfl, by rw [upd_other _ _ e, upd_same]⟩)
      · exact .inr (.inr ⟨e, e', by rw [upd_other _ _ e, upd_other _ _ e']⟩)
  refine ⟨fun j hj => ?_, fun j k hj hk hjk g hg => ?_⟩
  · by_cases e : j = a
    · subst e; rw [upd_same, upd_same]; exact .nil w
    · by_cases e' : j = b
      · subst e'; rw [upd_other _ _ e, upd_other _ _ e, upd_same, upd_same]; exact h.has a ha
      · rw [upd_other _ _ e, upd_other _ _ e, upd_other _ _ e', upd_other _ _ e']; exact h.has j hj
  · rcases key j hj with ⟨_, h1⟩ | ⟨j1, j2, h1⟩ | ⟨j1, j2, h1⟩ <;> rw [h1] at hg
    · simp [Value.ownBlock] at hg
    · rcases key k hk with ⟨_, h2⟩ | ⟨k1, k2, h2⟩ | ⟨k1, k2, h2⟩ <;> rw [h2]
      · simp [Value.ownBlock]
      · exact absurd (j2.trans k2.symm) hjk
      · exact h.dist a k ha hk (Ne.symm k1) g hg
    · rcases key k hk with ⟨_, h2⟩ | ⟨k1, k2, h2⟩ | ⟨k1, k2, h2⟩ <;> rw [h2]
      · simp [Value.ownBlock]
      · exact h.dist j a hj ha j1 g hg
      · exact h.dist j k hj hk hjk g hg
theorem Crs.move {vs us : Nat → Value} {a b : Nat} (h : Crs vs us) (ha : a < 16) : Crs (upd (upd vs b (vs a)) a (.slice none 0 0)) us := fun j k hj hk => by
  by_cases e : j = a
  · subst e; rw [upd_same]; rintro g n c m c' e _; simp at e
  · rw [upd_other _ _ e]
    by_cases e' : j = b
    · subst e'; rw [upd_same]; exact h a k ha hk
    · rw [upd_other _ _ e']; exact h j k hj hk
end Go.Proofs.Ytbnnbaoimidfnaa.dsk
