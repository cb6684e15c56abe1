/- What sum.Of answers: of every row of parts. -/
import Derived.Test.YtbnnbaoimidfnaaSmA
import Derived.Deep.LoopGhost
import Derived.Below
import Derived.OwnWalk
namespace Go.Proofs.Ytbnnbaoimidfnaa.sum
open Go.RowKit

/-- All parts' bytes. -/
def fl (l : List ByteArray) : List UInt8 := l.flatMap bl
theorem fl_nil : fl [] = [] := rfl
theorem fl_cons (s : ByteArray) (l : List ByteArray) : fl (s :: l) = bl s ++ fl l := rfl
theorem fl_drop {l : List ByteArray} {k : Nat} {x : ByteArray} (hk : k < l.length) (hx : l.getD k ByteArray.empty = x) : fl (l.drop k) = bl x ++ fl (l.drop (k + 1)) := by
  rw [List.getD_eq_getElem?_getD, List.getElem?_eq_getElem hk] at hx
  rw [List.drop_eq_getElem_cons hk, fl_cons]
  simp only [Option.getD_some] at hx
  rw [hx]

/-- A slice, nil or not, whose texts are l, below block B. -/
def Rd (w : World) (B : Nat) (a : Option Addr) (l : List ByteArray) : Prop :=
  l ≠ [] → ∃ b o, a = some ⟨b, o, none⟩ ∧ b < B ∧ ∀ j, j < l.length → w.cell? ⟨b, o + j, none⟩ = some (.string (l.getD j ByteArray.empty))
theorem Rd.below {w w' : World} {B : Nat} {a : Option Addr} {l : List ByteArray} (h : Rd w B a l) (hb : Below B w w') : Rd w' B a l := fun hl => by
  obtain ⟨b, o, e, hlt, hc⟩ := h hl
  exact ⟨b, o, e, hlt, fun j hj => (hb.cell (p := ⟨b, o + j, none⟩) hlt).trans (hc j hj)⟩
theorem Rd.more {w : World} {B B' : Nat} {a : Option Addr} {l : List ByteArray} (h : Rd w B a l) (hB : B ≤ B') : Rd w B' a l := fun hl => by
  obtain ⟨b, o, e, hlt, hc⟩ := h hl
  exact ⟨b, o, e, by omega, hc⟩
theorem Rd.on {w w' : World} {a : Option Addr} {l : List ByteArray} (h : Rd w w.heap.size a l) (hb : Below w.heap.size w w') : Rd w' w'.heap.size a l := (h.below hb).more hb.size

def SumPost (l : List ByteArray) (w : World) (e : Ending) (w' : World) : Prop := e = .returned (.int .u32 (sm (fl l))) ∧ Below w.heap.size w w'
/-- What holds at each round's head. -/
def OfRel (l : List ByteArray) (w wr : World) (v3 v7 : Value) (g : Nat) : Prop :=
  ∃ k x : Nat, k + g = l.length ∧ v7 = .int .i64 k ∧ v3 = .int .u32 x ∧ x < 4294967296 ∧ more x (fl (l.drop k)) = sm (fl l) ∧ Below w.heap.size w wr
theorem of_end {l : List ByteArray} {k x : Nat} (hk : k = l.length) (h : more x (fl (l.drop k)) = sm (fl l)) : x = sm (fl l) := by
  rw [hk, List.drop_length, fl_nil, more_nil] at h
  exact h
theorem of_more {l : List ByteArray} {k x : Nat} {s : ByteArray} (hk : k < l.length) (hx : l.getD k ByteArray.empty = s) (hlt : x < 4294967296) (h : more x (fl (l.drop k)) = sm (fl l)) : more (more x (bl s)) (fl (l.drop (k + 1))) = sm (fl l) := by
  rw [more_append hlt, ← fl_drop hk hx]
  exact h

set_option maxHeartbeats 800000 in
set_option maxRecDepth 1000000 in
theorem of_any (l : List ByteArray) (a : Option Addr) (cap : Nat) (w : World) (hr : Rd w w.heap.size a l) (hs : ∀ s ∈ l, s.size ≤ 9223372036854775807) (hl : l.length ≤ 9223372036854775807) :
    Calls Try.prog 41 #[.slice a l.length cap] w (SumPost l w) := by
  have HR := Lib.hid hr; have HS := Lib.hid hs
  clear hr hs
  go_enter Try.func41, Try.ntmps41
  go_wp2
  go_loopg [3, 7] l.length (fun g v3 v7 wr => OfRel l w wr v3 v7 g)
  case atStart => exact ⟨0, 1, by omega, rfl, rfl, by omega, rfl, Below.refl _ _⟩
  case round =>
    obtain ⟨k, x, hkg, rfl, rfl, hx, hm, hb⟩ := hrel
    have HM := Lib.hid hm; have HB := Lib.hid hb
    clear hm hb
    cases gk with
    | zero =>
      have hkz : ¬ ((k : Int) < (l.length : Int)) := by omega
      have HE := Lib.hid (of_end (by omega) HM.out)
      go_wp2
      go_ret
      exact ⟨by rw [← HE.out]; rfl, HB.out⟩
    | succ g =>
      have hkz : (k : Int) < (l.length : Int) := by omega
      obtain ⟨b, o, rfl, hlt, hc⟩ := HR.out (by intro e; rw [e] at hkz; simp at hkz; omega)
      have hck := (HB.out.cell (p := ⟨b, o + k, none⟩) hlt).trans (hc k (by omega))
      have hfk : (l.getD k ByteArray.empty).size ≤ 9223372036854775807 := HS.out _ (by rw [List.getD_eq_getElem?_getD, List.getElem?_eq_getElem (by omega)]; simp)
      obtain ⟨s, es⟩ : ∃ s, l.getD k ByteArray.empty = s := ⟨_, rfl⟩
      have HN := Lib.hid (of_more (by omega) es hx HM.out)
      have HL := Lib.hid (more_lt hx (bl s))
      rw [es] at hck hfk
      clear hc es
      go_wp2_with (go_at_call 44; ((with_reducible refine (more_any x s _ hx hfk).mono ?_); rintro e w' ⟨rfl, rfl⟩))
      go_roundg g
      case measure => omega
      case rel => exact ⟨k + 1, more x (bl s), by omega, by go_num, rfl, HL.out, HN.out, HB.out⟩
theorem rd_one (w : World) (x : ByteArray) : Rd (w.alloc (.cells #[.string x] 9)) (w.alloc (.cells #[.string x] 9)).heap.size (some ⟨w.heap.size, 0, none⟩) [x] := fun _ =>
  ⟨w.heap.size, 0, rfl, by simp, fun j hj => by
    have hh : (w.alloc (.cells #[.string x] 9)).heap[w.heap.size]? = some (.cells #[.string x] 9 (0, 0)) := heap_alloc_new w _
    rw [cell_of_row _ w.heap.size (0 + j) _ _ _ hh]
    match j, hj with
    | 0, _ => rfl⟩
theorem rd_two (w : World) (x y : ByteArray) : Rd (w.alloc (.cells #[.string x, .string y] 9)) (w.alloc (.cells #[.string x, .string y] 9)).heap.size (some ⟨w.heap.size, 0, none⟩) [x, y] := fun _ =>
  ⟨w.heap.size, 0, rfl, by simp, fun j hj => by
    have hh : (w.alloc (.cells #[.string x, .string y] 9)).heap[w.heap.size]? = some (.cells #[.string x, .string y] 9 (0, 0)) := heap_alloc_new w _
    rw [cell_of_row _ w.heap.size (0 + j) _ _ _ hh]
    match j, hj with
    | 0, _ => rfl
    | 1, _ => rfl⟩
theorem of_one (x : ByteArray) (w : World) (hx : x.size ≤ 9223372036854775807) :
    Calls Try.prog 41 #[.slice (some ⟨w.heap.size, 0, none⟩) 1 1] (w.alloc (.cells #[.string x] 9)) fun e w' => e = .returned (.int .u32 (sm (bl x))) ∧ Below w.heap.size w w' := by
  refine (of_any [x] _ 1 _ (rd_one w x) (fun s hs => ?_) (by simp)).mono ?_
  · simp only [List.mem_singleton] at hs
    subst hs; exact hx
  · rintro e w' ⟨rfl, hb⟩
    refine ⟨?_, ((Below.refl _ w).alloc (Nat.le_refl _) _).trans (hb.mono (by simp))⟩
    rw [fl_cons, fl_nil, List.append_nil]
theorem of_two (x y : ByteArray) (w : World) (hx : x.size ≤ 9223372036854775807) (hy : y.size ≤ 9223372036854775807) :
    Calls Try.prog 41 #[.slice (some ⟨w.heap.size, 0, none⟩) 2 2] (w.alloc (.cells #[.string x, .string y] 9)) fun e w' => e = .returned (.int .u32 (sm (bl x ++ bl y))) ∧ Below w.heap.size w w' := by
  refine (of_any [x, y] _ 2 _ (rd_two w x y) (fun s hs => ?_) (by simp)).mono ?_
  · simp only [List.mem_cons, List.not_mem_nil, or_false] at hs
    rcases hs with rfl | rfl
    · exact hx
    · exact hy
  · rintro e w' ⟨rfl, hb⟩
    refine ⟨?_, ((Below.refl _ w).alloc (Nat.le_refl _) _).trans (hb.mono (by simp))⟩
    rw [fl_cons, fl_cons, fl_nil, List.append_nil]
theorem of_none (w : World) : Calls Try.prog 41 #[.slice none 0 0] w fun e w' => e = .returned (.int .u32 1) ∧ Below w.heap.size w w' :=
  (of_any [] none 0 w (fun h => absurd rfl h) (by simp) (by simp)).mono fun _ _ h => h
end Go.Proofs.Ytbnnbaoimidfnaa.sum
