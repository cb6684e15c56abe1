/- What choice answers. -/
import Derived.Test.YteicfdgadloheaaExZb
namespace Go.Proofs.Yteicfdgadloheaa.exp
set_option linter.unusedSimpArgs false
set_option linter.unusedVariables false
open Go.RowKit nam lex

def chP (f : List Tok → Out) : List (List Nat) → List Ex → List Tok → Out
  | [], xs, l => .ok (.mk 18 0 xs) l
  | wd :: ws, xs, l => if txt l = wd then (match f l.tail with | .bad l' => .bad l' | .ok x l' => chP f ws (xs ++ [x]) l') else .bad l
theorem chP_if {f : List Tok → Out} {l : List Tok} (h : txt l = wIf) : chP f [wIf, wThen, wElse] [] l = ifP f l := by
  unfold chP ifP
  rw [if_pos h]
  cases f l.tail with
  | bad l' => rfl
  | ok a l1 =>
    simp only [List.nil_append]
    unfold chP
    by_cases h1 : txt l1 = wThen
    · rw [if_pos h1, if_pos h1]
      cases f l1.tail with
      | bad l' => rfl
      | ok b l2 =>
        simp only []
        unfold chP
        by_cases h2 : txt l2 = wElse
        · rw [if_pos h2, if_pos h2]
          cases f l2.tail with
          | bad l' => rfl
          | ok c l3 => simp [chP]
        · rw [if_neg h2, if_neg h2]
    · rw [if_neg h1, if_neg h1]
def wds : List (List Nat) := [wIf, wThen, wElse]
def wdN (k : Nat) : List Nat := if k = 0 then wIf else if k = 1 then wThen else wElse
theorem wds_drop {k : Nat} (hk : k < 3) : wds.drop k = wdN k :: wds.drop (k + 1) := by
  rcases (show k = 0 ∨ k = 1 ∨ k = 2 by omega) with rfl | rfl | rfl <;> rfl
def wdB (k : Nat) : ByteArray := if k = 0 then ⟨#[105, 102]⟩ else if k = 1 then ⟨#[116, 104, 101, 110]⟩ else ⟨#[101, 108, 115, 101]⟩
theorem wds_ok {k : Nat} (hk : k < 3) : wdN k ≠ [] ∧ (∀ r ∈ wdN k, okR r) ∧ textOf (wdN k) = wdB k := by
  rcases (show k = 0 ∨ k = 1 ∨ k = 2 by omega) with rfl | rfl | rfl
  · exact ⟨by simp [wdN, wIf], by simp [wdN, wIf, okR], lit2 105 102 (by decide) (by decide)⟩
  · exact ⟨by simp [wdN, wThen], by simp [wdN, wThen, okR], lit4 116 104 101 110 (by decide) (by decide) (by decide) (by decide)⟩
  · exact ⟨by simp [wdN, wElse], by simp [wdN, wElse, okR], lit4 101 108 115 101 (by decide) (by decide) (by decide) (by decide)⟩
theorem chP_no {f : List Tok → Out} {k : Nat} (hk : k < 3) {xs : List Ex} {l : List Tok} (h : txt l ≠ wdN k) : chP f (wds.drop k) xs l = .bad l := by
  rw [wds_drop hk, chP, if_neg h]
theorem chP_yes {f : List Tok → Out} {k : Nat} (hk : k < 3) {xs : List Ex} {l : List Tok} (h : txt l = wdN k) : chP f (wds.drop k) xs l = (match f l.tail with | .bad l' => .bad l' | .ok x l' => chP f (wds.drop (k + 1)) (xs ++ [x]) l') := by
  rw [wds_drop hk, chP, if_pos h]

def Fc (w : World) (N0 N1 N2 b : Nat) : Prop := w.heap.size ≤ b ∧ b ≠ N0 ∧ b ≠ N1 ∧ b ≠ N2
/-- So many parts stand in the row. -/
structure Ch (S : Src) (f : List Tok → Out) (O : Out) (w : World) (L N0 N1 N2 k : Nat) (wr : World) (i : Nat) (xs : List Ex) : Prop where
  only : Only (Mine S) w wr
  box0 : Bx wr N0 0 0 none 0 0
  box1 : Bx wr N1 18 0 (some ⟨N2, 0, none⟩) 3 3
  row : ∃ (cur : Array Value) (V : Nat → Value), wr.heap[N2]? = some (.cells cur 24 (0, 0)) ∧ cur.size = 9 ∧ ∀ j (h : j < xs.length), cur[j * 3]? = some (.int .u8 (xs[j].op : Int)) ∧ cur[j * 3 + 1]? = some (.int .i64 xs[j].n) ∧ cur[j * 3 + 2]? = some (V j) ∧ Lies wr (Fc w N0 N1 N2) (V j) xs[j].args
  rs : Rs S wr i
  len : xs.length = k
  rest : chP f (wds.drop k) xs (S.at i) = O
  few : (S.at i).length ≤ L
  ord : w.heap.size = N0 ∧ N2 = N0 + 1 ∧ N1 = N0 + 2
theorem Ch.lt {S : Src} {f : List Tok → Out} {O : Out} {w : World} {L N0 N1 N2 k : Nat} {wr : World} {i : Nat} {xs : List Ex} (h : Ch S f O w L N0 N1 N2 k wr i xs) : N1 < wr.heap.size := h.box1.lt
theorem Ch.only' {S : Src} {f : List Tok → Out} {O : Out} {w : World} {L N0 N1 N2 k : Nat} {wr w1 : World} {i j : Nat} {xs : List Ex} (h : Ch S f O w L N0 N1 N2 k wr i xs) (ho : Only (Mine S) wr w1) :
    Only (Mine S) w w1 ∧ Bx w1 N0 0 0 none 0 0 ∧ Bx w1 N1 18 0 (some ⟨N2, 0, none⟩) 3 3 ∧ ∃ (cur : Array Value) (V : Nat → Value), w1.heap[N2]? = some (.cells cur 24 (0, 0)) ∧ cur.size = 9 ∧ ∀ j (h : j < xs.length), cur[j * 3]? = some (.int .u8 (xs[j].op : Int)) ∧ cur[j * 3 + 1]? = some (.int .i64 xs[j].n) ∧ cur[j * 3 + 2]? = some (V j) ∧ Lies w1 (fun b => Fc w N0 N1 N2 b ∧ b < wr.heap.size) (V j) xs[j].args := by
  obtain ⟨cur, V, h1, h2, h3⟩ := h.row
  have hrb : ∀ (k : Nat) (cc : Array Value), wr.heap[k]? = some (.cells cc 24 (0, 0)) → ¬ Mine S k := fun k cc hcc e => by
    have := h.rs.box; rw [show k = S.rb from e, this] at hcc; simp at hcc
  refine ⟨h.only.then ho, h.box0.only ho h.rs, h.box1.only ho h.rs, cur, V, (ho.block N2 (Array.getElem?_eq_some_iff.1 h1).1 (hrb _ _ h1)).trans h1, h2, fun j hj => ?_⟩
  obtain ⟨a1, a2, a3, a4⟩ := h3 j hj
  exact ⟨a1, a2, a3, a4.here.frame fun k cc hk hcc => ho.block k hk.2 (hrb _ _ hcc)⟩
def set3o (w : World) (b o : Nat) (A N : Int) (p : Option Addr) (n c : Nat) : World := ((w.setCell ⟨b, o, none⟩ (.int .u8 A)).setCell ⟨b, o + 1, none⟩ (.int .i64 N)).setCell ⟨b, o + 2, none⟩ (.slice p n c)
theorem set3o_other {w : World} {b o k n c : Nat} {A N : Int} {p : Option Addr} (hk : k ≠ b) : (set3o w b o A N p n c).heap[k]? = w.heap[k]? := by
  unfold set3o
  rw [Below.heap_setCell _ _ _ _ hk, Below.heap_setCell _ _ _ _ hk, Below.heap_setCell _ _ _ _ hk]
theorem set3o_same {w : World} {b o n c : Nat} {A N : Int} {p : Option Addr} {cur : Array Value} (h : w.heap[b]? = some (.cells cur 24 (0, 0))) :
    (set3o w b o A N p n c).heap[b]? = some (.cells (((cur.setIfInBounds o (.int .u8 A)).setIfInBounds (o + 1) (.int .i64 N)).setIfInBounds (o + 2) (.slice p n c)) 24 (0, 0)) := by
  have h1 := heap_setCell_same w b o _ 24 (.int .u8 A) h
  have h2 := heap_setCell_same _ b (o + 1) _ 24 (.int .i64 N) h1
  exact heap_setCell_same _ b (o + 2) _ 24 (.slice p n c) h2
theorem set3o_only {F : Nat → Prop} {w w' : World} {b o n c : Nat} {A N : Int} {p : Option Addr} (h : Only F w w') (hb : w.heap.size ≤ b) : Only F w (set3o w' b o A N p n c) := by
  refine ⟨h.os, h.tape, h.output, ?_, fun k hk hn => ?_⟩
  · have := h.size; simp [set3o]; exact this
  · rw [set3o_other (by omega)]; exact h.block k hk hn
/-- What a round leaves behind its store. -/
def ChEnd (S : Src) (f : List Tok → Out) (O : Out) (w : World) (L N0 N1 N2 k : Nat) (b : Bool) (wx : World) : Prop :=
  (b = true → ∃ i xs, Ch S f O w L N0 N1 N2 (k + 1) wx i xs) ∧ (b = false → ∃ i, Only (Mine S) w wx ∧ Bx wx N0 0 0 none 0 0 ∧ Rs S wx i ∧ O = .bad (S.at i))
theorem ChEnd.drew {S : Src} {f : List Tok → Out} {O : Out} {w : World} {L N0 N1 N2 k : Nat} {b : Bool} {wx : World} (h : ChEnd S f O w L N0 N1 N2 k b wx) : ChEnd S f O w L N0 N1 N2 k b wx.drew := by
  refine ⟨fun hb => ?_, fun hb => ?_⟩
  · obtain ⟨i, xs, h1⟩ := h.1 hb
    obtain ⟨cur, V, a1, a2, a3⟩ := h1.row
    exact ⟨i, xs, h1.only.drew, h1.box0, h1.box1, ⟨cur, V, a1, a2, fun j hj => ⟨(a3 j hj).1, (a3 j hj).2.1, (a3 j hj).2.2.1, (a3 j hj).2.2.2.under (Below.refl _ _).drew⟩⟩, h1.rs.drew, h1.len, h1.rest, h1.few, h1.ord⟩
  · obtain ⟨i, h1, h2, h3, h4⟩ := h.2 hb
    exact ⟨i, h1.drew, h2, h3.drew, h4⟩
theorem Ch.next {S : Src} {f : List Tok → Out} {O : Out} {w : World} {L N0 N1 N2 k : Nat} {wr w1 w6 : World} {i : Nat} {xs : List Ex} (h : Ch S f O w L N0 N1 N2 k wr i xs) (hk : k < 3) (ht : txt (S.at i) = wdN k) (ho1 : Only (Mine S) wr w1) (hr1 : Rs S w1 (i + 1))
    (hfl : ∀ l, Less l.length (f l)) {A M : Int} {p : Option Addr} {n c : Nat} {b : Bool} {i6 : Nat} (hr6 : Rs S w6 i6) (ho6 : Only (Mine S) w1 w6) (h6 : Tells S (From w1) (f (S.at (i + 1))) w6 A M p n c b i6) :
    w6.cell? ⟨N1, 2, none⟩ = some (.slice (some ⟨N2, 0, none⟩) 3 3) ∧ (∃ z0 z1 z2, w6.cell? ⟨N2, k * 3, none⟩ = some z0 ∧ w6.cell? ⟨N2, k * 3 + 1, none⟩ = some z1 ∧ w6.cell? ⟨N2, k * 3 + 2, none⟩ = some z2) ∧ (∀ j, w6.frozen? ⟨N2, j, none⟩ = false) ∧
      ChEnd S f O w L N0 N1 N2 k b (set3o w6 N2 (k * 3) A M p n c) := by
  obtain ⟨k1, k2, k3, cur, V, k4, k5, k6⟩ := h.only' (j := 0) (ho1.then ho6)
  obtain ⟨hn0, hn2, hn1⟩ := h.ord
  have hlt := h.lt
  have hs1 := ho1.size
  have hs6 := ho6.size
  refine ⟨k3.cells.2.2.1, ?_, fun j => by simp [World.frozen?, k4], ?_, ?_⟩
  · have e : ∀ j, j < 9 → ∃ z, cur[j]? = some z := fun j hj => ⟨cur[j]'(by omega), by simp [show j < cur.size by omega]⟩
    obtain ⟨z0, e0⟩ := e (k * 3) (by omega)
    obtain ⟨z1, e1⟩ := e (k * 3 + 1) (by omega)
    obtain ⟨z2, e2⟩ := e (k * 3 + 2) (by omega)
    exact ⟨z0, z1, z2, cell_of k4 e0, cell_of k4 e1, cell_of k4 e2⟩
  · intro hb
    cases hfo : f (S.at (i + 1)) with
    | bad l => rw [hfo] at h6; rw [h6.1] at hb; cases hb
    | ok x l =>
      rw [hfo] at h6
      obtain ⟨t0, t1, t2, t3, t4, t5⟩ := h6
      have hless := hfl (S.at (i + 1))
      rw [hfo] at hless
      simp only [Less] at hless
      subst t1; subst t2; subst t3
      have hxl := h.len
      refine ⟨i6, xs ++ [x], set3o_only k1 (by omega), (set3o_other (by omega)).trans k2, (set3o_other (by omega)).trans k3, ⟨_, fun j => if j = k then .slice p x.args.length c else V j, set3o_same k4, by simp [k5], fun j hj => ?_⟩, ?_, by simp [hxl], ?_, ?_, h.ord⟩
      · rw [List.length_append, List.length_singleton] at hj
        by_cases hjk : j < k
        · have hjl : j < xs.length := by omega
          obtain ⟨b1, b2, b3, b4⟩ := k6 j hjl
          have hV : (fun j => if j = k then Value.slice p x.args.length c else V j) j = V j := if_neg (by omega)
          rw [List.getElem_append_left hjl, hV]
          refine ⟨?_, ?_, ?_, (b4.frame fun q cc hq hcc => set3o_other hq.1.2.2.2).mono fun q hq => hq.1⟩
          · rw [Array.getElem?_setIfInBounds_ne (by omega), Array.getElem?_setIfInBounds_ne (by omega), Array.getElem?_setIfInBounds_ne (by omega)]; exact b1
          · rw [Array.getElem?_setIfInBounds_ne (by omega), Array.getElem?_setIfInBounds_ne (by omega), Array.getElem?_setIfInBounds_ne (by omega)]; exact b2
          · rw [Array.getElem?_setIfInBounds_ne (by omega), Array.getElem?_setIfInBounds_ne (by omega), Array.getElem?_setIfInBounds_ne (by omega)]; exact b3
        · obtain rfl : j = k := by omega
          have hx : (xs ++ [x])[j]'(by simp; omega) = x := by rw [List.getElem_append_right (by omega)]; simp
          have hV : (fun q => if q = j then Value.slice p x.args.length c else V q) j = Value.slice p x.args.length c := if_pos rfl
          rw [hx, hV]
          refine ⟨?_, ?_, ?_, (t4.here.frame fun q cc hq hcc => set3o_other (fun e => ?_)).mono fun q hq => ?_⟩
          · rw [Array.getElem?_setIfInBounds_ne (by omega), Array.getElem?_setIfInBounds_ne (by omega), Array.getElem?_setIfInBounds_self_of_lt (by omega)]
          · rw [Array.getElem?_setIfInBounds_ne (by omega), Array.getElem?_setIfInBounds_self_of_lt (by simp; omega)]
          · rw [Array.getElem?_setIfInBounds_self_of_lt (by simp; omega)]
          · have : w1.heap.size ≤ q := hq.1
            omega
          · have : w1.heap.size ≤ q := hq.1
            exact ⟨by omega, by omega, by omega, by omega⟩
      · refine ⟨?_, (set3o_other (fun e => ?_)).trans hr6.box, hr6.le, hr6.few, hr6.ok⟩
        · rcases hr6.row with ⟨h2, h3 | ⟨g, cap, cu, h4, h5, h6, h7⟩⟩
          · exact ⟨h2, .inl h3⟩
          · refine ⟨h2, .inr ⟨g, cap, cu, h4, h5, (set3o_other fun e => ?_).trans h6, h7⟩⟩
            rw [e, k4] at h6
            simp at h6
        · have := hr6.box
          rw [e, k4] at this
          simp at this
      · rw [← h.rest, chP_yes hk ht, at_tail, hfo, t5]
      · rw [t5]
        have := h.few
        have e := at_len S i
        have e1 := at_len S (i + 1)
        omega
  · intro hb
    cases hfo : f (S.at (i + 1)) with
    | ok x l => rw [hfo] at h6; rw [h6.1] at hb; cases hb
    | bad l =>
      rw [hfo] at h6
      refine ⟨i6, set3o_only k1 (by omega), (set3o_other (by omega)).trans k2, ?_, by rw [← h.rest, chP_yes hk ht, at_tail, hfo, h6.2]⟩
      refine ⟨?_, (set3o_other (fun e => ?_)).trans hr6.box, hr6.le, hr6.few, hr6.ok⟩
      · rcases hr6.row with ⟨h2, h3 | ⟨g, cap, cu, h4, h5, h6, h7⟩⟩
        · exact ⟨h2, .inl h3⟩
        · refine ⟨h2, .inr ⟨g, cap, cu, h4, h5, (set3o_other fun e => ?_).trans h6, h7⟩⟩
          rw [e, k4] at h6
          simp at h6
      · have := hr6.box
        rw [e, k4] at this
        simp at this
end Go.Proofs.Yteicfdgadloheaa.exp
